/- The statement CellBack holds: for every list of bytes, place, size and number the law returns true, and its arguments read afterwards as before. No condition. -/
import Derived.Test.YtgbjjogfmlkmeaaFrame
import Derived.Test.YtgbjjogfmlkmeaaRows
import Derived.WalkKit
import Derived.ProofKit
import Derived.OpenShut
import Derived.ShutString
import Derived.ChangeOld
import Derived.Below
namespace Go.Proofs.Ytgbjjogfmlkmeaa.cellBack
open Go.ChangeShapes Go.WideShapes Go.ChangeAt Go.RowKit
open Go.ChangeMaps (open_string shut_string)
set_option linter.unusedVariables false

theorem own : ownKnob Try.prog.godebug = none := by kernel_rfl
theorem laidOut : laidOutB Try.prog = true := by kernel_rfl

theorem mask_lit (n : Int) (h0 : 0 ≤ n) (h1 : n ≤ 18446744073709551615) (i : Nat) (hi : i ≤ 56) : bits .and .u64 n (IntKind.u64.wrap (IntKind.u64.wrap (2 ^ i) - 1)) = n % 2 ^ i := by
  have hw : ∀ n : Int, 0 ≤ n → n < 2 ^ 64 → IntKind.u64.wrap n = n := by intro n a b; rw [IntKind.wrap_u64]; omega
  have hp : (0 : Int) < 2 ^ i := Int.pow_pos (by decide)
  have hq : (2 : Int) ^ i ≤ 2 ^ 56 := by
    obtain ⟨d, hd⟩ : ∃ d, 56 = i + d := ⟨56 - i, by omega⟩
    have hd0 : (0 : Int) < 2 ^ d := Int.pow_pos (by decide)
    rw [hd, Int.pow_add]
    have : (2 : Int) ^ i * 1 ≤ 2 ^ i * 2 ^ d := Int.mul_le_mul_of_nonneg_left (by omega) (by omega)
    omega
  have h56 : (2 : Int) ^ 56 = 72057594037927936 := by decide
  rw [hw (2 ^ i) (by omega) (by omega), hw (2 ^ i - 1) (by omega) (by omega)]
  exact bits_mask .u64 64 (by decide) hw i (by omega) n h0 (by omega)
theorem mask_any (n s : Int) (h0 : 0 ≤ n) (h1 : n ≤ 18446744073709551615) (hs : 1 ≤ s) (hs' : s < 8) : bits .and .u64 n (IntKind.u64.wrap (IntKind.u64.wrap (2 ^ (8 * s).toNat) - 1)) = n % 256 ^ s.toNat := by
  rw [mask_lit n h0 h1 _ (by omega), show (8 * s).toNat = 8 * s.toNat by omega, Int.pow_mul]
  rfl
theorem mod_all (n : Int) (h0 : 0 ≤ n) (h1 : n ≤ 18446744073709551615) : n % 256 ^ 8 = n := by
  have e : (256 : Int) ^ 8 = 18446744073709551616 := by decide
  rw [e]; omega

set_option maxHeartbeats 4000000 in
theorem walk (a0 : Option Addr) (len0 cap0 : Nat) (z0 : List Int) (a1 : Int) (a2 : Int) (a3 : Int) (w : World) (w0 : IsRow .u8 w a0 len0 cap0 z0) (w1 : (Lit.int .i64 a1).wf = true) (w2 : (Lit.int .i64 a2).wf = true) (w3 : (Lit.int .u64 a3).wf = true) :
    Calls Try.prog 4 #[.slice a0 len0 cap0, .int .i64 a1, .int .i64 a2, .int .u64 a3] w fun e w' => e = .returned (.bool true) ∧ Below w.heap.size w w' := by
  by_cases hl : 8 ≤ len0 ∧ len0 ≤ 40
  · obtain ⟨hl1, hl2⟩ := hl
    obtain ⟨xs, rfl, hrow, _⟩ := w0.part (by omega)
    have HR := hide hrow
    have HY := hide hrow.2.1
    obtain ⟨p3, p4⟩ := wf_u64 w3
    have hd1 : decide ((xs.length : Int) < 8) = false := by simp; omega
    have hd2 : decide ((40 : Int) < (xs.length : Int)) = false := by simp; omega
    clear hrow w0 w1 w2 w3
    go_enter Try.func4, Try.ntmps4
    go_wp2_with fail
    refine (first_any _).mono ?_
    rintro e w1 ⟨rfl, hb⟩
    have HS := hide ((St.refl HR.out).step hb)
    clear hb
    go_wp2_with fail
    refine (number_any _ _ _ (by omega) (by omega)).mono ?_
    rintro e w' ⟨rfl, rfl⟩
    have hn1 := numberB_bd a2 8 (by omega)
    obtain ⟨s, hs⟩ : ∃ s, s = numberB a2 8 + 1 := ⟨_, rfl⟩
    rw [show numberB a2 8 = s - 1 by omega] at hn1 ⊢
    have hs1 : 1 ≤ s := by omega
    have hs2 : s ≤ 8 := by omega
    clear hn1 hs
    go_wp2_with fail
    refine (number_any _ _ _ (by omega) (by omega)).mono ?_
    rintro e w' ⟨rfl, rfl⟩
    have hn2 := numberB_bd a1 (xs.length - s + 1) (by omega)
    obtain ⟨a, ha⟩ : ∃ a, a = numberB a1 (xs.length - s + 1) := ⟨_, rfl⟩
    rw [← ha] at hn2 ⊢
    clear ha
    obtain ⟨q1, q2⟩ := hn2
    go_wp2_with fail
    refine (bytes_any _ _ xs _ HS.out.1).mono ?_
    rintro e w2 ⟨rfl, hown, hbel⟩
    have HW2 := hide hown.row
    have HS2 := hide (HS.out.step hbel)
    clear hown hbel
    go_wp2_with fail
    refine (put_any _ _ xs _ _ _ _ HS2.out.1 (by omega) (by omega) (by omega) (by omega)).mono ?_
    rintro e w3 ⟨rfl, hown, hbel⟩
    rw [show widthB s = s by unfold widthB; omega] at hown
    have HX := hide hown.row
    have HW3 := hide (HW2.out.below hbel (Nat.le_refl _))
    have HS3 := hide (HS2.out.step hbel)
    clear hown hbel
    go_wp2_with fail
    refine (same_any _ _ xs _ _ xs _ HS3.out.1 HW3.out).mono ?_
    rintro e w4 ⟨rfl, nq, rfl⟩
    rw [sameB_true rfl]
    go_wp2_with fail
    obtain ⟨g, hg⟩ : ∃ g, g = w2.heap.size := ⟨_, rfl⟩
    rw [← hg] at HX ⊢
    clear hg
    obtain ⟨X, hX⟩ : ∃ X, X = putB xs a a3 s.toNat := ⟨_, rfl⟩
    have HXE := hide hX
    rw [← hX] at HX
    have hXl : X.length = xs.length := by rw [hX, length_putB]
    have HXl := hide hXl
    clear hX hXl
    go_loopw [12] (fun i wr => ∃ k : Nat, k ≤ xs.length ∧ i = .int .i64 k ∧ St w wr a0 xs ∧ Row wr (some ⟨g, 0, none⟩) X) (fun i _ => xs.length - (intOf i).toNat)
    case atStart => exact ⟨0, by omega, rfl, HS3.out.drewN nq, HX.out.drewN nq⟩
    case round =>
      clear HX HS3 HW3 HW2 HS2
      obtain ⟨k, hk, rfl, hS, hX⟩ := hrel
      have HS := hide hS
      have HX := hide hX
      by_cases hlt : k < xs.length
      · obtain ⟨b, off, rfl, hb, hc⟩ := hS.1.2.2 (by omega)
        obtain ⟨b', off', e', hb', hc'⟩ := hX.2.2 (by rw [HXl.out]; omega)
        cases e'
        have hcp := hc k hlt
        have hcp' := hc' k (by rw [HXl.out]; omega)
        clear hS hX hc hc'
        by_cases hin : a ≤ (k : Int) ∧ (k : Int) < a + s
        · obtain ⟨hin1, hin2⟩ := hin
          have hg1 : decide ((k : Int) < a) = false := by simp; omega
          have hg2 : decide (a + s ≤ (k : Int)) = false := by simp; omega
          clear hcp hcp'
          go_wp2_with fail
          go_quiet (fail)
          go_wp2_with fail
          go_roundw
          case rel => exact ⟨k + 1, by omega, by go_num, HS.out.drewN _, HX.out.drewN _⟩
          case measure => simp [intOf]; omega
        · rw [HXE.out, getD_putB _ _ _ _ _ (by omega), Nat.zero_add] at hcp'
          obtain ⟨y, hy⟩ : ∃ y, y = xs.getD k 0 := ⟨_, rfl⟩
          rw [← hy] at hcp hcp'
          clear hy
          have hki : (k : Int) < (xs.length : Int) := by omega
          by_cases hlo : (k : Int) < a
          · clear hin
            go_wp2_with fail
            go_quiet (fail)
            go_wp2_with fail
            go_roundw
            case rel => exact ⟨k + 1, by omega, by go_num, HS.out.drewN _, HX.out.drewN _⟩
            case measure => simp [intOf]; omega
          · have hg1 : decide ((k : Int) < a) = false := by simp; omega
            have hg2 : a + s ≤ (k : Int) := by omega
            clear hin
            go_wp2_with fail
            go_quiet (fail)
            go_wp2_with fail
            go_roundw
            case rel => exact ⟨k + 1, by omega, by go_num, HS.out.drewN _, HX.out.drewN _⟩
            case measure => simp [intOf]; omega
      · clear hS hX
        have hws : widthB s = s := by unfold widthB; omega
        have HWS := hide hws
        have hgx : getB X a (widthB s).toNat = a3 % 256 ^ s.toNat := by rw [hws, HXE.out]; exact get_put_same _ _ _ _ q1 (by omega)
        have HGX := hide hgx
        have HGB := hide (getB_bd xs HY.out a s.toNat (by omega))
        have HPB : Hid (putB X a (getB xs a s.toNat) s.toNat = xs) := by
          show putB X a (getB xs a s.toNat) s.toNat = xs
          rw [HXE.out]
          exact put_back xs HY.out a a3 s.toNat
        clear hws hgx
        by_cases hs8 : s < 8
        · have hm := mask_any a3 s p3 p4 hs1 hs8
          go_wp2_with fail
          refine (get_len _ _ _ X _ _ _ HX.out HXl.out (by omega) (by omega)).mono ?_
          rintro e w5 ⟨rfl, rfl⟩
          rw [HGX.out]
          go_wp2_with fail
          refine (get_any _ _ xs _ _ _ HS.out.1 (by omega) (by omega)).mono ?_
          rintro e w5 ⟨rfl, rfl⟩
          rw [HWS.out]
          go_wp2_with fail
          refine (put_len _ _ _ X _ _ _ _ HX.out HXl.out (by omega) (by omega) HGB.out.1 HGB.out.2).mono ?_
          rintro e w6 ⟨rfl, hown, hbel⟩
          rw [HWS.out, HPB.out] at hown
          have HO := hide hown.row
          have HS6 := hide (HS.out.step hbel)
          clear hown hbel
          go_wp2_with fail
          refine (same_any _ _ xs _ _ xs _ HO.out HS6.out.1).mono ?_
          rintro e w7 ⟨rfl, nq2, rfl⟩
          rw [sameB_true rfl]
          go_wp2_with fail
          go_ret
          exact ⟨rfl, below_drewN HS6.out.2 _⟩
        · have hse : s = 8 := by omega
          subst hse
          have hma := mod_all a3 p3 p4
          have HMA : Hid (a3 % 256 ^ (8 : Int).toNat = a3) := hma
          clear hma
          go_wp2_with fail
          refine (get_len _ _ _ X _ _ _ HX.out HXl.out (by omega) (by omega)).mono ?_
          rintro e w5 ⟨rfl, rfl⟩
          rw [HGX.out, HMA.out]
          go_wp2_with fail
          refine (get_any _ _ xs _ _ _ HS.out.1 (by omega) (by omega)).mono ?_
          rintro e w5 ⟨rfl, rfl⟩
          rw [HWS.out]
          go_wp2_with fail
          refine (put_len _ _ _ X _ _ _ _ HX.out HXl.out (by omega) (by omega) HGB.out.1 HGB.out.2).mono ?_
          rintro e w6 ⟨rfl, hown, hbel⟩
          rw [HWS.out, HPB.out] at hown
          have HO := hide hown.row
          have HS6 := hide (HS.out.step hbel)
          clear hown hbel
          go_wp2_with fail
          refine (same_any _ _ xs _ _ xs _ HO.out HS6.out.1).mono ?_
          rintro e w7 ⟨rfl, nq2, rfl⟩
          rw [sameB_true rfl]
          go_wp2_with fail
          go_ret
          exact ⟨rfl, below_drewN HS6.out.2 _⟩
  · have hd1 : decide ((len0 : Int) < 8) = true ∨ decide ((len0 : Int) < 8) = false ∧ decide ((40 : Int) < (len0 : Int)) = true := by simp; omega
    clear w0 w1 w2 w3
    rcases hd1 with hd1 | ⟨hd1, hd2⟩
    all_goals
      go_enter Try.func4, Try.ntmps4
      go_wp2_with fail
      refine (first_any _).mono ?_
      rintro e w1 ⟨rfl, hb⟩
      have HB := hide hb
      clear hb
      go_wp2_with fail
      go_ret
      exact ⟨rfl, HB.out⟩

set_option maxRecDepth 100000 in
theorem lifted (os : Os) (started : os.Started) (H : Type) (enc : TypeId × Value → H) :
    ReturnsInHanded {} Try.checked os 4 .any (Rows.cellBackSpec.pre6 enc Try.prog Try.f4 Rows.cellBackRow.domain false) (Rows.cellBackSpec.post enc Try.prog Try.f4 false true false false) := by
  refine returnsInHanded_of_change (C := Try.checked) own started (by kernel_rfl) Try.func4
    (ChangeSpec.witness6 (enc := enc) (C := Try.checked) false ⟨#[], #[.slice none 0 0, .int .i64 0, .int .i64 0, .int .u64 0], []⟩ 8 (by kernel_rfl) (by kernel_rfl) (by kernel_rfl) (by kernel_rfl)) ?_
  intro W base args ds gs before hval0 hW hcnd _
  have hval : ∀ (j : Nat) t v, Try.f4.params[j]? = some t → args[j]? = some v → Value.okWide Try.prog W .any base t v := hval0
  have hW' := hW
  obtain ⟨p, q, hA0, hV, rfl, hfz, hnd⟩ := hW
  have hA : DataW.TrodAll enc Try.prog W 0 (fun _ => true) true Try.f4.params.toList args.toList ds p := hA0
  rw [Try.params4] at hA hval
  obtain ⟨v0, vs0, d0, ds0, p0, q0, hargs, rfl, rfl, h0, r0⟩ := trodAll_cons hA
  obtain ⟨v1, vs1, d1, ds1, p1, q1, rfl, rfl, rfl, h1, r1⟩ := trodAll_cons r0
  obtain ⟨v2, vs2, d2, ds2, p2, q2, rfl, rfl, rfl, h2, r2⟩ := trodAll_cons r1
  obtain ⟨v3, vs3, d3, ds3, p3, q3, rfl, rfl, rfl, h3, r3⟩ := trodAll_cons r2
  obtain ⟨rfl, rfl, rfl⟩ := trodAll_nil r3
  obtain rfl : args = #[v0, v1, v2, v3] := by cases args; simp_all
  obtain ⟨rfl, rfl⟩ := trodVars_none hV
  obtain ⟨a0, len0, cap0, rfl⟩ := okWide_slice Try.underlying22 (hval 0 22 v0 rfl rfl)
  have k0 := h0
  have lt0 : ∀ x ∈ p0, x.block < W.heap.size := by obtain ⟨m, hm⟩ := k0; exact DataW.trod_lt m _ _ _ hm
  obtain ⟨z0, w0⟩ : ∃ zs, IsRow .u8 W a0 len0 cap0 zs := by
    obtain ⟨fuel, hf⟩ := h0
    rcases open_ints Try.underlying22 Try.underlying5 (by kernel_rfl) hf with ⟨hcs, _⟩ | ⟨x, l, c, zs, hcs, _, hl, hm, hz, _, hcell, hwz⟩
    · simp [Value.cells] at hcs
      obtain ⟨rfl, rfl, rfl⟩ := hcs
      exact ⟨[], .inl ⟨rfl, rfl, rfl, rfl⟩⟩
    · simp [Value.cells] at hcs
      obtain ⟨rfl, rfl, rfl⟩ := hcs
      exact ⟨zs, .inr ⟨_, rfl, hl, hm, by simpa using hz, hcell, hwz⟩⟩
  obtain ⟨a1, rfl, rfl, rfl, w1⟩ := open_int Try.underlying3 (hval 1 3 v1 rfl rfl) h1
  obtain ⟨a2, rfl, rfl, rfl, w2⟩ := open_int Try.underlying3 (hval 2 3 v2 rfl rfl) h2
  obtain ⟨a3, rfl, rfl, rfl, w3⟩ := open_int Try.underlying23 (hval 3 23 v3 rfl rfl) h3
  clear hA0 hval0
  refine (walk a0 len0 cap0 z0 a1 a2 a3 W w0 w1 w2 w3).mono fun e W' ⟨he, bel⟩ => ?_
  subst he
  exact ⟨_, rfl, _, _, _, [], _, [], hW', trodAll_mk1 (shut_bool Try.underlying4 _), (trodAll_cons_mk (Below.trod laidOut (by kernel_rfl) (of_decide_eq_true (by kernel_rfl)) k0 bel lt0) (trodAll_cons_mk (shut_int Try.underlying3 w1) (trodAll_cons_mk (shut_int Try.underlying3 w2) (trodAll_cons_mk (shut_int Try.underlying23 w3) trodAll_mk0)))), rfl, bel.frame _, fun h => by cases h⟩

theorem over : Rows.cellBackRow.holds Try.pinned (OpenSpec.ofChange Rows.cellBackSpec) :=
  OpenClaim.holds_of_wide 4 Try.f4 rfl rfl rfl rfl rfl rfl rfl ⟨rfl, rfl, rfl, rfl, rfl⟩ rfl rfl rfl rfl rfl (by kernel_rfl) Try.func4 (by kernel_rfl)
    (of_decide_eq_true (by kernel_rfl)) (by unfold Func.isWrapper; first | (rw [if_pos (by decide +kernel)]; kernel_rfl) | (rw [if_neg (by decide +kernel)]; exact ⟨rfl, rfl⟩))
    (fun os started H enc _ => lifted os started H enc)

/-- The given statement. -/
theorem proved : Rows.CellBackSaid := over
#print axioms proved
end Go.Proofs.Ytgbjjogfmlkmeaa.cellBack
namespace Go.Proofs.Ytgbjjogfmlkmeaa
theorem cellBack_holds : Rows.CellBackSaid := cellBack.proved
end Go.Proofs.Ytgbjjogfmlkmeaa
