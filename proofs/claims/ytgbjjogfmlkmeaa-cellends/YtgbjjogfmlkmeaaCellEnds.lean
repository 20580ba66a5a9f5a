/- The statement CellEnds holds: for every list of bytes, place and number the law returns true, and its arguments read afterwards as before. No condition. -/
import Derived.Test.YtgbjjogfmlkmeaaFrame
import Derived.Test.YtgbjjogfmlkmeaaRows
import Derived.WalkKit
import Derived.ProofKit
import Derived.OpenShut
import Derived.ShutString
import Derived.ChangeOld
import Derived.Below
namespace Go.Proofs.Ytgbjjogfmlkmeaa.cellEnds
open Go.ChangeShapes Go.WideShapes Go.ChangeAt Go.RowKit
open Go.ChangeMaps (open_string shut_string)
set_option linter.unusedVariables false

theorem own : ownKnob Try.prog.godebug = none := by kernel_rfl
theorem laidOut : laidOutB Try.prog = true := by kernel_rfl

theorem num_zeros (k : Nat) : num (fun _ => 0) k = 0 := by
  induction k with
  | zero => rfl
  | succ k ih => rw [num, ih]; rfl
theorem num_zero {f : Int → Int} (k : Nat) (h : ∀ j : Int, 0 ≤ j → j < k → f j = 0) : num f k = 0 := by
  rw [num_congr k (g := fun _ => 0) h, num_zeros]
theorem get_far {xs : List Int} {a : Int} {k : Nat} (h : (xs.length : Int) ≤ a ∨ a + k ≤ 0) : getB xs a k = 0 := by
  refine num_zero k fun j h0 h1 => ?_
  show byteAt xs (a + j) = 0
  unfold byteAt
  rw [if_neg (by omega)]
theorem put_far {xs : List Int} {a n : Int} (h : (xs.length : Int) ≤ a) (k : Nat) : putB xs a n k = xs := by
  induction k with
  | zero => rfl
  | succ k ih => rw [putB, ih, put1, if_neg (by omega)]

set_option maxHeartbeats 2000000 in
theorem walk (a0 : Option Addr) (len0 cap0 : Nat) (z0 : List Int) (a1 : Int) (a2 : Int) (w : World) (w0 : IsRow .u8 w a0 len0 cap0 z0) (w1 : (Lit.int .i64 a1).wf = true) (w2 : (Lit.int .u64 a2).wf = true) :
    Calls Try.prog 5 #[.slice a0 len0 cap0, .int .i64 a1, .int .u64 a2] w fun e w' => e = .returned (.bool true) ∧ Below w.heap.size w w' := by
  by_cases hl : len0 ≤ 30
  · obtain ⟨xs, rfl, hrow, _⟩ := w0.part (by omega)
    have HR := hide hrow
    obtain ⟨i0, hi, hz0, hz1, hz2⟩ := info_parts Try.info5
    obtain ⟨p1, p2⟩ := wf_i64 w1
    obtain ⟨p3, p4⟩ := wf_u64 w2
    have hd : decide ((30 : Int) < (xs.length : Int)) = false := by simp; omega
    clear hrow w0 w1 w2
    go_enter Try.func5, Try.ntmps5
    go_wp2_with fail
    refine (first_any _).mono ?_
    rintro e w1 ⟨rfl, hb⟩
    have HS := hide ((St.refl HR.out).step hb)
    clear hb
    go_wp2_with fail
    refine (number_any _ _ _ (by omega) (by omega)).mono ?_
    rintro e w' ⟨rfl, rfl⟩
    have hn1 := numberB_bd a1 1000 (by omega)
    obtain ⟨m, hm⟩ : ∃ m, m = numberB a1 1000 := ⟨_, rfl⟩
    rw [← hm] at hn1 ⊢
    clear hm
    go_wp2_with fail
    refine (number_any _ _ _ (by omega) (by omega)).mono ?_
    rintro e w' ⟨rfl, rfl⟩
    have hn2 := numberB_bd a1 20 (by omega)
    obtain ⟨z, hz⟩ : ∃ z : Nat, (z : Int) = numberB a1 20 := ⟨(numberB a1 20).toNat, by omega⟩
    rw [← hz] at hn2 ⊢
    clear hz
    have hg1 : getB xs (xs.length + m) (widthB 8).toNat = 0 := get_far (.inl (by omega))
    have hg2 : getB xs (-(xs.length + m) - 8) (widthB 8).toNat = 0 := get_far (.inr (by simp [widthB]; omega))
    have hp1 : putB xs (xs.length + m) a2 (widthB 8).toNat = xs := put_far (by omega) _
    have G1 := hide hg1
    have G2 := hide hg2
    have P1 := hide hp1
    clear hg1 hg2 hp1
    go_wp2_with (at_make; refine wpList_make_full _ rfl (.tmp 23) (.tmp 23) 22 rfl w'.heap.size 5 i0 (.int .u8 0) 1 Try.underlying22 hi hz0 hz1 .i64 .i64 z z z rfl rfl rfl rfl (by rw [hz2]; omega) (by unfold maxLen; omega) (Nat.le_refl _) ?_; intro w3 hown hgr; have HZ := hide (own_made hown (by omega)); have HS2 := hide (HS.out.step ((Below.refl _ _).grown hgr (Nat.le_refl _) (by simp))); clear hown hgr)
    refine (get_any _ _ xs _ _ _ HS2.out.1 (by omega) (by omega)).mono ?_
    rintro e w' ⟨rfl, rfl⟩
    rw [G1.out]
    go_wp2_with fail
    refine (get_any _ _ xs _ _ _ HS2.out.1 (by omega) (by omega)).mono ?_
    rintro e w' ⟨rfl, rfl⟩
    rw [G2.out]
    go_wp2_with fail
    refine (put_any _ _ xs _ _ _ _ HS2.out.1 (by omega) (by omega) (by omega) (by omega)).mono ?_
    rintro e w4 ⟨rfl, hown, hbel⟩
    rw [P1.out] at hown
    have HP := hide hown
    have HS4 := hide (HS2.out.step hbel)
    have HZ4 := hide (HZ.out.row.below hbel (Nat.le_refl _))
    clear hown hbel
    go_wp2_with fail
    refine (same_any _ _ xs _ _ xs _ HP.out.row HS4.out.1).mono ?_
    rintro e w5 ⟨rfl, nq, rfl⟩
    rw [sameB_true rfl]
    go_wp2_with fail
    refine (get_any _ _ xs _ _ _ (HS4.out.1.drewN nq) (by omega) (by omega)).mono ?_
    rintro e w5 ⟨rfl, rfl⟩
    rw [show widthB 0 = 1 from rfl]
    go_wp2_with fail
    refine (get_any _ _ xs _ _ _ (HS4.out.1.drewN nq) (by omega) (by omega)).mono ?_
    rintro e w5 ⟨rfl, rfl⟩
    rw [show widthB 1 = 1 from rfl]
    go_wp2_with fail
    refine (get_any _ _ xs _ _ _ (HS4.out.1.drewN nq) (by omega) (by omega)).mono ?_
    rintro e w5 ⟨rfl, rfl⟩
    rw [show widthB 99 = 8 from rfl]
    go_wp2_with fail
    refine (get_any _ _ xs _ _ _ (HS4.out.1.drewN nq) (by omega) (by omega)).mono ?_
    rintro e w5 ⟨rfl, rfl⟩
    rw [show widthB 8 = 8 from rfl]
    go_wp2_with fail
    refine (zero_len _ _ _ (List.replicate z 0) _ (HZ4.out.drewN nq) List.length_replicate).mono ?_
    rintro e w5 ⟨rfl, rfl⟩
    rw [zero_rep]
    go_wp2_with fail
    refine (join_any none 0 [] _ (rows2_nil _) (by simp [joinB])).mono ?_
    rintro e w6 ⟨ao, c, rfl, hown, hbel⟩
    have HS6 := hide ((HS4.out.drewN nq).step hbel)
    clear hown hbel
    rw [show (joinB []).length = 0 from rfl]
    go_wp2_with fail
    refine (fill_any _ _ xs _ _ HS6.out.1 (by omega)).mono ?_
    rintro e w7 ⟨rfl, hown, hbel⟩
    have HS7 := hide (HS6.out.step hbel)
    clear hown hbel
    rw [show (fillB xs (-1)).length = xs.length by rw [length_fillB]; simp]
    go_wp2_with fail
    go_ret
    exact ⟨rfl, HS7.out.2⟩
  · have hd : decide ((30 : Int) < (len0 : Int)) = true := by simp; omega
    clear w0 w1 w2
    go_enter Try.func5, Try.ntmps5
    go_wp2_with fail
    refine (first_any _).mono ?_
    rintro e w1 ⟨rfl, hb⟩
    have HB := hide hb
    clear hb
    go_wp2_with fail
    go_ret
    exact ⟨rfl, HB.out⟩

set_option maxRecDepth 100000 in
theorem lifted (os : Os) (started : os.Started) (H : Type) (enc : TypeId × Value → H) :
    ReturnsInHanded {} Try.checked os 5 .any (Rows.cellEndsSpec.pre6 enc Try.prog Try.f5 Rows.cellEndsRow.domain false) (Rows.cellEndsSpec.post enc Try.prog Try.f5 false true false false) := by
  refine returnsInHanded_of_change (C := Try.checked) own started (by kernel_rfl) Try.func5
    (ChangeSpec.witness6 (enc := enc) (C := Try.checked) false ⟨#[], #[.slice none 0 0, .int .i64 0, .int .u64 0], []⟩ 8 (by kernel_rfl) (by kernel_rfl) (by kernel_rfl) (by kernel_rfl)) ?_
  intro W base args ds gs before hval0 hW hcnd _
  have hval : ∀ (j : Nat) t v, Try.f5.params[j]? = some t → args[j]? = some v → Value.okWide Try.prog W .any base t v := hval0
  have hW' := hW
  obtain ⟨p, q, hA0, hV, rfl, hfz, hnd⟩ := hW
  have hA : DataW.TrodAll enc Try.prog W 0 (fun _ => true) true Try.f5.params.toList args.toList ds p := hA0
  rw [Try.params5] at hA hval
  obtain ⟨v0, vs0, d0, ds0, p0, q0, hargs, rfl, rfl, h0, r0⟩ := trodAll_cons hA
  obtain ⟨v1, vs1, d1, ds1, p1, q1, rfl, rfl, rfl, h1, r1⟩ := trodAll_cons r0
  obtain ⟨v2, vs2, d2, ds2, p2, q2, rfl, rfl, rfl, h2, r2⟩ := trodAll_cons r1
  obtain ⟨rfl, rfl, rfl⟩ := trodAll_nil r2
  obtain rfl : args = #[v0, v1, v2] := by cases args; simp_all
  obtain ⟨rfl, rfl⟩ := trodVars_none hV
  obtain ⟨a0, len0, cap0, rfl⟩ := okWide_slice Try.underlying22 (hval 0 22 v0 rfl rfl)
  have k0 := h0
  have lt0 : ∀ x ∈ p0, x.block < W.heap.size := by obtain ⟨m, hm⟩ := k0; exact DataW.trod_lt m _ _ _ hm
  obtain ⟨z0, w0⟩ : ∃ zs, IsRow .u8 W a0 len0 cap0 zs := by
    obtain ⟨fuel, hf⟩ := h0
    rcases open_ints Try.underlying22 Try.underlying5 (by kernel_rfl) hf with ⟨hcs, _⟩ | ⟨x, l, c, zs, hcs, _, hl, hm, hz, _, hcell, hwz⟩
    · simp [Value.cells] at hcs
      obtain ⟨rfl, rfl, rfl⟩ := hcs
      exact ⟨[], .inl ⟨rfl, rfl, rfl, rfl⟩⟩
    · simp [Value.cells] at hcs
      obtain ⟨rfl, rfl, rfl⟩ := hcs
      exact ⟨zs, .inr ⟨_, rfl, hl, hm, by simpa using hz, hcell, hwz⟩⟩
  obtain ⟨a1, rfl, rfl, rfl, w1⟩ := open_int Try.underlying3 (hval 1 3 v1 rfl rfl) h1
  obtain ⟨a2, rfl, rfl, rfl, w2⟩ := open_int Try.underlying23 (hval 2 23 v2 rfl rfl) h2
  clear hA0 hval0
  refine (walk a0 len0 cap0 z0 a1 a2 W w0 w1 w2).mono fun e W' ⟨he, bel⟩ => ?_
  subst he
  exact ⟨_, rfl, _, _, _, [], _, [], hW', trodAll_mk1 (shut_bool Try.underlying4 _), (trodAll_cons_mk (Below.trod laidOut (by kernel_rfl) (of_decide_eq_true (by kernel_rfl)) k0 bel lt0) (trodAll_cons_mk (shut_int Try.underlying3 w1) (trodAll_cons_mk (shut_int Try.underlying23 w2) trodAll_mk0))), rfl, bel.frame _, fun h => by cases h⟩

theorem over : Rows.cellEndsRow.holds Try.pinned (OpenSpec.ofChange Rows.cellEndsSpec) :=
  OpenClaim.holds_of_wide 5 Try.f5 rfl rfl rfl rfl rfl rfl rfl ⟨rfl, rfl, rfl, rfl, rfl⟩ rfl rfl rfl rfl rfl (by kernel_rfl) Try.func5 (by kernel_rfl)
    (of_decide_eq_true (by kernel_rfl)) (by unfold Func.isWrapper; first | (rw [if_pos (by decide +kernel)]; kernel_rfl) | (rw [if_neg (by decide +kernel)]; exact ⟨rfl, rfl⟩))
    (fun os started H enc _ => lifted os started H enc)

/-- The given statement. -/
theorem proved : Rows.CellEndsSaid := over
#print axioms proved
end Go.Proofs.Ytgbjjogfmlkmeaa.cellEnds
namespace Go.Proofs.Ytgbjjogfmlkmeaa
theorem cellEnds_holds : Rows.CellEndsSaid := cellEnds.proved
end Go.Proofs.Ytgbjjogfmlkmeaa
