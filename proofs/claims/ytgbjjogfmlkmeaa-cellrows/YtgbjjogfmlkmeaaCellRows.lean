/- The statement CellRows holds: for every list of numbers and size the law returns true, and its arguments read afterwards as before. No condition. -/
import Derived.Test.YtgbjjogfmlkmeaaFrame
import Derived.Test.YtgbjjogfmlkmeaaRows
import Derived.WalkKit
import Derived.ProofKit
import Derived.OpenShut
import Derived.ShutString
import Derived.ChangeOld
import Derived.Below
namespace Go.Proofs.Ytgbjjogfmlkmeaa.cellRows
open Go.ChangeShapes Go.WideShapes Go.ChangeAt Go.RowKit
open Go.ChangeMaps (open_string shut_string)
set_option linter.unusedVariables false

theorem own : ownKnob Try.prog.godebug = none := by kernel_rfl
theorem laidOut : laidOutB Try.prog = true := by kernel_rfl

/-- The slice of uint32 that begins at 'ao' reads in w as ys. -/
def Row32 (w : World) (ao : Option Addr) (ys : List Int) : Prop :=
  (∀ y ∈ ys, 0 ≤ y ∧ y ≤ 4294967295) ∧ (0 < ys.length → ∃ b off, ao = some ⟨b, off, none⟩ ∧ b < w.heap.size ∧ ∀ i, i < ys.length → w.cell? ⟨b, off + i, none⟩ = some (.int .u32 (ys.getD i 0)))
theorem row32 {w : World} {a : Option Addr} {len cap : Nat} {zs : List Int} (h : IsRow .u32 w a len cap zs) : ∃ ys : List Int, ys.length = len ∧ Row32 w a ys := by
  rcases h with ⟨rfl, rfl, rfl, rfl⟩ | ⟨x, rfl, h1, h2, h3, h4, h5⟩
  · exact ⟨[], rfl, fun y hy => by simp at hy, fun hp => by simp at hp⟩
  · refine ⟨zs.take len, by simp; omega, fun y hy => wf_u32 (h5 y (List.mem_of_mem_take hy)), fun hp => ?_⟩
    have hlen : (zs.take len).length = len := by simp; omega
    rw [hlen] at hp ⊢
    obtain ⟨b, off, spot⟩ := x
    have hspot : spot = none := by
      have hc := h4 0 (by omega)
      simpa [Addr.add] using World.cell?_spot hc
    subst hspot
    have hb : b < w.heap.size := by
      have hc := h4 0 (by omega)
      exact World.block_lt_of_cell? w _ hc
    refine ⟨b, off, rfl, hb, fun i hi => ?_⟩
    have := h4 i (by omega)
    rw [Addr.add_lit] at this
    rw [this, getD_take hi]
theorem getD_bd {ys : List Int} (h : ∀ y ∈ ys, 0 ≤ y ∧ y ≤ 4294967295) (i : Nat) : 0 ≤ ys.getD i 0 ∧ ys.getD i 0 ≤ 4294967295 := by
  by_cases hi : i < ys.length
  · rw [List.getD_eq_getElem?_getD, List.getElem?_eq_getElem hi]
    exact h _ (List.getElem_mem hi)
  · rw [List.getD_eq_getElem?_getD, List.getElem?_eq_none (by omega)]
    simp

/-- The first k numbers stand side by side in X, s bytes each. -/
def Rowed (X : List Int) (ys : List Int) (s : Int) (k : Nat) : Prop := ∀ j : Nat, j < k → getB X (j * s) s.toNat = ys.getD j 0
theorem big (s : Int) (h : 4 ≤ s) : (4294967295 : Int) < 256 ^ s.toNat := by
  obtain ⟨t, ht⟩ : ∃ t, s.toNat = 4 + t := ⟨s.toNat - 4, by omega⟩
  rw [ht, Int.pow_add]
  have : (0 : Int) < 256 ^ t := Int.pow_pos (by decide)
  have e : (256 : Int) ^ 4 = 4294967296 := by decide
  rw [e]
  omega
theorem Rowed.step {X ys : List Int} {s : Int} {k : Nat} (h : Rowed X ys s k) (hs : 4 ≤ s) (hk : k < ys.length) (hX : (X.length : Int) = s * ys.length) (hy : 0 ≤ ys.getD k 0 ∧ ys.getD k 0 ≤ 4294967295) :
    Rowed (putB X (k * s) (ys.getD k 0) s.toNat) ys s (k + 1) := by
  intro j hj
  by_cases e : j = k
  · subst e
    have h1 : (j : Int) * s + s ≤ s * ys.length := by
      have : s * ((j : Int) + 1) ≤ s * ys.length := Int.mul_le_mul_of_nonneg_left (by omega) (by omega)
      rw [Int.mul_add, Int.mul_one, Int.mul_comm] at this
      exact this
    have h0 : 0 ≤ (j : Int) * s := Int.mul_nonneg (by omega) (by omega)
    rw [get_put_same _ _ _ _ h0 (by omega)]
    have := big s hs
    exact Int.emod_eq_of_lt hy.1 (by omega)
  · have h1 : (j : Int) * s + s ≤ k * s := by
      have : ((j : Int) + 1) * s ≤ k * s := Int.mul_le_mul_of_nonneg_right (by omega) (by omega)
      rw [Int.add_mul, Int.one_mul] at this
      exact this
    rw [get_put_other _ _ _ _ _ _ (.inl (by omega))]
    exact h j (by omega)

set_option maxHeartbeats 2000000 in
theorem walk (a0 : Option Addr) (len0 cap0 : Nat) (z0 : List Int) (a1 : Int) (w : World) (w0 : IsRow .u32 w a0 len0 cap0 z0) (w1 : (Lit.int .i64 a1).wf = true) :
    Calls Try.prog 7 #[.slice a0 len0 cap0, .int .i64 a1] w fun e w' => e = .returned (.bool true) ∧ Below w.heap.size w w' := by
  by_cases hl : len0 ≤ 20
  · obtain ⟨ys, rfl, h1, h2⟩ := row32 w0
    have H1 := hide h1
    obtain ⟨i0, hi, hz0, hz1, hz2⟩ := info_parts Try.info5
    have hd : decide ((20 : Int) < (ys.length : Int)) = false := by simp; omega
    clear w0 w1 h1
    go_enter Try.func7, Try.ntmps7
    go_wp2_with fail
    refine (first_any _).mono ?_
    rintro e w1 ⟨rfl, hb⟩
    have HB1 := hide hb
    clear hb
    go_wp2_with fail
    refine (number_any _ _ _ (by omega) (by omega)).mono ?_
    rintro e w' ⟨rfl, rfl⟩
    have hn1 := numberB_bd a1 5 (by omega)
    obtain ⟨s, hs⟩ : ∃ s, s = numberB a1 5 + 4 := ⟨_, rfl⟩
    rw [show numberB a1 5 = s - 4 by omega] at hn1 ⊢
    have hs1 : 4 ≤ s := by omega
    have hs2 : s ≤ 8 := by omega
    clear hn1 hs
    obtain ⟨N, hN⟩ : ∃ N : Nat, (N : Int) = s * ys.length := ⟨(s * ys.length).toNat, Int.toNat_of_nonneg (Int.mul_nonneg (by omega) (by omega))⟩
    have hN1 : s * (ys.length : Int) ≤ 160 := by
      have : s * (ys.length : Int) ≤ 8 * ys.length := Int.mul_le_mul_of_nonneg_right hs2 (by omega)
      omega
    have hN0 : 0 ≤ s * (ys.length : Int) := by omega
    have HN := hide hN
    have hNb : N ≤ 160 := by omega
    clear hN
    go_wp2_with (at_make; refine wpList_make_full _ rfl (.tmp 22) (.tmp 22) 22 rfl w'.heap.size 5 i0 (.int .u8 0) 1 Try.underlying22 hi hz0 hz1 .i64 .i64 (s * ys.length) (s * ys.length) N rfl rfl HN.out.symm HN.out.symm (by rw [hz2]; omega) (by unfold maxLen; omega) (Nat.le_refl _) ?_; intro w3 hown hgr; have HZ := hide (own_made hown (by omega)).row; have HB3 := hide (over HB1.out ((Below.refl _ _).grown hgr (Nat.le_refl _) (by simp)) HB1.out.size); clear hown hgr)
    go_loopw [6, 7] (fun v i wr => ∃ k : Nat, k ≤ ys.length ∧ i = .int .i64 k ∧ ∃ g X, v = .slice (some ⟨g, 0, none⟩) N N ∧ Row wr (some ⟨g, 0, none⟩) X ∧ X.length = N ∧ Rowed X ys s k ∧ Below w.heap.size w wr ∧ (k = 0 → zeroB X = true)) (fun _ i _ => ys.length - (intOf i).toNat)
    case atStart => exact ⟨0, by omega, rfl, _, List.replicate N 0, rfl, HZ.out, List.length_replicate, fun j hj => by omega, HB3.out, fun _ => zero_rep N⟩
    case round =>
      obtain ⟨k, hk, rfl, g, X, rfl, hX, hXl, hR, hB, hzr⟩ := hrel
      have HX := hide hX
      have HL := hide hXl
      have HR := hide hR
      have HB := hide hB
      have HZR := hide hzr
      clear hX hXl hR hB hzr
      by_cases hlt : k < ys.length
      · obtain ⟨b, off, rfl, hb, hc⟩ := h2 (by omega)
        have hcp := hc k hlt
        have hyb := getD_bd H1.out k
        have HST := hide (HR.out.step hs1 hlt (by rw [HL.out]; exact HN.out) hyb)
        obtain ⟨y, hy⟩ : ∃ y, y = ys.getD k 0 := ⟨_, rfl⟩
        rw [← hy] at hcp hyb HST
        have hcr : wr.cell? ⟨b, off + k, none⟩ = some (.int .u32 y) := by rw [HB.out.cell (by exact hb)]; exact hcp
        have hks0 : 0 ≤ (k : Int) * s := Int.mul_nonneg (by omega) (by omega)
        have hks1 : (k : Int) * s ≤ 160 := by
          have : (k : Int) * s ≤ k * 8 := Int.mul_le_mul_of_nonneg_left hs2 (by omega)
          omega
        have hws : (widthB s) = s := by unfold widthB; omega
        have HW := hide hws
        clear hcp hc h2 hy hws
        go_wp2_with fail
        refine (put_len _ _ _ X _ _ _ _ HX.out HL.out (by omega) (by omega) (by omega) (by omega)).mono ?_
        rintro e w4 ⟨rfl, hown, hbel⟩
        rw [HW.out] at hown
        have HO := hide hown.row
        have HB4 := hide (over HB.out hbel HB.out.size)
        clear hown hbel
        go_wp2_with fail
        go_roundw
        case rel => exact ⟨k + 1, by omega, by go_num, _, _, rfl, HO.out, by rw [length_putB]; exact HL.out, HST.out, HB4.out, fun e => by omega⟩
        case measure => simp [intOf]; omega
      · have hk' : k = ys.length := by omega
        subst hk'
        go_wp2_with fail
        go_loopw [8] (fun i wr2 => ∃ k : Nat, k ≤ ys.length ∧ i = .int .i64 k ∧ Row wr2 (some ⟨g, 0, none⟩) X ∧ Below w.heap.size w wr2) (fun i _ => ys.length - (intOf i).toNat)
        case atStart => exact ⟨0, by omega, rfl, HX.out, HB.out⟩
        case round =>
          clear HX HB
          obtain ⟨k, hk, rfl, hX, hB⟩ := hrel
          have HX := hide hX
          have HB := hide hB
          clear hX hB
          by_cases hlt : k < ys.length
          · obtain ⟨b, off, rfl, hb, hc⟩ := h2 (by omega)
            have hcp := hc k hlt
            have hyb := getD_bd H1.out k
            have hge := HR.out k hlt
            obtain ⟨y, hy⟩ : ∃ y, y = ys.getD k 0 := ⟨_, rfl⟩
            rw [← hy] at hcp hyb hge
            have hcr : wr.cell? ⟨b, off + k, none⟩ = some (.int .u32 y) := by rw [HB.out.cell (by exact hb)]; exact hcp
            have hks0 : 0 ≤ (k : Int) * s := Int.mul_nonneg (by omega) (by omega)
            have hks1 : (k : Int) * s ≤ 160 := by
              have : (k : Int) * s ≤ k * 8 := Int.mul_le_mul_of_nonneg_left hs2 (by omega)
              omega
            have hws : (widthB s) = s := by unfold widthB; omega
            have hcall : ∀ W, Row W (some ⟨g, 0, none⟩) X → Calls Try.prog 14 #[.slice (some ⟨g, 0, none⟩) N N, .int .i64 (k * s), .int .i64 s] W fun e w' => e = .returned (.int .u64 y) ∧ w' = W := by
              intro W hW
              have := get_len (some ⟨g, 0, none⟩) N N X (k * s) s W hW HL.out (by omega) (by omega)
              rw [hws, hge] at this
              exact this
            have HC := hide hcall
            have hki : (k : Int) < (ys.length : Int) := by omega
            clear hcp hc h2 hy hge hws hcall
            go_wp2_with fail
            go_quiet ((go_at_call 14; exact Calls.quiet_of_same (HC.out _ (HX.out.drewN _))))
            go_wp2_with fail
            go_roundw
            case rel => exact ⟨k + 1, by omega, by go_num, HX.out.drewN _, below_drewN HB.out _⟩
            case measure => simp [intOf]; omega
          · by_cases h0 : ys.length = 0
            · have hz := HZR.out h0
              have HZ' := hide hz
              clear hz
              go_wp2_with fail
              refine (zero_len _ _ _ X _ HX.out HL.out).mono ?_
              rintro e w5 ⟨rfl, rfl⟩
              rw [HZ'.out]
              go_wp2_with fail
              go_ret
              exact ⟨rfl, HB.out⟩
            · have h0' : (0 : Int) < (ys.length : Int) := by omega
              have hne : ¬ ys = [] := fun e => h0 (by rw [e]; rfl)
              have hni : ys.isEmpty = false := by simp [hne]
              go_wp2_with fail
              go_ret
              exact ⟨rfl, HB.out⟩
  · have hd : decide ((20 : Int) < (len0 : Int)) = true := by simp; omega
    clear w0 w1
    go_enter Try.func7, Try.ntmps7
    go_wp2_with fail
    refine (first_any _).mono ?_
    rintro e w1 ⟨rfl, hb⟩
    have HB := hide hb
    clear hb
    go_wp2_with fail
    go_ret
    exact ⟨rfl, HB.out⟩

set_option maxRecDepth 100000 in
theorem lifted (os : Os) (started : os.Started) (H : Type) (enc : TypeId × Value → H) :
    ReturnsInHanded {} Try.checked os 7 .any (Rows.cellRowsSpec.pre6 enc Try.prog Try.f7 Rows.cellRowsRow.domain false) (Rows.cellRowsSpec.post enc Try.prog Try.f7 false true false false) := by
  refine returnsInHanded_of_change (C := Try.checked) own started (by kernel_rfl) Try.func7
    (ChangeSpec.witness6 (enc := enc) (C := Try.checked) false ⟨#[], #[.slice none 0 0, .int .i64 0], []⟩ 8 (by kernel_rfl) (by kernel_rfl) (by kernel_rfl) (by kernel_rfl)) ?_
  intro W base args ds gs before hval0 hW hcnd _
  have hval : ∀ (j : Nat) t v, Try.f7.params[j]? = some t → args[j]? = some v → Value.okWide Try.prog W .any base t v := hval0
  have hW' := hW
  obtain ⟨p, q, hA0, hV, rfl, hfz, hnd⟩ := hW
  have hA : DataW.TrodAll enc Try.prog W 0 (fun _ => true) true Try.f7.params.toList args.toList ds p := hA0
  rw [Try.params7] at hA hval
  obtain ⟨v0, vs0, d0, ds0, p0, q0, hargs, rfl, rfl, h0, r0⟩ := trodAll_cons hA
  obtain ⟨v1, vs1, d1, ds1, p1, q1, rfl, rfl, rfl, h1, r1⟩ := trodAll_cons r0
  obtain ⟨rfl, rfl, rfl⟩ := trodAll_nil r1
  obtain rfl : args = #[v0, v1] := by cases args; simp_all
  obtain ⟨rfl, rfl⟩ := trodVars_none hV
  obtain ⟨a0, len0, cap0, rfl⟩ := okWide_slice Try.underlying39 (hval 0 39 v0 rfl rfl)
  have k0 := h0
  have lt0 : ∀ x ∈ p0, x.block < W.heap.size := by obtain ⟨m, hm⟩ := k0; exact DataW.trod_lt m _ _ _ hm
  obtain ⟨z0, w0⟩ : ∃ zs, IsRow .u32 W a0 len0 cap0 zs := by
    obtain ⟨fuel, hf⟩ := h0
    rcases open_ints Try.underlying39 Try.underlying40 (by kernel_rfl) hf with ⟨hcs, _⟩ | ⟨x, l, c, zs, hcs, _, hl, hm, hz, _, hcell, hwz⟩
    · simp [Value.cells] at hcs
      obtain ⟨rfl, rfl, rfl⟩ := hcs
      exact ⟨[], .inl ⟨rfl, rfl, rfl, rfl⟩⟩
    · simp [Value.cells] at hcs
      obtain ⟨rfl, rfl, rfl⟩ := hcs
      exact ⟨zs, .inr ⟨_, rfl, hl, hm, by simpa using hz, hcell, hwz⟩⟩
  obtain ⟨a1, rfl, rfl, rfl, w1⟩ := open_int Try.underlying3 (hval 1 3 v1 rfl rfl) h1
  clear hA0 hval0
  refine (walk a0 len0 cap0 z0 a1 W w0 w1).mono fun e W' ⟨he, bel⟩ => ?_
  subst he
  exact ⟨_, rfl, _, _, _, [], _, [], hW', trodAll_mk1 (shut_bool Try.underlying4 _), (trodAll_cons_mk (Below.trod laidOut (by kernel_rfl) (of_decide_eq_true (by kernel_rfl)) k0 bel lt0) (trodAll_cons_mk (shut_int Try.underlying3 w1) trodAll_mk0)), rfl, bel.frame _, fun h => by cases h⟩

theorem over : Rows.cellRowsRow.holds Try.pinned (OpenSpec.ofChange Rows.cellRowsSpec) :=
  OpenClaim.holds_of_wide 7 Try.f7 rfl rfl rfl rfl rfl rfl rfl ⟨rfl, rfl, rfl, rfl, rfl⟩ rfl rfl rfl rfl rfl (by kernel_rfl) Try.func7 (by kernel_rfl)
    (of_decide_eq_true (by kernel_rfl)) (by unfold Func.isWrapper; first | (rw [if_pos (by decide +kernel)]; kernel_rfl) | (rw [if_neg (by decide +kernel)]; exact ⟨rfl, rfl⟩))
    (fun os started H enc _ => lifted os started H enc)

/-- The given statement. -/
theorem proved : Rows.CellRowsSaid := over
#print axioms proved
end Go.Proofs.Ytgbjjogfmlkmeaa.cellRows
namespace Go.Proofs.Ytgbjjogfmlkmeaa
theorem cellRows_holds : Rows.CellRowsSaid := cellRows.proved
end Go.Proofs.Ytgbjjogfmlkmeaa
