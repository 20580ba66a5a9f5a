
/- The statement PlaceApart holds: for all numbers the law returns true, and its arguments read afterwards as before. No condition. -/
import Derived.Test.YtdijgpkcolpfoabJoin5
import Derived.Test.YtdijgpkcolpfoabJoin6
import Derived.ProofKit
import Derived.OpenShut
import Derived.ShutString
namespace Go.Proofs.Ytdijgpkcolpfoab
open Go.RowKit
set_option linter.unusedVariables false
/-- Forty numbers at a block that may be written. -/
structure At40 (w : World) (B : Nat) (f : Nat → Int) : Prop where
  cell : ∀ i, i < 40 → w.cell? ⟨B, i, none⟩ = some (.int .i64 (f i))
  fz : ∀ i, w.frozen? ⟨B, i, none⟩ = false
theorem At40.set {w : World} {B : Nat} {f : Nat → Int} (h : At40 w B f) (k : Nat) (hk : k < 40) (v : Int) (g : Nat → Int) (hg : ∀ i, i < 40 → g i = if i = k then v else f i) : At40 (w.setCell ⟨B, k, none⟩ (.int .i64 v)) B g := by
  refine ⟨fun i hi => ?_, fun i => ?_⟩
  · rw [hg i hi]
    by_cases e : i = k
    · subst e
      rw [if_pos rfl]
      exact World.cell?_setCell_same _ _ _ (h.cell i hi)
    · rw [if_neg e, World.cell?_setCell_other _ _ _ _ (by intro e'; injection e' with _ e2; exact e e2.symm)]
      exact h.cell i hi
  · rw [World.frozen?_setCell]; exact h.fz i
theorem zero40 : (Array.replicate 40 (Value.int .i64 0)) = #[.int .i64 0, .int .i64 0, .int .i64 0, .int .i64 0, .int .i64 0, .int .i64 0, .int .i64 0, .int .i64 0, .int .i64 0, .int .i64 0, .int .i64 0, .int .i64 0, .int .i64 0, .int .i64 0, .int .i64 0, .int .i64 0, .int .i64 0, .int .i64 0, .int .i64 0, .int .i64 0, .int .i64 0, .int .i64 0, .int .i64 0, .int .i64 0, .int .i64 0, .int .i64 0, .int .i64 0, .int .i64 0, .int .i64 0, .int .i64 0, .int .i64 0, .int .i64 0, .int .i64 0, .int .i64 0, .int .i64 0, .int .i64 0, .int .i64 0, .int .i64 0, .int .i64 0, .int .i64 0] := by rfl
theorem at40_zero (w : World) (t : TypeId) : At40 (w.alloc (.cells #[.int .i64 0, .int .i64 0, .int .i64 0, .int .i64 0, .int .i64 0, .int .i64 0, .int .i64 0, .int .i64 0, .int .i64 0, .int .i64 0, .int .i64 0, .int .i64 0, .int .i64 0, .int .i64 0, .int .i64 0, .int .i64 0, .int .i64 0, .int .i64 0, .int .i64 0, .int .i64 0, .int .i64 0, .int .i64 0, .int .i64 0, .int .i64 0, .int .i64 0, .int .i64 0, .int .i64 0, .int .i64 0, .int .i64 0, .int .i64 0, .int .i64 0, .int .i64 0, .int .i64 0, .int .i64 0, .int .i64 0, .int .i64 0, .int .i64 0, .int .i64 0, .int .i64 0, .int .i64 0] t)) w.heap.size (fun _ => 0) := by
  rw [← zero40]
  have hl := heap_alloc_new w (.cells (Array.replicate 40 (Value.int .i64 0)) t)
  refine ⟨fun i hi => ?_, fun i => by unfold World.frozen?; rw [hl]; simp⟩
  rw [cell_row hl, Array.getElem?_replicate, if_pos hi]
/-- How many of n keys from F on are on each page of M. -/
def tal (M F n i : Nat) : Int := if 1 ≤ i then (cntK M (i - 1) F n : Nat) else 0
theorem tal_zero (M F i : Nat) : tal M F 0 i = 0 := by unfold tal; split <;> rfl
theorem tal_bd (M F n i : Nat) : 0 ≤ tal M F n i ∧ tal M F n i ≤ n := by
  have h : cntK M (i - 1) F n ≤ n := by
    induction n with
    | zero => simp [cntK]
    | succ n ih => rw [cntK]; split <;> omega
  unfold tal
  split <;> omega
theorem tal_step (M F n : Nat) (p i : Nat) (hp : pageI ((F + n : Nat) : Int) M = p) (hM : 1 ≤ M) : tal M F (n + 1) i = if i = p then tal M F n p + 1 else tal M F n i := by
  rw [pageI_nat _ _ hM] at hp
  have hp' : 1 + pgN (F + n) M = p := by exact_mod_cast hp
  unfold tal
  by_cases e : i = p
  · subst e
    rw [if_pos rfl, if_pos (by omega), if_pos (by omega), cntK, if_pos (by omega)]
    omega
  · rw [if_neg e]
    by_cases hi : 1 ≤ i
    · rw [if_pos hi, if_pos hi, cntK, if_neg (by omega)]; rfl
    · rw [if_neg hi, if_neg hi]
theorem tal_le (M F i : Nat) (h0 : 8 ≤ M) (h1 : M ≤ 32) : tal M F 200 i ≤ 100 := by
  unfold tal
  have := apart M (i - 1) F h0 h1
  split <;> omega
end Go.Proofs.Ytdijgpkcolpfoab
namespace Go.Proofs.Ytdijgpkcolpfoab.placeApart
open Go.ChangeShapes Go.WideShapes Go.ChangeAt Go.RowKit
set_option linter.unusedVariables false

theorem own : ownKnob Try.prog.godebug = none := by kernel_rfl
theorem laidOut : laidOutB Try.prog = true := by kernel_rfl

set_option maxRecDepth 100000 in
set_option maxHeartbeats 2000000 in
theorem walk (a0 a1 : Int) (w : World) (w0 : (Lit.int .i64 a0).wf = true) (w1 : (Lit.int .i64 a1).wf = true) :
    Calls Try.prog 3 #[.int .i64 a0, .int .i64 a1] w fun e w' => e = .returned (.bool true) ∧ Below w.heap.size w w' := by
  clear w0 w1
  go_enter Try.func3, Try.ntmps3
  go_wp2_with fail
  refine (pfirst9_any _).mono ?_
  rintro e w' ⟨rfl, rfl⟩
  go_wp2_with fail
  refine (number_far _ _ _ (by omega) (by omega)).mono ?_
  rintro e w' ⟨rfl, rfl⟩
  have hf1 := numberB_bd a0 1048376 (by omega)
  obtain ⟨F, hF⟩ : ∃ F : Nat, (F : Int) = numberB a0 1048376 := ⟨(numberB a0 1048376).toNat, by omega⟩
  rw [← hF] at hf1 ⊢
  clear hF
  go_wp2_with fail
  refine (number_any _ _ _ (by omega) (by omega)).mono ?_
  rintro e w' ⟨rfl, rfl⟩
  have hp1 := numberB_bd a1 24 (by omega)
  obtain ⟨M, hM⟩ : ∃ M : Nat, (M : Int) = numberB a1 24 + 8 := ⟨(numberB a1 24 + 8).toNat, by omega⟩
  rw [show numberB a1 24 = (M : Int) - 8 by omega] at hp1 ⊢
  clear hM
  have hM1 : 8 ≤ M ∧ M ≤ 32 := by omega
  clear hp1
  have HA := hide (at40_zero w' 24)
  have HB : Hid (Below w'.heap.size w' (w'.alloc (.cells #[.int .i64 0, .int .i64 0, .int .i64 0, .int .i64 0, .int .i64 0, .int .i64 0, .int .i64 0, .int .i64 0, .int .i64 0, .int .i64 0, .int .i64 0, .int .i64 0, .int .i64 0, .int .i64 0, .int .i64 0, .int .i64 0, .int .i64 0, .int .i64 0, .int .i64 0, .int .i64 0, .int .i64 0, .int .i64 0, .int .i64 0, .int .i64 0, .int .i64 0, .int .i64 0, .int .i64 0, .int .i64 0, .int .i64 0, .int .i64 0, .int .i64 0, .int .i64 0, .int .i64 0, .int .i64 0, .int .i64 0, .int .i64 0, .int .i64 0, .int .i64 0, .int .i64 0, .int .i64 0] 24))) := (Below.refl _ _).alloc (Nat.le_refl _) _
  go_wp2_with fail
  go_loopw [7] (fun i wr => ∃ n k : Nat, n ≤ 200 ∧ k = F + n ∧ i = .int .i64 (k : Int) ∧ At40 wr w'.heap.size (tal M F n) ∧ Below w'.heap.size w' wr) (fun i _ => F + 200 - (intOf i).toNat)
  case atStart => exact ⟨0, F, by omega, rfl, rfl, ⟨fun i hi => by rw [tal_zero]; exact HA.out.cell i hi, HA.out.fz⟩, HB.out⟩
  case round =>
    clear HA HB
    obtain ⟨n, k, hn, hk, rfl, ha, hb⟩ := hrel
    have HA := hide ha
    have HB := hide hb
    clear ha hb
    by_cases hlt : n < 200
    · have hki : (k : Int) < (F : Int) + 200 := by omega
      have hk2 : (k : Int) ≤ 2000000 := by omega
      have hb := pageI_bd k M
      obtain ⟨p, hp⟩ : ∃ p : Nat, (p : Int) = pageI k M := ⟨(pageI k M).toNat, by omega⟩
      have HS : Hid (∀ i, i < 40 → tal M F (n + 1) i = if i = p then tal M F n p + 1 else tal M F n i) := fun i _ => tal_step M F n p i (by rw [← hk]; exact hp.symm) (by omega)
      have HK := hide hk
      have hmes : F + 200 - (k + 1) < F + 200 - k := by omega
      clear hk
      have HP := hide hp
      rw [← hp] at hb
      have hp1 : 1 ≤ p ∧ p ≤ M := by omega
      have hpi1 : ¬ (p : Int) < 1 := by omega
      have hpi2 : ¬ (M : Int) < p := by omega
      have hp40 : (p : Int) < 40 := by omega
      have hp4 : p < 40 := by omega
      have hc := HA.out.cell p hp4
      have hfz := HA.out.fz p
      have hbd := tal_bd M F n p
      obtain ⟨v, hv⟩ : ∃ v, v = tal M F n p := ⟨_, rfl⟩
      rw [← hv] at hc hbd HS
      clear hp hb hv
      go_wp2_with (go_at_call 7; refine (page_any _ _ _).mono ?_; rintro e w2 ⟨rfl, rfl⟩; rw [← HP.out])
      go_roundw
      case rel => exact ⟨n + 1, k + 1, by omega, by rw [HK.out]; omega, by go_num, HA.out.set p hp4 _ _ HS.out, HB.out.setCell (Nat.le_refl _) _⟩
      case measure => simp [intOf]; omega
    · obtain rfl : n = 200 := by omega
      have hki : ¬ (k : Int) < (F : Int) + 200 := by omega
      have hk2 : (k : Int) ≤ 2000000 := by omega
      clear hk
      go_wp2_with fail
      go_loopw [9] (fun i wr2 => ∃ j : Nat, 1 ≤ j ∧ j ≤ M + 1 ∧ i = .int .i64 j ∧ ∃ q, wr2 = wr.drewN q) (fun i _ => M + 1 - (intOf i).toNat)
      case atStart => exact ⟨1, by omega, by omega, rfl, 0, rfl⟩
      case round =>
        obtain ⟨j, hj1, hj, rfl, q, rfl⟩ := hrel
        by_cases hle : j ≤ M
        · have hji : (j : Int) ≤ M := by omega
          have hj40 : (j : Int) < 40 := by omega
          have hc := HA.out.cell j (by omega)
          have hle2 := tal_le M F j hM1.1 hM1.2
          obtain ⟨v, hv⟩ : ∃ v, v = tal M F 200 j := ⟨_, rfl⟩
          rw [← hv] at hc hle2
          have hle3 : ¬ (100 : Int) < v := by omega
          clear hv
          go_wp2_with fail
          go_roundw
          case rel => exact ⟨j + 1, by omega, by omega, by go_num, _, rfl⟩
          case measure => simp [intOf]; omega
        · have hji : ¬ (j : Int) ≤ M := by omega
          go_wp2_with fail
          go_ret
          exact ⟨rfl, below_drewN HB.out _⟩

set_option maxRecDepth 100000 in
theorem lifted (os : Os) (started : os.Started) (H : Type) (enc : TypeId × Value → H) :
    ReturnsInHanded {} Try.checked os 3 .any (Rows.placeApartSpec.pre6 enc Try.prog Try.f3 Rows.placeApartRow.domain false) (Rows.placeApartSpec.post enc Try.prog Try.f3 false true false false) := by
  refine returnsInHanded_of_change (C := Try.checked) own started (by kernel_rfl) Try.func3
    (ChangeSpec.witness6 (enc := enc) (C := Try.checked) false ⟨#[], #[.int .i64 0, .int .i64 0], []⟩ 8 (by kernel_rfl) (by kernel_rfl) (by kernel_rfl) (by kernel_rfl)) ?_
  intro W base args ds gs before hval0 hW hcnd _
  have hval : ∀ (j : Nat) t v, Try.f3.params[j]? = some t → args[j]? = some v → Value.okWide Try.prog W .any base t v := hval0
  have hW' := hW
  obtain ⟨p, q, hA0, hV, rfl, hfz, hnd⟩ := hW
  have hA : DataW.TrodAll enc Try.prog W 0 (fun _ => true) true Try.f3.params.toList args.toList ds p := hA0
  rw [Try.params3] at hA hval
  obtain ⟨v0, vs0, d0, ds0, p0, q0, hargs, rfl, rfl, h0, r0⟩ := trodAll_cons hA
  obtain ⟨v1, vs1, d1, ds1, p1, q1, rfl, rfl, rfl, h1, r1⟩ := trodAll_cons r0
  obtain ⟨rfl, rfl, rfl⟩ := trodAll_nil r1
  obtain rfl : args = #[v0, v1] := by cases args; simp_all
  obtain ⟨rfl, rfl⟩ := trodVars_none hV
  obtain ⟨a0, rfl, rfl, rfl, w0⟩ := open_int Try.underlying3 (hval 0 3 v0 rfl rfl) h0
  obtain ⟨a1, rfl, rfl, rfl, w1⟩ := open_int Try.underlying3 (hval 1 3 v1 rfl rfl) h1
  clear hA0 hval0
  simp only [List.append_nil] at hW'
  refine (walk a0 a1 W w0 w1).mono fun e W' ⟨he, bel⟩ => ?_
  subst he
  exact ⟨_, rfl, _, _, _, [], _, [], hW', trodAll_mk1 (shut_bool Try.underlying4 _), (trodAll_cons_mk (shut_int Try.underlying3 w0) (trodAll_cons_mk (shut_int Try.underlying3 w1) trodAll_mk0)), rfl, bel.frame _, fun h => by cases h⟩

theorem over : Rows.placeApartRow.holds Try.pinned (OpenSpec.ofChange Rows.placeApartSpec) :=
  OpenClaim.holds_of_wide 3 Try.f3 rfl rfl rfl rfl rfl rfl rfl ⟨rfl, rfl, rfl, rfl, rfl⟩ rfl rfl rfl rfl rfl (by kernel_rfl) Try.func3 (by kernel_rfl)
    (of_decide_eq_true (by kernel_rfl)) (by unfold Func.isWrapper; first | (rw [if_pos (by decide +kernel)]; kernel_rfl) | (rw [if_neg (by decide +kernel)]; exact ⟨rfl, rfl⟩))
    (fun os started H enc _ => lifted os started H enc)

/-- The given statement. -/
theorem proved : Rows.PlaceApartSaid :=
  over
#print axioms proved
end Go.Proofs.Ytdijgpkcolpfoab.placeApart
namespace Go.Proofs.Ytdijgpkcolpfoab
theorem placeApart_holds : Rows.PlaceApartSaid := placeApart.proved
end Go.Proofs.Ytdijgpkcolpfoab
