
/- What the statements' own 'good' answers: some master that may be; and what the chapter's examples are. -/
import Derived.Test.YtjdfmpdkfbhdkaaDoorMastRead
import Derived.Test.YtjdfmpdkfbhdkaaDoorBlockMake
import Derived.Test.YtjdfmpdkfbhdkaaDoorRecReadRef
import Derived.Test.YtjdfmpdkfbhdkaaDoorSee
import Derived.Deep.Cut
namespace Go.Proofs.YtjdfmpdkfbhdkaaDoor
open Go.RowKit
set_option linter.unusedVariables false

theorem below_sets7b {B : Nat} {a w : World} (h : Below B a w) (v0 v1 v2 v3 v4 v5 v6 : Value) : Below B a (((((((w.setCell ⟨B + 1, 0, none⟩ v0).setCell ⟨B + 1, 1, none⟩ v1).setCell ⟨B + 1, 2, none⟩ v2).setCell ⟨B + 1, 3, none⟩ v3).setCell ⟨B + 1, 4, none⟩ v4).setCell ⟨B + 1, 5, none⟩ v5).setCell ⟨B + 1, 6, none⟩ v6) :=
  (((((((h.setCell (p := ⟨B + 1, 0, none⟩) (Nat.le_succ B) v0).setCell (p := ⟨B + 1, 1, none⟩) (Nat.le_succ B) v1).setCell (p := ⟨B + 1, 2, none⟩) (Nat.le_succ B) v2).setCell (p := ⟨B + 1, 3, none⟩) (Nat.le_succ B) v3).setCell (p := ⟨B + 1, 4, none⟩) (Nat.le_succ B) v4).setCell (p := ⟨B + 1, 5, none⟩) (Nat.le_succ B) v5).setCell (p := ⟨B + 1, 6, none⟩) (Nat.le_succ B) v6)
theorem at7_new (w : World) (m : M) : At7 (w.alloc (mCells m)) w.heap.size m.nth := by
  have hl := heap_alloc_new w (.cells #[.int .i64 m.e, .int .i64 m.b, .int .i64 m.r, .int .i64 m.c, .int .i64 m.p, .int .i64 m.k, .int .i64 m.f] 23)
  refine ⟨fun i hi => ?_, fun i => frozen_at hl i, by simp⟩
  unfold mCells
  rw [cell_row hl]
  rcases (show i = 0 ∨ i = 1 ∨ i = 2 ∨ i = 3 ∨ i = 4 ∨ i = 5 ∨ i = 6 by omega) with rfl | rfl | rfl | rfl | rfl | rfl | rfl <;> rfl
theorem At7.drew {w : World} {B : Nat} {f : Nat → Int} (h : At7 w B f) : At7 w.drew B f := ⟨h.cell, h.fz, h.lt⟩
theorem set7 (a b c d e f g v : Int) (k : Nat) (m : M) (hm : ∀ i, i < 7 → m.nth i = if i = k then v else (M.mk a b c d e f g).nth i) {w : World} {B : Nat} (hk : k < 7) (h : At7 w B (M.mk a b c d e f g).nth) : At7 (w.setCell ⟨B, k, none⟩ (.int .i64 v)) B m.nth := h.set k hk v _ hm
theorem nth_if (a b c d e f g v : Int) (i : Nat) (hi : i < 7) : ((M.mk a b c v e f g).nth i = if i = 3 then v else (M.mk a b c d e f g).nth i) ∧ ((M.mk a b c d v f g).nth i = if i = 4 then v else (M.mk a b c d e f g).nth i) ∧ ((M.mk a b c d e v g).nth i = if i = 5 then v else (M.mk a b c d e f g).nth i) ∧ ((M.mk a b c d e f v).nth i = if i = 6 then v else (M.mk a b c d e f g).nth i) := by
  rcases (show i = 0 ∨ i = 1 ∨ i = 2 ∨ i = 3 ∨ i = 4 ∨ i = 5 ∨ i = 6 by omega) with rfl | rfl | rfl | rfl | rfl | rfl | rfl <;> exact ⟨rfl, rfl, rfl, rfl⟩
set_option maxRecDepth 100000 in
set_option maxHeartbeats 4000000 in
theorem good_any (m : M) (w : World) : Calls Tryd.prog 14 #[m.val] w fun e w' => e = .returned (goodM m).val ∧ Below w.heap.size w w' := by
  have hE := numberB_bd m.e 1073741824 (by omega)
  have hb := numberB_bd m.b 1073741824 (by omega)
  have hR := numberB_bd m.r (numberB m.e 1073741824 + 1) (by omega)
  have hC := numberB_bd m.c (1073741824 - numberB m.b 1073741824) (by omega)
  have hP := numberB_bd m.p 32 (by omega)
  have hK := numberB_bd m.k 64 (by omega)
  have hF := numberB_bd m.f 8 (by omega)
  have HV : Hid ((goodM m).val = .agg #[.int .i64 (numberB m.e 1073741824 + 1), .int .i64 (numberB m.b 1073741824), .int .i64 (numberB m.r (numberB m.e 1073741824 + 1) + 1), .int .i64 (if m.c = 0 then 0 else numberB m.b 1073741824 + 1 + numberB m.c (1073741824 - numberB m.b 1073741824)), .int .i64 (numberB m.p 32 + 1), .int .i64 (numberB m.k 64 + 1), .int .i64 (numberB m.f 8 + 1)]) := rfl
  obtain ⟨V, hV⟩ : ∃ V, V = (goodM m).val := ⟨_, rfl⟩
  rw [← hV] at HV ⊢
  clear hV
  obtain ⟨E, e1⟩ : ∃ E, E = numberB m.e 1073741824 := ⟨_, rfl⟩
  rw [← e1] at hE hR HV
  obtain ⟨b, e2⟩ : ∃ b, b = numberB m.b 1073741824 := ⟨_, rfl⟩
  rw [← e2] at hb hC HV
  obtain ⟨R, e3⟩ : ∃ R, R = numberB m.r (E + 1) := ⟨_, rfl⟩
  rw [← e3] at hR HV
  obtain ⟨C, e4⟩ : ∃ C, C = numberB m.c (1073741824 - b) := ⟨_, rfl⟩
  rw [← e4] at hC HV
  obtain ⟨P, e5⟩ : ∃ P, P = numberB m.p 32 := ⟨_, rfl⟩
  rw [← e5] at hP HV
  obtain ⟨K, e6⟩ : ∃ K, K = numberB m.k 64 := ⟨_, rfl⟩
  rw [← e6] at hK HV
  obtain ⟨F, e7⟩ : ∃ F, F = numberB m.f 8 := ⟨_, rfl⟩
  rw [← e7] at hF HV
  obtain ⟨hE0, hE1⟩ := hE
  obtain ⟨hb0, hb1⟩ := hb
  obtain ⟨hR0, hR1⟩ := hR
  obtain ⟨hC0, hC1⟩ := hC
  obtain ⟨hP0, hP1⟩ := hP
  obtain ⟨hK0, hK1⟩ := hK
  obtain ⟨hF0, hF1⟩ := hF
  have eE := hide e1.symm
  have eb := hide e2.symm
  have eR := hide e3.symm
  have eC := hide e4.symm
  have eP := hide e5.symm
  have eK := hide e6.symm
  have eF := hide e7.symm
  clear e1 e2 e3 e4 e5 e6 e7
  obtain ⟨X, hX⟩ : ∃ X, X = (w.alloc (mCells ⟨E + 1, b, R + 1, m.c, m.p, m.k, m.f⟩)).alloc (.cells #[.int .i64 0, .int .i64 0, .int .i64 0, .int .i64 0, .int .i64 0, .int .i64 0, .int .i64 0] 23) := ⟨_, rfl⟩
  have hs1 : (w.alloc (mCells ⟨E + 1, b, R + 1, m.c, m.p, m.k, m.f⟩)).heap.size = w.heap.size + 1 := by simp
  have hbx := below_box (w.alloc (mCells ⟨E + 1, b, R + 1, m.c, m.p, m.k, m.f⟩)) (.cells #[.int .i64 0, .int .i64 0, .int .i64 0, .int .i64 0, .int .i64 0, .int .i64 0, .int .i64 0] 23)
  have HA := hide ((at7_new w ⟨E + 1, b, R + 1, m.c, m.p, m.k, m.f⟩).step hbx)
  have HZ := hide (at7_zero (w.alloc (mCells ⟨E + 1, b, R + 1, m.c, m.p, m.k, m.f⟩)) 23)
  have HB := hide (over (below_box w (mCells ⟨E + 1, b, R + 1, m.c, m.p, m.k, m.f⟩)) hbx (by omega))
  rw [hs1] at HZ
  rw [← hX] at HA HZ HB
  unfold mCells at hX
  have HX := hide hX.symm
  clear hX hs1 hbx
  unfold M.val
  by_cases hc : m.c = 0
  · have hc1 : (m.c != 0) = false := by simpa using hc
    rw [if_pos hc] at HV
    have HC0 := hide hc
    clear hc
    go_enter Tryd.func14, Tryd.ntmps14
    go_wp2_with fail
    refine (number_big _ _ _ (by omega) (by omega)).mono ?_
    rintro e wx ⟨rfl, rfl⟩
    rw [eE.out]
    go_wp2_with fail
    refine (number_big _ _ _ (by omega) (by omega)).mono ?_
    rintro e wx ⟨rfl, rfl⟩
    rw [eb.out]
    go_wp2_with fail
    refine (number_big _ _ _ (by omega) (by omega)).mono ?_
    rintro e wx ⟨rfl, rfl⟩
    rw [eR.out]
    go_upto_region 6 with fail
    rw [HX.out]
    rw [HC0.out] at HA
    clear HX hc1 HC0 eE eb eR eC
    have q : X.cell? ⟨w.heap.size, 4, none⟩ = some (.int .i64 m.p) := HA.out.cell 4 (by omega)
    have qf : X.frozen? ⟨w.heap.size, 4, none⟩ = false := HA.out.fz 4
    go_wp2_with fail
    refine (number_any _ _ _ (by omega) (by omega)).mono ?_
    rintro e X ⟨rfl, rfl⟩
    rw [eP.out]
    go_upto_region 7 with fail
    clear q qf eP
    replace HA := hide (HA.out.set 4 (by omega) (P + 1) (M.mk (E + 1) b (R + 1) 0 (P + 1) m.k m.f).nth (fun i hi => (nth_if _ _ _ _ _ _ _ _ i hi).2.1))
    replace HZ := hide (HZ.out.far w.heap.size 4 (.int .i64 (P + 1)) (by omega))
    replace HB := hide (HB.out.setCell (p := ⟨w.heap.size, 4, none⟩) (Nat.le_refl _) (.int .i64 (P + 1)))
    obtain ⟨W0, hW0⟩ : ∃ W0, W0 = X.setCell ⟨w.heap.size, 4, none⟩ (.int .i64 (P + 1)) := ⟨_, rfl⟩
    rw [← hW0] at HA HZ HB ⊢
    clear hW0
    have q : W0.cell? ⟨w.heap.size, 5, none⟩ = some (.int .i64 m.k) := HA.out.cell 5 (by omega)
    have qf : W0.frozen? ⟨w.heap.size, 5, none⟩ = false := HA.out.fz 5
    go_wp2_with fail
    refine (number_any _ _ _ (by omega) (by omega)).mono ?_
    rintro e W0 ⟨rfl, rfl⟩
    rw [eK.out]
    go_upto_region 8 with fail
    clear q qf eK
    replace HA := hide (HA.out.set 5 (by omega) (K + 1) (M.mk (E + 1) b (R + 1) 0 (P + 1) (K + 1) m.f).nth (fun i hi => (nth_if _ _ _ _ _ _ _ _ i hi).2.2.1))
    replace HZ := hide (HZ.out.far w.heap.size 5 (.int .i64 (K + 1)) (by omega))
    replace HB := hide (HB.out.setCell (p := ⟨w.heap.size, 5, none⟩) (Nat.le_refl _) (.int .i64 (K + 1)))
    obtain ⟨W1, hW1⟩ : ∃ W1, W1 = W0.setCell ⟨w.heap.size, 5, none⟩ (.int .i64 (K + 1)) := ⟨_, rfl⟩
    rw [← hW1] at HA HZ HB ⊢
    clear hW1
    have q : W1.cell? ⟨w.heap.size, 6, none⟩ = some (.int .i64 m.f) := HA.out.cell 6 (by omega)
    have qf : W1.frozen? ⟨w.heap.size, 6, none⟩ = false := HA.out.fz 6
    go_wp2_with fail
    refine (number_any _ _ _ (by omega) (by omega)).mono ?_
    rintro e W1 ⟨rfl, rfl⟩
    rw [eF.out]
    go_upto_region 9 with fail
    clear q qf eF
    replace HA := hide (HA.out.set 6 (by omega) (F + 1) (M.mk (E + 1) b (R + 1) 0 (P + 1) (K + 1) (F + 1)).nth (fun i hi => (nth_if _ _ _ _ _ _ _ _ i hi).2.2.2))
    replace HZ := hide (HZ.out.far w.heap.size 6 (.int .i64 (F + 1)) (by omega))
    replace HB := hide (HB.out.setCell (p := ⟨w.heap.size, 6, none⟩) (Nat.le_refl _) (.int .i64 (F + 1)))
    obtain ⟨W2, hW2⟩ : ∃ W2, W2 = W1.setCell ⟨w.heap.size, 6, none⟩ (.int .i64 (F + 1)) := ⟨_, rfl⟩
    rw [← hW2] at HA HZ HB ⊢
    clear hW2
    have a0 : W2.cell? ⟨w.heap.size, 0, none⟩ = some (.int .i64 (E + 1)) := HA.out.cell 0 (by omega)
    have a1 : W2.cell? ⟨w.heap.size, 1, none⟩ = some (.int .i64 b) := HA.out.cell 1 (by omega)
    have a2 : W2.cell? ⟨w.heap.size, 2, none⟩ = some (.int .i64 (R + 1)) := HA.out.cell 2 (by omega)
    have a3 : W2.cell? ⟨w.heap.size, 3, none⟩ = some (.int .i64 0) := HA.out.cell 3 (by omega)
    have a4 : W2.cell? ⟨w.heap.size, 4, none⟩ = some (.int .i64 (P + 1)) := HA.out.cell 4 (by omega)
    have a5 : W2.cell? ⟨w.heap.size, 5, none⟩ = some (.int .i64 (K + 1)) := HA.out.cell 5 (by omega)
    have a6 : W2.cell? ⟨w.heap.size, 6, none⟩ = some (.int .i64 (F + 1)) := HA.out.cell 6 (by omega)
    have z0 : W2.cell? ⟨w.heap.size + 1, 0, none⟩ = some (.int .i64 0) := HZ.out.cell 0 (by omega)
    have f0 : W2.frozen? ⟨w.heap.size + 1, 0, none⟩ = false := HZ.out.fz 0
    have z1 : W2.cell? ⟨w.heap.size + 1, 1, none⟩ = some (.int .i64 0) := HZ.out.cell 1 (by omega)
    have f1 : W2.frozen? ⟨w.heap.size + 1, 1, none⟩ = false := HZ.out.fz 1
    have z2 : W2.cell? ⟨w.heap.size + 1, 2, none⟩ = some (.int .i64 0) := HZ.out.cell 2 (by omega)
    have f2 : W2.frozen? ⟨w.heap.size + 1, 2, none⟩ = false := HZ.out.fz 2
    have z3 : W2.cell? ⟨w.heap.size + 1, 3, none⟩ = some (.int .i64 0) := HZ.out.cell 3 (by omega)
    have f3 : W2.frozen? ⟨w.heap.size + 1, 3, none⟩ = false := HZ.out.fz 3
    have z4 : W2.cell? ⟨w.heap.size + 1, 4, none⟩ = some (.int .i64 0) := HZ.out.cell 4 (by omega)
    have f4 : W2.frozen? ⟨w.heap.size + 1, 4, none⟩ = false := HZ.out.fz 4
    have z5 : W2.cell? ⟨w.heap.size + 1, 5, none⟩ = some (.int .i64 0) := HZ.out.cell 5 (by omega)
    have f5 : W2.frozen? ⟨w.heap.size + 1, 5, none⟩ = false := HZ.out.fz 5
    have z6 : W2.cell? ⟨w.heap.size + 1, 6, none⟩ = some (.int .i64 0) := HZ.out.cell 6 (by omega)
    have f6 : W2.frozen? ⟨w.heap.size + 1, 6, none⟩ = false := HZ.out.fz 6
    have hne : w.heap.size ≠ w.heap.size + 1 := by omega
    go_wp2_with fail
    exact bodyPost_ret (v := .agg #[.int .i64 (E + 1), .int .i64 b, .int .i64 (R + 1), .int .i64 0, .int .i64 (P + 1), .int .i64 (K + 1), .int .i64 (F + 1)]) (by simp [results, Tryd.results14, go_sem, *]) rfl ⟨by rw [HV.out], below_sets7b HB.out _ _ _ _ _ _ _⟩
  · have hc1 : (m.c != 0) = true := by simpa using hc
    rw [if_neg hc] at HV
    clear hc
    go_enter Tryd.func14, Tryd.ntmps14
    go_wp2_with fail
    refine (number_big _ _ _ (by omega) (by omega)).mono ?_
    rintro e wx ⟨rfl, rfl⟩
    rw [eE.out]
    go_wp2_with fail
    refine (number_big _ _ _ (by omega) (by omega)).mono ?_
    rintro e wx ⟨rfl, rfl⟩
    rw [eb.out]
    go_wp2_with fail
    refine (number_big _ _ _ (by omega) (by omega)).mono ?_
    rintro e wx ⟨rfl, rfl⟩
    rw [eR.out]
    go_upto_region 5 with fail
    rw [HX.out]
    have q1 : X.cell? ⟨w.heap.size, 1, none⟩ = some (.int .i64 b) := HA.out.cell 1 (by omega)
    have q3 : X.cell? ⟨w.heap.size, 3, none⟩ = some (.int .i64 m.c) := HA.out.cell 3 (by omega)
    have qf : X.frozen? ⟨w.heap.size, 3, none⟩ = false := HA.out.fz 3
    clear HX hc1 eE eb eR
    have HW1 : Hid (IntKind.i64.wrap (1073741824 - b) = 1073741824 - b) := wrap_in _ (by omega)
    have HW2 : Hid (IntKind.i64.wrap (b + 1) = b + 1) := wrap_in _ (by omega)
    have HW3 : Hid (IntKind.i64.wrap (b + 1 + C) = b + 1 + C) := wrap_in _ (by omega)
    apply dup
    case k =>
      intro TAIL
      go_region_with (go_at_call 16; rw [HW1.out]; refine (number_big _ _ _ (by omega) (by omega)).mono ?_; rintro e wx ⟨rfl, rfl⟩; rw [eC.out])
      all_goals exact TAIL.out
    case h =>
      rw [HW2.out, HW3.out]
      clear q1 q3 qf eC
      replace HA := hide ((HA.out.set 3 (by omega) (b + 1 + C) (M.mk (E + 1) b (R + 1) (b + 1 + C) m.p m.k m.f).nth (fun i hi => (nth_if _ _ _ _ _ _ _ _ i hi).1)).drew)
      replace HZ := hide ((HZ.out.far w.heap.size 3 (.int .i64 (b + 1 + C)) (by omega)).drew)
      replace HB := hide (below_drew (HB.out.setCell (p := ⟨w.heap.size, 3, none⟩) (Nat.le_refl _) (.int .i64 (b + 1 + C))))
      obtain ⟨Y, hY⟩ : ∃ Y, Y = (X.setCell ⟨w.heap.size, 3, none⟩ (.int .i64 (b + 1 + C))).drew := ⟨_, rfl⟩
      rw [← hY] at HA HZ HB ⊢
      clear hY X
      have q : Y.cell? ⟨w.heap.size, 4, none⟩ = some (.int .i64 m.p) := HA.out.cell 4 (by omega)
      have qf : Y.frozen? ⟨w.heap.size, 4, none⟩ = false := HA.out.fz 4
      go_wp2_with fail
      refine (number_any _ _ _ (by omega) (by omega)).mono ?_
      rintro e Y ⟨rfl, rfl⟩
      rw [eP.out]
      go_upto_region 7 with fail
      clear q qf eP
      replace HA := hide (HA.out.set 4 (by omega) (P + 1) (M.mk (E + 1) b (R + 1) (b + 1 + C) (P + 1) m.k m.f).nth (fun i hi => (nth_if _ _ _ _ _ _ _ _ i hi).2.1))
      replace HZ := hide (HZ.out.far w.heap.size 4 (.int .i64 (P + 1)) (by omega))
      replace HB := hide (HB.out.setCell (p := ⟨w.heap.size, 4, none⟩) (Nat.le_refl _) (.int .i64 (P + 1)))
      obtain ⟨W0, hW0⟩ : ∃ W0, W0 = Y.setCell ⟨w.heap.size, 4, none⟩ (.int .i64 (P + 1)) := ⟨_, rfl⟩
      rw [← hW0] at HA HZ HB ⊢
      clear hW0
      have q : W0.cell? ⟨w.heap.size, 5, none⟩ = some (.int .i64 m.k) := HA.out.cell 5 (by omega)
      have qf : W0.frozen? ⟨w.heap.size, 5, none⟩ = false := HA.out.fz 5
      go_wp2_with fail
      refine (number_any _ _ _ (by omega) (by omega)).mono ?_
      rintro e W0 ⟨rfl, rfl⟩
      rw [eK.out]
      go_upto_region 8 with fail
      clear q qf eK
      replace HA := hide (HA.out.set 5 (by omega) (K + 1) (M.mk (E + 1) b (R + 1) (b + 1 + C) (P + 1) (K + 1) m.f).nth (fun i hi => (nth_if _ _ _ _ _ _ _ _ i hi).2.2.1))
      replace HZ := hide (HZ.out.far w.heap.size 5 (.int .i64 (K + 1)) (by omega))
      replace HB := hide (HB.out.setCell (p := ⟨w.heap.size, 5, none⟩) (Nat.le_refl _) (.int .i64 (K + 1)))
      obtain ⟨W1, hW1⟩ : ∃ W1, W1 = W0.setCell ⟨w.heap.size, 5, none⟩ (.int .i64 (K + 1)) := ⟨_, rfl⟩
      rw [← hW1] at HA HZ HB ⊢
      clear hW1
      have q : W1.cell? ⟨w.heap.size, 6, none⟩ = some (.int .i64 m.f) := HA.out.cell 6 (by omega)
      have qf : W1.frozen? ⟨w.heap.size, 6, none⟩ = false := HA.out.fz 6
      go_wp2_with fail
      refine (number_any _ _ _ (by omega) (by omega)).mono ?_
      rintro e W1 ⟨rfl, rfl⟩
      rw [eF.out]
      go_upto_region 9 with fail
      clear q qf eF
      replace HA := hide (HA.out.set 6 (by omega) (F + 1) (M.mk (E + 1) b (R + 1) (b + 1 + C) (P + 1) (K + 1) (F + 1)).nth (fun i hi => (nth_if _ _ _ _ _ _ _ _ i hi).2.2.2))
      replace HZ := hide (HZ.out.far w.heap.size 6 (.int .i64 (F + 1)) (by omega))
      replace HB := hide (HB.out.setCell (p := ⟨w.heap.size, 6, none⟩) (Nat.le_refl _) (.int .i64 (F + 1)))
      obtain ⟨W2, hW2⟩ : ∃ W2, W2 = W1.setCell ⟨w.heap.size, 6, none⟩ (.int .i64 (F + 1)) := ⟨_, rfl⟩
      rw [← hW2] at HA HZ HB ⊢
      clear hW2
      have a0 : W2.cell? ⟨w.heap.size, 0, none⟩ = some (.int .i64 (E + 1)) := HA.out.cell 0 (by omega)
      have a1 : W2.cell? ⟨w.heap.size, 1, none⟩ = some (.int .i64 b) := HA.out.cell 1 (by omega)
      have a2 : W2.cell? ⟨w.heap.size, 2, none⟩ = some (.int .i64 (R + 1)) := HA.out.cell 2 (by omega)
      have a3 : W2.cell? ⟨w.heap.size, 3, none⟩ = some (.int .i64 (b + 1 + C)) := HA.out.cell 3 (by omega)
      have a4 : W2.cell? ⟨w.heap.size, 4, none⟩ = some (.int .i64 (P + 1)) := HA.out.cell 4 (by omega)
      have a5 : W2.cell? ⟨w.heap.size, 5, none⟩ = some (.int .i64 (K + 1)) := HA.out.cell 5 (by omega)
      have a6 : W2.cell? ⟨w.heap.size, 6, none⟩ = some (.int .i64 (F + 1)) := HA.out.cell 6 (by omega)
      have z0 : W2.cell? ⟨w.heap.size + 1, 0, none⟩ = some (.int .i64 0) := HZ.out.cell 0 (by omega)
      have f0 : W2.frozen? ⟨w.heap.size + 1, 0, none⟩ = false := HZ.out.fz 0
      have z1 : W2.cell? ⟨w.heap.size + 1, 1, none⟩ = some (.int .i64 0) := HZ.out.cell 1 (by omega)
      have f1 : W2.frozen? ⟨w.heap.size + 1, 1, none⟩ = false := HZ.out.fz 1
      have z2 : W2.cell? ⟨w.heap.size + 1, 2, none⟩ = some (.int .i64 0) := HZ.out.cell 2 (by omega)
      have f2 : W2.frozen? ⟨w.heap.size + 1, 2, none⟩ = false := HZ.out.fz 2
      have z3 : W2.cell? ⟨w.heap.size + 1, 3, none⟩ = some (.int .i64 0) := HZ.out.cell 3 (by omega)
      have f3 : W2.frozen? ⟨w.heap.size + 1, 3, none⟩ = false := HZ.out.fz 3
      have z4 : W2.cell? ⟨w.heap.size + 1, 4, none⟩ = some (.int .i64 0) := HZ.out.cell 4 (by omega)
      have f4 : W2.frozen? ⟨w.heap.size + 1, 4, none⟩ = false := HZ.out.fz 4
      have z5 : W2.cell? ⟨w.heap.size + 1, 5, none⟩ = some (.int .i64 0) := HZ.out.cell 5 (by omega)
      have f5 : W2.frozen? ⟨w.heap.size + 1, 5, none⟩ = false := HZ.out.fz 5
      have z6 : W2.cell? ⟨w.heap.size + 1, 6, none⟩ = some (.int .i64 0) := HZ.out.cell 6 (by omega)
      have f6 : W2.frozen? ⟨w.heap.size + 1, 6, none⟩ = false := HZ.out.fz 6
      have hne : w.heap.size ≠ w.heap.size + 1 := by omega
      go_wp2_with fail
      exact bodyPost_ret (v := .agg #[.int .i64 (E + 1), .int .i64 b, .int .i64 (R + 1), .int .i64 (b + 1 + C), .int .i64 (P + 1), .int .i64 (K + 1), .int .i64 (F + 1)]) (by simp [results, Tryd.results14, go_sem, *]) rfl ⟨by rw [HV.out], below_sets7b HB.out _ _ _ _ _ _ _⟩
end Go.Proofs.YtjdfmpdkfbhdkaaDoor
