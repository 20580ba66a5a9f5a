
/- What change.Undo answers; and what the chapter's examples on changes are. -/
import Derived.Test.YtefgmlmhdjckaaaDoorOwnPgRedo
import Derived.Test.YtefgmlmhdjckaaaDoorJoin7
namespace Go.Proofs.YtefgmlmhdjckaaaDoor
open Go.RowKit
set_option linter.unusedVariables false

/-- What undoes a record. -/
def undoR (r : R) (lsn last next : Int) : R := if r.kind = 2 then ⟨3, r.txn, r.page, last, next, r.key, true, r.had, lsn, r.old⟩ else ⟨0, 0, 0, 0, 0, 0, false, false, 0, 0⟩
theorem undoR_yes {r : R} (h : r.kind = 2) (lsn last next : Int) : undoR r lsn last next = ⟨3, r.txn, r.page, last, next, r.key, true, r.had, lsn, r.old⟩ := by unfold undoR; rw [if_pos h]
theorem undoR_no {r : R} (h : ¬ r.kind = 2) (lsn last next : Int) : undoR r lsn last next = ⟨0, 0, 0, 0, 0, 0, false, false, 0, 0⟩ := by unfold undoR; rw [if_neg h]
theorem set10 {B : Nat} {a w : World} (h : Below B a w) {Q : Nat} (hQ : B ≤ Q) (v0 v1 v2 v3 v4 v5 v6 v7 v8 v9 : Value) : Below B a ((((((((((w.setCell ⟨Q, 0, none⟩ v0).setCell ⟨Q, 1, none⟩ v1).setCell ⟨Q, 2, none⟩ v2).setCell ⟨Q, 3, none⟩ v3).setCell ⟨Q, 4, none⟩ v4).setCell ⟨Q, 5, none⟩ v5).setCell ⟨Q, 6, none⟩ v6).setCell ⟨Q, 7, none⟩ v7).setCell ⟨Q, 8, none⟩ v8).setCell ⟨Q, 9, none⟩ v9) :=
  (((((((((h.setCell (p := ⟨Q, 0, none⟩) hQ v0).setCell (p := ⟨Q, 1, none⟩) hQ v1).setCell (p := ⟨Q, 2, none⟩) hQ v2).setCell (p := ⟨Q, 3, none⟩) hQ v3).setCell (p := ⟨Q, 4, none⟩) hQ v4).setCell (p := ⟨Q, 5, none⟩) hQ v5).setCell (p := ⟨Q, 6, none⟩) hQ v6).setCell (p := ⟨Q, 7, none⟩) hQ v7).setCell (p := ⟨Q, 8, none⟩) hQ v8).setCell (p := ⟨Q, 9, none⟩) hQ v9
set_option maxRecDepth 100000 in
set_option maxHeartbeats 4000000 in
theorem undo_any (r : R) (lsn last next : Int) (w : World) (h0 : -9223372036854775808 ≤ lsn ∧ lsn ≤ 9223372036854775807) : Calls Tryd.prog 34 #[r.val, .int .i64 lsn, .int .i64 last, .int .i64 next] w fun e w' => e = .returned (.tuple #[(undoR r lsn last next).val, .bool (decide (r.kind = 2))]) ∧ Below w.heap.size w w' := by
  obtain ⟨k, b1, b2, b3, b4, b5, b6, b7, b8, b9⟩ := r
  have hb1 := below_box w (recCells ⟨k, b1, b2, b3, b4, b5, b6, b7, b8, b9⟩)
  have hb2 := below_box (w.alloc (recCells ⟨k, b1, b2, b3, b4, b5, b6, b7, b8, b9⟩)) (recCells ⟨0, 0, 0, 0, 0, 0, false, false, 0, 0⟩)
  have HB := hide (over hb1 hb2 hb1.size)
  have hsz : (w.alloc (recCells ⟨k, b1, b2, b3, b4, b5, b6, b7, b8, b9⟩)).heap.size = w.heap.size + 1 := by simp
  have hc := (cells10_new w ⟨k, b1, b2, b3, b4, b5, b6, b7, b8, b9⟩).step hb2
  have hz := cells10_new (w.alloc (recCells ⟨k, b1, b2, b3, b4, b5, b6, b7, b8, b9⟩)) ⟨0, 0, 0, 0, 0, 0, false, false, 0, 0⟩
  have hl := heap_alloc_new (w.alloc (recCells ⟨k, b1, b2, b3, b4, b5, b6, b7, b8, b9⟩)) (recCells ⟨0, 0, 0, 0, 0, 0, false, false, 0, 0⟩)
  rw [hsz] at hz hl
  obtain ⟨X, hX⟩ : ∃ X, X = (w.alloc (recCells ⟨k, b1, b2, b3, b4, b5, b6, b7, b8, b9⟩)).alloc (recCells ⟨0, 0, 0, 0, 0, 0, false, false, 0, 0⟩) := ⟨_, rfl⟩
  rw [← hX] at HB hc hz hl
  have HX := hide hX
  unfold recCells at HX hl
  obtain ⟨B3, hB3⟩ : ∃ B3, B3 = w.heap.size := ⟨_, rfl⟩
  have HB3 := hide hB3
  rw [← hB3] at hc hz hl
  obtain ⟨B4, hB4⟩ : ∃ B4, B4 = B3 + 1 := ⟨_, rfl⟩
  have HB4 := hide hB4
  rw [← hB4] at hz hl
  have HLO : Hid (w.heap.size ≤ B4) := by show w.heap.size ≤ B4; omega
  have hf : ∀ i, X.frozen? ⟨B4, i, none⟩ = false := fun i => by simp [World.frozen?, hl]
  clear hb1 hb2 hsz hX hl hB3 hB4
  have f0 := hf 0
  have f1 := hf 1
  have f2 := hf 2
  have f3 := hf 3
  have f4 := hf 4
  have f5 := hf 5
  have f6 := hf 6
  have f7 := hf 7
  have f8 := hf 8
  have f9 := hf 9
  clear hf
  obtain ⟨r0, r1, r2, r3, r4, r5, r6, r7, r8, r9, rl⟩ := hc
  obtain ⟨z0, z1, z2, z3, z4, z5, z6, z7, z8, z9, zl⟩ := hz
  simp only at r0 r1 r2 r3 r4 r5 r6 r7 r8 r9 z0 z1 z2 z3 z4 z5 z6 z7 z8 z9
  clear rl zl
  have hw : IntKind.i64.wrap lsn = lsn := by rw [IntKind.wrap_i64]; omega
  by_cases hk : k = 2
  · have HV := hide (undoR_yes (r := ⟨k, b1, b2, b3, b4, b5, b6, b7, b8, b9⟩) hk lsn last next)
    have hk' : (k != 2) = false := by simpa using hk
    have HD : Hid (decide (k = 2) = true) := decide_eq_true hk
    rw [HV.out]
    unfold R.val
    simp only
    rw [HD.out]
    subst hk
    go_enter Tryd.func34, Tryd.ntmps34
    go_upto_region 1 with fail
    simp only at HX
    rw [← HX.out, ← HB3.out, ← HB4.out]
    go_wp2_with fail
    exact bodyPost_ret (by simp [results, Tryd.results34, go_sem, *]) rfl ⟨rfl, set10 HB.out HLO.out _ _ _ _ _ _ _ _ _ _⟩
  · have HV := hide (undoR_no (r := ⟨k, b1, b2, b3, b4, b5, b6, b7, b8, b9⟩) hk lsn last next)
    have hk' : (k != 2) = true := by simpa using hk
    have HD : Hid (decide (k = 2) = false) := decide_eq_false hk
    rw [HV.out]
    unfold R.val
    simp only
    rw [HD.out]
    go_enter Tryd.func34, Tryd.ntmps34
    go_upto_region 1 with fail
    simp only at HX
    rw [← HX.out, ← HB3.out, ← HB4.out]
    go_wp2_with fail
    exact bodyPost_ret (by simp [results, Tryd.results34, go_sem, *]) rfl ⟨rfl, set10 HB.out HLO.out _ _ _ _ _ _ _ _ _ _⟩
end Go.Proofs.YtefgmlmhdjckaaaDoor
