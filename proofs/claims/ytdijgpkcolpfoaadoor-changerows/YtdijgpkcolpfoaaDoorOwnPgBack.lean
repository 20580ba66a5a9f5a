
/- Plain lemmas on changes and what undoes them; a record's block. -/
import Derived.Test.YtdijgpkcolpfoaaDoorJoin25
namespace Go.Proofs.YtdijgpkcolpfoaaDoor
open Go.RowKit
set_option linter.unusedVariables false

theorem cells10_of {w : World} {B : Nat} {r : R} (h : w.heap[B]? = some (.cells #[.int .i64 r.kind, .int .i64 r.txn, .int .i64 r.page, .int .i64 r.prev, .int .i64 r.next, .int .i64 r.key, .bool r.had, .bool r.has, .int .i64 r.old, .int .i64 r.new] 60 (0, 0))) : Cells10 w B r :=
  ⟨(cell_row h 0).trans rfl, (cell_row h 1).trans rfl, (cell_row h 2).trans rfl, (cell_row h 3).trans rfl, (cell_row h 4).trans rfl, (cell_row h 5).trans rfl, (cell_row h 6).trans rfl, (cell_row h 7).trans rfl, (cell_row h 8).trans rfl, (cell_row h 9).trans rfl, lt_of_block h⟩
theorem canPut_few {es : List (Int × Int)} (key : Int) (h : es.length < 20) : canPut es key = true := by
  unfold canPut
  rw [decide_eq_true h, Bool.or_true]
theorem okD_few (r : R) {es : List (Int × Int)} (h : es.length < 20) : okD r es = true := by
  unfold okD
  rw [canPut_few _ h, Bool.or_true]
theorem doneE_few (r : R) {es : List (Int × Int)} (h : es.length < 20) : doneE r es = if r.has = true then insE r.key r.new es else remE r.key es := by
  unfold doneE putE
  rw [canPut_few _ h, if_pos rfl]
theorem Up.done {r : R} {es : List (Int × Int)} (hu : Up es) (h : es.length < 20) : Up (doneE r es) := by
  rw [doneE_few r h]
  split
  · exact hu.ins _ _
  · exact hu.rem _
theorem len_done (r : R) {es : List (Int × Int)} (hu : Up es) (h : es.length < 20) : (doneE r es).length ≤ es.length + 1 := by
  rw [doneE_few r h]
  split
  · rw [len_ins es hu]; split <;> omega
  · have := len_rem_le es r.key; omega
/-- What the value of a key is behind a change. -/
theorem val_done (r : R) {es : List (Int × Int)} (h : es.length < 20) (k : Int) : valE (doneE r es) k = if r.key = k then (if r.has = true then some r.new else none) else valE es k := by
  rw [doneE_few r h]
  split
  · rw [val_ins]
  · rw [val_rem]
/-- A change and what undoes it leave the keys as they were. -/
theorem done_back {es : List (Int × Int)} {r c : R} (hu : Up es) (h : es.length < 19) (hk : c.key = r.key) (hh : c.has = hasE es r.key) (hn : c.new = (valE es r.key).getD 0) : doneE c (doneE r es) = es := by
  have h1 := len_done r hu (by omega)
  refine up_ext ((hu.done (by omega)).done (by omega)) hu fun k => ?_
  rw [val_done c (by omega), val_done r (by omega), hk]
  by_cases e : r.key = k
  · subst e
    rw [if_pos rfl, hh, hn]
    unfold hasE
    cases valE es r.key with
    | none => rfl
    | some y => rfl
  · rw [if_neg e, if_neg e]
/-- Changes of unlike keys come to the same keys in either order. -/
theorem done_apart {es : List (Int × Int)} {r s : R} (hu : Up es) (h : es.length < 19) (hk : r.key ≠ s.key) : doneE s (doneE r es) = doneE r (doneE s es) := by
  have h1 := len_done r hu (by omega)
  have h2 := len_done s hu (by omega)
  refine up_ext ((hu.done (by omega)).done (by omega)) ((hu.done (by omega)).done (by omega)) fun k => ?_
  rw [val_done s (by omega), val_done r (by omega), val_done r (by omega), val_done s (by omega)]
  by_cases e : s.key = k
  · have hne : ¬ r.key = k := fun h => hk (h.trans e.symm)
    rw [if_pos e, if_neg hne, if_pos e]
  · rw [if_neg e, if_neg e]
end Go.Proofs.YtdijgpkcolpfoaaDoor
