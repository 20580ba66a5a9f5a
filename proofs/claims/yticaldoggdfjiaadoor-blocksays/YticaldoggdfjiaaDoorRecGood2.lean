
/- What the document's own GoodRec answers: the same as rec.Check. -/
import Derived.Test.YticaldoggdfjiaaDoorRecGood
namespace Go.Proofs.YticaldoggdfjiaaDoor
open Go.RowKit
set_option linter.unusedVariables false

theorem good4 (txn page prev next key : Int) (had has : Bool) (old new : Int) : goodB ⟨4, txn, page, prev, next, key, had, has, old, new⟩ = (holdsB 1 60000 txn && (holdsB 0 0 page && (holdsB 0 1073741824 prev && (holdsB 0 0 next && (holdsB 0 0 key && ((!had && (old == 0)) && ((!has && (new == 0)) && true))))))) := rfl
set_option maxRecDepth 100000 in
set_option maxHeartbeats 4000000 in
theorem goodRec4 (txn page prev next key : Int) (had has : Bool) (old new : Int) (w : World) : Calls Tryd.prog 15 #[(R.mk 4 txn page prev next key had has old new).val] w fun e w' => e = .returned (.bool (goodB ⟨4, txn, page, prev, next, key, had, has, old, new⟩)) ∧ Below w.heap.size w w' := by
  rw [good4]
  unfold R.val
  simp only
  go_enter Tryd.func15, Tryd.ntmps15
  go_wp2_with (go_at_call 36; refine (from_any _ _ _ _ _ rfl).mono ?_; rintro e w2 ⟨rfl, rfl⟩)
  all_goals
    go_ret
    refine ⟨ret_bool ?_, below_box _ _⟩
    simp_all [holds00]
theorem good5 (txn page prev next key : Int) (had has : Bool) (old new : Int) : goodB ⟨5, txn, page, prev, next, key, had, has, old, new⟩ = (holdsB 1 60000 txn && (holdsB 0 0 page && (holdsB 0 1073741824 prev && (holdsB 0 0 next && (holdsB 0 0 key && ((!had && (old == 0)) && ((!has && (new == 0)) && true))))))) := rfl
set_option maxRecDepth 100000 in
set_option maxHeartbeats 4000000 in
theorem goodRec5 (txn page prev next key : Int) (had has : Bool) (old new : Int) (w : World) : Calls Tryd.prog 15 #[(R.mk 5 txn page prev next key had has old new).val] w fun e w' => e = .returned (.bool (goodB ⟨5, txn, page, prev, next, key, had, has, old, new⟩)) ∧ Below w.heap.size w w' := by
  rw [good5]
  unfold R.val
  simp only
  go_enter Tryd.func15, Tryd.ntmps15
  go_wp2_with (go_at_call 36; refine (from_any _ _ _ _ _ rfl).mono ?_; rintro e w2 ⟨rfl, rfl⟩)
  all_goals
    go_ret
    refine ⟨ret_bool ?_, below_box _ _⟩
    simp_all [holds00]
theorem good6 (txn page prev next key : Int) (had has : Bool) (old new : Int) : goodB ⟨6, txn, page, prev, next, key, had, has, old, new⟩ = (holdsB 1 60000 txn && (holdsB 0 0 page && (holdsB 0 1073741824 prev && (holdsB 0 0 next && (holdsB 0 0 key && ((!had && (old == 0)) && ((!has && (new == 0)) && true))))))) := rfl
set_option maxRecDepth 100000 in
set_option maxHeartbeats 4000000 in
theorem goodRec6 (txn page prev next key : Int) (had has : Bool) (old new : Int) (w : World) : Calls Tryd.prog 15 #[(R.mk 6 txn page prev next key had has old new).val] w fun e w' => e = .returned (.bool (goodB ⟨6, txn, page, prev, next, key, had, has, old, new⟩)) ∧ Below w.heap.size w w' := by
  rw [good6]
  unfold R.val
  simp only
  go_enter Tryd.func15, Tryd.ntmps15
  go_wp2_with (go_at_call 36; refine (from_any _ _ _ _ _ rfl).mono ?_; rintro e w2 ⟨rfl, rfl⟩)
  all_goals
    go_ret
    refine ⟨ret_bool ?_, below_box _ _⟩
    simp_all [holds00]
theorem good7 (txn page prev next key : Int) (had has : Bool) (old new : Int) : goodB ⟨7, txn, page, prev, next, key, had, has, old, new⟩ = (holdsB 0 0 txn && (holdsB 0 0 page && (holdsB 0 0 prev && (holdsB 0 0 next && (holdsB 0 0 key && ((!had && (old == 0)) && ((!has && (new == 0)) && true))))))) := rfl
set_option maxRecDepth 100000 in
set_option maxHeartbeats 4000000 in
theorem goodRec7 (txn page prev next key : Int) (had has : Bool) (old new : Int) (w : World) : Calls Tryd.prog 15 #[(R.mk 7 txn page prev next key had has old new).val] w fun e w' => e = .returned (.bool (goodB ⟨7, txn, page, prev, next, key, had, has, old, new⟩)) ∧ Below w.heap.size w w' := by
  rw [good7]
  unfold R.val
  simp only
  go_enter Tryd.func15, Tryd.ntmps15
  go_wp2_with (go_at_call 36; refine (from_any _ _ _ _ _ rfl).mono ?_; rintro e w2 ⟨rfl, rfl⟩)
  all_goals
    go_ret
    refine ⟨ret_bool ?_, below_box _ _⟩
    simp_all [holds00]
end Go.Proofs.YticaldoggdfjiaaDoor
