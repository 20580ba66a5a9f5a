
/- What the document's own GoodRec answers: the same as rec.Check. -/
import Derived.Test.YticaldoggdfjiaaDoorRecRead
namespace Go.Proofs.YticaldoggdfjiaaDoor
open Go.RowKit
set_option linter.unusedVariables false

set_option maxHeartbeats 400000 in
theorem from_any (n lo hi : Int) (b : Bool) (w : World) (h : holdsB lo hi n = b) : Calls Tryd.prog 36 #[.int .i64 n, .int .i64 lo, .int .i64 hi] w fun e w' => e = .returned (.bool b) ∧ w' = w := by
  subst h
  go_enter Tryd.func36, Tryd.ntmps36
  go_wp2
  all_goals
    go_ret
    refine ⟨ret_bool ?_, rfl⟩
    unfold holdsB
    simp
    omega
theorem holds00 (n : Int) : holdsB 0 0 n = (n == 0) := by
  unfold holdsB
  by_cases h : n = 0
  · simp [h]
  · have : (n == 0) = false := by simpa using h
    rw [this, Bool.and_eq_false_iff]
    by_cases h0 : 0 ≤ n
    · exact .inr (decide_eq_false (by omega))
    · exact .inl (decide_eq_false h0)
theorem good1 (txn page prev next key : Int) (had has : Bool) (old new : Int) : goodB ⟨1, txn, page, prev, next, key, had, has, old, new⟩ = (holdsB 1 60000 txn && (holdsB 0 0 page && (holdsB 0 0 prev && (holdsB 0 0 next && (holdsB 0 0 key && ((!had && (old == 0)) && ((!has && (new == 0)) && true))))))) := rfl
set_option maxRecDepth 100000 in
set_option maxHeartbeats 4000000 in
theorem goodRec1 (txn page prev next key : Int) (had has : Bool) (old new : Int) (w : World) : Calls Tryd.prog 15 #[(R.mk 1 txn page prev next key had has old new).val] w fun e w' => e = .returned (.bool (goodB ⟨1, txn, page, prev, next, key, had, has, old, new⟩)) ∧ Below w.heap.size w w' := by
  rw [good1]
  unfold R.val
  simp only
  go_enter Tryd.func15, Tryd.ntmps15
  go_wp2_with (go_at_call 36; refine (from_any _ _ _ _ _ rfl).mono ?_; rintro e w2 ⟨rfl, rfl⟩)
  all_goals
    go_ret
    refine ⟨ret_bool ?_, below_box _ _⟩
    simp_all [holds00]
theorem good2 (txn page prev next key : Int) (had has : Bool) (old new : Int) : goodB ⟨2, txn, page, prev, next, key, had, has, old, new⟩ = (holdsB 1 60000 txn && (holdsB 1 32 page && (holdsB 0 1073741824 prev && (holdsB 0 0 next && (holdsB 0 1048575 key && ((had || (old == 0)) && ((has || (new == 0)) && (had || has)))))))) := rfl
set_option maxRecDepth 100000 in
set_option maxHeartbeats 4000000 in
theorem goodRec2 (txn page prev next key : Int) (had has : Bool) (old new : Int) (w : World) : Calls Tryd.prog 15 #[(R.mk 2 txn page prev next key had has old new).val] w fun e w' => e = .returned (.bool (goodB ⟨2, txn, page, prev, next, key, had, has, old, new⟩)) ∧ Below w.heap.size w w' := by
  rw [good2]
  unfold R.val
  simp only
  cases had <;> cases has
  all_goals
    go_enter Tryd.func15, Tryd.ntmps15
    go_wp2_with (go_at_call 36; refine (from_any _ _ _ _ _ rfl).mono ?_; rintro e w2 ⟨rfl, rfl⟩)
    all_goals
      go_ret
      refine ⟨ret_bool ?_, below_box _ _⟩
      simp_all
theorem good3 (txn page prev next key : Int) (had has : Bool) (old new : Int) : goodB ⟨3, txn, page, prev, next, key, had, has, old, new⟩ = (holdsB 1 60000 txn && (holdsB 1 32 page && (holdsB 0 1073741824 prev && (holdsB 0 1073741824 next && (holdsB 0 1048575 key && ((had && (decide (1 ≤ old) && decide (old ≤ 1073741824))) && ((has || (new == 0)) && true))))))) := rfl
set_option maxRecDepth 100000 in
set_option maxHeartbeats 4000000 in
theorem goodRec3 (txn page prev next key : Int) (had has : Bool) (old new : Int) (w : World) : Calls Tryd.prog 15 #[(R.mk 3 txn page prev next key had has old new).val] w fun e w' => e = .returned (.bool (goodB ⟨3, txn, page, prev, next, key, had, has, old, new⟩)) ∧ Below w.heap.size w w' := by
  rw [good3]
  unfold R.val
  simp only
  go_enter Tryd.func15, Tryd.ntmps15
  go_wp2_with (go_at_call 36; refine (from_any _ _ _ _ _ rfl).mono ?_; rintro e w2 ⟨rfl, rfl⟩)
  all_goals
    go_ret
    refine ⟨ret_bool ?_, below_box _ _⟩
    simp_all
    try (intros; omega)
end Go.Proofs.YticaldoggdfjiaaDoor
