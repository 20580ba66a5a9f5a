/- Lemmas and contracts that the law stands on, joined: RecSpans. -/
import Derived.Test.YtjacenhblclkaaaDoorJoin5
import Derived.Test.YtjacenhblclkaaaDoorJoin4
/- What the small functions of package rec answer: the spans, what Old, New and a change must be, the mark. -/
namespace Go.Proofs.YtjacenhblclkaaaDoor
open Go.RowKit
set_option linter.unusedVariables false

def pairV (lo hi : Int) : Value := .agg #[.int .i64 lo, .int .i64 hi]
theorem below_box (w : World) (x : Obj) : Below w.heap.size w (w.alloc x) := (Below.refl _ _).alloc (Nat.le_refl _) x
theorem ret_pair {a b c d : Int} (h : a = c) (h' : b = d) : Ending.returned (.agg #[.int .i64 a, .int .i64 b]) = .returned (pairV c d) := by subst h; subst h'; rfl
set_option maxHeartbeats 400000 in
theorem holds_any (lo hi n : Int) (b : Bool) (w : World) (h : holdsB lo hi n = b) : Calls Tryd.prog 63 #[pairV lo hi, .int .i64 n] w fun e w' => e = .returned (.bool b) ∧ Below w.heap.size w w' := by
  subst h
  unfold pairV
  go_enter Tryd.func63, Tryd.ntmps63
  go_wp2
  all_goals
    go_ret
    refine ⟨ret_bool ?_, below_box _ _⟩
    unfold holdsB
    simp
    omega
set_option maxHeartbeats 1000000 in
theorem txnSpan_any (k : Int) (w : World) : Calls Tryd.prog 64 #[.int .i64 k] w fun e w' => e = .returned (pairV (txnLo k) (txnHi k)) ∧ Below w.heap.size w w' := by
  go_enter Tryd.func64, Tryd.ntmps64
  go_wp2
  all_goals first | (refine bodyPost_ret (v := .agg #[.int .i64 1, .int .i64 60000]) ?_ rfl ⟨ret_pair ?_ ?_, below_box _ _⟩; · (simp [results, Tryd.results64, go_sem]; done)) | (refine bodyPost_ret (v := .agg #[.int .i64 0, .int .i64 0]) ?_ rfl ⟨ret_pair ?_ ?_, below_box _ _⟩; · (simp [results, Tryd.results64, go_sem]; done))
  all_goals
    first | rfl | (try unfold txnLo
                   try unfold txnHi
                   simp only [beq_iff_eq, beq_eq_false_iff_ne, ne_eq] at *
                   repeat' split
                   all_goals omega)
set_option maxHeartbeats 1000000 in
theorem pageSpan_any (k : Int) (w : World) : Calls Tryd.prog 65 #[.int .i64 k] w fun e w' => e = .returned (pairV (pageLo k) (pageHi k)) ∧ Below w.heap.size w w' := by
  go_enter Tryd.func65, Tryd.ntmps65
  go_wp2
  all_goals first | (refine bodyPost_ret (v := .agg #[.int .i64 1, .int .i64 32]) ?_ rfl ⟨ret_pair ?_ ?_, below_box _ _⟩; · (simp [results, Tryd.results65, go_sem]; done)) | (refine bodyPost_ret (v := .agg #[.int .i64 0, .int .i64 0]) ?_ rfl ⟨ret_pair ?_ ?_, below_box _ _⟩; · (simp [results, Tryd.results65, go_sem]; done))
  all_goals
    first | rfl | (try unfold pageLo
                   try unfold pageHi
                   simp only [beq_iff_eq, beq_eq_false_iff_ne, ne_eq] at *
                   repeat' split
                   all_goals omega)
set_option maxHeartbeats 1000000 in
theorem prevSpan_any (k : Int) (w : World) : Calls Tryd.prog 66 #[.int .i64 k] w fun e w' => e = .returned (pairV (prevLo k) (prevHi k)) ∧ Below w.heap.size w w' := by
  go_enter Tryd.func66, Tryd.ntmps66
  go_wp2
  all_goals first | (refine bodyPost_ret (v := .agg #[.int .i64 0, .int .i64 0]) ?_ rfl ⟨ret_pair ?_ ?_, below_box _ _⟩; · (simp [results, Tryd.results66, go_sem]; done)) | (refine bodyPost_ret (v := .agg #[.int .i64 1, .int .i64 1073741824]) ?_ rfl ⟨ret_pair ?_ ?_, below_box _ _⟩; · (simp [results, Tryd.results66, go_sem]; done)) | (refine bodyPost_ret (v := .agg #[.int .i64 0, .int .i64 1073741824]) ?_ rfl ⟨ret_pair ?_ ?_, below_box _ _⟩; · (simp [results, Tryd.results66, go_sem]; done))
  all_goals
    first | rfl | (try unfold prevLo
                   try unfold prevHi
                   simp only [beq_iff_eq, beq_eq_false_iff_ne, ne_eq] at *
                   repeat' split
                   all_goals omega)
set_option maxHeartbeats 1000000 in
theorem nextSpan_any (k : Int) (w : World) : Calls Tryd.prog 67 #[.int .i64 k] w fun e w' => e = .returned (pairV (0) (nextHi k)) ∧ Below w.heap.size w w' := by
  go_enter Tryd.func67, Tryd.ntmps67
  go_wp2
  all_goals first | (refine bodyPost_ret (v := .agg #[.int .i64 0, .int .i64 1073741824]) ?_ rfl ⟨ret_pair ?_ ?_, below_box _ _⟩; · (simp [results, Tryd.results67, go_sem]; done)) | (refine bodyPost_ret (v := .agg #[.int .i64 0, .int .i64 60000]) ?_ rfl ⟨ret_pair ?_ ?_, below_box _ _⟩; · (simp [results, Tryd.results67, go_sem]; done)) | (refine bodyPost_ret (v := .agg #[.int .i64 0, .int .i64 0]) ?_ rfl ⟨ret_pair ?_ ?_, below_box _ _⟩; · (simp [results, Tryd.results67, go_sem]; done))
  all_goals
    first | rfl | (try unfold nextHi
                   skip
                   simp only [beq_iff_eq, beq_eq_false_iff_ne, ne_eq] at *
                   repeat' split
                   all_goals omega)
set_option maxHeartbeats 1000000 in
theorem keySpan_any (k : Int) (w : World) : Calls Tryd.prog 68 #[.int .i64 k] w fun e w' => e = .returned (pairV (0) (keyHi k)) ∧ Below w.heap.size w w' := by
  go_enter Tryd.func68, Tryd.ntmps68
  go_wp2
  all_goals first | (refine bodyPost_ret (v := .agg #[.int .i64 0, .int .i64 1048575]) ?_ rfl ⟨ret_pair ?_ ?_, below_box _ _⟩; · (simp [results, Tryd.results68, go_sem]; done)) | (refine bodyPost_ret (v := .agg #[.int .i64 0, .int .i64 2]) ?_ rfl ⟨ret_pair ?_ ?_, below_box _ _⟩; · (simp [results, Tryd.results68, go_sem]; done)) | (refine bodyPost_ret (v := .agg #[.int .i64 0, .int .i64 0]) ?_ rfl ⟨ret_pair ?_ ?_, below_box _ _⟩; · (simp [results, Tryd.results68, go_sem]; done))
  all_goals
    first | rfl | (try unfold keyHi
                   skip
                   simp only [beq_iff_eq, beq_eq_false_iff_ne, ne_eq] at *
                   repeat' split
                   all_goals omega)
set_option maxHeartbeats 1000000 in
theorem oldHolds_any (r : R) (b : Bool) (w : World) (h : oldB r = b) : Calls Tryd.prog 69 #[r.val] w fun e w' => e = .returned (.bool b) ∧ Below w.heap.size w w' := by
  subst h
  obtain ⟨kind, txn, page, prev, next, key, had, has, old, new⟩ := r
  unfold R.val
  simp only
  go_enter Tryd.func69, Tryd.ntmps69
  go_wp2
  all_goals
    go_ret
    refine ⟨ret_bool ?_, below_box _ _⟩
    unfold oldB
    simp only [beq_iff_eq, beq_eq_false_iff_ne] at *
    simp_all
    all_goals try omega
set_option maxHeartbeats 1000000 in
theorem newHolds_any (r : R) (b : Bool) (w : World) (h : newB r = b) : Calls Tryd.prog 70 #[r.val] w fun e w' => e = .returned (.bool b) ∧ Below w.heap.size w w' := by
  subst h
  obtain ⟨kind, txn, page, prev, next, key, had, has, old, new⟩ := r
  unfold R.val
  simp only
  go_enter Tryd.func70, Tryd.ntmps70
  go_wp2
  all_goals
    go_ret
    refine ⟨ret_bool ?_, below_box _ _⟩
    unfold newB
    simp only [beq_iff_eq, beq_eq_false_iff_ne] at *
    simp_all
    all_goals try omega
set_option maxHeartbeats 1000000 in
theorem changes_any (r : R) (b : Bool) (w : World) (h : chgB r = b) : Calls Tryd.prog 71 #[r.val] w fun e w' => e = .returned (.bool b) ∧ Below w.heap.size w w' := by
  subst h
  obtain ⟨kind, txn, page, prev, next, key, had, has, old, new⟩ := r
  unfold R.val
  simp only
  go_enter Tryd.func71, Tryd.ntmps71
  go_wp2
  all_goals
    go_ret
    refine ⟨ret_bool ?_, below_box _ _⟩
    unfold chgB
    simp_all
    all_goals try omega
set_option maxHeartbeats 1000000 in
theorem marks_any (r : R) (w : World) : Calls Tryd.prog 113 #[r.val] w fun e w' => e = .returned (.int .u64 (markB r)) ∧ Below w.heap.size w w' := by
  obtain ⟨kind, txn, page, prev, next, key, had, has, old, new⟩ := r
  unfold R.val
  simp only
  cases had <;> cases has
  all_goals
    go_enter Tryd.func113, Tryd.ntmps113
    go_wp2
    go_ret
    exact ⟨ret_int (by unfold markB; rfl), below_box _ _⟩
end Go.Proofs.YtjacenhblclkaaaDoor
