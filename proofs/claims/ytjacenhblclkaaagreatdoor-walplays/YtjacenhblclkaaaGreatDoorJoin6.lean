/- Lemmas and contracts that the law stands on, joined: RecSpans. -/
import Derived.Test.YtjacenhblclkaaaGreatDoorJoin5
import Derived.Test.YtjacenhblclkaaaGreatDoorJoin4
/- What the small functions of package rec answer: the spans, what Old, New and a change must be, the mark. -/
namespace Go.Proofs.YtjacenhblclkaaaGreatDoor
open Go.RowKit
set_option linter.unusedVariables false

def pairV (lo hi : Int) : Value := .agg #[.int .i64 lo, .int .i64 hi]
theorem below_box (w : World) (x : Obj) : Below w.heap.size w (w.alloc x) := (Below.refl _ _).alloc (Nat.le_refl _) x
theorem ret_pair {a b c d : Int} (h : a = c) (h' : b = d) : Ending.returned (.agg #[.int .i64 a, .int .i64 b]) = .returned (pairV c d) := by subst h; subst h'; rfl
set_option maxHeartbeats 400000 in
theorem holds_any (lo hi n : Int) (b : Bool) (w : World) (h : holdsB lo hi n = b) : Calls Tryz.prog 110 #[pairV lo hi, .int .i64 n] w fun e w' => e = .returned (.bool b) ∧ Below w.heap.size w w' := by
  subst h
  unfold pairV
  go_enter Tryz.func110, Tryz.ntmps110
  go_wp2
  all_goals
    go_ret
    refine ⟨ret_bool ?_, below_box _ _⟩
    unfold holdsB
    simp
    omega
set_option maxHeartbeats 1000000 in
theorem txnSpan_any (k : Int) (w : World) : Calls Tryz.prog 111 #[.int .i64 k] w fun e w' => e = .returned (pairV (txnLo k) (txnHi k)) ∧ Below w.heap.size w w' := by
  go_enter Tryz.func111, Tryz.ntmps111
  go_wp2
  all_goals first | (refine bodyPost_ret (v := .agg #[.int .i64 1, .int .i64 60000]) ?_ rfl ⟨ret_pair ?_ ?_, below_box _ _⟩; · (simp [results, Tryz.results111, go_sem]; done)) | (refine bodyPost_ret (v := .agg #[.int .i64 0, .int .i64 0]) ?_ rfl ⟨ret_pair ?_ ?_, below_box _ _⟩; · (simp [results, Tryz.results111, go_sem]; done))
  all_goals
    first | rfl | (try unfold txnLo
                   try unfold txnHi
                   simp only [beq_iff_eq, beq_eq_false_iff_ne, ne_eq] at *
                   repeat' split
                   all_goals omega)
set_option maxHeartbeats 1000000 in
theorem pageSpan_any (k : Int) (w : World) : Calls Tryz.prog 112 #[.int .i64 k] w fun e w' => e = .returned (pairV (pageLo k) (pageHi k)) ∧ Below w.heap.size w w' := by
  go_enter Tryz.func112, Tryz.ntmps112
  go_wp2
  all_goals first | (refine bodyPost_ret (v := .agg #[.int .i64 1, .int .i64 32]) ?_ rfl ⟨ret_pair ?_ ?_, below_box _ _⟩; · (simp [results, Tryz.results112, go_sem]; done)) | (refine bodyPost_ret (v := .agg #[.int .i64 0, .int .i64 0]) ?_ rfl ⟨ret_pair ?_ ?_, below_box _ _⟩; · (simp [results, Tryz.results112, go_sem]; done))
  all_goals
    first | rfl | (try unfold pageLo
                   try unfold pageHi
                   simp only [beq_iff_eq, beq_eq_false_iff_ne, ne_eq] at *
                   repeat' split
                   all_goals omega)
set_option maxHeartbeats 1000000 in
theorem prevSpan_any (k : Int) (w : World) : Calls Tryz.prog 113 #[.int .i64 k] w fun e w' => e = .returned (pairV (prevLo k) (prevHi k)) ∧ Below w.heap.size w w' := by
  go_enter Tryz.func113, Tryz.ntmps113
  go_wp2
  all_goals first | (refine bodyPost_ret (v := .agg #[.int .i64 0, .int .i64 0]) ?_ rfl ⟨ret_pair ?_ ?_, below_box _ _⟩; · (simp [results, Tryz.results113, go_sem]; done)) | (refine bodyPost_ret (v := .agg #[.int .i64 1, .int .i64 1073741824]) ?_ rfl ⟨ret_pair ?_ ?_, below_box _ _⟩; · (simp [results, Tryz.results113, go_sem]; done)) | (refine bodyPost_ret (v := .agg #[.int .i64 0, .int .i64 1073741824]) ?_ rfl ⟨ret_pair ?_ ?_, below_box _ _⟩; · (simp [results, Tryz.results113, go_sem]; done))
  all_goals
    first | rfl | (try unfold prevLo
                   try unfold prevHi
                   simp only [beq_iff_eq, beq_eq_false_iff_ne, ne_eq] at *
                   repeat' split
                   all_goals omega)
set_option maxHeartbeats 1000000 in
theorem nextSpan_any (k : Int) (w : World) : Calls Tryz.prog 114 #[.int .i64 k] w fun e w' => e = .returned (pairV (0) (nextHi k)) ∧ Below w.heap.size w w' := by
  go_enter Tryz.func114, Tryz.ntmps114
  go_wp2
  all_goals first | (refine bodyPost_ret (v := .agg #[.int .i64 0, .int .i64 1073741824]) ?_ rfl ⟨ret_pair ?_ ?_, below_box _ _⟩; · (simp [results, Tryz.results114, go_sem]; done)) | (refine bodyPost_ret (v := .agg #[.int .i64 0, .int .i64 60000]) ?_ rfl ⟨ret_pair ?_ ?_, below_box _ _⟩; · (simp [results, Tryz.results114, go_sem]; done)) | (refine bodyPost_ret (v := .agg #[.int .i64 0, .int .i64 0]) ?_ rfl ⟨ret_pair ?_ ?_, below_box _ _⟩; · (simp [results, Tryz.results114, go_sem]; done))
  all_goals
    first | rfl | (try unfold nextHi
                   skip
                   simp only [beq_iff_eq, beq_eq_false_iff_ne, ne_eq] at *
                   repeat' split
                   all_goals omega)
set_option maxHeartbeats 1000000 in
theorem keySpan_any (k : Int) (w : World) : Calls Tryz.prog 115 #[.int .i64 k] w fun e w' => e = .returned (pairV (0) (keyHi k)) ∧ Below w.heap.size w w' := by
  go_enter Tryz.func115, Tryz.ntmps115
  go_wp2
  all_goals first | (refine bodyPost_ret (v := .agg #[.int .i64 0, .int .i64 1048575]) ?_ rfl ⟨ret_pair ?_ ?_, below_box _ _⟩; · (simp [results, Tryz.results115, go_sem]; done)) | (refine bodyPost_ret (v := .agg #[.int .i64 0, .int .i64 2]) ?_ rfl ⟨ret_pair ?_ ?_, below_box _ _⟩; · (simp [results, Tryz.results115, go_sem]; done)) | (refine bodyPost_ret (v := .agg #[.int .i64 0, .int .i64 0]) ?_ rfl ⟨ret_pair ?_ ?_, below_box _ _⟩; · (simp [results, Tryz.results115, go_sem]; done))
  all_goals
    first | rfl | (try unfold keyHi
                   skip
                   simp only [beq_iff_eq, beq_eq_false_iff_ne, ne_eq] at *
                   repeat' split
                   all_goals omega)
set_option maxHeartbeats 1000000 in
theorem oldHolds_any (r : R) (b : Bool) (w : World) (h : oldB r = b) : Calls Tryz.prog 116 #[r.val] w fun e w' => e = .returned (.bool b) ∧ Below w.heap.size w w' := by
  subst h
  obtain ⟨kind, txn, page, prev, next, key, had, has, old, new⟩ := r
  unfold R.val
  simp only
  go_enter Tryz.func116, Tryz.ntmps116
  go_wp2
  all_goals
    go_ret
    refine ⟨ret_bool ?_, below_box _ _⟩
    unfold oldB
    simp only [beq_iff_eq, beq_eq_false_iff_ne] at *
    simp_all
    all_goals try omega
set_option maxHeartbeats 1000000 in
theorem newHolds_any (r : R) (b : Bool) (w : World) (h : newB r = b) : Calls Tryz.prog 117 #[r.val] w fun e w' => e = .returned (.bool b) ∧ Below w.heap.size w w' := by
  subst h
  obtain ⟨kind, txn, page, prev, next, key, had, has, old, new⟩ := r
  unfold R.val
  simp only
  go_enter Tryz.func117, Tryz.ntmps117
  go_wp2
  all_goals
    go_ret
    refine ⟨ret_bool ?_, below_box _ _⟩
    unfold newB
    simp only [beq_iff_eq, beq_eq_false_iff_ne] at *
    simp_all
    all_goals try omega
set_option maxHeartbeats 1000000 in
theorem changes_any (r : R) (b : Bool) (w : World) (h : chgB r = b) : Calls Tryz.prog 118 #[r.val] w fun e w' => e = .returned (.bool b) ∧ Below w.heap.size w w' := by
  subst h
  obtain ⟨kind, txn, page, prev, next, key, had, has, old, new⟩ := r
  unfold R.val
  simp only
  go_enter Tryz.func118, Tryz.ntmps118
  go_wp2
  all_goals
    go_ret
    refine ⟨ret_bool ?_, below_box _ _⟩
    unfold chgB
    simp_all
    all_goals try omega
set_option maxHeartbeats 1000000 in
theorem marks_any (r : R) (w : World) : Calls Tryz.prog 169 #[r.val] w fun e w' => e = .returned (.int .u64 (markB r)) ∧ Below w.heap.size w w' := by
  obtain ⟨kind, txn, page, prev, next, key, had, has, old, new⟩ := r
  unfold R.val
  simp only
  cases had <;> cases has
  all_goals
    go_enter Tryz.func169, Tryz.ntmps169
    go_wp2
    go_ret
    exact ⟨ret_int (by unfold markB; rfl), below_box _ _⟩
end Go.Proofs.YtjacenhblclkaaaGreatDoor
