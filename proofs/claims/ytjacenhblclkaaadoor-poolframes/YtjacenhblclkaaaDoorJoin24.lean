/- Lemmas and contracts that the law stands on, joined: BlockMake. -/
import Derived.Test.YtjacenhblclkaaaDoorJoin12
import Derived.Test.YtjacenhblclkaaaDoorJoin9
/- What phoenixmake.Recs makes out of a list of numbers: records that may be, in a list of their own; only the list's own counter is written besides. -/
namespace Go.Proofs.YtjacenhblclkaaaDoor
open Go.RowKit
set_option linter.unusedVariables false

set_option maxHeartbeats 400000 in
theorem number_big (n m : Int) (w : World) (h0 : 0 < m) (h1 : m ≤ 2000000000) : Calls Tryd.prog 11 #[.int .i64 n, .int .i64 m] w fun e w' => e = .returned (.int .i64 (numberB n m)) ∧ w' = w := by
  obtain ⟨t1, t2, t3, t4⟩ := tmod_cases n m h0
  have hne : (m == 0) = false := by simp; omega
  have hm1 : m ≠ 0 := by omega
  go_enter Tryd.func11, Tryd.ntmps11
  go_wp2
  all_goals
    go_ret
  · exact ⟨ret_int rfl, rfl⟩
  · exact ⟨ret_int (t2 (by assumption)), rfl⟩
end Go.Proofs.YtjacenhblclkaaaDoor
