
/- What the statement PageBounds asks comes out true, at every three numbers; nothing that was there is written. -/
import Derived.Test.YtefgmlmhdjckaaaDoorOwnPBound0
import Derived.Test.YtefgmlmhdjckaaaDoorOwnPBound1
import Derived.Test.YtefgmlmhdjckaaaDoorOwnPBound2
import Derived.Test.YtefgmlmhdjckaaaDoorOwnPBound3
import Derived.Test.YtefgmlmhdjckaaaDoorOwnPBound4
import Derived.Test.YtefgmlmhdjckaaaDoorOwnPBound5
import Derived.Test.YtefgmlmhdjckaaaDoorOwnPBound6
namespace Go.Proofs.YtefgmlmhdjckaaaDoor.pageBounds
open Go.RowKit
set_option linter.unusedVariables false

theorem walk (a0 a1 a2 : Int) (w : World) (w0 : (Lit.int .i64 a0).wf = true) (w1 : (Lit.int .i64 a1).wf = true) (w2 : (Lit.int .i64 a2).wf = true) {a : Nat → Addr} (he : ErrsOf w all18 a) :
    Calls Tryd.prog 5 #[.int .i64 a0, .int .i64 a1, .int .i64 a2] w fun e w' => e = .returned (.bool true) ∧ Below w.heap.size w w' := by
  have h := numberB_bd a0 7 (by omega)
  rcases (show numberB a0 7 = 0 ∨ numberB a0 7 = 1 ∨ numberB a0 7 = 2 ∨ numberB a0 7 = 3 ∨ numberB a0 7 = 4 ∨ numberB a0 7 = 5 ∨ numberB a0 7 = 6 by omega) with h | h | h | h | h | h | h
  · exact walk0 a0 a1 a2 w h he
  · exact walk1 a0 a1 a2 w h he
  · exact walk2 a0 a1 a2 w h he
  · exact walk3 a0 a1 a2 w h he
  · exact walk4 a0 a1 a2 w h he
  · exact walk5 a0 a1 a2 w h he
  · exact walk6 a0 a1 a2 w h he
end Go.Proofs.YtefgmlmhdjckaaaDoor.pageBounds
