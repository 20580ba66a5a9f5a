
/- What the statement ChangeApart asks comes out true, at every list of numbers, two keys and values; nothing that was there is written. -/
import Derived.Test.YtefgmlmhdjckaabDoorOwnCApartGY
import Derived.Test.YtefgmlmhdjckaabDoorOwnCApartGN
import Derived.Test.YtefgmlmhdjckaabDoorOwnCApartLY
import Derived.Test.YtefgmlmhdjckaabDoorOwnCApartLN
namespace Go.Proofs.YtefgmlmhdjckaabDoor.changeApart
open Go.RowKit
set_option linter.unusedVariables false

theorem walk (lo : Option Addr) (len cap : Nat) (zs : List Int) (a1 a2 a3 a4 : Int) (w : World) (w0 : IsRow .i64 w lo len cap zs) (w1 : (Lit.int .i64 a1).wf = true) (w2 : (Lit.int .i64 a2).wf = true) (w3 : (Lit.int .i64 a3).wf = true) (w4 : (Lit.int .i64 a4).wf = true) {a : Nat → Addr} (he : ErrsOf w [6] a) :
    Calls Tryd.prog 6 #[.slice lo len cap, .int .i64 a1, .int .i64 a2, .int .i64 a3, .int .i64 a4] w fun e w' => e = .returned (.bool true) ∧ Below w.heap.size w w' := by
  by_cases hge : numberB a1 60 ≤ numberB a2 59
  · cases hbit : (bits .and .i64 a4 1 == 0) with
    | true => exact walkGY lo len cap zs a1 a2 a3 a4 w w0 w1 hge hbit he
    | false => exact walkGN lo len cap zs a1 a2 a3 a4 w w0 w1 hge hbit he
  · cases hbit : (bits .and .i64 a4 1 == 0) with
    | true => exact walkLY lo len cap zs a1 a2 a3 a4 w w0 w1 hge hbit he
    | false => exact walkLN lo len cap zs a1 a2 a3 a4 w w0 w1 hge hbit he
end Go.Proofs.YtefgmlmhdjckaabDoor.changeApart
