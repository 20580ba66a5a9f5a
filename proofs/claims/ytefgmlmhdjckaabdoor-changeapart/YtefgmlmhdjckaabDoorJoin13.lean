/- Lemmas and contracts that the law stands on, joined: PageBytes. -/
import Derived.Test.YtefgmlmhdjckaabDoorJoin10
import Derived.Test.YtefgmlmhdjckaabDoorJoin12
/- What page.Check and page.Bytes answer: ErrRange of a page that may not be; else its bytes, in new memory; nothing that was there is written. -/
namespace Go.Proofs.YtefgmlmhdjckaabDoor
open Go.RowKit
set_option linter.unusedVariables false

theorem rise_drop {es : List (Int × Int)} {k : Nat} {e : Int × Int} (h : es[k]? = some e) : es.drop k = e :: es.drop (k + 1) := by
  have hk := (List.getElem?_eq_some_iff.1 h).1
  rw [List.drop_eq_getElem_cons hk, (List.getElem?_eq_some_iff.1 h).2]
/-- What Check answers. -/
def checkPV (lsn : Int) (es : List (Int × Int)) (x : Addr) : Value := if okP lsn es then .nilIface else errV x
theorem checkPV_ok {lsn : Int} {es : List (Int × Int)} {x : Addr} (h : okP lsn es = true) : checkPV lsn es x = .nilIface := by unfold checkPV; rw [if_pos h]
theorem checkPV_no {lsn : Int} {es : List (Int × Int)} {x : Addr} (h : okP lsn es = false) : checkPV lsn es x = errV x := by unfold checkPV; rw [if_neg (by rw [h]; simp)]
end Go.Proofs.YtefgmlmhdjckaabDoor
