
/- The chapter's examples on records, as the statements ask them first: they hold, and nothing that was there is written. -/
import Derived.Test.YtjdfmpdkfbhdkaaDoorRecBytes
namespace Go.Proofs.YtjdfmpdkfbhdkaaDoor
open Go.RowKit
set_option linter.unusedVariables false

def ckBegin : R := ⟨7, 0, 0, 0, 0, 0, false, false, 0, 0⟩
def emptyRec : R := ⟨0, 0, 0, 0, 0, 0, false, false, 0, 0⟩
theorem ck_good : goodB ckBegin = true := by decide
theorem empty_bad : goodB emptyRec = false := by decide
theorem ck_first : (recB ckBegin).getD 0 0 = 7 := by decide +kernel
end Go.Proofs.YtjdfmpdkfbhdkaaDoor
