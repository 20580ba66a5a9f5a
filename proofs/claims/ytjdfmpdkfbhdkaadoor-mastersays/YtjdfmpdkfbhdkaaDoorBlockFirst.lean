
/- The chapter's examples on blocks, as the statements ask them first: they hold, and nothing that was there is written. -/
import Derived.Test.YtjdfmpdkfbhdkaaDoorBlockRead2
import Derived.Test.YtjdfmpdkfbhdkaaDoorRecFirst
namespace Go.Proofs.YtjdfmpdkfbhdkaaDoor
open Go.RowKit
set_option linter.unusedVariables false

theorem ok_first : okB 3 [⟨7, 0, 0, 0, 0, 0, false, false, 0, 0⟩] = true := by decide
end Go.Proofs.YtjdfmpdkfbhdkaaDoor
