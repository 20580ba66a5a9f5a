/- Lemmas and contracts that the law stands on, joined: BlockFirst. -/
import Derived.Test.YtjacenhblclkaaaDoorJoin21
import Derived.Test.YtjacenhblclkaaaDoorJoin7
/- The chapter's examples on blocks, as the statements ask them first: they hold, and nothing that was there is written. -/
namespace Go.Proofs.YtjacenhblclkaaaDoor
open Go.RowKit
set_option linter.unusedVariables false

theorem ok_first : okB 3 [⟨7, 0, 0, 0, 0, 0, false, false, 0, 0⟩] = true := by decide
end Go.Proofs.YtjacenhblclkaaaDoor
