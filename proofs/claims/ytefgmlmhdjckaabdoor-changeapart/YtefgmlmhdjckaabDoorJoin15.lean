/- Lemmas and contracts that the law stands on, joined: RecRefB. -/
import Derived.Test.YtefgmlmhdjckaabDoorJoin7
import Derived.Test.YtefgmlmhdjckaabDoorJoin4
import Derived.Test.YtefgmlmhdjckaabDoorJoin8
/- What the document's own RecBytes answers: the same as rec.Bytes. -/
namespace Go.Proofs.YtefgmlmhdjckaabDoor
open Go.RowKit
set_option linter.unusedVariables false

end Go.Proofs.YtefgmlmhdjckaabDoor
