/- Lemmas and contracts that the law stands on, joined: RecRefB. -/
import Derived.Test.YtgjhnkadfdcafabDoorJoin7
import Derived.Test.YtgjhnkadfdcafabDoorJoin4
import Derived.Test.YtgjhnkadfdcafabDoorJoin9
/- What the document's own RecBytes answers: the same as rec.Bytes. -/
namespace Go.Proofs.YtgjhnkadfdcafabDoor
open Go.RowKit
set_option linter.unusedVariables false

end Go.Proofs.YtgjhnkadfdcafabDoor
