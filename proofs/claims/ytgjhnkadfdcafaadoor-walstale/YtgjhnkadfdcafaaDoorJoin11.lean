/- Lemmas and contracts that the law stands on, joined: RecRefB. -/
import Derived.Test.YtgjhnkadfdcafaaDoorJoin7
import Derived.Test.YtgjhnkadfdcafaaDoorJoin4
import Derived.Test.YtgjhnkadfdcafaaDoorJoin9
/- What the document's own RecBytes answers: the same as rec.Bytes. -/
namespace Go.Proofs.YtgjhnkadfdcafaaDoor
open Go.RowKit
set_option linter.unusedVariables false

end Go.Proofs.YtgjhnkadfdcafaaDoor
