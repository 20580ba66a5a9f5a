/- Lemmas and contracts that the law stands on, joined: RecRefB. -/
import Derived.Test.YtjacenhblclkaaaDoorJoin7
import Derived.Test.YtjacenhblclkaaaDoorJoin4
import Derived.Test.YtjacenhblclkaaaDoorJoin8
/- What the document's own RecBytes answers: the same as rec.Bytes. -/
namespace Go.Proofs.YtjacenhblclkaaaDoor
open Go.RowKit
set_option linter.unusedVariables false

end Go.Proofs.YtjacenhblclkaaaDoor
