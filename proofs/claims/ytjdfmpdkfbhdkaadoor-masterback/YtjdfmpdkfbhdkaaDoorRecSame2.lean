
/- What the document's own SameRec answers of any two records: whether they are the same in each part. -/
import Derived.Test.YtjdfmpdkfbhdkaaDoorRecSame
namespace Go.Proofs.YtjdfmpdkfbhdkaaDoor
open Go.RowKit
set_option linter.unusedVariables false

end Go.Proofs.YtjdfmpdkfbhdkaaDoor
