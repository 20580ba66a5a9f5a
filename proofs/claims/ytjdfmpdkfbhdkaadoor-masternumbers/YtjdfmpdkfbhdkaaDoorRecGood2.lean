
/- What the document's own GoodRec answers: the same as rec.Check. -/
import Derived.Test.YtjdfmpdkfbhdkaaDoorRecGood
namespace Go.Proofs.YtjdfmpdkfbhdkaaDoor
open Go.RowKit
set_option linter.unusedVariables false

theorem good4 (txn page prev next key : Int) (had has : Bool) (old new : Int) : goodB ⟨4, txn, page, prev, next, key, had, has, old, new⟩ = (holdsB 1 60000 txn && (holdsB 0 0 page && (holdsB 0 1073741824 prev && (holdsB 0 0 next && (holdsB 0 0 key && ((!had && (old == 0)) && ((!has && (new == 0)) && true))))))) := rfl
theorem good5 (txn page prev next key : Int) (had has : Bool) (old new : Int) : goodB ⟨5, txn, page, prev, next, key, had, has, old, new⟩ = (holdsB 1 60000 txn && (holdsB 0 0 page && (holdsB 0 1073741824 prev && (holdsB 0 0 next && (holdsB 0 0 key && ((!had && (old == 0)) && ((!has && (new == 0)) && true))))))) := rfl
theorem good6 (txn page prev next key : Int) (had has : Bool) (old new : Int) : goodB ⟨6, txn, page, prev, next, key, had, has, old, new⟩ = (holdsB 1 60000 txn && (holdsB 0 0 page && (holdsB 0 1073741824 prev && (holdsB 0 0 next && (holdsB 0 0 key && ((!had && (old == 0)) && ((!has && (new == 0)) && true))))))) := rfl
theorem good7 (txn page prev next key : Int) (had has : Bool) (old new : Int) : goodB ⟨7, txn, page, prev, next, key, had, has, old, new⟩ = (holdsB 0 0 txn && (holdsB 0 0 page && (holdsB 0 0 prev && (holdsB 0 0 next && (holdsB 0 0 key && ((!had && (old == 0)) && ((!has && (new == 0)) && true))))))) := rfl
end Go.Proofs.YtjdfmpdkfbhdkaaDoor
