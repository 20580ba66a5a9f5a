/- Lemmas and contracts that the law stands on, joined: PageBytes2. -/
import Derived.Test.YtefgmlmhdjckaabDoorJoin13
import Derived.Deep.Cut
/- What page.Bytes answers. -/
namespace Go.Proofs.YtefgmlmhdjckaabDoor
open Go.RowKit
set_option linter.unusedVariables false

theorem fill_page : fillB [] 256 = page0 := by decide +kernel
theorem ent_at {es : List (Int × Int)} {k : Nat} {e : Int × Int} (h : es[k]? = some e) : es.getD k (0, 0) = e := by rw [List.getD_eq_getElem?_getD, h]; rfl
end Go.Proofs.YtefgmlmhdjckaabDoor
