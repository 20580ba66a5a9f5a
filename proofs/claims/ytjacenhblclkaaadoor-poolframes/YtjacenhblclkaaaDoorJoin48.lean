/- Lemmas and contracts that the law stands on, joined: DtCopy, DtSame. -/
import Derived.Test.YtjacenhblclkaaaDoorJoin43
import Derived.Test.YtjacenhblclkaaaDoorJoin6
import Derived.Test.YtjacenhblclkaaaDoorJoin9
import Derived.Deep.RegionHeld3
import Derived.Deep.Cut
/- What phoenixref.Dirties (a copy, in new memory) answers. -/
namespace Go.Proofs.YtjacenhblclkaaaDoor
open Go.RowKit
set_option linter.unusedVariables false

end Go.Proofs.YtjacenhblclkaaaDoor

/- What the document's own SameEntry, SameEntries, SamePage answer: whether two are the same. -/
namespace Go.Proofs.YtjacenhblclkaaaDoor
open Go.RowKit
set_option linter.unusedVariables false

/-- Two entries are the same. -/
def sameD (a b : Int × Int) : Bool := decide (a = b)
theorem take_noD {α : Type} {xs ys : List α} {k : Nat} {a b : α} (ha : xs[k]? = some a) (hb : ys[k]? = some b) (h : a ≠ b) : xs ≠ ys := by
  rintro rfl
  rw [ha] at hb
  exact h (by simpa using hb)
theorem take_upD {α : Type} {xs ys : List α} {k : Nat} {a b : α} (ha : xs[k]? = some a) (hb : ys[k]? = some b) (h : a = b) (hk : xs.take k = ys.take k) : xs.take (k + 1) = ys.take (k + 1) := by
  rw [List.take_add_one, List.take_add_one, ha, hb, hk, h]
theorem len_noD {α : Type} {xs ys : List α} {n m : Nat} (hn : xs.length = n) (hm : ys.length = m) (h : n ≠ m) : xs ≠ ys := by
  rintro rfl
  omega
end Go.Proofs.YtjacenhblclkaaaDoor
