/- Lemmas and contracts that the law stands on, joined: RecSpans. -/
import Derived.Test.YtmkbedfccgojpaaJoin6
import Derived.Test.YtmkbedfccgojpaaJoin5
/- What the small functions of package rec answer: the spans, what Old, New and a change must be, the mark. -/
namespace Go.Proofs.Ytmkbedfccgojpaa
open Go.RowKit
set_option linter.unusedVariables false

def pairV (lo hi : Int) : Value := .agg #[.int .i64 lo, .int .i64 hi]
theorem below_box (w : World) (x : Obj) : Below w.heap.size w (w.alloc x) := (Below.refl _ _).alloc (Nat.le_refl _) x
theorem ret_pair {a b c d : Int} (h : a = c) (h' : b = d) : Ending.returned (.agg #[.int .i64 a, .int .i64 b]) = .returned (pairV c d) := by subst h; subst h'; rfl
end Go.Proofs.Ytmkbedfccgojpaa
