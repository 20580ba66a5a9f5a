/- Lemmas and contracts that the law stands on, joined: RecRefB. -/
import Derived.Test.YtdijgpkcolpfoaaDoorJoin7
import Derived.Test.YtdijgpkcolpfoaaDoorJoin4
import Derived.Test.YtdijgpkcolpfoaaDoorJoin8
/- What the document's own RecBytes answers: the same as rec.Bytes. -/
namespace Go.Proofs.YtdijgpkcolpfoaaDoor
open Go.RowKit
set_option linter.unusedVariables false

theorem refPut_len (l cap : Nat) (ao : Option Addr) (xs : List Int) (a s n : Int) (w : World) (h : Row w ao xs) (hl : xs.length = l) (ha : -9223372036854775808 ≤ a) (ha' : a ≤ 9223372036854775807) (hn : 0 ≤ n) (hn' : n ≤ 18446744073709551615) :
    Calls Tryd.prog 33 #[.slice ao l cap, .int .i64 a, .int .i64 s, .int .u64 n] w fun e w' => e = .returned (.slice (some ⟨w.heap.size, 0, none⟩) l l) ∧ Own w' w.heap.size (some ⟨w.heap.size, 0, none⟩) l (putB xs a n (widthB s).toNat) ∧ Below w.heap.size w w' := by subst hl; exact refPut_any ao cap xs a s n w h ha ha' hn hn'
end Go.Proofs.YtdijgpkcolpfoaaDoor
