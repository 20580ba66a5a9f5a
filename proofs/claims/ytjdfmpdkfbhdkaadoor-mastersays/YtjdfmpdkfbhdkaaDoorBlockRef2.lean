
/- What the document's own ReadBlock (phoenixref1) answers, at all bytes: the same as block.Read, the error as a number. -/
import Derived.Test.YtjdfmpdkfbhdkaaDoorBlockRef
import Derived.Test.YtjdfmpdkfbhdkaaDoorBlockRead2
namespace Go.Proofs.YtjdfmpdkfbhdkaaDoor
open Go.RowKit
set_option linter.unusedVariables false

theorem Row.at41 {w : World} {b off : Nat} {xs : List Int} (h : Row w (some ⟨b, off, none⟩) xs) (hl : xs.length = 256) (i : Nat) (hi : i < 6) : Row w (some ⟨b, off + (16 + 40 * i), none⟩) (partAt xs i) :=
  h.cut (by rw [length_partAt xs i hl hi]; rfl)
end Go.Proofs.YtjdfmpdkfbhdkaaDoor
