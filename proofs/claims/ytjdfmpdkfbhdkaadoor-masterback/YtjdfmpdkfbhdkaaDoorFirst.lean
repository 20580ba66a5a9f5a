
/- The chapter's examples, as the statements ask them first: they hold, and nothing that was there is written. -/
import Derived.Test.YtjdfmpdkfbhdkaaDoorCopy
namespace Go.Proofs.YtjdfmpdkfbhdkaaDoor
open Go.RowKit
set_option linter.unusedVariables false

theorem first_row (w : World) : Row (w.alloc (.cells #[.int .u8 0, .int .u8 0] 5)) (some ⟨w.heap.size, 0, none⟩) [0, 0] := by
  refine ⟨by simp, fun x hx => by simp at hx; omega, fun _ => ⟨w.heap.size, 0, rfl, by simp, fun i hi => ?_⟩⟩
  match i, hi with
  | 0, _ => simp
  | 1, _ => simp
theorem first_put : putB [0, 0] 0 258 (widthB 2).toNat = [2, 1] := by decide
theorem first_get : getB [] 0 (widthB 8).toNat = 0 := by decide
theorem first_zero : zeroB [2, 1] = false := by decide

end Go.Proofs.YtjdfmpdkfbhdkaaDoor
