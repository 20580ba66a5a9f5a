/- The chapter's examples, as the statements ask them first: they hold, and nothing that was there is written. -/
import Derived.Test.YtgbjjogfmlkmeaaCopy
namespace Go.Proofs.Ytgbjjogfmlkmeaa
open Go.RowKit
set_option linter.unusedVariables false

theorem row_nil (w : World) : Row w none [] := ⟨by simp, fun x hx => by simp at hx, fun h => by simp at h⟩
theorem first_row (w : World) : Row (w.alloc (.cells #[.int .u8 0, .int .u8 0] 5)) (some ⟨w.heap.size, 0, none⟩) [0, 0] := by
  refine ⟨by simp, fun x hx => by simp at hx; omega, fun _ => ⟨w.heap.size, 0, rfl, by simp, fun i hi => ?_⟩⟩
  match i, hi with
  | 0, _ => simp
  | 1, _ => simp
theorem first_put : putB [0, 0] 0 258 (widthB 2).toNat = [2, 1] := by decide
theorem first_get : getB [] 0 (widthB 8).toNat = 0 := by decide
theorem first_zero : zeroB [2, 1] = false := by decide
theorem over {B : Nat} {w w1 w2 : World} (h : Below B w w1) (h' : Below w1.heap.size w1 w2) (hB : B ≤ w1.heap.size) : Below B w w2 := h.trans (h'.mono hB)

set_option maxHeartbeats 1000000 in
theorem first_any (w : World) : Calls Try.prog 9 #[] w fun e w' => e = .returned (.bool true) ∧ Below w.heap.size w w' := by
  have HR := hide (first_row w)
  go_enter Try.func9, Try.ntmps9
  go_wp2_with fail
  refine (put_any _ _ [0, 0] _ _ _ _ HR.out (by omega) (by omega) (by omega) (by omega)).mono ?_
  rintro e w1 ⟨rfl, hown, hbel⟩
  rw [first_put, show (w.alloc (.cells #[.int .u8 0, .int .u8 0] 5)).heap.size = w.heap.size + 1 by simp] at hown
  have HO := hide hown
  have HB : Hid (Below w.heap.size w w1) := over ((Below.refl _ _).alloc (Nat.le_refl _) _) hbel (by simp)
  have hc0 := hown.cell 0 (by simp)
  have hc1 := hown.cell 1 (by simp)
  simp at hc0 hc1
  clear hown hbel
  go_wp2_with fail
  refine (get_any _ _ [] _ _ _ (row_nil _) (by omega) (by omega)).mono ?_
  rintro e w' ⟨rfl, rfl⟩
  rw [first_get]
  go_wp2_with fail
  refine (zero_any _ _ [2, 1] _ HO.out.row).mono ?_
  rintro e w' ⟨rfl, rfl⟩
  rw [first_zero]
  go_wp2_with fail
  go_ret
  exact ⟨rfl, HB.out⟩
end Go.Proofs.Ytgbjjogfmlkmeaa
