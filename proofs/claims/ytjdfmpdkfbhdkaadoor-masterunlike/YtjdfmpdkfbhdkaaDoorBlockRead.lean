
/- What block.Read answers: the records of a block, or why there are none; nothing that was there is written. -/
import Derived.Test.YtjdfmpdkfbhdkaaDoorBlockBytes
import Derived.Test.YtjdfmpdkfbhdkaaDoorRecRead
namespace Go.Proofs.YtjdfmpdkfbhdkaaDoor
open Go.RowKit
set_option linter.unusedVariables false

theorem Row.cut {w : World} {b off m : Nat} {J X : List Int} (h : Row w (some ⟨b, off, none⟩) J) (hX : (J.drop m).take X.length = X) : Row w (some ⟨b, off + m, none⟩) X := by
  obtain ⟨h0, h1, h2⟩ := h
  have hlen : X.length ≤ J.length - m := by
    have := congrArg List.length hX
    simp at this
    omega
  refine ⟨by omega, fun x hx => h1 x ?_, fun hp => ?_⟩
  · rw [← hX] at hx
    exact List.mem_of_mem_drop (List.mem_of_mem_take hx)
  · obtain ⟨b', off', e, hb, hc⟩ := h2 (by omega)
    simp only [Option.some.injEq, Addr.mk.injEq, and_true] at e
    obtain ⟨rfl, rfl⟩ := e
    refine ⟨b, off + m, rfl, hb, fun i hi => ?_⟩
    have := hc (m + i) (by omega)
    rw [← Nat.add_assoc] at this
    rw [this]
    congr 2
    conv => rhs; rw [← hX]
    rw [List.getD_eq_getElem?_getD, List.getD_eq_getElem?_getD, List.getElem?_take, if_pos hi, List.getElem?_drop]
theorem Row.at40 {w : World} {b off : Nat} {xs : List Int} (h : Row w (some ⟨b, off, none⟩) xs) (hl : xs.length = 256) (i : Nat) (hi : i < 6) : Row w (some ⟨b, off + (16 + i * 40), none⟩) (partAt xs i) := by
  rw [Nat.mul_comm]
  exact h.cut (by rw [length_partAt xs i hl hi]; rfl)
end Go.Proofs.YtjdfmpdkfbhdkaaDoor
