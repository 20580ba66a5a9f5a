
/- A record in memory stays as it is where another block is written. -/
import Derived.Test.YtefgmlmhdjckaabDoorOwnPgBack
namespace Go.Proofs.YtefgmlmhdjckaabDoor
open Go.RowKit
set_option linter.unusedVariables false

theorem Cells10.far {w : World} {B Q : Nat} {r : R} (h : Cells10 w B r) (hne : Q ≠ B) (i : Nat) (v : Value) : Cells10 (w.setCell ⟨Q, i, none⟩ v) B r := by
  have e : ∀ o, (w.setCell ⟨Q, i, none⟩ v).cell? ⟨B, o, none⟩ = w.cell? ⟨B, o, none⟩ := fun o => World.cell?_setCell_other _ _ _ _ (by intro e'; injection e' with e1 _; first | exact hne e1 | exact hne e1.symm)
  exact ⟨(e 0).trans h.c0, (e 1).trans h.c1, (e 2).trans h.c2, (e 3).trans h.c3, (e 4).trans h.c4, (e 5).trans h.c5, (e 6).trans h.c6, (e 7).trans h.c7, (e 8).trans h.c8, (e 9).trans h.c9, by simp [World.setCell]; exact h.lt⟩
end Go.Proofs.YtefgmlmhdjckaabDoor
