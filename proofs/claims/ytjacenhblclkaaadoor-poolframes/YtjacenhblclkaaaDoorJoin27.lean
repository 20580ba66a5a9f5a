/- Lemmas and contracts that the law stands on, joined: SaysMem. -/
import Derived.Test.YtjacenhblclkaaaDoorJoin7
import Derived.Test.YtjacenhblclkaaaDoorJoin8
/- A record handed in as an argument: what value it is; a record that lies in a box; lists of bytes side by side. -/
namespace Go.Proofs.YtjacenhblclkaaaDoor
open Go.RowKit Go.ChangeShapes Go.WideShapes
set_option linter.unusedVariables false

theorem Tryd.cellsOf3 : Tryd.prog.cellsOf 3 = 1 := by kernel_rfl
theorem Tryd.cellsOf2 : Tryd.prog.cellsOf 2 = 1 := by kernel_rfl
theorem Tryd.cellsOf4 : Tryd.prog.cellsOf 4 = 1 := by kernel_rfl
theorem Tryd.cellsOf42 : Tryd.prog.cellsOf 42 = 10 := by kernel_rfl
theorem array10 {α : Type} {cs : Array α} (h : cs.size = 10) : ∃ c0 c1 c2 c3 c4 c5 c6 c7 c8 c9, cs = #[c0, c1, c2, c3, c4, c5, c6, c7, c8, c9] := by
  obtain ⟨l⟩ := cs
  match l, h with
  | [c0, c1, c2, c3, c4, c5, c6, c7, c8, c9], _ => exact ⟨c0, c1, c2, c3, c4, c5, c6, c7, c8, c9, rfl⟩
theorem fld {H : Type} {enc : TypeId × Value → H} {P : Program} {W : World} {base : Nat} {spare : Nat → Bool} {held : Bool} {n : Nat} {cs : List Value} {y : Option (DataW H × List MemPlace)} (t : TypeId) (off : Nat) (c : Value) (h : DataW.trod enc P W base spare held n t ((cs.drop off).take (P.cellsOf t)) = y) (hc : P.cellsOf t = 1) (e : (cs.drop off).take 1 = [c]) : DataW.trod enc P W base spare held n t [c] = y := by
  rw [hc, e] at h
  exact h
end Go.Proofs.YtjacenhblclkaaaDoor
