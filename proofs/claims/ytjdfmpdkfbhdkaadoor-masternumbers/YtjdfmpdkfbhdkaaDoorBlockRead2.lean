
/- What block.Read answers, at all bytes: ErrShort, nothing, ErrBlock, or a block's epoch and records; nothing that was there is written. -/
import Derived.Test.YtjdfmpdkfbhdkaaDoorBlockRead
namespace Go.Proofs.YtjdfmpdkfbhdkaaDoor
open Go.RowKit
set_option linter.unusedVariables false

/-- The errors that block.Read can meet: their variables. -/
structure BlkErrs (w : World) (x y z t : Addr) : Prop where
  rd : ReadErrs w x y z
  blk : w.cell? ⟨5, 0, none⟩ = some (errV t)
theorem BlkErrs.step {w w' : World} {x y z t : Addr} (h : BlkErrs w x y z t) (hb : Below w.heap.size w w') : BlkErrs w' x y z t := ⟨h.rd.step hb, (hb.cell (World.block_lt_of_cell? w _ h.blk)).trans h.blk⟩
theorem BlkErrs.over {B : Nat} {w w' : World} {x y z t : Addr} (h : BlkErrs w x y z t) (hb : Below B w w') (hB : w.heap.size ≤ B) : BlkErrs w' x y z t := h.step (hb.mono hB)
theorem errs_blk {w : World} {ks : List Nat} {a : Nat → Addr} (h : ErrsOf w ks a) (h1 : 1 ∈ ks) (h2 : 2 ∈ ks) (h3 : 3 ∈ ks) (h4 : 4 ∈ ks) : BlkErrs w (a 1) (a 2) (a 3) (a 4) := ⟨⟨h.cell 1 h1, h.cell 2 h2, h.cell 3 h3⟩, h.cell 4 h4⟩
theorem isBlock_no1 {xs : List Int} (h : partsOk xs (manyOf xs) = false) : isBlock xs = false := by unfold isBlock; rw [h]; rfl
theorem isBlock_no2 {xs : List Int} (h : okB (epochOf xs) (recsOf xs) = false) : isBlock xs = false := by unfold isBlock; rw [h]; simp
theorem isBlock_no3 {xs : List Int} (h : sameB (blockB (epochOf xs) (recsOf xs)) xs = false) : isBlock xs = false := by
  unfold sameB at h
  unfold isBlock
  rw [h]
  simp
theorem isBlock_yes {xs : List Int} (h1 : partsOk xs (manyOf xs) = true) (h2 : okB (epochOf xs) (recsOf xs) = true) (h : sameB (blockB (epochOf xs) (recsOf xs)) xs = true) : isBlock xs = true := by
  unfold sameB at h
  unfold isBlock
  rw [h1, h2, h]
  rfl
end Go.Proofs.YtjdfmpdkfbhdkaaDoor
