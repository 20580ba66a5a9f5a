/- Lemmas and contracts that the law stands on, joined: BlockRead, BlockRead2. -/
import Derived.Test.YtjacenhblclkaaaDoorJoin12
import Derived.Test.YtjacenhblclkaaaDoorJoin7
/- What block.Read answers: the records of a block, or why there are none; nothing that was there is written. -/
namespace Go.Proofs.YtjacenhblclkaaaDoor
open Go.RowKit
set_option linter.unusedVariables false

theorem Row.cut {w : World} {b off m : Nat} {J X : List Int} (h : Row w (some ⟨b, off, none⟩) J) (hX : (J.drop m).take X.length = X) : Row w (some ⟨b, off + m, none⟩) X := by
  obtain ⟨h0, h1, h2⟩ := h
  have hlen : X.length ≤ J.length - m := by
    have := congrArg List.length hX
    simp at this
    omega
  refine ⟨by omega, fun x hx => h1 x ?_, fun hp => ?_⟩
  · rw [← hX] at hx
    exact List.mem_of_mem_drop (List.mem_of_mem_take hx)
  · obtain ⟨b', off', e, hb, hc⟩ := h2 (by omega)
    simp only [Option.some.injEq, Addr.mk.injEq, and_true] at e
    obtain ⟨rfl, rfl⟩ := e
    refine ⟨b, off + m, rfl, hb, fun i hi => ?_⟩
    have := hc (m + i) (by omega)
    rw [← Nat.add_assoc] at this
    rw [this]
    congr 2
    conv => rhs; rw [← hX]
    rw [List.getD_eq_getElem?_getD, List.getD_eq_getElem?_getD, List.getElem?_take, if_pos hi, List.getElem?_drop]
theorem Row.at40 {w : World} {b off : Nat} {xs : List Int} (h : Row w (some ⟨b, off, none⟩) xs) (hl : xs.length = 256) (i : Nat) (hi : i < 6) : Row w (some ⟨b, off + (16 + i * 40), none⟩) (partAt xs i) := by
  rw [Nat.mul_comm]
  exact h.cut (by rw [length_partAt xs i hl hi]; rfl)
/-- What block.records answers. -/
def recsPost (xs : List Int) (z : Addr) (w : World) (r : Ending) (w' : World) : Prop :=
  ((partsOk xs (manyOf xs) = true ∧ ∃ ao c, r = .returned (.tuple #[.slice ao (manyOf xs) c, .nilIface]) ∧ OwnR w' w.heap.size ao c (recsOf xs)) ∨ (partsOk xs (manyOf xs) = false ∧ r = .returned (.tuple #[.slice none 0 0, errV z]))) ∧ Below w.heap.size w w'
end Go.Proofs.YtjacenhblclkaaaDoor

/- What block.Read answers, at all bytes: ErrShort, nothing, ErrBlock, or a block's epoch and records; nothing that was there is written. -/
namespace Go.Proofs.YtjacenhblclkaaaDoor
open Go.RowKit
set_option linter.unusedVariables false

/-- The errors that block.Read can meet: their variables. -/
structure BlkErrs (w : World) (x y z t : Addr) : Prop where
  rd : ReadErrs w x y z
  blk : w.cell? ⟨6, 0, none⟩ = some (errV t)
theorem BlkErrs.step {w w' : World} {x y z t : Addr} (h : BlkErrs w x y z t) (hb : Below w.heap.size w w') : BlkErrs w' x y z t := ⟨h.rd.step hb, (hb.cell (World.block_lt_of_cell? w _ h.blk)).trans h.blk⟩
theorem BlkErrs.over {B : Nat} {w w' : World} {x y z t : Addr} (h : BlkErrs w x y z t) (hb : Below B w w') (hB : w.heap.size ≤ B) : BlkErrs w' x y z t := h.step (hb.mono hB)
theorem errs_blk {w : World} {ks : List Nat} {a : Nat → Addr} (h : ErrsOf w ks a) (h1 : 1 ∈ ks) (h2 : 2 ∈ ks) (h3 : 3 ∈ ks) (h4 : 4 ∈ ks) : BlkErrs w (a 1) (a 2) (a 3) (a 4) := ⟨⟨h.cell 1 h1, h.cell 2 h2, h.cell 3 h3⟩, h.cell 4 h4⟩
/-- What block.Read answers of a sector that is not all zeros. -/
def brPost (xs : List Int) (t : Addr) (w : World) (r : Ending) (w' : World) : Prop :=
  ((isBlock xs = true ∧ ∃ ao c, r = .returned (.tuple #[.int .i64 (epochOf xs), .slice ao (manyOf xs) c, .nilIface]) ∧ OwnR w' w.heap.size ao c (recsOf xs)) ∨ (isBlock xs = false ∧ r = .returned (.tuple #[.int .i64 0, .slice none 0 0, errV t]))) ∧ Below w.heap.size w w'
theorem isBlock_no1 {xs : List Int} (h : partsOk xs (manyOf xs) = false) : isBlock xs = false := by unfold isBlock; rw [h]; rfl
theorem isBlock_no2 {xs : List Int} (h : okB (epochOf xs) (recsOf xs) = false) : isBlock xs = false := by unfold isBlock; rw [h]; simp
theorem isBlock_no3 {xs : List Int} (h : sameB (blockB (epochOf xs) (recsOf xs)) xs = false) : isBlock xs = false := by
  unfold sameB at h
  unfold isBlock
  rw [h]
  simp
theorem isBlock_yes {xs : List Int} (h1 : partsOk xs (manyOf xs) = true) (h2 : okB (epochOf xs) (recsOf xs) = true) (h : sameB (blockB (epochOf xs) (recsOf xs)) xs = true) : isBlock xs = true := by
  unfold sameB at h
  unfold isBlock
  rw [h1, h2, h]
  rfl
end Go.Proofs.YtjacenhblclkaaaDoor
