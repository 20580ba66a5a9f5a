
/- Small facts on memory that every later text wants, and what an error of package api is as a value. -/
import Derived.Test.YtjdfmpdkfbhdkaaDoorCopy
import Derived.Deep.RegionHeld3
namespace Go.Proofs.YtjdfmpdkfbhdkaaDoor
open Go.RowKit
set_option linter.unusedVariables false

theorem lt_of_block {w : World} {g : Nat} {x : Obj} (h : w.heap[g]? = some x) : g < w.heap.size := (Array.getElem?_eq_some_iff.1 h).1
theorem cell_row {w : World} {d : Nat} {c : Array Value} {e : TypeId} (h : w.heap[d]? = some (.cells c e (0, 0))) (o : Nat) : w.cell? ⟨d, o, none⟩ = c[o]? := by
  simp [World.cell?, h]
theorem below_drewN {B : Nat} {a w : World} (h : Below B a w) (n : Nat) : Below B a (w.drewN n) := h.trans ⟨rfl, rfl, rfl, Nat.le_refl _, fun _ _ => rfl⟩
theorem below_drew {B : Nat} {a w : World} (h : Below B a w) : Below B a w.drew := h.trans ⟨rfl, rfl, rfl, Nat.le_refl _, fun _ _ => rfl⟩
theorem of_drew {B : Nat} {w w1 : World} (h : Below B w.drew w1) : Below B w w1 := ⟨h.os, h.tape, h.output, h.size, h.block⟩
/-- An error of package api, as a value. -/
def errV (x : Addr) : Value := .iface 75 (.pointer (some x))
/-- The errors of package api in the document's order: the block of each one's variable. -/
def gno (i : Nat) : Nat := [3, 0, 1, 4, 5, 2, 6, 7, 8, 9, 10, 11, 12, 13, 14, 15, 16, 17].getD i 0
/-- The variables of those errors that ks names hold errors that lie in memory of their own, each another. -/
structure ErrsOf (w : World) (ks : List Nat) (a : Nat → Addr) : Prop where
  cell : ∀ i ∈ ks, w.cell? ⟨gno i, 0, none⟩ = some (errV (a i))
  row : ∀ i ∈ ks, ∃ c t, w.heap[(a i).block]? = some (.cells c t (0, 0))
  ne : ∀ i ∈ ks, ∀ j ∈ ks, i ≠ j → a i ≠ a j
theorem ErrsOf.below {w w' : World} {ks : List Nat} {a : Nat → Addr} (h : ErrsOf w ks a) {B : Nat} (hb : Below B w w') (hB : w.heap.size ≤ B) : ErrsOf w' ks a := by
  refine ⟨fun i hi => ?_, fun i hi => ?_, h.ne⟩
  · have hlt := World.block_lt_of_cell? w _ (h.cell i hi)
    rw [hb.cell (Nat.lt_of_lt_of_le hlt hB)]; exact h.cell i hi
  · obtain ⟨c, t, hr⟩ := h.row i hi
    exact ⟨c, t, by rw [hb.block _ (Nat.lt_of_lt_of_le (lt_of_block hr) hB)]; exact hr⟩
theorem ErrsOf.step {w w' : World} {ks : List Nat} {a : Nat → Addr} (h : ErrsOf w ks a) (hb : Below w.heap.size w w') : ErrsOf w' ks a := h.below hb (Nat.le_refl _)
theorem ErrsOf.drew {w : World} {ks : List Nat} {a : Nat → Addr} (h : ErrsOf w ks a) : ErrsOf w.drew ks a := ⟨h.cell, h.row, h.ne⟩
theorem ErrsOf.alloc {w : World} {ks : List Nat} {a : Nat → Addr} (h : ErrsOf w ks a) (x : Obj) : ErrsOf (w.alloc x) ks a := h.step ((Below.refl _ _).alloc (Nat.le_refl _) x)
theorem ErrsOf.var {w : World} {ks : List Nat} {a : Nat → Addr} (h : ErrsOf w ks a) (i : Nat) {g : Nat} (hi : i ∈ ks) (hg : gno i = g) : w.cell? ⟨g, 0, none⟩ = some (errV (a i)) := by rw [← hg]; exact h.cell i hi
end Go.Proofs.YtjdfmpdkfbhdkaaDoor
