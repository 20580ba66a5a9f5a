/- Lemmas and contracts that the law stands on, joined: Mem. -/
import Derived.Test.YtmkbedfccgojpaaJoin1
import Derived.Test.YtmkbedfccgojpaaJoin3
import Derived.Deep.QuietTactic
import Derived.BigQuiet
/- What a list of bytes is in memory, and what the functions that only read one answer: cell.Get, cell.Zero, phoenixref.SameBytes, at every list of bytes. -/
namespace Go.Proofs.Ytmkbedfccgojpaa
open Go.RowKit
set_option linter.unusedVariables false

/-- The slice that begins at 'ao' reads in w as the bytes xs. -/
def Row (w : World) (ao : Option Addr) (xs : List Int) : Prop :=
  xs.length ≤ 4294967296 ∧ Bytes xs ∧ (0 < xs.length → ∃ b off, ao = some ⟨b, off, none⟩ ∧ b < w.heap.size ∧ ∀ i, i < xs.length → w.cell? ⟨b, off + i, none⟩ = some (.int .u8 (xs.getD i 0)))

theorem Row.below {w w' : World} {B : Nat} {ao : Option Addr} {xs : List Int} (h : Row w ao xs) (hb : Below B w w') (hB : w.heap.size ≤ B) : Row w' ao xs := by
  obtain ⟨h0, h1, h2⟩ := h
  refine ⟨h0, h1, fun hp => ?_⟩
  obtain ⟨b, off, e, hlt, hc⟩ := h2 hp
  refine ⟨b, off, e, by have := hb.size; omega, fun i hi => ?_⟩
  rw [hb.cell (by show b < B; omega)]
  exact hc i hi
theorem row_nil (w : World) : Row w none [] := ⟨by simp, fun x hx => by simp at hx, fun h => by simp at h⟩
theorem over {B : Nat} {w w1 w2 : World} (h : Below B w w1) (h' : Below w1.heap.size w1 w2) (hB : B ≤ w1.heap.size) : Below B w w2 := h.trans (h'.mono hB)
theorem Row.drewN {w : World} (n : Nat) {ao : Option Addr} {xs : List Int} (h : Row w ao xs) : Row (w.drewN n) ao xs := h

/-- All bytes are 0. -/
def zeroB (xs : List Int) : Bool := xs.all (· == 0)
theorem zeroB_false {xs : List Int} {i : Nat} (hi : i < xs.length) (h : xs.getD i 0 ≠ 0) : zeroB xs = false := by
  unfold zeroB
  rw [List.all_eq_false]
  refine ⟨xs[i], List.getElem_mem hi, ?_⟩
  rw [List.getD_eq_getElem?_getD, List.getElem?_eq_getElem hi] at h
  simpa using h
theorem zeroB_true {xs : List Int} (h : ∀ i, i < xs.length → xs.getD i 0 = 0) : zeroB xs = true := by
  unfold zeroB
  rw [List.all_eq_true]
  intro x hx
  obtain ⟨i, hi, rfl⟩ := List.getElem_of_mem hx
  have := h i hi
  rw [List.getD_eq_getElem?_getD, List.getElem?_eq_getElem hi] at this
  simpa using this

/-- Two lists of bytes are the same. -/
def sameB (xs ys : List Int) : Bool := decide (xs = ys)
theorem sameB_true {xs ys : List Int} (h : xs = ys) : sameB xs ys = true := by simp [sameB, h]
theorem sameB_of {xs ys : List Int} (hl : xs.length = ys.length) (h : ∀ i, i < xs.length → xs.getD i 0 = ys.getD i 0) : sameB xs ys = true := by
  refine sameB_true (List.ext_getElem hl fun i h1 h2 => ?_)
  have := h i h1
  rw [List.getD_eq_getElem?_getD, List.getD_eq_getElem?_getD, List.getElem?_eq_getElem h1, List.getElem?_eq_getElem h2] at this
  exact this
theorem sameB_not {xs ys : List Int} {i : Nat} (h : xs.getD i 0 ≠ ys.getD i 0) : sameB xs ys = false := by
  unfold sameB
  rw [decide_eq_false_iff_not]
  intro e
  exact h (by rw [e])

end Go.Proofs.Ytmkbedfccgojpaa
