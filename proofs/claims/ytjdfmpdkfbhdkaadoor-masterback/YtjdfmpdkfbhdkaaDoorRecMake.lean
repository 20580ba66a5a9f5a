
/- What phoenixmake.Rec makes out of a list of numbers: a record that may be; only the list's own counter is written. -/
import Derived.Test.YtjdfmpdkfbhdkaaDoorRecCheck
namespace Go.Proofs.YtjdfmpdkfbhdkaaDoor
open Go.RowKit
set_option linter.unusedVariables false

/-- Of all blocks that were there none but s has turned. -/
structure But (s : Nat) (w w' : World) : Prop where
  os : w'.os = w.os
  tape : w'.tape = w.tape
  output : w'.output = w.output
  size : w.heap.size ≤ w'.heap.size
  block : ∀ k, k < w.heap.size → k ≠ s → w'.heap[k]? = w.heap[k]?
theorem But.refl (s : Nat) (w : World) : But s w w := ⟨rfl, rfl, rfl, Nat.le_refl _, fun _ _ _ => rfl⟩
theorem But.trans {s : Nat} {a b c : World} (h : But s a b) (k : But s b c) : But s a c :=
  ⟨k.os.trans h.os, k.tape.trans h.tape, k.output.trans h.output, Nat.le_trans h.size k.size, fun i hi hs => (k.block i (Nat.lt_of_lt_of_le hi h.size) hs).trans (h.block i hi hs)⟩
theorem But.of_below {s : Nat} {a b : World} (h : Below a.heap.size a b) : But s a b := ⟨h.os, h.tape, h.output, h.size, fun k hk _ => h.block k hk⟩
theorem But.below {s : Nat} {a b : World} (h : But s a b) (hs : s ≤ a.heap.size) : Below s a b := ⟨h.os, h.tape, h.output, h.size, fun k hk => h.block k (Nat.lt_of_lt_of_le hk hs) (Nat.ne_of_lt hk)⟩
theorem But.alloc {s : Nat} {a b : World} (h : But s a b) (A : Obj) : But s a (b.alloc A) := h.trans (But.of_below ((Below.refl _ _).alloc (Nat.le_refl _) A))
theorem But.set (s : Nat) (w : World) (o : Nat) (v : Value) (q : Nat) : But s w ((w.setCell ⟨s, o, none⟩ v).drewN q) := by
  refine ⟨rfl, rfl, rfl, ?_, fun k hk hs => ?_⟩
  · show w.heap.size ≤ (w.setCell _ _).heap.size; simp [World.setCell]
  · show (w.setCell _ _).heap[k]? = _
    simp only [World.setCell, Array.getElem?_modify]
    rw [if_neg (fun e => hs e.symm)]
theorem set_block {w : World} {s : Nat} {c : Array Value} {t : TypeId} (h : w.heap[s]? = some (.cells c t (0, 0))) (o : Nat) (v : Value) : (w.setCell ⟨s, o, none⟩ v).heap[s]? = some (.cells (c.setIfInBounds o v) t (0, 0)) := by
  simp [World.setCell, Array.getElem?_modify, h]
theorem set_alloc (x : World) (A : Obj) (p : Addr) (v : Value) (h : p.block < x.heap.size) : (x.alloc A).setCell p v = (x.setCell p v).alloc A := by
  unfold World.setCell World.alloc
  simp only
  congr 1
  refine Array.ext (by simp) fun i h1 h2 => ?_
  simp only [Array.getElem_modify, Array.getElem_push, Array.size_modify]
  by_cases e : i < x.heap.size
  · simp [e]
  · have : ¬ p.block = i := by omega
    simp [e, this]
theorem good_of {r : R} (h : holdsB 1 10 r.kind = true ∧ holdsB (txnLo r.kind) (txnHi r.kind) r.txn = true ∧ holdsB (pageLo r.kind) (pageHi r.kind) r.page = true ∧ holdsB (prevLo r.kind) (prevHi r.kind) r.prev = true ∧ holdsB 0 (nextHi r.kind) r.next = true ∧ holdsB 0 (keyHi r.kind) r.key = true ∧ oldB r = true) (h' : (newB r && chgB r) = true) : goodB r = true := by
  unfold goodB
  obtain ⟨h1, h2, h3, h4, h5, h6, h7⟩ := h
  rw [h1, h2, h3, h4, h5, h6, h7, h']
  rfl
end Go.Proofs.YtjdfmpdkfbhdkaaDoor
