
/- What rec.Same and the document's own SameRec answer: whether two records are the same in each part. -/
import Derived.Test.YtjdfmpdkfbhdkaaDoorRecRead
namespace Go.Proofs.YtjdfmpdkfbhdkaaDoor
open Go.RowKit
set_option linter.unusedVariables false

def sameR (a b : R) : Bool := decide (a.kind = b.kind ∧ a.txn = b.txn ∧ a.page = b.page ∧ a.prev = b.prev ∧ a.next = b.next ∧ a.key = b.key ∧ a.had = b.had ∧ a.has = b.has ∧ a.old = b.old ∧ a.new = b.new)
theorem eq_of_parts {a b : R} (h : a.kind = b.kind ∧ a.txn = b.txn ∧ a.page = b.page ∧ a.prev = b.prev ∧ a.next = b.next ∧ a.key = b.key ∧ a.had = b.had ∧ a.has = b.has ∧ a.old = b.old ∧ a.new = b.new) : a = b := by
  obtain ⟨a0, b0, c0, d0, e0, f0, g0, h0, i0, j0⟩ := a
  obtain ⟨a1, b1, c1, d1, e1, f1, g1, h1, i1, j1⟩ := b
  simp only at h
  obtain ⟨rfl, rfl, rfl, rfl, rfl, rfl, rfl, rfl, rfl, rfl⟩ := h
  rfl
theorem int_eq (d : Nat) (t : TypeId) (ht : Tryd.prog.underlying t = some (.int .i64)) (x y : Int) (w : World) : (Op.equalIn (d + 1) t (.int .i64 x) (.int .i64 y)).run Tryd.prog w = .ok (x == y) w := run_equalIn_int w d t .i64 .i64 x y ht
end Go.Proofs.YtjdfmpdkfbhdkaaDoor
