
/- What rec.Same and the document's own SameRec answer: whether two records are the same in each part. -/
import Derived.Test.YtefgmlmhdjckaaaDoorJoin7
namespace Go.Proofs.YtefgmlmhdjckaaaDoor
open Go.RowKit
set_option linter.unusedVariables false

def sameR (a b : R) : Bool := decide (a.kind = b.kind ∧ a.txn = b.txn ∧ a.page = b.page ∧ a.prev = b.prev ∧ a.next = b.next ∧ a.key = b.key ∧ a.had = b.had ∧ a.has = b.has ∧ a.old = b.old ∧ a.new = b.new)
theorem eq_of_parts {a b : R} (h : a.kind = b.kind ∧ a.txn = b.txn ∧ a.page = b.page ∧ a.prev = b.prev ∧ a.next = b.next ∧ a.key = b.key ∧ a.had = b.had ∧ a.has = b.has ∧ a.old = b.old ∧ a.new = b.new) : a = b := by
  obtain ⟨a0, b0, c0, d0, e0, f0, g0, h0, i0, j0⟩ := a
  obtain ⟨a1, b1, c1, d1, e1, f1, g1, h1, i1, j1⟩ := b
  simp only at h
  obtain ⟨rfl, rfl, rfl, rfl, rfl, rfl, rfl, rfl, rfl, rfl⟩ := h
  rfl
theorem Tryd.st66 : Tryd.prog.underlying 66 = some (.struct (Tryd.prog.fieldsOf 66)) := by kernel_rfl
theorem Tryd.sh66 : Tryd.prog.stoodInHeld 66 = false := by kernel_rfl
theorem Tryd.gu66 : Tryd.prog.eqGuardType Tryd.prog.depth 66 = false := by kernel_rfl
set_option maxHeartbeats 1000000 in
theorem sameRec_same (a : R) (w : World) : Calls Tryd.prog 36 #[a.val, a.val] w fun e w' => e = .returned (.bool true) ∧ Below w.heap.size w w' := by
  obtain ⟨a0, b0, c0, d0, e0, f0, g0, h0, i0, j0⟩ := a
  unfold R.val
  simp only
  go_enter Tryd.func36, Tryd.ntmps36
  go_wp2_with fail
  go_ret
  exact ⟨rfl, (below_box w _).alloc (by simp) _⟩
theorem int_eq (d : Nat) (t : TypeId) (ht : Tryd.prog.underlying t = some (.int .i64)) (x y : Int) (w : World) : (Op.equalIn (d + 1) t (.int .i64 x) (.int .i64 y)).run Tryd.prog w = .ok (x == y) w := run_equalIn_int w d t .i64 .i64 x y ht
set_option maxHeartbeats 1000000 in
theorem eql_rec (a b : R) (w : World) : (binOp .eql 66 a.val b.val).run Tryd.prog w = .ok (.bool (sameR a b)) w := by
  obtain ⟨a0, b0, c0, d0, e0, f0, g0, h0, i0, j0⟩ := a
  obtain ⟨a1, b1, c1, d1, e1, f1, g1, h1, i1, j1⟩ := b
  unfold R.val
  simp only
  rw [run_eql_struct, show (10000 : Nat) = 9999 + 1 from rfl, run_equalIn_agg w 9999 66 _ _ Tryd.st66 Tryd.sh66]
  simp only [Program.fieldsOf, Tryd.underlying66]
  have e3 : ∀ (x y : Int) (w : World), (Op.equalIn 9999 3 (.int .i64 x) (.int .i64 y)).run Tryd.prog w = .ok (x == y) w := fun x y w => int_eq 9998 3 Tryd.underlying3 x y w
  have e2 : ∀ (x y : Int) (w : World), (Op.equalIn 9999 2 (.int .i64 x) (.int .i64 y)).run Tryd.prog w = .ok (x == y) w := fun x y w => int_eq 9998 2 Tryd.underlying2 x y w
  have e4 : ∀ (x y : Bool) (w : World), (Op.equalIn 9999 4 (.bool x) (.bool y)).run Tryd.prog w = .ok (x == y) w := fun x y w => run_equalIn_bool' w 9998 4 x y Tryd.underlying4
  unfold sameR
  by_cases q0 : a0 = a1
  · subst q0
    by_cases q1 : b0 = b1
    · subst q1
      by_cases q2 : c0 = c1
      · subst q2
        by_cases q3 : d0 = d1
        · subst q3
          by_cases q4 : e0 = e1
          · subst q4
            by_cases q5 : f0 = f1
            · subst q5
              by_cases q6 : g0 = g1
              · subst q6
                by_cases q7 : h0 = h1
                · subst q7
                  by_cases q8 : i0 = i1
                  · subst q8
                    by_cases q9 : j0 = j1
                    · subst q9
                      simp [Op.eqFields, part, go_sem, e3, e2, e4]
                    · simp [Op.eqFields, part, go_sem, e3, e2, e4, q9]
                  · simp [Op.eqFields, part, go_sem, e3, e2, e4, q8]
                · simp [Op.eqFields, part, go_sem, e3, e4, q7]
              · simp [Op.eqFields, part, go_sem, e3, e4, q6]
            · simp [Op.eqFields, part, go_sem, e3, q5]
          · simp [Op.eqFields, part, go_sem, e3, q4]
        · simp [Op.eqFields, part, go_sem, e3, q3]
      · simp [Op.eqFields, part, go_sem, e3, q2]
    · simp [Op.eqFields, part, go_sem, e3, q1]
  · simp [Op.eqFields, part, go_sem, e3, q0]
theorem wpList_eql {ops : Array Oper} {Q : Exit → Act → World → Prop} {act : Act} {w : World} {rest : List Oper} {d : Option Tmp} {ty : TypeId} {pos : String} {af : Array Edge} {x y : Operand} (a b : R) (hx : act.eval x = a.val) (hy : act.eval y = b.val)
    (h : wpList Tryd.prog ops Q rest (act.put d (.bool (sameR a b))) w) : wpList Tryd.prog ops Q ({ dst := d, op := .binOp .eql 66 x y 66, type := ty, pos := pos, after := af, guard := none } :: rest) act w := by
  refine BigFrame.wpList_want rfl fun K hK => ?_
  unfold Oper.wp
  have hr : (execOp act.eval { dst := d, op := .binOp .eql 66 x y 66, type := ty, pos := pos, after := af, guard := none }).run Tryd.prog w = .ok (.value (.bool (sameR a b))) w := by
    have hG : (eqGuard .eql 66 x y a.val b.val).run Tryd.prog w = .ok () w := run_eqGuard_agg w .eql 66 x y _ _ Tryd.gu66
    simp only [execOp, hx, hy, Sem.run_bind, hG, Result.andThen_ok, eql_rec, Sem.run_pure]
  rw [hr]
  exact hK _ _ h
end Go.Proofs.YtefgmlmhdjckaaaDoor
