/- Lemmas and contracts that the law stands on, joined: PageRead. -/
import Derived.Test.YtefgmlmhdjckaabDoorJoin14
import Derived.Test.YtefgmlmhdjckaabDoorJoin7
import Derived.Deep.RegionHeld3
import Derived.Deep.Cut
import Derived.Deep.RegionLaw
import Derived.Test.YtefgmlmhdjckaabDoorJoin5
import Derived.Test.YtefgmlmhdjckaabDoorJoin16
/- What page.said and page.Read answer. -/
namespace Go.Proofs.YtefgmlmhdjckaabDoor
open Go.RowKit
set_option linter.unusedVariables false

theorem step_append_e {P : Program} {w : World} {ops : Array Oper} {o : Oper} {a : Act} {K : Act → World → Prop} {Q : Exit → Act → World → Prop} {E : Prop} (hw : Region.wanted o (yielded ops a.tmps) = true) (s x : Operand) (t : TypeId)
    (ho : o.op = .call { callee := .builtin .append, args := #[s, x], argTypes := #[t, t] }) (vs vx : Value) (hs : a.eval s = vs) (hx : a.eval x = vx) {v' : Value} {w' : World} (hr : (Builtin.append_ #[t, t] o.type #[vs, vx]).run P w = .ok v' w')
    (h : K (a.put o.dst v') w') : if Region.wanted o (yielded ops a.tmps) = true then Oper.wp P o a w K Q else E := by
  rw [if_pos hw]
  unfold Oper.wp execOp
  simp only [ho, resolve, invoke, builtin, Sem.run_bind, Sem.run_pure, Result.andThen_ok, List.map_toArray, List.map_cons, List.map_nil, hs, hx, hr]
  exact h
theorem step_call_e {P : Program} {w : World} {ops : Array Oper} {o : Oper} {a : Act} {K : Act → World → Prop} {Q : Exit → Act → World → Prop} {E : Prop} {f : FuncId} {ys : List Operand} {ts : Array TypeId} (hw : Region.wanted o (yielded ops a.tmps) = true) (hop : o.op = .call { callee := .value (.func f), args := ys.toArray, argTypes := ts }) (hf : Enters P f) {v : Value} {vs : Array Value} (hvs : (ys.map a.eval).toArray = vs) (hc : Calls P f vs w fun e w' => e = .returned v ∧ w' = w)
    (h : K (a.put o.dst v) w) : if Region.wanted o (yielded ops a.tmps) = true then Oper.wp P o a w K Q else E := by
  rw [if_pos hw]
  unfold Oper.wp
  rw [run_enter hf hop, List.map_toArray, hvs]
  refine hc.mono ?_
  rintro e w' ⟨rfl, rfl⟩
  exact h
/-- A page that is being read: it lies at block P, its entries are our own. -/
structure PageAt (w0 w : World) (P : Nat) (lsn : Int) (ao : Option Addr) (n c : Nat) (es : List (Int × Int)) : Prop where
  head : w.heap[P]? = some (.cells #[.int .i64 lsn, .slice ao n c] 26 (0, 0))
  own : OwnE w w0.heap.size ao c es
  num : es.length = n
  lo : w0.heap.size ≤ P
  bel : Below w0.heap.size w0 w
theorem PageAt.cell {w0 w : World} {P : Nat} {lsn : Int} {ao : Option Addr} {n c : Nat} {es : List (Int × Int)} (h : PageAt w0 w P lsn ao n c es) : w.cell? ⟨P, 0, none⟩ = some (.int .i64 lsn) ∧ w.cell? ⟨P, 1, none⟩ = some (.slice ao n c) ∧ w.frozen? ⟨P, 1, none⟩ = false ∧ P < w.heap.size :=
  ⟨(cell_row h.head 0).trans rfl, (cell_row h.head 1).trans rfl, by simp [World.frozen?, h.head], lt_of_block h.head⟩
theorem PageAt.ne {w0 w : World} {P : Nat} {lsn : Int} {ao : Option Addr} {n c : Nat} {es : List (Int × Int)} (h : PageAt w0 w P lsn ao n c es) {g : Nat} (hg : (Value.slice ao es.length c).ownBlock = some g) : g ≠ P := by
  rcases h.own.1.2 with ⟨h1, _⟩ | ⟨g', c', cur, h1, _, h3, _⟩
  · rw [h1] at hg; simp [Value.ownBlock] at hg
  · rw [h1] at hg
    simp only [Value.ownBlock, Option.some.injEq] at hg
    subst hg
    rintro rfl
    rw [h.head] at h3
    simp at h3
theorem PageAt.step {w0 w w' : World} {P : Nat} {lsn : Int} {ao : Option Addr} {n c : Nat} {es : List (Int × Int)} (h : PageAt w0 w P lsn ao n c es) (hb : Below w.heap.size w w') : PageAt w0 w' P lsn ao n c es :=
  ⟨by rw [hb.block P (lt_of_block h.head)]; exact h.head, h.own.step hb, h.num, h.lo, over h.bel hb h.bel.size⟩
/-- One entry is put behind the others, and the page's list set to it. -/
theorem PageAt.append {w0 w : World} {P : Nat} {lsn : Int} {ao : Option Addr} {n c : Nat} {es : List (Int × Int)} (h : PageAt w0 w P lsn ao n c es) (hn : n ≤ 900) (e : Int × Int) (ty : TypeId) :
    ∃ ao' c' w1, (Builtin.append_ #[24, 24] ty #[.slice ao n c, .slice (some ⟨w.heap.size, 0, none⟩) 1 1]).run Tryd.prog (w.alloc (entBlock e)) = .ok (.slice ao' (n + 1) c') w1 ∧ w1.cell? ⟨P, 1, none⟩ = some (.slice ao n c) ∧ w1.frozen? ⟨P, 1, none⟩ = false ∧ PageAt w0 (w1.setCell ⟨P, 1, none⟩ (.slice ao' (n + 1) c')) P lsn ao' (n + 1) c' (es ++ [e]) ∧ ∀ j z, w.heap[j]? = some (.cells z 26 (0, 0)) → j ≠ P → (w1.setCell ⟨P, 1, none⟩ (.slice ao' (n + 1) c')).heap[j]? = w.heap[j]? := by
  have hbx := below_box w (entBlock e)
  have h1 := h.step hbx
  obtain ⟨ao', c', w1, hr, ho, hg, hb⟩ := run_appendE (yc := 1) h1.own h1.num (show [e].length = 1 from rfl) (by omega) h1.bel.size (ent_new w e) ty
  have hP := lt_of_block h1.head
  have hh : w1.heap[P]? = _ := (hg.block P hP (fun e' => h1.ne (by rw [h1.num]; exact e'.symm) rfl)).trans h1.head
  have hln : (es ++ [e]).length = n + 1 := by rw [List.length_append, h.num]; rfl
  refine ⟨ao', c', w1, hr, (cell_row hh 1).trans rfl, by simp [World.frozen?, hh], ⟨?_, ?_, hln, h.lo, ?_⟩, fun j z hj hjP => ?_⟩
  · rw [set_block hh]; rfl
  · have hne : ∀ g, (Value.slice ao' (es ++ [e]).length c').ownBlock = some g → g ≠ P := by
      intro g hg' e'
      rcases ho.1.2 with ⟨h3, _⟩ | ⟨g', c'', cur, h3, _, h5, _⟩
      · rw [h3] at hg'; simp [Value.ownBlock] at hg'
      · rw [h3] at hg'
        simp only [Value.ownBlock, Option.some.injEq] at hg'
        subst hg'
        subst e'
        rw [hh] at h5
        simp at h5
    obtain ⟨⟨q0, q1⟩, q2⟩ := ho
    refine ⟨⟨q0, ?_⟩, q2⟩
    rcases q1 with q1 | ⟨g, c'', cur, hv, hg', hh', r⟩
    · exact .inl q1
    · exact .inr ⟨g, c'', cur, hv, hg', by rw [Below.heap_setCell _ _ _ _ (hne g (by rw [hv]; rfl))]; exact hh', r⟩
  · exact (h1.bel.trans hb).setCell (p := ⟨P, 1, none⟩) h.lo _
  · have hjl := lt_of_block hj
    have hj1 := (hbx.block j hjl).trans hj
    rw [Below.heap_setCell _ _ _ _ hjP, hg.block j (lt_of_block hj1) (fun e' => ?_), hj1, hj]
    rcases h1.own.1.2 with ⟨h3, _⟩ | ⟨g', c'', cur, h3, _, h5, _⟩
    · rw [h1.num] at h3
      rw [h3] at e'
      simp [Value.ownBlock] at e'
    · rw [h1.num] at h3
      rw [h3] at e'
      simp only [Value.ownBlock, Option.some.injEq] at e'
      rw [← e', hj1] at h5
      simp at h5
theorem OwnE.setPage {w : World} {B B2 : Nat} {ao : Option Addr} {cap : Nat} {es : List (Int × Int)} {z : Array Value} (h : OwnE w B ao cap es) (hz : w.heap[B2]? = some (.cells z 26 (0, 0))) (o : Nat) (v : Value) : OwnE (w.setCell ⟨B2, o, none⟩ v) B ao cap es := by
  obtain ⟨⟨q0, q1⟩, q2⟩ := h
  refine ⟨⟨q0, ?_⟩, q2⟩
  rcases q1 with q1 | ⟨g, c'', cur, hv, hg', hh', r⟩
  · exact .inl q1
  · refine .inr ⟨g, c'', cur, hv, hg', ?_, r⟩
    rw [Below.heap_setCell _ _ _ _ (by rintro rfl; rw [hz] at hh'; simp at hh')]
    exact hh'
theorem getB4 (xs : List Int) (hb : Bytes xs) (a : Int) : 0 ≤ getB xs a 4 ∧ getB xs a 4 ≤ 4294967295 := by have := getB_lt xs hb a 4; rw [pow4] at this; omega
theorem getB2 (xs : List Int) (hb : Bytes xs) (a : Int) : 0 ≤ getB xs a 2 ∧ getB xs a 2 ≤ 65535 := by have := getB_lt xs hb a 2; rw [show (256 : Int) ^ 2 = 65536 by decide] at this; omega
end Go.Proofs.YtefgmlmhdjckaabDoor
