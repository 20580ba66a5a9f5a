/- Lemmas and contracts that the law stands on, joined: PgIns. -/
import Derived.Test.YtjacenhblclkaaaDoorJoin18
import Derived.Test.YtjacenhblclkaaaDoorJoin17
import Derived.Lib.Overlaps
import Derived.Lib.AppendZerosOnto
import Derived.Laws.CopyRow
import Derived.Laws.Externs
/- What slices.Clone and slices.Insert answer at entries of pages. -/
namespace Go.Proofs.YtjacenhblclkaaaDoor
open Go.RowKit
set_option linter.unusedVariables false

theorem wpList_copy_e {P : Program} {w : World} {ops : Array Oper} {rest : List Oper} {o : Oper} {a : Act} {Q : Exit → Act → World → Prop} (hgd : o.guard = none) (d s : Operand) (t t' : TypeId)
    (ho : o.op = .call { callee := .builtin .copy, args := #[d, s], argTypes := #[t, t'] }) (v u : Value) (hd : a.eval d = v) (hs : a.eval s = u) {v' : Value} {w' : World}
    (hr : (Builtin.copy_ #[t, t'] o.type #[v, u]).run P w = .ok v' w') (h : wpList P ops Q rest (a.put o.dst v') w') : wpList P ops Q (o :: rest) a w :=
  wpList_plain hgd fun _ hK => by
    unfold Oper.wp execOp
    simp only [ho, resolve, invoke, builtin, Sem.run_bind, Sem.run_pure, Result.andThen_ok, List.map_toArray, List.map_cons, List.map_nil, hd, hs, hr]
    exact hK _ _ h
theorem step_copy_e {P : Program} {ops : Array Oper} {o : Oper} {a : Act} {w : World} {K : Act → World → Prop} {Q : Exit → Act → World → Prop} {E : Prop}
    (hg : o.guard = none) (d x : Operand) (dT sT : TypeId) (hop : o.op = Op.call { callee := Callee.builtin Builtin.copy, args := #[d, x], argTypes := #[dT, sT] })
    (v u : Value) (hd : a.eval d = v) (hx : a.eval x = u) {v' : Value} {w' : World} (hr : (Builtin.copy_ #[dT, sT] o.type #[v, u]).run P w = .ok v' w') (hK : K (a.put o.dst v') w') :
    if Region.wanted o (yielded ops a.tmps) = true then Oper.wp P o a w K Q else E := by
  have hw : Region.wanted o (yielded ops a.tmps) = true := by simp [Region.wanted, hg]
  rw [if_pos hw]
  unfold Oper.wp
  simp [execOp, hop, resolve, invoke, builtin, hd, hx, hr, Result.andThen]
  exact hK
/-- What the builtin copy does to entries. -/
theorem run_copyE (w : World) (ty : TypeId) (g o dLen dCap : Nat) (a : Addr) (sLen sCap : Nat) (cur : Array Value) (t : TypeId) (cs : List Value) (m : Nat) (hm : cs.length = m * 2)
    (hg : w.heap[g]? = some (.cells cur t (0, 0))) (hn : Nat.min sLen dLen = m)
    (hsrc : ∀ j v, cs[j]? = some v → w.cell? (a.add j) = some v) (hfit : o + cs.length ≤ cur.size) (h1 : ∀ v ∈ cs, v.oneCell' = true) :
    (Builtin.copy_ #[32, 32] ty #[.slice (some ⟨g, o, none⟩) dLen dCap, .slice (some a) sLen sCap]).run Tryd.prog w =
      .ok (goInt m) (w.setRow g (cur.toList.take o ++ cs ++ cur.toList.drop (o + cs.length)).toArray) := by
  have hl := run_loadCells_list (P := Tryd.prog) w a cs hsrc
  have hst := run_storeCells_at Tryd.prog g o t cs 0 cur w hg (by simpa using hfit) h1
  obtain ⟨i, hq, hz0, hi, hz2⟩ := info_parts Tryd.info114
  simp [Builtin.copy_, run_underlying Tryd.underlying32, Builtin.lenOf, Builtin.firstCells, sizeOf, typeInfo, hq, hi, hn, ← hm, hl, hst]
set_option maxRecDepth 100000 in
set_option maxHeartbeats 2000000 in
theorem cloneE_any (ao : Option Addr) (n c : Nat) (es : List (Int × Int)) (w : World) (h : EntRow w ao es) (hn : es.length = n) :
    Calls Tryd.prog 61 #[.slice ao n c] w fun e w' => ∃ ao' c', e = .returned (.slice ao' n c') ∧ OwnE w' w.heap.size ao' c' es ∧ Below w.heap.size w w' := by
  have hs := h.1
  rw [hn] at hs
  have hq := fun x a k c' => Lib.run_eql_slice_nil (P := Tryd.prog) x 32 114 a k c' 0 0 Tryd.underlying32
  cases ao with
  | none =>
    have h0 : es = [] := by
      cases es with
      | nil => rfl
      | cons x r => obtain ⟨b, off, e, _⟩ := h.2 (by simp); cases e
    subst h0
    simp only [List.length_nil] at hn
    subst hn
    clear h
    go_enter Tryd.func61, Tryd.ntmps61
    go_wp2_with fail
    go_ret
    exact ⟨none, 0, rfl, ownE_nil _ _, Below.refl _ _⟩
  | some a =>
    have hbx := below_box w (.cells #[] 114)
    have HE : Hid (OwnE (w.alloc (.cells #[] 114)) w.heap.size (some ⟨w.heap.size, 0, none⟩) 0 []) := ⟨World.ownsRow_made w #[] 0 (Nat.le_refl _) (Nat.zero_le _) (by simp), by simp⟩
    have HR := hide (h.step hbx)
    have hrun : ∃ ao' c' w', (Builtin.append_ #[32, 32] 32 #[.slice (some ⟨w.heap.size, 0, none⟩) 0 0, .slice (some a) n c]).run Tryd.prog (w.alloc (.cells #[] 114)) = .ok (.slice ao' n c') w' ∧ OwnE w' w.heap.size ao' c' es ∧ Below w.heap.size (w.alloc (.cells #[] 114)) w' := by
      obtain ⟨i0, hi, hz0, hz1, hz2⟩ := info_parts Tryd.info114
      have hcs : ∀ j u, (entCells es)[j]? = some u → (w.alloc (.cells #[] 114)).cell? (a.add j) = some u := by
        by_cases hp : 0 < es.length
        · obtain ⟨b, off, e, _, hc⟩ := HR.out.2 hp
          cases e
          exact cells_of_ents hc
        · have : es = [] := List.eq_nil_of_length_eq_zero (by omega)
          subst this
          intro j u hj
          simp [entCells] at hj
      obtain ⟨v', w', hr, ho, hg, _, hat⟩ := run_append_own_at (P := Tryd.prog) (w.alloc (.cells #[] 114)) w.heap.size 32 32 114 i0 _ 2 16 Tryd.underlying32 hi hz0 hz1 hz2 rfl (by decide) (.slice (some ⟨w.heap.size, 0, none⟩) 0 0) 0 (entCells []) HE.out.1 a n c (entCells es) (by rw [length_entCells, hn]) hcs (oneCell_ents es) (by unfold maxLen; omega) (by omega) hbx.size
      obtain ⟨ao', c', rfl⟩ := own_shapeE ho
      rw [Nat.zero_add] at hr ho
      refine ⟨ao', c', w', hr, ⟨?_, by rw [hn]; exact hs⟩, (Below.refl _ _).grown hg hbx.size (fun j e => (HE.out.1.lt j e).1)⟩
      rw [hn]
      simpa [entCells] using ho
    obtain ⟨ao', c', w', hr, ho, hb⟩ := hrun
    have HRUN := hide hr
    have HO := hide ho
    have HB := hide (hbx.trans hb)
    clear hr ho hb hbx HE HR h
    obtain ⟨ab, aoff, asp⟩ := a
    go_enter Tryd.func61, Tryd.ntmps61
    go_wp2_with (at_builtin; refine wpList_append_runE rfl (.tmp 5) (.tmp 6) 32 rfl _ _ rfl rfl HRUN.out ?_)
    go_ret
    exact ⟨ao', c', rfl, HO.out, HB.out⟩
/-- What is put into a list of entries in place. -/
theorem ins_row (cur : List Value) (es : List (Int × Int)) (e : Int × Int) (n k : Nat) (hn : es.length = n) (hk : k ≤ n) (hc : cur.take (n * 2) = entCells es) (hl : (n + 1) * 2 ≤ cur.length) :
    let row1 := cur.take ((k + 1) * 2) ++ entCells (es.drop k) ++ cur.drop ((k + 1) * 2 + (entCells (es.drop k)).length)
    let row2 := row1.take (k * 2) ++ entCells [e] ++ row1.drop (k * 2 + (entCells [e]).length)
    row1.length = cur.length ∧ row2.length = cur.length ∧ row2.take ((n + 1) * 2) = entCells (es.take k ++ e :: es.drop k) := by
  intro row1 row2
  have hd : (entCells (es.drop k)).length = (n - k) * 2 := by rw [length_entCells, List.length_drop, hn]
  have h1 : row1.length = cur.length := by simp only [row1, List.length_append, List.length_take, List.length_drop, hd]; omega
  have he1 : (entCells [e]).length = 2 := rfl
  have h2 : row2.length = cur.length := by simp only [row2, List.length_append, List.length_take, List.length_drop, h1, he1]; omega
  refine ⟨h1, h2, ?_⟩
  have ht : row1.take (k * 2) = entCells (es.take k) := by
    have : row1.take (k * 2) = cur.take (k * 2) := by
      simp only [row1]
      rw [List.append_assoc, List.take_append_of_le_length (by rw [List.length_take]; omega), List.take_take]
      congr 1; omega
    rw [this]
    have h3 : cur.take (k * 2) = (cur.take (n * 2)).take (k * 2) := by rw [List.take_take]; congr 1; omega
    rw [h3, hc]
    have h4 : entCells es = entCells (es.take k) ++ entCells (es.drop k) := by rw [← entCells_append, List.take_append_drop]
    rw [h4, List.take_append_of_le_length (by rw [length_entCells, List.length_take]; omega), List.take_of_length_le (by rw [length_entCells, List.length_take]; omega)]
  have hdr : row1.drop (k * 2 + 2) = entCells (es.drop k) ++ cur.drop ((k + 1) * 2 + (entCells (es.drop k)).length) := by
    simp only [row1]
    rw [List.append_assoc, List.drop_append_of_le_length (by rw [List.length_take]; omega), List.drop_eq_nil_of_le (by rw [List.length_take]; omega), List.nil_append]
  simp only [row2]
  rw [he1, ht, hdr, entCells_append, show e :: es.drop k = [e] ++ es.drop k from rfl, entCells_append, List.append_assoc, ← List.append_assoc (entCells [e]), ← List.append_assoc (entCells (es.take k))]
  rw [List.take_append_of_le_length (by simp only [List.length_append, hd, he1, length_entCells, List.length_take, hn]; omega), List.take_of_length_le (by simp only [List.length_append, hd, he1, length_entCells, List.length_take, hn]; omega)]
end Go.Proofs.YtjacenhblclkaaaDoor
