/- Lemmas and contracts that the law stands on, joined: PgIns, PgIns2, PgIns3, PgIns4. -/
import Derived.Test.YtdijgpkcolpfoaaDoorJoin23
import Derived.Test.YtdijgpkcolpfoaaDoorJoin17
import Derived.Lib.Overlaps
import Derived.Lib.AppendZerosOnto
import Derived.Laws.CopyRow
import Derived.Laws.Externs
/- What slices.Clone and slices.Insert answer at entries of pages. -/
namespace Go.Proofs.YtdijgpkcolpfoaaDoor
open Go.RowKit
set_option linter.unusedVariables false

theorem wpList_copy_e {P : Program} {w : World} {ops : Array Oper} {rest : List Oper} {o : Oper} {a : Act} {Q : Exit → Act → World → Prop} (hgd : o.guard = none) (d s : Operand) (t t' : TypeId)
    (ho : o.op = .call { callee := .builtin .copy, args := #[d, s], argTypes := #[t, t'] }) (v u : Value) (hd : a.eval d = v) (hs : a.eval s = u) {v' : Value} {w' : World}
    (hr : (Builtin.copy_ #[t, t'] o.type #[v, u]).run P w = .ok v' w') (h : wpList P ops Q rest (a.put o.dst v') w') : wpList P ops Q (o :: rest) a w :=
  wpList_plain hgd fun _ hK => by
    unfold Oper.wp execOp
    simp only [ho, resolve, invoke, builtin, Sem.run_bind, Sem.run_pure, Result.andThen_ok, List.map_toArray, List.map_cons, List.map_nil, hd, hs, hr]
    exact hK _ _ h
theorem step_copy_e {P : Program} {ops : Array Oper} {o : Oper} {a : Act} {w : World} {K : Act → World → Prop} {Q : Exit → Act → World → Prop} {E : Prop}
    (hg : o.guard = none) (d x : Operand) (dT sT : TypeId) (hop : o.op = Op.call { callee := Callee.builtin Builtin.copy, args := #[d, x], argTypes := #[dT, sT] })
    (v u : Value) (hd : a.eval d = v) (hx : a.eval x = u) {v' : Value} {w' : World} (hr : (Builtin.copy_ #[dT, sT] o.type #[v, u]).run P w = .ok v' w') (hK : K (a.put o.dst v') w') :
    if Region.wanted o (yielded ops a.tmps) = true then Oper.wp P o a w K Q else E := by
  have hw : Region.wanted o (yielded ops a.tmps) = true := by simp [Region.wanted, hg]
  rw [if_pos hw]
  unfold Oper.wp
  simp [execOp, hop, resolve, invoke, builtin, hd, hx, hr, Result.andThen]
  exact hK
/-- What the builtin copy does to entries. -/
theorem run_copyE (w : World) (ty : TypeId) (g o dLen dCap : Nat) (a : Addr) (sLen sCap : Nat) (cur : Array Value) (t : TypeId) (cs : List Value) (m : Nat) (hm : cs.length = m * 2)
    (hg : w.heap[g]? = some (.cells cur t (0, 0))) (hn : Nat.min sLen dLen = m)
    (hsrc : ∀ j v, cs[j]? = some v → w.cell? (a.add j) = some v) (hfit : o + cs.length ≤ cur.size) (h1 : ∀ v ∈ cs, v.oneCell' = true) :
    (Builtin.copy_ #[22, 22] ty #[.slice (some ⟨g, o, none⟩) dLen dCap, .slice (some a) sLen sCap]).run Tryd.prog w =
      .ok (goInt m) (w.setRow g (cur.toList.take o ++ cs ++ cur.toList.drop (o + cs.length)).toArray) := by
  have hl := run_loadCells_list (P := Tryd.prog) w a cs hsrc
  have hst := run_storeCells_at Tryd.prog g o t cs 0 cur w hg (by simpa using hfit) h1
  obtain ⟨i, hq, hz0, hi, hz2⟩ := info_parts Tryd.info65
  simp [Builtin.copy_, run_underlying Tryd.underlying22, Builtin.lenOf, Builtin.firstCells, sizeOf, typeInfo, hq, hi, hn, ← hm, hl, hst]
set_option maxRecDepth 100000 in
set_option maxHeartbeats 2000000 in
theorem clone_any (ao : Option Addr) (n c : Nat) (es : List (Int × Int)) (w : World) (h : EntRow w ao es) (hn : es.length = n) :
    Calls Tryd.prog 39 #[.slice ao n c] w fun e w' => ∃ ao' c', e = .returned (.slice ao' n c') ∧ OwnE w' w.heap.size ao' c' es ∧ Below w.heap.size w w' := by
  have hs := h.1
  rw [hn] at hs
  have hq := fun x a k c' => Lib.run_eql_slice_nil (P := Tryd.prog) x 22 65 a k c' 0 0 Tryd.underlying22
  cases ao with
  | none =>
    have h0 : es = [] := by
      cases es with
      | nil => rfl
      | cons x r => obtain ⟨b, off, e, _⟩ := h.2 (by simp); cases e
    subst h0
    simp only [List.length_nil] at hn
    subst hn
    clear h
    go_enter Tryd.func39, Tryd.ntmps39
    go_wp2_with fail
    go_ret
    exact ⟨none, 0, rfl, ownE_nil _ _, Below.refl _ _⟩
  | some a =>
    have hbx := below_box w (.cells #[] 65)
    have HE : Hid (OwnE (w.alloc (.cells #[] 65)) w.heap.size (some ⟨w.heap.size, 0, none⟩) 0 []) := ⟨World.ownsRow_made w #[] 0 (Nat.le_refl _) (Nat.zero_le _) (by simp), by simp⟩
    have HR := hide (h.step hbx)
    have hrun : ∃ ao' c' w', (Builtin.append_ #[22, 22] 22 #[.slice (some ⟨w.heap.size, 0, none⟩) 0 0, .slice (some a) n c]).run Tryd.prog (w.alloc (.cells #[] 65)) = .ok (.slice ao' n c') w' ∧ OwnE w' w.heap.size ao' c' es ∧ Below w.heap.size (w.alloc (.cells #[] 65)) w' := by
      obtain ⟨i0, hi, hz0, hz1, hz2⟩ := info_parts Tryd.info65
      have hcs : ∀ j u, (entCells es)[j]? = some u → (w.alloc (.cells #[] 65)).cell? (a.add j) = some u := by
        by_cases hp : 0 < es.length
        · obtain ⟨b, off, e, _, hc⟩ := HR.out.2 hp
          cases e
          exact cells_of_ents hc
        · have : es = [] := List.eq_nil_of_length_eq_zero (by omega)
          subst this
          intro j u hj
          simp [entCells] at hj
      obtain ⟨v', w', hr, ho, hg, _, hat⟩ := run_append_own_at (P := Tryd.prog) (w.alloc (.cells #[] 65)) w.heap.size 22 22 65 i0 _ 2 16 Tryd.underlying22 hi hz0 hz1 hz2 rfl (by decide) (.slice (some ⟨w.heap.size, 0, none⟩) 0 0) 0 (entCells []) HE.out.1 a n c (entCells es) (by rw [length_entCells, hn]) hcs (oneCell_ents es) (by unfold maxLen; omega) (by omega) hbx.size
      obtain ⟨ao', c', rfl⟩ := own_shapeE ho
      rw [Nat.zero_add] at hr ho
      refine ⟨ao', c', w', hr, ⟨?_, by rw [hn]; exact hs⟩, (Below.refl _ _).grown hg hbx.size (fun j e => (HE.out.1.lt j e).1)⟩
      rw [hn]
      simpa [entCells] using ho
    obtain ⟨ao', c', w', hr, ho, hb⟩ := hrun
    have HRUN := hide hr
    have HO := hide ho
    have HB := hide (hbx.trans hb)
    clear hr ho hb hbx HE HR h
    obtain ⟨ab, aoff, asp⟩ := a
    go_enter Tryd.func39, Tryd.ntmps39
    go_wp2_with (at_builtin; refine wpList_append_runE rfl (.tmp 5) (.tmp 6) 22 rfl _ _ rfl rfl HRUN.out ?_)
    go_ret
    exact ⟨ao', c', rfl, HO.out, HB.out⟩
/-- What is put into a list of entries in place. -/
theorem ins_row (cur : List Value) (es : List (Int × Int)) (e : Int × Int) (n k : Nat) (hn : es.length = n) (hk : k ≤ n) (hc : cur.take (n * 2) = entCells es) (hl : (n + 1) * 2 ≤ cur.length) :
    let row1 := cur.take ((k + 1) * 2) ++ entCells (es.drop k) ++ cur.drop ((k + 1) * 2 + (entCells (es.drop k)).length)
    let row2 := row1.take (k * 2) ++ entCells [e] ++ row1.drop (k * 2 + (entCells [e]).length)
    row1.length = cur.length ∧ row2.length = cur.length ∧ row2.take ((n + 1) * 2) = entCells (es.take k ++ e :: es.drop k) := by
  intro row1 row2
  have hd : (entCells (es.drop k)).length = (n - k) * 2 := by rw [length_entCells, List.length_drop, hn]
  have h1 : row1.length = cur.length := by simp only [row1, List.length_append, List.length_take, List.length_drop, hd]; omega
  have he1 : (entCells [e]).length = 2 := rfl
  have h2 : row2.length = cur.length := by simp only [row2, List.length_append, List.length_take, List.length_drop, h1, he1]; omega
  refine ⟨h1, h2, ?_⟩
  have ht : row1.take (k * 2) = entCells (es.take k) := by
    have : row1.take (k * 2) = cur.take (k * 2) := by
      simp only [row1]
      rw [List.append_assoc, List.take_append_of_le_length (by rw [List.length_take]; omega), List.take_take]
      congr 1; omega
    rw [this]
    have h3 : cur.take (k * 2) = (cur.take (n * 2)).take (k * 2) := by rw [List.take_take]; congr 1; omega
    rw [h3, hc]
    have h4 : entCells es = entCells (es.take k) ++ entCells (es.drop k) := by rw [← entCells_append, List.take_append_drop]
    rw [h4, List.take_append_of_le_length (by rw [length_entCells, List.length_take]; omega), List.take_of_length_le (by rw [length_entCells, List.length_take]; omega)]
  have hdr : row1.drop (k * 2 + 2) = entCells (es.drop k) ++ cur.drop ((k + 1) * 2 + (entCells (es.drop k)).length) := by
    simp only [row1]
    rw [List.append_assoc, List.drop_append_of_le_length (by rw [List.length_take]; omega), List.drop_eq_nil_of_le (by rw [List.length_take]; omega), List.nil_append]
  simp only [row2]
  rw [he1, ht, hdr, entCells_append, show e :: es.drop k = [e] ++ es.drop k from rfl, entCells_append, List.append_assoc, ← List.append_assoc (entCells [e]), ← List.append_assoc (entCells (es.take k))]
  rw [List.take_append_of_le_length (by simp only [List.length_append, hd, he1, length_entCells, List.length_take, hn]; omega), List.take_of_length_le (by simp only [List.length_append, hd, he1, length_entCells, List.length_take, hn]; omega)]
theorem run_overlapsE (w : World) (a b : Addr) (la ca lb cb : Nat) (hne : a.block ≠ b.block) {cA cB : Array Value} {tA tB : TypeId} (ha : w.heap[a.block]? = some (.cells cA tA (0, 0))) (hb : w.heap[b.block]? = some (.cells cB tB (0, 0))) (hkB : cB.size ≠ 0) :
    (callFunc 55 #[.slice (some a) la ca, .slice (some b) lb cb]).run Tryd.prog w = .ok (.value (.bool false)) w := by
  rw [run_callFunc_extern Tryd.func55 (by kernel_rfl) (by kernel_rfl) (by kernel_rfl) (e := Extern.SlicesOverlaps.overlaps #[22, 22] #[4]) (by kernel_rfl),
    Lib.run_overlaps_apart w 22 4 65 Tryd.underlying22 2 (fun w => Tryd.sizeOf65 w) a b la ca lb cb hne tA tB cA.size cB.size (by simp [World.shape?, ha]) (by simp [World.shape?, hb]) hkB (by simp [World.frozen?, ha]) (by simp [World.frozen?, ha])]
  rfl
end Go.Proofs.YtdijgpkcolpfoaaDoor

/- What slices.Insert answers of entries of our own, at any place. -/
namespace Go.Proofs.YtdijgpkcolpfoaaDoor
open Go.RowKit
set_option linter.unusedVariables false

set_option maxRecDepth 100000 in
set_option maxHeartbeats 2000000 in
theorem insert_end (B : Nat) (ao : Option Addr) (n c : Nat) (es : List (Int × Int)) (e : Int × Int) (w0 : World) (h : OwnE w0 B ao c es) (hn : es.length = n) (hn9 : n ≤ 900) (hB : B ≤ w0.heap.size) :
    Calls Tryd.prog 40 #[.slice ao n c, .int .i64 n, .slice (some ⟨w0.heap.size, 0, none⟩) 1 1] (w0.alloc (entBlock e)) fun r w' => ∃ ao' c', r = .returned (.slice ao' (n + 1) c') ∧ OwnE w' B ao' c' (es ++ [e]) ∧ Below B w0 w' := by
  have hbx := below_box w0 (entBlock e)
  have hnc : n ≤ c := by have := h.le; omega
  have hc63 : c ≤ 9223372036854775807 := by
    rcases h.1.2 with ⟨h1, h2⟩ | ⟨g, c', cur, h1, h2, h3, h4, h5, _⟩
    · simp only [Value.slice.injEq] at h1; omega
    · simp only [Value.slice.injEq] at h1
      obtain ⟨_, _, rfl⟩ := h1
      unfold maxLen at h5; omega
  obtain ⟨ao', c', w1, hr, ho, hg, hb⟩ := run_appendE (yc := 1) (h.step hbx) hn (show [e].length = 1 from rfl) (by omega) (Nat.le_trans hB hbx.size) (ent_new w0 e) 22
  have HRUN := hide hr
  have HO := hide ho
  have HB := hide ((hbx.mono hB).trans hb)
  obtain ⟨W, hW⟩ : ∃ W, W = w0.alloc (entBlock e) := ⟨_, rfl⟩
  rw [← hW] at HRUN ⊢
  have hsp : ao = none → n = 0 ∧ c = 0 := by
    rintro rfl
    rcases h.1.2 with ⟨h1, h2⟩ | ⟨g, c', cur, h1, _⟩
    · simp at h1; omega
    · simp at h1
  clear hr ho hg hb hbx h hW
  cases ao with
  | none =>
    obtain ⟨rfl, rfl⟩ := hsp rfl
    go_enter Tryd.func40, Tryd.ntmps40
    go_wp2_with (at_builtin; refine wpList_append_runE (by rfl) (.tmp 23) (.tmp 24) 22 (by rfl) _ _ (by rfl) (by rfl) HRUN.out ?_)
    go_ret
    exact ⟨ao', c', rfl, HO.out, HB.out⟩
  | some a =>
    obtain ⟨ab, aoff, asp⟩ := a
    go_enter Tryd.func40, Tryd.ntmps40
    go_wp2_with (at_builtin; refine wpList_append_runE (by rfl) (.tmp 23) (.tmp 24) 22 (by rfl) _ _ (by rfl) (by rfl) HRUN.out ?_)
    all_goals
      go_ret
      exact ⟨ao', c', rfl, HO.out, HB.out⟩
set_option maxRecDepth 100000 in
set_option maxHeartbeats 4000000 in
theorem insert_room (B g n c : Nat) (es : List (Int × Int)) (k : Nat) (e : Int × Int) (cur : Array Value) (w0 : World) (hn : es.length = n) (hk : k < n) (hroom : n + 1 ≤ c) (hn9 : n ≤ 900) (hB : B ≤ w0.heap.size)
    (hg : B ≤ g) (hh : w0.heap[g]? = some (.cells cur 65 (0, 0))) (h5 : c ≤ maxLen) (h6 : cur.size = c * 2) (h7 : cur.toList.take (n * 2) = entCells es) :
    Calls Tryd.prog 40 #[.slice (some ⟨g, 0, none⟩) n c, .int .i64 k, .slice (some ⟨w0.heap.size, 0, none⟩) 1 1] (w0.alloc (entBlock e)) fun r w' => r = .returned (.slice (some ⟨g, 0, none⟩) (n + 1) c) ∧ OwnE w' B (some ⟨g, 0, none⟩) c (es.take k ++ e :: es.drop k) ∧ Below B w0 w' := by
  have hgl := lt_of_block hh
  have hbx := below_box w0 (entBlock e)
  obtain ⟨W, hW⟩ : ∃ W, W = w0.alloc (entBlock e) := ⟨_, rfl⟩
  have hgW : W.heap[g]? = some (.cells cur 65 (0, 0)) := by rw [hW]; exact (hbx.block g hgl).trans hh
  have hVW : W.heap[w0.heap.size]? = some (.cells #[.int .i64 e.1, .int .i64 e.2] 65 (0, 0)) := by rw [hW]; exact heap_alloc_new _ _
  rw [← hW] at hbx ⊢
  obtain ⟨V, hV⟩ : ∃ V, V = w0.heap.size := ⟨_, rfl⟩
  rw [← hV] at hVW ⊢
  have hgV : V ≠ g := by omega
  have hc63 : c ≤ 9223372036854775807 := by unfold maxLen at h5; omega
  have hN := ins_row cur.toList es e n k hn (by omega) h7 (by simp [h6]; omega)
  obtain ⟨row1, hrow1⟩ : ∃ row1, row1 = cur.toList.take ((k + 1) * 2) ++ entCells (es.drop k) ++ cur.toList.drop ((k + 1) * 2 + (entCells (es.drop k)).length) := ⟨_, rfl⟩
  obtain ⟨row2, hrow2⟩ : ∃ row2, row2 = row1.take (k * 2) ++ entCells [e] ++ row1.drop (k * 2 + (entCells [e]).length) := ⟨_, rfl⟩
  simp only at hN
  rw [← hrow1, ← hrow2] at hN
  obtain ⟨hl1, hl2, hfin⟩ := hN
  have hd : (entCells (es.drop k)).length = (n - k) * 2 := by rw [length_entCells, List.length_drop, hn]
  have hsrc : ∀ (X : World), X.heap[g]? = some (.cells cur 65 (0, 0)) → ∀ j v, (entCells (es.drop k))[j]? = some v → X.cell? ((⟨g, k * 2, none⟩ : Addr).add j) = some v := by
    intro X hX j v hj
    rw [Addr.add_lit, cell_row hX]
    have hjl := (List.getElem?_eq_some_iff.1 hj).1
    rw [hd] at hjl
    have h8 : (entCells es)[k * 2 + j]? = some v := by
      have h4 : entCells es = entCells (es.take k) ++ entCells (es.drop k) := by rw [← entCells_append, List.take_append_drop]
      rw [h4, List.getElem?_append_right (by rw [length_entCells, List.length_take]; omega), length_entCells, List.length_take]
      rw [show k * 2 + j - min k es.length * 2 = j by omega]
      exact hj
    rw [← h7, List.getElem?_take] at h8
    split at h8
    · simpa using h8
    · cases h8
  have hcp1 : ∀ ty dc sc, (Builtin.copy_ #[22, 22] ty #[.slice (some ⟨g, (k + 1) * 2, none⟩) (n - k) dc, .slice (some ⟨g, k * 2, none⟩) (n + 1 - k) sc]).run Tryd.prog W.drew = .ok (goInt ((n - k : Nat) : Int)) (W.drew.setRow g row1.toArray) := fun ty dc sc => by
    rw [hrow1]
    exact run_copyE W.drew ty g ((k + 1) * 2) _ dc ⟨g, k * 2, none⟩ _ sc cur 65 _ (n - k) hd hgW (by simp only [Nat.min_def]; split <;> omega) (hsrc W.drew hgW) (by rw [hd, h6]; omega) (oneCell_ents _)
  obtain ⟨W1, hW1⟩ : ∃ W1, W1 = W.drew.setRow g row1.toArray := ⟨_, rfl⟩
  rw [← hW1] at hcp1
  have hgW1 : W1.heap[g]? = some (.cells row1.toArray 65 (0, 0)) := by rw [hW1]; exact setRow_heap W.drew g _ _ _ _ hgW
  have hVW1 : W1.heap[V]? = some (.cells #[.int .i64 e.1, .int .i64 e.2] 65 (0, 0)) := by rw [hW1, setRow_other _ _ _ _ hgV]; exact hVW
  have hcp2 : ∀ ty dc, (Builtin.copy_ #[22, 22] ty #[.slice (some ⟨g, k * 2, none⟩) (n + 1 - k) dc, .slice (some ⟨V, 0, none⟩) 1 1]).run Tryd.prog W1 = .ok (goInt ((1 : Nat) : Int)) (W1.setRow g row2.toArray) := fun ty dc => by
    rw [hrow2]
    have := run_copyE W1 ty g (k * 2) (n + 1 - k) dc ⟨V, 0, none⟩ 1 1 row1.toArray 65 (entCells [e]) 1 rfl hgW1 (by simp only [Nat.min_def]; split <;> omega) (fun j v hj => by rw [Addr.add_lit, Nat.zero_add, cell_row hVW1]; simpa [entCells] using hj) (by simp [hl1, h6, length_entCells]; omega) (oneCell_ents _)
    simpa using this
  obtain ⟨W2, hW2⟩ : ∃ W2, W2 = W1.setRow g row2.toArray := ⟨_, rfl⟩
  rw [← hW2] at hcp2
  have HCP1 := hide hcp1
  have HCP2 := hide hcp2
  have HOV : Hid (∀ lb cb, (callFunc 55 #[.slice (some ⟨V, 0, none⟩) 1 1, .slice (some ⟨g, (k + 1) * 2, none⟩) lb cb]).run Tryd.prog W = .ok (.value (.bool false)) W) := fun lb cb => run_overlapsE W ⟨V, 0, none⟩ ⟨g, (k + 1) * 2, none⟩ 1 1 lb cb hgV hVW hgW (by omega)
  have HFIN : Hid (OwnE W2 B (some ⟨g, 0, none⟩) c (es.take k ++ e :: es.drop k) ∧ Below B w0 W2) := by
    have hln : (es.take k ++ e :: es.drop k).length = n + 1 := by simp [hn]; omega
    have hgW2 : W2.heap[g]? = some (.cells row2.toArray 65 (0, 0)) := by rw [hW2]; exact setRow_heap W1 g _ _ _ _ hgW1
    refine ⟨⟨⟨by rw [hln, length_entCells, hln], .inr ⟨g, c, row2.toArray, by rw [hln], hg, hgW2, by rw [hln]; exact hroom, h5, by simp [hl2, h6], ?_⟩⟩, by rw [hln]; omega⟩, ?_⟩
    · rw [hln]
      simpa using hfin
    · rw [hW2, hW1]
      exact below_setRow (below_setRow (below_drew (hbx.mono hB)) hg _) hg _
  have hb1 : (k : Int) ≤ (n : Int) + 1 := by omega
  have hb2 : ¬ (c = k + 1) := by omega
  have hb3 : ¬ (c = k) := by omega
  have hb4 : ¬ ((k : Int) = (n : Int)) := by omega
  have hb5 : (n : Int) + 1 ≤ (c : Int) := by omega
  have hb6 : (k : Int) + 1 ≤ (n : Int) + 1 := by omega
  have hb7 : (k : Int) ≤ (n : Int) := by omega
  have hb8 : ((k : Int) == (n : Int)) = false := by simp; omega
  have hb9 : decide ((c : Int) < (n : Int) + 1) = false := by simp; omega
  have htn : ((k : Int) + 1).toNat = k + 1 := by omega
  have hw1 : IntKind.i64.wrap ((k : Int) + 1) = (k : Int) + 1 := by rw [IntKind.wrap_i64]; omega
  have hb0 : (0 : Int) ≤ (k : Int) + 1 := by omega
  have htm : ((n : Int) + 1).toNat = n + 1 := by omega
  clear hV hcp1 hcp2 hsrc hgW hVW hgW1 hVW1 hW hW1 hW2 hfin hl1 hl2 hrow1 hrow2 hd h7 h6 hh hbx
  go_enter Tryd.func40, Tryd.ntmps40
  go_wp2_with (simp only [HOV.out])
  apply dup
  case k =>
    intro TAIL
    go_region_law (refine step_copy_e rfl (.tmp 73) (.tmp 76) 22 22 rfl (.slice (some ⟨g, (k + 1) * 2, none⟩) (n - k) (c - (k + 1))) (.slice (some ⟨g, k * 2, none⟩) (n + 1 - k) (c - k)) (by simp [Act.eval, Act.put]) (by simp [Act.eval, Act.put]) (HCP1.out 3 (c - (k + 1)) (c - k)) ?_)
    all_goals exact TAIL.out
  case h =>
    go_wp2_with (refine wpList_copy_e rfl (.tmp 80) (.tmp 81) 22 22 rfl (.slice (some ⟨g, k * 2, none⟩) (n + 1 - k) (c - k)) (.slice (some ⟨V, 0, none⟩) 1 1) rfl rfl (HCP2.out 3 (c - k)) ?_)
    go_ret
    exact ⟨rfl, HFIN.out⟩
end Go.Proofs.YtdijgpkcolpfoaaDoor

/- slices.Insert where there is no room. -/
namespace Go.Proofs.YtdijgpkcolpfoaaDoor
open Go.RowKit
set_option linter.unusedVariables false

/-- The row of a list of entries that was built anew around a new one. -/
theorem grow_row (z : List Value) (es : List (Int × Int)) (e : Int × Int) (n k : Nat) (hn : es.length = n) (hk : k < n) (hz : (n + 1 - k) * 2 ≤ z.length) :
    let row0 := entCells (es.take k) ++ z
    let row1 := row0.take (k * 2) ++ entCells [e] ++ row0.drop (k * 2 + (entCells [e]).length)
    let row2 := row1.take ((k + 1) * 2) ++ entCells (es.drop k) ++ row1.drop ((k + 1) * 2 + (entCells (es.drop k)).length)
    row0.length = k * 2 + z.length ∧ row1.length = row0.length ∧ row2.length = row0.length ∧ row2.take ((n + 1) * 2) = entCells (es.take k ++ e :: es.drop k) := by
  intro row0 row1 row2
  have ht : (entCells (es.take k)).length = k * 2 := by rw [length_entCells, List.length_take]; omega
  have hd : (entCells (es.drop k)).length = (n - k) * 2 := by rw [length_entCells, List.length_drop, hn]
  have he : (entCells [e]).length = 2 := rfl
  have h0 : row0.length = k * 2 + z.length := by simp only [row0, List.length_append, ht]
  have h1 : row1.length = row0.length := by simp only [row1, List.length_append, List.length_take, List.length_drop, h0, he]; omega
  have h2 : row2.length = row0.length := by simp only [row2, List.length_append, List.length_take, List.length_drop, h1, h0, hd]; omega
  refine ⟨h0, h1, h2, ?_⟩
  have e0 : row0.take (k * 2) = entCells (es.take k) := by simp only [row0]; rw [List.take_append_of_le_length (by omega), List.take_of_length_le (by omega)]
  have e1 : row1.take ((k + 1) * 2) = entCells (es.take k) ++ entCells [e] := by
    simp only [row1]
    rw [e0, List.take_append_of_le_length (by simp only [List.length_append, ht, he]; omega), List.take_of_length_le (by simp only [List.length_append, ht, he]; omega)]
  simp only [row2]
  rw [e1, List.take_append_of_le_length (by simp only [List.length_append, ht, he, hd]; omega), List.take_of_length_le (by simp only [List.length_append, ht, he, hd]; omega), show e :: es.drop k = [e] ++ es.drop k from rfl, entCells_append, entCells_append, List.append_assoc]
theorem zeroCellsE (k : Nat) : (Builtin.zeroCells (Value.agg #[.int .i64 0, .int .i64 0]).cells k).size = k * 2 := by simp [Builtin.zeroCells, Value.cells]
set_option maxRecDepth 100000 in
set_option maxHeartbeats 4000000 in
theorem insert_grow (B g n c : Nat) (es : List (Int × Int)) (k : Nat) (e : Int × Int) (cur : Array Value) (w0 : World) (hn : es.length = n) (hk : k < n) (hroom : c < n + 1) (hn9 : n ≤ 900) (hB : B ≤ w0.heap.size)
    (hg : B ≤ g) (hh : w0.heap[g]? = some (.cells cur 65 (0, 0))) (h4 : n ≤ c) (h6 : cur.size = c * 2) (h7 : cur.toList.take (n * 2) = entCells es) :
    Calls Tryd.prog 40 #[.slice (some ⟨g, 0, none⟩) n c, .int .i64 k, .slice (some ⟨w0.heap.size, 0, none⟩) 1 1] (w0.alloc (entBlock e)) fun r w' => ∃ ao' c', r = .returned (.slice ao' (n + 1) c') ∧ OwnE w' B ao' c' (es.take k ++ e :: es.drop k) ∧ Below B w0 w' := by
  obtain ⟨i0, hi0, hz0, hzs, hzb⟩ := info_parts Tryd.info65
  have hgl := lt_of_block hh
  have hbx := below_box w0 (entBlock e)
  obtain ⟨W, hW⟩ : ∃ W, W = w0.alloc (entBlock e) := ⟨_, rfl⟩
  have hWs : W.heap.size = w0.heap.size + 1 := by rw [hW]; simp
  have hgW : W.heap[g]? = some (.cells cur 65 (0, 0)) := by rw [hW]; exact (hbx.block g hgl).trans hh
  have hVW : W.heap[w0.heap.size]? = some (.cells #[.int .i64 e.1, .int .i64 e.2] 65 (0, 0)) := by rw [hW]; exact heap_alloc_new _ _
  rw [← hW] at hbx ⊢
  obtain ⟨V, hV⟩ : ∃ V, V = w0.heap.size := ⟨_, rfl⟩
  rw [← hV] at hVW hWs ⊢
  obtain ⟨N, hN⟩ : ∃ N, N = W.heap.size := ⟨_, rfl⟩
  have hgN : g ≠ N := by omega
  have hVN : V ≠ N := by omega
  have hcn : c = n := by omega
  have hd : (entCells (es.drop k)).length = (n - k) * 2 := by rw [length_entCells, List.length_drop, hn]
  have hti : (entCells (es.take k)).length = k * 2 := by rw [length_entCells, List.length_take]; omega
  have hcell : ∀ (j : Nat) (v : Value), (entCells es)[j]? = some v → cur[j]? = some v := by
    intro j v hj
    rw [← h7, List.getElem?_take] at hj
    split at hj
    · simpa using hj
    · cases hj
  have hsplit : entCells es = entCells (es.take k) ++ entCells (es.drop k) := by rw [← entCells_append, List.take_append_drop]
  have hold : (Builtin.firstCells i0.size k (.slice (some ⟨g, 0, none⟩) k c)).run Tryd.prog W.drew = .ok (entCells (es.take k)).toArray W.drew := by
    rw [hzs]
    refine run_firstCells_some W.drew 2 k ⟨g, 0, none⟩ k c (entCells (es.take k)) hti (fun j v hj => ?_)
    rw [Addr.add_lit, Nat.zero_add, show W.drew.cell? ⟨g, j, none⟩ = cur[j]? from cell_row (w := W.drew) hgW j]
    refine hcell j v ?_
    rw [hsplit, List.getElem?_append_left (List.getElem?_eq_some_iff.1 hj).1]
    exact hj
  have hkk : (n : Int) + 1 - (k : Int) = ((n + 1 - k : Nat) : Int) := by omega
  have hik : k + (n + 1 - k) = n + 1 := by omega
  obtain ⟨G, hG⟩ : ∃ G, G = grownCap W (n + 1) c 65 := ⟨_, rfl⟩
  obtain ⟨z, hz⟩ : ∃ z : List Value, z = (Builtin.zeroCells (Value.agg #[.int .i64 0, .int .i64 0]).cells (n + 1 - k)).toList ++ (Builtin.zeroCells (Value.agg #[.int .i64 0, .int .i64 0]).cells (G - (n + 1))).toList := ⟨_, rfl⟩
  have hzl : z.length = (n + 1 - k) * 2 + (G - (n + 1)) * 2 := by rw [hz, List.length_append, Array.length_toList, Array.length_toList, zeroCellsE, zeroCellsE]
  have hGn : n + 1 ≤ G := by rw [hG]; exact grownCap_ge W _ _ _
  have hGm : G ≤ maxLen := by rw [hG]; exact grownCap_le_maxLen W (n + 1) c 65 (by unfold maxLen; omega)
  have hG63 : G ≤ 9223372036854775807 := by unfold maxLen at hGm; omega
  obtain ⟨row0, hrow0⟩ : ∃ row0, row0 = entCells (es.take k) ++ z := ⟨_, rfl⟩
  obtain ⟨row1, hrow1⟩ : ∃ row1, row1 = row0.take (k * 2) ++ entCells [e] ++ row0.drop (k * 2 + (entCells [e]).length) := ⟨_, rfl⟩
  obtain ⟨row2, hrow2⟩ : ∃ row2, row2 = row1.take ((k + 1) * 2) ++ entCells (es.drop k) ++ row1.drop ((k + 1) * 2 + (entCells (es.drop k)).length) := ⟨_, rfl⟩
  have hR := grow_row z es e n k hn hk (by omega)
  simp only at hR
  rw [← hrow0, ← hrow1, ← hrow2] at hR
  obtain ⟨hl0, hl1, hl2, hfin⟩ := hR
  obtain ⟨W1, hW1⟩ : ∃ W1, W1 = W.drew.alloc (.cells row0.toArray 65) := ⟨_, rfl⟩
  have hrz : ∀ ty, (Builtin.append_ #[22, 3] ty #[.slice (some ⟨g, 0, none⟩) k c, .int .i64 ((n : Int) + 1 - (k : Int))]).run Tryd.prog W = .ok (.slice (some ⟨N, 0, none⟩) (n + 1) G) W1 := fun ty => by
    have h := Lib.run_append_grow_zeros W 22 3 ty 65 i0 _ .i64 .i64 Tryd.underlying22 Tryd.underlying3 hi0 hz0 (some ⟨g, 0, none⟩) k c (entCells (es.take k)) hold (n + 1 - k) (by omega) (by rw [hzs]; omega) (by omega) (by omega) (by rw [hzb]; omega) (by rw [hzb, hik]; exact growslice_fits hroom (by omega))
    rw [hik, ← hG] at h
    rw [hkk, h, hW1, hN, hrow0, hz]
    congr 3
    simp
  have hgW1 : W1.heap[g]? = some (.cells cur 65 (0, 0)) := by rw [hW1]; exact ((below_box W.drew _).block g (by show g < W.heap.size; omega)).trans hgW
  have hVW1 : W1.heap[V]? = some (.cells #[.int .i64 e.1, .int .i64 e.2] 65 (0, 0)) := by rw [hW1]; exact ((below_box W.drew _).block V (by show V < W.heap.size; omega)).trans hVW
  have hNW1 : W1.heap[N]? = some (.cells row0.toArray 65 (0, 0)) := by rw [hW1, hN]; exact heap_alloc_new W.drew _
  have hcpA : ∀ ty dc, (Builtin.copy_ #[22, 22] ty #[.slice (some ⟨N, k * 2, none⟩) (n + 1 - k) dc, .slice (some ⟨V, 0, none⟩) 1 1]).run Tryd.prog W1 = .ok (goInt ((1 : Nat) : Int)) (W1.setRow N row1.toArray) := fun ty dc => by
    rw [hrow1]
    have := run_copyE W1 ty N (k * 2) (n + 1 - k) dc ⟨V, 0, none⟩ 1 1 row0.toArray 65 (entCells [e]) 1 rfl hNW1 (by simp only [Nat.min_def]; split <;> omega) (fun j v hj => by rw [Addr.add_lit, Nat.zero_add, cell_row hVW1]; simpa [entCells] using hj) (by simp [hl0, length_entCells]; omega) (oneCell_ents _)
    simpa using this
  obtain ⟨W2, hW2⟩ : ∃ W2, W2 = W1.setRow N row1.toArray := ⟨_, rfl⟩
  rw [← hW2] at hcpA
  have hNW2 : W2.drew.heap[N]? = some (.cells row1.toArray 65 (0, 0)) := by rw [hW2]; exact setRow_heap W1 N _ _ _ _ hNW1
  have hgW2 : W2.drew.heap[g]? = some (.cells cur 65 (0, 0)) := by rw [hW2]; exact (setRow_other W1 N g _ hgN).trans hgW1
  have hcpB : ∀ ty dc sc, (Builtin.copy_ #[22, 22] ty #[.slice (some ⟨N, (k + 1) * 2, none⟩) (n - k) dc, .slice (some ⟨g, k * 2, none⟩) (n - k) sc]).run Tryd.prog W2.drew = .ok (goInt ((n - k : Nat) : Int)) (W2.drew.setRow N row2.toArray) := fun ty dc sc => by
    rw [hrow2]
    have := run_copyE W2.drew ty N ((k + 1) * 2) (n - k) dc ⟨g, k * 2, none⟩ (n - k) sc row1.toArray 65 (entCells (es.drop k)) (n - k) hd hNW2 (by simp only [Nat.min_def]; split <;> omega) (fun j v hj => by
      rw [Addr.add_lit, cell_row hgW2]
      refine hcell _ v ?_
      rw [hsplit, List.getElem?_append_right (by omega), hti, show k * 2 + j - k * 2 = j by omega]
      exact hj) (by simp [hl1, hl0, hd]; omega) (oneCell_ents _)
    simpa using this
  obtain ⟨W3, hW3⟩ : ∃ W3, W3 = W2.drew.setRow N row2.toArray := ⟨_, rfl⟩
  rw [← hW3] at hcpB
  have HRZ := hide hrz
  have HCA := hide hcpA
  have HCB := hide hcpB
  have HFIN : Hid (OwnE W3 B (some ⟨N, 0, none⟩) G (es.take k ++ e :: es.drop k) ∧ Below B w0 W3) := by
    have hln : (es.take k ++ e :: es.drop k).length = n + 1 := by simp [hn]; omega
    have hNW3 : W3.heap[N]? = some (.cells row2.toArray 65 (0, 0)) := by rw [hW3]; exact setRow_heap W2.drew N _ _ _ _ hNW2
    refine ⟨⟨⟨by rw [hln, length_entCells, hln], .inr ⟨N, G, row2.toArray, by rw [hln], by omega, hNW3, by rw [hln]; exact hGn, hGm, by simp [hl2, hl0, hzl]; omega, ?_⟩⟩, by rw [hln]; omega⟩, ?_⟩
    · rw [hln]
      simpa using hfin
    · rw [hW3, hW2, hW1]
      have hBN : B ≤ N := by omega
      exact below_setRow (below_drew (below_setRow (over (below_drew (hbx.mono hB)) (below_box W.drew _) (by show B ≤ W.heap.size; omega)) hBN _)) hBN _
  have hb1 : (k : Int) ≤ (n : Int) + 1 := by omega
  have hb2 : ¬ (G = k + 1) := by omega
  have hb3 : ¬ (G = k) := by omega
  have hb4 : ¬ (c = k) := by omega
  have hb6 : (k : Int) + 1 ≤ (n : Int) + 1 := by omega
  have hb7 : (k : Int) ≤ (n : Int) := by omega
  have hb8 : ((k : Int) == (n : Int)) = false := by simp; omega
  have hb9 : (c : Int) < (n : Int) + 1 := by omega
  have hbc : (k : Int) ≤ (c : Int) := by omega
  have htn : ((k : Int) + 1).toNat = k + 1 := by omega
  have hw1 : IntKind.i64.wrap ((k : Int) + 1) = (k : Int) + 1 := by rw [IntKind.wrap_i64]; omega
  have hb0 : (0 : Int) ≤ (k : Int) + 1 := by omega
  clear hV hN hrz hcpA hcpB hgW hVW hgW1 hVW1 hNW1 hNW2 hgW2 hW hW1 hW2 hW3 hfin hl0 hl1 hl2 hrow0 hrow1 hrow2 hd hti h7 h6 hh hbx hold hkk hik hG hz hzl hGm hcell hsplit hWs hi0 hz0 hzs hzb i0 hcn
  go_enter Tryd.func40, Tryd.ntmps40
  go_wp2_with (first | (at_builtin; refine Lib.wpList_append_run _ rfl _ _ _ _ rfl _ _ rfl rfl _ _ (HRZ.out _) ?_) | (refine wpList_copy_e rfl (.tmp 43) (.tmp 44) 22 22 rfl (.slice (some ⟨N, k * 2, none⟩) (n + 1 - k) (G - k)) (.slice (some ⟨V, 0, none⟩) 1 1) rfl rfl (HCA.out 3 (G - k)) ?_))
  apply dup
  case k =>
    intro TAIL
    go_region_law (refine step_copy_e rfl (.tmp 50) (.tmp 53) 22 22 rfl (.slice (some ⟨N, (k + 1) * 2, none⟩) (n - k) (G - (k + 1))) (.slice (some ⟨g, k * 2, none⟩) (n - k) (c - k)) (by simp [Act.eval, Act.put]) (by simp [Act.eval, Act.put]) (HCB.out 3 (G - (k + 1)) (c - k)) ?_)
    all_goals exact TAIL.out
  case h =>
    go_wp2_with fail
    go_ret
    exact ⟨_, _, rfl, HFIN.out⟩
end Go.Proofs.YtdijgpkcolpfoaaDoor

/- slices.Insert, at any place. -/
namespace Go.Proofs.YtdijgpkcolpfoaaDoor
open Go.RowKit
set_option linter.unusedVariables false

/-- slices.Insert, at any place. -/
theorem insert_any (B : Nat) (ao : Option Addr) (n c : Nat) (es : List (Int × Int)) (k : Nat) (e : Int × Int) (w0 : World) (h : OwnE w0 B ao c es) (hn : es.length = n) (hk : k ≤ n) (hn9 : n ≤ 900) (hB : B ≤ w0.heap.size) :
    Calls Tryd.prog 40 #[.slice ao n c, .int .i64 k, .slice (some ⟨w0.heap.size, 0, none⟩) 1 1] (w0.alloc (entBlock e)) fun r w' => ∃ ao' c', r = .returned (.slice ao' (n + 1) c') ∧ OwnE w' B ao' c' (es.take k ++ e :: es.drop k) ∧ Below B w0 w' := by
  by_cases hkn : k = n
  · subst hkn
    rw [List.take_of_length_le (by omega), List.drop_eq_nil_of_le (by omega)]
    exact insert_end B ao k c es e w0 h hn hn9 hB
  · rcases h.1.2 with ⟨h1, h2⟩ | ⟨g, c', cur, h1, h2, h3, h4, h5, h6, h7⟩
    · omega
    · simp only [Value.slice.injEq] at h1
      obtain ⟨rfl, _, rfl⟩ := h1
      rw [hn] at h4 h7
      by_cases hr : n + 1 ≤ c
      · exact (insert_room B g n c es k e cur w0 hn (by omega) hr hn9 hB h2 h3 h5 h6 h7).mono fun r w' h => ⟨_, _, h⟩
      · exact insert_grow B g n c es k e cur w0 hn (by omega) (by omega) hn9 hB h2 h3 h4 h6 h7
end Go.Proofs.YtdijgpkcolpfoaaDoor
