/- Lemmas and contracts that the law stands on, joined: BlockMem, RecList. -/
import Derived.Test.YtjacenhblclkaaaDoorJoin7
import Derived.Great.CaseRows
import Derived.Maps.AppendAt
/- Records side by side in memory: what a list of records is, how one is built and appended; what the lists hold stays. -/
namespace Go.Proofs.YtjacenhblclkaaaDoor
open Go.RowKit
set_option linter.unusedVariables false

theorem Tryd.info42 : (Tryd.prog.info? 42).map (fun i => (i.zero, i.size, i.bytes)) = some (some (.agg #[.int .i64 0, .int .i64 0, .int .i64 0, .int .i64 0, .int .i64 0, .int .i64 0, .bool false, .bool false, .int .i64 0, .int .i64 0]), 10, 72) := by kernel_rfl
theorem Tryd.size42 : (Tryd.prog.info? 42).map (·.size) = some 10 := by kernel_rfl
theorem Tryd.hasz42 : ((Tryd.prog.info? 42).bind (·.zero)).isSome = true := by kernel_rfl
/-- The cells of records that lie side by side. -/
def cellsOfRs (rs : List R) : List Value := (rs.map R.val).flatMap fun v => v.cells.toList
theorem length_cellsOfRs (rs : List R) : (cellsOfRs rs).length = rs.length * 10 := by
  induction rs with
  | nil => rfl
  | cons r rs ih =>
    have hc : cellsOfRs (r :: rs) = r.val.cells.toList ++ cellsOfRs rs := rfl
    have hl : r.val.cells.toList.length = 10 := rfl
    rw [hc, List.length_append, hl, ih, List.length_cons]
    omega
theorem cellsOfRs_snoc (rs : List R) (r : R) : cellsOfRs (rs ++ [r]) = cellsOfRs rs ++ cellsOfRs [r] := by simp [cellsOfRs]
theorem oneCell_rs (r : R) : ∀ u ∈ cellsOfRs [r], u.oneCell' = true := by
  intro u hu
  have e : cellsOfRs [r] = [.int .i64 r.kind, .int .i64 r.txn, .int .i64 r.page, .int .i64 r.prev, .int .i64 r.next, .int .i64 r.key, .bool r.had, .bool r.has, .int .i64 r.old, .int .i64 r.new] := rfl
  rw [e] at hu
  simp only [List.mem_cons, List.not_mem_nil, or_false] at hu
  rcases hu with rfl | rfl | rfl | rfl | rfl | rfl | rfl | rfl | rfl | rfl <;> rfl
theorem rs_get : ∀ (rs : List R) (i j : Nat) (r : R), rs[i]? = some r → j < 10 → (cellsOfRs rs)[i * 10 + j]? = r.val.cells.toList[j]? := by
  intro rs
  induction rs with
  | nil => intro i j r h; simp at h
  | cons x rs ih =>
    intro i j r h hj
    have hl : x.val.cells.toList.length = 10 := rfl
    have hc : cellsOfRs (x :: rs) = x.val.cells.toList ++ cellsOfRs rs := rfl
    rw [hc]
    cases i with
    | zero =>
      simp at h
      subst h
      rw [List.getElem?_append_left (by rw [hl]; omega)]
      simp
    | succ i =>
      rw [List.getElem?_append_right (by rw [hl]; omega), hl]
      have := ih i j r (by simpa using h) hj
      rw [show (i + 1) * 10 + j - 10 = i * 10 + j by omega]
      exact this
/-- A record's ten cells from o on. -/
structure CellsFrom (w : World) (B o : Nat) (r : R) : Prop where
  c0 : w.cell? ⟨B, o, none⟩ = some (.int .i64 r.kind)
  c1 : w.cell? ⟨B, o + 1, none⟩ = some (.int .i64 r.txn)
  c2 : w.cell? ⟨B, o + 2, none⟩ = some (.int .i64 r.page)
  c3 : w.cell? ⟨B, o + 3, none⟩ = some (.int .i64 r.prev)
  c4 : w.cell? ⟨B, o + 4, none⟩ = some (.int .i64 r.next)
  c5 : w.cell? ⟨B, o + 5, none⟩ = some (.int .i64 r.key)
  c6 : w.cell? ⟨B, o + 6, none⟩ = some (.bool r.had)
  c7 : w.cell? ⟨B, o + 7, none⟩ = some (.bool r.has)
  c8 : w.cell? ⟨B, o + 8, none⟩ = some (.int .i64 r.old)
  c9 : w.cell? ⟨B, o + 9, none⟩ = some (.int .i64 r.new)
  lt : B < w.heap.size
theorem CellsFrom.of_cells {w : World} {B o : Nat} {r : R} (hc : ∀ j, j < 10 → w.cell? ⟨B, o + j, none⟩ = r.val.cells.toList[j]?) (hlt : B < w.heap.size) : CellsFrom w B o r :=
  ⟨hc 0 (by omega), hc 1 (by omega), hc 2 (by omega), hc 3 (by omega), hc 4 (by omega), hc 5 (by omega), hc 6 (by omega), hc 7 (by omega), hc 8 (by omega), hc 9 (by omega), hlt⟩
theorem CellsFrom.of_block {w w' : World} {B o : Nat} {r : R} (h : CellsFrom w B o r) (hb : w'.heap[B]? = w.heap[B]?) (hs : w.heap.size ≤ w'.heap.size) : CellsFrom w' B o r := by
  have hl := h.lt
  have h0 : ∀ o, w'.cell? ⟨B, o, none⟩ = w.cell? ⟨B, o, none⟩ := fun o => by simp only [World.cell?, hb]
  exact ⟨(h0 _).trans h.c0, (h0 _).trans h.c1, (h0 _).trans h.c2, (h0 _).trans h.c3, (h0 _).trans h.c4, (h0 _).trans h.c5, (h0 _).trans h.c6, (h0 _).trans h.c7, (h0 _).trans h.c8, (h0 _).trans h.c9, Nat.lt_of_lt_of_le hl hs⟩
/-- The slice that begins at 'ao' reads in w as the records rs. -/
def RecRow (w : World) (ao : Option Addr) (rs : List R) : Prop :=
  rs.length ≤ 1000 ∧ (0 < rs.length → ∃ b off, ao = some ⟨b, off, none⟩ ∧ ∀ i r, rs[i]? = some r → CellsFrom w b (off + i * 10) r)
theorem RecRow.below {w w' : World} {B : Nat} {ao : Option Addr} {rs : List R} (h : RecRow w ao rs) (hb : Below B w w') (hB : w.heap.size ≤ B) : RecRow w' ao rs := by
  refine ⟨h.1, fun hp => ?_⟩
  obtain ⟨b, off, e, hc⟩ := h.2 hp
  exact ⟨b, off, e, fun i r hi => (hc i r hi).of_block (hb.block b (Nat.lt_of_lt_of_le (hc i r hi).lt hB)) hb.size⟩
theorem RecRow.step {w w' : World} {ao : Option Addr} {rs : List R} (h : RecRow w ao rs) (hb : Below w.heap.size w w') : RecRow w' ao rs := h.below hb (Nat.le_refl _)
theorem recRow_nil (w : World) : RecRow w none [] := ⟨by simp, fun h => by simp at h⟩
theorem RecRow.one {w : World} {B : Nat} {r : R} (h : Cells10 w B r) : RecRow w (some ⟨B, 0, none⟩) [r] := by
  refine ⟨by simp, fun _ => ⟨B, 0, rfl, fun i r' hi => ?_⟩⟩
  cases i with
  | zero =>
    simp at hi
    subst hi
    exact ⟨h.c0, h.c1, h.c2, h.c3, h.c4, h.c5, h.c6, h.c7, h.c8, h.c9, h.lt⟩
  | succ i => simp at hi
/-- The slice that begins at 'ao' owns the records rs: it lies in a block from 'B' on. -/
def OwnR (w : World) (B : Nat) (ao : Option Addr) (cap : Nat) (rs : List R) : Prop :=
  w.ownsRow B 42 10 (.slice ao rs.length cap) rs.length (cellsOfRs rs) ∧ rs.length ≤ 1000
theorem ownR_nil (w : World) (B : Nat) : OwnR w B none 0 [] := ⟨World.ownsRow_nil _ _ _ _, by simp⟩
theorem OwnR.row {w : World} {B : Nat} {ao : Option Addr} {cap : Nat} {rs : List R} (h : OwnR w B ao cap rs) : RecRow w ao rs := by
  obtain ⟨h1, h2⟩ := h
  refine ⟨h2, fun hp => ?_⟩
  have h1' := h1
  rcases h1.2 with ⟨e, h0⟩ | ⟨g, c, cur, hv, hg, hh, h4, h5, h6, h7⟩
  · omega
  · simp only [Value.slice.injEq] at hv
    obtain ⟨rfl, _, rfl⟩ := hv
    refine ⟨g, 0, rfl, fun i r hi => ?_⟩
    have hlt := (List.getElem?_eq_some_iff.1 hi).1
    refine CellsFrom.of_cells (fun j hj => ?_) (lt_of_block hh)
    rw [Nat.zero_add, h1'.cellAt (i * 10 + j) (by omega)]
    exact rs_get rs i j r hi hj
theorem OwnR.of_blocks {w w' : World} {B : Nat} {ao : Option Addr} {cap : Nat} {rs : List R} (h : OwnR w B ao cap rs) (hb : ∀ g, B ≤ g → g < w.heap.size → w'.heap[g]? = w.heap[g]?) : OwnR w' B ao cap rs := by
  obtain ⟨⟨h0, h1⟩, h2⟩ := h
  refine ⟨⟨h0, ?_⟩, h2⟩
  rcases h1 with h1 | ⟨g, c, cur, hv, hg, hh, r⟩
  · exact .inl h1
  · exact .inr ⟨g, c, cur, hv, hg, by rw [hb g hg (lt_of_block hh)]; exact hh, r⟩
theorem OwnR.below {w w' : World} {B C : Nat} {ao : Option Addr} {cap : Nat} {rs : List R} (h : OwnR w B ao cap rs) (hb : Below C w w') (hC : w.heap.size ≤ C) : OwnR w' B ao cap rs := h.of_blocks fun g _ hg => hb.block g (Nat.lt_of_lt_of_le hg hC)
theorem OwnR.but {w w' : World} {s B : Nat} {ao : Option Addr} {cap : Nat} {rs : List R} (h : OwnR w B ao cap rs) (hb : But s w w') (hs : s < B) : OwnR w' B ao cap rs := h.of_blocks fun g h1 hg => hb.block g hg (by omega)
theorem OwnR.mono {w : World} {B C : Nat} {ao : Option Addr} {cap : Nat} {rs : List R} (h : OwnR w B ao cap rs) (hC : C ≤ B) : OwnR w C ao cap rs := by
  obtain ⟨⟨h0, h1⟩, h2⟩ := h
  refine ⟨⟨h0, ?_⟩, h2⟩
  rcases h1 with h1 | ⟨g, c, cur, hv, hg, r⟩
  · exact .inl h1
  · exact .inr ⟨g, c, cur, hv, by omega, r⟩
theorem own_shapeR {w : World} {B e sz n : Nat} {v : Value} {cs : List Value} (h : w.ownsRow B e sz v n cs) : ∃ ao cap, v = .slice ao n cap := by
  rcases h.2 with ⟨h1, h2⟩ | ⟨g, cap, cur, h1, _⟩
  · exact ⟨none, 0, by rw [h1, h2]⟩
  · exact ⟨_, cap, h1⟩
theorem But.over {s : Nat} {a b c : World} (h : But s a b) (k : Below a.heap.size b c) : But s a c := ⟨k.os.trans h.os, k.tape.trans h.tape, k.output.trans h.output, Nat.le_trans h.size k.size, fun i hi hs => (k.block i hi).trans (h.block i hi hs)⟩
/-- A list of one record is built. -/
theorem build1 {ops : Array Oper} {rest : List Oper} {a : Act} {w : World} {Q : Exit → Act → World → Prop} {d n : Tmp} {ty : TypeId} {pos : String} {af : Array Edge} (r : R)
    (hev : a.eval (.tmp n) = r.val)
    (h : wpList Tryd.prog ops Q rest (a.put (some d) (.slice (some ⟨w.heap.size, 0, none⟩) 1 1)) (w.alloc (recCells r))) :
    wpList Tryd.prog ops Q ({ dst := some d, op := .buildSlice 78 1 #[(0, .tmp n)], type := ty, pos := pos, after := af, guard := none } :: rest) a w := by
  refine Go.Great.wpList_buildRows rfl 78 42 #[(0, .tmp n)] 10 [r.val] rfl (fun _ => n) w.heap.size rfl (some d) rfl Tryd.underlying78 Tryd.size42 Tryd.hasz42 (by omega) (by simp) (by simp) rfl (fun v hv => ?_) (fun i hi => ?_) h
  · simp at hv; subst hv; rfl
  · simp at hi; subst hi; exact hev
theorem cells_one {w : World} {g : Nat} {r : R} (h : w.heap[g]? = some (.cells (cellsOfRs [r]).toArray 42 (0, 0))) : ∀ j u, (cellsOfRs [r])[j]? = some u → w.cell? ((⟨g, 0, none⟩ : Addr).add j) = some u := by
  intro j u hj
  rw [Addr.add_lit, cell_row h, List.getElem?_toArray, Nat.zero_add]
  exact hj
/-- One record is appended to a list of our own. -/
theorem append1 {ops : Array Oper} {rest : List Oper} {a : Act} {w : World} {Q : Exit → Act → World → Prop} {d : Option Tmp} {x y : Operand} {ty : TypeId} {pos : String} {af : Array Edge} (B : Nat) (ao : Option Addr) (n c : Nat) (rs : List R) (r : R)
    (hx : a.eval x = .slice ao n c) (hn : rs.length = n) (hown : OwnR w B ao c rs) (hs : n < 900) (hy : a.eval y = .slice (some ⟨w.heap.size, 0, none⟩) 1 1) (hB : B ≤ w.heap.size)
    (h : ∀ ao' c' w', OwnR w' B ao' c' (rs ++ [r]) → Below B w w' → wpList Tryd.prog ops Q rest (a.put d (.slice ao' (n + 1) c')) w') :
    wpList Tryd.prog ops Q ({ dst := d, op := .call { callee := .builtin .append, args := #[x, y], argTypes := #[78, 78] }, type := ty, pos := pos, after := af, guard := none } :: rest) a (w.alloc (recCells r)) := by
  subst hn
  obtain ⟨i0, hi, hz0, hz1, hz2⟩ := info_parts Tryd.info42
  have hlies : (w.alloc (recCells r)).heap[w.heap.size]? = some (.cells (cellsOfRs [r]).toArray 42 (0, 0)) := heap_alloc_new _ _
  have hown1 : (w.alloc (recCells r)).ownsRow B 42 10 (.slice ao rs.length c) rs.length (cellsOfRs rs) := hown.1.alloc _
  refine wpList_append_own _ rfl x y 78 rfl B 42 i0 _ 10 72 Tryd.underlying78 hi hz0 hz1 hz2 rfl (by decide) _ rs.length (cellsOfRs rs) hx hown1 ⟨w.heap.size, 0, none⟩ 1 1 (cellsOfRs [r]) hy rfl (cells_one hlies) (oneCell_rs r) (by unfold maxLen; omega) (by omega) (by simp; omega) ?_
  intro v' w' hown2 hgr _
  obtain ⟨ao', c', rfl⟩ := own_shapeR hown2
  refine h ao' c' w' ⟨?_, by simp; omega⟩ (((Below.refl B w).alloc hB _).grown hgr (by simp; omega) (fun j e => (hown1.lt j e).1))
  rw [cellsOfRs_snoc, List.length_append]
  exact hown2
end Go.Proofs.YtjacenhblclkaaaDoor

/- Lists of records that grow by many at once; an append inside a statement that leaves its order open. -/
namespace Go.Proofs.YtjacenhblclkaaaDoor
open Go.RowKit
set_option linter.unusedVariables false

theorem CellsFrom.at {w : World} {B o : Nat} {r : R} (h : CellsFrom w B o r) (j : Nat) (hj : j < 10) : w.cell? ⟨B, o + j, none⟩ = r.val.cells.toList[j]? := by
  rcases (show j = 0 ∨ j = 1 ∨ j = 2 ∨ j = 3 ∨ j = 4 ∨ j = 5 ∨ j = 6 ∨ j = 7 ∨ j = 8 ∨ j = 9 by omega) with rfl | rfl | rfl | rfl | rfl | rfl | rfl | rfl | rfl | rfl
  · exact h.c0
  · exact h.c1
  · exact h.c2
  · exact h.c3
  · exact h.c4
  · exact h.c5
  · exact h.c6
  · exact h.c7
  · exact h.c8
  · exact h.c9
theorem cells_of_row {w : World} {b off : Nat} {ts : List R} (h : ∀ i r, ts[i]? = some r → CellsFrom w b (off + i * 10) r) : ∀ j u, (cellsOfRs ts)[j]? = some u → w.cell? ((⟨b, off, none⟩ : Addr).add j) = some u := by
  intro j u hj
  have hlt := (List.getElem?_eq_some_iff.1 hj).1
  rw [length_cellsOfRs] at hlt
  obtain ⟨r, hr⟩ : ∃ r, ts[j / 10]? = some r := ⟨ts[j / 10]'(by omega), List.getElem?_eq_getElem _⟩
  have h1 := rs_get ts (j / 10) (j % 10) r hr (by omega)
  rw [show j / 10 * 10 + j % 10 = j by omega, hj] at h1
  rw [Addr.add_lit, show off + j = off + j / 10 * 10 + j % 10 by omega, (h (j / 10) r hr).at (j % 10) (by omega)]
  exact h1.symm
theorem cellsOfRs_append (rs ts : List R) : cellsOfRs (rs ++ ts) = cellsOfRs rs ++ cellsOfRs ts := by simp [cellsOfRs]
theorem oneCell_many (ts : List R) : ∀ u ∈ cellsOfRs ts, u.oneCell' = true := by
  induction ts with
  | nil => intro u hu; cases hu
  | cons r ts ih =>
    intro u hu
    rw [show r :: ts = [r] ++ ts from rfl, cellsOfRs_append] at hu
    rcases List.mem_append.1 hu with h1 | h1
    · exact oneCell_rs r u h1
    · exact ih u h1
/-- Records appended to a list of our own: what the builtin does. -/
theorem run_appendR {w : World} {B : Nat} {ao : Option Addr} {n c : Nat} {rs ts : List R} {b off m yc : Nat} (hown : OwnR w B ao c rs) (hn : rs.length = n) (hm : ts.length = m) (hs : n + m ≤ 1000) (hB : B ≤ w.heap.size) (h : ∀ i r, ts[i]? = some r → CellsFrom w b (off + i * 10) r) (ty : TypeId) :
    ∃ ao' c' w', (Builtin.append_ #[78, 78] ty #[.slice ao n c, .slice (some ⟨b, off, none⟩) m yc]).run Tryd.prog w = .ok (.slice ao' (n + m) c') w' ∧ OwnR w' B ao' c' (rs ++ ts) ∧ w.grownBy w' (Value.slice ao n c).ownBlock ∧ Below B w w' ∧ ((Value.slice ao' (n + m) c').ownBlock = (Value.slice ao n c).ownBlock ∨ ∃ g, (Value.slice ao' (n + m) c').ownBlock = some g ∧ w.heap.size ≤ g) := by
  subst hn; subst hm
  obtain ⟨i0, hi, hz0, hz1, hz2⟩ := info_parts Tryd.info42
  obtain ⟨v', w', hr, ho, hg, _, hat⟩ := run_append_own_at (P := Tryd.prog) w B 78 ty 42 i0 _ 10 72 Tryd.underlying78 hi hz0 hz1 hz2 rfl (by decide) (.slice ao rs.length c) rs.length (cellsOfRs rs) hown.1 ⟨b, off, none⟩ ts.length yc (cellsOfRs ts) (length_cellsOfRs ts) (cells_of_row h) (oneCell_many ts) (by unfold maxLen; omega) (by omega) hB
  obtain ⟨ao', c', rfl⟩ := own_shapeR ho
  refine ⟨ao', c', w', hr, ⟨?_, by rw [List.length_append]; exact hs⟩, hg, (Below.refl B w).grown hg hB (fun j e => (hown.1.lt j e).1), hat.imp id fun e => ⟨_, e, Nat.le_refl _⟩⟩
  rw [cellsOfRs_append, List.length_append]
  exact ho
end Go.Proofs.YtjacenhblclkaaaDoor
