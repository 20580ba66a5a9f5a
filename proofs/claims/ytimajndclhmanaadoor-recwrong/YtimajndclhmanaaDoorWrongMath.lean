
/- The wrong records that the statement RecWrong lays side by side: none of them may be; what lies in memory. -/
import Derived.Test.YtimajndclhmanaaDoorRecFirst
import Derived.Test.YtimajndclhmanaaDoorRecMake
import Derived.Test.YtimajndclhmanaaDoorRecRead
import Derived.Great.CaseRows
namespace Go.Proofs.YtimajndclhmanaaDoor.recWrong
open Go.RowKit
set_option linter.unusedVariables false

def setR : R := ⟨2, 1, 1, 5, 0, 7, false, true, 0, 9⟩
def clrR : R := ⟨3, 1, 1, 5, 3, 7, true, false, 4, 0⟩
def restL : List R := [⟨0, 0, 0, 0, 0, 0, false, false, 0, 0⟩, ⟨11, 0, 0, 0, 0, 0, false, false, 0, 0⟩, ⟨1, 0, 0, 0, 0, 0, false, false, 0, 0⟩, ⟨1, 1, 0, 1, 0, 0, false, false, 0, 0⟩, ⟨9, 0, 1, 0, 0, 0, false, false, 0, 0⟩, ⟨8, 1, 0, 0, 0, 3, false, false, 0, 0⟩, ⟨10, 0, 0, 0, 60001, 0, false, false, 0, 0⟩, ⟨7, 1, 0, 0, 0, 0, false, false, 0, 0⟩, ⟨4, 1, 0, 0, 0, 1, false, false, 0, 0⟩, ⟨6, 60001, 0, 0, 0, 0, false, false, 0, 0⟩]
def firstL : List R := [setR, setR, setR, setR, setR, setR, setR, clrR, clrR, clrR] ++ restL
def badL (n : Int) : List R := [⟨2, 0, 1, 5, 0, 7, false, true, 0, 9⟩, ⟨2, 1, 33, 5, 0, 7, false, true, 0, 9⟩, ⟨2, 1, 1, 1073741825 + n, 0, 7, false, true, 0, 9⟩, ⟨2, 1, 1, 5, 1, 7, false, true, 0, 9⟩, ⟨2, 1, 1, 5, 0, 1048576, false, true, 0, 9⟩, ⟨2, 1, 1, 5, 0, 7, false, true, 3, 9⟩, ⟨2, 1, 1, 5, 0, 7, false, false, 0, 9⟩, ⟨3, 1, 1, 5, 3, 7, false, false, 4, 0⟩, ⟨3, 1, 1, 5, 3, 7, true, false, 0, 0⟩, ⟨3, 1, 1, 5, 3, 7, true, false, 4, 4⟩] ++ restL
theorem set_good : goodB setR = true := by decide
theorem clr_good : goodB clrR = true := by decide
theorem bad_all (n : Int) (h : 0 ≤ n) : ∀ r ∈ badL n, goodB r = false := by
  intro r hr
  simp only [badL, restL, List.cons_append, List.nil_append, List.mem_cons, List.not_mem_nil, or_false] at hr
  rcases hr with rfl | rfl | rfl | rfl | rfl | rfl | rfl | rfl | rfl | rfl | rfl | rfl | rfl | rfl | rfl | rfl | rfl | rfl | rfl | rfl
  case inr.inr.inl =>
    have hp : holdsB 0 1073741824 (1073741825 + n) = false := by
      unfold holdsB
      rw [Bool.and_eq_false_iff]
      exact .inr (decide_eq_false (by omega))
    show (holdsB 1 10 2 && (holdsB 1 60000 1 && (holdsB 1 32 1 && (holdsB 0 1073741824 (1073741825 + n) && _)))) = false
    rw [hp]
    rfl
  all_goals rfl
/-- The cells of records that lie side by side. -/
def cellsOfRs (rs : List R) : List Value := (rs.map R.val).flatMap fun v => v.cells.toList
theorem flat_get : ∀ (rs : List R) (i j : Nat) (r : R), rs[i]? = some r → j < 10 → (cellsOfRs rs)[i * 10 + j]? = r.val.cells.toList[j]? := by
  intro rs
  induction rs with
  | nil => intro i j r h; simp at h
  | cons x rs ih =>
    intro i j r h hj
    have hl : x.val.cells.toList.length = 10 := rfl
    have hc : cellsOfRs (x :: rs) = x.val.cells.toList ++ cellsOfRs rs := rfl
    rw [hc]
    cases i with
    | zero =>
      simp at h
      subst h
      rw [List.getElem?_append_left (by rw [hl]; omega)]
      simp
    | succ i =>
      rw [List.getElem?_append_right (by rw [hl]; omega), hl]
      have := ih i j r (by simpa using h) hj
      rw [show (i + 1) * 10 + j - 10 = i * 10 + j by omega]
      exact this
theorem bad_cells (n : Int) : ((((((((((((cellsOfRs firstL).toArray.setIfInBounds 1 (.int .i64 0)).setIfInBounds 12 (.int .i64 33)).setIfInBounds 23 (.int .i64 (1073741825 + n))).setIfInBounds 34 (.int .i64 1)).setIfInBounds 45 (.int .i64 1048576)).setIfInBounds 58 (.int .i64 3)).setIfInBounds 67 (.bool false)).setIfInBounds 76 (.bool false)).setIfInBounds 88 (.int .i64 0)).setIfInBounds 99 (.int .i64 4))) = (cellsOfRs (badL n)).toArray := by
  simp only [List.setIfInBounds_toArray]
  rfl
theorem idx20 (i : Nat) (h : i < 20) : i = 0 ∨ i = 1 ∨ i = 2 ∨ i = 3 ∨ i = 4 ∨ i = 5 ∨ i = 6 ∨ i = 7 ∨ i = 8 ∨ i = 9 ∨ i = 10 ∨ i = 11 ∨ i = 12 ∨ i = 13 ∨ i = 14 ∨ i = 15 ∨ i = 16 ∨ i = 17 ∨ i = 18 ∨ i = 19 := by omega
theorem vals_size : ∀ v ∈ firstL.map R.val, v.cells.size = 10 := by
  intro v hv
  obtain ⟨r, _, rfl⟩ := List.mem_map.1 hv
  rfl
/-- A record's ten cells from o on. -/
structure CellsFrom (w : World) (B o : Nat) (r : R) : Prop where
  c0 : w.cell? ⟨B, o, none⟩ = some (.int .i64 r.kind)
  c1 : w.cell? ⟨B, o + 1, none⟩ = some (.int .i64 r.txn)
  c2 : w.cell? ⟨B, o + 2, none⟩ = some (.int .i64 r.page)
  c3 : w.cell? ⟨B, o + 3, none⟩ = some (.int .i64 r.prev)
  c4 : w.cell? ⟨B, o + 4, none⟩ = some (.int .i64 r.next)
  c5 : w.cell? ⟨B, o + 5, none⟩ = some (.int .i64 r.key)
  c6 : w.cell? ⟨B, o + 6, none⟩ = some (.bool r.had)
  c7 : w.cell? ⟨B, o + 7, none⟩ = some (.bool r.has)
  c8 : w.cell? ⟨B, o + 8, none⟩ = some (.int .i64 r.old)
  c9 : w.cell? ⟨B, o + 9, none⟩ = some (.int .i64 r.new)
  lt : B < w.heap.size
theorem CellsFrom.below {w w' : World} {B o n : Nat} {r : R} (h : CellsFrom w B o r) (hb : Below n w w') (hn : w.heap.size ≤ n) : CellsFrom w' B o r := by
  have hl := h.lt
  have h0 : ∀ o, w'.cell? ⟨B, o, none⟩ = w.cell? ⟨B, o, none⟩ := fun o => hb.cell (show B < n by omega)
  exact ⟨(h0 _).trans h.c0, (h0 _).trans h.c1, (h0 _).trans h.c2, (h0 _).trans h.c3, (h0 _).trans h.c4, (h0 _).trans h.c5, (h0 _).trans h.c6, (h0 _).trans h.c7, (h0 _).trans h.c8, (h0 _).trans h.c9, Nat.lt_of_lt_of_le hl hb.size⟩
theorem cells_from {w : World} {g : Nat} {rs : List R} {i : Nat} {r : R} {t : TypeId} (h : w.heap[g]? = some (.cells (cellsOfRs rs).toArray t (0, 0))) (hi : rs[i]? = some r) : CellsFrom w g (i * 10) r := by
  have hc : ∀ j, j < 10 → w.cell? ⟨g, i * 10 + j, none⟩ = r.val.cells.toList[j]? := fun j hj => by
    rw [cell_row h, List.getElem?_toArray]
    exact flat_get rs i j r hi hj
  exact ⟨hc 0 (by omega), hc 1 (by omega), hc 2 (by omega), hc 3 (by omega), hc 4 (by omega), hc 5 (by omega), hc 6 (by omega), hc 7 (by omega), hc 8 (by omega), hc 9 (by omega), lt_of_block h⟩
theorem build20 {ops : Array Oper} {rest : List Oper} {a : Act} {w : World} {Q : Exit → Act → World → Prop} {ty : TypeId} {pos : String} {af : Array Edge} (N : Nat) (hN : w.heap.size = N)
    (hev : (List.range 20).map (fun i => a.eval (.tmp (21 + i))) = firstL.map R.val)
    (h : wpList Tryd.prog ops Q rest (a.put (some 41) (.slice (some ⟨N, 0, none⟩) 20 20)) (w.alloc (.cells (cellsOfRs firstL).toArray 23))) :
    wpList Tryd.prog ops Q ({ dst := some 41, op := .buildSlice 50 20 #[(0, .tmp 21), (1, .tmp 22), (2, .tmp 23), (3, .tmp 24), (4, .tmp 25), (5, .tmp 26), (6, .tmp 27), (7, .tmp 28), (8, .tmp 29), (9, .tmp 30), (10, .tmp 31), (11, .tmp 32), (12, .tmp 33), (13, .tmp 34), (14, .tmp 35), (15, .tmp 36), (16, .tmp 37), (17, .tmp 38), (18, .tmp 39), (19, .tmp 40)], type := ty, pos := pos, after := af, guard := none } :: rest) a w := by
  refine Great.wpList_buildRows rfl 50 23 _ 10 (firstL.map R.val) rfl (fun i => 21 + i) N hN _ rfl Tryd.underlying50 (by kernel_rfl) (by kernel_rfl) (by omega) (by decide) (by decide) rfl vals_size (fun i hi => ?_) h
  have h2 : ((List.range 20).map (fun i => a.eval (.tmp (21 + i))))[i]? = (firstL.map R.val)[i]? := by rw [hev]
  rw [List.getElem?_map, List.getElem?_range (show i < 20 from hi), List.getElem?_eq_getElem hi] at h2
  exact Option.some.inj h2
theorem ten_cells {w : World} {g : Nat} (h : w.heap[g]? = some (.cells (cellsOfRs firstL).toArray 23 (0, 0))) : w.cell? ⟨g, 1, none⟩ = some (.int .i64 1) ∧ w.frozen? ⟨g, 1, none⟩ = false ∧ w.cell? ⟨g, 12, none⟩ = some (.int .i64 1) ∧ w.frozen? ⟨g, 12, none⟩ = false ∧ w.cell? ⟨g, 23, none⟩ = some (.int .i64 5) ∧ w.frozen? ⟨g, 23, none⟩ = false ∧ w.cell? ⟨g, 34, none⟩ = some (.int .i64 0) ∧ w.frozen? ⟨g, 34, none⟩ = false ∧ w.cell? ⟨g, 45, none⟩ = some (.int .i64 7) ∧ w.frozen? ⟨g, 45, none⟩ = false ∧ w.cell? ⟨g, 58, none⟩ = some (.int .i64 0) ∧ w.frozen? ⟨g, 58, none⟩ = false ∧ w.cell? ⟨g, 67, none⟩ = some (.bool true) ∧ w.frozen? ⟨g, 67, none⟩ = false ∧ w.cell? ⟨g, 76, none⟩ = some (.bool true) ∧ w.frozen? ⟨g, 76, none⟩ = false ∧ w.cell? ⟨g, 88, none⟩ = some (.int .i64 4) ∧ w.frozen? ⟨g, 88, none⟩ = false ∧ w.cell? ⟨g, 99, none⟩ = some (.int .i64 0) ∧ w.frozen? ⟨g, 99, none⟩ = false := by
  refine ⟨?_, ?_, ?_, ?_, ?_, ?_, ?_, ?_, ?_, ?_, ?_, ?_, ?_, ?_, ?_, ?_, ?_, ?_, ?_, ?_⟩
  all_goals first | exact frozen_at h _ | (rw [cell_row h]; kernel_rfl)
def turned (w : World) (g : Nat) (n : Int) : World := ((((((((((w.setCell ⟨g, 1, none⟩ (.int .i64 0)).setCell ⟨g, 12, none⟩ (.int .i64 33)).setCell ⟨g, 23, none⟩ (.int .i64 (1073741825 + n))).setCell ⟨g, 34, none⟩ (.int .i64 1)).setCell ⟨g, 45, none⟩ (.int .i64 1048576)).setCell ⟨g, 58, none⟩ (.int .i64 3)).setCell ⟨g, 67, none⟩ (.bool false)).setCell ⟨g, 76, none⟩ (.bool false)).setCell ⟨g, 88, none⟩ (.int .i64 0)).setCell ⟨g, 99, none⟩ (.int .i64 4))
theorem turned_lies {w : World} {g : Nat} (n : Int) (h : w.heap[g]? = some (.cells (cellsOfRs firstL).toArray 23 (0, 0))) : (turned w g n).heap[g]? = some (.cells (cellsOfRs (badL n)).toArray 23 (0, 0)) := by
  rw [← bad_cells n]
  exact (set_block (set_block (set_block (set_block (set_block (set_block (set_block (set_block (set_block (set_block h 1 (.int .i64 0)) 12 (.int .i64 33)) 23 (.int .i64 (1073741825 + n))) 34 (.int .i64 1)) 45 (.int .i64 1048576)) 58 (.int .i64 3)) 67 (.bool false)) 76 (.bool false)) 88 (.int .i64 0)) 99 (.int .i64 4))
theorem turned_below {B g : Nat} {a w : World} (n : Int) (h : Below B a w) (hg : B ≤ g) : Below B a (turned w g n) := by
  unfold turned
  exact ((((((((((h.setCell (p := ⟨g, 1, none⟩) hg _).setCell (p := ⟨g, 12, none⟩) hg _).setCell (p := ⟨g, 23, none⟩) hg _).setCell (p := ⟨g, 34, none⟩) hg _).setCell (p := ⟨g, 45, none⟩) hg _).setCell (p := ⟨g, 58, none⟩) hg _).setCell (p := ⟨g, 67, none⟩) hg _).setCell (p := ⟨g, 76, none⟩) hg _).setCell (p := ⟨g, 88, none⟩) hg _).setCell (p := ⟨g, 99, none⟩) hg _)
theorem turned_other {w : World} {g : Nat} (n : Int) {B : Nat} {r : R} (h : Cells10 w B r) (hne : B < g) : Cells10 (turned w g n) B r := by
  have hb := turned_below n (Below.refl g w) (Nat.le_refl g)
  have h0 : ∀ o, (turned w g n).cell? ⟨B, o, none⟩ = w.cell? ⟨B, o, none⟩ := fun o => hb.cell (show B < g from hne)
  exact ⟨(h0 _).trans h.c0, (h0 _).trans h.c1, (h0 _).trans h.c2, (h0 _).trans h.c3, (h0 _).trans h.c4, (h0 _).trans h.c5, (h0 _).trans h.c6, (h0 _).trans h.c7, (h0 _).trans h.c8, (h0 _).trans h.c9, Nat.lt_of_lt_of_le h.lt hb.size⟩
theorem badL_get (n : Int) (k : Nat) (h : k < 20) : ∃ r, (badL n)[k]? = some r := ⟨(badL n)[k]'h, List.getElem?_eq_getElem h⟩
end Go.Proofs.YtimajndclhmanaaDoor.recWrong
