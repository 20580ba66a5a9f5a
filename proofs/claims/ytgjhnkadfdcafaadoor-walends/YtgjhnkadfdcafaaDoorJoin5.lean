/- Lemmas and contracts that the law stands on, joined: WalMath3, RecList, Looses, Crashes, News, WalObj, WalCalls, WalRec, WalAppend, WalMath4, WalWrite. -/
import Derived.Test.YtgjhnkadfdcafaaDoorJoin4
import Derived.Test.YtgjhnkadfdcafaaDoorJoin2
import Derived.Maps.AppendAt
import Derived.Deep.OwnRows
import Derived.Test.YtgjhnkadfdcafaaDoorJoin3
import Derived.Deep.RegionLaw
/- Plain lemmas on logs: what a Flush makes of a disk's versions, with power that may go; what a crash leaves. No Go text here. -/
namespace Go.Proofs.YtgjhnkadfdcafaaDoor
open Go.RowKit
set_option linter.unusedVariables false

/-- The versions of block k of a log that begins at sector 'first'. -/
def verL (vss : List (List (List Int))) (first k : Nat) : List (List Int) := vss.getD (first + k) []
/-- One version more of a sector. -/
def addS (vss : List (List (List Int))) (i : Nat) (b : List Int) : List (List (List Int)) := vss.set i (vss.getD i [] ++ [b])
theorem length_addS (vss : List (List (List Int))) (i : Nat) (b : List Int) : (addS vss i b).length = vss.length := by simp [addS]
theorem addS_at (vss : List (List (List Int))) (i j : Nat) (b : List Int) (h : i < vss.length) : (addS vss i b).getD j [] = if j = i then vss.getD i [] ++ [b] else vss.getD j [] := by
  unfold addS
  rw [List.getD_eq_getElem?_getD, List.getElem?_set]
  by_cases e : i = j
  · rw [if_pos e, if_pos (by omega), if_pos e.symm]; rfl
  · rw [if_neg e, if_neg (fun e' => e e'.symm), ← List.getD_eq_getElem?_getD]
theorem verL_addS (vss : List (List (List Int))) (first k j : Nat) (b : List Int) (h : first + k < vss.length) : verL (addS vss (first + k) b) first j = addV (verL vss first) k b j := by
  unfold verL addV
  rw [addS_at _ _ _ _ h]
  by_cases e : j = k
  · rw [if_pos (by omega), if_pos e]
  · rw [if_neg (by omega), if_neg e]
/-- n blocks from k on are written, as far as the fuse goes: the versions, the fuse, and whether there is still power. -/
def wrUp (first : Nat) (ep : Int) (rs : List R) : Nat → Nat → List (List (List Int)) → Int → List (List (List Int)) × Int × Bool
  | 0, _, vss, f => (vss, f, true)
  | n + 1, k, vss, f => if f = 0 then (addS vss (first + k) (blockB ep (chunk rs k)), 0, false) else wrUp first ep rs n (k + 1) (addS vss (first + k) (blockB ep (chunk rs k))) (burnt f)
/-- How many blocks have records. -/
def blocksOf (n : Nat) : Nat := (n + 5) / 6
/-- What Flush makes of the disk: the versions, the fuse, whether power is off, whether it went well. -/
def flushW (first : Nat) (ep : Int) (rs : List R) (D : Nat) (vss : List (List (List Int))) (off : Bool) (fuse : Int) : List (List (List Int)) × Int × Bool × Bool :=
  if D = rs.length then (vss, fuse, off, true) else if off then (vss, fuse, true, false) else
    if (wrUp first ep rs (blocksOf rs.length - D / 6) (D / 6) vss fuse).2.2 = true then
      if (wrUp first ep rs (blocksOf rs.length - D / 6) (D / 6) vss fuse).2.1 = 0 then ((wrUp first ep rs (blocksOf rs.length - D / 6) (D / 6) vss fuse).1, 0, true, false)
      else ((wrUp first ep rs (blocksOf rs.length - D / 6) (D / 6) vss fuse).1.map synced, burnt (wrUp first ep rs (blocksOf rs.length - D / 6) (D / 6) vss fuse).2.1, false, true)
    else ((wrUp first ep rs (blocksOf rs.length - D / 6) (D / 6) vss fuse).1, (wrUp first ep rs (blocksOf rs.length - D / 6) (D / 6) vss fuse).2.1, true, false)
theorem length_wrUp (first : Nat) (ep : Int) (rs : List R) : ∀ n k vss f, (wrUp first ep rs n k vss f).1.length = vss.length := by
  intro n
  induction n with
  | zero => intro k vss f; rfl
  | succ n ih =>
    intro k vss f
    rw [wrUp]
    split
    · exact length_addS _ _ _
    · rw [ih, length_addS]
theorem wrUp_other (first : Nat) (ep : Int) (rs : List R) : ∀ n k vss f i, first + k + n ≤ vss.length → i < first + k ∨ first + k + n ≤ i → (wrUp first ep rs n k vss f).1.getD i [] = vss.getD i [] := by
  intro n
  induction n with
  | zero => intro k vss f i _ _; rfl
  | succ n ih =>
    intro k vss f i hl hi
    rw [wrUp]
    split
    · show (addS vss _ _).getD i [] = _
      rw [addS_at _ _ _ _ (by omega), if_neg (by omega)]
    · rw [ih (k + 1) _ _ i (by rw [length_addS]; omega) (by omega), addS_at _ _ _ _ (by omega), if_neg (by omega)]
theorem wrUp_walk {N : Nat} {ep : Int} {rs : List R} {D : Nat} {e : Nat → Int} {first : Nat} : ∀ n k vss f, Walk N ep rs D (verL vss first) e → first + N ≤ vss.length → D < 6 * (k + 1) → 6 * (k + n) < rs.length + 6 → Walk N ep rs D (verL (wrUp first ep rs n k vss f).1 first) e := by
  intro n
  induction n with
  | zero => intro k vss f h _ _ _; exact h
  | succ n ih =>
    intro k vss f h hl h1 h2
    have hln := h.len
    have h3 := (h.write k h1 (by omega)).congr (V' := verL (addS vss (first + k) (blockB ep (chunk rs k))) first) fun j _ => verL_addS vss first k j _ (by omega)
    rw [wrUp]
    split
    · exact h3
    · exact ih (k + 1) _ _ h3 (by rw [length_addS]; omega) (by omega) (by omega)
theorem wrUp_last {ep : Int} {rs : List R} {first : Nat} : ∀ n k vss f, first + k + n ≤ vss.length → (wrUp first ep rs n k vss f).2.2 = true → ∀ j, k ≤ j → j < k + n → lastV (verL (wrUp first ep rs n k vss f).1 first j) = blockB ep (chunk rs j) := by
  intro n
  induction n with
  | zero => intro k vss f _ _ j h1 h2; omega
  | succ n ih =>
    intro k vss f hl hp j h1 h2
    rw [wrUp] at hp ⊢
    split at hp
    · cases hp
    · rename_i hf
      rw [if_neg hf]
      by_cases e : j = k
      · subst e
        have h3 : verL (wrUp first ep rs n (j + 1) (addS vss (first + j) (blockB ep (chunk rs j))) (burnt f)).1 first j = vss.getD (first + j) [] ++ [blockB ep (chunk rs j)] := by
          unfold verL
          rw [wrUp_other first ep rs n (j + 1) _ _ (first + j) (by rw [length_addS]; omega) (by omega), addS_at _ _ _ _ (by omega), if_pos rfl]
        rw [h3]
        unfold lastV
        rw [List.length_append, List.getD_eq_getElem?_getD, List.getElem?_append_right (by simp)]
        simp
      · exact ih (k + 1) _ _ (by rw [length_addS]; omega) hp j (by omega) (by omega)
/-- Every sector has a version. -/
def hasV (vss : List (List (List Int))) : Prop := ∀ i, i < vss.length → 1 ≤ (vss.getD i []).length
theorem hasV.add {vss : List (List (List Int))} (h : hasV vss) (i : Nat) (b : List Int) (hi : i < vss.length) : hasV (addS vss i b) := by
  intro j hj
  rw [length_addS] at hj
  rw [addS_at _ _ _ _ hi]
  split
  · simp
  · exact h j hj
theorem hasV.wrUp {first : Nat} {ep : Int} {rs : List R} : ∀ n k vss f, hasV vss → first + k + n ≤ vss.length → hasV (wrUp first ep rs n k vss f).1 := by
  intro n
  induction n with
  | zero => intro k vss f h _; exact h
  | succ n ih =>
    intro k vss f h hl
    rw [Proofs.YtgjhnkadfdcafaaDoor.wrUp]
    split
    · exact h.add _ _ (by omega)
    · exact ih (k + 1) _ _ (h.add _ _ (by omega)) (by rw [length_addS]; omega)
theorem lastV_mem {vs : List (List Int)} (h : 1 ≤ vs.length) : lastV vs ∈ vs := by
  unfold lastV
  rw [List.getD_eq_getElem?_getD, List.getElem?_eq_getElem (by omega)]
  exact List.getElem_mem _
theorem verL_synced (vss : List (List (List Int))) (first k : Nat) (h : first + k < vss.length) : verL (vss.map synced) first k = [lastV (verL vss first k)] := by
  unfold verL
  rw [List.getD_eq_getElem?_getD, List.getElem?_map, List.getElem?_eq_getElem h, List.getD_eq_getElem?_getD, List.getElem?_eq_getElem h]
  rfl
theorem blocks_bd (n : Nat) : 6 * blocksOf n < n + 6 ∧ n ≤ 6 * blocksOf n := by unfold blocksOf; omega
/-- What Flush leaves is a log as it should be: all is flushed where it went well; else no more than was. -/
theorem flush_walk {N : Nat} {ep : Int} {rs : List R} {D : Nat} {e : Nat → Int} {first : Nat} {vss : List (List (List Int))} (off : Bool) (fuse : Int) (h : Walk N ep rs D (verL vss first) e) (hl : first + N ≤ vss.length) (hv : hasV vss) :
    ∃ e', Walk N ep rs (if (flushW first ep rs D vss off fuse).2.2.2 then rs.length else D) (verL (flushW first ep rs D vss off fuse).1 first) e' := by
  have hd := h.dle
  have hln := h.len
  obtain ⟨hb1, hb2⟩ := blocks_bd rs.length
  unfold flushW
  by_cases h1 : D = rs.length
  · rw [if_pos h1]
    refine ⟨e, ?_⟩
    rw [if_pos rfl, ← h1]
    exact h
  · rw [if_neg h1]
    cases off with
    | true => exact ⟨e, h⟩
    | false =>
      simp only [Bool.false_eq_true, if_false]
      have hw := wrUp_walk (first := first) (blocksOf rs.length - D / 6) (D / 6) vss fuse h hl (by omega) (by omega)
      have hlen := length_wrUp first ep rs (blocksOf rs.length - D / 6) (D / 6) vss fuse
      have hhas := hasV.wrUp (first := first) (ep := ep) (rs := rs) (blocksOf rs.length - D / 6) (D / 6) vss fuse hv (by omega)
      have hlast := wrUp_last (ep := ep) (rs := rs) (first := first) (blocksOf rs.length - D / 6) (D / 6) vss fuse (by omega)
      generalize wrUp first ep rs (blocksOf rs.length - D / 6) (D / 6) vss fuse = g at hw hlen hhas hlast ⊢
      obtain ⟨v, f, on⟩ := g
      simp only at hw hlen hhas hlast ⊢
      cases on with
      | false => exact ⟨e, hw⟩
      | true =>
        simp only [if_true]
        by_cases hf : f = 0
        · rw [if_pos hf]
          exact ⟨e, hw⟩
        · rw [if_neg hf]
          refine ⟨_, hw.sync (V' := verL (v.map synced) first) (fun k hk1 hk2 => ?_) (fun k hk => ?_)⟩
          · rw [verL_synced _ _ _ (by omega), hlast rfl k (by omega) (by omega)]
          · exact ⟨lastV (verL v first k), lastV_mem (hhas _ (by omega)), verL_synced _ _ _ (by omega)⟩
theorem length_flushW (first : Nat) (ep : Int) (rs : List R) (D : Nat) (vss : List (List (List Int))) (off : Bool) (fuse : Int) : (flushW first ep rs D vss off fuse).1.length = vss.length := by
  unfold flushW
  split
  · rfl
  · split
    · rfl
    · split
      · split
        · exact length_wrUp ..
        · rw [List.length_map]; exact length_wrUp ..
      · exact length_wrUp ..
theorem hasV_flushW {N : Nat} {first : Nat} {ep : Int} {rs : List R} {D : Nat} {vss : List (List (List Int))} (off : Bool) (fuse : Int) (hl : first + N ≤ vss.length) (hr : rs.length ≤ 6 * N) (hd : D ≤ rs.length) (hv : hasV vss) : hasV (flushW first ep rs D vss off fuse).1 := by
  obtain ⟨hb1, hb2⟩ := blocks_bd rs.length
  have h1 := hasV.wrUp (first := first) (ep := ep) (rs := rs) (blocksOf rs.length - D / 6) (D / 6) vss fuse hv
  unfold flushW
  split
  · exact hv
  · rename_i hne
    split
    · exact hv
    · split
      · split
        · exact h1 (by omega)
        · intro i hi
          show 1 ≤ (List.getD (List.map synced _) i []).length
          rw [List.length_map] at hi
          rw [List.getD_eq_getElem?_getD, List.getElem?_map, List.getElem?_eq_getElem hi]
          exact Nat.le_refl _
      · exact h1 (by omega)
/-- What a crash leaves of a log: each block one of its versions. -/
theorem crash_pickL (zs : List Int) (vss : List (List (List Int))) (first : Nat) (hv : hasV vss) : ∃ c : Nat → List Int, ∀ k, first + k < vss.length → c k ∈ verL vss first k ∧ verL (crashed zs vss) first k = [c k] := by
  refine ⟨fun k => (verL (crashed zs vss) first k).getD 0 [], fun k hk => ?_⟩
  have h1 : 1 ≤ (verOf vss (first + k)).length := hv _ hk
  obtain ⟨v, hv1, hv2⟩ := crashedSec_mem (zs := zs) (vss := vss) (k := first + k) h1
  have h2 : verL (crashed zs vss) first k = [v] := (verOf_crashed hk).trans hv2
  show (verL (crashed zs vss) first k).getD 0 [] ∈ _ ∧ _ = [(verL (crashed zs vss) first k).getD 0 []]
  rw [h2]
  exact ⟨(show v ∈ verL vss first k from hv1), rfl⟩
theorem hasV_crashed (zs : List Int) (vss : List (List (List Int))) (hv : hasV vss) : hasV (crashed zs vss) := by
  intro i hi
  rw [length_crashed] at hi
  have h1 : 1 ≤ (verOf vss i).length := hv _ hi
  have h2 : (crashed zs vss).getD i [] = crashedSec zs vss i := verOf_crashed hi
  rw [h2, crashedSec_one h1]
  exact Nat.le_refl _
/-- Crashed, and opened as a later boot. -/
theorem crash_opened {N : Nat} {ep : Int} {rs : List R} {D : Nat} {e : Nat → Int} {first : Nat} {vss : List (List (List Int))} (zs : List Int) (h : Walk N ep rs D (verL vss first) e) (hl : first + N ≤ vss.length) (hv : hasV vss) (ep' : Int) (hep : ep < ep') (hep' : ep' ≤ 1073741824) :
    ∃ m e', D ≤ m ∧ m ≤ rs.length ∧ openUp (fun k => lastV (verL (crashed zs vss) first k)) ep' N 0 1 [] = (rs.take m, -1) ∧ Walk N ep' (rs.take m) m (verL (crashed zs vss) first) e' := by
  obtain ⟨c, hc⟩ := crash_pickL zs vss first hv
  have hlc : ∀ k, k < N → lastV (verL (crashed zs vss) first k) = c k := fun k hk => by rw [(hc k (by omega)).2]; rfl
  obtain ⟨m, m1, m2, m3, m4⟩ := h.opened (fun k => lastV (verL (crashed zs vss) first k)) (fun k hk => by rw [hlc k hk]; exact (hc k (by omega)).1) ep' hep hep'
  refine ⟨m, _, m1, m2, m3, m4.congr fun k hk => ?_⟩
  show verL (crashed zs vss) first k = [lastV (verL (crashed zs vss) first k)]
  rw [hlc k hk]
  exact (hc k (by omega)).2
end Go.Proofs.YtgjhnkadfdcafaaDoor

/- Lists of records that grow by many at once; an append inside a statement that leaves its order open. -/
namespace Go.Proofs.YtgjhnkadfdcafaaDoor
open Go.RowKit
set_option linter.unusedVariables false

theorem CellsFrom.at {w : World} {B o : Nat} {r : R} (h : CellsFrom w B o r) (j : Nat) (hj : j < 10) : w.cell? ⟨B, o + j, none⟩ = r.val.cells.toList[j]? := by
  rcases (show j = 0 ∨ j = 1 ∨ j = 2 ∨ j = 3 ∨ j = 4 ∨ j = 5 ∨ j = 6 ∨ j = 7 ∨ j = 8 ∨ j = 9 by omega) with rfl | rfl | rfl | rfl | rfl | rfl | rfl | rfl | rfl | rfl
  · exact h.c0
  · exact h.c1
  · exact h.c2
  · exact h.c3
  · exact h.c4
  · exact h.c5
  · exact h.c6
  · exact h.c7
  · exact h.c8
  · exact h.c9
theorem cells_of_row {w : World} {b off : Nat} {ts : List R} (h : ∀ i r, ts[i]? = some r → CellsFrom w b (off + i * 10) r) : ∀ j u, (cellsOfRs ts)[j]? = some u → w.cell? ((⟨b, off, none⟩ : Addr).add j) = some u := by
  intro j u hj
  have hlt := (List.getElem?_eq_some_iff.1 hj).1
  rw [length_cellsOfRs] at hlt
  obtain ⟨r, hr⟩ : ∃ r, ts[j / 10]? = some r := ⟨ts[j / 10]'(by omega), List.getElem?_eq_getElem _⟩
  have h1 := rs_get ts (j / 10) (j % 10) r hr (by omega)
  rw [show j / 10 * 10 + j % 10 = j by omega, hj] at h1
  rw [Addr.add_lit, show off + j = off + j / 10 * 10 + j % 10 by omega, (h (j / 10) r hr).at (j % 10) (by omega)]
  exact h1.symm
theorem cellsOfRs_append (rs ts : List R) : cellsOfRs (rs ++ ts) = cellsOfRs rs ++ cellsOfRs ts := by simp [cellsOfRs]
theorem oneCell_many (ts : List R) : ∀ u ∈ cellsOfRs ts, u.oneCell' = true := by
  induction ts with
  | nil => intro u hu; cases hu
  | cons r ts ih =>
    intro u hu
    rw [show r :: ts = [r] ++ ts from rfl, cellsOfRs_append] at hu
    rcases List.mem_append.1 hu with h1 | h1
    · exact oneCell_rs r u h1
    · exact ih u h1
/-- Records appended to a list of our own: what the builtin does. -/
theorem run_appendR {w : World} {B : Nat} {ao : Option Addr} {n c : Nat} {rs ts : List R} {b off m yc : Nat} (hown : OwnR w B ao c rs) (hn : rs.length = n) (hm : ts.length = m) (hs : n + m ≤ 1000) (hB : B ≤ w.heap.size) (h : ∀ i r, ts[i]? = some r → CellsFrom w b (off + i * 10) r) (ty : TypeId) :
    ∃ ao' c' w', (Builtin.append_ #[28, 28] ty #[.slice ao n c, .slice (some ⟨b, off, none⟩) m yc]).run Tryd.prog w = .ok (.slice ao' (n + m) c') w' ∧ OwnR w' B ao' c' (rs ++ ts) ∧ w.grownBy w' (Value.slice ao n c).ownBlock ∧ Below B w w' ∧ ((Value.slice ao' (n + m) c').ownBlock = (Value.slice ao n c).ownBlock ∨ ∃ g, (Value.slice ao' (n + m) c').ownBlock = some g ∧ w.heap.size ≤ g) := by
  subst hn; subst hm
  obtain ⟨i0, hi, hz0, hz1, hz2⟩ := info_parts Tryd.info31
  obtain ⟨v', w', hr, ho, hg, _, hat⟩ := run_append_own_at (P := Tryd.prog) w B 28 ty 31 i0 _ 10 72 Tryd.underlying28 hi hz0 hz1 hz2 rfl (by decide) (.slice ao rs.length c) rs.length (cellsOfRs rs) hown.1 ⟨b, off, none⟩ ts.length yc (cellsOfRs ts) (length_cellsOfRs ts) (cells_of_row h) (oneCell_many ts) (by unfold maxLen; omega) (by omega) hB
  obtain ⟨ao', c', rfl⟩ := own_shapeR ho
  refine ⟨ao', c', w', hr, ⟨?_, by rw [List.length_append]; exact hs⟩, hg, (Below.refl B w).grown hg hB (fun j e => (hown.1.lt j e).1), hat.imp id fun e => ⟨_, e, Nat.le_refl _⟩⟩
  rw [cellsOfRs_append, List.length_append]
  exact ho
end Go.Proofs.YtgjhnkadfdcafaaDoor

/- What a disk's Loose answers, and which version of a sector a crash keeps. -/
namespace Go.Proofs.YtgjhnkadfdcafaaDoor
open Go.RowKit
set_option linter.unusedVariables false

theorem Tryd.info77 : (Tryd.prog.info? 77).map (fun i => (i.zero, i.size, i.bytes)) = some (some (.agg #[.int .i64 0, .int .i64 0]), 2, 16) := by kernel_rfl
/-- Pairs as cells. -/
def pairCells (l : List (Nat × Nat)) : List Value := l.flatMap fun q => [.int .i64 q.1, .int .i64 q.2]
theorem length_pairCells (l : List (Nat × Nat)) : (pairCells l).length = l.length * 2 := by
  induction l with
  | nil => rfl
  | cons q l ih => simp only [pairCells, List.flatMap_cons, List.length_append, List.length_cons, List.length_nil] at ih ⊢; omega
theorem pairCells_snoc (l : List (Nat × Nat)) (q : Nat × Nat) : pairCells (l ++ [q]) = pairCells l ++ [.int .i64 q.1, .int .i64 q.2] := by simp [pairCells]
theorem pairCells_at : ∀ (l : List (Nat × Nat)) (t : Nat) (q : Nat × Nat), l[t]? = some q → (pairCells l)[t * 2]? = some (.int .i64 q.1) ∧ (pairCells l)[t * 2 + 1]? = some (.int .i64 q.2) := by
  intro l
  induction l with
  | nil => intro t q h; simp at h
  | cons p l ih =>
    intro t q h
    cases t with
    | zero => simp at h; subst h; simp [pairCells]
    | succ t =>
      have h1 := ih t q (by simpa using h)
      simp only [pairCells, List.flatMap_cons] at h1 ⊢
      rw [show (t + 1) * 2 = t * 2 + 2 by omega, show t * 2 + 2 + 1 = (t * 2 + 1) + 2 by omega]
      simpa using h1
theorem own_shape_any {w : World} {B e sz n : Nat} {v : Value} {cs : List Value} (h : w.ownsRow B e sz v n cs) : ∃ ao cap, v = .slice ao n cap := by
  rcases h.2 with ⟨h1, h2⟩ | ⟨g, cap, cur, h1, _⟩
  · exact ⟨none, 0, by rw [h1, h2]⟩
  · exact ⟨_, cap, h1⟩
theorem cell_two_new (w : World) (x y : Value) (e : TypeId) : ∀ j u, [x, y][j]? = some u → (w.alloc (.cells #[x, y] e)).cell? ((⟨w.heap.size, 0, none⟩ : Addr).add j) = some u := by
  intro j u hj
  rw [Addr.add_lit, cell_row (heap_alloc_new w (.cells #[x, y] e))]
  simpa using hj
theorem verOf_vers {ss : List Sec} {i : Nat} {x : Sec} (h : ss[i]? = some x) : verOf (vers ss) i = x.vs.map (·.xs) := vers_at h

set_option maxRecDepth 100000 in
set_option maxHeartbeats 1000000 in
theorem looses_any (d : Nat) {w : World} {K : Nat → Prop} {a : Nat → Addr} {vss : List (List (List Int))} {off : Bool} {fuse : Int} (h : Disk w K a d vss off fuse) :
    Calls Tryd.prog 34 #[.pointer (some ⟨d, 0, none⟩)] w fun e w' => ∃ ao c, e = .returned (.slice ao (looseL vss).length c) ∧ w'.ownsRow w.heap.size 77 2 (.slice ao (looseL vss).length c) (looseL vss).length (pairCells (looseL vss)) ∧ Below w.heap.size w w' := by
  obtain ⟨s, ss, h, rfl⟩ := h
  obtain ⟨i0, hi, hz0, hz1, hz2⟩ := info_parts Tryd.info77
  have h0 := h.c0
  have hm := h.many
  have H := hide h
  clear h
  go_enter Tryd.func34, Tryd.ntmps34
  go_wp2_with fail
  go_loopw [3, 11] (fun v i wr => ∃ k : Nat, k ≤ ss.length ∧ i = .int .i64 k ∧ ∃ ao c n, n = (looseUp (vers ss) k).length ∧ v = .slice ao n c ∧ wr.ownsRow w.heap.size 77 2 (.slice ao n c) n (pairCells (looseUp (vers ss) k)) ∧ Below w.heap.size w wr) (fun _ i _ => ss.length - (intOf i).toNat)
  case atStart => exact ⟨0, by omega, rfl, none, 0, 0, rfl, rfl, World.ownsRow_nil _ _ _ _, Below.refl _ _⟩
  case round =>
    clear h0
    obtain ⟨k, hk, rfl, ao, c, n, hn, rfl, hown, hbel⟩ := hrel
    have HO := hide hown
    have HB := hide hbel
    have HN := hide hn
    have H1 := hide (H.out.belowD hbel)
    have h1 := H1.out.c0
    have hle := looseUp_le (vers ss) k
    rw [← hn] at hle
    clear hown hbel hn
    by_cases hlt : k < ss.length
    · obtain ⟨x, hx⟩ := sec_at hlt
      have hx3 := (H1.out.each x (List.mem_of_getElem? hx)).2
      have HX := hide hx
      have hver : (verOf (vers ss) k).length = x.vs.length := by rw [verOf_vers hx]; simp
      have hki : (k : Int) < (ss.length : Int) := by omega
      have hx1 := hx3.1
      have hx2 := hx3.2.1
      clear hx hx3
      obtain ⟨m, hm'⟩ : ∃ m, m = x.vs.length := ⟨_, rfl⟩
      rw [← hm'] at hver hx1 hx2
      have HM : Hid (x.vs.length = m) := hm'.symm
      have HV := hide hver
      clear hm' hver
      by_cases hl : 1 < m
      · have hpos : (0 : Int) < (m : Int) - 1 := by omega
        have HS : Hid (looseUp (vers ss) (k + 1) = looseUp (vers ss) k ++ [(k, m - 1)]) := by
          have := looseUp_yes (vss := vers ss) (k := k) (by rw [HV.out]; exact hl)
          rw [HV.out] at this
          exact this
        go_wp2_with (first | (go_at_call 59; refine (sec_loose H1.out HX.out).mono ?_; rintro e w2 ⟨rfl, rfl⟩; rw [HM.out]) | (at_builtin; refine wpList_append_own _ rfl (.tmp 23) (.tmp 27) 75 rfl w.heap.size 77 i0 (.agg #[.int .i64 0, .int .i64 0]) 2 16 Tryd.underlying75 hi hz0 hz1 hz2 rfl (by decide) (.slice ao n c) n (pairCells (looseUp (vers ss) k)) rfl (HO.out.alloc _) ⟨w2.heap.size, 0, none⟩ 1 1 [.int .i64 k, .int .i64 ((m : Int) - 1)] rfl rfl (cell_two_new _ _ _ _) (by simp [Value.oneCell']) (by unfold maxLen; omega) (by omega) (by have := HB.out.size; simp; omega) ?_; intro v' w3 hown3 hgr3 _; have HO3 := hide hown3; have HG3 := hide hgr3; clear hown3 hgr3))
        go_roundw
        case rel =>
          obtain ⟨ao', c', rfl⟩ := own_shape_any HO3.out
          have hsz := HB.out.size
          refine ⟨k + 1, by omega, by go_num, ao', c', n + 1, ?_, rfl, ?_, ?_⟩
          · rw [HS.out, List.length_append, ← HN.out]; rfl
          · rw [HS.out, pairCells_snoc]
            have h3 := HO3.out
            rw [show (m : Int) - 1 = ((m - 1 : Nat) : Int) by omega] at h3
            exact h3
          · exact (HB.out.alloc hsz _).grown HG3.out (by simp; omega) (fun j e => (HO.out.lt j e).1)
        case measure => simp [intOf]; omega
      · have hpos : decide ((0 : Int) < (m : Int) - 1) = false := by simp; omega
        have HS : Hid (looseUp (vers ss) (k + 1) = looseUp (vers ss) k) := looseUp_no (vss := vers ss) (k := k) (by rw [HV.out]; exact hl)
        go_wp2_with (go_at_call 59; refine (sec_loose H1.out HX.out).mono ?_; rintro e w2 ⟨rfl, rfl⟩; rw [HM.out])
        go_roundw
        case rel => exact ⟨k + 1, by omega, by go_num, ao, c, n, by rw [HS.out]; exact HN.out, rfl, by rw [HS.out]; exact HO.out, HB.out⟩
        case measure => simp [intOf]; omega
    · go_wp2_with fail
      go_ret
      have hk' : k = ss.length := by omega
      have e : looseUp (vers ss) k = looseL (vers ss) := by rw [hk', looseL, length_vers]
      have h3 := HO.out
      have h4 := HN.out
      rw [e] at h3 h4
      rw [← h4]
      exact ⟨ao, c, rfl, h3, HB.out⟩

/-- The slice that begins at 'ao' reads in w as the numbers zs. -/
def IRow (w : World) (ao : Option Addr) (zs : List Int) : Prop :=
  zs.length ≤ 4294967296 ∧ (∀ x ∈ zs, -9223372036854775808 ≤ x ∧ x ≤ 9223372036854775807) ∧ (0 < zs.length → ∃ b off, ao = some ⟨b, off, none⟩ ∧ b < w.heap.size ∧ ∀ i, i < zs.length → w.cell? ⟨b, off + i, none⟩ = some (.int .i64 (zs.getD i 0)))
theorem IRow.bd {w : World} {ao : Option Addr} {zs : List Int} (h : IRow w ao zs) (i : Nat) : -9223372036854775808 ≤ zs.getD i 0 ∧ zs.getD i 0 ≤ 9223372036854775807 := by
  by_cases hi : i < zs.length
  · rw [List.getD_eq_getElem?_getD, List.getElem?_eq_getElem hi]
    exact h.2.1 _ (List.getElem_mem hi)
  · rw [List.getD_eq_getElem?_getD, List.getElem?_eq_none (by omega)]
    exact ⟨by decide, by decide⟩
theorem IRow.kept {w w' : World} {K : Nat → Prop} {ao : Option Addr} {zs : List Int} (h : IRow w ao zs) (hk : Kept K w w') (hK : 0 < zs.length → ∀ b off, ao = some ⟨b, off, none⟩ → K b) : IRow w' ao zs := by
  obtain ⟨h0, h1, h2⟩ := h
  refine ⟨h0, h1, fun hp => ?_⟩
  obtain ⟨b, off, e, hlt, hc⟩ := h2 hp
  refine ⟨b, off, e, by have := hk.size; omega, fun i hi => ?_⟩
  rw [hk.cell (by exact hK hp b off e)]
  exact hc i hi
set_option maxRecDepth 100000 in
set_option maxHeartbeats 400000 in
theorem choice_any (ao : Option Addr) (cap : Nat) (zs : List Int) (i n : Nat) (w : World) (h : IRow w ao zs) (hi : i ≤ 1000) (hn0 : 0 < n) (hn : n ≤ 4294967296) (ii nn : Int) (hii : ii = i) (hnn : nn = n) :
    Calls Tryd.prog 36 #[.slice ao zs.length cap, .int .i64 ii, .int .i64 nn] w fun e w' => e = .returned (.int .i64 (choiceB zs i n)) ∧ w' = w := by
  have hbd := h.bd i
  obtain ⟨h0, h1, h2⟩ := h
  clear h1
  subst hii hnn
  by_cases hlt : i < zs.length
  · have hli : decide ((zs.length : Int) ≤ (i : Int)) = false := by simp; omega
    have hki : (i : Int) < (zs.length : Int) := by omega
    obtain ⟨b, off, rfl, hb, hc⟩ := h2 (by omega)
    have hci := hc i hlt
    obtain ⟨y, hy⟩ : ∃ y, y = zs.getD i 0 := ⟨_, rfl⟩
    rw [← hy] at hci hbd
    have HY := hide hy
    clear hc h2 hy
    by_cases hneg : y < 0
    · have HC : Hid (choiceB zs i n = 0) := by
        show choiceB zs i n = 0
        rw [choiceB, if_pos (.inr (by rw [← HY.out]; exact hneg))]
      go_enter Tryd.func36, Tryd.ntmps36
      go_wp2_with fail
      go_ret
      exact ⟨by rw [HC.out]; rfl, rfl⟩
    · have hneg' : decide (y < 0) = false := by simpa using hneg
      have hne : ((n : Int) == 0) = false := by simp; omega
      have hne1 : (n : Int) ≠ 0 := by omega
      have HC : Hid ((choiceB zs i n : Int) = y % n) := by
        show (choiceB zs i n : Int) = y % n
        rw [choiceB, if_neg (by rw [← HY.out]; omega), ← HY.out]
        have := Int.emod_nonneg y hne1
        omega
      go_enter Tryd.func36, Tryd.ntmps36
      go_wp2_with fail
      go_ret
      exact ⟨ret_int HC.out.symm, rfl⟩
  · have hli : decide ((zs.length : Int) ≤ (i : Int)) = true := by simp; omega
    have hli' : (zs.length : Int) ≤ (i : Int) := by omega
    have HC : Hid (choiceB zs i n = 0) := by
      show choiceB zs i n = 0
      rw [choiceB, if_pos (.inl (by omega))]
    go_enter Tryd.func36, Tryd.ntmps36
    go_wp2_with fail
    go_ret
    exact ⟨by rw [HC.out]; rfl, rfl⟩
end Go.Proofs.YtgjhnkadfdcafaaDoor

/- What a disk's Crash does, at every disk and every choice. -/
namespace Go.Proofs.YtgjhnkadfdcafaaDoor
open Go.RowKit
set_option linter.unusedVariables false

theorem owns_first {w : World} {B e sz n : Nat} {v : Value} {cs : List Value} (h : w.ownsRow B e sz v n cs) (hn : 0 < n) : ∃ g cap, v = .slice (some ⟨g, 0, none⟩) n cap ∧ B ≤ g ∧ g < w.heap.size ∧ ∀ j u, cs[j]? = some u → w.cell? ⟨g, j, none⟩ = some u := by
  rcases h.2 with ⟨_, e0⟩ | ⟨g, cap, cur, hv, hg, hh, _⟩
  · omega
  · refine ⟨g, cap, hv, hg, lt_of_block hh, fun j u hj => ?_⟩
    have := h.cells (g := g) (by rw [hv]; rfl) j u hj
    rw [Addr.add_lit, Nat.zero_add] at this
    exact this
/-- What K names, and the blocks from b to c. -/
def wider (K : Nat → Prop) (b c : Nat) (k : Nat) : Prop := K k ∨ b ≤ k ∧ k < c
theorem DiskOf.widen {w w' : World} {K : Nat → Prop} {a : Nat → Addr} {d s : Nat} {ss : List Sec} {off : Bool} {fuse : Int} (h : DiskOf w K a d s ss off fuse) (hb : Below w.heap.size w w') : DiskOf w' (wider K w.heap.size w'.heap.size) a d s ss off fuse :=
  h.more hb (fun k hk => by rcases hk with h1 | h1; exact ⟨Nat.lt_of_lt_of_le (h.low k h1) hb.size, fun _ => h1⟩; exact ⟨h1.2, fun h2 => absurd h2 (by omega)⟩) (fun k hk => .inl (h.errs k hk).1)
theorem DiskOf.narrow {w : World} {K L : Nat → Prop} {a : Nat → Addr} {d s : Nat} {ss : List Sec} {off : Bool} {fuse : Int} (h : DiskOf w L a d s ss off fuse) (hK : ∀ k, K k → L k) (h3 : ∀ k, k < 3 → K (gno k)) : DiskOf w K a d s ss off fuse :=
  h.more (Below.refl _ _) (fun k hk => ⟨h.low k (hK k hk), fun _ => hK k hk⟩) h3
theorem crash_step {ss' : List Sec} {zs : List Int} {vss : List (List (List Int))} {t : Nat} {q : Nat × Nat} {x : Sec} {p : Part} {v' : Value} (hq : (looseL vss)[t]? = some q) (he : vers ss' = crashUp zs vss t) (hx : ss'[q.1]? = some x) (hp : x.vs[choiceB zs t (q.2 + 1)]? = some p) : vers (ss'.set q.1 ⟨v', [p]⟩) = crashUp zs vss (t + 1) := by
  have h1 : (vers ss')[q.1]? = some (x.vs.map (·.xs)) := by rw [vers_get, hx]; rfl
  rw [he, crashUp_at hq] at h1
  simp only [Option.some.injEq] at h1
  rw [vers_set, he, ← crashUp_succ hq]
  congr 1
  rw [h1]
  simp only [List.map_cons, List.map_nil, List.getD_eq_getElem?_getD, List.getElem?_map, hp]
  rfl
theorem crash_pick {ss' : List Sec} {zs : List Int} {vss : List (List (List Int))} {t : Nat} {q : Nat × Nat} (hq : (looseL vss)[t]? = some q) (he : vers ss' = crashUp zs vss t) : ∃ x p, ss'[q.1]? = some x ∧ x.vs.length = q.2 + 1 ∧ x.vs[choiceB zs t (q.2 + 1)]? = some p := by
  obtain ⟨h1, h2, h3, h4⟩ := looseL_at hq
  have h5 : (vers ss')[q.1]? = some (verOf vss q.1) := by rw [he, crashUp_at hq]
  rw [vers_get] at h5
  obtain ⟨x, hx, e⟩ := Option.map_eq_some_iff.1 h5
  have hl : x.vs.length = q.2 + 1 := by rw [h3, ← e]; simp
  have hc := choiceB_lt zs t (q.2 + 1) (by omega)
  exact ⟨x, _, hx, hl, List.getElem?_eq_getElem (by omega)⟩

set_option maxRecDepth 100000 in
set_option maxHeartbeats 1000000 in
theorem crash_any (d : Nat) (ko : Option Addr) (kc : Nat) (zs : List Int) {w : World} {K : Nat → Prop} {a : Nat → Addr} {vss : List (List (List Int))} {off : Bool} {fuse : Int} (h : Disk w K a d vss off fuse) (hz : IRow w ko zs) (hzk : 0 < zs.length → ∀ b o, ko = some ⟨b, o, none⟩ → K b) :
    Calls Tryd.prog 14 #[.pointer (some ⟨d, 0, none⟩), .slice ko zs.length kc] w fun e w' => e = .returned (.tuple #[]) ∧ Disk w' K a d (crashed zs vss) false (-1) ∧ Kept K w w' := by
  have HDisk := hide h
  obtain ⟨s, ss, h, hv⟩ := h
  have hm := h.many
  have H := hide h
  have HV := hide hv
  have HZ := hide hz
  have HZK := hide hzk
  have hlv : vss.length = ss.length := by rw [← hv, length_vers]
  clear h hv hz hzk
  go_enter Tryd.func14, Tryd.ntmps14
  go_wp2_with fail
  refine (looses_any d HDisk.out).mono ?_
  rintro e w1 ⟨ao, c, rfl, hown, hbel⟩
  have HO := hide hown
  have HB := hide hbel
  have H1 := hide (H.out.widen hbel)
  have HK1 : Hid (Kept (wider K w.heap.size w1.heap.size) w1 w1) := Kept.refl _ _
  have hNle := looseL_le vss
  obtain ⟨N, hN⟩ : ∃ N, N = (looseL vss).length := ⟨_, rfl⟩
  rw [← hN] at HO hNle ⊢
  have HN := hide hN
  clear hown hbel hN
  go_wp2_with fail
  go_loopw [9] (fun i wr => ∃ (t : Nat) (ss' : List Sec), t ≤ N ∧ i = .int .i64 t ∧ DiskOf wr (wider K w.heap.size w1.heap.size) a d s ss' off fuse ∧ vers ss' = crashUp zs vss t ∧ Kept (wider K w.heap.size w1.heap.size) w1 wr) (fun i _ => N - (intOf i).toNat)
  case atStart => exact ⟨0, ss, by omega, rfl, H1.out, by rw [crashUp_zero]; exact HV.out, HK1.out⟩
  case round =>
    clear H1 HK1
    obtain ⟨t, ss', ht, rfl, hd, he, hk⟩ := hrel
    have HD := hide hd
    have HE := hide he
    have HK := hide hk
    clear hd he hk
    by_cases hlt : t < N
    · obtain ⟨g, cap, hvv, hg1, hg2, hcells⟩ := owns_first HO.out (by omega)
      simp only [Value.slice.injEq, true_and] at hvv
      obtain ⟨rfl, rfl⟩ := hvv
      obtain ⟨q, hq⟩ : ∃ q, (looseL vss)[t]? = some q := ⟨_, List.getElem?_eq_getElem (by rw [← HN.out]; exact hlt)⟩
      obtain ⟨hq1, hq2⟩ := pairCells_at _ _ _ hq
      have hc1 : wr.cell? ⟨g, t * 2, none⟩ = some (.int .i64 q.1) := by rw [HK.out.cell (.inr ⟨hg1, hg2⟩)]; exact hcells _ _ hq1
      have hc2 : wr.cell? ⟨g, t * 2 + 1, none⟩ = some (.int .i64 q.2) := by rw [HK.out.cell (.inr ⟨hg1, hg2⟩)]; exact hcells _ _ hq2
      obtain ⟨hqa, hqb, hqc, hqd⟩ := looseL_at hq
      obtain ⟨x, p, hx, hxl, hp⟩ := crash_pick (zs := zs) hq HE.out
      have hx2 := (HD.out.each x (List.mem_of_getElem? hx)).2.2.1
      have hst : ∀ v', vers (ss'.set q.1 ⟨v', [p]⟩) = crashUp zs vss (t + 1) := fun v' => crash_step hq HE.out hx hp
      obtain ⟨q1, q2⟩ := q
      simp only at hq1 hq2 hc1 hc2 hqa hqc hx hxl hp hst
      have HST := hide hst
      have HX := hide hx
      have HP := hide hp
      have hlen : ss'.length = ss.length := by have := congrArg List.length HE.out; rw [length_vers, length_crashUp, hlv] at this; exact this
      have h0 := HD.out.c0
      rw [hlen] at h0
      have HL := hide hlen
      rw [hxl] at hx2
      have hti : (t : Int) < (N : Int) := by omega
      have hqi : (q1 : Int) < (ss.length : Int) := by omega
      clear hcells hq hq1 hq2 hqb hqc hqd hx hp hst hlen hxl
      go_wp2_with fail
      obtain ⟨W, hW⟩ : ∃ W, W = wr.alloc (.cells #[.int .i64 (q1 : Int), .int .i64 (q2 : Int)] 77) := ⟨_, rfl⟩
      have hWb : Below wr.heap.size wr W := by rw [hW]; exact (Below.refl _ _).alloc (Nat.le_refl _) _
      have hWs : W.heap.size = wr.heap.size + 1 := by rw [hW]; simp
      have hWr : W.heap[wr.heap.size]? = some (.cells #[.int .i64 (q1 : Int), .int .i64 (q2 : Int)] 77 (0, 0)) := by rw [hW]; exact heap_alloc_new _ _
      have hW0 : W.cell? ⟨wr.heap.size, 0, none⟩ = some (.int .i64 (q1 : Int)) := by rw [cell_row hWr]; rfl
      have hW1 : W.cell? ⟨wr.heap.size, 1, none⟩ = some (.int .i64 (q2 : Int)) := by rw [cell_row hWr]; rfl
      rw [← hW]
      have H2 := hide (HD.out.widen hWb)
      have h2 := H2.out.c0
      rw [HL.out] at h2
      have HKW : Hid (Kept K w W) := ((Kept.of_below HB.out H.out.low).trans (HK.out.mono fun k hk => .inl hk)).trans (Kept.of_below hWb fun k hk => HD.out.low k (.inl hk))
      have HZW := hide (HZ.out.kept HKW.out HZK.out)
      have hme : wider (wider K w.heap.size w1.heap.size) wr.heap.size W.heap.size wr.heap.size := .inr ⟨Nat.le_refl _, by omega⟩
      have HME := hide hme
      have HKS := hide (Kept.of_below (K := wider K w.heap.size w1.heap.size) hWb HD.out.low)
      obtain ⟨B, hB⟩ : ∃ B, B = wr.heap.size := ⟨_, rfl⟩
      rw [← hB] at hW0 hW1 H2 HME ⊢
      clear hW hWb hWs hWr hme h0 hc1 hc2 hB HKW
      go_region_held3 (fun w' => w'.cell? ⟨d, 0, none⟩ = some (.slice (some ⟨s, 0, none⟩) ss.length ss.length) ∧ w'.cell? ⟨B, 0, none⟩ = some (.int .i64 (q1 : Int)) ∧ w'.cell? ⟨B, 1, none⟩ = some (.int .i64 (q2 : Int))) (first | go_keep | (refine ⟨?_, ?_, ?_⟩ <;> assumption))
        (first
          | (go_at_call 36; refine (choice_any ko kc zs t (q2 + 1) _ (by exact HZW.out) (by omega) (by omega) (by omega) _ _ rfl (by rw [IntKind.wrap_i64]; omega)).mono ?_; rintro e w2 ⟨rfl, rfl⟩)
          | (go_at_call 35; refine (sec_keep_int H2.out.drew HX.out (choiceB zs t (q2 + 1)) _ rfl p HP.out).mono ?_; rintro e w2 ⟨rfl, v', h4, k4⟩; have h5 := h4.c0; rw [List.length_set, HL.out] at h5; have hk0 : w2.cell? ⟨B, 0, none⟩ = some (.int .i64 (q1 : Int)) := (k4.of_drew.cell HME.out).trans hW0; have hk1 : w2.cell? ⟨B, 1, none⟩ = some (.int .i64 (q2 : Int)) := (k4.of_drew.cell HME.out).trans hW1; have H4 := hide h4; have HK4 := hide k4.of_drew; clear h4 k4))
      go_wp2_with fail
      go_roundw
      case rel => exact ⟨t + 1, _, by omega, by go_num, H4.out.narrow (fun k hk => .inl hk) (fun k hk => .inl (H.out.errs k hk).1), HST.out _, (HK.out.trans HKS.out).trans (HK4.out.mono fun k hk => .inl hk)⟩
      case measure => simp [intOf]; omega
    · have hN' : t = N := by omega
      have H3 := hide (HD.out.narrow (K := K) (fun k hk => .inl hk) (fun k hk => (H.out.errs k hk).1))
      have HK3 : Hid (Kept K w wr) := (Kept.of_below HB.out H.out.low).trans (HK.out.mono fun k hk => .inl hk)
      go_wp2_with fail
      refine (powerOn_any d s ss' H3.out).mono ?_
      rintro e w2 ⟨rfl, h5, k5⟩
      have H5 := hide h5
      have HK5 := hide k5
      clear h5 k5
      go_wp2_with fail
      go_end0
      refine ⟨rfl, ⟨s, ss', H5.out, ?_⟩, HK3.out.trans HK5.out⟩
      rw [HE.out, hN', HN.out, crashUp_all]
end Go.Proofs.YtgjhnkadfdcafaaDoor

/- What disk.New answers, for every number of sectors. -/
namespace Go.Proofs.YtgjhnkadfdcafaaDoor
open Go.RowKit
set_option linter.unusedVariables false

/-- A sector's bytes, all the same. -/
def fillOf (x : Int) : List Int := List.replicate 256 x
theorem length_fillOf (x : Int) : (fillOf x).length = 256 := List.length_replicate ..
theorem bytes_fillOf {x : Int} (h0 : 0 ≤ x) (h1 : x ≤ 255) : Bytes (fillOf x) := fun y hy => by rw [(List.mem_replicate.1 hy).2]; exact ⟨h0, h1⟩
/-- A new block of a sector's zeros. -/
def zeroBlock : Obj := .cells (cellsOf (fillOf 0)).toArray 5
theorem make_sector (w : World) : (Instr.makeSlice 51 (.int .i64 256) (.int .i64 256)).run Tryd.prog w = .ok (.slice (some ⟨w.heap.size, 0, none⟩) 256 256) (w.alloc zeroBlock) := by
  have h := run_make_row' (P := Tryd.prog) 51 5 (.int .u8 0) 1 Tryd.underlying51 Tryd.info5 rfl .i64 .i64 256 (by decide) (by decide) w
  have e : madeCells #[Value.int .u8 0] 256 = (cellsOf (fillOf 0)).toArray := by
    apply Array.ext'
    rw [toList_madeCells_one]
    exact List.map_replicate.symm
  rw [e] at h
  exact h
theorem own_zeroBlock (w : World) : Own (w.alloc zeroBlock) w.heap.size (some ⟨w.heap.size, 0, none⟩) 256 (fillOf 0) := by
  have h := own_of_row (w := w.alloc zeroBlock) (B := w.heap.size) (xs := fillOf 0) (heap_alloc_new w _) (bytes_fillOf (by omega) (by omega)) (by rw [length_fillOf]; omega)
  rw [length_fillOf] at h
  exact h
theorem Tryd.info69 : (Tryd.prog.info? 69).map (fun i => (i.zero, i.size, i.bytes)) = some (some (.agg #[.slice none 0 0]), 1, 24) := by kernel_rfl

/-- A disk that is being made: k of its N sectors are there. -/
structure PreDisk (w0 w : World) (d s N k : Nat) (ss : List Sec) : Prop where
  head : w.heap[d]? = some (.cells #[.slice (some ⟨s, 0, none⟩) N N, .bool false, .int .i64 (-1)] 66 (0, 0))
  secs : w.heap[s]? = some (.cells (ss.map Sec.v ++ List.replicate (N - k) (Value.slice none 0 0)).toArray 69 (0, 0))
  len : ss.length = k
  each : ∀ x ∈ ss, x.isIn w (fun b => b < w0.heap.size) ∧ x.vs.map (·.xs) = [fillOf 0]
  apart : ∀ (i j : Nat) (x y : Sec), ss[i]? = some x → ss[j]? = some y → i ≠ j → x.v.ownBlock ≠ y.v.ownBlock
  hd : w0.heap.size ≤ d
  hs : w0.heap.size ≤ s
  bel : Below w0.heap.size w0 w
theorem Sec.isIn.of_block {w w' : World} {K : Nat → Prop} {x : Sec} (h : x.isIn w K) (hb : ∀ g, g < w.heap.size → (x.v.ownBlock = some g ∨ ∃ p ∈ x.vs, p.val.ownBlock = some g) → w'.heap[g]? = w.heap[g]?) : x.isIn w' K := by
  obtain ⟨h1, h2, h3, h4, h5⟩ := h
  refine ⟨owns_of_block h1 fun g hg hlt => hb g hlt (.inl hg), h2, h3, h4, fun p hp => ?_⟩
  obtain ⟨p1, p2, p3⟩ := h5 p hp
  exact ⟨p1.of_block fun g hg hlt => hb g hlt (.inr ⟨p, hp, hg⟩), p2, p3⟩
theorem PreDisk.below {w0 w w' : World} {d s N k : Nat} {ss : List Sec} (h : PreDisk w0 w d s N k ss) (hb : Below w.heap.size w w') : PreDisk w0 w' d s N k ss := by
  refine ⟨?_, ?_, h.len, fun x hx => ⟨(h.each x hx).1.of_block fun g hg _ => hb.block g hg, (h.each x hx).2⟩, h.apart, h.hd, h.hs, over h.bel hb h.bel.size⟩
  · rw [hb.block d (lt_of_block h.head)]; exact h.head
  · rw [hb.block s (lt_of_block h.secs)]; exact h.secs
theorem PreDisk.cell {w0 w : World} {d s N k : Nat} {ss : List Sec} (h : PreDisk w0 w d s N k ss) (hk : k < N) : w.cell? ⟨s, k, none⟩ = some (.slice none 0 0) := by
  rw [cell_row h.secs]
  simp only [List.getElem?_toArray]
  rw [List.getElem?_append_right (by simp [h.len]), List.length_map, h.len, Nat.sub_self, List.getElem?_replicate, if_pos (by omega)]
theorem PreDisk.step {w0 w w1 : World} {d s N k : Nat} {ss : List Sec} (h : PreDisk w0 w d s N k ss) (hk : k < N) (p : Part) (hp : Own w 0 p.ao p.cap p.xs) (hx : p.xs = fillOf 0) (hpk : ∀ g, p.val.ownBlock = some g → w0.heap.size ≤ g)
    {v' : Value} (ho : w1.ownsRow 0 51 1 v' (0 + 1) ([] ++ [p.val])) (hg : w.grownBy w1 none) (hat : ∃ g, v'.ownBlock = some g ∧ w.heap.size ≤ g) :
    PreDisk w0 (w1.setCell ⟨s, k, none⟩ v') d s N (k + 1) (ss ++ [⟨v', [p]⟩]) := by
  obtain ⟨g', hg', hge⟩ := hat
  have hsz := h.bel.size
  have hs := lt_of_block h.secs
  have hd := lt_of_block h.head
  have hds : d ≠ s := by
    intro e
    have h1 := h.head
    rw [e, h.secs] at h1
    simp at h1
  have hold : ∀ b, b < w.heap.size → b ≠ s → (w1.setCell ⟨s, k, none⟩ v').heap[b]? = w.heap[b]? := fun b h1 h2 => (Below.heap_setCell _ _ _ _ h2).trans (hg.block b h1 (by simp))
  refine ⟨?_, ?_, by simp [h.len], ?_, ?_, h.hd, h.hs, ⟨hg.os.trans h.bel.os, hg.tape.trans h.bel.tape, hg.output.trans h.bel.output, by have := hg.size; simp [World.setCell]; omega, fun b hb => (hold b (by omega) (by have := h.hs; omega)).trans (h.bel.block b hb)⟩⟩
  · rw [hold d hd hds]; exact h.head
  · have e : w1.heap[s]? = _ := (hg.block s hs (by simp)).trans h.secs
    rw [heap_set_same e]
    congr 2
    apply Array.ext'
    simp only [Array.toList_setIfInBounds, List.map_append, List.map_cons, List.map_nil]
    rw [List.set_append_right _ _ (by simp [h.len]), List.append_assoc]
    congr 1
    rw [show N - k = (N - (k + 1)) + 1 by omega, List.replicate_succ]
    simp [h.len]
  · intro x hxm
    rcases List.mem_append.1 hxm with h1 | h1
    · refine ⟨(h.each x h1).1.of_block fun g hlt hg2 => hold g hlt ?_, (h.each x h1).2⟩
      rcases hg2 with h2 | ⟨q, hq, h2⟩
      · obtain ⟨cur, hc⟩ := owns_type (h.each x h1).1.1 h2
        rintro rfl
        rw [h.secs] at hc
        simp at hc
      · obtain ⟨cur, hc⟩ := owns_type ((h.each x h1).1.2.2.2.2 q hq).1.1 h2
        rintro rfl
        rw [h.secs] at hc
        simp at hc
    · rw [List.mem_singleton.1 h1]
      refine ⟨⟨?_, by simp, by simp, ?_, ?_⟩, by simp [hx]⟩
      · refine owns_of_block ho fun g hg2 _ => Below.heap_setCell _ _ _ _ ?_
        rw [hg'] at hg2
        simp only [Option.some.injEq] at hg2
        show g ≠ s
        omega
      · intro g hg2 hlt
        rw [show (⟨v', [p]⟩ : Sec).v = v' from rfl, hg'] at hg2
        simp only [Option.some.injEq] at hg2
        have hlt' : g < w0.heap.size := hlt
        omega
      · intro q hq
        rw [List.mem_singleton.1 hq]
        refine ⟨hp.of_block fun g hg2 hlt => hold g hlt ?_, by rw [hx, length_fillOf], fun g hg2 hlt => ?_⟩
        · obtain ⟨cur, hc⟩ := owns_type hp.1 hg2
          rintro rfl
          rw [h.secs] at hc
          simp at hc
        · have := hpk g hg2
          have hlt' : g < w0.heap.size := hlt
          omega
  · have hnew : ∀ (j : Nat) (y : Sec), ss[j]? = some y → y.v.ownBlock ≠ v'.ownBlock := by
      intro j y hy e
      rw [hg'] at e
      obtain ⟨cur, hc⟩ := owns_type (h.each y (List.mem_of_getElem? hy)).1.1 e
      have := lt_of_block hc
      omega
    have hat2 : ∀ (j : Nat) (y : Sec), (ss ++ [(⟨v', [p]⟩ : Sec)])[j]? = some y → (j < k ∧ ss[j]? = some y) ∨ (j = k ∧ y = ⟨v', [p]⟩) := by
      intro j y hy
      by_cases e : j < k
      · rw [List.getElem?_append_left (by rw [h.len]; exact e)] at hy
        exact .inl ⟨e, hy⟩
      · rw [List.getElem?_append_right (by rw [h.len]; omega), h.len] at hy
        have hj : j - k = 0 := by
          have := (List.getElem?_eq_some_iff.1 hy).1
          simp at this
          omega
        rw [hj] at hy
        simp at hy
        exact .inr ⟨by omega, hy.symm⟩
    intro i j x y hx1 hy1 hij
    rcases hat2 i x hx1 with ⟨h1, h2⟩ | ⟨h1, h2⟩ <;> rcases hat2 j y hy1 with ⟨h3, h4⟩ | ⟨h3, h4⟩
    · exact h.apart i j x y h2 h4 hij
    · rw [h4]; exact hnew i x h2
    · rw [h2]; exact fun e => hnew j y h4 e.symm
    · omega
theorem PreDisk.done {w0 w : World} {d s N : Nat} {ss : List Sec} {a : Nat → Addr} (h : PreDisk w0 w d s N N ss) (hN : 1 ≤ N ∧ N ≤ 200) (he : Errs w0 (fun b => b < w0.heap.size) a) : Disk w (fun b => b < w0.heap.size) a d (List.replicate N [fillOf 0]) false (-1) := by
  have hl := h.len
  refine ⟨s, ss, ⟨by rw [hl]; exact h.head, by simpa using h.secs, fun x hx => (h.each x hx).1, h.apart, fun e => by have := h.hd; have e' : d < w0.heap.size := e; omega, fun e => by have := h.hs; have e' : s < w0.heap.size := e; omega, fun k hk => Nat.lt_of_lt_of_le hk h.bel.size, by omega, by omega, fun i hi => ⟨(he i hi).1, by rw [h.bel.cell (by exact (he i hi).1)]; exact (he i hi).2⟩⟩, ?_⟩
  unfold vers
  rw [← hl]
  exact List.map_eq_replicate_iff.2 fun x hx => (h.each x hx).2

theorem pre_start {w w1 : World} {N : Nat} (h : w1.ownsRow w.heap.size 69 1 (.slice (some ⟨w.heap.size, 0, none⟩) N N) N (madeCells (Value.agg #[.slice none 0 0]).cells (N * 1)).toList) (hg : w.grownBy w1 none) : PreDisk w (w1.alloc (.cells #[.slice (some ⟨w.heap.size, 0, none⟩) N N, .bool false, .int .i64 (-1)] 66)) w1.heap.size w.heap.size N 0 [] := by
  have hb : Below w.heap.size w w1 := (Below.refl _ _).grown hg (Nat.le_refl _) (by simp)
  rcases h.2 with ⟨e, _⟩ | ⟨g, c, cur, hv, hge, hh, h4, h5, h6, h7⟩
  · simp at e
  · simp only [Value.slice.injEq, Option.some.injEq, Addr.mk.injEq, and_true, true_and] at hv
    obtain ⟨rfl, rfl⟩ := hv
    have hlt := lt_of_block hh
    refine ⟨heap_alloc_new _ _, ?_, rfl, fun x hx => by simp at hx, fun i j x y hx => by simp at hx, hb.size, Nat.le_refl _, hb.alloc hb.size _⟩
    rw [Below.heap_alloc _ _ _ hlt, hh]
    congr 2
    apply Array.ext'
    rw [List.take_of_length_le (by simp; omega)] at h7
    rw [h7, show (Value.agg #[Value.slice none 0 0]).cells = #[Value.slice none 0 0] from rfl, toList_madeCells_one]
    simp
theorem pre_add {w wr w3 : World} {d s N k : Nat} {ss : List Sec} {v' : Value} (h : PreDisk w (wr.alloc zeroBlock) d s N k ss) (hw : Below w.heap.size w wr) (hk : k < N) (h3 : w3.ownsRow 0 51 1 v' (0 + 1) ([] ++ [.slice (some ⟨wr.heap.size, 0, none⟩) 256 256])) (h4 : (wr.alloc zeroBlock).drew.grownBy w3 (Value.slice none 0 0).ownBlock) (h5 : v'.ownBlock = (Value.slice none 0 0).ownBlock ∨ ∃ g, v'.ownBlock = some g ∧ (wr.alloc zeroBlock).drew.heap.size ≤ g) :
    PreDisk w (w3.setCell ⟨s, k, none⟩ v') d s N (k + 1) (ss ++ [⟨v', [⟨some ⟨wr.heap.size, 0, none⟩, 256, fillOf 0⟩]⟩]) := by
  have e : (⟨some ⟨wr.heap.size, 0, none⟩, 256, fillOf 0⟩ : Part).val = .slice (some ⟨wr.heap.size, 0, none⟩) 256 256 := by rw [Part.val, length_fillOf]
  refine h.step hk ⟨some ⟨wr.heap.size, 0, none⟩, 256, fillOf 0⟩ (own_zeroBlock wr).any rfl (fun g hg => ?_) (by rw [e]; exact h3) ⟨h4.os, h4.tape, h4.output, h4.size, h4.block⟩ ?_
  · rw [e] at hg
    simp only [Value.ownBlock, Option.some.injEq] at hg
    have := hw.size
    omega
  · rcases h5 with h6 | h6
    · obtain ⟨g, cap, hv, _⟩ := owns_first h3 (by omega)
      rw [hv] at h6
      simp [Value.ownBlock] at h6
    · exact h6
set_option maxRecDepth 100000 in
set_option maxHeartbeats 1000000 in
theorem new_any (n : Int) (N : Nat) {w : World} {a : Nat → Addr} (hN : (n < 1 ∧ N = 1) ∨ (1 ≤ n ∧ n ≤ 200 ∧ n = N) ∨ (200 < n ∧ N = 200)) (he : Errs w (fun b => b < w.heap.size) a) :
    Calls Tryd.prog 9 #[.int .i64 n] w fun e w' => ∃ d, e = .returned (.pointer (some ⟨d, 0, none⟩)) ∧ w.heap.size ≤ d ∧ Disk w' (fun b => b < w.heap.size) a d (List.replicate N [fillOf 0]) false (-1) ∧ Below w.heap.size w w' := by
  obtain ⟨i0, hi, hz0, hz1, hz2⟩ := info_parts Tryd.info69
  have HE := hide he
  have hmk := make_sector
  have hN1 : 1 ≤ N ∧ N ≤ 200 := by omega
  clear he
  obtain ⟨V, HN, hcase⟩ : ∃ V : Int, Hid (V = N) ∧ ((n < 1 ∧ V = 1) ∨ (1 ≤ n ∧ n ≤ 200 ∧ V = n) ∨ (200 < n ∧ V = 200)) := ⟨N, rfl, by omega⟩
  clear hN
  rcases hcase with ⟨h1, rfl⟩ | ⟨h1, h2, rfl⟩ | ⟨h1, rfl⟩
  all_goals
    go_enter Tryd.func9, Tryd.ntmps9
    go_wp2_with (at_make; refine wpList_make_full w rfl (.tmp 7) (.tmp 7) 64 rfl w.heap.size 69 i0 (.agg #[.slice none 0 0]) 1 Tryd.underlying64 hi hz0 hz1 .i64 .i64 _ _ N rfl rfl HN.out HN.out (by rw [hz2]; omega) (by unfold maxLen; omega) (Nat.le_refl _) ?_; intro w1 hown hgr; have HS := hide (pre_start hown hgr); clear hown hgr)
    go_loopw [16] (fun i wr => ∃ (k : Nat) (ss : List Sec), k ≤ N ∧ i = .int .i64 k ∧ PreDisk w wr w1.heap.size w.heap.size N k ss) (fun i _ => N - (intOf i).toNat)
    case atStart => exact ⟨0, [], by omega, rfl, HS.out⟩
    case round =>
      clear HS
      obtain ⟨k, ss, hk, rfl, hp⟩ := hrel
      have HP := hide hp
      have h0 : wr.cell? ⟨w1.heap.size, 0, none⟩ = some (.slice (some ⟨w.heap.size, 0, none⟩) N N) := by rw [cell_row hp.head]; rfl
      have hlt1 := lt_of_block hp.head
      have HP2 := hide (hp.below ((Below.refl _ _).alloc (Nat.le_refl _) zeroBlock))
      clear hp
      by_cases hlt : k < N
      · have hki : (k : Int) < (N : Int) := by omega
        have hne := World.new_ne wr ⟨w1.heap.size, 0, none⟩ h0
        have HC := hide (HP2.out.cell hlt)
        have HF := hide (frozen_row HP2.out.secs k)
        go_wp2_with fail
        go_region_held3 (fun w' => w'.cell? ⟨w1.heap.size, 0, none⟩ = some (.slice (some ⟨w.heap.size, 0, none⟩) N N)) (first | go_keep | assumption)
          ((go_at_call 30; refine (add_any w.heap.size k (.slice none 0 0) 0 [] (some ⟨wr.heap.size, 0, none⟩) 256 256 0 _ (by exact HC.out) (by exact HF.out) (by omega) (World.ownsRow_nil _ _ _ _) (Nat.zero_le _) (by simp [Value.ownBlock])).mono ?_; rintro e w2 ⟨rfl, w3, v', rfl, h3, h4, h5⟩; have h6 := pre_add HP2.out HP.out.bel hlt h3 h4 h5; have h7 : (w3.setCell ⟨w.heap.size, k, none⟩ v').cell? ⟨w1.heap.size, 0, none⟩ = some (.slice (some ⟨w.heap.size, 0, none⟩) N N) := (cell_row h6.head 0).trans rfl; have H6 := hide h6; clear h3 h4 h5 h6))
        go_wp2_with fail
        go_roundw
        case rel => exact ⟨k + 1, _, by omega, by go_num, H6.out⟩
        case measure => simp [intOf]; omega
      · go_wp2_with fail
        go_ret
        have hk' : k = N := by omega
        subst hk'
        exact ⟨w1.heap.size, rfl, HP.out.hd, HP.out.done hN1 HE.out, HP.out.bel⟩
end Go.Proofs.YtgjhnkadfdcafaaDoor

/- What a log is in memory: its own cells, its records, its disk; what stays of it while other memory turns. -/
namespace Go.Proofs.YtgjhnkadfdcafaaDoor
open Go.RowKit
set_option linter.unusedVariables false

/-- The errors that a log's calls can meet, by their places in the document's list. -/
def seven : List Nat := [0, 1, 2, 3, 4, 7, 8]
/-- Their variables lie in blocks that K names, and hold them. -/
def ErrsK (w : World) (K : Nat → Prop) (a : Nat → Addr) : Prop := ∀ i ∈ seven, K (gno i) ∧ w.cell? ⟨gno i, 0, none⟩ = some (errV (a i))
theorem ErrsK.three {w : World} {K : Nat → Prop} {a : Nat → Addr} (h : ErrsK w K a) : Errs w K a := fun i hi => h i (by
  rcases (show i = 0 ∨ i = 1 ∨ i = 2 by omega) with rfl | rfl | rfl <;> decide)
theorem ErrsK.kept {w w' : World} {K : Nat → Prop} {a : Nat → Addr} (h : ErrsK w K a) (hk : Kept K w w') : ErrsK w' K a := fun i hi => ⟨(h i hi).1, (hk.cell (h i hi).1).trans (h i hi).2⟩
theorem ErrsK.wide {w : World} {K L : Nat → Prop} {a : Nat → Addr} (h : ErrsK w K a) (hL : ∀ k, K k → L k) : ErrsK w L a := fun i hi => ⟨hL _ (h i hi).1, (h i hi).2⟩
theorem ErrsK.blk {w : World} {K : Nat → Prop} {a : Nat → Addr} (h : ErrsK w K a) : BlkErrs w (a 1) (a 2) (a 3) (a 4) := ⟨⟨(h 1 (by decide)).2, (h 2 (by decide)).2, (h 3 (by decide)).2⟩, (h 4 (by decide)).2⟩
theorem ErrsOf.errsK {w : World} {ks : List Nat} {a : Nat → Addr} (h : ErrsOf w ks a) (hs : ∀ i ∈ seven, i ∈ ks) {K : Nat → Prop} (hK : ∀ k, k < w.heap.size → K k) : ErrsK w K a := fun i hi => ⟨hK _ (World.block_lt_of_cell? w _ (h.cell i (hs i hi))), h.cell i (hs i hi)⟩

/-- A disk stays where none of its blocks turns, whatever else does. -/
theorem DiskOf.stays {w w' : World} {K L : Nat → Prop} {a : Nat → Addr} {d s : Nat} {ss : List Sec} {off : Bool} {fuse : Int} (h : DiskOf w K a d s ss off fuse) (hold : ∀ k, k < w.heap.size → ¬ K k → w'.heap[k]? = w.heap[k]?) (hL : ∀ k, L k → k < w'.heap.size ∧ (k < w.heap.size → K k)) (he : Errs w' L a) : DiskOf w' L a d s ss off fuse := by
  have hn : ∀ g, g < w.heap.size → ¬ K g → ¬ L g := fun g h1 h2 h3 => h2 ((hL g h3).2 h1)
  have hd := lt_of_block h.head
  have hs := lt_of_block h.secs
  refine ⟨?_, ?_, fun x hx => ?_, h.apart, hn d hd h.nd, hn s hs h.ns, fun k hk => (hL k hk).1, h.many, h.fuseBd, he⟩
  · rw [hold d hd h.nd]; exact h.head
  · rw [hold s hs h.ns]; exact h.secs
  · obtain ⟨h1, h2, h3, h4, h5⟩ := h.each x hx
    refine ⟨owns_of_block h1 fun g hg hlt => hold g hlt (h4 g hg), h2, h3, fun g hg => ?_, fun p hp => ?_⟩
    · exact hn g (h1.lt g hg).2 (h4 g hg)
    · obtain ⟨p1, p2, p3⟩ := h5 p hp
      exact ⟨p1.of_block fun g hg hlt => hold g hlt (p3 g hg), p2, fun g hg => hn g (p1.1.lt g hg).2 (p3 g hg)⟩
theorem Disk.stays {w w' : World} {K L : Nat → Prop} {a : Nat → Addr} {d : Nat} {vss : List (List (List Int))} {off : Bool} {fuse : Int} (h : Disk w K a d vss off fuse) (hold : ∀ k, k < w.heap.size → ¬ K k → w'.heap[k]? = w.heap[k]?) (hL : ∀ k, L k → k < w'.heap.size ∧ (k < w.heap.size → K k)) (he : Errs w' L a) : Disk w' L a d vss off fuse := by
  obtain ⟨s, ss, h, e⟩ := h
  exact ⟨s, ss, h.stays hold hL he, e⟩
theorem Disk.narrow {w : World} {K L : Nat → Prop} {a : Nat → Addr} {d : Nat} {vss : List (List (List Int))} {off : Bool} {fuse : Int} (h : Disk w L a d vss off fuse) (hK : ∀ k, K k → L k) (he : ErrsK w K a) : Disk w K a d vss off fuse :=
  h.stays (fun _ _ _ => rfl) (fun k hk => ⟨h.low k (hK k hk), fun _ => hK k hk⟩) he.three

/-- What K names, a log's own block, and that of its records. -/
def withLog (K : Nat → Prop) (l : Nat) (v : Value) (k : Nat) : Prop := K k ∨ k = l ∨ v.ownBlock = some k
/-- A log's own cells. -/
def logCells (d F N : Nat) (base ep : Int) (v : Value) (D : Nat) : Array Value := #[.pointer (some ⟨d, 0, none⟩), .int .i64 F, .int .i64 N, .int .i64 base, .int .i64 ep, v, .int .i64 D]
/-- A log in memory at block l: its disk lies at block d, its blocks are the sectors F to F + N - 1. -/
structure LogOf (w : World) (K : Nat → Prop) (a : Nat → Addr) (l d : Nat) (vss : List (List (List Int))) (off : Bool) (fuse : Int) (F N : Nat) (base ep : Int) (ao : Option Addr) (c : Nat) (rs : List R) (D : Nat) : Prop where
  head : w.heap[l]? = some (.cells (logCells d F N base ep (.slice ao rs.length c) D) 72 (0, 0))
  own : OwnR w 0 ao c rs
  disk : Disk w (withLog K l (.slice ao rs.length c)) a d vss off fuse
  nl : ¬ K l
  nr : ∀ g, (Value.slice ao rs.length c).ownBlock = some g → ¬ K g
  errs : ErrsK w K a
  bd : (0 ≤ base ∧ base + rs.length ≤ 1073741824) ∧ (1 ≤ ep ∧ ep ≤ 1073741824) ∧ F + N ≤ vss.length ∧ rs.length ≤ 6 * N ∧ D ≤ rs.length
  good : ∀ r ∈ rs, goodB r = true ∧ r.fits
  many : N ≤ 100
/-- A log: its records, how many of them are flushed, its disk's versions, power and fuse. -/
def Log (w : World) (K : Nat → Prop) (a : Nat → Addr) (l d : Nat) (vss : List (List (List Int))) (off : Bool) (fuse : Int) (F N : Nat) (base ep : Int) (rs : List R) (D : Nat) : Prop := ∃ ao c, LogOf w K a l d vss off fuse F N base ep ao c rs D
section
variable {w w' : World} {K L : Nat → Prop} {a : Nat → Addr} {l d : Nat} {vss : List (List (List Int))} {off : Bool} {fuse : Int} {F N : Nat} {base ep : Int} {ao : Option Addr} {c : Nat} {rs : List R} {D : Nat}
theorem LogOf.low (h : LogOf w K a l d vss off fuse F N base ep ao c rs D) : ∀ k, K k → k < w.heap.size := fun k hk => h.disk.low k (.inl hk)
theorem LogOf.small (h : LogOf w K a l d vss off fuse F N base ep ao c rs D) : N ≤ 100 ∧ F ≤ 200 := by
  have h0 := h.many
  have h1 := h.disk.many
  have h2 := h.bd
  omega
theorem LogOf.ne (h : LogOf w K a l d vss off fuse F N base ep ao c rs D) {g : Nat} (hg : (Value.slice ao rs.length c).ownBlock = some g) : g ≠ l := by
  obtain ⟨cur, hc⟩ := owns_type h.own.1 hg
  rintro rfl
  rw [h.head] at hc
  simp at hc
/-- A log stays where neither its blocks nor its disk's turn. -/
theorem LogOf.stays (h : LogOf w K a l d vss off fuse F N base ep ao c rs D) (hs : w.heap.size ≤ w'.heap.size) (hold : ∀ k, k < w.heap.size → ¬ K k → w'.heap[k]? = w.heap[k]?) (hL : ∀ k, L k → k < w'.heap.size ∧ (k < w.heap.size → K k)) (he : ErrsK w' L a) : LogOf w' L a l d vss off fuse F N base ep ao c rs D := by
  have hl := lt_of_block h.head
  have hw : ∀ k, withLog L l (.slice ao rs.length c) k → k < w'.heap.size ∧ (k < w.heap.size → withLog K l (.slice ao rs.length c) k) := by
    rintro k (h1 | h1 | h1)
    · exact ⟨(hL k h1).1, fun h2 => .inl ((hL k h1).2 h2)⟩
    · exact ⟨by omega, fun _ => .inr (.inl h1)⟩
    · exact ⟨Nat.lt_of_lt_of_le (h.own.1.lt k h1).2 hs, fun _ => .inr (.inr h1)⟩
  refine ⟨?_, ⟨owns_of_block h.own.1 fun g hg hlt => hold g hlt (h.nr g hg), h.own.2⟩, h.disk.stays (fun k hk hn => hold k hk fun hk' => hn (.inl hk')) hw fun i hi => ⟨.inl (he.three i hi).1, (he.three i hi).2⟩, fun hk => h.nl ((hL l hk).2 hl), fun g hg hk => h.nr g hg ((hL g hk).2 (h.own.1.lt g hg).2), he, h.bd, h.good, h.many⟩
  rw [hold l hl h.nl]
  exact h.head
theorem LogOf.below (h : LogOf w K a l d vss off fuse F N base ep ao c rs D) (hb : Below w.heap.size w w') : LogOf w' K a l d vss off fuse F N base ep ao c rs D :=
  h.stays hb.size (fun k hk _ => hb.block k hk) (fun k hk => ⟨Nat.lt_of_lt_of_le (h.low k hk) hb.size, fun _ => hk⟩) (h.errs.kept (Kept.of_below hb h.low))
/-- K may name what is new besides. -/
theorem LogOf.widen (h : LogOf w K a l d vss off fuse F N base ep ao c rs D) (hb : Below w.heap.size w w') : LogOf w' (wider K w.heap.size w'.heap.size) a l d vss off fuse F N base ep ao c rs D :=
  h.stays hb.size (fun k hk _ => hb.block k hk) (fun k hk => by rcases hk with h1 | h1; exact ⟨Nat.lt_of_lt_of_le (h.low k h1) hb.size, fun _ => h1⟩; exact ⟨h1.2, fun h2 => absurd h2 (by omega)⟩) ((h.errs.kept (Kept.of_below hb h.low)).wide fun k hk => .inl hk)
theorem LogOf.drewN (h : LogOf w K a l d vss off fuse F N base ep ao c rs D) (n : Nat) : LogOf (w.drewN n) K a l d vss off fuse F N base ep ao c rs D := h.below ⟨rfl, rfl, rfl, Nat.le_refl _, fun _ _ => rfl⟩
theorem LogOf.drew (h : LogOf w K a l d vss off fuse F N base ep ao c rs D) : LogOf w.drew K a l d vss off fuse F N base ep ao c rs D := h.below ⟨rfl, rfl, rfl, Nat.le_refl _, fun _ _ => rfl⟩
/-- The log's disk has turned, and nothing else that is named. -/
theorem LogOf.turn {vss' : List (List (List Int))} {off' : Bool} {fuse' : Int} (h : LogOf w K a l d vss off fuse F N base ep ao c rs D) (hd : Disk w' (withLog K l (.slice ao rs.length c)) a d vss' off' fuse') (hk : Kept (withLog K l (.slice ao rs.length c)) w w') (hv : vss'.length = vss.length) : LogOf w' K a l d vss' off' fuse' F N base ep ao c rs D := by
  refine ⟨?_, ⟨owns_of_block h.own.1 fun g hg _ => hk.block g (.inr (.inr hg)), h.own.2⟩, hd, h.nl, h.nr, h.errs.kept (hk.mono fun k h1 => .inl h1), by rw [hv]; exact h.bd, h.good, h.many⟩
  rw [hk.block l (.inr (.inl rfl))]
  exact h.head
theorem LogOf.cellAt (h : LogOf w K a l d vss off fuse F N base ep ao c rs D) (o : Nat) : w.cell? ⟨l, o, none⟩ = (logCells d F N base ep (.slice ao rs.length c) D)[o]? := cell_row h.head o
theorem LogOf.c0 (h : LogOf w K a l d vss off fuse F N base ep ao c rs D) : w.cell? ⟨l, 0, none⟩ = some (.pointer (some ⟨d, 0, none⟩)) := h.cellAt 0
theorem LogOf.c1 (h : LogOf w K a l d vss off fuse F N base ep ao c rs D) : w.cell? ⟨l, 1, none⟩ = some (.int .i64 F) := h.cellAt 1
theorem LogOf.c2 (h : LogOf w K a l d vss off fuse F N base ep ao c rs D) : w.cell? ⟨l, 2, none⟩ = some (.int .i64 N) := h.cellAt 2
theorem LogOf.c3 (h : LogOf w K a l d vss off fuse F N base ep ao c rs D) : w.cell? ⟨l, 3, none⟩ = some (.int .i64 base) := h.cellAt 3
theorem LogOf.c4 (h : LogOf w K a l d vss off fuse F N base ep ao c rs D) : w.cell? ⟨l, 4, none⟩ = some (.int .i64 ep) := h.cellAt 4
theorem LogOf.c5 (h : LogOf w K a l d vss off fuse F N base ep ao c rs D) {n : Nat} (hn : rs.length = n) : w.cell? ⟨l, 5, none⟩ = some (.slice ao n c) := by rw [← hn]; exact h.cellAt 5
theorem LogOf.c6 (h : LogOf w K a l d vss off fuse F N base ep ao c rs D) : w.cell? ⟨l, 6, none⟩ = some (.int .i64 D) := h.cellAt 6
theorem LogOf.fz (h : LogOf w K a l d vss off fuse F N base ep ao c rs D) (o : Nat) : w.frozen? ⟨l, o, none⟩ = false := frozen_row h.head o
/-- A log without records, as wal.New makes it. -/
theorem log_new (h : Disk w K a d vss off fuse) (he : ErrsK w K a) (hb : 0 ≤ base ∧ base ≤ 1073741824) (hep : 1 ≤ ep ∧ ep ≤ 1073741824) (hF : F + N ≤ vss.length) (hN : N ≤ 100) : LogOf (w.alloc (.cells (logCells d F N base ep (.slice none 0 0) 0) 72)) K a w.heap.size d vss off fuse F N base ep none 0 [] 0 := by
  have hbel := (Below.refl w.heap.size w).alloc (Nat.le_refl _) (.cells (logCells d F N base ep (.slice none 0 0) 0) 72)
  have hk := Kept.of_below hbel h.low
  refine ⟨heap_alloc_new _ _, ownR_nil _ _, ?_, fun hk => absurd (h.low _ hk) (Nat.lt_irrefl _), fun g hg => by simp [Value.ownBlock] at hg, he.kept hk, ⟨⟨hb.1, by simpa using hb.2⟩, hep, hF, by simp, by simp⟩, fun r hr => absurd hr (by simp), hN⟩
  refine h.stays (fun k h1 _ => hbel.block k h1) ?_ ?_
  · rintro k (h1 | h1 | h1)
    · exact ⟨Nat.lt_of_lt_of_le (h.low k h1) hbel.size, fun _ => h1⟩
    · exact ⟨by rw [h1]; simp, fun h2 => absurd h2 (by omega)⟩
    · simp [Value.ownBlock] at h1
  · exact fun i hi => ⟨.inl (he.three i hi).1, (he.kept hk).three i hi |>.2⟩
/-- The records have grown: 'w1' is where they lie, their slice is put into the log's cell. -/
theorem LogOf.grown {w1 : World} {ts : List R} {ao' : Option Addr} {c' : Nat} (h : LogOf w K a l d vss off fuse F N base ep ao c rs D) (ho : OwnR w1 0 ao' c' (rs ++ ts)) (hg : w.grownBy w1 (Value.slice ao rs.length c).ownBlock) (hat : (Value.slice ao' (rs ++ ts).length c').ownBlock = (Value.slice ao rs.length c).ownBlock ∨ ∃ g, (Value.slice ao' (rs ++ ts).length c').ownBlock = some g ∧ w.heap.size ≤ g)
    (hb : base + (rs ++ ts).length ≤ 1073741824) (hN : (rs ++ ts).length ≤ 6 * N) (hgd : ∀ r ∈ ts, goodB r = true ∧ r.fits) :
    LogOf (w1.setCell ⟨l, 5, none⟩ (.slice ao' (rs ++ ts).length c')) K a l d vss off fuse F N base ep ao' c' (rs ++ ts) D ∧ Kept K w (w1.setCell ⟨l, 5, none⟩ (.slice ao' (rs ++ ts).length c')) := by
  have hl := lt_of_block h.head
  have hnl : ∀ g, (Value.slice ao' (rs ++ ts).length c').ownBlock = some g → g ≠ l := by
    intro g hg' e
    rcases hat with h1 | ⟨g', h1, h2⟩
    · exact h.ne (h1 ▸ hg') e
    · rw [h1] at hg'
      simp only [Option.some.injEq] at hg'
      omega
  have hsz : (w1.setCell ⟨l, 5, none⟩ (.slice ao' (rs ++ ts).length c')).heap.size = w1.heap.size := by simp [World.setCell]
  have hold : ∀ k, k < w.heap.size → k ≠ l → some k ≠ (Value.slice ao rs.length c).ownBlock → (w1.setCell ⟨l, 5, none⟩ (.slice ao' (rs ++ ts).length c')).heap[k]? = w.heap[k]? := fun k h1 h2 h3 => (Below.heap_setCell _ _ _ _ h2).trans (hg.block k h1 h3)
  have hkept : Kept K w (w1.setCell ⟨l, 5, none⟩ (.slice ao' (rs ++ ts).length c')) := ⟨hg.os, hg.tape, hg.output, by rw [hsz]; exact hg.size, fun k hk => hold k (h.low k hk) (fun e => h.nl (e ▸ hk)) (fun e => h.nr k e.symm hk)⟩
  have hbd := h.bd
  have hlen : rs.length ≤ (rs ++ ts).length := by simp
  have hown : OwnR (w1.setCell ⟨l, 5, none⟩ (.slice ao' (rs ++ ts).length c')) 0 ao' c' (rs ++ ts) := ⟨owns_of_block ho.1 fun g hg' _ => Below.heap_setCell _ _ _ _ (hnl g hg'), ho.2⟩
  refine ⟨⟨?_, hown, ?_, h.nl, ?_, h.errs.kept hkept, ⟨⟨hbd.1.1, hb⟩, hbd.2.1, hbd.2.2.1, hN, Nat.le_trans hbd.2.2.2.2 hlen⟩, ?_, h.many⟩, hkept⟩
  · have e : w1.heap[l]? = _ := (hg.block l hl (fun e => h.ne e.symm rfl)).trans h.head
    rw [heap_set_same e]
    rfl
  · refine h.disk.stays (fun k h1 h2 => hold k h1 (fun e => h2 (.inr (.inl e))) (fun e => h2 (.inr (.inr e.symm)))) ?_ fun i hi => ⟨.inl (h.errs.three i hi).1, ((h.errs.kept hkept).three i hi).2⟩
    rintro k (h1 | h1 | h1)
    · exact ⟨Nat.lt_of_lt_of_le (h.low k h1) hkept.size, fun _ => .inl h1⟩
    · exact ⟨by have := hkept.size; omega, fun _ => .inr (.inl h1)⟩
    · refine ⟨(hown.1.lt k h1).2, fun h2 => ?_⟩
      rcases hat with h3 | ⟨g, h3, h4⟩
      · exact .inr (.inr (h3 ▸ h1))
      · rw [h3] at h1
        simp only [Option.some.injEq] at h1
        omega
  · intro g hg' hk
    rcases hat with h3 | ⟨g', h3, h4⟩
    · exact h.nr g (h3 ▸ hg') hk
    · rw [h3] at hg'
      simp only [Option.some.injEq] at hg'
      have := h.low g hk
      omega
  · intro r hr
    rcases List.mem_append.1 hr with h1 | h1
    · exact h.good r h1
    · exact hgd r h1
/-- All is flushed. -/
theorem LogOf.setDone (h : LogOf w K a l d vss off fuse F N base ep ao c rs D) (D' : Nat) (hD : D' ≤ rs.length) : LogOf (w.setCell ⟨l, 6, none⟩ (.int .i64 D')) K a l d vss off fuse F N base ep ao c rs D' ∧ Kept K w (w.setCell ⟨l, 6, none⟩ (.int .i64 D')) := by
  have hsz : (w.setCell ⟨l, 6, none⟩ (.int .i64 D')).heap.size = w.heap.size := by simp [World.setCell]
  have hold : ∀ k, k ≠ l → (w.setCell ⟨l, 6, none⟩ (.int .i64 D')).heap[k]? = w.heap[k]? := fun k h2 => Below.heap_setCell _ _ _ _ h2
  have hkept : Kept K w (w.setCell ⟨l, 6, none⟩ (.int .i64 D')) := ⟨rfl, rfl, rfl, by omega, fun k hk => hold k (fun e => h.nl (e ▸ hk))⟩
  have hbd := h.bd
  refine ⟨⟨?_, ⟨owns_of_block h.own.1 fun g hg _ => hold g (h.ne hg), h.own.2⟩, ?_, h.nl, h.nr, h.errs.kept hkept, ⟨hbd.1, hbd.2.1, hbd.2.2.1, hbd.2.2.2.1, hD⟩, h.good, h.many⟩, hkept⟩
  · rw [heap_set_same h.head]
    rfl
  · exact h.disk.stays (fun k h1 h2 => hold k (fun e => h2 (.inr (.inl e)))) (fun k hk => ⟨by rw [hsz]; exact h.disk.low k hk, fun _ => hk⟩) fun i hi => ⟨.inl (h.errs.three i hi).1, ((h.errs.kept hkept).three i hi).2⟩
end
end Go.Proofs.YtgjhnkadfdcafaaDoor

/- What wal.New, and a log's small methods, answer: Base, Last, Done, Room, Rec. -/
namespace Go.Proofs.YtgjhnkadfdcafaaDoor
open Go.RowKit
set_option linter.unusedVariables false

set_option maxRecDepth 100000 in
set_option maxHeartbeats 400000 in
theorem wnew_any (d F N : Nat) (base ep : Int) (w : World) (hN : N ≤ 200) : Calls Tryd.prog 10 #[.pointer (some ⟨d, 0, none⟩), .int .i64 F, .int .i64 N, .int .i64 base, .int .i64 ep] w fun e w' => e = .returned (.pointer (some ⟨w.heap.size, 0, none⟩)) ∧ w' = w.alloc (.cells (logCells d F N base ep (.slice none 0 0) 0) 72) := by
  have h1 : (0 : Int) ≤ (N : Int) := by omega
  have h2 : (N : Int) ≤ 1073741824 := by omega
  have h3 : ¬ ((N : Int) < 0) := by omega
  have h4 : ¬ ((1073741824 : Int) < (N : Int)) := by omega
  clear hN
  unfold logCells
  go_enter Tryd.func10, Tryd.ntmps10
  go_wp2_with fail
  go_ret
  rw [show min (N : Int) 1073741824 = (N : Int) by omega]
  exact ⟨rfl, rfl⟩
set_option maxRecDepth 100000 in
set_option maxHeartbeats 400000 in
theorem wbase_cells (l : Nat) (base : Int) (w : World) (h3 : w.cell? ⟨l, 3, none⟩ = some (.int .i64 base)) : Calls Tryd.prog 18 #[.pointer (some ⟨l, 0, none⟩)] w fun e w' => e = .returned (.int .i64 base) ∧ w' = w := by
  go_enter Tryd.func18, Tryd.ntmps18
  go_wp2_with fail
  go_ret
  exact ⟨rfl, rfl⟩
set_option maxRecDepth 100000 in
set_option maxHeartbeats 400000 in
theorem wlast_cells (l : Nat) (base : Int) (ao : Option Addr) (n c : Nat) (w : World) (h3 : w.cell? ⟨l, 3, none⟩ = some (.int .i64 base)) (h5 : w.cell? ⟨l, 5, none⟩ = some (.slice ao n c)) (hb : 0 ≤ base ∧ base ≤ 1073741824) (hn : n ≤ 1200) : Calls Tryd.prog 16 #[.pointer (some ⟨l, 0, none⟩)] w fun e w' => e = .returned (.int .i64 (base + n)) ∧ ∃ m, w' = w.drewN m := by
  go_enter Tryd.func16, Tryd.ntmps16
  go_wp2_with fail
  go_quiet (fail)
  go_wp2_with fail
  go_ret
  exact ⟨rfl, _, rfl⟩
set_option maxRecDepth 100000 in
set_option maxHeartbeats 400000 in
theorem wdone_cells (l : Nat) (base : Int) (D : Nat) (w : World) (h3 : w.cell? ⟨l, 3, none⟩ = some (.int .i64 base)) (h6 : w.cell? ⟨l, 6, none⟩ = some (.int .i64 D)) (hb : 0 ≤ base ∧ base ≤ 1073741824) (hn : D ≤ 1200) : Calls Tryd.prog 17 #[.pointer (some ⟨l, 0, none⟩)] w fun e w' => e = .returned (.int .i64 (base + D)) ∧ ∃ m, w' = w.drewN m := by
  go_enter Tryd.func17, Tryd.ntmps17
  go_wp2_with fail
  go_quiet (fail)
  go_wp2_with fail
  go_ret
  exact ⟨rfl, _, rfl⟩
/-- How many more records there is room for. -/
def roomI (N n : Nat) (base : Int) : Int := if 1073741824 - ((N : Int) * 6 - (n : Int)) < base + (n : Int) then 1073741824 - (base + (n : Int)) else (N : Int) * 6 - (n : Int)
theorem room_bd {N n : Nat} {base : Int} (hb : 0 ≤ base ∧ base + (n : Int) ≤ 1073741824) (hN : N ≤ 200) (hn : n ≤ 6 * N) : 0 ≤ roomI N n base ∧ roomI N n base ≤ 1200 := by
  unfold roomI
  split <;> omega
set_option maxRecDepth 100000 in
set_option maxHeartbeats 1000000 in
theorem wroom_cells (l N : Nat) (base : Int) (ao : Option Addr) (n c : Nat) (w : World) (h2 : w.cell? ⟨l, 2, none⟩ = some (.int .i64 N)) (h3 : w.cell? ⟨l, 3, none⟩ = some (.int .i64 base)) (h5 : w.cell? ⟨l, 5, none⟩ = some (.slice ao n c)) (hb : 0 ≤ base ∧ base + (n : Int) ≤ 1073741824) (hN : N ≤ 200) (hn : n ≤ 6 * N) : Calls Tryd.prog 23 #[.pointer (some ⟨l, 0, none⟩)] w fun e w' => e = .returned (.int .i64 (roomI N n base)) ∧ ∃ m, w' = w.drewN m := by
  have HL : Hid (∀ m, Calls Tryd.prog 16 #[.pointer (some ⟨l, 0, none⟩)] (w.drewN m) fun e w' => e = .returned (.int .i64 (base + n)) ∧ ∃ k, w' = w.drewN k) := by
    intro m
    refine (wlast_cells l base ao n c (w.drewN m) h3 h5 (by omega) (by omega)).mono ?_
    rintro e w' ⟨rfl, k, rfl⟩
    exact ⟨rfl, _, World.drewN_drewN ..⟩
  by_cases hc : 1073741824 - ((N : Int) * 6 - (n : Int)) < base + (n : Int)
  · have hr : roomI N n base = 1073741824 - (base + (n : Int)) := by unfold roomI; rw [if_pos hc]
    rw [hr]
    have hm : ¬ (1073741824 - (base + (n : Int)) < 0) := by omega
    have hm' : 0 ≤ 1073741824 - (base + (n : Int)) := by omega
    have hx : max (1073741824 - (base + (n : Int))) 0 = 1073741824 - (base + (n : Int)) := by omega
    clear hr
    go_enter Tryd.func23, Tryd.ntmps23
    go_wp2_with fail
    go_quiet (fail)
    go_wp2_with fail
    refine (HL.out _).mono ?_
    rintro e w1 ⟨rfl, k, rfl⟩
    go_wp2_with fail
    refine (HL.out _).mono ?_
    rintro e w1 ⟨rfl, k2, rfl⟩
    go_wp2_with fail
    go_ret
    exact ⟨rfl, _, rfl⟩
  · have hr : roomI N n base = (N : Int) * 6 - (n : Int) := by unfold roomI; rw [if_neg hc]
    rw [hr]
    have hd : decide (1073741824 - ((N : Int) * 6 - (n : Int)) < base + (n : Int)) = false := by simpa using hc
    have hm : ¬ ((N : Int) * 6 - (n : Int) < 0) := by omega
    have hm' : 0 ≤ (N : Int) * 6 - (n : Int) := by omega
    have hx : max ((N : Int) * 6 - (n : Int)) 0 = (N : Int) * 6 - (n : Int) := by omega
    clear hr hc
    go_enter Tryd.func23, Tryd.ntmps23
    go_wp2_with fail
    go_quiet (fail)
    go_wp2_with fail
    refine (HL.out _).mono ?_
    rintro e w1 ⟨rfl, k, rfl⟩
    go_wp2_with fail
    go_ret
    exact ⟨rfl, _, rfl⟩
section
variable {w w' : World} {K L : Nat → Prop} {a : Nat → Addr} {l d : Nat} {vss : List (List (List Int))} {off : Bool} {fuse : Int} {F N : Nat} {base ep : Int} {ao : Option Addr} {c : Nat} {rs : List R} {D : Nat}
theorem wbase_any (h : Log w K a l d vss off fuse F N base ep rs D) : Calls Tryd.prog 18 #[.pointer (some ⟨l, 0, none⟩)] w fun e w' => e = .returned (.int .i64 base) ∧ w' = w := by
  obtain ⟨ao, c, h⟩ := h
  exact wbase_cells l base w h.c3
theorem wlast_any (h : Log w K a l d vss off fuse F N base ep rs D) (n : Nat) (hn : rs.length = n) : Calls Tryd.prog 16 #[.pointer (some ⟨l, 0, none⟩)] w fun e w' => e = .returned (.int .i64 (base + n)) ∧ ∃ m, w' = w.drewN m := by
  obtain ⟨ao, c, h⟩ := h
  have h1 := h.bd
  have h2 := h.small
  exact wlast_cells l base ao n c w h.c3 (h.c5 hn) (by omega) (by omega)
theorem wdone_any (h : Log w K a l d vss off fuse F N base ep rs D) : Calls Tryd.prog 17 #[.pointer (some ⟨l, 0, none⟩)] w fun e w' => e = .returned (.int .i64 (base + D)) ∧ ∃ m, w' = w.drewN m := by
  obtain ⟨ao, c, h⟩ := h
  have h1 := h.bd
  have h2 := h.small
  exact wdone_cells l base D w h.c3 h.c6 (by omega) (by omega)
theorem wroom_any (h : Log w K a l d vss off fuse F N base ep rs D) (n : Nat) (hn : rs.length = n) : Calls Tryd.prog 23 #[.pointer (some ⟨l, 0, none⟩)] w fun e w' => e = .returned (.int .i64 (roomI N n base)) ∧ ∃ m, w' = w.drewN m := by
  obtain ⟨ao, c, h⟩ := h
  have h1 := h.bd
  have h2 := h.small
  exact wroom_cells l N base ao n c w h.c2 h.c3 (h.c5 hn) (by omega) (by omega) (by omega)
end
end Go.Proofs.YtgjhnkadfdcafaaDoor

/- What a log's Rec answers. -/
namespace Go.Proofs.YtgjhnkadfdcafaaDoor
open Go.RowKit
set_option linter.unusedVariables false

set_option maxRecDepth 100000 in
set_option maxHeartbeats 2000000 in
theorem wrec_cells (l : Nat) (base lsn : Int) (b off n c k : Nat) (r : R) (w : World) (h3 : w.cell? ⟨l, 3, none⟩ = some (.int .i64 base)) (h5 : w.cell? ⟨l, 5, none⟩ = some (.slice (some ⟨b, off, none⟩) n c)) (hr : CellsFrom w b (off + k * 10) r) (hb : 0 ≤ base ∧ base ≤ 1073741824) (hn : n ≤ 1200) (hk : k < n) (hl : lsn = base + 1 + k) :
    Calls Tryd.prog 19 #[.pointer (some ⟨l, 0, none⟩), .int .i64 lsn] w fun e w' => e = .returned (.tuple #[r.val, .bool true]) ∧ Below w.heap.size w w' := by
  have hlt := World.block_lt_of_cell? w _ h3
  simp only at hlt
  obtain ⟨k0, k1, k2, k3, k4, k5, k6, k7, k8, k9, kl⟩ := hr
  have e1 : lsn - base - 1 = (k : Int) := by omega
  have e2 : IntKind.i64.wrap (lsn - base) = lsn - base := wrap_in _ (by omega)
  have e3 : decide ((k : Int) < 0) = false := by simp
  have e4 : (k : Int) < (n : Int) := by omega
  have e5 : decide ((n : Int) ≤ (k : Int)) = false := by simp; omega
  clear hl hk
  unfold R.val
  go_enter Tryd.func19, Tryd.ntmps19
  go_wp2_with fail
  exact bodyPost_ret (v := .tuple #[.agg #[.int .i64 r.kind, .int .i64 r.txn, .int .i64 r.page, .int .i64 r.prev, .int .i64 r.next, .int .i64 r.key, .bool r.had, .bool r.has, .int .i64 r.old, .int .i64 r.new], .bool true]) (by simp [results, Tryd.results19, go_sem, *]) rfl ⟨rfl, below_box _ _⟩
set_option maxRecDepth 100000 in
set_option maxHeartbeats 2000000 in
theorem wrec_none (l : Nat) (base lsn : Int) (ao : Option Addr) (n c : Nat) (w : World) (h3 : w.cell? ⟨l, 3, none⟩ = some (.int .i64 base)) (h5 : w.cell? ⟨l, 5, none⟩ = some (.slice ao n c)) (hb : 0 ≤ base ∧ base ≤ 1073741824) (hn : n ≤ 1200) (hl0 : -1000000000000 ≤ lsn ∧ lsn ≤ 1000000000000) (hl : lsn ≤ base ∨ base + n < lsn) :
    Calls Tryd.prog 19 #[.pointer (some ⟨l, 0, none⟩), .int .i64 lsn] w fun e w' => e = .returned (.tuple #[noRec.val, .bool false]) ∧ Below w.heap.size w w' := by
  have hlt := World.block_lt_of_cell? w _ h3
  simp only at hlt
  rw [noRec_val]
  obtain ⟨i, hi⟩ : ∃ i, i = lsn - base - 1 := ⟨_, rfl⟩
  have e1 : lsn - base - 1 = i := hi.symm
  have e2 : IntKind.i64.wrap (lsn - base) = lsn - base := by rw [IntKind.wrap_i64]; omega
  have e6 : IntKind.i64.wrap i = i := by rw [IntKind.wrap_i64]; omega
  by_cases h0 : i < 0
  · have e3 : decide (i < 0) = true := by simpa using h0
    clear hl hi
    go_enter Tryd.func19, Tryd.ntmps19
    go_wp2_with fail
    exact bodyPost_ret (v := .tuple #[.agg #[.int .i64 0, .int .i64 0, .int .i64 0, .int .i64 0, .int .i64 0, .int .i64 0, .bool false, .bool false, .int .i64 0, .int .i64 0], .bool false]) (by simp [results, Tryd.results19, go_sem]) rfl ⟨rfl, below_box _ _⟩
  · have e3 : decide (i < 0) = false := by simpa using h0
    have e4 : (n : Int) ≤ i := by omega
    have e5 : decide ((n : Int) ≤ i) = true := by simpa using e4
    clear hl hi
    go_enter Tryd.func19, Tryd.ntmps19
    go_wp2_with fail
    exact bodyPost_ret (v := .tuple #[.agg #[.int .i64 0, .int .i64 0, .int .i64 0, .int .i64 0, .int .i64 0, .int .i64 0, .bool false, .bool false, .int .i64 0, .int .i64 0], .bool false]) (by simp [results, Tryd.results19, go_sem]) rfl ⟨rfl, below_box _ _⟩
section
variable {w w' : World} {K L : Nat → Prop} {a : Nat → Addr} {l d : Nat} {vss : List (List (List Int))} {off : Bool} {fuse : Int} {F N : Nat} {base ep : Int} {ao : Option Addr} {c : Nat} {rs : List R} {D : Nat}
theorem wrec_ok (h : Log w K a l d vss off fuse F N base ep rs D) (lsn : Int) (k : Nat) (r : R) (hr : rs[k]? = some r) (hl : lsn = base + 1 + k) : Calls Tryd.prog 19 #[.pointer (some ⟨l, 0, none⟩), .int .i64 lsn] w fun e w' => e = .returned (.tuple #[r.val, .bool true]) ∧ Below w.heap.size w w' := by
  obtain ⟨ao, c, h⟩ := h
  have h1 := h.bd
  have h2 := h.small
  have hk := (List.getElem?_eq_some_iff.1 hr).1
  obtain ⟨b, o, rfl, hc⟩ := h.own.row.2 (by omega)
  exact wrec_cells l base lsn b o rs.length c k r w h.c3 (h.c5 rfl) (hc k r hr) (by omega) (by omega) hk hl
theorem wrec_no (h : Log w K a l d vss off fuse F N base ep rs D) (lsn : Int) (n : Nat) (hn : rs.length = n) (hl0 : -1000000000000 ≤ lsn ∧ lsn ≤ 1000000000000) (hl : lsn ≤ base ∨ base + n < lsn) : Calls Tryd.prog 19 #[.pointer (some ⟨l, 0, none⟩), .int .i64 lsn] w fun e w' => e = .returned (.tuple #[noRec.val, .bool false]) ∧ Below w.heap.size w w' := by
  obtain ⟨ao, c, h⟩ := h
  have h1 := h.bd
  have h2 := h.small
  exact wrec_none l base lsn ao n c w h.c3 (h.c5 hn) (by omega) (by omega) hl0 hl
end
end Go.Proofs.YtgjhnkadfdcafaaDoor

/- What a log's Append answers. -/
namespace Go.Proofs.YtgjhnkadfdcafaaDoor
open Go.RowKit
set_option linter.unusedVariables false

theorem step_append_w {P : Program} {w : World} {ops : Array Oper} {o : Oper} {a : Act} {K : Act → World → Prop} {Q : Exit → Act → World → Prop} {E : Prop} (hw : Region.wanted o (yielded ops a.tmps) = true) (s x : Operand) (t : TypeId)
    (ho : o.op = .call { callee := .builtin .append, args := #[s, x], argTypes := #[t, t] }) (vs vx : Value) (hs : a.eval s = vs) (hx : a.eval x = vx) {v' : Value} {w' : World} (hr : (Builtin.append_ #[t, t] o.type #[vs, vx]).run P w = .ok v' w')
    (h : K (a.put o.dst v') w') : if Region.wanted o (yielded ops a.tmps) = true then Oper.wp P o a w K Q else E := by
  rw [if_pos hw]
  unfold Oper.wp execOp
  simp only [ho, resolve, invoke, builtin, Sem.run_bind, Sem.run_pure, Result.andThen_ok, List.map_toArray, List.map_cons, List.map_nil, hs, hx, hr]
  exact h
theorem Below.drewN_self (w : World) (m : Nat) : Below w.heap.size w (w.drewN m) := ⟨rfl, rfl, rfl, Nat.le_refl _, fun _ _ => rfl⟩
section
variable {w w' : World} {K L : Nat → Prop} {a : Nat → Addr} {l d : Nat} {vss : List (List (List Int))} {off : Bool} {fuse : Int} {F N : Nat} {base ep : Int} {ao : Option Addr} {c : Nat} {rs : List R} {D : Nat}
set_option maxRecDepth 100000 in
set_option maxHeartbeats 2000000 in
theorem wappend_bad (h : Log w K a l d vss off fuse F N base ep rs D) (r : R) (hg : goodB r = false) : Calls Tryd.prog 12 #[.pointer (some ⟨l, 0, none⟩), r.val] w fun e w' => e = .returned (.tuple #[.int .i64 0, errV (a 1)]) ∧ Below w.heap.size w w' := by
  obtain ⟨ao, c, h⟩ := h
  have HB := hide (below_box w (recCells r))
  have HE := hide (h.errs.blk.step HB.out)
  have HC := hide (cells10_new w r)
  have hchk : checkV r (a 1) = errV (a 1) := checkV_bad hg
  unfold recCells at HB HE HC
  obtain ⟨k0, k1, k2, k3, k4, k5, k6, k7, k8, k9, kl⟩ := HC.out
  clear h HC kl
  unfold R.val
  go_enter Tryd.func12, Tryd.ntmps12
  go_wp2_with fail
  clear k0 k1 k2 k3 k4 k5 k6 k7 k8 k9
  refine (check_any r _ (a 1) HE.out.rd.range).mono ?_
  rintro e w1 ⟨rfl, hb⟩
  rw [hchk]
  have HB1 := hide (over HB.out hb HB.out.size)
  clear hb HB
  unfold errV
  go_wp2_with fail
  go_ret2
  exact ⟨rfl, HB1.out⟩
set_option maxRecDepth 100000 in
set_option maxHeartbeats 2000000 in
theorem wappend_full (h : Log w K a l d vss off fuse F N base ep rs D) (r : R) (hg : goodB r = true) (hr : roomI N rs.length base = 0) : Calls Tryd.prog 12 #[.pointer (some ⟨l, 0, none⟩), r.val] w fun e w' => e = .returned (.tuple #[.int .i64 0, errV (a 8)]) ∧ Below w.heap.size w w' := by
  obtain ⟨ao, c, h⟩ := h
  have HB := hide (below_box w (recCells r))
  have HH := hide (h.below HB.out)
  have HC := hide (cells10_new w r)
  have hchk : checkV r (a 1) = .nilIface := checkV_good hg
  obtain ⟨n, hn⟩ : ∃ n, n = rs.length := ⟨_, rfl⟩
  have HN : Hid (rs.length = n) := hn.symm
  rw [← hn] at hr
  have HR := hide hr
  unfold recCells at HB HH HC
  obtain ⟨k0, k1, k2, k3, k4, k5, k6, k7, k8, k9, kl⟩ := HC.out
  clear h HC kl hn hr
  unfold R.val
  go_enter Tryd.func12, Tryd.ntmps12
  go_wp2_with fail
  clear k0 k1 k2 k3 k4 k5 k6 k7 k8 k9
  refine (check_any r _ (a 1) HH.out.errs.blk.rd.range).mono ?_
  rintro e w1 ⟨rfl, hb⟩
  rw [hchk]
  have HB1 := hide (over HB.out hb HB.out.size)
  have HH1 := hide (HH.out.below hb)
  clear hb HB HH
  go_wp2_with fail
  refine (wroom_any ⟨_, _, HH1.out⟩ n HN.out).mono ?_
  rintro e w2 ⟨rfl, m, rfl⟩
  rw [HR.out]
  have hE := (HH1.out.errs 8 (by decide)).2
  unfold errV at hE
  rw [show gno 8 = 0 from rfl] at hE
  go_wp2_with fail
  go_quiet (fail)
  go_wp2_with fail
  go_ret2
  exact ⟨rfl, below_drewN (below_drewN HB1.out _) _⟩
theorem Below.intoKept {w w1 : World} (h : LogOf w K a l d vss off fuse F N base ep ao c rs D) (hb : Below w.heap.size w w1) : Kept K w w1 := Kept.of_below hb h.low
/-- One record is appended: what the builtin does, and the log behind it. -/
theorem append_run (h : LogOf w K a l d vss off fuse F N base ep ao c rs D) (n : Nat) (hn : rs.length = n) (r : R) (hg : goodB r = true ∧ r.fits) (hroom : n + 1 ≤ 6 * N) (hb : base + (n : Int) + 1 ≤ 1073741824) (ty : TypeId) :
    ∃ ao' c' w1, (Builtin.append_ #[28, 28] ty #[.slice ao n c, .slice (some ⟨w.heap.size, 0, none⟩) 1 1]).run Tryd.prog (w.alloc (recCells r)) = .ok (.slice ao' (n + 1) c') w1 ∧ w1.cell? ⟨l, 5, none⟩ = some (.slice ao n c) ∧ w1.frozen? ⟨l, 5, none⟩ = false ∧
      LogOf (w1.setCell ⟨l, 5, none⟩ (.slice ao' (n + 1) c')) K a l d vss off fuse F N base ep ao' c' (rs ++ [r]) D ∧ Kept K w (w1.setCell ⟨l, 5, none⟩ (.slice ao' (n + 1) c')) := by
  subst hn
  have hbel := below_box w (recCells r)
  have h1 := h.below hbel
  have hsm := h.small
  have hlies : (w.alloc (recCells r)).heap[w.heap.size]? = some (.cells (cellsOfRs [r]).toArray 31 (0, 0)) := heap_alloc_new _ _
  have hrow : ∀ i x, [r][i]? = some x → CellsFrom (w.alloc (recCells r)) w.heap.size (0 + i * 10) x := by
    intro i x hi
    cases i with
    | zero =>
      simp only [List.getElem?_cons_zero, Option.some.injEq] at hi
      subst hi
      have hc := cells10_new w r
      exact ⟨hc.c0, hc.c1, hc.c2, hc.c3, hc.c4, hc.c5, hc.c6, hc.c7, hc.c8, hc.c9, hc.lt⟩
    | succ i => simp at hi
  obtain ⟨ao', c', w1, hr, ho, hgr, hbw, hat⟩ := run_appendR (yc := 1) h1.own rfl (show [r].length = 1 from rfl) (by omega) (Nat.zero_le _) hrow ty
  have hln : (rs ++ [r]).length = rs.length + 1 := by simp
  have hg2 := h1.grown (ts := [r]) ho hgr (by rw [hln]; exact hat) (by rw [hln]; push_cast; omega) (by rw [hln]; exact hroom) (fun x hx => by rw [List.mem_singleton.1 hx]; exact hg)
  rw [hln] at hg2
  have hl1 := lt_of_block h1.head
  have e : w1.heap[l]? = _ := (hgr.block l hl1 (fun e => h1.ne e.symm rfl)).trans h1.head
  refine ⟨ao', c', w1, hr, (cell_row e 5).trans rfl, frozen_row e 5, hg2.1, (Kept.of_below hbel h.low).trans hg2.2⟩
set_option maxRecDepth 100000 in
set_option maxHeartbeats 4000000 in
theorem wappend_ok (h : Log w K a l d vss off fuse F N base ep rs D) (n : Nat) (hn : rs.length = n) (r : R) (hg : goodB r = true) (hf : r.fits) (hr : 0 < roomI N n base) : Calls Tryd.prog 12 #[.pointer (some ⟨l, 0, none⟩), r.val] w fun e w' => e = .returned (.tuple #[.int .i64 (base + n + 1), .nilIface]) ∧ Log w' K a l d vss off fuse F N base ep (rs ++ [r]) D ∧ Kept K w w' := by
  obtain ⟨ao, c, h⟩ := h
  have hbd := h.bd
  have hsm := h.small
  have HRM : Hid (n + 1 ≤ 6 * N ∧ base + (n : Int) + 1 ≤ 1073741824) := by
    show _ ∧ _
    unfold roomI at hr
    split at hr <;> omega
  have HRZ : Hid ((roomI N n base == 0) = false) := by
    show (roomI N n base == 0) = false
    simp
    omega
  have HB := hide (below_box w (recCells r))
  have HH := hide (h.below HB.out)
  have HK := hide (Kept.of_below HB.out h.low)
  have HC := hide (cells10_new w r)
  have hchk : checkV r (a 1) = .nilIface := checkV_good hg
  have HN := hide hn
  have HG := hide (And.intro hg hf)
  have HBB : Hid (0 ≤ base ∧ base ≤ 1073741824) := by show _ ∧ _; omega
  have HN6 : Hid (n ≤ 1000) := by show n ≤ 1000; omega
  have HLT : Hid (w.heap.size < (w.alloc (recCells r)).heap.size) := by show _ < _; simp
  unfold recCells at HB HH HC HK HLT
  obtain ⟨k0, k1, k2, k3, k4, k5, k6, k7, k8, k9, kl⟩ := HC.out
  clear h hn hr hbd hsm hg hf kl
  unfold R.val
  go_enter Tryd.func12, Tryd.ntmps12
  go_wp2_with fail
  clear k0 k1 k2 k3 k4 k5 k6 k7 k8 k9
  refine (check_any r _ (a 1) HH.out.errs.blk.rd.range).mono ?_
  rintro e w1 ⟨rfl, hb⟩
  rw [hchk]
  have HH1 := hide (HH.out.below hb)
  have HK1 := hide (HK.out.trans (Kept.of_below hb HH.out.low))
  have HC1 := hide (HC.out.below hb (Nat.le_refl _))
  clear hb HB HH HK HC HLT
  go_wp2_with fail
  refine (wroom_any ⟨_, _, HH1.out⟩ n HN.out).mono ?_
  rintro e w2 ⟨rfl, m, rfl⟩
  have hrz := HRZ.out
  obtain ⟨rm, hrm⟩ : ∃ rm, rm = roomI N n base := ⟨_, rfl⟩
  rw [← hrm] at hrz ⊢
  clear hrm
  obtain ⟨W, hW⟩ : ∃ W, W = w1.drewN m := ⟨_, rfl⟩
  have HHW : Hid (LogOf W K a l d vss off fuse F N base ep ao c rs D) := by show LogOf W K a l d vss off fuse F N base ep ao c rs D; rw [hW]; exact HH1.out.drewN m
  have HCW : Hid (Cells10 W w.heap.size r) := by show Cells10 W w.heap.size r; rw [hW]; exact HC1.out.below (Below.drewN_self w1 m) (Nat.le_refl _)
  have HKW : Hid (Kept K w W) := by show Kept K w W; rw [hW]; exact HK1.out.drewN m
  rw [← hW]
  clear hW HH1 HC1 HK1
  have hc5 := HHW.out.c5 HN.out
  have hlt := World.block_lt_of_cell? W _ hc5
  simp only at hlt
  obtain ⟨k0, k1, k2, k3, k4, k5, k6, k7, k8, k9, kl⟩ := HCW.out
  obtain ⟨ao', c', w3, hrun, hc3, hf3, hlog, hkept⟩ := append_run HHW.out.drew n HN.out r HG.out HRM.out.1 HRM.out.2 28
  have HRUN : Hid ((Builtin.append_ #[28, 28] 28 #[.slice ao n c, .slice (some ⟨W.heap.size, 0, none⟩) 1 1]).run Tryd.prog (W.alloc (.cells #[.int .i64 r.kind, .int .i64 r.txn, .int .i64 r.page, .int .i64 r.prev, .int .i64 r.next, .int .i64 r.key, .bool r.had, .bool r.has, .int .i64 r.old, .int .i64 r.new] 31)).drew = .ok (.slice ao' (n + 1) c') w3) := hrun
  have HLOG := hide hlog
  have HKP : Hid (Kept K W (w3.setCell ⟨l, 5, none⟩ (.slice ao' (n + 1) c'))) := hkept.of_drew
  clear hrun hlog hkept HCW
  go_wp2_with fail
  apply dup
  case k =>
    intro TAIL
    go_region_law (first
      | (refine step_append_w (by rfl) (.tmp 20) (.tmp 22) 28 (by rfl) _ _ (by rfl) (by rfl) HRUN.out ?_)
      | fail)
    all_goals exact TAIL.out
  case h =>
    clear k0 k1 k2 k3 k4 k5 k6 k7 k8 k9 hc3 hf3 hc5
    have HLN : Hid ((rs ++ [r]).length = n + 1) := by show (rs ++ [r]).length = n + 1; rw [List.length_append, HN.out]; rfl
    go_wp2_with fail
    refine (wlast_any ⟨_, _, HLOG.out⟩ (n + 1) HLN.out).mono ?_
    rintro e w4 ⟨rfl, m4, rfl⟩
    rw [show base + ((n + 1 : Nat) : Int) = base + (n : Int) + 1 by omega]
    go_wp2_with fail
    go_ret2
    exact ⟨rfl, ⟨_, _, HLOG.out.drewN _⟩, (HKW.out.trans HKP.out).drewN _⟩
end
end Go.Proofs.YtgjhnkadfdcafaaDoor

/- Plain lemmas on logs: what is read may be; how many versions a sector has. No Go text here. -/
namespace Go.Proofs.YtgjhnkadfdcafaaDoor
open Go.RowKit
set_option linter.unusedVariables false

theorem ans_block_ok {xs : List Int} (h : isAns xs = true) : okB (epochOf xs) (recsOf xs) = true := by
  unfold isAns at h
  simp only [Bool.and_eq_true] at h
  have hi := h.2.2
  unfold isBlock at hi
  simp only [Bool.and_eq_true] at hi
  exact hi.2.1
/-- What is read may be. -/
theorem ansR_good {xs : List Int} (hb : Bytes xs) : ∀ r ∈ ansR xs, goodB r = true ∧ r.fits := by
  intro r hr
  unfold ansR at hr
  split at hr
  · rename_i h
    refine ⟨((okB_iff _ _).1 (ans_block_ok h)).2 r hr, ?_⟩
    obtain ⟨i, _, rfl⟩ := List.mem_map.1 hr
    exact partsR_fits _ fun x hx => hb x (List.mem_of_mem_drop (List.mem_of_mem_take hx))
  · simp at hr
theorem ansR_le (xs : List Int) : (ansR xs).length ≤ 6 := by
  unfold ansR
  split
  · rw [length_recsOf]; exact manyOf_le xs
  · simp
theorem ansN_bd (xs : List Int) : 0 ≤ ansN xs ∧ ansN xs ≤ 1073741824 := by
  unfold ansN
  split
  · rename_i h
    have h1 := ((okB_iff _ _).1 (ans_block_ok h)).1
    omega
  · omega
theorem openUp_len (rd : Nat → List Int) (ep : Int) : ∀ n k least acc, (openUp rd ep n k least acc).1.length ≤ acc.length + 6 * n := by
  intro n
  induction n with
  | zero => intro k least acc; simp [openUp]
  | succ n ih =>
    intro k least acc
    have h6 := ansR_le (rd k)
    rw [openUp]
    split
    · simp
    split
    · show acc.length ≤ _; omega
    split
    · simp
    split
    · show acc.length ≤ _; omega
    split
    · rw [List.length_append]; omega
    · refine Nat.le_trans (ih _ _ _) ?_
      rw [List.length_append]
      omega
theorem openUp_good (rd : Nat → List Int) (ep : Int) (hb : ∀ k, Bytes (rd k)) : ∀ n k least acc, (∀ r ∈ acc, goodB r = true ∧ r.fits) → ∀ r ∈ (openUp rd ep n k least acc).1, goodB r = true ∧ r.fits := by
  intro n
  induction n with
  | zero => intro k least acc h; exact h
  | succ n ih =>
    intro k least acc h
    have hg := ansR_good (hb k)
    have hg2 : ∀ r ∈ acc ++ ansR (rd k), goodB r = true ∧ r.fits := by
      intro r hr
      rcases List.mem_append.1 hr with h1 | h1
      · exact h r h1
      · exact hg r h1
    rw [openUp]
    split
    · intro r hr; simp at hr
    split
    · exact h
    split
    · intro r hr; simp at hr
    split
    · exact h
    split
    · exact hg2
    · exact ih _ _ _ hg2
/-- No sector has more than B versions. -/
def verBd (vss : List (List (List Int))) (B : Nat) : Prop := ∀ i, (vss.getD i []).length ≤ B
theorem verBd.mono {vss : List (List (List Int))} {B C : Nat} (h : verBd vss B) (hB : B ≤ C) : verBd vss C := fun i => Nat.le_trans (h i) hB
theorem getD_out {vss : List (List (List Int))} {i : Nat} (h : vss.length ≤ i) : vss.getD i [] = [] := by
  rw [List.getD_eq_getElem?_getD, List.getElem?_eq_none h]; rfl
theorem addS_len (vss : List (List (List Int))) (i j : Nat) (b : List Int) : ((addS vss i b).getD j []).length ≤ (if j = i then (vss.getD i []).length + 1 else (vss.getD j []).length) := by
  by_cases h : i < vss.length
  · rw [addS_at _ _ _ _ h]
    split
    · simp
    · exact Nat.le_refl _
  · rw [show addS vss i b = vss by unfold addS; exact List.set_eq_of_length_le (by omega)]
    split
    · rename_i e; rw [e]; omega
    · exact Nat.le_refl _
theorem wrUp_bd (first : Nat) (ep : Int) (rs : List R) (B : Nat) : ∀ n k vss f, verBd vss (B + 1) → (∀ j, first + k ≤ j → (vss.getD j []).length ≤ B) → verBd (wrUp first ep rs n k vss f).1 (B + 1) := by
  intro n
  induction n with
  | zero => intro k vss f h _; exact h
  | succ n ih =>
    intro k vss f h h2
    have h3 : verBd (addS vss (first + k) (blockB ep (chunk rs k))) (B + 1) := by
      intro j
      refine Nat.le_trans (addS_len _ _ _ _) ?_
      split
      · have := h2 (first + k) (Nat.le_refl _); omega
      · exact h j
    rw [wrUp]
    split
    · exact h3
    · refine ih (k + 1) _ _ h3 fun j hj => ?_
      refine Nat.le_trans (addS_len _ _ _ _) ?_
      rw [if_neg (by omega)]
      exact h2 j (by omega)
/-- With power each sector has one version, without it two at most: so a log's own calls leave a disk. -/
def tight (vss : List (List (List Int))) (off : Bool) : Prop := (off = false → verBd vss 1) ∧ verBd vss 2
theorem tight.mk1 {vss : List (List (List Int))} (off : Bool) (h : verBd vss 1) : tight vss off := ⟨fun _ => h, h.mono (by omega)⟩
theorem verBd_synced (vss : List (List (List Int))) : verBd (vss.map synced) 1 := by
  intro i
  rw [List.getD_eq_getElem?_getD, List.getElem?_map]
  cases vss[i]? with
  | none => simp
  | some x => simp [synced]
theorem tight_flush {first : Nat} {ep : Int} {rs : List R} {D : Nat} {vss : List (List (List Int))} {off : Bool} {fuse : Int} (h : tight vss off) : tight (flushW first ep rs D vss off fuse).1 (flushW first ep rs D vss off fuse).2.2.1 := by
  unfold flushW
  by_cases h1 : D = rs.length
  · rw [if_pos h1]; exact h
  · rw [if_neg h1]
    cases off with
    | true => exact h
    | false =>
      simp only [Bool.false_eq_true, if_false]
      have hw := wrUp_bd first ep rs 1 (blocksOf rs.length - D / 6) (D / 6) vss fuse h.2 fun j _ => h.1 rfl j
      generalize wrUp first ep rs (blocksOf rs.length - D / 6) (D / 6) vss fuse = g at hw ⊢
      obtain ⟨v, f, on⟩ := g
      simp only at hw ⊢
      cases on with
      | false => exact ⟨fun e => (by simp at e), hw⟩
      | true =>
        simp only [if_true]
        by_cases hf : f = 0
        · rw [if_pos hf]; exact ⟨fun e => (by simp at e), hw⟩
        · rw [if_neg hf]; exact tight.mk1 _ (verBd_synced v)
theorem verBd_crashed (zs : List Int) (vss : List (List (List Int))) (hv : hasV vss) : verBd (crashed zs vss) 1 := by
  intro i
  by_cases h : i < vss.length
  · have h1 : 1 ≤ (verOf vss i).length := hv _ h
    have h2 : (crashed zs vss).getD i [] = crashedSec zs vss i := verOf_crashed h
    rw [h2, crashedSec_one h1]
    exact Nat.le_refl _
  · rw [getD_out (by rw [length_crashed]; omega)]
    simp
theorem tight_crashed (zs : List Int) (vss : List (List (List Int))) (hv : hasV vss) (off : Bool) : tight (crashed zs vss) off := tight.mk1 _ (verBd_crashed zs vss hv)
theorem tight_new (N : Nat) (x : List Int) (off : Bool) : tight (List.replicate N [x]) off := tight.mk1 _ fun i => by
  rw [List.getD_eq_getElem?_getD, List.getElem?_replicate]
  split <;> simp
theorem hasV_new (N : Nat) (x : List Int) : hasV (List.replicate N [x]) := by
  intro i hi
  rw [List.length_replicate] at hi
  rw [List.getD_eq_getElem?_getD, List.getElem?_replicate, if_pos hi]
  simp
/-- Without a fuse all goes well. -/
theorem wrUp_free (first : Nat) (ep : Int) (rs : List R) : ∀ n k vss, (wrUp first ep rs n k vss (-1)).2 = (-1, true) := by
  intro n
  induction n with
  | zero => intro k vss; rfl
  | succ n ih =>
    intro k vss
    rw [wrUp, if_neg (by decide), show burnt (-1) = -1 from rfl]
    exact ih _ _
theorem flush_free (first : Nat) (ep : Int) (rs : List R) (D : Nat) (vss : List (List (List Int))) : (flushW first ep rs D vss false (-1)).2 = (-1, false, true) := by
  unfold flushW
  split
  · rfl
  · rw [if_neg (by decide), if_pos (by rw [wrUp_free]), if_neg (by rw [wrUp_free]; decide)]
    show (burnt (wrUp first ep rs _ _ vss (-1)).2.1, false, true) = _
    rw [wrUp_free]
    rfl
end Go.Proofs.YtgjhnkadfdcafaaDoor

/- What a log's writeBlock does. -/
namespace Go.Proofs.YtgjhnkadfdcafaaDoor
open Go.RowKit
set_option linter.unusedVariables false

/-- Some records of a list, from a place on. -/
theorem RecRow.cutAt {w : World} {b o : Nat} {rs : List R} (h : ∀ i r, rs[i]? = some r → CellsFrom w b (o + i * 10) r) (hl : rs.length ≤ 1000) (k m : Nat) : RecRow w (some ⟨b, o + k * 10, none⟩) ((rs.drop k).take m) := by
  refine ⟨by simp; omega, fun _ => ⟨b, o + k * 10, rfl, fun i r hi => ?_⟩⟩
  have h1 : rs[k + i]? = some r := by
    rw [List.getElem?_take] at hi
    split at hi
    · rwa [List.getElem?_drop] at hi
    · cases hi
  have h2 := h (k + i) r h1
  rwa [show o + (k + i) * 10 = o + k * 10 + i * 10 by omega] at h2
theorem RecRow.drew {w : World} {ao : Option Addr} {rs : List R} (h : RecRow w ao rs) : RecRow w.drew ao rs := h.step (below_drew (Below.refl _ _))
theorem OwnR.le {w : World} {B : Nat} {ao : Option Addr} {cap : Nat} {rs : List R} (h : OwnR w B ao cap rs) : rs.length ≤ cap := by
  rcases h.1.2 with ⟨h1, h2⟩ | ⟨g, c, cur, h1, h2, h3, h4⟩
  · omega
  · simp only [Value.slice.injEq] at h1
    obtain ⟨_, _, rfl⟩ := h1
    exact h4.1
/-- Write's three answers in one: power, and the fuse, decide. -/
theorem dwrite_uni (d k : Nat) (bo : Option Addr) (bc : Nat) (ys : List Int) {w : World} {K : Nat → Prop} {a : Nat → Addr} {vss : List (List (List Int))} {off : Bool} {fuse : Int} (h : Disk w K a d vss off fuse) (hk : k < vss.length) (hr : Row w bo ys) (hl : ys.length = 256) (hlen : (vss.getD k []).length + 1 ≤ 4294967296) :
    Calls Tryd.prog 25 #[.pointer (some ⟨d, 0, none⟩), .int .i64 k, .slice bo 256 bc] w fun e w' => ∃ fv, e = .returned fv ∧ Kept K w w' ∧ (off = false → fuse ≠ 0 → fv = .nilIface ∧ Disk w' K a d (addS vss k ys) false (burnt fuse)) ∧
      (off = false → fuse = 0 → fv = errV (a 0) ∧ Disk w' K a d (addS vss k ys) true 0) ∧ (off = true → fv = errV (a 0) ∧ Disk w' K a d vss true fuse) := by
  cases off with
  | true => exact (write_off d k _ h).mono fun e w' hh => ⟨_, hh.1, by rw [hh.2]; exact Kept.refl _ _, fun h1 => Bool.noConfusion h1, fun h1 => Bool.noConfusion h1, fun _ => ⟨rfl, by rw [hh.2]; exact h⟩⟩
  | false =>
    by_cases hf : fuse = 0
    · subst hf
      exact (write_burn d k bo bc ys h hk hr hl hlen).mono fun e w' hh => ⟨_, hh.1, hh.2.2, fun _ h2 => absurd rfl h2, fun _ _ => ⟨rfl, hh.2.1⟩, fun h1 => Bool.noConfusion h1⟩
    · exact (write_ok d k bo bc ys h hk hr hl hlen hf).mono fun e w' hh => ⟨_, hh.1, hh.2.2, fun _ _ => ⟨rfl, hh.2.1⟩, fun _ h2 => absurd h2 hf, fun h1 => Bool.noConfusion h1⟩
section
variable {w w' : World} {K L : Nat → Prop} {a : Nat → Addr} {l d : Nat} {vss : List (List (List Int))} {off : Bool} {fuse : Int} {F N : Nat} {base ep : Int} {ao : Option Addr} {c : Nat} {rs : List R} {D : Nat}
set_option maxRecDepth 100000 in
set_option maxHeartbeats 2000000 in
theorem wwrite_any (h : LogOf w K a l d vss off fuse F N base ep ao c rs D) (i n : Nat) (hn : rs.length = n) (hi : 6 * i < n) (hv : (vss.getD (F + i) []).length ≤ 2) :
    Calls Tryd.prog 32 #[.pointer (some ⟨l, 0, none⟩), .int .i64 i] w fun e w' => Kept K w w' ∧ (off = false → fuse ≠ 0 → e = .returned .nilIface ∧ LogOf w' K a l d (addS vss (F + i) (blockB ep (chunk rs i))) false (burnt fuse) F N base ep ao c rs D) ∧
      (off = false → fuse = 0 → e = .returned (errV (a 0)) ∧ LogOf w' K a l d (addS vss (F + i) (blockB ep (chunk rs i))) true 0 F N base ep ao c rs D) ∧ (off = true → e = .returned (errV (a 0)) ∧ LogOf w' K a l d vss true fuse F N base ep ao c rs D) := by
  have hbd := h.bd
  have hsm := h.small
  obtain ⟨b, o, rfl, hc⟩ := h.own.row.2 (by omega)
  have hcap : n ≤ c := by rw [← hn]; exact h.own.le
  obtain ⟨f6, hf6⟩ : ∃ f6, f6 = 6 * i := ⟨_, rfl⟩
  obtain ⟨T, hT⟩ : ∃ T, T = min (6 * i + 6) n := ⟨_, rfl⟩
  have e1 : (i : Int) * 6 = (f6 : Int) := by omega
  have e2 : min ((f6 : Int) + 6) (n : Int) = (T : Int) := by omega
  have e3 : f6 < T := by omega
  have e4 : T ≤ n := by omega
  have e5 : ¬ c = f6 := by omega
  have e6 : n ≤ 1000 := by omega
  have e7 : (f6 : Int) ≤ (T : Int) := by omega
  have e8 : (T : Int) ≤ (c : Int) := by omega
  have e9 : f6 ≤ T := by omega
  have e10 : T ≤ c := by omega
  have c0 := h.c0
  have c1 := h.c1
  have c4 := h.c4
  have c5 := h.c5 hn
  have HH := hide h
  have hck : chunk rs i = (rs.drop f6).take (T - f6) := by
    unfold chunk
    rw [← hf6]
    by_cases h6 : 6 * i + 6 ≤ n
    · rw [show T - f6 = 6 by omega]
    · rw [List.take_of_length_le (by rw [List.length_drop]; omega), List.take_of_length_le (by rw [List.length_drop]; omega)]
  have hcl : (chunk rs i).length = T - f6 := by rw [length_chunk]; omega
  have hrow : RecRow w (some ⟨b, o + f6 * 10, none⟩) (chunk rs i) := by rw [hck]; exact RecRow.cutAt hc (by omega) f6 (T - f6)
  have hok : okB ep (chunk rs i) = true := (okB_iff _ _).2 ⟨⟨hbd.2.1.1, hbd.2.1.2, by omega, by omega⟩, fun r hr => (h.good r (mem_chunk (q := 6) (by rw [chunk_self]; exact hr))).1⟩
  have hfi : F + i < vss.length := by omega
  have HROW := hide hrow
  have HCL := hide hcl
  have HOK := hide hok
  have HCH : Hid ((chunk rs i).length ≤ 6) := by show (chunk rs i).length ≤ 6; omega
  have HFI := hide hfi
  have HV := hide hv
  obtain ⟨sn, hsn⟩ : ∃ sn, sn = F + i := ⟨_, rfl⟩
  have hFi : (F : Int) + (i : Int) = (sn : Int) := by omega
  have hFw : IntKind.i64.wrap ((F : Int) + (i : Int)) = (sn : Int) := by rw [IntKind.wrap_i64]; omega
  have hSw : IntKind.i64.wrap (sn : Int) = (sn : Int) := by rw [IntKind.wrap_i64]; omega
  have HSN := hide hsn
  clear hsn h hn hf6 hT hc hck hcl hrow hok hfi hv hbd hsm
  go_enter Tryd.func32, Tryd.ntmps32
  go_wp2_with fail
  go_region_held3 (fun w' => w'.cell? ⟨l, 4, none⟩ = some (.int .i64 ep) ∧ w'.cell? ⟨l, 5, none⟩ = some (.slice (some ⟨b, o, none⟩) n c)) (first | go_keep | (refine ⟨?_, ?_⟩ <;> assumption))
    (first
      | (go_at_call 24; refine (bb_ok (x := a 1) (rs := chunk rs i) (by exact HH.out.errs.blk.rd.range) (by exact HROW.out.drew) HCL.out HOK.out).mono ?_; rintro e w1 ⟨g, rfl, hg, hown, hbel⟩; have hbel := of_drew hbel; have H1 := hide (HH.out.below hbel); have HK1 := hide (Kept.of_below hbel HH.out.disk.low); have c4' := H1.out.c4; have c5' := (hbel.cell (p := ⟨l, 5, none⟩) (World.block_lt_of_cell? w _ c5)).trans c5; have HO := hide hown; clear hown hbel hg))
  clear c0 c1 c4 c5 c4' c5'
  have c0 := H1.out.c0
  have c1 := H1.out.c1
  go_wp2_with fail
  go_region_held3 (fun w' => w'.cell? ⟨l, 0, none⟩ = some (.pointer (some ⟨d, 0, none⟩)) ∧ w'.cell? ⟨l, 1, none⟩ = some (.int .i64 F)) (first | go_keep | (refine ⟨?_, ?_⟩ <;> assumption))
    (first
      | (go_at_call 25; refine (dwrite_uni d sn (some ⟨g, 0, none⟩) 256 (blockB ep (chunk rs i)) (by exact H1.out.disk.drew) (by rw [HSN.out]; exact HFI.out) (by exact HO.out.row) (length_blockB _ _ HCH.out) (by rw [HSN.out]; have := HV.out; omega)).mono ?_; rintro e w2 ⟨fv, rfl, hk2, hd1, hd2, hd3⟩; have hk2 := hk2.of_drew; have c0' := (hk2.cell (p := ⟨l, 0, none⟩) (.inr (.inl rfl))).trans c0; have c1' := (hk2.cell (p := ⟨l, 1, none⟩) (.inr (.inl rfl))).trans c1; have HK2 := hide hk2; have HD1 := hide hd1; have HD2 := hide hd2; have HD3 := hide hd3; clear hk2 hd1 hd2 hd3))
  clear c0 c1 c0' c1'
  go_wp2_with fail
  go_ret
  have hkk : Kept K w w2 := (HK1.out.trans HK2.out).mono fun k hk => .inl hk
  have hs := HSN.out
  subst hs
  refine ⟨hkk, fun h1 h2 => ?_, fun h1 h2 => ?_, fun h1 => ?_⟩
  · obtain ⟨rfl, h3⟩ := HD1.out h1 h2
    exact ⟨rfl, H1.out.turn h3 HK2.out (length_addS _ _ _)⟩
  · obtain ⟨rfl, h3⟩ := HD2.out h1 h2
    exact ⟨rfl, H1.out.turn h3 HK2.out (length_addS _ _ _)⟩
  · obtain ⟨rfl, h3⟩ := HD3.out h1
    exact ⟨rfl, H1.out.turn h3 HK2.out rfl⟩
end
end Go.Proofs.YtgjhnkadfdcafaaDoor
