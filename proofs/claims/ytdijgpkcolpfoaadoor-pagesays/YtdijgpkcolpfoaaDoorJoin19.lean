/- Lemmas and contracts that the law stands on, joined: Looses, Crashes. -/
import Derived.Test.YtdijgpkcolpfoaaDoorJoin5
import Derived.Test.YtdijgpkcolpfoaaDoorJoin18
/- What a disk's Loose answers, and which version of a sector a crash keeps. -/
namespace Go.Proofs.YtdijgpkcolpfoaaDoor
open Go.RowKit
set_option linter.unusedVariables false

/-- Pairs as cells. -/
def pairCells (l : List (Nat × Nat)) : List Value := l.flatMap fun q => [.int .i64 q.1, .int .i64 q.2]
theorem length_pairCells (l : List (Nat × Nat)) : (pairCells l).length = l.length * 2 := by
  induction l with
  | nil => rfl
  | cons q l ih => simp only [pairCells, List.flatMap_cons, List.length_append, List.length_cons, List.length_nil] at ih ⊢; omega
theorem pairCells_snoc (l : List (Nat × Nat)) (q : Nat × Nat) : pairCells (l ++ [q]) = pairCells l ++ [.int .i64 q.1, .int .i64 q.2] := by simp [pairCells]
theorem pairCells_at : ∀ (l : List (Nat × Nat)) (t : Nat) (q : Nat × Nat), l[t]? = some q → (pairCells l)[t * 2]? = some (.int .i64 q.1) ∧ (pairCells l)[t * 2 + 1]? = some (.int .i64 q.2) := by
  intro l
  induction l with
  | nil => intro t q h; simp at h
  | cons p l ih =>
    intro t q h
    cases t with
    | zero => simp at h; subst h; simp [pairCells]
    | succ t =>
      have h1 := ih t q (by simpa using h)
      simp only [pairCells, List.flatMap_cons] at h1 ⊢
      rw [show (t + 1) * 2 = t * 2 + 2 by omega, show t * 2 + 2 + 1 = (t * 2 + 1) + 2 by omega]
      simpa using h1
theorem own_shape_any {w : World} {B e sz n : Nat} {v : Value} {cs : List Value} (h : w.ownsRow B e sz v n cs) : ∃ ao cap, v = .slice ao n cap := by
  rcases h.2 with ⟨h1, h2⟩ | ⟨g, cap, cur, h1, _⟩
  · exact ⟨none, 0, by rw [h1, h2]⟩
  · exact ⟨_, cap, h1⟩
theorem cell_two_new (w : World) (x y : Value) (e : TypeId) : ∀ j u, [x, y][j]? = some u → (w.alloc (.cells #[x, y] e)).cell? ((⟨w.heap.size, 0, none⟩ : Addr).add j) = some u := by
  intro j u hj
  rw [Addr.add_lit, cell_row (heap_alloc_new w (.cells #[x, y] e))]
  simpa using hj
theorem verOf_vers {ss : List Sec} {i : Nat} {x : Sec} (h : ss[i]? = some x) : verOf (vers ss) i = x.vs.map (·.xs) := vers_at h

/-- The slice that begins at 'ao' reads in w as the numbers zs. -/
def IRow (w : World) (ao : Option Addr) (zs : List Int) : Prop :=
  zs.length ≤ 4294967296 ∧ (∀ x ∈ zs, -9223372036854775808 ≤ x ∧ x ≤ 9223372036854775807) ∧ (0 < zs.length → ∃ b off, ao = some ⟨b, off, none⟩ ∧ b < w.heap.size ∧ ∀ i, i < zs.length → w.cell? ⟨b, off + i, none⟩ = some (.int .i64 (zs.getD i 0)))
theorem IRow.bd {w : World} {ao : Option Addr} {zs : List Int} (h : IRow w ao zs) (i : Nat) : -9223372036854775808 ≤ zs.getD i 0 ∧ zs.getD i 0 ≤ 9223372036854775807 := by
  by_cases hi : i < zs.length
  · rw [List.getD_eq_getElem?_getD, List.getElem?_eq_getElem hi]
    exact h.2.1 _ (List.getElem_mem hi)
  · rw [List.getD_eq_getElem?_getD, List.getElem?_eq_none (by omega)]
    exact ⟨by decide, by decide⟩
theorem IRow.kept {w w' : World} {K : Nat → Prop} {ao : Option Addr} {zs : List Int} (h : IRow w ao zs) (hk : Kept K w w') (hK : 0 < zs.length → ∀ b off, ao = some ⟨b, off, none⟩ → K b) : IRow w' ao zs := by
  obtain ⟨h0, h1, h2⟩ := h
  refine ⟨h0, h1, fun hp => ?_⟩
  obtain ⟨b, off, e, hlt, hc⟩ := h2 hp
  refine ⟨b, off, e, by have := hk.size; omega, fun i hi => ?_⟩
  rw [hk.cell (by exact hK hp b off e)]
  exact hc i hi
end Go.Proofs.YtdijgpkcolpfoaaDoor

/- What a disk's Crash does, at every disk and every choice. -/
namespace Go.Proofs.YtdijgpkcolpfoaaDoor
open Go.RowKit
set_option linter.unusedVariables false

theorem owns_first {w : World} {B e sz n : Nat} {v : Value} {cs : List Value} (h : w.ownsRow B e sz v n cs) (hn : 0 < n) : ∃ g cap, v = .slice (some ⟨g, 0, none⟩) n cap ∧ B ≤ g ∧ g < w.heap.size ∧ ∀ j u, cs[j]? = some u → w.cell? ⟨g, j, none⟩ = some u := by
  rcases h.2 with ⟨_, e0⟩ | ⟨g, cap, cur, hv, hg, hh, _⟩
  · omega
  · refine ⟨g, cap, hv, hg, lt_of_block hh, fun j u hj => ?_⟩
    have := h.cells (g := g) (by rw [hv]; rfl) j u hj
    rw [Addr.add_lit, Nat.zero_add] at this
    exact this
/-- What K names, and the blocks from b to c. -/
def wider (K : Nat → Prop) (b c : Nat) (k : Nat) : Prop := K k ∨ b ≤ k ∧ k < c
theorem crash_step {ss' : List Sec} {zs : List Int} {vss : List (List (List Int))} {t : Nat} {q : Nat × Nat} {x : Sec} {p : Part} {v' : Value} (hq : (looseL vss)[t]? = some q) (he : vers ss' = crashUp zs vss t) (hx : ss'[q.1]? = some x) (hp : x.vs[choiceB zs t (q.2 + 1)]? = some p) : vers (ss'.set q.1 ⟨v', [p]⟩) = crashUp zs vss (t + 1) := by
  have h1 : (vers ss')[q.1]? = some (x.vs.map (·.xs)) := by rw [vers_get, hx]; rfl
  rw [he, crashUp_at hq] at h1
  simp only [Option.some.injEq] at h1
  rw [vers_set, he, ← crashUp_succ hq]
  congr 1
  rw [h1]
  simp only [List.map_cons, List.map_nil, List.getD_eq_getElem?_getD, List.getElem?_map, hp]
  rfl
theorem crash_pick {ss' : List Sec} {zs : List Int} {vss : List (List (List Int))} {t : Nat} {q : Nat × Nat} (hq : (looseL vss)[t]? = some q) (he : vers ss' = crashUp zs vss t) : ∃ x p, ss'[q.1]? = some x ∧ x.vs.length = q.2 + 1 ∧ x.vs[choiceB zs t (q.2 + 1)]? = some p := by
  obtain ⟨h1, h2, h3, h4⟩ := looseL_at hq
  have h5 : (vers ss')[q.1]? = some (verOf vss q.1) := by rw [he, crashUp_at hq]
  rw [vers_get] at h5
  obtain ⟨x, hx, e⟩ := Option.map_eq_some_iff.1 h5
  have hl : x.vs.length = q.2 + 1 := by rw [h3, ← e]; simp
  have hc := choiceB_lt zs t (q.2 + 1) (by omega)
  exact ⟨x, _, hx, hl, List.getElem?_eq_getElem (by omega)⟩

end Go.Proofs.YtdijgpkcolpfoaaDoor
