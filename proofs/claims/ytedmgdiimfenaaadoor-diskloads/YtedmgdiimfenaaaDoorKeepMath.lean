
/- What a sector may hold behind a crash: lists of bytes, each one a sector's bytes. -/
import Derived.Test.YtedmgdiimfenaaaDoorRows3
namespace Go.Proofs.YtedmgdiimfenaaaDoor
open Go.RowKit
set_option linter.unusedVariables false

/-- The last of a list, alone. -/
def lastL (m : List Int) : List Int := m.drop (m.length - 1)
/-- The versions that such lists tell. -/
def vssOf (ms : List (List Int)) : List (List (List Int)) := ms.map fun m => m.map fillOf
theorem length_vssOf (ms : List (List Int)) : (vssOf ms).length = ms.length := by simp [vssOf]
theorem last_drop (vs : List (List Int)) (h : 1 ≤ vs.length) : [lastV vs] = vs.drop (vs.length - 1) := by
  have e := List.drop_eq_getElem_cons (l := vs) (i := vs.length - 1) (by omega)
  rw [e, show vs.length - 1 + 1 = vs.length by omega, List.drop_length, lastV, List.getD_eq_getElem?_getD, List.getElem?_eq_getElem (by omega)]
  rfl
theorem synced_fill (m : List Int) (h : 1 ≤ m.length) : synced (m.map fillOf) = (lastL m).map fillOf := by
  rw [synced, last_drop _ (by simpa using h), lastL, List.map_drop, List.length_map]
theorem vssOf_synced (ms : List (List Int)) (h : ∀ m ∈ ms, 1 ≤ m.length) : (vssOf ms).map synced = vssOf (ms.map lastL) := by
  unfold vssOf
  rw [List.map_map, List.map_map]
  exact List.map_congr_left fun m hm => synced_fill m (h m hm)
theorem vssOf_at {ms : List (List Int)} {k : Nat} {m : List Int} (h : ms[k]? = some m) : verOf (vssOf ms) k = m.map fillOf := by
  simp [verOf, vssOf, List.getD_eq_getElem?_getD, h]
theorem vssOf_write {ms : List (List Int)} {k : Nat} {m : List Int} (h : ms[k]? = some m) (b : Int) : (vssOf ms).set k ((vssOf ms).getD k [] ++ [fillOf b]) = vssOf (ms.set k (m ++ [b])) := by
  rw [show (vssOf ms).getD k [] = m.map fillOf from vssOf_at h]
  unfold vssOf
  rw [List.map_set, List.map_append]
  rfl
theorem vssOf_crashed {ms : List (List Int)} {k : Nat} {m : List Int} (h : ms[k]? = some m) (hm : 1 ≤ m.length) (zs : List Int) : ∃ b ∈ m, verOf (crashed zs (vssOf ms)) k = [fillOf b] := by
  have hk : k < (vssOf ms).length := by rw [length_vssOf]; exact (List.getElem?_eq_some_iff.1 h).1
  obtain ⟨v, hv, e⟩ := crashedSec_mem (zs := zs) (vss := vssOf ms) (k := k) (by rw [vssOf_at h]; simpa using hm)
  rw [vssOf_at h] at hv
  obtain ⟨b, hb, rfl⟩ := List.mem_map.1 hv
  exact ⟨b, hb, by rw [verOf_crashed hk]; exact e⟩
/-- Is v one of the first j that a list tells? -/
def foundB (v : List Int) (m : List Int) (j : Nat) : Bool := (m.take j).any fun b => sameB v (fillOf b)
theorem foundB_zero (v m : List Int) : foundB v m 0 = false := by simp [foundB]
theorem foundB_succ (v m : List Int) (j : Nat) (b : Int) (h : m[j]? = some b) : foundB v m (j + 1) = (foundB v m j || sameB v (fillOf b)) := by
  unfold foundB
  rw [take_snoc_any h, List.any_append]
  simp
theorem foundB_all {m : List Int} {b : Int} (h : b ∈ m) : foundB (fillOf b) m m.length = true := by
  unfold foundB
  rw [List.take_length, List.any_eq_true]
  exact ⟨b, h, sameB_true rfl⟩
theorem upTo_mem {α : Type} {f : α → α} {k : Nat} {l : List α} {p : α → Prop} (hl : ∀ x ∈ l, p x) (hf : ∀ x, p x → p (f x)) : ∀ x ∈ upTo f k l, p x := by
  intro x hx
  rcases List.mem_append.1 hx with h | h
  · obtain ⟨y, hy, rfl⟩ := List.mem_map.1 h
    exact hf y (hl y (List.mem_of_mem_take hy))
  · exact hl x (List.mem_of_mem_drop h)
theorem length_lastL (m : List Int) (h : 1 ≤ m.length) : (lastL m).length = 1 := by rw [lastL, List.length_drop]; omega

/-- The statement's own array of five lists. -/
def mayBlock (f : Nat → Value) : Obj := .cells #[f 0, f 1, f 2, f 3, f 4] 28
def MayOk (w : World) (K : Nat → Prop) (v : Value) (xs : List Int) : Prop :=
  1 ≤ xs.length ∧ ∃ g off cap, v = .slice (some ⟨g, off, none⟩) xs.length cap ∧ xs.length ≤ cap ∧ K g ∧ Row w (some ⟨g, off, none⟩) xs
/-- The array holds these lists, in memory that K names. -/
structure May (w : World) (K : Nat → Prop) (MB : Nat) (ms : List (List Int)) (f : Nat → Value) : Prop where
  blk : w.heap[MB]? = some (mayBlock f)
  sl : ∀ j, j < 5 → ∃ a n c, f j = .slice a n c
  row : ∀ (k : Nat) (xs : List Int), ms[k]? = some xs → MayOk w K (f k) xs
theorem mayBlock_cell {w : World} {MB : Nat} {f : Nat → Value} (h : w.heap[MB]? = some (mayBlock f)) (k : Nat) (hk : k < 5) : w.cell? ⟨MB, k, none⟩ = some (f k) := by
  rw [cell_row h]
  match k, hk with
  | 0, _ => rfl
  | 1, _ => rfl
  | 2, _ => rfl
  | 3, _ => rfl
  | 4, _ => rfl
theorem mayBlock_far {w : World} {MB : Nat} {f : Nat → Value} (h : w.heap[MB]? = some (mayBlock f)) (k : Nat) (hk : 5 ≤ k) : w.cell? ⟨MB, k, none⟩ = none := by
  rw [cell_row h]
  exact Array.getElem?_eq_none (by simpa using hk)
theorem mayBlock_set {w : World} {MB : Nat} {f g : Nat → Value} (h : w.heap[MB]? = some (mayBlock f)) (k : Nat) (hk : k < 5) (v : Value) (hg : ∀ s, s < 5 → g s = if s = k then v else f s) : (w.setCell ⟨MB, k, none⟩ v).heap[MB]? = some (mayBlock g) := by
  have h0 := hg 0 (by omega); have h1 := hg 1 (by omega); have h2 := hg 2 (by omega); have h3 := hg 3 (by omega); have h4 := hg 4 (by omega)
  rw [heap_set_same h]
  unfold mayBlock
  match k, hk with
  | 0, _ => simp at h0 h1 h2 h3 h4; rw [h0, h1, h2, h3, h4]; rfl
  | 1, _ => simp at h0 h1 h2 h3 h4; rw [h0, h1, h2, h3, h4]; rfl
  | 2, _ => simp at h0 h1 h2 h3 h4; rw [h0, h1, h2, h3, h4]; rfl
  | 3, _ => simp at h0 h1 h2 h3 h4; rw [h0, h1, h2, h3, h4]; rfl
  | 4, _ => simp at h0 h1 h2 h3 h4; rw [h0, h1, h2, h3, h4]; rfl
theorem Row.kept {w w' : World} {K : Nat → Prop} {ao : Option Addr} {xs : List Int} (h : Row w ao xs) (hk : Kept K w w') (hK : ∀ b o, ao = some ⟨b, o, none⟩ → K b) : Row w' ao xs := by
  obtain ⟨h0, h1, h2⟩ := h
  refine ⟨h0, h1, fun hp => ?_⟩
  obtain ⟨b, off, e, hlt, hc⟩ := h2 hp
  refine ⟨b, off, e, Nat.lt_of_lt_of_le hlt hk.size, fun i hi => ?_⟩
  rw [hk.cell (by exact hK b off e)]
  exact hc i hi
theorem MayOk.kept {w w' : World} {K : Nat → Prop} {v : Value} {xs : List Int} (h : MayOk w K v xs) (hk : Kept K w w') : MayOk w' K v xs := by
  obtain ⟨h1, g, off, cap, h2, h3, h4, h5⟩ := h
  exact ⟨h1, g, off, cap, h2, h3, h4, h5.kept hk fun b o e => by cases e; exact h4⟩
theorem MayOk.below {w w' : World} {K : Nat → Prop} {v : Value} {xs : List Int} (h : MayOk w K v xs) (hb : Below w.heap.size w w') : MayOk w' K v xs := by
  obtain ⟨h1, g, off, cap, h2, h3, h4, h5⟩ := h
  exact ⟨h1, g, off, cap, h2, h3, h4, h5.below hb (Nat.le_refl _)⟩
theorem MayOk.mono {w : World} {K L : Nat → Prop} {v : Value} {xs : List Int} (h : MayOk w K v xs) (hL : ∀ k, K k → L k) : MayOk w L v xs := by
  obtain ⟨h1, g, off, cap, h2, h3, h4, h5⟩ := h
  exact ⟨h1, g, off, cap, h2, h3, hL g h4, h5⟩
theorem May.kept {w w' : World} {K : Nat → Prop} {MB : Nat} {ms : List (List Int)} {f : Nat → Value} (h : May w K MB ms f) (hk : Kept K w w') (hm : K MB) : May w' K MB ms f :=
  ⟨(hk.block MB hm).trans h.blk, h.sl, fun k xs hx => (h.row k xs hx).kept hk⟩
theorem May.below {w w' : World} {K : Nat → Prop} {MB : Nat} {ms : List (List Int)} {f : Nat → Value} (h : May w K MB ms f) (hb : Below w.heap.size w w') : May w' K MB ms f :=
  ⟨(hb.block MB (lt_of_block h.blk)).trans h.blk, h.sl, fun k xs hx => (h.row k xs hx).below hb⟩
theorem May.mono {w : World} {K L : Nat → Prop} {MB : Nat} {ms : List (List Int)} {f : Nat → Value} (h : May w K MB ms f) (hL : ∀ k, K k → L k) : May w L MB ms f :=
  ⟨h.blk, h.sl, fun k xs hx => (h.row k xs hx).mono hL⟩
theorem May.drewN {w : World} {K : Nat → Prop} {MB : Nat} {ms : List (List Int)} {f : Nat → Value} (h : May w K MB ms f) (n : Nat) : May (w.drewN n) K MB ms f := ⟨h.blk, h.sl, h.row⟩
/-- A list's bytes don't lie in the array's own block. -/
theorem May.ne {w : World} {K : Nat → Prop} {MB : Nat} {ms : List (List Int)} {f : Nat → Value} (h : May w K MB ms f) {g off : Nat} {xs : List Int} (hr : Row w (some ⟨g, off, none⟩) xs) (hx : 1 ≤ xs.length) : g ≠ MB := by
  rintro rfl
  obtain ⟨b, o, e, _, hc⟩ := hr.2.2 (by omega)
  cases e
  have h1 := hc 0 (by omega)
  rw [Nat.add_zero] at h1
  by_cases e : off < 5
  · rw [mayBlock_cell h.blk off e] at h1
    obtain ⟨a, n, c, e2⟩ := h.sl off e
    rw [e2] at h1
    simp at h1
  · rw [mayBlock_far h.blk off (by omega)] at h1
    simp at h1
theorem May.put {w : World} {K : Nat → Prop} {MB : Nat} {ms ms' : List (List Int)} {f : Nat → Value} (h : May w K MB ms f) {k : Nat} (hk : k < 5) {v : Value} {xs : List Int} (hv : MayOk w K v xs) (hms : ∀ (j : Nat) (ys : List Int), ms'[j]? = some ys → (j = k ∧ ys = xs) ∨ (j ≠ k ∧ ms[j]? = some ys)) : May (w.setCell ⟨MB, k, none⟩ v) K MB ms' (fun j => if j = k then v else f j) := by
  have hrow : ∀ {u ys}, MayOk w K u ys → MayOk (w.setCell ⟨MB, k, none⟩ v) K u ys := by
    rintro u ys ⟨h1, g, off, cap, h2, h3, h4, h5⟩
    have hne := h.ne h5 h1
    obtain ⟨q0, q1, q2⟩ := h5
    refine ⟨h1, g, off, cap, h2, h3, h4, q0, q1, fun hp => ?_⟩
    obtain ⟨b, o, e, hlt, hc⟩ := q2 hp
    cases e
    refine ⟨g, off, rfl, by simpa [World.setCell] using hlt, fun i hi => ?_⟩
    rw [World.cell?_of_block (w := w) (Below.heap_setCell _ _ _ _ hne)]
    exact hc i hi
  refine ⟨mayBlock_set h.blk k hk v fun s _ => rfl, fun j hj => ?_, fun j ys hj => ?_⟩
  · by_cases e : j = k
    · obtain ⟨_, g, off, cap, h2, _⟩ := hv
      exact ⟨_, _, _, by rw [if_pos e]; exact h2⟩
    · rw [if_neg e]; exact h.sl j hj
  · rcases hms j ys hj with ⟨e, rfl⟩ | ⟨e, h1⟩
    · rw [if_pos e]; exact hrow hv
    · rw [if_neg e]; exact hrow (h.row j ys h1)
theorem swap_alloc (w : World) (p : Addr) (v : Value) (x : Obj) (hp : p.block < w.heap.size) : (w.setCell p v).alloc x = (w.alloc x).setCell p v := by
  unfold World.setCell World.alloc
  congr 1
  apply Array.ext_getElem?
  intro i
  simp only [Array.getElem?_push, Array.getElem?_modify, Array.size_modify]
  by_cases e : i = w.heap.size
  · rw [if_pos e, if_neg (by omega), if_pos e]
  · rw [if_neg e, if_neg e]
end Go.Proofs.YtedmgdiimfenaaaDoor
