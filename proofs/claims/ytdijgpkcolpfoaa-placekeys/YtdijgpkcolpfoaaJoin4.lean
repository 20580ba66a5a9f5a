/- Lemmas and contracts that the law stands on, joined: Make, Copy, First. -/
import Derived.Test.YtdijgpkcolpfoaaJoin3
import Derived.Laws.CopyOwn
import Derived.Laws.AppendOwnNone
/- What the functions that make a new list of bytes answer: cell.grown, cell.Put, cell.Fill, phoenixref.Bytes and the document's own Put and Fill, at every list of bytes; nothing that was there is written. -/
namespace Go.Proofs.Ytdijgpkcolpfoaa
open Go.RowKit
set_option linter.unusedVariables false

theorem Try.info5 : (Try.prog.info? 5).map (fun i => (i.zero, i.size, i.bytes)) = some (some (.int .u8 0), 1, 1) := by kernel_rfl
theorem Try.size5 : (Try.prog.info? 5).map (·.size) = some 1 := by kernel_rfl

/-- xs as cells. -/
def cellsOf (xs : List Int) : List Value := xs.map (Value.int .u8)
theorem length_cellsOf (xs : List Int) : (cellsOf xs).length = xs.length := by simp [cellsOf]
theorem oneCell_cellsOf (xs : List Int) : ∀ u ∈ cellsOf xs, u.oneCell' = true := ints_oneCell _ _
theorem cellsOf_at {xs : List Int} {j : Nat} {v : Value} (h : (cellsOf xs)[j]? = some v) : j < xs.length ∧ v = .int .u8 (xs.getD j 0) := by
  have hj : j < xs.length := by
    have := (List.getElem?_eq_some_iff.1 h).1
    simpa [cellsOf] using this
  refine ⟨hj, ?_⟩
  simp [cellsOf, hj] at h
  rw [← h, List.getD_eq_getElem?_getD, List.getElem?_eq_getElem hj]
  rfl
theorem cellsOf_getD {xs : List Int} {j : Nat} (h : j < xs.length) : (cellsOf xs)[j]? = some (.int .u8 (xs.getD j 0)) := by
  simp [cellsOf, h]

/-- The slice that begins at 'ao' owns the bytes xs: it lies in a block from 'B' on. -/
def Own (w : World) (B : Nat) (ao : Option Addr) (cap : Nat) (xs : List Int) : Prop :=
  w.ownsRow B 5 1 (.slice ao xs.length cap) xs.length (cellsOf xs) ∧ Bytes xs ∧ xs.length ≤ 4294967296

theorem Own.row {w : World} {B : Nat} {ao : Option Addr} {cap : Nat} {xs : List Int} (h : Own w B ao cap xs) : Row w ao xs := by
  obtain ⟨h1, h2, h3⟩ := h
  refine ⟨h3, h2, fun hp => ?_⟩
  have h1' := h1
  rcases h1.2 with ⟨e, h0⟩ | ⟨g, c, cur, hv, hg, hh, h4, h5, h6, h7⟩
  · omega
  · simp only [Value.slice.injEq] at hv
    obtain ⟨rfl, _, rfl⟩ := hv
    refine ⟨g, 0, rfl, ?_, fun i hi => ?_⟩
    · by_cases hlt : g < w.heap.size
      · exact hlt
      · rw [Array.getElem?_eq_none (by omega)] at hh; simp at hh
    · rw [Nat.zero_add, h1'.cellAt i (by omega)]
      exact cellsOf_getD hi
theorem Own.below {w w' : World} {B C : Nat} {ao : Option Addr} {cap : Nat} {xs : List Int} (h : Own w B ao cap xs) (hb : Below C w w') (hC : w.heap.size ≤ C) : Own w' B ao cap xs := by
  obtain ⟨⟨h0, h1⟩, h2, h3⟩ := h
  refine ⟨⟨h0, ?_⟩, h2, h3⟩
  rcases h1 with h1 | ⟨g, c, cur, hv, hg, hh, r⟩
  · exact .inl h1
  · refine .inr ⟨g, c, cur, hv, hg, ?_, r⟩
    have hlt : g < w.heap.size := by
      by_cases hlt : g < w.heap.size
      · exact hlt
      · rw [Array.getElem?_eq_none (by omega)] at hh; simp at hh
    rw [hb.block g (by omega)]
    exact hh
theorem Own.mono {w : World} {B C : Nat} {ao : Option Addr} {cap : Nat} {xs : List Int} (h : Own w B ao cap xs) (hC : C ≤ B) : Own w C ao cap xs := by
  obtain ⟨⟨h0, h1⟩, h2, h3⟩ := h
  refine ⟨⟨h0, ?_⟩, h2, h3⟩
  rcases h1 with h1 | ⟨g, c, cur, hv, hg, r⟩
  · exact .inl h1
  · exact .inr ⟨g, c, cur, hv, by omega, r⟩
theorem Own.drewN {w : World} {B : Nat} {ao : Option Addr} {cap : Nat} {xs : List Int} (h : Own w B ao cap xs) (n : Nat) : Own (w.drewN n) B ao cap xs := h

/-- What cell.grown answers. -/
def grownB (xs : List Int) (n : Nat) : List Int := xs ++ List.replicate (n - xs.length) 0
theorem length_grownB {xs : List Int} {n : Nat} (h : xs.length ≤ n) : (grownB xs n).length = n := by simp [grownB]; omega
theorem Bytes.grownB {xs : List Int} (h : Bytes xs) (n : Nat) : Bytes (grownB xs n) := by
  intro x hx
  rcases List.mem_append.1 hx with h1 | h1
  · exact h x h1
  · rw [(List.mem_replicate.1 h1).2]; omega

theorem splice_grown (xs : List Int) (n : Nat) (h : xs.length ≤ n) : splice (cellsOf (List.replicate n 0)) 0 (cellsOf xs) = cellsOf (grownB xs n) := by
  unfold splice cellsOf grownB
  simp
theorem row_of_made {w : World} {B n : Nat} (h : w.ownsRow B 5 1 (.slice (some ⟨B, 0, none⟩) n n) n (madeCells (Value.int .u8 0).cells (n * 1)).toList) :
    w.heap[B]? = some (.cells (cellsOf (List.replicate n 0)).toArray 5 (0, 0)) := by
  rcases h.2 with ⟨e, _⟩ | ⟨g, c, cur, hv, hg, hh, h4, h5, h6, h7⟩
  · simp at e
  · simp only [Value.slice.injEq, Option.some.injEq, Addr.mk.injEq, and_true, true_and] at hv
    obtain ⟨rfl, rfl⟩ := hv
    rw [hh]
    have e1 : cur.toList = cellsOf (List.replicate n 0) := by
      rw [List.take_of_length_le (by simp; omega)] at h7
      rw [h7]
      have e2 : (Value.int .u8 0).cells = #[Value.int .u8 0] := rfl
      rw [e2, Nat.mul_one, toList_madeCells_one]
      simp [cellsOf]
    rw [← e1]
theorem own_of_row {w : World} {B : Nat} {xs : List Int} (hh : w.heap[B]? = some (.cells (cellsOf xs).toArray 5 (0, 0))) (hb : Bytes xs) (hl : xs.length ≤ 4294967296) : Own w B (some ⟨B, 0, none⟩) xs.length xs := by
  refine ⟨⟨by simp [length_cellsOf], .inr ⟨B, xs.length, _, rfl, Nat.le_refl _, hh, Nat.le_refl _, by unfold maxLen; omega, by simp [length_cellsOf], ?_⟩⟩, hb, hl⟩
  rw [List.take_of_length_le (by simp [length_cellsOf])]

theorem Row.src {w : World} {ao : Option Addr} {xs : List Int} (h : Row w ao xs) (hp : 0 < (cellsOf xs).length) : ∃ ad, ao = some ad ∧ ∀ j v, (cellsOf xs)[j]? = some v → w.cell? (ad.add j) = some v := by
  obtain ⟨_, _, h2⟩ := h
  rw [length_cellsOf] at hp
  obtain ⟨b, off, e, _, hc⟩ := h2 hp
  refine ⟨_, e, fun j v hj => ?_⟩
  obtain ⟨hlt, rfl⟩ := cellsOf_at hj
  rw [Addr.add_lit]
  exact hc j hlt

theorem Own.stored {w : World} {B g cap : Nat} {xs : List Int} (h : Own w B (some ⟨g, 0, none⟩) cap xs) (j : Nat) (x : Int) (h0 : 0 ≤ x) (h1 : x ≤ 255) : Own (w.setCell ⟨g, j, none⟩ (.int .u8 x)) B (some ⟨g, 0, none⟩) cap (xs.set j x) := by
  obtain ⟨h2, h3, h4⟩ := h
  have e := (h2.stored j (.int .u8 x)).1
  have e2 : cellsOf (xs.set j x) = (cellsOf xs).set j (.int .u8 x) := by simp [cellsOf, List.map_set]
  refine ⟨?_, ?_, by simpa using h4⟩
  · rw [e2, List.length_set]; exact e
  · intro y hy
    rcases List.mem_or_eq_of_mem_set hy with h5 | h5
    · exact h3 y h5
    · subst h5; exact ⟨h0, h1⟩
theorem Own.cell {w : World} {B g cap : Nat} {xs : List Int} (h : Own w B (some ⟨g, 0, none⟩) cap xs) (j : Nat) (hj : j < xs.length) : w.cell? ⟨g, j, none⟩ = some (.int .u8 (xs.getD j 0)) := by
  rw [h.1.cellAt j (by omega)]
  exact cellsOf_getD hj
theorem Own.frozen {w : World} {B g cap : Nat} {xs : List Int} (h : Own w B (some ⟨g, 0, none⟩) cap xs) (j : Nat) : w.frozen? ⟨g, j, none⟩ = false := h.1.frozenAt j

theorem div_pow_bd (n : Int) (k : Nat) (h0 : 0 ≤ n) (h1 : n ≤ 18446744073709551615) : 0 ≤ n / 256 ^ k ∧ n / 256 ^ k ≤ 18446744073709551615 := by
  have hp : (0 : Int) < 256 ^ k := Int.pow_pos (by decide)
  refine ⟨Int.ediv_nonneg h0 (by omega), ?_⟩
  have : n / 256 ^ k ≤ n := Int.ediv_le_self _ h0
  omega
theorem div_pow_succ (n : Int) (k : Nat) : n / 256 ^ (k + 1) = n / 256 ^ k / 256 := by
  rw [Int.pow_succ, Int.ediv_ediv_of_nonneg (Int.le_of_lt (Int.pow_pos (by decide)))]

/-- What cell.Fill answers, for a size that a call may answer. -/
def fillB (xs : List Int) (S : Int) : List Int := grownB xs (max S.toNat xs.length)
theorem length_fillB (xs : List Int) (S : Int) : (fillB xs S).length = max S.toNat xs.length := length_grownB (by omega)
end Go.Proofs.Ytdijgpkcolpfoaa

/- What phoenixref.Bytes, cell.Join and the document's own Put and Fill answer, at every list of bytes; nothing that was there is written. -/
namespace Go.Proofs.Ytdijgpkcolpfoaa
open Go.RowKit
set_option linter.unusedVariables false

theorem hide {p : Prop} (h : p) : Hid p := h
theorem take_snoc (xs : List Int) (k : Nat) (h : k < xs.length) : xs.take (k + 1) = xs.take k ++ [xs.getD k 0] := by
  rw [List.take_succ_eq_append_getElem h, List.getD_eq_getElem?_getD, List.getElem?_eq_getElem h]
  rfl
theorem cellsOf_append (xs ys : List Int) : cellsOf (xs ++ ys) = cellsOf xs ++ cellsOf ys := by simp [cellsOf]
theorem Bytes.take {xs : List Int} (h : Bytes xs) (k : Nat) : Bytes (xs.take k) := fun x hx => h x (List.mem_of_mem_take hx)

/-- A list of bytes as a value: where it begins, its room, its bytes. -/
structure Part where
  ao : Option Addr
  cap : Nat
  xs : List Int
def Part.val (p : Part) : Value := .slice p.ao p.xs.length p.cap
def Part.isIn (w : World) (p : Part) : Prop := Row w p.ao p.xs ∧ (p.ao = none → p.xs = [] ∧ p.cap = 0)
/-- The slice of slices that begins at 'oo' reads in w as the parts ls. -/
def Rows2 (w : World) (oo : Option Addr) (ls : List Part) : Prop :=
  ls.length ≤ 4294967296 ∧ (∀ p ∈ ls, p.isIn w) ∧ (0 < ls.length → ∃ b off, oo = some ⟨b, off, none⟩ ∧ b < w.heap.size ∧ ∀ i (hi : i < ls.length), w.cell? ⟨b, off + i, none⟩ = some ls[i].val)
def joinB (ls : List Part) : List Int := (ls.map (·.xs)).flatten
theorem joinB_snoc (ls : List Part) (k : Nat) (h : k < ls.length) : joinB (ls.take (k + 1)) = joinB (ls.take k) ++ ls[k].xs := by
  unfold joinB
  rw [List.take_succ_eq_append_getElem h, List.map_append, List.flatten_append]
  simp only [List.map_cons, List.map_nil, List.flatten_cons, List.flatten_nil, List.append_nil]
theorem joinB_le (ls : List Part) (k : Nat) : (joinB (ls.take k)).length ≤ (joinB ls).length := by
  unfold joinB
  conv => rhs; rw [← List.take_append_drop k ls]
  simp only [List.map_append, List.flatten_append, List.length_append]
  omega
theorem own_shape {w : World} {B e n : Nat} {v : Value} {cs : List Value} (h : w.ownsRow B e 1 v n cs) : ∃ ao cap, v = .slice ao n cap := by
  rcases h.2 with ⟨h1, h2⟩ | ⟨g, cap, cur, h1, _⟩
  · exact ⟨none, 0, by rw [h1, h2]⟩
  · exact ⟨_, cap, h1⟩
theorem Bytes.append {xs ys : List Int} (h : Bytes xs) (h' : Bytes ys) : Bytes (xs ++ ys) := by
  intro x hx
  rcases List.mem_append.1 hx with h1 | h1
  · exact h x h1
  · exact h' x h1

end Go.Proofs.Ytdijgpkcolpfoaa

/- The chapter's examples, as the statements ask them first: they hold, and nothing that was there is written. -/
namespace Go.Proofs.Ytdijgpkcolpfoaa
open Go.RowKit
set_option linter.unusedVariables false

theorem first_row (w : World) : Row (w.alloc (.cells #[.int .u8 0, .int .u8 0] 5)) (some ⟨w.heap.size, 0, none⟩) [0, 0] := by
  refine ⟨by simp, fun x hx => by simp at hx; omega, fun _ => ⟨w.heap.size, 0, rfl, by simp, fun i hi => ?_⟩⟩
  match i, hi with
  | 0, _ => simp
  | 1, _ => simp
theorem first_put : putB [0, 0] 0 258 (widthB 2).toNat = [2, 1] := by decide
theorem first_get : getB [] 0 (widthB 8).toNat = 0 := by decide
theorem first_zero : zeroB [2, 1] = false := by decide

end Go.Proofs.Ytdijgpkcolpfoaa
