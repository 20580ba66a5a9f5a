/- Lemmas and contracts that the law stands on, joined: Frame. -/
import Derived.Test.YtjacenhblclkaaaDoorJoin4
import Derived.OpenShut
/- How the arguments of a statement read in memory (a list of bytes; numbers within their kinds), and how what was read stays while new memory is made. -/
namespace Go.Proofs.YtjacenhblclkaaaDoor
open Go.RowKit
set_option linter.unusedVariables false

/-- A slice of integers that came in: nil; or a row of 'cap' cells, the numbers 'zs', the first 'len' its elements. -/
def IsRow (k : IntKind) (w : World) (a : Option Addr) (len cap : Nat) (zs : List Int) : Prop :=
  (a = none ∧ len = 0 ∧ cap = 0 ∧ zs = []) ∨
  ∃ x, a = some x ∧ len ≤ cap ∧ cap ≤ maxLen ∧ zs.length = cap ∧ (∀ i, i < zs.length → w.cell? (x.add i) = some (.int k (zs.getD i 0))) ∧ ∀ n ∈ zs, (Lit.int k n).wf = true

theorem wf_i64 {x : Int} (h : (Lit.int .i64 x).wf = true) : -9223372036854775808 ≤ x ∧ x ≤ 9223372036854775807 := by
  simp [Lit.wf, IntKind.min, IntKind.max, IntKind.signed, IntKind.bits] at h
  exact ⟨by omega, by omega⟩
theorem wf_u64 {x : Int} (h : (Lit.int .u64 x).wf = true) : 0 ≤ x ∧ x ≤ 18446744073709551615 := by
  simp [Lit.wf, IntKind.min, IntKind.max, IntKind.signed, IntKind.bits] at h
  exact ⟨by omega, by omega⟩
theorem wf_u8 {x : Int} (h : (Lit.int .u8 x).wf = true) : 0 ≤ x ∧ x ≤ 255 := by
  simp [Lit.wf, IntKind.min, IntKind.max, IntKind.signed, IntKind.bits] at h
  exact ⟨by omega, by omega⟩
theorem wf_u32 {x : Int} (h : (Lit.int .u32 x).wf = true) : 0 ≤ x ∧ x ≤ 4294967295 := by
  simp [Lit.wf, IntKind.min, IntKind.max, IntKind.signed, IntKind.bits] at h
  exact ⟨by omega, by omega⟩

theorem getD_take {zs : List Int} {n i : Nat} (h : i < n) : (zs.take n).getD i 0 = zs.getD i 0 := by
  rw [List.getD_eq_getElem?_getD, List.getD_eq_getElem?_getD, List.getElem?_take, if_pos h]

theorem IsRow.part {w : World} {a : Option Addr} {len cap : Nat} {zs : List Int} (h : IsRow .u8 w a len cap zs) (hl : len ≤ 4294967296) : ∃ xs : List Int, xs.length = len ∧ Row w a xs ∧ (a = none → xs = [] ∧ cap = 0) := by
  rcases h with ⟨rfl, rfl, rfl, rfl⟩ | ⟨x, rfl, h1, h2, h3, h4, h5⟩
  · exact ⟨[], rfl, row_nil w, fun _ => ⟨rfl, rfl⟩⟩
  · refine ⟨zs.take len, by simp; omega, ⟨by simp; omega, fun y hy => wf_u8 (h5 y (List.mem_of_mem_take hy)), fun hp => ?_⟩, fun e => by simp at e⟩
    have hlen : (zs.take len).length = len := by simp; omega
    rw [hlen] at hp ⊢
    obtain ⟨b, off, spot⟩ := x
    have hspot : spot = none := by
      have hc := h4 0 (by omega)
      simpa [Addr.add] using World.cell?_spot hc
    subst hspot
    have hb : b < w.heap.size := by
      have hc := h4 0 (by omega)
      exact World.block_lt_of_cell? w _ hc
    refine ⟨b, off, rfl, hb, fun i hi => ?_⟩
    have := h4 i (by omega)
    rw [Addr.add_lit] at this
    rw [this, getD_take hi]

/-- In w, which comes behind w0, the list of bytes at 'ao' still reads as xs; nothing that was there in w0 has turned. -/
def St (w0 w : World) (ao : Option Addr) (xs : List Int) : Prop := Row w ao xs ∧ Below w0.heap.size w0 w
theorem St.refl {w : World} {ao : Option Addr} {xs : List Int} (h : Row w ao xs) : St w w ao xs := ⟨h, Below.refl _ _⟩
theorem St.step {w0 w w' : World} {ao : Option Addr} {xs : List Int} (h : St w0 w ao xs) (hb : Below w.heap.size w w') : St w0 w' ao xs := ⟨h.1.below hb (Nat.le_refl _), over h.2 hb h.2.size⟩
theorem St.drewN {w0 w : World} {ao : Option Addr} {xs : List Int} (h : St w0 w ao xs) (n : Nat) : St w0 (w.drewN n) ao xs := ⟨h.1.drewN n, below_drewN h.2 n⟩
theorem made_cells (n : Nat) : (madeCells (Value.int .u8 0).cells (n * 1)).toList = cellsOf (List.replicate n 0) := by
  have e2 : (Value.int .u8 0).cells = #[Value.int .u8 0] := rfl
  rw [e2, Nat.mul_one, toList_madeCells_one]
  simp [cellsOf]
theorem bytes_rep (n : Nat) : Bytes (List.replicate n 0) := fun x hx => by rw [(List.mem_replicate.1 hx).2]; omega
theorem own_made {w : World} {B : Nat} {v : Option Addr} {n : Nat} (h : w.ownsRow B 5 1 (.slice v n n) n (madeCells (Value.int .u8 0).cells (n * 1)).toList) (hn : n ≤ 4294967296) : Own w B v n (List.replicate n 0) := by
  rw [made_cells] at h
  refine ⟨?_, bytes_rep n, by simpa using hn⟩
  rw [List.length_replicate]
  exact h
theorem zero_rep (n : Nat) : zeroB (List.replicate n 0) = true := by simp [zeroB]
theorem get_len (ao : Option Addr) (n cap : Nat) (xs : List Int) (a s : Int) (w : World) (h : Row w ao xs) (hn : xs.length = n) (ha : -9223372036854775808 ≤ a) (ha' : a ≤ 9223372036854775807) :
    Calls Tryd.prog 73 #[.slice ao n cap, .int .i64 a, .int .i64 s] w fun e w' => e = .returned (.int .u64 (getB xs a (widthB s).toNat)) ∧ w' = w := by subst hn; exact get_any ao cap xs a s w h ha ha'
theorem put_len (ao : Option Addr) (l cap : Nat) (xs : List Int) (a s n : Int) (w : World) (h : Row w ao xs) (hl : xs.length = l) (ha : -9223372036854775808 ≤ a) (ha' : a ≤ 9223372036854775807) (hn : 0 ≤ n) (hn' : n ≤ 18446744073709551615) :
    Calls Tryd.prog 75 #[.slice ao l cap, .int .i64 a, .int .i64 s, .int .u64 n] w fun e w' => e = .returned (.slice (some ⟨w.heap.size, 0, none⟩) l l) ∧ Own w' w.heap.size (some ⟨w.heap.size, 0, none⟩) l (putB xs a n (widthB s).toNat) ∧ Below w.heap.size w w' := by subst hl; exact put_any ao cap xs a s n w h ha ha' hn hn'
theorem rows2_nil (w : World) : Rows2 w none [] := ⟨by simp, fun p hp => by simp at hp, fun h => by simp at h⟩
end Go.Proofs.YtjacenhblclkaaaDoor
