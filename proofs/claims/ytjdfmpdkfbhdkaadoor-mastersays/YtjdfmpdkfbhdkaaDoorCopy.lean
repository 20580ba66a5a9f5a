
/- What phoenixref.Bytes, cell.Join and the document's own Put and Fill answer, at every list of bytes; nothing that was there is written. -/
import Derived.Test.YtjdfmpdkfbhdkaaDoorMake
namespace Go.Proofs.YtjdfmpdkfbhdkaaDoor
open Go.RowKit
set_option linter.unusedVariables false

theorem hide {p : Prop} (h : p) : Hid p := h
theorem take_snoc (xs : List Int) (k : Nat) (h : k < xs.length) : xs.take (k + 1) = xs.take k ++ [xs.getD k 0] := by
  rw [List.take_succ_eq_append_getElem h, List.getD_eq_getElem?_getD, List.getElem?_eq_getElem h]
  rfl
theorem cellsOf_append (xs ys : List Int) : cellsOf (xs ++ ys) = cellsOf xs ++ cellsOf ys := by simp [cellsOf]
theorem Bytes.take {xs : List Int} (h : Bytes xs) (k : Nat) : Bytes (xs.take k) := fun x hx => h x (List.mem_of_mem_take hx)

set_option maxHeartbeats 1000000 in
theorem bytes_any (ao : Option Addr) (cap : Nat) (xs : List Int) (w : World) (h : Row w ao xs) :
    Calls Tryd.prog 15 #[.slice ao xs.length cap] w fun e w' => e = .returned (.slice (some ⟨w.heap.size, 0, none⟩) xs.length xs.length) ∧ Own w' w.heap.size (some ⟨w.heap.size, 0, none⟩) xs.length xs ∧ Below w.heap.size w w' := by
  obtain ⟨i0, hi, hz0, hz1, hz2⟩ := info_parts Tryd.info5
  have HR : Hid (Row w ao xs) := h
  obtain ⟨h0, h1, h2⟩ := h
  go_enter Tryd.func15, Tryd.ntmps15
  go_wp2_with (at_make; refine wpList_make_own w rfl (.const (.int .i64 0)) (.tmp 6) 24 rfl w.heap.size 5 i0 (.int .u8 0) 1 Tryd.underlying24 hi hz0 hz1 .i64 .i64 xs.length xs.length rfl rfl rfl (by rw [hz2]; omega) (by unfold maxLen; omega) (Nat.le_refl _) ?_; intro w1 hown hgr; have HB : Hid (Below w.heap.size w w1) := (Below.refl _ _).grown hgr (Nat.le_refl _) (by simp); have HO : Hid (w1.ownsRow w.heap.size 5 1 (.slice (some ⟨w.heap.size, 0, none⟩) 0 xs.length) 0 []) := hown; clear hown hgr)
  go_loopw [3, 4] (fun v i wr => ∃ k : Nat, k ≤ xs.length ∧ i = .int .i64 k ∧ v = .slice (some ⟨w.heap.size, 0, none⟩) k xs.length ∧ wr.ownsRow w.heap.size 5 1 (.slice (some ⟨w.heap.size, 0, none⟩) k xs.length) k (cellsOf (xs.take k)) ∧ Below w.heap.size w wr ) (fun _ i _ => xs.length - (intOf i).toNat)
  case atStart => exact ⟨0, by omega, rfl, rfl, by simpa [cellsOf] using HO.out, HB.out⟩
  case round =>
    obtain ⟨k, hk, rfl, rfl, hown, hbel⟩ := hrel
    have HO' : Hid (wr.ownsRow w.heap.size 5 1 (.slice (some ⟨w.heap.size, 0, none⟩) k xs.length) k (cellsOf (xs.take k))) := hown
    have HB' : Hid (Below w.heap.size w wr) := hbel
    clear hown hbel
    by_cases hlt : k < xs.length
    · obtain ⟨b, off, rfl, hb, hc⟩ := h2 (by omega)
      have hcp := hc k hlt
      have hT : xs.take (k + 1) = xs.take k ++ [xs.getD k 0] := take_snoc xs k hlt
      obtain ⟨y, hy⟩ : ∃ y, y = xs.getD k 0 := ⟨_, rfl⟩
      rw [← hy] at hcp hT
      have HT : Hid (xs.take (k + 1) = xs.take k ++ [y]) := hT
      have hcr : wr.cell? ⟨b, off + k, none⟩ = some (.int .u8 y) := by rw [HB'.out.cell (by exact hb)]; exact hcp
      clear hy hc h2 hT hcp
      go_wp2_with (at_builtin; refine wpList_append_fits _ rfl (.tmp 14) (.tmp 19) 24 rfl w.heap.size 5 i0 1 Tryd.underlying24 hi hz1 w.heap.size k xs.length (cellsOf (xs.take k)) rfl (HO'.out.alloc _) ⟨wr.heap.size, 0, none⟩ 1 1 [.int .u8 y] rfl rfl (cell_one_new _ _ _) (oneCell_cellsOf [y]) (by omega) ?_; intro w2 hown2 hgr2; have HO2 : Hid (w2.ownsRow w.heap.size 5 1 (.slice (some ⟨w.heap.size, 0, none⟩) (k + 1) xs.length) (k + 1) (cellsOf (xs.take k) ++ [.int .u8 y])) := hown2; have HG2 : Hid ((wr.alloc (.cells #[.int .u8 y] 5)).grownBy w2 (some w.heap.size)) := hgr2; clear hown2 hgr2)
      go_roundw
      case rel =>
        refine ⟨k + 1, by omega, by go_num, rfl, ?_, ?_⟩
        · rw [HT.out, cellsOf_append]; exact HO2.out
        · have hs := HB'.out.size
          exact (HB'.out.alloc (by omega) _).grown HG2.out (by simp; omega) (fun j e => by cases e; exact Nat.le_refl _)
      case measure => simp [intOf]; omega
    · go_wp2_with fail
      go_ret
      have hk' : k = xs.length := by omega
      subst hk'
      refine ⟨rfl, ⟨?_, h1, h0⟩, HB'.out⟩
      have := HO'.out
      rw [List.take_length] at this
      exact this

/-- A list of bytes as a value: where it begins, its room, its bytes. -/
structure Part where
  ao : Option Addr
  cap : Nat
  xs : List Int
def Part.val (p : Part) : Value := .slice p.ao p.xs.length p.cap
def Part.isIn (w : World) (p : Part) : Prop := Row w p.ao p.xs ∧ (p.ao = none → p.xs = [] ∧ p.cap = 0)
/-- The slice of slices that begins at 'oo' reads in w as the parts ls. -/
def Rows2 (w : World) (oo : Option Addr) (ls : List Part) : Prop :=
  ls.length ≤ 4294967296 ∧ (∀ p ∈ ls, p.isIn w) ∧ (0 < ls.length → ∃ b off, oo = some ⟨b, off, none⟩ ∧ b < w.heap.size ∧ ∀ i (hi : i < ls.length), w.cell? ⟨b, off + i, none⟩ = some ls[i].val)
def joinB (ls : List Part) : List Int := (ls.map (·.xs)).flatten
theorem joinB_snoc (ls : List Part) (k : Nat) (h : k < ls.length) : joinB (ls.take (k + 1)) = joinB (ls.take k) ++ ls[k].xs := by
  unfold joinB
  rw [List.take_succ_eq_append_getElem h, List.map_append, List.flatten_append]
  simp only [List.map_cons, List.map_nil, List.flatten_cons, List.flatten_nil, List.append_nil]
theorem joinB_le (ls : List Part) (k : Nat) : (joinB (ls.take k)).length ≤ (joinB ls).length := by
  unfold joinB
  conv => rhs; rw [← List.take_append_drop k ls]
  simp only [List.map_append, List.flatten_append, List.length_append]
  omega
theorem own_shape {w : World} {B e n : Nat} {v : Value} {cs : List Value} (h : w.ownsRow B e 1 v n cs) : ∃ ao cap, v = .slice ao n cap := by
  rcases h.2 with ⟨h1, h2⟩ | ⟨g, cap, cur, h1, _⟩
  · exact ⟨none, 0, by rw [h1, h2]⟩
  · exact ⟨_, cap, h1⟩
theorem Bytes.append {xs ys : List Int} (h : Bytes xs) (h' : Bytes ys) : Bytes (xs ++ ys) := by
  intro x hx
  rcases List.mem_append.1 hx with h1 | h1
  · exact h x h1
  · exact h' x h1

end Go.Proofs.YtjdfmpdkfbhdkaaDoor
