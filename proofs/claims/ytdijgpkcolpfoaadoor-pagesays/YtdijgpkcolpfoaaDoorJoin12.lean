/- Lemmas and contracts that the law stands on, joined: BlockBytes. -/
import Derived.Test.YtdijgpkcolpfoaaDoorJoin11
import Derived.Test.YtdijgpkcolpfoaaDoorJoin4
import Derived.Test.YtdijgpkcolpfoaaDoorJoin8
/- What block.Bytes answers: ErrRange of a block that may not be; else its bytes, in new memory; nothing that was there is written. -/
namespace Go.Proofs.YtdijgpkcolpfoaaDoor
open Go.RowKit
set_option linter.unusedVariables false

theorem mark_row (w : World) : Row (w.alloc (.cells #[.int .u8 80, .int .u8 72, .int .u8 88, .int .u8 66] 5)) (some ⟨w.heap.size, 0, none⟩) [80, 72, 88, 66] := by
  refine ⟨by simp, bytes_head0, fun _ => ⟨_, _, rfl, by simp, fun i hi => ?_⟩⟩
  have hi4 : i < 4 := hi
  rw [Nat.zero_add, cell_row (heap_alloc_new w (.cells #[.int .u8 80, .int .u8 72, .int .u8 88, .int .u8 66] 5))]
  rcases (show i = 0 ∨ i = 1 ∨ i = 2 ∨ i = 3 by omega) with rfl | rfl | rfl | rfl <;> rfl
def mark0 : List Int := fillB [80, 72, 88, 66] 16
def mark1 (e : Int) : List Int := putB mark0 4 e 4
theorem length_mark0 : mark0.length = 16 := by rw [mark0, length_fillB]; rfl
theorem length_mark1 (e : Int) : (mark1 e).length = 16 := by rw [mark1, length_putB, length_mark0]
theorem fill_mark (g : Nat) (w : World) (h : Row w (some ⟨g, 0, none⟩) [80, 72, 88, 66]) :
    Calls Tryd.prog 28 #[.slice (some ⟨g, 0, none⟩) 4 4, .int .i64 16] w fun e w' => ∃ g, e = .returned (.slice (some ⟨g, 0, none⟩) 16 16) ∧ Own w' g (some ⟨g, 0, none⟩) 16 mark0 ∧ Below w.heap.size w w' := by
  have h1 := fill_any (some ⟨g, 0, none⟩) 4 [80, 72, 88, 66] 16 w h (by omega)
  rw [show (fillB [80, 72, 88, 66] 16).length = 16 from length_mark0] at h1
  exact h1.mono fun e w' h => ⟨_, h⟩
theorem rows_of_two {w : World} {a b : Part} (ha : a.isIn w) (hb : b.isIn w) : Rows2 (w.alloc (.cells #[a.val, b.val] 26)) (some ⟨w.heap.size, 0, none⟩) [a, b] := by
  have hbel := below_box w (.cells #[a.val, b.val] 26)
  refine ⟨by simp, fun p hp => ?_, fun _ => ⟨_, _, rfl, by simp, fun i hi => ?_⟩⟩
  · simp only [List.mem_cons, List.not_mem_nil, or_false] at hp
    rcases hp with rfl | rfl
    · exact ⟨ha.1.below hbel (Nat.le_refl _), ha.2⟩
    · exact ⟨hb.1.below hbel (Nat.le_refl _), hb.2⟩
  · have hi2 : i < 2 := hi
    rw [Nat.zero_add, cell_row (heap_alloc_new w (.cells #[a.val, b.val] 26))]
    rcases (show i = 0 ∨ i = 1 by omega) with rfl | rfl <;> rfl
theorem part_of_own {w : World} {B : Nat} {ao : Option Addr} {c : Nat} {xs : List Int} (h : Own w B ao c xs) : Part.isIn w ⟨ao, c, xs⟩ := by
  refine ⟨h.row, fun e => ?_⟩
  rcases h.le.2 with ⟨_, h2, h3⟩ | ⟨g, hg⟩
  · exact ⟨h2, h3⟩
  · simp only at e; rw [e] at hg; cases hg
theorem fill_256 {w : World} {ao : Option Addr} {m c : Nat} {xs : List Int} (h : Row w ao xs) (hm : xs.length = m) (hs : m ≤ 256) :
    Calls Tryd.prog 28 #[.slice ao m c, .int .i64 256] w fun e w' => ∃ g, e = .returned (.slice (some ⟨g, 0, none⟩) 256 256) ∧ w.heap.size ≤ g ∧ Own w' g (some ⟨g, 0, none⟩) 256 (fillB xs 256) ∧ Below w.heap.size w w' := by
  have h1 := fill_len ao m c xs 256 w h hm (by omega)
  rw [show max (256 : Int).toNat m = 256 by show max 256 m = 256; omega] at h1
  exact h1.mono fun e w' h => ⟨_, h.1, Nat.le_refl _, h.2.1, h.2.2⟩
/-- What block.Bytes answers. -/
def bbPost (e : Int) (rs : List R) (x : Addr) (w : World) (r : Ending) (w' : World) : Prop :=
  ((okB e rs = true ∧ ∃ g, r = .returned (.tuple #[.slice (some ⟨g, 0, none⟩) 256 256, .nilIface]) ∧ w.heap.size ≤ g ∧ Own w' g (some ⟨g, 0, none⟩) 256 (blockB e rs)) ∨ (okB e rs = false ∧ r = .returned (.tuple #[.slice none 0 0, errV x]))) ∧ Below w.heap.size w w'
theorem take_good {rs : List R} {k : Nat} {r : R} (h : ∀ x ∈ rs.take k, goodB x = true) (hr : rs[k]? = some r) (hg : goodB r = true) : ∀ x ∈ rs.take (k + 1), goodB x = true := by
  intro x hx
  rw [List.take_add_one, hr] at hx
  rcases List.mem_append.1 hx with h1 | h1
  · exact h x h1
  · simp at h1; subst h1; exact hg
theorem okB_no {e : Int} {rs : List R} {k : Nat} {r : R} (hr : rs[k]? = some r) (hg : goodB r = false) : okB e rs = false := by
  unfold okB
  rw [Bool.and_eq_false_iff]
  refine .inr ?_
  rw [List.all_eq_false]
  exact ⟨r, List.mem_of_getElem? hr, by rw [hg]; simp⟩
end Go.Proofs.YtdijgpkcolpfoaaDoor
