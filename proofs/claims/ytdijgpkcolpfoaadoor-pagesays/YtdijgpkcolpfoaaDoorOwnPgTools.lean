
/- An error as a value and as a number; a table of four lists of bytes; a byte that is turned: for walks that do not stand on the texts over blocks (the same words as BSaysMath's and BlockTools': never import both). -/
import Derived.Test.YtdijgpkcolpfoaaDoorJoin4
import Derived.Test.YtdijgpkcolpfoaaDoorJoin5
import Derived.Test.YtdijgpkcolpfoaaDoorJoin8
import Derived.Test.YtdijgpkcolpfoaaDoorJoin9
namespace Go.Proofs.YtdijgpkcolpfoaaDoor
open Go.RowKit
set_option linter.unusedVariables false

theorem xor_bd (x y : Int) : 0 ≤ bits .xor .u8 x y ∧ bits .xor .u8 x y ≤ 255 := wf_u8 (wf_bits .xor .u8 x y)
/-- An error as a value, and as a number. -/
def ErrCode (a : Nat → Addr) (fv : Value) (cd : Int) : Prop := (fv = .nilIface ∧ cd = 0) ∨ ∃ i, i < 18 ∧ fv = errV (a i) ∧ cd = 101 + (i : Int)
theorem is_code {w : World} {a : Nat → Addr} {fv : Value} {cd : Int} (h : ErrCode a fv cd) (he : ErrsOf w all18 a) : Calls Tryd.prog 10 #[fv, .int .i64 cd] w fun e w' => e = .returned (.bool true) ∧ Below w.heap.size w w' := by
  rcases h with ⟨rfl, rfl⟩ | ⟨i, hi, rfl, rfl⟩
  · exact is_ok w
  · exact is_err w a i hi _ rfl he
theorem refFill_len {w : World} {ao : Option Addr} {m c : Nat} {xs : List Int} (h : Row w ao xs) (hm : xs.length = m) :
    Calls Tryd.prog 15 #[.slice ao m c, .int .i64 256] w fun e w' => ∃ bo n c', e = .returned (.slice bo n c') ∧ (fillB xs 256).length = n ∧ n ≤ c' ∧ Row w' bo (fillB xs 256) ∧ Below w.heap.size w w' := by
  subst hm
  refine (refFill_any ao c xs 256 w h (by omega)).mono ?_
  rintro e w' ⟨bo, c', rfl, hown, hb⟩
  exact ⟨bo, _, c', rfl, rfl, hown.le.1, hown.row, hb⟩
theorem cells4 {w : World} {x y z u : Value} {k : Nat} (hk : k < 4) : (w.alloc (.cells #[x, y, z, u] 26)).cell? ⟨w.heap.size, k, none⟩ = some ([x, y, z, u].getD k undef) := by
  rw [cell_row (heap_alloc_new w (.cells #[x, y, z, u] 26))]
  rcases (show k = 0 ∨ k = 1 ∨ k = 2 ∨ k = 3 by omega) with rfl | rfl | rfl | rfl <;> rfl
/-- One of four lists of bytes: where it lies, its bytes. -/
def Four (W : World) (G : Nat) : Prop := ∀ k, k < 4 → ∃ ao n c, ∃ xs : List Int, W.cell? ⟨G, k, none⟩ = some (.slice ao n c) ∧ Row W ao xs ∧ xs.length = n ∧ n ≤ c
theorem four_of {w : World} {o1 o2 o3 o4 : Option Addr} {n1 n2 n3 n4 c1 c2 c3 c4 : Nat} {x1 x2 x3 x4 : List Int} (h1 : Row w o1 x1 ∧ x1.length = n1 ∧ n1 ≤ c1) (h2 : Row w o2 x2 ∧ x2.length = n2 ∧ n2 ≤ c2) (h3 : Row w o3 x3 ∧ x3.length = n3 ∧ n3 ≤ c3) (h4 : Row w o4 x4 ∧ x4.length = n4 ∧ n4 ≤ c4) :
    Four (w.alloc (.cells #[.slice o1 n1 c1, .slice o2 n2 c2, .slice o3 n3 c3, .slice o4 n4 c4] 26)) w.heap.size := by
  intro k hk
  have hb := below_box w (.cells #[.slice o1 n1 c1, .slice o2 n2 c2, .slice o3 n3 c3, .slice o4 n4 c4] 26)
  have hc := cells4 (w := w) (x := .slice o1 n1 c1) (y := .slice o2 n2 c2) (z := .slice o3 n3 c3) (u := .slice o4 n4 c4) hk
  rcases (show k = 0 ∨ k = 1 ∨ k = 2 ∨ k = 3 by omega) with rfl | rfl | rfl | rfl
  · exact ⟨_, _, _, x1, hc, h1.1.below hb (Nat.le_refl _), h1.2.1, h1.2.2⟩
  · exact ⟨_, _, _, x2, hc, h2.1.below hb (Nat.le_refl _), h2.2.1, h2.2.2⟩
  · exact ⟨_, _, _, x3, hc, h3.1.below hb (Nat.le_refl _), h3.2.1, h3.2.2⟩
  · exact ⟨_, _, _, x4, hc, h4.1.below hb (Nat.le_refl _), h4.2.1, h4.2.2⟩
theorem IsRow.le {w : World} {a : Option Addr} {len cap : Nat} {zs : List Int} (h : IsRow .u8 w a len cap zs) : len ≤ cap := by
  rcases h with ⟨_, h2, h3, _⟩ | ⟨a, rfl, h1, h2, h3, h4, h5⟩ <;> omega
end Go.Proofs.YtdijgpkcolpfoaaDoor
