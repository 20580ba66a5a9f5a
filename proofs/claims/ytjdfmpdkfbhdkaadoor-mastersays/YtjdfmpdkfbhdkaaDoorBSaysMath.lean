
/- The answers of block.Bytes, block.Read and of the document's own functions, told alike: what is the same of both. -/
import Derived.Test.YtjdfmpdkfbhdkaaDoorBlockRef2
import Derived.Test.YtjdfmpdkfbhdkaaDoorBlockTools
import Derived.Test.YtjdfmpdkfbhdkaaDoorSaysMem
namespace Go.Proofs.YtjdfmpdkfbhdkaaDoor
open Go.RowKit
set_option linter.unusedVariables false

/-- An error as a value, and as a number. -/
def ErrCode (a : Nat → Addr) (fv : Value) (cd : Int) : Prop := (fv = .nilIface ∧ cd = 0) ∨ ∃ i, i < 18 ∧ fv = errV (a i) ∧ cd = 101 + (i : Int)
theorem is_code {w : World} {a : Nat → Addr} {fv : Value} {cd : Int} (h : ErrCode a fv cd) (he : ErrsOf w all18 a) : Calls Tryd.prog 10 #[fv, .int .i64 cd] w fun e w' => e = .returned (.bool true) ∧ Below w.heap.size w w' := by
  rcases h with ⟨rfl, rfl⟩ | ⟨i, hi, rfl, rfl⟩
  · exact is_ok w
  · exact is_err w a i hi _ rfl he
def ansB (e : Int) (rs : List R) : List Int := if okB e rs then blockB e rs else []
def codB (e : Int) (rs : List R) : Int := if okB e rs then 0 else 102
theorem ansB_len (e : Int) (rs : List R) : (ansB e rs).length = 256 ∨ (ansB e rs).length = 0 := by
  unfold ansB
  cases h : okB e rs with
  | true => exact .inl (length_blockB _ _ ((okB_iff e rs).1 h).1.2.2.2)
  | false => exact .inr rfl
/-- What a list of bytes is as a block: its epoch, its records, the error's number. -/
def isAns (xs : List Int) : Bool := decide (xs.length = 256) && (!zeroB xs && isBlock xs)
def ansN (xs : List Int) : Int := if isAns xs then epochOf xs else 0
def ansR (xs : List Int) : List R := if isAns xs then recsOf xs else []
def ansC (xs : List Int) : Int := if xs.length ≠ 256 then 103 else if zeroB xs then 0 else if isBlock xs then 0 else 105
theorem ans_cases (xs : List Int) : (xs.length ≠ 256 ∧ ansN xs = 0 ∧ ansR xs = [] ∧ ansC xs = 103) ∨ (xs.length = 256 ∧ zeroB xs = true ∧ ansN xs = 0 ∧ ansR xs = [] ∧ ansC xs = 0) ∨ (xs.length = 256 ∧ zeroB xs = false ∧ isBlock xs = true ∧ ansN xs = epochOf xs ∧ ansR xs = recsOf xs ∧ ansC xs = 0) ∨ (xs.length = 256 ∧ zeroB xs = false ∧ isBlock xs = false ∧ ansN xs = 0 ∧ ansR xs = [] ∧ ansC xs = 105) := by
  by_cases hl : xs.length = 256
  · cases hz : zeroB xs with
    | true => exact .inr (.inl ⟨hl, rfl, by simp [ansN, isAns, hz], by simp [ansR, isAns, hz], by simp [ansC, hl, hz]⟩)
    | false =>
      cases hb : isBlock xs with
      | true => exact .inr (.inr (.inl ⟨hl, rfl, rfl, by simp [ansN, isAns, hl, hz, hb], by simp [ansR, isAns, hl, hz, hb], by simp [ansC, hl, hz, hb]⟩))
      | false => exact .inr (.inr (.inr ⟨hl, rfl, rfl, by simp [ansN, isAns, hb], by simp [ansR, isAns, hb], by simp [ansC, hl, hz, hb]⟩))
  · exact .inl ⟨hl, by simp [ansN, isAns, hl], by simp [ansR, isAns, hl], by simp [ansC, hl]⟩
theorem Cells10.under {w w' : World} {B n : Nat} {r : R} (h : Cells10 w B r) (hb : Below n w w') (hn : B < n) : Cells10 w' B r := by
  have h0 : ∀ o, w'.cell? ⟨B, o, none⟩ = w.cell? ⟨B, o, none⟩ := fun o => hb.cell (show B < n from hn)
  exact ⟨(h0 _).trans h.c0, (h0 _).trans h.c1, (h0 _).trans h.c2, (h0 _).trans h.c3, (h0 _).trans h.c4, (h0 _).trans h.c5, (h0 _).trans h.c6, (h0 _).trans h.c7, (h0 _).trans h.c8, (h0 _).trans h.c9, Nat.lt_of_lt_of_le h.lt hb.size⟩
theorem refFill_len {w : World} {ao : Option Addr} {m c : Nat} {xs : List Int} (h : Row w ao xs) (hm : xs.length = m) :
    Calls Tryd.prog 17 #[.slice ao m c, .int .i64 256] w fun e w' => ∃ bo n c', e = .returned (.slice bo n c') ∧ (fillB xs 256).length = n ∧ n ≤ c' ∧ Row w' bo (fillB xs 256) ∧ Below w.heap.size w w' := by
  subst hm
  refine (refFill_any ao c xs 256 w h (by omega)).mono ?_
  rintro e w' ⟨bo, c', rfl, hown, hb⟩
  exact ⟨bo, _, c', rfl, rfl, hown.le.1, hown.row, hb⟩
theorem cells4 {w : World} {x y z u : Value} {k : Nat} (hk : k < 4) : (w.alloc (.cells #[x, y, z, u] 24)).cell? ⟨w.heap.size, k, none⟩ = some ([x, y, z, u].getD k undef) := by
  rw [cell_row (heap_alloc_new w (.cells #[x, y, z, u] 24))]
  rcases (show k = 0 ∨ k = 1 ∨ k = 2 ∨ k = 3 by omega) with rfl | rfl | rfl | rfl <;> rfl
/-- One of four lists of bytes: where it lies, its bytes. -/
def Four (W : World) (G : Nat) : Prop := ∀ k, k < 4 → ∃ ao n c, ∃ xs : List Int, W.cell? ⟨G, k, none⟩ = some (.slice ao n c) ∧ Row W ao xs ∧ xs.length = n ∧ n ≤ c
theorem four_of {w : World} {o1 o2 o3 o4 : Option Addr} {n1 n2 n3 n4 c1 c2 c3 c4 : Nat} {x1 x2 x3 x4 : List Int} (h1 : Row w o1 x1 ∧ x1.length = n1 ∧ n1 ≤ c1) (h2 : Row w o2 x2 ∧ x2.length = n2 ∧ n2 ≤ c2) (h3 : Row w o3 x3 ∧ x3.length = n3 ∧ n3 ≤ c3) (h4 : Row w o4 x4 ∧ x4.length = n4 ∧ n4 ≤ c4) :
    Four (w.alloc (.cells #[.slice o1 n1 c1, .slice o2 n2 c2, .slice o3 n3 c3, .slice o4 n4 c4] 24)) w.heap.size := by
  intro k hk
  have hb := below_box w (.cells #[.slice o1 n1 c1, .slice o2 n2 c2, .slice o3 n3 c3, .slice o4 n4 c4] 24)
  have hc := cells4 (w := w) (x := .slice o1 n1 c1) (y := .slice o2 n2 c2) (z := .slice o3 n3 c3) (u := .slice o4 n4 c4) hk
  rcases (show k = 0 ∨ k = 1 ∨ k = 2 ∨ k = 3 by omega) with rfl | rfl | rfl | rfl
  · exact ⟨_, _, _, x1, hc, h1.1.below hb (Nat.le_refl _), h1.2.1, h1.2.2⟩
  · exact ⟨_, _, _, x2, hc, h2.1.below hb (Nat.le_refl _), h2.2.1, h2.2.2⟩
  · exact ⟨_, _, _, x3, hc, h3.1.below hb (Nat.le_refl _), h3.2.1, h3.2.2⟩
  · exact ⟨_, _, _, x4, hc, h4.1.below hb (Nat.le_refl _), h4.2.1, h4.2.2⟩
theorem IsRow.le {w : World} {a : Option Addr} {len cap : Nat} {zs : List Int} (h : IsRow .u8 w a len cap zs) : len ≤ cap := by
  rcases h with ⟨_, h2, h3, _⟩ | ⟨a, rfl, h1, h2, h3, h4, h5⟩ <;> omega
end Go.Proofs.YtjdfmpdkfbhdkaaDoor
