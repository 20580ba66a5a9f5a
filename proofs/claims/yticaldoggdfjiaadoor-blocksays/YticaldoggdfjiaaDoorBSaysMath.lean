
/- The answers of block.Bytes, block.Read and of the document's own functions, told alike: what is the same of both. -/
import Derived.Test.YticaldoggdfjiaaDoorBlockRef2
import Derived.Test.YticaldoggdfjiaaDoorBlockTools
import Derived.Test.YticaldoggdfjiaaDoorSaysMem
namespace Go.Proofs.YticaldoggdfjiaaDoor
open Go.RowKit
set_option linter.unusedVariables false

/-- An error as a value, and as a number. -/
def ErrCode (a : Nat → Addr) (fv : Value) (cd : Int) : Prop := (fv = .nilIface ∧ cd = 0) ∨ ∃ i, i < 18 ∧ fv = errV (a i) ∧ cd = 101 + (i : Int)
theorem is_code {w : World} {a : Nat → Addr} {fv : Value} {cd : Int} (h : ErrCode a fv cd) (he : ErrsOf w all18 a) : Calls Tryd.prog 16 #[fv, .int .i64 cd] w fun e w' => e = .returned (.bool true) ∧ Below w.heap.size w w' := by
  rcases h with ⟨rfl, rfl⟩ | ⟨i, hi, rfl, rfl⟩
  · exact is_ok w
  · exact is_err w a i hi _ rfl he
def ansB (e : Int) (rs : List R) : List Int := if okB e rs then blockB e rs else []
def codB (e : Int) (rs : List R) : Int := if okB e rs then 0 else 102
theorem ansB_len (e : Int) (rs : List R) : (ansB e rs).length = 256 ∨ (ansB e rs).length = 0 := by
  unfold ansB
  cases h : okB e rs with
  | true => exact .inl (length_blockB _ _ ((okB_iff e rs).1 h).1.2.2.2)
  | false => exact .inr rfl
theorem bb_uni {e : Int} {ao : Option Addr} {n cap : Nat} {rs : List R} {w : World} {a : Nat → Addr} (hE : BlkErrs w (a 1) (a 2) (a 3) (a 4)) (h : RecRow w ao rs) (hn : rs.length = n) :
    Calls Tryd.prog 25 #[.int .i64 e, .slice ao n cap] w fun r w' => ∃ xo xn xc fv, r = .returned (.tuple #[.slice xo xn xc, fv]) ∧ (ansB e rs).length = xn ∧ Row w' xo (ansB e rs) ∧ ErrCode a fv (codB e rs) ∧ Below w.heap.size w w' := by
  refine (bb_any e ao n cap rs w _ hE.rd.range h hn).mono ?_
  rintro r w' ⟨⟨hok, g, rfl, _, hown⟩ | ⟨hok, rfl⟩, hb⟩
  · have h1 : ansB e rs = blockB e rs := by unfold ansB; rw [hok]; rfl
    have h2 : codB e rs = 0 := by unfold codB; rw [hok]; rfl
    rw [h1, h2]
    exact ⟨_, 256, 256, _, rfl, length_blockB _ _ ((okB_iff e rs).1 hok).1.2.2.2, hown.row, .inl ⟨rfl, rfl⟩, hb⟩
  · have h1 : ansB e rs = [] := by unfold ansB; rw [hok]; rfl
    have h2 : codB e rs = 102 := by unfold codB; rw [hok]; rfl
    rw [h1, h2]
    exact ⟨none, 0, 0, _, rfl, rfl, row_nil _, .inr ⟨1, by omega, rfl, by omega⟩, hb⟩
theorem rb_uni {e : Int} {ao : Option Addr} {n cap : Nat} {rs : List R} {w : World} (h : RecRow w ao rs) (hn : rs.length = n) :
    Calls Tryd.prog 29 #[.int .i64 e, .slice ao n cap] w fun r w' => ∃ xo xn xc, r = .returned (.tuple #[.slice xo xn xc, .int .i64 (codB e rs)]) ∧ (ansB e rs).length = xn ∧ xn ≤ xc ∧ Row w' xo (ansB e rs) ∧ Below w.heap.size w w' := by
  refine (rb_any e ao n cap rs w h hn).mono ?_
  rintro r w' ⟨⟨hok, g, c, rfl, hg, hown⟩ | ⟨hok, rfl⟩, hb⟩
  · have h1 : ansB e rs = blockB e rs := by unfold ansB; rw [hok]; rfl
    have h2 : codB e rs = 0 := by unfold codB; rw [hok]; rfl
    rw [h1, h2]
    exact ⟨_, 256, c, rfl, length_blockB _ _ ((okB_iff e rs).1 hok).1.2.2.2, hg.2, hown.row, hb⟩
  · have h1 : ansB e rs = [] := by unfold ansB; rw [hok]; rfl
    have h2 : codB e rs = 102 := by unfold codB; rw [hok]; rfl
    rw [h1, h2]
    exact ⟨none, 0, 0, rfl, rfl, Nat.le_refl _, row_nil _, hb⟩
/-- What a list of bytes is as a block: its epoch, its records, the error's number. -/
def isAns (xs : List Int) : Bool := decide (xs.length = 256) && (!zeroB xs && isBlock xs)
def ansN (xs : List Int) : Int := if isAns xs then epochOf xs else 0
def ansR (xs : List Int) : List R := if isAns xs then recsOf xs else []
def ansC (xs : List Int) : Int := if xs.length ≠ 256 then 103 else if zeroB xs then 0 else if isBlock xs then 0 else 105
theorem ans_cases (xs : List Int) : (xs.length ≠ 256 ∧ ansN xs = 0 ∧ ansR xs = [] ∧ ansC xs = 103) ∨ (xs.length = 256 ∧ zeroB xs = true ∧ ansN xs = 0 ∧ ansR xs = [] ∧ ansC xs = 0) ∨ (xs.length = 256 ∧ zeroB xs = false ∧ isBlock xs = true ∧ ansN xs = epochOf xs ∧ ansR xs = recsOf xs ∧ ansC xs = 0) ∨ (xs.length = 256 ∧ zeroB xs = false ∧ isBlock xs = false ∧ ansN xs = 0 ∧ ansR xs = [] ∧ ansC xs = 105) := by
  by_cases hl : xs.length = 256
  · cases hz : zeroB xs with
    | true => exact .inr (.inl ⟨hl, rfl, by simp [ansN, isAns, hz], by simp [ansR, isAns, hz], by simp [ansC, hl, hz]⟩)
    | false =>
      cases hb : isBlock xs with
      | true => exact .inr (.inr (.inl ⟨hl, rfl, rfl, by simp [ansN, isAns, hl, hz, hb], by simp [ansR, isAns, hl, hz, hb], by simp [ansC, hl, hz, hb]⟩))
      | false => exact .inr (.inr (.inr ⟨hl, rfl, rfl, by simp [ansN, isAns, hb], by simp [ansR, isAns, hb], by simp [ansC, hl, hz, hb]⟩))
  · exact .inl ⟨hl, by simp [ansN, isAns, hl], by simp [ansR, isAns, hl], by simp [ansC, hl]⟩
theorem read_uni {ao : Option Addr} {n cap : Nat} {xs : List Int} {w : World} {a : Nat → Addr} (hE : BlkErrs w (a 1) (a 2) (a 3) (a 4)) (h : Row w ao xs) (hn : xs.length = n) (hc : n ≤ cap) :
    Calls Tryd.prog 26 #[.slice ao n cap] w fun r w' => ∃ mo mk mc fv, r = .returned (.tuple #[.int .i64 (ansN xs), .slice mo mk mc, fv]) ∧ (ansR xs).length = mk ∧ RecRow w' mo (ansR xs) ∧ ErrCode a fv (ansC xs) ∧ Below w.heap.size w w' := by
  rcases ans_cases xs with ⟨h1, h2, h3, h4⟩ | ⟨h1, hz, h2, h3, h4⟩ | ⟨h1, hz, hi, h2, h3, h4⟩ | ⟨h1, hz, hi, h2, h3, h4⟩
  · rw [h2, h3, h4]
    exact (bread_short ao n cap w hE (by omega)).mono fun r w' hh => ⟨none, 0, 0, _, hh.1, rfl, recRow_nil _, .inr ⟨2, by omega, rfl, by omega⟩, hh.2⟩
  · rw [h2, h3, h4]
    rw [h1] at hn
    subst hn
    exact (bread_zero ao cap xs w h h1 hz).mono fun r w' hh => ⟨none, 0, 0, _, hh.1, rfl, recRow_nil _, .inl ⟨rfl, rfl⟩, hh.2⟩
  · rw [h2, h3, h4]
    rw [h1] at hn
    subst hn
    refine (bread_any ao cap xs w hE h h1 hc hz).mono ?_
    rintro r w' ⟨⟨_, mo, mc, rfl, hown⟩ | ⟨hj, _⟩, hb⟩
    · exact ⟨mo, _, mc, _, rfl, length_recsOf xs, hown.row, .inl ⟨rfl, rfl⟩, hb⟩
    · rw [hi] at hj; cases hj
  · rw [h2, h3, h4]
    rw [h1] at hn
    subst hn
    refine (bread_any ao cap xs w hE h h1 hc hz).mono ?_
    rintro r w' ⟨⟨hj, _⟩ | ⟨_, rfl⟩, hb⟩
    · rw [hi] at hj; cases hj
    · exact ⟨none, 0, 0, _, rfl, rfl, recRow_nil _, .inr ⟨4, by omega, rfl, by omega⟩, hb⟩
theorem rread_uni {ao : Option Addr} {n cap : Nat} {xs : List Int} {w : World} (h : Row w ao xs) (hn : xs.length = n) (hc : n ≤ cap) :
    Calls Tryd.prog 31 #[.slice ao n cap] w fun r w' => ∃ mo mk mc, r = .returned (.tuple #[.int .i64 (ansN xs), .slice mo mk mc, .int .i64 (ansC xs)]) ∧ (ansR xs).length = mk ∧ RecRow w' mo (ansR xs) ∧ Below w.heap.size w w' := by
  rcases ans_cases xs with ⟨h1, h2, h3, h4⟩ | ⟨h1, hz, h2, h3, h4⟩ | ⟨h1, hz, hi, h2, h3, h4⟩ | ⟨h1, hz, hi, h2, h3, h4⟩
  · rw [h2, h3, h4]
    exact (rread_short ao n cap w (by omega)).mono fun r w' hh => ⟨none, 0, 0, hh.1, rfl, recRow_nil _, hh.2⟩
  · rw [h2, h3, h4]
    rw [h1] at hn
    subst hn
    exact (rread_zero ao cap xs w h h1 hz).mono fun r w' hh => ⟨none, 0, 0, hh.1, rfl, recRow_nil _, hh.2⟩
  · rw [h2, h3, h4]
    rw [h1] at hn
    subst hn
    refine (rread_any ao cap xs w h h1 hc hz).mono ?_
    rintro r w' ⟨⟨_, mo, mc, rfl, hown⟩ | ⟨hj, _⟩, hb⟩
    · exact ⟨mo, _, mc, rfl, length_recsOf xs, hown.row, hb⟩
    · rw [hi] at hj; cases hj
  · rw [h2, h3, h4]
    rw [h1] at hn
    subst hn
    refine (rread_any ao cap xs w h h1 hc hz).mono ?_
    rintro r w' ⟨⟨hj, _⟩ | ⟨_, rfl⟩, hb⟩
    · rw [hi] at hj; cases hj
    · exact ⟨none, 0, 0, rfl, rfl, recRow_nil _, hb⟩
theorem Cells10.under {w w' : World} {B n : Nat} {r : R} (h : Cells10 w B r) (hb : Below n w w') (hn : B < n) : Cells10 w' B r := by
  have h0 : ∀ o, w'.cell? ⟨B, o, none⟩ = w.cell? ⟨B, o, none⟩ := fun o => hb.cell (show B < n from hn)
  exact ⟨(h0 _).trans h.c0, (h0 _).trans h.c1, (h0 _).trans h.c2, (h0 _).trans h.c3, (h0 _).trans h.c4, (h0 _).trans h.c5, (h0 _).trans h.c6, (h0 _).trans h.c7, (h0 _).trans h.c8, (h0 _).trans h.c9, Nat.lt_of_lt_of_le h.lt hb.size⟩
theorem recs_new2 {w x : World} {lo : Option Addr} {len cap : Nat} {zs : List Int} (most : Int) (hm0 : 0 ≤ most) (hm1 : most ≤ 8) (h : IsRow .i64 w lo len cap zs) (hl : len ≤ 150) (hb : Below w.heap.size w x) :
    Calls Tryd.prog 24 #[.pointer (some ⟨x.heap.size, 0, none⟩), .int .i64 most] (x.alloc (.cells #[.slice lo len cap, .int .i64 0] 30)) fun e w' => ∃ ao c k B, ∃ rs : List R, e = .returned (.slice ao k c) ∧ rs.length = k ∧ (k : Int) ≤ most ∧ (x.heap.size < B ∧ B ≤ w'.heap.size) ∧ OwnR w' B ao c rs ∧ (∃ n1, n1 ≤ 100 ∧ SeqAt w' x.heap.size lo len cap zs n1) ∧ Below x.heap.size x w' := by
  refine (recs_any most hm0 hm1 0 (by omega) x.heap.size lo len cap zs _ (seq_at h hl hb)).mono ?_
  rintro e w' ⟨ao, c, k, rs, rfl, hk, hkm, hown, hgood, ⟨n1, hn1, hS⟩, hbut⟩
  have hs : (x.alloc (.cells #[.slice lo len cap, .int .i64 0] 30)).heap.size = x.heap.size + 1 := by simp
  have hbx := (below_box x (.cells #[.slice lo len cap, .int .i64 0] 30)).trans (hbut.below (by omega))
  exact ⟨ao, c, k, _, rs, rfl, hk, hkm, ⟨by omega, hbut.size⟩, hown, ⟨n1, by omega, hS⟩, hbx⟩
theorem refFill_len {w : World} {ao : Option Addr} {m c : Nat} {xs : List Int} (h : Row w ao xs) (hm : xs.length = m) :
    Calls Tryd.prog 30 #[.slice ao m c, .int .i64 256] w fun e w' => ∃ bo n c', e = .returned (.slice bo n c') ∧ (fillB xs 256).length = n ∧ n ≤ c' ∧ Row w' bo (fillB xs 256) ∧ Below w.heap.size w w' := by
  subst hm
  refine (refFill_any ao c xs 256 w h (by omega)).mono ?_
  rintro e w' ⟨bo, c', rfl, hown, hb⟩
  exact ⟨bo, _, c', rfl, rfl, hown.le.1, hown.row, hb⟩
theorem cells4 {w : World} {x y z u : Value} {k : Nat} (hk : k < 4) : (w.alloc (.cells #[x, y, z, u] 24)).cell? ⟨w.heap.size, k, none⟩ = some ([x, y, z, u].getD k undef) := by
  rw [cell_row (heap_alloc_new w (.cells #[x, y, z, u] 24))]
  rcases (show k = 0 ∨ k = 1 ∨ k = 2 ∨ k = 3 by omega) with rfl | rfl | rfl | rfl <;> rfl
/-- One of four lists of bytes: where it lies, its bytes. -/
def Four (W : World) (G : Nat) : Prop := ∀ k, k < 4 → ∃ ao n c, ∃ xs : List Int, W.cell? ⟨G, k, none⟩ = some (.slice ao n c) ∧ Row W ao xs ∧ xs.length = n ∧ n ≤ c
theorem four_of {w : World} {o1 o2 o3 o4 : Option Addr} {n1 n2 n3 n4 c1 c2 c3 c4 : Nat} {x1 x2 x3 x4 : List Int} (h1 : Row w o1 x1 ∧ x1.length = n1 ∧ n1 ≤ c1) (h2 : Row w o2 x2 ∧ x2.length = n2 ∧ n2 ≤ c2) (h3 : Row w o3 x3 ∧ x3.length = n3 ∧ n3 ≤ c3) (h4 : Row w o4 x4 ∧ x4.length = n4 ∧ n4 ≤ c4) :
    Four (w.alloc (.cells #[.slice o1 n1 c1, .slice o2 n2 c2, .slice o3 n3 c3, .slice o4 n4 c4] 24)) w.heap.size := by
  intro k hk
  have hb := below_box w (.cells #[.slice o1 n1 c1, .slice o2 n2 c2, .slice o3 n3 c3, .slice o4 n4 c4] 24)
  have hc := cells4 (w := w) (x := .slice o1 n1 c1) (y := .slice o2 n2 c2) (z := .slice o3 n3 c3) (u := .slice o4 n4 c4) hk
  rcases (show k = 0 ∨ k = 1 ∨ k = 2 ∨ k = 3 by omega) with rfl | rfl | rfl | rfl
  · exact ⟨_, _, _, x1, hc, h1.1.below hb (Nat.le_refl _), h1.2.1, h1.2.2⟩
  · exact ⟨_, _, _, x2, hc, h2.1.below hb (Nat.le_refl _), h2.2.1, h2.2.2⟩
  · exact ⟨_, _, _, x3, hc, h3.1.below hb (Nat.le_refl _), h3.2.1, h3.2.2⟩
  · exact ⟨_, _, _, x4, hc, h4.1.below hb (Nat.le_refl _), h4.2.1, h4.2.2⟩
theorem IsRow.le {w : World} {a : Option Addr} {len cap : Nat} {zs : List Int} (h : IsRow .u8 w a len cap zs) : len ≤ cap := by
  rcases h with ⟨_, h2, h3, _⟩ | ⟨a, rfl, h1, h2, h3, h4, h5⟩ <;> omega
end Go.Proofs.YticaldoggdfjiaaDoor
