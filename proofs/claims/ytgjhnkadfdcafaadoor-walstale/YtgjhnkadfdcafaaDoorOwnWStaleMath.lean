
/- Plain lemmas on what is read where one block is of another boot, or none. No Go text here. -/
import Derived.Test.YtgjhnkadfdcafaaDoorJoin29
namespace Go.Proofs.YtgjhnkadfdcafaaDoor
open Go.RowKit
set_option linter.unusedVariables false

def ckR : R := ⟨7, 0, 0, 0, 0, 0, false, false, 0, 0⟩
theorem ckR_good : goodB ckR = true ∧ ckR.fits := ⟨by decide, by unfold R.fits ckR; simp⟩
def cks (n : Nat) : List R := List.replicate n ckR
theorem length_cks (n : Nat) : (cks n).length = n := List.length_replicate ..
theorem cks_snoc (n : Nat) : cks n ++ [ckR] = cks (n + 1) := by unfold cks; rw [List.replicate_succ']
theorem cks_add (n m : Nat) : cks n ++ cks m = cks (n + m) := by unfold cks; rw [List.replicate_append_replicate]
theorem cks_take (n m : Nat) (h : m ≤ n) : (cks n).take m = cks m := by unfold cks; rw [List.take_replicate, Nat.min_eq_left h]
theorem cks_good (n : Nat) : ∀ r ∈ cks n, goodB r = true ∧ r.fits := fun r hr => by rw [(List.mem_replicate.1 hr).2]; exact ckR_good
/-- Blocks of that kind. -/
def ckB (e : Int) (n : Nat) : List Int := blockB e (cks n)
theorem ans_ckB {e : Int} {n : Nat} (he : 1 ≤ e ∧ e ≤ 1073741824) (h0 : 1 ≤ n) (h6 : n ≤ 6) : ansN (ckB e n) = e ∧ ansR (ckB e n) = cks n ∧ ansC (ckB e n) = 0 :=
  ans_block he (by rw [length_cks]; exact h0) (by rw [length_cks]; exact h6) (cks_good n)
theorem ans_zero : ansR (fillOf 0) = [] ∧ ansC (fillOf 0) = 0 := by
  rcases ans_cases (fillOf 0) with ⟨q, _⟩ | ⟨_, _, _, q2, q3⟩ | ⟨_, q, _⟩ | ⟨_, q, _⟩
  · exact absurd (length_fillOf 0) q
  · exact ⟨q2, q3⟩
  · rw [zero_fill] at q; cases q
  · rw [zero_fill] at q; cases q
/-- A block whose first byte was turned is none. -/
theorem ans_turned (e : Int) (n : Nat) (h6 : n ≤ 6) : ansC ((ckB e n).set 0 7) ≠ 0 := by
  have hl : (ckB e n).length = 256 := length_blockB _ _ (by rw [length_cks]; exact h6)
  have hl2 : ((ckB e n).set 0 7).length = 256 := by rw [List.length_set]; exact hl
  have hb : byteAt ((ckB e n).set 0 7) 0 = 7 := byteAt_set _ 0 7 (by rw [hl]; omega)
  rcases ans_cases ((ckB e n).set 0 7) with ⟨q, _⟩ | ⟨_, q, _⟩ | ⟨_, _, q, _⟩ | ⟨_, _, _, _, _, q⟩
  · exact absurd hl2 q
  · have h7 : ((ckB e n).set 0 7).getD 0 0 = 7 := by
      unfold byteAt at hb
      rw [if_pos (by rw [hl2]; decide)] at hb
      exact hb
    have := zeroB_false (xs := (ckB e n).set 0 7) (i := 0) (by rw [hl2]; omega) (by rw [h7]; decide)
    rw [this] at q
    cases q
  · unfold isBlock at q
    simp only [Bool.and_eq_true, decide_eq_true_eq] at q
    have h8 := blockB_mark (epochOf ((ckB e n).set 0 7)) (recsOf ((ckB e n).set 0 7)) 0 (by omega)
    rw [q.2.2, hb] at h8
    exact absurd h8 (by decide)
  · rw [q]; decide
/-- Full blocks of boot 10, one behind the other. -/
theorem open_run (rd : Nat → List Int) : ∀ t m k least acc, (∀ j, k ≤ j → j < k + t → rd j = ckB 10 6) → least ≤ 10 → openUp rd 20 (m + t) k least acc = openUp rd 20 m (k + t) (if t = 0 then least else 10) (acc ++ cks (6 * t)) := by
  intro t
  induction t with
  | zero => intro m k least acc _ _; simp [cks]
  | succ t ih =>
    intro m k least acc h hl
    obtain ⟨a1, a2, a3⟩ := ans_ckB (e := 10) (n := 6) (by omega) (by omega) (by omega)
    have hk := h k (Nat.le_refl _) (by omega)
    rw [show m + (t + 1) = (m + t) + 1 by omega, open_full (by rw [hk]; exact a3) (by rw [hk, a1]; omega) (by rw [hk, a1]; exact hl) (by rw [hk, a2, length_cks]), ih m (k + 1) _ _ (fun j h1 h2 => h j (by omega) (by omega)) (by rw [hk, a1]; omega), hk, a1, a2, List.append_assoc, cks_add, if_neg (show ¬ t + 1 = 0 by omega), show k + 1 + t = k + (t + 1) by omega, show 6 + 6 * t = 6 * (t + 1) by omega, show (if t = 0 then (10 : Int) else 10) = 10 by split <;> rfl]
/-- What lies there: n full blocks of boot 10, zeros behind them, but for block 'at'. -/
def rdS (n at_ : Nat) (B : List Int) (k : Nat) : List Int := if k = at_ then B else if k < n then ckB 10 6 else fillOf 0
section
variable {n at_ : Nat} {B : List Int} {rd : Nat → List Int}
theorem stale_far (hr : ∀ k, k < 8 → rd k = rdS n at_ B k) (hn : n ≤ 5) (h : n < at_) : openUp rd 20 8 0 5 [] = (cks (6 * n), -1) := by
  have hrun := open_run rd n (8 - n) 0 5 [] (fun j _ hj => by rw [hr j (by omega), rdS, if_neg (by omega), if_pos (by omega)]) (by omega)
  rw [show 8 - n + n = 8 by omega] at hrun
  rw [hrun, show 8 - n = (8 - n - 1) + 1 by omega, List.nil_append]
  have hz := ans_zero
  have hk : rd (0 + n) = fillOf 0 := by rw [hr _ (by omega), rdS, if_neg (by omega), if_neg (by omega)]
  exact open_none (by rw [hk]; exact hz.2) (by rw [hk]; exact hz.1)
theorem stale_to (hr : ∀ k, k < 8 → rd k = rdS n at_ B k) (hn : n ≤ 5) (h : at_ ≤ n) : openUp rd 20 8 0 5 [] = openUp rd 20 ((7 - at_) + 1) at_ (if at_ = 0 then 5 else 10) (cks (6 * at_)) ∧ rd at_ = B := by
  have hrun := open_run rd at_ (8 - at_) 0 5 [] (fun j _ hj => by rw [hr j (by omega), rdS, if_neg (by omega), if_pos (by omega)]) (by omega)
  rw [show 8 - at_ + at_ = 8 by omega, List.nil_append, Nat.zero_add] at hrun
  exact ⟨by rw [hrun, show 7 - at_ + 1 = 8 - at_ by omega], by rw [hr _ (by omega), rdS, if_pos rfl]⟩
theorem stale_bad (hr : ∀ k, k < 8 → rd k = rdS n at_ B k) (hn : n ≤ 5) (h : at_ ≤ n) (hb : badB B 20 = true) : openUp rd 20 8 0 5 [] = ([], (at_ : Int)) := by
  obtain ⟨h1, h2⟩ := stale_to hr hn h
  rw [h1, openUp_bad (by rw [h2]; exact hb)]
theorem stale_less {e : Int} {c : Nat} (hr : ∀ k, k < 8 → rd k = rdS n at_ (ckB e c) k) (hn : n ≤ 5) (h : at_ ≤ n) (he : 1 ≤ e ∧ e < 10) (hc : 1 ≤ c ∧ c ≤ 6) (hl : e < 5 ∨ 0 < at_) : openUp rd 20 8 0 5 [] = (cks (6 * at_), -1) := by
  obtain ⟨h1, h2⟩ := stale_to hr hn h
  obtain ⟨a1, a2, a3⟩ := ans_ckB (e := e) (n := c) (by omega) (by omega) (by omega)
  rw [h1]
  refine open_less (by rw [h2]; exact a3) (by rw [h2, a1]; omega) ?_
  rw [h2, a1]
  split <;> omega
theorem stale_part {c : Nat} (hr : ∀ k, k < 8 → rd k = rdS n at_ (ckB 10 c) k) (hn : n ≤ 5) (h : at_ ≤ n) (hc : 1 ≤ c ∧ c < 6) : openUp rd 20 8 0 5 [] = (cks (6 * at_ + c), -1) := by
  obtain ⟨h1, h2⟩ := stale_to hr hn h
  obtain ⟨a1, a2, a3⟩ := ans_ckB (e := 10) (n := c) (by omega) (by omega) (by omega)
  rw [h1, open_part (by rw [h2]; exact a3) (by rw [h2, a2, length_cks]; exact hc.1) (by rw [h2, a1]; omega) (by rw [h2, a1]; split <;> omega) (by rw [h2, a2, length_cks]; exact hc.2), h2, a2, cks_add]
/-- The first block is of boot 9: the others go on. -/
theorem stale_first (hr : ∀ k, k < 8 → rd k = rdS n 0 (ckB 9 6) k) (hn : n ≤ 5) (h1n : 1 ≤ n) : openUp rd 20 8 0 5 [] = (cks (6 * n), -1) := by
  obtain ⟨a1, a2, a3⟩ := ans_ckB (e := 9) (n := 6) (by omega) (by omega) (by omega)
  have h0 : rd 0 = ckB 9 6 := by rw [hr 0 (by omega), rdS, if_pos rfl]
  have hrun := open_run rd (n - 1) (8 - n) 1 9 (cks 6) (fun j h1 hj => by rw [hr j (by omega), rdS, if_neg (by omega), if_pos (by omega)]) (by omega)
  rw [show 8 - n + (n - 1) = 7 by omega, cks_add, show 1 + (n - 1) = n by omega, show 6 + 6 * (n - 1) = 6 * n by omega] at hrun
  rw [show (8 : Nat) = 7 + 1 from rfl, open_full (by rw [h0]; exact a3) (by rw [h0, a1]; omega) (by rw [h0, a1]; omega) (by rw [h0, a2, length_cks]), h0, a1, a2, List.nil_append, hrun, show 8 - n = (8 - n - 1) + 1 by omega]
  have hz := ans_zero
  have hk : rd n = fillOf 0 := by rw [hr _ (by omega), rdS, if_neg (by omega), if_neg (by omega)]
  exact open_none (by rw [hk]; exact hz.2) (by rw [hk]; exact hz.1)
end
/-- Sectors as the statement writes them: the first k with a block of boot 10. -/
def wroteS (vss : List (List (List Int))) (k : Nat) : Prop := vss.length = 8 ∧ ∀ j, j < 8 → vss.getD j [] = if j < k then [fillOf 0, ckB 10 6] else [fillOf 0]
theorem wrote_new : wroteS (List.replicate 8 [fillOf 0]) 0 := ⟨List.length_replicate .., fun j hj => by rw [List.getD_eq_getElem?_getD, List.getElem?_replicate, if_pos hj, if_neg (by omega)]; rfl⟩
theorem wroteS.add {vss : List (List (List Int))} {k : Nat} (h : wroteS vss k) (hk : k < 8) : wroteS (addS vss k (ckB 10 6)) (k + 1) := by
  refine ⟨by rw [length_addS]; exact h.1, fun j hj => ?_⟩
  rw [addS_at _ _ _ _ (by rw [h.1]; exact hk)]
  by_cases e : j = k
  · rw [if_pos e, h.2 k hk, if_neg (by omega), if_pos (by omega)]; rfl
  · rw [if_neg e, h.2 j hj]
    by_cases e2 : j < k
    · rw [if_pos e2, if_pos (by omega)]
    · rw [if_neg e2, if_neg (by omega)]
theorem wroteS.last {vss : List (List (List Int))} {n at_ : Nat} {B : List Int} (h : wroteS vss n) (ha : at_ < 8) : ∀ k, k < 8 → rdL (addS vss at_ B) 0 k = rdS n at_ B k := by
  intro k hk
  unfold rdL verL rdS
  rw [Nat.zero_add, addS_at _ _ _ _ (by rw [h.1]; exact ha)]
  by_cases e : k = at_
  · rw [if_pos e, if_pos e]
    unfold lastV
    rw [List.length_append, List.getD_eq_getElem?_getD, List.getElem?_append_right (by simp)]
    simp
  · rw [if_neg e, if_neg e, h.2 k hk]
    split <;> rfl
theorem wroteS.bd {vss : List (List (List Int))} {n : Nat} (h : wroteS vss n) (j : Nat) : (vss.getD j []).length ≤ 2 := by
  by_cases hj : j < 8
  · rw [h.2 j hj]
    split <;> simp
  · rw [getD_out (by rw [h.1]; omega)]
    simp
end Go.Proofs.YtgjhnkadfdcafaaDoor
