/- Lemmas and contracts that the law stands on, joined: Math. -/
import Derived.WalkKit
import Derived.Laws.BitsAllLaws
/- Plain lemmas: bytes as numbers, the least first; a byte put into a list; no Go text here. -/
namespace Go.Proofs.YtjacenhblclkaaaDoor
open Go.RowKit
set_option linter.unusedVariables false

/-- The byte at place 'p' (0 where there is none). -/
def byteAt (xs : List Int) (p : Int) : Int := if 0 ≤ p ∧ p < xs.length then xs.getD p.toNat 0 else 0
/-- k bytes as a number, the least first. -/
def num (f : Int → Int) : Nat → Int
  | 0 => 0
  | k + 1 => f 0 + 256 * num (fun j => f (j + 1)) k
/-- What cell.Get answers: k bytes from a on. -/
def getB (xs : List Int) (a : Int) (k : Nat) : Int := num (fun j => byteAt xs (a + j)) k
def Bytes (xs : List Int) : Prop := ∀ x ∈ xs, 0 ≤ x ∧ x ≤ 255

theorem Bytes.getD {xs : List Int} (h : Bytes xs) (i : Nat) : 0 ≤ xs.getD i 0 ∧ xs.getD i 0 ≤ 255 := by
  by_cases hi : i < xs.length
  · rw [List.getD_eq_getElem?_getD, List.getElem?_eq_getElem hi]
    exact h _ (List.getElem_mem hi)
  · rw [List.getD_eq_getElem?_getD, List.getElem?_eq_none (by omega)]
    simp
theorem Bytes.byte {xs : List Int} (h : Bytes xs) (p : Int) : 0 ≤ byteAt xs p ∧ byteAt xs p ≤ 255 := by
  unfold byteAt
  split
  · exact h.getD _
  · omega
theorem num_congr {f g : Int → Int} (k : Nat) (h : ∀ j : Int, 0 ≤ j → j < k → f j = g j) : num f k = num g k := by
  induction k generalizing f g with
  | zero => rfl
  | succ k ih =>
    unfold num
    rw [h 0 (by omega) (by omega), ih (fun j h0 h1 => h (j + 1) (by omega) (by omega))]
theorem num_bd {f : Int → Int} (k : Nat) (h : ∀ j : Int, 0 ≤ f j ∧ f j ≤ 255) : 0 ≤ num f k ∧ num f k < 256 ^ k := by
  induction k generalizing f with
  | zero => exact ⟨by simp [num], by simp [num]⟩
  | succ k ih =>
    have h0 := h 0
    have := ih (f := fun j => f (j + 1)) (fun j => h (j + 1))
    unfold num
    rw [Int.pow_succ]
    constructor <;> omega
theorem pow_le {k : Nat} (h : k ≤ 7) : (256 : Int) ^ k ≤ 72057594037927936 := by
  match k, h with
  | 0, _ => decide
  | 1, _ => decide
  | 2, _ => decide
  | 3, _ => decide
  | 4, _ => decide
  | 5, _ => decide
  | 6, _ => decide
  | 7, _ => decide
theorem num_bd7 {f : Int → Int} {k : Nat} (h : ∀ j : Int, 0 ≤ f j ∧ f j ≤ 255) (hk : k ≤ 7) : 0 ≤ num f k ∧ num f k < 72057594037927936 := by
  have h1 := num_bd (f := f) k h
  have h2 := pow_le hk
  omega
theorem num_bd8 {f : Int → Int} {k : Nat} (h : ∀ j : Int, 0 ≤ f j ∧ f j ≤ 255) (hk : k ≤ 8) : 0 ≤ num f k ∧ num f k ≤ 18446744073709551615 := by
  match k, hk with
  | 0, _ => simp [num]
  | k + 1, hk =>
    have h1 := num_bd7 (f := fun j => f (j + 1)) (fun j => h (j + 1)) (k := k) (by omega)
    have h0 := h 0
    unfold num
    omega
theorem or_byte (x y : Int) (h0 : 0 ≤ x) (h1 : x < 72057594037927936) (h2 : 0 ≤ y) (h3 : y ≤ 255) : bits .or .u64 (x * 256) y = y + 256 * x := by
  have hw : ∀ n : Int, 0 ≤ n → n < 2 ^ 64 → IntKind.u64.wrap n = n := by intro n a b; rw [IntKind.wrap_u64]; omega
  rw [bits_join .u64 64 (by decide) hw 8 (x * 256) y (by omega) (by omega) (by omega) h2 (by omega) (by omega)]
  omega
/-- The round of cell.Get: from k bytes to k + 1. -/
theorem get_step (xs : List Int) (a q : Int) (k : Nat) :
    num (fun j => byteAt xs (a + (q - (k + 1 : Nat)) + j)) (k + 1) = byteAt xs (a + (q - 1 - k)) + 256 * num (fun j => byteAt xs (a + (q - k) + j)) k := by
  have e : ∀ f : Int → Int, num f (k + 1) = f 0 + 256 * num (fun j => f (j + 1)) k := fun f => rfl
  rw [e]
  have e1 : a + (q - (k + 1 : Nat)) + 0 = a + (q - 1 - k) := by omega
  have e2 : num (fun j => byteAt xs (a + (q - (k + 1 : Nat)) + (j + 1))) k = num (fun j => byteAt xs (a + (q - k) + j)) k := by
    refine num_congr k fun j _ _ => ?_
    have e3 : a + (q - (k + 1 : Nat)) + (j + 1) = a + (q - k) + j := by omega
    rw [e3]
  rw [e1, e2]

/-- The i-th byte of n. -/
def byteOf (n : Int) (i : Nat) : Int := (n / 256 ^ i) % 256
theorem byteOf_bd (n : Int) (i : Nat) : 0 ≤ byteOf n i ∧ byteOf n i ≤ 255 := by unfold byteOf; omega
/-- One byte put, where there is a place. -/
def put1 (xs : List Int) (p : Int) (x : Int) : List Int := if 0 ≤ p ∧ p < xs.length then xs.set p.toNat x else xs
/-- What cell.Put answers: k bytes of n from a on. -/
def putB (xs : List Int) (a n : Int) : Nat → List Int
  | 0 => xs
  | k + 1 => put1 (putB xs a n k) (a + k) (byteOf n k)
theorem length_put1 (xs : List Int) (p x : Int) : (put1 xs p x).length = xs.length := by unfold put1; split <;> simp
theorem length_putB (xs : List Int) (a n : Int) (k : Nat) : (putB xs a n k).length = xs.length := by
  induction k with
  | zero => rfl
  | succ k ih => rw [putB, length_put1, ih]
theorem Bytes.put1 {xs : List Int} (h : Bytes xs) (p x : Int) (h0 : 0 ≤ x) (h1 : x ≤ 255) : Bytes (put1 xs p x) := by
  unfold Proofs.YtjacenhblclkaaaDoor.put1
  split
  · intro y hy
    rcases List.mem_or_eq_of_mem_set hy with h2 | h2
    · exact h y h2
    · subst h2; exact ⟨h0, h1⟩
  · exact h
theorem Bytes.putB {xs : List Int} (h : Bytes xs) (a n : Int) (k : Nat) : Bytes (putB xs a n k) := by
  induction k with
  | zero => exact h
  | succ k ih => exact ih.put1 _ _ (byteOf_bd n k).1 (byteOf_bd n k).2
theorem byteAt_put1 (xs : List Int) (p x r : Int) : byteAt (put1 xs p x) r = if r = p ∧ 0 ≤ p ∧ p < xs.length then x else byteAt xs r := by
  unfold byteAt
  rw [length_put1]
  unfold put1
  by_cases hp : 0 ≤ p ∧ p < xs.length
  · by_cases hr : 0 ≤ r ∧ r < xs.length
    · simp only [hp, hr, and_self, if_true, and_true]
      rw [List.getD_eq_getElem?_getD, List.getElem?_set]
      by_cases e : r = p
      · subst e
        rw [if_pos rfl, if_pos (by omega), if_pos rfl]; rfl
      · rw [if_neg (by omega), if_neg e]
        rw [List.getD_eq_getElem?_getD]
    · have : ¬ (r = p) := by omega
      simp [hr, this]
  · simp only [hp, if_false, and_false]
theorem byteAt_putB (xs : List Int) (a n : Int) (k : Nat) (r : Int) : byteAt (putB xs a n k) r = if a ≤ r ∧ r < a + k ∧ 0 ≤ r ∧ r < xs.length then byteOf n (r - a).toNat else byteAt xs r := by
  induction k with
  | zero => rw [if_neg (by omega)]; rfl
  | succ k ih =>
    rw [putB, byteAt_put1, length_putB, ih]
    by_cases h1 : r = a + k ∧ 0 ≤ a + (k : Int) ∧ a + (k : Int) < xs.length
    · rw [if_pos h1, if_pos (by omega)]
      congr 1; omega
    · rw [if_neg h1]
      by_cases h2 : a ≤ r ∧ r < a + k ∧ 0 ≤ r ∧ r < xs.length
      · rw [if_pos h2, if_pos (by omega)]
      · rw [if_neg h2, if_neg (by omega)]
theorem mod_aux (P c r d : Int) (h0 : 0 ≤ r) (h1 : r < 256) (h2 : 0 ≤ d) (h3 : d < P) : (256 * P * c + (r + 256 * d)) % (256 * P) = r + 256 * d := by
  rw [Int.add_comm, Int.add_mul_emod_self_left, Int.emod_eq_of_lt (by omega) (by omega)]
theorem mod_step (n P : Int) (hP : 0 < P) : n % 256 + 256 * (n / 256 % P) = n % (256 * P) := by
  have e1 : 256 * (n / 256) + n % 256 = n := Int.mul_ediv_add_emod n 256
  have e2 : P * (n / 256 / P) + n / 256 % P = n / 256 := Int.mul_ediv_add_emod (n / 256) P
  have b1 : 0 ≤ n % 256 ∧ n % 256 < 256 := by omega
  have b2 : 0 ≤ n / 256 % P := Int.emod_nonneg _ (by omega)
  have b3 : n / 256 % P < P := Int.emod_lt_of_pos _ hP
  have e3 : n = 256 * P * (n / 256 / P) + (n % 256 + 256 * (n / 256 % P)) := by
    rw [Int.mul_assoc]
    omega
  have key := mod_aux P (n / 256 / P) (n % 256) (n / 256 % P) b1.1 b1.2 b2 b3
  rw [← e3] at key
  exact key.symm
theorem byteOf_succ (n : Int) (i : Nat) : byteOf n (i + 1) = byteOf (n / 256) i := by
  unfold byteOf
  rw [Int.pow_succ, Int.mul_comm, Int.ediv_ediv_of_nonneg (by decide)]
theorem num_byteOf (n : Int) (k : Nat) : num (fun j => byteOf n j.toNat) k = n % 256 ^ k := by
  induction k generalizing n with
  | zero => rw [num, Int.pow_zero]; omega
  | succ k ih =>
    have e : num (fun j => byteOf n (j + 1).toNat) k = num (fun j => byteOf (n / 256) j.toNat) k := by
      refine num_congr k fun j h0 _ => ?_
      rw [show (j + 1).toNat = j.toNat + 1 by omega, byteOf_succ]
    rw [num, e, ih, Int.pow_succ, Int.mul_comm (256 ^ k) 256, ← mod_step n (256 ^ k) (Int.pow_pos (by decide))]
    congr 1
    show byteOf n 0 = _
    unfold byteOf
    rw [Int.pow_zero, Int.ediv_one]
theorem get_put_same (xs : List Int) (a n : Int) (k : Nat) (h0 : 0 ≤ a) (h1 : a + k ≤ xs.length) : getB (putB xs a n k) a k = n % 256 ^ k := by
  rw [← num_byteOf]
  refine num_congr k fun j j0 j1 => ?_
  show byteAt _ _ = _
  rw [byteAt_putB, if_pos (by omega), show a + j - a = j by omega]
theorem get_put_other (xs : List Int) (a n b : Int) (k l : Nat) (h : b + l ≤ a ∨ a + k ≤ b) : getB (putB xs a n k) b l = getB xs b l := by
  refine num_congr l fun j j0 j1 => ?_
  show byteAt _ _ = byteAt _ _
  rw [byteAt_putB, if_neg (by omega)]
theorem ext_byteAt {xs ys : List Int} (hl : xs.length = ys.length) (h : ∀ r : Int, 0 ≤ r → r < xs.length → byteAt xs r = byteAt ys r) : xs = ys := by
  refine List.ext_getElem hl fun i h1 h2 => ?_
  have := h i (by omega) (by omega)
  unfold byteAt at this
  rw [if_pos (by omega), if_pos (by omega)] at this
  simp only [Int.toNat_natCast] at this
  rw [List.getD_eq_getElem?_getD, List.getD_eq_getElem?_getD, List.getElem?_eq_getElem h1, List.getElem?_eq_getElem h2] at this
  exact this
theorem byteOf_num {f : Int → Int} (h : ∀ j : Int, 0 ≤ f j ∧ f j ≤ 255) (k i : Nat) (hi : i < k) : byteOf (num f k) i = f i := by
  induction k generalizing f i with
  | zero => omega
  | succ k ih =>
    have h0 := h 0
    have e : num f (k + 1) = f 0 + 256 * num (fun j => f (j + 1)) k := rfl
    match i with
    | 0 =>
      unfold byteOf
      rw [Int.pow_zero, Int.ediv_one, e]
      show _ = f 0
      omega
    | i + 1 =>
      rw [byteOf_succ, e, show (f 0 + 256 * num (fun j => f (j + 1)) k) / 256 = num (fun j => f (j + 1)) k by omega, ih (fun j => h (j + 1)) i (by omega)]
      simp
theorem byteAt_nat (xs : List Int) (i : Nat) : byteAt xs i = xs.getD i 0 := by
  unfold byteAt
  by_cases h : i < xs.length
  · rw [if_pos (by omega), Int.toNat_natCast]
  · rw [if_neg (by omega), List.getD_eq_getElem?_getD, List.getElem?_eq_none (by omega)]; rfl
theorem getD_putB (xs : List Int) (a n : Int) (k i : Nat) (h : (i : Int) < a ∨ a + k ≤ i) : (putB xs a n k).getD i 0 = xs.getD i 0 := by
  rw [← byteAt_nat, ← byteAt_nat, byteAt_putB, if_neg (by omega)]
/-- A number put, and what stood there put again: the list that was. -/
theorem put_back (xs : List Int) (hb : Bytes xs) (a n : Int) (k : Nat) : putB (putB xs a n k) a (getB xs a k) k = xs := by
  refine ext_byteAt (by rw [length_putB, length_putB]) fun r hr0 hr1 => ?_
  rw [byteAt_putB, length_putB]
  rw [length_putB, length_putB] at hr1
  by_cases h : a ≤ r ∧ r < a + k ∧ 0 ≤ r ∧ r < xs.length
  · rw [if_pos h]
    unfold getB
    rw [byteOf_num (fun j => hb.byte _) k _ (by omega)]
    congr 1
    omega
  · rw [if_neg h, byteAt_putB, if_neg h]
theorem getB_bd (xs : List Int) (hb : Bytes xs) (a : Int) (k : Nat) (hk : k ≤ 8) : 0 ≤ getB xs a k ∧ getB xs a k ≤ 18446744073709551615 := num_bd8 (fun j => hb.byte _) hk
end Go.Proofs.YtjacenhblclkaaaDoor
