/- Lemmas and contracts that the law stands on, joined: Small, Math, Mem, Make, Copy, Base, RecMath, RecSpans, Sched. -/
import Derived.Test.YtgjhnkadfdcafaaDoorRows
import Derived.WalkKit
import Derived.WalkSpells
import Derived.WalkLawsBesides
import Derived.Laws.BitsAllLaws
import Derived.Deep.QuietTactic
import Derived.BigQuiet
import Derived.Laws.CopyOwn
import Derived.Laws.AppendOwnNone
import Derived.Deep.RegionHeld3
/- The small functions that only reckon: what phoenixworld.Number, cell.width, cell.has and the document's own width answer, at all arguments that fit their kinds. -/
namespace Go.Proofs.YtgjhnkadfdcafaaDoor
open Go.RowKit
set_option linter.unusedVariables false

theorem ret_int {k : IntKind} {a b : Int} (h : a = b) : Ending.returned (.int k a) = .returned (.int k b) := by rw [h]
theorem ret_bool {a b : Bool} (h : a = b) : Ending.returned (.bool a) = .returned (.bool b) := by rw [h]

def widthB (s : Int) : Int := min (max s 1) 8
theorem widthB_bd (s : Int) : 1 ≤ widthB s ∧ widthB s ≤ 8 := by unfold widthB; omega

set_option maxHeartbeats 400000 in
theorem width_any (s : Int) (w : World) : Calls Tryd.prog 71 #[.int .i64 s] w fun e w' => e = .returned (.int .i64 (widthB s)) ∧ w' = w := by
  go_enter Tryd.func71, Tryd.ntmps71
  go_wp2
  all_goals
    go_ret
    refine ⟨ret_int ?_, rfl⟩
    unfold widthB
    omega

/-- phoenixworld.Number: the rest, brought from 0 on. -/
def numberB (n m : Int) : Int := n % m
theorem numberB_bd (n m : Int) (h : 0 < m) : 0 ≤ numberB n m ∧ numberB n m < m := ⟨Int.emod_nonneg _ (by omega), Int.emod_lt_of_pos _ h⟩

theorem tmod_cases (n m : Int) (h : 0 < m) : (n.tmod m < 0 → n.tmod m + m = n % m) ∧ (0 ≤ n.tmod m → n.tmod m = n % m) ∧ -m < n.tmod m ∧ n.tmod m < m := by
  have e := Int.mul_tdiv_add_tmod n m
  have l1 : n.tmod m < m := Int.tmod_lt_of_pos n h
  have l2 : -m < n.tmod m := by
    have := Int.lt_tmod_of_pos n h
    omega
  have key : ∀ r q : Int, m * q + r = n → 0 ≤ r → r < m → r = n % m := by
    intro r q h1 h2 h3
    rw [← h1, Int.add_comm, Int.add_mul_emod_self_left, Int.emod_eq_of_lt h2 h3]
  refine ⟨fun hn => ?_, fun hp => ?_, l2, l1⟩
  · refine key _ (n.tdiv m - 1) ?_ (by omega) (by omega)
    rw [Int.mul_sub]; omega
  · exact key _ _ e hp l1

set_option maxHeartbeats 400000 in
theorem number_any (n m : Int) (w : World) (h0 : 0 < m) (h1 : m ≤ 100000) : Calls Tryd.prog 11 #[.int .i64 n, .int .i64 m] w fun e w' => e = .returned (.int .i64 (numberB n m)) ∧ w' = w := by
  obtain ⟨t1, t2, t3, t4⟩ := tmod_cases n m h0
  have hne : (m == 0) = false := by simp; omega
  have hm1 : m ≠ 0 := by omega
  go_enter Tryd.func11, Tryd.ntmps11
  go_wp2
  all_goals
    go_ret
  · exact ⟨ret_int rfl, rfl⟩
  · exact ⟨ret_int (t2 (by assumption)), rfl⟩
def hasB (len : Nat) (at_ i : Int) : Bool := decide (-i ≤ at_ ∧ at_ < (len : Int) - i)
set_option maxHeartbeats 400000 in
theorem has_any (ao : Option Addr) (len cap : Nat) (a i : Int) (w : World) (hl : len ≤ 4294967296) (h0 : 0 ≤ i) (h1 : i ≤ 8) (ha : -9223372036854775808 ≤ a) (ha' : a ≤ 9223372036854775807) :
    Calls Tryd.prog 72 #[.slice ao len cap, .int .i64 a, .int .i64 i] w fun e w' => e = .returned (.bool (hasB len a i)) ∧ w' = w := by
  go_enter Tryd.func72, Tryd.ntmps72
  go_wp2
  all_goals
    go_ret
    refine ⟨ret_bool ?_, rfl⟩
    unfold hasB
    simp
    omega
end Go.Proofs.YtgjhnkadfdcafaaDoor

/- Plain lemmas: bytes as numbers, the least first; a byte put into a list; no Go text here. -/
namespace Go.Proofs.YtgjhnkadfdcafaaDoor
open Go.RowKit
set_option linter.unusedVariables false

/-- The byte at place 'p' (0 where there is none). -/
def byteAt (xs : List Int) (p : Int) : Int := if 0 ≤ p ∧ p < xs.length then xs.getD p.toNat 0 else 0
/-- k bytes as a number, the least first. -/
def num (f : Int → Int) : Nat → Int
  | 0 => 0
  | k + 1 => f 0 + 256 * num (fun j => f (j + 1)) k
/-- What cell.Get answers: k bytes from a on. -/
def getB (xs : List Int) (a : Int) (k : Nat) : Int := num (fun j => byteAt xs (a + j)) k
def Bytes (xs : List Int) : Prop := ∀ x ∈ xs, 0 ≤ x ∧ x ≤ 255

theorem Bytes.getD {xs : List Int} (h : Bytes xs) (i : Nat) : 0 ≤ xs.getD i 0 ∧ xs.getD i 0 ≤ 255 := by
  by_cases hi : i < xs.length
  · rw [List.getD_eq_getElem?_getD, List.getElem?_eq_getElem hi]
    exact h _ (List.getElem_mem hi)
  · rw [List.getD_eq_getElem?_getD, List.getElem?_eq_none (by omega)]
    simp
theorem Bytes.byte {xs : List Int} (h : Bytes xs) (p : Int) : 0 ≤ byteAt xs p ∧ byteAt xs p ≤ 255 := by
  unfold byteAt
  split
  · exact h.getD _
  · omega
theorem num_congr {f g : Int → Int} (k : Nat) (h : ∀ j : Int, 0 ≤ j → j < k → f j = g j) : num f k = num g k := by
  induction k generalizing f g with
  | zero => rfl
  | succ k ih =>
    unfold num
    rw [h 0 (by omega) (by omega), ih (fun j h0 h1 => h (j + 1) (by omega) (by omega))]
theorem num_bd {f : Int → Int} (k : Nat) (h : ∀ j : Int, 0 ≤ f j ∧ f j ≤ 255) : 0 ≤ num f k ∧ num f k < 256 ^ k := by
  induction k generalizing f with
  | zero => exact ⟨by simp [num], by simp [num]⟩
  | succ k ih =>
    have h0 := h 0
    have := ih (f := fun j => f (j + 1)) (fun j => h (j + 1))
    unfold num
    rw [Int.pow_succ]
    constructor <;> omega
theorem pow_le {k : Nat} (h : k ≤ 7) : (256 : Int) ^ k ≤ 72057594037927936 := by
  match k, h with
  | 0, _ => decide
  | 1, _ => decide
  | 2, _ => decide
  | 3, _ => decide
  | 4, _ => decide
  | 5, _ => decide
  | 6, _ => decide
  | 7, _ => decide
theorem num_bd7 {f : Int → Int} {k : Nat} (h : ∀ j : Int, 0 ≤ f j ∧ f j ≤ 255) (hk : k ≤ 7) : 0 ≤ num f k ∧ num f k < 72057594037927936 := by
  have h1 := num_bd (f := f) k h
  have h2 := pow_le hk
  omega
theorem num_bd8 {f : Int → Int} {k : Nat} (h : ∀ j : Int, 0 ≤ f j ∧ f j ≤ 255) (hk : k ≤ 8) : 0 ≤ num f k ∧ num f k ≤ 18446744073709551615 := by
  match k, hk with
  | 0, _ => simp [num]
  | k + 1, hk =>
    have h1 := num_bd7 (f := fun j => f (j + 1)) (fun j => h (j + 1)) (k := k) (by omega)
    have h0 := h 0
    unfold num
    omega
theorem or_byte (x y : Int) (h0 : 0 ≤ x) (h1 : x < 72057594037927936) (h2 : 0 ≤ y) (h3 : y ≤ 255) : bits .or .u64 (x * 256) y = y + 256 * x := by
  have hw : ∀ n : Int, 0 ≤ n → n < 2 ^ 64 → IntKind.u64.wrap n = n := by intro n a b; rw [IntKind.wrap_u64]; omega
  rw [bits_join .u64 64 (by decide) hw 8 (x * 256) y (by omega) (by omega) (by omega) h2 (by omega) (by omega)]
  omega
/-- The round of cell.Get: from k bytes to k + 1. -/
theorem get_step (xs : List Int) (a q : Int) (k : Nat) :
    num (fun j => byteAt xs (a + (q - (k + 1 : Nat)) + j)) (k + 1) = byteAt xs (a + (q - 1 - k)) + 256 * num (fun j => byteAt xs (a + (q - k) + j)) k := by
  have e : ∀ f : Int → Int, num f (k + 1) = f 0 + 256 * num (fun j => f (j + 1)) k := fun f => rfl
  rw [e]
  have e1 : a + (q - (k + 1 : Nat)) + 0 = a + (q - 1 - k) := by omega
  have e2 : num (fun j => byteAt xs (a + (q - (k + 1 : Nat)) + (j + 1))) k = num (fun j => byteAt xs (a + (q - k) + j)) k := by
    refine num_congr k fun j _ _ => ?_
    have e3 : a + (q - (k + 1 : Nat)) + (j + 1) = a + (q - k) + j := by omega
    rw [e3]
  rw [e1, e2]

/-- The i-th byte of n. -/
def byteOf (n : Int) (i : Nat) : Int := (n / 256 ^ i) % 256
theorem byteOf_bd (n : Int) (i : Nat) : 0 ≤ byteOf n i ∧ byteOf n i ≤ 255 := by unfold byteOf; omega
/-- One byte put, where there is a place. -/
def put1 (xs : List Int) (p : Int) (x : Int) : List Int := if 0 ≤ p ∧ p < xs.length then xs.set p.toNat x else xs
/-- What cell.Put answers: k bytes of n from a on. -/
def putB (xs : List Int) (a n : Int) : Nat → List Int
  | 0 => xs
  | k + 1 => put1 (putB xs a n k) (a + k) (byteOf n k)
theorem length_put1 (xs : List Int) (p x : Int) : (put1 xs p x).length = xs.length := by unfold put1; split <;> simp
theorem length_putB (xs : List Int) (a n : Int) (k : Nat) : (putB xs a n k).length = xs.length := by
  induction k with
  | zero => rfl
  | succ k ih => rw [putB, length_put1, ih]
theorem Bytes.put1 {xs : List Int} (h : Bytes xs) (p x : Int) (h0 : 0 ≤ x) (h1 : x ≤ 255) : Bytes (put1 xs p x) := by
  unfold Proofs.YtgjhnkadfdcafaaDoor.put1
  split
  · intro y hy
    rcases List.mem_or_eq_of_mem_set hy with h2 | h2
    · exact h y h2
    · subst h2; exact ⟨h0, h1⟩
  · exact h
theorem Bytes.putB {xs : List Int} (h : Bytes xs) (a n : Int) (k : Nat) : Bytes (putB xs a n k) := by
  induction k with
  | zero => exact h
  | succ k ih => exact ih.put1 _ _ (byteOf_bd n k).1 (byteOf_bd n k).2
theorem byteAt_put1 (xs : List Int) (p x r : Int) : byteAt (put1 xs p x) r = if r = p ∧ 0 ≤ p ∧ p < xs.length then x else byteAt xs r := by
  unfold byteAt
  rw [length_put1]
  unfold put1
  by_cases hp : 0 ≤ p ∧ p < xs.length
  · by_cases hr : 0 ≤ r ∧ r < xs.length
    · simp only [hp, hr, and_self, if_true, and_true]
      rw [List.getD_eq_getElem?_getD, List.getElem?_set]
      by_cases e : r = p
      · subst e
        rw [if_pos rfl, if_pos (by omega), if_pos rfl]; rfl
      · rw [if_neg (by omega), if_neg e]
        rw [List.getD_eq_getElem?_getD]
    · have : ¬ (r = p) := by omega
      simp [hr, this]
  · simp only [hp, if_false, and_false]
theorem byteAt_putB (xs : List Int) (a n : Int) (k : Nat) (r : Int) : byteAt (putB xs a n k) r = if a ≤ r ∧ r < a + k ∧ 0 ≤ r ∧ r < xs.length then byteOf n (r - a).toNat else byteAt xs r := by
  induction k with
  | zero => rw [if_neg (by omega)]; rfl
  | succ k ih =>
    rw [putB, byteAt_put1, length_putB, ih]
    by_cases h1 : r = a + k ∧ 0 ≤ a + (k : Int) ∧ a + (k : Int) < xs.length
    · rw [if_pos h1, if_pos (by omega)]
      congr 1; omega
    · rw [if_neg h1]
      by_cases h2 : a ≤ r ∧ r < a + k ∧ 0 ≤ r ∧ r < xs.length
      · rw [if_pos h2, if_pos (by omega)]
      · rw [if_neg h2, if_neg (by omega)]
theorem mod_aux (P c r d : Int) (h0 : 0 ≤ r) (h1 : r < 256) (h2 : 0 ≤ d) (h3 : d < P) : (256 * P * c + (r + 256 * d)) % (256 * P) = r + 256 * d := by
  rw [Int.add_comm, Int.add_mul_emod_self_left, Int.emod_eq_of_lt (by omega) (by omega)]
theorem mod_step (n P : Int) (hP : 0 < P) : n % 256 + 256 * (n / 256 % P) = n % (256 * P) := by
  have e1 : 256 * (n / 256) + n % 256 = n := Int.mul_ediv_add_emod n 256
  have e2 : P * (n / 256 / P) + n / 256 % P = n / 256 := Int.mul_ediv_add_emod (n / 256) P
  have b1 : 0 ≤ n % 256 ∧ n % 256 < 256 := by omega
  have b2 : 0 ≤ n / 256 % P := Int.emod_nonneg _ (by omega)
  have b3 : n / 256 % P < P := Int.emod_lt_of_pos _ hP
  have e3 : n = 256 * P * (n / 256 / P) + (n % 256 + 256 * (n / 256 % P)) := by
    rw [Int.mul_assoc]
    omega
  have key := mod_aux P (n / 256 / P) (n % 256) (n / 256 % P) b1.1 b1.2 b2 b3
  rw [← e3] at key
  exact key.symm
theorem byteOf_succ (n : Int) (i : Nat) : byteOf n (i + 1) = byteOf (n / 256) i := by
  unfold byteOf
  rw [Int.pow_succ, Int.mul_comm, Int.ediv_ediv_of_nonneg (by decide)]
theorem num_byteOf (n : Int) (k : Nat) : num (fun j => byteOf n j.toNat) k = n % 256 ^ k := by
  induction k generalizing n with
  | zero => rw [num, Int.pow_zero]; omega
  | succ k ih =>
    have e : num (fun j => byteOf n (j + 1).toNat) k = num (fun j => byteOf (n / 256) j.toNat) k := by
      refine num_congr k fun j h0 _ => ?_
      rw [show (j + 1).toNat = j.toNat + 1 by omega, byteOf_succ]
    rw [num, e, ih, Int.pow_succ, Int.mul_comm (256 ^ k) 256, ← mod_step n (256 ^ k) (Int.pow_pos (by decide))]
    congr 1
    show byteOf n 0 = _
    unfold byteOf
    rw [Int.pow_zero, Int.ediv_one]
theorem get_put_same (xs : List Int) (a n : Int) (k : Nat) (h0 : 0 ≤ a) (h1 : a + k ≤ xs.length) : getB (putB xs a n k) a k = n % 256 ^ k := by
  rw [← num_byteOf]
  refine num_congr k fun j j0 j1 => ?_
  show byteAt _ _ = _
  rw [byteAt_putB, if_pos (by omega), show a + j - a = j by omega]
theorem get_put_other (xs : List Int) (a n b : Int) (k l : Nat) (h : b + l ≤ a ∨ a + k ≤ b) : getB (putB xs a n k) b l = getB xs b l := by
  refine num_congr l fun j j0 j1 => ?_
  show byteAt _ _ = byteAt _ _
  rw [byteAt_putB, if_neg (by omega)]
theorem ext_byteAt {xs ys : List Int} (hl : xs.length = ys.length) (h : ∀ r : Int, 0 ≤ r → r < xs.length → byteAt xs r = byteAt ys r) : xs = ys := by
  refine List.ext_getElem hl fun i h1 h2 => ?_
  have := h i (by omega) (by omega)
  unfold byteAt at this
  rw [if_pos (by omega), if_pos (by omega)] at this
  simp only [Int.toNat_natCast] at this
  rw [List.getD_eq_getElem?_getD, List.getD_eq_getElem?_getD, List.getElem?_eq_getElem h1, List.getElem?_eq_getElem h2] at this
  exact this
theorem byteOf_num {f : Int → Int} (h : ∀ j : Int, 0 ≤ f j ∧ f j ≤ 255) (k i : Nat) (hi : i < k) : byteOf (num f k) i = f i := by
  induction k generalizing f i with
  | zero => omega
  | succ k ih =>
    have h0 := h 0
    have e : num f (k + 1) = f 0 + 256 * num (fun j => f (j + 1)) k := rfl
    match i with
    | 0 =>
      unfold byteOf
      rw [Int.pow_zero, Int.ediv_one, e]
      show _ = f 0
      omega
    | i + 1 =>
      rw [byteOf_succ, e, show (f 0 + 256 * num (fun j => f (j + 1)) k) / 256 = num (fun j => f (j + 1)) k by omega, ih (fun j => h (j + 1)) i (by omega)]
      simp
theorem byteAt_nat (xs : List Int) (i : Nat) : byteAt xs i = xs.getD i 0 := by
  unfold byteAt
  by_cases h : i < xs.length
  · rw [if_pos (by omega), Int.toNat_natCast]
  · rw [if_neg (by omega), List.getD_eq_getElem?_getD, List.getElem?_eq_none (by omega)]; rfl
theorem getD_putB (xs : List Int) (a n : Int) (k i : Nat) (h : (i : Int) < a ∨ a + k ≤ i) : (putB xs a n k).getD i 0 = xs.getD i 0 := by
  rw [← byteAt_nat, ← byteAt_nat, byteAt_putB, if_neg (by omega)]
/-- A number put, and what stood there put again: the list that was. -/
theorem put_back (xs : List Int) (hb : Bytes xs) (a n : Int) (k : Nat) : putB (putB xs a n k) a (getB xs a k) k = xs := by
  refine ext_byteAt (by rw [length_putB, length_putB]) fun r hr0 hr1 => ?_
  rw [byteAt_putB, length_putB]
  rw [length_putB, length_putB] at hr1
  by_cases h : a ≤ r ∧ r < a + k ∧ 0 ≤ r ∧ r < xs.length
  · rw [if_pos h]
    unfold getB
    rw [byteOf_num (fun j => hb.byte _) k _ (by omega)]
    congr 1
    omega
  · rw [if_neg h, byteAt_putB, if_neg h]
theorem getB_bd (xs : List Int) (hb : Bytes xs) (a : Int) (k : Nat) (hk : k ≤ 8) : 0 ≤ getB xs a k ∧ getB xs a k ≤ 18446744073709551615 := num_bd8 (fun j => hb.byte _) hk
end Go.Proofs.YtgjhnkadfdcafaaDoor

/- What a list of bytes is in memory, and what the functions that only read one answer: cell.Get, cell.Zero, phoenixref.SameBytes, at every list of bytes. -/
namespace Go.Proofs.YtgjhnkadfdcafaaDoor
open Go.RowKit
set_option linter.unusedVariables false

/-- The slice that begins at 'ao' reads in w as the bytes xs. -/
def Row (w : World) (ao : Option Addr) (xs : List Int) : Prop :=
  xs.length ≤ 4294967296 ∧ Bytes xs ∧ (0 < xs.length → ∃ b off, ao = some ⟨b, off, none⟩ ∧ b < w.heap.size ∧ ∀ i, i < xs.length → w.cell? ⟨b, off + i, none⟩ = some (.int .u8 (xs.getD i 0)))

theorem Row.below {w w' : World} {B : Nat} {ao : Option Addr} {xs : List Int} (h : Row w ao xs) (hb : Below B w w') (hB : w.heap.size ≤ B) : Row w' ao xs := by
  obtain ⟨h0, h1, h2⟩ := h
  refine ⟨h0, h1, fun hp => ?_⟩
  obtain ⟨b, off, e, hlt, hc⟩ := h2 hp
  refine ⟨b, off, e, by have := hb.size; omega, fun i hi => ?_⟩
  rw [hb.cell (by show b < B; omega)]
  exact hc i hi
theorem row_nil (w : World) : Row w none [] := ⟨by simp, fun x hx => by simp at hx, fun h => by simp at h⟩
theorem over {B : Nat} {w w1 w2 : World} (h : Below B w w1) (h' : Below w1.heap.size w1 w2) (hB : B ≤ w1.heap.size) : Below B w w2 := h.trans (h'.mono hB)
theorem Row.drewN {w : World} (n : Nat) {ao : Option Addr} {xs : List Int} (h : Row w ao xs) : Row (w.drewN n) ao xs := h

set_option maxHeartbeats 1000000 in
theorem get_any (ao : Option Addr) (cap : Nat) (xs : List Int) (a s : Int) (w : World) (h : Row w ao xs) (ha : -9223372036854775808 ≤ a) (ha' : a ≤ 9223372036854775807) :
    Calls Tryd.prog 69 #[.slice ao xs.length cap, .int .i64 a, .int .i64 s] w fun e w' => e = .returned (.int .u64 (getB xs a (widthB s).toNat)) ∧ w' = w := by
  obtain ⟨h0, h1, h2⟩ := h
  have hw := widthB_bd s
  obtain ⟨q, hq⟩ : ∃ q, q = widthB s := ⟨_, rfl⟩
  rw [← hq] at hw ⊢
  have HQ : Hid (widthB s = q) := hq.symm
  clear hq
  go_enter Tryd.func69, Tryd.ntmps69
  go_wp2_with fail
  refine (width_any _ _).mono ?_
  rintro e w' ⟨rfl, rfl⟩
  rw [HQ.out]
  go_wp2_with fail
  go_loop [7, 8] (fun n i => ∃ k : Nat, (k : Int) ≤ q ∧ i = .int .i64 (q - 1 - k) ∧ n = .int .u64 (num (fun j => byteAt xs (a + (q - k) + j)) k)) (fun _ i => (intOf i + 1).toNat)
  case atStart => exact ⟨0, by omega, by go_num, rfl⟩
  case round =>
    obtain ⟨k, hk, rfl, rfl⟩ := hrel
    by_cases hlt : (k : Int) < q
    · have hbd := num_bd7 (f := fun j => byteAt xs (a + (q - k) + j)) (k := k) (fun j => h1.byte _) (by omega)
      have HS := get_step xs a q k
      obtain ⟨X, hX⟩ : ∃ X, X = num (fun j => byteAt xs (a + (q - k) + j)) k := ⟨_, rfl⟩
      rw [← hX] at hbd HS ⊢
      have HG : Hid (num (fun j => byteAt xs (a + (q - (k + 1 : Nat)) + j)) (k + 1) = byteAt xs (a + (q - 1 - k)) + 256 * X) := HS
      clear HS hX
      cases hh : hasB xs.length a (q - 1 - k)
      · have HY : Hid (byteAt xs (a + (q - 1 - k)) = 0) := by
          simp [hasB] at hh
          show byteAt xs _ = 0
          unfold byteAt
          rw [if_neg (by omega)]
        go_wp2_with fail
        refine (has_any _ _ _ _ _ _ h0 (by omega) (by omega) ha ha').mono ?_
        rintro e w' ⟨rfl, rfl⟩
        go_wp2_with fail
        go_round
        case rel => exact ⟨k + 1, by omega, by go_num, by rw [HG.out, HY.out]; go_num⟩
        case measure => simp [intOf]; omega
      · have hp : 0 ≤ a + (q - 1 - k) ∧ a + (q - 1 - k) < xs.length := by simp [hasB] at hh; omega
        obtain ⟨b, off, rfl, hb, hc⟩ := h2 (by omega)
        have hcp := hc (a + (q - 1 - k)).toNat (by omega)
        have hby := h1.getD (a + (q - 1 - k)).toNat
        have HY : byteAt xs (a + (q - 1 - k)) = xs.getD (a + (q - 1 - k)).toNat 0 := by unfold byteAt; rw [if_pos hp]
        obtain ⟨y, hy⟩ : ∃ y, y = xs.getD (a + (q - 1 - k)).toNat 0 := ⟨_, rfl⟩
        rw [← hy] at hcp hby HY
        have HZ : Hid (byteAt xs (a + (q - 1 - k)) = y) := HY
        clear hy hc h2 HY
        go_wp2_with fail
        refine (has_any _ _ _ _ _ _ h0 (by omega) (by omega) ha ha').mono ?_
        rintro e w' ⟨rfl, rfl⟩
        go_wp2_with fail
        go_round
        case rel => exact ⟨k + 1, by omega, by go_num, by rw [HG.out, HZ.out, or_byte X y hbd.1 hbd.2 hby.1 hby.2]⟩
        case measure => simp [intOf]; omega
    · go_wp2_with fail
      go_ret
      refine ⟨ret_int ?_, rfl⟩
      have hk' : q = k := by omega
      subst hk'
      unfold getB
      simp

/-- All bytes are 0. -/
def zeroB (xs : List Int) : Bool := xs.all (· == 0)
theorem zeroB_false {xs : List Int} {i : Nat} (hi : i < xs.length) (h : xs.getD i 0 ≠ 0) : zeroB xs = false := by
  unfold zeroB
  rw [List.all_eq_false]
  refine ⟨xs[i], List.getElem_mem hi, ?_⟩
  rw [List.getD_eq_getElem?_getD, List.getElem?_eq_getElem hi] at h
  simpa using h
theorem zeroB_true {xs : List Int} (h : ∀ i, i < xs.length → xs.getD i 0 = 0) : zeroB xs = true := by
  unfold zeroB
  rw [List.all_eq_true]
  intro x hx
  obtain ⟨i, hi, rfl⟩ := List.getElem_of_mem hx
  have := h i hi
  rw [List.getD_eq_getElem?_getD, List.getElem?_eq_getElem hi] at this
  simpa using this

set_option maxHeartbeats 1000000 in
theorem zero_any (ao : Option Addr) (cap : Nat) (xs : List Int) (w : World) (h : Row w ao xs) :
    Calls Tryd.prog 67 #[.slice ao xs.length cap] w fun e w' => e = .returned (.bool (zeroB xs)) ∧ w' = w := by
  obtain ⟨h0, h1, h2⟩ := h
  go_enter Tryd.func67, Tryd.ntmps67
  go_wp2_with fail
  go_loop [7] (fun i => ∃ k : Nat, k ≤ xs.length ∧ i = .int .i64 k ∧ ∀ j, j < k → xs.getD j 0 = 0) (fun i => xs.length - (intOf i).toNat)
  case atStart => exact ⟨0, by omega, rfl, fun j hj => by omega⟩
  case round =>
    obtain ⟨k, hk, rfl, hz⟩ := hrel
    have HZ : Hid (∀ j, j < k → xs.getD j 0 = 0) := hz
    clear hz
    by_cases hlt : k < xs.length
    · obtain ⟨b, off, rfl, hb, hc⟩ := h2 (by omega)
      have hcp := hc k hlt
      obtain ⟨y, hy⟩ : ∃ y, y = xs.getD k 0 := ⟨_, rfl⟩
      rw [← hy] at hcp
      have HY : Hid (y = xs.getD k 0) := hy
      clear hy hc h2
      by_cases hy0 : y = 0
      · have HN : Hid (∀ j, j < k + 1 → xs.getD j 0 = 0) := by
          intro j hj
          by_cases e : j = k
          · rw [e, ← HY.out, hy0]
          · exact HZ.out j (by omega)
        subst hy0
        go_wp2_with fail
        go_round
        case rel => exact ⟨k + 1, by omega, by go_num, HN.out⟩
        case measure => simp [intOf]; omega
      · have hn : (y == 0) = false := by simp [hy0]
        have hn' : (y != 0) = true := by simp [hy0]
        have HN : Hid (zeroB xs = false) := zeroB_false hlt (by rw [← HY.out]; exact hy0)
        clear hy0
        go_wp2_with fail
        go_ret
        exact ⟨ret_bool HN.out.symm, rfl⟩
    · go_wp2_with fail
      go_ret
      exact ⟨ret_bool (zeroB_true fun i hi => HZ.out i (by omega)).symm, rfl⟩

/-- Two lists of bytes are the same. -/
def sameB (xs ys : List Int) : Bool := decide (xs = ys)
theorem sameB_true {xs ys : List Int} (h : xs = ys) : sameB xs ys = true := by simp [sameB, h]
theorem sameB_of {xs ys : List Int} (hl : xs.length = ys.length) (h : ∀ i, i < xs.length → xs.getD i 0 = ys.getD i 0) : sameB xs ys = true := by
  refine sameB_true (List.ext_getElem hl fun i h1 h2 => ?_)
  have := h i h1
  rw [List.getD_eq_getElem?_getD, List.getD_eq_getElem?_getD, List.getElem?_eq_getElem h1, List.getElem?_eq_getElem h2] at this
  exact this
theorem sameB_not {xs ys : List Int} {i : Nat} (h : xs.getD i 0 ≠ ys.getD i 0) : sameB xs ys = false := by
  unfold sameB
  rw [decide_eq_false_iff_not]
  intro e
  exact h (by rw [e])

end Go.Proofs.YtgjhnkadfdcafaaDoor

/- What the functions that make a new list of bytes answer: cell.grown, cell.Put, cell.Fill, phoenixref.Bytes and the document's own Put and Fill, at every list of bytes; nothing that was there is written. -/
namespace Go.Proofs.YtgjhnkadfdcafaaDoor
open Go.RowKit
set_option linter.unusedVariables false

theorem Tryd.info5 : (Tryd.prog.info? 5).map (fun i => (i.zero, i.size, i.bytes)) = some (some (.int .u8 0), 1, 1) := by kernel_rfl
theorem Tryd.size5 : (Tryd.prog.info? 5).map (·.size) = some 1 := by kernel_rfl

/-- xs as cells. -/
def cellsOf (xs : List Int) : List Value := xs.map (Value.int .u8)
theorem length_cellsOf (xs : List Int) : (cellsOf xs).length = xs.length := by simp [cellsOf]
theorem oneCell_cellsOf (xs : List Int) : ∀ u ∈ cellsOf xs, u.oneCell' = true := ints_oneCell _ _
theorem cellsOf_at {xs : List Int} {j : Nat} {v : Value} (h : (cellsOf xs)[j]? = some v) : j < xs.length ∧ v = .int .u8 (xs.getD j 0) := by
  have hj : j < xs.length := by
    have := (List.getElem?_eq_some_iff.1 h).1
    simpa [cellsOf] using this
  refine ⟨hj, ?_⟩
  simp [cellsOf, hj] at h
  rw [← h, List.getD_eq_getElem?_getD, List.getElem?_eq_getElem hj]
  rfl
theorem cellsOf_getD {xs : List Int} {j : Nat} (h : j < xs.length) : (cellsOf xs)[j]? = some (.int .u8 (xs.getD j 0)) := by
  simp [cellsOf, h]

/-- The slice that begins at 'ao' owns the bytes xs: it lies in a block from 'B' on. -/
def Own (w : World) (B : Nat) (ao : Option Addr) (cap : Nat) (xs : List Int) : Prop :=
  w.ownsRow B 5 1 (.slice ao xs.length cap) xs.length (cellsOf xs) ∧ Bytes xs ∧ xs.length ≤ 4294967296

theorem Own.row {w : World} {B : Nat} {ao : Option Addr} {cap : Nat} {xs : List Int} (h : Own w B ao cap xs) : Row w ao xs := by
  obtain ⟨h1, h2, h3⟩ := h
  refine ⟨h3, h2, fun hp => ?_⟩
  have h1' := h1
  rcases h1.2 with ⟨e, h0⟩ | ⟨g, c, cur, hv, hg, hh, h4, h5, h6, h7⟩
  · omega
  · simp only [Value.slice.injEq] at hv
    obtain ⟨rfl, _, rfl⟩ := hv
    refine ⟨g, 0, rfl, ?_, fun i hi => ?_⟩
    · by_cases hlt : g < w.heap.size
      · exact hlt
      · rw [Array.getElem?_eq_none (by omega)] at hh; simp at hh
    · rw [Nat.zero_add, h1'.cellAt i (by omega)]
      exact cellsOf_getD hi
theorem Own.below {w w' : World} {B C : Nat} {ao : Option Addr} {cap : Nat} {xs : List Int} (h : Own w B ao cap xs) (hb : Below C w w') (hC : w.heap.size ≤ C) : Own w' B ao cap xs := by
  obtain ⟨⟨h0, h1⟩, h2, h3⟩ := h
  refine ⟨⟨h0, ?_⟩, h2, h3⟩
  rcases h1 with h1 | ⟨g, c, cur, hv, hg, hh, r⟩
  · exact .inl h1
  · refine .inr ⟨g, c, cur, hv, hg, ?_, r⟩
    have hlt : g < w.heap.size := by
      by_cases hlt : g < w.heap.size
      · exact hlt
      · rw [Array.getElem?_eq_none (by omega)] at hh; simp at hh
    rw [hb.block g (by omega)]
    exact hh
theorem Own.mono {w : World} {B C : Nat} {ao : Option Addr} {cap : Nat} {xs : List Int} (h : Own w B ao cap xs) (hC : C ≤ B) : Own w C ao cap xs := by
  obtain ⟨⟨h0, h1⟩, h2, h3⟩ := h
  refine ⟨⟨h0, ?_⟩, h2, h3⟩
  rcases h1 with h1 | ⟨g, c, cur, hv, hg, r⟩
  · exact .inl h1
  · exact .inr ⟨g, c, cur, hv, by omega, r⟩
theorem Own.drewN {w : World} {B : Nat} {ao : Option Addr} {cap : Nat} {xs : List Int} (h : Own w B ao cap xs) (n : Nat) : Own (w.drewN n) B ao cap xs := h

/-- What cell.grown answers. -/
def grownB (xs : List Int) (n : Nat) : List Int := xs ++ List.replicate (n - xs.length) 0
theorem length_grownB {xs : List Int} {n : Nat} (h : xs.length ≤ n) : (grownB xs n).length = n := by simp [grownB]; omega
theorem Bytes.grownB {xs : List Int} (h : Bytes xs) (n : Nat) : Bytes (grownB xs n) := by
  intro x hx
  rcases List.mem_append.1 hx with h1 | h1
  · exact h x h1
  · rw [(List.mem_replicate.1 h1).2]; omega

theorem splice_grown (xs : List Int) (n : Nat) (h : xs.length ≤ n) : splice (cellsOf (List.replicate n 0)) 0 (cellsOf xs) = cellsOf (grownB xs n) := by
  unfold splice cellsOf grownB
  simp
theorem row_of_made {w : World} {B n : Nat} (h : w.ownsRow B 5 1 (.slice (some ⟨B, 0, none⟩) n n) n (madeCells (Value.int .u8 0).cells (n * 1)).toList) :
    w.heap[B]? = some (.cells (cellsOf (List.replicate n 0)).toArray 5 (0, 0)) := by
  rcases h.2 with ⟨e, _⟩ | ⟨g, c, cur, hv, hg, hh, h4, h5, h6, h7⟩
  · simp at e
  · simp only [Value.slice.injEq, Option.some.injEq, Addr.mk.injEq, and_true, true_and] at hv
    obtain ⟨rfl, rfl⟩ := hv
    rw [hh]
    have e1 : cur.toList = cellsOf (List.replicate n 0) := by
      rw [List.take_of_length_le (by simp; omega)] at h7
      rw [h7]
      have e2 : (Value.int .u8 0).cells = #[Value.int .u8 0] := rfl
      rw [e2, Nat.mul_one, toList_madeCells_one]
      simp [cellsOf]
    rw [← e1]
theorem own_of_row {w : World} {B : Nat} {xs : List Int} (hh : w.heap[B]? = some (.cells (cellsOf xs).toArray 5 (0, 0))) (hb : Bytes xs) (hl : xs.length ≤ 4294967296) : Own w B (some ⟨B, 0, none⟩) xs.length xs := by
  refine ⟨⟨by simp [length_cellsOf], .inr ⟨B, xs.length, _, rfl, Nat.le_refl _, hh, Nat.le_refl _, by unfold maxLen; omega, by simp [length_cellsOf], ?_⟩⟩, hb, hl⟩
  rw [List.take_of_length_le (by simp [length_cellsOf])]

theorem Row.src {w : World} {ao : Option Addr} {xs : List Int} (h : Row w ao xs) (hp : 0 < (cellsOf xs).length) : ∃ ad, ao = some ad ∧ ∀ j v, (cellsOf xs)[j]? = some v → w.cell? (ad.add j) = some v := by
  obtain ⟨_, _, h2⟩ := h
  rw [length_cellsOf] at hp
  obtain ⟨b, off, e, _, hc⟩ := h2 hp
  refine ⟨_, e, fun j v hj => ?_⟩
  obtain ⟨hlt, rfl⟩ := cellsOf_at hj
  rw [Addr.add_lit]
  exact hc j hlt

set_option maxHeartbeats 1000000 in
theorem grown_any (ao : Option Addr) (cap : Nat) (xs : List Int) (S : Int) (n : Nat) (w : World) (h : Row w ao xs) (hS : S = n) (hn : xs.length ≤ n) (hb : n ≤ 4294967296) :
    Calls Tryd.prog 64 #[.slice ao xs.length cap, .int .i64 S] w fun e w' => e = .returned (.slice (some ⟨w.heap.size, 0, none⟩) n n) ∧ Own w' w.heap.size (some ⟨w.heap.size, 0, none⟩) n (grownB xs n) ∧ Below w.heap.size w w' := by
  obtain ⟨i0, hi, hz0, hz1, hz2⟩ := info_parts Tryd.info5
  have HS : Hid (S = n) := hS
  have HR : Hid (Row w ao xs) := h
  obtain ⟨h0, h1, h2⟩ := h
  clear hS h2
  go_enter Tryd.func64, Tryd.ntmps64
  go_wp2_with (first | (at_make; refine wpList_make_full w rfl (.tmp 6) (.tmp 6) 51 rfl w.heap.size 5 i0 (.int .u8 0) 1 Tryd.underlying51 hi hz0 hz1 .i64 .i64 S S n rfl rfl HS.out HS.out (by rw [hz2]; omega) (by unfold maxLen; omega) (Nat.le_refl _) ?_; intro w1 hown hgr; have HB : Hid (Below w.heap.size w w1) := (Below.refl _ _).grown hgr (Nat.le_refl _) (by simp); have HH : Hid (w1.heap[w.heap.size]? = some (.cells (cellsOf (List.replicate n 0)).toArray 5 (0, 0))) := row_of_made hown; clear hown hgr) | (refine wpList_copy_splice rfl (.tmp 8) (.tmp 9) 51 51 rfl 5 Tryd.underlying51 Tryd.size5 (some ⟨w.heap.size, 0, none⟩) ao n n xs.length cap rfl rfl w.heap.size 0 (cellsOf (List.replicate n 0)) 5 HH.out (cellsOf xs) (by rw [length_cellsOf]; exact (Nat.min_eq_left hn).symm) (fun hp => ⟨rfl, (HR.out.below HB.out (Nat.le_refl _)).src hp⟩) (by simp [length_cellsOf]; exact hn) (oneCell_cellsOf xs) w.heap.size w HB.out (Nat.le_refl _) ?_; intro w2 HG hB2; have HC : Hid (Below w.heap.size w w2) := hB2; clear hB2))
  go_ret
  refine ⟨rfl, ?_, HC.out⟩
  have e := HG.out
  rw [splice_grown xs n hn] at e
  have := own_of_row e (h1.grownB n) (by rw [length_grownB hn]; exact hb)
  rw [length_grownB hn] at this
  exact this

theorem Own.stored {w : World} {B g cap : Nat} {xs : List Int} (h : Own w B (some ⟨g, 0, none⟩) cap xs) (j : Nat) (x : Int) (h0 : 0 ≤ x) (h1 : x ≤ 255) : Own (w.setCell ⟨g, j, none⟩ (.int .u8 x)) B (some ⟨g, 0, none⟩) cap (xs.set j x) := by
  obtain ⟨h2, h3, h4⟩ := h
  have e := (h2.stored j (.int .u8 x)).1
  have e2 : cellsOf (xs.set j x) = (cellsOf xs).set j (.int .u8 x) := by simp [cellsOf, List.map_set]
  refine ⟨?_, ?_, by simpa using h4⟩
  · rw [e2, List.length_set]; exact e
  · intro y hy
    rcases List.mem_or_eq_of_mem_set hy with h5 | h5
    · exact h3 y h5
    · subst h5; exact ⟨h0, h1⟩
theorem Own.cell {w : World} {B g cap : Nat} {xs : List Int} (h : Own w B (some ⟨g, 0, none⟩) cap xs) (j : Nat) (hj : j < xs.length) : w.cell? ⟨g, j, none⟩ = some (.int .u8 (xs.getD j 0)) := by
  rw [h.1.cellAt j (by omega)]
  exact cellsOf_getD hj
theorem Own.frozen {w : World} {B g cap : Nat} {xs : List Int} (h : Own w B (some ⟨g, 0, none⟩) cap xs) (j : Nat) : w.frozen? ⟨g, j, none⟩ = false := h.1.frozenAt j

theorem div_pow_bd (n : Int) (k : Nat) (h0 : 0 ≤ n) (h1 : n ≤ 18446744073709551615) : 0 ≤ n / 256 ^ k ∧ n / 256 ^ k ≤ 18446744073709551615 := by
  have hp : (0 : Int) < 256 ^ k := Int.pow_pos (by decide)
  refine ⟨Int.ediv_nonneg h0 (by omega), ?_⟩
  have : n / 256 ^ k ≤ n := Int.ediv_le_self _ h0
  omega
theorem div_pow_succ (n : Int) (k : Nat) : n / 256 ^ (k + 1) = n / 256 ^ k / 256 := by
  rw [Int.pow_succ, Int.ediv_ediv_of_nonneg (Int.le_of_lt (Int.pow_pos (by decide)))]

set_option maxHeartbeats 1000000 in
theorem put_any (ao : Option Addr) (cap : Nat) (xs : List Int) (a s n : Int) (w : World) (h : Row w ao xs) (ha : -9223372036854775808 ≤ a) (ha' : a ≤ 9223372036854775807) (hn : 0 ≤ n) (hn' : n ≤ 18446744073709551615) :
    Calls Tryd.prog 62 #[.slice ao xs.length cap, .int .i64 a, .int .i64 s, .int .u64 n] w fun e w' => e = .returned (.slice (some ⟨w.heap.size, 0, none⟩) xs.length xs.length) ∧ Own w' w.heap.size (some ⟨w.heap.size, 0, none⟩) xs.length (putB xs a n (widthB s).toNat) ∧ Below w.heap.size w w' := by
  have HR : Hid (Row w ao xs) := h
  obtain ⟨h0, h1, h2⟩ := h
  clear h2
  have hw := widthB_bd s
  obtain ⟨q, hq⟩ : ∃ q, q = widthB s := ⟨_, rfl⟩
  rw [← hq] at hw ⊢
  have HQ : Hid (widthB s = q) := hq.symm
  clear hq
  go_enter Tryd.func62, Tryd.ntmps62
  go_wp2_with fail
  refine (grown_any ao cap xs _ xs.length _ HR.out rfl (Nat.le_refl _) h0).mono ?_
  rintro e w1 ⟨rfl, hown, hbel⟩
  have hg : grownB xs xs.length = xs := by simp [grownB]
  rw [hg] at hown
  have HO : Hid (Own w1 w.heap.size (some ⟨w.heap.size, 0, none⟩) xs.length xs) := hown
  have HB : Hid (Below w.heap.size w w1) := hbel
  clear hg hown hbel
  go_wp2_with fail
  refine (width_any _ _).mono ?_
  rintro e w' ⟨rfl, rfl⟩
  rw [HQ.out]
  go_wp2_with fail
  go_loopw [3, 17] (fun nv c wr => ∃ k : Nat, (k : Int) ≤ q ∧ c = .int .i64 k ∧ nv = .int .u64 (n / 256 ^ k) ∧ Own wr w.heap.size (some ⟨w.heap.size, 0, none⟩) xs.length (putB xs a n k) ∧ Below w.heap.size w wr) (fun _ c _ => (q - intOf c).toNat)
  case atStart => exact ⟨0, by omega, rfl, by simp, HO.out, HB.out⟩
  case round =>
    obtain ⟨k, hk, rfl, rfl, hown, hbel⟩ := hrel
    have HO' : Hid (Own wr w.heap.size (some ⟨w.heap.size, 0, none⟩) xs.length (putB xs a n k)) := hown
    have HB' : Hid (Below w.heap.size w wr) := hbel
    by_cases hlt : (k : Int) < q
    · have hbd := div_pow_bd n k hn hn'
      have hst := div_pow_succ n k
      have hby : byteOf n k = n / 256 ^ k % 256 := rfl
      obtain ⟨X, hX⟩ : ∃ X, X = n / 256 ^ k := ⟨_, rfl⟩
      rw [← hX] at hbd hst hby ⊢
      have HX : Hid (n / 256 ^ (k + 1) = X / 256) := hst
      have HY : Hid (byteOf n k = X % 256) := hby
      clear hst hby hX
      cases hh : hasB xs.length a k
      · have HP : Hid (putB xs a n (k + 1) = putB xs a n k) := by
          show putB xs a n (k + 1) = putB xs a n k
          simp [hasB] at hh
          rw [putB, put1, if_neg (by rw [length_putB]; omega)]
        clear hown hbel
        go_wp2_with fail
        refine (has_any _ _ _ _ _ _ h0 (by omega) (by omega) ha ha').mono ?_
        rintro e w' ⟨rfl, rfl⟩
        go_wp2_with fail
        go_roundw
        case rel => exact ⟨k + 1, by omega, by go_num, by rw [HX.out], by rw [HP.out]; exact HO'.out, HB'.out⟩
        case measure => simp [intOf]; omega
      · have hp : 0 ≤ a + k ∧ a + k < xs.length := by simp [hasB] at hh; omega
        have hcell := hown.cell (a + k).toNat (by rw [length_putB]; omega)
        have hfr := hown.frozen (a + k).toNat
        have HP : Hid (putB xs a n (k + 1) = (putB xs a n k).set (a + k).toNat (X % 256)) := by
          show putB xs a n (k + 1) = _
          rw [putB, put1, if_pos (by rw [length_putB]; omega), HY.out]
        obtain ⟨y, hy⟩ : ∃ y, y = (putB xs a n k).getD (a + k).toNat 0 := ⟨_, rfl⟩
        rw [← hy] at hcell
        clear hown hbel hy
        go_wp2_with fail
        refine (has_any _ _ _ _ _ _ h0 (by omega) (by omega) ha ha').mono ?_
        rintro e w' ⟨rfl, rfl⟩
        go_wp2_with fail
        go_roundw
        case rel => exact ⟨k + 1, by omega, by go_num, by rw [HX.out], by rw [HP.out]; exact HO'.out.stored _ _ (by omega) (by omega), HB'.out.setCell (Nat.le_refl _) _⟩
        case measure => simp [intOf]; omega
    · go_wp2_with fail
      go_ret
      have hk' : q.toNat = k := by omega
      exact ⟨rfl, by rw [hk']; exact HO'.out, HB'.out⟩

/-- What cell.Fill answers, for a size that a call may answer. -/
def fillB (xs : List Int) (S : Int) : List Int := grownB xs (max S.toNat xs.length)
theorem length_fillB (xs : List Int) (S : Int) : (fillB xs S).length = max S.toNat xs.length := length_grownB (by omega)
set_option maxHeartbeats 1000000 in
theorem fill_any (ao : Option Addr) (cap : Nat) (xs : List Int) (S : Int) (w : World) (h : Row w ao xs) (hS : S ≤ 2147483647) :
    Calls Tryd.prog 42 #[.slice ao xs.length cap, .int .i64 S] w fun e w' => e = .returned (.slice (some ⟨w.heap.size, 0, none⟩) (fillB xs S).length (fillB xs S).length) ∧ Own w' w.heap.size (some ⟨w.heap.size, 0, none⟩) (fillB xs S).length (fillB xs S) ∧ Below w.heap.size w w' := by
  have HR : Hid (Row w ao xs) := h
  obtain ⟨h0, h1, h2⟩ := h
  clear h2
  have hd : decide (2147483647 < S) = false := by simp; omega
  rw [length_fillB]
  by_cases hlt : S < xs.length
  all_goals
    go_enter Tryd.func42, Tryd.ntmps42
    go_wp2_with fail
    refine (grown_any ao cap xs _ (max S.toNat xs.length) _ HR.out (by omega) (by omega) (by omega)).mono ?_
    rintro e w1 ⟨rfl, hown, hbel⟩
    have HO : Hid (Own w1 w.heap.size (some ⟨w.heap.size, 0, none⟩) (max S.toNat xs.length) (fillB xs S)) := hown
    have HB : Hid (Below w.heap.size w w1) := hbel
    clear hown hbel
    go_wp2_with fail
    go_ret
    exact ⟨rfl, HO.out, HB.out⟩
end Go.Proofs.YtgjhnkadfdcafaaDoor

/- What phoenixref.Bytes, cell.Join and the document's own Put and Fill answer, at every list of bytes; nothing that was there is written. -/
namespace Go.Proofs.YtgjhnkadfdcafaaDoor
open Go.RowKit
set_option linter.unusedVariables false

theorem hide {p : Prop} (h : p) : Hid p := h
theorem take_snoc (xs : List Int) (k : Nat) (h : k < xs.length) : xs.take (k + 1) = xs.take k ++ [xs.getD k 0] := by
  rw [List.take_succ_eq_append_getElem h, List.getD_eq_getElem?_getD, List.getElem?_eq_getElem h]
  rfl
theorem cellsOf_append (xs ys : List Int) : cellsOf (xs ++ ys) = cellsOf xs ++ cellsOf ys := by simp [cellsOf]
theorem Bytes.take {xs : List Int} (h : Bytes xs) (k : Nat) : Bytes (xs.take k) := fun x hx => h x (List.mem_of_mem_take hx)

/-- A list of bytes as a value: where it begins, its room, its bytes. -/
structure Part where
  ao : Option Addr
  cap : Nat
  xs : List Int
def Part.val (p : Part) : Value := .slice p.ao p.xs.length p.cap
def Part.isIn (w : World) (p : Part) : Prop := Row w p.ao p.xs ∧ (p.ao = none → p.xs = [] ∧ p.cap = 0)
/-- The slice of slices that begins at 'oo' reads in w as the parts ls. -/
def Rows2 (w : World) (oo : Option Addr) (ls : List Part) : Prop :=
  ls.length ≤ 4294967296 ∧ (∀ p ∈ ls, p.isIn w) ∧ (0 < ls.length → ∃ b off, oo = some ⟨b, off, none⟩ ∧ b < w.heap.size ∧ ∀ i (hi : i < ls.length), w.cell? ⟨b, off + i, none⟩ = some ls[i].val)
def joinB (ls : List Part) : List Int := (ls.map (·.xs)).flatten
theorem joinB_snoc (ls : List Part) (k : Nat) (h : k < ls.length) : joinB (ls.take (k + 1)) = joinB (ls.take k) ++ ls[k].xs := by
  unfold joinB
  rw [List.take_succ_eq_append_getElem h, List.map_append, List.flatten_append]
  simp only [List.map_cons, List.map_nil, List.flatten_cons, List.flatten_nil, List.append_nil]
theorem joinB_le (ls : List Part) (k : Nat) : (joinB (ls.take k)).length ≤ (joinB ls).length := by
  unfold joinB
  conv => rhs; rw [← List.take_append_drop k ls]
  simp only [List.map_append, List.flatten_append, List.length_append]
  omega
theorem own_shape {w : World} {B e n : Nat} {v : Value} {cs : List Value} (h : w.ownsRow B e 1 v n cs) : ∃ ao cap, v = .slice ao n cap := by
  rcases h.2 with ⟨h1, h2⟩ | ⟨g, cap, cur, h1, _⟩
  · exact ⟨none, 0, by rw [h1, h2]⟩
  · exact ⟨_, cap, h1⟩
theorem Bytes.append {xs ys : List Int} (h : Bytes xs) (h' : Bytes ys) : Bytes (xs ++ ys) := by
  intro x hx
  rcases List.mem_append.1 hx with h1 | h1
  · exact h x h1
  · exact h' x h1

set_option maxHeartbeats 1000000 in
theorem join_any (oo : Option Addr) (cap : Nat) (ls : List Part) (w : World) (h : Rows2 w oo ls) (hsum : (joinB ls).length ≤ 4294967296) :
    Calls Tryd.prog 41 #[.slice oo ls.length cap] w fun e w' => ∃ ao c, e = .returned (.slice ao (joinB ls).length c) ∧ Own w' w.heap.size ao c (joinB ls) ∧ Below w.heap.size w w' := by
  obtain ⟨i0, hi, hz0, hz1, hz2⟩ := info_parts Tryd.info5
  obtain ⟨h0, h1, h2⟩ := h
  have H1 : Hid (∀ p ∈ ls, p.isIn w) := h1
  clear h1
  go_enter Tryd.func41, Tryd.ntmps41
  go_wp2_with fail
  go_loopw [3, 8] (fun v i wr => ∃ k : Nat, k ≤ ls.length ∧ i = .int .i64 k ∧ ∃ ao c, v = .slice ao (joinB (ls.take k)).length c ∧ Own wr w.heap.size ao c (joinB (ls.take k)) ∧ Below w.heap.size w wr) (fun _ i _ => ls.length - (intOf i).toNat)
  case atStart => exact ⟨0, by omega, rfl, none, 0, rfl, ⟨World.ownsRow_nil _ _ _ _, fun x hx => by simp [joinB] at hx, by simp [joinB]⟩, Below.refl _ _⟩
  case round =>
    obtain ⟨k, hk, rfl, ao, c, rfl, hown, hbel⟩ := hrel
    have HO : Hid (Own wr w.heap.size ao c (joinB (ls.take k))) := hown
    have HB : Hid (Below w.heap.size w wr) := hbel
    clear hown hbel
    by_cases hlt : k < ls.length
    · obtain ⟨b, off, rfl, hb, hc⟩ := h2 (by omega)
      have hcp := hc k hlt
      have hpin := H1.out ls[k] (List.getElem_mem hlt)
      have HT := joinB_snoc ls k hlt
      have hle := joinB_le ls (k + 1)
      obtain ⟨p, hp⟩ : ∃ p, p = ls[k] := ⟨_, rfl⟩
      rw [← hp] at hcp hpin HT
      obtain ⟨po, pc, px⟩ := p
      obtain ⟨J, hJ⟩ : ∃ J, J = joinB (ls.take k) := ⟨_, rfl⟩
      rw [← hJ] at HO HT ⊢
      rw [HT] at hle
      have HT' : Hid (joinB (ls.take (k + 1)) = J ++ px) := HT
      have hcr : wr.cell? ⟨b, off + k, none⟩ = some (.slice po px.length pc) := by rw [HB.out.cell (by exact hb)]; exact hcp
      have HP : Hid (Part.isIn w ⟨po, pc, px⟩) := hpin
      simp only [List.length_append] at hle
      clear hp hc h2 HT hcp hpin hJ
      have hend : ∀ v' w2, w2.ownsRow w.heap.size 5 1 v' (J.length + px.length) (cellsOf J ++ cellsOf px) → Below w.heap.size w w2 → ∃ ao c, v' = .slice ao (joinB (ls.take (k + 1))).length c ∧ Own w2 w.heap.size ao c (joinB (ls.take (k + 1))) ∧ Below w.heap.size w w2 := by
        intro v' w2 h3 h4
        obtain ⟨ao', c', rfl⟩ := own_shape h3
        rw [HT'.out]
        refine ⟨ao', c', by simp, ⟨?_, HO.out.2.1.append HP.out.1.2.1, by simp; omega⟩, h4⟩
        rw [List.length_append, cellsOf_append]
        exact h3
      have HE := hide hend
      clear hend
      cases po with
      | none =>
        have hx := HP.out.2 rfl
        simp only at hx
        obtain ⟨rfl, rfl⟩ := hx
        go_wp2_with (at_builtin; refine wpList_append_own_none rfl (.tmp 12) (.tmp 13) 51 rfl w.heap.size 5 i0 1 Tryd.underlying51 hi _ J.length (cellsOf J) rfl HO.out.1 rfl ?_)
        go_roundw
        case rel => exact ⟨k + 1, by omega, by go_num, HE.out _ _ (by simpa [cellsOf] using HO.out.1) HB.out⟩
        case measure => simp [intOf]; omega
      | some ad =>
        have hsrc : ∀ j u, (cellsOf px)[j]? = some u → wr.cell? (ad.add j) = some u := by
          intro j u hj
          by_cases hp0 : 0 < px.length
          · obtain ⟨ad', e, hs⟩ := (HP.out.1.below HB.out (Nat.le_refl _)).src (by rw [length_cellsOf]; exact hp0)
            cases e
            exact hs j u hj
          · have := (cellsOf_at hj).1; omega
        have HC := hide hsrc
        clear hsrc
        go_wp2_with (at_builtin; refine wpList_append_own _ rfl (.tmp 12) (.tmp 13) 51 rfl w.heap.size 5 i0 (.int .u8 0) 1 1 Tryd.underlying51 hi hz0 hz1 hz2 rfl (by decide) _ J.length (cellsOf J) rfl HO.out.1 ad px.length pc (cellsOf px) rfl (by rw [length_cellsOf, Nat.mul_one]) HC.out (oneCell_cellsOf px) (by unfold maxLen; omega) (by omega) HB.out.size ?_; intro v' w2 hown2 hgr2 _; have HO2 : Hid (w2.ownsRow w.heap.size 5 1 v' (J.length + px.length) (cellsOf J ++ cellsOf px)) := hown2; have HG2 : Hid (wr.grownBy w2 (Value.slice ao J.length c).ownBlock) := hgr2; clear hown2 hgr2)
        go_roundw
        case rel =>
          refine ⟨k + 1, by omega, by go_num, HE.out _ _ HO2.out ?_⟩
          refine HB.out.grown HG2.out HB.out.size (fun j e => ?_)
          exact (HO.out.1.lt j e).1
        case measure => simp [intOf]; omega
    · go_wp2_with fail
      go_ret
      have hk' : k = ls.length := by omega
      subst hk'
      refine ⟨ao, c, ?_⟩
      have := HO.out
      rw [List.take_length] at this
      rw [List.take_length]
      exact ⟨rfl, this, HB.out⟩
end Go.Proofs.YtgjhnkadfdcafaaDoor

/- Small facts on memory that every later text wants, and what an error of package api is as a value. -/
namespace Go.Proofs.YtgjhnkadfdcafaaDoor
open Go.RowKit
set_option linter.unusedVariables false

theorem lt_of_block {w : World} {g : Nat} {x : Obj} (h : w.heap[g]? = some x) : g < w.heap.size := (Array.getElem?_eq_some_iff.1 h).1
theorem cell_row {w : World} {d : Nat} {c : Array Value} {e : TypeId} (h : w.heap[d]? = some (.cells c e (0, 0))) (o : Nat) : w.cell? ⟨d, o, none⟩ = c[o]? := by
  simp [World.cell?, h]
theorem below_drewN {B : Nat} {a w : World} (h : Below B a w) (n : Nat) : Below B a (w.drewN n) := h.trans ⟨rfl, rfl, rfl, Nat.le_refl _, fun _ _ => rfl⟩
theorem below_drew {B : Nat} {a w : World} (h : Below B a w) : Below B a w.drew := h.trans ⟨rfl, rfl, rfl, Nat.le_refl _, fun _ _ => rfl⟩
theorem of_drew {B : Nat} {w w1 : World} (h : Below B w.drew w1) : Below B w w1 := ⟨h.os, h.tape, h.output, h.size, h.block⟩
/-- An error of package api, as a value. -/
def errV (x : Addr) : Value := .iface 120 (.pointer (some x))
/-- The errors of package api in the document's order: the block of each one's variable. -/
def gno (i : Nat) : Nat := [2, 1, 3, 6, 5, 7, 8, 4, 0, 9, 10, 11, 12, 13, 14, 15, 16, 17].getD i 0
/-- The variables of those errors that ks names hold errors that lie in memory of their own, each another. -/
structure ErrsOf (w : World) (ks : List Nat) (a : Nat → Addr) : Prop where
  cell : ∀ i ∈ ks, w.cell? ⟨gno i, 0, none⟩ = some (errV (a i))
  row : ∀ i ∈ ks, ∃ c t, w.heap[(a i).block]? = some (.cells c t (0, 0))
  ne : ∀ i ∈ ks, ∀ j ∈ ks, i ≠ j → a i ≠ a j
theorem ErrsOf.below {w w' : World} {ks : List Nat} {a : Nat → Addr} (h : ErrsOf w ks a) {B : Nat} (hb : Below B w w') (hB : w.heap.size ≤ B) : ErrsOf w' ks a := by
  refine ⟨fun i hi => ?_, fun i hi => ?_, h.ne⟩
  · have hlt := World.block_lt_of_cell? w _ (h.cell i hi)
    rw [hb.cell (Nat.lt_of_lt_of_le hlt hB)]; exact h.cell i hi
  · obtain ⟨c, t, hr⟩ := h.row i hi
    exact ⟨c, t, by rw [hb.block _ (Nat.lt_of_lt_of_le (lt_of_block hr) hB)]; exact hr⟩
theorem ErrsOf.step {w w' : World} {ks : List Nat} {a : Nat → Addr} (h : ErrsOf w ks a) (hb : Below w.heap.size w w') : ErrsOf w' ks a := h.below hb (Nat.le_refl _)
theorem ErrsOf.drew {w : World} {ks : List Nat} {a : Nat → Addr} (h : ErrsOf w ks a) : ErrsOf w.drew ks a := ⟨h.cell, h.row, h.ne⟩
theorem ErrsOf.alloc {w : World} {ks : List Nat} {a : Nat → Addr} (h : ErrsOf w ks a) (x : Obj) : ErrsOf (w.alloc x) ks a := h.step ((Below.refl _ _).alloc (Nat.le_refl _) x)
theorem ErrsOf.var {w : World} {ks : List Nat} {a : Nat → Addr} (h : ErrsOf w ks a) (i : Nat) {g : Nat} (hi : i ∈ ks) (hg : gno i = g) : w.cell? ⟨g, 0, none⟩ = some (errV (a i)) := by rw [← hg]; exact h.cell i hi
end Go.Proofs.YtgjhnkadfdcafaaDoor

/- Plain lemmas on records: which may be, their bytes, what bytes say; no Go text here. -/
namespace Go.Proofs.YtgjhnkadfdcafaaDoor
open Go.RowKit
set_option linter.unusedVariables false

/-- A record as plain data. -/
structure R where
  kind : Int
  txn : Int
  page : Int
  prev : Int
  next : Int
  key : Int
  had : Bool
  has : Bool
  old : Int
  new : Int
/-- A record as a value. -/
def R.val (r : R) : Value := .agg #[.int .i64 r.kind, .int .i64 r.txn, .int .i64 r.page, .int .i64 r.prev, .int .i64 r.next, .int .i64 r.key, .bool r.had, .bool r.has, .int .i64 r.old, .int .i64 r.new]
/-- Old and New are whatever eight bytes can say. -/
def R.fits (r : R) : Prop := (-9223372036854775808 ≤ r.old ∧ r.old ≤ 9223372036854775807) ∧ (-9223372036854775808 ≤ r.new ∧ r.new ≤ 9223372036854775807)
def holdsB (lo hi n : Int) : Bool := decide (lo ≤ n) && decide (n ≤ hi)
def txnLo (k : Int) : Int := if k = 1 ∨ k = 2 ∨ k = 3 ∨ k = 4 ∨ k = 5 ∨ k = 6 ∨ k = 8 then 1 else 0
def txnHi (k : Int) : Int := if k = 1 ∨ k = 2 ∨ k = 3 ∨ k = 4 ∨ k = 5 ∨ k = 6 ∨ k = 8 then 60000 else 0
def pageLo (k : Int) : Int := if k = 2 ∨ k = 3 ∨ k = 9 then 1 else 0
def pageHi (k : Int) : Int := if k = 2 ∨ k = 3 ∨ k = 9 then 32 else 0
def prevLo (k : Int) : Int := if k = 9 then 1 else 0
def prevHi (k : Int) : Int := if k = 1 ∨ k = 7 ∨ k = 10 then 0 else 1073741824
def nextHi (k : Int) : Int := if k = 3 ∨ k = 8 then 1073741824 else if k = 10 then 60000 else 0
def keyHi (k : Int) : Int := if k = 2 ∨ k = 3 then 1048575 else if k = 8 then 2 else 0
def oldB (r : R) : Bool := if r.kind = 3 then r.had && (decide (1 ≤ r.old) && decide (r.old ≤ 1073741824)) else if r.kind = 2 then r.had || (r.old == 0) else !r.had && (r.old == 0)
def newB (r : R) : Bool := if r.kind = 2 ∨ r.kind = 3 then r.has || (r.new == 0) else !r.has && (r.new == 0)
def chgB (r : R) : Bool := !(r.kind == 2) || (r.had || r.has)
/-- A record that may be. -/
def goodB (r : R) : Bool := holdsB 1 10 r.kind && (holdsB (txnLo r.kind) (txnHi r.kind) r.txn && (holdsB (pageLo r.kind) (pageHi r.kind) r.page && (holdsB (prevLo r.kind) (prevHi r.kind) r.prev && (holdsB 0 (nextHi r.kind) r.next && (holdsB 0 (keyHi r.kind) r.key && (oldB r && (newB r && chgB r)))))))
theorem holdsB_iff (lo hi n : Int) : holdsB lo hi n = true ↔ lo ≤ n ∧ n ≤ hi := by simp [holdsB]
structure R.Small (r : R) : Prop where
  kind : 1 ≤ r.kind ∧ r.kind ≤ 10
  txn : 0 ≤ r.txn ∧ r.txn ≤ 60000
  page : 0 ≤ r.page ∧ r.page ≤ 32
  prev : 0 ≤ r.prev ∧ r.prev ≤ 1073741824
  next : 0 ≤ r.next ∧ r.next ≤ 1073741824
  key : 0 ≤ r.key ∧ r.key ≤ 1048575
theorem R.small {r : R} (h : goodB r = true) : r.Small := by
  simp only [goodB, Bool.and_eq_true, holdsB_iff] at h
  obtain ⟨h1, h2, h3, h4, h5, h6, _⟩ := h
  refine ⟨h1, ?_, ?_, ?_, ?_, ?_⟩
  · unfold txnLo txnHi at h2; split at h2 <;> omega
  · unfold pageLo pageHi at h3; split at h3 <;> omega
  · unfold prevLo prevHi at h4; split at h4 <;> split at h4 <;> omega
  · unfold nextHi at h5; split at h5 <;> (try split at h5) <;> omega
  · unfold keyHi at h6; split at h6 <;> (try split at h6) <;> omega
/-- The mark of Had and Has. -/
def markB (r : R) : Int := (if r.had then 1 else 0) + (if r.has then 2 else 0)
theorem markB_bd (r : R) : 0 ≤ markB r ∧ markB r ≤ 3 := by unfold markB; split <;> split <;> omega
/-- A number of eight bytes, as it is without a sign. -/
def u64 (n : Int) : Int := n % 18446744073709551616
/-- A number of eight bytes, as it is with a sign. -/
def i64 (n : Int) : Int := if n < 9223372036854775808 then n else n - 18446744073709551616
theorem u64_bd (n : Int) : 0 ≤ u64 n ∧ u64 n ≤ 18446744073709551615 := by unfold u64; omega
theorem i64_u64 (n : Int) (h : -9223372036854775808 ≤ n ∧ n ≤ 9223372036854775807) : i64 (u64 n) = n := by unfold i64 u64; split <;> omega
theorem i64_bd (n : Int) (h : 0 ≤ n ∧ n ≤ 18446744073709551615) : -9223372036854775808 ≤ i64 n ∧ i64 n ≤ 9223372036854775807 := by unfold i64; split <;> omega
theorem u64_i64 (n : Int) (h : 0 ≤ n ∧ n ≤ 18446744073709551615) : u64 (i64 n) = n := by unfold i64 u64; split <;> omega

def rec1 (r : R) : List Int := putB (List.replicate 40 0) 0 r.kind 1
def rec2 (r : R) : List Int := putB (rec1 r) 1 (markB r) 1
def rec3 (r : R) : List Int := putB (rec2 r) 2 r.txn 2
def rec4 (r : R) : List Int := putB (rec3 r) 4 r.page 2
def rec5 (r : R) : List Int := putB (rec4 r) 8 r.prev 4
def rec6 (r : R) : List Int := putB (rec5 r) 12 r.next 4
def rec7 (r : R) : List Int := putB (rec6 r) 16 r.key 4
def rec8 (r : R) : List Int := putB (rec7 r) 24 (u64 r.old) 8
/-- A record's bytes. -/
def recB (r : R) : List Int := putB (rec8 r) 32 (u64 r.new) 8
theorem length_rec1 (r : R) : (rec1 r).length = 40 := by rw [rec1, length_putB, List.length_replicate]
theorem length_rec2 (r : R) : (rec2 r).length = 40 := by rw [rec2, length_putB, length_rec1]
theorem length_rec3 (r : R) : (rec3 r).length = 40 := by rw [rec3, length_putB, length_rec2]
theorem length_rec4 (r : R) : (rec4 r).length = 40 := by rw [rec4, length_putB, length_rec3]
theorem length_rec5 (r : R) : (rec5 r).length = 40 := by rw [rec5, length_putB, length_rec4]
theorem length_rec6 (r : R) : (rec6 r).length = 40 := by rw [rec6, length_putB, length_rec5]
theorem length_rec7 (r : R) : (rec7 r).length = 40 := by rw [rec7, length_putB, length_rec6]
theorem length_rec8 (r : R) : (rec8 r).length = 40 := by rw [rec8, length_putB, length_rec7]
theorem length_recB (r : R) : (recB r).length = 40 := by rw [recB, length_putB, length_rec8]
theorem bytes_recB (r : R) : Bytes (recB r) := by
  have h0 : Bytes (List.replicate 40 0) := fun x hx => by rw [(List.mem_replicate.1 hx).2]; omega
  exact ((((((((h0.putB _ _ _).putB _ _ _).putB _ _ _).putB _ _ _).putB _ _ _).putB _ _ _).putB _ _ _).putB _ _ _).putB _ _ _

/-- What bytes say, be it a record or not. -/
def partsR (xs : List Int) : R := ⟨getB xs 0 1, getB xs 2 2, getB xs 4 2, getB xs 8 4, getB xs 12 4, getB xs 16 4, decide (getB xs 1 1 % 2 = 1), decide (getB xs 1 1 / 2 % 2 = 1), i64 (getB xs 24 8), i64 (getB xs 32 8)⟩
theorem partsR_fits (xs : List Int) (h : Bytes xs) : (partsR xs).fits := ⟨i64_bd _ (getB_bd xs h _ _ (by omega)), i64_bd _ (getB_bd xs h _ _ (by omega))⟩
theorem mod_lt {n m : Int} (h0 : 0 ≤ n) (h1 : n < m) : n % m = n := Int.emod_eq_of_lt h0 h1
theorem parts_recB (r : R) (hg : goodB r = true) (hf : r.fits) : partsR (recB r) = r := by
  obtain ⟨⟨k0, k1⟩, ⟨t0, t1⟩, ⟨p0, p1⟩, ⟨v0, v1⟩, ⟨n0, n1⟩, ⟨y0, y1⟩⟩ := R.small hg
  have g0 : getB (recB r) 0 1 = r.kind := by
    rw [recB, get_put_other _ _ _ _ _ _ (by omega), rec8, get_put_other _ _ _ _ _ _ (by omega), rec7, get_put_other _ _ _ _ _ _ (by omega), rec6, get_put_other _ _ _ _ _ _ (by omega), rec5, get_put_other _ _ _ _ _ _ (by omega), rec4, get_put_other _ _ _ _ _ _ (by omega), rec3, get_put_other _ _ _ _ _ _ (by omega), rec2, get_put_other _ _ _ _ _ _ (by omega), rec1, get_put_same _ _ _ _ (by omega) (by simp)]
    exact mod_lt (by omega) (by omega)
  have g1 : getB (recB r) 1 1 = markB r := by
    have := markB_bd r
    rw [recB, get_put_other _ _ _ _ _ _ (by omega), rec8, get_put_other _ _ _ _ _ _ (by omega), rec7, get_put_other _ _ _ _ _ _ (by omega), rec6, get_put_other _ _ _ _ _ _ (by omega), rec5, get_put_other _ _ _ _ _ _ (by omega), rec4, get_put_other _ _ _ _ _ _ (by omega), rec3, get_put_other _ _ _ _ _ _ (by omega), rec2, get_put_same _ _ _ _ (by omega) (by rw [length_rec1]; omega)]
    exact mod_lt (by omega) (by omega)
  have g2 : getB (recB r) 2 2 = r.txn := by
    rw [recB, get_put_other _ _ _ _ _ _ (by omega), rec8, get_put_other _ _ _ _ _ _ (by omega), rec7, get_put_other _ _ _ _ _ _ (by omega), rec6, get_put_other _ _ _ _ _ _ (by omega), rec5, get_put_other _ _ _ _ _ _ (by omega), rec4, get_put_other _ _ _ _ _ _ (by omega), rec3, get_put_same _ _ _ _ (by omega) (by rw [length_rec2]; omega)]
    exact mod_lt (by omega) (by omega)
  have g4 : getB (recB r) 4 2 = r.page := by
    rw [recB, get_put_other _ _ _ _ _ _ (by omega), rec8, get_put_other _ _ _ _ _ _ (by omega), rec7, get_put_other _ _ _ _ _ _ (by omega), rec6, get_put_other _ _ _ _ _ _ (by omega), rec5, get_put_other _ _ _ _ _ _ (by omega), rec4, get_put_same _ _ _ _ (by omega) (by rw [length_rec3]; omega)]
    exact mod_lt (by omega) (by omega)
  have g8 : getB (recB r) 8 4 = r.prev := by
    rw [recB, get_put_other _ _ _ _ _ _ (by omega), rec8, get_put_other _ _ _ _ _ _ (by omega), rec7, get_put_other _ _ _ _ _ _ (by omega), rec6, get_put_other _ _ _ _ _ _ (by omega), rec5, get_put_same _ _ _ _ (by omega) (by rw [length_rec4]; omega)]
    exact mod_lt (by omega) (by omega)
  have g12 : getB (recB r) 12 4 = r.next := by
    rw [recB, get_put_other _ _ _ _ _ _ (by omega), rec8, get_put_other _ _ _ _ _ _ (by omega), rec7, get_put_other _ _ _ _ _ _ (by omega), rec6, get_put_same _ _ _ _ (by omega) (by rw [length_rec5]; omega)]
    exact mod_lt (by omega) (by omega)
  have g16 : getB (recB r) 16 4 = r.key := by
    rw [recB, get_put_other _ _ _ _ _ _ (by omega), rec8, get_put_other _ _ _ _ _ _ (by omega), rec7, get_put_same _ _ _ _ (by omega) (by rw [length_rec6]; omega)]
    exact mod_lt (by omega) (by omega)
  have g24 : getB (recB r) 24 8 = u64 r.old := by
    have := u64_bd r.old
    rw [recB, get_put_other _ _ _ _ _ _ (by omega), rec8, get_put_same _ _ _ _ (by omega) (by rw [length_rec7]; omega)]
    exact mod_lt (by omega) (by omega)
  have g32 : getB (recB r) 32 8 = u64 r.new := by
    have := u64_bd r.new
    rw [recB, get_put_same _ _ _ _ (by omega) (by rw [length_rec8]; omega)]
    exact mod_lt (by omega) (by omega)
  unfold partsR
  rw [g0, g1, g2, g4, g8, g12, g16, g24, g32, i64_u64 _ hf.1, i64_u64 _ hf.2]
  obtain ⟨a, b, c, d, e, f, g, h, i, j⟩ := r
  cases g <;> cases h <;> rfl
/-- What rec.Read answers of 40 bytes. -/
def isRec (xs : List Int) : Bool := goodB (partsR xs) && decide (recB (partsR xs) = xs)
theorem isRec_recB (r : R) (hg : goodB r = true) (hf : r.fits) : isRec (recB r) = true := by
  unfold isRec
  rw [parts_recB r hg hf, hg]
  simp
theorem recB_inj {a b : R} (ha : goodB a = true) (hfa : a.fits) (hb : goodB b = true) (hfb : b.fits) (h : recB a = recB b) : a = b := by
  rw [← parts_recB a ha hfa, ← parts_recB b hb hfb, h]
/-- Where nothing stands there is a zero. -/
theorem recB_zero (r : R) (p : Int) (h : p = 6 ∨ p = 7 ∨ p = 20 ∨ p = 21 ∨ p = 22 ∨ p = 23) : byteAt (recB r) p = 0 := by
  rw [recB, byteAt_putB, if_neg (by omega), rec8, byteAt_putB, if_neg (by omega), rec7, byteAt_putB, if_neg (by omega), rec6, byteAt_putB, if_neg (by omega), rec5, byteAt_putB, if_neg (by omega), rec4, byteAt_putB, if_neg (by omega), rec3, byteAt_putB, if_neg (by omega), rec2, byteAt_putB, if_neg (by omega), rec1, byteAt_putB, if_neg (by omega)]
  unfold byteAt
  split
  · rw [List.getD_eq_getElem?_getD, List.getElem?_replicate]; split <;> rfl
  · rfl
theorem recB_mark (r : R) : byteAt (recB r) 1 = markB r := by
  have := markB_bd r
  rw [recB, byteAt_putB, if_neg (by omega), rec8, byteAt_putB, if_neg (by omega), rec7, byteAt_putB, if_neg (by omega), rec6, byteAt_putB, if_neg (by omega), rec5, byteAt_putB, if_neg (by omega), rec4, byteAt_putB, if_neg (by omega), rec3, byteAt_putB, if_neg (by omega), rec2, byteAt_putB, if_pos (by rw [length_rec1]; omega)]
  show byteOf _ 0 = _
  unfold byteOf
  rw [Int.pow_zero, Int.ediv_one]
  exact mod_lt (by omega) (by omega)
theorem isRec_zero (xs : List Int) (p : Int) (h : p = 6 ∨ p = 7 ∨ p = 20 ∨ p = 21 ∨ p = 22 ∨ p = 23) (hx : byteAt xs p ≠ 0) : isRec xs = false := by
  unfold isRec
  rw [Bool.and_eq_false_iff]
  refine .inr (decide_eq_false fun e => hx ?_)
  rw [← e]
  exact recB_zero _ p h
theorem isRec_mark (xs : List Int) (hx : 4 ≤ byteAt xs 1) : isRec xs = false := by
  unfold isRec
  rw [Bool.and_eq_false_iff]
  refine .inr (decide_eq_false fun e => ?_)
  rw [← e, recB_mark] at hx
  have := markB_bd (partsR xs)
  omega
end Go.Proofs.YtgjhnkadfdcafaaDoor

/- What the small functions of package rec answer: the spans, what Old, New and a change must be, the mark. -/
namespace Go.Proofs.YtgjhnkadfdcafaaDoor
open Go.RowKit
set_option linter.unusedVariables false

def pairV (lo hi : Int) : Value := .agg #[.int .i64 lo, .int .i64 hi]
theorem below_box (w : World) (x : Obj) : Below w.heap.size w (w.alloc x) := (Below.refl _ _).alloc (Nat.le_refl _) x
theorem ret_pair {a b c d : Int} (h : a = c) (h' : b = d) : Ending.returned (.agg #[.int .i64 a, .int .i64 b]) = .returned (pairV c d) := by subst h; subst h'; rfl
set_option maxHeartbeats 400000 in
theorem holds_any (lo hi n : Int) (b : Bool) (w : World) (h : holdsB lo hi n = b) : Calls Tryd.prog 50 #[pairV lo hi, .int .i64 n] w fun e w' => e = .returned (.bool b) ∧ Below w.heap.size w w' := by
  subst h
  unfold pairV
  go_enter Tryd.func50, Tryd.ntmps50
  go_wp2
  all_goals
    go_ret
    refine ⟨ret_bool ?_, below_box _ _⟩
    unfold holdsB
    simp
    omega
set_option maxHeartbeats 1000000 in
theorem txnSpan_any (k : Int) (w : World) : Calls Tryd.prog 51 #[.int .i64 k] w fun e w' => e = .returned (pairV (txnLo k) (txnHi k)) ∧ Below w.heap.size w w' := by
  go_enter Tryd.func51, Tryd.ntmps51
  go_wp2
  all_goals first | (refine bodyPost_ret (v := .agg #[.int .i64 1, .int .i64 60000]) ?_ rfl ⟨ret_pair ?_ ?_, below_box _ _⟩; · (simp [results, Tryd.results51, go_sem]; done)) | (refine bodyPost_ret (v := .agg #[.int .i64 0, .int .i64 0]) ?_ rfl ⟨ret_pair ?_ ?_, below_box _ _⟩; · (simp [results, Tryd.results51, go_sem]; done))
  all_goals
    first | rfl | (try unfold txnLo
                   try unfold txnHi
                   simp only [beq_iff_eq, beq_eq_false_iff_ne, ne_eq] at *
                   repeat' split
                   all_goals omega)
set_option maxHeartbeats 1000000 in
theorem pageSpan_any (k : Int) (w : World) : Calls Tryd.prog 52 #[.int .i64 k] w fun e w' => e = .returned (pairV (pageLo k) (pageHi k)) ∧ Below w.heap.size w w' := by
  go_enter Tryd.func52, Tryd.ntmps52
  go_wp2
  all_goals first | (refine bodyPost_ret (v := .agg #[.int .i64 1, .int .i64 32]) ?_ rfl ⟨ret_pair ?_ ?_, below_box _ _⟩; · (simp [results, Tryd.results52, go_sem]; done)) | (refine bodyPost_ret (v := .agg #[.int .i64 0, .int .i64 0]) ?_ rfl ⟨ret_pair ?_ ?_, below_box _ _⟩; · (simp [results, Tryd.results52, go_sem]; done))
  all_goals
    first | rfl | (try unfold pageLo
                   try unfold pageHi
                   simp only [beq_iff_eq, beq_eq_false_iff_ne, ne_eq] at *
                   repeat' split
                   all_goals omega)
set_option maxHeartbeats 1000000 in
theorem prevSpan_any (k : Int) (w : World) : Calls Tryd.prog 53 #[.int .i64 k] w fun e w' => e = .returned (pairV (prevLo k) (prevHi k)) ∧ Below w.heap.size w w' := by
  go_enter Tryd.func53, Tryd.ntmps53
  go_wp2
  all_goals first | (refine bodyPost_ret (v := .agg #[.int .i64 0, .int .i64 0]) ?_ rfl ⟨ret_pair ?_ ?_, below_box _ _⟩; · (simp [results, Tryd.results53, go_sem]; done)) | (refine bodyPost_ret (v := .agg #[.int .i64 1, .int .i64 1073741824]) ?_ rfl ⟨ret_pair ?_ ?_, below_box _ _⟩; · (simp [results, Tryd.results53, go_sem]; done)) | (refine bodyPost_ret (v := .agg #[.int .i64 0, .int .i64 1073741824]) ?_ rfl ⟨ret_pair ?_ ?_, below_box _ _⟩; · (simp [results, Tryd.results53, go_sem]; done))
  all_goals
    first | rfl | (try unfold prevLo
                   try unfold prevHi
                   simp only [beq_iff_eq, beq_eq_false_iff_ne, ne_eq] at *
                   repeat' split
                   all_goals omega)
set_option maxHeartbeats 1000000 in
theorem nextSpan_any (k : Int) (w : World) : Calls Tryd.prog 54 #[.int .i64 k] w fun e w' => e = .returned (pairV (0) (nextHi k)) ∧ Below w.heap.size w w' := by
  go_enter Tryd.func54, Tryd.ntmps54
  go_wp2
  all_goals first | (refine bodyPost_ret (v := .agg #[.int .i64 0, .int .i64 1073741824]) ?_ rfl ⟨ret_pair ?_ ?_, below_box _ _⟩; · (simp [results, Tryd.results54, go_sem]; done)) | (refine bodyPost_ret (v := .agg #[.int .i64 0, .int .i64 60000]) ?_ rfl ⟨ret_pair ?_ ?_, below_box _ _⟩; · (simp [results, Tryd.results54, go_sem]; done)) | (refine bodyPost_ret (v := .agg #[.int .i64 0, .int .i64 0]) ?_ rfl ⟨ret_pair ?_ ?_, below_box _ _⟩; · (simp [results, Tryd.results54, go_sem]; done))
  all_goals
    first | rfl | (try unfold nextHi
                   skip
                   simp only [beq_iff_eq, beq_eq_false_iff_ne, ne_eq] at *
                   repeat' split
                   all_goals omega)
set_option maxHeartbeats 1000000 in
theorem keySpan_any (k : Int) (w : World) : Calls Tryd.prog 55 #[.int .i64 k] w fun e w' => e = .returned (pairV (0) (keyHi k)) ∧ Below w.heap.size w w' := by
  go_enter Tryd.func55, Tryd.ntmps55
  go_wp2
  all_goals first | (refine bodyPost_ret (v := .agg #[.int .i64 0, .int .i64 1048575]) ?_ rfl ⟨ret_pair ?_ ?_, below_box _ _⟩; · (simp [results, Tryd.results55, go_sem]; done)) | (refine bodyPost_ret (v := .agg #[.int .i64 0, .int .i64 2]) ?_ rfl ⟨ret_pair ?_ ?_, below_box _ _⟩; · (simp [results, Tryd.results55, go_sem]; done)) | (refine bodyPost_ret (v := .agg #[.int .i64 0, .int .i64 0]) ?_ rfl ⟨ret_pair ?_ ?_, below_box _ _⟩; · (simp [results, Tryd.results55, go_sem]; done))
  all_goals
    first | rfl | (try unfold keyHi
                   skip
                   simp only [beq_iff_eq, beq_eq_false_iff_ne, ne_eq] at *
                   repeat' split
                   all_goals omega)
set_option maxHeartbeats 1000000 in
theorem oldHolds_any (r : R) (b : Bool) (w : World) (h : oldB r = b) : Calls Tryd.prog 56 #[r.val] w fun e w' => e = .returned (.bool b) ∧ Below w.heap.size w w' := by
  subst h
  obtain ⟨kind, txn, page, prev, next, key, had, has, old, new⟩ := r
  unfold R.val
  simp only
  go_enter Tryd.func56, Tryd.ntmps56
  go_wp2
  all_goals
    go_ret
    refine ⟨ret_bool ?_, below_box _ _⟩
    unfold oldB
    simp only [beq_iff_eq, beq_eq_false_iff_ne] at *
    simp_all
    all_goals try omega
set_option maxHeartbeats 1000000 in
theorem newHolds_any (r : R) (b : Bool) (w : World) (h : newB r = b) : Calls Tryd.prog 57 #[r.val] w fun e w' => e = .returned (.bool b) ∧ Below w.heap.size w w' := by
  subst h
  obtain ⟨kind, txn, page, prev, next, key, had, has, old, new⟩ := r
  unfold R.val
  simp only
  go_enter Tryd.func57, Tryd.ntmps57
  go_wp2
  all_goals
    go_ret
    refine ⟨ret_bool ?_, below_box _ _⟩
    unfold newB
    simp only [beq_iff_eq, beq_eq_false_iff_ne] at *
    simp_all
    all_goals try omega
set_option maxHeartbeats 1000000 in
theorem changes_any (r : R) (b : Bool) (w : World) (h : chgB r = b) : Calls Tryd.prog 58 #[r.val] w fun e w' => e = .returned (.bool b) ∧ Below w.heap.size w w' := by
  subst h
  obtain ⟨kind, txn, page, prev, next, key, had, has, old, new⟩ := r
  unfold R.val
  simp only
  go_enter Tryd.func58, Tryd.ntmps58
  go_wp2
  all_goals
    go_ret
    refine ⟨ret_bool ?_, below_box _ _⟩
    unfold chgB
    simp_all
    all_goals try omega
set_option maxHeartbeats 1000000 in
theorem marks_any (r : R) (w : World) : Calls Tryd.prog 63 #[r.val] w fun e w' => e = .returned (.int .u64 (markB r)) ∧ Below w.heap.size w w' := by
  obtain ⟨kind, txn, page, prev, next, key, had, has, old, new⟩ := r
  unfold R.val
  simp only
  cases had <;> cases has
  all_goals
    go_enter Tryd.func63, Tryd.ntmps63
    go_wp2
    go_ret
    exact ⟨ret_int (by unfold markB; rfl), below_box _ _⟩
end Go.Proofs.YtgjhnkadfdcafaaDoor

/- A statement that leaves its order open, walked by a list of steps: an operation that only reads what stays, or that is not wanted, may be taken first; where one call alone can come up it is carried out. No Go text here. -/
namespace Go.Proofs.YtgjhnkadfdcafaaDoor
open Go.RowKit
set_option linter.unusedVariables false

/-- The steps may come in this order: (i, true): operation i is taken first; (i, false): i alone can come up. -/
def schedB (ops : Array Oper) : List (Nat × Bool) → Array Bool → Bool
  | [], listed => (Region.ready .any ops listed).isEmpty
  | (i, true) :: r, listed => Region.free .any ops listed i && (Region.ready .any ops listed).contains i && schedB ops r (listed.setIfInBounds i true)
  | (i, false) :: r, listed => decide (Region.ready .any ops listed = [i]) && schedB ops r (listed.setIfInBounds i true)
/-- What the steps must show. -/
def Sched (P : Program) (ops : Array Oper) (Q : Exit → Act → World → Prop) (S : World → Prop) : List (Nat × Bool) → Act → World → Prop
  | [], a, w => Q .normal a w
  | (i, true) :: r, a, w => ∃ oi v, ops[i]? = some oi ∧ YieldsIf P ops S oi v a ∧ Sched P ops Q S r (a.put oi.dst v) w
  | (i, false) :: r, a, w => wpOp P ops Q i (fun a' w' => S w' ∧ Sched P ops Q S r a' w') a w
section
variable {P : Program} {ops : Array Oper} {Q : Exit → Act → World → Prop} {S : World → Prop}
theorem wpAnyH_of_sched (hs : Region.noSelect ops = true) (hQ : ∀ c a d v w, Q (.panic c) (Act.put a d v) w → Q (.panic c) a w) :
    ∀ (steps : List (Nat × Bool)) (listed : Array Bool) (a : Act) (w : World) (fuel : Nat), schedB ops steps listed = true → steps.length ≤ fuel → S w → Sched P ops Q S steps a w → wpAnyH P .any ops Q S fuel listed a w := by
  intro steps
  induction steps with
  | nil =>
    intro listed a w fuel h _ _ hq
    simp only [schedB, List.isEmpty_iff] at h
    exact wpAnyH_done h hq fuel
  | cons s r ih =>
    obtain ⟨i, b⟩ := s
    intro listed a w fuel h hf hS hq
    cases fuel with
    | zero => simp at hf
    | succ fuel =>
      cases b with
      | true =>
        simp only [schedB, Bool.and_eq_true] at h
        obtain ⟨⟨h1, h2⟩, h3⟩ := h
        obtain ⟨oi, v, ho, hy, hr⟩ := hq
        exact wpAnyH_take ho hs h1 h2 (fun c a w => hQ c a _ _ w) hy hS (ih _ _ _ _ h3 (by simp at hf; omega) hS hr)
      | false =>
        simp only [schedB, Bool.and_eq_true, decide_eq_true_eq] at h
        refine wpAnyH_all h.1 (by simp) (fun j hj => ?_)
        simp only [List.mem_singleton] at hj
        subst hj
        exact wpOp_mono (fun a' w' h' => ⟨h'.1, ih _ _ _ _ h.2 (by simp at hf; omega) h'.1 h'.2⟩) hq
theorem region_of_sched {id : Nat} {a : Act} {w : World} (steps : List (Nat × Bool)) (hm : P.follows .mixedOrders = true) (hs : Region.noSelect ops = true) (hb : schedB ops steps (Array.replicate ops.size false) = true) (hl : decide (steps.length ≤ ops.size) = true)
    (hQ : ∀ c a d v w, Q (.panic c) (Act.put a d v) w → Q (.panic c) a w) (hS : S w.drew) (h : Sched P ops Q S steps a w.drew) : (Code.region id ops true).wp P Q a w :=
  wp_region_held_drew hm hS fun hS => wpAnyH_of_sched hs hQ steps _ _ _ _ hb (of_decide_eq_true hl) hS h
theorem sched_nil {a : Act} {w : World} (h : Q .normal a w) : Sched P ops Q S [] a w := h
theorem sched_take {i : Nat} {r : List (Nat × Bool)} {t : List Value} {ds : List Deferred} {w : World} {o : Oper} {v : Value} {d : Tmp} (ho : ops[i]? = some o) (hd : o.dst = some d) (hw : Region.wanted o (yielded ops t.toArray) = true) (hv : ∀ w, S w → (execOp (Act.mk t.toArray ds).eval o).run P w = .ok (.value v) w) (hr : Sched P ops Q S r (Act.mk (t.set d v).toArray ds) w) : Sched P ops Q S ((i, true) :: r) (Act.mk t.toArray ds) w :=
  ⟨o, v, ho, .inl ⟨hw, hv⟩, by rw [hd]; simpa [Act.put] using hr⟩
/-- A call of the program's own function enters it. -/
def Enters (P : Program) (f : FuncId) : Prop := ∀ (args : Array Value) (w : World), (callFunc f args).run P w = .ok (.enter f args) w
theorem enters {f : FuncId} {fn : Func} (hf : P.funcs[f]? = some fn) (hn : (fn.name == "runtime.NumGoroutine") = false) (hb : fn.body.isNone = false) : Enters P f := by
  intro args w
  have hn' : ¬ fn.name = "runtime.NumGoroutine" := by simpa using hn
  have hb' : ¬ fn.body = none := by intro e; rw [e] at hb; simp at hb
  simp [callFunc, run_program, hf, hn', hb']
theorem run_enter {o : Oper} {a : Act} {f : FuncId} {xs : Array Operand} {ts : Array TypeId} (hf : Enters P f) (hop : o.op = .call { callee := .value (.func f), args := xs, argTypes := ts }) (w : World) : (execOp a.eval o).run P w = .ok (.enter f (xs.map a.eval)) w := by
  have h : a.eval (.func f) = .func (.func f) #[] #[] := rfl
  simp [execOp, hop, resolve, h, Deferred.ofValue, invoke, hf (xs.map a.eval) w]
theorem sched_call {i : Nat} {r : List (Nat × Bool)} {t : List Value} {ds : List Deferred} {w : World} {o : Oper} {d : Tmp} {f : FuncId} {ys : List Operand} {ts : Array TypeId} (ho : ops[i]? = some o) (hd : o.dst = some d) (hw : Region.wanted o (yielded ops t.toArray) = true)
    (hop : o.op = .call { callee := .value (.func f), args := ys.toArray, argTypes := ts }) (hf : Enters P f)
    (hc : Calls P f (ys.map (Act.mk t.toArray ds).eval).toArray w fun e w' => ∃ v, e = .returned v ∧ S w' ∧ Sched P ops Q S r (Act.mk (t.set d v).toArray ds) w') : Sched P ops Q S ((i, false) :: r) (Act.mk t.toArray ds) w := by
  show wpOp P ops Q i _ _ w
  unfold wpOp
  rw [ho]
  simp only [hw, if_true]
  refine .inl ?_
  unfold Oper.wp
  rw [run_enter hf hop, List.map_toArray]
  refine hc.mono ?_
  rintro e w' ⟨v, rfl, hS, hr⟩
  refine ⟨hS, ?_⟩
  rw [hd]
  simpa [Act.put] using hr
theorem sched_move {i : Nat} {r : List (Nat × Bool)} {t : List Value} {ds : List Deferred} {w : World} {o : Oper} {d : Tmp} {x : Operand} (v : Value) (ho : ops[i]? = some o) (hd : o.dst = some d) (hw : Region.wanted o (yielded ops t.toArray) = true) (hop : o.op = .move x) (hv : (Act.mk t.toArray ds).eval x = v) (hr : Sched P ops Q S r (Act.mk (t.set d v).toArray ds) w) : Sched P ops Q S ((i, true) :: r) (Act.mk t.toArray ds) w :=
  sched_take ho hd hw (fun w _ => by simp [execOp, hop, hv]) hr
theorem sched_assign {i : Nat} {r : List (Nat × Bool)} {t : List Value} {ds : List Deferred} {w : World} {o : Oper} {d : Tmp} {x : Operand} (v : Value) (ho : ops[i]? = some o) (hd : o.dst = some d) (hw : Region.wanted o (yielded ops t.toArray) = true) (hop : o.op = .assign x) (hv : (Act.mk t.toArray ds).eval x = v) (hr : Sched P ops Q S r (Act.mk (t.set d v).toArray ds) w) : Sched P ops Q S ((i, true) :: r) (Act.mk t.toArray ds) w :=
  sched_take ho hd hw (fun w _ => by simp [execOp, hop, hv]) hr
theorem sched_pick {i : Nat} {r : List (Nat × Bool)} {t : List Value} {ds : List Deferred} {w : World} {o : Oper} {d : Tmp} {c x y : Operand} (b : Bool) (v : Value) (ho : ops[i]? = some o) (hd : o.dst = some d) (hw : Region.wanted o (yielded ops t.toArray) = true) (hop : o.op = .pick c x y) (hc : (Act.mk t.toArray ds).eval c = .bool b) (hv : (bif b then (Act.mk t.toArray ds).eval x else (Act.mk t.toArray ds).eval y) = v) (hr : Sched P ops Q S r (Act.mk (t.set d v).toArray ds) w) : Sched P ops Q S ((i, true) :: r) (Act.mk t.toArray ds) w :=
  sched_take ho hd hw (fun w _ => by cases b <;> simp_all [execOp, asBool]) hr
def isUndef : Value → Bool
  | .tuple x => x.isEmpty
  | _ => false
theorem eq_undef {v : Value} (h : isUndef v = true) : v = undef := by
  cases v <;> simp [isUndef] at h
  subst h; rfl
/-- None of these operations is wanted, and their slots are empty. -/
def skipB (ops : Array Oper) (t : List Value) : List (Nat × Bool) → Bool
  | [] => true
  | (i, _) :: r => (match ops[i]? with
    | none => false
    | some o => !Region.wanted o (yielded ops t.toArray) && (match o.dst with | none => true | some d => isUndef (t.getD d undef))) && skipB ops t r
theorem set_same (t : List Value) (d : Nat) (h : isUndef (t.getD d undef) = true) : t.set d undef = t := by
  refine List.ext_getElem (by simp) fun n h1 h2 => ?_
  rw [List.getElem_set]
  split
  · rename_i e
    subst e
    rw [List.getD_eq_getElem?_getD, List.getElem?_eq_getElem h2] at h
    exact (eq_undef h).symm
  · rfl
theorem sched_skip {t : List Value} {ds : List Deferred} {w : World} {r : List (Nat × Bool)} : ∀ (is : List (Nat × Bool)) (h : skipB ops t is = true) (hS : S w) (hr : Sched P ops Q S r (Act.mk t.toArray ds) w), Sched P ops Q S (is ++ r) (Act.mk t.toArray ds) w := by
  intro is
  induction is with
  | nil => intro _ _ hr; exact hr
  | cons s is ih =>
    obtain ⟨i, b⟩ := s
    intro h hS hr
    simp only [skipB, Bool.and_eq_true] at h
    have hgo := ih h.2 hS hr
    cases ho : ops[i]? with
    | none => simp [ho] at h
    | some o =>
      simp only [ho, Bool.and_eq_true, Bool.not_eq_true'] at h
      obtain ⟨⟨hw, hd⟩, _⟩ := h
      have hp : (Act.mk t.toArray ds).put o.dst undef = Act.mk t.toArray ds := by
        cases hdd : o.dst with
        | none => rfl
        | some d =>
          rw [hdd] at hd
          simp only [Act.put, List.setIfInBounds_toArray, set_same t d hd]
      cases b with
      | true => exact ⟨o, undef, ho, .inr ⟨hw, rfl⟩, by rw [hp]; exact hgo⟩
      | false =>
        show wpOp P ops Q i _ _ w
        unfold wpOp
        rw [ho]
        simp only [hw, Bool.false_eq_true, if_false, hp]
        exact ⟨hS, hgo⟩
end
end Go.Proofs.YtgjhnkadfdcafaaDoor
