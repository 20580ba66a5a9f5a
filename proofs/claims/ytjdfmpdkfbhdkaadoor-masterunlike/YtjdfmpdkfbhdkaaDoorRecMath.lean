
/- Plain lemmas on records: which may be, their bytes, what bytes say; no Go text here. -/
import Derived.Test.YtjdfmpdkfbhdkaaDoorMake
namespace Go.Proofs.YtjdfmpdkfbhdkaaDoor
open Go.RowKit
set_option linter.unusedVariables false

/-- A record as plain data. -/
structure R where
  kind : Int
  txn : Int
  page : Int
  prev : Int
  next : Int
  key : Int
  had : Bool
  has : Bool
  old : Int
  new : Int
/-- A record as a value. -/
def R.val (r : R) : Value := .agg #[.int .i64 r.kind, .int .i64 r.txn, .int .i64 r.page, .int .i64 r.prev, .int .i64 r.next, .int .i64 r.key, .bool r.had, .bool r.has, .int .i64 r.old, .int .i64 r.new]
/-- Old and New are whatever eight bytes can say. -/
def R.fits (r : R) : Prop := (-9223372036854775808 ≤ r.old ∧ r.old ≤ 9223372036854775807) ∧ (-9223372036854775808 ≤ r.new ∧ r.new ≤ 9223372036854775807)
def holdsB (lo hi n : Int) : Bool := decide (lo ≤ n) && decide (n ≤ hi)
def txnLo (k : Int) : Int := if k = 1 ∨ k = 2 ∨ k = 3 ∨ k = 4 ∨ k = 5 ∨ k = 6 ∨ k = 8 then 1 else 0
def txnHi (k : Int) : Int := if k = 1 ∨ k = 2 ∨ k = 3 ∨ k = 4 ∨ k = 5 ∨ k = 6 ∨ k = 8 then 60000 else 0
def pageLo (k : Int) : Int := if k = 2 ∨ k = 3 ∨ k = 9 then 1 else 0
def pageHi (k : Int) : Int := if k = 2 ∨ k = 3 ∨ k = 9 then 32 else 0
def prevLo (k : Int) : Int := if k = 9 then 1 else 0
def prevHi (k : Int) : Int := if k = 1 ∨ k = 7 ∨ k = 10 then 0 else 1073741824
def nextHi (k : Int) : Int := if k = 3 ∨ k = 8 then 1073741824 else if k = 10 then 60000 else 0
def keyHi (k : Int) : Int := if k = 2 ∨ k = 3 then 1048575 else if k = 8 then 2 else 0
def oldB (r : R) : Bool := if r.kind = 3 then r.had && (decide (1 ≤ r.old) && decide (r.old ≤ 1073741824)) else if r.kind = 2 then r.had || (r.old == 0) else !r.had && (r.old == 0)
def newB (r : R) : Bool := if r.kind = 2 ∨ r.kind = 3 then r.has || (r.new == 0) else !r.has && (r.new == 0)
def chgB (r : R) : Bool := !(r.kind == 2) || (r.had || r.has)
/-- A record that may be. -/
def goodB (r : R) : Bool := holdsB 1 10 r.kind && (holdsB (txnLo r.kind) (txnHi r.kind) r.txn && (holdsB (pageLo r.kind) (pageHi r.kind) r.page && (holdsB (prevLo r.kind) (prevHi r.kind) r.prev && (holdsB 0 (nextHi r.kind) r.next && (holdsB 0 (keyHi r.kind) r.key && (oldB r && (newB r && chgB r)))))))
theorem holdsB_iff (lo hi n : Int) : holdsB lo hi n = true ↔ lo ≤ n ∧ n ≤ hi := by simp [holdsB]
structure R.Small (r : R) : Prop where
  kind : 1 ≤ r.kind ∧ r.kind ≤ 10
  txn : 0 ≤ r.txn ∧ r.txn ≤ 60000
  page : 0 ≤ r.page ∧ r.page ≤ 32
  prev : 0 ≤ r.prev ∧ r.prev ≤ 1073741824
  next : 0 ≤ r.next ∧ r.next ≤ 1073741824
  key : 0 ≤ r.key ∧ r.key ≤ 1048575
theorem R.small {r : R} (h : goodB r = true) : r.Small := by
  simp only [goodB, Bool.and_eq_true, holdsB_iff] at h
  obtain ⟨h1, h2, h3, h4, h5, h6, _⟩ := h
  refine ⟨h1, ?_, ?_, ?_, ?_, ?_⟩
  · unfold txnLo txnHi at h2; split at h2 <;> omega
  · unfold pageLo pageHi at h3; split at h3 <;> omega
  · unfold prevLo prevHi at h4; split at h4 <;> split at h4 <;> omega
  · unfold nextHi at h5; split at h5 <;> (try split at h5) <;> omega
  · unfold keyHi at h6; split at h6 <;> (try split at h6) <;> omega
/-- The mark of Had and Has. -/
def markB (r : R) : Int := (if r.had then 1 else 0) + (if r.has then 2 else 0)
theorem markB_bd (r : R) : 0 ≤ markB r ∧ markB r ≤ 3 := by unfold markB; split <;> split <;> omega
/-- A number of eight bytes, as it is without a sign. -/
def u64 (n : Int) : Int := n % 18446744073709551616
/-- A number of eight bytes, as it is with a sign. -/
def i64 (n : Int) : Int := if n < 9223372036854775808 then n else n - 18446744073709551616
theorem u64_bd (n : Int) : 0 ≤ u64 n ∧ u64 n ≤ 18446744073709551615 := by unfold u64; omega
theorem i64_u64 (n : Int) (h : -9223372036854775808 ≤ n ∧ n ≤ 9223372036854775807) : i64 (u64 n) = n := by unfold i64 u64; split <;> omega
theorem i64_bd (n : Int) (h : 0 ≤ n ∧ n ≤ 18446744073709551615) : -9223372036854775808 ≤ i64 n ∧ i64 n ≤ 9223372036854775807 := by unfold i64; split <;> omega
theorem u64_i64 (n : Int) (h : 0 ≤ n ∧ n ≤ 18446744073709551615) : u64 (i64 n) = n := by unfold i64 u64; split <;> omega

def rec1 (r : R) : List Int := putB (List.replicate 40 0) 0 r.kind 1
def rec2 (r : R) : List Int := putB (rec1 r) 1 (markB r) 1
def rec3 (r : R) : List Int := putB (rec2 r) 2 r.txn 2
def rec4 (r : R) : List Int := putB (rec3 r) 4 r.page 2
def rec5 (r : R) : List Int := putB (rec4 r) 8 r.prev 4
def rec6 (r : R) : List Int := putB (rec5 r) 12 r.next 4
def rec7 (r : R) : List Int := putB (rec6 r) 16 r.key 4
def rec8 (r : R) : List Int := putB (rec7 r) 24 (u64 r.old) 8
/-- A record's bytes. -/
def recB (r : R) : List Int := putB (rec8 r) 32 (u64 r.new) 8
theorem length_rec1 (r : R) : (rec1 r).length = 40 := by rw [rec1, length_putB, List.length_replicate]
theorem length_rec2 (r : R) : (rec2 r).length = 40 := by rw [rec2, length_putB, length_rec1]
theorem length_rec3 (r : R) : (rec3 r).length = 40 := by rw [rec3, length_putB, length_rec2]
theorem length_rec4 (r : R) : (rec4 r).length = 40 := by rw [rec4, length_putB, length_rec3]
theorem length_rec5 (r : R) : (rec5 r).length = 40 := by rw [rec5, length_putB, length_rec4]
theorem length_rec6 (r : R) : (rec6 r).length = 40 := by rw [rec6, length_putB, length_rec5]
theorem length_rec7 (r : R) : (rec7 r).length = 40 := by rw [rec7, length_putB, length_rec6]
theorem length_rec8 (r : R) : (rec8 r).length = 40 := by rw [rec8, length_putB, length_rec7]
theorem length_recB (r : R) : (recB r).length = 40 := by rw [recB, length_putB, length_rec8]
theorem bytes_recB (r : R) : Bytes (recB r) := by
  have h0 : Bytes (List.replicate 40 0) := fun x hx => by rw [(List.mem_replicate.1 hx).2]; omega
  exact ((((((((h0.putB _ _ _).putB _ _ _).putB _ _ _).putB _ _ _).putB _ _ _).putB _ _ _).putB _ _ _).putB _ _ _).putB _ _ _

/-- What bytes say, be it a record or not. -/
def partsR (xs : List Int) : R := ⟨getB xs 0 1, getB xs 2 2, getB xs 4 2, getB xs 8 4, getB xs 12 4, getB xs 16 4, decide (getB xs 1 1 % 2 = 1), decide (getB xs 1 1 / 2 % 2 = 1), i64 (getB xs 24 8), i64 (getB xs 32 8)⟩
theorem partsR_fits (xs : List Int) (h : Bytes xs) : (partsR xs).fits := ⟨i64_bd _ (getB_bd xs h _ _ (by omega)), i64_bd _ (getB_bd xs h _ _ (by omega))⟩
theorem mod_lt {n m : Int} (h0 : 0 ≤ n) (h1 : n < m) : n % m = n := Int.emod_eq_of_lt h0 h1
theorem parts_recB (r : R) (hg : goodB r = true) (hf : r.fits) : partsR (recB r) = r := by
  obtain ⟨⟨k0, k1⟩, ⟨t0, t1⟩, ⟨p0, p1⟩, ⟨v0, v1⟩, ⟨n0, n1⟩, ⟨y0, y1⟩⟩ := R.small hg
  have g0 : getB (recB r) 0 1 = r.kind := by
    rw [recB, get_put_other _ _ _ _ _ _ (by omega), rec8, get_put_other _ _ _ _ _ _ (by omega), rec7, get_put_other _ _ _ _ _ _ (by omega), rec6, get_put_other _ _ _ _ _ _ (by omega), rec5, get_put_other _ _ _ _ _ _ (by omega), rec4, get_put_other _ _ _ _ _ _ (by omega), rec3, get_put_other _ _ _ _ _ _ (by omega), rec2, get_put_other _ _ _ _ _ _ (by omega), rec1, get_put_same _ _ _ _ (by omega) (by simp)]
    exact mod_lt (by omega) (by omega)
  have g1 : getB (recB r) 1 1 = markB r := by
    have := markB_bd r
    rw [recB, get_put_other _ _ _ _ _ _ (by omega), rec8, get_put_other _ _ _ _ _ _ (by omega), rec7, get_put_other _ _ _ _ _ _ (by omega), rec6, get_put_other _ _ _ _ _ _ (by omega), rec5, get_put_other _ _ _ _ _ _ (by omega), rec4, get_put_other _ _ _ _ _ _ (by omega), rec3, get_put_other _ _ _ _ _ _ (by omega), rec2, get_put_same _ _ _ _ (by omega) (by rw [length_rec1]; omega)]
    exact mod_lt (by omega) (by omega)
  have g2 : getB (recB r) 2 2 = r.txn := by
    rw [recB, get_put_other _ _ _ _ _ _ (by omega), rec8, get_put_other _ _ _ _ _ _ (by omega), rec7, get_put_other _ _ _ _ _ _ (by omega), rec6, get_put_other _ _ _ _ _ _ (by omega), rec5, get_put_other _ _ _ _ _ _ (by omega), rec4, get_put_other _ _ _ _ _ _ (by omega), rec3, get_put_same _ _ _ _ (by omega) (by rw [length_rec2]; omega)]
    exact mod_lt (by omega) (by omega)
  have g4 : getB (recB r) 4 2 = r.page := by
    rw [recB, get_put_other _ _ _ _ _ _ (by omega), rec8, get_put_other _ _ _ _ _ _ (by omega), rec7, get_put_other _ _ _ _ _ _ (by omega), rec6, get_put_other _ _ _ _ _ _ (by omega), rec5, get_put_other _ _ _ _ _ _ (by omega), rec4, get_put_same _ _ _ _ (by omega) (by rw [length_rec3]; omega)]
    exact mod_lt (by omega) (by omega)
  have g8 : getB (recB r) 8 4 = r.prev := by
    rw [recB, get_put_other _ _ _ _ _ _ (by omega), rec8, get_put_other _ _ _ _ _ _ (by omega), rec7, get_put_other _ _ _ _ _ _ (by omega), rec6, get_put_other _ _ _ _ _ _ (by omega), rec5, get_put_same _ _ _ _ (by omega) (by rw [length_rec4]; omega)]
    exact mod_lt (by omega) (by omega)
  have g12 : getB (recB r) 12 4 = r.next := by
    rw [recB, get_put_other _ _ _ _ _ _ (by omega), rec8, get_put_other _ _ _ _ _ _ (by omega), rec7, get_put_other _ _ _ _ _ _ (by omega), rec6, get_put_same _ _ _ _ (by omega) (by rw [length_rec5]; omega)]
    exact mod_lt (by omega) (by omega)
  have g16 : getB (recB r) 16 4 = r.key := by
    rw [recB, get_put_other _ _ _ _ _ _ (by omega), rec8, get_put_other _ _ _ _ _ _ (by omega), rec7, get_put_same _ _ _ _ (by omega) (by rw [length_rec6]; omega)]
    exact mod_lt (by omega) (by omega)
  have g24 : getB (recB r) 24 8 = u64 r.old := by
    have := u64_bd r.old
    rw [recB, get_put_other _ _ _ _ _ _ (by omega), rec8, get_put_same _ _ _ _ (by omega) (by rw [length_rec7]; omega)]
    exact mod_lt (by omega) (by omega)
  have g32 : getB (recB r) 32 8 = u64 r.new := by
    have := u64_bd r.new
    rw [recB, get_put_same _ _ _ _ (by omega) (by rw [length_rec8]; omega)]
    exact mod_lt (by omega) (by omega)
  unfold partsR
  rw [g0, g1, g2, g4, g8, g12, g16, g24, g32, i64_u64 _ hf.1, i64_u64 _ hf.2]
  obtain ⟨a, b, c, d, e, f, g, h, i, j⟩ := r
  cases g <;> cases h <;> rfl
/-- What rec.Read answers of 40 bytes. -/
def isRec (xs : List Int) : Bool := goodB (partsR xs) && decide (recB (partsR xs) = xs)
theorem isRec_recB (r : R) (hg : goodB r = true) (hf : r.fits) : isRec (recB r) = true := by
  unfold isRec
  rw [parts_recB r hg hf, hg]
  simp
theorem recB_inj {a b : R} (ha : goodB a = true) (hfa : a.fits) (hb : goodB b = true) (hfb : b.fits) (h : recB a = recB b) : a = b := by
  rw [← parts_recB a ha hfa, ← parts_recB b hb hfb, h]
/-- Where nothing stands there is a zero. -/
theorem recB_zero (r : R) (p : Int) (h : p = 6 ∨ p = 7 ∨ p = 20 ∨ p = 21 ∨ p = 22 ∨ p = 23) : byteAt (recB r) p = 0 := by
  rw [recB, byteAt_putB, if_neg (by omega), rec8, byteAt_putB, if_neg (by omega), rec7, byteAt_putB, if_neg (by omega), rec6, byteAt_putB, if_neg (by omega), rec5, byteAt_putB, if_neg (by omega), rec4, byteAt_putB, if_neg (by omega), rec3, byteAt_putB, if_neg (by omega), rec2, byteAt_putB, if_neg (by omega), rec1, byteAt_putB, if_neg (by omega)]
  unfold byteAt
  split
  · rw [List.getD_eq_getElem?_getD, List.getElem?_replicate]; split <;> rfl
  · rfl
theorem recB_mark (r : R) : byteAt (recB r) 1 = markB r := by
  have := markB_bd r
  rw [recB, byteAt_putB, if_neg (by omega), rec8, byteAt_putB, if_neg (by omega), rec7, byteAt_putB, if_neg (by omega), rec6, byteAt_putB, if_neg (by omega), rec5, byteAt_putB, if_neg (by omega), rec4, byteAt_putB, if_neg (by omega), rec3, byteAt_putB, if_neg (by omega), rec2, byteAt_putB, if_pos (by rw [length_rec1]; omega)]
  show byteOf _ 0 = _
  unfold byteOf
  rw [Int.pow_zero, Int.ediv_one]
  exact mod_lt (by omega) (by omega)
theorem isRec_zero (xs : List Int) (p : Int) (h : p = 6 ∨ p = 7 ∨ p = 20 ∨ p = 21 ∨ p = 22 ∨ p = 23) (hx : byteAt xs p ≠ 0) : isRec xs = false := by
  unfold isRec
  rw [Bool.and_eq_false_iff]
  refine .inr (decide_eq_false fun e => hx ?_)
  rw [← e]
  exact recB_zero _ p h
theorem isRec_mark (xs : List Int) (hx : 4 ≤ byteAt xs 1) : isRec xs = false := by
  unfold isRec
  rw [Bool.and_eq_false_iff]
  refine .inr (decide_eq_false fun e => ?_)
  rw [← e, recB_mark] at hx
  have := markB_bd (partsR xs)
  omega
end Go.Proofs.YtjdfmpdkfbhdkaaDoor
