/- Lemmas and contracts that the law stands on, joined: Make, RecMath, Copy, First. -/
import Derived.Test.YtmkbedfccgojpaaJoin4
import Derived.Laws.CopyOwn
import Derived.Laws.AppendOwnNone
/- What the functions that make a new list of bytes answer: cell.grown, cell.Put, cell.Fill, phoenixref.Bytes and the document's own Put and Fill, at every list of bytes; nothing that was there is written. -/
namespace Go.Proofs.Ytmkbedfccgojpaa
open Go.RowKit
set_option linter.unusedVariables false

theorem Try.info5 : (Try.prog.info? 5).map (fun i => (i.zero, i.size, i.bytes)) = some (some (.int .u8 0), 1, 1) := by kernel_rfl
theorem Try.size5 : (Try.prog.info? 5).map (·.size) = some 1 := by kernel_rfl

/-- xs as cells. -/
def cellsOf (xs : List Int) : List Value := xs.map (Value.int .u8)
theorem length_cellsOf (xs : List Int) : (cellsOf xs).length = xs.length := by simp [cellsOf]
theorem oneCell_cellsOf (xs : List Int) : ∀ u ∈ cellsOf xs, u.oneCell' = true := ints_oneCell _ _
theorem cellsOf_at {xs : List Int} {j : Nat} {v : Value} (h : (cellsOf xs)[j]? = some v) : j < xs.length ∧ v = .int .u8 (xs.getD j 0) := by
  have hj : j < xs.length := by
    have := (List.getElem?_eq_some_iff.1 h).1
    simpa [cellsOf] using this
  refine ⟨hj, ?_⟩
  simp [cellsOf, hj] at h
  rw [← h, List.getD_eq_getElem?_getD, List.getElem?_eq_getElem hj]
  rfl
theorem cellsOf_getD {xs : List Int} {j : Nat} (h : j < xs.length) : (cellsOf xs)[j]? = some (.int .u8 (xs.getD j 0)) := by
  simp [cellsOf, h]

/-- The slice that begins at 'ao' owns the bytes xs: it lies in a block from 'B' on. -/
def Own (w : World) (B : Nat) (ao : Option Addr) (cap : Nat) (xs : List Int) : Prop :=
  w.ownsRow B 5 1 (.slice ao xs.length cap) xs.length (cellsOf xs) ∧ Bytes xs ∧ xs.length ≤ 4294967296

theorem Own.row {w : World} {B : Nat} {ao : Option Addr} {cap : Nat} {xs : List Int} (h : Own w B ao cap xs) : Row w ao xs := by
  obtain ⟨h1, h2, h3⟩ := h
  refine ⟨h3, h2, fun hp => ?_⟩
  have h1' := h1
  rcases h1.2 with ⟨e, h0⟩ | ⟨g, c, cur, hv, hg, hh, h4, h5, h6, h7⟩
  · omega
  · simp only [Value.slice.injEq] at hv
    obtain ⟨rfl, _, rfl⟩ := hv
    refine ⟨g, 0, rfl, ?_, fun i hi => ?_⟩
    · by_cases hlt : g < w.heap.size
      · exact hlt
      · rw [Array.getElem?_eq_none (by omega)] at hh; simp at hh
    · rw [Nat.zero_add, h1'.cellAt i (by omega)]
      exact cellsOf_getD hi
theorem Own.below {w w' : World} {B C : Nat} {ao : Option Addr} {cap : Nat} {xs : List Int} (h : Own w B ao cap xs) (hb : Below C w w') (hC : w.heap.size ≤ C) : Own w' B ao cap xs := by
  obtain ⟨⟨h0, h1⟩, h2, h3⟩ := h
  refine ⟨⟨h0, ?_⟩, h2, h3⟩
  rcases h1 with h1 | ⟨g, c, cur, hv, hg, hh, r⟩
  · exact .inl h1
  · refine .inr ⟨g, c, cur, hv, hg, ?_, r⟩
    have hlt : g < w.heap.size := by
      by_cases hlt : g < w.heap.size
      · exact hlt
      · rw [Array.getElem?_eq_none (by omega)] at hh; simp at hh
    rw [hb.block g (by omega)]
    exact hh
theorem Own.mono {w : World} {B C : Nat} {ao : Option Addr} {cap : Nat} {xs : List Int} (h : Own w B ao cap xs) (hC : C ≤ B) : Own w C ao cap xs := by
  obtain ⟨⟨h0, h1⟩, h2, h3⟩ := h
  refine ⟨⟨h0, ?_⟩, h2, h3⟩
  rcases h1 with h1 | ⟨g, c, cur, hv, hg, r⟩
  · exact .inl h1
  · exact .inr ⟨g, c, cur, hv, by omega, r⟩
theorem Own.drewN {w : World} {B : Nat} {ao : Option Addr} {cap : Nat} {xs : List Int} (h : Own w B ao cap xs) (n : Nat) : Own (w.drewN n) B ao cap xs := h

/-- What cell.grown answers. -/
def grownB (xs : List Int) (n : Nat) : List Int := xs ++ List.replicate (n - xs.length) 0
theorem length_grownB {xs : List Int} {n : Nat} (h : xs.length ≤ n) : (grownB xs n).length = n := by simp [grownB]; omega
theorem Bytes.grownB {xs : List Int} (h : Bytes xs) (n : Nat) : Bytes (grownB xs n) := by
  intro x hx
  rcases List.mem_append.1 hx with h1 | h1
  · exact h x h1
  · rw [(List.mem_replicate.1 h1).2]; omega

theorem splice_grown (xs : List Int) (n : Nat) (h : xs.length ≤ n) : splice (cellsOf (List.replicate n 0)) 0 (cellsOf xs) = cellsOf (grownB xs n) := by
  unfold splice cellsOf grownB
  simp
theorem row_of_made {w : World} {B n : Nat} (h : w.ownsRow B 5 1 (.slice (some ⟨B, 0, none⟩) n n) n (madeCells (Value.int .u8 0).cells (n * 1)).toList) :
    w.heap[B]? = some (.cells (cellsOf (List.replicate n 0)).toArray 5 (0, 0)) := by
  rcases h.2 with ⟨e, _⟩ | ⟨g, c, cur, hv, hg, hh, h4, h5, h6, h7⟩
  · simp at e
  · simp only [Value.slice.injEq, Option.some.injEq, Addr.mk.injEq, and_true, true_and] at hv
    obtain ⟨rfl, rfl⟩ := hv
    rw [hh]
    have e1 : cur.toList = cellsOf (List.replicate n 0) := by
      rw [List.take_of_length_le (by simp; omega)] at h7
      rw [h7]
      have e2 : (Value.int .u8 0).cells = #[Value.int .u8 0] := rfl
      rw [e2, Nat.mul_one, toList_madeCells_one]
      simp [cellsOf]
    rw [← e1]
theorem own_of_row {w : World} {B : Nat} {xs : List Int} (hh : w.heap[B]? = some (.cells (cellsOf xs).toArray 5 (0, 0))) (hb : Bytes xs) (hl : xs.length ≤ 4294967296) : Own w B (some ⟨B, 0, none⟩) xs.length xs := by
  refine ⟨⟨by simp [length_cellsOf], .inr ⟨B, xs.length, _, rfl, Nat.le_refl _, hh, Nat.le_refl _, by unfold maxLen; omega, by simp [length_cellsOf], ?_⟩⟩, hb, hl⟩
  rw [List.take_of_length_le (by simp [length_cellsOf])]

theorem Row.src {w : World} {ao : Option Addr} {xs : List Int} (h : Row w ao xs) (hp : 0 < (cellsOf xs).length) : ∃ ad, ao = some ad ∧ ∀ j v, (cellsOf xs)[j]? = some v → w.cell? (ad.add j) = some v := by
  obtain ⟨_, _, h2⟩ := h
  rw [length_cellsOf] at hp
  obtain ⟨b, off, e, _, hc⟩ := h2 hp
  refine ⟨_, e, fun j v hj => ?_⟩
  obtain ⟨hlt, rfl⟩ := cellsOf_at hj
  rw [Addr.add_lit]
  exact hc j hlt

theorem Own.stored {w : World} {B g cap : Nat} {xs : List Int} (h : Own w B (some ⟨g, 0, none⟩) cap xs) (j : Nat) (x : Int) (h0 : 0 ≤ x) (h1 : x ≤ 255) : Own (w.setCell ⟨g, j, none⟩ (.int .u8 x)) B (some ⟨g, 0, none⟩) cap (xs.set j x) := by
  obtain ⟨h2, h3, h4⟩ := h
  have e := (h2.stored j (.int .u8 x)).1
  have e2 : cellsOf (xs.set j x) = (cellsOf xs).set j (.int .u8 x) := by simp [cellsOf, List.map_set]
  refine ⟨?_, ?_, by simpa using h4⟩
  · rw [e2, List.length_set]; exact e
  · intro y hy
    rcases List.mem_or_eq_of_mem_set hy with h5 | h5
    · exact h3 y h5
    · subst h5; exact ⟨h0, h1⟩
theorem Own.cell {w : World} {B g cap : Nat} {xs : List Int} (h : Own w B (some ⟨g, 0, none⟩) cap xs) (j : Nat) (hj : j < xs.length) : w.cell? ⟨g, j, none⟩ = some (.int .u8 (xs.getD j 0)) := by
  rw [h.1.cellAt j (by omega)]
  exact cellsOf_getD hj
theorem Own.frozen {w : World} {B g cap : Nat} {xs : List Int} (h : Own w B (some ⟨g, 0, none⟩) cap xs) (j : Nat) : w.frozen? ⟨g, j, none⟩ = false := h.1.frozenAt j

theorem div_pow_bd (n : Int) (k : Nat) (h0 : 0 ≤ n) (h1 : n ≤ 18446744073709551615) : 0 ≤ n / 256 ^ k ∧ n / 256 ^ k ≤ 18446744073709551615 := by
  have hp : (0 : Int) < 256 ^ k := Int.pow_pos (by decide)
  refine ⟨Int.ediv_nonneg h0 (by omega), ?_⟩
  have : n / 256 ^ k ≤ n := Int.ediv_le_self _ h0
  omega
theorem div_pow_succ (n : Int) (k : Nat) : n / 256 ^ (k + 1) = n / 256 ^ k / 256 := by
  rw [Int.pow_succ, Int.ediv_ediv_of_nonneg (Int.le_of_lt (Int.pow_pos (by decide)))]

/-- What cell.Fill answers, for a size that a call may answer. -/
def fillB (xs : List Int) (S : Int) : List Int := grownB xs (max S.toNat xs.length)
theorem length_fillB (xs : List Int) (S : Int) : (fillB xs S).length = max S.toNat xs.length := length_grownB (by omega)
end Go.Proofs.Ytmkbedfccgojpaa

/- Plain lemmas on records: which may be, their bytes, what bytes say; no Go text here. -/
namespace Go.Proofs.Ytmkbedfccgojpaa
open Go.RowKit
set_option linter.unusedVariables false

/-- A record as plain data. -/
structure R where
  kind : Int
  txn : Int
  page : Int
  prev : Int
  next : Int
  key : Int
  had : Bool
  has : Bool
  old : Int
  new : Int
/-- A record as a value. -/
def R.val (r : R) : Value := .agg #[.int .i64 r.kind, .int .i64 r.txn, .int .i64 r.page, .int .i64 r.prev, .int .i64 r.next, .int .i64 r.key, .bool r.had, .bool r.has, .int .i64 r.old, .int .i64 r.new]
/-- Old and New are whatever eight bytes can say. -/
def R.fits (r : R) : Prop := (-9223372036854775808 ≤ r.old ∧ r.old ≤ 9223372036854775807) ∧ (-9223372036854775808 ≤ r.new ∧ r.new ≤ 9223372036854775807)
def holdsB (lo hi n : Int) : Bool := decide (lo ≤ n) && decide (n ≤ hi)
def txnLo (k : Int) : Int := if k = 1 ∨ k = 2 ∨ k = 3 ∨ k = 4 ∨ k = 5 ∨ k = 6 ∨ k = 8 then 1 else 0
def txnHi (k : Int) : Int := if k = 1 ∨ k = 2 ∨ k = 3 ∨ k = 4 ∨ k = 5 ∨ k = 6 ∨ k = 8 then 60000 else 0
def pageLo (k : Int) : Int := if k = 2 ∨ k = 3 ∨ k = 9 then 1 else 0
def pageHi (k : Int) : Int := if k = 2 ∨ k = 3 ∨ k = 9 then 32 else 0
def prevLo (k : Int) : Int := if k = 9 then 1 else 0
def prevHi (k : Int) : Int := if k = 1 ∨ k = 7 ∨ k = 10 then 0 else 1073741824
def nextHi (k : Int) : Int := if k = 3 ∨ k = 8 then 1073741824 else if k = 10 then 60000 else 0
def keyHi (k : Int) : Int := if k = 2 ∨ k = 3 then 1048575 else if k = 8 then 2 else 0
def oldB (r : R) : Bool := if r.kind = 3 then r.had && (decide (1 ≤ r.old) && decide (r.old ≤ 1073741824)) else if r.kind = 2 then r.had || (r.old == 0) else !r.had && (r.old == 0)
def newB (r : R) : Bool := if r.kind = 2 ∨ r.kind = 3 then r.has || (r.new == 0) else !r.has && (r.new == 0)
def chgB (r : R) : Bool := !(r.kind == 2) || (r.had || r.has)
/-- A record that may be. -/
def goodB (r : R) : Bool := holdsB 1 10 r.kind && (holdsB (txnLo r.kind) (txnHi r.kind) r.txn && (holdsB (pageLo r.kind) (pageHi r.kind) r.page && (holdsB (prevLo r.kind) (prevHi r.kind) r.prev && (holdsB 0 (nextHi r.kind) r.next && (holdsB 0 (keyHi r.kind) r.key && (oldB r && (newB r && chgB r)))))))
theorem holdsB_iff (lo hi n : Int) : holdsB lo hi n = true ↔ lo ≤ n ∧ n ≤ hi := by simp [holdsB]
structure R.Small (r : R) : Prop where
  kind : 1 ≤ r.kind ∧ r.kind ≤ 10
  txn : 0 ≤ r.txn ∧ r.txn ≤ 60000
  page : 0 ≤ r.page ∧ r.page ≤ 32
  prev : 0 ≤ r.prev ∧ r.prev ≤ 1073741824
  next : 0 ≤ r.next ∧ r.next ≤ 1073741824
  key : 0 ≤ r.key ∧ r.key ≤ 1048575
theorem R.small {r : R} (h : goodB r = true) : r.Small := by
  simp only [goodB, Bool.and_eq_true, holdsB_iff] at h
  obtain ⟨h1, h2, h3, h4, h5, h6, _⟩ := h
  refine ⟨h1, ?_, ?_, ?_, ?_, ?_⟩
  · unfold txnLo txnHi at h2; split at h2 <;> omega
  · unfold pageLo pageHi at h3; split at h3 <;> omega
  · unfold prevLo prevHi at h4; split at h4 <;> split at h4 <;> omega
  · unfold nextHi at h5; split at h5 <;> (try split at h5) <;> omega
  · unfold keyHi at h6; split at h6 <;> (try split at h6) <;> omega
/-- The mark of Had and Has. -/
def markB (r : R) : Int := (if r.had then 1 else 0) + (if r.has then 2 else 0)
theorem markB_bd (r : R) : 0 ≤ markB r ∧ markB r ≤ 3 := by unfold markB; split <;> split <;> omega
/-- A number of eight bytes, as it is without a sign. -/
def u64 (n : Int) : Int := n % 18446744073709551616
/-- A number of eight bytes, as it is with a sign. -/
def i64 (n : Int) : Int := if n < 9223372036854775808 then n else n - 18446744073709551616
theorem u64_bd (n : Int) : 0 ≤ u64 n ∧ u64 n ≤ 18446744073709551615 := by unfold u64; omega
theorem i64_u64 (n : Int) (h : -9223372036854775808 ≤ n ∧ n ≤ 9223372036854775807) : i64 (u64 n) = n := by unfold i64 u64; split <;> omega
theorem i64_bd (n : Int) (h : 0 ≤ n ∧ n ≤ 18446744073709551615) : -9223372036854775808 ≤ i64 n ∧ i64 n ≤ 9223372036854775807 := by unfold i64; split <;> omega
theorem u64_i64 (n : Int) (h : 0 ≤ n ∧ n ≤ 18446744073709551615) : u64 (i64 n) = n := by unfold i64 u64; split <;> omega

def rec1 (r : R) : List Int := putB (List.replicate 40 0) 0 r.kind 1
def rec2 (r : R) : List Int := putB (rec1 r) 1 (markB r) 1
def rec3 (r : R) : List Int := putB (rec2 r) 2 r.txn 2
def rec4 (r : R) : List Int := putB (rec3 r) 4 r.page 2
def rec5 (r : R) : List Int := putB (rec4 r) 8 r.prev 4
def rec6 (r : R) : List Int := putB (rec5 r) 12 r.next 4
def rec7 (r : R) : List Int := putB (rec6 r) 16 r.key 4
def rec8 (r : R) : List Int := putB (rec7 r) 24 (u64 r.old) 8
/-- A record's bytes. -/
def recB (r : R) : List Int := putB (rec8 r) 32 (u64 r.new) 8
theorem length_rec1 (r : R) : (rec1 r).length = 40 := by rw [rec1, length_putB, List.length_replicate]
theorem length_rec2 (r : R) : (rec2 r).length = 40 := by rw [rec2, length_putB, length_rec1]
theorem length_rec3 (r : R) : (rec3 r).length = 40 := by rw [rec3, length_putB, length_rec2]
theorem length_rec4 (r : R) : (rec4 r).length = 40 := by rw [rec4, length_putB, length_rec3]
theorem length_rec5 (r : R) : (rec5 r).length = 40 := by rw [rec5, length_putB, length_rec4]
theorem length_rec6 (r : R) : (rec6 r).length = 40 := by rw [rec6, length_putB, length_rec5]
theorem length_rec7 (r : R) : (rec7 r).length = 40 := by rw [rec7, length_putB, length_rec6]
theorem length_rec8 (r : R) : (rec8 r).length = 40 := by rw [rec8, length_putB, length_rec7]
theorem length_recB (r : R) : (recB r).length = 40 := by rw [recB, length_putB, length_rec8]
theorem bytes_recB (r : R) : Bytes (recB r) := by
  have h0 : Bytes (List.replicate 40 0) := fun x hx => by rw [(List.mem_replicate.1 hx).2]; omega
  exact ((((((((h0.putB _ _ _).putB _ _ _).putB _ _ _).putB _ _ _).putB _ _ _).putB _ _ _).putB _ _ _).putB _ _ _).putB _ _ _

/-- What bytes say, be it a record or not. -/
def partsR (xs : List Int) : R := ⟨getB xs 0 1, getB xs 2 2, getB xs 4 2, getB xs 8 4, getB xs 12 4, getB xs 16 4, decide (getB xs 1 1 % 2 = 1), decide (getB xs 1 1 / 2 % 2 = 1), i64 (getB xs 24 8), i64 (getB xs 32 8)⟩
theorem partsR_fits (xs : List Int) (h : Bytes xs) : (partsR xs).fits := ⟨i64_bd _ (getB_bd xs h _ _ (by omega)), i64_bd _ (getB_bd xs h _ _ (by omega))⟩
theorem mod_lt {n m : Int} (h0 : 0 ≤ n) (h1 : n < m) : n % m = n := Int.emod_eq_of_lt h0 h1
theorem parts_recB (r : R) (hg : goodB r = true) (hf : r.fits) : partsR (recB r) = r := by
  obtain ⟨⟨k0, k1⟩, ⟨t0, t1⟩, ⟨p0, p1⟩, ⟨v0, v1⟩, ⟨n0, n1⟩, ⟨y0, y1⟩⟩ := R.small hg
  have g0 : getB (recB r) 0 1 = r.kind := by
    rw [recB, get_put_other _ _ _ _ _ _ (by omega), rec8, get_put_other _ _ _ _ _ _ (by omega), rec7, get_put_other _ _ _ _ _ _ (by omega), rec6, get_put_other _ _ _ _ _ _ (by omega), rec5, get_put_other _ _ _ _ _ _ (by omega), rec4, get_put_other _ _ _ _ _ _ (by omega), rec3, get_put_other _ _ _ _ _ _ (by omega), rec2, get_put_other _ _ _ _ _ _ (by omega), rec1, get_put_same _ _ _ _ (by omega) (by simp)]
    exact mod_lt (by omega) (by omega)
  have g1 : getB (recB r) 1 1 = markB r := by
    have := markB_bd r
    rw [recB, get_put_other _ _ _ _ _ _ (by omega), rec8, get_put_other _ _ _ _ _ _ (by omega), rec7, get_put_other _ _ _ _ _ _ (by omega), rec6, get_put_other _ _ _ _ _ _ (by omega), rec5, get_put_other _ _ _ _ _ _ (by omega), rec4, get_put_other _ _ _ _ _ _ (by omega), rec3, get_put_other _ _ _ _ _ _ (by omega), rec2, get_put_same _ _ _ _ (by omega) (by rw [length_rec1]; omega)]
    exact mod_lt (by omega) (by omega)
  have g2 : getB (recB r) 2 2 = r.txn := by
    rw [recB, get_put_other _ _ _ _ _ _ (by omega), rec8, get_put_other _ _ _ _ _ _ (by omega), rec7, get_put_other _ _ _ _ _ _ (by omega), rec6, get_put_other _ _ _ _ _ _ (by omega), rec5, get_put_other _ _ _ _ _ _ (by omega), rec4, get_put_other _ _ _ _ _ _ (by omega), rec3, get_put_same _ _ _ _ (by omega) (by rw [length_rec2]; omega)]
    exact mod_lt (by omega) (by omega)
  have g4 : getB (recB r) 4 2 = r.page := by
    rw [recB, get_put_other _ _ _ _ _ _ (by omega), rec8, get_put_other _ _ _ _ _ _ (by omega), rec7, get_put_other _ _ _ _ _ _ (by omega), rec6, get_put_other _ _ _ _ _ _ (by omega), rec5, get_put_other _ _ _ _ _ _ (by omega), rec4, get_put_same _ _ _ _ (by omega) (by rw [length_rec3]; omega)]
    exact mod_lt (by omega) (by omega)
  have g8 : getB (recB r) 8 4 = r.prev := by
    rw [recB, get_put_other _ _ _ _ _ _ (by omega), rec8, get_put_other _ _ _ _ _ _ (by omega), rec7, get_put_other _ _ _ _ _ _ (by omega), rec6, get_put_other _ _ _ _ _ _ (by omega), rec5, get_put_same _ _ _ _ (by omega) (by rw [length_rec4]; omega)]
    exact mod_lt (by omega) (by omega)
  have g12 : getB (recB r) 12 4 = r.next := by
    rw [recB, get_put_other _ _ _ _ _ _ (by omega), rec8, get_put_other _ _ _ _ _ _ (by omega), rec7, get_put_other _ _ _ _ _ _ (by omega), rec6, get_put_same _ _ _ _ (by omega) (by rw [length_rec5]; omega)]
    exact mod_lt (by omega) (by omega)
  have g16 : getB (recB r) 16 4 = r.key := by
    rw [recB, get_put_other _ _ _ _ _ _ (by omega), rec8, get_put_other _ _ _ _ _ _ (by omega), rec7, get_put_same _ _ _ _ (by omega) (by rw [length_rec6]; omega)]
    exact mod_lt (by omega) (by omega)
  have g24 : getB (recB r) 24 8 = u64 r.old := by
    have := u64_bd r.old
    rw [recB, get_put_other _ _ _ _ _ _ (by omega), rec8, get_put_same _ _ _ _ (by omega) (by rw [length_rec7]; omega)]
    exact mod_lt (by omega) (by omega)
  have g32 : getB (recB r) 32 8 = u64 r.new := by
    have := u64_bd r.new
    rw [recB, get_put_same _ _ _ _ (by omega) (by rw [length_rec8]; omega)]
    exact mod_lt (by omega) (by omega)
  unfold partsR
  rw [g0, g1, g2, g4, g8, g12, g16, g24, g32, i64_u64 _ hf.1, i64_u64 _ hf.2]
  obtain ⟨a, b, c, d, e, f, g, h, i, j⟩ := r
  cases g <;> cases h <;> rfl
/-- What rec.Read answers of 40 bytes. -/
def isRec (xs : List Int) : Bool := goodB (partsR xs) && decide (recB (partsR xs) = xs)
theorem isRec_recB (r : R) (hg : goodB r = true) (hf : r.fits) : isRec (recB r) = true := by
  unfold isRec
  rw [parts_recB r hg hf, hg]
  simp
theorem recB_inj {a b : R} (ha : goodB a = true) (hfa : a.fits) (hb : goodB b = true) (hfb : b.fits) (h : recB a = recB b) : a = b := by
  rw [← parts_recB a ha hfa, ← parts_recB b hb hfb, h]
/-- Where nothing stands there is a zero. -/
theorem recB_zero (r : R) (p : Int) (h : p = 6 ∨ p = 7 ∨ p = 20 ∨ p = 21 ∨ p = 22 ∨ p = 23) : byteAt (recB r) p = 0 := by
  rw [recB, byteAt_putB, if_neg (by omega), rec8, byteAt_putB, if_neg (by omega), rec7, byteAt_putB, if_neg (by omega), rec6, byteAt_putB, if_neg (by omega), rec5, byteAt_putB, if_neg (by omega), rec4, byteAt_putB, if_neg (by omega), rec3, byteAt_putB, if_neg (by omega), rec2, byteAt_putB, if_neg (by omega), rec1, byteAt_putB, if_neg (by omega)]
  unfold byteAt
  split
  · rw [List.getD_eq_getElem?_getD, List.getElem?_replicate]; split <;> rfl
  · rfl
theorem recB_mark (r : R) : byteAt (recB r) 1 = markB r := by
  have := markB_bd r
  rw [recB, byteAt_putB, if_neg (by omega), rec8, byteAt_putB, if_neg (by omega), rec7, byteAt_putB, if_neg (by omega), rec6, byteAt_putB, if_neg (by omega), rec5, byteAt_putB, if_neg (by omega), rec4, byteAt_putB, if_neg (by omega), rec3, byteAt_putB, if_neg (by omega), rec2, byteAt_putB, if_pos (by rw [length_rec1]; omega)]
  show byteOf _ 0 = _
  unfold byteOf
  rw [Int.pow_zero, Int.ediv_one]
  exact mod_lt (by omega) (by omega)
theorem isRec_zero (xs : List Int) (p : Int) (h : p = 6 ∨ p = 7 ∨ p = 20 ∨ p = 21 ∨ p = 22 ∨ p = 23) (hx : byteAt xs p ≠ 0) : isRec xs = false := by
  unfold isRec
  rw [Bool.and_eq_false_iff]
  refine .inr (decide_eq_false fun e => hx ?_)
  rw [← e]
  exact recB_zero _ p h
theorem isRec_mark (xs : List Int) (hx : 4 ≤ byteAt xs 1) : isRec xs = false := by
  unfold isRec
  rw [Bool.and_eq_false_iff]
  refine .inr (decide_eq_false fun e => ?_)
  rw [← e, recB_mark] at hx
  have := markB_bd (partsR xs)
  omega
end Go.Proofs.Ytmkbedfccgojpaa

/- What phoenixref.Bytes, cell.Join and the document's own Put and Fill answer, at every list of bytes; nothing that was there is written. -/
namespace Go.Proofs.Ytmkbedfccgojpaa
open Go.RowKit
set_option linter.unusedVariables false

theorem hide {p : Prop} (h : p) : Hid p := h
theorem take_snoc (xs : List Int) (k : Nat) (h : k < xs.length) : xs.take (k + 1) = xs.take k ++ [xs.getD k 0] := by
  rw [List.take_succ_eq_append_getElem h, List.getD_eq_getElem?_getD, List.getElem?_eq_getElem h]
  rfl
theorem cellsOf_append (xs ys : List Int) : cellsOf (xs ++ ys) = cellsOf xs ++ cellsOf ys := by simp [cellsOf]
theorem Bytes.take {xs : List Int} (h : Bytes xs) (k : Nat) : Bytes (xs.take k) := fun x hx => h x (List.mem_of_mem_take hx)

/-- A list of bytes as a value: where it begins, its room, its bytes. -/
structure Part where
  ao : Option Addr
  cap : Nat
  xs : List Int
def Part.val (p : Part) : Value := .slice p.ao p.xs.length p.cap
def Part.isIn (w : World) (p : Part) : Prop := Row w p.ao p.xs ∧ (p.ao = none → p.xs = [] ∧ p.cap = 0)
/-- The slice of slices that begins at 'oo' reads in w as the parts ls. -/
def Rows2 (w : World) (oo : Option Addr) (ls : List Part) : Prop :=
  ls.length ≤ 4294967296 ∧ (∀ p ∈ ls, p.isIn w) ∧ (0 < ls.length → ∃ b off, oo = some ⟨b, off, none⟩ ∧ b < w.heap.size ∧ ∀ i (hi : i < ls.length), w.cell? ⟨b, off + i, none⟩ = some ls[i].val)
def joinB (ls : List Part) : List Int := (ls.map (·.xs)).flatten
theorem joinB_snoc (ls : List Part) (k : Nat) (h : k < ls.length) : joinB (ls.take (k + 1)) = joinB (ls.take k) ++ ls[k].xs := by
  unfold joinB
  rw [List.take_succ_eq_append_getElem h, List.map_append, List.flatten_append]
  simp only [List.map_cons, List.map_nil, List.flatten_cons, List.flatten_nil, List.append_nil]
theorem joinB_le (ls : List Part) (k : Nat) : (joinB (ls.take k)).length ≤ (joinB ls).length := by
  unfold joinB
  conv => rhs; rw [← List.take_append_drop k ls]
  simp only [List.map_append, List.flatten_append, List.length_append]
  omega
theorem own_shape {w : World} {B e n : Nat} {v : Value} {cs : List Value} (h : w.ownsRow B e 1 v n cs) : ∃ ao cap, v = .slice ao n cap := by
  rcases h.2 with ⟨h1, h2⟩ | ⟨g, cap, cur, h1, _⟩
  · exact ⟨none, 0, by rw [h1, h2]⟩
  · exact ⟨_, cap, h1⟩
theorem Bytes.append {xs ys : List Int} (h : Bytes xs) (h' : Bytes ys) : Bytes (xs ++ ys) := by
  intro x hx
  rcases List.mem_append.1 hx with h1 | h1
  · exact h x h1
  · exact h' x h1

end Go.Proofs.Ytmkbedfccgojpaa

/- The chapter's examples, as the statements ask them first: they hold, and nothing that was there is written. -/
namespace Go.Proofs.Ytmkbedfccgojpaa
open Go.RowKit
set_option linter.unusedVariables false

theorem first_row (w : World) : Row (w.alloc (.cells #[.int .u8 0, .int .u8 0] 5)) (some ⟨w.heap.size, 0, none⟩) [0, 0] := by
  refine ⟨by simp, fun x hx => by simp at hx; omega, fun _ => ⟨w.heap.size, 0, rfl, by simp, fun i hi => ?_⟩⟩
  match i, hi with
  | 0, _ => simp
  | 1, _ => simp
theorem first_put : putB [0, 0] 0 258 (widthB 2).toNat = [2, 1] := by decide
theorem first_get : getB [] 0 (widthB 8).toNat = 0 := by decide
theorem first_zero : zeroB [2, 1] = false := by decide

end Go.Proofs.Ytmkbedfccgojpaa
