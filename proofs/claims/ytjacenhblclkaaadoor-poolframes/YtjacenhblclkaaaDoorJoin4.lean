/- Lemmas and contracts that the law stands on, joined: Make, RecMath, Copy, First, BlockMath, Ref. -/
import Derived.Test.YtjacenhblclkaaaDoorJoin3
import Derived.Laws.CopyOwn
import Derived.Laws.AppendOwnNone
/- What the functions that make a new list of bytes answer: cell.grown, cell.Put, cell.Fill, phoenixref.Bytes and the document's own Put and Fill, at every list of bytes; nothing that was there is written. -/
namespace Go.Proofs.YtjacenhblclkaaaDoor
open Go.RowKit
set_option linter.unusedVariables false

theorem Tryd.info5 : (Tryd.prog.info? 5).map (fun i => (i.zero, i.size, i.bytes)) = some (some (.int .u8 0), 1, 1) := by kernel_rfl
theorem Tryd.size5 : (Tryd.prog.info? 5).map (·.size) = some 1 := by kernel_rfl

/-- xs as cells. -/
def cellsOf (xs : List Int) : List Value := xs.map (Value.int .u8)
theorem length_cellsOf (xs : List Int) : (cellsOf xs).length = xs.length := by simp [cellsOf]
theorem oneCell_cellsOf (xs : List Int) : ∀ u ∈ cellsOf xs, u.oneCell' = true := ints_oneCell _ _
theorem cellsOf_at {xs : List Int} {j : Nat} {v : Value} (h : (cellsOf xs)[j]? = some v) : j < xs.length ∧ v = .int .u8 (xs.getD j 0) := by
  have hj : j < xs.length := by
    have := (List.getElem?_eq_some_iff.1 h).1
    simpa [cellsOf] using this
  refine ⟨hj, ?_⟩
  simp [cellsOf, hj] at h
  rw [← h, List.getD_eq_getElem?_getD, List.getElem?_eq_getElem hj]
  rfl
theorem cellsOf_getD {xs : List Int} {j : Nat} (h : j < xs.length) : (cellsOf xs)[j]? = some (.int .u8 (xs.getD j 0)) := by
  simp [cellsOf, h]

/-- The slice that begins at 'ao' owns the bytes xs: it lies in a block from 'B' on. -/
def Own (w : World) (B : Nat) (ao : Option Addr) (cap : Nat) (xs : List Int) : Prop :=
  w.ownsRow B 5 1 (.slice ao xs.length cap) xs.length (cellsOf xs) ∧ Bytes xs ∧ xs.length ≤ 4294967296

theorem Own.row {w : World} {B : Nat} {ao : Option Addr} {cap : Nat} {xs : List Int} (h : Own w B ao cap xs) : Row w ao xs := by
  obtain ⟨h1, h2, h3⟩ := h
  refine ⟨h3, h2, fun hp => ?_⟩
  have h1' := h1
  rcases h1.2 with ⟨e, h0⟩ | ⟨g, c, cur, hv, hg, hh, h4, h5, h6, h7⟩
  · omega
  · simp only [Value.slice.injEq] at hv
    obtain ⟨rfl, _, rfl⟩ := hv
    refine ⟨g, 0, rfl, ?_, fun i hi => ?_⟩
    · by_cases hlt : g < w.heap.size
      · exact hlt
      · rw [Array.getElem?_eq_none (by omega)] at hh; simp at hh
    · rw [Nat.zero_add, h1'.cellAt i (by omega)]
      exact cellsOf_getD hi
theorem Own.below {w w' : World} {B C : Nat} {ao : Option Addr} {cap : Nat} {xs : List Int} (h : Own w B ao cap xs) (hb : Below C w w') (hC : w.heap.size ≤ C) : Own w' B ao cap xs := by
  obtain ⟨⟨h0, h1⟩, h2, h3⟩ := h
  refine ⟨⟨h0, ?_⟩, h2, h3⟩
  rcases h1 with h1 | ⟨g, c, cur, hv, hg, hh, r⟩
  · exact .inl h1
  · refine .inr ⟨g, c, cur, hv, hg, ?_, r⟩
    have hlt : g < w.heap.size := by
      by_cases hlt : g < w.heap.size
      · exact hlt
      · rw [Array.getElem?_eq_none (by omega)] at hh; simp at hh
    rw [hb.block g (by omega)]
    exact hh
theorem Own.mono {w : World} {B C : Nat} {ao : Option Addr} {cap : Nat} {xs : List Int} (h : Own w B ao cap xs) (hC : C ≤ B) : Own w C ao cap xs := by
  obtain ⟨⟨h0, h1⟩, h2, h3⟩ := h
  refine ⟨⟨h0, ?_⟩, h2, h3⟩
  rcases h1 with h1 | ⟨g, c, cur, hv, hg, r⟩
  · exact .inl h1
  · exact .inr ⟨g, c, cur, hv, by omega, r⟩
theorem Own.drewN {w : World} {B : Nat} {ao : Option Addr} {cap : Nat} {xs : List Int} (h : Own w B ao cap xs) (n : Nat) : Own (w.drewN n) B ao cap xs := h

/-- What cell.grown answers. -/
def grownB (xs : List Int) (n : Nat) : List Int := xs ++ List.replicate (n - xs.length) 0
theorem length_grownB {xs : List Int} {n : Nat} (h : xs.length ≤ n) : (grownB xs n).length = n := by simp [grownB]; omega
theorem Bytes.grownB {xs : List Int} (h : Bytes xs) (n : Nat) : Bytes (grownB xs n) := by
  intro x hx
  rcases List.mem_append.1 hx with h1 | h1
  · exact h x h1
  · rw [(List.mem_replicate.1 h1).2]; omega

theorem splice_grown (xs : List Int) (n : Nat) (h : xs.length ≤ n) : splice (cellsOf (List.replicate n 0)) 0 (cellsOf xs) = cellsOf (grownB xs n) := by
  unfold splice cellsOf grownB
  simp
theorem row_of_made {w : World} {B n : Nat} (h : w.ownsRow B 5 1 (.slice (some ⟨B, 0, none⟩) n n) n (madeCells (Value.int .u8 0).cells (n * 1)).toList) :
    w.heap[B]? = some (.cells (cellsOf (List.replicate n 0)).toArray 5 (0, 0)) := by
  rcases h.2 with ⟨e, _⟩ | ⟨g, c, cur, hv, hg, hh, h4, h5, h6, h7⟩
  · simp at e
  · simp only [Value.slice.injEq, Option.some.injEq, Addr.mk.injEq, and_true, true_and] at hv
    obtain ⟨rfl, rfl⟩ := hv
    rw [hh]
    have e1 : cur.toList = cellsOf (List.replicate n 0) := by
      rw [List.take_of_length_le (by simp; omega)] at h7
      rw [h7]
      have e2 : (Value.int .u8 0).cells = #[Value.int .u8 0] := rfl
      rw [e2, Nat.mul_one, toList_madeCells_one]
      simp [cellsOf]
    rw [← e1]
theorem own_of_row {w : World} {B : Nat} {xs : List Int} (hh : w.heap[B]? = some (.cells (cellsOf xs).toArray 5 (0, 0))) (hb : Bytes xs) (hl : xs.length ≤ 4294967296) : Own w B (some ⟨B, 0, none⟩) xs.length xs := by
  refine ⟨⟨by simp [length_cellsOf], .inr ⟨B, xs.length, _, rfl, Nat.le_refl _, hh, Nat.le_refl _, by unfold maxLen; omega, by simp [length_cellsOf], ?_⟩⟩, hb, hl⟩
  rw [List.take_of_length_le (by simp [length_cellsOf])]

theorem Row.src {w : World} {ao : Option Addr} {xs : List Int} (h : Row w ao xs) (hp : 0 < (cellsOf xs).length) : ∃ ad, ao = some ad ∧ ∀ j v, (cellsOf xs)[j]? = some v → w.cell? (ad.add j) = some v := by
  obtain ⟨_, _, h2⟩ := h
  rw [length_cellsOf] at hp
  obtain ⟨b, off, e, _, hc⟩ := h2 hp
  refine ⟨_, e, fun j v hj => ?_⟩
  obtain ⟨hlt, rfl⟩ := cellsOf_at hj
  rw [Addr.add_lit]
  exact hc j hlt

set_option maxHeartbeats 1000000 in
theorem grown_any (ao : Option Addr) (cap : Nat) (xs : List Int) (S : Int) (n : Nat) (w : World) (h : Row w ao xs) (hS : S = n) (hn : xs.length ≤ n) (hb : n ≤ 4294967296) :
    Calls Tryd.prog 85 #[.slice ao xs.length cap, .int .i64 S] w fun e w' => e = .returned (.slice (some ⟨w.heap.size, 0, none⟩) n n) ∧ Own w' w.heap.size (some ⟨w.heap.size, 0, none⟩) n (grownB xs n) ∧ Below w.heap.size w w' := by
  obtain ⟨i0, hi, hz0, hz1, hz2⟩ := info_parts Tryd.info5
  have HS : Hid (S = n) := hS
  have HR : Hid (Row w ao xs) := h
  obtain ⟨h0, h1, h2⟩ := h
  clear hS h2
  go_enter Tryd.func85, Tryd.ntmps85
  go_wp2_with (first | (at_make; refine wpList_make_full w rfl (.tmp 6) (.tmp 6) 44 rfl w.heap.size 5 i0 (.int .u8 0) 1 Tryd.underlying44 hi hz0 hz1 .i64 .i64 S S n rfl rfl HS.out HS.out (by rw [hz2]; omega) (by unfold maxLen; omega) (Nat.le_refl _) ?_; intro w1 hown hgr; have HB : Hid (Below w.heap.size w w1) := (Below.refl _ _).grown hgr (Nat.le_refl _) (by simp); have HH : Hid (w1.heap[w.heap.size]? = some (.cells (cellsOf (List.replicate n 0)).toArray 5 (0, 0))) := row_of_made hown; clear hown hgr) | (refine wpList_copy_splice rfl (.tmp 8) (.tmp 9) 44 44 rfl 5 Tryd.underlying44 Tryd.size5 (some ⟨w.heap.size, 0, none⟩) ao n n xs.length cap rfl rfl w.heap.size 0 (cellsOf (List.replicate n 0)) 5 HH.out (cellsOf xs) (by rw [length_cellsOf]; exact (Nat.min_eq_left hn).symm) (fun hp => ⟨rfl, (HR.out.below HB.out (Nat.le_refl _)).src hp⟩) (by simp [length_cellsOf]; exact hn) (oneCell_cellsOf xs) w.heap.size w HB.out (Nat.le_refl _) ?_; intro w2 HG hB2; have HC : Hid (Below w.heap.size w w2) := hB2; clear hB2))
  go_ret
  refine ⟨rfl, ?_, HC.out⟩
  have e := HG.out
  rw [splice_grown xs n hn] at e
  have := own_of_row e (h1.grownB n) (by rw [length_grownB hn]; exact hb)
  rw [length_grownB hn] at this
  exact this

theorem Own.stored {w : World} {B g cap : Nat} {xs : List Int} (h : Own w B (some ⟨g, 0, none⟩) cap xs) (j : Nat) (x : Int) (h0 : 0 ≤ x) (h1 : x ≤ 255) : Own (w.setCell ⟨g, j, none⟩ (.int .u8 x)) B (some ⟨g, 0, none⟩) cap (xs.set j x) := by
  obtain ⟨h2, h3, h4⟩ := h
  have e := (h2.stored j (.int .u8 x)).1
  have e2 : cellsOf (xs.set j x) = (cellsOf xs).set j (.int .u8 x) := by simp [cellsOf, List.map_set]
  refine ⟨?_, ?_, by simpa using h4⟩
  · rw [e2, List.length_set]; exact e
  · intro y hy
    rcases List.mem_or_eq_of_mem_set hy with h5 | h5
    · exact h3 y h5
    · subst h5; exact ⟨h0, h1⟩
theorem Own.cell {w : World} {B g cap : Nat} {xs : List Int} (h : Own w B (some ⟨g, 0, none⟩) cap xs) (j : Nat) (hj : j < xs.length) : w.cell? ⟨g, j, none⟩ = some (.int .u8 (xs.getD j 0)) := by
  rw [h.1.cellAt j (by omega)]
  exact cellsOf_getD hj
theorem Own.frozen {w : World} {B g cap : Nat} {xs : List Int} (h : Own w B (some ⟨g, 0, none⟩) cap xs) (j : Nat) : w.frozen? ⟨g, j, none⟩ = false := h.1.frozenAt j

theorem div_pow_bd (n : Int) (k : Nat) (h0 : 0 ≤ n) (h1 : n ≤ 18446744073709551615) : 0 ≤ n / 256 ^ k ∧ n / 256 ^ k ≤ 18446744073709551615 := by
  have hp : (0 : Int) < 256 ^ k := Int.pow_pos (by decide)
  refine ⟨Int.ediv_nonneg h0 (by omega), ?_⟩
  have : n / 256 ^ k ≤ n := Int.ediv_le_self _ h0
  omega
theorem div_pow_succ (n : Int) (k : Nat) : n / 256 ^ (k + 1) = n / 256 ^ k / 256 := by
  rw [Int.pow_succ, Int.ediv_ediv_of_nonneg (Int.le_of_lt (Int.pow_pos (by decide)))]

set_option maxHeartbeats 1000000 in
theorem put_any (ao : Option Addr) (cap : Nat) (xs : List Int) (a s n : Int) (w : World) (h : Row w ao xs) (ha : -9223372036854775808 ≤ a) (ha' : a ≤ 9223372036854775807) (hn : 0 ≤ n) (hn' : n ≤ 18446744073709551615) :
    Calls Tryd.prog 75 #[.slice ao xs.length cap, .int .i64 a, .int .i64 s, .int .u64 n] w fun e w' => e = .returned (.slice (some ⟨w.heap.size, 0, none⟩) xs.length xs.length) ∧ Own w' w.heap.size (some ⟨w.heap.size, 0, none⟩) xs.length (putB xs a n (widthB s).toNat) ∧ Below w.heap.size w w' := by
  have HR : Hid (Row w ao xs) := h
  obtain ⟨h0, h1, h2⟩ := h
  clear h2
  have hw := widthB_bd s
  obtain ⟨q, hq⟩ : ∃ q, q = widthB s := ⟨_, rfl⟩
  rw [← hq] at hw ⊢
  have HQ : Hid (widthB s = q) := hq.symm
  clear hq
  go_enter Tryd.func75, Tryd.ntmps75
  go_wp2_with fail
  refine (grown_any ao cap xs _ xs.length _ HR.out rfl (Nat.le_refl _) h0).mono ?_
  rintro e w1 ⟨rfl, hown, hbel⟩
  have hg : grownB xs xs.length = xs := by simp [grownB]
  rw [hg] at hown
  have HO : Hid (Own w1 w.heap.size (some ⟨w.heap.size, 0, none⟩) xs.length xs) := hown
  have HB : Hid (Below w.heap.size w w1) := hbel
  clear hg hown hbel
  go_wp2_with fail
  refine (width_any _ _).mono ?_
  rintro e w' ⟨rfl, rfl⟩
  rw [HQ.out]
  go_wp2_with fail
  go_loopw [3, 17] (fun nv c wr => ∃ k : Nat, (k : Int) ≤ q ∧ c = .int .i64 k ∧ nv = .int .u64 (n / 256 ^ k) ∧ Own wr w.heap.size (some ⟨w.heap.size, 0, none⟩) xs.length (putB xs a n k) ∧ Below w.heap.size w wr) (fun _ c _ => (q - intOf c).toNat)
  case atStart => exact ⟨0, by omega, rfl, by simp, HO.out, HB.out⟩
  case round =>
    obtain ⟨k, hk, rfl, rfl, hown, hbel⟩ := hrel
    have HO' : Hid (Own wr w.heap.size (some ⟨w.heap.size, 0, none⟩) xs.length (putB xs a n k)) := hown
    have HB' : Hid (Below w.heap.size w wr) := hbel
    by_cases hlt : (k : Int) < q
    · have hbd := div_pow_bd n k hn hn'
      have hst := div_pow_succ n k
      have hby : byteOf n k = n / 256 ^ k % 256 := rfl
      obtain ⟨X, hX⟩ : ∃ X, X = n / 256 ^ k := ⟨_, rfl⟩
      rw [← hX] at hbd hst hby ⊢
      have HX : Hid (n / 256 ^ (k + 1) = X / 256) := hst
      have HY : Hid (byteOf n k = X % 256) := hby
      clear hst hby hX
      cases hh : hasB xs.length a k
      · have HP : Hid (putB xs a n (k + 1) = putB xs a n k) := by
          show putB xs a n (k + 1) = putB xs a n k
          simp [hasB] at hh
          rw [putB, put1, if_neg (by rw [length_putB]; omega)]
        clear hown hbel
        go_wp2_with fail
        refine (has_any _ _ _ _ _ _ h0 (by omega) (by omega) ha ha').mono ?_
        rintro e w' ⟨rfl, rfl⟩
        go_wp2_with fail
        go_roundw
        case rel => exact ⟨k + 1, by omega, by go_num, by rw [HX.out], by rw [HP.out]; exact HO'.out, HB'.out⟩
        case measure => simp [intOf]; omega
      · have hp : 0 ≤ a + k ∧ a + k < xs.length := by simp [hasB] at hh; omega
        have hcell := hown.cell (a + k).toNat (by rw [length_putB]; omega)
        have hfr := hown.frozen (a + k).toNat
        have HP : Hid (putB xs a n (k + 1) = (putB xs a n k).set (a + k).toNat (X % 256)) := by
          show putB xs a n (k + 1) = _
          rw [putB, put1, if_pos (by rw [length_putB]; omega), HY.out]
        obtain ⟨y, hy⟩ : ∃ y, y = (putB xs a n k).getD (a + k).toNat 0 := ⟨_, rfl⟩
        rw [← hy] at hcell
        clear hown hbel hy
        go_wp2_with fail
        refine (has_any _ _ _ _ _ _ h0 (by omega) (by omega) ha ha').mono ?_
        rintro e w' ⟨rfl, rfl⟩
        go_wp2_with fail
        go_roundw
        case rel => exact ⟨k + 1, by omega, by go_num, by rw [HX.out], by rw [HP.out]; exact HO'.out.stored _ _ (by omega) (by omega), HB'.out.setCell (Nat.le_refl _) _⟩
        case measure => simp [intOf]; omega
    · go_wp2_with fail
      go_ret
      have hk' : q.toNat = k := by omega
      exact ⟨rfl, by rw [hk']; exact HO'.out, HB'.out⟩

/-- What cell.Fill answers, for a size that a call may answer. -/
def fillB (xs : List Int) (S : Int) : List Int := grownB xs (max S.toNat xs.length)
theorem length_fillB (xs : List Int) (S : Int) : (fillB xs S).length = max S.toNat xs.length := length_grownB (by omega)
set_option maxHeartbeats 1000000 in
theorem fill_any (ao : Option Addr) (cap : Nat) (xs : List Int) (S : Int) (w : World) (h : Row w ao xs) (hS : S ≤ 2147483647) :
    Calls Tryd.prog 74 #[.slice ao xs.length cap, .int .i64 S] w fun e w' => e = .returned (.slice (some ⟨w.heap.size, 0, none⟩) (fillB xs S).length (fillB xs S).length) ∧ Own w' w.heap.size (some ⟨w.heap.size, 0, none⟩) (fillB xs S).length (fillB xs S) ∧ Below w.heap.size w w' := by
  have HR : Hid (Row w ao xs) := h
  obtain ⟨h0, h1, h2⟩ := h
  clear h2
  have hd : decide (2147483647 < S) = false := by simp; omega
  rw [length_fillB]
  by_cases hlt : S < xs.length
  all_goals
    go_enter Tryd.func74, Tryd.ntmps74
    go_wp2_with fail
    refine (grown_any ao cap xs _ (max S.toNat xs.length) _ HR.out (by omega) (by omega) (by omega)).mono ?_
    rintro e w1 ⟨rfl, hown, hbel⟩
    have HO : Hid (Own w1 w.heap.size (some ⟨w.heap.size, 0, none⟩) (max S.toNat xs.length) (fillB xs S)) := hown
    have HB : Hid (Below w.heap.size w w1) := hbel
    clear hown hbel
    go_wp2_with fail
    go_ret
    exact ⟨rfl, HO.out, HB.out⟩
end Go.Proofs.YtjacenhblclkaaaDoor

/- Plain lemmas on records: which may be, their bytes, what bytes say; no Go text here. -/
namespace Go.Proofs.YtjacenhblclkaaaDoor
open Go.RowKit
set_option linter.unusedVariables false

/-- A record as plain data. -/
structure R where
  kind : Int
  txn : Int
  page : Int
  prev : Int
  next : Int
  key : Int
  had : Bool
  has : Bool
  old : Int
  new : Int
/-- A record as a value. -/
def R.val (r : R) : Value := .agg #[.int .i64 r.kind, .int .i64 r.txn, .int .i64 r.page, .int .i64 r.prev, .int .i64 r.next, .int .i64 r.key, .bool r.had, .bool r.has, .int .i64 r.old, .int .i64 r.new]
/-- Old and New are whatever eight bytes can say. -/
def R.fits (r : R) : Prop := (-9223372036854775808 ≤ r.old ∧ r.old ≤ 9223372036854775807) ∧ (-9223372036854775808 ≤ r.new ∧ r.new ≤ 9223372036854775807)
def holdsB (lo hi n : Int) : Bool := decide (lo ≤ n) && decide (n ≤ hi)
def txnLo (k : Int) : Int := if k = 1 ∨ k = 2 ∨ k = 3 ∨ k = 4 ∨ k = 5 ∨ k = 6 ∨ k = 8 then 1 else 0
def txnHi (k : Int) : Int := if k = 1 ∨ k = 2 ∨ k = 3 ∨ k = 4 ∨ k = 5 ∨ k = 6 ∨ k = 8 then 60000 else 0
def pageLo (k : Int) : Int := if k = 2 ∨ k = 3 ∨ k = 9 then 1 else 0
def pageHi (k : Int) : Int := if k = 2 ∨ k = 3 ∨ k = 9 then 32 else 0
def prevLo (k : Int) : Int := if k = 9 then 1 else 0
def prevHi (k : Int) : Int := if k = 1 ∨ k = 7 ∨ k = 10 then 0 else 1073741824
def nextHi (k : Int) : Int := if k = 3 ∨ k = 8 then 1073741824 else if k = 10 then 60000 else 0
def keyHi (k : Int) : Int := if k = 2 ∨ k = 3 then 1048575 else if k = 8 then 2 else 0
def oldB (r : R) : Bool := if r.kind = 3 then r.had && (decide (1 ≤ r.old) && decide (r.old ≤ 1073741824)) else if r.kind = 2 then r.had || (r.old == 0) else !r.had && (r.old == 0)
def newB (r : R) : Bool := if r.kind = 2 ∨ r.kind = 3 then r.has || (r.new == 0) else !r.has && (r.new == 0)
def chgB (r : R) : Bool := !(r.kind == 2) || (r.had || r.has)
/-- A record that may be. -/
def goodB (r : R) : Bool := holdsB 1 10 r.kind && (holdsB (txnLo r.kind) (txnHi r.kind) r.txn && (holdsB (pageLo r.kind) (pageHi r.kind) r.page && (holdsB (prevLo r.kind) (prevHi r.kind) r.prev && (holdsB 0 (nextHi r.kind) r.next && (holdsB 0 (keyHi r.kind) r.key && (oldB r && (newB r && chgB r)))))))
theorem holdsB_iff (lo hi n : Int) : holdsB lo hi n = true ↔ lo ≤ n ∧ n ≤ hi := by simp [holdsB]
structure R.Small (r : R) : Prop where
  kind : 1 ≤ r.kind ∧ r.kind ≤ 10
  txn : 0 ≤ r.txn ∧ r.txn ≤ 60000
  page : 0 ≤ r.page ∧ r.page ≤ 32
  prev : 0 ≤ r.prev ∧ r.prev ≤ 1073741824
  next : 0 ≤ r.next ∧ r.next ≤ 1073741824
  key : 0 ≤ r.key ∧ r.key ≤ 1048575
theorem R.small {r : R} (h : goodB r = true) : r.Small := by
  simp only [goodB, Bool.and_eq_true, holdsB_iff] at h
  obtain ⟨h1, h2, h3, h4, h5, h6, _⟩ := h
  refine ⟨h1, ?_, ?_, ?_, ?_, ?_⟩
  · unfold txnLo txnHi at h2; split at h2 <;> omega
  · unfold pageLo pageHi at h3; split at h3 <;> omega
  · unfold prevLo prevHi at h4; split at h4 <;> split at h4 <;> omega
  · unfold nextHi at h5; split at h5 <;> (try split at h5) <;> omega
  · unfold keyHi at h6; split at h6 <;> (try split at h6) <;> omega
/-- The mark of Had and Has. -/
def markB (r : R) : Int := (if r.had then 1 else 0) + (if r.has then 2 else 0)
theorem markB_bd (r : R) : 0 ≤ markB r ∧ markB r ≤ 3 := by unfold markB; split <;> split <;> omega
/-- A number of eight bytes, as it is without a sign. -/
def u64 (n : Int) : Int := n % 18446744073709551616
/-- A number of eight bytes, as it is with a sign. -/
def i64 (n : Int) : Int := if n < 9223372036854775808 then n else n - 18446744073709551616
theorem u64_bd (n : Int) : 0 ≤ u64 n ∧ u64 n ≤ 18446744073709551615 := by unfold u64; omega
theorem i64_u64 (n : Int) (h : -9223372036854775808 ≤ n ∧ n ≤ 9223372036854775807) : i64 (u64 n) = n := by unfold i64 u64; split <;> omega
theorem i64_bd (n : Int) (h : 0 ≤ n ∧ n ≤ 18446744073709551615) : -9223372036854775808 ≤ i64 n ∧ i64 n ≤ 9223372036854775807 := by unfold i64; split <;> omega
theorem u64_i64 (n : Int) (h : 0 ≤ n ∧ n ≤ 18446744073709551615) : u64 (i64 n) = n := by unfold i64 u64; split <;> omega

def rec1 (r : R) : List Int := putB (List.replicate 40 0) 0 r.kind 1
def rec2 (r : R) : List Int := putB (rec1 r) 1 (markB r) 1
def rec3 (r : R) : List Int := putB (rec2 r) 2 r.txn 2
def rec4 (r : R) : List Int := putB (rec3 r) 4 r.page 2
def rec5 (r : R) : List Int := putB (rec4 r) 8 r.prev 4
def rec6 (r : R) : List Int := putB (rec5 r) 12 r.next 4
def rec7 (r : R) : List Int := putB (rec6 r) 16 r.key 4
def rec8 (r : R) : List Int := putB (rec7 r) 24 (u64 r.old) 8
/-- A record's bytes. -/
def recB (r : R) : List Int := putB (rec8 r) 32 (u64 r.new) 8
theorem length_rec1 (r : R) : (rec1 r).length = 40 := by rw [rec1, length_putB, List.length_replicate]
theorem length_rec2 (r : R) : (rec2 r).length = 40 := by rw [rec2, length_putB, length_rec1]
theorem length_rec3 (r : R) : (rec3 r).length = 40 := by rw [rec3, length_putB, length_rec2]
theorem length_rec4 (r : R) : (rec4 r).length = 40 := by rw [rec4, length_putB, length_rec3]
theorem length_rec5 (r : R) : (rec5 r).length = 40 := by rw [rec5, length_putB, length_rec4]
theorem length_rec6 (r : R) : (rec6 r).length = 40 := by rw [rec6, length_putB, length_rec5]
theorem length_rec7 (r : R) : (rec7 r).length = 40 := by rw [rec7, length_putB, length_rec6]
theorem length_rec8 (r : R) : (rec8 r).length = 40 := by rw [rec8, length_putB, length_rec7]
theorem length_recB (r : R) : (recB r).length = 40 := by rw [recB, length_putB, length_rec8]
theorem bytes_recB (r : R) : Bytes (recB r) := by
  have h0 : Bytes (List.replicate 40 0) := fun x hx => by rw [(List.mem_replicate.1 hx).2]; omega
  exact ((((((((h0.putB _ _ _).putB _ _ _).putB _ _ _).putB _ _ _).putB _ _ _).putB _ _ _).putB _ _ _).putB _ _ _).putB _ _ _

/-- What bytes say, be it a record or not. -/
def partsR (xs : List Int) : R := ⟨getB xs 0 1, getB xs 2 2, getB xs 4 2, getB xs 8 4, getB xs 12 4, getB xs 16 4, decide (getB xs 1 1 % 2 = 1), decide (getB xs 1 1 / 2 % 2 = 1), i64 (getB xs 24 8), i64 (getB xs 32 8)⟩
theorem partsR_fits (xs : List Int) (h : Bytes xs) : (partsR xs).fits := ⟨i64_bd _ (getB_bd xs h _ _ (by omega)), i64_bd _ (getB_bd xs h _ _ (by omega))⟩
theorem mod_lt {n m : Int} (h0 : 0 ≤ n) (h1 : n < m) : n % m = n := Int.emod_eq_of_lt h0 h1
theorem parts_recB (r : R) (hg : goodB r = true) (hf : r.fits) : partsR (recB r) = r := by
  obtain ⟨⟨k0, k1⟩, ⟨t0, t1⟩, ⟨p0, p1⟩, ⟨v0, v1⟩, ⟨n0, n1⟩, ⟨y0, y1⟩⟩ := R.small hg
  have g0 : getB (recB r) 0 1 = r.kind := by
    rw [recB, get_put_other _ _ _ _ _ _ (by omega), rec8, get_put_other _ _ _ _ _ _ (by omega), rec7, get_put_other _ _ _ _ _ _ (by omega), rec6, get_put_other _ _ _ _ _ _ (by omega), rec5, get_put_other _ _ _ _ _ _ (by omega), rec4, get_put_other _ _ _ _ _ _ (by omega), rec3, get_put_other _ _ _ _ _ _ (by omega), rec2, get_put_other _ _ _ _ _ _ (by omega), rec1, get_put_same _ _ _ _ (by omega) (by simp)]
    exact mod_lt (by omega) (by omega)
  have g1 : getB (recB r) 1 1 = markB r := by
    have := markB_bd r
    rw [recB, get_put_other _ _ _ _ _ _ (by omega), rec8, get_put_other _ _ _ _ _ _ (by omega), rec7, get_put_other _ _ _ _ _ _ (by omega), rec6, get_put_other _ _ _ _ _ _ (by omega), rec5, get_put_other _ _ _ _ _ _ (by omega), rec4, get_put_other _ _ _ _ _ _ (by omega), rec3, get_put_other _ _ _ _ _ _ (by omega), rec2, get_put_same _ _ _ _ (by omega) (by rw [length_rec1]; omega)]
    exact mod_lt (by omega) (by omega)
  have g2 : getB (recB r) 2 2 = r.txn := by
    rw [recB, get_put_other _ _ _ _ _ _ (by omega), rec8, get_put_other _ _ _ _ _ _ (by omega), rec7, get_put_other _ _ _ _ _ _ (by omega), rec6, get_put_other _ _ _ _ _ _ (by omega), rec5, get_put_other _ _ _ _ _ _ (by omega), rec4, get_put_other _ _ _ _ _ _ (by omega), rec3, get_put_same _ _ _ _ (by omega) (by rw [length_rec2]; omega)]
    exact mod_lt (by omega) (by omega)
  have g4 : getB (recB r) 4 2 = r.page := by
    rw [recB, get_put_other _ _ _ _ _ _ (by omega), rec8, get_put_other _ _ _ _ _ _ (by omega), rec7, get_put_other _ _ _ _ _ _ (by omega), rec6, get_put_other _ _ _ _ _ _ (by omega), rec5, get_put_other _ _ _ _ _ _ (by omega), rec4, get_put_same _ _ _ _ (by omega) (by rw [length_rec3]; omega)]
    exact mod_lt (by omega) (by omega)
  have g8 : getB (recB r) 8 4 = r.prev := by
    rw [recB, get_put_other _ _ _ _ _ _ (by omega), rec8, get_put_other _ _ _ _ _ _ (by omega), rec7, get_put_other _ _ _ _ _ _ (by omega), rec6, get_put_other _ _ _ _ _ _ (by omega), rec5, get_put_same _ _ _ _ (by omega) (by rw [length_rec4]; omega)]
    exact mod_lt (by omega) (by omega)
  have g12 : getB (recB r) 12 4 = r.next := by
    rw [recB, get_put_other _ _ _ _ _ _ (by omega), rec8, get_put_other _ _ _ _ _ _ (by omega), rec7, get_put_other _ _ _ _ _ _ (by omega), rec6, get_put_same _ _ _ _ (by omega) (by rw [length_rec5]; omega)]
    exact mod_lt (by omega) (by omega)
  have g16 : getB (recB r) 16 4 = r.key := by
    rw [recB, get_put_other _ _ _ _ _ _ (by omega), rec8, get_put_other _ _ _ _ _ _ (by omega), rec7, get_put_same _ _ _ _ (by omega) (by rw [length_rec6]; omega)]
    exact mod_lt (by omega) (by omega)
  have g24 : getB (recB r) 24 8 = u64 r.old := by
    have := u64_bd r.old
    rw [recB, get_put_other _ _ _ _ _ _ (by omega), rec8, get_put_same _ _ _ _ (by omega) (by rw [length_rec7]; omega)]
    exact mod_lt (by omega) (by omega)
  have g32 : getB (recB r) 32 8 = u64 r.new := by
    have := u64_bd r.new
    rw [recB, get_put_same _ _ _ _ (by omega) (by rw [length_rec8]; omega)]
    exact mod_lt (by omega) (by omega)
  unfold partsR
  rw [g0, g1, g2, g4, g8, g12, g16, g24, g32, i64_u64 _ hf.1, i64_u64 _ hf.2]
  obtain ⟨a, b, c, d, e, f, g, h, i, j⟩ := r
  cases g <;> cases h <;> rfl
/-- What rec.Read answers of 40 bytes. -/
def isRec (xs : List Int) : Bool := goodB (partsR xs) && decide (recB (partsR xs) = xs)
theorem isRec_recB (r : R) (hg : goodB r = true) (hf : r.fits) : isRec (recB r) = true := by
  unfold isRec
  rw [parts_recB r hg hf, hg]
  simp
theorem recB_inj {a b : R} (ha : goodB a = true) (hfa : a.fits) (hb : goodB b = true) (hfb : b.fits) (h : recB a = recB b) : a = b := by
  rw [← parts_recB a ha hfa, ← parts_recB b hb hfb, h]
/-- Where nothing stands there is a zero. -/
theorem recB_zero (r : R) (p : Int) (h : p = 6 ∨ p = 7 ∨ p = 20 ∨ p = 21 ∨ p = 22 ∨ p = 23) : byteAt (recB r) p = 0 := by
  rw [recB, byteAt_putB, if_neg (by omega), rec8, byteAt_putB, if_neg (by omega), rec7, byteAt_putB, if_neg (by omega), rec6, byteAt_putB, if_neg (by omega), rec5, byteAt_putB, if_neg (by omega), rec4, byteAt_putB, if_neg (by omega), rec3, byteAt_putB, if_neg (by omega), rec2, byteAt_putB, if_neg (by omega), rec1, byteAt_putB, if_neg (by omega)]
  unfold byteAt
  split
  · rw [List.getD_eq_getElem?_getD, List.getElem?_replicate]; split <;> rfl
  · rfl
theorem recB_mark (r : R) : byteAt (recB r) 1 = markB r := by
  have := markB_bd r
  rw [recB, byteAt_putB, if_neg (by omega), rec8, byteAt_putB, if_neg (by omega), rec7, byteAt_putB, if_neg (by omega), rec6, byteAt_putB, if_neg (by omega), rec5, byteAt_putB, if_neg (by omega), rec4, byteAt_putB, if_neg (by omega), rec3, byteAt_putB, if_neg (by omega), rec2, byteAt_putB, if_pos (by rw [length_rec1]; omega)]
  show byteOf _ 0 = _
  unfold byteOf
  rw [Int.pow_zero, Int.ediv_one]
  exact mod_lt (by omega) (by omega)
theorem isRec_zero (xs : List Int) (p : Int) (h : p = 6 ∨ p = 7 ∨ p = 20 ∨ p = 21 ∨ p = 22 ∨ p = 23) (hx : byteAt xs p ≠ 0) : isRec xs = false := by
  unfold isRec
  rw [Bool.and_eq_false_iff]
  refine .inr (decide_eq_false fun e => hx ?_)
  rw [← e]
  exact recB_zero _ p h
theorem isRec_mark (xs : List Int) (hx : 4 ≤ byteAt xs 1) : isRec xs = false := by
  unfold isRec
  rw [Bool.and_eq_false_iff]
  refine .inr (decide_eq_false fun e => ?_)
  rw [← e, recB_mark] at hx
  have := markB_bd (partsR xs)
  omega
end Go.Proofs.YtjacenhblclkaaaDoor

/- What phoenixref.Bytes, cell.Join and the document's own Put and Fill answer, at every list of bytes; nothing that was there is written. -/
namespace Go.Proofs.YtjacenhblclkaaaDoor
open Go.RowKit
set_option linter.unusedVariables false

theorem hide {p : Prop} (h : p) : Hid p := h
theorem take_snoc (xs : List Int) (k : Nat) (h : k < xs.length) : xs.take (k + 1) = xs.take k ++ [xs.getD k 0] := by
  rw [List.take_succ_eq_append_getElem h, List.getD_eq_getElem?_getD, List.getElem?_eq_getElem h]
  rfl
theorem cellsOf_append (xs ys : List Int) : cellsOf (xs ++ ys) = cellsOf xs ++ cellsOf ys := by simp [cellsOf]
theorem Bytes.take {xs : List Int} (h : Bytes xs) (k : Nat) : Bytes (xs.take k) := fun x hx => h x (List.mem_of_mem_take hx)

/-- A list of bytes as a value: where it begins, its room, its bytes. -/
structure Part where
  ao : Option Addr
  cap : Nat
  xs : List Int
def Part.val (p : Part) : Value := .slice p.ao p.xs.length p.cap
def Part.isIn (w : World) (p : Part) : Prop := Row w p.ao p.xs ∧ (p.ao = none → p.xs = [] ∧ p.cap = 0)
/-- The slice of slices that begins at 'oo' reads in w as the parts ls. -/
def Rows2 (w : World) (oo : Option Addr) (ls : List Part) : Prop :=
  ls.length ≤ 4294967296 ∧ (∀ p ∈ ls, p.isIn w) ∧ (0 < ls.length → ∃ b off, oo = some ⟨b, off, none⟩ ∧ b < w.heap.size ∧ ∀ i (hi : i < ls.length), w.cell? ⟨b, off + i, none⟩ = some ls[i].val)
def joinB (ls : List Part) : List Int := (ls.map (·.xs)).flatten
theorem joinB_snoc (ls : List Part) (k : Nat) (h : k < ls.length) : joinB (ls.take (k + 1)) = joinB (ls.take k) ++ ls[k].xs := by
  unfold joinB
  rw [List.take_succ_eq_append_getElem h, List.map_append, List.flatten_append]
  simp only [List.map_cons, List.map_nil, List.flatten_cons, List.flatten_nil, List.append_nil]
theorem joinB_le (ls : List Part) (k : Nat) : (joinB (ls.take k)).length ≤ (joinB ls).length := by
  unfold joinB
  conv => rhs; rw [← List.take_append_drop k ls]
  simp only [List.map_append, List.flatten_append, List.length_append]
  omega
theorem own_shape {w : World} {B e n : Nat} {v : Value} {cs : List Value} (h : w.ownsRow B e 1 v n cs) : ∃ ao cap, v = .slice ao n cap := by
  rcases h.2 with ⟨h1, h2⟩ | ⟨g, cap, cur, h1, _⟩
  · exact ⟨none, 0, by rw [h1, h2]⟩
  · exact ⟨_, cap, h1⟩
theorem Bytes.append {xs ys : List Int} (h : Bytes xs) (h' : Bytes ys) : Bytes (xs ++ ys) := by
  intro x hx
  rcases List.mem_append.1 hx with h1 | h1
  · exact h x h1
  · exact h' x h1

set_option maxHeartbeats 1000000 in
theorem join_any (oo : Option Addr) (cap : Nat) (ls : List Part) (w : World) (h : Rows2 w oo ls) (hsum : (joinB ls).length ≤ 4294967296) :
    Calls Tryd.prog 111 #[.slice oo ls.length cap] w fun e w' => ∃ ao c, e = .returned (.slice ao (joinB ls).length c) ∧ Own w' w.heap.size ao c (joinB ls) ∧ Below w.heap.size w w' := by
  obtain ⟨i0, hi, hz0, hz1, hz2⟩ := info_parts Tryd.info5
  obtain ⟨h0, h1, h2⟩ := h
  have H1 : Hid (∀ p ∈ ls, p.isIn w) := h1
  clear h1
  go_enter Tryd.func111, Tryd.ntmps111
  go_wp2_with fail
  go_loopw [3, 8] (fun v i wr => ∃ k : Nat, k ≤ ls.length ∧ i = .int .i64 k ∧ ∃ ao c, v = .slice ao (joinB (ls.take k)).length c ∧ Own wr w.heap.size ao c (joinB (ls.take k)) ∧ Below w.heap.size w wr) (fun _ i _ => ls.length - (intOf i).toNat)
  case atStart => exact ⟨0, by omega, rfl, none, 0, rfl, ⟨World.ownsRow_nil _ _ _ _, fun x hx => by simp [joinB] at hx, by simp [joinB]⟩, Below.refl _ _⟩
  case round =>
    obtain ⟨k, hk, rfl, ao, c, rfl, hown, hbel⟩ := hrel
    have HO : Hid (Own wr w.heap.size ao c (joinB (ls.take k))) := hown
    have HB : Hid (Below w.heap.size w wr) := hbel
    clear hown hbel
    by_cases hlt : k < ls.length
    · obtain ⟨b, off, rfl, hb, hc⟩ := h2 (by omega)
      have hcp := hc k hlt
      have hpin := H1.out ls[k] (List.getElem_mem hlt)
      have HT := joinB_snoc ls k hlt
      have hle := joinB_le ls (k + 1)
      obtain ⟨p, hp⟩ : ∃ p, p = ls[k] := ⟨_, rfl⟩
      rw [← hp] at hcp hpin HT
      obtain ⟨po, pc, px⟩ := p
      obtain ⟨J, hJ⟩ : ∃ J, J = joinB (ls.take k) := ⟨_, rfl⟩
      rw [← hJ] at HO HT ⊢
      rw [HT] at hle
      have HT' : Hid (joinB (ls.take (k + 1)) = J ++ px) := HT
      have hcr : wr.cell? ⟨b, off + k, none⟩ = some (.slice po px.length pc) := by rw [HB.out.cell (by exact hb)]; exact hcp
      have HP : Hid (Part.isIn w ⟨po, pc, px⟩) := hpin
      simp only [List.length_append] at hle
      clear hp hc h2 HT hcp hpin hJ
      have hend : ∀ v' w2, w2.ownsRow w.heap.size 5 1 v' (J.length + px.length) (cellsOf J ++ cellsOf px) → Below w.heap.size w w2 → ∃ ao c, v' = .slice ao (joinB (ls.take (k + 1))).length c ∧ Own w2 w.heap.size ao c (joinB (ls.take (k + 1))) ∧ Below w.heap.size w w2 := by
        intro v' w2 h3 h4
        obtain ⟨ao', c', rfl⟩ := own_shape h3
        rw [HT'.out]
        refine ⟨ao', c', by simp, ⟨?_, HO.out.2.1.append HP.out.1.2.1, by simp; omega⟩, h4⟩
        rw [List.length_append, cellsOf_append]
        exact h3
      have HE := hide hend
      clear hend
      cases po with
      | none =>
        have hx := HP.out.2 rfl
        simp only at hx
        obtain ⟨rfl, rfl⟩ := hx
        go_wp2_with (at_builtin; refine wpList_append_own_none rfl (.tmp 12) (.tmp 13) 44 rfl w.heap.size 5 i0 1 Tryd.underlying44 hi _ J.length (cellsOf J) rfl HO.out.1 rfl ?_)
        go_roundw
        case rel => exact ⟨k + 1, by omega, by go_num, HE.out _ _ (by simpa [cellsOf] using HO.out.1) HB.out⟩
        case measure => simp [intOf]; omega
      | some ad =>
        have hsrc : ∀ j u, (cellsOf px)[j]? = some u → wr.cell? (ad.add j) = some u := by
          intro j u hj
          by_cases hp0 : 0 < px.length
          · obtain ⟨ad', e, hs⟩ := (HP.out.1.below HB.out (Nat.le_refl _)).src (by rw [length_cellsOf]; exact hp0)
            cases e
            exact hs j u hj
          · have := (cellsOf_at hj).1; omega
        have HC := hide hsrc
        clear hsrc
        go_wp2_with (at_builtin; refine wpList_append_own _ rfl (.tmp 12) (.tmp 13) 44 rfl w.heap.size 5 i0 (.int .u8 0) 1 1 Tryd.underlying44 hi hz0 hz1 hz2 rfl (by decide) _ J.length (cellsOf J) rfl HO.out.1 ad px.length pc (cellsOf px) rfl (by rw [length_cellsOf, Nat.mul_one]) HC.out (oneCell_cellsOf px) (by unfold maxLen; omega) (by omega) HB.out.size ?_; intro v' w2 hown2 hgr2 _; have HO2 : Hid (w2.ownsRow w.heap.size 5 1 v' (J.length + px.length) (cellsOf J ++ cellsOf px)) := hown2; have HG2 : Hid (wr.grownBy w2 (Value.slice ao J.length c).ownBlock) := hgr2; clear hown2 hgr2)
        go_roundw
        case rel =>
          refine ⟨k + 1, by omega, by go_num, HE.out _ _ HO2.out ?_⟩
          refine HB.out.grown HG2.out HB.out.size (fun j e => ?_)
          exact (HO.out.1.lt j e).1
        case measure => simp [intOf]; omega
    · go_wp2_with fail
      go_ret
      have hk' : k = ls.length := by omega
      subst hk'
      refine ⟨ao, c, ?_⟩
      have := HO.out
      rw [List.take_length] at this
      rw [List.take_length]
      exact ⟨rfl, this, HB.out⟩
end Go.Proofs.YtjacenhblclkaaaDoor

/- The chapter's examples, as the statements ask them first: they hold, and nothing that was there is written. -/
namespace Go.Proofs.YtjacenhblclkaaaDoor
open Go.RowKit
set_option linter.unusedVariables false

theorem first_row (w : World) : Row (w.alloc (.cells #[.int .u8 0, .int .u8 0] 5)) (some ⟨w.heap.size, 0, none⟩) [0, 0] := by
  refine ⟨by simp, fun x hx => by simp at hx; omega, fun _ => ⟨w.heap.size, 0, rfl, by simp, fun i hi => ?_⟩⟩
  match i, hi with
  | 0, _ => simp
  | 1, _ => simp
theorem first_put : putB [0, 0] 0 258 (widthB 2).toNat = [2, 1] := by decide
theorem first_get : getB [] 0 (widthB 8).toNat = 0 := by decide
theorem first_zero : zeroB [2, 1] = false := by decide

end Go.Proofs.YtjacenhblclkaaaDoor

/- Plain lemmas on blocks: which may be, their bytes, what bytes say; no Go text here. -/
namespace Go.Proofs.YtjacenhblclkaaaDoor
open Go.RowKit
set_option linter.unusedVariables false

/-- What stands ahead of a block's records. -/
def headB (epoch n : Int) : List Int := putB (putB (fillB [80, 72, 88, 66] 16) 4 epoch 4) 8 n 2
/-- Records' bytes, one behind the other. -/
def recsB (rs : List R) : List Int := (rs.map recB).flatten
/-- A block's bytes. -/
def blockB (epoch : Int) (rs : List R) : List Int := fillB (headB epoch rs.length ++ recsB rs) 256
/-- A block that may be. -/
def okB (epoch : Int) (rs : List R) : Bool := decide (1 ≤ epoch ∧ epoch ≤ 1073741824 ∧ 1 ≤ rs.length ∧ rs.length ≤ 6) && rs.all goodB
theorem byteAt_grownB (xs : List Int) (n : Nat) (p : Int) : byteAt (grownB xs n) p = byteAt xs p := by
  unfold byteAt grownB
  split <;> split
  · rename_i h1 h2
    rw [List.getD_eq_getElem?_getD, List.getD_eq_getElem?_getD, List.getElem?_append_left (by omega)]
  · rename_i h1 h2
    rw [List.getD_eq_getElem?_getD, List.getElem?_append_right (by omega), List.getElem?_replicate]
    split <;> rfl
  · rename_i h1 h2
    exfalso
    apply h1
    simp
    omega
  · rfl
theorem byteAt_fillB (xs : List Int) (S p : Int) : byteAt (fillB xs S) p = byteAt xs p := byteAt_grownB _ _ _
theorem byteAt_left (xs ys : List Int) (p : Int) (h : p < xs.length) : byteAt (xs ++ ys) p = byteAt xs p := by
  unfold byteAt
  by_cases h0 : 0 ≤ p
  · rw [if_pos ⟨h0, by simp; omega⟩, if_pos ⟨h0, h⟩, List.getD_eq_getElem?_getD, List.getD_eq_getElem?_getD, List.getElem?_append_left (by omega)]
  · rw [if_neg (fun h => h0 h.1), if_neg (fun h => h0 h.1)]
theorem byteAt_out (xs : List Int) (p : Int) (h : (xs.length : Int) ≤ p) : byteAt xs p = 0 := by
  unfold byteAt
  rw [if_neg (by omega)]
theorem getB_congr (xs ys : List Int) (a : Int) (k : Nat) (h : ∀ p, a ≤ p → p < a + k → byteAt xs p = byteAt ys p) : getB xs a k = getB ys a k :=
  num_congr k fun j h0 h1 => h _ (by omega) (by omega)
theorem length_headB (e n : Int) : (headB e n).length = 16 := by rw [headB, length_putB, length_putB, length_fillB]; rfl
theorem length_recsB (rs : List R) : (recsB rs).length = 40 * rs.length := by
  induction rs with
  | nil => rfl
  | cons r rs ih => simp only [recsB, List.map_cons, List.flatten_cons, List.length_append, List.length_cons, length_recB] at ih ⊢; omega
theorem recsB_snoc (rs : List R) (k : Nat) (r : R) (h : rs[k]? = some r) : recsB (rs.take (k + 1)) = recsB (rs.take k) ++ recB r := by
  have hk := (List.getElem?_eq_some_iff.1 h).1
  rw [List.take_add_one, h]
  simp [recsB]
theorem bytes_head0 : Bytes [80, 72, 88, 66] := by
  intro x hx
  simp at hx
  omega
theorem bytes_headB (e n : Int) : Bytes (headB e n) := ((bytes_head0.grownB _).putB _ _ _).putB _ _ _
theorem bytes_recsB (rs : List R) : Bytes (recsB rs) := by
  intro x hx
  obtain ⟨l, hl, hx⟩ := List.mem_flatten.1 hx
  obtain ⟨r, _, rfl⟩ := List.mem_map.1 hl
  exact bytes_recB r x hx
theorem bytes_blockB (e : Int) (rs : List R) : Bytes (blockB e rs) := ((bytes_headB _ _).append (bytes_recsB _)).grownB _
theorem length_blockB (e : Int) (rs : List R) (h : rs.length ≤ 6) : (blockB e rs).length = 256 := by
  rw [blockB, length_fillB, List.length_append, length_headB, length_recsB]
  show max 256 _ = 256
  omega
theorem blockB_head (e : Int) (rs : List R) (p : Int) (h : p < 16) : byteAt (blockB e rs) p = byteAt (headB e rs.length) p := by
  rw [blockB, byteAt_fillB, byteAt_left _ _ _ (by rw [length_headB]; omega)]
theorem blockB_out (e : Int) (rs : List R) (p : Int) (h : 16 + 40 * (rs.length : Int) ≤ p) : byteAt (blockB e rs) p = 0 := by
  rw [blockB, byteAt_fillB, byteAt_out]
  rw [List.length_append, length_headB, length_recsB]
  omega
theorem blockB_gap (e : Int) (rs : List R) (p : Int) (h : 10 ≤ p) (h' : p < 16) : byteAt (blockB e rs) p = 0 := by
  rw [blockB_head e rs p h', headB, byteAt_putB, if_neg (by omega), byteAt_putB, if_neg (by omega), byteAt_fillB, byteAt_out]
  simp only [List.length_cons, List.length_nil]
  omega
theorem blockB_mark (e : Int) (rs : List R) (p : Int) (h' : p < 4) : byteAt (blockB e rs) p = byteAt [80, 72, 88, 66] p := by
  rw [blockB_head e rs p (by omega), headB, byteAt_putB, if_neg (by omega), byteAt_putB, if_neg (by omega), byteAt_fillB]
theorem blockB_epochAt (e : Int) (rs : List R) (p : Int) (h : 4 ≤ p) (h' : p < 8) : byteAt (blockB e rs) p = byteOf e (p - 4).toNat := by
  rw [blockB_head e rs p (by omega), headB, byteAt_putB, if_neg (by omega), byteAt_putB, if_pos (by rw [length_fillB]; simp; omega)]
theorem blockB_countAt (e : Int) (rs : List R) (p : Int) (h : 8 ≤ p) (h' : p < 10) : byteAt (blockB e rs) p = byteOf rs.length (p - 8).toNat := by
  rw [blockB_head e rs p (by omega), headB, byteAt_putB, if_pos (by rw [length_putB, length_fillB]; simp; omega)]
/-- What bytes say as a block. -/
def epochOf (xs : List Int) : Int := getB xs 4 4
def countOf (xs : List Int) : Int := getB xs 8 2
def manyOf (xs : List Int) : Nat := min (countOf xs).toNat 6
def partAt (xs : List Int) (i : Nat) : List Int := (xs.drop (16 + 40 * i)).take 40
def recsUp (xs : List Int) (k : Nat) : List R := (List.range k).map fun i => partsR (partAt xs i)
def recsOf (xs : List Int) : List R := recsUp xs (manyOf xs)
/-- The first k parts are records. -/
def partsOk (xs : List Int) (k : Nat) : Bool := (List.range k).all fun i => isRec (partAt xs i)
/-- The bytes are a block's. -/
def isBlock (xs : List Int) : Bool := partsOk xs (manyOf xs) && (okB (epochOf xs) (recsOf xs) && decide (blockB (epochOf xs) (recsOf xs) = xs))
theorem length_recsUp (xs : List Int) (k : Nat) : (recsUp xs k).length = k := by simp [recsUp]
theorem length_recsOf (xs : List Int) : (recsOf xs).length = manyOf xs := length_recsUp _ _
theorem manyOf_le (xs : List Int) : manyOf xs ≤ 6 := by unfold manyOf; omega
theorem recsUp_succ (xs : List Int) (k : Nat) : recsUp xs (k + 1) = recsUp xs k ++ [partsR (partAt xs k)] := by
  unfold recsUp
  rw [List.range_succ, List.map_append]
  rfl
theorem partsOk_iff (xs : List Int) (k : Nat) : partsOk xs k = true ↔ ∀ i, i < k → isRec (partAt xs i) = true := by
  unfold partsOk
  rw [List.all_eq_true]
  simp only [List.mem_range]
theorem partsOk_no {xs : List Int} {k i : Nat} (hi : i < k) (h : isRec (partAt xs i) = false) : partsOk xs k = false := by
  cases hp : partsOk xs k with
  | false => rfl
  | true => rw [(partsOk_iff xs k).1 hp i hi] at h; cases h
theorem length_partAt (xs : List Int) (i : Nat) (h : xs.length = 256) (hi : i < 6) : (partAt xs i).length = 40 := by
  unfold partAt
  rw [List.length_take, List.length_drop]
  omega
theorem epoch_blockB (e : Int) (rs : List R) (h0 : 0 ≤ e) (h1 : e ≤ 1073741824) : epochOf (blockB e rs) = e := by
  unfold epochOf
  rw [getB_congr _ (headB e rs.length) 4 4 (fun p hp hp' => blockB_head e rs p (by omega)), headB, get_put_other _ _ _ _ _ _ (by omega), get_put_same _ _ _ _ (by omega) (by rw [length_fillB]; decide)]
  exact mod_lt h0 (by omega)
theorem count_blockB (e : Int) (rs : List R) (h : rs.length ≤ 6) : countOf (blockB e rs) = rs.length := by
  unfold countOf
  rw [getB_congr _ (headB e rs.length) 8 2 (fun p hp hp' => blockB_head e rs p (by omega)), headB, get_put_same _ _ _ _ (by omega) (by rw [length_putB, length_fillB]; decide)]
  exact mod_lt (by omega) (by omega)
theorem many_blockB (e : Int) (rs : List R) (h : rs.length ≤ 6) : manyOf (blockB e rs) = rs.length := by
  unfold manyOf
  rw [count_blockB e rs h]
  omega
theorem recsB_part (zs : List Int) : ∀ (rs : List R) (i : Nat) (r : R), rs[i]? = some r → ((recsB rs ++ zs).drop (40 * i)).take 40 = recB r := by
  intro rs
  induction rs with
  | nil => intro i r h; simp at h
  | cons x rs ih =>
    intro i r h
    have hx := length_recB x
    have e : recsB (x :: rs) ++ zs = recB x ++ (recsB rs ++ zs) := by simp [recsB]
    rw [e]
    cases i with
    | zero =>
      simp at h
      subst h
      rw [Nat.mul_zero, List.drop_zero, List.take_append_of_le_length (by omega), List.take_of_length_le (by omega)]
    | succ i =>
      rw [show 40 * (i + 1) = (recB x).length + 40 * i by omega, List.drop_length_add_append]
      exact ih i r (by simpa using h)
theorem part_blockB (e : Int) (rs : List R) (i : Nat) (r : R) (h : rs[i]? = some r) : partAt (blockB e rs) i = recB r := by
  unfold partAt blockB fillB grownB
  have hh := length_headB e rs.length
  rw [List.append_assoc, show 16 + 40 * i = (headB e rs.length).length + 40 * i by omega, List.drop_length_add_append]
  exact recsB_part _ rs i r h
theorem recs_blockB (e : Int) (rs : List R) (h : rs.length ≤ 6) (hg : ∀ r ∈ rs, goodB r = true ∧ r.fits) : recsOf (blockB e rs) = rs := by
  unfold recsOf
  rw [many_blockB e rs h]
  unfold recsUp
  refine List.ext_getElem (by simp) fun i h1 h2 => ?_
  rw [List.getElem_map, List.getElem_range, part_blockB e rs i rs[i] (List.getElem?_eq_getElem h2)]
  have := hg rs[i] (List.getElem_mem h2)
  exact parts_recB _ this.1 this.2
theorem okB_iff (e : Int) (rs : List R) : okB e rs = true ↔ (1 ≤ e ∧ e ≤ 1073741824 ∧ 1 ≤ rs.length ∧ rs.length ≤ 6) ∧ ∀ r ∈ rs, goodB r = true := by
  unfold okB
  rw [Bool.and_eq_true, decide_eq_true_eq, List.all_eq_true]
theorem isBlock_blockB (e : Int) (rs : List R) (h : okB e rs = true) (hf : ∀ r ∈ rs, r.fits) : isBlock (blockB e rs) = true ∧ epochOf (blockB e rs) = e ∧ recsOf (blockB e rs) = rs := by
  obtain ⟨⟨h0, h1, h2, h3⟩, hg⟩ := (okB_iff e rs).1 h
  have he := epoch_blockB e rs (by omega) h1
  have hr := recs_blockB e rs h3 fun r hr => ⟨hg r hr, hf r hr⟩
  refine ⟨?_, he, hr⟩
  unfold isBlock
  rw [he, hr, h, many_blockB e rs h3, (partsOk_iff _ _).2]
  · simp
  · intro i hi
    have hm := List.getElem_mem hi
    rw [part_blockB e rs i rs[i] (List.getElem?_eq_getElem hi)]
    exact isRec_recB _ (hg _ hm) (hf _ hm)
theorem isBlock_parts {xs : List Int} (h : isBlock xs = true) : partsOk xs (manyOf xs) = true ∧ okB (epochOf xs) (recsOf xs) = true ∧ blockB (epochOf xs) (recsOf xs) = xs := by
  unfold isBlock at h
  rw [Bool.and_eq_true, Bool.and_eq_true, decide_eq_true_eq] at h
  exact h
theorem isBlock_gap {xs : List Int} (p : Int) (h : 10 ≤ p) (h' : p < 16) (hx : byteAt xs p ≠ 0) : isBlock xs = false := by
  cases hb : isBlock xs with
  | false => rfl
  | true =>
    rw [← (isBlock_parts hb).2.2] at hx
    exact absurd (blockB_gap _ _ p h h') hx
theorem isBlock_out {xs : List Int} (p : Int) (h : 16 + 40 * (manyOf xs : Int) ≤ p) (hx : byteAt xs p ≠ 0) : isBlock xs = false := by
  cases hb : isBlock xs with
  | false => rfl
  | true =>
    have e := (isBlock_parts hb).2.2
    have hl := length_recsOf xs
    obtain ⟨rs, hrs⟩ : ∃ rs, rs = recsOf xs := ⟨_, rfl⟩
    rw [← hrs] at e hl
    rw [← e] at hx
    exact absurd (blockB_out _ rs p (by rw [hl]; exact h)) hx
theorem blockB_not_zero (e : Int) (rs : List R) (h : rs.length ≤ 6) (xs : List Int) (hl : xs.length = 256) (k : Nat) (he : ∀ i, i ≠ k → xs.getD i 0 = (blockB e rs).getD i 0) : zeroB xs = false := by
  by_cases hk : k = 0
  · refine zeroB_false (i := 1) (by omega) ?_
    rw [he 1 (by omega), ← byteAt_nat, blockB_mark e rs _ (by omega)]
    decide
  · refine zeroB_false (i := 0) (by omega) ?_
    rw [he 0 (by omega), ← byteAt_nat, blockB_mark e rs _ (by omega)]
    decide
theorem getD_set_ne (xs : List Int) (k i : Nat) (v : Int) (h : i ≠ k) : (xs.set k v).getD i 0 = xs.getD i 0 := by
  rw [List.getD_eq_getElem?_getD, List.getD_eq_getElem?_getD, List.getElem?_set_ne (fun e => h e.symm)]
theorem getD_set_eq (xs : List Int) (k : Nat) (v : Int) (h : k < xs.length) : (xs.set k v).getD k 0 = v := by
  rw [List.getD_eq_getElem?_getD, List.getElem?_set_self h]
  rfl
theorem epoch_bytes (e : Int) (h0 : 0 ≤ e) (h1 : e < 16777216) : byteOf e 0 + 256 * byteOf e 1 + 65536 * byteOf e 2 = e := by
  unfold byteOf
  rw [show (256 : Int) ^ 0 = 1 by decide, show (256 : Int) ^ 1 = 256 by decide, show (256 : Int) ^ 2 = 65536 by decide]
  omega
end Go.Proofs.YtjacenhblclkaaaDoor

/- What the document's own Put and Fill (phoenixref1) answer, at every list of bytes; nothing that was there is written. -/
namespace Go.Proofs.YtjacenhblclkaaaDoor
open Go.RowKit
set_option linter.unusedVariables false

def sliceLen : Value → Nat
  | .slice _ n _ => n
  | _ => 0
theorem grownB_succ (xs : List Int) (k : Nat) (h : xs.length ≤ k) : grownB xs (k + 1) = grownB xs k ++ [0] := by
  unfold grownB
  rw [show k + 1 - xs.length = (k - xs.length) + 1 by omega, List.replicate_succ', List.append_assoc]
theorem grownB_self (xs : List Int) : grownB xs xs.length = xs := by simp [grownB]

/-- 'append(s, x...)' of two lists of bytes, s the call's own, under whatever guard says yes: the two, one behind the other, owned; below B nothing has turned. -/
theorem wpList_append_bytes {w : World} {ops : Array Oper} {rest : List Oper} {o : Oper} {a : Act} {Q : Exit → Act → World → Prop}
    (hw : Region.wanted o (yielded ops a.tmps) = true) (s x : Operand)
    (ho : o.op = .call { callee := .builtin .append, args := #[s, x], argTypes := #[44, 44] })
    (B : Nat) (ao : Option Addr) (cap : Nat) (xs : List Int) (hs : a.eval s = .slice ao xs.length cap) (hO : Own w B ao cap xs)
    (bo : Option Addr) (c : Nat) (ys : List Int) (hx : a.eval x = .slice bo ys.length c) (hr : Row w bo ys) (hnil : bo = none → ys = [] ∧ c = 0)
    (hlen : xs.length + ys.length ≤ 4294967296) (hB : B ≤ w.heap.size) (zs : List Int) (hzs : zs = xs ++ ys)
    (h : ∀ ao' c' w', Own w' B ao' c' zs → Below B w w' → w.grownBy w' (Value.slice ao xs.length cap).ownBlock → wpList Tryd.prog ops Q rest (a.put o.dst (.slice ao' zs.length c')) w') : wpList Tryd.prog ops Q (o :: rest) a w := by
  obtain ⟨i0, hi, hz0, hz1, hz2⟩ := info_parts Tryd.info5
  subst hzs
  refine BigFrame.wpList_want hw fun K hK => ?_
  cases bo with
  | none =>
    obtain ⟨rfl, rfl⟩ := hnil rfl
    have hrun := run_append_owned_none (P := Tryd.prog) (w := w) B 44 o.type 5 i0 1 Tryd.underlying44 hi _ xs.length (cellsOf xs) hO.1
    unfold Oper.wp
    simp only [List.length_nil] at hx
    simp [execOp, ho, resolve, invoke, builtin, hs, hx, hrun, Result.andThen]
    have := h ao cap w (by simpa using hO) (Below.refl _ _) (World.grownBy.refl _ _)
    simp only [List.append_nil] at this
    exact hK _ _ this
  | some ad =>
    have hsrc : ∀ j u, (cellsOf ys)[j]? = some u → w.cell? (ad.add j) = some u := by
      intro j u hj
      obtain ⟨ad', e, hs⟩ := hr.src (by rw [length_cellsOf]; have := (cellsOf_at hj).1; omega)
      cases e
      exact hs j u hj
    refine wp_append_own w s x 44 ho B 5 i0 (.int .u8 0) 1 1 Tryd.underlying44 hi hz0 hz1 hz2 rfl (by decide) _ xs.length (cellsOf xs) hs hO.1 ad ys.length c (cellsOf ys) hx (by rw [length_cellsOf, Nat.mul_one]) hsrc (oneCell_cellsOf ys) (by unfold maxLen; omega) (by omega) hB ?_
    intro v' w' h1 h2 _
    obtain ⟨ao', c', rfl⟩ := own_shape h1
    have := h ao' c' w' ⟨by rw [List.length_append, cellsOf_append]; exact h1, hO.2.1.append hr.2.1, by simp; omega⟩ ((Below.refl _ _).grown h2 hB (fun j e => (hO.1.lt j e).1)) h2
    rw [List.length_append] at this
    exact hK _ _ this
theorem Rows2.below {w w' : World} {oo : Option Addr} {ls : List Part} {B : Nat} (h : Rows2 w oo ls) (hb : Below B w w') (hB : w.heap.size ≤ B) : Rows2 w' oo ls := by
  obtain ⟨h0, h1, h2⟩ := h
  refine ⟨h0, fun p hp => ⟨(h1 p hp).1.below hb hB, (h1 p hp).2⟩, fun hp => ?_⟩
  obtain ⟨b, off, e, hlt, hc⟩ := h2 hp
  refine ⟨b, off, e, by have := hb.size; omega, fun i hi => ?_⟩
  rw [hb.cell (by show b < B; omega)]
  exact hc i hi
theorem Rows2.drewN {w : World} {oo : Option Addr} {ls : List Part} (h : Rows2 w oo ls) (n : Nat) : Rows2 (w.drewN n) oo ls := h
theorem join_len (oo : Option Addr) (n cap : Nat) (ls : List Part) (w : World) (h : Rows2 w oo ls) (hn : ls.length = n) (hsum : (joinB ls).length ≤ 4294967296) :
    Calls Tryd.prog 111 #[.slice oo n cap] w fun e w' => ∃ ao c, e = .returned (.slice ao (joinB ls).length c) ∧ Own w' w.heap.size ao c (joinB ls) ∧ Below w.heap.size w w' := by subst hn; exact join_any oo cap ls w h hsum
theorem joinB_part (ls : List Part) (k : Nat) (hk : k < ls.length) : ((joinB ls).drop (joinB (ls.take k)).length).take ls[k].xs.length = ls[k].xs := by
  have e : joinB ls = joinB (ls.take k) ++ (ls[k].xs ++ joinB (ls.drop (k + 1))) := by
    unfold joinB
    conv => lhs; rw [← List.take_append_drop k ls, List.drop_eq_getElem_cons hk]
    simp only [List.map_append, List.flatten_append, List.map_cons, List.flatten_cons]
  rw [e, List.drop_left, List.take_left]
theorem Own.le {w : World} {B : Nat} {ao : Option Addr} {cap : Nat} {xs : List Int} (h : Own w B ao cap xs) : xs.length ≤ cap ∧ (ao = none ∧ xs = [] ∧ cap = 0 ∨ ∃ g, ao = some ⟨g, 0, none⟩) := by
  rcases h.1.2 with ⟨e, h0⟩ | ⟨g, c, cur, hv, _, _, h4, _⟩
  · simp only [Value.slice.injEq] at e
    exact ⟨by omega, .inl ⟨e.1, List.eq_nil_of_length_eq_zero h0, e.2.2⟩⟩
  · simp only [Value.slice.injEq] at hv
    exact ⟨by omega, .inr ⟨g, hv.1⟩⟩
/-- A part of a list of bytes, read where it lies. -/
theorem Row.part {w : World} {g m : Nat} {J X : List Int} (h : Row w (some ⟨g, 0, none⟩) J) (hX : (J.drop m).take X.length = X) (ao : Option Addr) (hao : 0 < X.length → ao = some ⟨g, m, none⟩) : Row w ao X := by
  obtain ⟨h0, h1, h2⟩ := h
  have hlen : X.length ≤ J.length - m := by
    have := congrArg List.length hX
    simp at this
    omega
  refine ⟨by omega, fun x hx => h1 x ?_, fun hp => ?_⟩
  · rw [← hX] at hx
    exact List.mem_of_mem_drop (List.mem_of_mem_take hx)
  · obtain ⟨b, off, e, hb, hc⟩ := h2 (by omega)
    simp only [Option.some.injEq, Addr.mk.injEq, and_true] at e
    obtain ⟨rfl, rfl⟩ := e
    refine ⟨g, m, hao hp, hb, fun i hi => ?_⟩
    have := hc (m + i) (by omega)
    rw [Nat.zero_add] at this
    rw [this]
    congr 2
    conv => rhs; rw [← hX]
    rw [List.getD_eq_getElem?_getD, List.getD_eq_getElem?_getD, List.getElem?_take, if_pos hi, List.getElem?_drop]
theorem fill_len (ao : Option Addr) (n cap : Nat) (xs : List Int) (S : Int) (w : World) (h : Row w ao xs) (hn : xs.length = n) (hS : S ≤ 2147483647) :
    Calls Tryd.prog 74 #[.slice ao n cap, .int .i64 S] w fun e w' => e = .returned (.slice (some ⟨w.heap.size, 0, none⟩) (max S.toNat n) (max S.toNat n)) ∧ Own w' w.heap.size (some ⟨w.heap.size, 0, none⟩) (max S.toNat n) (fillB xs S) ∧ Below w.heap.size w w' := by
  subst hn
  have h1 := fill_any ao cap xs S w h hS
  rw [length_fillB] at h1
  exact h1
theorem fill_head (xs : List Int) (S : Int) : ((fillB xs S).drop 0).take xs.length = xs := by
  unfold fillB grownB
  rw [List.drop_zero, List.take_left]
theorem fill_tail (xs : List Int) (S : Int) (m : Nat) (hm : m = max S.toNat xs.length - xs.length) : ((fillB xs S).drop xs.length).take (List.replicate m (0 : Int)).length = List.replicate m 0 := by
  subst hm
  unfold fillB grownB
  rw [List.drop_left, List.take_of_length_le (Nat.le_refl _)]
end Go.Proofs.YtjacenhblclkaaaDoor
