
/- What the functions that make a new list of bytes answer: cell.grown, cell.Put, cell.Fill, phoenixref.Bytes and the document's own Put and Fill, at every list of bytes; nothing that was there is written. -/
import Derived.Test.YtjdfmpdkfbhdkaaDoorMem
import Derived.Laws.CopyOwn
import Derived.Laws.AppendOwnNone
namespace Go.Proofs.YtjdfmpdkfbhdkaaDoor
open Go.RowKit
set_option linter.unusedVariables false

theorem Tryd.info5 : (Tryd.prog.info? 5).map (fun i => (i.zero, i.size, i.bytes)) = some (some (.int .u8 0), 1, 1) := by kernel_rfl
theorem Tryd.size5 : (Tryd.prog.info? 5).map (·.size) = some 1 := by kernel_rfl

/-- xs as cells. -/
def cellsOf (xs : List Int) : List Value := xs.map (Value.int .u8)
theorem length_cellsOf (xs : List Int) : (cellsOf xs).length = xs.length := by simp [cellsOf]
theorem oneCell_cellsOf (xs : List Int) : ∀ u ∈ cellsOf xs, u.oneCell' = true := ints_oneCell _ _
theorem cellsOf_at {xs : List Int} {j : Nat} {v : Value} (h : (cellsOf xs)[j]? = some v) : j < xs.length ∧ v = .int .u8 (xs.getD j 0) := by
  have hj : j < xs.length := by
    have := (List.getElem?_eq_some_iff.1 h).1
    simpa [cellsOf] using this
  refine ⟨hj, ?_⟩
  simp [cellsOf, hj] at h
  rw [← h, List.getD_eq_getElem?_getD, List.getElem?_eq_getElem hj]
  rfl
theorem cellsOf_getD {xs : List Int} {j : Nat} (h : j < xs.length) : (cellsOf xs)[j]? = some (.int .u8 (xs.getD j 0)) := by
  simp [cellsOf, h]

/-- The slice that begins at 'ao' owns the bytes xs: it lies in a block from 'B' on. -/
def Own (w : World) (B : Nat) (ao : Option Addr) (cap : Nat) (xs : List Int) : Prop :=
  w.ownsRow B 5 1 (.slice ao xs.length cap) xs.length (cellsOf xs) ∧ Bytes xs ∧ xs.length ≤ 4294967296

theorem Own.row {w : World} {B : Nat} {ao : Option Addr} {cap : Nat} {xs : List Int} (h : Own w B ao cap xs) : Row w ao xs := by
  obtain ⟨h1, h2, h3⟩ := h
  refine ⟨h3, h2, fun hp => ?_⟩
  have h1' := h1
  rcases h1.2 with ⟨e, h0⟩ | ⟨g, c, cur, hv, hg, hh, h4, h5, h6, h7⟩
  · omega
  · simp only [Value.slice.injEq] at hv
    obtain ⟨rfl, _, rfl⟩ := hv
    refine ⟨g, 0, rfl, ?_, fun i hi => ?_⟩
    · by_cases hlt : g < w.heap.size
      · exact hlt
      · rw [Array.getElem?_eq_none (by omega)] at hh; simp at hh
    · rw [Nat.zero_add, h1'.cellAt i (by omega)]
      exact cellsOf_getD hi
theorem Own.below {w w' : World} {B C : Nat} {ao : Option Addr} {cap : Nat} {xs : List Int} (h : Own w B ao cap xs) (hb : Below C w w') (hC : w.heap.size ≤ C) : Own w' B ao cap xs := by
  obtain ⟨⟨h0, h1⟩, h2, h3⟩ := h
  refine ⟨⟨h0, ?_⟩, h2, h3⟩
  rcases h1 with h1 | ⟨g, c, cur, hv, hg, hh, r⟩
  · exact .inl h1
  · refine .inr ⟨g, c, cur, hv, hg, ?_, r⟩
    have hlt : g < w.heap.size := by
      by_cases hlt : g < w.heap.size
      · exact hlt
      · rw [Array.getElem?_eq_none (by omega)] at hh; simp at hh
    rw [hb.block g (by omega)]
    exact hh
theorem Own.mono {w : World} {B C : Nat} {ao : Option Addr} {cap : Nat} {xs : List Int} (h : Own w B ao cap xs) (hC : C ≤ B) : Own w C ao cap xs := by
  obtain ⟨⟨h0, h1⟩, h2, h3⟩ := h
  refine ⟨⟨h0, ?_⟩, h2, h3⟩
  rcases h1 with h1 | ⟨g, c, cur, hv, hg, r⟩
  · exact .inl h1
  · exact .inr ⟨g, c, cur, hv, by omega, r⟩
theorem Own.drewN {w : World} {B : Nat} {ao : Option Addr} {cap : Nat} {xs : List Int} (h : Own w B ao cap xs) (n : Nat) : Own (w.drewN n) B ao cap xs := h

/-- What cell.grown answers. -/
def grownB (xs : List Int) (n : Nat) : List Int := xs ++ List.replicate (n - xs.length) 0
theorem length_grownB {xs : List Int} {n : Nat} (h : xs.length ≤ n) : (grownB xs n).length = n := by simp [grownB]; omega
theorem Bytes.grownB {xs : List Int} (h : Bytes xs) (n : Nat) : Bytes (grownB xs n) := by
  intro x hx
  rcases List.mem_append.1 hx with h1 | h1
  · exact h x h1
  · rw [(List.mem_replicate.1 h1).2]; omega

theorem splice_grown (xs : List Int) (n : Nat) (h : xs.length ≤ n) : splice (cellsOf (List.replicate n 0)) 0 (cellsOf xs) = cellsOf (grownB xs n) := by
  unfold splice cellsOf grownB
  simp
theorem row_of_made {w : World} {B n : Nat} (h : w.ownsRow B 5 1 (.slice (some ⟨B, 0, none⟩) n n) n (madeCells (Value.int .u8 0).cells (n * 1)).toList) :
    w.heap[B]? = some (.cells (cellsOf (List.replicate n 0)).toArray 5 (0, 0)) := by
  rcases h.2 with ⟨e, _⟩ | ⟨g, c, cur, hv, hg, hh, h4, h5, h6, h7⟩
  · simp at e
  · simp only [Value.slice.injEq, Option.some.injEq, Addr.mk.injEq, and_true, true_and] at hv
    obtain ⟨rfl, rfl⟩ := hv
    rw [hh]
    have e1 : cur.toList = cellsOf (List.replicate n 0) := by
      rw [List.take_of_length_le (by simp; omega)] at h7
      rw [h7]
      have e2 : (Value.int .u8 0).cells = #[Value.int .u8 0] := rfl
      rw [e2, Nat.mul_one, toList_madeCells_one]
      simp [cellsOf]
    rw [← e1]
theorem own_of_row {w : World} {B : Nat} {xs : List Int} (hh : w.heap[B]? = some (.cells (cellsOf xs).toArray 5 (0, 0))) (hb : Bytes xs) (hl : xs.length ≤ 4294967296) : Own w B (some ⟨B, 0, none⟩) xs.length xs := by
  refine ⟨⟨by simp [length_cellsOf], .inr ⟨B, xs.length, _, rfl, Nat.le_refl _, hh, Nat.le_refl _, by unfold maxLen; omega, by simp [length_cellsOf], ?_⟩⟩, hb, hl⟩
  rw [List.take_of_length_le (by simp [length_cellsOf])]

theorem Row.src {w : World} {ao : Option Addr} {xs : List Int} (h : Row w ao xs) (hp : 0 < (cellsOf xs).length) : ∃ ad, ao = some ad ∧ ∀ j v, (cellsOf xs)[j]? = some v → w.cell? (ad.add j) = some v := by
  obtain ⟨_, _, h2⟩ := h
  rw [length_cellsOf] at hp
  obtain ⟨b, off, e, _, hc⟩ := h2 hp
  refine ⟨_, e, fun j v hj => ?_⟩
  obtain ⟨hlt, rfl⟩ := cellsOf_at hj
  rw [Addr.add_lit]
  exact hc j hlt

set_option maxHeartbeats 1000000 in
theorem grown_any (ao : Option Addr) (cap : Nat) (xs : List Int) (S : Int) (n : Nat) (w : World) (h : Row w ao xs) (hS : S = n) (hn : xs.length ≤ n) (hb : n ≤ 4294967296) :
    Calls Tryd.prog 32 #[.slice ao xs.length cap, .int .i64 S] w fun e w' => e = .returned (.slice (some ⟨w.heap.size, 0, none⟩) n n) ∧ Own w' w.heap.size (some ⟨w.heap.size, 0, none⟩) n (grownB xs n) ∧ Below w.heap.size w w' := by
  obtain ⟨i0, hi, hz0, hz1, hz2⟩ := info_parts Tryd.info5
  have HS : Hid (S = n) := hS
  have HR : Hid (Row w ao xs) := h
  obtain ⟨h0, h1, h2⟩ := h
  clear hS h2
  go_enter Tryd.func32, Tryd.ntmps32
  go_wp2_with (first | (at_make; refine wpList_make_full w rfl (.tmp 6) (.tmp 6) 24 rfl w.heap.size 5 i0 (.int .u8 0) 1 Tryd.underlying24 hi hz0 hz1 .i64 .i64 S S n rfl rfl HS.out HS.out (by rw [hz2]; omega) (by unfold maxLen; omega) (Nat.le_refl _) ?_; intro w1 hown hgr; have HB : Hid (Below w.heap.size w w1) := (Below.refl _ _).grown hgr (Nat.le_refl _) (by simp); have HH : Hid (w1.heap[w.heap.size]? = some (.cells (cellsOf (List.replicate n 0)).toArray 5 (0, 0))) := row_of_made hown; clear hown hgr) | (refine wpList_copy_splice rfl (.tmp 8) (.tmp 9) 24 24 rfl 5 Tryd.underlying24 Tryd.size5 (some ⟨w.heap.size, 0, none⟩) ao n n xs.length cap rfl rfl w.heap.size 0 (cellsOf (List.replicate n 0)) 5 HH.out (cellsOf xs) (by rw [length_cellsOf]; exact (Nat.min_eq_left hn).symm) (fun hp => ⟨rfl, (HR.out.below HB.out (Nat.le_refl _)).src hp⟩) (by simp [length_cellsOf]; exact hn) (oneCell_cellsOf xs) w.heap.size w HB.out (Nat.le_refl _) ?_; intro w2 HG hB2; have HC : Hid (Below w.heap.size w w2) := hB2; clear hB2))
  go_ret
  refine ⟨rfl, ?_, HC.out⟩
  have e := HG.out
  rw [splice_grown xs n hn] at e
  have := own_of_row e (h1.grownB n) (by rw [length_grownB hn]; exact hb)
  rw [length_grownB hn] at this
  exact this

theorem Own.stored {w : World} {B g cap : Nat} {xs : List Int} (h : Own w B (some ⟨g, 0, none⟩) cap xs) (j : Nat) (x : Int) (h0 : 0 ≤ x) (h1 : x ≤ 255) : Own (w.setCell ⟨g, j, none⟩ (.int .u8 x)) B (some ⟨g, 0, none⟩) cap (xs.set j x) := by
  obtain ⟨h2, h3, h4⟩ := h
  have e := (h2.stored j (.int .u8 x)).1
  have e2 : cellsOf (xs.set j x) = (cellsOf xs).set j (.int .u8 x) := by simp [cellsOf, List.map_set]
  refine ⟨?_, ?_, by simpa using h4⟩
  · rw [e2, List.length_set]; exact e
  · intro y hy
    rcases List.mem_or_eq_of_mem_set hy with h5 | h5
    · exact h3 y h5
    · subst h5; exact ⟨h0, h1⟩
theorem Own.cell {w : World} {B g cap : Nat} {xs : List Int} (h : Own w B (some ⟨g, 0, none⟩) cap xs) (j : Nat) (hj : j < xs.length) : w.cell? ⟨g, j, none⟩ = some (.int .u8 (xs.getD j 0)) := by
  rw [h.1.cellAt j (by omega)]
  exact cellsOf_getD hj
theorem Own.frozen {w : World} {B g cap : Nat} {xs : List Int} (h : Own w B (some ⟨g, 0, none⟩) cap xs) (j : Nat) : w.frozen? ⟨g, j, none⟩ = false := h.1.frozenAt j

theorem div_pow_bd (n : Int) (k : Nat) (h0 : 0 ≤ n) (h1 : n ≤ 18446744073709551615) : 0 ≤ n / 256 ^ k ∧ n / 256 ^ k ≤ 18446744073709551615 := by
  have hp : (0 : Int) < 256 ^ k := Int.pow_pos (by decide)
  refine ⟨Int.ediv_nonneg h0 (by omega), ?_⟩
  have : n / 256 ^ k ≤ n := Int.ediv_le_self _ h0
  omega
theorem div_pow_succ (n : Int) (k : Nat) : n / 256 ^ (k + 1) = n / 256 ^ k / 256 := by
  rw [Int.pow_succ, Int.ediv_ediv_of_nonneg (Int.le_of_lt (Int.pow_pos (by decide)))]

set_option maxHeartbeats 1000000 in
theorem put_any (ao : Option Addr) (cap : Nat) (xs : List Int) (a s n : Int) (w : World) (h : Row w ao xs) (ha : -9223372036854775808 ≤ a) (ha' : a ≤ 9223372036854775807) (hn : 0 ≤ n) (hn' : n ≤ 18446744073709551615) :
    Calls Tryd.prog 24 #[.slice ao xs.length cap, .int .i64 a, .int .i64 s, .int .u64 n] w fun e w' => e = .returned (.slice (some ⟨w.heap.size, 0, none⟩) xs.length xs.length) ∧ Own w' w.heap.size (some ⟨w.heap.size, 0, none⟩) xs.length (putB xs a n (widthB s).toNat) ∧ Below w.heap.size w w' := by
  have HR : Hid (Row w ao xs) := h
  obtain ⟨h0, h1, h2⟩ := h
  clear h2
  have hw := widthB_bd s
  obtain ⟨q, hq⟩ : ∃ q, q = widthB s := ⟨_, rfl⟩
  rw [← hq] at hw ⊢
  have HQ : Hid (widthB s = q) := hq.symm
  clear hq
  go_enter Tryd.func24, Tryd.ntmps24
  go_wp2_with fail
  refine (grown_any ao cap xs _ xs.length _ HR.out rfl (Nat.le_refl _) h0).mono ?_
  rintro e w1 ⟨rfl, hown, hbel⟩
  have hg : grownB xs xs.length = xs := by simp [grownB]
  rw [hg] at hown
  have HO : Hid (Own w1 w.heap.size (some ⟨w.heap.size, 0, none⟩) xs.length xs) := hown
  have HB : Hid (Below w.heap.size w w1) := hbel
  clear hg hown hbel
  go_wp2_with fail
  refine (width_any _ _).mono ?_
  rintro e w' ⟨rfl, rfl⟩
  rw [HQ.out]
  go_wp2_with fail
  go_loopw [3, 17] (fun nv c wr => ∃ k : Nat, (k : Int) ≤ q ∧ c = .int .i64 k ∧ nv = .int .u64 (n / 256 ^ k) ∧ Own wr w.heap.size (some ⟨w.heap.size, 0, none⟩) xs.length (putB xs a n k) ∧ Below w.heap.size w wr) (fun _ c _ => (q - intOf c).toNat)
  case atStart => exact ⟨0, by omega, rfl, by simp, HO.out, HB.out⟩
  case round =>
    obtain ⟨k, hk, rfl, rfl, hown, hbel⟩ := hrel
    have HO' : Hid (Own wr w.heap.size (some ⟨w.heap.size, 0, none⟩) xs.length (putB xs a n k)) := hown
    have HB' : Hid (Below w.heap.size w wr) := hbel
    by_cases hlt : (k : Int) < q
    · have hbd := div_pow_bd n k hn hn'
      have hst := div_pow_succ n k
      have hby : byteOf n k = n / 256 ^ k % 256 := rfl
      obtain ⟨X, hX⟩ : ∃ X, X = n / 256 ^ k := ⟨_, rfl⟩
      rw [← hX] at hbd hst hby ⊢
      have HX : Hid (n / 256 ^ (k + 1) = X / 256) := hst
      have HY : Hid (byteOf n k = X % 256) := hby
      clear hst hby hX
      cases hh : hasB xs.length a k
      · have HP : Hid (putB xs a n (k + 1) = putB xs a n k) := by
          show putB xs a n (k + 1) = putB xs a n k
          simp [hasB] at hh
          rw [putB, put1, if_neg (by rw [length_putB]; omega)]
        clear hown hbel
        go_wp2_with fail
        refine (has_any _ _ _ _ _ _ h0 (by omega) (by omega) ha ha').mono ?_
        rintro e w' ⟨rfl, rfl⟩
        go_wp2_with fail
        go_roundw
        case rel => exact ⟨k + 1, by omega, by go_num, by rw [HX.out], by rw [HP.out]; exact HO'.out, HB'.out⟩
        case measure => simp [intOf]; omega
      · have hp : 0 ≤ a + k ∧ a + k < xs.length := by simp [hasB] at hh; omega
        have hcell := hown.cell (a + k).toNat (by rw [length_putB]; omega)
        have hfr := hown.frozen (a + k).toNat
        have HP : Hid (putB xs a n (k + 1) = (putB xs a n k).set (a + k).toNat (X % 256)) := by
          show putB xs a n (k + 1) = _
          rw [putB, put1, if_pos (by rw [length_putB]; omega), HY.out]
        obtain ⟨y, hy⟩ : ∃ y, y = (putB xs a n k).getD (a + k).toNat 0 := ⟨_, rfl⟩
        rw [← hy] at hcell
        clear hown hbel hy
        go_wp2_with fail
        refine (has_any _ _ _ _ _ _ h0 (by omega) (by omega) ha ha').mono ?_
        rintro e w' ⟨rfl, rfl⟩
        go_wp2_with fail
        go_roundw
        case rel => exact ⟨k + 1, by omega, by go_num, by rw [HX.out], by rw [HP.out]; exact HO'.out.stored _ _ (by omega) (by omega), HB'.out.setCell (Nat.le_refl _) _⟩
        case measure => simp [intOf]; omega
    · go_wp2_with fail
      go_ret
      have hk' : q.toNat = k := by omega
      exact ⟨rfl, by rw [hk']; exact HO'.out, HB'.out⟩

/-- What cell.Fill answers, for a size that a call may answer. -/
def fillB (xs : List Int) (S : Int) : List Int := grownB xs (max S.toNat xs.length)
theorem length_fillB (xs : List Int) (S : Int) : (fillB xs S).length = max S.toNat xs.length := length_grownB (by omega)
set_option maxHeartbeats 1000000 in
theorem fill_any (ao : Option Addr) (cap : Nat) (xs : List Int) (S : Int) (w : World) (h : Row w ao xs) (hS : S ≤ 2147483647) :
    Calls Tryd.prog 22 #[.slice ao xs.length cap, .int .i64 S] w fun e w' => e = .returned (.slice (some ⟨w.heap.size, 0, none⟩) (fillB xs S).length (fillB xs S).length) ∧ Own w' w.heap.size (some ⟨w.heap.size, 0, none⟩) (fillB xs S).length (fillB xs S) ∧ Below w.heap.size w w' := by
  have HR : Hid (Row w ao xs) := h
  obtain ⟨h0, h1, h2⟩ := h
  clear h2
  have hd : decide (2147483647 < S) = false := by simp; omega
  rw [length_fillB]
  by_cases hlt : S < xs.length
  all_goals
    go_enter Tryd.func22, Tryd.ntmps22
    go_wp2_with fail
    refine (grown_any ao cap xs _ (max S.toNat xs.length) _ HR.out (by omega) (by omega) (by omega)).mono ?_
    rintro e w1 ⟨rfl, hown, hbel⟩
    have HO : Hid (Own w1 w.heap.size (some ⟨w.heap.size, 0, none⟩) (max S.toNat xs.length) (fillB xs S)) := hown
    have HB : Hid (Below w.heap.size w w1) := hbel
    clear hown hbel
    go_wp2_with fail
    go_ret
    exact ⟨rfl, HO.out, HB.out⟩
end Go.Proofs.YtjdfmpdkfbhdkaaDoor
