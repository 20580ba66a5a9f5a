/- Lemmas and contracts that the law stands on, joined: Mem. -/
import Derived.Test.YtjacenhblclkaaaDoorJoin1
import Derived.Test.YtjacenhblclkaaaDoorJoin2
import Derived.Deep.QuietTactic
import Derived.BigQuiet
/- What a list of bytes is in memory, and what the functions that only read one answer: cell.Get, cell.Zero, phoenixref.SameBytes, at every list of bytes. -/
namespace Go.Proofs.YtjacenhblclkaaaDoor
open Go.RowKit
set_option linter.unusedVariables false

/-- The slice that begins at 'ao' reads in w as the bytes xs. -/
def Row (w : World) (ao : Option Addr) (xs : List Int) : Prop :=
  xs.length ≤ 4294967296 ∧ Bytes xs ∧ (0 < xs.length → ∃ b off, ao = some ⟨b, off, none⟩ ∧ b < w.heap.size ∧ ∀ i, i < xs.length → w.cell? ⟨b, off + i, none⟩ = some (.int .u8 (xs.getD i 0)))

theorem Row.below {w w' : World} {B : Nat} {ao : Option Addr} {xs : List Int} (h : Row w ao xs) (hb : Below B w w') (hB : w.heap.size ≤ B) : Row w' ao xs := by
  obtain ⟨h0, h1, h2⟩ := h
  refine ⟨h0, h1, fun hp => ?_⟩
  obtain ⟨b, off, e, hlt, hc⟩ := h2 hp
  refine ⟨b, off, e, by have := hb.size; omega, fun i hi => ?_⟩
  rw [hb.cell (by show b < B; omega)]
  exact hc i hi
theorem row_nil (w : World) : Row w none [] := ⟨by simp, fun x hx => by simp at hx, fun h => by simp at h⟩
theorem over {B : Nat} {w w1 w2 : World} (h : Below B w w1) (h' : Below w1.heap.size w1 w2) (hB : B ≤ w1.heap.size) : Below B w w2 := h.trans (h'.mono hB)
theorem Row.drewN {w : World} (n : Nat) {ao : Option Addr} {xs : List Int} (h : Row w ao xs) : Row (w.drewN n) ao xs := h

set_option maxHeartbeats 1000000 in
theorem get_any (ao : Option Addr) (cap : Nat) (xs : List Int) (a s : Int) (w : World) (h : Row w ao xs) (ha : -9223372036854775808 ≤ a) (ha' : a ≤ 9223372036854775807) :
    Calls Tryd.prog 73 #[.slice ao xs.length cap, .int .i64 a, .int .i64 s] w fun e w' => e = .returned (.int .u64 (getB xs a (widthB s).toNat)) ∧ w' = w := by
  obtain ⟨h0, h1, h2⟩ := h
  have hw := widthB_bd s
  obtain ⟨q, hq⟩ : ∃ q, q = widthB s := ⟨_, rfl⟩
  rw [← hq] at hw ⊢
  have HQ : Hid (widthB s = q) := hq.symm
  clear hq
  go_enter Tryd.func73, Tryd.ntmps73
  go_wp2_with fail
  refine (width_any _ _).mono ?_
  rintro e w' ⟨rfl, rfl⟩
  rw [HQ.out]
  go_wp2_with fail
  go_loop [7, 8] (fun n i => ∃ k : Nat, (k : Int) ≤ q ∧ i = .int .i64 (q - 1 - k) ∧ n = .int .u64 (num (fun j => byteAt xs (a + (q - k) + j)) k)) (fun _ i => (intOf i + 1).toNat)
  case atStart => exact ⟨0, by omega, by go_num, rfl⟩
  case round =>
    obtain ⟨k, hk, rfl, rfl⟩ := hrel
    by_cases hlt : (k : Int) < q
    · have hbd := num_bd7 (f := fun j => byteAt xs (a + (q - k) + j)) (k := k) (fun j => h1.byte _) (by omega)
      have HS := get_step xs a q k
      obtain ⟨X, hX⟩ : ∃ X, X = num (fun j => byteAt xs (a + (q - k) + j)) k := ⟨_, rfl⟩
      rw [← hX] at hbd HS ⊢
      have HG : Hid (num (fun j => byteAt xs (a + (q - (k + 1 : Nat)) + j)) (k + 1) = byteAt xs (a + (q - 1 - k)) + 256 * X) := HS
      clear HS hX
      cases hh : hasB xs.length a (q - 1 - k)
      · have HY : Hid (byteAt xs (a + (q - 1 - k)) = 0) := by
          simp [hasB] at hh
          show byteAt xs _ = 0
          unfold byteAt
          rw [if_neg (by omega)]
        go_wp2_with fail
        refine (has_any _ _ _ _ _ _ h0 (by omega) (by omega) ha ha').mono ?_
        rintro e w' ⟨rfl, rfl⟩
        go_wp2_with fail
        go_round
        case rel => exact ⟨k + 1, by omega, by go_num, by rw [HG.out, HY.out]; go_num⟩
        case measure => simp [intOf]; omega
      · have hp : 0 ≤ a + (q - 1 - k) ∧ a + (q - 1 - k) < xs.length := by simp [hasB] at hh; omega
        obtain ⟨b, off, rfl, hb, hc⟩ := h2 (by omega)
        have hcp := hc (a + (q - 1 - k)).toNat (by omega)
        have hby := h1.getD (a + (q - 1 - k)).toNat
        have HY : byteAt xs (a + (q - 1 - k)) = xs.getD (a + (q - 1 - k)).toNat 0 := by unfold byteAt; rw [if_pos hp]
        obtain ⟨y, hy⟩ : ∃ y, y = xs.getD (a + (q - 1 - k)).toNat 0 := ⟨_, rfl⟩
        rw [← hy] at hcp hby HY
        have HZ : Hid (byteAt xs (a + (q - 1 - k)) = y) := HY
        clear hy hc h2 HY
        go_wp2_with fail
        refine (has_any _ _ _ _ _ _ h0 (by omega) (by omega) ha ha').mono ?_
        rintro e w' ⟨rfl, rfl⟩
        go_wp2_with fail
        go_round
        case rel => exact ⟨k + 1, by omega, by go_num, by rw [HG.out, HZ.out, or_byte X y hbd.1 hbd.2 hby.1 hby.2]⟩
        case measure => simp [intOf]; omega
    · go_wp2_with fail
      go_ret
      refine ⟨ret_int ?_, rfl⟩
      have hk' : q = k := by omega
      subst hk'
      unfold getB
      simp

/-- All bytes are 0. -/
def zeroB (xs : List Int) : Bool := xs.all (· == 0)
theorem zeroB_false {xs : List Int} {i : Nat} (hi : i < xs.length) (h : xs.getD i 0 ≠ 0) : zeroB xs = false := by
  unfold zeroB
  rw [List.all_eq_false]
  refine ⟨xs[i], List.getElem_mem hi, ?_⟩
  rw [List.getD_eq_getElem?_getD, List.getElem?_eq_getElem hi] at h
  simpa using h
theorem zeroB_true {xs : List Int} (h : ∀ i, i < xs.length → xs.getD i 0 = 0) : zeroB xs = true := by
  unfold zeroB
  rw [List.all_eq_true]
  intro x hx
  obtain ⟨i, hi, rfl⟩ := List.getElem_of_mem hx
  have := h i hi
  rw [List.getD_eq_getElem?_getD, List.getElem?_eq_getElem hi] at this
  simpa using this

/-- Two lists of bytes are the same. -/
def sameB (xs ys : List Int) : Bool := decide (xs = ys)
theorem sameB_true {xs ys : List Int} (h : xs = ys) : sameB xs ys = true := by simp [sameB, h]
theorem sameB_of {xs ys : List Int} (hl : xs.length = ys.length) (h : ∀ i, i < xs.length → xs.getD i 0 = ys.getD i 0) : sameB xs ys = true := by
  refine sameB_true (List.ext_getElem hl fun i h1 h2 => ?_)
  have := h i h1
  rw [List.getD_eq_getElem?_getD, List.getD_eq_getElem?_getD, List.getElem?_eq_getElem h1, List.getElem?_eq_getElem h2] at this
  exact this
theorem sameB_not {xs ys : List Int} {i : Nat} (h : xs.getD i 0 ≠ ys.getD i 0) : sameB xs ys = false := by
  unfold sameB
  rw [decide_eq_false_iff_not]
  intro e
  exact h (by rw [e])

end Go.Proofs.YtjacenhblclkaaaDoor
