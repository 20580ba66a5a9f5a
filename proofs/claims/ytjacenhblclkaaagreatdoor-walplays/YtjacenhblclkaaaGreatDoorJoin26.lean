/- Lemmas and contracts that the law stands on, joined: RecReadRef. -/
import Derived.Test.YtjacenhblclkaaaGreatDoorJoin7
import Derived.Test.YtjacenhblclkaaaGreatDoorJoin25
/- What the document's own ReadRec answers: the same as rec.Read, the error as a number. -/
namespace Go.Proofs.YtjacenhblclkaaaGreatDoor
open Go.RowKit
set_option linter.unusedVariables false

theorem refGet_at (ao : Option Addr) (n cap : Nat) (xs : List Int) (a s : Int) (k : Nat) (g : Int) (w : World) (h : Row w ao xs) (hn : xs.length = n) (ha : -9223372036854775808 ≤ a) (ha' : a ≤ 9223372036854775807) (hg : getB xs a (widthB s).toNat = g) :
    Calls Tryz.prog 127 #[.slice ao n cap, .int .i64 a, .int .i64 s] w fun e w' => e = .returned (.int .u64 g) ∧ w' = w := by subst hn; subst hg; exact refGet_any ao cap xs a s w h ha ha'
set_option maxHeartbeats 1000000 in
theorem readRec_short (ao : Option Addr) (n cap : Nat) (w : World) (hn : n ≠ 40) :
    Calls Tryz.prog 128 #[.slice ao n cap] w fun e w' => e = .returned (.tuple #[noRec.val, .int .i64 103]) ∧ Below w.heap.size w w' := by
  have hne : ((n : Int) != 40) = true := by simp; omega
  clear hn
  go_enter Tryz.func128, Tryz.ntmps128
  go_wp2_with fail
  exact bodyPost_ret (v := .tuple #[.agg #[.int .i64 0, .int .i64 0, .int .i64 0, .int .i64 0, .int .i64 0, .int .i64 0, .bool false, .bool false, .int .i64 0, .int .i64 0], .int .i64 103]) (by simp [results, Tryz.results128, go_sem]) rfl ⟨rfl, below_box _ _⟩
theorem and_one8 (m : Int) (h0 : 0 ≤ m) (h1 : m ≤ 255) : (bits .and .u8 m 1 == 1) = decide (m % 2 = 1) := by
  have hk : ∀ n : Fin 256, (bits .and .u8 ((n : Nat) : Int) 1 == 1) = decide (((n : Nat) : Int) % 2 = 1) := by decide +kernel
  have := hk ⟨m.toNat, by omega⟩
  rwa [show (((⟨m.toNat, by omega⟩ : Fin 256) : Nat) : Int) = m by simp; omega] at this
theorem and_two8 (m : Int) (h0 : 0 ≤ m) (h1 : m ≤ 255) : (bits .and .u8 m 2 == 2) = decide (m / 2 % 2 = 1) := by
  have hk : ∀ n : Fin 256, (bits .and .u8 ((n : Nat) : Int) 2 == 2) = decide (((n : Nat) : Int) / 2 % 2 = 1) := by decide +kernel
  have := hk ⟨m.toNat, by omega⟩
  rwa [show (((⟨m.toNat, by omega⟩ : Fin 256) : Nat) : Int) = m by simp; omega] at this
theorem getB_one (xs : List Int) (i : Nat) : getB xs i 1 = xs.getD i 0 := by
  rw [← byteAt_nat]
  unfold getB
  simp [num]
/-- A fact that is handed on, and not looked at. -/
structure Later (P : Prop) : Prop where
  out : P
theorem dup {P Q : Prop} (h : P) (k : Later P → Q) : Q := k ⟨h⟩
theorem wrap_in (n : Int) (h : 0 ≤ n ∧ n ≤ 9223372036854775807) : IntKind.i64.wrap n = n := by rw [IntWalk.i64_left]; exact IntWalk.wrap64_in n ⟨by omega, h.2⟩
theorem i64_left2 (n : Int) : IntKind.i64.wrap n = wrap64 n := IntWalk.i64_left n
theorem val_inj {r : R} {a b c d e f : Int} {g h : Bool} {i j : Int} (hv : r.val = .agg #[.int .i64 a, .int .i64 b, .int .i64 c, .int .i64 d, .int .i64 e, .int .i64 f, .bool g, .bool h, .int .i64 i, .int .i64 j]) : r = ⟨a, b, c, d, e, f, g, h, i, j⟩ := by
  obtain ⟨a1, b1, c1, d1, e1, f1, g1, h1, i1, j1⟩ := r
  simp [R.val] at hv
  obtain ⟨rfl, rfl, rfl, rfl, rfl, rfl, rfl, rfl, rfl, rfl⟩ := hv
  rfl
set_option maxHeartbeats 16000000 in
set_option maxRecDepth 100000 in
theorem readRec_40 (ao : Option Addr) (cap : Nat) (xs : List Int) (w : World) (h : Row w ao xs) (hn : xs.length = 40) :
    Calls Tryz.prog 128 #[.slice ao 40 cap] w fun e w' => ((isRec xs = true ∧ e = .returned (.tuple #[(partsR xs).val, .int .i64 0])) ∨ (isRec xs = false ∧ e = .returned (.tuple #[noRec.val, .int .i64 104]))) ∧ Below w.heap.size w w' := by
  have HP : Hid (∀ y0 y1 g2 g4 g8 g12 g16 g24 g32 : Int, xs.getD 0 0 = y0 → xs.getD 1 0 = y1 → getB xs 2 2 = g2 → getB xs 4 2 = g4 → getB xs 8 4 = g8 → getB xs 12 4 = g12 → getB xs 16 4 = g16 → getB xs 24 8 = g24 → getB xs 32 8 = g32 → (partsR xs).val = .agg #[.int .i64 y0, .int .i64 g2, .int .i64 g4, .int .i64 g8, .int .i64 g12, .int .i64 g16, .bool (bits .and .u8 y1 1 == 1), .bool (bits .and .u8 y1 2 == 2), .int .i64 (wrap64 g24), .int .i64 (wrap64 g32)]) := by
    intro y0 y1 g2 g4 g8 g12 g16 g24 g32 h0 h1 h2 h4 h8 h12 h16 h24 h32
    have b1 := h.2.1.getD 1
    have b24 := getB_bd xs h.2.1 24 8 (by omega)
    have b32 := getB_bd xs h.2.1 32 8 (by omega)
    rw [h1] at b1
    rw [h24] at b24
    rw [h32] at b32
    have e0 : getB xs 0 1 = y0 := (getB_one xs 0).trans h0
    have e1 : getB xs 1 1 = y1 := (getB_one xs 1).trans h1
    unfold partsR R.val
    simp only
    rw [e0, e1, h2, h4, h8, h12, h16, h24, h32, and_one8 y1 b1.1 b1.2, and_two8 y1 b1.1 b1.2, i64_wrap g24 b24, i64_wrap g32 b32]
  have HB : Hid (Bytes xs) := h.2.1
  have HB0 := hide (below_box w (zeroCells))
  have HRow := hide (h.below HB0.out (Nat.le_refl _))
  have HZ := hide (zero_lies w)
  unfold zeroCells at HB0 HRow HZ
  have HN := hide hn
  obtain ⟨b, off, rfl, hbl, hc⟩ := h.2.2 (by omega)
  have q0 := h.2.1.getD 0
  have q1 := h.2.1.getD 1
  have c0 := hc 0 (by omega)
  have c1 := hc 1 (by omega)
  rw [Nat.add_zero] at c0
  have q2 := getB_lt xs HB.out 2 2
  have q4 := getB_lt xs HB.out 4 2
  have q8 := getB_lt xs HB.out 8 4
  have q12 := getB_lt xs HB.out 12 4
  have q16 := getB_lt xs HB.out 16 4
  have H := HP.out _ _ _ _ _ _ _ _ _ rfl rfl rfl rfl rfl rfl rfl rfl rfl
  have HH := hide H
  clear H HP
  obtain ⟨y0, hy0⟩ : ∃ y, y = xs.getD 0 0 := ⟨_, rfl⟩
  obtain ⟨y1, hy1⟩ : ∃ y, y = xs.getD 1 0 := ⟨_, rfl⟩
  obtain ⟨g2, e2⟩ : ∃ g, g = getB xs 2 2 := ⟨_, rfl⟩
  obtain ⟨g4, e4⟩ : ∃ g, g = getB xs 4 2 := ⟨_, rfl⟩
  obtain ⟨g8, e8⟩ : ∃ g, g = getB xs 8 4 := ⟨_, rfl⟩
  obtain ⟨g12, e12⟩ : ∃ g, g = getB xs 12 4 := ⟨_, rfl⟩
  obtain ⟨g16, e16⟩ : ∃ g, g = getB xs 16 4 := ⟨_, rfl⟩
  obtain ⟨g24, e24⟩ : ∃ g, g = getB xs 24 8 := ⟨_, rfl⟩
  obtain ⟨g32, e32⟩ : ∃ g, g = getB xs 32 8 := ⟨_, rfl⟩
  rw [← hy0, ← hy1, ← e2, ← e4, ← e8, ← e12, ← e16, ← e24, ← e32] at HH
  rw [← hy0] at c0 q0
  rw [← hy1] at c1 q1
  rw [← e2] at q2; rw [← e4] at q4; rw [← e8] at q8; rw [← e12] at q12; rw [← e16] at q16
  have E2 : Hid (getB xs 2 (widthB 2).toNat = g2) := e2.symm
  have E4 : Hid (getB xs 4 (widthB 2).toNat = g4) := e4.symm
  have E8 : Hid (getB xs 8 (widthB 4).toNat = g8) := e8.symm
  have E12 : Hid (getB xs 12 (widthB 4).toNat = g12) := e12.symm
  have E16 : Hid (getB xs 16 (widthB 4).toNat = g16) := e16.symm
  have E24 : Hid (getB xs 24 (widthB 8).toNat = g24) := e24.symm
  have E32 : Hid (getB xs 32 (widthB 8).toNat = g32) := e32.symm
  clear e2 e4 e8 e12 e16 e24 e32
  obtain ⟨q0a, q0b⟩ := q0; obtain ⟨q1a, q1b⟩ := q1; obtain ⟨q2a, q2b⟩ := q2; obtain ⟨q4a, q4b⟩ := q4; obtain ⟨q8a, q8b⟩ := q8; obtain ⟨q12a, q12b⟩ := q12; obtain ⟨q16a, q16b⟩ := q16
  have p2 : (256 : Int) ^ 2 = 65536 := by decide
  have p4 : (256 : Int) ^ 4 = 4294967296 := by decide
  rw [p2] at q2b q4b; rw [p4] at q8b q12b q16b
  clear p2 p4
  obtain ⟨W, hW⟩ : ∃ W, W = w.alloc (.cells #[.int .i64 0, .int .i64 0, .int .i64 0, .int .i64 0, .int .i64 0, .int .i64 0, .bool false, .bool false, .int .i64 0, .int .i64 0] 37) := ⟨_, rfl⟩
  rw [← hW] at HB0 HRow HZ
  have w0 : W.cell? ⟨b, off, none⟩ = some (.int .u8 y0) := (HB0.out.cell (show b < w.heap.size from hbl)).trans c0
  have w1 : W.cell? ⟨b, off + 1, none⟩ = some (.int .u8 y1) := (HB0.out.cell (show b < w.heap.size from hbl)).trans c1
  have HW := hide hW
  have HRA : Hid (∀ x, Below W.heap.size W x → Row x (some ⟨b, off, none⟩) xs) := fun x hb => HRow.out.below hb (Nat.le_refl _)
  have hne := World.new_ne W _ w0
  have hne1 := World.new_ne W _ w1
  clear h hn hc c0 c1 hW hy0 hy1 hbl
  obtain ⟨r, hr⟩ : ∃ r, r = partsR xs := ⟨_, rfl⟩
  have HR := hide hr
  rw [← hr] at HH ⊢
  clear hr
  go_enter Tryz.func128, Tryz.ntmps128
  go_wp2_with fail
  rw [← HW.out]
  apply dup
  case k =>
    intro TAIL
    go_region_held3 (fun w' => w'.cell? ⟨b, off, none⟩ = some (.int .u8 y0) ∧ w'.cell? ⟨b, off + 1, none⟩ = some (.int .u8 y1)) (first | go_keep | (refine ⟨?_, ?_⟩ <;> assumption))
      (first
        | (go_at_call 127; refine (refGet_at _ _ _ xs _ _ 0 _ _ (HRA.out _ (by first | exact below_drew (Below.refl _ _) | exact below_drew ((Below.refl _ _).alloc (Nat.le_refl _) _) | exact Below.refl _ _)) HN.out (by omega) (by omega) (by first | exact E2.out | exact E4.out | exact E8.out | exact E12.out | exact E16.out | exact E24.out | exact E32.out)).mono ?_; rintro e w2 ⟨rfl, rfl⟩))
    all_goals exact TAIL.out
  case h =>
    rw [wrap_in y0 (by omega), wrap_in g2 (by omega), wrap_in g4 (by omega), wrap_in g8 (by omega), wrap_in g12 (by omega), wrap_in g16 (by omega), i64_left2 g24, i64_left2 g32]
    obtain ⟨hA, ehA⟩ : ∃ hA, hA = (bits .and .u8 y1 1 == 1) := ⟨_, rfl⟩
    obtain ⟨hB, ehB⟩ : ∃ hB, hB = (bits .and .u8 y1 2 == 2) := ⟨_, rfl⟩
    obtain ⟨v24, e24⟩ : ∃ v, v = wrap64 g24 := ⟨_, rfl⟩
    obtain ⟨v32, e32⟩ : ∃ v, v = wrap64 g32 := ⟨_, rfl⟩
    rw [← ehA, ← ehB, ← e24, ← e32] at HH
    rw [← ehA, ← ehB, ← e24, ← e32]
    clear ehA ehB e24 e32 E2 E4 E8 E12 E16 E24 E32 w0 w1 hne hne1 HRA
    have HRR : Hid (r = ⟨y0, g2, g4, g8, g12, g16, hA, hB, v24, v32⟩) := val_inj HH.out
    clear HH
    obtain ⟨rr, hrr⟩ : ∃ rr : R, rr = ⟨y0, g2, g4, g8, g12, g16, hA, hB, v24, v32⟩ := ⟨_, rfl⟩
    have hbr := (below_box W (recCells rr)).trans (below_drew (Below.refl _ _))
    have HC := hide (cells10_new W rr)
    have HRow2 := hide (HRow.out.below hbr (Nat.le_refl _))
    have HZ2 := hide (HZ.out.below hbr (Nat.le_refl _))
    have HB2 := hide (over HB0.out hbr HB0.out.size)
    clear HRow HZ HB0 hbr
    obtain ⟨X, hX⟩ : ∃ X, X = (W.alloc (recCells rr)).drew := ⟨_, rfl⟩
    have HC2 : Hid (Cells10 X W.heap.size rr) := by show Cells10 X _ _; rw [hX]; exact ⟨HC.out.c0, HC.out.c1, HC.out.c2, HC.out.c3, HC.out.c4, HC.out.c5, HC.out.c6, HC.out.c7, HC.out.c8, HC.out.c9, HC.out.lt⟩
    rw [← hX] at HRow2 HZ2 HB2
    have hX2 : (W.alloc (.cells #[.int .i64 y0, .int .i64 g2, .int .i64 g4, .int .i64 g8, .int .i64 g12, .int .i64 g16, .bool hA, .bool hB, .int .i64 v24, .int .i64 v32] 37)).drew = X := by rw [hX, hrr]; rfl
    rw [hX2]
    have HR2 : Hid (r = rr) := by show r = rr; rw [hrr]; exact HRR.out
    clear hX hX2 HC HRR
    have HHR := hide hrr
    clear hrr
    obtain ⟨M, hM⟩ : ∃ M, M = W.heap.size := ⟨_, rfl⟩
    rw [← hM] at HC2 ⊢
    clear hM HW
    rw [HR2.out] at HR
    obtain ⟨k0, k1, k2, k3, k4, k5, k6, k7, k8, k9, kl⟩ := HC2.out
    go_wp2_with fail
    clear k0 k1 k2 k3 k4 k5 k6 k7 k8 k9 kl
    refine (goodRec_any rr _).mono ?_
    rintro e x2 ⟨rfl, hb⟩
    replace HRow2 := hide (HRow2.out.below hb (Nat.le_refl _))
    replace HZ2 := hide (HZ2.out.below hb (Nat.le_refl _))
    replace HC2 := hide (HC2.out.below hb (Nat.le_refl _))
    replace HB2 := hide (over HB2.out hb HB2.out.size)
    clear hb
    cases hg : goodB rr with
    | false =>
      have HZ := HZ2
      have z0 : x2.cell? ⟨w.heap.size, 0, none⟩ = some (.int .i64 0) := by rw [cell_row HZ.out.lies]; rfl
      have f0 : x2.frozen? ⟨w.heap.size, 0, none⟩ = false := frozen_at HZ.out.lies 0
      have z1 : x2.cell? ⟨w.heap.size, 1, none⟩ = some (.int .i64 0) := by rw [cell_row HZ.out.lies]; rfl
      have f1 : x2.frozen? ⟨w.heap.size, 1, none⟩ = false := frozen_at HZ.out.lies 1
      have z2 : x2.cell? ⟨w.heap.size, 2, none⟩ = some (.int .i64 0) := by rw [cell_row HZ.out.lies]; rfl
      have f2 : x2.frozen? ⟨w.heap.size, 2, none⟩ = false := frozen_at HZ.out.lies 2
      have z3 : x2.cell? ⟨w.heap.size, 3, none⟩ = some (.int .i64 0) := by rw [cell_row HZ.out.lies]; rfl
      have f3 : x2.frozen? ⟨w.heap.size, 3, none⟩ = false := frozen_at HZ.out.lies 3
      have z4 : x2.cell? ⟨w.heap.size, 4, none⟩ = some (.int .i64 0) := by rw [cell_row HZ.out.lies]; rfl
      have f4 : x2.frozen? ⟨w.heap.size, 4, none⟩ = false := frozen_at HZ.out.lies 4
      have z5 : x2.cell? ⟨w.heap.size, 5, none⟩ = some (.int .i64 0) := by rw [cell_row HZ.out.lies]; rfl
      have f5 : x2.frozen? ⟨w.heap.size, 5, none⟩ = false := frozen_at HZ.out.lies 5
      have z6 : x2.cell? ⟨w.heap.size, 6, none⟩ = some (.bool false) := by rw [cell_row HZ.out.lies]; rfl
      have f6 : x2.frozen? ⟨w.heap.size, 6, none⟩ = false := frozen_at HZ.out.lies 6
      have z7 : x2.cell? ⟨w.heap.size, 7, none⟩ = some (.bool false) := by rw [cell_row HZ.out.lies]; rfl
      have f7 : x2.frozen? ⟨w.heap.size, 7, none⟩ = false := frozen_at HZ.out.lies 7
      have z8 : x2.cell? ⟨w.heap.size, 8, none⟩ = some (.int .i64 0) := by rw [cell_row HZ.out.lies]; rfl
      have f8 : x2.frozen? ⟨w.heap.size, 8, none⟩ = false := frozen_at HZ.out.lies 8
      have z9 : x2.cell? ⟨w.heap.size, 9, none⟩ = some (.int .i64 0) := by rw [cell_row HZ.out.lies]; rfl
      have f9 : x2.frozen? ⟨w.heap.size, 9, none⟩ = false := frozen_at HZ.out.lies 9

      go_wp2_with fail
      exact bodyPost_ret (v := .tuple #[.agg #[.int .i64 0, .int .i64 0, .int .i64 0, .int .i64 0, .int .i64 0, .int .i64 0, .bool false, .bool false, .int .i64 0, .int .i64 0], .int .i64 104]) (by simp [results, Tryz.results128, go_sem, *]) rfl ⟨.inr ⟨by unfold isRec; rw [← HR.out, hg]; rfl, rfl⟩, below_sets HB2.out _ _ _ _ _ _ _ _ _ _⟩
    | true =>
      obtain ⟨k0, k1, k2, k3, k4, k5, k6, k7, k8, k9, kl⟩ := HC2.out
      go_wp2_with fail
      clear k0 k1 k2 k3 k4 k5 k6 k7 k8 k9 kl
      refine (refBytes_good rr _ hg).mono ?_
      rintro e x3 ⟨gx, rfl, hgx, hown, hb⟩
      have HO := hide hown
      replace HRow2 := hide (HRow2.out.below hb (Nat.le_refl _))
      replace HZ2 := hide (HZ2.out.below hb (Nat.le_refl _))
      replace HC2 := hide (HC2.out.below hb (Nat.le_refl _))
      replace HB2 := hide (over HB2.out hb HB2.out.size)
      clear hb hgx hown
      go_wp2_with fail
      refine (same_len _ _ _ (recB rr) _ _ _ xs _ HO.out.row HRow2.out (length_recB rr) HN.out).mono ?_
      rintro e x4 ⟨rfl, nd, rfl⟩
      cases hsm : sameB (recB rr) xs with
      | true =>
        have HZ := HZ2
        have z0 : x3.cell? ⟨w.heap.size, 0, none⟩ = some (.int .i64 0) := by rw [cell_row HZ.out.lies]; rfl
        have f0 : x3.frozen? ⟨w.heap.size, 0, none⟩ = false := frozen_at HZ.out.lies 0
        have z1 : x3.cell? ⟨w.heap.size, 1, none⟩ = some (.int .i64 0) := by rw [cell_row HZ.out.lies]; rfl
        have f1 : x3.frozen? ⟨w.heap.size, 1, none⟩ = false := frozen_at HZ.out.lies 1
        have z2 : x3.cell? ⟨w.heap.size, 2, none⟩ = some (.int .i64 0) := by rw [cell_row HZ.out.lies]; rfl
        have f2 : x3.frozen? ⟨w.heap.size, 2, none⟩ = false := frozen_at HZ.out.lies 2
        have z3 : x3.cell? ⟨w.heap.size, 3, none⟩ = some (.int .i64 0) := by rw [cell_row HZ.out.lies]; rfl
        have f3 : x3.frozen? ⟨w.heap.size, 3, none⟩ = false := frozen_at HZ.out.lies 3
        have z4 : x3.cell? ⟨w.heap.size, 4, none⟩ = some (.int .i64 0) := by rw [cell_row HZ.out.lies]; rfl
        have f4 : x3.frozen? ⟨w.heap.size, 4, none⟩ = false := frozen_at HZ.out.lies 4
        have z5 : x3.cell? ⟨w.heap.size, 5, none⟩ = some (.int .i64 0) := by rw [cell_row HZ.out.lies]; rfl
        have f5 : x3.frozen? ⟨w.heap.size, 5, none⟩ = false := frozen_at HZ.out.lies 5
        have z6 : x3.cell? ⟨w.heap.size, 6, none⟩ = some (.bool false) := by rw [cell_row HZ.out.lies]; rfl
        have f6 : x3.frozen? ⟨w.heap.size, 6, none⟩ = false := frozen_at HZ.out.lies 6
        have z7 : x3.cell? ⟨w.heap.size, 7, none⟩ = some (.bool false) := by rw [cell_row HZ.out.lies]; rfl
        have f7 : x3.frozen? ⟨w.heap.size, 7, none⟩ = false := frozen_at HZ.out.lies 7
        have z8 : x3.cell? ⟨w.heap.size, 8, none⟩ = some (.int .i64 0) := by rw [cell_row HZ.out.lies]; rfl
        have f8 : x3.frozen? ⟨w.heap.size, 8, none⟩ = false := frozen_at HZ.out.lies 8
        have z9 : x3.cell? ⟨w.heap.size, 9, none⟩ = some (.int .i64 0) := by rw [cell_row HZ.out.lies]; rfl
        have f9 : x3.frozen? ⟨w.heap.size, 9, none⟩ = false := frozen_at HZ.out.lies 9

        obtain ⟨k0, k1, k2, k3, k4, k5, k6, k7, k8, k9, kl⟩ := HC2.out
        go_wp2_with fail
        exact bodyPost_ret (v := .tuple #[.agg #[.int .i64 rr.kind, .int .i64 rr.txn, .int .i64 rr.page, .int .i64 rr.prev, .int .i64 rr.next, .int .i64 rr.key, .bool rr.had, .bool rr.has, .int .i64 rr.old, .int .i64 rr.new], .int .i64 0]) (by simp [results, Tryz.results128, go_sem, *]) rfl ⟨.inl ⟨by unfold isRec; rw [← HR.out, hg]; unfold sameB at hsm; rw [hsm]; rfl, by rw [HR2.out]; rfl⟩, below_sets (below_drewN HB2.out _) _ _ _ _ _ _ _ _ _ _⟩
      | false =>
        have HZ := HZ2
        have z0 : x3.cell? ⟨w.heap.size, 0, none⟩ = some (.int .i64 0) := by rw [cell_row HZ.out.lies]; rfl
        have f0 : x3.frozen? ⟨w.heap.size, 0, none⟩ = false := frozen_at HZ.out.lies 0
        have z1 : x3.cell? ⟨w.heap.size, 1, none⟩ = some (.int .i64 0) := by rw [cell_row HZ.out.lies]; rfl
        have f1 : x3.frozen? ⟨w.heap.size, 1, none⟩ = false := frozen_at HZ.out.lies 1
        have z2 : x3.cell? ⟨w.heap.size, 2, none⟩ = some (.int .i64 0) := by rw [cell_row HZ.out.lies]; rfl
        have f2 : x3.frozen? ⟨w.heap.size, 2, none⟩ = false := frozen_at HZ.out.lies 2
        have z3 : x3.cell? ⟨w.heap.size, 3, none⟩ = some (.int .i64 0) := by rw [cell_row HZ.out.lies]; rfl
        have f3 : x3.frozen? ⟨w.heap.size, 3, none⟩ = false := frozen_at HZ.out.lies 3
        have z4 : x3.cell? ⟨w.heap.size, 4, none⟩ = some (.int .i64 0) := by rw [cell_row HZ.out.lies]; rfl
        have f4 : x3.frozen? ⟨w.heap.size, 4, none⟩ = false := frozen_at HZ.out.lies 4
        have z5 : x3.cell? ⟨w.heap.size, 5, none⟩ = some (.int .i64 0) := by rw [cell_row HZ.out.lies]; rfl
        have f5 : x3.frozen? ⟨w.heap.size, 5, none⟩ = false := frozen_at HZ.out.lies 5
        have z6 : x3.cell? ⟨w.heap.size, 6, none⟩ = some (.bool false) := by rw [cell_row HZ.out.lies]; rfl
        have f6 : x3.frozen? ⟨w.heap.size, 6, none⟩ = false := frozen_at HZ.out.lies 6
        have z7 : x3.cell? ⟨w.heap.size, 7, none⟩ = some (.bool false) := by rw [cell_row HZ.out.lies]; rfl
        have f7 : x3.frozen? ⟨w.heap.size, 7, none⟩ = false := frozen_at HZ.out.lies 7
        have z8 : x3.cell? ⟨w.heap.size, 8, none⟩ = some (.int .i64 0) := by rw [cell_row HZ.out.lies]; rfl
        have f8 : x3.frozen? ⟨w.heap.size, 8, none⟩ = false := frozen_at HZ.out.lies 8
        have z9 : x3.cell? ⟨w.heap.size, 9, none⟩ = some (.int .i64 0) := by rw [cell_row HZ.out.lies]; rfl
        have f9 : x3.frozen? ⟨w.heap.size, 9, none⟩ = false := frozen_at HZ.out.lies 9

        go_wp2_with fail
        exact bodyPost_ret (v := .tuple #[.agg #[.int .i64 0, .int .i64 0, .int .i64 0, .int .i64 0, .int .i64 0, .int .i64 0, .bool false, .bool false, .int .i64 0, .int .i64 0], .int .i64 104]) (by simp [results, Tryz.results128, go_sem, *]) rfl ⟨.inr ⟨by unfold isRec; rw [← HR.out, hg]; unfold sameB at hsm; rw [hsm]; rfl, rfl⟩, below_sets (below_drewN HB2.out _) _ _ _ _ _ _ _ _ _ _⟩
theorem readRec_any (ao : Option Addr) (cap : Nat) (xs : List Int) (n : Nat) (w : World) (h : Row w ao xs) (hn : xs.length = n) :
    Calls Tryz.prog 128 #[.slice ao n cap] w fun e w' => ((n ≠ 40 ∧ e = .returned (.tuple #[noRec.val, .int .i64 103])) ∨ (n = 40 ∧ isRec xs = false ∧ e = .returned (.tuple #[noRec.val, .int .i64 104])) ∨ (n = 40 ∧ isRec xs = true ∧ e = .returned (.tuple #[(partsR xs).val, .int .i64 0]))) ∧ Below w.heap.size w w' := by
  by_cases h40 : n = 40
  · subst h40
    refine (readRec_40 ao cap xs w h hn).mono ?_
    rintro e w' ⟨⟨h1, rfl⟩ | ⟨h1, rfl⟩, hb⟩
    · exact ⟨.inr (.inr ⟨rfl, h1, rfl⟩), hb⟩
    · exact ⟨.inr (.inl ⟨rfl, h1, rfl⟩), hb⟩
  · exact (readRec_short ao n cap w h40).mono fun e w' h => ⟨.inl ⟨h40, h.1⟩, h.2⟩
end Go.Proofs.YtjacenhblclkaaaGreatDoor
