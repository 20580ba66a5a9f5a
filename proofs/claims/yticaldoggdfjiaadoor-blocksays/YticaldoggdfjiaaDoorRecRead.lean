
/- What rec.Read and rec.Same answer: the record whose bytes they are, or why there is none; whether two are the same. -/
import Derived.Test.YticaldoggdfjiaaDoorRecBytes
import Derived.Laws.BytesArg
import Derived.Laws.StructEq
namespace Go.Proofs.YticaldoggdfjiaaDoor
open Go.RowKit
set_option linter.unusedVariables false

theorem str_eq {xs ys : List Int} (hx : Bytes xs) (hy : Bytes ys) : ((strOfNums xs).toList == (strOfNums ys).toList) = sameB xs ys := by
  have hinj : ∀ a b : Int, 0 ≤ a → a ≤ 255 → 0 ≤ b → b ≤ 255 → UInt8.ofNat a.toNat = UInt8.ofNat b.toNat → a = b := by
    intro a b a0 a1 b0 b1 h
    have h2 := congrArg UInt8.toNat h
    simp only [UInt8.toNat_ofNat'] at h2
    omega
  have hmap : ∀ xs ys : List Int, Bytes xs → Bytes ys → (xs.map fun n => UInt8.ofNat n.toNat) = (ys.map fun n => UInt8.ofNat n.toNat) → xs = ys := by
    intro xs
    induction xs with
    | nil => intro ys _ _ h; cases ys with | nil => rfl | cons y ys => simp at h
    | cons x xs ih =>
      intro ys hx hy h
      cases ys with
      | nil => simp at h
      | cons y ys =>
        simp only [List.map_cons, List.cons.injEq] at h
        have h0 := hx x (by simp)
        have h1 := hy y (by simp)
        rw [hinj x y h0.1 h0.2 h1.1 h1.2 h.1, ih ys (fun z hz => hx z (by simp [hz])) (fun z hz => hy z (by simp [hz])) h.2]
  unfold sameB
  rw [ByteArray.toList_eq, ByteArray.toList_eq, strOfNums_data, strOfNums_data]
  by_cases h : xs = ys
  · simp [h]
  · rw [decide_eq_false h, beq_eq_false_iff_ne]
    exact fun e => h (hmap xs ys hx hy e)
set_option maxHeartbeats 400000 in
theorem equal_any (ao : Option Addr) (n cap : Nat) (xs : List Int) (bo : Option Addr) (n' cap' : Nat) (ys : List Int) (w : World) (h : Row w ao xs) (h' : Row w bo ys) (hn : xs.length = n) (hn' : ys.length = n') (h0 : 0 < n) (h0' : 0 < n') :
    Calls Tryd.prog 49 #[.slice ao n cap, .slice bo n' cap'] w fun e w' => e = .returned (.bool (sameB xs ys)) ∧ w' = w := by
  obtain ⟨b, off, rfl, _, hc⟩ := h.2.2 (by omega)
  obtain ⟨b', off', rfl, _, hc'⟩ := h'.2.2 (by omega)
  have k1 := run_convert_bytes_arg (P := Tryd.prog) w 24 5 Tryd.underlying24 Tryd.underlying5 b off n cap xs hn (fun i hi => hc i (by omega)) 9 Tryd.underlying9
  have k2 := run_convert_bytes_arg (P := Tryd.prog) w 24 5 Tryd.underlying24 Tryd.underlying5 b' off' n' cap' ys hn' (fun i hi => hc' i (by omega)) 9 Tryd.underlying9
  have HE := hide (str_eq h.2.1 h'.2.1)
  clear hc hc' h h'
  go_enter Tryd.func49, Tryd.ntmps49
  go_wp2_with fail
  go_ret
  exact ⟨ret_bool HE.out, rfl⟩
theorem and_one (m : Int) (h0 : 0 ≤ m) (h1 : m ≤ 255) : (bits .and .u64 m 1 != 0) = decide (m % 2 = 1) := by
  have hk : ∀ n : Fin 256, (bits .and .u64 ((n : Nat) : Int) 1 != 0) = decide (((n : Nat) : Int) % 2 = 1) := by decide +kernel
  have := hk ⟨m.toNat, by omega⟩
  rwa [show (((⟨m.toNat, by omega⟩ : Fin 256) : Nat) : Int) = m by simp; omega] at this
theorem and_two (m : Int) (h0 : 0 ≤ m) (h1 : m ≤ 255) : (bits .and .u64 m 2 != 0) = decide (m / 2 % 2 = 1) := by
  have hk : ∀ n : Fin 256, (bits .and .u64 ((n : Nat) : Int) 2 != 0) = decide (((n : Nat) : Int) / 2 % 2 = 1) := by decide +kernel
  have := hk ⟨m.toNat, by omega⟩
  rwa [show (((⟨m.toNat, by omega⟩ : Fin 256) : Nat) : Int) = m by simp; omega] at this
theorem i64_wrap (n : Int) (h : 0 ≤ n ∧ n ≤ 18446744073709551615) : wrap64 n = i64 n := by
  unfold wrap64 i64
  split <;> omega
theorem get_at (ao : Option Addr) (n cap : Nat) (xs : List Int) (a s : Int) (w : World) (h : Row w ao xs) (hn : xs.length = n) (ha : -9223372036854775808 ≤ a) (ha' : a ≤ 9223372036854775807) :
    Calls Tryd.prog 55 #[.slice ao n cap, .int .i64 a, .int .i64 s] w fun e w' => e = .returned (.int .u64 (getB xs a (widthB s).toNat)) ∧ w' = w := by subst hn; exact get_any ao cap xs a s w h ha ha'
theorem getB_lt (xs : List Int) (hb : Bytes xs) (a : Int) (k : Nat) : 0 ≤ getB xs a k ∧ getB xs a k < 256 ^ k := num_bd k fun j => hb.byte _
set_option maxHeartbeats 2000000 in
theorem parts_any (ao : Option Addr) (cap : Nat) (xs : List Int) (w : World) (h : Row w ao xs) (hn : xs.length = 40) :
    Calls Tryd.prog 48 #[.slice ao 40 cap] w fun e w' => e = .returned (partsR xs).val ∧ Below w.heap.size w w' := by
  have HP : Hid (∀ g0 g1 g2 g4 g8 g12 g16 g24 g32 : Int, getB xs 0 1 = g0 → getB xs 1 1 = g1 → getB xs 2 2 = g2 → getB xs 4 2 = g4 → getB xs 8 4 = g8 → getB xs 12 4 = g12 → getB xs 16 4 = g16 → getB xs 24 8 = g24 → getB xs 32 8 = g32 → (partsR xs).val = .agg #[.int .i64 g0, .int .i64 g2, .int .i64 g4, .int .i64 g8, .int .i64 g12, .int .i64 g16, .bool (bits .and .u64 g1 1 != 0), .bool (bits .and .u64 g1 2 != 0), .int .i64 (wrap64 g24), .int .i64 (wrap64 g32)]) := by
    intro g0 g1 g2 g4 g8 g12 g16 g24 g32 h0 h1 h2 h4 h8 h12 h16 h24 h32
    have b1 := getB_lt xs h.2.1 1 1
    have b24 := getB_bd xs h.2.1 24 8 (by omega)
    have b32 := getB_bd xs h.2.1 32 8 (by omega)
    rw [h1] at b1
    rw [h24] at b24
    rw [h32] at b32
    unfold partsR R.val
    simp only
    rw [h0, h1, h2, h4, h8, h12, h16, h24, h32, and_one g1 b1.1 (by omega), and_two g1 b1.1 (by omega), i64_wrap g24 b24, i64_wrap g32 b32]
  have HB : Hid (Bytes xs) := h.2.1
  obtain ⟨A, hA⟩ : ∃ A, A = w.alloc (.cells #[.int .i64 0, .int .i64 0, .int .i64 0, .int .i64 0, .int .i64 0, .int .i64 0, .bool false, .bool false, .int .i64 0, .int .i64 0] 23) := ⟨_, rfl⟩
  have HR : Hid (Row A ao xs) := by show Row A ao xs; rw [hA]; exact h.below (below_box _ _) (Nat.le_refl _)
  rw [hA] at HR
  clear hA h
  have q0 := getB_lt xs HB.out 0 1
  have q1 := getB_lt xs HB.out 1 1
  have q2 := getB_lt xs HB.out 2 2
  have q4 := getB_lt xs HB.out 4 2
  have q8 := getB_lt xs HB.out 8 4
  have q12 := getB_lt xs HB.out 12 4
  have q16 := getB_lt xs HB.out 16 4
  have q24 := getB_bd xs HB.out 24 8 (by omega)
  have q32 := getB_bd xs HB.out 32 8 (by omega)
  have H := HP.out _ _ _ _ _ _ _ _ _ rfl rfl rfl rfl rfl rfl rfl rfl rfl
  have HH := hide H
  clear H HP
  obtain ⟨g0, e0⟩ : ∃ g, g = getB xs 0 1 := ⟨_, rfl⟩
  obtain ⟨g1, e1⟩ : ∃ g, g = getB xs 1 1 := ⟨_, rfl⟩
  obtain ⟨g2, e2⟩ : ∃ g, g = getB xs 2 2 := ⟨_, rfl⟩
  obtain ⟨g4, e4⟩ : ∃ g, g = getB xs 4 2 := ⟨_, rfl⟩
  obtain ⟨g8, e8⟩ : ∃ g, g = getB xs 8 4 := ⟨_, rfl⟩
  obtain ⟨g12, e12⟩ : ∃ g, g = getB xs 12 4 := ⟨_, rfl⟩
  obtain ⟨g16, e16⟩ : ∃ g, g = getB xs 16 4 := ⟨_, rfl⟩
  obtain ⟨g24, e24⟩ : ∃ g, g = getB xs 24 8 := ⟨_, rfl⟩
  obtain ⟨g32, e32⟩ : ∃ g, g = getB xs 32 8 := ⟨_, rfl⟩
  rw [← e0, ← e1, ← e2, ← e4, ← e8, ← e12, ← e16, ← e24, ← e32] at HH
  rw [← e0] at q0; rw [← e1] at q1; rw [← e2] at q2; rw [← e4] at q4; rw [← e8] at q8; rw [← e12] at q12; rw [← e16] at q16; rw [← e24] at q24; rw [← e32] at q32
  have E0 : Hid (getB xs 0 (widthB 1).toNat = g0) := e0.symm
  have E1 : Hid (getB xs 1 (widthB 1).toNat = g1) := e1.symm
  have E2 : Hid (getB xs 2 (widthB 2).toNat = g2) := e2.symm
  have E4 : Hid (getB xs 4 (widthB 2).toNat = g4) := e4.symm
  have E8 : Hid (getB xs 8 (widthB 4).toNat = g8) := e8.symm
  have E12 : Hid (getB xs 12 (widthB 4).toNat = g12) := e12.symm
  have E16 : Hid (getB xs 16 (widthB 4).toNat = g16) := e16.symm
  have E24 : Hid (getB xs 24 (widthB 8).toNat = g24) := e24.symm
  have E32 : Hid (getB xs 32 (widthB 8).toNat = g32) := e32.symm
  clear e0 e1 e2 e4 e8 e12 e16 e24 e32
  obtain ⟨q0a, q0b⟩ := q0; obtain ⟨q2a, q2b⟩ := q2; obtain ⟨q4a, q4b⟩ := q4; obtain ⟨q8a, q8b⟩ := q8; obtain ⟨q12a, q12b⟩ := q12; obtain ⟨q16a, q16b⟩ := q16
  have p1 : (256 : Int) ^ 1 = 256 := by decide
  have p2 : (256 : Int) ^ 2 = 65536 := by decide
  have p4 : (256 : Int) ^ 4 = 4294967296 := by decide
  rw [p1] at q0b; rw [p2] at q2b q4b; rw [p4] at q8b q12b q16b
  clear p1 p2 p4 q1 q24 q32
  have HN := hide hn
  clear hn
  go_enter Tryd.func48, Tryd.ntmps48
  go_wp2_with fail
  refine (get_at _ _ _ xs _ _ _ HR.out HN.out (by omega) (by omega)).mono ?_
  rintro e w2 ⟨rfl, rfl⟩
  rw [E1.out]
  go_wp2_with fail
  refine (get_at _ _ _ xs _ _ _ HR.out HN.out (by omega) (by omega)).mono ?_
  rintro e w2 ⟨rfl, rfl⟩
  rw [E0.out]
  go_wp2_with fail
  refine (get_at _ _ _ xs _ _ _ HR.out HN.out (by omega) (by omega)).mono ?_
  rintro e w2 ⟨rfl, rfl⟩
  rw [E2.out]
  go_wp2_with fail
  refine (get_at _ _ _ xs _ _ _ HR.out HN.out (by omega) (by omega)).mono ?_
  rintro e w2 ⟨rfl, rfl⟩
  rw [E4.out]
  go_wp2_with fail
  refine (get_at _ _ _ xs _ _ _ HR.out HN.out (by omega) (by omega)).mono ?_
  rintro e w2 ⟨rfl, rfl⟩
  rw [E8.out]
  go_wp2_with fail
  refine (get_at _ _ _ xs _ _ _ HR.out HN.out (by omega) (by omega)).mono ?_
  rintro e w2 ⟨rfl, rfl⟩
  rw [E12.out]
  go_wp2_with fail
  refine (get_at _ _ _ xs _ _ _ HR.out HN.out (by omega) (by omega)).mono ?_
  rintro e w2 ⟨rfl, rfl⟩
  rw [E16.out]
  go_wp2_with fail
  refine (get_at _ _ _ xs _ _ _ HR.out HN.out (by omega) (by omega)).mono ?_
  rintro e w2 ⟨rfl, rfl⟩
  rw [E24.out]
  go_wp2_with fail
  refine (get_at _ _ _ xs _ _ _ HR.out HN.out (by omega) (by omega)).mono ?_
  rintro e w2 ⟨rfl, rfl⟩
  rw [E32.out]
  go_wp2_with fail
  exact bodyPost_ret (v := .agg #[.int .i64 g0, .int .i64 g2, .int .i64 g4, .int .i64 g8, .int .i64 g12, .int .i64 g16, .bool (bits .and .u64 g1 1 != 0), .bool (bits .and .u64 g1 2 != 0), .int .i64 (wrap64 g24), .int .i64 (wrap64 g32)]) (by simp [results, Tryd.results48, go_sem]) rfl ⟨by rw [HH.out], below_box _ _⟩
/-- The errors that rec.Read can meet: their variables. -/
structure ReadErrs (w : World) (x y z : Addr) : Prop where
  range : w.cell? ⟨0, 0, none⟩ = some (errV x)
  short : w.cell? ⟨1, 0, none⟩ = some (errV y)
  rc : w.cell? ⟨2, 0, none⟩ = some (errV z)
theorem ReadErrs.step {w w' : World} {x y z : Addr} (h : ReadErrs w x y z) (hb : Below w.heap.size w w') : ReadErrs w' x y z :=
  ⟨(hb.cell (World.block_lt_of_cell? w _ h.range)).trans h.range, (hb.cell (World.block_lt_of_cell? w _ h.short)).trans h.short, (hb.cell (World.block_lt_of_cell? w _ h.rc)).trans h.rc⟩
def noRec : R := ⟨0, 0, 0, 0, 0, 0, false, false, 0, 0⟩
set_option maxHeartbeats 1000000 in
theorem read_short (ao : Option Addr) (n cap : Nat) (w : World) {x y z : Addr} (he : ReadErrs w x y z) (hn : n ≠ 40) :
    Calls Tryd.prog 19 #[.slice ao n cap] w fun e w' => e = .returned (.tuple #[noRec.val, errV y]) ∧ Below w.heap.size w w' := by
  have hne : ((n : Int) != 40) = true := by simp; omega
  have hs := World.new_ne w ⟨1, 0, none⟩ he.short
  have hE0 : ∀ X, (w.alloc X).cell? ⟨1, 0, none⟩ = some (errV y) := fun X => (he.step (below_box w X)).short
  clear he hn
  unfold errV at *
  go_enter Tryd.func19, Tryd.ntmps19
  go_wp2_with fail
  go_region
  all_goals
    go_wp2_with fail
    exact bodyPost_ret (v := .tuple #[.agg #[.int .i64 0, .int .i64 0, .int .i64 0, .int .i64 0, .int .i64 0, .int .i64 0, .bool false, .bool false, .int .i64 0, .int .i64 0], .iface 99 (.pointer (some y))]) (by simp [results, Tryd.results19, go_sem]) rfl ⟨rfl, below_drew (below_box _ _)⟩
def zeroCells : Obj := .cells #[.int .i64 0, .int .i64 0, .int .i64 0, .int .i64 0, .int .i64 0, .int .i64 0, .bool false, .bool false, .int .i64 0, .int .i64 0] 23
/-- The block of a record that holds nothing yet. -/
structure ZeroAt (w : World) (B : Nat) : Prop where
  lies : w.heap[B]? = some (.cells #[.int .i64 0, .int .i64 0, .int .i64 0, .int .i64 0, .int .i64 0, .int .i64 0, .bool false, .bool false, .int .i64 0, .int .i64 0] 23 (0, 0))
theorem ZeroAt.below {w w' : World} {B n : Nat} (h : ZeroAt w B) (hb : Below n w w') (hn : w.heap.size ≤ n) : ZeroAt w' B := ⟨by rw [hb.block _ (Nat.lt_of_lt_of_le (lt_of_block h.lies) hn)]; exact h.lies⟩
theorem zero_lies (w : World) : ZeroAt (w.alloc zeroCells) w.heap.size := ⟨by unfold zeroCells; exact heap_alloc_new _ _⟩
theorem frozen_at {w : World} {d : Nat} {c : Array Value} {e : TypeId} (h : w.heap[d]? = some (.cells c e (0, 0))) (o : Nat) : w.frozen? ⟨d, o, none⟩ = false := by
  simp [World.frozen?, h]
theorem below_sets {B : Nat} {a w : World} (h : Below B a w) (v0 v1 v2 v3 v4 v5 v6 v7 v8 v9 : Value) : Below B a ((((((((((w.setCell ⟨B, 0, none⟩ v0).setCell ⟨B, 1, none⟩ v1).setCell ⟨B, 2, none⟩ v2).setCell ⟨B, 3, none⟩ v3).setCell ⟨B, 4, none⟩ v4).setCell ⟨B, 5, none⟩ v5).setCell ⟨B, 6, none⟩ v6).setCell ⟨B, 7, none⟩ v7).setCell ⟨B, 8, none⟩ v8).setCell ⟨B, 9, none⟩ v9) :=
  (((((((((h.setCell (Nat.le_refl _) v0).setCell (Nat.le_refl _) v1).setCell (Nat.le_refl _) v2).setCell (Nat.le_refl _) v3).setCell (Nat.le_refl _) v4).setCell (Nat.le_refl _) v5).setCell (Nat.le_refl _) v6).setCell (Nat.le_refl _) v7).setCell (Nat.le_refl _) v8).setCell (Nat.le_refl _) v9
set_option maxHeartbeats 2000000 in
theorem read_ok (ao : Option Addr) (cap : Nat) (xs : List Int) (w : World) {x y z : Addr} (h : Row w ao xs) (he : ReadErrs w x y z) (hn : xs.length = 40) (hi : isRec xs = true) :
    Calls Tryd.prog 19 #[.slice ao 40 cap] w fun e w' => e = .returned (.tuple #[(partsR xs).val, .nilIface]) ∧ Below w.heap.size w w' := by
  have hg : goodB (partsR xs) = true := by unfold isRec at hi; simp only [Bool.and_eq_true] at hi; exact hi.1
  have hx : recB (partsR xs) = xs := by unfold isRec at hi; simp only [Bool.and_eq_true, decide_eq_true_eq] at hi; exact hi.2
  clear hi
  obtain ⟨r, hr⟩ : ∃ r, r = partsR xs := ⟨_, rfl⟩
  have HR := hide hr
  rw [← hr] at hg hx ⊢
  have HB0 := hide (below_box w (zeroCells))
  have HRow := hide (h.below HB0.out (Nat.le_refl _))
  have HE := hide (he.step HB0.out)
  have HZ := hide (zero_lies w)
  unfold zeroCells at HB0 HRow HE HZ
  have HN := hide hn
  clear h he hn hr
  go_enter Tryd.func19, Tryd.ntmps19
  go_wp2_with fail
  refine (parts_any _ _ xs _ HRow.out HN.out).mono ?_
  rintro e w2 ⟨rfl, hb⟩
  rw [← HR.out]
  replace HRow := hide (HRow.out.below hb (Nat.le_refl _))
  replace HE := hide (HE.out.step hb)
  replace HZ := hide (HZ.out.below hb (Nat.le_refl _))
  replace HB0 := hide (over HB0.out hb HB0.out.size)
  clear hb
  have HB1 := hide (below_box w2 (recCells r))
  replace HRow := hide (HRow.out.below HB1.out (Nat.le_refl _))
  replace HE := hide (HE.out.step HB1.out)
  replace HZ := hide (HZ.out.below HB1.out (Nat.le_refl _))
  have HC := hide (cells10_new w2 r)
  replace HB0 := hide (over HB0.out HB1.out HB0.out.size)
  clear HB1
  unfold R.val
  unfold recCells at HRow HE HZ HC HB0
  go_wp2_with fail
  refine (recBytes_good r _ x HE.out.range hg).mono ?_
  rintro e W ⟨g, rfl, hgb, hown, hb⟩
  rw [hx] at hown
  have HO := hide hown.row
  replace HRow := hide (HRow.out.below hb (Nat.le_refl _))
  replace HZ := hide (HZ.out.below hb (Nat.le_refl _))
  replace HC := hide (HC.out.below hb (Nat.le_refl _))
  replace HB0 := hide (over HB0.out hb HB0.out.size)
  clear hb hown hgb HE
  go_wp2_with fail
  refine (equal_any _ _ _ xs _ _ _ xs _ HO.out HRow.out HN.out HN.out (by omega) (by omega)).mono ?_
  rintro e W' ⟨rfl, rfl⟩
  rw [sameB_true rfl]
  have z0 : W'.cell? ⟨w.heap.size, 0, none⟩ = some (.int .i64 0) := by rw [cell_row HZ.out.lies]; rfl
  have f0 : W'.frozen? ⟨w.heap.size, 0, none⟩ = false := frozen_at HZ.out.lies 0
  have z1 : W'.cell? ⟨w.heap.size, 1, none⟩ = some (.int .i64 0) := by rw [cell_row HZ.out.lies]; rfl
  have f1 : W'.frozen? ⟨w.heap.size, 1, none⟩ = false := frozen_at HZ.out.lies 1
  have z2 : W'.cell? ⟨w.heap.size, 2, none⟩ = some (.int .i64 0) := by rw [cell_row HZ.out.lies]; rfl
  have f2 : W'.frozen? ⟨w.heap.size, 2, none⟩ = false := frozen_at HZ.out.lies 2
  have z3 : W'.cell? ⟨w.heap.size, 3, none⟩ = some (.int .i64 0) := by rw [cell_row HZ.out.lies]; rfl
  have f3 : W'.frozen? ⟨w.heap.size, 3, none⟩ = false := frozen_at HZ.out.lies 3
  have z4 : W'.cell? ⟨w.heap.size, 4, none⟩ = some (.int .i64 0) := by rw [cell_row HZ.out.lies]; rfl
  have f4 : W'.frozen? ⟨w.heap.size, 4, none⟩ = false := frozen_at HZ.out.lies 4
  have z5 : W'.cell? ⟨w.heap.size, 5, none⟩ = some (.int .i64 0) := by rw [cell_row HZ.out.lies]; rfl
  have f5 : W'.frozen? ⟨w.heap.size, 5, none⟩ = false := frozen_at HZ.out.lies 5
  have z6 : W'.cell? ⟨w.heap.size, 6, none⟩ = some (.bool false) := by rw [cell_row HZ.out.lies]; rfl
  have f6 : W'.frozen? ⟨w.heap.size, 6, none⟩ = false := frozen_at HZ.out.lies 6
  have z7 : W'.cell? ⟨w.heap.size, 7, none⟩ = some (.bool false) := by rw [cell_row HZ.out.lies]; rfl
  have f7 : W'.frozen? ⟨w.heap.size, 7, none⟩ = false := frozen_at HZ.out.lies 7
  have z8 : W'.cell? ⟨w.heap.size, 8, none⟩ = some (.int .i64 0) := by rw [cell_row HZ.out.lies]; rfl
  have f8 : W'.frozen? ⟨w.heap.size, 8, none⟩ = false := frozen_at HZ.out.lies 8
  have z9 : W'.cell? ⟨w.heap.size, 9, none⟩ = some (.int .i64 0) := by rw [cell_row HZ.out.lies]; rfl
  have f9 : W'.frozen? ⟨w.heap.size, 9, none⟩ = false := frozen_at HZ.out.lies 9
  obtain ⟨k0, k1, k2, k3, k4, k5, k6, k7, k8, k9, kl⟩ := HC.out
  go_wp2_with fail
  exact bodyPost_ret (v := .tuple #[.agg #[.int .i64 r.kind, .int .i64 r.txn, .int .i64 r.page, .int .i64 r.prev, .int .i64 r.next, .int .i64 r.key, .bool r.had, .bool r.has, .int .i64 r.old, .int .i64 r.new], .nilIface]) (by simp [results, Tryd.results19, go_sem, *]) rfl ⟨rfl, below_sets HB0.out _ _ _ _ _ _ _ _ _ _⟩
set_option maxHeartbeats 2000000 in
theorem read_bad1 (ao : Option Addr) (cap : Nat) (xs : List Int) (w : World) {x y z : Addr} (h : Row w ao xs) (he : ReadErrs w x y z) (hn : xs.length = 40) (hg : goodB (partsR xs) = false) :
    Calls Tryd.prog 19 #[.slice ao 40 cap] w fun e w' => e = .returned (.tuple #[noRec.val, errV z]) ∧ Below w.heap.size w w' := by
  have HLT : Hid (2 < w.heap.size) := World.block_lt_of_cell? w _ he.rc
  obtain ⟨r, hr⟩ : ∃ r, r = partsR xs := ⟨_, rfl⟩
  have HR := hide hr
  rw [← hr] at hg
  have HB0 := hide (below_box w (zeroCells))
  have HRow := hide (h.below HB0.out (Nat.le_refl _))
  have HE := hide (he.step HB0.out)
  have HZ := hide (zero_lies w)
  unfold zeroCells at HB0 HRow HE HZ
  have HN := hide hn
  clear h he hn hr
  go_enter Tryd.func19, Tryd.ntmps19
  go_wp2_with fail
  refine (parts_any _ _ xs _ HRow.out HN.out).mono ?_
  rintro e w2 ⟨rfl, hb⟩
  rw [← HR.out]
  replace HRow := hide (HRow.out.below hb (Nat.le_refl _))
  replace HE := hide (HE.out.step hb)
  replace HZ := hide (HZ.out.below hb (Nat.le_refl _))
  replace HB0 := hide (over HB0.out hb HB0.out.size)
  clear hb
  have HB1 := hide (below_box w2 (recCells r))
  replace HRow := hide (HRow.out.below HB1.out (Nat.le_refl _))
  replace HE := hide (HE.out.step HB1.out)
  replace HZ := hide (HZ.out.below HB1.out (Nat.le_refl _))
  have HC := hide (cells10_new w2 r)
  replace HB0 := hide (over HB0.out HB1.out HB0.out.size)
  clear HB1
  unfold R.val
  unfold recCells at HRow HE HZ HC HB0
  go_wp2_with fail
  refine (recBytes_bad r _ x HE.out.range hg).mono ?_
  rintro e W ⟨rfl, hb⟩
  replace HZ := hide (HZ.out.below hb (Nat.le_refl _))
  replace HE := hide (HE.out.step hb)
  replace HB0 := hide (over HB0.out hb HB0.out.size)
  clear hb HC HRow
  have z0 : W.cell? ⟨w.heap.size, 0, none⟩ = some (.int .i64 0) := by rw [cell_row HZ.out.lies]; rfl
  have f0 : W.frozen? ⟨w.heap.size, 0, none⟩ = false := frozen_at HZ.out.lies 0
  have z1 : W.cell? ⟨w.heap.size, 1, none⟩ = some (.int .i64 0) := by rw [cell_row HZ.out.lies]; rfl
  have f1 : W.frozen? ⟨w.heap.size, 1, none⟩ = false := frozen_at HZ.out.lies 1
  have z2 : W.cell? ⟨w.heap.size, 2, none⟩ = some (.int .i64 0) := by rw [cell_row HZ.out.lies]; rfl
  have f2 : W.frozen? ⟨w.heap.size, 2, none⟩ = false := frozen_at HZ.out.lies 2
  have z3 : W.cell? ⟨w.heap.size, 3, none⟩ = some (.int .i64 0) := by rw [cell_row HZ.out.lies]; rfl
  have f3 : W.frozen? ⟨w.heap.size, 3, none⟩ = false := frozen_at HZ.out.lies 3
  have z4 : W.cell? ⟨w.heap.size, 4, none⟩ = some (.int .i64 0) := by rw [cell_row HZ.out.lies]; rfl
  have f4 : W.frozen? ⟨w.heap.size, 4, none⟩ = false := frozen_at HZ.out.lies 4
  have z5 : W.cell? ⟨w.heap.size, 5, none⟩ = some (.int .i64 0) := by rw [cell_row HZ.out.lies]; rfl
  have f5 : W.frozen? ⟨w.heap.size, 5, none⟩ = false := frozen_at HZ.out.lies 5
  have z6 : W.cell? ⟨w.heap.size, 6, none⟩ = some (.bool false) := by rw [cell_row HZ.out.lies]; rfl
  have f6 : W.frozen? ⟨w.heap.size, 6, none⟩ = false := frozen_at HZ.out.lies 6
  have z7 : W.cell? ⟨w.heap.size, 7, none⟩ = some (.bool false) := by rw [cell_row HZ.out.lies]; rfl
  have f7 : W.frozen? ⟨w.heap.size, 7, none⟩ = false := frozen_at HZ.out.lies 7
  have z8 : W.cell? ⟨w.heap.size, 8, none⟩ = some (.int .i64 0) := by rw [cell_row HZ.out.lies]; rfl
  have f8 : W.frozen? ⟨w.heap.size, 8, none⟩ = false := frozen_at HZ.out.lies 8
  have z9 : W.cell? ⟨w.heap.size, 9, none⟩ = some (.int .i64 0) := by rw [cell_row HZ.out.lies]; rfl
  have f9 : W.frozen? ⟨w.heap.size, 9, none⟩ = false := frozen_at HZ.out.lies 9
  have hEl : 2 ≠ w.heap.size := Nat.ne_of_lt HLT.out
  have hEl' : w.heap.size ≠ 2 := Ne.symm hEl
  have hE := HE.out.rc
  unfold errV at *
  go_wp2_with fail
  go_region
  all_goals
    go_wp2_with fail
    exact bodyPost_ret (v := .tuple #[.agg #[.int .i64 0, .int .i64 0, .int .i64 0, .int .i64 0, .int .i64 0, .int .i64 0, .bool false, .bool false, .int .i64 0, .int .i64 0], .iface 99 (.pointer (some z))]) (by simp [results, Tryd.results19, go_sem, *]) rfl ⟨rfl, below_drew (below_sets HB0.out _ _ _ _ _ _ _ _ _ _)⟩
set_option maxHeartbeats 2000000 in
theorem read_bad2 (ao : Option Addr) (cap : Nat) (xs : List Int) (w : World) {x y z : Addr} (h : Row w ao xs) (he : ReadErrs w x y z) (hn : xs.length = 40) (hg : goodB (partsR xs) = true) (hx : sameB (recB (partsR xs)) xs = false) :
    Calls Tryd.prog 19 #[.slice ao 40 cap] w fun e w' => e = .returned (.tuple #[noRec.val, errV z]) ∧ Below w.heap.size w w' := by
  have HLT : Hid (2 < w.heap.size) := World.block_lt_of_cell? w _ he.rc
  obtain ⟨r, hr⟩ : ∃ r, r = partsR xs := ⟨_, rfl⟩
  have HR := hide hr
  rw [← hr] at hg hx
  have HB0 := hide (below_box w (zeroCells))
  have HRow := hide (h.below HB0.out (Nat.le_refl _))
  have HE := hide (he.step HB0.out)
  have HZ := hide (zero_lies w)
  unfold zeroCells at HB0 HRow HE HZ
  have HN := hide hn
  clear h he hn hr
  go_enter Tryd.func19, Tryd.ntmps19
  go_wp2_with fail
  refine (parts_any _ _ xs _ HRow.out HN.out).mono ?_
  rintro e w2 ⟨rfl, hb⟩
  rw [← HR.out]
  replace HRow := hide (HRow.out.below hb (Nat.le_refl _))
  replace HE := hide (HE.out.step hb)
  replace HZ := hide (HZ.out.below hb (Nat.le_refl _))
  replace HB0 := hide (over HB0.out hb HB0.out.size)
  clear hb
  have HB1 := hide (below_box w2 (recCells r))
  replace HRow := hide (HRow.out.below HB1.out (Nat.le_refl _))
  replace HE := hide (HE.out.step HB1.out)
  replace HZ := hide (HZ.out.below HB1.out (Nat.le_refl _))
  have HC := hide (cells10_new w2 r)
  replace HB0 := hide (over HB0.out HB1.out HB0.out.size)
  clear HB1
  unfold R.val
  unfold recCells at HRow HE HZ HC HB0
  go_wp2_with fail
  refine (recBytes_good r _ x HE.out.range hg).mono ?_
  rintro e W ⟨g, rfl, hgb, hown, hb⟩
  have HO := hide hown.row
  replace HRow := hide (HRow.out.below hb (Nat.le_refl _))
  replace HZ := hide (HZ.out.below hb (Nat.le_refl _))
  replace HE := hide (HE.out.step hb)
  replace HB0 := hide (over HB0.out hb HB0.out.size)
  clear hb hown hgb HC
  go_wp2_with fail
  refine (equal_any _ _ _ (recB r) _ _ _ xs _ HO.out HRow.out (length_recB r) HN.out (by omega) (by omega)).mono ?_
  rintro e W' ⟨rfl, rfl⟩
  rw [hx]
  have z0 : W'.cell? ⟨w.heap.size, 0, none⟩ = some (.int .i64 0) := by rw [cell_row HZ.out.lies]; rfl
  have f0 : W'.frozen? ⟨w.heap.size, 0, none⟩ = false := frozen_at HZ.out.lies 0
  have z1 : W'.cell? ⟨w.heap.size, 1, none⟩ = some (.int .i64 0) := by rw [cell_row HZ.out.lies]; rfl
  have f1 : W'.frozen? ⟨w.heap.size, 1, none⟩ = false := frozen_at HZ.out.lies 1
  have z2 : W'.cell? ⟨w.heap.size, 2, none⟩ = some (.int .i64 0) := by rw [cell_row HZ.out.lies]; rfl
  have f2 : W'.frozen? ⟨w.heap.size, 2, none⟩ = false := frozen_at HZ.out.lies 2
  have z3 : W'.cell? ⟨w.heap.size, 3, none⟩ = some (.int .i64 0) := by rw [cell_row HZ.out.lies]; rfl
  have f3 : W'.frozen? ⟨w.heap.size, 3, none⟩ = false := frozen_at HZ.out.lies 3
  have z4 : W'.cell? ⟨w.heap.size, 4, none⟩ = some (.int .i64 0) := by rw [cell_row HZ.out.lies]; rfl
  have f4 : W'.frozen? ⟨w.heap.size, 4, none⟩ = false := frozen_at HZ.out.lies 4
  have z5 : W'.cell? ⟨w.heap.size, 5, none⟩ = some (.int .i64 0) := by rw [cell_row HZ.out.lies]; rfl
  have f5 : W'.frozen? ⟨w.heap.size, 5, none⟩ = false := frozen_at HZ.out.lies 5
  have z6 : W'.cell? ⟨w.heap.size, 6, none⟩ = some (.bool false) := by rw [cell_row HZ.out.lies]; rfl
  have f6 : W'.frozen? ⟨w.heap.size, 6, none⟩ = false := frozen_at HZ.out.lies 6
  have z7 : W'.cell? ⟨w.heap.size, 7, none⟩ = some (.bool false) := by rw [cell_row HZ.out.lies]; rfl
  have f7 : W'.frozen? ⟨w.heap.size, 7, none⟩ = false := frozen_at HZ.out.lies 7
  have z8 : W'.cell? ⟨w.heap.size, 8, none⟩ = some (.int .i64 0) := by rw [cell_row HZ.out.lies]; rfl
  have f8 : W'.frozen? ⟨w.heap.size, 8, none⟩ = false := frozen_at HZ.out.lies 8
  have z9 : W'.cell? ⟨w.heap.size, 9, none⟩ = some (.int .i64 0) := by rw [cell_row HZ.out.lies]; rfl
  have f9 : W'.frozen? ⟨w.heap.size, 9, none⟩ = false := frozen_at HZ.out.lies 9
  have hEl : 2 ≠ w.heap.size := Nat.ne_of_lt HLT.out
  have hEl' : w.heap.size ≠ 2 := Ne.symm hEl
  have hE := HE.out.rc
  unfold errV at *
  go_wp2_with fail
  go_region
  all_goals
    go_wp2_with fail
    exact bodyPost_ret (v := .tuple #[.agg #[.int .i64 0, .int .i64 0, .int .i64 0, .int .i64 0, .int .i64 0, .int .i64 0, .bool false, .bool false, .int .i64 0, .int .i64 0], .iface 99 (.pointer (some z))]) (by simp [results, Tryd.results19, go_sem, *]) rfl ⟨rfl, below_drew (below_sets HB0.out _ _ _ _ _ _ _ _ _ _)⟩
theorem read_bad (ao : Option Addr) (cap : Nat) (xs : List Int) (w : World) {x y z : Addr} (h : Row w ao xs) (he : ReadErrs w x y z) (hn : xs.length = 40) (hi : isRec xs = false) :
    Calls Tryd.prog 19 #[.slice ao 40 cap] w fun e w' => e = .returned (.tuple #[noRec.val, errV z]) ∧ Below w.heap.size w w' := by
  cases hg : goodB (partsR xs) with
  | false => exact read_bad1 ao cap xs w h he hn hg
  | true =>
    refine read_bad2 ao cap xs w h he hn hg ?_
    unfold isRec at hi
    rw [hg, Bool.true_and] at hi
    exact hi
end Go.Proofs.YticaldoggdfjiaaDoor
