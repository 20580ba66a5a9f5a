
/- What master.said, master.Read and the document's own ReadMaster answer: the master whose bytes they are, or why there is none; nothing that was there is written. -/
import Derived.Test.YtjdfmpdkfbhdkaaDoorMastBytes
namespace Go.Proofs.YtjdfmpdkfbhdkaaDoor
open Go.RowKit
set_option linter.unusedVariables false

/-- Seven numbers lie in memory, in a block that may be written. -/
structure At7 (w : World) (B : Nat) (f : Nat → Int) : Prop where
  cell : ∀ i, i < 7 → w.cell? ⟨B, i, none⟩ = some (.int .i64 (f i))
  fz : ∀ i, w.frozen? ⟨B, i, none⟩ = false
  lt : B < w.heap.size
theorem At7.under {w w' : World} {B n : Nat} {f : Nat → Int} (h : At7 w B f) (hb : Below n w w') (hn : B < n) : At7 w' B f :=
  ⟨fun i hi => (hb.cell (show B < n from hn)).trans (h.cell i hi), fun i => (hb.frozen (show B < n from hn)).trans (h.fz i), Nat.lt_of_lt_of_le h.lt hb.size⟩
theorem At7.step {w w' : World} {B : Nat} {f : Nat → Int} (h : At7 w B f) (hb : Below w.heap.size w w') : At7 w' B f := h.under hb h.lt
theorem At7.set {w : World} {B : Nat} {f : Nat → Int} (h : At7 w B f) (k : Nat) (hk : k < 7) (v : Int) (g : Nat → Int) (hg : ∀ i, i < 7 → g i = if i = k then v else f i) : At7 (w.setCell ⟨B, k, none⟩ (.int .i64 v)) B g := by
  refine ⟨fun i hi => ?_, fun i => ?_, ?_⟩
  · rw [hg i hi]
    by_cases e : i = k
    · subst e
      rw [if_pos rfl]
      exact World.cell?_setCell_same _ _ _ (h.cell i hi)
    · rw [if_neg e, World.cell?_setCell_other _ _ _ _ (by intro e'; injection e' with _ e2; exact e e2.symm)]
      exact h.cell i hi
  · rw [World.frozen?_setCell]; exact h.fz i
  · show B < (w.setCell _ _).heap.size
    simp [World.setCell]
    exact h.lt
theorem At7.far {w : World} {B : Nat} {f : Nat → Int} (h : At7 w B f) (C k : Nat) (v : Value) (hC : B ≠ C) : At7 (w.setCell ⟨C, k, none⟩ v) B f := by
  refine ⟨fun i hi => ?_, fun i => ?_, ?_⟩
  · rw [World.cell?_setCell_other _ _ _ _ (by intro e'; injection e' with e1 _; exact hC e1.symm)]
    exact h.cell i hi
  · rw [World.frozen?_setCell]; exact h.fz i
  · show B < (w.setCell _ _).heap.size
    simp [World.setCell]
    exact h.lt
theorem at7_zero (w : World) (t : TypeId) : At7 (w.alloc (.cells #[.int .i64 0, .int .i64 0, .int .i64 0, .int .i64 0, .int .i64 0, .int .i64 0, .int .i64 0] t)) w.heap.size (fun _ => 0) := by
  have hl := heap_alloc_new w (.cells #[.int .i64 0, .int .i64 0, .int .i64 0, .int .i64 0, .int .i64 0, .int .i64 0, .int .i64 0] t)
  refine ⟨fun i hi => ?_, fun i => frozen_at hl i, by simp⟩
  rw [cell_row hl]
  rcases (show i = 0 ∨ i = 1 ∨ i = 2 ∨ i = 3 ∨ i = 4 ∨ i = 5 ∨ i = 6 by omega) with rfl | rfl | rfl | rfl | rfl | rfl | rfl <;> rfl
theorem below_sets7 {B : Nat} {a w : World} (h : Below B a w) (v0 v1 v2 v3 v4 v5 v6 : Value) : Below B a (((((((w.setCell ⟨B, 0, none⟩ v0).setCell ⟨B, 1, none⟩ v1).setCell ⟨B, 2, none⟩ v2).setCell ⟨B, 3, none⟩ v3).setCell ⟨B, 4, none⟩ v4).setCell ⟨B, 5, none⟩ v5).setCell ⟨B, 6, none⟩ v6) :=
  (((((((h.setCell (Nat.le_refl _) v0).setCell (Nat.le_refl _) v1).setCell (Nat.le_refl _) v2).setCell (Nat.le_refl _) v3).setCell (Nat.le_refl _) v4).setCell (Nat.le_refl _) v5).setCell (Nat.le_refl _) v6)
/-- The numbers read so far. -/
def upTo (xs : List Int) (k i : Nat) : Int := if i < k then (saidM xs).nth i else 0
theorem upTo_succ (xs : List Int) (k i : Nat) (v : Int) (hv : v = (saidM xs).nth k) : upTo xs (k + 1) i = if i = k then v else upTo xs k i := by
  unfold upTo
  by_cases e : i = k
  · subst e; rw [if_pos (by omega), if_pos rfl, hv]
  · rw [if_neg e]
    by_cases h : i < k
    · rw [if_pos (by omega), if_pos h]
    · rw [if_neg (by omega), if_neg h]
theorem said_bd (xs : List Int) (hb : Bytes xs) (k : Nat) (hk : k < 7) : 0 ≤ (saidM xs).nth k ∧ (saidM xs).nth k ≤ 4294967295 := by
  rw [said_nth xs k hk]
  have h := getB_lt xs hb (4 + (k : Int) * 4) 4
  rw [show (256 : Int) ^ 4 = 4294967296 by decide] at h
  omega
set_option maxRecDepth 100000 in
set_option maxHeartbeats 4000000 in
theorem said_any (ao : Option Addr) (cap : Nat) (xs : List Int) (w : World) (h : Row w ao xs) (hn : xs.length = 256) :
    Calls Tryd.prog 29 #[.slice ao 256 cap] w fun e w' => e = .returned (saidM xs).val ∧ Below w.heap.size w w' := by
  have HR := hide h
  have HN := hide hn
  have HBd := hide (said_bd xs h.2.1)
  clear h hn
  obtain ⟨m, hm⟩ : ∃ m, m = saidM xs := ⟨_, rfl⟩
  have HM := hide hm
  rw [← hm]
  clear hm
  unfold M.val
  have HB0 := hide (below_box w (.cells #[.int .i64 0, .int .i64 0, .int .i64 0, .int .i64 0, .int .i64 0, .int .i64 0, .int .i64 0] 23))
  have HB1 := hide (below_box (w.alloc (.cells #[.int .i64 0, .int .i64 0, .int .i64 0, .int .i64 0, .int .i64 0, .int .i64 0, .int .i64 0] 23)) (.cells #[.int .i64 0, .int .i64 0, .int .i64 0, .int .i64 0, .int .i64 0, .int .i64 0, .int .i64 0] 50))
  have HZ := hide ((at7_zero w 23).step HB1.out)
  have HA := hide (at7_zero (w.alloc (.cells #[.int .i64 0, .int .i64 0, .int .i64 0, .int .i64 0, .int .i64 0, .int .i64 0, .int .i64 0] 23)) 50)
  have HB := hide (over HB0.out HB1.out HB0.out.size)
  have hsz : (w.alloc (.cells #[.int .i64 0, .int .i64 0, .int .i64 0, .int .i64 0, .int .i64 0, .int .i64 0, .int .i64 0] 23)).heap.size = w.heap.size + 1 := by simp
  rw [hsz] at HA
  clear HB0 HB1 hsz
  go_enter Tryd.func29, Tryd.ntmps29
  go_wp2_with fail
  go_loopw [5] (fun i wr => ∃ k : Nat, k ≤ 7 ∧ i = .int .i64 k ∧ At7 wr w.heap.size (fun _ => 0) ∧ At7 wr (w.heap.size + 1) (upTo xs k) ∧ Below w.heap.size w wr) (fun i _ => 7 - (intOf i).toNat)
  case atStart => exact ⟨0, by omega, rfl, HZ.out, ⟨fun i hi => HA.out.cell i hi, HA.out.fz, HA.out.lt⟩, HB.out⟩
  case round =>
    clear HZ HA HB
    obtain ⟨k, hk, rfl, hz, ha, hbel⟩ := hrel
    have HZ := hide hz
    have HA := hide ha
    have HB := hide hbel
    clear hz ha hbel
    by_cases hlt : k < 7
    · have hki : (k : Int) < 7 := by omega
      obtain ⟨n0, n1⟩ := HBd.out k hlt
      obtain ⟨n, hn⟩ : ∃ n, n = (saidM xs).nth k := ⟨_, rfl⟩
      have HE : Hid (getB xs (4 + (k : Int) * 4) (widthB 4).toNat = n) := by rw [hn]; exact (said_nth xs k hlt).symm
      have HNX := hide hn
      rw [← hn] at n0 n1
      clear hn
      go_wp2_with fail
      refine (get_at _ _ _ xs _ _ _ (HR.out.below HB.out (Nat.le_refl _)) HN.out (by omega) (by omega)).mono ?_
      rintro e w2 ⟨rfl, rfl⟩
      rw [HE.out]
      have hc := HA.out.cell k hlt
      have hf := HA.out.fz k
      obtain ⟨u, hu⟩ : ∃ u, u = upTo xs k k := ⟨_, rfl⟩
      rw [← hu] at hc
      clear hu
      go_wp2_with fail
      clear hc hf
      go_roundw
      case rel => exact ⟨k + 1, by omega, by go_num, HZ.out.far _ _ _ (by omega), HA.out.set k hlt n _ (fun i hi => upTo_succ xs k i n HNX.out), HB.out.setCell (p := ⟨w.heap.size + 1, k, none⟩) (by show w.heap.size ≤ w.heap.size + 1; omega) _⟩
      case measure => simp [intOf]; omega
    · have hki : decide ((k : Int) < 7) = false := by simp; omega
      have h7 : k = 7 := by omega
      subst h7
      clear hlt hk
      have hm := HM.out
      have a0 : wr.cell? ⟨w.heap.size + 1, 0, none⟩ = some (.int .i64 m.e) := by rw [hm]; exact HA.out.cell 0 (by omega)
      have a1 : wr.cell? ⟨w.heap.size + 1, 1, none⟩ = some (.int .i64 m.b) := by rw [hm]; exact HA.out.cell 1 (by omega)
      have a2 : wr.cell? ⟨w.heap.size + 1, 2, none⟩ = some (.int .i64 m.r) := by rw [hm]; exact HA.out.cell 2 (by omega)
      have a3 : wr.cell? ⟨w.heap.size + 1, 3, none⟩ = some (.int .i64 m.c) := by rw [hm]; exact HA.out.cell 3 (by omega)
      have a4 : wr.cell? ⟨w.heap.size + 1, 4, none⟩ = some (.int .i64 m.p) := by rw [hm]; exact HA.out.cell 4 (by omega)
      have a5 : wr.cell? ⟨w.heap.size + 1, 5, none⟩ = some (.int .i64 m.k) := by rw [hm]; exact HA.out.cell 5 (by omega)
      have a6 : wr.cell? ⟨w.heap.size + 1, 6, none⟩ = some (.int .i64 m.f) := by rw [hm]; exact HA.out.cell 6 (by omega)
      have z0 : wr.cell? ⟨w.heap.size, 0, none⟩ = some (.int .i64 0) := HZ.out.cell 0 (by omega)
      have f0 : wr.frozen? ⟨w.heap.size, 0, none⟩ = false := HZ.out.fz 0
      have z1 : wr.cell? ⟨w.heap.size, 1, none⟩ = some (.int .i64 0) := HZ.out.cell 1 (by omega)
      have f1 : wr.frozen? ⟨w.heap.size, 1, none⟩ = false := HZ.out.fz 1
      have z2 : wr.cell? ⟨w.heap.size, 2, none⟩ = some (.int .i64 0) := HZ.out.cell 2 (by omega)
      have f2 : wr.frozen? ⟨w.heap.size, 2, none⟩ = false := HZ.out.fz 2
      have z3 : wr.cell? ⟨w.heap.size, 3, none⟩ = some (.int .i64 0) := HZ.out.cell 3 (by omega)
      have f3 : wr.frozen? ⟨w.heap.size, 3, none⟩ = false := HZ.out.fz 3
      have z4 : wr.cell? ⟨w.heap.size, 4, none⟩ = some (.int .i64 0) := HZ.out.cell 4 (by omega)
      have f4 : wr.frozen? ⟨w.heap.size, 4, none⟩ = false := HZ.out.fz 4
      have z5 : wr.cell? ⟨w.heap.size, 5, none⟩ = some (.int .i64 0) := HZ.out.cell 5 (by omega)
      have f5 : wr.frozen? ⟨w.heap.size, 5, none⟩ = false := HZ.out.fz 5
      have z6 : wr.cell? ⟨w.heap.size, 6, none⟩ = some (.int .i64 0) := HZ.out.cell 6 (by omega)
      have f6 : wr.frozen? ⟨w.heap.size, 6, none⟩ = false := HZ.out.fz 6
      clear hm
      go_wp2_with fail
      exact bodyPost_ret (v := .agg #[.int .i64 m.e, .int .i64 m.b, .int .i64 m.r, .int .i64 m.c, .int .i64 m.p, .int .i64 m.k, .int .i64 m.f]) (by simp [results, Tryd.results29, go_sem, *]) rfl ⟨rfl, below_sets7 HB.out _ _ _ _ _ _ _⟩
/-- The errors that master.Read can meet: their variables. -/
structure MastErrs (w : World) (x y z : Addr) : Prop where
  range : w.cell? ⟨0, 0, none⟩ = some (errV x)
  short : w.cell? ⟨1, 0, none⟩ = some (errV y)
  mast : w.cell? ⟨2, 0, none⟩ = some (errV z)
theorem MastErrs.step {w w' : World} {x y z : Addr} (h : MastErrs w x y z) (hb : Below w.heap.size w w') : MastErrs w' x y z :=
  ⟨(hb.cell (World.block_lt_of_cell? w _ h.range)).trans h.range, (hb.cell (World.block_lt_of_cell? w _ h.short)).trans h.short, (hb.cell (World.block_lt_of_cell? w _ h.mast)).trans h.mast⟩
theorem errs_mast {w : World} {ks : List Nat} {a : Nat → Addr} (h : ErrsOf w ks a) (h1 : 1 ∈ ks) (h2 : 2 ∈ ks) (h5 : 5 ∈ ks) : MastErrs w (a 1) (a 2) (a 5) := ⟨h.cell 1 h1, h.cell 2 h2, h.cell 5 h5⟩
set_option maxRecDepth 100000 in
set_option maxHeartbeats 1000000 in
theorem mread_short (ao : Option Addr) (n cap : Nat) (w : World) {x y z : Addr} (he : MastErrs w x y z) (hn : n ≠ 256) :
    Calls Tryd.prog 18 #[.slice ao n cap] w fun e w' => e = .returned (.tuple #[noM.val, errV y]) ∧ Below w.heap.size w w' := by
  have hne : ((n : Int) != 256) = true := by simp; omega
  have hs := World.new_ne w ⟨1, 0, none⟩ he.short
  have hE0 : ∀ X, (w.alloc X).cell? ⟨1, 0, none⟩ = some (errV y) := fun X => (he.step (below_box w X)).short
  clear he hn
  unfold errV at *
  go_enter Tryd.func18, Tryd.ntmps18
  go_wp2_with fail
  go_region
  all_goals
    go_wp2_with fail
    exact bodyPost_ret (v := .tuple #[.agg #[.int .i64 0, .int .i64 0, .int .i64 0, .int .i64 0, .int .i64 0, .int .i64 0, .int .i64 0], .iface 75 (.pointer (some y))]) (by simp [results, Tryd.results18, go_sem]) rfl ⟨rfl, below_drew (below_box _ _)⟩
set_option maxRecDepth 100000 in
set_option maxHeartbeats 4000000 in
theorem mread_ok (ao : Option Addr) (cap : Nat) (xs : List Int) (w : World) {x y z : Addr} (h : Row w ao xs) (he : MastErrs w x y z) (hn : xs.length = 256) (hi : isMast xs = true) :
    Calls Tryd.prog 18 #[.slice ao 256 cap] w fun e w' => e = .returned (.tuple #[(saidM xs).val, .nilIface]) ∧ Below w.heap.size w w' := by
  have hg : okM (saidM xs) = true := by unfold isMast at hi; simp only [Bool.and_eq_true] at hi; exact hi.1
  have hx : mastB (saidM xs) = xs := by unfold isMast at hi; simp only [Bool.and_eq_true, decide_eq_true_eq] at hi; exact hi.2
  clear hi
  obtain ⟨m, hm⟩ : ∃ m, m = saidM xs := ⟨_, rfl⟩
  have HM := hide hm
  rw [← hm] at hg hx ⊢
  have HB0 := hide (below_box w (.cells #[.int .i64 0, .int .i64 0, .int .i64 0, .int .i64 0, .int .i64 0, .int .i64 0, .int .i64 0] 23))
  have HRow := hide (h.below HB0.out (Nat.le_refl _))
  have HE := hide (he.step HB0.out)
  have HZ := hide (at7_zero w 23)
  have HN := hide hn
  clear h he hn hm
  go_enter Tryd.func18, Tryd.ntmps18
  go_wp2_with fail
  refine (said_any _ _ xs _ HRow.out HN.out).mono ?_
  rintro e w2 ⟨rfl, hb⟩
  rw [← HM.out]
  have HB1 := hide (hb.trans ((below_box w2 (mCells m)).mono hb.size))
  have HC := hide (cells7_new w2 m)
  unfold mCells at HB1 HC
  replace HRow := hide (HRow.out.below HB1.out (Nat.le_refl _))
  replace HE := hide (HE.out.step HB1.out)
  replace HZ := hide (HZ.out.step HB1.out)
  replace HB0 := hide (over HB0.out HB1.out HB0.out.size)
  clear hb HB1
  unfold M.val
  go_wp2_with fail
  refine (mb_ok m _ x HE.out.range hg).mono ?_
  rintro e W ⟨g, rfl, hgb, hown, hb⟩
  rw [hx] at hown
  have HO := hide hown.row
  replace HRow := hide (HRow.out.below hb (Nat.le_refl _))
  replace HZ := hide (HZ.out.step hb)
  replace HC := hide (HC.out.step hb)
  replace HB0 := hide (over HB0.out hb HB0.out.size)
  clear hb hown hgb HE
  go_wp2_with fail
  refine (equal_any _ _ _ xs _ _ _ xs _ HO.out HRow.out HN.out HN.out (by omega) (by omega)).mono ?_
  rintro e W' ⟨rfl, rfl⟩
  rw [sameB_true rfl]
  have z0 : W'.cell? ⟨w.heap.size, 0, none⟩ = some (.int .i64 0) := HZ.out.cell 0 (by omega)
  have f0 : W'.frozen? ⟨w.heap.size, 0, none⟩ = false := HZ.out.fz 0
  have z1 : W'.cell? ⟨w.heap.size, 1, none⟩ = some (.int .i64 0) := HZ.out.cell 1 (by omega)
  have f1 : W'.frozen? ⟨w.heap.size, 1, none⟩ = false := HZ.out.fz 1
  have z2 : W'.cell? ⟨w.heap.size, 2, none⟩ = some (.int .i64 0) := HZ.out.cell 2 (by omega)
  have f2 : W'.frozen? ⟨w.heap.size, 2, none⟩ = false := HZ.out.fz 2
  have z3 : W'.cell? ⟨w.heap.size, 3, none⟩ = some (.int .i64 0) := HZ.out.cell 3 (by omega)
  have f3 : W'.frozen? ⟨w.heap.size, 3, none⟩ = false := HZ.out.fz 3
  have z4 : W'.cell? ⟨w.heap.size, 4, none⟩ = some (.int .i64 0) := HZ.out.cell 4 (by omega)
  have f4 : W'.frozen? ⟨w.heap.size, 4, none⟩ = false := HZ.out.fz 4
  have z5 : W'.cell? ⟨w.heap.size, 5, none⟩ = some (.int .i64 0) := HZ.out.cell 5 (by omega)
  have f5 : W'.frozen? ⟨w.heap.size, 5, none⟩ = false := HZ.out.fz 5
  have z6 : W'.cell? ⟨w.heap.size, 6, none⟩ = some (.int .i64 0) := HZ.out.cell 6 (by omega)
  have f6 : W'.frozen? ⟨w.heap.size, 6, none⟩ = false := HZ.out.fz 6
  obtain ⟨k0, k1, k2, k3, k4, k5, k6, kl⟩ := HC.out
  go_wp2_with fail
  exact bodyPost_ret (v := .tuple #[.agg #[.int .i64 m.e, .int .i64 m.b, .int .i64 m.r, .int .i64 m.c, .int .i64 m.p, .int .i64 m.k, .int .i64 m.f], .nilIface]) (by simp [results, Tryd.results18, go_sem, *]) rfl ⟨rfl, below_sets7 HB0.out _ _ _ _ _ _ _⟩
set_option maxRecDepth 100000 in
set_option maxHeartbeats 4000000 in
theorem mread_bad1 (ao : Option Addr) (cap : Nat) (xs : List Int) (w : World) {x y z : Addr} (h : Row w ao xs) (he : MastErrs w x y z) (hn : xs.length = 256) (hg : okM (saidM xs) = false) :
    Calls Tryd.prog 18 #[.slice ao 256 cap] w fun e w' => e = .returned (.tuple #[noM.val, errV z]) ∧ Below w.heap.size w w' := by
  have HLT : Hid (2 < w.heap.size) := World.block_lt_of_cell? w _ he.mast
  obtain ⟨m, hm⟩ : ∃ m, m = saidM xs := ⟨_, rfl⟩
  have HM := hide hm
  rw [← hm] at hg
  have HB0 := hide (below_box w (.cells #[.int .i64 0, .int .i64 0, .int .i64 0, .int .i64 0, .int .i64 0, .int .i64 0, .int .i64 0] 23))
  have HRow := hide (h.below HB0.out (Nat.le_refl _))
  have HE := hide (he.step HB0.out)
  have HZ := hide (at7_zero w 23)
  have HN := hide hn
  clear h he hn hm
  go_enter Tryd.func18, Tryd.ntmps18
  go_wp2_with fail
  refine (said_any _ _ xs _ HRow.out HN.out).mono ?_
  rintro e w2 ⟨rfl, hb⟩
  rw [← HM.out]
  have HB1 := hide (hb.trans ((below_box w2 (mCells m)).mono hb.size))
  unfold mCells at HB1
  replace HE := hide (HE.out.step HB1.out)
  replace HZ := hide (HZ.out.step HB1.out)
  replace HB0 := hide (over HB0.out HB1.out HB0.out.size)
  clear hb HB1 HRow
  unfold M.val
  go_wp2_with fail
  refine (mb_bad m _ x HE.out.range hg).mono ?_
  rintro e W ⟨rfl, hb⟩
  replace HZ := hide (HZ.out.step hb)
  replace HE := hide (HE.out.step hb)
  replace HB0 := hide (over HB0.out hb HB0.out.size)
  clear hb
  have z0 : W.cell? ⟨w.heap.size, 0, none⟩ = some (.int .i64 0) := HZ.out.cell 0 (by omega)
  have f0 : W.frozen? ⟨w.heap.size, 0, none⟩ = false := HZ.out.fz 0
  have z1 : W.cell? ⟨w.heap.size, 1, none⟩ = some (.int .i64 0) := HZ.out.cell 1 (by omega)
  have f1 : W.frozen? ⟨w.heap.size, 1, none⟩ = false := HZ.out.fz 1
  have z2 : W.cell? ⟨w.heap.size, 2, none⟩ = some (.int .i64 0) := HZ.out.cell 2 (by omega)
  have f2 : W.frozen? ⟨w.heap.size, 2, none⟩ = false := HZ.out.fz 2
  have z3 : W.cell? ⟨w.heap.size, 3, none⟩ = some (.int .i64 0) := HZ.out.cell 3 (by omega)
  have f3 : W.frozen? ⟨w.heap.size, 3, none⟩ = false := HZ.out.fz 3
  have z4 : W.cell? ⟨w.heap.size, 4, none⟩ = some (.int .i64 0) := HZ.out.cell 4 (by omega)
  have f4 : W.frozen? ⟨w.heap.size, 4, none⟩ = false := HZ.out.fz 4
  have z5 : W.cell? ⟨w.heap.size, 5, none⟩ = some (.int .i64 0) := HZ.out.cell 5 (by omega)
  have f5 : W.frozen? ⟨w.heap.size, 5, none⟩ = false := HZ.out.fz 5
  have z6 : W.cell? ⟨w.heap.size, 6, none⟩ = some (.int .i64 0) := HZ.out.cell 6 (by omega)
  have f6 : W.frozen? ⟨w.heap.size, 6, none⟩ = false := HZ.out.fz 6
  have hEl : 2 ≠ w.heap.size := Nat.ne_of_lt HLT.out
  have hEl' : w.heap.size ≠ 2 := Ne.symm hEl
  have hE := HE.out.mast
  unfold errV at *
  go_wp2_with fail
  go_region
  all_goals
    go_wp2_with fail
    exact bodyPost_ret (v := .tuple #[.agg #[.int .i64 0, .int .i64 0, .int .i64 0, .int .i64 0, .int .i64 0, .int .i64 0, .int .i64 0], .iface 75 (.pointer (some z))]) (by simp [results, Tryd.results18, go_sem, *]) rfl ⟨rfl, below_drew (below_sets7 HB0.out _ _ _ _ _ _ _)⟩
set_option maxRecDepth 100000 in
set_option maxHeartbeats 4000000 in
theorem mread_bad2 (ao : Option Addr) (cap : Nat) (xs : List Int) (w : World) {x y z : Addr} (h : Row w ao xs) (he : MastErrs w x y z) (hn : xs.length = 256) (hg : okM (saidM xs) = true) (hx : sameB (mastB (saidM xs)) xs = false) :
    Calls Tryd.prog 18 #[.slice ao 256 cap] w fun e w' => e = .returned (.tuple #[noM.val, errV z]) ∧ Below w.heap.size w w' := by
  have HLT : Hid (2 < w.heap.size) := World.block_lt_of_cell? w _ he.mast
  obtain ⟨m, hm⟩ : ∃ m, m = saidM xs := ⟨_, rfl⟩
  have HM := hide hm
  rw [← hm] at hg hx
  have HB0 := hide (below_box w (.cells #[.int .i64 0, .int .i64 0, .int .i64 0, .int .i64 0, .int .i64 0, .int .i64 0, .int .i64 0] 23))
  have HRow := hide (h.below HB0.out (Nat.le_refl _))
  have HE := hide (he.step HB0.out)
  have HZ := hide (at7_zero w 23)
  have HN := hide hn
  clear h he hn hm
  go_enter Tryd.func18, Tryd.ntmps18
  go_wp2_with fail
  refine (said_any _ _ xs _ HRow.out HN.out).mono ?_
  rintro e w2 ⟨rfl, hb⟩
  rw [← HM.out]
  have HB1 := hide (hb.trans ((below_box w2 (mCells m)).mono hb.size))
  unfold mCells at HB1
  replace HRow := hide (HRow.out.below HB1.out (Nat.le_refl _))
  replace HE := hide (HE.out.step HB1.out)
  replace HZ := hide (HZ.out.step HB1.out)
  replace HB0 := hide (over HB0.out HB1.out HB0.out.size)
  clear hb HB1
  unfold M.val
  go_wp2_with fail
  refine (mb_ok m _ x HE.out.range hg).mono ?_
  rintro e W ⟨g, rfl, hgb, hown, hb⟩
  have HO := hide hown.row
  replace HRow := hide (HRow.out.below hb (Nat.le_refl _))
  replace HZ := hide (HZ.out.step hb)
  replace HE := hide (HE.out.step hb)
  replace HB0 := hide (over HB0.out hb HB0.out.size)
  clear hb hown hgb
  go_wp2_with fail
  refine (equal_any _ _ _ (mastB m) _ _ _ xs _ HO.out HRow.out (length_mastB m) HN.out (by omega) (by omega)).mono ?_
  rintro e W' ⟨rfl, rfl⟩
  rw [hx]
  have z0 : W'.cell? ⟨w.heap.size, 0, none⟩ = some (.int .i64 0) := HZ.out.cell 0 (by omega)
  have f0 : W'.frozen? ⟨w.heap.size, 0, none⟩ = false := HZ.out.fz 0
  have z1 : W'.cell? ⟨w.heap.size, 1, none⟩ = some (.int .i64 0) := HZ.out.cell 1 (by omega)
  have f1 : W'.frozen? ⟨w.heap.size, 1, none⟩ = false := HZ.out.fz 1
  have z2 : W'.cell? ⟨w.heap.size, 2, none⟩ = some (.int .i64 0) := HZ.out.cell 2 (by omega)
  have f2 : W'.frozen? ⟨w.heap.size, 2, none⟩ = false := HZ.out.fz 2
  have z3 : W'.cell? ⟨w.heap.size, 3, none⟩ = some (.int .i64 0) := HZ.out.cell 3 (by omega)
  have f3 : W'.frozen? ⟨w.heap.size, 3, none⟩ = false := HZ.out.fz 3
  have z4 : W'.cell? ⟨w.heap.size, 4, none⟩ = some (.int .i64 0) := HZ.out.cell 4 (by omega)
  have f4 : W'.frozen? ⟨w.heap.size, 4, none⟩ = false := HZ.out.fz 4
  have z5 : W'.cell? ⟨w.heap.size, 5, none⟩ = some (.int .i64 0) := HZ.out.cell 5 (by omega)
  have f5 : W'.frozen? ⟨w.heap.size, 5, none⟩ = false := HZ.out.fz 5
  have z6 : W'.cell? ⟨w.heap.size, 6, none⟩ = some (.int .i64 0) := HZ.out.cell 6 (by omega)
  have f6 : W'.frozen? ⟨w.heap.size, 6, none⟩ = false := HZ.out.fz 6
  have hEl : 2 ≠ w.heap.size := Nat.ne_of_lt HLT.out
  have hEl' : w.heap.size ≠ 2 := Ne.symm hEl
  have hE := HE.out.mast
  unfold errV at *
  go_wp2_with fail
  go_region
  all_goals
    go_wp2_with fail
    exact bodyPost_ret (v := .tuple #[.agg #[.int .i64 0, .int .i64 0, .int .i64 0, .int .i64 0, .int .i64 0, .int .i64 0, .int .i64 0], .iface 75 (.pointer (some z))]) (by simp [results, Tryd.results18, go_sem, *]) rfl ⟨rfl, below_drew (below_sets7 HB0.out _ _ _ _ _ _ _)⟩
theorem mread_bad (ao : Option Addr) (cap : Nat) (xs : List Int) (w : World) {x y z : Addr} (h : Row w ao xs) (he : MastErrs w x y z) (hn : xs.length = 256) (hi : isMast xs = false) :
    Calls Tryd.prog 18 #[.slice ao 256 cap] w fun e w' => e = .returned (.tuple #[noM.val, errV z]) ∧ Below w.heap.size w w' := by
  cases hg : okM (saidM xs) with
  | false => exact mread_bad1 ao cap xs w h he hn hg
  | true =>
    refine mread_bad2 ao cap xs w h he hn hg ?_
    unfold isMast at hi
    rw [hg, Bool.true_and] at hi
    exact hi
end Go.Proofs.YtjdfmpdkfbhdkaaDoor
