
/- What the document's own ReadMaster answers; both Reads told alike; the chapter's examples. -/
import Derived.Test.YtjdfmpdkfbhdkaaDoorMastGood
import Derived.Test.YtjdfmpdkfbhdkaaDoorBSaysMath
namespace Go.Proofs.YtjdfmpdkfbhdkaaDoor
open Go.RowKit Go.ChangeShapes Go.WideShapes
set_option linter.unusedVariables false

theorem At7.drewN {w : World} {B : Nat} {f : Nat → Int} (h : At7 w B f) (n : Nat) : At7 (w.drewN n) B f := ⟨h.cell, h.fz, h.lt⟩
theorem Cells7.drewN {w : World} {B : Nat} {m : M} (h : Cells7 w B m) (n : Nat) : Cells7 (w.drewN n) B m := ⟨h.c0, h.c1, h.c2, h.c3, h.c4, h.c5, h.c6, h.lt⟩
theorem refGet_len (ao : Option Addr) (n cap : Nat) (xs : List Int) (a s : Int) (w : World) (h : Row w ao xs) (hn : xs.length = n) (ha : -9223372036854775808 ≤ a) (ha' : a ≤ 9223372036854775807) :
    Calls Tryd.prog 31 #[.slice ao n cap, .int .i64 a, .int .i64 s] w fun e w' => e = .returned (.int .u64 (getB xs a (widthB s).toNat)) ∧ w' = w := by subst hn; exact refGet_any ao cap xs a s w h ha ha'
set_option maxRecDepth 100000 in
set_option maxHeartbeats 1000000 in
theorem rmread_short (ao : Option Addr) (n cap : Nat) (w : World) (hn : n ≠ 256) :
    Calls Tryd.prog 19 #[.slice ao n cap] w fun e w' => e = .returned (.tuple #[noM.val, .int .i64 103]) ∧ Below w.heap.size w w' := by
  have hne : ((n : Int) != 256) = true := by simp; omega
  clear hn
  go_enter Tryd.func19, Tryd.ntmps19
  go_wp2_with fail
  exact bodyPost_ret (v := .tuple #[.agg #[.int .i64 0, .int .i64 0, .int .i64 0, .int .i64 0, .int .i64 0, .int .i64 0, .int .i64 0], .int .i64 103]) (by simp [results, Tryd.results19, go_sem]) rfl ⟨rfl, below_box _ _⟩
set_option maxRecDepth 100000 in
set_option maxHeartbeats 4000000 in
theorem rmread_ok (ao : Option Addr) (cap : Nat) (xs : List Int) (w : World) (h : Row w ao xs) (hn : xs.length = 256) (hg : okM (saidM xs) = true) (hx : sameB xs (mastB (saidM xs)) = true) :
    Calls Tryd.prog 19 #[.slice ao 256 cap] w fun e w' => e = .returned (.tuple #[(saidM xs).val, .int .i64 0]) ∧ Below w.heap.size w w' := by
  have HR := hide h
  have HN := hide hn
  have HBd := hide (said_bd xs h.2.1)
  obtain ⟨m, hm⟩ : ∃ m, m = saidM xs := ⟨_, rfl⟩
  have HM := hide hm
  rw [← hm] at hg hx ⊢
  clear h hn hm
  have HB0 := hide (below_box w (.cells #[.int .i64 0, .int .i64 0, .int .i64 0, .int .i64 0, .int .i64 0, .int .i64 0, .int .i64 0] 23))
  have HB1 := hide (below_box (w.alloc (.cells #[.int .i64 0, .int .i64 0, .int .i64 0, .int .i64 0, .int .i64 0, .int .i64 0, .int .i64 0] 23)) (.cells #[.int .i64 0, .int .i64 0, .int .i64 0, .int .i64 0, .int .i64 0, .int .i64 0, .int .i64 0] 50))
  have HZ := hide ((at7_zero w 23).step HB1.out)
  have HA := hide (at7_zero (w.alloc (.cells #[.int .i64 0, .int .i64 0, .int .i64 0, .int .i64 0, .int .i64 0, .int .i64 0, .int .i64 0] 23)) 50)
  have HB := hide (over HB0.out HB1.out HB0.out.size)
  have hsz : (w.alloc (.cells #[.int .i64 0, .int .i64 0, .int .i64 0, .int .i64 0, .int .i64 0, .int .i64 0, .int .i64 0] 23)).heap.size = w.heap.size + 1 := by simp
  rw [hsz] at HA
  clear HB0 HB1 hsz
  unfold M.val
  go_enter Tryd.func19, Tryd.ntmps19
  go_wp2_with fail
  go_loopw [5] (fun i wr => ∃ k : Nat, k ≤ 7 ∧ i = .int .i64 k ∧ At7 wr w.heap.size (fun _ => 0) ∧ At7 wr (w.heap.size + 1) (upTo xs k) ∧ Below w.heap.size w wr) (fun i _ => 7 - (intOf i).toNat)
  case atStart => exact ⟨0, by omega, rfl, HZ.out, ⟨fun i hi => HA.out.cell i hi, HA.out.fz, HA.out.lt⟩, HB.out⟩
  case round =>
    clear HZ HA HB
    obtain ⟨k, hk, rfl, hz, ha, hbel⟩ := hrel
    have HZ := hide hz
    have HA := hide ha
    have HB := hide hbel
    clear hz ha hbel
    by_cases hlt : k < 7
    · have hki : (k : Int) < 7 := by omega
      obtain ⟨n0, n1⟩ := HBd.out k hlt
      obtain ⟨n, hn⟩ : ∃ n, n = (saidM xs).nth k := ⟨_, rfl⟩
      have HE : Hid (getB xs (4 + 4 * (k : Int)) (widthB 4).toNat = n) := by rw [hn, Int.mul_comm]; exact (said_nth xs k hlt).symm
      have HNX := hide hn
      rw [← hn] at n0 n1
      clear hn
      go_wp2_with fail
      refine (refGet_len _ _ _ xs _ _ _ (HR.out.below HB.out (Nat.le_refl _)) HN.out (by omega) (by omega)).mono ?_
      rintro e w2 ⟨rfl, rfl⟩
      rw [HE.out]
      have hc := HA.out.cell k hlt
      have hf := HA.out.fz k
      obtain ⟨u, hu⟩ : ∃ u, u = upTo xs k k := ⟨_, rfl⟩
      rw [← hu] at hc
      clear hu
      go_wp2_with fail
      clear hc hf
      go_roundw
      case rel => exact ⟨k + 1, by omega, by go_num, HZ.out.far _ _ _ (by omega), HA.out.set k hlt n _ (fun i hi => upTo_succ xs k i n HNX.out), HB.out.setCell (p := ⟨w.heap.size + 1, k, none⟩) (by show w.heap.size ≤ w.heap.size + 1; omega) _⟩
      case measure => simp [intOf]; omega
    · have hki : decide ((k : Int) < 7) = false := by simp; omega
      have h7 : k = 7 := by omega
      subst h7
      clear hlt hk
      have hm := HM.out
      have a0 : wr.cell? ⟨w.heap.size + 1, 0, none⟩ = some (.int .i64 m.e) := by rw [hm]; exact HA.out.cell 0 (by omega)
      have a1 : wr.cell? ⟨w.heap.size + 1, 1, none⟩ = some (.int .i64 m.b) := by rw [hm]; exact HA.out.cell 1 (by omega)
      have a2 : wr.cell? ⟨w.heap.size + 1, 2, none⟩ = some (.int .i64 m.r) := by rw [hm]; exact HA.out.cell 2 (by omega)
      have a3 : wr.cell? ⟨w.heap.size + 1, 3, none⟩ = some (.int .i64 m.c) := by rw [hm]; exact HA.out.cell 3 (by omega)
      have a4 : wr.cell? ⟨w.heap.size + 1, 4, none⟩ = some (.int .i64 m.p) := by rw [hm]; exact HA.out.cell 4 (by omega)
      have a5 : wr.cell? ⟨w.heap.size + 1, 5, none⟩ = some (.int .i64 m.k) := by rw [hm]; exact HA.out.cell 5 (by omega)
      have a6 : wr.cell? ⟨w.heap.size + 1, 6, none⟩ = some (.int .i64 m.f) := by rw [hm]; exact HA.out.cell 6 (by omega)
      clear hm HA
      have HB1 := hide (below_box wr (mCells m))
      have HC := hide (cells7_new wr m)
      unfold mCells at HB1 HC
      have HRow := hide ((HR.out.below HB.out (Nat.le_refl _)).below HB1.out (Nat.le_refl _))
      replace HZ := hide (HZ.out.step HB1.out)
      replace HB := hide (over HB.out HB1.out HB.out.size)
      clear HB1
      go_wp2_with fail
      clear a0 a1 a2 a3 a4 a5 a6
      refine (goodMaster_any m _).mono ?_
      rintro e W ⟨rfl, hb⟩
      rw [hg]
      replace HRow := hide (HRow.out.below hb (Nat.le_refl _))
      replace HZ := hide (HZ.out.step hb)
      replace HC := hide (HC.out.step hb)
      replace HB := hide (over HB.out hb HB.out.size)
      clear hb
      obtain ⟨k0, k1, k2, k3, k4, k5, k6, kl⟩ := HC.out
      go_wp2_with fail
      clear k0 k1 k2 k3 k4 k5 k6 kl
      refine (rmb_ok m _ hg).mono ?_
      rintro e W2 ⟨g, rfl, hgb, hown, hb⟩
      have HO := hide hown.row
      replace HRow := hide (HRow.out.below hb (Nat.le_refl _))
      replace HZ := hide (HZ.out.step hb)
      replace HC := hide (HC.out.step hb)
      replace HB := hide (over HB.out hb HB.out.size)
      clear hb hown hgb
      go_wp2_with fail
      refine (same_len _ _ _ xs _ _ _ (mastB m) _ HRow.out HO.out HN.out (length_mastB m)).mono ?_
      rintro e W3 ⟨rfl, nd, rfl⟩
      rw [hx]
      replace HZ := hide (HZ.out.drewN nd)
      replace HC := hide (HC.out.drewN nd)
      replace HB := hide (below_drewN HB.out nd)
      obtain ⟨X, hX⟩ : ∃ X, X = W2.drewN nd := ⟨_, rfl⟩
      rw [← hX] at HZ HC HB ⊢
      clear hX HO HRow
      have z0 : X.cell? ⟨w.heap.size, 0, none⟩ = some (.int .i64 0) := HZ.out.cell 0 (by omega)
      have f0 : X.frozen? ⟨w.heap.size, 0, none⟩ = false := HZ.out.fz 0
      have z1 : X.cell? ⟨w.heap.size, 1, none⟩ = some (.int .i64 0) := HZ.out.cell 1 (by omega)
      have f1 : X.frozen? ⟨w.heap.size, 1, none⟩ = false := HZ.out.fz 1
      have z2 : X.cell? ⟨w.heap.size, 2, none⟩ = some (.int .i64 0) := HZ.out.cell 2 (by omega)
      have f2 : X.frozen? ⟨w.heap.size, 2, none⟩ = false := HZ.out.fz 2
      have z3 : X.cell? ⟨w.heap.size, 3, none⟩ = some (.int .i64 0) := HZ.out.cell 3 (by omega)
      have f3 : X.frozen? ⟨w.heap.size, 3, none⟩ = false := HZ.out.fz 3
      have z4 : X.cell? ⟨w.heap.size, 4, none⟩ = some (.int .i64 0) := HZ.out.cell 4 (by omega)
      have f4 : X.frozen? ⟨w.heap.size, 4, none⟩ = false := HZ.out.fz 4
      have z5 : X.cell? ⟨w.heap.size, 5, none⟩ = some (.int .i64 0) := HZ.out.cell 5 (by omega)
      have f5 : X.frozen? ⟨w.heap.size, 5, none⟩ = false := HZ.out.fz 5
      have z6 : X.cell? ⟨w.heap.size, 6, none⟩ = some (.int .i64 0) := HZ.out.cell 6 (by omega)
      have f6 : X.frozen? ⟨w.heap.size, 6, none⟩ = false := HZ.out.fz 6
      obtain ⟨k0, k1, k2, k3, k4, k5, k6, kl⟩ := HC.out
      go_wp2_with fail
      exact bodyPost_ret (v := .tuple #[.agg #[.int .i64 m.e, .int .i64 m.b, .int .i64 m.r, .int .i64 m.c, .int .i64 m.p, .int .i64 m.k, .int .i64 m.f], .int .i64 0]) (by simp [results, Tryd.results19, go_sem, *]) rfl ⟨rfl, below_sets7 HB.out _ _ _ _ _ _ _⟩
set_option maxRecDepth 100000 in
set_option maxHeartbeats 4000000 in
theorem rmread_bad1 (ao : Option Addr) (cap : Nat) (xs : List Int) (w : World) (h : Row w ao xs) (hn : xs.length = 256) (hg : okM (saidM xs) = false) :
    Calls Tryd.prog 19 #[.slice ao 256 cap] w fun e w' => e = .returned (.tuple #[noM.val, .int .i64 106]) ∧ Below w.heap.size w w' := by
  have HR := hide h
  have HN := hide hn
  have HBd := hide (said_bd xs h.2.1)
  obtain ⟨m, hm⟩ : ∃ m, m = saidM xs := ⟨_, rfl⟩
  have HM := hide hm
  rw [← hm] at hg
  clear h hn hm
  have HB0 := hide (below_box w (.cells #[.int .i64 0, .int .i64 0, .int .i64 0, .int .i64 0, .int .i64 0, .int .i64 0, .int .i64 0] 23))
  have HB1 := hide (below_box (w.alloc (.cells #[.int .i64 0, .int .i64 0, .int .i64 0, .int .i64 0, .int .i64 0, .int .i64 0, .int .i64 0] 23)) (.cells #[.int .i64 0, .int .i64 0, .int .i64 0, .int .i64 0, .int .i64 0, .int .i64 0, .int .i64 0] 50))
  have HZ := hide ((at7_zero w 23).step HB1.out)
  have HA := hide (at7_zero (w.alloc (.cells #[.int .i64 0, .int .i64 0, .int .i64 0, .int .i64 0, .int .i64 0, .int .i64 0, .int .i64 0] 23)) 50)
  have HB := hide (over HB0.out HB1.out HB0.out.size)
  have hsz : (w.alloc (.cells #[.int .i64 0, .int .i64 0, .int .i64 0, .int .i64 0, .int .i64 0, .int .i64 0, .int .i64 0] 23)).heap.size = w.heap.size + 1 := by simp
  rw [hsz] at HA
  clear HB0 HB1 hsz
  unfold M.val noM
  go_enter Tryd.func19, Tryd.ntmps19
  go_wp2_with fail
  go_loopw [5] (fun i wr => ∃ k : Nat, k ≤ 7 ∧ i = .int .i64 k ∧ At7 wr w.heap.size (fun _ => 0) ∧ At7 wr (w.heap.size + 1) (upTo xs k) ∧ Below w.heap.size w wr) (fun i _ => 7 - (intOf i).toNat)
  case atStart => exact ⟨0, by omega, rfl, HZ.out, ⟨fun i hi => HA.out.cell i hi, HA.out.fz, HA.out.lt⟩, HB.out⟩
  case round =>
    clear HZ HA HB
    obtain ⟨k, hk, rfl, hz, ha, hbel⟩ := hrel
    have HZ := hide hz
    have HA := hide ha
    have HB := hide hbel
    clear hz ha hbel
    by_cases hlt : k < 7
    · have hki : (k : Int) < 7 := by omega
      obtain ⟨n0, n1⟩ := HBd.out k hlt
      obtain ⟨n, hn⟩ : ∃ n, n = (saidM xs).nth k := ⟨_, rfl⟩
      have HE : Hid (getB xs (4 + 4 * (k : Int)) (widthB 4).toNat = n) := by rw [hn, Int.mul_comm]; exact (said_nth xs k hlt).symm
      have HNX := hide hn
      rw [← hn] at n0 n1
      clear hn
      go_wp2_with fail
      refine (refGet_len _ _ _ xs _ _ _ (HR.out.below HB.out (Nat.le_refl _)) HN.out (by omega) (by omega)).mono ?_
      rintro e w2 ⟨rfl, rfl⟩
      rw [HE.out]
      have hc := HA.out.cell k hlt
      have hf := HA.out.fz k
      obtain ⟨u, hu⟩ : ∃ u, u = upTo xs k k := ⟨_, rfl⟩
      rw [← hu] at hc
      clear hu
      go_wp2_with fail
      clear hc hf
      go_roundw
      case rel => exact ⟨k + 1, by omega, by go_num, HZ.out.far _ _ _ (by omega), HA.out.set k hlt n _ (fun i hi => upTo_succ xs k i n HNX.out), HB.out.setCell (p := ⟨w.heap.size + 1, k, none⟩) (by show w.heap.size ≤ w.heap.size + 1; omega) _⟩
      case measure => simp [intOf]; omega
    · have hki : decide ((k : Int) < 7) = false := by simp; omega
      have h7 : k = 7 := by omega
      subst h7
      clear hlt hk
      have hm := HM.out
      have a0 : wr.cell? ⟨w.heap.size + 1, 0, none⟩ = some (.int .i64 m.e) := by rw [hm]; exact HA.out.cell 0 (by omega)
      have a1 : wr.cell? ⟨w.heap.size + 1, 1, none⟩ = some (.int .i64 m.b) := by rw [hm]; exact HA.out.cell 1 (by omega)
      have a2 : wr.cell? ⟨w.heap.size + 1, 2, none⟩ = some (.int .i64 m.r) := by rw [hm]; exact HA.out.cell 2 (by omega)
      have a3 : wr.cell? ⟨w.heap.size + 1, 3, none⟩ = some (.int .i64 m.c) := by rw [hm]; exact HA.out.cell 3 (by omega)
      have a4 : wr.cell? ⟨w.heap.size + 1, 4, none⟩ = some (.int .i64 m.p) := by rw [hm]; exact HA.out.cell 4 (by omega)
      have a5 : wr.cell? ⟨w.heap.size + 1, 5, none⟩ = some (.int .i64 m.k) := by rw [hm]; exact HA.out.cell 5 (by omega)
      have a6 : wr.cell? ⟨w.heap.size + 1, 6, none⟩ = some (.int .i64 m.f) := by rw [hm]; exact HA.out.cell 6 (by omega)
      clear hm HA
      have HB1 := hide (below_box wr (mCells m))
      have HC := hide (cells7_new wr m)
      unfold mCells at HB1 HC
      have HRow := hide ((HR.out.below HB.out (Nat.le_refl _)).below HB1.out (Nat.le_refl _))
      replace HZ := hide (HZ.out.step HB1.out)
      replace HB := hide (over HB.out HB1.out HB.out.size)
      clear HB1
      go_wp2_with fail
      clear a0 a1 a2 a3 a4 a5 a6
      refine (goodMaster_any m _).mono ?_
      rintro e W ⟨rfl, hb⟩
      rw [hg]
      replace HRow := hide (HRow.out.below hb (Nat.le_refl _))
      replace HZ := hide (HZ.out.step hb)
      replace HC := hide (HC.out.step hb)
      replace HB := hide (over HB.out hb HB.out.size)
      clear hb
      have z0 : W.cell? ⟨w.heap.size, 0, none⟩ = some (.int .i64 0) := HZ.out.cell 0 (by omega)
      have f0 : W.frozen? ⟨w.heap.size, 0, none⟩ = false := HZ.out.fz 0
      have z1 : W.cell? ⟨w.heap.size, 1, none⟩ = some (.int .i64 0) := HZ.out.cell 1 (by omega)
      have f1 : W.frozen? ⟨w.heap.size, 1, none⟩ = false := HZ.out.fz 1
      have z2 : W.cell? ⟨w.heap.size, 2, none⟩ = some (.int .i64 0) := HZ.out.cell 2 (by omega)
      have f2 : W.frozen? ⟨w.heap.size, 2, none⟩ = false := HZ.out.fz 2
      have z3 : W.cell? ⟨w.heap.size, 3, none⟩ = some (.int .i64 0) := HZ.out.cell 3 (by omega)
      have f3 : W.frozen? ⟨w.heap.size, 3, none⟩ = false := HZ.out.fz 3
      have z4 : W.cell? ⟨w.heap.size, 4, none⟩ = some (.int .i64 0) := HZ.out.cell 4 (by omega)
      have f4 : W.frozen? ⟨w.heap.size, 4, none⟩ = false := HZ.out.fz 4
      have z5 : W.cell? ⟨w.heap.size, 5, none⟩ = some (.int .i64 0) := HZ.out.cell 5 (by omega)
      have f5 : W.frozen? ⟨w.heap.size, 5, none⟩ = false := HZ.out.fz 5
      have z6 : W.cell? ⟨w.heap.size, 6, none⟩ = some (.int .i64 0) := HZ.out.cell 6 (by omega)
      have f6 : W.frozen? ⟨w.heap.size, 6, none⟩ = false := HZ.out.fz 6
      go_wp2_with fail
      exact bodyPost_ret (v := .tuple #[.agg #[.int .i64 0, .int .i64 0, .int .i64 0, .int .i64 0, .int .i64 0, .int .i64 0, .int .i64 0], .int .i64 106]) (by simp [results, Tryd.results19, go_sem, *]) rfl ⟨rfl, below_sets7 HB.out _ _ _ _ _ _ _⟩
set_option maxRecDepth 100000 in
set_option maxHeartbeats 4000000 in
theorem rmread_bad2 (ao : Option Addr) (cap : Nat) (xs : List Int) (w : World) (h : Row w ao xs) (hn : xs.length = 256) (hg : okM (saidM xs) = true) (hx : sameB xs (mastB (saidM xs)) = false) :
    Calls Tryd.prog 19 #[.slice ao 256 cap] w fun e w' => e = .returned (.tuple #[noM.val, .int .i64 106]) ∧ Below w.heap.size w w' := by
  have HR := hide h
  have HN := hide hn
  have HBd := hide (said_bd xs h.2.1)
  obtain ⟨m, hm⟩ : ∃ m, m = saidM xs := ⟨_, rfl⟩
  have HM := hide hm
  rw [← hm] at hg hx
  clear h hn hm
  have HB0 := hide (below_box w (.cells #[.int .i64 0, .int .i64 0, .int .i64 0, .int .i64 0, .int .i64 0, .int .i64 0, .int .i64 0] 23))
  have HB1 := hide (below_box (w.alloc (.cells #[.int .i64 0, .int .i64 0, .int .i64 0, .int .i64 0, .int .i64 0, .int .i64 0, .int .i64 0] 23)) (.cells #[.int .i64 0, .int .i64 0, .int .i64 0, .int .i64 0, .int .i64 0, .int .i64 0, .int .i64 0] 50))
  have HZ := hide ((at7_zero w 23).step HB1.out)
  have HA := hide (at7_zero (w.alloc (.cells #[.int .i64 0, .int .i64 0, .int .i64 0, .int .i64 0, .int .i64 0, .int .i64 0, .int .i64 0] 23)) 50)
  have HB := hide (over HB0.out HB1.out HB0.out.size)
  have hsz : (w.alloc (.cells #[.int .i64 0, .int .i64 0, .int .i64 0, .int .i64 0, .int .i64 0, .int .i64 0, .int .i64 0] 23)).heap.size = w.heap.size + 1 := by simp
  rw [hsz] at HA
  clear HB0 HB1 hsz
  unfold M.val noM
  go_enter Tryd.func19, Tryd.ntmps19
  go_wp2_with fail
  go_loopw [5] (fun i wr => ∃ k : Nat, k ≤ 7 ∧ i = .int .i64 k ∧ At7 wr w.heap.size (fun _ => 0) ∧ At7 wr (w.heap.size + 1) (upTo xs k) ∧ Below w.heap.size w wr) (fun i _ => 7 - (intOf i).toNat)
  case atStart => exact ⟨0, by omega, rfl, HZ.out, ⟨fun i hi => HA.out.cell i hi, HA.out.fz, HA.out.lt⟩, HB.out⟩
  case round =>
    clear HZ HA HB
    obtain ⟨k, hk, rfl, hz, ha, hbel⟩ := hrel
    have HZ := hide hz
    have HA := hide ha
    have HB := hide hbel
    clear hz ha hbel
    by_cases hlt : k < 7
    · have hki : (k : Int) < 7 := by omega
      obtain ⟨n0, n1⟩ := HBd.out k hlt
      obtain ⟨n, hn⟩ : ∃ n, n = (saidM xs).nth k := ⟨_, rfl⟩
      have HE : Hid (getB xs (4 + 4 * (k : Int)) (widthB 4).toNat = n) := by rw [hn, Int.mul_comm]; exact (said_nth xs k hlt).symm
      have HNX := hide hn
      rw [← hn] at n0 n1
      clear hn
      go_wp2_with fail
      refine (refGet_len _ _ _ xs _ _ _ (HR.out.below HB.out (Nat.le_refl _)) HN.out (by omega) (by omega)).mono ?_
      rintro e w2 ⟨rfl, rfl⟩
      rw [HE.out]
      have hc := HA.out.cell k hlt
      have hf := HA.out.fz k
      obtain ⟨u, hu⟩ : ∃ u, u = upTo xs k k := ⟨_, rfl⟩
      rw [← hu] at hc
      clear hu
      go_wp2_with fail
      clear hc hf
      go_roundw
      case rel => exact ⟨k + 1, by omega, by go_num, HZ.out.far _ _ _ (by omega), HA.out.set k hlt n _ (fun i hi => upTo_succ xs k i n HNX.out), HB.out.setCell (p := ⟨w.heap.size + 1, k, none⟩) (by show w.heap.size ≤ w.heap.size + 1; omega) _⟩
      case measure => simp [intOf]; omega
    · have hki : decide ((k : Int) < 7) = false := by simp; omega
      have h7 : k = 7 := by omega
      subst h7
      clear hlt hk
      have hm := HM.out
      have a0 : wr.cell? ⟨w.heap.size + 1, 0, none⟩ = some (.int .i64 m.e) := by rw [hm]; exact HA.out.cell 0 (by omega)
      have a1 : wr.cell? ⟨w.heap.size + 1, 1, none⟩ = some (.int .i64 m.b) := by rw [hm]; exact HA.out.cell 1 (by omega)
      have a2 : wr.cell? ⟨w.heap.size + 1, 2, none⟩ = some (.int .i64 m.r) := by rw [hm]; exact HA.out.cell 2 (by omega)
      have a3 : wr.cell? ⟨w.heap.size + 1, 3, none⟩ = some (.int .i64 m.c) := by rw [hm]; exact HA.out.cell 3 (by omega)
      have a4 : wr.cell? ⟨w.heap.size + 1, 4, none⟩ = some (.int .i64 m.p) := by rw [hm]; exact HA.out.cell 4 (by omega)
      have a5 : wr.cell? ⟨w.heap.size + 1, 5, none⟩ = some (.int .i64 m.k) := by rw [hm]; exact HA.out.cell 5 (by omega)
      have a6 : wr.cell? ⟨w.heap.size + 1, 6, none⟩ = some (.int .i64 m.f) := by rw [hm]; exact HA.out.cell 6 (by omega)
      clear hm HA
      have HB1 := hide (below_box wr (mCells m))
      have HC := hide (cells7_new wr m)
      unfold mCells at HB1 HC
      have HRow := hide ((HR.out.below HB.out (Nat.le_refl _)).below HB1.out (Nat.le_refl _))
      replace HZ := hide (HZ.out.step HB1.out)
      replace HB := hide (over HB.out HB1.out HB.out.size)
      clear HB1
      go_wp2_with fail
      clear a0 a1 a2 a3 a4 a5 a6
      refine (goodMaster_any m _).mono ?_
      rintro e W ⟨rfl, hb⟩
      rw [hg]
      replace HRow := hide (HRow.out.below hb (Nat.le_refl _))
      replace HZ := hide (HZ.out.step hb)
      replace HC := hide (HC.out.step hb)
      replace HB := hide (over HB.out hb HB.out.size)
      clear hb
      obtain ⟨k0, k1, k2, k3, k4, k5, k6, kl⟩ := HC.out
      go_wp2_with fail
      clear k0 k1 k2 k3 k4 k5 k6 kl
      refine (rmb_ok m _ hg).mono ?_
      rintro e W2 ⟨g, rfl, hgb, hown, hb⟩
      have HO := hide hown.row
      replace HRow := hide (HRow.out.below hb (Nat.le_refl _))
      replace HZ := hide (HZ.out.step hb)
      replace HC := hide (HC.out.step hb)
      replace HB := hide (over HB.out hb HB.out.size)
      clear hb hown hgb
      go_wp2_with fail
      refine (same_len _ _ _ xs _ _ _ (mastB m) _ HRow.out HO.out HN.out (length_mastB m)).mono ?_
      rintro e W3 ⟨rfl, nd, rfl⟩
      rw [hx]
      replace HZ := hide (HZ.out.drewN nd)
      replace HC := hide (HC.out.drewN nd)
      replace HB := hide (below_drewN HB.out nd)
      obtain ⟨X, hX⟩ : ∃ X, X = W2.drewN nd := ⟨_, rfl⟩
      rw [← hX] at HZ HC HB ⊢
      clear hX HO HRow
      have z0 : X.cell? ⟨w.heap.size, 0, none⟩ = some (.int .i64 0) := HZ.out.cell 0 (by omega)
      have f0 : X.frozen? ⟨w.heap.size, 0, none⟩ = false := HZ.out.fz 0
      have z1 : X.cell? ⟨w.heap.size, 1, none⟩ = some (.int .i64 0) := HZ.out.cell 1 (by omega)
      have f1 : X.frozen? ⟨w.heap.size, 1, none⟩ = false := HZ.out.fz 1
      have z2 : X.cell? ⟨w.heap.size, 2, none⟩ = some (.int .i64 0) := HZ.out.cell 2 (by omega)
      have f2 : X.frozen? ⟨w.heap.size, 2, none⟩ = false := HZ.out.fz 2
      have z3 : X.cell? ⟨w.heap.size, 3, none⟩ = some (.int .i64 0) := HZ.out.cell 3 (by omega)
      have f3 : X.frozen? ⟨w.heap.size, 3, none⟩ = false := HZ.out.fz 3
      have z4 : X.cell? ⟨w.heap.size, 4, none⟩ = some (.int .i64 0) := HZ.out.cell 4 (by omega)
      have f4 : X.frozen? ⟨w.heap.size, 4, none⟩ = false := HZ.out.fz 4
      have z5 : X.cell? ⟨w.heap.size, 5, none⟩ = some (.int .i64 0) := HZ.out.cell 5 (by omega)
      have f5 : X.frozen? ⟨w.heap.size, 5, none⟩ = false := HZ.out.fz 5
      have z6 : X.cell? ⟨w.heap.size, 6, none⟩ = some (.int .i64 0) := HZ.out.cell 6 (by omega)
      have f6 : X.frozen? ⟨w.heap.size, 6, none⟩ = false := HZ.out.fz 6
      go_wp2_with fail
      exact bodyPost_ret (v := .tuple #[.agg #[.int .i64 0, .int .i64 0, .int .i64 0, .int .i64 0, .int .i64 0, .int .i64 0, .int .i64 0], .int .i64 106]) (by simp [results, Tryd.results19, go_sem, *]) rfl ⟨rfl, below_sets7 HB.out _ _ _ _ _ _ _⟩
/-- What bytes are, told as a master and as an error's number. -/
def ansM (xs : List Int) : M := if xs.length = 256 ∧ isMast xs = true then saidM xs else noM
def ansMC (xs : List Int) : Int := if xs.length ≠ 256 then 103 else if isMast xs then 0 else 106
theorem ansM_cases (xs : List Int) : (xs.length ≠ 256 ∧ ansM xs = noM ∧ ansMC xs = 103) ∨ (xs.length = 256 ∧ isMast xs = true ∧ ansM xs = saidM xs ∧ ansMC xs = 0) ∨ (xs.length = 256 ∧ isMast xs = false ∧ ansM xs = noM ∧ ansMC xs = 106) := by
  by_cases hl : xs.length = 256
  · cases hb : isMast xs with
    | true => exact .inr (.inl ⟨hl, rfl, by simp [ansM, hl, hb], by simp [ansMC, hl, hb]⟩)
    | false => exact .inr (.inr ⟨hl, rfl, by simp [ansM, hb], by simp [ansMC, hl, hb]⟩)
  · exact .inl ⟨hl, by simp [ansM, hl], by simp [ansMC, hl]⟩
theorem sameB_comm (xs ys : List Int) : sameB xs ys = sameB ys xs := by unfold sameB; exact decide_eq_decide.2 ⟨Eq.symm, Eq.symm⟩
theorem mread_uni {ao : Option Addr} {n cap : Nat} {xs : List Int} {w : World} {a : Nat → Addr} (hE : MastErrs w (a 1) (a 2) (a 5)) (h : Row w ao xs) (hn : xs.length = n) :
    Calls Tryd.prog 18 #[.slice ao n cap] w fun r w' => ∃ fv, r = .returned (.tuple #[(ansM xs).val, fv]) ∧ ErrCode a fv (ansMC xs) ∧ Below w.heap.size w w' := by
  rcases ansM_cases xs with ⟨h1, h2, h3⟩ | ⟨h1, hi, h2, h3⟩ | ⟨h1, hi, h2, h3⟩
  · rw [h2, h3]
    exact (mread_short ao n cap w hE (by omega)).mono fun r w' hh => ⟨_, hh.1, .inr ⟨2, by omega, rfl, by omega⟩, hh.2⟩
  · rw [h2, h3]
    rw [h1] at hn
    subst hn
    exact (mread_ok ao cap xs w h hE h1 hi).mono fun r w' hh => ⟨_, hh.1, .inl ⟨rfl, rfl⟩, hh.2⟩
  · rw [h2, h3]
    rw [h1] at hn
    subst hn
    exact (mread_bad ao cap xs w h hE h1 hi).mono fun r w' hh => ⟨_, hh.1, .inr ⟨5, by omega, rfl, by omega⟩, hh.2⟩
theorem rmread_uni {ao : Option Addr} {n cap : Nat} {xs : List Int} {w : World} (h : Row w ao xs) (hn : xs.length = n) :
    Calls Tryd.prog 19 #[.slice ao n cap] w fun r w' => r = .returned (.tuple #[(ansM xs).val, .int .i64 (ansMC xs)]) ∧ Below w.heap.size w w' := by
  rcases ansM_cases xs with ⟨h1, h2, h3⟩ | ⟨h1, hi, h2, h3⟩ | ⟨h1, hi, h2, h3⟩
  · rw [h2, h3]
    exact rmread_short ao n cap w (by omega)
  · rw [h2, h3]
    rw [h1] at hn
    subst hn
    unfold isMast at hi
    simp only [Bool.and_eq_true, decide_eq_true_eq] at hi
    exact rmread_ok ao cap xs w h h1 hi.1 (by unfold sameB; exact decide_eq_true hi.2.symm)
  · rw [h2, h3]
    rw [h1] at hn
    subst hn
    cases hg : okM (saidM xs) with
    | false => exact rmread_bad1 ao cap xs w h h1 hg
    | true =>
      refine rmread_bad2 ao cap xs w h h1 hg ?_
      unfold isMast at hi
      rw [hg, Bool.true_and] at hi
      rw [sameB_comm]
      exact hi
theorem ok_mfirst : okM ⟨1, 0, 1, 0, 1, 1, 1⟩ = true := by decide
set_option maxRecDepth 100000 in
set_option maxHeartbeats 1000000 in
theorem mfirst_any (w : World) {a : Nat → Addr} (he : ErrsOf w all18 a) : Calls Tryd.prog 7 #[] w fun e w' => e = .returned (.bool true) ∧ Below w.heap.size w w' := by
  obtain ⟨i0, hi, hz0, hz1, hz2⟩ := info_parts Tryd.info5
  have HW := hide he
  clear he
  go_enter Tryd.func7, Tryd.ntmps7
  go_wp2_with (at_make; refine wpList_make_full w rfl (.const (.int .i64 256)) (.const (.int .i64 256)) 24 rfl w.heap.size 5 i0 (.int .u8 0) 1 Tryd.underlying24 hi hz0 hz1 .i64 .i64 256 256 256 rfl rfl rfl rfl (by rw [hz2]; omega) (by unfold maxLen; omega) (Nat.le_refl _) ?_; intro w1 hown hgr; have HB : Hid (Below w.heap.size w w1) := (Below.refl _ _).grown hgr (Nat.le_refl _) (by simp); have HO := hide (own_made hown (by omega)); clear hown hgr)
  have HE := hide (errs_mast (HW.out.step HB.out) (mem18 (by omega)) (mem18 (by omega)) (mem18 (by omega)))
  refine (mread_bad _ _ (List.replicate 256 0) _ HO.out.row HE.out (List.length_replicate ..) zeros_mast).mono ?_
  rintro e w2 ⟨rfl, hb⟩
  replace HB := hide (over HB.out hb HB.out.size)
  clear hb HO HE
  unfold M.val noM
  have HB1 := hide (over HB.out (below_box w2 (mCells noM)) HB.out.size)
  unfold mCells noM at HB1
  have HI := hide (fun w' (h : Below w.heap.size w w') => is_err w' a 5 (by omega) 106 (by omega) (HW.out.step h))
  unfold errV at HI ⊢
  go_wp2_with fail
  refine (HI.out _ HB1.out).mono ?_
  rintro e w3 ⟨rfl, hb⟩
  replace HB := hide (over HB1.out hb HB1.out.size)
  clear hb HB1 HI
  go_wp2_with fail
  refine (mcheck_any ⟨1, 0, 1, 0, 1, 1, 1⟩ _ (a 1) ((HW.out.step HB.out).cell 1 (mem18 (by omega)))).mono ?_
  rintro e w4 ⟨rfl, hb⟩
  rw [checkMV_ok ok_mfirst]
  replace HB := hide (over HB.out hb HB.out.size)
  clear hb
  go_wp2_with fail
  go_ret
  exact ⟨rfl, HB.out⟩
/-- A master that came in. -/
theorem Tryd.cellsOf23 : Tryd.prog.cellsOf 23 = 7 := by kernel_rfl
theorem Tryd.cellsOfI3 : Tryd.prog.cellsOf 3 = 1 := by kernel_rfl
theorem array7 {α : Type} {cs : Array α} (h : cs.size = 7) : ∃ c0 c1 c2 c3 c4 c5 c6, cs = #[c0, c1, c2, c3, c4, c5, c6] := by
  obtain ⟨l⟩ := cs
  match l, h with
  | [c0, c1, c2, c3, c4, c5, c6], _ => exact ⟨c0, c1, c2, c3, c4, c5, c6, rfl⟩
theorem open_mast {H : Type} {enc : TypeId × Value → H} {W : World} {base : Nat} {spare : Nat → Bool} {held : Bool} {rr : Reach} {b0 : Nat} {v : Value} {d : DataW H} {p : List MemPlace} (hv : Value.okWide Tryd.prog W rr b0 23 v) (h : DataW.Trod enc Tryd.prog W base spare held 23 v d p) : ∃ m : M, v = m.val := by
  obtain ⟨cs, rfl, hsz⟩ := okWide_struct Tryd.underlying23 hv
  obtain ⟨c0, c1, c2, c3, c4, c5, c6, rfl⟩ := array7 (hsz.trans Tryd.cellsOf23)
  obtain ⟨fuel, hf⟩ := h
  obtain ⟨xs, n, _, _, _, hl, hx⟩ := DataW.trod_struct Tryd.underlying23 hf
  have hl7 : xs.length = 7 := hl
  match xs, hl7 with
  | [y0, y1, y2, y3, y4, y5, y6], _ =>
    have k0 := hx 0 _ rfl
    have h0 := fld 3 0 c0 k0 Tryd.cellsOfI3 rfl
    obtain ⟨n0, e0, _⟩ := DataW.trod_int Tryd.underlying3 h0
    have k1 := hx 1 _ rfl
    have h1 := fld 3 1 c1 k1 Tryd.cellsOfI3 rfl
    obtain ⟨n1, e1, _⟩ := DataW.trod_int Tryd.underlying3 h1
    have k2 := hx 2 _ rfl
    have h2 := fld 3 2 c2 k2 Tryd.cellsOfI3 rfl
    obtain ⟨n2, e2, _⟩ := DataW.trod_int Tryd.underlying3 h2
    have k3 := hx 3 _ rfl
    have h3 := fld 3 3 c3 k3 Tryd.cellsOfI3 rfl
    obtain ⟨n3, e3, _⟩ := DataW.trod_int Tryd.underlying3 h3
    have k4 := hx 4 _ rfl
    have h4 := fld 3 4 c4 k4 Tryd.cellsOfI3 rfl
    obtain ⟨n4, e4, _⟩ := DataW.trod_int Tryd.underlying3 h4
    have k5 := hx 5 _ rfl
    have h5 := fld 3 5 c5 k5 Tryd.cellsOfI3 rfl
    obtain ⟨n5, e5, _⟩ := DataW.trod_int Tryd.underlying3 h5
    have k6 := hx 6 _ rfl
    have h6 := fld 3 6 c6 k6 Tryd.cellsOfI3 rfl
    obtain ⟨n6, e6, _⟩ := DataW.trod_int Tryd.underlying3 h6
    simp only [List.cons.injEq, and_true] at e0 e1 e2 e3 e4 e5 e6
    subst e0 e1 e2 e3 e4 e5 e6
    exact ⟨⟨n0, n1, n2, n3, n4, n5, n6⟩, rfl⟩
end Go.Proofs.YtjdfmpdkfbhdkaaDoor
