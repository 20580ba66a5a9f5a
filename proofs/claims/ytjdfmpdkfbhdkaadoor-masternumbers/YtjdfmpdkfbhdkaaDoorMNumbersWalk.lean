
/- What the statement MasterNumbers asks comes out true, at every master; nothing that was there is written. -/
import Derived.Test.YtjdfmpdkfbhdkaaDoorMastTools
namespace Go.Proofs.YtjdfmpdkfbhdkaaDoor.masterNumbers
open Go.RowKit
set_option linter.unusedVariables false

theorem str_mark : strOfNums [80, 72, 88, 77] = { data := #[80, 72, 88, 77] } := by decide
theorem num_zero (f : Int → Int) : num f 0 = 0 := rfl
set_option maxRecDepth 100000 in
set_option maxHeartbeats 16000000 in
theorem walk (a0 : M) (w : World) {a : Nat → Addr} (he : ErrsOf w all18 a) :
    Calls Tryd.prog 6 #[a0.val] w fun e w' => e = .returned (.bool true) ∧ Below w.heap.size w w' := by
  have HW := hide he
  clear he
  obtain ⟨hbox, hbel⟩ := box7 w a0
  obtain ⟨X, hX⟩ : ∃ X, X = w.alloc (mCells a0) := ⟨_, rfl⟩
  rw [← hX] at hbox hbel
  have HX : Hid (w.alloc (.cells #[.int .i64 a0.e, .int .i64 a0.b, .int .i64 a0.r, .int .i64 a0.c, .int .i64 a0.p, .int .i64 a0.k, .int .i64 a0.f] 23) = X) := hX.symm
  have HA := hide hbox
  have HB := hide hbel
  obtain ⟨B, hB⟩ : ∃ B, B = w.heap.size := ⟨_, rfl⟩
  have HBE := hide hB
  rw [← hB] at HA
  clear hbox hbel hX hB
  unfold M.val
  go_enter Tryd.func6, Tryd.ntmps6
  go_wp2_with fail
  rw [HX.out, ← HBE.out]
  clear HX
  refine (mfirst_any _ (HW.out.step HB.out)).mono ?_
  rintro e x1 ⟨rfl, hb⟩
  replace HA := hide (HA.out.step hb)
  replace HB := hide (over HB.out hb HB.out.size)
  clear hb
  obtain ⟨k0, k1, k2, k3, k4, k5, k6, kl⟩ := HA.out.cells
  go_wp2_with fail
  clear k0 k1 k2 k3 k4 k5 k6 kl
  refine (good_any a0 _).mono ?_
  rintro e x2 ⟨rfl, hb⟩
  replace HA := hide (HA.out.step hb)
  replace HB := hide (over HB.out hb HB.out.size)
  clear hb
  have HOK := hide (goodM_ok a0)
  obtain ⟨m, hm⟩ : ∃ m, m = goodM a0 := ⟨_, rfl⟩
  rw [← hm] at HOK ⊢
  clear hm
  have z0 := HA.out.cell 0 (by omega)
  have f0 := HA.out.fz 0
  have z1 := HA.out.cell 1 (by omega)
  have f1 := HA.out.fz 1
  have z2 := HA.out.cell 2 (by omega)
  have f2 := HA.out.fz 2
  have z3 := HA.out.cell 3 (by omega)
  have f3 := HA.out.fz 3
  have z4 := HA.out.cell 4 (by omega)
  have f4 := HA.out.fz 4
  have z5 := HA.out.cell 5 (by omega)
  have f5 := HA.out.fz 5
  have z6 := HA.out.cell 6 (by omega)
  have f6 := HA.out.fz 6
  unfold M.val
  go_upto_region 5 with fail
  clear z0 z1 z2 z3 z4 z5 z6 f0 f1 f2 f3 f4 f5 f6
  have HA2 := hide (HA.out.put7 m)
  have HB2 := hide (below_put7 HB.out (Nat.le_of_eq HBE.out.symm) m)
  unfold put7 at HA2 HB2
  obtain ⟨x3, hx3⟩ : ∃ x3, x3 = ((((((x2.setCell ⟨B, 0, none⟩ (.int .i64 m.e)).setCell ⟨B, 1, none⟩ (.int .i64 m.b)).setCell ⟨B, 2, none⟩ (.int .i64 m.r)).setCell ⟨B, 3, none⟩ (.int .i64 m.c)).setCell ⟨B, 4, none⟩ (.int .i64 m.p)).setCell ⟨B, 5, none⟩ (.int .i64 m.k)).setCell ⟨B, 6, none⟩ (.int .i64 m.f) := ⟨_, rfl⟩
  rw [← hx3] at HA2 HB2 ⊢
  clear hx3 HA HB
  obtain ⟨k0, k1, k2, k3, k4, k5, k6, kl⟩ := HA2.out.cells
  go_wp2_with fail
  clear k0 k1 k2 k3 k4 k5 k6 kl
  refine (mb_ok m _ (a 1) ((HW.out.step HB2.out).cell 1 (mem18 (by omega))) HOK.out).mono ?_
  rintro e x4 ⟨g, rfl, hg, hown, hb⟩
  have HO := hide hown
  replace HA2 := hide (HA2.out.step hb)
  replace HB2 := hide (over HB2.out hb HB2.out.size)
  clear hown hg hb
  have HLB := hide (length_mastB m)
  have HOUT : Hid (∀ p : Nat, 32 ≤ p → (mastB m).getD p 0 = 0) := by intro p hp; rw [← byteAt_nat]; exact mastB_out m p (by omega)
  have HMK : Hid (∀ p : Nat, p < 4 → (mastB m).getD p 0 = byteAt [80, 72, 88, 77] p) := by intro p hp; rw [← byteAt_nat]; exact mastB_mark m p (by omega)
  have HGT := hide (fun j hj => nth_mastB HOK.out j hj)
  have HBY := hide (bytes_mastB m)
  obtain ⟨bs, hbs⟩ : ∃ bs, bs = mastB m := ⟨_, rfl⟩
  rw [← hbs] at HO HLB HOUT HMK HGT HBY
  clear hbs
  have c0 : x4.cell? ⟨g, 0, none⟩ = some (.int .u8 80) := by rw [HO.out.cell 0 (by rw [HLB.out]; omega), HMK.out 0 (by omega)]; rfl
  have c1 : x4.cell? ⟨g, 1, none⟩ = some (.int .u8 72) := by rw [HO.out.cell 1 (by rw [HLB.out]; omega), HMK.out 1 (by omega)]; rfl
  have c2 : x4.cell? ⟨g, 2, none⟩ = some (.int .u8 88) := by rw [HO.out.cell 2 (by rw [HLB.out]; omega), HMK.out 2 (by omega)]; rfl
  have c3 : x4.cell? ⟨g, 3, none⟩ = some (.int .u8 77) := by rw [HO.out.cell 3 (by rw [HLB.out]; omega), HMK.out 3 (by omega)]; rfl
  have kc : (convert 24 9 (.slice (some ⟨g, 0, none⟩) 4 256)).run Tryd.prog x4 = .ok (.string { data := #[80, 72, 88, 77] }) x4 := by
    have h := run_convert_bytes_arg (P := Tryd.prog) x4 24 5 Tryd.underlying24 Tryd.underlying5 g 0 4 256 [80, 72, 88, 77] rfl (fun i hi => by rcases (show i = 0 ∨ i = 1 ∨ i = 2 ∨ i = 3 by omega) with rfl | rfl | rfl | rfl; exact c0; exact c1; exact c2; exact c3) 9 Tryd.underlying9
    rw [str_mark] at h
    exact h
  clear c0 c1 c2 c3
  obtain ⟨k0, k1, k2, k3, k4, k5, k6, kl⟩ := HA2.out.cells
  have HB1 := hide (below_box x4 (.cells #[.int .i64 m.e, .int .i64 m.b, .int .i64 m.r, .int .i64 m.c, .int .i64 m.p, .int .i64 m.k, .int .i64 m.f] 3))
  have HL := hide (fun k hk => cells7_slice (w := x4) (m := m) (k := k) hk)
  obtain ⟨Y, hY⟩ : ∃ Y, Y = x4.alloc (.cells #[.int .i64 m.e, .int .i64 m.b, .int .i64 m.r, .int .i64 m.c, .int .i64 m.p, .int .i64 m.k, .int .i64 m.f] 3) := ⟨_, rfl⟩
  have HYE := hide hY
  have HLT : Hid (x4.heap.size < Y.heap.size) := by show x4.heap.size < Y.heap.size; rw [hY]; simp
  rw [← hY] at HB1 HL
  clear hY
  replace HO := hide (HO.out.below HB1.out (Nat.le_refl _))
  replace HB2 := hide (over HB2.out HB1.out HB2.out.size)
  clear HB1
  go_wp2_with fail
  clear k0 k1 k2 k3 k4 k5 k6 kl kc
  rw [← HYE.out]
  obtain ⟨G, hG⟩ : ∃ G, G = x4.heap.size := ⟨_, rfl⟩
  rw [← hG] at HLT HL ⊢
  clear hG HYE HA2
  go_loop [7] (fun i => ∃ j : Nat, j ≤ 7 ∧ i = .int .i64 j) (fun i => 7 - (intOf i).toNat)
  case atStart => exact ⟨0, by omega, rfl⟩
  case round =>
    obtain ⟨j, hj, rfl⟩ := hrel
    by_cases hlt : j < 7
    · have hji : (j : Int) < 7 := by omega
      have HLJ := hide (HL.out j hlt)
      have HGJ := hide (HGT.out j hlt)
      go_wp2_with fail
      go_loop [8, 9] (fun n i => ∃ k : Nat, k ≤ 4 ∧ i = .int .i64 (3 - k) ∧ n = .int .i64 (num (fun t => byteAt bs (4 + 4 * (j : Int) + (4 - k) + t)) k)) (fun _ i => (intOf i + 1).toNat)
      case atStart => exact ⟨0, by omega, by go_num, rfl⟩
      case round =>
        obtain ⟨k, hk, rfl, rfl⟩ := hrel
        by_cases hlt2 : k < 4
        · have hki : (k : Int) < 4 := by omega
          have hbd := num_bd (f := fun t => byteAt bs (4 + 4 * (j : Int) + (4 - k) + t)) k (fun t => HBY.out.byte _)
          have HS := get_step bs (4 + 4 * (j : Int)) 4 k
          obtain ⟨Z, hZ⟩ : ∃ Z, Z = num (fun t => byteAt bs (4 + 4 * (j : Int) + (4 - k) + t)) k := ⟨_, rfl⟩
          rw [← hZ] at hbd HS ⊢
          have HGs : Hid (num (fun t => byteAt bs (4 + 4 * (j : Int) + (4 - (k + 1 : Nat)) + t)) (k + 1) = byteAt bs (4 + 4 * (j : Int) + (4 - 1 - k)) + 256 * Z) := HS
          clear HS hZ
          obtain ⟨hz0, hz1⟩ := hbd
          have hz2 : Z < 16777216 := by
            have h3 : (256 : Int) ^ k ≤ 256 ^ 3 := by
              rcases (show k = 0 ∨ k = 1 ∨ k = 2 ∨ k = 3 by omega) with rfl | rfl | rfl | rfl <;> decide
            have h4 : (256 : Int) ^ 3 = 16777216 := by decide
            omega
          clear hz1
          have hcp := HO.out.cell (4 + 4 * j + (3 - k)) (by rw [HLB.out]; omega)
          have hby := HBY.out.getD (4 + 4 * j + (3 - k))
          have HY : Hid (byteAt bs (4 + 4 * (j : Int) + (4 - 1 - k)) = bs.getD (4 + 4 * j + (3 - k)) 0) := by
            show byteAt bs _ = _
            rw [← byteAt_nat, show 4 + 4 * (j : Int) + (4 - 1 - k) = ((4 + 4 * j + (3 - k) : Nat) : Int) by omega]
          obtain ⟨y, hy⟩ : ∃ y, y = bs.getD (4 + 4 * j + (3 - k)) 0 := ⟨_, rfl⟩
          rw [← hy] at hcp hby HY
          obtain ⟨hy0, hy1⟩ := hby
          clear hy
          go_wp2_with fail
          go_round
          case rel => exact ⟨k + 1, by omega, by go_num, by rw [HGs.out, HY.out]; go_num⟩
          case measure => simp [intOf]; omega
        · have hki : k = 4 := by omega
          subst hki
          have HEQ : Hid (num (fun t => byteAt bs (4 + 4 * (j : Int) + (4 - (4 : Nat)) + t)) 4 = m.nth j) := by
            show num _ 4 = _
            rw [← HGJ.out]
            unfold getB
            refine num_congr 4 fun t _ _ => ?_
            congr 1
          rw [HEQ.out]
          have hcell := HLJ.out
          obtain ⟨n, hn⟩ : ∃ n, n = m.nth j := ⟨_, rfl⟩
          rw [← hn] at hcell ⊢
          clear hn hlt2 hk
          have hnn : (n != n) = false := by simp
          go_wp2_with fail
          go_round
          case rel => exact ⟨j + 1, by omega, by go_num⟩
          case measure => simp [intOf]; omega
    · have hji : decide ((j : Int) < 7) = false := by simp; omega
      clear hlt hj
      go_wp2_with fail
      go_loop [10] (fun i => ∃ p : Nat, 32 ≤ p ∧ p ≤ 256 ∧ i = .int .i64 p) (fun i => 256 - (intOf i).toNat)
      case atStart => exact ⟨32, by omega, by omega, rfl⟩
      case round =>
        obtain ⟨p, hp, hp2, rfl⟩ := hrel
        by_cases hlt : p < 256
        · have hpi : (p : Int) < 256 := by omega
          have hcp := HO.out.cell p (by rw [HLB.out]; exact hlt)
          rw [HOUT.out p hp] at hcp
          go_wp2_with fail
          go_round
          case rel => exact ⟨p + 1, by omega, by omega, by go_num⟩
          case measure => simp [intOf]; omega
        · have hpi : decide ((p : Int) < 256) = false := by simp; omega
          clear hlt hp hp2
          go_wp2_with fail
          go_ret
          exact ⟨rfl, HB2.out⟩
end Go.Proofs.YtjdfmpdkfbhdkaaDoor.masterNumbers
