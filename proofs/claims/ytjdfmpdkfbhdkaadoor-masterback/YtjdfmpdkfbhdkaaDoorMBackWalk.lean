
/- What the statement MasterBack asks comes out true, at every master, number and bool; nothing that was there is written. -/
import Derived.Test.YtjdfmpdkfbhdkaaDoorMastTools
namespace Go.Proofs.YtjdfmpdkfbhdkaaDoor.masterBack
open Go.RowKit
set_option linter.unusedVariables false

theorem no0 (m : M) : okM (m.put 0 0) = false := by simp [okM, M.put, holdsB]
theorem no1 (m : M) : okM (m.put 1 (-1)) = false := by simp [okM, M.put, holdsB]
theorem no1b (m : M) : okM ((m.put 1 (-1)).put 1 1073741825) = false := by simp [okM, M.put, holdsB]
theorem no2 (m : M) : okM (m.put 2 0) = false := by simp [okM, M.put, holdsB]
theorem no2b (m : M) : okM ((m.put 2 0).put 2 (m.e + 1)) = false := by
  have h : holdsB 1 m.e (m.e + 1) = false := by
    unfold holdsB
    rw [show decide (m.e + 1 ≤ m.e) = false from decide_eq_false (by omega), Bool.and_false]
  simp [okM, M.put, h]
theorem no3 (m : M) (h : 0 ≤ m.b) : okM (m.put 3 (-1)) = false := by
  have h1 : ckM (m.put 3 (-1)) = false := by simp [ckM, M.put]; intros; omega
  simp [okM, h1]
theorem no3b (m : M) : okM ((m.put 3 (-1)).put 3 1073741825) = false := by
  have h1 : ckM ((m.put 3 (-1)).put 3 1073741825) = false := by simp [ckM, M.put]
  simp [okM, h1]
theorem no4 (m : M) : okM (m.put 4 0) = false := by simp [okM, M.put, holdsB]
theorem no4b (m : M) : okM ((m.put 4 0).put 4 33) = false := by simp [okM, M.put, holdsB]
theorem no5 (m : M) : okM (m.put 5 0) = false := by simp [okM, M.put, holdsB]
theorem no5b (m : M) : okM ((m.put 5 0).put 5 65) = false := by simp [okM, M.put, holdsB]
theorem no6 (m : M) : okM (m.put 6 0) = false := by simp [okM, M.put, holdsB]
theorem no6b (m : M) : okM ((m.put 6 0).put 6 9) = false := by simp [okM, M.put, holdsB]
set_option maxRecDepth 100000 in
set_option maxHeartbeats 16000000 in
theorem walk (a0 : M) (a1 : Int) (a2 : Bool) (w : World) (w1 : (Lit.int .i64 a1).wf = true) {a : Nat → Addr} (he : ErrsOf w all18 a) :
    Calls Tryd.prog 4 #[a0.val, .int .i64 a1, .bool a2] w fun e w' => e = .returned (.bool true) ∧ Below w.heap.size w w' := by
  have HW := hide he
  clear he
  obtain ⟨hbox, hbel⟩ := box7 w a0
  obtain ⟨X, hX⟩ : ∃ X, X = w.alloc (mCells a0) := ⟨_, rfl⟩
  rw [← hX] at hbox hbel
  have HX : Hid (w.alloc (.cells #[.int .i64 a0.e, .int .i64 a0.b, .int .i64 a0.r, .int .i64 a0.c, .int .i64 a0.p, .int .i64 a0.k, .int .i64 a0.f] 23) = X) := hX.symm
  have HA := hide hbox
  have HB := hide hbel
  obtain ⟨B, hB⟩ : ∃ B, B = w.heap.size := ⟨_, rfl⟩
  have HBE := hide hB
  rw [← hB] at HA
  clear hbox hbel hX hB
  unfold M.val
  go_enter Tryd.func4, Tryd.ntmps4
  go_wp2_with fail
  rw [HX.out, ← HBE.out]
  clear HX
  refine (mfirst_any _ (HW.out.step HB.out)).mono ?_
  rintro e x1 ⟨rfl, hb⟩
  replace HA := hide (HA.out.step hb)
  replace HB := hide (over HB.out hb HB.out.size)
  clear hb
  obtain ⟨k0, k1, k2, k3, k4, k5, k6, kl⟩ := HA.out.cells
  go_wp2_with fail
  clear k0 k1 k2 k3 k4 k5 k6 kl
  refine (good_any a0 _).mono ?_
  rintro e x2 ⟨rfl, hb⟩
  replace HA := hide (HA.out.step hb)
  replace HB := hide (over HB.out hb HB.out.size)
  clear hb
  have HOK := hide (goodM_ok a0)
  obtain ⟨m, hm⟩ : ∃ m, m = goodM a0 := ⟨_, rfl⟩
  rw [← hm] at HOK ⊢
  clear hm
  have z0 := HA.out.cell 0 (by omega)
  have f0 := HA.out.fz 0
  have z1 := HA.out.cell 1 (by omega)
  have f1 := HA.out.fz 1
  have z2 := HA.out.cell 2 (by omega)
  have f2 := HA.out.fz 2
  have z3 := HA.out.cell 3 (by omega)
  have f3 := HA.out.fz 3
  have z4 := HA.out.cell 4 (by omega)
  have f4 := HA.out.fz 4
  have z5 := HA.out.cell 5 (by omega)
  have f5 := HA.out.fz 5
  have z6 := HA.out.cell 6 (by omega)
  have f6 := HA.out.fz 6
  unfold M.val
  go_upto_region 5 with fail
  clear z0 z1 z2 z3 z4 z5 z6 f0 f1 f2 f3 f4 f5 f6
  have HA2 := hide (HA.out.put7 m)
  have HB2 := hide (below_put7 HB.out (Nat.le_of_eq HBE.out.symm) m)
  unfold put7 at HA2 HB2
  obtain ⟨x3, hx3⟩ : ∃ x3, x3 = ((((((x2.setCell ⟨B, 0, none⟩ (.int .i64 m.e)).setCell ⟨B, 1, none⟩ (.int .i64 m.b)).setCell ⟨B, 2, none⟩ (.int .i64 m.r)).setCell ⟨B, 3, none⟩ (.int .i64 m.c)).setCell ⟨B, 4, none⟩ (.int .i64 m.p)).setCell ⟨B, 5, none⟩ (.int .i64 m.k)).setCell ⟨B, 6, none⟩ (.int .i64 m.f) := ⟨_, rfl⟩
  rw [← hx3] at HA2 HB2 ⊢
  clear hx3 HA HB
  obtain ⟨k0, k1, k2, k3, k4, k5, k6, kl⟩ := HA2.out.cells
  go_wp2_with fail
  clear k0 k1 k2 k3 k4 k5 k6 kl
  refine (mb_ok m _ (a 1) ((HW.out.step HB2.out).cell 1 (mem18 (by omega))) HOK.out).mono ?_
  rintro e x4 ⟨g, rfl, hg, hown, hb⟩
  have HO := hide hown
  replace HA2 := hide (HA2.out.step hb)
  replace HB2 := hide (over HB2.out hb HB2.out.size)
  clear hown hg hb
  replace HO := hide HO.out.row
  have HLB := hide (length_mastB m)
  have HIM := hide (isMast_mastB HOK.out)
  have HSM := hide (said_mastB ((okM_iff m).1 HOK.out))
  obtain ⟨bs, hbs⟩ : ∃ bs, bs = mastB m := ⟨_, rfl⟩
  rw [← hbs] at HO HLB HIM HSM
  clear hbs
  have HE : Hid (∀ x, Below w.heap.size w x → MastErrs x (a 1) (a 2) (a 5)) := fun x hb => errs_mast (HW.out.step hb) (mem18 (by omega)) (mem18 (by omega)) (mem18 (by omega))
  go_wp2_with fail
  refine (mread_ok _ _ bs _ HO.out (HE.out _ HB2.out) HLB.out HIM.out).mono ?_
  rintro e x5 ⟨rfl, hb⟩
  rw [HSM.out]
  have HC := hide (cells7_new x5 m)
  have hbx := hb.trans ((below_box x5 (mCells m)).mono hb.size)
  unfold mCells at HC hbx
  replace HA2 := hide (HA2.out.step hbx)
  replace HB2 := hide (over HB2.out hbx HB2.out.size)
  replace HO := hide (HO.out.below hbx (Nat.le_refl _))
  obtain ⟨X5, hX5⟩ : ∃ X5, X5 = x5.alloc (.cells #[.int .i64 m.e, .int .i64 m.b, .int .i64 m.r, .int .i64 m.c, .int .i64 m.p, .int .i64 m.k, .int .i64 m.f] 23) := ⟨_, rfl⟩
  rw [← hX5] at HC HA2 HB2 HO
  have HX5 := hide hX5.symm
  clear hb hbx hX5 HIM HSM HLB
  unfold M.val
  go_wp2_with fail
  rw [HX5.out]
  clear HX5
  refine (mread_short _ _ _ _ (HE.out _ HB2.out) (by omega)).mono ?_
  rintro e x6 ⟨rfl, hb⟩
  have hbx := hb.trans ((below_box x6 (mCells noM)).mono hb.size)
  unfold mCells noM at hbx
  replace HA2 := hide (HA2.out.step hbx)
  replace HC := hide (HC.out.step hbx)
  replace HB2 := hide (over HB2.out hbx HB2.out.size)
  obtain ⟨X6, hX6⟩ : ∃ X6, X6 = x6.alloc (.cells #[.int .i64 0, .int .i64 0, .int .i64 0, .int .i64 0, .int .i64 0, .int .i64 0, .int .i64 0] 23) := ⟨_, rfl⟩
  rw [← hX6] at HC HA2 HB2
  have HX6 := hide hX6.symm
  clear hb hbx hX6 HO
  unfold M.val noM
  obtain ⟨fv, hfv⟩ : ∃ fv, fv = errV (a 2) := ⟨_, rfl⟩
  have HFV := hide hfv
  have HC0 := hide HC.out
  obtain ⟨BX, hBX⟩ : ∃ BX, BX = x5.heap.size := ⟨_, rfl⟩
  rw [← hBX] at HC0
  rw [← hfv]
  clear hfv
  go_upto_region 8 with fail
  rw [HX6.out, ← hBX]
  clear hBX HX6 HC
  obtain ⟨k0, k1, k2, k3, k4, k5, k6, kl⟩ := HA2.out.cells
  obtain ⟨q0, q1, q2, q3, q4, q5, q6, ql⟩ := HC0.out
  go_wp2_with fail
  clear k0 k1 k2 k3 k4 k5 k6 kl q0 q1 q2 q3 q4 q5 q6 ql
  refine (sameMaster_any m m _).mono ?_
  rintro e x7 ⟨rfl, hb⟩
  rw [sameM_refl]
  replace HA2 := hide (HA2.out.step hb)
  replace HB2 := hide (over HB2.out hb HB2.out.size)
  clear hb HC0
  go_wp2_with fail
  rw [HFV.out]
  refine (is_err _ a 2 (by omega) _ (by omega) (HW.out.step HB2.out)).mono ?_
  rintro e x8 ⟨rfl, hb⟩
  replace HA2 := hide (HA2.out.step hb)
  replace HB2 := hide (over HB2.out hb HB2.out.size)
  clear hb HFV
  have HR : Hid (∀ x, Below w.heap.size w x → x.cell? ⟨0, 0, none⟩ = some (errV (a 1))) := fun x hb => (HE.out x hb).range
  have HBB := hide (Nat.le_of_eq HBE.out.symm)
  have HB0 := hide ((okM_iff m).1 HOK.out).b.1
  go_wp2_with fail
  refine (number_any _ _ _ (by omega) (by omega)).mono ?_
  rintro e Y ⟨rfl, rfl⟩
  have hp := numberB_bd a1 7 (by omega)
  obtain ⟨p, hp'⟩ : ∃ p, p = numberB a1 7 := ⟨_, rfl⟩
  rw [← hp'] at hp ⊢
  have hp7 : p = 0 ∨ p = 1 ∨ p = 2 ∨ p = 3 ∨ p = 4 ∨ p = 5 ∨ p = 6 := by omega
  have HE1 := hide ((okM_iff m).1 HOK.out).e
  clear hp hp' HE HOK
  rcases hp7 with rfl | rfl | rfl | rfl | rfl | rfl | rfl
  · have z := HA2.out.cell 0 (by omega)
    have f := HA2.out.fz 0
    go_upto_region 37 with fail
    clear z f
    have HAn := hide (HA2.out.put 0 (by omega) 0)
    have HBn := hide (HB2.out.setCell (p := ⟨B, 0, none⟩) HBB.out (.int .i64 0))
    have HNo := hide (no0 m)
    obtain ⟨Z, hZ⟩ : ∃ Z, Z = (Y.setCell ⟨B, 0, none⟩ (.int .i64 0)) := ⟨_, rfl⟩
    rw [← hZ] at HAn HBn ⊢
    obtain ⟨n, hn⟩ : ∃ n, n = (m.put 0 0) := ⟨_, rfl⟩
    rw [← hn] at HAn HNo
    clear hZ hn HA2 HB2 HB0 HE1
    obtain ⟨k0, k1, k2, k3, k4, k5, k6, kl⟩ := HAn.out.cells
    go_wp2_with fail
    clear k0 k1 k2 k3 k4 k5 k6 kl
    refine (mb_bad n _ (a 1) (HR.out _ HBn.out) HNo.out).mono ?_
    rintro e y1 ⟨rfl, hb⟩
    replace HAn := hide (HAn.out.step hb)
    replace HBn := hide (over HBn.out hb HBn.out.size)
    clear hb
    go_wp2_with fail
    refine (is_err _ a 1 (by omega) _ (by omega) (HW.out.step HBn.out)).mono ?_
    rintro e y2 ⟨rfl, hb⟩
    replace HAn := hide (HAn.out.step hb)
    replace HBn := hide (over HBn.out hb HBn.out.size)
    clear hb
    obtain ⟨k0, k1, k2, k3, k4, k5, k6, kl⟩ := HAn.out.cells
    go_wp2_with fail
    clear k0 k1 k2 k3 k4 k5 k6 kl
    refine (mcheck_any n _ (a 1) (HR.out _ HBn.out)).mono ?_
    rintro e y3 ⟨rfl, hb⟩
    rw [checkMV_no HNo.out]
    replace HBn := hide (over HBn.out hb HBn.out.size)
    clear hb HAn
    go_wp2_with fail
    refine (is_err _ a 1 (by omega) _ (by omega) (HW.out.step HBn.out)).mono ?_
    rintro e y4 ⟨rfl, hb⟩
    replace HBn := hide (over HBn.out hb HBn.out.size)
    clear hb
    go_wp2_with fail
    go_ret
    exact ⟨rfl, HBn.out⟩
  · cases a2 with
    | false =>
      have z := HA2.out.cell 1 (by omega)
      have f := HA2.out.fz 1
      go_upto_region 37 with fail
      clear z f
      have HAn := hide (HA2.out.put 1 (by omega) (-1))
      have HBn := hide (HB2.out.setCell (p := ⟨B, 1, none⟩) HBB.out (.int .i64 (-1)))
      have HNo := hide (no1 m)
      obtain ⟨Z, hZ⟩ : ∃ Z, Z = (Y.setCell ⟨B, 1, none⟩ (.int .i64 (-1))) := ⟨_, rfl⟩
      rw [← hZ] at HAn HBn ⊢
      obtain ⟨n, hn⟩ : ∃ n, n = (m.put 1 (-1)) := ⟨_, rfl⟩
      rw [← hn] at HAn HNo
      clear hZ hn HA2 HB2 HB0 HE1
      obtain ⟨k0, k1, k2, k3, k4, k5, k6, kl⟩ := HAn.out.cells
      go_wp2_with fail
      clear k0 k1 k2 k3 k4 k5 k6 kl
      refine (mb_bad n _ (a 1) (HR.out _ HBn.out) HNo.out).mono ?_
      rintro e y1 ⟨rfl, hb⟩
      replace HAn := hide (HAn.out.step hb)
      replace HBn := hide (over HBn.out hb HBn.out.size)
      clear hb
      go_wp2_with fail
      refine (is_err _ a 1 (by omega) _ (by omega) (HW.out.step HBn.out)).mono ?_
      rintro e y2 ⟨rfl, hb⟩
      replace HAn := hide (HAn.out.step hb)
      replace HBn := hide (over HBn.out hb HBn.out.size)
      clear hb
      obtain ⟨k0, k1, k2, k3, k4, k5, k6, kl⟩ := HAn.out.cells
      go_wp2_with fail
      clear k0 k1 k2 k3 k4 k5 k6 kl
      refine (mcheck_any n _ (a 1) (HR.out _ HBn.out)).mono ?_
      rintro e y3 ⟨rfl, hb⟩
      rw [checkMV_no HNo.out]
      replace HBn := hide (over HBn.out hb HBn.out.size)
      clear hb HAn
      go_wp2_with fail
      refine (is_err _ a 1 (by omega) _ (by omega) (HW.out.step HBn.out)).mono ?_
      rintro e y4 ⟨rfl, hb⟩
      replace HBn := hide (over HBn.out hb HBn.out.size)
      clear hb
      go_wp2_with fail
      go_ret
      exact ⟨rfl, HBn.out⟩
    | true =>
      have z := HA2.out.cell 1 (by omega)
      have f := HA2.out.fz 1
      go_upto_region 37 with fail
      clear z f
      have HAn := hide ((HA2.out.put 1 (by omega) (-1)).put 1 (by omega) 1073741825)
      have HBn := hide ((HB2.out.setCell (p := ⟨B, 1, none⟩) HBB.out (.int .i64 (-1))).setCell (p := ⟨B, 1, none⟩) HBB.out (.int .i64 1073741825))
      have HNo := hide (no1b m)
      obtain ⟨Z, hZ⟩ : ∃ Z, Z = ((Y.setCell ⟨B, 1, none⟩ (.int .i64 (-1))).setCell ⟨B, 1, none⟩ (.int .i64 1073741825)) := ⟨_, rfl⟩
      rw [← hZ] at HAn HBn ⊢
      obtain ⟨n, hn⟩ : ∃ n, n = ((m.put 1 (-1)).put 1 1073741825) := ⟨_, rfl⟩
      rw [← hn] at HAn HNo
      clear hZ hn HA2 HB2 HB0 HE1
      obtain ⟨k0, k1, k2, k3, k4, k5, k6, kl⟩ := HAn.out.cells
      go_wp2_with fail
      clear k0 k1 k2 k3 k4 k5 k6 kl
      refine (mb_bad n _ (a 1) (HR.out _ HBn.out) HNo.out).mono ?_
      rintro e y1 ⟨rfl, hb⟩
      replace HAn := hide (HAn.out.step hb)
      replace HBn := hide (over HBn.out hb HBn.out.size)
      clear hb
      go_wp2_with fail
      refine (is_err _ a 1 (by omega) _ (by omega) (HW.out.step HBn.out)).mono ?_
      rintro e y2 ⟨rfl, hb⟩
      replace HAn := hide (HAn.out.step hb)
      replace HBn := hide (over HBn.out hb HBn.out.size)
      clear hb
      obtain ⟨k0, k1, k2, k3, k4, k5, k6, kl⟩ := HAn.out.cells
      go_wp2_with fail
      clear k0 k1 k2 k3 k4 k5 k6 kl
      refine (mcheck_any n _ (a 1) (HR.out _ HBn.out)).mono ?_
      rintro e y3 ⟨rfl, hb⟩
      rw [checkMV_no HNo.out]
      replace HBn := hide (over HBn.out hb HBn.out.size)
      clear hb HAn
      go_wp2_with fail
      refine (is_err _ a 1 (by omega) _ (by omega) (HW.out.step HBn.out)).mono ?_
      rintro e y4 ⟨rfl, hb⟩
      replace HBn := hide (over HBn.out hb HBn.out.size)
      clear hb
      go_wp2_with fail
      go_ret
      exact ⟨rfl, HBn.out⟩
  · cases a2 with
    | false =>
      have z := HA2.out.cell 2 (by omega)
      have f := HA2.out.fz 2
      go_upto_region 37 with fail
      clear z f
      have HAn := hide (HA2.out.put 2 (by omega) 0)
      have HBn := hide (HB2.out.setCell (p := ⟨B, 2, none⟩) HBB.out (.int .i64 0))
      have HNo := hide (no2 m)
      obtain ⟨Z, hZ⟩ : ∃ Z, Z = (Y.setCell ⟨B, 2, none⟩ (.int .i64 0)) := ⟨_, rfl⟩
      rw [← hZ] at HAn HBn ⊢
      obtain ⟨n, hn⟩ : ∃ n, n = (m.put 2 0) := ⟨_, rfl⟩
      rw [← hn] at HAn HNo
      clear hZ hn HA2 HB2 HB0 HE1
      obtain ⟨k0, k1, k2, k3, k4, k5, k6, kl⟩ := HAn.out.cells
      go_wp2_with fail
      clear k0 k1 k2 k3 k4 k5 k6 kl
      refine (mb_bad n _ (a 1) (HR.out _ HBn.out) HNo.out).mono ?_
      rintro e y1 ⟨rfl, hb⟩
      replace HAn := hide (HAn.out.step hb)
      replace HBn := hide (over HBn.out hb HBn.out.size)
      clear hb
      go_wp2_with fail
      refine (is_err _ a 1 (by omega) _ (by omega) (HW.out.step HBn.out)).mono ?_
      rintro e y2 ⟨rfl, hb⟩
      replace HAn := hide (HAn.out.step hb)
      replace HBn := hide (over HBn.out hb HBn.out.size)
      clear hb
      obtain ⟨k0, k1, k2, k3, k4, k5, k6, kl⟩ := HAn.out.cells
      go_wp2_with fail
      clear k0 k1 k2 k3 k4 k5 k6 kl
      refine (mcheck_any n _ (a 1) (HR.out _ HBn.out)).mono ?_
      rintro e y3 ⟨rfl, hb⟩
      rw [checkMV_no HNo.out]
      replace HBn := hide (over HBn.out hb HBn.out.size)
      clear hb HAn
      go_wp2_with fail
      refine (is_err _ a 1 (by omega) _ (by omega) (HW.out.step HBn.out)).mono ?_
      rintro e y4 ⟨rfl, hb⟩
      replace HBn := hide (over HBn.out hb HBn.out.size)
      clear hb
      go_wp2_with fail
      go_ret
      exact ⟨rfl, HBn.out⟩
    | true =>
      have z := HA2.out.cell 2 (by omega)
      have f := HA2.out.fz 2
      have ze := HA2.out.cell 0 (by omega)
      rw [show m.nth 0 = m.e from rfl] at ze
      obtain ⟨he0, he1⟩ := HE1.out
      go_upto_region 37 with fail
      clear z f ze he0 he1
      have HAn := hide ((HA2.out.put 2 (by omega) 0).put 2 (by omega) (m.e + 1))
      have HBn := hide ((HB2.out.setCell (p := ⟨B, 2, none⟩) HBB.out (.int .i64 0)).setCell (p := ⟨B, 2, none⟩) HBB.out (.int .i64 (m.e + 1)))
      have HNo := hide (no2b m)
      obtain ⟨Z, hZ⟩ : ∃ Z, Z = ((Y.setCell ⟨B, 2, none⟩ (.int .i64 0)).setCell ⟨B, 2, none⟩ (.int .i64 (m.e + 1))) := ⟨_, rfl⟩
      rw [← hZ] at HAn HBn ⊢
      obtain ⟨n, hn⟩ : ∃ n, n = ((m.put 2 0).put 2 (m.e + 1)) := ⟨_, rfl⟩
      rw [← hn] at HAn HNo
      clear hZ hn HA2 HB2 HB0 HE1
      obtain ⟨k0, k1, k2, k3, k4, k5, k6, kl⟩ := HAn.out.cells
      go_wp2_with fail
      clear k0 k1 k2 k3 k4 k5 k6 kl
      refine (mb_bad n _ (a 1) (HR.out _ HBn.out) HNo.out).mono ?_
      rintro e y1 ⟨rfl, hb⟩
      replace HAn := hide (HAn.out.step hb)
      replace HBn := hide (over HBn.out hb HBn.out.size)
      clear hb
      go_wp2_with fail
      refine (is_err _ a 1 (by omega) _ (by omega) (HW.out.step HBn.out)).mono ?_
      rintro e y2 ⟨rfl, hb⟩
      replace HAn := hide (HAn.out.step hb)
      replace HBn := hide (over HBn.out hb HBn.out.size)
      clear hb
      obtain ⟨k0, k1, k2, k3, k4, k5, k6, kl⟩ := HAn.out.cells
      go_wp2_with fail
      clear k0 k1 k2 k3 k4 k5 k6 kl
      refine (mcheck_any n _ (a 1) (HR.out _ HBn.out)).mono ?_
      rintro e y3 ⟨rfl, hb⟩
      rw [checkMV_no HNo.out]
      replace HBn := hide (over HBn.out hb HBn.out.size)
      clear hb HAn
      go_wp2_with fail
      refine (is_err _ a 1 (by omega) _ (by omega) (HW.out.step HBn.out)).mono ?_
      rintro e y4 ⟨rfl, hb⟩
      replace HBn := hide (over HBn.out hb HBn.out.size)
      clear hb
      go_wp2_with fail
      go_ret
      exact ⟨rfl, HBn.out⟩
  · cases a2 with
    | false =>
      have z := HA2.out.cell 3 (by omega)
      have f := HA2.out.fz 3
      go_upto_region 37 with fail
      clear z f
      have HAn := hide (HA2.out.put 3 (by omega) (-1))
      have HBn := hide (HB2.out.setCell (p := ⟨B, 3, none⟩) HBB.out (.int .i64 (-1)))
      have HNo := hide (no3 m HB0.out)
      obtain ⟨Z, hZ⟩ : ∃ Z, Z = (Y.setCell ⟨B, 3, none⟩ (.int .i64 (-1))) := ⟨_, rfl⟩
      rw [← hZ] at HAn HBn ⊢
      obtain ⟨n, hn⟩ : ∃ n, n = (m.put 3 (-1)) := ⟨_, rfl⟩
      rw [← hn] at HAn HNo
      clear hZ hn HA2 HB2 HB0 HE1
      obtain ⟨k0, k1, k2, k3, k4, k5, k6, kl⟩ := HAn.out.cells
      go_wp2_with fail
      clear k0 k1 k2 k3 k4 k5 k6 kl
      refine (mb_bad n _ (a 1) (HR.out _ HBn.out) HNo.out).mono ?_
      rintro e y1 ⟨rfl, hb⟩
      replace HAn := hide (HAn.out.step hb)
      replace HBn := hide (over HBn.out hb HBn.out.size)
      clear hb
      go_wp2_with fail
      refine (is_err _ a 1 (by omega) _ (by omega) (HW.out.step HBn.out)).mono ?_
      rintro e y2 ⟨rfl, hb⟩
      replace HAn := hide (HAn.out.step hb)
      replace HBn := hide (over HBn.out hb HBn.out.size)
      clear hb
      obtain ⟨k0, k1, k2, k3, k4, k5, k6, kl⟩ := HAn.out.cells
      go_wp2_with fail
      clear k0 k1 k2 k3 k4 k5 k6 kl
      refine (mcheck_any n _ (a 1) (HR.out _ HBn.out)).mono ?_
      rintro e y3 ⟨rfl, hb⟩
      rw [checkMV_no HNo.out]
      replace HBn := hide (over HBn.out hb HBn.out.size)
      clear hb HAn
      go_wp2_with fail
      refine (is_err _ a 1 (by omega) _ (by omega) (HW.out.step HBn.out)).mono ?_
      rintro e y4 ⟨rfl, hb⟩
      replace HBn := hide (over HBn.out hb HBn.out.size)
      clear hb
      go_wp2_with fail
      go_ret
      exact ⟨rfl, HBn.out⟩
    | true =>
      have z := HA2.out.cell 3 (by omega)
      have f := HA2.out.fz 3
      go_upto_region 37 with fail
      clear z f
      have HAn := hide ((HA2.out.put 3 (by omega) (-1)).put 3 (by omega) 1073741825)
      have HBn := hide ((HB2.out.setCell (p := ⟨B, 3, none⟩) HBB.out (.int .i64 (-1))).setCell (p := ⟨B, 3, none⟩) HBB.out (.int .i64 1073741825))
      have HNo := hide (no3b m)
      obtain ⟨Z, hZ⟩ : ∃ Z, Z = ((Y.setCell ⟨B, 3, none⟩ (.int .i64 (-1))).setCell ⟨B, 3, none⟩ (.int .i64 1073741825)) := ⟨_, rfl⟩
      rw [← hZ] at HAn HBn ⊢
      obtain ⟨n, hn⟩ : ∃ n, n = ((m.put 3 (-1)).put 3 1073741825) := ⟨_, rfl⟩
      rw [← hn] at HAn HNo
      clear hZ hn HA2 HB2 HB0 HE1
      obtain ⟨k0, k1, k2, k3, k4, k5, k6, kl⟩ := HAn.out.cells
      go_wp2_with fail
      clear k0 k1 k2 k3 k4 k5 k6 kl
      refine (mb_bad n _ (a 1) (HR.out _ HBn.out) HNo.out).mono ?_
      rintro e y1 ⟨rfl, hb⟩
      replace HAn := hide (HAn.out.step hb)
      replace HBn := hide (over HBn.out hb HBn.out.size)
      clear hb
      go_wp2_with fail
      refine (is_err _ a 1 (by omega) _ (by omega) (HW.out.step HBn.out)).mono ?_
      rintro e y2 ⟨rfl, hb⟩
      replace HAn := hide (HAn.out.step hb)
      replace HBn := hide (over HBn.out hb HBn.out.size)
      clear hb
      obtain ⟨k0, k1, k2, k3, k4, k5, k6, kl⟩ := HAn.out.cells
      go_wp2_with fail
      clear k0 k1 k2 k3 k4 k5 k6 kl
      refine (mcheck_any n _ (a 1) (HR.out _ HBn.out)).mono ?_
      rintro e y3 ⟨rfl, hb⟩
      rw [checkMV_no HNo.out]
      replace HBn := hide (over HBn.out hb HBn.out.size)
      clear hb HAn
      go_wp2_with fail
      refine (is_err _ a 1 (by omega) _ (by omega) (HW.out.step HBn.out)).mono ?_
      rintro e y4 ⟨rfl, hb⟩
      replace HBn := hide (over HBn.out hb HBn.out.size)
      clear hb
      go_wp2_with fail
      go_ret
      exact ⟨rfl, HBn.out⟩
  · cases a2 with
    | false =>
      have z := HA2.out.cell 4 (by omega)
      have f := HA2.out.fz 4
      go_upto_region 37 with fail
      clear z f
      have HAn := hide (HA2.out.put 4 (by omega) 0)
      have HBn := hide (HB2.out.setCell (p := ⟨B, 4, none⟩) HBB.out (.int .i64 0))
      have HNo := hide (no4 m)
      obtain ⟨Z, hZ⟩ : ∃ Z, Z = (Y.setCell ⟨B, 4, none⟩ (.int .i64 0)) := ⟨_, rfl⟩
      rw [← hZ] at HAn HBn ⊢
      obtain ⟨n, hn⟩ : ∃ n, n = (m.put 4 0) := ⟨_, rfl⟩
      rw [← hn] at HAn HNo
      clear hZ hn HA2 HB2 HB0 HE1
      obtain ⟨k0, k1, k2, k3, k4, k5, k6, kl⟩ := HAn.out.cells
      go_wp2_with fail
      clear k0 k1 k2 k3 k4 k5 k6 kl
      refine (mb_bad n _ (a 1) (HR.out _ HBn.out) HNo.out).mono ?_
      rintro e y1 ⟨rfl, hb⟩
      replace HAn := hide (HAn.out.step hb)
      replace HBn := hide (over HBn.out hb HBn.out.size)
      clear hb
      go_wp2_with fail
      refine (is_err _ a 1 (by omega) _ (by omega) (HW.out.step HBn.out)).mono ?_
      rintro e y2 ⟨rfl, hb⟩
      replace HAn := hide (HAn.out.step hb)
      replace HBn := hide (over HBn.out hb HBn.out.size)
      clear hb
      obtain ⟨k0, k1, k2, k3, k4, k5, k6, kl⟩ := HAn.out.cells
      go_wp2_with fail
      clear k0 k1 k2 k3 k4 k5 k6 kl
      refine (mcheck_any n _ (a 1) (HR.out _ HBn.out)).mono ?_
      rintro e y3 ⟨rfl, hb⟩
      rw [checkMV_no HNo.out]
      replace HBn := hide (over HBn.out hb HBn.out.size)
      clear hb HAn
      go_wp2_with fail
      refine (is_err _ a 1 (by omega) _ (by omega) (HW.out.step HBn.out)).mono ?_
      rintro e y4 ⟨rfl, hb⟩
      replace HBn := hide (over HBn.out hb HBn.out.size)
      clear hb
      go_wp2_with fail
      go_ret
      exact ⟨rfl, HBn.out⟩
    | true =>
      have z := HA2.out.cell 4 (by omega)
      have f := HA2.out.fz 4
      go_upto_region 37 with fail
      clear z f
      have HAn := hide ((HA2.out.put 4 (by omega) 0).put 4 (by omega) 33)
      have HBn := hide ((HB2.out.setCell (p := ⟨B, 4, none⟩) HBB.out (.int .i64 0)).setCell (p := ⟨B, 4, none⟩) HBB.out (.int .i64 33))
      have HNo := hide (no4b m)
      obtain ⟨Z, hZ⟩ : ∃ Z, Z = ((Y.setCell ⟨B, 4, none⟩ (.int .i64 0)).setCell ⟨B, 4, none⟩ (.int .i64 33)) := ⟨_, rfl⟩
      rw [← hZ] at HAn HBn ⊢
      obtain ⟨n, hn⟩ : ∃ n, n = ((m.put 4 0).put 4 33) := ⟨_, rfl⟩
      rw [← hn] at HAn HNo
      clear hZ hn HA2 HB2 HB0 HE1
      obtain ⟨k0, k1, k2, k3, k4, k5, k6, kl⟩ := HAn.out.cells
      go_wp2_with fail
      clear k0 k1 k2 k3 k4 k5 k6 kl
      refine (mb_bad n _ (a 1) (HR.out _ HBn.out) HNo.out).mono ?_
      rintro e y1 ⟨rfl, hb⟩
      replace HAn := hide (HAn.out.step hb)
      replace HBn := hide (over HBn.out hb HBn.out.size)
      clear hb
      go_wp2_with fail
      refine (is_err _ a 1 (by omega) _ (by omega) (HW.out.step HBn.out)).mono ?_
      rintro e y2 ⟨rfl, hb⟩
      replace HAn := hide (HAn.out.step hb)
      replace HBn := hide (over HBn.out hb HBn.out.size)
      clear hb
      obtain ⟨k0, k1, k2, k3, k4, k5, k6, kl⟩ := HAn.out.cells
      go_wp2_with fail
      clear k0 k1 k2 k3 k4 k5 k6 kl
      refine (mcheck_any n _ (a 1) (HR.out _ HBn.out)).mono ?_
      rintro e y3 ⟨rfl, hb⟩
      rw [checkMV_no HNo.out]
      replace HBn := hide (over HBn.out hb HBn.out.size)
      clear hb HAn
      go_wp2_with fail
      refine (is_err _ a 1 (by omega) _ (by omega) (HW.out.step HBn.out)).mono ?_
      rintro e y4 ⟨rfl, hb⟩
      replace HBn := hide (over HBn.out hb HBn.out.size)
      clear hb
      go_wp2_with fail
      go_ret
      exact ⟨rfl, HBn.out⟩
  · cases a2 with
    | false =>
      have z := HA2.out.cell 5 (by omega)
      have f := HA2.out.fz 5
      go_upto_region 37 with fail
      clear z f
      have HAn := hide (HA2.out.put 5 (by omega) 0)
      have HBn := hide (HB2.out.setCell (p := ⟨B, 5, none⟩) HBB.out (.int .i64 0))
      have HNo := hide (no5 m)
      obtain ⟨Z, hZ⟩ : ∃ Z, Z = (Y.setCell ⟨B, 5, none⟩ (.int .i64 0)) := ⟨_, rfl⟩
      rw [← hZ] at HAn HBn ⊢
      obtain ⟨n, hn⟩ : ∃ n, n = (m.put 5 0) := ⟨_, rfl⟩
      rw [← hn] at HAn HNo
      clear hZ hn HA2 HB2 HB0 HE1
      obtain ⟨k0, k1, k2, k3, k4, k5, k6, kl⟩ := HAn.out.cells
      go_wp2_with fail
      clear k0 k1 k2 k3 k4 k5 k6 kl
      refine (mb_bad n _ (a 1) (HR.out _ HBn.out) HNo.out).mono ?_
      rintro e y1 ⟨rfl, hb⟩
      replace HAn := hide (HAn.out.step hb)
      replace HBn := hide (over HBn.out hb HBn.out.size)
      clear hb
      go_wp2_with fail
      refine (is_err _ a 1 (by omega) _ (by omega) (HW.out.step HBn.out)).mono ?_
      rintro e y2 ⟨rfl, hb⟩
      replace HAn := hide (HAn.out.step hb)
      replace HBn := hide (over HBn.out hb HBn.out.size)
      clear hb
      obtain ⟨k0, k1, k2, k3, k4, k5, k6, kl⟩ := HAn.out.cells
      go_wp2_with fail
      clear k0 k1 k2 k3 k4 k5 k6 kl
      refine (mcheck_any n _ (a 1) (HR.out _ HBn.out)).mono ?_
      rintro e y3 ⟨rfl, hb⟩
      rw [checkMV_no HNo.out]
      replace HBn := hide (over HBn.out hb HBn.out.size)
      clear hb HAn
      go_wp2_with fail
      refine (is_err _ a 1 (by omega) _ (by omega) (HW.out.step HBn.out)).mono ?_
      rintro e y4 ⟨rfl, hb⟩
      replace HBn := hide (over HBn.out hb HBn.out.size)
      clear hb
      go_wp2_with fail
      go_ret
      exact ⟨rfl, HBn.out⟩
    | true =>
      have z := HA2.out.cell 5 (by omega)
      have f := HA2.out.fz 5
      go_upto_region 37 with fail
      clear z f
      have HAn := hide ((HA2.out.put 5 (by omega) 0).put 5 (by omega) 65)
      have HBn := hide ((HB2.out.setCell (p := ⟨B, 5, none⟩) HBB.out (.int .i64 0)).setCell (p := ⟨B, 5, none⟩) HBB.out (.int .i64 65))
      have HNo := hide (no5b m)
      obtain ⟨Z, hZ⟩ : ∃ Z, Z = ((Y.setCell ⟨B, 5, none⟩ (.int .i64 0)).setCell ⟨B, 5, none⟩ (.int .i64 65)) := ⟨_, rfl⟩
      rw [← hZ] at HAn HBn ⊢
      obtain ⟨n, hn⟩ : ∃ n, n = ((m.put 5 0).put 5 65) := ⟨_, rfl⟩
      rw [← hn] at HAn HNo
      clear hZ hn HA2 HB2 HB0 HE1
      obtain ⟨k0, k1, k2, k3, k4, k5, k6, kl⟩ := HAn.out.cells
      go_wp2_with fail
      clear k0 k1 k2 k3 k4 k5 k6 kl
      refine (mb_bad n _ (a 1) (HR.out _ HBn.out) HNo.out).mono ?_
      rintro e y1 ⟨rfl, hb⟩
      replace HAn := hide (HAn.out.step hb)
      replace HBn := hide (over HBn.out hb HBn.out.size)
      clear hb
      go_wp2_with fail
      refine (is_err _ a 1 (by omega) _ (by omega) (HW.out.step HBn.out)).mono ?_
      rintro e y2 ⟨rfl, hb⟩
      replace HAn := hide (HAn.out.step hb)
      replace HBn := hide (over HBn.out hb HBn.out.size)
      clear hb
      obtain ⟨k0, k1, k2, k3, k4, k5, k6, kl⟩ := HAn.out.cells
      go_wp2_with fail
      clear k0 k1 k2 k3 k4 k5 k6 kl
      refine (mcheck_any n _ (a 1) (HR.out _ HBn.out)).mono ?_
      rintro e y3 ⟨rfl, hb⟩
      rw [checkMV_no HNo.out]
      replace HBn := hide (over HBn.out hb HBn.out.size)
      clear hb HAn
      go_wp2_with fail
      refine (is_err _ a 1 (by omega) _ (by omega) (HW.out.step HBn.out)).mono ?_
      rintro e y4 ⟨rfl, hb⟩
      replace HBn := hide (over HBn.out hb HBn.out.size)
      clear hb
      go_wp2_with fail
      go_ret
      exact ⟨rfl, HBn.out⟩
  · cases a2 with
    | false =>
      have z := HA2.out.cell 6 (by omega)
      have f := HA2.out.fz 6
      go_upto_region 37 with fail
      clear z f
      have HAn := hide (HA2.out.put 6 (by omega) 0)
      have HBn := hide (HB2.out.setCell (p := ⟨B, 6, none⟩) HBB.out (.int .i64 0))
      have HNo := hide (no6 m)
      obtain ⟨Z, hZ⟩ : ∃ Z, Z = (Y.setCell ⟨B, 6, none⟩ (.int .i64 0)) := ⟨_, rfl⟩
      rw [← hZ] at HAn HBn ⊢
      obtain ⟨n, hn⟩ : ∃ n, n = (m.put 6 0) := ⟨_, rfl⟩
      rw [← hn] at HAn HNo
      clear hZ hn HA2 HB2 HB0 HE1
      obtain ⟨k0, k1, k2, k3, k4, k5, k6, kl⟩ := HAn.out.cells
      go_wp2_with fail
      clear k0 k1 k2 k3 k4 k5 k6 kl
      refine (mb_bad n _ (a 1) (HR.out _ HBn.out) HNo.out).mono ?_
      rintro e y1 ⟨rfl, hb⟩
      replace HAn := hide (HAn.out.step hb)
      replace HBn := hide (over HBn.out hb HBn.out.size)
      clear hb
      go_wp2_with fail
      refine (is_err _ a 1 (by omega) _ (by omega) (HW.out.step HBn.out)).mono ?_
      rintro e y2 ⟨rfl, hb⟩
      replace HAn := hide (HAn.out.step hb)
      replace HBn := hide (over HBn.out hb HBn.out.size)
      clear hb
      obtain ⟨k0, k1, k2, k3, k4, k5, k6, kl⟩ := HAn.out.cells
      go_wp2_with fail
      clear k0 k1 k2 k3 k4 k5 k6 kl
      refine (mcheck_any n _ (a 1) (HR.out _ HBn.out)).mono ?_
      rintro e y3 ⟨rfl, hb⟩
      rw [checkMV_no HNo.out]
      replace HBn := hide (over HBn.out hb HBn.out.size)
      clear hb HAn
      go_wp2_with fail
      refine (is_err _ a 1 (by omega) _ (by omega) (HW.out.step HBn.out)).mono ?_
      rintro e y4 ⟨rfl, hb⟩
      replace HBn := hide (over HBn.out hb HBn.out.size)
      clear hb
      go_wp2_with fail
      go_ret
      exact ⟨rfl, HBn.out⟩
    | true =>
      have z := HA2.out.cell 6 (by omega)
      have f := HA2.out.fz 6
      go_upto_region 37 with fail
      clear z f
      have HAn := hide ((HA2.out.put 6 (by omega) 0).put 6 (by omega) 9)
      have HBn := hide ((HB2.out.setCell (p := ⟨B, 6, none⟩) HBB.out (.int .i64 0)).setCell (p := ⟨B, 6, none⟩) HBB.out (.int .i64 9))
      have HNo := hide (no6b m)
      obtain ⟨Z, hZ⟩ : ∃ Z, Z = ((Y.setCell ⟨B, 6, none⟩ (.int .i64 0)).setCell ⟨B, 6, none⟩ (.int .i64 9)) := ⟨_, rfl⟩
      rw [← hZ] at HAn HBn ⊢
      obtain ⟨n, hn⟩ : ∃ n, n = ((m.put 6 0).put 6 9) := ⟨_, rfl⟩
      rw [← hn] at HAn HNo
      clear hZ hn HA2 HB2 HB0 HE1
      obtain ⟨k0, k1, k2, k3, k4, k5, k6, kl⟩ := HAn.out.cells
      go_wp2_with fail
      clear k0 k1 k2 k3 k4 k5 k6 kl
      refine (mb_bad n _ (a 1) (HR.out _ HBn.out) HNo.out).mono ?_
      rintro e y1 ⟨rfl, hb⟩
      replace HAn := hide (HAn.out.step hb)
      replace HBn := hide (over HBn.out hb HBn.out.size)
      clear hb
      go_wp2_with fail
      refine (is_err _ a 1 (by omega) _ (by omega) (HW.out.step HBn.out)).mono ?_
      rintro e y2 ⟨rfl, hb⟩
      replace HAn := hide (HAn.out.step hb)
      replace HBn := hide (over HBn.out hb HBn.out.size)
      clear hb
      obtain ⟨k0, k1, k2, k3, k4, k5, k6, kl⟩ := HAn.out.cells
      go_wp2_with fail
      clear k0 k1 k2 k3 k4 k5 k6 kl
      refine (mcheck_any n _ (a 1) (HR.out _ HBn.out)).mono ?_
      rintro e y3 ⟨rfl, hb⟩
      rw [checkMV_no HNo.out]
      replace HBn := hide (over HBn.out hb HBn.out.size)
      clear hb HAn
      go_wp2_with fail
      refine (is_err _ a 1 (by omega) _ (by omega) (HW.out.step HBn.out)).mono ?_
      rintro e y4 ⟨rfl, hb⟩
      replace HBn := hide (over HBn.out hb HBn.out.size)
      clear hb
      go_wp2_with fail
      go_ret
      exact ⟨rfl, HBn.out⟩
end Go.Proofs.YtjdfmpdkfbhdkaaDoor.masterBack
