
/- What the statement MasterSays asks comes out true, at all arguments; nothing that was there is written. -/
import Derived.Test.YtjdfmpdkfbhdkaaDoorMastTools
import Derived.Test.YtjdfmpdkfbhdkaaDoorBlockTools
namespace Go.Proofs.YtjdfmpdkfbhdkaaDoor.masterSays
open Go.RowKit
set_option linter.unusedVariables false

set_option maxRecDepth 100000 in
set_option maxHeartbeats 32000000 in
theorem walk (a0 : M) (a1 : Option Addr) (len1 cap1 : Nat) (z1 : List Int) (a2 a3 : Int) (w : World) (w1 : IsRow .u8 w a1 len1 cap1 z1) (w2 : (Lit.int .i64 a2).wf = true) (w3 : (Lit.int .u8 a3).wf = true) {a : Nat → Addr} (he : ErrsOf w all18 a) :
    Calls Tryd.prog 3 #[a0.val, .slice a1 len1 cap1, .int .i64 a2, .int .u8 a3] w fun e w' => e = .returned (.bool true) ∧ Below w.heap.size w w' := by
  have HW := hide he
  have HR : Hid (∀ x, Below w.heap.size w x → x.cell? ⟨0, 0, none⟩ = some (errV (a 1))) := fun x hb => (he.step hb).cell 1 (mem18 (by omega))
  have HE : Hid (∀ x, Below w.heap.size w x → MastErrs x (a 1) (a 2) (a 5)) := fun x hb => errs_mast (he.step hb) (mem18 (by omega)) (mem18 (by omega)) (mem18 (by omega))
  have HI1 := hide w1
  clear he w1 w2 w3
  obtain ⟨hbox, hbel⟩ := box7 w a0
  obtain ⟨X, hX⟩ : ∃ X, X = w.alloc (mCells a0) := ⟨_, rfl⟩
  rw [← hX] at hbox hbel
  have HX : Hid (w.alloc (.cells #[.int .i64 a0.e, .int .i64 a0.b, .int .i64 a0.r, .int .i64 a0.c, .int .i64 a0.p, .int .i64 a0.k, .int .i64 a0.f] 23) = X) := hX.symm
  have HA := hide hbox
  have HB := hide hbel
  obtain ⟨B, hB⟩ : ∃ B, B = w.heap.size := ⟨_, rfl⟩
  have HBE := hide hB
  rw [← hB] at HA
  clear hbox hbel hX hB
  unfold M.val
  go_enter Tryd.func3, Tryd.ntmps3
  go_wp2_with fail
  rw [HX.out, ← HBE.out]
  clear HX HBE
  refine (mfirst_any _ (HW.out.step HB.out)).mono ?_
  rintro e x1 ⟨rfl, hb⟩
  replace HA := hide (HA.out.step hb)
  replace HB := hide (over HB.out hb HB.out.size)
  clear hb
  by_cases hl1 : len1 ≤ 300
  case neg =>
    have hli : (300 : Int) < (len1 : Int) := by omega
    go_wp2_with fail
    go_ret
    exact ⟨rfl, HB.out⟩
  have hli1 : decide ((300 : Int) < (len1 : Int)) = false := by simp; omega
  have HCP1 := hide HI1.out.le
  obtain ⟨xs1, hx1, hr1, _⟩ := IsRow.part HI1.out (by omega)
  have HR1 := hide hr1
  have HN1 := hide hx1
  clear hl1 hx1 hr1 HI1
  obtain ⟨k0, k1, k2, k3, k4, k5, k6, kl⟩ := HA.out.cells
  go_wp2_with fail
  clear k0 k1 k2 k3 k4 k5 k6 kl
  refine (goodMaster_any a0 _).mono ?_
  rintro e x2 ⟨rfl, hb⟩
  replace HA := hide (HA.out.step hb)
  replace HB := hide (over HB.out hb HB.out.size)
  clear hb
  cases hok : okM a0 with
  | true =>
    have HOK := hide hok
    clear hok
    obtain ⟨k0, k1, k2, k3, k4, k5, k6, kl⟩ := HA.out.cells
    go_wp2_with fail
    clear k0 k1 k2 k3 k4 k5 k6 kl
    refine (mb_ok a0 _ _ (HR.out _ HB.out) HOK.out).mono ?_
    rintro e x3 ⟨g, rfl, hg, hown, hb⟩
    have HO := hide hown.row
    replace HA := hide (HA.out.step hb)
    replace HB := hide (over HB.out hb HB.out.size)
    clear hb hg hown
    obtain ⟨k0, k1, k2, k3, k4, k5, k6, kl⟩ := HA.out.cells
    go_wp2_with fail
    clear k0 k1 k2 k3 k4 k5 k6 kl
    refine (mcheck_any a0 _ (a 1) (HR.out _ HB.out)).mono ?_
    rintro e x4 ⟨rfl, hb⟩
    rw [checkMV_ok HOK.out]
    replace HA := hide (HA.out.step hb)
    replace HO := hide (HO.out.below hb (Nat.le_refl _))
    replace HB := hide (over HB.out hb HB.out.size)
    clear hb
    go_wp2_with fail
    refine (is_code (a := a) (.inl ⟨rfl, rfl⟩) (HW.out.step HB.out)).mono ?_
    rintro e x5 ⟨rfl, hb⟩
    replace HA := hide (HA.out.step hb)
    replace HO := hide (HO.out.below hb (Nat.le_refl _))
    replace HB := hide (over HB.out hb HB.out.size)
    clear hb
    go_wp2_with fail
    refine (is_code (a := a) (.inl ⟨rfl, rfl⟩) (HW.out.step HB.out)).mono ?_
    rintro e x6 ⟨rfl, hb⟩
    replace HA := hide (HA.out.step hb)
    replace HO := hide (HO.out.below hb (Nat.le_refl _))
    replace HB := hide (over HB.out hb HB.out.size)
    clear hb
    obtain ⟨k0, k1, k2, k3, k4, k5, k6, kl⟩ := HA.out.cells
    go_wp2_with fail
    clear k0 k1 k2 k3 k4 k5 k6 kl
    refine (rmb_ok a0 _ HOK.out).mono ?_
    rintro e x7 ⟨g', rfl, hg, hown, hb⟩
    have HY := hide hown.row
    replace HA := hide (HA.out.step hb)
    replace HO := hide (HO.out.below hb (Nat.le_refl _))
    replace HB := hide (over HB.out hb HB.out.size)
    clear hb hg hown
    go_wp2_with fail
    refine (same_len _ _ _ (mastB a0) _ _ _ (mastB a0) _ HO.out HY.out (length_mastB a0) (length_mastB a0)).mono ?_
    rintro e y3 ⟨rfl, nd, rfl⟩
    rw [sameB_true rfl]
    replace HA := hide (HA.out.drewN nd)
    replace HB := hide (below_drewN HB.out nd)
    obtain ⟨V, hV⟩ : ∃ V, V = x7.drewN nd := ⟨_, rfl⟩
    rw [← hV] at HA HB ⊢
    clear hV HO HY HOK
    obtain ⟨k0, k1, k2, k3, k4, k5, k6, kl⟩ := HA.out.cells
    go_wp2_with fail
    clear k0 k1 k2 k3 k4 k5 k6 kl
    refine (good_any a0 _).mono ?_
    rintro e y1 ⟨rfl, hb⟩
    replace HB := hide (over HB.out hb HB.out.size)
    clear hb HA
    have HOK := hide (goodM_ok a0)
    obtain ⟨m, hm⟩ : ∃ m, m = goodM a0 := ⟨_, rfl⟩
    rw [← hm] at HOK ⊢
    clear hm
    go_wp2_with fail
    refine (rmb_ok m _ HOK.out).mono ?_
    rintro e y2 ⟨gc, rfl, hg, hown, hb⟩
    have HO := hide hown.row
    have HCC : Hid ((mastB m).length = 256) := length_mastB m
    replace HB := hide (over HB.out hb HB.out.size)
    obtain ⟨cs, hcs⟩ : ∃ cs, cs = mastB m := ⟨_, rfl⟩
    rw [← hcs] at HO HCC
    clear hb hg hown hcs HOK
    go_wp2_with fail
    refine (copy_len _ _ _ cs _ HO.out HCC.out).mono ?_
    rintro e y3 ⟨gd, rfl, hg, hown, hb⟩
    have HOd := hide hown
    have HGD := hide hg
    have HGW := hide (Nat.le_trans HB.out.size hg)
    have HBD := hide hb
    replace HB := hide (over HB.out hb HB.out.size)
    clear hb hg hown
    go_wp2_with fail
    refine (number_any _ _ _ (by omega) (by omega)).mono ?_
    rintro e y3 ⟨rfl, rfl⟩
    have hp := numberB_bd a2 40 (by omega)
    obtain ⟨p, hp'⟩ : ∃ p : Nat, numberB a2 40 = p := ⟨(numberB a2 40).toNat, by omega⟩
    rw [hp'] at hp ⊢
    have hp256 : p < 256 := by omega
    have hpi : (p : Int) < 256 := by omega
    clear hp hp'
    have hc := HOd.out.cell p (by rw [HCC.out]; exact hp256)
    obtain ⟨yy, hyy⟩ : ∃ yy, yy = cs.getD p 0 := ⟨_, rfl⟩
    rw [← hyy] at hc
    clear hyy
    have hfz := HOd.out.frozen p
    have hxb := xor_bd yy a3
    obtain ⟨v, hv⟩ : ∃ v, v = bits .xor .u8 yy a3 := ⟨_, rfl⟩
    rw [← hv] at hxb
    have HVE := hide hv
    have HXB := hide hxb
    clear hv hxb
    go_upto_region 16 with fail
    clear hc hfz
    rw [← HVE.out]
    have HD := hide (HOd.out.stored p v HXB.out.1 HXB.out.2).row
    have hbset := HBD.out.setCell (p := ⟨gd, p, none⟩) HGD.out (.int .u8 v)
    replace HO := hide (HO.out.below hbset (Nat.le_refl _))
    replace HB := hide (HB.out.setCell (p := ⟨gd, p, none⟩) HGW.out (.int .u8 v))
    clear hbset HOd HBD HGD HGW HXB HVE
    obtain ⟨ds, hds⟩ : ∃ ds, ds = cs.set p v := ⟨_, rfl⟩
    have HDL : Hid (ds.length = 256) := by show ds.length = 256; rw [hds, List.length_set]; exact HCC.out
    rw [← hds] at HD
    clear hds
    obtain ⟨Y7, hY7⟩ : ∃ Y7, Y7 = y3.setCell ⟨gd, p, none⟩ (.int .u8 v) := ⟨_, rfl⟩
    rw [← hY7] at HD HO HB ⊢
    clear hY7
    go_wp2_with fail
    refine (refFill_len (HR1.out.below HB.out (Nat.le_refl _)) HN1.out).mono ?_
    rintro e y8 ⟨fo, fn, fc, rfl, hfn, hfc, hfr, hb⟩
    have HFN := hide hfn
    have HFC := hide hfc
    have HFR := hide hfr
    replace HD := hide (HD.out.below hb (Nat.le_refl _))
    replace HO := hide (HO.out.below hb (Nat.le_refl _))
    replace HB := hide (over HB.out hb HB.out.size)
    clear hfn hfc hfr hb
    have HBX := hide (below_box y8 (.cells #[.slice a1 len1 cap1, .slice (some ⟨gc, 0, none⟩) 256 256, .slice (some ⟨gd, 0, none⟩) 256 256, .slice fo fn fc] 24))
    have HT := hide (four_of ⟨HR1.out.below HB.out (Nat.le_refl _), HN1.out, HCP1.out⟩ ⟨HO.out, HCC.out, Nat.le_refl _⟩ ⟨HD.out, HDL.out, Nat.le_refl _⟩ ⟨HFR.out, HFN.out, HFC.out⟩)
    have HBZ := hide (over HB.out HBX.out HB.out.size)
    obtain ⟨Z, hZ⟩ : ∃ Z, Z = y8.alloc (.cells #[.slice a1 len1 cap1, .slice (some ⟨gc, 0, none⟩) 256 256, .slice (some ⟨gd, 0, none⟩) 256 256, .slice fo fn fc] 24) := ⟨_, rfl⟩
    have HZE := hide hZ
    rw [← hZ] at HT HBZ
    have HGL : Hid (y8.heap.size < Z.heap.size) := by show y8.heap.size < Z.heap.size; rw [hZ]; simp
    clear hZ HBX HB HD HO HFR
    go_wp2_with fail
    rw [← HZE.out]
    obtain ⟨G, hG⟩ : ∃ G, G = y8.heap.size := ⟨_, rfl⟩
    rw [← hG] at HT HGL ⊢
    clear hG HZE
    go_loopw [17] (fun i wr => ∃ k : Nat, k ≤ 4 ∧ i = .int .i64 k ∧ Below Z.heap.size Z wr) (fun i _ => 4 - (intOf i).toNat)
    case atStart => exact ⟨0, by omega, rfl, Below.refl _ _⟩
    case round =>
      obtain ⟨j, hj, rfl, hb⟩ := hrel
      have HBz := hide hb
      have HBw := hide (over HBZ.out hb HBZ.out.size)
      clear hb
      by_cases hlt : j < 4
      · have hji : (j : Int) < 4 := by omega
        obtain ⟨ao, n, c, xs, hce, hrow, hn, hnc⟩ := HT.out j hlt
        have HCL := hide hce
        have HRw := hide (hrow.below HBz.out (Nat.le_refl _))
        have HNx := hide hn
        have hcell := (HBz.out.cell (p := ⟨G, j, none⟩) HGL.out).trans hce
        clear hce hrow hn hnc
        go_wp2_with fail
        clear hcell
        refine (mread_uni (HE.out _ HBw.out) HRw.out HNx.out).mono ?_
        rintro e z1 ⟨fv, rfl, hcode, hb⟩
        have HCD := hide hcode
        obtain ⟨n0, hn0⟩ : ∃ n0, n0 = ansM xs := ⟨_, rfl⟩
        have HN0 := hide hn0
        rw [← hn0]
        have hbx := hb.trans ((below_box z1 (mCells n0)).mono hb.size)
        have HC := hide (cells7_new z1 n0)
        unfold mCells at hbx HC
        replace HRw := hide (HRw.out.below hbx (Nat.le_refl _))
        replace HBz := hide (over HBz.out hbx HBz.out.size)
        replace HBw := hide (over HBw.out hbx HBw.out.size)
        obtain ⟨Z1, hZ1⟩ : ∃ Z1, Z1 = z1.alloc (.cells #[.int .i64 n0.e, .int .i64 n0.b, .int .i64 n0.r, .int .i64 n0.c, .int .i64 n0.p, .int .i64 n0.k, .int .i64 n0.f] 23) := ⟨_, rfl⟩
        rw [← hZ1] at HC HRw HBz HBw
        have HZ1 := hide hZ1.symm
        obtain ⟨B1, hB1⟩ : ∃ B1, B1 = z1.heap.size := ⟨_, rfl⟩
        rw [← hB1] at HC
        clear hcode hb hbx hZ1 hn0
        unfold M.val
        go_upto_region 21 with fail
        rw [HZ1.out, ← hB1]
        clear HZ1 hB1
        have hcell := (HBz.out.cell (p := ⟨G, j, none⟩) HGL.out).trans HCL.out
        go_wp2_with fail
        clear hcell
        refine (rmread_uni HRw.out HNx.out).mono ?_
        rintro e z2 ⟨rfl, hb⟩
        rw [← HN0.out]
        have hbx := hb.trans ((below_box z2 (mCells n0)).mono hb.size)
        have HC2 := hide (cells7_new z2 n0)
        unfold mCells at hbx HC2
        replace HC := hide (HC.out.step hbx)
        replace HBz := hide (over HBz.out hbx HBz.out.size)
        replace HBw := hide (over HBw.out hbx HBw.out.size)
        obtain ⟨Z2, hZ2⟩ : ∃ Z2, Z2 = z2.alloc (.cells #[.int .i64 n0.e, .int .i64 n0.b, .int .i64 n0.r, .int .i64 n0.c, .int .i64 n0.p, .int .i64 n0.k, .int .i64 n0.f] 23) := ⟨_, rfl⟩
        rw [← hZ2] at HC HC2 HBz HBw
        have HZ2 := hide hZ2.symm
        obtain ⟨B2, hB2⟩ : ∃ B2, B2 = z2.heap.size := ⟨_, rfl⟩
        rw [← hB2] at HC2
        clear hb hbx hZ2 HN0
        obtain ⟨cd, hcd⟩ : ∃ cd, cd = ansMC xs := ⟨_, rfl⟩
        rw [← hcd] at HCD ⊢
        clear hcd
        unfold M.val
        go_upto_region 22 with fail
        rw [HZ2.out, ← hB2]
        clear HZ2 hB2
        obtain ⟨k0, k1, k2, k3, k4, k5, k6, kl⟩ := HC.out
        obtain ⟨q0, q1, q2, q3, q4, q5, q6, ql⟩ := HC2.out
        go_wp2_with fail
        clear k0 k1 k2 k3 k4 k5 k6 kl q0 q1 q2 q3 q4 q5 q6 ql
        refine (sameMaster_any n0 n0 _).mono ?_
        rintro e z3 ⟨rfl, hb⟩
        rw [sameM_refl]
        replace HBz := hide (over HBz.out hb HBz.out.size)
        replace HBw := hide (over HBw.out hb HBw.out.size)
        clear hb HC HC2
        go_wp2_with fail
        refine (is_code HCD.out (HW.out.step HBw.out)).mono ?_
        rintro e z4 ⟨rfl, hb⟩
        replace HBz := hide (over HBz.out hb HBz.out.size)
        clear hb
        go_wp2_with fail
        go_roundw
        case rel => first | exact ⟨j + 1, by omega, by go_num, HBz.out⟩ | ((repeat apply Exists.intro); exact ⟨⟨j + 1, by omega, by go_num, HBz.out⟩, rfl⟩)
        case measure => simp [intOf]; omega
      · have hji : decide ((j : Int) < 4) = false := by simp; omega
        clear hlt hj
        go_wp2_with fail
        go_ret
        exact ⟨rfl, HBw.out⟩
  | false =>
    have HOK := hide hok
    clear hok
    obtain ⟨k0, k1, k2, k3, k4, k5, k6, kl⟩ := HA.out.cells
    go_wp2_with fail
    clear k0 k1 k2 k3 k4 k5 k6 kl
    refine (mb_bad a0 _ _ (HR.out _ HB.out) HOK.out).mono ?_
    rintro e x3 ⟨rfl, hb⟩
    replace HA := hide (HA.out.step hb)
    replace HB := hide (over HB.out hb HB.out.size)
    clear hb
    obtain ⟨k0, k1, k2, k3, k4, k5, k6, kl⟩ := HA.out.cells
    go_wp2_with fail
    clear k0 k1 k2 k3 k4 k5 k6 kl
    refine (mcheck_any a0 _ (a 1) (HR.out _ HB.out)).mono ?_
    rintro e x4 ⟨rfl, hb⟩
    rw [checkMV_no HOK.out]
    replace HA := hide (HA.out.step hb)
    replace HB := hide (over HB.out hb HB.out.size)
    clear hb
    go_wp2_with fail
    refine (is_err _ a 1 (by omega) _ (by omega) (HW.out.step HB.out)).mono ?_
    rintro e x5 ⟨rfl, hb⟩
    replace HA := hide (HA.out.step hb)
    replace HB := hide (over HB.out hb HB.out.size)
    clear hb
    go_wp2_with fail
    refine (is_err _ a 1 (by omega) _ (by omega) (HW.out.step HB.out)).mono ?_
    rintro e V ⟨rfl, hb⟩
    replace HA := hide (HA.out.step hb)
    replace HB := hide (over HB.out hb HB.out.size)
    clear hb HOK
    obtain ⟨k0, k1, k2, k3, k4, k5, k6, kl⟩ := HA.out.cells
    go_wp2_with fail
    clear k0 k1 k2 k3 k4 k5 k6 kl
    refine (good_any a0 _).mono ?_
    rintro e y1 ⟨rfl, hb⟩
    replace HB := hide (over HB.out hb HB.out.size)
    clear hb HA
    have HOK := hide (goodM_ok a0)
    obtain ⟨m, hm⟩ : ∃ m, m = goodM a0 := ⟨_, rfl⟩
    rw [← hm] at HOK ⊢
    clear hm
    go_wp2_with fail
    refine (rmb_ok m _ HOK.out).mono ?_
    rintro e y2 ⟨gc, rfl, hg, hown, hb⟩
    have HO := hide hown.row
    have HCC : Hid ((mastB m).length = 256) := length_mastB m
    replace HB := hide (over HB.out hb HB.out.size)
    obtain ⟨cs, hcs⟩ : ∃ cs, cs = mastB m := ⟨_, rfl⟩
    rw [← hcs] at HO HCC
    clear hb hg hown hcs HOK
    go_wp2_with fail
    refine (copy_len _ _ _ cs _ HO.out HCC.out).mono ?_
    rintro e y3 ⟨gd, rfl, hg, hown, hb⟩
    have HOd := hide hown
    have HGD := hide hg
    have HGW := hide (Nat.le_trans HB.out.size hg)
    have HBD := hide hb
    replace HB := hide (over HB.out hb HB.out.size)
    clear hb hg hown
    go_wp2_with fail
    refine (number_any _ _ _ (by omega) (by omega)).mono ?_
    rintro e y3 ⟨rfl, rfl⟩
    have hp := numberB_bd a2 40 (by omega)
    obtain ⟨p, hp'⟩ : ∃ p : Nat, numberB a2 40 = p := ⟨(numberB a2 40).toNat, by omega⟩
    rw [hp'] at hp ⊢
    have hp256 : p < 256 := by omega
    have hpi : (p : Int) < 256 := by omega
    clear hp hp'
    have hc := HOd.out.cell p (by rw [HCC.out]; exact hp256)
    obtain ⟨yy, hyy⟩ : ∃ yy, yy = cs.getD p 0 := ⟨_, rfl⟩
    rw [← hyy] at hc
    clear hyy
    have hfz := HOd.out.frozen p
    have hxb := xor_bd yy a3
    obtain ⟨v, hv⟩ : ∃ v, v = bits .xor .u8 yy a3 := ⟨_, rfl⟩
    rw [← hv] at hxb
    have HVE := hide hv
    have HXB := hide hxb
    clear hv hxb
    go_upto_region 16 with fail
    clear hc hfz
    rw [← HVE.out]
    have HD := hide (HOd.out.stored p v HXB.out.1 HXB.out.2).row
    have hbset := HBD.out.setCell (p := ⟨gd, p, none⟩) HGD.out (.int .u8 v)
    replace HO := hide (HO.out.below hbset (Nat.le_refl _))
    replace HB := hide (HB.out.setCell (p := ⟨gd, p, none⟩) HGW.out (.int .u8 v))
    clear hbset HOd HBD HGD HGW HXB HVE
    obtain ⟨ds, hds⟩ : ∃ ds, ds = cs.set p v := ⟨_, rfl⟩
    have HDL : Hid (ds.length = 256) := by show ds.length = 256; rw [hds, List.length_set]; exact HCC.out
    rw [← hds] at HD
    clear hds
    obtain ⟨Y7, hY7⟩ : ∃ Y7, Y7 = y3.setCell ⟨gd, p, none⟩ (.int .u8 v) := ⟨_, rfl⟩
    rw [← hY7] at HD HO HB ⊢
    clear hY7
    go_wp2_with fail
    refine (refFill_len (HR1.out.below HB.out (Nat.le_refl _)) HN1.out).mono ?_
    rintro e y8 ⟨fo, fn, fc, rfl, hfn, hfc, hfr, hb⟩
    have HFN := hide hfn
    have HFC := hide hfc
    have HFR := hide hfr
    replace HD := hide (HD.out.below hb (Nat.le_refl _))
    replace HO := hide (HO.out.below hb (Nat.le_refl _))
    replace HB := hide (over HB.out hb HB.out.size)
    clear hfn hfc hfr hb
    have HBX := hide (below_box y8 (.cells #[.slice a1 len1 cap1, .slice (some ⟨gc, 0, none⟩) 256 256, .slice (some ⟨gd, 0, none⟩) 256 256, .slice fo fn fc] 24))
    have HT := hide (four_of ⟨HR1.out.below HB.out (Nat.le_refl _), HN1.out, HCP1.out⟩ ⟨HO.out, HCC.out, Nat.le_refl _⟩ ⟨HD.out, HDL.out, Nat.le_refl _⟩ ⟨HFR.out, HFN.out, HFC.out⟩)
    have HBZ := hide (over HB.out HBX.out HB.out.size)
    obtain ⟨Z, hZ⟩ : ∃ Z, Z = y8.alloc (.cells #[.slice a1 len1 cap1, .slice (some ⟨gc, 0, none⟩) 256 256, .slice (some ⟨gd, 0, none⟩) 256 256, .slice fo fn fc] 24) := ⟨_, rfl⟩
    have HZE := hide hZ
    rw [← hZ] at HT HBZ
    have HGL : Hid (y8.heap.size < Z.heap.size) := by show y8.heap.size < Z.heap.size; rw [hZ]; simp
    clear hZ HBX HB HD HO HFR
    go_wp2_with fail
    rw [← HZE.out]
    obtain ⟨G, hG⟩ : ∃ G, G = y8.heap.size := ⟨_, rfl⟩
    rw [← hG] at HT HGL ⊢
    clear hG HZE
    go_loopw [17] (fun i wr => ∃ k : Nat, k ≤ 4 ∧ i = .int .i64 k ∧ Below Z.heap.size Z wr) (fun i _ => 4 - (intOf i).toNat)
    case atStart => exact ⟨0, by omega, rfl, Below.refl _ _⟩
    case round =>
      obtain ⟨j, hj, rfl, hb⟩ := hrel
      have HBz := hide hb
      have HBw := hide (over HBZ.out hb HBZ.out.size)
      clear hb
      by_cases hlt : j < 4
      · have hji : (j : Int) < 4 := by omega
        obtain ⟨ao, n, c, xs, hce, hrow, hn, hnc⟩ := HT.out j hlt
        have HCL := hide hce
        have HRw := hide (hrow.below HBz.out (Nat.le_refl _))
        have HNx := hide hn
        have hcell := (HBz.out.cell (p := ⟨G, j, none⟩) HGL.out).trans hce
        clear hce hrow hn hnc
        go_wp2_with fail
        clear hcell
        refine (mread_uni (HE.out _ HBw.out) HRw.out HNx.out).mono ?_
        rintro e z1 ⟨fv, rfl, hcode, hb⟩
        have HCD := hide hcode
        obtain ⟨n0, hn0⟩ : ∃ n0, n0 = ansM xs := ⟨_, rfl⟩
        have HN0 := hide hn0
        rw [← hn0]
        have hbx := hb.trans ((below_box z1 (mCells n0)).mono hb.size)
        have HC := hide (cells7_new z1 n0)
        unfold mCells at hbx HC
        replace HRw := hide (HRw.out.below hbx (Nat.le_refl _))
        replace HBz := hide (over HBz.out hbx HBz.out.size)
        replace HBw := hide (over HBw.out hbx HBw.out.size)
        obtain ⟨Z1, hZ1⟩ : ∃ Z1, Z1 = z1.alloc (.cells #[.int .i64 n0.e, .int .i64 n0.b, .int .i64 n0.r, .int .i64 n0.c, .int .i64 n0.p, .int .i64 n0.k, .int .i64 n0.f] 23) := ⟨_, rfl⟩
        rw [← hZ1] at HC HRw HBz HBw
        have HZ1 := hide hZ1.symm
        obtain ⟨B1, hB1⟩ : ∃ B1, B1 = z1.heap.size := ⟨_, rfl⟩
        rw [← hB1] at HC
        clear hcode hb hbx hZ1 hn0
        unfold M.val
        go_upto_region 21 with fail
        rw [HZ1.out, ← hB1]
        clear HZ1 hB1
        have hcell := (HBz.out.cell (p := ⟨G, j, none⟩) HGL.out).trans HCL.out
        go_wp2_with fail
        clear hcell
        refine (rmread_uni HRw.out HNx.out).mono ?_
        rintro e z2 ⟨rfl, hb⟩
        rw [← HN0.out]
        have hbx := hb.trans ((below_box z2 (mCells n0)).mono hb.size)
        have HC2 := hide (cells7_new z2 n0)
        unfold mCells at hbx HC2
        replace HC := hide (HC.out.step hbx)
        replace HBz := hide (over HBz.out hbx HBz.out.size)
        replace HBw := hide (over HBw.out hbx HBw.out.size)
        obtain ⟨Z2, hZ2⟩ : ∃ Z2, Z2 = z2.alloc (.cells #[.int .i64 n0.e, .int .i64 n0.b, .int .i64 n0.r, .int .i64 n0.c, .int .i64 n0.p, .int .i64 n0.k, .int .i64 n0.f] 23) := ⟨_, rfl⟩
        rw [← hZ2] at HC HC2 HBz HBw
        have HZ2 := hide hZ2.symm
        obtain ⟨B2, hB2⟩ : ∃ B2, B2 = z2.heap.size := ⟨_, rfl⟩
        rw [← hB2] at HC2
        clear hb hbx hZ2 HN0
        obtain ⟨cd, hcd⟩ : ∃ cd, cd = ansMC xs := ⟨_, rfl⟩
        rw [← hcd] at HCD ⊢
        clear hcd
        unfold M.val
        go_upto_region 22 with fail
        rw [HZ2.out, ← hB2]
        clear HZ2 hB2
        obtain ⟨k0, k1, k2, k3, k4, k5, k6, kl⟩ := HC.out
        obtain ⟨q0, q1, q2, q3, q4, q5, q6, ql⟩ := HC2.out
        go_wp2_with fail
        clear k0 k1 k2 k3 k4 k5 k6 kl q0 q1 q2 q3 q4 q5 q6 ql
        refine (sameMaster_any n0 n0 _).mono ?_
        rintro e z3 ⟨rfl, hb⟩
        rw [sameM_refl]
        replace HBz := hide (over HBz.out hb HBz.out.size)
        replace HBw := hide (over HBw.out hb HBw.out.size)
        clear hb HC HC2
        go_wp2_with fail
        refine (is_code HCD.out (HW.out.step HBw.out)).mono ?_
        rintro e z4 ⟨rfl, hb⟩
        replace HBz := hide (over HBz.out hb HBz.out.size)
        clear hb
        go_wp2_with fail
        go_roundw
        case rel => first | exact ⟨j + 1, by omega, by go_num, HBz.out⟩ | ((repeat apply Exists.intro); exact ⟨⟨j + 1, by omega, by go_num, HBz.out⟩, rfl⟩)
        case measure => simp [intOf]; omega
      · have hji : decide ((j : Int) < 4) = false := by simp; omega
        clear hlt hj
        go_wp2_with fail
        go_ret
        exact ⟨rfl, HBw.out⟩
end Go.Proofs.YtjdfmpdkfbhdkaaDoor.masterSays
