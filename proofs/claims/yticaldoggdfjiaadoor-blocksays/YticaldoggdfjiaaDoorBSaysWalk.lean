
/- What the statement BlockSays asks comes out true, at all arguments; nothing that was there is written. -/
import Derived.Test.YticaldoggdfjiaaDoorBSaysMath
import Derived.Test.YticaldoggdfjiaaDoorLay
import Derived.Deep.Cut
namespace Go.Proofs.YticaldoggdfjiaaDoor.blockSays
open Go.RowKit
set_option linter.unusedVariables false

set_option maxRecDepth 100000 in
set_option maxHeartbeats 32000000 in
theorem walk (a0 : Int) (a1 : Option Addr) (len1 cap1 : Nat) (z1 : List Int) (a2 : R) (a3 : Option Addr) (len3 cap3 : Nat) (z3 : List Int) (a4 a5 : Int) (w : World) (w0 : (Lit.int .i64 a0).wf = true) (w1 : IsRow .i64 w a1 len1 cap1 z1) (w3 : IsRow .u8 w a3 len3 cap3 z3) (w4 : (Lit.int .i64 a4).wf = true) (w5 : (Lit.int .u8 a5).wf = true) {a : Nat → Addr} (he : ErrsOf w all18 a) :
    Calls Tryd.prog 5 #[.int .i64 a0, .slice a1 len1 cap1, a2.val, .slice a3 len3 cap3, .int .i64 a4, .int .u8 a5] w fun e w' => e = .returned (.bool true) ∧ Below w.heap.size w w' := by
  have HW := hide he
  have HE := hide (errs_blk he (mem18 (by omega)) (mem18 (by omega)) (mem18 (by omega)) (mem18 (by omega)))
  have HI1 := hide w1
  have HI3 := hide w3
  clear he w0 w1 w3 w4 w5
  have HC0 := hide (cells10_new w a2)
  have HB := hide (below_box w (recCells a2))
  obtain ⟨X, hX⟩ : ∃ X, X = w.alloc (recCells a2) := ⟨_, rfl⟩
  have HX : Hid (w.alloc (.cells #[.int .i64 a2.kind, .int .i64 a2.txn, .int .i64 a2.page, .int .i64 a2.prev, .int .i64 a2.next, .int .i64 a2.key, .bool a2.had, .bool a2.has, .int .i64 a2.old, .int .i64 a2.new] 23) = X) := hX.symm
  rw [← hX] at HC0 HB
  clear hX
  unfold R.val
  go_enter Tryd.func5, Tryd.ntmps5
  go_wp2_with fail
  rw [HX.out]
  refine (bfirst_any _ (HE.out.step HB.out)).mono ?_
  rintro e x1 ⟨rfl, hb⟩
  replace HC0 := hide (HC0.out.below hb (Nat.le_refl _))
  replace HB := hide (over HB.out hb HB.out.size)
  clear hb
  by_cases hl1 : len1 ≤ 150
  case neg =>
    have hli : (150 : Int) < (len1 : Int) := by omega
    go_wp2_with fail
    go_ret
    exact ⟨rfl, HB.out⟩
  have hli1 : decide ((150 : Int) < (len1 : Int)) = false := by simp; omega
  by_cases hl3 : len3 ≤ 300
  case neg =>
    have hli : (300 : Int) < (len3 : Int) := by omega
    go_wp2_with fail
    go_ret
    exact ⟨rfl, HB.out⟩
  have hli3 : decide ((300 : Int) < (len3 : Int)) = false := by simp; omega
  have HL1 := hide hl1
  have HCP3 := hide HI3.out.le
  obtain ⟨xs3, hx3, hr3, _⟩ := IsRow.part HI3.out (by omega)
  have HR3 := hide hr3
  have HN3 := hide hx3
  have HLT : Hid (w.heap.size < x1.heap.size) := HC0.out.lt
  have HWS : Hid (w.heap.size ≤ x1.heap.size) := HB.out.size
  clear hl1 hl3 hx3 hr3 HX HI3
  go_wp2_with fail
  refine (recs_new2 8 (by omega) (by omega) HI1.out HL1.out HB.out).mono ?_
  rintro e x2 ⟨so, sc, k, B, rs, rfl, hk, hk8, ⟨hB0, hB1⟩, hown, ⟨n1, hn1, hS⟩, hb⟩
  have HO := hide hown
  have HS := hide hS
  have HK := hide hk
  have HB0 := hide hB0
  have HB1 := hide hB1
  replace HC0 := hide (HC0.out.below hb (Nat.le_refl _))
  replace HB := hide (over HB.out hb HB.out.size)
  clear hown hS hk hB0 hB1 hb HI1
  have hk9 : k ≤ 8 := by omega
  go_wp2_with fail
  refine (next_but _ _ _ _ _ n1 _ _ HS.out (by omega) (by omega) (by omega)).mono ?_
  rintro e x3 ⟨k5, rfl, hk5, hS, hbut⟩
  have hbs3 := hbut.below (Nat.le_of_lt (lt_of_block HS.out.lies))
  replace HO := hide (HO.out.but hbut HB0.out)
  replace HC0 := hide (HC0.out.under hbs3 HLT.out)
  replace HB := hide (HB.out.trans (hbs3.mono HWS.out))
  replace HB1 := hide (Nat.le_trans HB1.out hbut.size)
  replace HS := hide hS
  clear hS hbut hbs3
  obtain ⟨n2, hn2⟩ : ∃ n2, n2 = n1 + 1 := ⟨_, rfl⟩
  rw [← hn2] at HS
  have hn2' : n2 ≤ 101 := by omega
  clear hn2
  by_cases hk50 : k5 = 0
  · subst hk50
    obtain ⟨k0, k1, k2, k3, k4, k5, k6, k7, k8, k9, kl⟩ := HC0.out
    go_wp2_with (first | (refine build1 a2 rfl ?_) | (at_builtin; refine append1 B so k sc rs a2 rfl HK.out HO.out (by omega) (by first | rfl | (simp; rfl)) HB1.out ?_; intro ao3 c3 x4 hown3 hb3; have HO3 := hide hown3; have HB3 := hide hb3; clear hown3 hb3))
    clear k0 k1 k2 k3 k4 k5 k6 k7 k8 k9 kl
    replace HS := hide (HS.out.under HB3.out HB0.out)
    replace HB := hide (HB.out.trans (HB3.out.mono (Nat.le_trans HWS.out (Nat.le_of_lt HB0.out))))
    obtain ⟨ss, hss⟩ : ∃ ss, ss = rs ++ [a2] := ⟨_, rfl⟩
    have HSL : Hid (ss.length = k + 1) := by show ss.length = _; rw [hss, List.length_append, HK.out]; rfl
    rw [← hss] at HO3
    replace HO := HO3
    clear hss HO3 HB3 HK HB1 HC0
    go_wp2_with fail
    refine (next_but _ _ _ _ _ n2 _ _ HS.out (by omega) (by omega) (by omega)).mono ?_
    rintro e x5 ⟨k4, rfl, hk4, hS, hbut⟩
    have hbs5 := hbut.below (Nat.le_of_lt (lt_of_block HS.out.lies))
    replace HO := hide (HO.out.but hbut HB0.out)
    replace HB := hide (HB.out.trans (hbs5.mono HWS.out))
    replace HS := hide hS
    clear hS hbut hbs5
    by_cases hk40 : 0 < k4
    · have hpos : (0 : Int) < (k4 : Int) := by omega
      go_wp2_with fail
      refine (next_but _ _ _ _ _ (n2 + 1) _ _ HS.out (by omega) (by omega) (by omega)).mono ?_
      rintro e x6 ⟨k50, rfl, hk50, hS, hbut⟩
      have hbs6 := hbut.below (Nat.le_of_lt (lt_of_block HS.out.lies))
      have HRs := hide (HO.out.but hbut HB0.out).row
      replace HB := hide (HB.out.trans (hbs6.mono HWS.out))
      clear hS hbut hbs6 HS HO
      obtain ⟨ep, hep⟩ : ∃ ep : Int, ep = 1 + (k50 : Int) := ⟨_, rfl⟩
      go_wp2_with fail
      rw [← hep]
      clear hep
      refine (bb_uni (HE.out.step HB.out) HRs.out HSL.out).mono ?_
      rintro e y1 ⟨xo, xn, xc, fv, rfl, hxn, hxr, hcode, hb⟩
      have HBL := hide (ansB_len ep ss)
      obtain ⟨bs, hbs⟩ : ∃ bs, bs = ansB ep ss := ⟨_, rfl⟩
      obtain ⟨cd, hcd⟩ : ∃ cd, cd = codB ep ss := ⟨_, rfl⟩
      rw [← hbs] at hxr hxn HBL
      rw [← hcd] at hcode
      have HBS := hide hbs
      have HCDE := hide hcd
      have HXR := hide hxr
      have HXN := hide hxn
      have HCD := hide hcode
      replace HRs := hide (HRs.out.step hb)
      replace HB := hide (over HB.out hb HB.out.size)
      clear hbs hcd hxn hxr hcode hb
      go_wp2_with fail
      refine (rb_uni HRs.out HSL.out).mono ?_
      rintro e y2 ⟨yo, yn, yc, rfl, hyn, hyc, hyr, hb⟩
      rw [← HBS.out] at hyn hyr
      rw [← HCDE.out]
      have HYN := hide hyn
      have HYC := hide hyc
      have HYR := hide hyr
      replace HXR := hide (HXR.out.below hb (Nat.le_refl _))
      replace HB := hide (over HB.out hb HB.out.size)
      clear hyn hyc hyr hb HRs HBS HCDE
      go_wp2_with fail
      refine (same_len _ _ _ bs _ _ _ bs _ HXR.out HYR.out HXN.out HYN.out).mono ?_
      rintro e y3 ⟨rfl, nd, rfl⟩
      rw [sameB_true rfl]
      replace HYR := hide (HYR.out.drewN nd)
      replace HB := hide (below_drewN HB.out nd)
      obtain ⟨Y3, hY3⟩ : ∃ Y3, Y3 = y2.drewN nd := ⟨_, rfl⟩
      rw [← hY3] at HYR HB ⊢
      clear hY3 HXR HXN
      go_wp2_with fail
      refine (is_code HCD.out (HW.out.step HB.out)).mono ?_
      rintro e y4 ⟨rfl, hb⟩
      replace HYR := hide (HYR.out.below hb (Nat.le_refl _))
      replace HB := hide (over HB.out hb HB.out.size)
      clear hb HCD
      go_wp2_with fail
      refine (refFill_len (HR3.out.below HB.out (Nat.le_refl _)) HN3.out).mono ?_
      rintro e y5 ⟨co, cn, cc, rfl, hcn, hcc, hcr, hb⟩
      have HFN := hide hcn
      have HFC := hide hcc
      have HFR := hide hcr
      replace HYR := hide (HYR.out.below hb (Nat.le_refl _))
      replace HB := hide (over HB.out hb HB.out.size)
      clear hcn hcc hcr hb
      have HY256 : Hid (yn ≤ 256) := by
        show yn ≤ 256
        have h1 := HYN.out
        rcases HBL.out with h | h <;> omega
      go_wp2_with fail
      refine (refFill_256 HYR.out HYN.out HY256.out).mono ?_
      rintro e y6 ⟨gd, dc, rfl, ⟨hgd, hdc⟩, hownd, hb⟩
      have HDL : Hid ((fillB bs 256).length = 256) := by
        show (fillB bs 256).length = 256
        rw [length_fillB]
        have h1 := HYN.out
        have h2 := HY256.out
        show max 256 _ = 256
        omega
      obtain ⟨dd, hdd⟩ : ∃ dd, dd = fillB bs 256 := ⟨_, rfl⟩
      rw [← hdd] at hownd HDL
      have HOd := hide hownd
      have HGD := hide hgd
      have HDC := hide hdc
      have HGW := hide (Nat.le_trans HB.out.size hgd)
      have HBD := hide hb
      replace HB := hide (over HB.out hb HB.out.size)
      clear hdd hgd hdc hownd hb
      go_wp2_with fail
      refine (number_any _ _ _ (by omega) (by omega)).mono ?_
      rintro e y7 ⟨rfl, rfl⟩
      have hp := numberB_bd a4 256 (by omega)
      obtain ⟨p, hp'⟩ : ∃ p : Nat, numberB a4 256 = p := ⟨(numberB a4 256).toNat, by omega⟩
      rw [hp'] at hp ⊢
      have hp256 : p < 256 := by omega
      have hpi : (p : Int) < 256 := by omega
      clear hp hp'
      have hc := HOd.out.cell p (by rw [HDL.out]; exact hp256)
      obtain ⟨yy, hyy⟩ : ∃ yy, yy = dd.getD p 0 := ⟨_, rfl⟩
      rw [← hyy] at hc
      clear hyy
      have hfz := HOd.out.frozen p
      have hxb := xor_bd yy a5
      obtain ⟨v, hv⟩ : ∃ v, v = bits .xor .u8 yy a5 := ⟨_, rfl⟩
      rw [← hv] at hxb
      have HVE := hide hv
      have HXB := hide hxb
      clear hv hxb
      go_upto_region 21 with fail
      clear hc hfz
      rw [← HVE.out]
      have HD := hide (HOd.out.stored p v HXB.out.1 HXB.out.2)
      have hbset := HBD.out.setCell (p := ⟨gd, p, none⟩) HGD.out (.int .u8 v)
      replace HYR := hide (HYR.out.below hbset (Nat.le_refl _))
      replace HFR := hide (HFR.out.below hbset (Nat.le_refl _))
      replace HB := hide (HB.out.setCell (p := ⟨gd, p, none⟩) HGW.out (.int .u8 v))
      clear hbset HOd HBD HGD HGW HXB HVE
      obtain ⟨ds, hds⟩ : ∃ ds, ds = dd.set p v := ⟨_, rfl⟩
      have HDL2 : Hid (ds.length = 256) := by show ds.length = 256; rw [hds, List.length_set]; exact HDL.out
      rw [← hds] at HD
      clear hds
      obtain ⟨Y7, hY7⟩ : ∃ Y7, Y7 = y7.setCell ⟨gd, p, none⟩ (.int .u8 v) := ⟨_, rfl⟩
      rw [← hY7] at HD HYR HFR HB ⊢
      clear hY7
      have HBX := hide (below_box Y7 (.cells #[.slice a3 len3 cap3, .slice co cn cc, .slice (some ⟨gd, 0, none⟩) 256 dc, .slice yo yn yc] 24))
      have HT := hide (four_of ⟨HR3.out.below HB.out (Nat.le_refl _), HN3.out, HCP3.out⟩ ⟨HFR.out, HFN.out, HFC.out⟩ ⟨HD.out.row, HDL2.out, HDC.out⟩ ⟨HYR.out, HYN.out, HYC.out⟩)
      have HBZ := hide (over HB.out HBX.out HB.out.size)
      obtain ⟨Z, hZ⟩ : ∃ Z, Z = Y7.alloc (.cells #[.slice a3 len3 cap3, .slice co cn cc, .slice (some ⟨gd, 0, none⟩) 256 dc, .slice yo yn yc] 24) := ⟨_, rfl⟩
      have HZE := hide hZ
      rw [← hZ] at HT HBZ
      have HGL : Hid (Y7.heap.size < Z.heap.size) := by show Y7.heap.size < Z.heap.size; rw [hZ]; simp
      clear hZ HBX HB HD HYR HFR
      go_wp2_with fail
      rw [← HZE.out]
      obtain ⟨G, hG⟩ : ∃ G, G = Y7.heap.size := ⟨_, rfl⟩
      rw [← hG] at HT HGL ⊢
      clear hG HZE
      go_loopw [25] (fun i wr => ∃ k : Nat, k ≤ 4 ∧ i = .int .i64 k ∧ Below Z.heap.size Z wr) (fun i _ => 4 - (intOf i).toNat)
      case atStart => exact ⟨0, by omega, rfl, Below.refl _ _⟩
      case round =>
        obtain ⟨j, hj, rfl, hb⟩ := hrel
        have HBz := hide hb
        have HBw := hide (over HBZ.out hb HBZ.out.size)
        clear hb
        by_cases hlt : j < 4
        · have hji : (j : Int) < 4 := by omega
          obtain ⟨ao, n, c, xs, hce, hrow, hn, hnc⟩ := HT.out j hlt
          have HCL := hide hce
          have HRw := hide (hrow.below HBz.out (Nat.le_refl _))
          have HNx := hide hn
          have HNC := hide hnc
          have hcell := (HBz.out.cell (p := ⟨G, j, none⟩) HGL.out).trans hce
          clear hce hrow hn hnc
          go_wp2_with fail
          clear hcell
          refine (read_uni (HE.out.step HBw.out) HRw.out HNx.out HNC.out).mono ?_
          rintro e z1 ⟨mo, mk, mc, fv2, rfl, hmk, hmr, hcode, hb⟩
          have HMK := hide hmk
          have HMR := hide hmr
          have HCD2 := hide hcode
          replace HRw := hide (HRw.out.below hb (Nat.le_refl _))
          replace HBz := hide (over HBz.out hb HBz.out.size)
          replace HBw := hide (over HBw.out hb HBw.out.size)
          clear hmk hmr hcode hb
          have hcell := (HBz.out.cell (p := ⟨G, j, none⟩) HGL.out).trans HCL.out
          go_wp2_with fail
          clear hcell
          refine (rread_uni HRw.out HNx.out HNC.out).mono ?_
          rintro e z2 ⟨po, pk, pc, rfl, hpk, hpr, hb⟩
          have HPK := hide hpk
          have HPR := hide hpr
          replace HMR := hide (HMR.out.step hb)
          replace HBz := hide (over HBz.out hb HBz.out.size)
          replace HBw := hide (over HBw.out hb HBw.out.size)
          clear hpk hpr hb
          obtain ⟨an, han⟩ : ∃ an, an = ansN xs := ⟨_, rfl⟩
          obtain ⟨cd2, hcd2⟩ : ∃ cd2, cd2 = ansC xs := ⟨_, rfl⟩
          rw [← hcd2] at HCD2 ⊢
          rw [← han]
          clear han hcd2
          have hne : (an != an) = false := by simp
          go_wp2_with fail
          refine (sameRecs_any _ _ _ (ansR xs) _ _ _ (ansR xs) _ HMR.out HPR.out HMK.out HPK.out).mono ?_
          rintro e z3 ⟨rfl, hb⟩
          rw [(sameRs_iff (ansR xs) (ansR xs)).2 rfl]
          replace HBz := hide (over HBz.out hb HBz.out.size)
          replace HBw := hide (over HBw.out hb HBw.out.size)
          clear hb
          go_wp2_with fail
          refine (is_code HCD2.out (HW.out.step HBw.out)).mono ?_
          rintro e z4 ⟨rfl, hb⟩
          replace HBz := hide (over HBz.out hb HBz.out.size)
          clear hb
          go_wp2_with fail
          go_roundw
          case rel => exact ⟨j + 1, by omega, by go_num, HBz.out⟩
          case measure => simp [intOf]; omega
        · have hji : decide ((j : Int) < 4) = false := by simp; omega
          clear hlt hj
          go_wp2_with fail
          go_ret
          exact ⟨rfl, HBw.out⟩
    · have hpos : decide ((0 : Int) < (k4 : Int)) = false := by simp; omega
      have HRs := hide HO.out.row
      clear HS HO
      go_wp2_with fail
      refine (bb_uni (HE.out.step HB.out) HRs.out HSL.out).mono ?_
      rintro e y1 ⟨xo, xn, xc, fv, rfl, hxn, hxr, hcode, hb⟩
      have HBL := hide (ansB_len a0 ss)
      obtain ⟨bs, hbs⟩ : ∃ bs, bs = ansB a0 ss := ⟨_, rfl⟩
      obtain ⟨cd, hcd⟩ : ∃ cd, cd = codB a0 ss := ⟨_, rfl⟩
      rw [← hbs] at hxr hxn HBL
      rw [← hcd] at hcode
      have HBS := hide hbs
      have HCDE := hide hcd
      have HXR := hide hxr
      have HXN := hide hxn
      have HCD := hide hcode
      replace HRs := hide (HRs.out.step hb)
      replace HB := hide (over HB.out hb HB.out.size)
      clear hbs hcd hxn hxr hcode hb
      go_wp2_with fail
      refine (rb_uni HRs.out HSL.out).mono ?_
      rintro e y2 ⟨yo, yn, yc, rfl, hyn, hyc, hyr, hb⟩
      rw [← HBS.out] at hyn hyr
      rw [← HCDE.out]
      have HYN := hide hyn
      have HYC := hide hyc
      have HYR := hide hyr
      replace HXR := hide (HXR.out.below hb (Nat.le_refl _))
      replace HB := hide (over HB.out hb HB.out.size)
      clear hyn hyc hyr hb HRs HBS HCDE
      go_wp2_with fail
      refine (same_len _ _ _ bs _ _ _ bs _ HXR.out HYR.out HXN.out HYN.out).mono ?_
      rintro e y3 ⟨rfl, nd, rfl⟩
      rw [sameB_true rfl]
      replace HYR := hide (HYR.out.drewN nd)
      replace HB := hide (below_drewN HB.out nd)
      obtain ⟨Y3, hY3⟩ : ∃ Y3, Y3 = y2.drewN nd := ⟨_, rfl⟩
      rw [← hY3] at HYR HB ⊢
      clear hY3 HXR HXN
      go_wp2_with fail
      refine (is_code HCD.out (HW.out.step HB.out)).mono ?_
      rintro e y4 ⟨rfl, hb⟩
      replace HYR := hide (HYR.out.below hb (Nat.le_refl _))
      replace HB := hide (over HB.out hb HB.out.size)
      clear hb HCD
      go_wp2_with fail
      refine (refFill_len (HR3.out.below HB.out (Nat.le_refl _)) HN3.out).mono ?_
      rintro e y5 ⟨co, cn, cc, rfl, hcn, hcc, hcr, hb⟩
      have HFN := hide hcn
      have HFC := hide hcc
      have HFR := hide hcr
      replace HYR := hide (HYR.out.below hb (Nat.le_refl _))
      replace HB := hide (over HB.out hb HB.out.size)
      clear hcn hcc hcr hb
      have HY256 : Hid (yn ≤ 256) := by
        show yn ≤ 256
        have h1 := HYN.out
        rcases HBL.out with h | h <;> omega
      go_wp2_with fail
      refine (refFill_256 HYR.out HYN.out HY256.out).mono ?_
      rintro e y6 ⟨gd, dc, rfl, ⟨hgd, hdc⟩, hownd, hb⟩
      have HDL : Hid ((fillB bs 256).length = 256) := by
        show (fillB bs 256).length = 256
        rw [length_fillB]
        have h1 := HYN.out
        have h2 := HY256.out
        show max 256 _ = 256
        omega
      obtain ⟨dd, hdd⟩ : ∃ dd, dd = fillB bs 256 := ⟨_, rfl⟩
      rw [← hdd] at hownd HDL
      have HOd := hide hownd
      have HGD := hide hgd
      have HDC := hide hdc
      have HGW := hide (Nat.le_trans HB.out.size hgd)
      have HBD := hide hb
      replace HB := hide (over HB.out hb HB.out.size)
      clear hdd hgd hdc hownd hb
      go_wp2_with fail
      refine (number_any _ _ _ (by omega) (by omega)).mono ?_
      rintro e y7 ⟨rfl, rfl⟩
      have hp := numberB_bd a4 256 (by omega)
      obtain ⟨p, hp'⟩ : ∃ p : Nat, numberB a4 256 = p := ⟨(numberB a4 256).toNat, by omega⟩
      rw [hp'] at hp ⊢
      have hp256 : p < 256 := by omega
      have hpi : (p : Int) < 256 := by omega
      clear hp hp'
      have hc := HOd.out.cell p (by rw [HDL.out]; exact hp256)
      obtain ⟨yy, hyy⟩ : ∃ yy, yy = dd.getD p 0 := ⟨_, rfl⟩
      rw [← hyy] at hc
      clear hyy
      have hfz := HOd.out.frozen p
      have hxb := xor_bd yy a5
      obtain ⟨v, hv⟩ : ∃ v, v = bits .xor .u8 yy a5 := ⟨_, rfl⟩
      rw [← hv] at hxb
      have HVE := hide hv
      have HXB := hide hxb
      clear hv hxb
      go_upto_region 21 with fail
      clear hc hfz
      rw [← HVE.out]
      have HD := hide (HOd.out.stored p v HXB.out.1 HXB.out.2)
      have hbset := HBD.out.setCell (p := ⟨gd, p, none⟩) HGD.out (.int .u8 v)
      replace HYR := hide (HYR.out.below hbset (Nat.le_refl _))
      replace HFR := hide (HFR.out.below hbset (Nat.le_refl _))
      replace HB := hide (HB.out.setCell (p := ⟨gd, p, none⟩) HGW.out (.int .u8 v))
      clear hbset HOd HBD HGD HGW HXB HVE
      obtain ⟨ds, hds⟩ : ∃ ds, ds = dd.set p v := ⟨_, rfl⟩
      have HDL2 : Hid (ds.length = 256) := by show ds.length = 256; rw [hds, List.length_set]; exact HDL.out
      rw [← hds] at HD
      clear hds
      obtain ⟨Y7, hY7⟩ : ∃ Y7, Y7 = y7.setCell ⟨gd, p, none⟩ (.int .u8 v) := ⟨_, rfl⟩
      rw [← hY7] at HD HYR HFR HB ⊢
      clear hY7
      have HBX := hide (below_box Y7 (.cells #[.slice a3 len3 cap3, .slice co cn cc, .slice (some ⟨gd, 0, none⟩) 256 dc, .slice yo yn yc] 24))
      have HT := hide (four_of ⟨HR3.out.below HB.out (Nat.le_refl _), HN3.out, HCP3.out⟩ ⟨HFR.out, HFN.out, HFC.out⟩ ⟨HD.out.row, HDL2.out, HDC.out⟩ ⟨HYR.out, HYN.out, HYC.out⟩)
      have HBZ := hide (over HB.out HBX.out HB.out.size)
      obtain ⟨Z, hZ⟩ : ∃ Z, Z = Y7.alloc (.cells #[.slice a3 len3 cap3, .slice co cn cc, .slice (some ⟨gd, 0, none⟩) 256 dc, .slice yo yn yc] 24) := ⟨_, rfl⟩
      have HZE := hide hZ
      rw [← hZ] at HT HBZ
      have HGL : Hid (Y7.heap.size < Z.heap.size) := by show Y7.heap.size < Z.heap.size; rw [hZ]; simp
      clear hZ HBX HB HD HYR HFR
      go_wp2_with fail
      rw [← HZE.out]
      obtain ⟨G, hG⟩ : ∃ G, G = Y7.heap.size := ⟨_, rfl⟩
      rw [← hG] at HT HGL ⊢
      clear hG HZE
      go_loopw [25] (fun i wr => ∃ k : Nat, k ≤ 4 ∧ i = .int .i64 k ∧ Below Z.heap.size Z wr) (fun i _ => 4 - (intOf i).toNat)
      case atStart => exact ⟨0, by omega, rfl, Below.refl _ _⟩
      case round =>
        obtain ⟨j, hj, rfl, hb⟩ := hrel
        have HBz := hide hb
        have HBw := hide (over HBZ.out hb HBZ.out.size)
        clear hb
        by_cases hlt : j < 4
        · have hji : (j : Int) < 4 := by omega
          obtain ⟨ao, n, c, xs, hce, hrow, hn, hnc⟩ := HT.out j hlt
          have HCL := hide hce
          have HRw := hide (hrow.below HBz.out (Nat.le_refl _))
          have HNx := hide hn
          have HNC := hide hnc
          have hcell := (HBz.out.cell (p := ⟨G, j, none⟩) HGL.out).trans hce
          clear hce hrow hn hnc
          go_wp2_with fail
          clear hcell
          refine (read_uni (HE.out.step HBw.out) HRw.out HNx.out HNC.out).mono ?_
          rintro e z1 ⟨mo, mk, mc, fv2, rfl, hmk, hmr, hcode, hb⟩
          have HMK := hide hmk
          have HMR := hide hmr
          have HCD2 := hide hcode
          replace HRw := hide (HRw.out.below hb (Nat.le_refl _))
          replace HBz := hide (over HBz.out hb HBz.out.size)
          replace HBw := hide (over HBw.out hb HBw.out.size)
          clear hmk hmr hcode hb
          have hcell := (HBz.out.cell (p := ⟨G, j, none⟩) HGL.out).trans HCL.out
          go_wp2_with fail
          clear hcell
          refine (rread_uni HRw.out HNx.out HNC.out).mono ?_
          rintro e z2 ⟨po, pk, pc, rfl, hpk, hpr, hb⟩
          have HPK := hide hpk
          have HPR := hide hpr
          replace HMR := hide (HMR.out.step hb)
          replace HBz := hide (over HBz.out hb HBz.out.size)
          replace HBw := hide (over HBw.out hb HBw.out.size)
          clear hpk hpr hb
          obtain ⟨an, han⟩ : ∃ an, an = ansN xs := ⟨_, rfl⟩
          obtain ⟨cd2, hcd2⟩ : ∃ cd2, cd2 = ansC xs := ⟨_, rfl⟩
          rw [← hcd2] at HCD2 ⊢
          rw [← han]
          clear han hcd2
          have hne : (an != an) = false := by simp
          go_wp2_with fail
          refine (sameRecs_any _ _ _ (ansR xs) _ _ _ (ansR xs) _ HMR.out HPR.out HMK.out HPK.out).mono ?_
          rintro e z3 ⟨rfl, hb⟩
          rw [(sameRs_iff (ansR xs) (ansR xs)).2 rfl]
          replace HBz := hide (over HBz.out hb HBz.out.size)
          replace HBw := hide (over HBw.out hb HBw.out.size)
          clear hb
          go_wp2_with fail
          refine (is_code HCD2.out (HW.out.step HBw.out)).mono ?_
          rintro e z4 ⟨rfl, hb⟩
          replace HBz := hide (over HBz.out hb HBz.out.size)
          clear hb
          go_wp2_with fail
          go_roundw
          case rel => exact ⟨j + 1, by omega, by go_num, HBz.out⟩
          case measure => simp [intOf]; omega
        · have hji : decide ((j : Int) < 4) = false := by simp; omega
          clear hlt hj
          go_wp2_with fail
          go_ret
          exact ⟨rfl, HBw.out⟩
  · have hkne : ((k5 : Int) == 0) = false := by simp; omega
    obtain ⟨ss, hss⟩ : ∃ ss, ss = rs := ⟨_, rfl⟩
    have HSL : Hid (ss.length = k) := by show ss.length = _; rw [hss, HK.out]
    rw [← hss] at HO
    clear hss HK HB1 HC0
    go_wp2_with fail
    refine (next_but _ _ _ _ _ n2 _ _ HS.out (by omega) (by omega) (by omega)).mono ?_
    rintro e x5 ⟨k4, rfl, hk4, hS, hbut⟩
    have hbs5 := hbut.below (Nat.le_of_lt (lt_of_block HS.out.lies))
    replace HO := hide (HO.out.but hbut HB0.out)
    replace HB := hide (HB.out.trans (hbs5.mono HWS.out))
    replace HS := hide hS
    clear hS hbut hbs5
    by_cases hk40 : 0 < k4
    · have hpos : (0 : Int) < (k4 : Int) := by omega
      go_wp2_with fail
      refine (next_but _ _ _ _ _ (n2 + 1) _ _ HS.out (by omega) (by omega) (by omega)).mono ?_
      rintro e x6 ⟨k50, rfl, hk50, hS, hbut⟩
      have hbs6 := hbut.below (Nat.le_of_lt (lt_of_block HS.out.lies))
      have HRs := hide (HO.out.but hbut HB0.out).row
      replace HB := hide (HB.out.trans (hbs6.mono HWS.out))
      clear hS hbut hbs6 HS HO
      obtain ⟨ep, hep⟩ : ∃ ep : Int, ep = 1 + (k50 : Int) := ⟨_, rfl⟩
      go_wp2_with fail
      rw [← hep]
      clear hep
      refine (bb_uni (HE.out.step HB.out) HRs.out HSL.out).mono ?_
      rintro e y1 ⟨xo, xn, xc, fv, rfl, hxn, hxr, hcode, hb⟩
      have HBL := hide (ansB_len ep ss)
      obtain ⟨bs, hbs⟩ : ∃ bs, bs = ansB ep ss := ⟨_, rfl⟩
      obtain ⟨cd, hcd⟩ : ∃ cd, cd = codB ep ss := ⟨_, rfl⟩
      rw [← hbs] at hxr hxn HBL
      rw [← hcd] at hcode
      have HBS := hide hbs
      have HCDE := hide hcd
      have HXR := hide hxr
      have HXN := hide hxn
      have HCD := hide hcode
      replace HRs := hide (HRs.out.step hb)
      replace HB := hide (over HB.out hb HB.out.size)
      clear hbs hcd hxn hxr hcode hb
      go_wp2_with fail
      refine (rb_uni HRs.out HSL.out).mono ?_
      rintro e y2 ⟨yo, yn, yc, rfl, hyn, hyc, hyr, hb⟩
      rw [← HBS.out] at hyn hyr
      rw [← HCDE.out]
      have HYN := hide hyn
      have HYC := hide hyc
      have HYR := hide hyr
      replace HXR := hide (HXR.out.below hb (Nat.le_refl _))
      replace HB := hide (over HB.out hb HB.out.size)
      clear hyn hyc hyr hb HRs HBS HCDE
      go_wp2_with fail
      refine (same_len _ _ _ bs _ _ _ bs _ HXR.out HYR.out HXN.out HYN.out).mono ?_
      rintro e y3 ⟨rfl, nd, rfl⟩
      rw [sameB_true rfl]
      replace HYR := hide (HYR.out.drewN nd)
      replace HB := hide (below_drewN HB.out nd)
      obtain ⟨Y3, hY3⟩ : ∃ Y3, Y3 = y2.drewN nd := ⟨_, rfl⟩
      rw [← hY3] at HYR HB ⊢
      clear hY3 HXR HXN
      go_wp2_with fail
      refine (is_code HCD.out (HW.out.step HB.out)).mono ?_
      rintro e y4 ⟨rfl, hb⟩
      replace HYR := hide (HYR.out.below hb (Nat.le_refl _))
      replace HB := hide (over HB.out hb HB.out.size)
      clear hb HCD
      go_wp2_with fail
      refine (refFill_len (HR3.out.below HB.out (Nat.le_refl _)) HN3.out).mono ?_
      rintro e y5 ⟨co, cn, cc, rfl, hcn, hcc, hcr, hb⟩
      have HFN := hide hcn
      have HFC := hide hcc
      have HFR := hide hcr
      replace HYR := hide (HYR.out.below hb (Nat.le_refl _))
      replace HB := hide (over HB.out hb HB.out.size)
      clear hcn hcc hcr hb
      have HY256 : Hid (yn ≤ 256) := by
        show yn ≤ 256
        have h1 := HYN.out
        rcases HBL.out with h | h <;> omega
      go_wp2_with fail
      refine (refFill_256 HYR.out HYN.out HY256.out).mono ?_
      rintro e y6 ⟨gd, dc, rfl, ⟨hgd, hdc⟩, hownd, hb⟩
      have HDL : Hid ((fillB bs 256).length = 256) := by
        show (fillB bs 256).length = 256
        rw [length_fillB]
        have h1 := HYN.out
        have h2 := HY256.out
        show max 256 _ = 256
        omega
      obtain ⟨dd, hdd⟩ : ∃ dd, dd = fillB bs 256 := ⟨_, rfl⟩
      rw [← hdd] at hownd HDL
      have HOd := hide hownd
      have HGD := hide hgd
      have HDC := hide hdc
      have HGW := hide (Nat.le_trans HB.out.size hgd)
      have HBD := hide hb
      replace HB := hide (over HB.out hb HB.out.size)
      clear hdd hgd hdc hownd hb
      go_wp2_with fail
      refine (number_any _ _ _ (by omega) (by omega)).mono ?_
      rintro e y7 ⟨rfl, rfl⟩
      have hp := numberB_bd a4 256 (by omega)
      obtain ⟨p, hp'⟩ : ∃ p : Nat, numberB a4 256 = p := ⟨(numberB a4 256).toNat, by omega⟩
      rw [hp'] at hp ⊢
      have hp256 : p < 256 := by omega
      have hpi : (p : Int) < 256 := by omega
      clear hp hp'
      have hc := HOd.out.cell p (by rw [HDL.out]; exact hp256)
      obtain ⟨yy, hyy⟩ : ∃ yy, yy = dd.getD p 0 := ⟨_, rfl⟩
      rw [← hyy] at hc
      clear hyy
      have hfz := HOd.out.frozen p
      have hxb := xor_bd yy a5
      obtain ⟨v, hv⟩ : ∃ v, v = bits .xor .u8 yy a5 := ⟨_, rfl⟩
      rw [← hv] at hxb
      have HVE := hide hv
      have HXB := hide hxb
      clear hv hxb
      go_upto_region 21 with fail
      clear hc hfz
      rw [← HVE.out]
      have HD := hide (HOd.out.stored p v HXB.out.1 HXB.out.2)
      have hbset := HBD.out.setCell (p := ⟨gd, p, none⟩) HGD.out (.int .u8 v)
      replace HYR := hide (HYR.out.below hbset (Nat.le_refl _))
      replace HFR := hide (HFR.out.below hbset (Nat.le_refl _))
      replace HB := hide (HB.out.setCell (p := ⟨gd, p, none⟩) HGW.out (.int .u8 v))
      clear hbset HOd HBD HGD HGW HXB HVE
      obtain ⟨ds, hds⟩ : ∃ ds, ds = dd.set p v := ⟨_, rfl⟩
      have HDL2 : Hid (ds.length = 256) := by show ds.length = 256; rw [hds, List.length_set]; exact HDL.out
      rw [← hds] at HD
      clear hds
      obtain ⟨Y7, hY7⟩ : ∃ Y7, Y7 = y7.setCell ⟨gd, p, none⟩ (.int .u8 v) := ⟨_, rfl⟩
      rw [← hY7] at HD HYR HFR HB ⊢
      clear hY7
      have HBX := hide (below_box Y7 (.cells #[.slice a3 len3 cap3, .slice co cn cc, .slice (some ⟨gd, 0, none⟩) 256 dc, .slice yo yn yc] 24))
      have HT := hide (four_of ⟨HR3.out.below HB.out (Nat.le_refl _), HN3.out, HCP3.out⟩ ⟨HFR.out, HFN.out, HFC.out⟩ ⟨HD.out.row, HDL2.out, HDC.out⟩ ⟨HYR.out, HYN.out, HYC.out⟩)
      have HBZ := hide (over HB.out HBX.out HB.out.size)
      obtain ⟨Z, hZ⟩ : ∃ Z, Z = Y7.alloc (.cells #[.slice a3 len3 cap3, .slice co cn cc, .slice (some ⟨gd, 0, none⟩) 256 dc, .slice yo yn yc] 24) := ⟨_, rfl⟩
      have HZE := hide hZ
      rw [← hZ] at HT HBZ
      have HGL : Hid (Y7.heap.size < Z.heap.size) := by show Y7.heap.size < Z.heap.size; rw [hZ]; simp
      clear hZ HBX HB HD HYR HFR
      go_wp2_with fail
      rw [← HZE.out]
      obtain ⟨G, hG⟩ : ∃ G, G = Y7.heap.size := ⟨_, rfl⟩
      rw [← hG] at HT HGL ⊢
      clear hG HZE
      go_loopw [25] (fun i wr => ∃ k : Nat, k ≤ 4 ∧ i = .int .i64 k ∧ Below Z.heap.size Z wr) (fun i _ => 4 - (intOf i).toNat)
      case atStart => exact ⟨0, by omega, rfl, Below.refl _ _⟩
      case round =>
        obtain ⟨j, hj, rfl, hb⟩ := hrel
        have HBz := hide hb
        have HBw := hide (over HBZ.out hb HBZ.out.size)
        clear hb
        by_cases hlt : j < 4
        · have hji : (j : Int) < 4 := by omega
          obtain ⟨ao, n, c, xs, hce, hrow, hn, hnc⟩ := HT.out j hlt
          have HCL := hide hce
          have HRw := hide (hrow.below HBz.out (Nat.le_refl _))
          have HNx := hide hn
          have HNC := hide hnc
          have hcell := (HBz.out.cell (p := ⟨G, j, none⟩) HGL.out).trans hce
          clear hce hrow hn hnc
          go_wp2_with fail
          clear hcell
          refine (read_uni (HE.out.step HBw.out) HRw.out HNx.out HNC.out).mono ?_
          rintro e z1 ⟨mo, mk, mc, fv2, rfl, hmk, hmr, hcode, hb⟩
          have HMK := hide hmk
          have HMR := hide hmr
          have HCD2 := hide hcode
          replace HRw := hide (HRw.out.below hb (Nat.le_refl _))
          replace HBz := hide (over HBz.out hb HBz.out.size)
          replace HBw := hide (over HBw.out hb HBw.out.size)
          clear hmk hmr hcode hb
          have hcell := (HBz.out.cell (p := ⟨G, j, none⟩) HGL.out).trans HCL.out
          go_wp2_with fail
          clear hcell
          refine (rread_uni HRw.out HNx.out HNC.out).mono ?_
          rintro e z2 ⟨po, pk, pc, rfl, hpk, hpr, hb⟩
          have HPK := hide hpk
          have HPR := hide hpr
          replace HMR := hide (HMR.out.step hb)
          replace HBz := hide (over HBz.out hb HBz.out.size)
          replace HBw := hide (over HBw.out hb HBw.out.size)
          clear hpk hpr hb
          obtain ⟨an, han⟩ : ∃ an, an = ansN xs := ⟨_, rfl⟩
          obtain ⟨cd2, hcd2⟩ : ∃ cd2, cd2 = ansC xs := ⟨_, rfl⟩
          rw [← hcd2] at HCD2 ⊢
          rw [← han]
          clear han hcd2
          have hne : (an != an) = false := by simp
          go_wp2_with fail
          refine (sameRecs_any _ _ _ (ansR xs) _ _ _ (ansR xs) _ HMR.out HPR.out HMK.out HPK.out).mono ?_
          rintro e z3 ⟨rfl, hb⟩
          rw [(sameRs_iff (ansR xs) (ansR xs)).2 rfl]
          replace HBz := hide (over HBz.out hb HBz.out.size)
          replace HBw := hide (over HBw.out hb HBw.out.size)
          clear hb
          go_wp2_with fail
          refine (is_code HCD2.out (HW.out.step HBw.out)).mono ?_
          rintro e z4 ⟨rfl, hb⟩
          replace HBz := hide (over HBz.out hb HBz.out.size)
          clear hb
          go_wp2_with fail
          go_roundw
          case rel => exact ⟨j + 1, by omega, by go_num, HBz.out⟩
          case measure => simp [intOf]; omega
        · have hji : decide ((j : Int) < 4) = false := by simp; omega
          clear hlt hj
          go_wp2_with fail
          go_ret
          exact ⟨rfl, HBw.out⟩
    · have hpos : decide ((0 : Int) < (k4 : Int)) = false := by simp; omega
      have HRs := hide HO.out.row
      clear HS HO
      go_wp2_with fail
      refine (bb_uni (HE.out.step HB.out) HRs.out HSL.out).mono ?_
      rintro e y1 ⟨xo, xn, xc, fv, rfl, hxn, hxr, hcode, hb⟩
      have HBL := hide (ansB_len a0 ss)
      obtain ⟨bs, hbs⟩ : ∃ bs, bs = ansB a0 ss := ⟨_, rfl⟩
      obtain ⟨cd, hcd⟩ : ∃ cd, cd = codB a0 ss := ⟨_, rfl⟩
      rw [← hbs] at hxr hxn HBL
      rw [← hcd] at hcode
      have HBS := hide hbs
      have HCDE := hide hcd
      have HXR := hide hxr
      have HXN := hide hxn
      have HCD := hide hcode
      replace HRs := hide (HRs.out.step hb)
      replace HB := hide (over HB.out hb HB.out.size)
      clear hbs hcd hxn hxr hcode hb
      go_wp2_with fail
      refine (rb_uni HRs.out HSL.out).mono ?_
      rintro e y2 ⟨yo, yn, yc, rfl, hyn, hyc, hyr, hb⟩
      rw [← HBS.out] at hyn hyr
      rw [← HCDE.out]
      have HYN := hide hyn
      have HYC := hide hyc
      have HYR := hide hyr
      replace HXR := hide (HXR.out.below hb (Nat.le_refl _))
      replace HB := hide (over HB.out hb HB.out.size)
      clear hyn hyc hyr hb HRs HBS HCDE
      go_wp2_with fail
      refine (same_len _ _ _ bs _ _ _ bs _ HXR.out HYR.out HXN.out HYN.out).mono ?_
      rintro e y3 ⟨rfl, nd, rfl⟩
      rw [sameB_true rfl]
      replace HYR := hide (HYR.out.drewN nd)
      replace HB := hide (below_drewN HB.out nd)
      obtain ⟨Y3, hY3⟩ : ∃ Y3, Y3 = y2.drewN nd := ⟨_, rfl⟩
      rw [← hY3] at HYR HB ⊢
      clear hY3 HXR HXN
      go_wp2_with fail
      refine (is_code HCD.out (HW.out.step HB.out)).mono ?_
      rintro e y4 ⟨rfl, hb⟩
      replace HYR := hide (HYR.out.below hb (Nat.le_refl _))
      replace HB := hide (over HB.out hb HB.out.size)
      clear hb HCD
      go_wp2_with fail
      refine (refFill_len (HR3.out.below HB.out (Nat.le_refl _)) HN3.out).mono ?_
      rintro e y5 ⟨co, cn, cc, rfl, hcn, hcc, hcr, hb⟩
      have HFN := hide hcn
      have HFC := hide hcc
      have HFR := hide hcr
      replace HYR := hide (HYR.out.below hb (Nat.le_refl _))
      replace HB := hide (over HB.out hb HB.out.size)
      clear hcn hcc hcr hb
      have HY256 : Hid (yn ≤ 256) := by
        show yn ≤ 256
        have h1 := HYN.out
        rcases HBL.out with h | h <;> omega
      go_wp2_with fail
      refine (refFill_256 HYR.out HYN.out HY256.out).mono ?_
      rintro e y6 ⟨gd, dc, rfl, ⟨hgd, hdc⟩, hownd, hb⟩
      have HDL : Hid ((fillB bs 256).length = 256) := by
        show (fillB bs 256).length = 256
        rw [length_fillB]
        have h1 := HYN.out
        have h2 := HY256.out
        show max 256 _ = 256
        omega
      obtain ⟨dd, hdd⟩ : ∃ dd, dd = fillB bs 256 := ⟨_, rfl⟩
      rw [← hdd] at hownd HDL
      have HOd := hide hownd
      have HGD := hide hgd
      have HDC := hide hdc
      have HGW := hide (Nat.le_trans HB.out.size hgd)
      have HBD := hide hb
      replace HB := hide (over HB.out hb HB.out.size)
      clear hdd hgd hdc hownd hb
      go_wp2_with fail
      refine (number_any _ _ _ (by omega) (by omega)).mono ?_
      rintro e y7 ⟨rfl, rfl⟩
      have hp := numberB_bd a4 256 (by omega)
      obtain ⟨p, hp'⟩ : ∃ p : Nat, numberB a4 256 = p := ⟨(numberB a4 256).toNat, by omega⟩
      rw [hp'] at hp ⊢
      have hp256 : p < 256 := by omega
      have hpi : (p : Int) < 256 := by omega
      clear hp hp'
      have hc := HOd.out.cell p (by rw [HDL.out]; exact hp256)
      obtain ⟨yy, hyy⟩ : ∃ yy, yy = dd.getD p 0 := ⟨_, rfl⟩
      rw [← hyy] at hc
      clear hyy
      have hfz := HOd.out.frozen p
      have hxb := xor_bd yy a5
      obtain ⟨v, hv⟩ : ∃ v, v = bits .xor .u8 yy a5 := ⟨_, rfl⟩
      rw [← hv] at hxb
      have HVE := hide hv
      have HXB := hide hxb
      clear hv hxb
      go_upto_region 21 with fail
      clear hc hfz
      rw [← HVE.out]
      have HD := hide (HOd.out.stored p v HXB.out.1 HXB.out.2)
      have hbset := HBD.out.setCell (p := ⟨gd, p, none⟩) HGD.out (.int .u8 v)
      replace HYR := hide (HYR.out.below hbset (Nat.le_refl _))
      replace HFR := hide (HFR.out.below hbset (Nat.le_refl _))
      replace HB := hide (HB.out.setCell (p := ⟨gd, p, none⟩) HGW.out (.int .u8 v))
      clear hbset HOd HBD HGD HGW HXB HVE
      obtain ⟨ds, hds⟩ : ∃ ds, ds = dd.set p v := ⟨_, rfl⟩
      have HDL2 : Hid (ds.length = 256) := by show ds.length = 256; rw [hds, List.length_set]; exact HDL.out
      rw [← hds] at HD
      clear hds
      obtain ⟨Y7, hY7⟩ : ∃ Y7, Y7 = y7.setCell ⟨gd, p, none⟩ (.int .u8 v) := ⟨_, rfl⟩
      rw [← hY7] at HD HYR HFR HB ⊢
      clear hY7
      have HBX := hide (below_box Y7 (.cells #[.slice a3 len3 cap3, .slice co cn cc, .slice (some ⟨gd, 0, none⟩) 256 dc, .slice yo yn yc] 24))
      have HT := hide (four_of ⟨HR3.out.below HB.out (Nat.le_refl _), HN3.out, HCP3.out⟩ ⟨HFR.out, HFN.out, HFC.out⟩ ⟨HD.out.row, HDL2.out, HDC.out⟩ ⟨HYR.out, HYN.out, HYC.out⟩)
      have HBZ := hide (over HB.out HBX.out HB.out.size)
      obtain ⟨Z, hZ⟩ : ∃ Z, Z = Y7.alloc (.cells #[.slice a3 len3 cap3, .slice co cn cc, .slice (some ⟨gd, 0, none⟩) 256 dc, .slice yo yn yc] 24) := ⟨_, rfl⟩
      have HZE := hide hZ
      rw [← hZ] at HT HBZ
      have HGL : Hid (Y7.heap.size < Z.heap.size) := by show Y7.heap.size < Z.heap.size; rw [hZ]; simp
      clear hZ HBX HB HD HYR HFR
      go_wp2_with fail
      rw [← HZE.out]
      obtain ⟨G, hG⟩ : ∃ G, G = Y7.heap.size := ⟨_, rfl⟩
      rw [← hG] at HT HGL ⊢
      clear hG HZE
      go_loopw [25] (fun i wr => ∃ k : Nat, k ≤ 4 ∧ i = .int .i64 k ∧ Below Z.heap.size Z wr) (fun i _ => 4 - (intOf i).toNat)
      case atStart => exact ⟨0, by omega, rfl, Below.refl _ _⟩
      case round =>
        obtain ⟨j, hj, rfl, hb⟩ := hrel
        have HBz := hide hb
        have HBw := hide (over HBZ.out hb HBZ.out.size)
        clear hb
        by_cases hlt : j < 4
        · have hji : (j : Int) < 4 := by omega
          obtain ⟨ao, n, c, xs, hce, hrow, hn, hnc⟩ := HT.out j hlt
          have HCL := hide hce
          have HRw := hide (hrow.below HBz.out (Nat.le_refl _))
          have HNx := hide hn
          have HNC := hide hnc
          have hcell := (HBz.out.cell (p := ⟨G, j, none⟩) HGL.out).trans hce
          clear hce hrow hn hnc
          go_wp2_with fail
          clear hcell
          refine (read_uni (HE.out.step HBw.out) HRw.out HNx.out HNC.out).mono ?_
          rintro e z1 ⟨mo, mk, mc, fv2, rfl, hmk, hmr, hcode, hb⟩
          have HMK := hide hmk
          have HMR := hide hmr
          have HCD2 := hide hcode
          replace HRw := hide (HRw.out.below hb (Nat.le_refl _))
          replace HBz := hide (over HBz.out hb HBz.out.size)
          replace HBw := hide (over HBw.out hb HBw.out.size)
          clear hmk hmr hcode hb
          have hcell := (HBz.out.cell (p := ⟨G, j, none⟩) HGL.out).trans HCL.out
          go_wp2_with fail
          clear hcell
          refine (rread_uni HRw.out HNx.out HNC.out).mono ?_
          rintro e z2 ⟨po, pk, pc, rfl, hpk, hpr, hb⟩
          have HPK := hide hpk
          have HPR := hide hpr
          replace HMR := hide (HMR.out.step hb)
          replace HBz := hide (over HBz.out hb HBz.out.size)
          replace HBw := hide (over HBw.out hb HBw.out.size)
          clear hpk hpr hb
          obtain ⟨an, han⟩ : ∃ an, an = ansN xs := ⟨_, rfl⟩
          obtain ⟨cd2, hcd2⟩ : ∃ cd2, cd2 = ansC xs := ⟨_, rfl⟩
          rw [← hcd2] at HCD2 ⊢
          rw [← han]
          clear han hcd2
          have hne : (an != an) = false := by simp
          go_wp2_with fail
          refine (sameRecs_any _ _ _ (ansR xs) _ _ _ (ansR xs) _ HMR.out HPR.out HMK.out HPK.out).mono ?_
          rintro e z3 ⟨rfl, hb⟩
          rw [(sameRs_iff (ansR xs) (ansR xs)).2 rfl]
          replace HBz := hide (over HBz.out hb HBz.out.size)
          replace HBw := hide (over HBw.out hb HBw.out.size)
          clear hb
          go_wp2_with fail
          refine (is_code HCD2.out (HW.out.step HBw.out)).mono ?_
          rintro e z4 ⟨rfl, hb⟩
          replace HBz := hide (over HBz.out hb HBz.out.size)
          clear hb
          go_wp2_with fail
          go_roundw
          case rel => exact ⟨j + 1, by omega, by go_num, HBz.out⟩
          case measure => simp [intOf]; omega
        · have hji : decide ((j : Int) < 4) = false := by simp; omega
          clear hlt hj
          go_wp2_with fail
          go_ret
          exact ⟨rfl, HBw.out⟩
end Go.Proofs.YticaldoggdfjiaaDoor.blockSays
