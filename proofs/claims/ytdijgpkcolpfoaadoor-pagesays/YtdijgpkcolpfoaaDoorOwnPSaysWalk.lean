
/- What the statement PageSays asks comes out true, at every page, list of numbers, list of bytes, place, byte, key and value; nothing that was there is written. -/
import Derived.Test.YtdijgpkcolpfoaaDoorOwnPgUni
import Derived.Test.YtdijgpkcolpfoaaDoorJoin27
import Derived.Test.YtdijgpkcolpfoaaDoorJoin28
import Derived.Test.YtdijgpkcolpfoaaDoorJoin25
import Derived.Test.YtdijgpkcolpfoaaDoorJoin21
namespace Go.Proofs.YtdijgpkcolpfoaaDoor.pageSays
open Go.RowKit
set_option linter.unusedVariables false

set_option maxRecDepth 100000 in
set_option maxHeartbeats 32000000 in
theorem walk (lsn : Int) (ao : Option Addr) (n c : Nat) (lo : Option Addr) (len cap : Nat) (zs : List Int) (bo : Option Addr) (blen bcap : Nat) (bz : List Int) (a3 a4 a5 a6 : Int) (w : World) (w0 : (Lit.int .i64 lsn).wf = true) (e0 : n ≤ 1000 → ∃ es, es.length = n ∧ EntRow w ao es) (w1 : IsRow .i64 w lo len cap zs) (w2 : IsRow .u8 w bo blen bcap bz) (w3 : (Lit.int .i64 a3).wf = true) (w4 : (Lit.int .u8 a4).wf = true) (w5 : (Lit.int .i64 a5).wf = true) (w6 : (Lit.int .i64 a6).wf = true) {a : Nat → Addr} (he : ErrsOf w all18 a) :
    Calls Tryd.prog 3 #[pageV lsn ao n c, .slice lo len cap, .slice bo blen bcap, .int .i64 a3, .int .u8 a4, .int .i64 a5, .int .i64 a6] w fun e w' => e = .returned (.bool true) ∧ Below w.heap.size w w' := by
  have HW := hide he
  have HE := hide (pgErrs_of he (mem18 (by omega)) (mem18 (by omega)) (mem18 (by omega)))
  have HI1 := hide w1
  have HI2 := hide w2
  have HR0 := hide e0
  clear he w0 w1 w2 w3 w4 w5 w6 e0
  have hbx := below_box w (pageBlock lsn ao n c)
  have HP0 := hide (pblk_new w lsn ao n c)
  have HB := hide hbx
  replace HE := hide (HE.out.step hbx)
  replace HW := hide (HW.out.step hbx)
  clear hbx
  unfold pageBlock at HB HP0 HE HW
  obtain ⟨P0, hP0⟩ : ∃ P0, P0 = w.heap.size := ⟨_, rfl⟩
  have HX0 := hide hP0
  rw [← hP0] at HP0
  obtain ⟨X, hX⟩ : ∃ X, X = w.alloc (.cells #[.int .i64 lsn, .slice ao n c] 24) := ⟨_, rfl⟩
  have HX : Hid (w.alloc (.cells #[.int .i64 lsn, .slice ao n c] 24) = X) := hX.symm
  rw [← hX] at HB HP0 HE HW
  clear hX hP0
  unfold pageV
  go_enter Tryd.func3, Tryd.ntmps3
  go_wp2_with fail
  rw [HX.out, ← HX0.out]
  refine (pfirst_any _ HE.out.range).mono ?_
  rintro e x1 ⟨rfl, hb⟩
  replace HP0 := hide (HP0.out.step hb)
  replace HE := hide (HE.out.step hb)
  replace HW := hide (HW.out.step hb)
  replace HB := hide (over HB.out hb HB.out.size)
  clear hb HX HX0
  have k0 := HP0.out.c0
  have k1 := HP0.out.c1
  by_cases hl0 : n ≤ 30
  case neg =>
    have hli : (30 : Int) < (n : Int) := by omega
    go_wp2_with fail
    go_ret
    exact ⟨rfl, HB.out⟩
  have hli0 : decide ((30 : Int) < (n : Int)) = false := by simp; omega
  by_cases hl1 : len ≤ 150
  case neg =>
    have hli : (150 : Int) < (len : Int) := by omega
    go_wp2_with fail
    go_ret
    exact ⟨rfl, HB.out⟩
  have hli1 : decide ((150 : Int) < (len : Int)) = false := by simp; omega
  by_cases hl3 : blen ≤ 300
  case neg =>
    have hli : (300 : Int) < (blen : Int) := by omega
    go_wp2_with fail
    go_ret
    exact ⟨rfl, HB.out⟩
  have hli3 : decide ((300 : Int) < (blen : Int)) = false := by simp; omega
  obtain ⟨es, hn, hr0⟩ := HR0.out (by omega)
  have HN := hide hn
  have HR := hide (hr0.below HB.out (Nat.le_refl _))
  have HCP3 := hide HI2.out.le
  obtain ⟨xs3, hx3, hr3, _⟩ := IsRow.part HI2.out (by omega)
  have HB3 := hide (hr3.below HB.out (Nat.le_refl _))
  have HN3 := hide hx3
  clear hn hr0 hx3 hr3 HR0 HI2
  go_wp2_with fail
  clear k0 k1
  refine (mpage_new HI1.out (by omega) HB.out 24 (by omega) (by omega)).mono ?_
  rintro e x2 ⟨l1, es1, b1, n1, c1, rfl, hn, hmade, hown, hb⟩
  have HN1 := hide hn
  have HM := hide hmade
  have HR1 := hide hown.row
  replace HP0 := hide (HP0.out.step hb)
  replace HE := hide (HE.out.step hb)
  replace HW := hide (HW.out.step hb)
  replace HB := hide (over HB.out hb HB.out.size)
  replace HR := hide (HR.out.step hb)
  replace HB3 := hide (HB3.out.pstep hb)
  clear hb
  clear hn hmade hown HI1
  have hL0 := HM.out.l0
  have hL1 := HM.out.l1
  unfold pageV
  have hbx := below_box x2 (pageBlock l1 b1 n1 c1)
  have HP1 := hide (pblk_new x2 l1 b1 n1 c1)
  replace HP0 := hide (HP0.out.step hbx)
  replace HE := hide (HE.out.step hbx)
  replace HW := hide (HW.out.step hbx)
  replace HB := hide (over HB.out hbx HB.out.size)
  replace HR := hide (HR.out.step hbx)
  replace HB3 := hide (HB3.out.pstep hbx)
  replace HR1 := hide (HR1.out.step hbx)
  unfold pageBlock at HP0 HE HW HB HR HB3 HR1 HP1
  clear hbx
  go_upto_region 7 with fail
  obtain ⟨P1, hP1⟩ : ∃ P1, P1 = x2.heap.size := ⟨_, rfl⟩
  rw [← hP1] at HP1 ⊢
  obtain ⟨Y1, hY1⟩ : ∃ Y1, Y1 = x2.alloc (.cells #[.int .i64 l1, .slice b1 n1 c1] 24) := ⟨_, rfl⟩
  rw [← hY1] at HP0 HE HW HB HR HB3 HR1 HP1 ⊢
  clear hY1
  clear hP1
  go_wp2_with fail
  refine (number_any _ _ _ (by omega) (by omega)).mono ?_
  rintro e y ⟨rfl, rfl⟩
  obtain ⟨key, hkey⟩ : ∃ key, key = numberB a5 60 := ⟨_, rfl⟩
  rw [← hkey]
  clear hkey
  have k0 := HP0.out.c0
  have k1 := HP0.out.c1
  go_wp2_with fail
  clear k0 k1
  refine (rgood_any lsn ao n c es _ HR.out HN.out (by omega)).mono ?_
  rintro e x3 ⟨rfl, hb⟩
  replace HP0 := hide (HP0.out.step hb)
  replace HE := hide (HE.out.step hb)
  replace HW := hide (HW.out.step hb)
  replace HB := hide (over HB.out hb HB.out.size)
  replace HR := hide (HR.out.step hb)
  replace HB3 := hide (HB3.out.pstep hb)
  replace HR1 := hide (HR1.out.step hb)
  replace HP1 := hide (HP1.out.step hb)
  clear hb
  obtain ⟨g, hg⟩ : ∃ g, g = okP lsn es := ⟨_, rfl⟩
  rw [← hg]
  have HG : Hid (okP lsn es = g) := hg.symm
  clear hg
  cases g
  case false =>
    have HPC : Hid (pbC lsn es = 102) := by show pbC lsn es = 102; unfold pbC; rw [HG.out]; rfl
    have HPB : Hid (pbB lsn es = []) := by show pbB lsn es = _; unfold pbB; rw [HG.out]; rfl
    have k0 := HP0.out.c0
    have k1 := HP0.out.c1
    go_wp2_with fail
    clear k0 k1
    refine (pb_uni HE.out HR.out HN.out).mono ?_
    rintro e x4 ⟨xo, xn, xc, fv, rfl, hxn, hxr, hcode, hb⟩
    rw [HPB.out] at hxn hxr
    rw [HPC.out] at hcode
    have HXR := hide hxr
    have HCD := hide hcode
    replace HP0 := hide (HP0.out.step hb)
    replace HE := hide (HE.out.step hb)
    replace HW := hide (HW.out.step hb)
    replace HB := hide (over HB.out hb HB.out.size)
    replace HR := hide (HR.out.step hb)
    replace HB3 := hide (HB3.out.pstep hb)
    replace HR1 := hide (HR1.out.step hb)
    replace HP1 := hide (HP1.out.step hb)
    clear hb
    obtain rfl : xn = 0 := hxn.symm
    clear hxr hcode HPB
    have k0 := HP0.out.c0
    have k1 := HP0.out.c1
    go_wp2_with fail
    clear k0 k1
    refine (pc_uni HE.out HR.out HN.out).mono ?_
    rintro e x5 ⟨fv2, rfl, hcode, hb⟩
    rw [HPC.out] at hcode
    have HCD2 := hide hcode
    replace HP0 := hide (HP0.out.step hb)
    replace HE := hide (HE.out.step hb)
    replace HW := hide (HW.out.step hb)
    replace HB := hide (over HB.out hb HB.out.size)
    replace HR := hide (HR.out.step hb)
    replace HB3 := hide (HB3.out.pstep hb)
    replace HR1 := hide (HR1.out.step hb)
    replace HP1 := hide (HP1.out.step hb)
    replace HXR := hide (HXR.out.pstep hb)
    clear hb
    clear hcode HPC
    go_wp2_with fail
    refine (is_code HCD2.out HW.out).mono ?_
    rintro e x6 ⟨rfl, hb⟩
    replace HP0 := hide (HP0.out.step hb)
    replace HE := hide (HE.out.step hb)
    replace HW := hide (HW.out.step hb)
    replace HB := hide (over HB.out hb HB.out.size)
    replace HR := hide (HR.out.step hb)
    replace HB3 := hide (HB3.out.pstep hb)
    replace HR1 := hide (HR1.out.step hb)
    replace HP1 := hide (HP1.out.step hb)
    replace HXR := hide (HXR.out.pstep hb)
    clear hb
    clear HCD2
    go_wp2_with fail
    refine (is_code HCD.out HW.out).mono ?_
    rintro e x7 ⟨rfl, hb⟩
    replace HP0 := hide (HP0.out.step hb)
    replace HE := hide (HE.out.step hb)
    replace HW := hide (HW.out.step hb)
    replace HB := hide (over HB.out hb HB.out.size)
    replace HR := hide (HR.out.step hb)
    replace HB3 := hide (HB3.out.pstep hb)
    replace HR1 := hide (HR1.out.step hb)
    replace HP1 := hide (HP1.out.step hb)
    replace HXR := hide (HXR.out.pstep hb)
    clear hb
    clear HCD
    clear HXR HR HP0
    have k0 := HP1.out.c0
    have k1 := HP1.out.c1
    go_wp2_with fail
    clear k0 k1
    refine (rpb_ok l1 b1 n1 c1 es1 _ HR1.out HN1.out HM.out.ok).mono ?_
    rintro e z1 ⟨gc, rfl, hgb, hown, hb⟩
    have HC := hide hown.row
    replace HE := hide (HE.out.step hb)
    replace HW := hide (HW.out.step hb)
    replace HB := hide (over HB.out hb HB.out.size)
    replace HB3 := hide (HB3.out.pstep hb)
    replace HR1 := hide (HR1.out.step hb)
    replace HP1 := hide (HP1.out.step hb)
    clear hb
    clear hown hgb
    go_wp2_with fail
    refine (copy_len _ _ _ (pageB l1 es1) _ HC.out (length_pageB _ _)).mono ?_
    rintro e z2 ⟨gd, rfl, hgd, hownd, hb⟩
    have HOd := hide hownd
    have HGD := hide hgd
    have HBD := hide hb
    obtain ⟨dd, hdd⟩ : ∃ dd, dd = pageB l1 es1 := ⟨_, rfl⟩
    have HDL : Hid (dd.length = 256) := by show dd.length = 256; rw [hdd]; exact length_pageB _ _
    rw [← hdd] at HOd
    clear hgd hownd hb hdd
    go_wp2_with fail
    refine (number_any _ _ _ (by omega) (by omega)).mono ?_
    rintro e z3 ⟨rfl, rfl⟩
    have hp := numberB_bd a3 256 (by omega)
    obtain ⟨p, hp'⟩ : ∃ p : Nat, numberB a3 256 = p := ⟨(numberB a3 256).toNat, by omega⟩
    rw [hp'] at hp ⊢
    have hp256 : p < 256 := by omega
    have hpi : (p : Int) < 256 := by omega
    clear hp hp'
    have hc := HOd.out.cell p (by rw [HDL.out]; exact hp256)
    obtain ⟨yy, hyy⟩ : ∃ yy, yy = dd.getD p 0 := ⟨_, rfl⟩
    rw [← hyy] at hc
    clear hyy
    have hfz := HOd.out.frozen p
    have hxb := xor_bd yy a4
    obtain ⟨v, hv⟩ : ∃ v, v = bits .xor .u8 yy a4 := ⟨_, rfl⟩
    rw [← hv] at hxb
    have HVE := hide hv
    have HXB := hide hxb
    clear hv hxb
    go_upto_region 18 with fail
    clear hc hfz
    rw [← HVE.out]
    have HD0 := hide (HOd.out.stored p v HXB.out.1 HXB.out.2)
    have hb := HBD.out.setCell (p := ⟨gd, p, none⟩) HGD.out (.int .u8 v)
    replace HE := hide (HE.out.step hb)
    replace HW := hide (HW.out.step hb)
    replace HB := hide (over HB.out hb HB.out.size)
    replace HB3 := hide (HB3.out.pstep hb)
    replace HR1 := hide (HR1.out.step hb)
    replace HP1 := hide (HP1.out.step hb)
    replace HC := hide (HC.out.pstep hb)
    clear hb HOd HBD HGD HXB HVE
    obtain ⟨ds, hds⟩ : ∃ ds, ds = dd.set p v := ⟨_, rfl⟩
    have HDL2 : Hid (ds.length = 256) := by show ds.length = 256; rw [hds, List.length_set]; exact HDL.out
    rw [← hds] at HD0
    clear hds
    have HD := hide HD0.out.row
    clear HD0
    obtain ⟨Y1, hY1⟩ : ∃ Y1, Y1 = z3.setCell ⟨gd, p, none⟩ (.int .u8 v) := ⟨_, rfl⟩
    rw [← hY1] at HE HW HB HB3 HR1 HP1 HC HD ⊢
    clear hY1
    clear hp256 hpi HDL
    go_wp2_with fail
    refine (refFill_len HB3.out HN3.out).mono ?_
    rintro e z4 ⟨fo, fn, fc, rfl, hfn, hfc, hfr, hb⟩
    have HF := hide hfr
    have HFN := hide hfn
    have HFC := hide hfc
    replace HE := hide (HE.out.step hb)
    replace HW := hide (HW.out.step hb)
    replace HB := hide (over HB.out hb HB.out.size)
    replace HB3 := hide (HB3.out.pstep hb)
    replace HR1 := hide (HR1.out.step hb)
    replace HP1 := hide (HP1.out.step hb)
    replace HC := hide (HC.out.pstep hb)
    replace HD := hide (HD.out.pstep hb)
    clear hb
    clear hfr hfn hfc
    have hb := below_box z4 (.cells #[.slice bo blen bcap, .slice fo fn fc, .slice (some ⟨gc, 0, none⟩) 256 256, .slice (some ⟨gd, 0, none⟩) 256 256] 26)
    have HT := hide (four_of ⟨HB3.out, HN3.out, HCP3.out⟩ ⟨HF.out, HFN.out, HFC.out⟩ ⟨HC.out, length_pageB l1 es1, Nat.le_refl 256⟩ ⟨HD.out, HDL2.out, Nat.le_refl 256⟩)
    clear HB3 HF HC HD
    replace HE := hide (HE.out.step hb)
    replace HW := hide (HW.out.step hb)
    replace HB := hide (over HB.out hb HB.out.size)
    replace HR1 := hide (HR1.out.step hb)
    replace HP1 := hide (HP1.out.step hb)
    clear hb HFN HFC HDL2
    obtain ⟨Z, hZ⟩ : ∃ Z, Z = z4.alloc (.cells #[.slice bo blen bcap, .slice fo fn fc, .slice (some ⟨gc, 0, none⟩) 256 256, .slice (some ⟨gd, 0, none⟩) 256 256] 26) := ⟨_, rfl⟩
    have HZE := hide hZ
    rw [← hZ] at HT HE HW HB HR1 HP1
    have HGL : Hid (z4.heap.size < Z.heap.size) := by show z4.heap.size < Z.heap.size; rw [hZ]; simp
    clear hZ
    go_wp2_with fail
    rw [← HZE.out]
    obtain ⟨G, hG⟩ : ∃ G, G = z4.heap.size := ⟨_, rfl⟩
    rw [← hG] at HT HGL ⊢
    clear hG HZE
    go_loopw [24] (fun i wr => ∃ k : Nat, k ≤ 4 ∧ i = .int .i64 k ∧ Below Z.heap.size Z wr) (fun i _ => 4 - (intOf i).toNat)
    case atStart => exact ⟨0, by omega, rfl, Below.refl _ _⟩
    case round =>
      obtain ⟨j, hj, rfl, hb⟩ := hrel
      have HZB := hide hb
      clear hb
      by_cases hlt : j < 4
      · have hji : (j : Int) < 4 := by omega
        obtain ⟨to, tn, tc, xs, hce, hrow, hn, hnc⟩ := HT.out j hlt
        have HCL := hide hce
        have HRw := hide (hrow.below HZB.out (Nat.le_refl _))
        have HNx := hide hn
        have hcell := (HZB.out.cell (p := ⟨G, j, none⟩) HGL.out).trans hce
        clear hce hrow hn hnc
        obtain ⟨xL, hxL⟩ : ∃ xL, xL = pansL xs := ⟨_, rfl⟩
        obtain ⟨xE, hxE⟩ : ∃ xE, xE = pansE xs := ⟨_, rfl⟩
        obtain ⟨xC, hxC⟩ : ∃ xC, xC = pansC xs := ⟨_, rfl⟩
        have HXL := hide hxL
        have HXE := hide hxE
        have HXC := hide hxC
        clear hxL hxE hxC
        go_wp2_with fail
        clear hcell
        refine (pread_uni (HE.out.step HZB.out) HRw.out HNx.out).mono ?_
        rintro e q1 ⟨mo, mk, mc, fv3, rfl, hmk, hmr, hcode, hb⟩
        rw [← HXE.out] at hmk hmr
        rw [← HXC.out] at hcode
        rw [← HXL.out]
        have HMK := hide hmk
        have HMR := hide hmr
        have HCD3 := hide hcode
        replace HRw := hide (HRw.out.pstep hb)
        replace HZB := hide (over HZB.out hb HZB.out.size)
        clear hb
        clear hmk hmr hcode
        unfold pageV
        have hbx := below_box q1 (pageBlock xL mo mk mc)
        have HQA := hide (pblk_new q1 xL mo mk mc)
        replace HRw := hide (HRw.out.pstep hbx)
        replace HZB := hide (over HZB.out hbx HZB.out.size)
        replace HMR := hide (HMR.out.step hbx)
        unfold pageBlock at HRw HZB HMR HQA
        clear hbx
        go_upto_region 23 with fail
        obtain ⟨QA, hQA⟩ : ∃ QA, QA = q1.heap.size := ⟨_, rfl⟩
        rw [← hQA] at HQA ⊢
        obtain ⟨Y1, hY1⟩ : ∃ Y1, Y1 = q1.alloc (.cells #[.int .i64 xL, .slice mo mk mc] 24) := ⟨_, rfl⟩
        rw [← hY1] at HRw HZB HMR HQA ⊢
        clear hY1
        clear hQA
        have hcell := (HZB.out.cell (p := ⟨G, j, none⟩) HGL.out).trans HCL.out
        go_wp2_with fail
        clear hcell
        refine (prread_uni HRw.out HNx.out).mono ?_
        rintro e q2 ⟨po, pk, pc, rfl, hpk, hpr, hb⟩
        rw [← HXE.out] at hpk hpr
        rw [← HXL.out, ← HXC.out]
        have HPK := hide hpk
        have HPR := hide hpr
        replace HRw := hide (HRw.out.pstep hb)
        replace HZB := hide (over HZB.out hb HZB.out.size)
        replace HMR := hide (HMR.out.step hb)
        replace HQA := hide (HQA.out.step hb)
        clear hb
        clear hpk hpr
        unfold pageV
        have hbx := below_box q2 (pageBlock xL po pk pc)
        have HQB := hide (pblk_new q2 xL po pk pc)
        replace HRw := hide (HRw.out.pstep hbx)
        replace HZB := hide (over HZB.out hbx HZB.out.size)
        replace HMR := hide (HMR.out.step hbx)
        replace HQA := hide (HQA.out.step hbx)
        replace HPR := hide (HPR.out.step hbx)
        unfold pageBlock at HRw HZB HMR HQA HPR HQB
        clear hbx
        go_upto_region 24 with fail
        obtain ⟨QB, hQB⟩ : ∃ QB, QB = q2.heap.size := ⟨_, rfl⟩
        rw [← hQB] at HQB ⊢
        obtain ⟨Y2, hY2⟩ : ∃ Y2, Y2 = q2.alloc (.cells #[.int .i64 xL, .slice po pk pc] 24) := ⟨_, rfl⟩
        rw [← hY2] at HRw HZB HMR HQA HPR HQB ⊢
        clear hY2
        clear hQB
        have k0 := HQA.out.c0
        have k1 := HQA.out.c1
        have m0 := HQB.out.c0
        have m1 := HQB.out.c1
        go_wp2_with fail
        clear k0 k1 m0 m1
        refine (samePage_any xL mo mk mc xE xL po pk pc xE _ HMR.out HPR.out HMK.out HPK.out).mono ?_
        rintro e q3 ⟨rfl, hb⟩
        rw [show samePgB xL xE xL xE = true by simp [samePgB]]
        replace HRw := hide (HRw.out.pstep hb)
        replace HZB := hide (over HZB.out hb HZB.out.size)
        replace HMR := hide (HMR.out.step hb)
        replace HQA := hide (HQA.out.step hb)
        replace HPR := hide (HPR.out.step hb)
        replace HQB := hide (HQB.out.step hb)
        clear hb
        go_wp2_with fail
        refine (is_code HCD3.out (HW.out.step HZB.out)).mono ?_
        rintro e q4 ⟨rfl, hb⟩
        replace HRw := hide (HRw.out.pstep hb)
        replace HZB := hide (over HZB.out hb HZB.out.size)
        replace HMR := hide (HMR.out.step hb)
        replace HQA := hide (HQA.out.step hb)
        replace HPR := hide (HPR.out.step hb)
        replace HQB := hide (HQB.out.step hb)
        clear hb
        go_wp2_with fail
        go_roundw
        case rel => exact ⟨j + 1, by omega, by go_num, HZB.out⟩
        case measure => simp [intOf]; omega
      · have hji : decide ((j : Int) < 4) = false := by simp; omega
        have hb := HZB.out
        replace HE := hide (HE.out.step hb)
        replace HW := hide (HW.out.step hb)
        replace HB := hide (over HB.out hb HB.out.size)
        replace HR1 := hide (HR1.out.step hb)
        replace HP1 := hide (HP1.out.step hb)
        clear hb HZB HT HGL hlt hj
        have k0 := HP1.out.c0
        have k1 := HP1.out.c1
        go_wp2_with fail
        clear k0 k1 hji
        clear HE HW
        refine (pget_uni HR1.out HM.out.up HN1.out).mono ?_
        rintro e v1 ⟨rfl, hb⟩
        replace HB := hide (over HB.out hb HB.out.size)
        replace HR1 := hide (HR1.out.step hb)
        replace HP1 := hide (HP1.out.step hb)
        clear hb
        obtain ⟨V0, hV0⟩ : ∃ V0, V0 = (valE es1 key).getD 0 := ⟨_, rfl⟩
        obtain ⟨H0, hH0⟩ : ∃ H0, H0 = hasE es1 key := ⟨_, rfl⟩
        rw [← hV0, ← hH0]
        have HV0 := hide hV0
        have HH0 := hide hH0
        clear hV0 hH0
        have k0 := HP1.out.c0
        have k1 := HP1.out.c1
        go_wp2_with fail
        clear k0 k1
        refine (rfind_any l1 b1 n1 c1 es1 key _ HR1.out HN1.out).mono ?_
        rintro e v2 ⟨rfl, hb⟩
        replace HB := hide (over HB.out hb HB.out.size)
        replace HR1 := hide (HR1.out.step hb)
        replace HP1 := hide (HP1.out.step hb)
        clear hb
        rw [← HV0.out, ← HH0.out]
        obtain ⟨PL, hPL⟩ : ∃ PL, PL = putL l1 es1 key := ⟨_, rfl⟩
        obtain ⟨PE, hPE⟩ : ∃ PE, PE = putE es1 key a6 := ⟨_, rfl⟩
        obtain ⟨CP, hCP⟩ : ∃ CP, CP = canPut es1 key := ⟨_, rfl⟩
        obtain ⟨RE, hRE⟩ : ∃ RE, RE = remE key es1 := ⟨_, rfl⟩
        have HPL := hide hPL
        have HPE := hide hPE
        have HCP := hide hCP
        have HRE := hide hRE
        clear hPL hPE hCP hRE
        have k0 := HP1.out.c0
        have k1 := HP1.out.c1
        go_wp2_with fail
        clear k0 k1
        refine (pput_any l1 b1 n1 c1 es1 key a6 _ HR1.out HM.out.up HN1.out).mono ?_
        rintro e v3 ⟨d1, m1, e1, rfl, hm, hown, hb⟩
        rw [← HPE.out] at hm hown
        rw [← HPL.out, ← HCP.out]
        have HM1 := hide hm
        have HRA := hide hown.row
        clear hm hown
        replace HB := hide (over HB.out hb HB.out.size)
        replace HR1 := hide (HR1.out.step hb)
        replace HP1 := hide (HP1.out.step hb)
        clear hb
        unfold pageV
        have hbx := below_box v3 (pageBlock PL d1 m1 e1)
        have HPA := hide (pblk_new v3 PL d1 m1 e1)
        replace HB := hide (over HB.out hbx HB.out.size)
        replace HR1 := hide (HR1.out.step hbx)
        replace HP1 := hide (HP1.out.step hbx)
        replace HRA := hide (HRA.out.step hbx)
        unfold pageBlock at HB HR1 HP1 HRA HPA
        clear hbx
        go_upto_region 29 with fail
        obtain ⟨PA, hPA⟩ : ∃ PA, PA = v3.heap.size := ⟨_, rfl⟩
        rw [← hPA] at HPA ⊢
        obtain ⟨Y1, hY1⟩ : ∃ Y1, Y1 = v3.alloc (.cells #[.int .i64 PL, .slice d1 m1 e1] 24) := ⟨_, rfl⟩
        rw [← hY1] at HB HR1 HP1 HRA HPA ⊢
        clear hY1
        clear hPA
        have k0 := HP1.out.c0
        have k1 := HP1.out.c1
        go_wp2_with fail
        clear k0 k1
        refine (rput_any l1 b1 n1 c1 es1 key a6 _ HR1.out HM.out.up HN1.out (by have h1 := HM.out.most; have h2 := HN1.out; omega)).mono ?_
        rintro e v4 ⟨d2, m2, e2, rfl, hm, hown, hb⟩
        rw [← HPE.out] at hm hown
        rw [← HPL.out, ← HCP.out]
        have HM2 := hide hm
        have HRB := hide hown.row
        clear hm hown
        replace HB := hide (over HB.out hb HB.out.size)
        replace HR1 := hide (HR1.out.step hb)
        replace HP1 := hide (HP1.out.step hb)
        replace HRA := hide (HRA.out.step hb)
        replace HPA := hide (HPA.out.step hb)
        clear hb
        unfold pageV
        have hbx := below_box v4 (pageBlock PL d2 m2 e2)
        have HPB := hide (pblk_new v4 PL d2 m2 e2)
        replace HB := hide (over HB.out hbx HB.out.size)
        replace HR1 := hide (HR1.out.step hbx)
        replace HP1 := hide (HP1.out.step hbx)
        replace HRA := hide (HRA.out.step hbx)
        replace HPA := hide (HPA.out.step hbx)
        replace HRB := hide (HRB.out.step hbx)
        unfold pageBlock at HB HR1 HP1 HRA HPA HRB HPB
        clear hbx
        go_upto_region 30 with fail
        obtain ⟨PB, hPB⟩ : ∃ PB, PB = v4.heap.size := ⟨_, rfl⟩
        rw [← hPB] at HPB ⊢
        obtain ⟨Y2, hY2⟩ : ∃ Y2, Y2 = v4.alloc (.cells #[.int .i64 PL, .slice d2 m2 e2] 24) := ⟨_, rfl⟩
        rw [← hY2] at HB HR1 HP1 HRA HPA HRB HPB ⊢
        clear hY2
        clear hPB
        have k0 := HP1.out.c0
        have k1 := HP1.out.c1
        go_wp2_with fail
        clear k0 k1
        refine (rem_any l1 b1 n1 c1 es1 key _ HR1.out HN1.out).mono ?_
        rintro e v5 ⟨d3, m3, e3, rfl, hm, hown, hb⟩
        rw [← HRE.out] at hm hown
        rw [← HH0.out]
        have HM3 := hide hm
        have HRC := hide hown.row
        clear hm hown
        replace HB := hide (over HB.out hb HB.out.size)
        replace HR1 := hide (HR1.out.step hb)
        replace HP1 := hide (HP1.out.step hb)
        replace HRA := hide (HRA.out.step hb)
        replace HPA := hide (HPA.out.step hb)
        replace HRB := hide (HRB.out.step hb)
        replace HPB := hide (HPB.out.step hb)
        clear hb
        unfold pageV
        have hbx := below_box v5 (pageBlock l1 d3 m3 e3)
        have HPC := hide (pblk_new v5 l1 d3 m3 e3)
        replace HB := hide (over HB.out hbx HB.out.size)
        replace HR1 := hide (HR1.out.step hbx)
        replace HP1 := hide (HP1.out.step hbx)
        replace HRA := hide (HRA.out.step hbx)
        replace HPA := hide (HPA.out.step hbx)
        replace HRB := hide (HRB.out.step hbx)
        replace HPB := hide (HPB.out.step hbx)
        replace HRC := hide (HRC.out.step hbx)
        unfold pageBlock at HB HR1 HP1 HRA HPA HRB HPB HRC HPC
        clear hbx
        go_upto_region 31 with fail
        obtain ⟨PC, hPC⟩ : ∃ PC, PC = v5.heap.size := ⟨_, rfl⟩
        rw [← hPC] at HPC ⊢
        obtain ⟨Y3, hY3⟩ : ∃ Y3, Y3 = v5.alloc (.cells #[.int .i64 l1, .slice d3 m3 e3] 24) := ⟨_, rfl⟩
        rw [← hY3] at HB HR1 HP1 HRA HPA HRB HPB HRC HPC ⊢
        clear hY3
        clear hPC
        have k0 := HP1.out.c0
        have k1 := HP1.out.c1
        go_wp2_with fail
        clear k0 k1
        refine (rrem_any l1 b1 n1 c1 es1 key _ HR1.out HN1.out (by have h1 := HM.out.most; have h2 := HN1.out; omega)).mono ?_
        rintro e v6 ⟨d4, m4, e4, rfl, hm, hown, hb⟩
        rw [← HRE.out] at hm hown
        rw [← HH0.out]
        have HM4 := hide hm
        have HRD := hide hown.row
        clear hm hown
        replace HB := hide (over HB.out hb HB.out.size)
        replace HR1 := hide (HR1.out.step hb)
        replace HP1 := hide (HP1.out.step hb)
        replace HRA := hide (HRA.out.step hb)
        replace HPA := hide (HPA.out.step hb)
        replace HRB := hide (HRB.out.step hb)
        replace HPB := hide (HPB.out.step hb)
        replace HRC := hide (HRC.out.step hb)
        replace HPC := hide (HPC.out.step hb)
        clear hb
        unfold pageV
        have hbx := below_box v6 (pageBlock l1 d4 m4 e4)
        have HPD := hide (pblk_new v6 l1 d4 m4 e4)
        replace HB := hide (over HB.out hbx HB.out.size)
        replace HR1 := hide (HR1.out.step hbx)
        replace HP1 := hide (HP1.out.step hbx)
        replace HRA := hide (HRA.out.step hbx)
        replace HPA := hide (HPA.out.step hbx)
        replace HRB := hide (HRB.out.step hbx)
        replace HPB := hide (HPB.out.step hbx)
        replace HRC := hide (HRC.out.step hbx)
        replace HPC := hide (HPC.out.step hbx)
        replace HRD := hide (HRD.out.step hbx)
        unfold pageBlock at HB HR1 HP1 HRA HPA HRB HPB HRC HPC HRD HPD
        clear hbx
        go_upto_region 32 with fail
        obtain ⟨PD, hPD⟩ : ∃ PD, PD = v6.heap.size := ⟨_, rfl⟩
        rw [← hPD] at HPD ⊢
        obtain ⟨Y4, hY4⟩ : ∃ Y4, Y4 = v6.alloc (.cells #[.int .i64 l1, .slice d4 m4 e4] 24) := ⟨_, rfl⟩
        rw [← hY4] at HB HR1 HP1 HRA HPA HRB HPB HRC HPC HRD HPD ⊢
        clear hY4
        clear hPD
        have k0 := HPA.out.c0
        have k1 := HPA.out.c1
        have m0 := HPB.out.c0
        have m1' := HPB.out.c1
        go_wp2_with fail
        clear k0 k1 m0 m1'
        refine (samePage_any PL d1 m1 e1 PE PL d2 m2 e2 PE _ HRA.out HRB.out HM1.out HM2.out).mono ?_
        rintro e v7 ⟨rfl, hb⟩
        rw [show samePgB PL PE PL PE = true by simp [samePgB]]
        replace HB := hide (over HB.out hb HB.out.size)
        replace HR1 := hide (HR1.out.step hb)
        replace HP1 := hide (HP1.out.step hb)
        replace HRA := hide (HRA.out.step hb)
        replace HPA := hide (HPA.out.step hb)
        replace HRB := hide (HRB.out.step hb)
        replace HPB := hide (HPB.out.step hb)
        replace HRC := hide (HRC.out.step hb)
        replace HPC := hide (HPC.out.step hb)
        replace HRD := hide (HRD.out.step hb)
        replace HPD := hide (HPD.out.step hb)
        clear hb
        have k0 := HPC.out.c0
        have k1 := HPC.out.c1
        have m0 := HPD.out.c0
        have m1' := HPD.out.c1
        go_wp2_with fail
        clear k0 k1 m0 m1'
        refine (samePage_any l1 d3 m3 e3 RE l1 d4 m4 e4 RE _ HRC.out HRD.out HM3.out HM4.out).mono ?_
        rintro e v8 ⟨rfl, hb⟩
        rw [show samePgB l1 RE l1 RE = true by simp [samePgB]]
        replace HB := hide (over HB.out hb HB.out.size)
        replace HR1 := hide (HR1.out.step hb)
        replace HP1 := hide (HP1.out.step hb)
        replace HRA := hide (HRA.out.step hb)
        replace HPA := hide (HPA.out.step hb)
        replace HRB := hide (HRB.out.step hb)
        replace HPB := hide (HPB.out.step hb)
        replace HRC := hide (HRC.out.step hb)
        replace HPC := hide (HPC.out.step hb)
        replace HRD := hide (HRD.out.step hb)
        replace HPD := hide (HPD.out.step hb)
        clear hb
        go_wp2_with fail
        go_ret
        exact ⟨rfl, HB.out⟩
  case true =>
    have HPC : Hid (pbC lsn es = 0) := by show pbC lsn es = 0; unfold pbC; rw [HG.out]; rfl
    have HPB : Hid (pbB lsn es = pageB lsn es) := by show pbB lsn es = _; unfold pbB; rw [HG.out]; rfl
    have k0 := HP0.out.c0
    have k1 := HP0.out.c1
    go_wp2_with fail
    clear k0 k1
    refine (pb_uni HE.out HR.out HN.out).mono ?_
    rintro e x4 ⟨xo, xn, xc, fv, rfl, hxn, hxr, hcode, hb⟩
    rw [HPB.out] at hxn hxr
    rw [HPC.out] at hcode
    have HXR := hide hxr
    have HCD := hide hcode
    replace HP0 := hide (HP0.out.step hb)
    replace HE := hide (HE.out.step hb)
    replace HW := hide (HW.out.step hb)
    replace HB := hide (over HB.out hb HB.out.size)
    replace HR := hide (HR.out.step hb)
    replace HB3 := hide (HB3.out.pstep hb)
    replace HR1 := hide (HR1.out.step hb)
    replace HP1 := hide (HP1.out.step hb)
    clear hb
    obtain rfl : xn = 256 := hxn.symm.trans (length_pageB _ _)
    clear hxr hcode HPB
    have k0 := HP0.out.c0
    have k1 := HP0.out.c1
    go_wp2_with fail
    clear k0 k1
    refine (pc_uni HE.out HR.out HN.out).mono ?_
    rintro e x5 ⟨fv2, rfl, hcode, hb⟩
    rw [HPC.out] at hcode
    have HCD2 := hide hcode
    replace HP0 := hide (HP0.out.step hb)
    replace HE := hide (HE.out.step hb)
    replace HW := hide (HW.out.step hb)
    replace HB := hide (over HB.out hb HB.out.size)
    replace HR := hide (HR.out.step hb)
    replace HB3 := hide (HB3.out.pstep hb)
    replace HR1 := hide (HR1.out.step hb)
    replace HP1 := hide (HP1.out.step hb)
    replace HXR := hide (HXR.out.pstep hb)
    clear hb
    clear hcode HPC
    go_wp2_with fail
    refine (is_code HCD2.out HW.out).mono ?_
    rintro e x6 ⟨rfl, hb⟩
    replace HP0 := hide (HP0.out.step hb)
    replace HE := hide (HE.out.step hb)
    replace HW := hide (HW.out.step hb)
    replace HB := hide (over HB.out hb HB.out.size)
    replace HR := hide (HR.out.step hb)
    replace HB3 := hide (HB3.out.pstep hb)
    replace HR1 := hide (HR1.out.step hb)
    replace HP1 := hide (HP1.out.step hb)
    replace HXR := hide (HXR.out.pstep hb)
    clear hb
    clear HCD2
    go_wp2_with fail
    refine (is_code HCD.out HW.out).mono ?_
    rintro e x7 ⟨rfl, hb⟩
    replace HP0 := hide (HP0.out.step hb)
    replace HE := hide (HE.out.step hb)
    replace HW := hide (HW.out.step hb)
    replace HB := hide (over HB.out hb HB.out.size)
    replace HR := hide (HR.out.step hb)
    replace HB3 := hide (HB3.out.pstep hb)
    replace HR1 := hide (HR1.out.step hb)
    replace HP1 := hide (HP1.out.step hb)
    replace HXR := hide (HXR.out.pstep hb)
    clear hb
    clear HCD
    have k0 := HP0.out.c0
    have k1 := HP0.out.c1
    go_wp2_with fail
    clear k0 k1
    refine (rpb_ok lsn ao n c es _ HR.out HN.out HG.out).mono ?_
    rintro e x8 ⟨gb, rfl, hgb, hown, hb⟩
    have HO := hide hown.row
    replace HP0 := hide (HP0.out.step hb)
    replace HE := hide (HE.out.step hb)
    replace HW := hide (HW.out.step hb)
    replace HB := hide (over HB.out hb HB.out.size)
    replace HR := hide (HR.out.step hb)
    replace HB3 := hide (HB3.out.pstep hb)
    replace HR1 := hide (HR1.out.step hb)
    replace HP1 := hide (HP1.out.step hb)
    replace HXR := hide (HXR.out.pstep hb)
    clear hb
    clear hown hgb
    go_wp2_with fail
    refine (same_len _ _ _ (pageB lsn es) _ _ _ (pageB lsn es) _ HXR.out HO.out (length_pageB _ _) (length_pageB _ _)).mono ?_
    rintro e x9 ⟨rfl, q, hq⟩
    rw [sameB_true rfl]
    have hb : Below x8.heap.size x8 x9 := by rw [hq]; exact below_drewN (Below.refl _ _) _
    clear hq HO
    replace HP0 := hide (HP0.out.step hb)
    replace HE := hide (HE.out.step hb)
    replace HW := hide (HW.out.step hb)
    replace HB := hide (over HB.out hb HB.out.size)
    replace HR := hide (HR.out.step hb)
    replace HB3 := hide (HB3.out.pstep hb)
    replace HR1 := hide (HR1.out.step hb)
    replace HP1 := hide (HP1.out.step hb)
    replace HXR := hide (HXR.out.pstep hb)
    clear hb
    clear HXR HR HP0
    have k0 := HP1.out.c0
    have k1 := HP1.out.c1
    go_wp2_with fail
    clear k0 k1
    refine (rpb_ok l1 b1 n1 c1 es1 _ HR1.out HN1.out HM.out.ok).mono ?_
    rintro e z1 ⟨gc, rfl, hgb, hown, hb⟩
    have HC := hide hown.row
    replace HE := hide (HE.out.step hb)
    replace HW := hide (HW.out.step hb)
    replace HB := hide (over HB.out hb HB.out.size)
    replace HB3 := hide (HB3.out.pstep hb)
    replace HR1 := hide (HR1.out.step hb)
    replace HP1 := hide (HP1.out.step hb)
    clear hb
    clear hown hgb
    go_wp2_with fail
    refine (copy_len _ _ _ (pageB l1 es1) _ HC.out (length_pageB _ _)).mono ?_
    rintro e z2 ⟨gd, rfl, hgd, hownd, hb⟩
    have HOd := hide hownd
    have HGD := hide hgd
    have HBD := hide hb
    obtain ⟨dd, hdd⟩ : ∃ dd, dd = pageB l1 es1 := ⟨_, rfl⟩
    have HDL : Hid (dd.length = 256) := by show dd.length = 256; rw [hdd]; exact length_pageB _ _
    rw [← hdd] at HOd
    clear hgd hownd hb hdd
    go_wp2_with fail
    refine (number_any _ _ _ (by omega) (by omega)).mono ?_
    rintro e z3 ⟨rfl, rfl⟩
    have hp := numberB_bd a3 256 (by omega)
    obtain ⟨p, hp'⟩ : ∃ p : Nat, numberB a3 256 = p := ⟨(numberB a3 256).toNat, by omega⟩
    rw [hp'] at hp ⊢
    have hp256 : p < 256 := by omega
    have hpi : (p : Int) < 256 := by omega
    clear hp hp'
    have hc := HOd.out.cell p (by rw [HDL.out]; exact hp256)
    obtain ⟨yy, hyy⟩ : ∃ yy, yy = dd.getD p 0 := ⟨_, rfl⟩
    rw [← hyy] at hc
    clear hyy
    have hfz := HOd.out.frozen p
    have hxb := xor_bd yy a4
    obtain ⟨v, hv⟩ : ∃ v, v = bits .xor .u8 yy a4 := ⟨_, rfl⟩
    rw [← hv] at hxb
    have HVE := hide hv
    have HXB := hide hxb
    clear hv hxb
    go_upto_region 18 with fail
    clear hc hfz
    rw [← HVE.out]
    have HD0 := hide (HOd.out.stored p v HXB.out.1 HXB.out.2)
    have hb := HBD.out.setCell (p := ⟨gd, p, none⟩) HGD.out (.int .u8 v)
    replace HE := hide (HE.out.step hb)
    replace HW := hide (HW.out.step hb)
    replace HB := hide (over HB.out hb HB.out.size)
    replace HB3 := hide (HB3.out.pstep hb)
    replace HR1 := hide (HR1.out.step hb)
    replace HP1 := hide (HP1.out.step hb)
    replace HC := hide (HC.out.pstep hb)
    clear hb HOd HBD HGD HXB HVE
    obtain ⟨ds, hds⟩ : ∃ ds, ds = dd.set p v := ⟨_, rfl⟩
    have HDL2 : Hid (ds.length = 256) := by show ds.length = 256; rw [hds, List.length_set]; exact HDL.out
    rw [← hds] at HD0
    clear hds
    have HD := hide HD0.out.row
    clear HD0
    obtain ⟨Y1, hY1⟩ : ∃ Y1, Y1 = z3.setCell ⟨gd, p, none⟩ (.int .u8 v) := ⟨_, rfl⟩
    rw [← hY1] at HE HW HB HB3 HR1 HP1 HC HD ⊢
    clear hY1
    clear hp256 hpi HDL
    go_wp2_with fail
    refine (refFill_len HB3.out HN3.out).mono ?_
    rintro e z4 ⟨fo, fn, fc, rfl, hfn, hfc, hfr, hb⟩
    have HF := hide hfr
    have HFN := hide hfn
    have HFC := hide hfc
    replace HE := hide (HE.out.step hb)
    replace HW := hide (HW.out.step hb)
    replace HB := hide (over HB.out hb HB.out.size)
    replace HB3 := hide (HB3.out.pstep hb)
    replace HR1 := hide (HR1.out.step hb)
    replace HP1 := hide (HP1.out.step hb)
    replace HC := hide (HC.out.pstep hb)
    replace HD := hide (HD.out.pstep hb)
    clear hb
    clear hfr hfn hfc
    have hb := below_box z4 (.cells #[.slice bo blen bcap, .slice fo fn fc, .slice (some ⟨gc, 0, none⟩) 256 256, .slice (some ⟨gd, 0, none⟩) 256 256] 26)
    have HT := hide (four_of ⟨HB3.out, HN3.out, HCP3.out⟩ ⟨HF.out, HFN.out, HFC.out⟩ ⟨HC.out, length_pageB l1 es1, Nat.le_refl 256⟩ ⟨HD.out, HDL2.out, Nat.le_refl 256⟩)
    clear HB3 HF HC HD
    replace HE := hide (HE.out.step hb)
    replace HW := hide (HW.out.step hb)
    replace HB := hide (over HB.out hb HB.out.size)
    replace HR1 := hide (HR1.out.step hb)
    replace HP1 := hide (HP1.out.step hb)
    clear hb HFN HFC HDL2
    obtain ⟨Z, hZ⟩ : ∃ Z, Z = z4.alloc (.cells #[.slice bo blen bcap, .slice fo fn fc, .slice (some ⟨gc, 0, none⟩) 256 256, .slice (some ⟨gd, 0, none⟩) 256 256] 26) := ⟨_, rfl⟩
    have HZE := hide hZ
    rw [← hZ] at HT HE HW HB HR1 HP1
    have HGL : Hid (z4.heap.size < Z.heap.size) := by show z4.heap.size < Z.heap.size; rw [hZ]; simp
    clear hZ
    go_wp2_with fail
    rw [← HZE.out]
    obtain ⟨G, hG⟩ : ∃ G, G = z4.heap.size := ⟨_, rfl⟩
    rw [← hG] at HT HGL ⊢
    clear hG HZE
    go_loopw [24] (fun i wr => ∃ k : Nat, k ≤ 4 ∧ i = .int .i64 k ∧ Below Z.heap.size Z wr) (fun i _ => 4 - (intOf i).toNat)
    case atStart => exact ⟨0, by omega, rfl, Below.refl _ _⟩
    case round =>
      obtain ⟨j, hj, rfl, hb⟩ := hrel
      have HZB := hide hb
      clear hb
      by_cases hlt : j < 4
      · have hji : (j : Int) < 4 := by omega
        obtain ⟨to, tn, tc, xs, hce, hrow, hn, hnc⟩ := HT.out j hlt
        have HCL := hide hce
        have HRw := hide (hrow.below HZB.out (Nat.le_refl _))
        have HNx := hide hn
        have hcell := (HZB.out.cell (p := ⟨G, j, none⟩) HGL.out).trans hce
        clear hce hrow hn hnc
        obtain ⟨xL, hxL⟩ : ∃ xL, xL = pansL xs := ⟨_, rfl⟩
        obtain ⟨xE, hxE⟩ : ∃ xE, xE = pansE xs := ⟨_, rfl⟩
        obtain ⟨xC, hxC⟩ : ∃ xC, xC = pansC xs := ⟨_, rfl⟩
        have HXL := hide hxL
        have HXE := hide hxE
        have HXC := hide hxC
        clear hxL hxE hxC
        go_wp2_with fail
        clear hcell
        refine (pread_uni (HE.out.step HZB.out) HRw.out HNx.out).mono ?_
        rintro e q1 ⟨mo, mk, mc, fv3, rfl, hmk, hmr, hcode, hb⟩
        rw [← HXE.out] at hmk hmr
        rw [← HXC.out] at hcode
        rw [← HXL.out]
        have HMK := hide hmk
        have HMR := hide hmr
        have HCD3 := hide hcode
        replace HRw := hide (HRw.out.pstep hb)
        replace HZB := hide (over HZB.out hb HZB.out.size)
        clear hb
        clear hmk hmr hcode
        unfold pageV
        have hbx := below_box q1 (pageBlock xL mo mk mc)
        have HQA := hide (pblk_new q1 xL mo mk mc)
        replace HRw := hide (HRw.out.pstep hbx)
        replace HZB := hide (over HZB.out hbx HZB.out.size)
        replace HMR := hide (HMR.out.step hbx)
        unfold pageBlock at HRw HZB HMR HQA
        clear hbx
        go_upto_region 23 with fail
        obtain ⟨QA, hQA⟩ : ∃ QA, QA = q1.heap.size := ⟨_, rfl⟩
        rw [← hQA] at HQA ⊢
        obtain ⟨Y1, hY1⟩ : ∃ Y1, Y1 = q1.alloc (.cells #[.int .i64 xL, .slice mo mk mc] 24) := ⟨_, rfl⟩
        rw [← hY1] at HRw HZB HMR HQA ⊢
        clear hY1
        clear hQA
        have hcell := (HZB.out.cell (p := ⟨G, j, none⟩) HGL.out).trans HCL.out
        go_wp2_with fail
        clear hcell
        refine (prread_uni HRw.out HNx.out).mono ?_
        rintro e q2 ⟨po, pk, pc, rfl, hpk, hpr, hb⟩
        rw [← HXE.out] at hpk hpr
        rw [← HXL.out, ← HXC.out]
        have HPK := hide hpk
        have HPR := hide hpr
        replace HRw := hide (HRw.out.pstep hb)
        replace HZB := hide (over HZB.out hb HZB.out.size)
        replace HMR := hide (HMR.out.step hb)
        replace HQA := hide (HQA.out.step hb)
        clear hb
        clear hpk hpr
        unfold pageV
        have hbx := below_box q2 (pageBlock xL po pk pc)
        have HQB := hide (pblk_new q2 xL po pk pc)
        replace HRw := hide (HRw.out.pstep hbx)
        replace HZB := hide (over HZB.out hbx HZB.out.size)
        replace HMR := hide (HMR.out.step hbx)
        replace HQA := hide (HQA.out.step hbx)
        replace HPR := hide (HPR.out.step hbx)
        unfold pageBlock at HRw HZB HMR HQA HPR HQB
        clear hbx
        go_upto_region 24 with fail
        obtain ⟨QB, hQB⟩ : ∃ QB, QB = q2.heap.size := ⟨_, rfl⟩
        rw [← hQB] at HQB ⊢
        obtain ⟨Y2, hY2⟩ : ∃ Y2, Y2 = q2.alloc (.cells #[.int .i64 xL, .slice po pk pc] 24) := ⟨_, rfl⟩
        rw [← hY2] at HRw HZB HMR HQA HPR HQB ⊢
        clear hY2
        clear hQB
        have k0 := HQA.out.c0
        have k1 := HQA.out.c1
        have m0 := HQB.out.c0
        have m1 := HQB.out.c1
        go_wp2_with fail
        clear k0 k1 m0 m1
        refine (samePage_any xL mo mk mc xE xL po pk pc xE _ HMR.out HPR.out HMK.out HPK.out).mono ?_
        rintro e q3 ⟨rfl, hb⟩
        rw [show samePgB xL xE xL xE = true by simp [samePgB]]
        replace HRw := hide (HRw.out.pstep hb)
        replace HZB := hide (over HZB.out hb HZB.out.size)
        replace HMR := hide (HMR.out.step hb)
        replace HQA := hide (HQA.out.step hb)
        replace HPR := hide (HPR.out.step hb)
        replace HQB := hide (HQB.out.step hb)
        clear hb
        go_wp2_with fail
        refine (is_code HCD3.out (HW.out.step HZB.out)).mono ?_
        rintro e q4 ⟨rfl, hb⟩
        replace HRw := hide (HRw.out.pstep hb)
        replace HZB := hide (over HZB.out hb HZB.out.size)
        replace HMR := hide (HMR.out.step hb)
        replace HQA := hide (HQA.out.step hb)
        replace HPR := hide (HPR.out.step hb)
        replace HQB := hide (HQB.out.step hb)
        clear hb
        go_wp2_with fail
        go_roundw
        case rel => exact ⟨j + 1, by omega, by go_num, HZB.out⟩
        case measure => simp [intOf]; omega
      · have hji : decide ((j : Int) < 4) = false := by simp; omega
        have hb := HZB.out
        replace HE := hide (HE.out.step hb)
        replace HW := hide (HW.out.step hb)
        replace HB := hide (over HB.out hb HB.out.size)
        replace HR1 := hide (HR1.out.step hb)
        replace HP1 := hide (HP1.out.step hb)
        clear hb HZB HT HGL hlt hj
        have k0 := HP1.out.c0
        have k1 := HP1.out.c1
        go_wp2_with fail
        clear k0 k1 hji
        clear HE HW
        refine (pget_uni HR1.out HM.out.up HN1.out).mono ?_
        rintro e v1 ⟨rfl, hb⟩
        replace HB := hide (over HB.out hb HB.out.size)
        replace HR1 := hide (HR1.out.step hb)
        replace HP1 := hide (HP1.out.step hb)
        clear hb
        obtain ⟨V0, hV0⟩ : ∃ V0, V0 = (valE es1 key).getD 0 := ⟨_, rfl⟩
        obtain ⟨H0, hH0⟩ : ∃ H0, H0 = hasE es1 key := ⟨_, rfl⟩
        rw [← hV0, ← hH0]
        have HV0 := hide hV0
        have HH0 := hide hH0
        clear hV0 hH0
        have k0 := HP1.out.c0
        have k1 := HP1.out.c1
        go_wp2_with fail
        clear k0 k1
        refine (rfind_any l1 b1 n1 c1 es1 key _ HR1.out HN1.out).mono ?_
        rintro e v2 ⟨rfl, hb⟩
        replace HB := hide (over HB.out hb HB.out.size)
        replace HR1 := hide (HR1.out.step hb)
        replace HP1 := hide (HP1.out.step hb)
        clear hb
        rw [← HV0.out, ← HH0.out]
        obtain ⟨PL, hPL⟩ : ∃ PL, PL = putL l1 es1 key := ⟨_, rfl⟩
        obtain ⟨PE, hPE⟩ : ∃ PE, PE = putE es1 key a6 := ⟨_, rfl⟩
        obtain ⟨CP, hCP⟩ : ∃ CP, CP = canPut es1 key := ⟨_, rfl⟩
        obtain ⟨RE, hRE⟩ : ∃ RE, RE = remE key es1 := ⟨_, rfl⟩
        have HPL := hide hPL
        have HPE := hide hPE
        have HCP := hide hCP
        have HRE := hide hRE
        clear hPL hPE hCP hRE
        have k0 := HP1.out.c0
        have k1 := HP1.out.c1
        go_wp2_with fail
        clear k0 k1
        refine (pput_any l1 b1 n1 c1 es1 key a6 _ HR1.out HM.out.up HN1.out).mono ?_
        rintro e v3 ⟨d1, m1, e1, rfl, hm, hown, hb⟩
        rw [← HPE.out] at hm hown
        rw [← HPL.out, ← HCP.out]
        have HM1 := hide hm
        have HRA := hide hown.row
        clear hm hown
        replace HB := hide (over HB.out hb HB.out.size)
        replace HR1 := hide (HR1.out.step hb)
        replace HP1 := hide (HP1.out.step hb)
        clear hb
        unfold pageV
        have hbx := below_box v3 (pageBlock PL d1 m1 e1)
        have HPA := hide (pblk_new v3 PL d1 m1 e1)
        replace HB := hide (over HB.out hbx HB.out.size)
        replace HR1 := hide (HR1.out.step hbx)
        replace HP1 := hide (HP1.out.step hbx)
        replace HRA := hide (HRA.out.step hbx)
        unfold pageBlock at HB HR1 HP1 HRA HPA
        clear hbx
        go_upto_region 29 with fail
        obtain ⟨PA, hPA⟩ : ∃ PA, PA = v3.heap.size := ⟨_, rfl⟩
        rw [← hPA] at HPA ⊢
        obtain ⟨Y1, hY1⟩ : ∃ Y1, Y1 = v3.alloc (.cells #[.int .i64 PL, .slice d1 m1 e1] 24) := ⟨_, rfl⟩
        rw [← hY1] at HB HR1 HP1 HRA HPA ⊢
        clear hY1
        clear hPA
        have k0 := HP1.out.c0
        have k1 := HP1.out.c1
        go_wp2_with fail
        clear k0 k1
        refine (rput_any l1 b1 n1 c1 es1 key a6 _ HR1.out HM.out.up HN1.out (by have h1 := HM.out.most; have h2 := HN1.out; omega)).mono ?_
        rintro e v4 ⟨d2, m2, e2, rfl, hm, hown, hb⟩
        rw [← HPE.out] at hm hown
        rw [← HPL.out, ← HCP.out]
        have HM2 := hide hm
        have HRB := hide hown.row
        clear hm hown
        replace HB := hide (over HB.out hb HB.out.size)
        replace HR1 := hide (HR1.out.step hb)
        replace HP1 := hide (HP1.out.step hb)
        replace HRA := hide (HRA.out.step hb)
        replace HPA := hide (HPA.out.step hb)
        clear hb
        unfold pageV
        have hbx := below_box v4 (pageBlock PL d2 m2 e2)
        have HPB := hide (pblk_new v4 PL d2 m2 e2)
        replace HB := hide (over HB.out hbx HB.out.size)
        replace HR1 := hide (HR1.out.step hbx)
        replace HP1 := hide (HP1.out.step hbx)
        replace HRA := hide (HRA.out.step hbx)
        replace HPA := hide (HPA.out.step hbx)
        replace HRB := hide (HRB.out.step hbx)
        unfold pageBlock at HB HR1 HP1 HRA HPA HRB HPB
        clear hbx
        go_upto_region 30 with fail
        obtain ⟨PB, hPB⟩ : ∃ PB, PB = v4.heap.size := ⟨_, rfl⟩
        rw [← hPB] at HPB ⊢
        obtain ⟨Y2, hY2⟩ : ∃ Y2, Y2 = v4.alloc (.cells #[.int .i64 PL, .slice d2 m2 e2] 24) := ⟨_, rfl⟩
        rw [← hY2] at HB HR1 HP1 HRA HPA HRB HPB ⊢
        clear hY2
        clear hPB
        have k0 := HP1.out.c0
        have k1 := HP1.out.c1
        go_wp2_with fail
        clear k0 k1
        refine (rem_any l1 b1 n1 c1 es1 key _ HR1.out HN1.out).mono ?_
        rintro e v5 ⟨d3, m3, e3, rfl, hm, hown, hb⟩
        rw [← HRE.out] at hm hown
        rw [← HH0.out]
        have HM3 := hide hm
        have HRC := hide hown.row
        clear hm hown
        replace HB := hide (over HB.out hb HB.out.size)
        replace HR1 := hide (HR1.out.step hb)
        replace HP1 := hide (HP1.out.step hb)
        replace HRA := hide (HRA.out.step hb)
        replace HPA := hide (HPA.out.step hb)
        replace HRB := hide (HRB.out.step hb)
        replace HPB := hide (HPB.out.step hb)
        clear hb
        unfold pageV
        have hbx := below_box v5 (pageBlock l1 d3 m3 e3)
        have HPC := hide (pblk_new v5 l1 d3 m3 e3)
        replace HB := hide (over HB.out hbx HB.out.size)
        replace HR1 := hide (HR1.out.step hbx)
        replace HP1 := hide (HP1.out.step hbx)
        replace HRA := hide (HRA.out.step hbx)
        replace HPA := hide (HPA.out.step hbx)
        replace HRB := hide (HRB.out.step hbx)
        replace HPB := hide (HPB.out.step hbx)
        replace HRC := hide (HRC.out.step hbx)
        unfold pageBlock at HB HR1 HP1 HRA HPA HRB HPB HRC HPC
        clear hbx
        go_upto_region 31 with fail
        obtain ⟨PC, hPC⟩ : ∃ PC, PC = v5.heap.size := ⟨_, rfl⟩
        rw [← hPC] at HPC ⊢
        obtain ⟨Y3, hY3⟩ : ∃ Y3, Y3 = v5.alloc (.cells #[.int .i64 l1, .slice d3 m3 e3] 24) := ⟨_, rfl⟩
        rw [← hY3] at HB HR1 HP1 HRA HPA HRB HPB HRC HPC ⊢
        clear hY3
        clear hPC
        have k0 := HP1.out.c0
        have k1 := HP1.out.c1
        go_wp2_with fail
        clear k0 k1
        refine (rrem_any l1 b1 n1 c1 es1 key _ HR1.out HN1.out (by have h1 := HM.out.most; have h2 := HN1.out; omega)).mono ?_
        rintro e v6 ⟨d4, m4, e4, rfl, hm, hown, hb⟩
        rw [← HRE.out] at hm hown
        rw [← HH0.out]
        have HM4 := hide hm
        have HRD := hide hown.row
        clear hm hown
        replace HB := hide (over HB.out hb HB.out.size)
        replace HR1 := hide (HR1.out.step hb)
        replace HP1 := hide (HP1.out.step hb)
        replace HRA := hide (HRA.out.step hb)
        replace HPA := hide (HPA.out.step hb)
        replace HRB := hide (HRB.out.step hb)
        replace HPB := hide (HPB.out.step hb)
        replace HRC := hide (HRC.out.step hb)
        replace HPC := hide (HPC.out.step hb)
        clear hb
        unfold pageV
        have hbx := below_box v6 (pageBlock l1 d4 m4 e4)
        have HPD := hide (pblk_new v6 l1 d4 m4 e4)
        replace HB := hide (over HB.out hbx HB.out.size)
        replace HR1 := hide (HR1.out.step hbx)
        replace HP1 := hide (HP1.out.step hbx)
        replace HRA := hide (HRA.out.step hbx)
        replace HPA := hide (HPA.out.step hbx)
        replace HRB := hide (HRB.out.step hbx)
        replace HPB := hide (HPB.out.step hbx)
        replace HRC := hide (HRC.out.step hbx)
        replace HPC := hide (HPC.out.step hbx)
        replace HRD := hide (HRD.out.step hbx)
        unfold pageBlock at HB HR1 HP1 HRA HPA HRB HPB HRC HPC HRD HPD
        clear hbx
        go_upto_region 32 with fail
        obtain ⟨PD, hPD⟩ : ∃ PD, PD = v6.heap.size := ⟨_, rfl⟩
        rw [← hPD] at HPD ⊢
        obtain ⟨Y4, hY4⟩ : ∃ Y4, Y4 = v6.alloc (.cells #[.int .i64 l1, .slice d4 m4 e4] 24) := ⟨_, rfl⟩
        rw [← hY4] at HB HR1 HP1 HRA HPA HRB HPB HRC HPC HRD HPD ⊢
        clear hY4
        clear hPD
        have k0 := HPA.out.c0
        have k1 := HPA.out.c1
        have m0 := HPB.out.c0
        have m1' := HPB.out.c1
        go_wp2_with fail
        clear k0 k1 m0 m1'
        refine (samePage_any PL d1 m1 e1 PE PL d2 m2 e2 PE _ HRA.out HRB.out HM1.out HM2.out).mono ?_
        rintro e v7 ⟨rfl, hb⟩
        rw [show samePgB PL PE PL PE = true by simp [samePgB]]
        replace HB := hide (over HB.out hb HB.out.size)
        replace HR1 := hide (HR1.out.step hb)
        replace HP1 := hide (HP1.out.step hb)
        replace HRA := hide (HRA.out.step hb)
        replace HPA := hide (HPA.out.step hb)
        replace HRB := hide (HRB.out.step hb)
        replace HPB := hide (HPB.out.step hb)
        replace HRC := hide (HRC.out.step hb)
        replace HPC := hide (HPC.out.step hb)
        replace HRD := hide (HRD.out.step hb)
        replace HPD := hide (HPD.out.step hb)
        clear hb
        have k0 := HPC.out.c0
        have k1 := HPC.out.c1
        have m0 := HPD.out.c0
        have m1' := HPD.out.c1
        go_wp2_with fail
        clear k0 k1 m0 m1'
        refine (samePage_any l1 d3 m3 e3 RE l1 d4 m4 e4 RE _ HRC.out HRD.out HM3.out HM4.out).mono ?_
        rintro e v8 ⟨rfl, hb⟩
        rw [show samePgB l1 RE l1 RE = true by simp [samePgB]]
        replace HB := hide (over HB.out hb HB.out.size)
        replace HR1 := hide (HR1.out.step hb)
        replace HP1 := hide (HP1.out.step hb)
        replace HRA := hide (HRA.out.step hb)
        replace HPA := hide (HPA.out.step hb)
        replace HRB := hide (HRB.out.step hb)
        replace HPB := hide (HPB.out.step hb)
        replace HRC := hide (HRC.out.step hb)
        replace HPC := hide (HPC.out.step hb)
        replace HRD := hide (HRD.out.step hb)
        replace HPD := hide (HPD.out.step hb)
        clear hb
        go_wp2_with fail
        go_ret
        exact ⟨rfl, HB.out⟩
end Go.Proofs.YtdijgpkcolpfoaaDoor.pageSays
