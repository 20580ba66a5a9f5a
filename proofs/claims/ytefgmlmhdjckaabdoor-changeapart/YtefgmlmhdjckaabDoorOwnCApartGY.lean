
/- What the statement ChangeApart asks comes out true: one of the four ways (the second key at the first or above, or below it; the second change with a value, or without). -/
import Derived.Test.YtefgmlmhdjckaabDoorJoin22
import Derived.Test.YtefgmlmhdjckaabDoorJoin23
import Derived.Test.YtefgmlmhdjckaabDoorOwnPgFar
namespace Go.Proofs.YtefgmlmhdjckaabDoor.changeApart
open Go.RowKit
set_option linter.unusedVariables false

set_option maxRecDepth 100000 in
set_option maxHeartbeats 16000000 in
theorem walkGY (lo : Option Addr) (len cap : Nat) (zs : List Int) (a1 a2 a3 a4 : Int) (w : World) (w0 : IsRow .i64 w lo len cap zs) (w1 : (Lit.int .i64 a1).wf = true) (hge : numberB a1 60 ≤ numberB a2 59) (hbit : (bits .and .i64 a4 1 == 0) = true) {a : Nat → Addr} (he : ErrsOf w [6] a) :
    Calls Tryd.prog 6 #[.slice lo len cap, .int .i64 a1, .int .i64 a2, .int .i64 a3, .int .i64 a4] w fun e w' => e = .returned (.bool true) ∧ Below w.heap.size w w' := by
  have HGE := hide hge
  have HBIT := hide hbit
  clear hge hbit
  have HROW := hide w0
  clear he w0 w1
  go_enter Tryd.func6, Tryd.ntmps6
  go_wp2_with fail
  refine (cfirst_any _).mono ?_
  rintro e x1 ⟨rfl, hb⟩
  have HB := hide hb
  clear hb
  by_cases hlen : len ≤ 100
  case neg =>
    have hl1 : (100 : Int) < (len : Int) := by omega
    go_wp2_with fail
    go_ret
    exact ⟨rfl, HB.out⟩
  have hl1 : decide ((100 : Int) < (len : Int)) = false := by simp; omega
  go_wp2_with fail
  refine (mpage_new HROW.out (by omega) HB.out 16 (by omega) (by omega)).mono ?_
  rintro e x2 ⟨lsn, es, ao, n, c, rfl, hn, hmade, hown, hb⟩
  have HN := hide hn
  have HM := hide hmade
  have HR := hide hown.row
  replace HB := hide (over HB.out hb HB.out.size)
  clear hn hmade hown hb HROW
  have hL0 := HM.out.l0
  have hL1 := HM.out.l1
  unfold pageV
  have hbx := below_box x2 (pageBlock lsn ao n c)
  have HP := hide (pblk_new x2 lsn ao n c)
  replace HB := hide (over HB.out hbx HB.out.size)
  replace HR := hide (HR.out.step hbx)
  unfold pageBlock at HB HR HP
  clear hbx
  go_upto_region 7 with fail
  obtain ⟨P, hP⟩ : ∃ P, P = x2.heap.size := ⟨_, rfl⟩
  rw [← hP] at HP ⊢
  obtain ⟨Y1, hY1⟩ : ∃ Y1, Y1 = x2.alloc (.cells #[.int .i64 lsn, .slice ao n c] 26) := ⟨_, rfl⟩
  rw [← hY1] at HB HR HP ⊢
  clear hY1
  clear hP
  go_wp2_with fail
  refine (number_any _ _ _ (by omega) (by omega)).mono ?_
  rintro e x3 ⟨rfl, rfl⟩
  have hka := numberB_bd a1 60 (by omega)
  have hge := HGE.out
  obtain ⟨ka, hkey⟩ : ∃ key, key = numberB a1 60 := ⟨_, rfl⟩
  rw [← hkey] at hka hge ⊢
  clear hkey HGE
  obtain ⟨hka0, hka1⟩ := hka
  have HGE := hide hge
  clear hge
  go_wp2_with fail
  refine (number_any _ _ _ (by omega) (by omega)).mono ?_
  rintro e x4 ⟨rfl, rfl⟩
  have hkb := numberB_bd a2 59 (by omega)
  have hge := HGE.out
  obtain ⟨kc, hkey⟩ : ∃ key, key = numberB a2 59 := ⟨_, rfl⟩
  rw [← hkey] at hkb hge ⊢
  clear hkey HGE
  obtain ⟨hkb0, hkb1⟩ := hkb
  have hn16 : n ≤ 16 := by have h1 := HM.out.most; rw [HN.out] at h1; omega
  have hwl : IntKind.i64.wrap (lsn + 1) = lsn + 1 := by rw [IntKind.wrap_i64]; omega
  have hwl2 : IntKind.i64.wrap (lsn + 2) = lsn + 2 := by rw [IntKind.wrap_i64]; omega
  have HLE : Hid (es.length < 18) := by show es.length < 18; rw [HN.out]; omega
  have hwk : IntKind.i64.wrap (kc + 1) = kc + 1 := by rw [IntKind.wrap_i64]; omega
  have HNE : Hid (ka ≠ kc + 1) := by show ka ≠ kc + 1; omega
  go_upto_region 11 with fail
  obtain ⟨kb, hkb⟩ : ∃ kb, kb = kc + 1 := ⟨_, rfl⟩
  rw [← hkb] at HNE ⊢
  clear hkb hwk hge
  have hbx := below_box x4 (.cells #[.int .i64 2, .int .i64 1, .int .i64 1, .int .i64 0, .int .i64 0, .int .i64 ka, .bool false, .bool true, .int .i64 0, .int .i64 a3] 35)
  have HRA : Hid (Cells10 (x4.alloc (.cells #[.int .i64 2, .int .i64 1, .int .i64 1, .int .i64 0, .int .i64 0, .int .i64 ka, .bool false, .bool true, .int .i64 0, .int .i64 a3] 35)) x4.heap.size ⟨2, 1, 1, 0, 0, ka, false, true, 0, a3⟩) := cells10_new x4 ⟨2, 1, 1, 0, 0, ka, false, true, 0, a3⟩
  replace HB := hide (over HB.out hbx HB.out.size)
  replace HR := hide (HR.out.step hbx)
  replace HP := hide (HP.out.step hbx)
  clear hbx
  go_upto_region 12 with fail
  obtain ⟨RA, hRA⟩ : ∃ RA, RA = x4.heap.size := ⟨_, rfl⟩
  rw [← hRA] at HRA ⊢
  obtain ⟨Y2, hY2⟩ : ∃ Y2, Y2 = x4.alloc (.cells #[.int .i64 2, .int .i64 1, .int .i64 1, .int .i64 0, .int .i64 0, .int .i64 ka, .bool false, .bool true, .int .i64 0, .int .i64 a3] 35) := ⟨_, rfl⟩
  rw [← hY2] at HB HR HP HRA ⊢
  clear hY2
  clear hRA
  have hbit := HBIT.out
  have hbk := heap_alloc_new Y2 (.cells #[.int .i64 3, .int .i64 2, .int .i64 1, .int .i64 0, .int .i64 0, .int .i64 kb, .bool true, .bool true, .int .i64 1, .int .i64 0] 35)
  have hbX := below_box Y2 (.cells #[.int .i64 3, .int .i64 2, .int .i64 1, .int .i64 0, .int .i64 0, .int .i64 kb, .bool true, .bool true, .int .i64 1, .int .i64 0] 35)
  go_upto_region 13 with fail
  obtain ⟨SB, hB⟩ : ∃ SB, SB = Y2.heap.size := ⟨_, rfl⟩
  rw [← hB] at hbk ⊢
  obtain ⟨Y3, hY⟩ : ∃ Y3, Y3 = Y2.alloc (.cells #[.int .i64 3, .int .i64 2, .int .i64 1, .int .i64 0, .int .i64 0, .int .i64 kb, .bool true, .bool true, .int .i64 1, .int .i64 0] 35) := ⟨_, rfl⟩
  rw [← hY] at hbk hbX ⊢
  clear hY
  have r9 : Y3.cell? ⟨SB, 9, none⟩ = some (.int .i64 0) := (cell_row hbk 9).trans rfl
  have r7 : Y3.cell? ⟨SB, 7, none⟩ = some (.bool true) := (cell_row hbk 7).trans rfl
  have hfz : Y3.frozen? ⟨SB, 9, none⟩ = false := by simp [World.frozen?, hbk]
  have HBK := hide hbk
  have HBX := hide hbX
  have HLB : Hid (Y2.heap.size ≤ SB) := by show Y2.heap.size ≤ SB; omega
  clear hbk hbX hB
  go_upto_region 15 with fail
  clear r9 r7 hfz
  obtain ⟨Z3, hZ⟩ : ∃ Z3, Z3 = Y3.setCell ⟨SB, 9, none⟩ (.int .i64 a4) := ⟨_, rfl⟩
  have hbZ : Below Y2.heap.size Y2 Z3 := by rw [hZ]; exact HBX.out.setCell (p := ⟨SB, 9, none⟩) HLB.out _
  have HSB : Hid (Cells10 Z3 SB ⟨3, 2, 1, 0, 0, kb, true, true, 1, a4⟩) := by show Cells10 Z3 SB _; rw [hZ]; exact cells10_of (set_block HBK.out 9 _)
  rw [← hZ]
  replace HB := hide (over HB.out hbZ HB.out.size)
  replace HR := hide (HR.out.step hbZ)
  replace HP := hide (HP.out.step hbZ)
  replace HRA := hide (HRA.out.step hbZ)
  clear hZ hbZ HBK HBX HLB
  clear hbit
  have HU1 := hide (HM.out.up.done (r := ⟨2, 1, 1, 0, 0, ka, false, true, 0, a3⟩) (by have := HLE.out; omega))
  have HU2 := hide (HM.out.up.done (r := ⟨3, 2, 1, 0, 0, kb, true, true, 1, a4⟩) (by have := HLE.out; omega))
  have HL1 := hide (len_done ⟨2, 1, 1, 0, 0, ka, false, true, 0, a3⟩ HM.out.up (by have := HLE.out; omega))
  have HL2 := hide (len_done ⟨3, 2, 1, 0, 0, kb, true, true, 1, a4⟩ HM.out.up (by have := HLE.out; omega))
  have HAP : Hid (doneE ⟨3, 2, 1, 0, 0, kb, true, true, 1, a4⟩ (doneE ⟨2, 1, 1, 0, 0, ka, false, true, 0, a3⟩ es) = doneE ⟨2, 1, 1, 0, 0, ka, false, true, 0, a3⟩ (doneE ⟨3, 2, 1, 0, 0, kb, true, true, 1, a4⟩ es)) := done_apart HM.out.up (by have := HLE.out; omega) HNE.out
  obtain ⟨e1, he1⟩ : ∃ e1, e1 = doneE ⟨2, 1, 1, 0, 0, ka, false, true, 0, a3⟩ es := ⟨_, rfl⟩
  obtain ⟨e2, he2⟩ : ∃ e2, e2 = doneE ⟨3, 2, 1, 0, 0, kb, true, true, 1, a4⟩ es := ⟨_, rfl⟩
  have HE1 := hide he1
  have HE2 := hide he2
  rw [← he1] at HU1 HL1
  rw [← he2] at HU2 HL2
  rw [← he1, ← he2] at HAP
  clear he1 he2
  obtain ⟨e3, he3⟩ : ∃ e3, e3 = doneE ⟨3, 2, 1, 0, 0, kb, true, true, 1, a4⟩ e1 := ⟨_, rfl⟩
  have HE3 := hide he3
  rw [← he3] at HAP
  clear he3
  have k0 := HP.out.c0
  have k1 := HP.out.c1
  have hok := okD_few ⟨2, 1, 1, 0, 0, ka, false, true, 0, a3⟩ (es := es) (by have := HLE.out; omega)
  obtain ⟨r0, r1, r2, r3, r4, r5, r6, r7, r8, r9, rl⟩ := HRA.out
  simp only at r0 r1 r2 r3 r4 r5 r6 r7 r8 r9
  clear rl
  have HRD := hide (redo_yes lsn (lsn + 1) ao n c es ⟨2, 1, 1, 0, 0, ka, false, true, 0, a3⟩ Z3 HR.out HM.out.up HN.out (by rfl) (by omega) hok)
  unfold R.val pageV at HRD
  simp only at HRD
  go_wp2_with fail
  refine HRD.out.mono ?_
  rintro e x5 ⟨b1, m1, d1, rfl, hm, hown, hb⟩
  clear HRD
  rw [← HE1.out] at hm hown
  have HN5 := hide hm
  have HR5 := hide hown.row
  clear hm hown k0 k1 hok
  replace HB := hide (over HB.out hb HB.out.size)
  replace HR := hide (HR.out.step hb)
  replace HP := hide (HP.out.step hb)
  replace HRA := hide (HRA.out.step hb)
  replace HSB := hide (HSB.out.step hb)
  clear hb
  clear r0 r1 r2 r3 r4 r5 r6 r7 r8 r9
  have hne_P : x5.heap.size ≠ P := by have h1 := HP.out.lt; omega
  have hne_RA : x5.heap.size ≠ RA := by have h1 := HRA.out.lt; omega
  have hne_SB : x5.heap.size ≠ SB := by have h1 := HSB.out.lt; omega
  have hlow : w.heap.size ≤ x5.heap.size := HB.out.size
  have hbx := below_box x5 (pageBlock (lsn + 1) b1 m1 d1)
  have HX := hide (pblk_new x5 (lsn + 1) b1 m1 d1)
  replace HB := hide (over HB.out hbx HB.out.size)
  replace HR := hide (HR.out.step hbx)
  replace HP := hide (HP.out.step hbx)
  replace HRA := hide (HRA.out.step hbx)
  replace HSB := hide (HSB.out.step hbx)
  replace HR5 := hide (HR5.out.step hbx)
  unfold pageBlock at HB HR HP HRA HSB HR5 HX
  clear hbx
  go_upto_region 16 with fail
  obtain ⟨X, hX⟩ : ∃ X, X = x5.heap.size := ⟨_, rfl⟩
  rw [← hX] at HX ⊢
  rw [← hX] at hne_P
  have HNE_X_P : Hid (X ≠ P) := hne_P
  clear hne_P
  rw [← hX] at hne_RA
  have HNE_X_RA : Hid (X ≠ RA) := hne_RA
  clear hne_RA
  rw [← hX] at hne_SB
  have HNE_X_SB : Hid (X ≠ SB) := hne_SB
  clear hne_SB
  rw [← hX] at hlow
  have HLOW_X : Hid (w.heap.size ≤ X) := hlow
  clear hlow
  obtain ⟨Y4, hY4⟩ : ∃ Y4, Y4 = x5.alloc (.cells #[.int .i64 ((lsn + 1)), .slice b1 m1 d1] 26) := ⟨_, rfl⟩
  rw [← hY4] at HB HR HP HRA HSB HR5 HX ⊢
  clear hY4
  clear hX
  have hm1 : m1 ≤ 17 := by have h1 := HL1.out; rw [HN5.out, HN.out] at h1; omega
  have k0 := HX.out.c0
  have k1 := HX.out.c1
  have p0 := HP.out.c0
  have hok := okD_few ⟨3, 2, 1, 0, 0, kb, true, true, 1, a4⟩ (es := e1) (by rw [HN5.out]; omega)
  obtain ⟨r0, r1, r2, r3, r4, r5, r6, r7, r8, r9, rl⟩ := HSB.out
  simp only at r0 r1 r2 r3 r4 r5 r6 r7 r8 r9
  clear rl
  have HRD := hide (redo_yes (lsn + 1) (lsn + 2) b1 m1 d1 e1 ⟨3, 2, 1, 0, 0, kb, true, true, 1, a4⟩ Y4 HR5.out HU1.out HN5.out (by rfl) (by omega) hok)
  unfold R.val pageV at HRD
  simp only at HRD
  go_wp2_with fail
  refine HRD.out.mono ?_
  rintro e x6 ⟨b2, m2, d2, rfl, hm, hown, hb⟩
  clear HRD
  rw [← HE3.out] at hm hown
  have HN6 := hide hm
  have HR6 := hide hown.row
  clear hm hown k0 k1 p0 hok
  replace HB := hide (over HB.out hb HB.out.size)
  replace HR := hide (HR.out.step hb)
  replace HP := hide (HP.out.step hb)
  replace HRA := hide (HRA.out.step hb)
  replace HSB := hide (HSB.out.step hb)
  replace HR5 := hide (HR5.out.step hb)
  replace HX := hide (HX.out.step hb)
  clear hb
  clear r0 r1 r2 r3 r4 r5 r6 r7 r8 r9
  have x0 := HX.out.c0
  have x1 := HX.out.c1
  have f0 := HX.out.fz 0
  have f1 := HX.out.fz 1
  go_upto_region 17 with fail
  clear x0 x1 f0 f1
  obtain ⟨Z5, hZ⟩ : ∃ Z5, Z5 = (x6.setCell ⟨X, 0, none⟩ (.int .i64 (lsn + 2))).setCell ⟨X, 1, none⟩ (.slice b2 m2 d2) := ⟨_, rfl⟩
  rw [← hZ]
  replace HP := hide ((HP.out.far (fun e => absurd e (by have h1 := HNE_X_P.out; omega)) 0 (.int .i64 (lsn + 2))).far (fun e => absurd e (by have h1 := HNE_X_P.out; omega)) 1 (.slice b2 m2 d2))
  rw [← hZ] at HP
  replace HR := hide ((HR.out.set HX.out 0 (.int .i64 (lsn + 2))).set (HX.out.putL (lsn + 2)) 1 (.slice b2 m2 d2))
  rw [← hZ] at HR
  replace HR6 := hide ((HR6.out.set HX.out 0 (.int .i64 (lsn + 2))).set (HX.out.putL (lsn + 2)) 1 (.slice b2 m2 d2))
  rw [← hZ] at HR6
  replace HRA := hide ((HRA.out.far (by have h1 := HNE_X_RA.out; omega) 0 (.int .i64 (lsn + 2))).far (by have h1 := HNE_X_RA.out; omega) 1 (.slice b2 m2 d2))
  rw [← hZ] at HRA
  replace HSB := hide ((HSB.out.far (by have h1 := HNE_X_SB.out; omega) 0 (.int .i64 (lsn + 2))).far (by have h1 := HNE_X_SB.out; omega) 1 (.slice b2 m2 d2))
  rw [← hZ] at HSB
  replace HB := hide ((HB.out.setCell (p := ⟨X, 0, none⟩) HLOW_X.out (.int .i64 (lsn + 2))).setCell (p := ⟨X, 1, none⟩) HLOW_X.out (.slice b2 m2 d2))
  rw [← hZ] at HB
  replace HX := hide (HX.out.put (lsn + 2) b2 m2 d2)
  rw [← hZ] at HX
  clear hZ
  clear HR5
  have k0 := HP.out.c0
  have k1 := HP.out.c1
  have hok := okD_few ⟨3, 2, 1, 0, 0, kb, true, true, 1, a4⟩ (es := es) (by have := HLE.out; omega)
  obtain ⟨r0, r1, r2, r3, r4, r5, r6, r7, r8, r9, rl⟩ := HSB.out
  simp only at r0 r1 r2 r3 r4 r5 r6 r7 r8 r9
  clear rl
  have HRD := hide (redo_yes lsn (lsn + 1) ao n c es ⟨3, 2, 1, 0, 0, kb, true, true, 1, a4⟩ Z5 HR.out HM.out.up HN.out (by rfl) (by omega) hok)
  unfold R.val pageV at HRD
  simp only at HRD
  go_wp2_with fail
  refine HRD.out.mono ?_
  rintro e x7 ⟨b3, m3, d3, rfl, hm, hown, hb⟩
  clear HRD
  rw [← HE2.out] at hm hown
  have HN7 := hide hm
  have HR7 := hide hown.row
  clear hm hown k0 k1 hok
  replace HB := hide (over HB.out hb HB.out.size)
  replace HR := hide (HR.out.step hb)
  replace HP := hide (HP.out.step hb)
  replace HRA := hide (HRA.out.step hb)
  replace HSB := hide (HSB.out.step hb)
  replace HX := hide (HX.out.step hb)
  replace HR6 := hide (HR6.out.step hb)
  clear hb
  clear r0 r1 r2 r3 r4 r5 r6 r7 r8 r9
  have hne_P : x7.heap.size ≠ P := by have h1 := HP.out.lt; omega
  have hne_RA : x7.heap.size ≠ RA := by have h1 := HRA.out.lt; omega
  have hne_SB : x7.heap.size ≠ SB := by have h1 := HSB.out.lt; omega
  have hne_X : x7.heap.size ≠ X := by have h1 := HX.out.lt; omega
  have hlow : w.heap.size ≤ x7.heap.size := HB.out.size
  have hbx := below_box x7 (pageBlock (lsn + 1) b3 m3 d3)
  have HYp := hide (pblk_new x7 (lsn + 1) b3 m3 d3)
  replace HB := hide (over HB.out hbx HB.out.size)
  replace HR := hide (HR.out.step hbx)
  replace HP := hide (HP.out.step hbx)
  replace HRA := hide (HRA.out.step hbx)
  replace HSB := hide (HSB.out.step hbx)
  replace HX := hide (HX.out.step hbx)
  replace HR6 := hide (HR6.out.step hbx)
  replace HR7 := hide (HR7.out.step hbx)
  unfold pageBlock at HB HR HP HRA HSB HX HR6 HR7 HYp
  clear hbx
  go_upto_region 18 with fail
  obtain ⟨Yp, hYp⟩ : ∃ Yp, Yp = x7.heap.size := ⟨_, rfl⟩
  rw [← hYp] at HYp ⊢
  rw [← hYp] at hne_P
  have HNE_Yp_P : Hid (Yp ≠ P) := hne_P
  clear hne_P
  rw [← hYp] at hne_RA
  have HNE_Yp_RA : Hid (Yp ≠ RA) := hne_RA
  clear hne_RA
  rw [← hYp] at hne_SB
  have HNE_Yp_SB : Hid (Yp ≠ SB) := hne_SB
  clear hne_SB
  rw [← hYp] at hne_X
  have HNE_Yp_X : Hid (Yp ≠ X) := hne_X
  clear hne_X
  rw [← hYp] at hlow
  have HLOW_Yp : Hid (w.heap.size ≤ Yp) := hlow
  clear hlow
  obtain ⟨Y6, hY6⟩ : ∃ Y6, Y6 = x7.alloc (.cells #[.int .i64 ((lsn + 1)), .slice b3 m3 d3] 26) := ⟨_, rfl⟩
  rw [← hY6] at HB HR HP HRA HSB HX HR6 HR7 HYp ⊢
  clear hY6
  clear hYp
  have hm3 : m3 ≤ 17 := by have h1 := HL2.out; rw [HN7.out, HN.out] at h1; omega
  have k0 := HYp.out.c0
  have k1 := HYp.out.c1
  have p0 := HP.out.c0
  have hok := okD_few ⟨2, 1, 1, 0, 0, ka, false, true, 0, a3⟩ (es := e2) (by rw [HN7.out]; omega)
  obtain ⟨r0, r1, r2, r3, r4, r5, r6, r7, r8, r9, rl⟩ := HRA.out
  simp only at r0 r1 r2 r3 r4 r5 r6 r7 r8 r9
  clear rl
  have HRD := hide (redo_yes (lsn + 1) (lsn + 2) b3 m3 d3 e2 ⟨2, 1, 1, 0, 0, ka, false, true, 0, a3⟩ Y6 HR7.out HU2.out HN7.out (by rfl) (by omega) hok)
  unfold R.val pageV at HRD
  simp only at HRD
  go_wp2_with fail
  refine HRD.out.mono ?_
  rintro e x8 ⟨b4, m4, d4, rfl, hm, hown, hb⟩
  clear HRD
  rw [← HAP.out] at hm hown
  have HN8 := hide hm
  have HR8 := hide hown.row
  clear hm hown k0 k1 p0 hok
  replace HB := hide (over HB.out hb HB.out.size)
  replace HR := hide (HR.out.step hb)
  replace HP := hide (HP.out.step hb)
  replace HRA := hide (HRA.out.step hb)
  replace HSB := hide (HSB.out.step hb)
  replace HX := hide (HX.out.step hb)
  replace HR6 := hide (HR6.out.step hb)
  replace HR7 := hide (HR7.out.step hb)
  replace HYp := hide (HYp.out.step hb)
  clear hb
  clear r0 r1 r2 r3 r4 r5 r6 r7 r8 r9
  have x0 := HYp.out.c0
  have x1 := HYp.out.c1
  have f0 := HYp.out.fz 0
  have f1 := HYp.out.fz 1
  go_upto_region 19 with fail
  clear x0 x1 f0 f1
  obtain ⟨Z7, hZ⟩ : ∃ Z7, Z7 = (x8.setCell ⟨Yp, 0, none⟩ (.int .i64 (lsn + 2))).setCell ⟨Yp, 1, none⟩ (.slice b4 m4 d4) := ⟨_, rfl⟩
  rw [← hZ]
  replace HX := hide ((HX.out.far (fun e => absurd e (by have h1 := HNE_Yp_X.out; omega)) 0 (.int .i64 (lsn + 2))).far (fun e => absurd e (by have h1 := HNE_Yp_X.out; omega)) 1 (.slice b4 m4 d4))
  rw [← hZ] at HX
  replace HR6 := hide ((HR6.out.set HYp.out 0 (.int .i64 (lsn + 2))).set (HYp.out.putL (lsn + 2)) 1 (.slice b4 m4 d4))
  rw [← hZ] at HR6
  replace HR8 := hide ((HR8.out.set HYp.out 0 (.int .i64 (lsn + 2))).set (HYp.out.putL (lsn + 2)) 1 (.slice b4 m4 d4))
  rw [← hZ] at HR8
  replace HB := hide ((HB.out.setCell (p := ⟨Yp, 0, none⟩) HLOW_Yp.out (.int .i64 (lsn + 2))).setCell (p := ⟨Yp, 1, none⟩) HLOW_Yp.out (.slice b4 m4 d4))
  rw [← hZ] at HB
  replace HYp := hide (HYp.out.put (lsn + 2) b4 m4 d4)
  rw [← hZ] at HYp
  clear hZ
  have k0 := HX.out.c0
  have k1 := HX.out.c1
  have p0 := HYp.out.c0
  have p1 := HYp.out.c1
  go_wp2_with fail
  refine (samePage_any (lsn + 2) b2 m2 d2 e3 (lsn + 2) b4 m4 d4 e3 _ HR6.out HR8.out HN6.out HN8.out).mono ?_
  rintro e x9 ⟨rfl, hb⟩
  rw [show samePgB (lsn + 2) e3 (lsn + 2) e3 = true from decide_eq_true ⟨rfl, rfl⟩]
  have HBF := hide (over HB.out hb HB.out.size)
  clear hb k0 k1 p0 p1
  go_wp2_with fail
  go_ret
  exact ⟨rfl, HBF.out⟩
end Go.Proofs.YtefgmlmhdjckaabDoor.changeApart
