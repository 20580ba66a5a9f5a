
/- What the statement ChangeBack asks comes out true, at every list of numbers, key, mark and value; nothing that was there is written. -/
import Derived.Test.YtefgmlmhdjckaabDoorJoin22
import Derived.Test.YtefgmlmhdjckaabDoorJoin23
import Derived.Test.YtefgmlmhdjckaabDoorOwnPgBack
namespace Go.Proofs.YtefgmlmhdjckaabDoor.changeBack
open Go.RowKit
set_option linter.unusedVariables false

set_option maxRecDepth 100000 in
set_option maxHeartbeats 16000000 in
theorem walk (lo : Option Addr) (len cap : Nat) (zs : List Int) (a1 : Int) (a2 : Bool) (a3 : Int) (w : World) (w0 : IsRow .i64 w lo len cap zs) (w1 : (Lit.int .i64 a1).wf = true) (w3 : (Lit.int .i64 a3).wf = true) {a : Nat → Addr} (he : ErrsOf w [6] a) :
    Calls Tryd.prog 3 #[.slice lo len cap, .int .i64 a1, .bool a2, .int .i64 a3] w fun e w' => e = .returned (.bool true) ∧ Below w.heap.size w w' := by
  have HROW := hide w0
  clear he w0 w1
  go_enter Tryd.func3, Tryd.ntmps3
  go_wp2_with fail
  refine (cfirst_any _).mono ?_
  rintro e x1 ⟨rfl, hb⟩
  have HB := hide hb
  clear hb
  by_cases hlen : len ≤ 100
  case neg =>
    have hl1 : (100 : Int) < (len : Int) := by omega
    go_wp2_with fail
    go_ret
    exact ⟨rfl, HB.out⟩
  have hl1 : decide ((100 : Int) < (len : Int)) = false := by simp; omega
  go_wp2_with fail
  refine (mpage_new HROW.out (by omega) HB.out 18 (by omega) (by omega)).mono ?_
  rintro e x2 ⟨lsn, es, ao, n, c, rfl, hn, hmade, hown, hb⟩
  have HN := hide hn
  have HM := hide hmade
  have HR := hide hown.row
  replace HB := hide (over HB.out hb HB.out.size)
  clear hn hmade hown hb HROW
  have hL0 := HM.out.l0
  have hL1 := HM.out.l1
  unfold pageV
  have hbx := below_box x2 (pageBlock lsn ao n c)
  have HP := hide (pblk_new x2 lsn ao n c)
  replace HB := hide (over HB.out hbx HB.out.size)
  replace HR := hide (HR.out.step hbx)
  unfold pageBlock at HB HR HP
  clear hbx
  go_upto_region 7 with fail
  obtain ⟨P, hP⟩ : ∃ P, P = x2.heap.size := ⟨_, rfl⟩
  rw [← hP] at HP ⊢
  obtain ⟨Y1, hY1⟩ : ∃ Y1, Y1 = x2.alloc (.cells #[.int .i64 lsn, .slice ao n c] 26) := ⟨_, rfl⟩
  rw [← hY1] at HB HR HP ⊢
  clear hY1
  clear hP
  go_wp2_with fail
  refine (number_any _ _ _ (by omega) (by omega)).mono ?_
  rintro e x3 ⟨rfl, rfl⟩
  obtain ⟨key, hkey⟩ : ∃ key, key = numberB a1 60 := ⟨_, rfl⟩
  rw [← hkey]
  clear hkey
  have hn18 : n ≤ 18 := by have h1 := HM.out.most; rw [HN.out] at h1; omega
  have hwl : IntKind.i64.wrap (lsn + 1) = lsn + 1 := by rw [IntKind.wrap_i64]; omega
  have hwl2 : IntKind.i64.wrap (lsn + 2) = lsn + 2 := by rw [IntKind.wrap_i64]; omega
  have k0 := HP.out.c0
  have k1 := HP.out.c1
  go_wp2_with fail
  refine (rfind_any lsn ao n c es key _ HR.out HN.out).mono ?_
  rintro e x4 ⟨rfl, hb⟩
  replace HB := hide (over HB.out hb HB.out.size)
  replace HR := hide (HR.out.step hb)
  replace HP := hide (HP.out.step hb)
  clear hb k0 k1
  obtain ⟨V0, hV0⟩ : ∃ V0, V0 = (valE es key).getD 0 := ⟨_, rfl⟩
  obtain ⟨H, hH⟩ : ∃ H, H = hasE es key := ⟨_, rfl⟩
  rw [← hV0, ← hH]
  have HV0 := hide hV0
  have HH := hide hH
  clear hV0 hH
  have HLE : Hid (es.length < 19) := by show es.length < 19; rw [HN.out]; omega
  cases a2
  case true =>
    have hbk := heap_alloc_new x4 (.cells #[.int .i64 2, .int .i64 1, .int .i64 1, .int .i64 0, .int .i64 0, .int .i64 key, .bool H, .bool true, .int .i64 V0, .int .i64 0] 35)
    have hbX := below_box x4 (.cells #[.int .i64 2, .int .i64 1, .int .i64 1, .int .i64 0, .int .i64 0, .int .i64 key, .bool H, .bool true, .int .i64 V0, .int .i64 0] 35)
    go_upto_region 10 with fail
    obtain ⟨RB, hB⟩ : ∃ RB, RB = x4.heap.size := ⟨_, rfl⟩
    rw [← hB] at hbk ⊢
    obtain ⟨Y2, hY⟩ : ∃ Y2, Y2 = x4.alloc (.cells #[.int .i64 2, .int .i64 1, .int .i64 1, .int .i64 0, .int .i64 0, .int .i64 key, .bool H, .bool true, .int .i64 V0, .int .i64 0] 35) := ⟨_, rfl⟩
    rw [← hY] at hbk hbX ⊢
    clear hY
    have r9 : Y2.cell? ⟨RB, 9, none⟩ = some (.int .i64 0) := (cell_row hbk 9).trans rfl
    have r7 : Y2.cell? ⟨RB, 7, none⟩ = some (.bool true) := (cell_row hbk 7).trans rfl
    have hfz : Y2.frozen? ⟨RB, 9, none⟩ = false := by simp [World.frozen?, hbk]
    have HBK := hide hbk
    have HBX := hide hbX
    have HLB : Hid (x4.heap.size ≤ RB) := by show x4.heap.size ≤ RB; omega
    clear hbk hbX hB
    go_upto_region 12 with fail
    clear r9 r7 hfz
    obtain ⟨Z2, hZ⟩ : ∃ Z2, Z2 = Y2.setCell ⟨RB, 9, none⟩ (.int .i64 a3) := ⟨_, rfl⟩
    have hbZ : Below x4.heap.size x4 Z2 := by rw [hZ]; exact HBX.out.setCell (p := ⟨RB, 9, none⟩) HLB.out _
    have HRB : Hid (Cells10 Z2 RB ⟨2, 1, 1, 0, 0, key, H, true, V0, a3⟩) := by show Cells10 Z2 RB _; rw [hZ]; exact cells10_of (set_block HBK.out 9 _)
    rw [← hZ]
    replace HB := hide (over HB.out hbZ HB.out.size)
    replace HR := hide (HR.out.step hbZ)
    replace HP := hide (HP.out.step hbZ)
    clear hZ hbZ HBK HBX HLB
    have HUP1 := hide (HM.out.up.done (r := ⟨2, 1, 1, 0, 0, key, H, true, V0, a3⟩) (by have := HLE.out; omega))
    have HLN1 := hide (len_done ⟨2, 1, 1, 0, 0, key, H, true, V0, a3⟩ HM.out.up (by have := HLE.out; omega))
    have HVAL := hide (val_done ⟨2, 1, 1, 0, 0, key, H, true, V0, a3⟩ (es := es) (by have := HLE.out; omega) key)
    have HBACK : Hid (doneE ⟨3, 1, 1, lsn + 1, 0, key, true, H, lsn + 1, V0⟩ (doneE ⟨2, 1, 1, 0, 0, key, H, true, V0, a3⟩ es) = es) := done_back HM.out.up HLE.out rfl HH.out HV0.out
    have hok := okD_few ⟨2, 1, 1, 0, 0, key, H, true, V0, a3⟩ (es := es) (by have := HLE.out; omega)
    have k0 := HP.out.c0
    have k1 := HP.out.c1
    obtain ⟨r0, r1, r2, r3, r4, r5, r6, r7, r8, r9, rl⟩ := HRB.out
    simp only at r0 r1 r2 r3 r4 r5 r6 r7 r8 r9
    clear rl
    have HRD := hide (redo_yes lsn (lsn + 1) ao n c es ⟨2, 1, 1, 0, 0, key, H, true, V0, a3⟩ Z2 HR.out HM.out.up HN.out (by rfl) (by omega) hok)
    unfold R.val pageV at HRD
    simp only at HRD
    go_wp2_with fail
    refine HRD.out.mono ?_
    rintro e x5 ⟨a4, m4, c4, rfl, hm4, hown4, hb⟩
    clear HRD
    have HM4 := hide hm4
    have HR4 := hide hown4.row
    clear hm4 hown4 k0 k1 hok
    replace HB := hide (over HB.out hb HB.out.size)
    replace HR := hide (HR.out.step hb)
    replace HP := hide (HP.out.step hb)
    replace HRB := hide (HRB.out.step hb)
    clear hb
    clear r0 r1 r2 r3 r4 r5 r6 r7 r8 r9
    obtain ⟨es1, hes1⟩ : ∃ es1, es1 = doneE ⟨2, 1, 1, 0, 0, key, H, true, V0, a3⟩ es := ⟨_, rfl⟩
    rw [← hes1] at HUP1 HLN1 HVAL HBACK HM4 HR4
    clear hes1
    have hm19 : m4 ≤ 19 := by have h1 := HLN1.out; rw [HM4.out, HN.out] at h1; omega
    have hbx := below_box x5 (pageBlock (lsn + 1) a4 m4 c4)
    have HQ := hide (pblk_new x5 (lsn + 1) a4 m4 c4)
    replace HB := hide (over HB.out hbx HB.out.size)
    replace HR := hide (HR.out.step hbx)
    replace HP := hide (HP.out.step hbx)
    replace HRB := hide (HRB.out.step hbx)
    replace HR4 := hide (HR4.out.step hbx)
    unfold pageBlock at HB HR HP HRB HR4 HQ
    clear hbx
    go_upto_region 13 with fail
    obtain ⟨Q, hQ⟩ : ∃ Q, Q = x5.heap.size := ⟨_, rfl⟩
    rw [← hQ] at HQ ⊢
    obtain ⟨Y3, hY3⟩ : ∃ Y3, Y3 = x5.alloc (.cells #[.int .i64 ((lsn + 1)), .slice a4 m4 c4] 26) := ⟨_, rfl⟩
    rw [← hY3] at HB HR HP HRB HR4 HQ ⊢
    clear hY3
    clear hQ
    have k0 := HQ.out.c0
    have k1 := HQ.out.c1
    have p0 := HP.out.c0
    obtain ⟨r0, r1, r2, r3, r4, r5, r6, r7, r8, r9, rl⟩ := HRB.out
    simp only at r0 r1 r2 r3 r4 r5 r6 r7 r8 r9
    clear rl
    have HRD := hide (redo_skip (lsn + 1) (lsn + 1) a4 m4 c4 es1 ⟨2, 1, 1, 0, 0, key, H, true, V0, a3⟩ Y3 HR4.out HM4.out (by simp [skipD]))
    unfold R.val pageV at HRD
    simp only at HRD
    go_wp2_with fail
    refine HRD.out.mono ?_
    rintro e x6 ⟨a5, c5, rfl, hown5, hb⟩
    clear HRD
    have HR5 := hide hown5.row
    clear hown5 k0 k1 p0
    replace HB := hide (over HB.out hb HB.out.size)
    replace HR := hide (HR.out.step hb)
    replace HP := hide (HP.out.step hb)
    replace HRB := hide (HRB.out.step hb)
    replace HR4 := hide (HR4.out.step hb)
    replace HQ := hide (HQ.out.step hb)
    clear hb
    clear r0 r1 r2 r3 r4 r5 r6 r7 r8 r9
    have hbx := below_box x6 (pageBlock (lsn + 1) a5 m4 c5)
    have HS := hide (pblk_new x6 (lsn + 1) a5 m4 c5)
    replace HB := hide (over HB.out hbx HB.out.size)
    replace HR := hide (HR.out.step hbx)
    replace HP := hide (HP.out.step hbx)
    replace HRB := hide (HRB.out.step hbx)
    replace HR4 := hide (HR4.out.step hbx)
    replace HQ := hide (HQ.out.step hbx)
    replace HR5 := hide (HR5.out.step hbx)
    unfold pageBlock at HB HR HP HRB HR4 HQ HR5 HS
    clear hbx
    go_upto_region 14 with fail
    obtain ⟨S, hS⟩ : ∃ S, S = x6.heap.size := ⟨_, rfl⟩
    rw [← hS] at HS ⊢
    obtain ⟨Y4, hY4⟩ : ∃ Y4, Y4 = x6.alloc (.cells #[.int .i64 ((lsn + 1)), .slice a5 m4 c5] 26) := ⟨_, rfl⟩
    rw [← hY4] at HB HR HP HRB HR4 HQ HR5 HS ⊢
    clear hY4
    clear hS
    have p0 := HP.out.c0
    obtain ⟨r0, r1, r2, r3, r4, r5, r6, r7, r8, r9, rl⟩ := HRB.out
    simp only at r0 r1 r2 r3 r4 r5 r6 r7 r8 r9
    clear rl
    have HUD := hide (undo_any ⟨2, 1, 1, 0, 0, key, H, true, V0, a3⟩ (lsn + 1) (lsn + 1) 0 Y4 (by omega))
    rw [undoR_yes (by rfl)] at HUD
    unfold R.val at HUD
    simp only [decide_true] at HUD
    go_wp2_with fail
    refine HUD.out.mono ?_
    rintro e x7 ⟨rfl, hb⟩
    clear HUD p0
    replace HB := hide (over HB.out hb HB.out.size)
    replace HR := hide (HR.out.step hb)
    replace HP := hide (HP.out.step hb)
    replace HRB := hide (HRB.out.step hb)
    replace HR4 := hide (HR4.out.step hb)
    replace HQ := hide (HQ.out.step hb)
    replace HR5 := hide (HR5.out.step hb)
    replace HS := hide (HS.out.step hb)
    clear hb
    clear r0 r1 r2 r3 r4 r5 r6 r7 r8 r9
    have hbx := below_box x7 (.cells #[.int .i64 3, .int .i64 1, .int .i64 1, .int .i64 (lsn + 1), .int .i64 0, .int .i64 key, .bool true, .bool H, .int .i64 (lsn + 1), .int .i64 V0] 35)
    have HUB : Hid (Cells10 (x7.alloc (.cells #[.int .i64 3, .int .i64 1, .int .i64 1, .int .i64 (lsn + 1), .int .i64 0, .int .i64 key, .bool true, .bool H, .int .i64 (lsn + 1), .int .i64 V0] 35)) x7.heap.size ⟨3, 1, 1, lsn + 1, 0, key, true, H, lsn + 1, V0⟩) := cells10_new x7 ⟨3, 1, 1, lsn + 1, 0, key, true, H, lsn + 1, V0⟩
    replace HB := hide (over HB.out hbx HB.out.size)
    replace HR := hide (HR.out.step hbx)
    replace HP := hide (HP.out.step hbx)
    replace HRB := hide (HRB.out.step hbx)
    replace HR4 := hide (HR4.out.step hbx)
    replace HQ := hide (HQ.out.step hbx)
    replace HR5 := hide (HR5.out.step hbx)
    replace HS := hide (HS.out.step hbx)
    clear hbx
    go_upto_region 15 with fail
    obtain ⟨UB, hUB⟩ : ∃ UB, UB = x7.heap.size := ⟨_, rfl⟩
    rw [← hUB] at HUB ⊢
    obtain ⟨Y5, hY5⟩ : ∃ Y5, Y5 = x7.alloc (.cells #[.int .i64 3, .int .i64 1, .int .i64 1, .int .i64 (lsn + 1), .int .i64 0, .int .i64 key, .bool true, .bool H, .int .i64 (lsn + 1), .int .i64 V0] 35) := ⟨_, rfl⟩
    rw [← hY5] at HB HR HP HRB HR4 HQ HR5 HS HUB ⊢
    clear hY5
    clear hUB
    have hok := okD_few ⟨3, 1, 1, lsn + 1, 0, key, true, H, lsn + 1, V0⟩ (es := es1) (by rw [HM4.out]; omega)
    have k0 := HQ.out.c0
    have k1 := HQ.out.c1
    have p0 := HP.out.c0
    obtain ⟨r0, r1, r2, r3, r4, r5, r6, r7, r8, r9, rl⟩ := HUB.out
    simp only at r0 r1 r2 r3 r4 r5 r6 r7 r8 r9
    clear rl
    have HRD := hide (redo_yes (lsn + 1) (lsn + 2) a4 m4 c4 es1 ⟨3, 1, 1, lsn + 1, 0, key, true, H, lsn + 1, V0⟩ Y5 HR4.out HUP1.out HM4.out (by rfl) (by omega) hok)
    unfold R.val pageV at HRD
    simp only at HRD
    go_wp2_with fail
    refine HRD.out.mono ?_
    rintro e x8 ⟨a6, m6, c6, rfl, hm6, hown6, hb⟩
    clear HRD
    rw [HBACK.out] at hm6 hown6
    have hmn : m6 = n := hm6.symm.trans HN.out
    subst hmn
    have HR6 := hide hown6.row
    clear hm6 hown6 k0 k1 p0 hok
    replace HB := hide (over HB.out hb HB.out.size)
    replace HR := hide (HR.out.step hb)
    replace HP := hide (HP.out.step hb)
    replace HRB := hide (HRB.out.step hb)
    replace HR4 := hide (HR4.out.step hb)
    replace HQ := hide (HQ.out.step hb)
    replace HR5 := hide (HR5.out.step hb)
    replace HS := hide (HS.out.step hb)
    replace HUB := hide (HUB.out.step hb)
    clear hb
    clear r0 r1 r2 r3 r4 r5 r6 r7 r8 r9
    have hbx := below_box x8 (pageBlock (lsn + 2) a6 m6 c6)
    have HT := hide (pblk_new x8 (lsn + 2) a6 m6 c6)
    replace HB := hide (over HB.out hbx HB.out.size)
    replace HR := hide (HR.out.step hbx)
    replace HP := hide (HP.out.step hbx)
    replace HRB := hide (HRB.out.step hbx)
    replace HR4 := hide (HR4.out.step hbx)
    replace HQ := hide (HQ.out.step hbx)
    replace HR5 := hide (HR5.out.step hbx)
    replace HS := hide (HS.out.step hbx)
    replace HUB := hide (HUB.out.step hbx)
    replace HR6 := hide (HR6.out.step hbx)
    unfold pageBlock at HB HR HP HRB HR4 HQ HR5 HS HUB HR6 HT
    clear hbx
    go_upto_region 16 with fail
    obtain ⟨T, hT⟩ : ∃ T, T = x8.heap.size := ⟨_, rfl⟩
    rw [← hT] at HT ⊢
    obtain ⟨Y6, hY6⟩ : ∃ Y6, Y6 = x8.alloc (.cells #[.int .i64 ((lsn + 2)), .slice a6 m6 c6] 26) := ⟨_, rfl⟩
    rw [← hY6] at HB HR HP HRB HR4 HQ HR5 HS HUB HR6 HT ⊢
    clear hY6
    clear hT
    have k0 := HQ.out.c0
    have k1 := HQ.out.c1
    have p0 := HP.out.c0
    have p1 := HP.out.c1
    have s0 := HS.out.c0
    have s1 := HS.out.c1
    have t0 := HT.out.c0
    have t1 := HT.out.c1
    obtain ⟨r0, r1, r2, r3, r4, r5, r6, r7, r8, r9, rl⟩ := HUB.out
    simp only at r0 r1 r2 r3 r4 r5 r6 r7 r8 r9
    clear rl
    have hv : valE es1 key = some a3 := by rw [HVAL.out]; simp
    have hh : hasE es1 key = true := by unfold hasE; rw [hv]; rfl
    have HFD := hide (rfind_any (lsn + 1) a4 m4 c4 es1 key Y6 HR4.out HM4.out)
    rw [hv, hh] at HFD
    unfold pageV at HFD
    simp only [Option.getD_some] at HFD
    clear hv hh
    go_wp2_with fail
    refine HFD.out.mono ?_
    rintro e x9 ⟨rfl, hb⟩
    clear HFD k0 k1 p0 p1 s0 s1 t0 t1
    clear r0 r1 r2 r3 r4 r5 r6 r7 r8 r9
    replace HB := hide (over HB.out hb HB.out.size)
    replace HR := hide (HR.out.step hb)
    replace HP := hide (HP.out.step hb)
    replace HRB := hide (HRB.out.step hb)
    replace HR4 := hide (HR4.out.step hb)
    replace HQ := hide (HQ.out.step hb)
    replace HR5 := hide (HR5.out.step hb)
    replace HS := hide (HS.out.step hb)
    replace HUB := hide (HUB.out.step hb)
    replace HR6 := hide (HR6.out.step hb)
    replace HT := hide (HT.out.step hb)
    clear hb
    have k0 := HQ.out.c0
    have k1 := HQ.out.c1
    have p0 := HP.out.c0
    have p1 := HP.out.c1
    have s0 := HS.out.c0
    have s1 := HS.out.c1
    have t0 := HT.out.c0
    have t1 := HT.out.c1
    obtain ⟨r0, r1, r2, r3, r4, r5, r6, r7, r8, r9, rl⟩ := HUB.out
    simp only at r0 r1 r2 r3 r4 r5 r6 r7 r8 r9
    clear rl
    go_wp2_with fail
    refine (samePage_any (lsn + 1) a5 m4 c5 es1 (lsn + 1) a4 m4 c4 es1 _ HR5.out HR4.out HM4.out HM4.out).mono ?_
    rintro e x10 ⟨rfl, hb⟩
    rw [show samePgB (lsn + 1) es1 (lsn + 1) es1 = true from decide_eq_true ⟨rfl, rfl⟩]
    clear k0 k1 p0 p1 s0 s1 t0 t1
    clear r0 r1 r2 r3 r4 r5 r6 r7 r8 r9
    replace HB := hide (over HB.out hb HB.out.size)
    replace HR := hide (HR.out.step hb)
    replace HP := hide (HP.out.step hb)
    replace HRB := hide (HRB.out.step hb)
    replace HR4 := hide (HR4.out.step hb)
    replace HQ := hide (HQ.out.step hb)
    replace HR5 := hide (HR5.out.step hb)
    replace HS := hide (HS.out.step hb)
    replace HUB := hide (HUB.out.step hb)
    replace HR6 := hide (HR6.out.step hb)
    replace HT := hide (HT.out.step hb)
    clear hb
    have k0 := HQ.out.c0
    have k1 := HQ.out.c1
    have p0 := HP.out.c0
    have p1 := HP.out.c1
    have s0 := HS.out.c0
    have s1 := HS.out.c1
    have t0 := HT.out.c0
    have t1 := HT.out.c1
    obtain ⟨r0, r1, r2, r3, r4, r5, r6, r7, r8, r9, rl⟩ := HUB.out
    simp only at r0 r1 r2 r3 r4 r5 r6 r7 r8 r9
    clear rl
    go_wp2_with fail
    refine (sameEnts_any a6 m6 c6 es ao m6 c es _ HR6.out HR.out HN.out HN.out).mono ?_
    rintro e x11 ⟨rfl, hb⟩
    rw [decide_eq_true (rfl : es = es)]
    clear k0 k1 p0 p1 s0 s1 t0 t1
    clear r0 r1 r2 r3 r4 r5 r6 r7 r8 r9
    replace HB := hide (over HB.out hb HB.out.size)
    replace HR := hide (HR.out.step hb)
    replace HP := hide (HP.out.step hb)
    replace HRB := hide (HRB.out.step hb)
    replace HR4 := hide (HR4.out.step hb)
    replace HQ := hide (HQ.out.step hb)
    replace HR5 := hide (HR5.out.step hb)
    replace HS := hide (HS.out.step hb)
    replace HUB := hide (HUB.out.step hb)
    replace HR6 := hide (HR6.out.step hb)
    replace HT := hide (HT.out.step hb)
    clear hb
    have k0 := HQ.out.c0
    have k1 := HQ.out.c1
    have p0 := HP.out.c0
    have p1 := HP.out.c1
    have s0 := HS.out.c0
    have s1 := HS.out.c1
    have t0 := HT.out.c0
    have t1 := HT.out.c1
    obtain ⟨r0, r1, r2, r3, r4, r5, r6, r7, r8, r9, rl⟩ := HUB.out
    simp only at r0 r1 r2 r3 r4 r5 r6 r7 r8 r9
    clear rl
    go_wp2_with fail
    go_ret
    exact ⟨rfl, HB.out⟩
  case false =>
    have hbx := below_box x4 (.cells #[.int .i64 2, .int .i64 1, .int .i64 1, .int .i64 0, .int .i64 0, .int .i64 key, .bool H, .bool false, .int .i64 V0, .int .i64 0] 35)
    have HRB : Hid (Cells10 (x4.alloc (.cells #[.int .i64 2, .int .i64 1, .int .i64 1, .int .i64 0, .int .i64 0, .int .i64 key, .bool H, .bool false, .int .i64 V0, .int .i64 0] 35)) x4.heap.size ⟨2, 1, 1, 0, 0, key, H, false, V0, 0⟩) := cells10_new x4 ⟨2, 1, 1, 0, 0, key, H, false, V0, 0⟩
    replace HB := hide (over HB.out hbx HB.out.size)
    replace HR := hide (HR.out.step hbx)
    replace HP := hide (HP.out.step hbx)
    clear hbx
    go_upto_region 10 with fail
    obtain ⟨RB, hRB⟩ : ∃ RB, RB = x4.heap.size := ⟨_, rfl⟩
    rw [← hRB] at HRB ⊢
    obtain ⟨Y2, hY2⟩ : ∃ Y2, Y2 = x4.alloc (.cells #[.int .i64 2, .int .i64 1, .int .i64 1, .int .i64 0, .int .i64 0, .int .i64 key, .bool H, .bool false, .int .i64 V0, .int .i64 0] 35) := ⟨_, rfl⟩
    rw [← hY2] at HB HR HP HRB ⊢
    clear hY2
    clear hRB
    have HUP1 := hide (HM.out.up.done (r := ⟨2, 1, 1, 0, 0, key, H, false, V0, 0⟩) (by have := HLE.out; omega))
    have HLN1 := hide (len_done ⟨2, 1, 1, 0, 0, key, H, false, V0, 0⟩ HM.out.up (by have := HLE.out; omega))
    have HVAL := hide (val_done ⟨2, 1, 1, 0, 0, key, H, false, V0, 0⟩ (es := es) (by have := HLE.out; omega) key)
    have HBACK : Hid (doneE ⟨3, 1, 1, lsn + 1, 0, key, true, H, lsn + 1, V0⟩ (doneE ⟨2, 1, 1, 0, 0, key, H, false, V0, 0⟩ es) = es) := done_back HM.out.up HLE.out rfl HH.out HV0.out
    have hok := okD_few ⟨2, 1, 1, 0, 0, key, H, false, V0, 0⟩ (es := es) (by have := HLE.out; omega)
    have k0 := HP.out.c0
    have k1 := HP.out.c1
    obtain ⟨r0, r1, r2, r3, r4, r5, r6, r7, r8, r9, rl⟩ := HRB.out
    simp only at r0 r1 r2 r3 r4 r5 r6 r7 r8 r9
    clear rl
    have HRD := hide (redo_yes lsn (lsn + 1) ao n c es ⟨2, 1, 1, 0, 0, key, H, false, V0, 0⟩ Y2 HR.out HM.out.up HN.out (by rfl) (by omega) hok)
    unfold R.val pageV at HRD
    simp only at HRD
    go_wp2_with fail
    refine HRD.out.mono ?_
    rintro e x5 ⟨a4, m4, c4, rfl, hm4, hown4, hb⟩
    clear HRD
    have HM4 := hide hm4
    have HR4 := hide hown4.row
    clear hm4 hown4 k0 k1 hok
    replace HB := hide (over HB.out hb HB.out.size)
    replace HR := hide (HR.out.step hb)
    replace HP := hide (HP.out.step hb)
    replace HRB := hide (HRB.out.step hb)
    clear hb
    clear r0 r1 r2 r3 r4 r5 r6 r7 r8 r9
    obtain ⟨es1, hes1⟩ : ∃ es1, es1 = doneE ⟨2, 1, 1, 0, 0, key, H, false, V0, 0⟩ es := ⟨_, rfl⟩
    rw [← hes1] at HUP1 HLN1 HVAL HBACK HM4 HR4
    clear hes1
    have hm19 : m4 ≤ 19 := by have h1 := HLN1.out; rw [HM4.out, HN.out] at h1; omega
    have hbx := below_box x5 (pageBlock (lsn + 1) a4 m4 c4)
    have HQ := hide (pblk_new x5 (lsn + 1) a4 m4 c4)
    replace HB := hide (over HB.out hbx HB.out.size)
    replace HR := hide (HR.out.step hbx)
    replace HP := hide (HP.out.step hbx)
    replace HRB := hide (HRB.out.step hbx)
    replace HR4 := hide (HR4.out.step hbx)
    unfold pageBlock at HB HR HP HRB HR4 HQ
    clear hbx
    go_upto_region 13 with fail
    obtain ⟨Q, hQ⟩ : ∃ Q, Q = x5.heap.size := ⟨_, rfl⟩
    rw [← hQ] at HQ ⊢
    obtain ⟨Y3, hY3⟩ : ∃ Y3, Y3 = x5.alloc (.cells #[.int .i64 ((lsn + 1)), .slice a4 m4 c4] 26) := ⟨_, rfl⟩
    rw [← hY3] at HB HR HP HRB HR4 HQ ⊢
    clear hY3
    clear hQ
    have k0 := HQ.out.c0
    have k1 := HQ.out.c1
    have p0 := HP.out.c0
    obtain ⟨r0, r1, r2, r3, r4, r5, r6, r7, r8, r9, rl⟩ := HRB.out
    simp only at r0 r1 r2 r3 r4 r5 r6 r7 r8 r9
    clear rl
    have HRD := hide (redo_skip (lsn + 1) (lsn + 1) a4 m4 c4 es1 ⟨2, 1, 1, 0, 0, key, H, false, V0, 0⟩ Y3 HR4.out HM4.out (by simp [skipD]))
    unfold R.val pageV at HRD
    simp only at HRD
    go_wp2_with fail
    refine HRD.out.mono ?_
    rintro e x6 ⟨a5, c5, rfl, hown5, hb⟩
    clear HRD
    have HR5 := hide hown5.row
    clear hown5 k0 k1 p0
    replace HB := hide (over HB.out hb HB.out.size)
    replace HR := hide (HR.out.step hb)
    replace HP := hide (HP.out.step hb)
    replace HRB := hide (HRB.out.step hb)
    replace HR4 := hide (HR4.out.step hb)
    replace HQ := hide (HQ.out.step hb)
    clear hb
    clear r0 r1 r2 r3 r4 r5 r6 r7 r8 r9
    have hbx := below_box x6 (pageBlock (lsn + 1) a5 m4 c5)
    have HS := hide (pblk_new x6 (lsn + 1) a5 m4 c5)
    replace HB := hide (over HB.out hbx HB.out.size)
    replace HR := hide (HR.out.step hbx)
    replace HP := hide (HP.out.step hbx)
    replace HRB := hide (HRB.out.step hbx)
    replace HR4 := hide (HR4.out.step hbx)
    replace HQ := hide (HQ.out.step hbx)
    replace HR5 := hide (HR5.out.step hbx)
    unfold pageBlock at HB HR HP HRB HR4 HQ HR5 HS
    clear hbx
    go_upto_region 14 with fail
    obtain ⟨S, hS⟩ : ∃ S, S = x6.heap.size := ⟨_, rfl⟩
    rw [← hS] at HS ⊢
    obtain ⟨Y4, hY4⟩ : ∃ Y4, Y4 = x6.alloc (.cells #[.int .i64 ((lsn + 1)), .slice a5 m4 c5] 26) := ⟨_, rfl⟩
    rw [← hY4] at HB HR HP HRB HR4 HQ HR5 HS ⊢
    clear hY4
    clear hS
    have p0 := HP.out.c0
    obtain ⟨r0, r1, r2, r3, r4, r5, r6, r7, r8, r9, rl⟩ := HRB.out
    simp only at r0 r1 r2 r3 r4 r5 r6 r7 r8 r9
    clear rl
    have HUD := hide (undo_any ⟨2, 1, 1, 0, 0, key, H, false, V0, 0⟩ (lsn + 1) (lsn + 1) 0 Y4 (by omega))
    rw [undoR_yes (by rfl)] at HUD
    unfold R.val at HUD
    simp only [decide_true] at HUD
    go_wp2_with fail
    refine HUD.out.mono ?_
    rintro e x7 ⟨rfl, hb⟩
    clear HUD p0
    replace HB := hide (over HB.out hb HB.out.size)
    replace HR := hide (HR.out.step hb)
    replace HP := hide (HP.out.step hb)
    replace HRB := hide (HRB.out.step hb)
    replace HR4 := hide (HR4.out.step hb)
    replace HQ := hide (HQ.out.step hb)
    replace HR5 := hide (HR5.out.step hb)
    replace HS := hide (HS.out.step hb)
    clear hb
    clear r0 r1 r2 r3 r4 r5 r6 r7 r8 r9
    have hbx := below_box x7 (.cells #[.int .i64 3, .int .i64 1, .int .i64 1, .int .i64 (lsn + 1), .int .i64 0, .int .i64 key, .bool true, .bool H, .int .i64 (lsn + 1), .int .i64 V0] 35)
    have HUB : Hid (Cells10 (x7.alloc (.cells #[.int .i64 3, .int .i64 1, .int .i64 1, .int .i64 (lsn + 1), .int .i64 0, .int .i64 key, .bool true, .bool H, .int .i64 (lsn + 1), .int .i64 V0] 35)) x7.heap.size ⟨3, 1, 1, lsn + 1, 0, key, true, H, lsn + 1, V0⟩) := cells10_new x7 ⟨3, 1, 1, lsn + 1, 0, key, true, H, lsn + 1, V0⟩
    replace HB := hide (over HB.out hbx HB.out.size)
    replace HR := hide (HR.out.step hbx)
    replace HP := hide (HP.out.step hbx)
    replace HRB := hide (HRB.out.step hbx)
    replace HR4 := hide (HR4.out.step hbx)
    replace HQ := hide (HQ.out.step hbx)
    replace HR5 := hide (HR5.out.step hbx)
    replace HS := hide (HS.out.step hbx)
    clear hbx
    go_upto_region 15 with fail
    obtain ⟨UB, hUB⟩ : ∃ UB, UB = x7.heap.size := ⟨_, rfl⟩
    rw [← hUB] at HUB ⊢
    obtain ⟨Y5, hY5⟩ : ∃ Y5, Y5 = x7.alloc (.cells #[.int .i64 3, .int .i64 1, .int .i64 1, .int .i64 (lsn + 1), .int .i64 0, .int .i64 key, .bool true, .bool H, .int .i64 (lsn + 1), .int .i64 V0] 35) := ⟨_, rfl⟩
    rw [← hY5] at HB HR HP HRB HR4 HQ HR5 HS HUB ⊢
    clear hY5
    clear hUB
    have hok := okD_few ⟨3, 1, 1, lsn + 1, 0, key, true, H, lsn + 1, V0⟩ (es := es1) (by rw [HM4.out]; omega)
    have k0 := HQ.out.c0
    have k1 := HQ.out.c1
    have p0 := HP.out.c0
    obtain ⟨r0, r1, r2, r3, r4, r5, r6, r7, r8, r9, rl⟩ := HUB.out
    simp only at r0 r1 r2 r3 r4 r5 r6 r7 r8 r9
    clear rl
    have HRD := hide (redo_yes (lsn + 1) (lsn + 2) a4 m4 c4 es1 ⟨3, 1, 1, lsn + 1, 0, key, true, H, lsn + 1, V0⟩ Y5 HR4.out HUP1.out HM4.out (by rfl) (by omega) hok)
    unfold R.val pageV at HRD
    simp only at HRD
    go_wp2_with fail
    refine HRD.out.mono ?_
    rintro e x8 ⟨a6, m6, c6, rfl, hm6, hown6, hb⟩
    clear HRD
    rw [HBACK.out] at hm6 hown6
    have hmn : m6 = n := hm6.symm.trans HN.out
    subst hmn
    have HR6 := hide hown6.row
    clear hm6 hown6 k0 k1 p0 hok
    replace HB := hide (over HB.out hb HB.out.size)
    replace HR := hide (HR.out.step hb)
    replace HP := hide (HP.out.step hb)
    replace HRB := hide (HRB.out.step hb)
    replace HR4 := hide (HR4.out.step hb)
    replace HQ := hide (HQ.out.step hb)
    replace HR5 := hide (HR5.out.step hb)
    replace HS := hide (HS.out.step hb)
    replace HUB := hide (HUB.out.step hb)
    clear hb
    clear r0 r1 r2 r3 r4 r5 r6 r7 r8 r9
    have hbx := below_box x8 (pageBlock (lsn + 2) a6 m6 c6)
    have HT := hide (pblk_new x8 (lsn + 2) a6 m6 c6)
    replace HB := hide (over HB.out hbx HB.out.size)
    replace HR := hide (HR.out.step hbx)
    replace HP := hide (HP.out.step hbx)
    replace HRB := hide (HRB.out.step hbx)
    replace HR4 := hide (HR4.out.step hbx)
    replace HQ := hide (HQ.out.step hbx)
    replace HR5 := hide (HR5.out.step hbx)
    replace HS := hide (HS.out.step hbx)
    replace HUB := hide (HUB.out.step hbx)
    replace HR6 := hide (HR6.out.step hbx)
    unfold pageBlock at HB HR HP HRB HR4 HQ HR5 HS HUB HR6 HT
    clear hbx
    go_upto_region 16 with fail
    obtain ⟨T, hT⟩ : ∃ T, T = x8.heap.size := ⟨_, rfl⟩
    rw [← hT] at HT ⊢
    obtain ⟨Y6, hY6⟩ : ∃ Y6, Y6 = x8.alloc (.cells #[.int .i64 ((lsn + 2)), .slice a6 m6 c6] 26) := ⟨_, rfl⟩
    rw [← hY6] at HB HR HP HRB HR4 HQ HR5 HS HUB HR6 HT ⊢
    clear hY6
    clear hT
    have k0 := HQ.out.c0
    have k1 := HQ.out.c1
    have p0 := HP.out.c0
    have p1 := HP.out.c1
    have s0 := HS.out.c0
    have s1 := HS.out.c1
    have t0 := HT.out.c0
    have t1 := HT.out.c1
    obtain ⟨r0, r1, r2, r3, r4, r5, r6, r7, r8, r9, rl⟩ := HUB.out
    simp only at r0 r1 r2 r3 r4 r5 r6 r7 r8 r9
    clear rl
    have hv : valE es1 key = none := by rw [HVAL.out]; simp
    have hh : hasE es1 key = false := by unfold hasE; rw [hv]; rfl
    have HFD := hide (rfind_any (lsn + 1) a4 m4 c4 es1 key Y6 HR4.out HM4.out)
    rw [hv, hh] at HFD
    unfold pageV at HFD
    simp only [Option.getD_none] at HFD
    clear hv hh
    go_wp2_with fail
    refine HFD.out.mono ?_
    rintro e x9 ⟨rfl, hb⟩
    clear HFD k0 k1 p0 p1 s0 s1 t0 t1
    clear r0 r1 r2 r3 r4 r5 r6 r7 r8 r9
    replace HB := hide (over HB.out hb HB.out.size)
    replace HR := hide (HR.out.step hb)
    replace HP := hide (HP.out.step hb)
    replace HRB := hide (HRB.out.step hb)
    replace HR4 := hide (HR4.out.step hb)
    replace HQ := hide (HQ.out.step hb)
    replace HR5 := hide (HR5.out.step hb)
    replace HS := hide (HS.out.step hb)
    replace HUB := hide (HUB.out.step hb)
    replace HR6 := hide (HR6.out.step hb)
    replace HT := hide (HT.out.step hb)
    clear hb
    have k0 := HQ.out.c0
    have k1 := HQ.out.c1
    have p0 := HP.out.c0
    have p1 := HP.out.c1
    have s0 := HS.out.c0
    have s1 := HS.out.c1
    have t0 := HT.out.c0
    have t1 := HT.out.c1
    obtain ⟨r0, r1, r2, r3, r4, r5, r6, r7, r8, r9, rl⟩ := HUB.out
    simp only at r0 r1 r2 r3 r4 r5 r6 r7 r8 r9
    clear rl
    go_wp2_with fail
    refine (samePage_any (lsn + 1) a5 m4 c5 es1 (lsn + 1) a4 m4 c4 es1 _ HR5.out HR4.out HM4.out HM4.out).mono ?_
    rintro e x10 ⟨rfl, hb⟩
    rw [show samePgB (lsn + 1) es1 (lsn + 1) es1 = true from decide_eq_true ⟨rfl, rfl⟩]
    clear k0 k1 p0 p1 s0 s1 t0 t1
    clear r0 r1 r2 r3 r4 r5 r6 r7 r8 r9
    replace HB := hide (over HB.out hb HB.out.size)
    replace HR := hide (HR.out.step hb)
    replace HP := hide (HP.out.step hb)
    replace HRB := hide (HRB.out.step hb)
    replace HR4 := hide (HR4.out.step hb)
    replace HQ := hide (HQ.out.step hb)
    replace HR5 := hide (HR5.out.step hb)
    replace HS := hide (HS.out.step hb)
    replace HUB := hide (HUB.out.step hb)
    replace HR6 := hide (HR6.out.step hb)
    replace HT := hide (HT.out.step hb)
    clear hb
    have k0 := HQ.out.c0
    have k1 := HQ.out.c1
    have p0 := HP.out.c0
    have p1 := HP.out.c1
    have s0 := HS.out.c0
    have s1 := HS.out.c1
    have t0 := HT.out.c0
    have t1 := HT.out.c1
    obtain ⟨r0, r1, r2, r3, r4, r5, r6, r7, r8, r9, rl⟩ := HUB.out
    simp only at r0 r1 r2 r3 r4 r5 r6 r7 r8 r9
    clear rl
    go_wp2_with fail
    refine (sameEnts_any a6 m6 c6 es ao m6 c es _ HR6.out HR.out HN.out HN.out).mono ?_
    rintro e x11 ⟨rfl, hb⟩
    rw [decide_eq_true (rfl : es = es)]
    clear k0 k1 p0 p1 s0 s1 t0 t1
    clear r0 r1 r2 r3 r4 r5 r6 r7 r8 r9
    replace HB := hide (over HB.out hb HB.out.size)
    replace HR := hide (HR.out.step hb)
    replace HP := hide (HP.out.step hb)
    replace HRB := hide (HRB.out.step hb)
    replace HR4 := hide (HR4.out.step hb)
    replace HQ := hide (HQ.out.step hb)
    replace HR5 := hide (HR5.out.step hb)
    replace HS := hide (HS.out.step hb)
    replace HUB := hide (HUB.out.step hb)
    replace HR6 := hide (HR6.out.step hb)
    replace HT := hide (HT.out.step hb)
    clear hb
    have k0 := HQ.out.c0
    have k1 := HQ.out.c1
    have p0 := HP.out.c0
    have p1 := HP.out.c1
    have s0 := HS.out.c0
    have s1 := HS.out.c1
    have t0 := HT.out.c0
    have t1 := HT.out.c1
    obtain ⟨r0, r1, r2, r3, r4, r5, r6, r7, r8, r9, rl⟩ := HUB.out
    simp only at r0 r1 r2 r3 r4 r5 r6 r7 r8 r9
    clear rl
    go_wp2_with fail
    go_ret
    exact ⟨rfl, HB.out⟩
end Go.Proofs.YtefgmlmhdjckaabDoor.changeBack
