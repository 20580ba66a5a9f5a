
/- What the statement ChangeSays asks comes out true, at every list of numbers and three numbers; nothing that was there is written. -/
import Derived.Test.YtefgmlmhdjckaaaDoorJoin27
import Derived.Test.YtefgmlmhdjckaaaDoorJoin28
import Derived.Test.YtefgmlmhdjckaaaDoorOwnPgFirst8
import Derived.Test.YtefgmlmhdjckaaaDoorOwnPgRedo2
import Derived.Test.YtefgmlmhdjckaaaDoorOwnPgRedoR
import Derived.Test.YtefgmlmhdjckaaaDoorOwnPgRedoR2
import Derived.Test.YtefgmlmhdjckaaaDoorOwnPgRedoR3
import Derived.Test.YtefgmlmhdjckaaaDoorOwnPgUndoR
import Derived.Test.YtefgmlmhdjckaaaDoorOwnRecSame
import Derived.Test.YtefgmlmhdjckaaaDoorJoin5
namespace Go.Proofs.YtefgmlmhdjckaaaDoor.changeSays
open Go.RowKit
set_option linter.unusedVariables false

theorem rredo_yes (lsnP lsn : Int) (ao : Option Addr) (n c : Nat) (es : List (Int × Int)) (r : R) (w : World) (h : EntRow w ao es) (hu : Up es) (hn : es.length = n) (hn9 : n ≤ 100) (hch : isChg r = true) (hlt : lsnP < lsn) (hok : okD r es = true) :
    Calls Tryd.prog 33 #[pageV lsnP ao n c, .int .i64 lsn, r.val] w fun e w' => ∃ ao' m c', e = .returned (.tuple #[pageV lsn ao' m c', .bool true, .int .i64 0]) ∧ (doneE r es).length = m ∧ OwnE w' w.heap.size ao' c' (doneE r es) ∧ Below w.heap.size w w' := by
  cases hh : r.has
  · exact rredo_del lsnP lsn ao n c es r w h hu hn hn9 hch hlt hh
  · refine rredo_has lsnP lsn ao n c es r w h hu hn hn9 hch hlt hh ?_
    unfold okD at hok
    rw [hh] at hok
    simpa using hok
theorem skip_no {lsnP lsn : Int} {r : R} (h : ¬ skipD lsnP lsn r = true) : isChg r = true ∧ lsnP < lsn := by
  unfold skipD at h
  cases hc : isChg r <;> simp [hc] at h ⊢
  exact h
theorem ok_no {r : R} {es : List (Int × Int)} (h : ¬ okD r es = true) : r.has = true ∧ canPut es r.key = false := by
  unfold okD at h
  cases hh : r.has <;> simp [hh] at h ⊢
  exact h
set_option maxRecDepth 100000 in
set_option maxHeartbeats 32000000 in
theorem walk (lo : Option Addr) (len cap : Nat) (zs : List Int) (a1 a2 a3 : Int) (w : World) (w0 : IsRow .i64 w lo len cap zs) (w1 : (Lit.int .i64 a1).wf = true) (w2 : (Lit.int .i64 a2).wf = true) (w3 : (Lit.int .i64 a3).wf = true) {a : Nat → Addr} (he : ErrsOf w all18 a) :
    Calls Tryd.prog 8 #[.slice lo len cap, .int .i64 a1, .int .i64 a2, .int .i64 a3] w fun e w' => e = .returned (.bool true) ∧ Below w.heap.size w w' := by
  have HROW := hide w0
  have HW := hide he
  clear he w0 w1 w2 w3
  go_enter Tryd.func8, Tryd.ntmps8
  go_wp2_with fail
  refine (cfirst_any _).mono ?_
  rintro e x1 ⟨rfl, hb⟩
  have HB := hide hb
  clear hb
  by_cases hlen : len ≤ 150
  case neg =>
    have hl1 : (150 : Int) < (len : Int) := by omega
    go_wp2_with fail
    go_ret
    exact ⟨rfl, HB.out⟩
  have hl1 : decide ((150 : Int) < (len : Int)) = false := by simp; omega
  have HSZ := hide HB.out.size
  have hs := seq_new5 HROW.out (by omega) HB.out
  unfold seqCells at hs
  go_wp2_with fail
  refine (mpage_any 26 (by omega) (by omega) 0 (by omega) x1.heap.size lo len cap zs _ hs).mono ?_
  rintro e x2 ⟨lsn, es, ao, n, c, rfl, hn, hmade, hown, ⟨n1, hn1, hs2⟩, hbut⟩
  have hsz : (x1.alloc (.cells #[.slice lo len cap, .int .i64 0] 31)).heap.size = x1.heap.size + 1 := by simp
  have HLT : Hid (x1.heap.size < x2.heap.size) := hide (by have := hbut.size; omega)
  have hbM := (below_box x1 _).trans (hbut.below (by omega))
  replace HB := hide (over HB.out hbM HB.out.size)
  have HN := hide hn
  have HM := hide hmade
  have HR := hide (hown.mono (C := x1.heap.size + 1) (by omega))
  have HS := hide hs2
  clear hn hmade hown hbut hs hs2 hsz hbM HROW
  have hL0 := HM.out.l0
  have hL1 := HM.out.l1
  unfold pageV
  have hbx := below_box x2 (pageBlock lsn ao n c)
  have HP := hide (pblk_new x2 lsn ao n c)
  replace HB := hide (over HB.out hbx HB.out.size)
  replace HR := hide (HR.out.step hbx)
  replace HS := hide (HS.out.under hbx (lt_of_block HS.out.lies))
  unfold pageBlock at HB HR HP HS
  clear hbx
  go_upto_region 8 with fail
  obtain ⟨P, hP⟩ : ∃ P, P = x2.heap.size := ⟨_, rfl⟩
  rw [← hP] at HP HLT ⊢
  obtain ⟨Y1, hY1⟩ : ∃ Y1, Y1 = x2.alloc (.cells #[.int .i64 lsn, .slice ao n c] 24) := ⟨_, rfl⟩
  rw [← hY1] at HB HR HP HS ⊢
  clear hY1
  clear hP
  go_wp2_with fail
  refine (make_from n1 (by omega) x1.heap.size lo len cap zs _ HS.out).mono ?_
  rintro e x3 ⟨⟨kd, tx, pg, pv, nx, ky, hd, hh, od, nw⟩, hv, hg, hf, ⟨n2, hn2, hs2⟩, hbut⟩
  unfold R.val at hv
  simp only at hv
  subst hv
  have hHO := HR.out.but hbut (by omega)
  replace HR := hide hHO.row
  replace HB := hide (HB.out.trans (hbut.below (by have := HLT.out; have := HP.out.lt; omega)|>.mono HSZ.out))
  replace HP := hide (HP.out.but hbut (by have := HLT.out; omega))
  clear hg hf hs2 hbut hHO HS HLT HSZ
  have hbx := below_box x3 (.cells #[.int .i64 kd, .int .i64 tx, .int .i64 pg, .int .i64 pv, .int .i64 nx, .int .i64 ky, .bool hd, .bool hh, .int .i64 od, .int .i64 nw] 66)
  have HRB : Hid (Cells10 (x3.alloc (.cells #[.int .i64 kd, .int .i64 tx, .int .i64 pg, .int .i64 pv, .int .i64 nx, .int .i64 ky, .bool hd, .bool hh, .int .i64 od, .int .i64 nw] 66)) x3.heap.size ⟨kd, tx, pg, pv, nx, ky, hd, hh, od, nw⟩) := cells10_new x3 ⟨kd, tx, pg, pv, nx, ky, hd, hh, od, nw⟩
  replace HB := hide (over HB.out hbx HB.out.size)
  replace HR := hide (HR.out.step hbx)
  replace HP := hide (HP.out.step hbx)
  clear hbx
  go_upto_region 9 with fail
  obtain ⟨RB, hRB⟩ : ∃ RB, RB = x3.heap.size := ⟨_, rfl⟩
  rw [← hRB] at HRB ⊢
  obtain ⟨Y2, hY2⟩ : ∃ Y2, Y2 = x3.alloc (.cells #[.int .i64 kd, .int .i64 tx, .int .i64 pg, .int .i64 pv, .int .i64 nx, .int .i64 ky, .bool hd, .bool hh, .int .i64 od, .int .i64 nw] 66) := ⟨_, rfl⟩
  rw [← hY2] at HB HR HP HRB ⊢
  clear hY2
  clear hRB
  go_wp2_with fail
  refine (number_any _ _ _ (by omega) (by omega)).mono ?_
  rintro e x4 ⟨rfl, rfl⟩
  obtain ⟨l1, hl⟩ : ∃ l1, l1 = numberB a1 60 := ⟨_, rfl⟩
  have hlb := numberB_bd a1 60 (by omega)
  rw [← hl] at hlb ⊢
  clear hl
  obtain ⟨hl2, hl3⟩ := hlb
  have hwl : IntKind.i64.wrap (l1 + 1) = l1 + 1 := by rw [IntKind.wrap_i64]; omega
  go_wp2_with fail
  refine (number_any _ _ _ (by omega) (by omega)).mono ?_
  rintro e x5 ⟨rfl, rfl⟩
  obtain ⟨b2, hl⟩ : ∃ b2, b2 = numberB a2 60 := ⟨_, rfl⟩
  rw [← hl]
  clear hl
  go_wp2_with fail
  refine (number_any _ _ _ (by omega) (by omega)).mono ?_
  rintro e x6 ⟨rfl, rfl⟩
  obtain ⟨b3, hl⟩ : ∃ b3, b3 = numberB a3 60 := ⟨_, rfl⟩
  rw [← hl]
  clear hl
  have hn100 : n ≤ 100 := by have h1 := HM.out.many; have h2 := HN.out; omega
  by_cases hsk : skipD lsn (l1 + 1) ⟨kd, tx, pg, pv, nx, ky, hd, hh, od, nw⟩ = true
  case pos =>
    have k00 := HP.out.c0
    have k01 := HP.out.c1
    obtain ⟨r0, r1, r2, r3, r4, r5, r6, r7, r8, r9, rl⟩ := HRB.out
    simp only at r0 r1 r2 r3 r4 r5 r6 r7 r8 r9
    clear rl
    have HRD := hide (redo_skip lsn (l1 + 1) ao n c es ⟨kd, tx, pg, pv, nx, ky, hd, hh, od, nw⟩ x6 HR.out HN.out hsk)
    unfold R.val pageV at HRD
    simp only at HRD
    go_wp2_with fail
    refine HRD.out.mono ?_
    rintro e y1 ⟨a3, c3, rfl, hown3, hb⟩
    clear HRD
    have HR3 := hide hown3.row
    clear hown3 k00 k01
    replace HB := hide (over HB.out hb HB.out.size)
    replace HR := hide (HR.out.step hb)
    replace HP := hide (HP.out.step hb)
    replace HRB := hide (HRB.out.step hb)
    clear hb
    clear r0 r1 r2 r3 r4 r5 r6 r7 r8 r9
    have hbx := below_box y1 (pageBlock lsn a3 n c3)
    have HQ := hide (pblk_new y1 lsn a3 n c3)
    replace HB := hide (over HB.out hbx HB.out.size)
    replace HR := hide (HR.out.step hbx)
    replace HP := hide (HP.out.step hbx)
    replace HRB := hide (HRB.out.step hbx)
    replace HR3 := hide (HR3.out.step hbx)
    unfold pageBlock at HB HR HP HRB HR3 HQ
    clear hbx
    go_upto_region 13 with fail
    obtain ⟨Q, hQ⟩ : ∃ Q, Q = y1.heap.size := ⟨_, rfl⟩
    rw [← hQ] at HQ ⊢
    obtain ⟨Y3, hY3⟩ : ∃ Y3, Y3 = y1.alloc (.cells #[.int .i64 lsn, .slice a3 n c3] 24) := ⟨_, rfl⟩
    rw [← hY3] at HB HR HP HRB HR3 HQ ⊢
    clear hY3
    clear hQ
    have k00 := HP.out.c0
    have k01 := HP.out.c1
    obtain ⟨r0, r1, r2, r3, r4, r5, r6, r7, r8, r9, rl⟩ := HRB.out
    simp only at r0 r1 r2 r3 r4 r5 r6 r7 r8 r9
    clear rl
    have HRD := hide (rredo_skip lsn (l1 + 1) ao n c es ⟨kd, tx, pg, pv, nx, ky, hd, hh, od, nw⟩ Y3 HR.out HN.out hsk)
    unfold R.val pageV at HRD
    simp only at HRD
    go_wp2_with fail
    refine HRD.out.mono ?_
    rintro e y2 ⟨rfl, hb⟩
    clear HRD
    clear k00 k01
    replace HB := hide (over HB.out hb HB.out.size)
    replace HR := hide (HR.out.step hb)
    replace HP := hide (HP.out.step hb)
    replace HRB := hide (HRB.out.step hb)
    replace HR3 := hide (HR3.out.step hb)
    replace HQ := hide (HQ.out.step hb)
    clear hb
    clear r0 r1 r2 r3 r4 r5 r6 r7 r8 r9
    have hbx := below_box y2 (pageBlock lsn ao n c)
    have HT := hide (pblk_new y2 lsn ao n c)
    replace HB := hide (over HB.out hbx HB.out.size)
    replace HR := hide (HR.out.step hbx)
    replace HP := hide (HP.out.step hbx)
    replace HRB := hide (HRB.out.step hbx)
    replace HR3 := hide (HR3.out.step hbx)
    replace HQ := hide (HQ.out.step hbx)
    unfold pageBlock at HB HR HP HRB HR3 HQ HT
    clear hbx
    go_upto_region 14 with fail
    obtain ⟨T, hT⟩ : ∃ T, T = y2.heap.size := ⟨_, rfl⟩
    rw [← hT] at HT ⊢
    obtain ⟨Y4, hY4⟩ : ∃ Y4, Y4 = y2.alloc (.cells #[.int .i64 lsn, .slice ao n c] 24) := ⟨_, rfl⟩
    rw [← hY4] at HB HR HP HRB HR3 HQ HT ⊢
    clear hY4
    clear hT
    obtain ⟨r0, r1, r2, r3, r4, r5, r6, r7, r8, r9, rl⟩ := HRB.out
    simp only at r0 r1 r2 r3 r4 r5 r6 r7 r8 r9
    clear rl
    have HUD := hide (undo_any ⟨kd, tx, pg, pv, nx, ky, hd, hh, od, nw⟩ (l1 + 1) b2 b3 Y4 (by omega))
    obtain ⟨⟨u0, u1, u2, u3, u4, u5, u6, u7, u8, u9⟩, hu⟩ : ∃ u, undoR ⟨kd, tx, pg, pv, nx, ky, hd, hh, od, nw⟩ (l1 + 1) b2 b3 = u := ⟨_, rfl⟩
    obtain ⟨ub, hub⟩ : ∃ ub, decide (kd = 2) = ub := ⟨_, rfl⟩
    have HU := hide hu
    have HUB := hide hub
    clear hu hub
    rw [HU.out] at HUD
    simp only [HUB.out] at HUD
    unfold R.val at HUD
    simp only at HUD
    go_wp2_with fail
    refine HUD.out.mono ?_
    rintro e z0 ⟨rfl, hb⟩
    clear HUD
    replace HB := hide (over HB.out hb HB.out.size)
    replace HR := hide (HR.out.step hb)
    replace HP := hide (HP.out.step hb)
    replace HRB := hide (HRB.out.step hb)
    replace HR3 := hide (HR3.out.step hb)
    replace HQ := hide (HQ.out.step hb)
    replace HT := hide (HT.out.step hb)
    clear hb
    clear r0 r1 r2 r3 r4 r5 r6 r7 r8 r9
    have hbx := below_box z0 (.cells #[.int .i64 u0, .int .i64 u1, .int .i64 u2, .int .i64 u3, .int .i64 u4, .int .i64 u5, .bool u6, .bool u7, .int .i64 u8, .int .i64 u9] 66)
    have HKB : Hid (Cells10 (z0.alloc (.cells #[.int .i64 u0, .int .i64 u1, .int .i64 u2, .int .i64 u3, .int .i64 u4, .int .i64 u5, .bool u6, .bool u7, .int .i64 u8, .int .i64 u9] 66)) z0.heap.size ⟨u0, u1, u2, u3, u4, u5, u6, u7, u8, u9⟩) := cells10_new z0 ⟨u0, u1, u2, u3, u4, u5, u6, u7, u8, u9⟩
    replace HB := hide (over HB.out hbx HB.out.size)
    replace HR := hide (HR.out.step hbx)
    replace HP := hide (HP.out.step hbx)
    replace HRB := hide (HRB.out.step hbx)
    replace HR3 := hide (HR3.out.step hbx)
    replace HQ := hide (HQ.out.step hbx)
    replace HT := hide (HT.out.step hbx)
    clear hbx
    go_upto_region 15 with fail
    obtain ⟨KB, hKB⟩ : ∃ KB, KB = z0.heap.size := ⟨_, rfl⟩
    rw [← hKB] at HKB ⊢
    obtain ⟨Y5, hY5⟩ : ∃ Y5, Y5 = z0.alloc (.cells #[.int .i64 u0, .int .i64 u1, .int .i64 u2, .int .i64 u3, .int .i64 u4, .int .i64 u5, .bool u6, .bool u7, .int .i64 u8, .int .i64 u9] 66) := ⟨_, rfl⟩
    rw [← hY5] at HB HR HP HRB HR3 HQ HT HKB ⊢
    clear hY5
    clear hKB
    obtain ⟨r0, r1, r2, r3, r4, r5, r6, r7, r8, r9, rl⟩ := HRB.out
    simp only at r0 r1 r2 r3 r4 r5 r6 r7 r8 r9
    clear rl
    have HUD := hide (rundo_any ⟨kd, tx, pg, pv, nx, ky, hd, hh, od, nw⟩ (l1 + 1) b2 b3 Y5 (by omega))
    rw [HU.out] at HUD
    simp only [HUB.out] at HUD
    unfold R.val at HUD
    simp only at HUD
    go_wp2_with fail
    refine HUD.out.mono ?_
    rintro e z1 ⟨rfl, hb⟩
    clear HUD
    replace HB := hide (over HB.out hb HB.out.size)
    replace HR := hide (HR.out.step hb)
    replace HP := hide (HP.out.step hb)
    replace HRB := hide (HRB.out.step hb)
    replace HR3 := hide (HR3.out.step hb)
    replace HQ := hide (HQ.out.step hb)
    replace HT := hide (HT.out.step hb)
    replace HKB := hide (HKB.out.step hb)
    clear hb
    clear r0 r1 r2 r3 r4 r5 r6 r7 r8 r9
    have hbx := below_box z1 (.cells #[.int .i64 u0, .int .i64 u1, .int .i64 u2, .int .i64 u3, .int .i64 u4, .int .i64 u5, .bool u6, .bool u7, .int .i64 u8, .int .i64 u9] 66)
    have HVB : Hid (Cells10 (z1.alloc (.cells #[.int .i64 u0, .int .i64 u1, .int .i64 u2, .int .i64 u3, .int .i64 u4, .int .i64 u5, .bool u6, .bool u7, .int .i64 u8, .int .i64 u9] 66)) z1.heap.size ⟨u0, u1, u2, u3, u4, u5, u6, u7, u8, u9⟩) := cells10_new z1 ⟨u0, u1, u2, u3, u4, u5, u6, u7, u8, u9⟩
    replace HB := hide (over HB.out hbx HB.out.size)
    replace HR := hide (HR.out.step hbx)
    replace HP := hide (HP.out.step hbx)
    replace HRB := hide (HRB.out.step hbx)
    replace HR3 := hide (HR3.out.step hbx)
    replace HQ := hide (HQ.out.step hbx)
    replace HT := hide (HT.out.step hbx)
    replace HKB := hide (HKB.out.step hbx)
    clear hbx
    go_upto_region 16 with fail
    obtain ⟨VB, hVB⟩ : ∃ VB, VB = z1.heap.size := ⟨_, rfl⟩
    rw [← hVB] at HVB ⊢
    obtain ⟨Y6, hY6⟩ : ∃ Y6, Y6 = z1.alloc (.cells #[.int .i64 u0, .int .i64 u1, .int .i64 u2, .int .i64 u3, .int .i64 u4, .int .i64 u5, .bool u6, .bool u7, .int .i64 u8, .int .i64 u9] 66) := ⟨_, rfl⟩
    rw [← hY6] at HB HR HP HRB HR3 HQ HT HKB HVB ⊢
    clear hY6
    clear hVB
    have k00 := HQ.out.c0
    have k01 := HQ.out.c1
    have k10 := HT.out.c0
    have k11 := HT.out.c1
    go_wp2_with fail
    refine (samePage_any lsn a3 n c3 es lsn ao n c es _ HR3.out HR.out HN.out HN.out).mono ?_
    rintro e v1 ⟨rfl, hb⟩
    rw [show samePgB lsn es lsn es = true from decide_eq_true ⟨rfl, rfl⟩]
    replace HB := hide (over HB.out hb HB.out.size)
    replace HR := hide (HR.out.step hb)
    replace HP := hide (HP.out.step hb)
    replace HRB := hide (HRB.out.step hb)
    replace HR3 := hide (HR3.out.step hb)
    replace HQ := hide (HQ.out.step hb)
    replace HT := hide (HT.out.step hb)
    replace HKB := hide (HKB.out.step hb)
    replace HVB := hide (HVB.out.step hb)
    clear hb
    clear k00 k01 k10 k11
    go_wp2_with fail
    refine (is_ok _).mono ?_
    rintro e v2 ⟨rfl, hb⟩
    replace HB := hide (over HB.out hb HB.out.size)
    replace HR := hide (HR.out.step hb)
    replace HP := hide (HP.out.step hb)
    replace HRB := hide (HRB.out.step hb)
    replace HR3 := hide (HR3.out.step hb)
    replace HQ := hide (HQ.out.step hb)
    replace HT := hide (HT.out.step hb)
    replace HKB := hide (HKB.out.step hb)
    replace HVB := hide (HVB.out.step hb)
    clear hb
    obtain ⟨r0, r1, r2, r3, r4, r5, r6, r7, r8, r9, rl⟩ := HKB.out
    simp only at r0 r1 r2 r3 r4 r5 r6 r7 r8 r9
    clear rl
    obtain ⟨s0, s1, s2, s3, s4, s5, s6, s7, s8, s9, sl⟩ := HVB.out
    simp only at s0 s1 s2 s3 s4 s5 s6 s7 s8 s9
    clear sl
    have HSR := hide (sameRec_same ⟨u0, u1, u2, u3, u4, u5, u6, u7, u8, u9⟩ v2)
    unfold R.val at HSR
    simp only at HSR
    go_wp2_with fail
    refine HSR.out.mono ?_
    rintro e v3 ⟨rfl, hb⟩
    clear HSR
    have HBF := hide (over HB.out hb HB.out.size)
    clear hb r0 r1 r2 r3 r4 r5 r6 r7 r8 r9 s0 s1 s2 s3 s4 s5 s6 s7 s8 s9
    go_wp2_with fail
    go_ret
    exact ⟨by simp, HBF.out⟩
  obtain ⟨hch, hlt⟩ := skip_no hsk
  clear hsk
  by_cases hok : okD ⟨kd, tx, pg, pv, nx, ky, hd, hh, od, nw⟩ es = true
  case pos =>
    have k00 := HP.out.c0
    have k01 := HP.out.c1
    obtain ⟨r0, r1, r2, r3, r4, r5, r6, r7, r8, r9, rl⟩ := HRB.out
    simp only at r0 r1 r2 r3 r4 r5 r6 r7 r8 r9
    clear rl
    have HRD := hide (redo_yes lsn (l1 + 1) ao n c es ⟨kd, tx, pg, pv, nx, ky, hd, hh, od, nw⟩ x6 HR.out HM.out.up HN.out hch hlt hok)
    unfold R.val pageV at HRD
    simp only at HRD
    go_wp2_with fail
    refine HRD.out.mono ?_
    rintro e y1 ⟨a3, m3, c3, rfl, hm3, hown3, hb⟩
    clear HRD
    have HM3 := hide hm3
    have HR3 := hide hown3.row
    clear hm3 hown3 k00 k01
    replace HB := hide (over HB.out hb HB.out.size)
    replace HR := hide (HR.out.step hb)
    replace HP := hide (HP.out.step hb)
    replace HRB := hide (HRB.out.step hb)
    clear hb
    clear r0 r1 r2 r3 r4 r5 r6 r7 r8 r9
    have hbx := below_box y1 (pageBlock (l1 + 1) a3 m3 c3)
    have HQ := hide (pblk_new y1 (l1 + 1) a3 m3 c3)
    replace HB := hide (over HB.out hbx HB.out.size)
    replace HR := hide (HR.out.step hbx)
    replace HP := hide (HP.out.step hbx)
    replace HRB := hide (HRB.out.step hbx)
    replace HR3 := hide (HR3.out.step hbx)
    unfold pageBlock at HB HR HP HRB HR3 HQ
    clear hbx
    go_upto_region 13 with fail
    obtain ⟨Q, hQ⟩ : ∃ Q, Q = y1.heap.size := ⟨_, rfl⟩
    rw [← hQ] at HQ ⊢
    obtain ⟨Y3, hY3⟩ : ∃ Y3, Y3 = y1.alloc (.cells #[.int .i64 ((l1 + 1)), .slice a3 m3 c3] 24) := ⟨_, rfl⟩
    rw [← hY3] at HB HR HP HRB HR3 HQ ⊢
    clear hY3
    clear hQ
    have k00 := HP.out.c0
    have k01 := HP.out.c1
    obtain ⟨r0, r1, r2, r3, r4, r5, r6, r7, r8, r9, rl⟩ := HRB.out
    simp only at r0 r1 r2 r3 r4 r5 r6 r7 r8 r9
    clear rl
    have HRD := hide (rredo_yes lsn (l1 + 1) ao n c es ⟨kd, tx, pg, pv, nx, ky, hd, hh, od, nw⟩ Y3 HR.out HM.out.up HN.out hn100 hch hlt hok)
    unfold R.val pageV at HRD
    simp only at HRD
    go_wp2_with fail
    refine HRD.out.mono ?_
    rintro e y2 ⟨a4, m4, c4, rfl, hm4, hown4, hb⟩
    clear HRD
    have HM4 := hide hm4
    have HR4 := hide hown4.row
    clear hm4 hown4 k00 k01
    replace HB := hide (over HB.out hb HB.out.size)
    replace HR := hide (HR.out.step hb)
    replace HP := hide (HP.out.step hb)
    replace HRB := hide (HRB.out.step hb)
    replace HR3 := hide (HR3.out.step hb)
    replace HQ := hide (HQ.out.step hb)
    clear hb
    clear r0 r1 r2 r3 r4 r5 r6 r7 r8 r9
    have hbx := below_box y2 (pageBlock (l1 + 1) a4 m4 c4)
    have HT := hide (pblk_new y2 (l1 + 1) a4 m4 c4)
    replace HB := hide (over HB.out hbx HB.out.size)
    replace HR := hide (HR.out.step hbx)
    replace HP := hide (HP.out.step hbx)
    replace HRB := hide (HRB.out.step hbx)
    replace HR3 := hide (HR3.out.step hbx)
    replace HQ := hide (HQ.out.step hbx)
    replace HR4 := hide (HR4.out.step hbx)
    unfold pageBlock at HB HR HP HRB HR3 HQ HR4 HT
    clear hbx
    go_upto_region 14 with fail
    obtain ⟨T, hT⟩ : ∃ T, T = y2.heap.size := ⟨_, rfl⟩
    rw [← hT] at HT ⊢
    obtain ⟨Y4, hY4⟩ : ∃ Y4, Y4 = y2.alloc (.cells #[.int .i64 ((l1 + 1)), .slice a4 m4 c4] 24) := ⟨_, rfl⟩
    rw [← hY4] at HB HR HP HRB HR3 HQ HR4 HT ⊢
    clear hY4
    clear hT
    obtain ⟨r0, r1, r2, r3, r4, r5, r6, r7, r8, r9, rl⟩ := HRB.out
    simp only at r0 r1 r2 r3 r4 r5 r6 r7 r8 r9
    clear rl
    have HUD := hide (undo_any ⟨kd, tx, pg, pv, nx, ky, hd, hh, od, nw⟩ (l1 + 1) b2 b3 Y4 (by omega))
    obtain ⟨⟨u0, u1, u2, u3, u4, u5, u6, u7, u8, u9⟩, hu⟩ : ∃ u, undoR ⟨kd, tx, pg, pv, nx, ky, hd, hh, od, nw⟩ (l1 + 1) b2 b3 = u := ⟨_, rfl⟩
    obtain ⟨ub, hub⟩ : ∃ ub, decide (kd = 2) = ub := ⟨_, rfl⟩
    have HU := hide hu
    have HUB := hide hub
    clear hu hub
    rw [HU.out] at HUD
    simp only [HUB.out] at HUD
    unfold R.val at HUD
    simp only at HUD
    go_wp2_with fail
    refine HUD.out.mono ?_
    rintro e z0 ⟨rfl, hb⟩
    clear HUD
    replace HB := hide (over HB.out hb HB.out.size)
    replace HR := hide (HR.out.step hb)
    replace HP := hide (HP.out.step hb)
    replace HRB := hide (HRB.out.step hb)
    replace HR3 := hide (HR3.out.step hb)
    replace HQ := hide (HQ.out.step hb)
    replace HR4 := hide (HR4.out.step hb)
    replace HT := hide (HT.out.step hb)
    clear hb
    clear r0 r1 r2 r3 r4 r5 r6 r7 r8 r9
    have hbx := below_box z0 (.cells #[.int .i64 u0, .int .i64 u1, .int .i64 u2, .int .i64 u3, .int .i64 u4, .int .i64 u5, .bool u6, .bool u7, .int .i64 u8, .int .i64 u9] 66)
    have HKB : Hid (Cells10 (z0.alloc (.cells #[.int .i64 u0, .int .i64 u1, .int .i64 u2, .int .i64 u3, .int .i64 u4, .int .i64 u5, .bool u6, .bool u7, .int .i64 u8, .int .i64 u9] 66)) z0.heap.size ⟨u0, u1, u2, u3, u4, u5, u6, u7, u8, u9⟩) := cells10_new z0 ⟨u0, u1, u2, u3, u4, u5, u6, u7, u8, u9⟩
    replace HB := hide (over HB.out hbx HB.out.size)
    replace HR := hide (HR.out.step hbx)
    replace HP := hide (HP.out.step hbx)
    replace HRB := hide (HRB.out.step hbx)
    replace HR3 := hide (HR3.out.step hbx)
    replace HQ := hide (HQ.out.step hbx)
    replace HR4 := hide (HR4.out.step hbx)
    replace HT := hide (HT.out.step hbx)
    clear hbx
    go_upto_region 15 with fail
    obtain ⟨KB, hKB⟩ : ∃ KB, KB = z0.heap.size := ⟨_, rfl⟩
    rw [← hKB] at HKB ⊢
    obtain ⟨Y5, hY5⟩ : ∃ Y5, Y5 = z0.alloc (.cells #[.int .i64 u0, .int .i64 u1, .int .i64 u2, .int .i64 u3, .int .i64 u4, .int .i64 u5, .bool u6, .bool u7, .int .i64 u8, .int .i64 u9] 66) := ⟨_, rfl⟩
    rw [← hY5] at HB HR HP HRB HR3 HQ HR4 HT HKB ⊢
    clear hY5
    clear hKB
    obtain ⟨r0, r1, r2, r3, r4, r5, r6, r7, r8, r9, rl⟩ := HRB.out
    simp only at r0 r1 r2 r3 r4 r5 r6 r7 r8 r9
    clear rl
    have HUD := hide (rundo_any ⟨kd, tx, pg, pv, nx, ky, hd, hh, od, nw⟩ (l1 + 1) b2 b3 Y5 (by omega))
    rw [HU.out] at HUD
    simp only [HUB.out] at HUD
    unfold R.val at HUD
    simp only at HUD
    go_wp2_with fail
    refine HUD.out.mono ?_
    rintro e z1 ⟨rfl, hb⟩
    clear HUD
    replace HB := hide (over HB.out hb HB.out.size)
    replace HR := hide (HR.out.step hb)
    replace HP := hide (HP.out.step hb)
    replace HRB := hide (HRB.out.step hb)
    replace HR3 := hide (HR3.out.step hb)
    replace HQ := hide (HQ.out.step hb)
    replace HR4 := hide (HR4.out.step hb)
    replace HT := hide (HT.out.step hb)
    replace HKB := hide (HKB.out.step hb)
    clear hb
    clear r0 r1 r2 r3 r4 r5 r6 r7 r8 r9
    have hbx := below_box z1 (.cells #[.int .i64 u0, .int .i64 u1, .int .i64 u2, .int .i64 u3, .int .i64 u4, .int .i64 u5, .bool u6, .bool u7, .int .i64 u8, .int .i64 u9] 66)
    have HVB : Hid (Cells10 (z1.alloc (.cells #[.int .i64 u0, .int .i64 u1, .int .i64 u2, .int .i64 u3, .int .i64 u4, .int .i64 u5, .bool u6, .bool u7, .int .i64 u8, .int .i64 u9] 66)) z1.heap.size ⟨u0, u1, u2, u3, u4, u5, u6, u7, u8, u9⟩) := cells10_new z1 ⟨u0, u1, u2, u3, u4, u5, u6, u7, u8, u9⟩
    replace HB := hide (over HB.out hbx HB.out.size)
    replace HR := hide (HR.out.step hbx)
    replace HP := hide (HP.out.step hbx)
    replace HRB := hide (HRB.out.step hbx)
    replace HR3 := hide (HR3.out.step hbx)
    replace HQ := hide (HQ.out.step hbx)
    replace HR4 := hide (HR4.out.step hbx)
    replace HT := hide (HT.out.step hbx)
    replace HKB := hide (HKB.out.step hbx)
    clear hbx
    go_upto_region 16 with fail
    obtain ⟨VB, hVB⟩ : ∃ VB, VB = z1.heap.size := ⟨_, rfl⟩
    rw [← hVB] at HVB ⊢
    obtain ⟨Y6, hY6⟩ : ∃ Y6, Y6 = z1.alloc (.cells #[.int .i64 u0, .int .i64 u1, .int .i64 u2, .int .i64 u3, .int .i64 u4, .int .i64 u5, .bool u6, .bool u7, .int .i64 u8, .int .i64 u9] 66) := ⟨_, rfl⟩
    rw [← hY6] at HB HR HP HRB HR3 HQ HR4 HT HKB HVB ⊢
    clear hY6
    clear hVB
    have k00 := HQ.out.c0
    have k01 := HQ.out.c1
    have k10 := HT.out.c0
    have k11 := HT.out.c1
    go_wp2_with fail
    refine (samePage_any (l1 + 1) a3 m3 c3 (doneE ⟨kd, tx, pg, pv, nx, ky, hd, hh, od, nw⟩ es) (l1 + 1) a4 m4 c4 (doneE ⟨kd, tx, pg, pv, nx, ky, hd, hh, od, nw⟩ es) _ HR3.out HR4.out HM3.out HM4.out).mono ?_
    rintro e v1 ⟨rfl, hb⟩
    rw [show samePgB (l1 + 1) (doneE ⟨kd, tx, pg, pv, nx, ky, hd, hh, od, nw⟩ es) (l1 + 1) (doneE ⟨kd, tx, pg, pv, nx, ky, hd, hh, od, nw⟩ es) = true from decide_eq_true ⟨rfl, rfl⟩]
    replace HB := hide (over HB.out hb HB.out.size)
    replace HR := hide (HR.out.step hb)
    replace HP := hide (HP.out.step hb)
    replace HRB := hide (HRB.out.step hb)
    replace HR3 := hide (HR3.out.step hb)
    replace HQ := hide (HQ.out.step hb)
    replace HR4 := hide (HR4.out.step hb)
    replace HT := hide (HT.out.step hb)
    replace HKB := hide (HKB.out.step hb)
    replace HVB := hide (HVB.out.step hb)
    clear hb
    clear k00 k01 k10 k11
    go_wp2_with fail
    refine (is_ok _).mono ?_
    rintro e v2 ⟨rfl, hb⟩
    replace HB := hide (over HB.out hb HB.out.size)
    replace HR := hide (HR.out.step hb)
    replace HP := hide (HP.out.step hb)
    replace HRB := hide (HRB.out.step hb)
    replace HR3 := hide (HR3.out.step hb)
    replace HQ := hide (HQ.out.step hb)
    replace HR4 := hide (HR4.out.step hb)
    replace HT := hide (HT.out.step hb)
    replace HKB := hide (HKB.out.step hb)
    replace HVB := hide (HVB.out.step hb)
    clear hb
    obtain ⟨r0, r1, r2, r3, r4, r5, r6, r7, r8, r9, rl⟩ := HKB.out
    simp only at r0 r1 r2 r3 r4 r5 r6 r7 r8 r9
    clear rl
    obtain ⟨s0, s1, s2, s3, s4, s5, s6, s7, s8, s9, sl⟩ := HVB.out
    simp only at s0 s1 s2 s3 s4 s5 s6 s7 s8 s9
    clear sl
    have HSR := hide (sameRec_same ⟨u0, u1, u2, u3, u4, u5, u6, u7, u8, u9⟩ v2)
    unfold R.val at HSR
    simp only at HSR
    go_wp2_with fail
    refine HSR.out.mono ?_
    rintro e v3 ⟨rfl, hb⟩
    clear HSR
    have HBF := hide (over HB.out hb HB.out.size)
    clear hb r0 r1 r2 r3 r4 r5 r6 r7 r8 r9 s0 s1 s2 s3 s4 s5 s6 s7 s8 s9
    go_wp2_with fail
    go_ret
    exact ⟨by simp, HBF.out⟩
  have hno := hok
  replace hok : okD ⟨kd, tx, pg, pv, nx, ky, hd, hh, od, nw⟩ es = false := by simpa using hno
  have k00 := HP.out.c0
  have k01 := HP.out.c1
  obtain ⟨r0, r1, r2, r3, r4, r5, r6, r7, r8, r9, rl⟩ := HRB.out
  simp only at r0 r1 r2 r3 r4 r5 r6 r7 r8 r9
  clear rl
  have HRD := hide (redo_no lsn (l1 + 1) ao n c es ⟨kd, tx, pg, pv, nx, ky, hd, hh, od, nw⟩ x6 ((HW.out.step HB.out).var 6 (by decide) rfl) HR.out HM.out.up HN.out hch hlt hok)
  unfold R.val pageV at HRD
  simp only at HRD
  go_wp2_with fail
  refine HRD.out.mono ?_
  rintro e y1 ⟨rfl, hb⟩
  clear HRD
  clear k00 k01
  replace HB := hide (over HB.out hb HB.out.size)
  replace HR := hide (HR.out.step hb)
  replace HP := hide (HP.out.step hb)
  replace HRB := hide (HRB.out.step hb)
  clear hb
  clear r0 r1 r2 r3 r4 r5 r6 r7 r8 r9
  have hbx := below_box y1 (pageBlock 0 none 0 0)
  have HQ := hide (pblk_new y1 0 none 0 0)
  replace HB := hide (over HB.out hbx HB.out.size)
  replace HR := hide (HR.out.step hbx)
  replace HP := hide (HP.out.step hbx)
  replace HRB := hide (HRB.out.step hbx)
  unfold pageBlock at HB HR HP HRB HQ
  clear hbx
  go_upto_region 13 with fail
  obtain ⟨Q, hQ⟩ : ∃ Q, Q = y1.heap.size := ⟨_, rfl⟩
  rw [← hQ] at HQ ⊢
  obtain ⟨Y3, hY3⟩ : ∃ Y3, Y3 = y1.alloc (.cells #[.int .i64 0, .slice none 0 0] 24) := ⟨_, rfl⟩
  rw [← hY3] at HB HR HP HRB HQ ⊢
  clear hY3
  clear hQ
  have k00 := HP.out.c0
  have k01 := HP.out.c1
  obtain ⟨r0, r1, r2, r3, r4, r5, r6, r7, r8, r9, rl⟩ := HRB.out
  simp only at r0 r1 r2 r3 r4 r5 r6 r7 r8 r9
  clear rl
  have HRD := hide (rredo_no lsn (l1 + 1) ao n c es ⟨kd, tx, pg, pv, nx, ky, hd, hh, od, nw⟩ Y3 HR.out HM.out.up HN.out hn100 hch hlt (ok_no hno).1 (ok_no hno).2)
  unfold R.val pageV at HRD
  simp only at HRD
  go_wp2_with fail
  refine HRD.out.mono ?_
  rintro e y2 ⟨rfl, hb⟩
  clear HRD
  clear k00 k01
  replace HB := hide (over HB.out hb HB.out.size)
  replace HR := hide (HR.out.step hb)
  replace HP := hide (HP.out.step hb)
  replace HRB := hide (HRB.out.step hb)
  replace HQ := hide (HQ.out.step hb)
  clear hb
  clear r0 r1 r2 r3 r4 r5 r6 r7 r8 r9
  have hbx := below_box y2 (pageBlock 0 none 0 0)
  have HT := hide (pblk_new y2 0 none 0 0)
  replace HB := hide (over HB.out hbx HB.out.size)
  replace HR := hide (HR.out.step hbx)
  replace HP := hide (HP.out.step hbx)
  replace HRB := hide (HRB.out.step hbx)
  replace HQ := hide (HQ.out.step hbx)
  unfold pageBlock at HB HR HP HRB HQ HT
  clear hbx
  go_upto_region 14 with fail
  obtain ⟨T, hT⟩ : ∃ T, T = y2.heap.size := ⟨_, rfl⟩
  rw [← hT] at HT ⊢
  obtain ⟨Y4, hY4⟩ : ∃ Y4, Y4 = y2.alloc (.cells #[.int .i64 0, .slice none 0 0] 24) := ⟨_, rfl⟩
  rw [← hY4] at HB HR HP HRB HQ HT ⊢
  clear hY4
  clear hT
  obtain ⟨r0, r1, r2, r3, r4, r5, r6, r7, r8, r9, rl⟩ := HRB.out
  simp only at r0 r1 r2 r3 r4 r5 r6 r7 r8 r9
  clear rl
  have HUD := hide (undo_any ⟨kd, tx, pg, pv, nx, ky, hd, hh, od, nw⟩ (l1 + 1) b2 b3 Y4 (by omega))
  obtain ⟨⟨u0, u1, u2, u3, u4, u5, u6, u7, u8, u9⟩, hu⟩ : ∃ u, undoR ⟨kd, tx, pg, pv, nx, ky, hd, hh, od, nw⟩ (l1 + 1) b2 b3 = u := ⟨_, rfl⟩
  obtain ⟨ub, hub⟩ : ∃ ub, decide (kd = 2) = ub := ⟨_, rfl⟩
  have HU := hide hu
  have HUB := hide hub
  clear hu hub
  rw [HU.out] at HUD
  simp only [HUB.out] at HUD
  unfold R.val at HUD
  simp only at HUD
  go_wp2_with fail
  refine HUD.out.mono ?_
  rintro e z0 ⟨rfl, hb⟩
  clear HUD
  replace HB := hide (over HB.out hb HB.out.size)
  replace HR := hide (HR.out.step hb)
  replace HP := hide (HP.out.step hb)
  replace HRB := hide (HRB.out.step hb)
  replace HQ := hide (HQ.out.step hb)
  replace HT := hide (HT.out.step hb)
  clear hb
  clear r0 r1 r2 r3 r4 r5 r6 r7 r8 r9
  have hbx := below_box z0 (.cells #[.int .i64 u0, .int .i64 u1, .int .i64 u2, .int .i64 u3, .int .i64 u4, .int .i64 u5, .bool u6, .bool u7, .int .i64 u8, .int .i64 u9] 66)
  have HKB : Hid (Cells10 (z0.alloc (.cells #[.int .i64 u0, .int .i64 u1, .int .i64 u2, .int .i64 u3, .int .i64 u4, .int .i64 u5, .bool u6, .bool u7, .int .i64 u8, .int .i64 u9] 66)) z0.heap.size ⟨u0, u1, u2, u3, u4, u5, u6, u7, u8, u9⟩) := cells10_new z0 ⟨u0, u1, u2, u3, u4, u5, u6, u7, u8, u9⟩
  replace HB := hide (over HB.out hbx HB.out.size)
  replace HR := hide (HR.out.step hbx)
  replace HP := hide (HP.out.step hbx)
  replace HRB := hide (HRB.out.step hbx)
  replace HQ := hide (HQ.out.step hbx)
  replace HT := hide (HT.out.step hbx)
  clear hbx
  go_upto_region 15 with fail
  obtain ⟨KB, hKB⟩ : ∃ KB, KB = z0.heap.size := ⟨_, rfl⟩
  rw [← hKB] at HKB ⊢
  obtain ⟨Y5, hY5⟩ : ∃ Y5, Y5 = z0.alloc (.cells #[.int .i64 u0, .int .i64 u1, .int .i64 u2, .int .i64 u3, .int .i64 u4, .int .i64 u5, .bool u6, .bool u7, .int .i64 u8, .int .i64 u9] 66) := ⟨_, rfl⟩
  rw [← hY5] at HB HR HP HRB HQ HT HKB ⊢
  clear hY5
  clear hKB
  obtain ⟨r0, r1, r2, r3, r4, r5, r6, r7, r8, r9, rl⟩ := HRB.out
  simp only at r0 r1 r2 r3 r4 r5 r6 r7 r8 r9
  clear rl
  have HUD := hide (rundo_any ⟨kd, tx, pg, pv, nx, ky, hd, hh, od, nw⟩ (l1 + 1) b2 b3 Y5 (by omega))
  rw [HU.out] at HUD
  simp only [HUB.out] at HUD
  unfold R.val at HUD
  simp only at HUD
  go_wp2_with fail
  refine HUD.out.mono ?_
  rintro e z1 ⟨rfl, hb⟩
  clear HUD
  replace HB := hide (over HB.out hb HB.out.size)
  replace HR := hide (HR.out.step hb)
  replace HP := hide (HP.out.step hb)
  replace HRB := hide (HRB.out.step hb)
  replace HQ := hide (HQ.out.step hb)
  replace HT := hide (HT.out.step hb)
  replace HKB := hide (HKB.out.step hb)
  clear hb
  clear r0 r1 r2 r3 r4 r5 r6 r7 r8 r9
  have hbx := below_box z1 (.cells #[.int .i64 u0, .int .i64 u1, .int .i64 u2, .int .i64 u3, .int .i64 u4, .int .i64 u5, .bool u6, .bool u7, .int .i64 u8, .int .i64 u9] 66)
  have HVB : Hid (Cells10 (z1.alloc (.cells #[.int .i64 u0, .int .i64 u1, .int .i64 u2, .int .i64 u3, .int .i64 u4, .int .i64 u5, .bool u6, .bool u7, .int .i64 u8, .int .i64 u9] 66)) z1.heap.size ⟨u0, u1, u2, u3, u4, u5, u6, u7, u8, u9⟩) := cells10_new z1 ⟨u0, u1, u2, u3, u4, u5, u6, u7, u8, u9⟩
  replace HB := hide (over HB.out hbx HB.out.size)
  replace HR := hide (HR.out.step hbx)
  replace HP := hide (HP.out.step hbx)
  replace HRB := hide (HRB.out.step hbx)
  replace HQ := hide (HQ.out.step hbx)
  replace HT := hide (HT.out.step hbx)
  replace HKB := hide (HKB.out.step hbx)
  clear hbx
  go_upto_region 16 with fail
  obtain ⟨VB, hVB⟩ : ∃ VB, VB = z1.heap.size := ⟨_, rfl⟩
  rw [← hVB] at HVB ⊢
  obtain ⟨Y6, hY6⟩ : ∃ Y6, Y6 = z1.alloc (.cells #[.int .i64 u0, .int .i64 u1, .int .i64 u2, .int .i64 u3, .int .i64 u4, .int .i64 u5, .bool u6, .bool u7, .int .i64 u8, .int .i64 u9] 66) := ⟨_, rfl⟩
  rw [← hY6] at HB HR HP HRB HQ HT HKB HVB ⊢
  clear hY6
  clear hVB
  have k00 := HQ.out.c0
  have k01 := HQ.out.c1
  have k10 := HT.out.c0
  have k11 := HT.out.c1
  go_wp2_with fail
  refine (samePage_any 0 none 0 0 [] 0 none 0 0 [] _ (entRow_nil _ _) (entRow_nil _ _) rfl rfl).mono ?_
  rintro e v1 ⟨rfl, hb⟩
  rw [show samePgB 0 [] 0 [] = true from decide_eq_true ⟨rfl, rfl⟩]
  replace HB := hide (over HB.out hb HB.out.size)
  replace HR := hide (HR.out.step hb)
  replace HP := hide (HP.out.step hb)
  replace HRB := hide (HRB.out.step hb)
  replace HQ := hide (HQ.out.step hb)
  replace HT := hide (HT.out.step hb)
  replace HKB := hide (HKB.out.step hb)
  replace HVB := hide (HVB.out.step hb)
  clear hb
  clear k00 k01 k10 k11
  go_wp2_with fail
  refine (is_err _ a 6 (by omega) 107 (by omega) (HW.out.step HB.out)).mono ?_
  rintro e v2 ⟨rfl, hb⟩
  replace HB := hide (over HB.out hb HB.out.size)
  replace HR := hide (HR.out.step hb)
  replace HP := hide (HP.out.step hb)
  replace HRB := hide (HRB.out.step hb)
  replace HQ := hide (HQ.out.step hb)
  replace HT := hide (HT.out.step hb)
  replace HKB := hide (HKB.out.step hb)
  replace HVB := hide (HVB.out.step hb)
  clear hb
  obtain ⟨r0, r1, r2, r3, r4, r5, r6, r7, r8, r9, rl⟩ := HKB.out
  simp only at r0 r1 r2 r3 r4 r5 r6 r7 r8 r9
  clear rl
  obtain ⟨s0, s1, s2, s3, s4, s5, s6, s7, s8, s9, sl⟩ := HVB.out
  simp only at s0 s1 s2 s3 s4 s5 s6 s7 s8 s9
  clear sl
  have HSR := hide (sameRec_same ⟨u0, u1, u2, u3, u4, u5, u6, u7, u8, u9⟩ v2)
  unfold R.val at HSR
  simp only at HSR
  go_wp2_with fail
  refine HSR.out.mono ?_
  rintro e v3 ⟨rfl, hb⟩
  clear HSR
  have HBF := hide (over HB.out hb HB.out.size)
  clear hb r0 r1 r2 r3 r4 r5 r6 r7 r8 r9 s0 s1 s2 s3 s4 s5 s6 s7 s8 s9
  go_wp2_with fail
  go_ret
  exact ⟨by simp, HBF.out⟩
end Go.Proofs.YtefgmlmhdjckaaaDoor.changeSays
