
/- What the statement ChangeKinds asks comes out true, at every list of numbers and kind; nothing that was there is written. -/
import Derived.Test.YtefgmlmhdjckaabDoorJoin22
import Derived.Test.YtefgmlmhdjckaabDoorJoin23
import Derived.Test.YtefgmlmhdjckaabDoorJoin20
namespace Go.Proofs.YtefgmlmhdjckaabDoor.changeKinds
open Go.RowKit
set_option linter.unusedVariables false

set_option maxRecDepth 100000 in
set_option maxHeartbeats 16000000 in
theorem walk (lo : Option Addr) (len cap : Nat) (zs : List Int) (a1 : Int) (w : World) (w0 : IsRow .i64 w lo len cap zs) (w1 : (Lit.int .i64 a1).wf = true) {a : Nat → Addr} (he : ErrsOf w [6] a) :
    Calls Tryd.prog 7 #[.slice lo len cap, .int .i64 a1] w fun e w' => e = .returned (.bool true) ∧ Below w.heap.size w w' := by
  have HROW := hide w0
  clear he w0 w1
  go_enter Tryd.func7, Tryd.ntmps7
  go_wp2_with fail
  refine (cfirst_any _).mono ?_
  rintro e x1 ⟨rfl, hb⟩
  have HB := hide hb
  clear hb
  by_cases hlen : len ≤ 100
  case neg =>
    have hl1 : (100 : Int) < (len : Int) := by omega
    go_wp2_with fail
    go_ret
    exact ⟨rfl, HB.out⟩
  have hl1 : decide ((100 : Int) < (len : Int)) = false := by simp; omega
  go_wp2_with fail
  refine (mpage_new HROW.out (by omega) HB.out 18 (by omega) (by omega)).mono ?_
  rintro e x2 ⟨lsn, es, ao, n, c, rfl, hn, hmade, hown, hb⟩
  have HN := hide hn
  have HM := hide hmade
  have HR := hide hown.row
  replace HB := hide (over HB.out hb HB.out.size)
  clear hn hmade hown hb HROW
  have hL0 := HM.out.l0
  have hL1 := HM.out.l1
  unfold pageV
  have hbx := below_box x2 (pageBlock lsn ao n c)
  have HP := hide (pblk_new x2 lsn ao n c)
  replace HB := hide (over HB.out hbx HB.out.size)
  replace HR := hide (HR.out.step hbx)
  unfold pageBlock at HB HR HP
  clear hbx
  go_upto_region 8 with fail
  obtain ⟨P, hP⟩ : ∃ P, P = x2.heap.size := ⟨_, rfl⟩
  rw [← hP] at HP ⊢
  obtain ⟨Y1, hY1⟩ : ∃ Y1, Y1 = x2.alloc (.cells #[.int .i64 lsn, .slice ao n c] 26) := ⟨_, rfl⟩
  rw [← hY1] at HB HR HP ⊢
  clear hY1
  clear hP
  go_wp2_with fail
  refine (number_any _ _ _ (by omega) (by omega)).mono ?_
  rintro e x3 ⟨rfl, rfl⟩
  obtain ⟨k, hk⟩ : ∃ k, k = numberB a1 14 := ⟨_, rfl⟩
  rw [← hk]
  clear hk
  have hbx := below_box x3 (.cells #[.int .i64 k, .int .i64 1, .int .i64 1, .int .i64 0, .int .i64 0, .int .i64 3, .bool false, .bool true, .int .i64 0, .int .i64 4] 35)
  have HRB : Hid (Cells10 (x3.alloc (.cells #[.int .i64 k, .int .i64 1, .int .i64 1, .int .i64 0, .int .i64 0, .int .i64 3, .bool false, .bool true, .int .i64 0, .int .i64 4] 35)) x3.heap.size ⟨k, 1, 1, 0, 0, 3, false, true, 0, 4⟩) := cells10_new x3 ⟨k, 1, 1, 0, 0, 3, false, true, 0, 4⟩
  replace HB := hide (over HB.out hbx HB.out.size)
  replace HR := hide (HR.out.step hbx)
  replace HP := hide (HP.out.step hbx)
  clear hbx
  go_upto_region 10 with fail
  obtain ⟨RB, hRB⟩ : ∃ RB, RB = x3.heap.size := ⟨_, rfl⟩
  rw [← hRB] at HRB ⊢
  obtain ⟨Y2, hY2⟩ : ∃ Y2, Y2 = x3.alloc (.cells #[.int .i64 k, .int .i64 1, .int .i64 1, .int .i64 0, .int .i64 0, .int .i64 3, .bool false, .bool true, .int .i64 0, .int .i64 4] 35) := ⟨_, rfl⟩
  rw [← hY2] at HB HR HP HRB ⊢
  clear hY2
  clear hRB
  have hwl : IntKind.i64.wrap (lsn + 1) = lsn + 1 := by rw [IntKind.wrap_i64]; omega
  have HOK : Hid (∀ k, okD ⟨k, 1, 1, 0, 0, 3, false, true, 0, 4⟩ es = true ∧ doneE ⟨k, 1, 1, 0, 0, 3, false, true, 0, 4⟩ es = insE 3 4 es) := by
    intro k
    have hc : canPut es 3 = true := by
      unfold canPut
      have := HM.out.most
      rw [decide_eq_true (by omega), Bool.or_true]
    unfold okD doneE putE
    simp [hc]
  by_cases h2 : k = 2
  case pos =>
    subst h2
    have k0 := HP.out.c0
    have k1 := HP.out.c1
    obtain ⟨r0, r1, r2, r3, r4, r5, r6, r7, r8, r9, rl⟩ := HRB.out
    simp only at r0 r1 r2 r3 r4 r5 r6 r7 r8 r9
    clear rl
    have HRD := hide (redo_yes lsn (lsn + 1) ao n c es ⟨2, 1, 1, 0, 0, 3, false, true, 0, 4⟩ Y2 HR.out HM.out.up HN.out (by decide) (by omega) (HOK.out 2).1)
    unfold R.val pageV at HRD
    simp only at HRD
    go_wp2_with fail
    refine HRD.out.mono ?_
    rintro e x4 ⟨a3, m3, c3, rfl, hm3, hown3, hb⟩
    clear HRD
    have HM3 := hide hm3
    have HR3 := hide hown3.row
    rw [(HOK.out 2).2] at HM3 HR3
    clear hm3 hown3 k0 k1
    replace HB := hide (over HB.out hb HB.out.size)
    replace HR := hide (HR.out.step hb)
    replace HP := hide (HP.out.step hb)
    replace HRB := hide (HRB.out.step hb)
    clear hb
    clear r0 r1 r2 r3 r4 r5 r6 r7 r8 r9
    have hbx := below_box x4 (pageBlock (lsn + 1) a3 m3 c3)
    have HQ := hide (pblk_new x4 (lsn + 1) a3 m3 c3)
    replace HB := hide (over HB.out hbx HB.out.size)
    replace HR := hide (HR.out.step hbx)
    replace HP := hide (HP.out.step hbx)
    replace HRB := hide (HRB.out.step hbx)
    replace HR3 := hide (HR3.out.step hbx)
    unfold pageBlock at HB HR HP HRB HR3 HQ
    clear hbx
    go_upto_region 11 with fail
    obtain ⟨Q, hQ⟩ : ∃ Q, Q = x4.heap.size := ⟨_, rfl⟩
    rw [← hQ] at HQ ⊢
    obtain ⟨Y3, hY3⟩ : ∃ Y3, Y3 = x4.alloc (.cells #[.int .i64 ((lsn + 1)), .slice a3 m3 c3] 26) := ⟨_, rfl⟩
    rw [← hY3] at HB HR HP HRB HR3 HQ ⊢
    clear hY3
    clear hQ
    obtain ⟨r0, r1, r2, r3, r4, r5, r6, r7, r8, r9, rl⟩ := HRB.out
    simp only at r0 r1 r2 r3 r4 r5 r6 r7 r8 r9
    clear rl
    have HUD := hide (undo_any ⟨2, 1, 1, 0, 0, 3, false, true, 0, 4⟩ 5 5 0 Y3 (by omega))
    rw [undoR_yes (by rfl)] at HUD
    unfold R.val at HUD
    simp only [decide_true] at HUD
    go_wp2_with fail
    refine HUD.out.mono ?_
    rintro e x5 ⟨rfl, hb⟩
    clear HUD
    replace HB := hide (over HB.out hb HB.out.size)
    replace HR := hide (HR.out.step hb)
    replace HP := hide (HP.out.step hb)
    replace HRB := hide (HRB.out.step hb)
    replace HR3 := hide (HR3.out.step hb)
    replace HQ := hide (HQ.out.step hb)
    clear hb
    clear r0 r1 r2 r3 r4 r5 r6 r7 r8 r9
    have hbx := below_box x5 (.cells #[.int .i64 3, .int .i64 1, .int .i64 1, .int .i64 5, .int .i64 0, .int .i64 3, .bool true, .bool false, .int .i64 5, .int .i64 0] 35)
    have HUB : Hid (Cells10 (x5.alloc (.cells #[.int .i64 3, .int .i64 1, .int .i64 1, .int .i64 5, .int .i64 0, .int .i64 3, .bool true, .bool false, .int .i64 5, .int .i64 0] 35)) x5.heap.size ⟨3, 1, 1, 5, 0, 3, true, false, 5, 0⟩) := cells10_new x5 ⟨3, 1, 1, 5, 0, 3, true, false, 5, 0⟩
    replace HB := hide (over HB.out hbx HB.out.size)
    replace HR := hide (HR.out.step hbx)
    replace HP := hide (HP.out.step hbx)
    replace HRB := hide (HRB.out.step hbx)
    replace HR3 := hide (HR3.out.step hbx)
    replace HQ := hide (HQ.out.step hbx)
    clear hbx
    go_upto_region 12 with fail
    obtain ⟨UB, hUB⟩ : ∃ UB, UB = x5.heap.size := ⟨_, rfl⟩
    rw [← hUB] at HUB ⊢
    obtain ⟨Y4, hY4⟩ : ∃ Y4, Y4 = x5.alloc (.cells #[.int .i64 3, .int .i64 1, .int .i64 1, .int .i64 5, .int .i64 0, .int .i64 3, .bool true, .bool false, .int .i64 5, .int .i64 0] 35) := ⟨_, rfl⟩
    rw [← hY4] at HB HR HP HRB HR3 HQ HUB ⊢
    clear hY4
    clear hUB
    have k0 := HQ.out.c0
    have k1 := HQ.out.c1
    obtain ⟨r0, r1, r2, r3, r4, r5, r6, r7, r8, r9, rl⟩ := HUB.out
    simp only at r0 r1 r2 r3 r4 r5 r6 r7 r8 r9
    clear rl
    go_wp2_with fail
    refine (rfind_any (lsn + 1) a3 m3 c3 (insE 3 4 es) 3 _ HR3.out HM3.out).mono ?_
    rintro e x6 ⟨rfl, hb⟩
    have hv : valE (insE 3 4 es) 3 = some 4 := by rw [val_ins, if_pos rfl]
    have hh : hasE (insE 3 4 es) 3 = true := by unfold hasE; rw [hv]; rfl
    rw [hv, hh]
    clear hv hh
    have HBF := hide (over HB.out hb HB.out.size)
    clear hb k0 k1
    simp only [Option.getD_some]
    go_wp2_with fail
    go_ret
    exact ⟨rfl, HBF.out⟩
  have h2' : (k == 2) = false := by simpa using h2
  have h2n : (k != 2) = true := by simpa using h2
  by_cases h3 : k = 3
  case pos =>
    subst h3
    clear h2 h2' h2n
    have k0 := HP.out.c0
    have k1 := HP.out.c1
    obtain ⟨r0, r1, r2, r3, r4, r5, r6, r7, r8, r9, rl⟩ := HRB.out
    simp only at r0 r1 r2 r3 r4 r5 r6 r7 r8 r9
    clear rl
    have HRD := hide (redo_yes lsn (lsn + 1) ao n c es ⟨3, 1, 1, 0, 0, 3, false, true, 0, 4⟩ Y2 HR.out HM.out.up HN.out (by decide) (by omega) (HOK.out 3).1)
    unfold R.val pageV at HRD
    simp only at HRD
    go_wp2_with fail
    refine HRD.out.mono ?_
    rintro e x4 ⟨a3, m3, c3, rfl, hm3, hown3, hb⟩
    clear HRD
    have HM3 := hide hm3
    have HR3 := hide hown3.row
    rw [(HOK.out 3).2] at HM3 HR3
    clear hm3 hown3 k0 k1
    replace HB := hide (over HB.out hb HB.out.size)
    replace HR := hide (HR.out.step hb)
    replace HP := hide (HP.out.step hb)
    replace HRB := hide (HRB.out.step hb)
    clear hb
    clear r0 r1 r2 r3 r4 r5 r6 r7 r8 r9
    have hbx := below_box x4 (pageBlock (lsn + 1) a3 m3 c3)
    have HQ := hide (pblk_new x4 (lsn + 1) a3 m3 c3)
    replace HB := hide (over HB.out hbx HB.out.size)
    replace HR := hide (HR.out.step hbx)
    replace HP := hide (HP.out.step hbx)
    replace HRB := hide (HRB.out.step hbx)
    replace HR3 := hide (HR3.out.step hbx)
    unfold pageBlock at HB HR HP HRB HR3 HQ
    clear hbx
    go_upto_region 11 with fail
    obtain ⟨Q, hQ⟩ : ∃ Q, Q = x4.heap.size := ⟨_, rfl⟩
    rw [← hQ] at HQ ⊢
    obtain ⟨Y3, hY3⟩ : ∃ Y3, Y3 = x4.alloc (.cells #[.int .i64 ((lsn + 1)), .slice a3 m3 c3] 26) := ⟨_, rfl⟩
    rw [← hY3] at HB HR HP HRB HR3 HQ ⊢
    clear hY3
    clear hQ
    obtain ⟨r0, r1, r2, r3, r4, r5, r6, r7, r8, r9, rl⟩ := HRB.out
    simp only at r0 r1 r2 r3 r4 r5 r6 r7 r8 r9
    clear rl
    have HUD := hide (undo_any ⟨3, 1, 1, 0, 0, 3, false, true, 0, 4⟩ 5 5 0 Y3 (by omega))
    rw [undoR_no (by decide)] at HUD
    unfold R.val at HUD
    simp only at HUD
    go_wp2_with fail
    refine HUD.out.mono ?_
    rintro e x5 ⟨rfl, hb⟩
    clear HUD
    replace HB := hide (over HB.out hb HB.out.size)
    replace HR := hide (HR.out.step hb)
    replace HP := hide (HP.out.step hb)
    replace HRB := hide (HRB.out.step hb)
    replace HR3 := hide (HR3.out.step hb)
    replace HQ := hide (HQ.out.step hb)
    clear hb
    clear r0 r1 r2 r3 r4 r5 r6 r7 r8 r9
    have hbx := below_box x5 (.cells #[.int .i64 0, .int .i64 0, .int .i64 0, .int .i64 0, .int .i64 0, .int .i64 0, .bool false, .bool false, .int .i64 0, .int .i64 0] 35)
    have HUB : Hid (Cells10 (x5.alloc (.cells #[.int .i64 0, .int .i64 0, .int .i64 0, .int .i64 0, .int .i64 0, .int .i64 0, .bool false, .bool false, .int .i64 0, .int .i64 0] 35)) x5.heap.size ⟨0, 0, 0, 0, 0, 0, false, false, 0, 0⟩) := cells10_new x5 ⟨0, 0, 0, 0, 0, 0, false, false, 0, 0⟩
    replace HB := hide (over HB.out hbx HB.out.size)
    replace HR := hide (HR.out.step hbx)
    replace HP := hide (HP.out.step hbx)
    replace HRB := hide (HRB.out.step hbx)
    replace HR3 := hide (HR3.out.step hbx)
    replace HQ := hide (HQ.out.step hbx)
    clear hbx
    go_upto_region 12 with fail
    obtain ⟨UB, hUB⟩ : ∃ UB, UB = x5.heap.size := ⟨_, rfl⟩
    rw [← hUB] at HUB ⊢
    obtain ⟨Y4, hY4⟩ : ∃ Y4, Y4 = x5.alloc (.cells #[.int .i64 0, .int .i64 0, .int .i64 0, .int .i64 0, .int .i64 0, .int .i64 0, .bool false, .bool false, .int .i64 0, .int .i64 0] 35) := ⟨_, rfl⟩
    rw [← hY4] at HB HR HP HRB HR3 HQ HUB ⊢
    clear hY4
    clear hUB
    have k0 := HQ.out.c0
    have k1 := HQ.out.c1
    obtain ⟨r0, r1, r2, r3, r4, r5, r6, r7, r8, r9, rl⟩ := HUB.out
    simp only at r0 r1 r2 r3 r4 r5 r6 r7 r8 r9
    clear rl
    go_wp2_with fail
    refine (rfind_any (lsn + 1) a3 m3 c3 (insE 3 4 es) 3 _ HR3.out HM3.out).mono ?_
    rintro e x6 ⟨rfl, hb⟩
    have hv : valE (insE 3 4 es) 3 = some 4 := by rw [val_ins, if_pos rfl]
    have hh : hasE (insE 3 4 es) 3 = true := by unfold hasE; rw [hv]; rfl
    rw [hv, hh]
    clear hv hh
    have HBF := hide (over HB.out hb HB.out.size)
    clear hb k0 k1
    simp only [Option.getD_some]
    go_wp2_with fail
    go_ret
    exact ⟨rfl, HBF.out⟩
  have h3' : (k == 3) = false := by simpa using h3
  have k0 := HP.out.c0
  have k1 := HP.out.c1
  obtain ⟨r0, r1, r2, r3, r4, r5, r6, r7, r8, r9, rl⟩ := HRB.out
  simp only at r0 r1 r2 r3 r4 r5 r6 r7 r8 r9
  clear rl
  have HRD := hide (redo_skip lsn (lsn + 1) ao n c es ⟨k, 1, 1, 0, 0, 3, false, true, 0, 4⟩ Y2 HR.out HN.out (by unfold skipD isChg; simp [h2, h3]))
  unfold R.val pageV at HRD
  simp only at HRD
  go_wp2_with fail
  refine HRD.out.mono ?_
  rintro e x4 ⟨a3, c3, rfl, hown3, hb⟩
  clear HRD
  have HR3 := hide hown3.row
  clear hown3 k0 k1
  replace HB := hide (over HB.out hb HB.out.size)
  replace HR := hide (HR.out.step hb)
  replace HP := hide (HP.out.step hb)
  replace HRB := hide (HRB.out.step hb)
  clear hb
  clear r0 r1 r2 r3 r4 r5 r6 r7 r8 r9
  have hbx := below_box x4 (pageBlock lsn a3 n c3)
  have HQ := hide (pblk_new x4 lsn a3 n c3)
  replace HB := hide (over HB.out hbx HB.out.size)
  replace HR := hide (HR.out.step hbx)
  replace HP := hide (HP.out.step hbx)
  replace HRB := hide (HRB.out.step hbx)
  replace HR3 := hide (HR3.out.step hbx)
  unfold pageBlock at HB HR HP HRB HR3 HQ
  clear hbx
  go_upto_region 11 with fail
  obtain ⟨Q, hQ⟩ : ∃ Q, Q = x4.heap.size := ⟨_, rfl⟩
  rw [← hQ] at HQ ⊢
  obtain ⟨Y3, hY3⟩ : ∃ Y3, Y3 = x4.alloc (.cells #[.int .i64 lsn, .slice a3 n c3] 26) := ⟨_, rfl⟩
  rw [← hY3] at HB HR HP HRB HR3 HQ ⊢
  clear hY3
  clear hQ
  obtain ⟨r0, r1, r2, r3, r4, r5, r6, r7, r8, r9, rl⟩ := HRB.out
  simp only at r0 r1 r2 r3 r4 r5 r6 r7 r8 r9
  clear rl
  have HUD := hide (undo_any ⟨k, 1, 1, 0, 0, 3, false, true, 0, 4⟩ 5 5 0 Y3 (by omega))
  rw [undoR_no h2] at HUD
  unfold R.val at HUD
  simp only at HUD
  rw [decide_eq_false h2] at HUD
  go_wp2_with fail
  refine HUD.out.mono ?_
  rintro e x5 ⟨rfl, hb⟩
  clear HUD
  replace HB := hide (over HB.out hb HB.out.size)
  replace HR := hide (HR.out.step hb)
  replace HP := hide (HP.out.step hb)
  replace HRB := hide (HRB.out.step hb)
  replace HR3 := hide (HR3.out.step hb)
  replace HQ := hide (HQ.out.step hb)
  clear hb
  clear r0 r1 r2 r3 r4 r5 r6 r7 r8 r9
  have hbx := below_box x5 (.cells #[.int .i64 0, .int .i64 0, .int .i64 0, .int .i64 0, .int .i64 0, .int .i64 0, .bool false, .bool false, .int .i64 0, .int .i64 0] 35)
  have HUB : Hid (Cells10 (x5.alloc (.cells #[.int .i64 0, .int .i64 0, .int .i64 0, .int .i64 0, .int .i64 0, .int .i64 0, .bool false, .bool false, .int .i64 0, .int .i64 0] 35)) x5.heap.size ⟨0, 0, 0, 0, 0, 0, false, false, 0, 0⟩) := cells10_new x5 ⟨0, 0, 0, 0, 0, 0, false, false, 0, 0⟩
  replace HB := hide (over HB.out hbx HB.out.size)
  replace HR := hide (HR.out.step hbx)
  replace HP := hide (HP.out.step hbx)
  replace HRB := hide (HRB.out.step hbx)
  replace HR3 := hide (HR3.out.step hbx)
  replace HQ := hide (HQ.out.step hbx)
  clear hbx
  go_upto_region 12 with fail
  obtain ⟨UB, hUB⟩ : ∃ UB, UB = x5.heap.size := ⟨_, rfl⟩
  rw [← hUB] at HUB ⊢
  obtain ⟨Y4, hY4⟩ : ∃ Y4, Y4 = x5.alloc (.cells #[.int .i64 0, .int .i64 0, .int .i64 0, .int .i64 0, .int .i64 0, .int .i64 0, .bool false, .bool false, .int .i64 0, .int .i64 0] 35) := ⟨_, rfl⟩
  rw [← hY4] at HB HR HP HRB HR3 HQ HUB ⊢
  clear hY4
  clear hUB
  have k0 := HQ.out.c0
  have k1 := HQ.out.c1
  have p0 := HP.out.c0
  have p1 := HP.out.c1
  obtain ⟨r0, r1, r2, r3, r4, r5, r6, r7, r8, r9, rl⟩ := HUB.out
  simp only at r0 r1 r2 r3 r4 r5 r6 r7 r8 r9
  clear rl
  go_wp2_with fail
  refine (samePage_any lsn a3 n c3 es lsn ao n c es _ HR3.out HR.out HN.out HN.out).mono ?_
  rintro e x6 ⟨rfl, hb⟩
  rw [show samePgB lsn es lsn es = true from decide_eq_true ⟨rfl, rfl⟩]
  have HBF := hide (over HB.out hb HB.out.size)
  clear hb k0 k1 p0 p1
  go_wp2_with fail
  go_ret
  exact ⟨rfl, HBF.out⟩
end Go.Proofs.YtefgmlmhdjckaabDoor.changeKinds
