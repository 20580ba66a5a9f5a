
/- What the statement PageUnlike asks comes out true, at every two lists of numbers and number; nothing that was there is written. -/
import Derived.Test.YtefgmlmhdjckaaaDoorJoin27
import Derived.Test.YtefgmlmhdjckaaaDoorJoin29
import Derived.Test.YtefgmlmhdjckaaaDoorJoin21
import Derived.Test.YtefgmlmhdjckaaaDoorJoin5
namespace Go.Proofs.YtefgmlmhdjckaaaDoor.pageUnlike
open Go.RowKit
set_option linter.unusedVariables false

set_option maxRecDepth 100000 in
set_option maxHeartbeats 16000000 in
theorem walk (lo : Option Addr) (len cap : Nat) (zs : List Int) (lo2 : Option Addr) (len2 cap2 : Nat) (zs2 : List Int) (a2 : Int) (w : World) (w0 : IsRow .i64 w lo len cap zs) (w1 : IsRow .i64 w lo2 len2 cap2 zs2) (w2 : (Lit.int .i64 a2).wf = true) {a : Nat → Addr} (he : ErrsOf w all18 a) :
    Calls Tryd.prog 7 #[.slice lo len cap, .slice lo2 len2 cap2, .int .i64 a2] w fun e w' => e = .returned (.bool true) ∧ Below w.heap.size w w' := by
  have HW := hide he
  have HE : Hid (∀ x, Below w.heap.size w x → x.cell? ⟨0, 0, none⟩ = some (errV (a 1))) := fun x hb => (he.step hb).cell 1 (mem18 (by omega))
  have HEP : Hid (∀ x, Below w.heap.size w x → x.cell? ⟨2, 0, none⟩ = some (errV (a 6))) := fun x hb => (he.step hb).cell 6 (mem18 (by omega))
  have HROW := hide w0
  have HROW2 := hide w1
  clear he w0 w1 w2
  go_enter Tryd.func7, Tryd.ntmps7
  go_wp2_with fail
  refine (pfirst_any _ (HE.out _ (Below.refl _ _))).mono ?_
  rintro e x1 ⟨rfl, hb⟩
  have HB := hide hb
  clear hb
  by_cases hlen : len ≤ 100
  case neg =>
    have hl1 : (100 : Int) < (len : Int) := by omega
    go_wp2_with fail
    go_ret
    exact ⟨rfl, HB.out⟩
  have hl1 : decide ((100 : Int) < (len : Int)) = false := by simp; omega
  by_cases hlen2 : len2 ≤ 100
  case neg =>
    have hl2 : (100 : Int) < (len2 : Int) := by omega
    go_wp2_with fail
    go_ret
    exact ⟨rfl, HB.out⟩
  have hl2 : decide ((100 : Int) < (len2 : Int)) = false := by simp; omega
  go_wp2_with fail
  refine (mpage_new HROW.out (by omega) HB.out 18 (by omega) (by omega)).mono ?_
  rintro e x2 ⟨l1, es, ao, n, c, rfl, hn, hmade, hown, hb⟩
  have HN := hide hn
  have HM := hide hmade
  have HR := hide hown.row
  replace HB := hide (over HB.out hb HB.out.size)
  clear hn hmade hown hb HROW
  unfold pageV
  have hbx := below_box x2 (pageBlock l1 ao n c)
  have HP := hide (pblk_new x2 l1 ao n c)
  replace HB := hide (over HB.out hbx HB.out.size)
  replace HR := hide (HR.out.step hbx)
  unfold pageBlock at HB HR HP
  clear hbx
  go_upto_region 7 with fail
  obtain ⟨P, hP⟩ : ∃ P, P = x2.heap.size := ⟨_, rfl⟩
  rw [← hP] at HP ⊢
  obtain ⟨Y1, hY1⟩ : ∃ Y1, Y1 = x2.alloc (.cells #[.int .i64 l1, .slice ao n c] 24) := ⟨_, rfl⟩
  rw [← hY1] at HB HR HP ⊢
  clear hY1
  clear hP
  go_wp2_with fail
  refine (mpage_new HROW2.out (by omega) HB.out 18 (by omega) (by omega)).mono ?_
  rintro e x3 ⟨l2, fs, bo, m, d, rfl, hn, hmade, hown, hb⟩
  have HN2 := hide hn
  have HM2 := hide hmade
  have HR2 := hide hown.row
  replace HB := hide (over HB.out hb HB.out.size)
  replace HR := hide (HR.out.step hb)
  replace HP := hide (HP.out.step hb)
  clear hn hmade hown hb HROW2
  unfold pageV
  have hbx := below_box x3 (pageBlock l2 bo m d)
  have HQ := hide (pblk_new x3 l2 bo m d)
  replace HB := hide (over HB.out hbx HB.out.size)
  replace HR := hide (HR.out.step hbx)
  replace HP := hide (HP.out.step hbx)
  replace HR2 := hide (HR2.out.step hbx)
  unfold pageBlock at HB HR HP HR2 HQ
  clear hbx
  go_upto_region 8 with fail
  obtain ⟨Q, hQ⟩ : ∃ Q, Q = x3.heap.size := ⟨_, rfl⟩
  rw [← hQ] at HQ ⊢
  obtain ⟨Y2, hY2⟩ : ∃ Y2, Y2 = x3.alloc (.cells #[.int .i64 l2, .slice bo m d] 24) := ⟨_, rfl⟩
  rw [← hY2] at HB HR HP HR2 HQ ⊢
  clear hY2
  clear hQ
  have k0 := HP.out.c0
  have k1 := HP.out.c1
  go_wp2_with fail
  clear k0 k1
  refine (pb_ok l1 ao n c es _ (a 1) (HE.out _ HB.out) HR.out HN.out HM.out.ok).mono ?_
  rintro e x4 ⟨g, rfl, hg, hox, hb⟩
  have HO := hide hox
  have HGW := hide (Nat.le_trans HB.out.size hg)
  clear hg hox
  replace HB := hide (over HB.out hb HB.out.size)
  replace HR := hide (HR.out.step hb)
  replace HP := hide (HP.out.step hb)
  replace HR2 := hide (HR2.out.step hb)
  replace HQ := hide (HQ.out.step hb)
  clear hb
  have k0 := HQ.out.c0
  have k1 := HQ.out.c1
  go_wp2_with fail
  clear k0 k1
  refine (pb_ok l2 bo m d fs _ (a 1) (HE.out _ HB.out) HR2.out HN2.out HM2.out.ok).mono ?_
  rintro e x5 ⟨g', rfl, hg, hox, hb⟩
  have HY := hide hox.row
  replace HO := hide (HO.out.below hb (Nat.le_refl _))
  replace HB := hide (over HB.out hb HB.out.size)
  replace HR := hide (HR.out.step hb)
  replace HR2 := hide (HR2.out.step hb)
  replace HP := hide (HP.out.step hb)
  replace HQ := hide (HQ.out.step hb)
  clear hb hg hox
  have HSB := hide (samePg_both HM.out.ok HM.out.fits HM2.out.ok HM2.out.fits)
  obtain ⟨q, hq⟩ : ∃ q, samePgB l1 es l2 fs = q := ⟨_, rfl⟩
  rw [hq] at HSB
  have HQ2 := hide hq
  clear hq
  go_wp2_with fail
  refine region_of_sched (S := fun w' => PBlk w' P l1 ao n c ∧ PBlk w' Q l2 bo m d) [(0, true), (1, true), (2, true), (3, true), (4, true), (5, true), (6, true), (7, true), (8, true), (9, true), (10, true), (11, true), (12, true), (13, true), (15, true), (16, true), (14, false), (17, false), (18, true), (19, true)] (by kernel_rfl) (by kernel_rfl) (by kernel_rfl) (by kernel_rfl) (fun c a d v w h => by cases d <;> exact h) ⟨HP.out, HQ.out⟩ ?_
  have hbd := below_drew (Below.refl x5.heap.size x5)
  replace HP := hide (HP.out.step hbd)
  replace HQ := hide (HQ.out.step hbd)
  replace HO := hide (HO.out.below hbd (Nat.le_refl _))
  replace HY := hide (HY.out.below hbd (Nat.le_refl _))
  replace HR := hide (HR.out.step hbd)
  replace HR2 := hide (HR2.out.step hbd)
  replace HB := hide (below_drew HB.out)
  clear hbd
  refine sched_move (i := 0) .nilIface rfl rfl rfl rfl rfl ?_
  simp only [List.set]
  refine sched_take (i := 1) rfl rfl rfl (pt_nnil rfl rfl) ?_
  simp only [List.set]
  refine sched_move (i := 2) (.bool false) rfl rfl rfl rfl rfl ?_
  simp only [List.set]
  refine sched_move (i := 3) .nilIface rfl rfl rfl rfl rfl ?_
  simp only [List.set]
  refine sched_take (i := 4) rfl rfl rfl (pt_nnil rfl rfl) ?_
  simp only [List.set]
  refine sched_pick (i := 5) false (.bool false) rfl rfl rfl rfl rfl rfl ?_
  simp only [List.set]
  refine sched_move (i := 6) (.bool false) rfl rfl rfl rfl rfl ?_
  simp only [List.set]
  refine sched_move (i := 7) (.slice (some ⟨g, 0, none⟩) 256 256) rfl rfl rfl rfl rfl ?_
  simp only [List.set]
  refine sched_take (i := 8) rfl rfl rfl (pt_len (some ⟨g, 0, none⟩) 256 256 rfl rfl rfl) ?_
  simp only [List.set]
  refine sched_take (i := 9) rfl rfl rfl (pt_nei 256 rfl rfl rfl) ?_
  simp only [List.set]
  refine sched_pick (i := 10) false (.bool false) rfl rfl rfl rfl rfl rfl ?_
  simp only [List.set]
  refine sched_move (i := 11) (.bool false) rfl rfl rfl rfl rfl ?_
  simp only [List.set]
  refine sched_move (i := 12) (.slice (some ⟨g, 0, none⟩) 256 256) rfl rfl rfl rfl rfl ?_
  simp only [List.set]
  refine sched_move (i := 13) (.slice (some ⟨g', 0, none⟩) 256 256) rfl rfl rfl rfl rfl ?_
  simp only [List.set]
  refine sched_take (i := 15) rfl rfl rfl (pt_ld rfl rfl fun w h => h.1) ?_
  simp only [List.set]
  refine sched_take (i := 16) rfl rfl rfl (pt_ld rfl rfl fun w h => h.2) ?_
  simp only [List.set]
  refine sched_call (i := 14) rfl rfl rfl rfl enters16 ((same_atB _ _ _ (pageB l1 es) _ _ _ (pageB l2 fs) _ _ HO.out.row HY.out (length_pageB _ _) (length_pageB _ _) HSB.out).mono ?_)
  rintro e y ⟨rfl, hb⟩
  refine ⟨_, rfl, ⟨HP.out.step hb, HQ.out.step hb⟩, ?_⟩
  replace HP := hide (HP.out.step hb)
  replace HQ := hide (HQ.out.step hb)
  replace HO := hide (HO.out.below hb (Nat.le_refl _))
  replace HR := hide (HR.out.step hb)
  replace HR2 := hide (HR2.out.step hb)
  replace HB := hide (over HB.out hb HB.out.size)
  clear hb
  simp only [List.set]
  refine sched_call (i := 17) rfl rfl rfl rfl enters22 ((samePage_at l1 ao n c es l2 bo m d fs _ _ HR.out HR2.out HN.out HN2.out HQ2.out).mono ?_)
  rintro e x8 ⟨rfl, hb⟩
  refine ⟨_, rfl, ⟨HP.out.step hb, HQ.out.step hb⟩, ?_⟩
  replace HP := hide (HP.out.step hb)
  replace HO := hide (HO.out.below hb (Nat.le_refl _))
  replace HB := hide (over HB.out hb HB.out.size)
  clear hb HQ HY HR HR2
  simp only [List.set]
  refine sched_take (i := 18) rfl rfl rfl (pt_neb q rfl rfl rfl) ?_
  simp only [List.set]
  refine sched_pick (i := 19) false (.bool false) rfl rfl rfl rfl rfl rfl ?_
  simp only [List.set]
  refine sched_nil ?_
  have k1 := HP.out.c1
  have hn18 : n ≤ 18 := by have h1 := HM.out.most; rw [HN.out] at h1; omega
  go_wp2_with fail
  refine (number_any _ _ _ (by omega) (by omega)).mono ?_
  rintro e x8 ⟨rfl, rfl⟩
  have hp := numberB_bd a2 10 (by omega)
  obtain ⟨p, hp'⟩ : ∃ p : Nat, numberB a2 10 = p := ⟨(numberB a2 10).toNat, by omega⟩
  rw [hp'] at hp ⊢
  have hp10 : p < 10 := by omega
  clear hp hp'
  -- from here on: one way for each place
  have HTAIL : Hid (∀ k : Nat, (6 ≤ k ∧ k < 16) ∨ (16 + n * 12 ≤ k ∧ k < 256) → isPage ((pageB l1 es).set k 3) = false) := by
    show ∀ k : Nat, _
    intro k hk
    exact page_turned HM.out.ok HM.out.fits k (by rw [HN.out]; exact hk)
  have HLB := hide (length_pageB l1 es)
  cases hodd : (bits .and .i64 a2 1 == 0)
  case false =>
    -- one of the empty bytes of the head
    have hc := HO.out.cell (6 + p) (by rw [HLB.out]; omega)
    have hfz := HO.out.frozen (6 + p)
    have hki : (6 : Int) + (p : Int) < 256 := by omega
    have hki0 : (0 : Int) ≤ (6 : Int) + (p : Int) := by omega
    have htn : ((6 : Int) + (p : Int)).toNat = 6 + p := by omega
    obtain ⟨yy, hyy⟩ : ∃ yy, yy = (pageB l1 es).getD (6 + p) 0 := ⟨_, rfl⟩
    rw [← hyy] at hc
    clear hyy
    go_upto_region 17 with fail
    clear hc hfz hki hki0 htn
    have HT := hide (HTAIL.out (6 + p) (by omega))
    have HO2 := hide (HO.out.stored (6 + p) 3 (by omega) (by omega))
    replace HB := hide (HB.out.setCell (p := ⟨g, 6 + p, none⟩) HGW.out (.int .u8 3))
    obtain ⟨Y, hY⟩ : ∃ Y, Y = x8.setCell ⟨g, 6 + p, none⟩ (.int .u8 3) := ⟨_, rfl⟩
    rw [← hY] at HO2 HB ⊢
    clear hY
    go_wp2_with fail
    refine (pread_bad _ 256 ((pageB l1 es).set (6 + p) 3) _ HO2.out.row (HE.out _ HB.out) (HEP.out _ HB.out) (by rw [List.length_set]; exact HLB.out) HT.out).mono ?_
    rintro e x9 ⟨rfl, hb⟩
    replace HB := hide (over HB.out hb HB.out.size)
    have hbx := below_box x9 (pageBlock 0 none 0 0)
    have HB2 := hide (over HB.out hbx HB.out.size)
    clear hb hbx
    have HI := hide (fun w' (h : Below w.heap.size w w') => is_err w' a 6 (by omega) 107 (by omega) (HW.out.step h))
    unfold pageBlock at HB2
    unfold errV at HI ⊢
    unfold pageV
    go_wp2_with fail
    refine (HI.out _ HB2.out).mono ?_
    rintro e x10 ⟨rfl, hb⟩
    have HB3 := hide (over HB2.out hb HB2.out.size)
    clear hb HI
    go_wp2_with fail
    go_ret
    exact ⟨rfl, HB3.out⟩
  case true =>
    have hend : (0 : Int) < 256 - (16 + 12 * (n : Int)) := by omega
    go_wp2_with fail
    refine (number_any _ _ _ (by omega) (by omega)).mono ?_
    rintro e x8 ⟨rfl, rfl⟩
    have hp := numberB_bd a2 (256 - (16 + 12 * (n : Int))) hend
    obtain ⟨r, hr⟩ : ∃ r : Nat, numberB a2 (256 - (16 + 12 * (n : Int))) = r := ⟨(numberB a2 (256 - (16 + 12 * (n : Int)))).toNat, by omega⟩
    rw [hr] at hp ⊢
    have hr2 : 16 + n * 12 + r < 256 := by omega
    clear hp hr hend
    have hc := HO.out.cell (16 + n * 12 + r) (by rw [HLB.out]; omega)
    have hfz := HO.out.frozen (16 + n * 12 + r)
    have hki : 16 + 12 * (n : Int) + (r : Int) < 256 := by omega
    have hki0 : (0 : Int) ≤ 16 + 12 * (n : Int) + (r : Int) := by omega
    have htn : (16 + 12 * (n : Int) + (r : Int)).toNat = 16 + n * 12 + r := by omega
    obtain ⟨yy, hyy⟩ : ∃ yy, yy = (pageB l1 es).getD (16 + n * 12 + r) 0 := ⟨_, rfl⟩
    rw [← hyy] at hc
    clear hyy
    go_upto_region 17 with fail
    clear hc hfz hki hki0 htn
    have HT := hide (HTAIL.out (16 + n * 12 + r) (by omega))
    have HO2 := hide (HO.out.stored (16 + n * 12 + r) 3 (by omega) (by omega))
    replace HB := hide (HB.out.setCell (p := ⟨g, 16 + n * 12 + r, none⟩) HGW.out (.int .u8 3))
    obtain ⟨Y, hY⟩ : ∃ Y, Y = x8.setCell ⟨g, 16 + n * 12 + r, none⟩ (.int .u8 3) := ⟨_, rfl⟩
    rw [← hY] at HO2 HB ⊢
    clear hY
    go_wp2_with fail
    refine (pread_bad _ 256 ((pageB l1 es).set (16 + n * 12 + r) 3) _ HO2.out.row (HE.out _ HB.out) (HEP.out _ HB.out) (by rw [List.length_set]; exact HLB.out) HT.out).mono ?_
    rintro e x9 ⟨rfl, hb⟩
    replace HB := hide (over HB.out hb HB.out.size)
    have hbx := below_box x9 (pageBlock 0 none 0 0)
    have HB2 := hide (over HB.out hbx HB.out.size)
    clear hb hbx
    have HI := hide (fun w' (h : Below w.heap.size w w') => is_err w' a 6 (by omega) 107 (by omega) (HW.out.step h))
    unfold pageBlock at HB2
    unfold errV at HI ⊢
    unfold pageV
    go_wp2_with fail
    refine (HI.out _ HB2.out).mono ?_
    rintro e x10 ⟨rfl, hb⟩
    have HB3 := hide (over HB2.out hb HB2.out.size)
    clear hb HI
    go_wp2_with fail
    go_ret
    exact ⟨rfl, HB3.out⟩
end Go.Proofs.YtefgmlmhdjckaaaDoor.pageUnlike
