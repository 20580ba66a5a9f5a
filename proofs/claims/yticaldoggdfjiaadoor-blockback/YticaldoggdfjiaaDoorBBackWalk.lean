
/- What the statement BlockBack asks comes out true, at all arguments; nothing that was there is written. -/
import Derived.Test.YticaldoggdfjiaaDoorBlockTools
import Derived.Test.YticaldoggdfjiaaDoorLay
namespace Go.Proofs.YticaldoggdfjiaaDoor.blockBack
open Go.RowKit
set_option linter.unusedVariables false

theorem byteAt_set_ne (xs : List Int) (k : Nat) (v p : Int) (h : p ≠ k) : byteAt (xs.set k v) p = byteAt xs p := by
  unfold byteAt
  rw [List.length_set]
  split
  · rename_i hp
    exact getD_set_ne xs k p.toNat v (by omega)
  · rfl
theorem turned_gap (e : Int) (rs : List R) (h : rs.length ≤ 6) (p : Nat) (h0 : 10 ≤ p) (h1 : p < 16) : isBlock ((blockB e rs).set p 1) = false := by
  refine isBlock_gap (p : Int) (by omega) (by omega) ?_
  rw [byteAt_set _ _ _ (by rw [length_blockB e rs h]; omega)]
  decide
theorem turned_out (e : Int) (rs : List R) (h : rs.length ≤ 6) (p : Nat) (h0 : 16 + 40 * rs.length ≤ p) (h1 : p < 256) : isBlock ((blockB e rs).set p 1) = false := by
  have hm : manyOf ((blockB e rs).set p 1) = rs.length := by
    rw [← many_blockB e rs h]
    unfold manyOf countOf
    rw [getB_congr ((blockB e rs).set p 1) (blockB e rs) 8 2 fun q hq hq' => byteAt_set_ne _ _ _ _ (by omega)]
  refine isBlock_out (p : Int) (by rw [hm]; omega) ?_
  rw [byteAt_set _ _ _ (by rw [length_blockB e rs h]; omega)]
  decide
theorem ok_zero (rs : List R) : okB 0 rs = false := by unfold okB; rw [Bool.and_eq_false_iff]; exact .inl (decide_eq_false (by omega))
theorem ok_nil (e : Int) : okB e [] = false := by unfold okB; rw [Bool.and_eq_false_iff]; exact .inl (decide_eq_false (by simp))
set_option maxRecDepth 100000 in
set_option maxHeartbeats 16000000 in
theorem walk (a0 : Int) (a1 : Option Addr) (len1 cap1 : Nat) (z1 : List Int) (a2 : Int) (w : World) (w0 : (Lit.int .i64 a0).wf = true) (w1 : IsRow .i64 w a1 len1 cap1 z1) (w2 : (Lit.int .i64 a2).wf = true) {a : Nat → Addr} (he : ErrsOf w all18 a) :
    Calls Tryd.prog 6 #[.int .i64 a0, .slice a1 len1 cap1, .int .i64 a2] w fun e w' => e = .returned (.bool true) ∧ Below w.heap.size w w' := by
  have HE := hide (errs_blk he (mem18 (by omega)) (mem18 (by omega)) (mem18 (by omega)) (mem18 (by omega)))
  have HW := hide he
  have HI := hide w1
  clear he w0 w1 w2
  go_enter Tryd.func6, Tryd.ntmps6
  go_wp2_with fail
  refine (bfirst_any _ HE.out).mono ?_
  rintro e x1 ⟨rfl, hb⟩
  have HB := hide hb
  clear hb
  by_cases hl : len1 ≤ 150
  case neg =>
    have hli : (150 : Int) < (len1 : Int) := by omega
    go_wp2_with fail
    go_ret
    exact ⟨rfl, HB.out⟩
  have hli : decide ((150 : Int) < (len1 : Int)) = false := by simp; omega
  have HL := hide hl
  clear hl
  go_wp2_with fail
  refine (number_big _ _ _ (by omega) (by omega)).mono ?_
  rintro e y1 ⟨rfl, rfl⟩
  have hep := numberB_bd a0 1073741824 (by omega)
  obtain ⟨ep0, hep0⟩ : ∃ ep, ep = numberB a0 1073741824 := ⟨_, rfl⟩
  rw [← hep0] at hep ⊢
  clear hep0
  obtain ⟨he0, he1⟩ := hep
  go_wp2_with fail
  refine (recs_new 5 (by omega) (by omega) HI.out HL.out HB.out).mono ?_
  rintro e x2 ⟨so, sc, k, B, rs, rfl, hk, hk5, ⟨hB0, hB1⟩, hown, hgood, ⟨n1, hn1, hS⟩, hb⟩
  have HSZ := hide HB.out.size
  have HWB := hide (Nat.le_trans HSZ.out (Nat.le_of_lt hB0))
  replace HB := hide hb
  have HO := hide hown
  have HG := hide hgood
  have HS := hide hS
  have HK := hide hk
  have HB0 := hide hB0
  have HB1 := hide hB1
  clear hb hown hgood hS hk hB0 hB1
  have hk6 : k ≤ 5 := by omega
  go_wp2_with fail
  refine (rec_next HS.out (by omega) HB.out HSZ.out).mono ?_
  rintro e x3 ⟨r, rfl, hg, hf, _, hbut, hb⟩
  replace HO := hide (HO.out.but hbut HB0.out)
  replace HB1 := hide (Nat.le_trans HB1.out hbut.size)
  replace HB := hide hb
  replace HG := hide (snoc_all HG.out ⟨hg, hf⟩)
  clear hb hbut hg hf HS HB0 HI
  go_wp2_with (first | (refine build1 r rfl ?_) | (at_builtin; refine append1 B so k sc rs r rfl HK.out HO.out (by omega) (by first | rfl | (simp; rfl)) HB1.out ?_; intro ao3 c3 x4 hown3 hb3; have HO3 := hide hown3; have HB3 := hide hb3; clear hown3 hb3))
  replace HB := hide (HB.out.trans (HB3.out.mono HWB.out))
  obtain ⟨ss, hss⟩ : ∃ ss, ss = rs ++ [r] := ⟨_, rfl⟩
  have HSL : Hid (ss.length = k + 1) := by show ss.length = _; rw [hss, List.length_append, HK.out]; rfl
  rw [← hss] at HO3 HG
  clear hss HO HK HB1 HB3
  have HR4 := hide HO3.out.row
  have HL6 : Hid (ss.length ≤ 6) := by show ss.length ≤ 6; rw [HSL.out]; omega
  have HOK : Hid (okB (ep0 + 1) ss = true) := ok_all (by omega) (by omega) (by rw [HSL.out]; omega) HL6.out HG.out
  refine (bb_ok (x := a 1) (HE.out.step HB.out).rd.range HR4.out HSL.out HOK.out).mono ?_
  rintro e x5 ⟨g, rfl, hg, hown, hb⟩
  have HO := hide hown
  have HGS := hide hg
  have HGW := hide (Nat.le_trans HB.out.size hg)
  have HBE := hide hb
  replace HB := hide (over HB.out hb HB.out.size)
  clear hown hg hb HO3
  obtain ⟨bs, hbs⟩ : ∃ bs, bs = blockB (ep0 + 1) ss := ⟨_, rfl⟩
  have HBS := hide hbs
  have HLB : Hid (bs.length = 256) := by show bs.length = 256; rw [hbs]; exact length_blockB _ _ HL6.out
  rw [← hbs] at HO
  clear hbs
  have HFX : Hid (isBlock bs = true ∧ epochOf bs = ep0 + 1 ∧ recsOf bs = ss) := by show _ ∧ _; rw [HBS.out]; exact isBlock_blockB _ _ HOK.out fun r hr => (HG.out r hr).2
  have HNZ : Hid (zeroB bs = false) := by show zeroB bs = false; rw [HBS.out]; exact blockB_not_zero _ _ HL6.out _ (length_blockB _ _ HL6.out) 300 fun _ _ => rfl
  go_wp2_with fail
  refine (bread_any _ _ bs _ (HE.out.step HB.out) HO.out.row HLB.out (by omega) HNZ.out).mono ?_
  rintro e x6 ⟨hcase, hb⟩
  replace HO := hide (HO.out.below hb (Nat.le_refl _))
  replace HR4 := hide ((HR4.out.below HBE.out (Nat.le_refl _)).step hb)
  replace HB := hide (over HB.out hb HB.out.size)
  clear hb HBE HGS HGW
  rcases hcase with ⟨hib, lo, lc, rfl, hown⟩ | ⟨hib, rfl⟩
  case inr => rw [HFX.out.1] at hib; cases hib
  have HM := hide hown.row
  clear hib hown
  have HQ : Hid ((recsOf bs).length = manyOf bs) := length_recsOf bs
  rw [HFX.out.2.2] at HM HQ
  rw [HFX.out.2.1]
  obtain ⟨q, hq⟩ : ∃ q, q = manyOf bs := ⟨_, rfl⟩
  rw [← hq] at HQ ⊢
  clear hq
  go_wp2_with fail
  refine (copy_len _ _ _ bs _ HO.out.row HLB.out).mono ?_
  rintro e x7 ⟨g7, rfl, hg7, hown7, hb⟩
  have HG7 := hide hg7
  have HW7 := hide (Nat.le_trans HB.out.size hg7)
  have HO7 := hide hown7
  have HBC := hide hb
  replace HB := hide (over HB.out hb HB.out.size)
  clear hown7 hg7 hb HO
  go_wp2_with fail
  refine (number_any _ _ _ (by omega) (by omega)).mono ?_
  rintro e x8 ⟨rfl, rfl⟩
  have hp := numberB_bd a2 6 (by omega)
  obtain ⟨p, hp'⟩ : ∃ p : Nat, numberB a2 6 = p := ⟨(numberB a2 6).toNat, by omega⟩
  rw [hp'] at hp ⊢
  have hp6 : p < 6 := by omega
  clear hp hp'
  have hb7 := HLB.out
  by_cases hk5 : k = 5
  · subst hk5
    have hpp : 10 + p < 256 := by omega
    have hc := HO7.out.cell (10 + p) (by rw [HLB.out]; exact hpp)
    have hfz := HO7.out.frozen (10 + p)
    obtain ⟨y, hy⟩ : ∃ y, y = bs.getD (10 + p) 0 := ⟨_, rfl⟩
    rw [← hy] at hc
    clear hy
    go_wp2_with fail
    clear hc hfz
    have HOC := hide (HO7.out.stored (10 + p) 1 (by omega) (by omega))
    have HBK := hide (HB.out.setCell (p := ⟨g7, (10 + p), none⟩) HW7.out (.int .u8 1))
    have HRR := hide (HR4.out.below (HBC.out.setCell (p := ⟨g7, (10 + p), none⟩) HG7.out (.int .u8 1)) (Nat.le_refl _))
    have HMM := hide (HM.out.below (HBC.out.setCell (p := ⟨g7, (10 + p), none⟩) HG7.out (.int .u8 1)) (Nat.le_refl _))
    have HXL : Hid ((bs.set (10 + p) 1).length = 256) := by show (bs.set _ _).length = 256; rw [List.length_set]; exact HLB.out
    have HXZ : Hid (zeroB (bs.set (10 + p) 1) = false) := by show zeroB (bs.set _ _) = false; rw [HBS.out]; exact turned_not _ _ HL6.out _ _
    have HXI : Hid (isBlock (bs.set (10 + p) 1) = false) := by show isBlock (bs.set _ _) = false; rw [HBS.out]; exact turned_gap _ _ HL6.out _ (by omega) (by omega)
    refine (bread_any _ _ (bs.set (10 + p) 1) _ (HE.out.step HBK.out) HOC.out.row HXL.out (by omega) HXZ.out).mono ?_
    rintro e x9 ⟨hcase, hb⟩
    replace HRR := hide (HRR.out.step hb)
    replace HMM := hide (HMM.out.step hb)
    replace HBK := hide (over HBK.out hb HBK.out.size)
    clear hb HOC
    rcases hcase with ⟨hib, lo9, lc9, rfl, hown⟩ | ⟨hib, rfl⟩
    case inl => rw [HXI.out] at hib; cases hib
    clear hib
    go_wp2_with fail
    refine (bb_no (x := a 1) (HE.out.step HBK.out).rd.range HRR.out HSL.out (ok_zero ss)).mono ?_
    rintro e x10 ⟨rfl, hb⟩
    replace HRR := hide (HRR.out.step hb)
    replace HMM := hide (HMM.out.step hb)
    replace HBK := hide (over HBK.out hb HBK.out.size)
    clear hb
    go_wp2_with fail
    refine (bb_no (x := a 1) (HE.out.step HBK.out).rd.range (recRow_nil _) rfl (ok_nil (ep0 + 1))).mono ?_
    rintro e x11 ⟨rfl, hb⟩
    replace HRR := hide (HRR.out.step hb)
    replace HMM := hide (HMM.out.step hb)
    replace HBK := hide (over HBK.out hb HBK.out.size)
    clear hb
    go_wp2_with fail
    refine (sameRecs_any _ _ _ ss _ _ _ ss _ HMM.out HRR.out HQ.out HSL.out).mono ?_
    rintro e x12 ⟨rfl, hb⟩
    rw [(sameRs_iff ss ss).2 rfl]
    replace HBK := hide (over HBK.out hb HBK.out.size)
    clear hb
    go_wp2_with fail
    refine (is_err _ a 4 (by omega) _ (by omega) (HW.out.step HBK.out)).mono ?_
    rintro e x13 ⟨rfl, hb⟩
    replace HBK := hide (over HBK.out hb HBK.out.size)
    clear hb
    go_wp2_with fail
    refine (is_err _ a 1 (by omega) _ (by omega) (HW.out.step HBK.out)).mono ?_
    rintro e x14 ⟨rfl, hb⟩
    replace HBK := hide (over HBK.out hb HBK.out.size)
    clear hb
    go_wp2_with fail
    refine (is_err _ a 1 (by omega) _ (by omega) (HW.out.step HBK.out)).mono ?_
    rintro e x15 ⟨rfl, hb⟩
    replace HBK := hide (over HBK.out hb HBK.out.size)
    clear hb
    go_wp2_with fail
    go_ret
    exact ⟨rfl, HBK.out⟩
  · have hend : (16 : Int) + 40 * ((k : Int) + 1) < 256 := by omega
    by_cases hand : (bits .and .i64 a2 1 == 1) = true
    · go_wp2_with fail
      refine (number_big _ _ _ (by omega) (by omega)).mono ?_
      rintro e x8' ⟨rfl, rfl⟩
      have hq := numberB_bd a2 (256 - (16 + 40 * ((k : Int) + 1))) (by omega)
      obtain ⟨p2, hp2⟩ : ∃ p2 : Nat, numberB a2 (256 - (16 + 40 * ((k : Int) + 1))) = p2 := ⟨(numberB a2 (256 - (16 + 40 * ((k : Int) + 1)))).toNat, by omega⟩
      rw [hp2] at hq ⊢
      have hpp : 16 + 40 * (k + 1) + p2 < 256 := by omega
      clear hp2
      have hc := HO7.out.cell (16 + 40 * (k + 1) + p2) (by rw [HLB.out]; exact hpp)
      have hfz := HO7.out.frozen (16 + 40 * (k + 1) + p2)
      obtain ⟨y, hy⟩ : ∃ y, y = bs.getD (16 + 40 * (k + 1) + p2) 0 := ⟨_, rfl⟩
      rw [← hy] at hc
      clear hy
      go_wp2_with fail
      clear hc hfz
      have HOC := hide (HO7.out.stored (16 + 40 * (k + 1) + p2) 1 (by omega) (by omega))
      have HBK := hide (HB.out.setCell (p := ⟨g7, (16 + 40 * (k + 1) + p2), none⟩) HW7.out (.int .u8 1))
      have HRR := hide (HR4.out.below (HBC.out.setCell (p := ⟨g7, (16 + 40 * (k + 1) + p2), none⟩) HG7.out (.int .u8 1)) (Nat.le_refl _))
      have HMM := hide (HM.out.below (HBC.out.setCell (p := ⟨g7, (16 + 40 * (k + 1) + p2), none⟩) HG7.out (.int .u8 1)) (Nat.le_refl _))
      have HXL : Hid ((bs.set (16 + 40 * (k + 1) + p2) 1).length = 256) := by show (bs.set _ _).length = 256; rw [List.length_set]; exact HLB.out
      have HXZ : Hid (zeroB (bs.set (16 + 40 * (k + 1) + p2) 1) = false) := by show zeroB (bs.set _ _) = false; rw [HBS.out]; exact turned_not _ _ HL6.out _ _
      have HXI : Hid (isBlock (bs.set (16 + 40 * (k + 1) + p2) 1) = false) := by show isBlock (bs.set _ _) = false; rw [HBS.out]; exact turned_out _ _ HL6.out _ (by rw [HSL.out]; omega) hpp
      refine (bread_any _ _ (bs.set (16 + 40 * (k + 1) + p2) 1) _ (HE.out.step HBK.out) HOC.out.row HXL.out (by omega) HXZ.out).mono ?_
      rintro e x9 ⟨hcase, hb⟩
      replace HRR := hide (HRR.out.step hb)
      replace HMM := hide (HMM.out.step hb)
      replace HBK := hide (over HBK.out hb HBK.out.size)
      clear hb HOC
      rcases hcase with ⟨hib, lo9, lc9, rfl, hown⟩ | ⟨hib, rfl⟩
      case inl => rw [HXI.out] at hib; cases hib
      clear hib
      go_wp2_with fail
      refine (bb_no (x := a 1) (HE.out.step HBK.out).rd.range HRR.out HSL.out (ok_zero ss)).mono ?_
      rintro e x10 ⟨rfl, hb⟩
      replace HRR := hide (HRR.out.step hb)
      replace HMM := hide (HMM.out.step hb)
      replace HBK := hide (over HBK.out hb HBK.out.size)
      clear hb
      go_wp2_with fail
      refine (bb_no (x := a 1) (HE.out.step HBK.out).rd.range (recRow_nil _) rfl (ok_nil (ep0 + 1))).mono ?_
      rintro e x11 ⟨rfl, hb⟩
      replace HRR := hide (HRR.out.step hb)
      replace HMM := hide (HMM.out.step hb)
      replace HBK := hide (over HBK.out hb HBK.out.size)
      clear hb
      go_wp2_with fail
      refine (sameRecs_any _ _ _ ss _ _ _ ss _ HMM.out HRR.out HQ.out HSL.out).mono ?_
      rintro e x12 ⟨rfl, hb⟩
      rw [(sameRs_iff ss ss).2 rfl]
      replace HBK := hide (over HBK.out hb HBK.out.size)
      clear hb
      go_wp2_with fail
      refine (is_err _ a 4 (by omega) _ (by omega) (HW.out.step HBK.out)).mono ?_
      rintro e x13 ⟨rfl, hb⟩
      replace HBK := hide (over HBK.out hb HBK.out.size)
      clear hb
      go_wp2_with fail
      refine (is_err _ a 1 (by omega) _ (by omega) (HW.out.step HBK.out)).mono ?_
      rintro e x14 ⟨rfl, hb⟩
      replace HBK := hide (over HBK.out hb HBK.out.size)
      clear hb
      go_wp2_with fail
      refine (is_err _ a 1 (by omega) _ (by omega) (HW.out.step HBK.out)).mono ?_
      rintro e x15 ⟨rfl, hb⟩
      replace HBK := hide (over HBK.out hb HBK.out.size)
      clear hb
      go_wp2_with fail
      go_ret
      exact ⟨rfl, HBK.out⟩
    · have hand' : (bits .and .i64 a2 1 == 1) = false := by simpa using hand
      clear hand
      have hpp : 10 + p < 256 := by omega
      have hc := HO7.out.cell (10 + p) (by rw [HLB.out]; exact hpp)
      have hfz := HO7.out.frozen (10 + p)
      obtain ⟨y, hy⟩ : ∃ y, y = bs.getD (10 + p) 0 := ⟨_, rfl⟩
      rw [← hy] at hc
      clear hy
      go_wp2_with fail
      clear hc hfz
      have HOC := hide (HO7.out.stored (10 + p) 1 (by omega) (by omega))
      have HBK := hide (HB.out.setCell (p := ⟨g7, (10 + p), none⟩) HW7.out (.int .u8 1))
      have HRR := hide (HR4.out.below (HBC.out.setCell (p := ⟨g7, (10 + p), none⟩) HG7.out (.int .u8 1)) (Nat.le_refl _))
      have HMM := hide (HM.out.below (HBC.out.setCell (p := ⟨g7, (10 + p), none⟩) HG7.out (.int .u8 1)) (Nat.le_refl _))
      have HXL : Hid ((bs.set (10 + p) 1).length = 256) := by show (bs.set _ _).length = 256; rw [List.length_set]; exact HLB.out
      have HXZ : Hid (zeroB (bs.set (10 + p) 1) = false) := by show zeroB (bs.set _ _) = false; rw [HBS.out]; exact turned_not _ _ HL6.out _ _
      have HXI : Hid (isBlock (bs.set (10 + p) 1) = false) := by show isBlock (bs.set _ _) = false; rw [HBS.out]; exact turned_gap _ _ HL6.out _ (by omega) (by omega)
      refine (bread_any _ _ (bs.set (10 + p) 1) _ (HE.out.step HBK.out) HOC.out.row HXL.out (by omega) HXZ.out).mono ?_
      rintro e x9 ⟨hcase, hb⟩
      replace HRR := hide (HRR.out.step hb)
      replace HMM := hide (HMM.out.step hb)
      replace HBK := hide (over HBK.out hb HBK.out.size)
      clear hb HOC
      rcases hcase with ⟨hib, lo9, lc9, rfl, hown⟩ | ⟨hib, rfl⟩
      case inl => rw [HXI.out] at hib; cases hib
      clear hib
      go_wp2_with fail
      refine (bb_no (x := a 1) (HE.out.step HBK.out).rd.range HRR.out HSL.out (ok_zero ss)).mono ?_
      rintro e x10 ⟨rfl, hb⟩
      replace HRR := hide (HRR.out.step hb)
      replace HMM := hide (HMM.out.step hb)
      replace HBK := hide (over HBK.out hb HBK.out.size)
      clear hb
      go_wp2_with fail
      refine (bb_no (x := a 1) (HE.out.step HBK.out).rd.range (recRow_nil _) rfl (ok_nil (ep0 + 1))).mono ?_
      rintro e x11 ⟨rfl, hb⟩
      replace HRR := hide (HRR.out.step hb)
      replace HMM := hide (HMM.out.step hb)
      replace HBK := hide (over HBK.out hb HBK.out.size)
      clear hb
      go_wp2_with fail
      refine (sameRecs_any _ _ _ ss _ _ _ ss _ HMM.out HRR.out HQ.out HSL.out).mono ?_
      rintro e x12 ⟨rfl, hb⟩
      rw [(sameRs_iff ss ss).2 rfl]
      replace HBK := hide (over HBK.out hb HBK.out.size)
      clear hb
      go_wp2_with fail
      refine (is_err _ a 4 (by omega) _ (by omega) (HW.out.step HBK.out)).mono ?_
      rintro e x13 ⟨rfl, hb⟩
      replace HBK := hide (over HBK.out hb HBK.out.size)
      clear hb
      go_wp2_with fail
      refine (is_err _ a 1 (by omega) _ (by omega) (HW.out.step HBK.out)).mono ?_
      rintro e x14 ⟨rfl, hb⟩
      replace HBK := hide (over HBK.out hb HBK.out.size)
      clear hb
      go_wp2_with fail
      refine (is_err _ a 1 (by omega) _ (by omega) (HW.out.step HBK.out)).mono ?_
      rintro e x15 ⟨rfl, hb⟩
      replace HBK := hide (over HBK.out hb HBK.out.size)
      clear hb
      go_wp2_with fail
      go_ret
      exact ⟨rfl, HBK.out⟩
end Go.Proofs.YticaldoggdfjiaaDoor.blockBack
