
/- What the statement BlockTurned asks comes out true, at all arguments; nothing that was there is written. -/
import Derived.Test.YticaldoggdfjiaaDoorBlockTools
import Derived.Test.YticaldoggdfjiaaDoorLay
namespace Go.Proofs.YticaldoggdfjiaaDoor.blockTurned
open Go.RowKit
set_option linter.unusedVariables false

set_option maxRecDepth 100000 in
set_option maxHeartbeats 8000000 in
theorem walk (a0 : Int) (a1 : Option Addr) (len1 cap1 : Nat) (z1 : List Int) (a2 a3 : Int) (w : World) (w0 : (Lit.int .i64 a0).wf = true) (w1 : IsRow .i64 w a1 len1 cap1 z1) (w2 : (Lit.int .i64 a2).wf = true) (w3 : (Lit.int .u8 a3).wf = true) {a : Nat → Addr} (he : ErrsOf w [1, 2, 3, 4] a) :
    Calls Tryd.prog 4 #[.int .i64 a0, .slice a1 len1 cap1, .int .i64 a2, .int .u8 a3] w fun e w' => e = .returned (.bool true) ∧ Below w.heap.size w w' := by
  have HE := hide (errs_blk he (by decide) (by decide) (by decide) (by decide))
  have HI := hide w1
  have b3 := wf_u8 w3
  clear he w0 w1 w2 w3
  obtain ⟨b3a, b3b⟩ := b3
  go_enter Tryd.func4, Tryd.ntmps4
  go_wp2_with fail
  refine (bfirst_any _ HE.out).mono ?_
  rintro e x1 ⟨rfl, hb⟩
  have HB := hide hb
  clear hb
  by_cases hl : len1 ≤ 150
  · by_cases hz : a3 = 0
    · subst hz
      have hli : decide ((150 : Int) < (len1 : Int)) = false := by simp; omega
      clear b3a b3b
      go_wp2_with fail
      go_ret
      exact ⟨rfl, HB.out⟩
    · have hli : decide ((150 : Int) < (len1 : Int)) = false := by simp; omega
      have hz1 : (a3 == 0) = false := by simp; exact hz
      have HZ := hide hz
      have HL := hide hl
      clear hz hl
      go_wp2_with fail
      refine (number_big _ _ _ (by omega) (by omega)).mono ?_
      rintro e y1 ⟨rfl, rfl⟩
      have hep := numberB_bd a0 1000000 (by omega)
      obtain ⟨ep0, hep0⟩ : ∃ ep, ep = numberB a0 1000000 := ⟨_, rfl⟩
      rw [← hep0] at hep ⊢
      clear hep0
      obtain ⟨he0, he1⟩ := hep
      go_wp2_with fail
      refine (recs_new 5 (by omega) (by omega) HI.out HL.out HB.out).mono ?_
      rintro e x2 ⟨so, sc, k, B, rs, rfl, hk, hk5, ⟨hB0, hB1⟩, hown, hgood, ⟨n1, hn1, hS⟩, hb⟩
      have HSZ := hide HB.out.size
      have HWB := hide (Nat.le_trans HSZ.out (Nat.le_of_lt hB0))
      replace HB := hide hb
      have HO := hide hown
      have HG := hide hgood
      have HS := hide hS
      have HK := hide hk
      have HB0 := hide hB0
      have HB1 := hide hB1
      clear hb hown hgood hS hk hB0 hB1
      have hk6 : k ≤ 5 := by omega
      go_wp2_with fail
      refine (rec_next HS.out (by omega) HB.out HSZ.out).mono ?_
      rintro e x3 ⟨r, rfl, hg, hf, _, hbut, hb⟩
      replace HO := hide (HO.out.but hbut HB0.out)
      replace HB1 := hide (Nat.le_trans HB1.out hbut.size)
      replace HB := hide hb
      replace HG := hide (snoc_all HG.out ⟨hg, hf⟩)
      clear hb hbut hg hf HS HB0 HI
      go_wp2_with (first | (refine build1 r rfl ?_) | (at_builtin; refine append1 B so k sc rs r rfl HK.out HO.out (by omega) (by first | rfl | (simp; rfl)) HB1.out ?_; intro ao3 c3 x4 hown3 hb3; have HO3 := hide hown3; have HB3 := hide hb3; clear hown3 hb3))
      replace HB := hide (HB.out.trans (HB3.out.mono HWB.out))
      obtain ⟨ss, hss⟩ : ∃ ss, ss = rs ++ [r] := ⟨_, rfl⟩
      have HSL : Hid (ss.length = k + 1) := by show ss.length = _; rw [hss, List.length_append, HK.out]; rfl
      rw [← hss] at HO3 HG
      clear hss HO HK HB1 HB3
      have HR4 := hide HO3.out.row
      have HL6 : Hid (ss.length ≤ 6) := by show ss.length ≤ 6; rw [HSL.out]; omega
      have HOK : Hid (okB (ep0 + 1) ss = true) := ok_all (by omega) (by omega) (by rw [HSL.out]; omega) HL6.out HG.out
      refine (bb_ok (x := a 1) (HE.out.step HB.out).rd.range HR4.out HSL.out HOK.out).mono ?_
      rintro e x5 ⟨g, rfl, hg, hown, hb⟩
      have HO := hide hown
      have HGS := hide hg
      have HGW := hide (Nat.le_trans HB.out.size hg)
      have HBE := hide hb
      replace HB := hide (over HB.out hb HB.out.size)
      clear hown hg hb HO3
      obtain ⟨bs, hbs⟩ : ∃ bs, bs = blockB (ep0 + 1) ss := ⟨_, rfl⟩
      have HBS := hide hbs
      have HLB : Hid (bs.length = 256) := by show bs.length = 256; rw [hbs]; exact length_blockB _ _ HL6.out
      rw [← hbs] at HO
      clear hbs
      go_wp2_with fail
      refine (number_any _ _ _ (by omega) (by omega)).mono ?_
      rintro e x6 ⟨rfl, rfl⟩
      have hp := numberB_bd a2 256 (by omega)
      obtain ⟨p, hp'⟩ : ∃ p : Nat, numberB a2 256 = p := ⟨(numberB a2 256).toNat, by omega⟩
      rw [hp'] at hp ⊢
      have hp256 : p < 256 := by omega
      have hpi : (p : Int) < 256 := by omega
      clear hp hp'
      have hc := HO.out.cell p (by rw [HLB.out]; exact hp256)
      have hyb := HO.out.2.1.getD p
      obtain ⟨y, hy⟩ : ∃ y, y = bs.getD p 0 := ⟨_, rfl⟩
      rw [← hy] at hc hyb
      have HY := hide hy
      have HYB := hide hyb
      clear hy hyb
      have hfz := HO.out.frozen p
      have hxb := xor_bd y a3
      have HV := hide (xor_ne y a3 HYB.out ⟨b3a, b3b⟩ HZ.out)
      obtain ⟨v, hv⟩ : ∃ v, v = bits .xor .u8 y a3 := ⟨_, rfl⟩
      rw [← hv] at hxb HV
      have HVE := hide hv
      have HXB := hide hxb
      clear hv hxb
      go_wp2_with fail
      clear hc hfz
      rw [← HVE.out]
      have HO6 := hide (HO.out.stored p v HXB.out.1 HXB.out.2)
      have HB6 := hide (HB.out.setCell (p := ⟨g, p, none⟩) HGW.out (.int .u8 v))
      have HR6 := hide (HR4.out.below (HBE.out.setCell (p := ⟨g, p, none⟩) HGS.out (.int .u8 v)) (Nat.le_refl _))
      clear HO HB HR4 HBE
      obtain ⟨xs, hxs⟩ : ∃ xs, xs = bs.set p v := ⟨_, rfl⟩
      have HXL : Hid (xs.length = 256) := by show xs.length = 256; rw [hxs, List.length_set]; exact HLB.out
      have HXZ : Hid (zeroB xs = false) := by show zeroB xs = false; rw [hxs, HBS.out]; exact turned_not _ _ HL6.out p v
      have HXO : Hid (isBlock xs = true → epochOf xs = ep0 + 1 → sameRs (recsOf xs) ss = false) := by
        intro h1 h2
        rw [hxs, HBS.out] at h1 h2 ⊢
        exact turned_other HL6.out hp256 (by rw [← HBS.out, ← HY.out]; exact HV.out) h1 h2
      rw [← hxs] at HO6
      clear hxs HVE HV HY
      obtain ⟨X, hX⟩ : ∃ X, X = x6.setCell ⟨g, p, none⟩ (.int .u8 v) := ⟨_, rfl⟩
      rw [← hX] at HO6 HB6 HR6 ⊢
      clear hX
      refine (bread_any _ _ xs _ (HE.out.step HB6.out) HO6.out.row HXL.out (by omega) HXZ.out).mono ?_
      rintro e x7 ⟨hcase, hb⟩
      replace HO6 := hide (HO6.out.below hb (Nat.le_refl _))
      replace HR6 := hide (HR6.out.step hb)
      have HB7 := hide (over HB6.out hb HB6.out.size)
      clear hb HB6
      rcases hcase with ⟨hib, lo, lc, rfl, hown⟩ | ⟨hib, rfl⟩
      · have HIB := hide hib
        have HM := hide hown.row
        have HQ : Hid ((recsOf xs).length = manyOf xs) := length_recsOf xs
        have hq6 := manyOf_le xs
        have HP := hide (isBlock_parts hib).2
        clear hib hown
        obtain ⟨q, hq⟩ : ∃ q, q = manyOf xs := ⟨_, rfl⟩
        rw [← hq] at HQ hq6 ⊢
        clear hq
        obtain ⟨ee, hee⟩ : ∃ ee, ee = epochOf xs := ⟨_, rfl⟩
        rw [← hee] at HP HXO ⊢
        clear hee
        go_wp2_with fail
        refine (bb_ok (x := a 1) (HE.out.step HB7.out).rd.range HM.out HQ.out HP.out.1).mono ?_
        rintro e x8 ⟨g8, rfl, hg8, hown8, hb8⟩
        rw [HP.out.2] at hown8
        have HO8 := hide hown8
        replace HO6 := hide (HO6.out.below hb8 (Nat.le_refl _))
        replace HR6 := hide (HR6.out.step hb8)
        replace HM := hide (HM.out.step hb8)
        have HB8 := hide (over HB7.out hb8 HB7.out.size)
        clear hg8 hown8 hb8 HB7
        by_cases hee : ee = ep0 + 1
        · have HSF := hide (HXO.out HIB.out hee)
          have hne : (ee != ep0 + 1) = false := by simp; exact hee
          clear hee
          go_wp2_with fail
          refine (sameRecs_any _ _ _ (recsOf xs) _ _ _ ss _ HM.out HR6.out HQ.out HSL.out).mono ?_
          rintro e x9 ⟨rfl, hb9⟩
          rw [HSF.out]
          replace HO6 := hide (HO6.out.below hb9 (Nat.le_refl _))
          replace HO8 := hide (HO8.out.below hb9 (Nat.le_refl _))
          replace HB8 := hide (over HB8.out hb9 HB8.out.size)
          clear hb9
          go_wp2_with fail
          refine (same_len _ _ _ xs _ _ _ xs _ HO6.out.row HO8.out.row HXL.out HXL.out).mono ?_
          rintro e x10 ⟨rfl, nd, rfl⟩
          rw [sameB_true rfl]
          go_wp2_with fail
          go_ret
          exact ⟨rfl, below_drewN HB8.out _⟩
        · have hne : (ee != ep0 + 1) = true := by simp; exact hee
          clear hee
          go_wp2_with fail
          refine (same_len _ _ _ xs _ _ _ xs _ HO6.out.row HO8.out.row HXL.out HXL.out).mono ?_
          rintro e x10 ⟨rfl, nd, rfl⟩
          rw [sameB_true rfl]
          go_wp2_with fail
          go_ret
          exact ⟨rfl, below_drewN HB8.out _⟩
      · clear hib
        unfold errV
        go_wp2_with fail
        go_ret
        exact ⟨rfl, HB7.out⟩
  · have hli : (150 : Int) < (len1 : Int) := by omega
    go_wp2_with fail
    go_ret
    exact ⟨rfl, HB.out⟩
end Go.Proofs.YticaldoggdfjiaaDoor.blockTurned
