
/- What the statement WalStale asks comes out true, at every three numbers; nothing that was there is written. -/
import Derived.Test.YtgjhnkadfdcafaaDoorOwnWStaleMath
import Derived.Test.YtgjhnkadfdcafaaDoorJoin32
namespace Go.Proofs.YtgjhnkadfdcafaaDoor.walStale
open Go.RowKit
set_option linter.unusedVariables false

theorem okS {e : Int} {n : Nat} (h : 1 ≤ e ∧ e ≤ 1073741824) (h1 : 1 ≤ n) (h2 : n ≤ 6) : okB e (cks n) = true := (okB_iff _ _).2 ⟨⟨h.1, h.2, by rw [length_cks]; exact h1, by rw [length_cks]; exact h2⟩, fun r hr => (cks_good n r hr).1⟩
set_option maxRecDepth 100000 in
set_option maxHeartbeats 32000000 in
theorem walk (a0 a1 a2 : Int) (w : World) (w0 : (Lit.int .i64 a0).wf = true) (w1 : (Lit.int .i64 a1).wf = true) (w2 : (Lit.int .i64 a2).wf = true) {a : Nat → Addr} (he : ErrsOf w all18 a) :
    Calls Tryd.prog 5 #[.int .i64 a0, .int .i64 a1, .int .i64 a2] w fun e w' => e = .returned (.bool true) ∧ Below w.heap.size w w' := by
  have HE := hide he
  clear he w0 w1 w2
  go_enter Tryd.func5, Tryd.ntmps5
  go_wp2_with fail
  refine (wfirst_any w HE.out seven18).mono ?_
  rintro e x1 ⟨rfl, hb⟩
  have HB := hide hb
  have HE1 := hide (HE.out.step hb)
  clear hb
  go_wp2_with fail
  refine (number_any _ _ _ (by omega) (by omega)).mono ?_
  rintro e x2 ⟨rfl, rfl⟩
  have hp := numberB_bd a0 5 (by omega)
  obtain ⟨n, hN⟩ : ∃ N : Nat, numberB a0 5 + 1 = N := ⟨(numberB a0 5 + 1).toNat, by omega⟩
  have hn1 : 1 ≤ n := by omega
  have hn5 : n ≤ 5 := by omega
  go_wp2_with fail
  clear hN hp
  refine (number_any _ _ _ (by omega) (by omega)).mono ?_
  rintro e x3 ⟨rfl, rfl⟩
  have hp := numberB_bd a1 6 (by omega)
  obtain ⟨p, hpn⟩ : ∃ p : Nat, numberB a1 6 = p := ⟨(numberB a1 6).toNat, by omega⟩
  rw [hpn] at hp ⊢
  have hp5 : p ≤ 5 := by omega
  clear hpn hp
  go_wp2_with fail
  refine (new_any 8 8 (.inr (.inl ⟨by omega, by omega, rfl⟩)) (errs_three HE1.out seven18)).mono ?_
  rintro e x4 ⟨d, rfl, hd, hdisk, hbel⟩
  have HD := hide hdisk
  have HB4 := hide (over HB.out hbel HB.out.size)
  have HEK := hide ((errs_ahead HE1.out seven18).kept (Kept.of_below hbel fun k hk => hk))
  have HSZ : Hid (x3.heap.size ≤ x4.heap.size) := hbel.size
  clear hdisk hbel hd
  go_wp2_with fail
  go_loopw [9, 10] (fun al i wr => ∃ (j : Nat) (ao : Option Addr) (c : Nat), al = .slice ao j c ∧ i = .int .i64 j ∧ j ≤ 6 ∧ OwnR wr x4.heap.size ao c (cks j) ∧ Below x4.heap.size x4 wr) (fun _ i _ => 6 - (intOf i).toNat)
  case atStart => exact ⟨0, none, 0, rfl, rfl, by omega, ownR_nil _ _, Below.refl _ _⟩
  case round =>
    obtain ⟨j, ao, c, rfl, rfl, hj6, hown, hbel⟩ := hrel
    have HO := hide hown
    have HBL := hide hbel
    clear hown hbel
    by_cases hjlt : j < 6
    · have hji : (j : Int) < 6 := by omega
      go_wp2_with (first | (refine build1 ckR rfl ?_) | (at_builtin; refine append1 x4.heap.size ao j c (cks j) ckR rfl (length_cks j) HO.out (by omega) (by first | rfl | (simp; rfl)) HBL.out.size ?_; intro ao3 c3 w3 hown3 hb3; rw [cks_snoc] at hown3; have HO3 := hide hown3; have HB3 := hide hb3; clear hown3 hb3))
      go_roundw
      case rel => exact ⟨j + 1, ao3, c3, rfl, by go_num, by omega, HO3.out, HBL.out.trans HB3.out⟩
      case measure => simp [intOf]; omega
    have hji : decide ((j : Int) < 6) = false := by simp; omega
    have hj : j = 6 := by omega
    have HO6 : Hid (OwnR wr x4.heap.size ao c (cks 6)) := by show OwnR wr x4.heap.size ao c (cks 6); rw [← hj]; exact HO.out
    obtain ⟨K, hK⟩ : ∃ K, K = wider (fun b => b < x3.heap.size) x4.heap.size wr.heap.size := ⟨_, rfl⟩
    have HDK : Hid (Disk wr K a d (List.replicate 8 [fillOf 0]) false (-1)) := by show Disk wr K a d _ false (-1); rw [hK]; exact HD.out.widen HBL.out
    have HEK2 : Hid (ErrsK wr K a) := by
      show ErrsK wr K a
      rw [hK]
      exact (HEK.out.kept (Kept.of_below HBL.out fun k hk => Nat.lt_of_lt_of_le hk HSZ.out)).wide fun k hk => .inl hk
    have HK6 : Hid (∀ g, (Value.slice ao 6 c).ownBlock = some g → K g) := by
      intro g hg
      rw [hK]
      have h1 := HO6.out.1.lt g (by rw [length_cks]; exact hg)
      exact .inr h1
    have HKW : Hid (∀ k, k < w.heap.size → K k) := fun k hk => by rw [hK]; exact .inl (Nat.lt_of_lt_of_le hk HB.out.size)
    have HBW := hide (over HB4.out HBL.out HB4.out.size)
    have HJ := hide hj
    obtain ⟨Y, hY⟩ : ∃ Y, Y = wr := ⟨_, rfl⟩
    subst hY
    clear hK hj HO HBL HD HEK HB4 HSZ
    go_wp2_with fail
    go_loopw [11] (fun i wr => ∃ (k : Nat) (vss : List (List (List Int))), i = .int .i64 k ∧ k ≤ n ∧ wroteS vss k ∧ Disk wr K a d vss false (-1) ∧ Kept K Y wr) (fun i _ => n - (intOf i).toNat)
    case atStart => exact ⟨0, _, rfl, by omega, wrote_new, HDK.out, Kept.refl _ _⟩
    case round =>
      clear HDK
      obtain ⟨k, vss, rfl, hk, hw, hdisk, hkept⟩ := hrel
      have HW := hide hw
      have HDK := hide hdisk
      have HKP := hide hkept
      have HOW := hide (HO6.out.of_block (w' := wr) fun g hg _ => hkept.block g (HK6.out g (by rw [← hg, length_cks])))
      have HEW := hide (HEK2.out.kept hkept)
      clear hw hdisk hkept
      by_cases hkn : k < n
      · have hki : (k : Int) < (n : Int) := by omega
        go_wp2_with fail
        refine (bb_ok (x := a 1) (rs := cks 6) HEW.out.blk.rd.range HOW.out.row (by rw [length_cks, HJ.out]) (okS (by omega) (by omega) (by omega))).mono ?_
        rintro e y1 ⟨g, rfl, hg, hown, hbel⟩
        have HD1 := hide (HDK.out.below hbel)
        have HO1 := hide hown
        have HK1 := hide (HKP.out.trans (Kept.of_below hbel HDK.out.low))
        clear hown hbel hg
        go_wp2_with fail
        refine (write_ok d k (some ⟨g, 0, none⟩) 256 (ckB 10 6) HD1.out (by rw [HW.out.1]; omega) HO1.out.row (length_blockB _ _ (by rw [length_cks]; omega)) (by have := HW.out.bd k; omega) (by decide)).mono ?_
        rintro e y2 ⟨rfl, hdisk, hkept⟩
        have HD2 := hide hdisk
        have HK2 := hide (HK1.out.trans hkept)
        clear hdisk hkept
        go_wp2_with fail
        go_roundw
        case rel => exact ⟨k + 1, _, by go_num, by omega, HW.out.add (by omega), HD2.out, HK2.out⟩
        case measure => simp [intOf]; omega
      · have hki : decide ((k : Int) < (n : Int)) = false := by simp; omega
        have hkn' : k = n := by omega
        have HWN : Hid (wroteS vss n) := by show wroteS vss n; rw [← hkn']; exact HW.out
        clear hkn'
        go_wp2_with fail
        refine (number_any _ _ _ (by omega) (by omega)).mono ?_
        rintro e x5 ⟨rfl, rfl⟩
        have hp := numberB_bd a2 5 (by omega)
        obtain ⟨h, hh⟩ : ∃ h : Nat, numberB a2 5 = h := ⟨(numberB a2 5).toNat, by omega⟩
        rw [hh] at hp ⊢
        have HH := hide hh
        have hh5 : h < 5 := by omega
        clear hh hp
        obtain ⟨b6, o6, hao, _⟩ := HOW.out.row.2 (by rw [length_cks]; omega)
        subst hao
        have hc6 := HOW.out.le
        rw [length_cks] at hc6
        have hci : (6 : Int) ≤ (c : Int) := by omega
        have hc3 : (3 : Int) ≤ (c : Int) := by omega
        have hc2 : (2 : Int) ≤ (c : Int) := by omega
        have hc3' : 3 ≤ c := by omega
        have hc2' : 2 ≤ c := by omega
        have hcz : ¬ c = 0 := by omega
        rcases (show h = 0 ∨ h = 1 ∨ h = 2 ∨ h = 3 ∨ h = 4 by omega) with rfl | rfl | rfl | rfl | rfl
        · rw [show ((0 : Nat) : Int) = 0 from rfl] at HH ⊢
          by_cases hc2 : n < p
          · have hgt : (n : Int) < (p : Int) := by omega
            have hgt2 : n < p := by omega
            have HRC : Hid (RecRow x5 (some ⟨b6, o6, none⟩) (cks 6)) := by show RecRow x5 _ (cks 6); rw [← cks_take 6 6 (by omega)]; exact (HOW.out.take 6 (by rw [length_cks]; omega)).row
            go_wp2_with fail
            refine (bb_ok (x := a 1) (rs := cks 6) HEW.out.blk.rd.range HRC.out (length_cks 6) (okS (by omega) (by omega) (by omega))).mono ?_
            rintro e y1 ⟨g, rfl, hg, hown, hbel⟩
            have HD1 := hide (HDK.out.below hbel)
            have HO1 := hide hown
            have HK1 := hide (HKP.out.trans (Kept.of_below hbel HDK.out.low))
            clear hown hbel hg
            go_wp2_with fail
            refine (number_any _ _ _ (by omega) (by omega)).mono ?_
            rintro e y2 ⟨rfl, rfl⟩
            rw [HH.out]
            go_wp2_with fail
            refine (write_ok d p (some ⟨g, 0, none⟩) 256 (ckB 9 6) HD1.out (by rw [HWN.out.1]; omega) HO1.out.row (length_blockB _ _ (by rw [length_cks]; omega)) (by have := HWN.out.bd p; omega) (by decide)).mono ?_
            rintro e y3 ⟨rfl, hdisk, hkept⟩
            have HD3 : Hid (Disk y3 K a d (addS vss p (ckB 9 6)) false (-1)) := hdisk
            have HK3 := hide (HK1.out.trans hkept)
            have HE3 := hide (HEK2.out.kept HK3.out)
            have HRD := hide (HWN.out.last (at_ := p) (B := (ckB 9 6)) (by omega))
            clear hdisk hkept
            go_wp2_with fail
            refine (wopen_any (F := 0) (N := 8) (base := 0) (ep := 20) HD3.out HE3.out 5 (by omega) (by omega) (by rw [length_addS, HWN.out.1]; omega) (by omega)).mono ?_
            rintro e y4 ⟨v, rfl, hpost, hkept⟩
            have HB4 := hide (HBW.out.trans ((HK3.out.trans hkept).below HKW.out))
            rw [stale_far HRD.out hn5 (by omega)] at hpost
            rcases hpost with ⟨_, l, rfl, hlog⟩ | ⟨h0, _⟩
            · rw [length_cks] at hlog
              have HL := hide hlog
              clear hlog hkept
              go_wp2_with fail
              refine (wlast_any HL.out (6 * n) (length_cks _)).mono ?_
              rintro e y5 ⟨rfl, q5, rfl⟩
              rw [show (0 : Int) + ((6 * n : Nat) : Int) = 6 * (n : Int) by omega]
              go_wp2_with fail
              refine (wdone_any (HL.out.drewN _)).mono ?_
              rintro e y6 ⟨rfl, q6, rfl⟩
              rw [show (0 : Int) + ((6 * n : Nat) : Int) = 6 * (n : Int) by omega]
              go_wp2_with fail
              go_ret
              exact ⟨rfl, below_drewN HB4.out _⟩
            · exact absurd (show (0 : Int) ≤ -1 from h0) (by decide)
          · by_cases hc1 : 0 < p
            · have hgt : decide ((n : Int) < (p : Int)) = false := by simp; omega
              have hgt2 : ¬ n < p := by omega
              have hp0 : (0 : Int) < (p : Int) := by omega
              have hmin : min (6 * (n : Int)) (6 * (p : Int)) = 6 * (p : Int) := by omega
              have HRC : Hid (RecRow x5 (some ⟨b6, o6, none⟩) (cks 6)) := by show RecRow x5 _ (cks 6); rw [← cks_take 6 6 (by omega)]; exact (HOW.out.take 6 (by rw [length_cks]; omega)).row
              go_wp2_with fail
              refine (bb_ok (x := a 1) (rs := cks 6) HEW.out.blk.rd.range HRC.out (length_cks 6) (okS (by omega) (by omega) (by omega))).mono ?_
              rintro e y1 ⟨g, rfl, hg, hown, hbel⟩
              have HD1 := hide (HDK.out.below hbel)
              have HO1 := hide hown
              have HK1 := hide (HKP.out.trans (Kept.of_below hbel HDK.out.low))
              clear hown hbel hg
              go_wp2_with fail
              refine (number_any _ _ _ (by omega) (by omega)).mono ?_
              rintro e y2 ⟨rfl, rfl⟩
              rw [HH.out]
              go_wp2_with fail
              refine (write_ok d p (some ⟨g, 0, none⟩) 256 (ckB 9 6) HD1.out (by rw [HWN.out.1]; omega) HO1.out.row (length_blockB _ _ (by rw [length_cks]; omega)) (by have := HWN.out.bd p; omega) (by decide)).mono ?_
              rintro e y3 ⟨rfl, hdisk, hkept⟩
              have HD3 : Hid (Disk y3 K a d (addS vss p (ckB 9 6)) false (-1)) := hdisk
              have HK3 := hide (HK1.out.trans hkept)
              have HE3 := hide (HEK2.out.kept HK3.out)
              have HRD := hide (HWN.out.last (at_ := p) (B := (ckB 9 6)) (by omega))
              clear hdisk hkept
              go_wp2_with fail
              refine (wopen_any (F := 0) (N := 8) (base := 0) (ep := 20) HD3.out HE3.out 5 (by omega) (by omega) (by rw [length_addS, HWN.out.1]; omega) (by omega)).mono ?_
              rintro e y4 ⟨v, rfl, hpost, hkept⟩
              have HB4 := hide (HBW.out.trans ((HK3.out.trans hkept).below HKW.out))
              rw [stale_less HRD.out hn5 (by omega) (by omega) (by omega) (by omega)] at hpost
              rcases hpost with ⟨_, l, rfl, hlog⟩ | ⟨h0, _⟩
              · rw [length_cks] at hlog
                have HL := hide hlog
                clear hlog hkept
                go_wp2_with fail
                refine (wlast_any HL.out (6 * p) (length_cks _)).mono ?_
                rintro e y5 ⟨rfl, q5, rfl⟩
                rw [show (0 : Int) + ((6 * p : Nat) : Int) = 6 * (p : Int) by omega]
                go_wp2_with fail
                refine (wdone_any (HL.out.drewN _)).mono ?_
                rintro e y6 ⟨rfl, q6, rfl⟩
                rw [show (0 : Int) + ((6 * p : Nat) : Int) = 6 * (p : Int) by omega]
                go_wp2_with fail
                go_ret
                exact ⟨rfl, below_drewN HB4.out _⟩
              · exact absurd (show (0 : Int) ≤ -1 from h0) (by decide)
            · have hgt : decide ((n : Int) < (p : Int)) = false := by simp; omega
              have hgt2 : ¬ n < p := by omega
              have hp0 : decide ((0 : Int) < (p : Int)) = false := by simp; omega
              have hp0n : ¬ 0 < p := by omega
              have HRC : Hid (RecRow x5 (some ⟨b6, o6, none⟩) (cks 6)) := by show RecRow x5 _ (cks 6); rw [← cks_take 6 6 (by omega)]; exact (HOW.out.take 6 (by rw [length_cks]; omega)).row
              go_wp2_with fail
              refine (bb_ok (x := a 1) (rs := cks 6) HEW.out.blk.rd.range HRC.out (length_cks 6) (okS (by omega) (by omega) (by omega))).mono ?_
              rintro e y1 ⟨g, rfl, hg, hown, hbel⟩
              have HD1 := hide (HDK.out.below hbel)
              have HO1 := hide hown
              have HK1 := hide (HKP.out.trans (Kept.of_below hbel HDK.out.low))
              clear hown hbel hg
              go_wp2_with fail
              refine (number_any _ _ _ (by omega) (by omega)).mono ?_
              rintro e y2 ⟨rfl, rfl⟩
              rw [HH.out]
              go_wp2_with fail
              refine (write_ok d p (some ⟨g, 0, none⟩) 256 (ckB 9 6) HD1.out (by rw [HWN.out.1]; omega) HO1.out.row (length_blockB _ _ (by rw [length_cks]; omega)) (by have := HWN.out.bd p; omega) (by decide)).mono ?_
              rintro e y3 ⟨rfl, hdisk, hkept⟩
              have HD3 : Hid (Disk y3 K a d (addS vss p (ckB 9 6)) false (-1)) := hdisk
              have HK3 := hide (HK1.out.trans hkept)
              have HE3 := hide (HEK2.out.kept HK3.out)
              have HRD := hide (HWN.out.last (at_ := p) (B := (ckB 9 6)) (by omega))
              clear hdisk hkept
              go_wp2_with fail
              refine (wopen_any (F := 0) (N := 8) (base := 0) (ep := 20) HD3.out HE3.out 5 (by omega) (by omega) (by rw [length_addS, HWN.out.1]; omega) (by omega)).mono ?_
              rintro e y4 ⟨v, rfl, hpost, hkept⟩
              have HB4 := hide (HBW.out.trans ((HK3.out.trans hkept).below HKW.out))
              rw [stale_first (by have h0 := HRD.out; rw [show p = 0 by omega] at h0; rw [show p = 0 by omega]; exact h0) hn5 hn1] at hpost
              rcases hpost with ⟨_, l, rfl, hlog⟩ | ⟨h0, _⟩
              · rw [length_cks] at hlog
                have HL := hide hlog
                clear hlog hkept
                go_wp2_with fail
                refine (wlast_any HL.out (6 * n) (length_cks _)).mono ?_
                rintro e y5 ⟨rfl, q5, rfl⟩
                rw [show (0 : Int) + ((6 * n : Nat) : Int) = 6 * (n : Int) by omega]
                go_wp2_with fail
                refine (wdone_any (HL.out.drewN _)).mono ?_
                rintro e y6 ⟨rfl, q6, rfl⟩
                rw [show (0 : Int) + ((6 * n : Nat) : Int) = 6 * (n : Int) by omega]
                go_wp2_with fail
                go_ret
                exact ⟨rfl, below_drewN HB4.out _⟩
              · exact absurd (show (0 : Int) ≤ -1 from h0) (by decide)
        · rw [show ((1 : Nat) : Int) = 1 from rfl] at HH ⊢
          by_cases hc4 : p < n
          · have hpi : (p : Int) < (n : Int) := by omega
            have hgt : decide ((n : Int) < (p : Int)) = false := by simp; omega
            have hgt2 : ¬ n < p := by omega
            have hmin : min (6 * (n : Int)) (6 * (p : Int)) = 6 * (p : Int) := by omega
            have HRC : Hid (RecRow x5 (some ⟨b6, o6, none⟩) (cks 2)) := by show RecRow x5 _ (cks 2); rw [← cks_take 6 2 (by omega)]; exact (HOW.out.take 2 (by rw [length_cks]; omega)).row
            go_wp2_with fail
            refine (bb_ok (x := a 1) (rs := cks 2) HEW.out.blk.rd.range HRC.out (length_cks 2) (okS (by omega) (by omega) (by omega))).mono ?_
            rintro e y1 ⟨g, rfl, hg, hown, hbel⟩
            have HD1 := hide (HDK.out.below hbel)
            have HO1 := hide hown
            have HK1 := hide (HKP.out.trans (Kept.of_below hbel HDK.out.low))
            clear hown hbel hg
            go_wp2_with fail
            refine (number_any _ _ _ (by omega) (by omega)).mono ?_
            rintro e y2 ⟨rfl, rfl⟩
            rw [HH.out]
            go_wp2_with fail
            refine (write_ok d p (some ⟨g, 0, none⟩) 256 (ckB 3 2) HD1.out (by rw [HWN.out.1]; omega) HO1.out.row (length_blockB _ _ (by rw [length_cks]; omega)) (by have := HWN.out.bd p; omega) (by decide)).mono ?_
            rintro e y3 ⟨rfl, hdisk, hkept⟩
            have HD3 : Hid (Disk y3 K a d (addS vss p (ckB 3 2)) false (-1)) := hdisk
            have HK3 := hide (HK1.out.trans hkept)
            have HE3 := hide (HEK2.out.kept HK3.out)
            have HRD := hide (HWN.out.last (at_ := p) (B := (ckB 3 2)) (by omega))
            clear hdisk hkept
            go_wp2_with fail
            refine (wopen_any (F := 0) (N := 8) (base := 0) (ep := 20) HD3.out HE3.out 5 (by omega) (by omega) (by rw [length_addS, HWN.out.1]; omega) (by omega)).mono ?_
            rintro e y4 ⟨v, rfl, hpost, hkept⟩
            have HB4 := hide (HBW.out.trans ((HK3.out.trans hkept).below HKW.out))
            rw [stale_less HRD.out hn5 (by omega) (by omega) (by omega) (by omega)] at hpost
            rcases hpost with ⟨_, l, rfl, hlog⟩ | ⟨h0, _⟩
            · rw [length_cks] at hlog
              have HL := hide hlog
              clear hlog hkept
              go_wp2_with fail
              refine (wlast_any HL.out (6 * p) (length_cks _)).mono ?_
              rintro e y5 ⟨rfl, q5, rfl⟩
              rw [show (0 : Int) + ((6 * p : Nat) : Int) = 6 * (p : Int) by omega]
              go_wp2_with fail
              refine (wdone_any (HL.out.drewN _)).mono ?_
              rintro e y6 ⟨rfl, q6, rfl⟩
              rw [show (0 : Int) + ((6 * p : Nat) : Int) = 6 * (p : Int) by omega]
              go_wp2_with fail
              go_ret
              exact ⟨rfl, below_drewN HB4.out _⟩
            · exact absurd (show (0 : Int) ≤ -1 from h0) (by decide)
          · have hpi : decide ((p : Int) < (n : Int)) = false := by simp; omega
            have hpi2 : ¬ p < n := by omega
            by_cases hc3 : n < p
            · have hgt : (n : Int) < (p : Int) := by omega
              have hgt2 : n < p := by omega
              have HRC : Hid (RecRow x5 (some ⟨b6, o6, none⟩) (cks 6)) := by show RecRow x5 _ (cks 6); rw [← cks_take 6 6 (by omega)]; exact (HOW.out.take 6 (by rw [length_cks]; omega)).row
              go_wp2_with fail
              refine (bb_ok (x := a 1) (rs := cks 6) HEW.out.blk.rd.range HRC.out (length_cks 6) (okS (by omega) (by omega) (by omega))).mono ?_
              rintro e y1 ⟨g, rfl, hg, hown, hbel⟩
              have HD1 := hide (HDK.out.below hbel)
              have HO1 := hide hown
              have HK1 := hide (HKP.out.trans (Kept.of_below hbel HDK.out.low))
              clear hown hbel hg
              go_wp2_with fail
              refine (number_any _ _ _ (by omega) (by omega)).mono ?_
              rintro e y2 ⟨rfl, rfl⟩
              rw [HH.out]
              go_wp2_with fail
              refine (write_ok d p (some ⟨g, 0, none⟩) 256 (ckB 3 6) HD1.out (by rw [HWN.out.1]; omega) HO1.out.row (length_blockB _ _ (by rw [length_cks]; omega)) (by have := HWN.out.bd p; omega) (by decide)).mono ?_
              rintro e y3 ⟨rfl, hdisk, hkept⟩
              have HD3 : Hid (Disk y3 K a d (addS vss p (ckB 3 6)) false (-1)) := hdisk
              have HK3 := hide (HK1.out.trans hkept)
              have HE3 := hide (HEK2.out.kept HK3.out)
              have HRD := hide (HWN.out.last (at_ := p) (B := (ckB 3 6)) (by omega))
              clear hdisk hkept
              go_wp2_with fail
              refine (wopen_any (F := 0) (N := 8) (base := 0) (ep := 20) HD3.out HE3.out 5 (by omega) (by omega) (by rw [length_addS, HWN.out.1]; omega) (by omega)).mono ?_
              rintro e y4 ⟨v, rfl, hpost, hkept⟩
              have HB4 := hide (HBW.out.trans ((HK3.out.trans hkept).below HKW.out))
              rw [stale_far HRD.out hn5 (by omega)] at hpost
              rcases hpost with ⟨_, l, rfl, hlog⟩ | ⟨h0, _⟩
              · rw [length_cks] at hlog
                have HL := hide hlog
                clear hlog hkept
                go_wp2_with fail
                refine (wlast_any HL.out (6 * n) (length_cks _)).mono ?_
                rintro e y5 ⟨rfl, q5, rfl⟩
                rw [show (0 : Int) + ((6 * n : Nat) : Int) = 6 * (n : Int) by omega]
                go_wp2_with fail
                refine (wdone_any (HL.out.drewN _)).mono ?_
                rintro e y6 ⟨rfl, q6, rfl⟩
                rw [show (0 : Int) + ((6 * n : Nat) : Int) = 6 * (n : Int) by omega]
                go_wp2_with fail
                go_ret
                exact ⟨rfl, below_drewN HB4.out _⟩
              · exact absurd (show (0 : Int) ≤ -1 from h0) (by decide)
            · have hgt : decide ((n : Int) < (p : Int)) = false := by simp; omega
              have hgt2 : ¬ n < p := by omega
              have hmin : min (6 * (n : Int)) (6 * (p : Int)) = 6 * (p : Int) := by omega
              have HRC : Hid (RecRow x5 (some ⟨b6, o6, none⟩) (cks 6)) := by show RecRow x5 _ (cks 6); rw [← cks_take 6 6 (by omega)]; exact (HOW.out.take 6 (by rw [length_cks]; omega)).row
              go_wp2_with fail
              refine (bb_ok (x := a 1) (rs := cks 6) HEW.out.blk.rd.range HRC.out (length_cks 6) (okS (by omega) (by omega) (by omega))).mono ?_
              rintro e y1 ⟨g, rfl, hg, hown, hbel⟩
              have HD1 := hide (HDK.out.below hbel)
              have HO1 := hide hown
              have HK1 := hide (HKP.out.trans (Kept.of_below hbel HDK.out.low))
              clear hown hbel hg
              go_wp2_with fail
              refine (number_any _ _ _ (by omega) (by omega)).mono ?_
              rintro e y2 ⟨rfl, rfl⟩
              rw [HH.out]
              go_wp2_with fail
              refine (write_ok d p (some ⟨g, 0, none⟩) 256 (ckB 3 6) HD1.out (by rw [HWN.out.1]; omega) HO1.out.row (length_blockB _ _ (by rw [length_cks]; omega)) (by have := HWN.out.bd p; omega) (by decide)).mono ?_
              rintro e y3 ⟨rfl, hdisk, hkept⟩
              have HD3 : Hid (Disk y3 K a d (addS vss p (ckB 3 6)) false (-1)) := hdisk
              have HK3 := hide (HK1.out.trans hkept)
              have HE3 := hide (HEK2.out.kept HK3.out)
              have HRD := hide (HWN.out.last (at_ := p) (B := (ckB 3 6)) (by omega))
              clear hdisk hkept
              go_wp2_with fail
              refine (wopen_any (F := 0) (N := 8) (base := 0) (ep := 20) HD3.out HE3.out 5 (by omega) (by omega) (by rw [length_addS, HWN.out.1]; omega) (by omega)).mono ?_
              rintro e y4 ⟨v, rfl, hpost, hkept⟩
              have HB4 := hide (HBW.out.trans ((HK3.out.trans hkept).below HKW.out))
              rw [stale_less HRD.out hn5 (by omega) (by omega) (by omega) (by omega)] at hpost
              rcases hpost with ⟨_, l, rfl, hlog⟩ | ⟨h0, _⟩
              · rw [length_cks] at hlog
                have HL := hide hlog
                clear hlog hkept
                go_wp2_with fail
                refine (wlast_any HL.out (6 * p) (length_cks _)).mono ?_
                rintro e y5 ⟨rfl, q5, rfl⟩
                rw [show (0 : Int) + ((6 * p : Nat) : Int) = 6 * (p : Int) by omega]
                go_wp2_with fail
                refine (wdone_any (HL.out.drewN _)).mono ?_
                rintro e y6 ⟨rfl, q6, rfl⟩
                rw [show (0 : Int) + ((6 * p : Nat) : Int) = 6 * (p : Int) by omega]
                go_wp2_with fail
                go_ret
                exact ⟨rfl, below_drewN HB4.out _⟩
              · exact absurd (show (0 : Int) ≤ -1 from h0) (by decide)
        · rw [show ((2 : Nat) : Int) = 2 from rfl] at HH ⊢
          by_cases hc5 : n < p
          · have hgt : (n : Int) < (p : Int) := by omega
            have hgt2 : n < p := by omega
            have HRC : Hid (RecRow x5 (some ⟨b6, o6, none⟩) (cks 6)) := by show RecRow x5 _ (cks 6); rw [← cks_take 6 6 (by omega)]; exact (HOW.out.take 6 (by rw [length_cks]; omega)).row
            go_wp2_with fail
            refine (bb_ok (x := a 1) (rs := cks 6) HEW.out.blk.rd.range HRC.out (length_cks 6) (okS (by omega) (by omega) (by omega))).mono ?_
            rintro e y1 ⟨g, rfl, hg, hown, hbel⟩
            have HD1 := hide (HDK.out.below hbel)
            have HO1 := hide hown
            have HK1 := hide (HKP.out.trans (Kept.of_below hbel HDK.out.low))
            clear hown hbel hg
            go_wp2_with fail
            refine (number_any _ _ _ (by omega) (by omega)).mono ?_
            rintro e y2 ⟨rfl, rfl⟩
            rw [HH.out]
            go_wp2_with fail
            refine (write_ok d p (some ⟨g, 0, none⟩) 256 (ckB 20 6) HD1.out (by rw [HWN.out.1]; omega) HO1.out.row (length_blockB _ _ (by rw [length_cks]; omega)) (by have := HWN.out.bd p; omega) (by decide)).mono ?_
            rintro e y3 ⟨rfl, hdisk, hkept⟩
            have HD3 : Hid (Disk y3 K a d (addS vss p (ckB 20 6)) false (-1)) := hdisk
            have HK3 := hide (HK1.out.trans hkept)
            have HE3 := hide (HEK2.out.kept HK3.out)
            have HRD := hide (HWN.out.last (at_ := p) (B := (ckB 20 6)) (by omega))
            clear hdisk hkept
            go_wp2_with fail
            refine (wopen_any (F := 0) (N := 8) (base := 0) (ep := 20) HD3.out HE3.out 5 (by omega) (by omega) (by rw [length_addS, HWN.out.1]; omega) (by omega)).mono ?_
            rintro e y4 ⟨v, rfl, hpost, hkept⟩
            have HB4 := hide (HBW.out.trans ((HK3.out.trans hkept).below HKW.out))
            rw [stale_far HRD.out hn5 (by omega)] at hpost
            rcases hpost with ⟨_, l, rfl, hlog⟩ | ⟨h0, _⟩
            · rw [length_cks] at hlog
              have HL := hide hlog
              clear hlog hkept
              go_wp2_with fail
              refine (wlast_any HL.out (6 * n) (length_cks _)).mono ?_
              rintro e y5 ⟨rfl, q5, rfl⟩
              rw [show (0 : Int) + ((6 * n : Nat) : Int) = 6 * (n : Int) by omega]
              go_wp2_with fail
              refine (wdone_any (HL.out.drewN _)).mono ?_
              rintro e y6 ⟨rfl, q6, rfl⟩
              rw [show (0 : Int) + ((6 * n : Nat) : Int) = 6 * (n : Int) by omega]
              go_wp2_with fail
              go_ret
              exact ⟨rfl, below_drewN HB4.out _⟩
            · exact absurd (show (0 : Int) ≤ -1 from h0) (by decide)
          · have hgt : decide ((n : Int) < (p : Int)) = false := by simp; omega
            have hgt2 : ¬ n < p := by omega
            have hpz : decide ((p : Int) < 0) = false := by simp
            have HRC : Hid (RecRow x5 (some ⟨b6, o6, none⟩) (cks 6)) := by show RecRow x5 _ (cks 6); rw [← cks_take 6 6 (by omega)]; exact (HOW.out.take 6 (by rw [length_cks]; omega)).row
            go_wp2_with fail
            refine (bb_ok (x := a 1) (rs := cks 6) HEW.out.blk.rd.range HRC.out (length_cks 6) (okS (by omega) (by omega) (by omega))).mono ?_
            rintro e y1 ⟨g, rfl, hg, hown, hbel⟩
            have HD1 := hide (HDK.out.below hbel)
            have HO1 := hide hown
            have HK1 := hide (HKP.out.trans (Kept.of_below hbel HDK.out.low))
            clear hown hbel hg
            go_wp2_with fail
            refine (number_any _ _ _ (by omega) (by omega)).mono ?_
            rintro e y2 ⟨rfl, rfl⟩
            rw [HH.out]
            go_wp2_with fail
            refine (write_ok d p (some ⟨g, 0, none⟩) 256 (ckB 20 6) HD1.out (by rw [HWN.out.1]; omega) HO1.out.row (length_blockB _ _ (by rw [length_cks]; omega)) (by have := HWN.out.bd p; omega) (by decide)).mono ?_
            rintro e y3 ⟨rfl, hdisk, hkept⟩
            have HD3 : Hid (Disk y3 K a d (addS vss p (ckB 20 6)) false (-1)) := hdisk
            have HK3 := hide (HK1.out.trans hkept)
            have HE3 := hide (HEK2.out.kept HK3.out)
            have HRD := hide (HWN.out.last (at_ := p) (B := (ckB 20 6)) (by omega))
            clear hdisk hkept
            go_wp2_with fail
            refine (wopen_any (F := 0) (N := 8) (base := 0) (ep := 20) HD3.out HE3.out 5 (by omega) (by omega) (by rw [length_addS, HWN.out.1]; omega) (by omega)).mono ?_
            rintro e y4 ⟨v, rfl, hpost, hkept⟩
            have HB4 := hide (HBW.out.trans ((HK3.out.trans hkept).below HKW.out))
            rw [stale_bad HRD.out hn5 (by omega) ((badB_iff _ _).2 (.inr ⟨by rw [(ans_ckB (e := 20) (n := 6) (by omega) (by omega) (by omega)).2.1, length_cks]; omega, by rw [(ans_ckB (e := 20) (n := 6) (by omega) (by omega) (by omega)).1]; omega⟩))] at hpost
            rcases hpost with ⟨h0, _⟩ | ⟨_, b, rfl, hat, _⟩
            · exact absurd (show (p : Int) = -1 from h0) (by omega)
            · have HAT := hide hat
              clear hat hkept
              unfold atV
              go_wp2_with fail
              refine (placed_b 108 p _ (by decide)).mono ?_
              rintro e y5 ⟨rfl, hb⟩
              have HAT5 := hide (HAT.out.below hb)
              have HB5 := hide (over HB4.out hb HB4.out.size)
              clear hb
              go_wp2_with fail
              refine (same_placed _ a 7 (by omega) b p 108 (by omega) (HE.out.step HB5.out) HAT5.out.pos HAT5.out.err).mono ?_
              rintro e y6 ⟨rfl, hb⟩
              have HB6 := hide (over HB5.out hb HB5.out.size)
              clear hb
              go_wp2_with fail
              go_ret
              exact ⟨rfl, HB6.out⟩
        · rw [show ((3 : Nat) : Int) = 3 from rfl] at HH ⊢
          by_cases hc6 : n < p
          · have hgt : (n : Int) < (p : Int) := by omega
            have hgt2 : n < p := by omega
            have HRC : Hid (RecRow x5 (some ⟨b6, o6, none⟩) (cks 3)) := by show RecRow x5 _ (cks 3); rw [← cks_take 6 3 (by omega)]; exact (HOW.out.take 3 (by rw [length_cks]; omega)).row
            go_wp2_with fail
            refine (bb_ok (x := a 1) (rs := cks 3) HEW.out.blk.rd.range HRC.out (length_cks 3) (okS (by omega) (by omega) (by omega))).mono ?_
            rintro e y1 ⟨g, rfl, hg, hown, hbel⟩
            have HD1 := hide (HDK.out.below hbel)
            have HO1 := hide hown
            have HK1 := hide (HKP.out.trans (Kept.of_below hbel HDK.out.low))
            clear hown hbel hg
            go_wp2_with fail
            refine (number_any _ _ _ (by omega) (by omega)).mono ?_
            rintro e y2 ⟨rfl, rfl⟩
            rw [HH.out]
            go_wp2_with fail
            refine (write_ok d p (some ⟨g, 0, none⟩) 256 (ckB 10 3) HD1.out (by rw [HWN.out.1]; omega) HO1.out.row (length_blockB _ _ (by rw [length_cks]; omega)) (by have := HWN.out.bd p; omega) (by decide)).mono ?_
            rintro e y3 ⟨rfl, hdisk, hkept⟩
            have HD3 : Hid (Disk y3 K a d (addS vss p (ckB 10 3)) false (-1)) := hdisk
            have HK3 := hide (HK1.out.trans hkept)
            have HE3 := hide (HEK2.out.kept HK3.out)
            have HRD := hide (HWN.out.last (at_ := p) (B := (ckB 10 3)) (by omega))
            clear hdisk hkept
            go_wp2_with fail
            refine (wopen_any (F := 0) (N := 8) (base := 0) (ep := 20) HD3.out HE3.out 5 (by omega) (by omega) (by rw [length_addS, HWN.out.1]; omega) (by omega)).mono ?_
            rintro e y4 ⟨v, rfl, hpost, hkept⟩
            have HB4 := hide (HBW.out.trans ((HK3.out.trans hkept).below HKW.out))
            rw [stale_far HRD.out hn5 (by omega)] at hpost
            rcases hpost with ⟨_, l, rfl, hlog⟩ | ⟨h0, _⟩
            · rw [length_cks] at hlog
              have HL := hide hlog
              clear hlog hkept
              go_wp2_with fail
              refine (wlast_any HL.out (6 * n) (length_cks _)).mono ?_
              rintro e y5 ⟨rfl, q5, rfl⟩
              rw [show (0 : Int) + ((6 * n : Nat) : Int) = 6 * (n : Int) by omega]
              go_wp2_with fail
              refine (wdone_any (HL.out.drewN _)).mono ?_
              rintro e y6 ⟨rfl, q6, rfl⟩
              rw [show (0 : Int) + ((6 * n : Nat) : Int) = 6 * (n : Int) by omega]
              go_wp2_with fail
              go_ret
              exact ⟨rfl, below_drewN HB4.out _⟩
            · exact absurd (show (0 : Int) ≤ -1 from h0) (by decide)
          · have hgt : decide ((n : Int) < (p : Int)) = false := by simp; omega
            have hgt2 : ¬ n < p := by omega
            have HRC : Hid (RecRow x5 (some ⟨b6, o6, none⟩) (cks 3)) := by show RecRow x5 _ (cks 3); rw [← cks_take 6 3 (by omega)]; exact (HOW.out.take 3 (by rw [length_cks]; omega)).row
            go_wp2_with fail
            refine (bb_ok (x := a 1) (rs := cks 3) HEW.out.blk.rd.range HRC.out (length_cks 3) (okS (by omega) (by omega) (by omega))).mono ?_
            rintro e y1 ⟨g, rfl, hg, hown, hbel⟩
            have HD1 := hide (HDK.out.below hbel)
            have HO1 := hide hown
            have HK1 := hide (HKP.out.trans (Kept.of_below hbel HDK.out.low))
            clear hown hbel hg
            go_wp2_with fail
            refine (number_any _ _ _ (by omega) (by omega)).mono ?_
            rintro e y2 ⟨rfl, rfl⟩
            rw [HH.out]
            go_wp2_with fail
            refine (write_ok d p (some ⟨g, 0, none⟩) 256 (ckB 10 3) HD1.out (by rw [HWN.out.1]; omega) HO1.out.row (length_blockB _ _ (by rw [length_cks]; omega)) (by have := HWN.out.bd p; omega) (by decide)).mono ?_
            rintro e y3 ⟨rfl, hdisk, hkept⟩
            have HD3 : Hid (Disk y3 K a d (addS vss p (ckB 10 3)) false (-1)) := hdisk
            have HK3 := hide (HK1.out.trans hkept)
            have HE3 := hide (HEK2.out.kept HK3.out)
            have HRD := hide (HWN.out.last (at_ := p) (B := (ckB 10 3)) (by omega))
            clear hdisk hkept
            go_wp2_with fail
            refine (wopen_any (F := 0) (N := 8) (base := 0) (ep := 20) HD3.out HE3.out 5 (by omega) (by omega) (by rw [length_addS, HWN.out.1]; omega) (by omega)).mono ?_
            rintro e y4 ⟨v, rfl, hpost, hkept⟩
            have HB4 := hide (HBW.out.trans ((HK3.out.trans hkept).below HKW.out))
            rw [stale_part HRD.out hn5 (by omega) (by omega)] at hpost
            rcases hpost with ⟨_, l, rfl, hlog⟩ | ⟨h0, _⟩
            · rw [length_cks] at hlog
              have HL := hide hlog
              clear hlog hkept
              go_wp2_with fail
              refine (wlast_any HL.out (6 * p + 3) (length_cks _)).mono ?_
              rintro e y5 ⟨rfl, q5, rfl⟩
              rw [show (0 : Int) + ((6 * p + 3 : Nat) : Int) = 6 * (p : Int) + 3 by omega]
              go_wp2_with fail
              refine (wdone_any (HL.out.drewN _)).mono ?_
              rintro e y6 ⟨rfl, q6, rfl⟩
              rw [show (0 : Int) + ((6 * p + 3 : Nat) : Int) = 6 * (p : Int) + 3 by omega]
              go_wp2_with fail
              go_ret
              exact ⟨rfl, below_drewN HB4.out _⟩
            · exact absurd (show (0 : Int) ≤ -1 from h0) (by decide)
        · rw [show ((4 : Nat) : Int) = 4 from rfl] at HH ⊢
          by_cases hc7 : n < p
          · have hgt : (n : Int) < (p : Int) := by omega
            have hgt2 : n < p := by omega
            have HRC : Hid (RecRow x5 (some ⟨b6, o6, none⟩) (cks 6)) := by show RecRow x5 _ (cks 6); rw [← cks_take 6 6 (by omega)]; exact (HOW.out.take 6 (by rw [length_cks]; omega)).row
            go_wp2_with fail
            refine (bb_ok (x := a 1) (rs := cks 6) HEW.out.blk.rd.range HRC.out (length_cks 6) (okS (by omega) (by omega) (by omega))).mono ?_
            rintro e y1 ⟨g, rfl, hg, hown, hbel⟩
            have HD1 := hide (HDK.out.widen hbel)
            have HO1 := hide hown
            have HK1 := hide (HKP.out.trans (Kept.of_below hbel HDK.out.low))
            have HG := hide hg
            have HGL : Hid (g < y1.heap.size) := (hown.1.lt g rfl).2
            clear hown hbel hg
            go_wp2_with fail
            refine (number_any _ _ _ (by omega) (by omega)).mono ?_
            rintro e y2 ⟨rfl, rfl⟩
            rw [HH.out]
            have hcell := HO1.out.cell 0 (by rw [length_blockB _ _ (by rw [length_cks]; omega)]; omega)
            have hfz := HO1.out.frozen 0
            obtain ⟨v0, hv0⟩ : ∃ v, v = (blockB 10 (cks 6)).getD 0 0 := ⟨_, rfl⟩
            rw [← hv0] at hcell
            clear hv0
            go_upto_region 40 with fail
            obtain ⟨Z, hZ⟩ : ∃ Z, Z = y2.setCell ⟨g, 0, none⟩ (.int .u8 7) := ⟨_, rfl⟩
            have HKS : Hid (Kept K Y Z) := by
              show Kept K Y Z
              rw [hZ]
              exact HK1.out.trans ⟨rfl, rfl, rfl, by simp [World.setCell], fun k hk => Below.heap_setCell _ _ _ _ (fun e => by have h1 := HDK.out.low k hk; have h2 := HG.out; simp only at e; omega)⟩
            have HDS : Hid (Disk Z K a d vss false (-1)) := by
              show Disk Z K a d vss false (-1)
              rw [hZ]
              refine HD1.out.stays (fun k hk hn => Below.heap_setCell _ _ _ _ (fun e => hn (.inr ⟨by have := HG.out; simp only at e; omega, hk⟩))) (fun k hk => ⟨by have := HDK.out.low k hk; have := HD1.out.low k (.inl hk); simp [World.setCell]; omega, fun _ => .inl hk⟩) ?_
              intro i hi
              have h1 := (HEK2.out.kept HKS.out).three i hi
              rw [hZ] at h1
              exact h1
            have HOS : Hid (Own Z g (some ⟨g, 0, none⟩) 256 ((ckB 10 6).set 0 7)) := by show Own Z g _ 256 _; rw [hZ]; exact HO1.out.stored 0 7 (by omega) (by omega)
            rw [← hZ]
            clear hZ hcell hfz
            go_wp2_with fail
            refine (write_ok d p (some ⟨g, 0, none⟩) 256 ((ckB 10 6).set 0 7) HDS.out (by rw [HWN.out.1]; omega) HOS.out.row (by rw [List.length_set]; exact length_blockB _ _ (by rw [length_cks]; omega)) (by have := HWN.out.bd p; omega) (by decide)).mono ?_
            rintro e y3 ⟨rfl, hdisk, hkept⟩
            have HD3 : Hid (Disk y3 K a d (addS vss p ((ckB 10 6).set 0 7)) false (-1)) := hdisk
            have HK3 := hide (HKS.out.trans hkept)
            have HE3 := hide (HEK2.out.kept HK3.out)
            have HRD := hide (HWN.out.last (at_ := p) (B := ((ckB 10 6).set 0 7)) (by omega))
            clear hdisk hkept
            go_wp2_with fail
            refine (wopen_any (F := 0) (N := 8) (base := 0) (ep := 20) HD3.out HE3.out 5 (by omega) (by omega) (by rw [length_addS, HWN.out.1]; omega) (by omega)).mono ?_
            rintro e y4 ⟨v, rfl, hpost, hkept⟩
            have HB4 := hide (HBW.out.trans ((HK3.out.trans hkept).below HKW.out))
            rw [stale_far HRD.out hn5 (by omega)] at hpost
            rcases hpost with ⟨_, l, rfl, hlog⟩ | ⟨h0, _⟩
            · rw [length_cks] at hlog
              have HL := hide hlog
              clear hlog hkept
              go_wp2_with fail
              refine (wlast_any HL.out (6 * n) (length_cks _)).mono ?_
              rintro e y5 ⟨rfl, q5, rfl⟩
              rw [show (0 : Int) + ((6 * n : Nat) : Int) = 6 * (n : Int) by omega]
              go_wp2_with fail
              refine (wdone_any (HL.out.drewN _)).mono ?_
              rintro e y6 ⟨rfl, q6, rfl⟩
              rw [show (0 : Int) + ((6 * n : Nat) : Int) = 6 * (n : Int) by omega]
              go_wp2_with fail
              go_ret
              exact ⟨rfl, below_drewN HB4.out _⟩
            · exact absurd (show (0 : Int) ≤ -1 from h0) (by decide)
          · have hgt : decide ((n : Int) < (p : Int)) = false := by simp; omega
            have hgt2 : ¬ n < p := by omega
            have hpz : decide ((p : Int) < 0) = false := by simp
            have HRC : Hid (RecRow x5 (some ⟨b6, o6, none⟩) (cks 6)) := by show RecRow x5 _ (cks 6); rw [← cks_take 6 6 (by omega)]; exact (HOW.out.take 6 (by rw [length_cks]; omega)).row
            go_wp2_with fail
            refine (bb_ok (x := a 1) (rs := cks 6) HEW.out.blk.rd.range HRC.out (length_cks 6) (okS (by omega) (by omega) (by omega))).mono ?_
            rintro e y1 ⟨g, rfl, hg, hown, hbel⟩
            have HD1 := hide (HDK.out.widen hbel)
            have HO1 := hide hown
            have HK1 := hide (HKP.out.trans (Kept.of_below hbel HDK.out.low))
            have HG := hide hg
            have HGL : Hid (g < y1.heap.size) := (hown.1.lt g rfl).2
            clear hown hbel hg
            go_wp2_with fail
            refine (number_any _ _ _ (by omega) (by omega)).mono ?_
            rintro e y2 ⟨rfl, rfl⟩
            rw [HH.out]
            have hcell := HO1.out.cell 0 (by rw [length_blockB _ _ (by rw [length_cks]; omega)]; omega)
            have hfz := HO1.out.frozen 0
            obtain ⟨v0, hv0⟩ : ∃ v, v = (blockB 10 (cks 6)).getD 0 0 := ⟨_, rfl⟩
            rw [← hv0] at hcell
            clear hv0
            go_upto_region 40 with fail
            obtain ⟨Z, hZ⟩ : ∃ Z, Z = y2.setCell ⟨g, 0, none⟩ (.int .u8 7) := ⟨_, rfl⟩
            have HKS : Hid (Kept K Y Z) := by
              show Kept K Y Z
              rw [hZ]
              exact HK1.out.trans ⟨rfl, rfl, rfl, by simp [World.setCell], fun k hk => Below.heap_setCell _ _ _ _ (fun e => by have h1 := HDK.out.low k hk; have h2 := HG.out; simp only at e; omega)⟩
            have HDS : Hid (Disk Z K a d vss false (-1)) := by
              show Disk Z K a d vss false (-1)
              rw [hZ]
              refine HD1.out.stays (fun k hk hn => Below.heap_setCell _ _ _ _ (fun e => hn (.inr ⟨by have := HG.out; simp only at e; omega, hk⟩))) (fun k hk => ⟨by have := HDK.out.low k hk; have := HD1.out.low k (.inl hk); simp [World.setCell]; omega, fun _ => .inl hk⟩) ?_
              intro i hi
              have h1 := (HEK2.out.kept HKS.out).three i hi
              rw [hZ] at h1
              exact h1
            have HOS : Hid (Own Z g (some ⟨g, 0, none⟩) 256 ((ckB 10 6).set 0 7)) := by show Own Z g _ 256 _; rw [hZ]; exact HO1.out.stored 0 7 (by omega) (by omega)
            rw [← hZ]
            clear hZ hcell hfz
            go_wp2_with fail
            refine (write_ok d p (some ⟨g, 0, none⟩) 256 ((ckB 10 6).set 0 7) HDS.out (by rw [HWN.out.1]; omega) HOS.out.row (by rw [List.length_set]; exact length_blockB _ _ (by rw [length_cks]; omega)) (by have := HWN.out.bd p; omega) (by decide)).mono ?_
            rintro e y3 ⟨rfl, hdisk, hkept⟩
            have HD3 : Hid (Disk y3 K a d (addS vss p ((ckB 10 6).set 0 7)) false (-1)) := hdisk
            have HK3 := hide (HKS.out.trans hkept)
            have HE3 := hide (HEK2.out.kept HK3.out)
            have HRD := hide (HWN.out.last (at_ := p) (B := ((ckB 10 6).set 0 7)) (by omega))
            clear hdisk hkept
            go_wp2_with fail
            refine (wopen_any (F := 0) (N := 8) (base := 0) (ep := 20) HD3.out HE3.out 5 (by omega) (by omega) (by rw [length_addS, HWN.out.1]; omega) (by omega)).mono ?_
            rintro e y4 ⟨v, rfl, hpost, hkept⟩
            have HB4 := hide (HBW.out.trans ((HK3.out.trans hkept).below HKW.out))
            rw [stale_bad HRD.out hn5 (by omega) ((badB_iff _ _).2 (.inl (ans_turned 10 6 (by omega))))] at hpost
            rcases hpost with ⟨h0, _⟩ | ⟨_, b, rfl, hat, _⟩
            · exact absurd (show (p : Int) = -1 from h0) (by omega)
            · have HAT := hide hat
              clear hat hkept
              unfold atV
              go_wp2_with fail
              refine (placed_b 108 p _ (by decide)).mono ?_
              rintro e y5 ⟨rfl, hb⟩
              have HAT5 := hide (HAT.out.below hb)
              have HB5 := hide (over HB4.out hb HB4.out.size)
              clear hb
              go_wp2_with fail
              refine (same_placed _ a 7 (by omega) b p 108 (by omega) (HE.out.step HB5.out) HAT5.out.pos HAT5.out.err).mono ?_
              rintro e y6 ⟨rfl, hb⟩
              have HB6 := hide (over HB5.out hb HB5.out.size)
              clear hb
              go_wp2_with fail
              go_ret
              exact ⟨rfl, HB6.out⟩
end Go.Proofs.YtgjhnkadfdcafaaDoor.walStale
