
/- What the statement BlockRecords asks comes out true, at all arguments; nothing that was there is written. -/
import Derived.Test.YticaldoggdfjiaaDoorBlockTools
import Derived.Test.YticaldoggdfjiaaDoorLay
namespace Go.Proofs.YticaldoggdfjiaaDoor.blockRecords
open Go.RowKit
set_option linter.unusedVariables false

theorem str_mark : strOfNums [80, 72, 88, 66] = { data := #[80, 72, 88, 66] } := by decide
theorem head_bytes (e : Int) (rs : List R) (h0 : 1 ≤ e) (h1 : e ≤ 1000000) (hl : rs.length ≤ 6) : (blockB e rs).getD 0 0 = 80 ∧ (blockB e rs).getD 1 0 = 72 ∧ (blockB e rs).getD 2 0 = 88 ∧ (blockB e rs).getD 3 0 = 66 ∧ (blockB e rs).getD 4 0 + 256 * (blockB e rs).getD 5 0 + 65536 * (blockB e rs).getD 6 0 = e ∧ (blockB e rs).getD 8 0 = rs.length := by
  refine ⟨?_, ?_, ?_, ?_, ?_, ?_⟩
  · rw [← byteAt_nat, blockB_mark e rs _ (by omega)]; decide
  · rw [← byteAt_nat, blockB_mark e rs _ (by omega)]; decide
  · rw [← byteAt_nat, blockB_mark e rs _ (by omega)]; decide
  · rw [← byteAt_nat, blockB_mark e rs _ (by omega)]; decide
  · rw [← byteAt_nat, ← byteAt_nat, ← byteAt_nat, blockB_epochAt e rs _ (by omega) (by omega), blockB_epochAt e rs _ (by omega) (by omega), blockB_epochAt e rs _ (by omega) (by omega)]
    exact epoch_bytes e (by omega) (by omega)
  · rw [← byteAt_nat, blockB_countAt e rs _ (by omega) (by omega)]
    show byteOf _ 0 = _
    unfold byteOf
    rw [Int.pow_zero, Int.ediv_one]
    exact mod_lt (by omega) (by omega)
set_option maxRecDepth 100000 in
set_option maxHeartbeats 16000000 in
theorem walk (a0 : Int) (a1 : Option Addr) (len1 cap1 : Nat) (z1 : List Int) (w : World) (w0 : (Lit.int .i64 a0).wf = true) (w1 : IsRow .i64 w a1 len1 cap1 z1) {a : Nat → Addr} (he : ErrsOf w [1, 2, 3, 4] a) :
    Calls Tryd.prog 7 #[.int .i64 a0, .slice a1 len1 cap1] w fun e w' => e = .returned (.bool true) ∧ Below w.heap.size w w' := by
  have HE := hide (errs_blk he (by decide) (by decide) (by decide) (by decide))
  have HI := hide w1
  clear he w0 w1
  go_enter Tryd.func7, Tryd.ntmps7
  go_wp2_with fail
  refine (bfirst_any _ HE.out).mono ?_
  rintro e x1 ⟨rfl, hb⟩
  have HB := hide hb
  clear hb
  by_cases hl : len1 ≤ 150
  case neg =>
    have hli : (150 : Int) < (len1 : Int) := by omega
    go_wp2_with fail
    go_ret
    exact ⟨rfl, HB.out⟩
  have hli : decide ((150 : Int) < (len1 : Int)) = false := by simp; omega
  have HL := hide hl
  clear hl
  go_wp2_with fail
  refine (number_big _ _ _ (by omega) (by omega)).mono ?_
  rintro e y1 ⟨rfl, rfl⟩
  have hep := numberB_bd a0 1000000 (by omega)
  obtain ⟨ep0, hep0⟩ : ∃ ep, ep = numberB a0 1000000 := ⟨_, rfl⟩
  rw [← hep0] at hep ⊢
  clear hep0
  obtain ⟨he0, he1⟩ := hep
  go_wp2_with fail
  refine (recs_new 5 (by omega) (by omega) HI.out HL.out HB.out).mono ?_
  rintro e x2 ⟨so, sc, k, B, rs, rfl, hk, hk5, ⟨hB0, hB1⟩, hown, hgood, ⟨n1, hn1, hS⟩, hb⟩
  have HSZ := hide HB.out.size
  have HWB := hide (Nat.le_trans HSZ.out (Nat.le_of_lt hB0))
  replace HB := hide hb
  have HO := hide hown
  have HG := hide hgood
  have HS := hide hS
  have HK := hide hk
  have HB0 := hide hB0
  have HB1 := hide hB1
  clear hb hown hgood hS hk hB0 hB1
  have hk6 : k ≤ 5 := by omega
  go_wp2_with fail
  refine (rec_next HS.out (by omega) HB.out HSZ.out).mono ?_
  rintro e x3 ⟨r, rfl, hg, hf, _, hbut, hb⟩
  replace HO := hide (HO.out.but hbut HB0.out)
  replace HB1 := hide (Nat.le_trans HB1.out hbut.size)
  replace HB := hide hb
  replace HG := hide (snoc_all HG.out ⟨hg, hf⟩)
  clear hb hbut hg hf HS HB0 HI
  go_wp2_with (first | (refine build1 r rfl ?_) | (at_builtin; refine append1 B so k sc rs r rfl HK.out HO.out (by omega) (by first | rfl | (simp; rfl)) HB1.out ?_; intro ao3 c3 x4 hown3 hb3; have HO3 := hide hown3; have HB3 := hide hb3; clear hown3 hb3))
  replace HB := hide (HB.out.trans (HB3.out.mono HWB.out))
  obtain ⟨ss, hss⟩ : ∃ ss, ss = rs ++ [r] := ⟨_, rfl⟩
  have HSL : Hid (ss.length = k + 1) := by show ss.length = _; rw [hss, List.length_append, HK.out]; rfl
  rw [← hss] at HO3 HG
  clear hss HO HK HB1 HB3
  have HR4 := hide HO3.out.row
  have HL6 : Hid (ss.length ≤ 6) := by show ss.length ≤ 6; rw [HSL.out]; omega
  have HOK : Hid (okB (ep0 + 1) ss = true) := ok_all (by omega) (by omega) (by rw [HSL.out]; omega) HL6.out HG.out
  refine (bb_ok (x := a 1) (HE.out.step HB.out).rd.range HR4.out HSL.out HOK.out).mono ?_
  rintro e x5 ⟨g, rfl, hg, hown, hb⟩
  have HO := hide hown
  have HGS := hide hg
  have HGW := hide (Nat.le_trans HB.out.size hg)
  have HBE := hide hb
  replace HB := hide (over HB.out hb HB.out.size)
  clear hown hg hb HO3
  obtain ⟨bs, hbs⟩ : ∃ bs, bs = blockB (ep0 + 1) ss := ⟨_, rfl⟩
  have HBS := hide hbs
  have HLB : Hid (bs.length = 256) := by show bs.length = 256; rw [hbs]; exact length_blockB _ _ HL6.out
  rw [← hbs] at HO
  clear hbs
  have HPA : Hid (∀ i r, ss[i]? = some r → partAt bs i = recB r) := by intro i r h; rw [HBS.out]; exact part_blockB _ _ i r h
  have HHB := head_bytes (ep0 + 1) ss (by omega) (by omega) HL6.out
  rw [← HBS.out, HSL.out] at HHB
  obtain ⟨m0, m1, m2, m3, m4, m8⟩ := HHB
  have c0 := HO.out.cell 0 (by rw [HLB.out]; omega)
  have c1 := HO.out.cell 1 (by rw [HLB.out]; omega)
  have c2 := HO.out.cell 2 (by rw [HLB.out]; omega)
  have c3 := HO.out.cell 3 (by rw [HLB.out]; omega)
  have c4 := HO.out.cell 4 (by rw [HLB.out]; omega)
  have c5 := HO.out.cell 5 (by rw [HLB.out]; omega)
  have c6 := HO.out.cell 6 (by rw [HLB.out]; omega)
  have c8 := HO.out.cell 8 (by rw [HLB.out]; omega)
  have y4 := HO.out.2.1.getD 4
  have y5 := HO.out.2.1.getD 5
  have y6 := HO.out.2.1.getD 6
  rw [m0] at c0
  rw [m1] at c1
  rw [m2] at c2
  rw [m3] at c3
  rw [m8] at c8
  obtain ⟨b4, e4⟩ : ∃ b4, b4 = bs.getD 4 0 := ⟨_, rfl⟩
  obtain ⟨b5, e5⟩ : ∃ b5, b5 = bs.getD 5 0 := ⟨_, rfl⟩
  obtain ⟨b6, e6⟩ : ∃ b6, b6 = bs.getD 6 0 := ⟨_, rfl⟩
  rw [← e4] at c4 y4 m4
  rw [← e5] at c5 y5 m4
  rw [← e6] at c6 y6 m4
  obtain ⟨y4a, y4b⟩ := y4
  obtain ⟨y5a, y5b⟩ := y5
  obtain ⟨y6a, y6b⟩ := y6
  have hsum : (b4 + 256 * b5 + 65536 * b6 != ep0 + 1) = false := by simp; omega
  have kc : ∀ nd, (convert 24 9 (.slice (some ⟨g, 0, none⟩) 4 256)).run Tryd.prog (x5.drewN nd) = .ok (.string { data := #[80, 72, 88, 66] }) (x5.drewN nd) := by
    intro nd
    have h := run_convert_bytes_arg (P := Tryd.prog) (x5.drewN nd) 24 5 Tryd.underlying24 Tryd.underlying5 g 0 4 256 [80, 72, 88, 66] rfl (fun i hi => by rcases (show i = 0 ∨ i = 1 ∨ i = 2 ∨ i = 3 by omega) with rfl | rfl | rfl | rfl; exact c0; exact c1; exact c2; exact c3) 9 Tryd.underlying9
    rw [str_mark] at h
    exact h
  clear m0 m1 m2 m3 m4 m8 e4 e5 e6 c0 c1 c2 c3
  go_wp2_with fail
  go_quiet (fail)
  go_wp2_with fail
  have HR5 := hide (HR4.out.below HBE.out (Nat.le_refl _))
  clear HR4 HBE c4 c5 c6 c8 kc hsum y4a y4b y5a y5b y6a y6b
  go_loopw [10] (fun i wr => ∃ j : Nat, j ≤ k + 1 ∧ i = .int .i64 j ∧ Below x5.heap.size x5 wr) (fun i _ => k + 1 - (intOf i).toNat)
  case atStart => exact ⟨0, by omega, rfl, below_drewN (Below.refl _ _) _⟩
  case round =>
    obtain ⟨j, hj, rfl, hb⟩ := hrel
    have HBR := hide hb
    have HBW := hide (over HB.out hb HB.out.size)
    clear hb
    by_cases hlt : j < k + 1
    · have hji : (j : Int) < (k : Int) + 1 := by omega
      obtain ⟨b, off, rfl, hc⟩ := HR5.out.2 (by rw [HSL.out]; omega)
      obtain ⟨r1, hr1⟩ : ∃ r1, ss[j]? = some r1 := ⟨ss[j]'(by rw [HSL.out]; exact hlt), List.getElem?_eq_getElem _⟩
      have hcr := (hc j r1 hr1).of_block (HBR.out.block b (hc j r1 hr1).lt) HBR.out.size
      have HGR := hide (HG.out r1 (List.mem_of_getElem? hr1)).1
      have HPR := hide (HPA.out j r1 hr1)
      clear hc hr1
      obtain ⟨k0, k1, k2, k3, k4, k5, k6, k7, k8, k9, kl⟩ := hcr
      clear kl
      go_wp2_with fail
      clear k0 k1 k2 k3 k4 k5 k6 k7 k8 k9
      refine (recBytes_good r1 _ _ (HE.out.step HBW.out).rd.range HGR.out).mono ?_
      rintro e y2 ⟨g2, rfl, hg2, hown2, hb2⟩
      have HO2 := hide hown2
      have HOB := hide ((HO.out.below HBR.out (Nat.le_refl _)).below hb2 (Nat.le_refl _))
      replace HBR := hide (over HBR.out hb2 HBR.out.size)
      replace HBW := hide (over HBW.out hb2 HBW.out.size)
      clear hg2 hown2 hb2
      go_wp2_with fail
      have HLP : Hid ((partAt bs j).length = 40) := length_partAt bs j HLB.out (by omega)
      have HRP : Hid (Row y2 (some ⟨g, 16 + 40 * j, none⟩) (partAt bs j)) := HOB.out.row.part (m := 16 + 40 * j) (by rw [HLP.out]; rfl) _ fun _ => rfl
      refine (same_len _ _ _ (recB r1) _ _ _ (partAt bs j) _ HO2.out.row HRP.out (length_recB r1) (by rw [HLP.out]; omega)).mono ?_
      rintro e y3 ⟨rfl, nd, rfl⟩
      rw [sameB_true HPR.out.symm]
      go_wp2_with fail
      go_roundw
      case rel => exact ⟨j + 1, by omega, by go_num, below_drewN HBR.out _⟩
      case measure => simp [intOf]; omega
    · have hji : decide ((j : Int) < (k : Int) + 1) = false := by simp; omega
      go_wp2_with fail
      go_ret
      exact ⟨rfl, HBW.out⟩
end Go.Proofs.YticaldoggdfjiaaDoor.blockRecords
