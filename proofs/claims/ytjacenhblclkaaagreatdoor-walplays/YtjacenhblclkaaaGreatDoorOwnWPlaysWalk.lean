
/- What the statement WalPlays asks comes out true, at every two lists of numbers and two numbers; nothing that was there is written. -/
import Derived.Test.YtjacenhblclkaaaGreatDoorJoin47
namespace Go.Proofs.YtjacenhblclkaaaGreatDoor.walPlays
open Go.RowKit
set_option linter.unusedVariables false

set_option maxRecDepth 100000 in
set_option maxHeartbeats 32000000 in
theorem walk (lo : Option Addr) (len cap : Nat) (zs : List Int) (lo1 : Option Addr) (len1 cap1 : Nat) (zs1 : List Int) (b0 p0 : Int) (w : World) (w0 : IsRow .i64 w lo len cap zs) (w1 : IsRow .i64 w lo1 len1 cap1 zs1) (w2 : (Lit.int .i64 b0).wf = true) (w3 : (Lit.int .i64 p0).wf = true) {a : Nat → Addr} (he : ErrsOf w all18 a) :
    Calls Tryz.prog 3 #[.slice lo len cap, .slice lo1 len1 cap1, .int .i64 b0, .int .i64 p0] w fun e w' => e = .returned (.bool true) ∧ Below w.heap.size w w' := by
  have HE := hide he
  have HR := hide w0
  have HR1 := hide w1
  clear he w0 w1 w2 w3
  go_enter Tryz.func3, Tryz.ntmps3
  go_wp2_with fail
  refine (wfirst_any w HE.out seven18).mono ?_
  rintro e x1 ⟨rfl, hb⟩
  have HB := hide hb
  have HE1 := hide (HE.out.step hb)
  clear hb
  by_cases hl : 500 < len
  · have hli : (500 : Int) < (len : Int) := by omega
    go_wp2_with fail
    go_ret
    exact ⟨rfl, HB.out⟩
  have hli : decide ((500 : Int) < (len : Int)) = false := by simp; omega
  by_cases hl1 : 60 < len1
  · have hli1 : (60 : Int) < (len1 : Int) := by omega
    go_wp2_with fail
    go_ret
    exact ⟨rfl, HB.out⟩
  have hli1 : decide ((60 : Int) < (len1 : Int)) = false := by simp; omega
  go_wp2_with fail
  refine (number_any b0 6 _ (by omega) (by omega)).mono ?_
  rintro e xx ⟨rfl, rfl⟩
  obtain ⟨N, hN, hN1⟩ : ∃ N : Nat, numberB b0 6 + 1 = (N : Int) ∧ 1 ≤ N ∧ N ≤ 6 := by
    have := numberB_bd b0 6 (by omega)
    exact ⟨(numberB b0 6 + 1).toNat, by omega, by omega, by omega⟩
  go_wp2_with fail
  refine (number_any p0 100 _ (by omega) (by omega)).mono ?_
  rintro e xx ⟨rfl, rfl⟩
  obtain ⟨base, hbase⟩ : ∃ base, base = numberB p0 100 := ⟨_, rfl⟩
  have hbb : 0 ≤ base ∧ base < 100 := by rw [hbase]; exact numberB_bd p0 100 (by omega)
  rw [← hbase]
  clear hbase
  obtain ⟨N2, hN2⟩ : ∃ N2, N2 = N + 2 := ⟨_, rfl⟩
  have hNi : (N : Int) + 2 = (N2 : Int) := by omega
  have HN2 := hide hN2
  have hN2b : N2 ≤ 8 := by omega
  clear hN2
  go_wp2_with fail
  refine (new_any N2 N2 (.inr (.inl ⟨by have := HN2.out; omega, by omega, rfl⟩)) (errs_three HE1.out seven18)).mono ?_
  rintro e x2 ⟨d, rfl, hd, hdisk, hbel⟩
  have HD2 := hide hdisk
  have HB2 := hide hbel
  clear hdisk hbel hd
  go_wp2_with fail
  refine (rnew_any x2 N2 (by have := HN2.out; omega) (by omega)).mono ?_
  rintro e x3 ⟨rfl, s, sc, hys, hrd, hbel⟩
  have hdk := HD2.out
  rw [HN2.out] at hrd hdk
  obtain ⟨K, hP⟩ := pair_new (N := N) (base := base) (qc := cap) HE.out HR.out (by omega) HB.out HB2.out hdk hbel hrd hys ⟨by omega, by omega⟩ (by omega)
  have HP := hide hP
  clear hP hdk hrd hbel hys HD2 HB2
  go_wp2_with fail
  refine (wnew_any d 2 N base 1 x3 (by omega)).mono ?_
  rintro e x4 ⟨rfl, hx4⟩
  rw [← hx4] at HP
  clear hx4
  go_wp2_with fail
  refine (rnewlog_any x2.heap.size 2 N base 1 x4).mono ?_
  rintro e x5 ⟨rfl, hx5⟩
  rw [← hx5] at HP
  clear hx5
  unfold seqCells at HP
  obtain ⟨y, hy⟩ : ∃ y, y = x2.heap.size := ⟨_, rfl⟩
  obtain ⟨l, hl⟩ : ∃ l, l = x3.heap.size := ⟨_, rfl⟩
  obtain ⟨z, hz⟩ : ∃ z, z = x4.heap.size := ⟨_, rfl⟩
  rw [← hy, ← hl, ← hz] at HP ⊢
  clear hy hl hz
  go_upto_region 18 with fail
  obtain ⟨W, hW⟩ : ∃ W, W = x5.alloc (.cells #[.slice lo len cap, .int .i64 0] 35) := ⟨_, rfl⟩
  obtain ⟨q, hq⟩ : ∃ q, q = x5.heap.size := ⟨_, rfl⟩
  rw [← hW, ← hq] at HP ⊢
  clear hW hq
  go_wp2_with fail
  go_loopw [12, 13, 14, 16] (fun ev xv zv iv wr => ∃ (i n l z : Nat) (E : Int) (K : Nat → Prop) (X : LSt), ev = .int .i64 E ∧ xv = .pointer (some ⟨l, 0, none⟩) ∧ zv = .pointer (some ⟨z, 0, none⟩) ∧ iv = .int .i64 i ∧ i ≤ len1 ∧ n ≤ 11 * i ∧ X.ep = E ∧ E ≤ 1 + 6 * i ∧ LOk N X ∧ Pair w wr K a l d z y s sc q lo len cap zs n N base X X) (fun _ _ _ iv _ => len1 - (intOf iv).toNat)
  case atStart => exact ⟨0, 0, l, z, 1, K, LSt.new N, rfl, rfl, rfl, rfl, by omega, by omega, rfl, by omega, LOk.new N, HP.out⟩
  case round =>
    clear HP HE1 HB
    obtain ⟨i, n, l, z, E, K, X, rfl, rfl, rfl, rfl, hi, hn, hep, hE, hok, hp⟩ := hrel
    have HP := hide hp
    have HOK := hide hok
    have HEP := hide hep
    have hE1 : 1 ≤ E := by have := hok.ep1; omega
    clear hp hok hep
    by_cases hlt : i < len1
    · have hki : (i : Int) < (len1 : Int) := by omega
      obtain ⟨b1, off1, rfl, hbl1, hcell⟩ := row_at HR1.out (by omega) hlt
      have hc0 := (HP.out.bel.cell (p := ⟨b1, off1 + i, none⟩) hbl1).trans hcell
      obtain ⟨zz, hzz⟩ : ∃ zz, zz = zs1.getD i 0 := ⟨_, rfl⟩
      rw [← hzz] at hc0
      clear hcell hzz hbl1
      go_wp2_with fail
      clear hc0
      refine (number_any zz 20 _ (by omega) (by omega)).mono ?_
      rintro e y1 ⟨rfl, rfl⟩
      have hp := numberB_bd zz 20 (by omega)
      obtain ⟨k, hk⟩ : ∃ k : Nat, numberB zz 20 = k := ⟨(numberB zz 20).toNat, by omega⟩
      rw [hk] at hp ⊢
      clear hk
      by_cases hk11 : k < 11
      · have hk1 : (k : Int) < 11 := by omega
        go_wp2_with fail
        refine (rec_next HP.out.seq (by omega) HP.out.bel HP.out.low.1).mono ?_
        rintro e w2 ⟨r, rfl, hg, hf, ⟨n1, hn1, hsq⟩, hbut, _⟩
        have HF := hide hf
        have HBU := hide (hbut.alloc (recCells r))
        have HSQ := hide (hsq.step (below_box w2 (recCells r)))
        have HC := hide (cells10_new w2 r)
        have HRB : Hid ((w2.alloc (recCells r)).heap[w2.heap.size]? = some (recCells r)) := heap_alloc_new _ _
        have HVL : Hid (y1.heap.size ≤ w2.heap.size ∧ w2.heap.size < (w2.alloc (recCells r)).heap.size) := by show _ ∧ _; exact ⟨hbut.size, by simp⟩
        unfold recCells at HBU HSQ HC HVL HRB
        unfold R.val
        clear hf hbut hsq hg
        by_cases hk0 : k = 0
        · have hk00 : decide ((k : Int) = 0) = true := by simp; omega
          subst hk0
          go_upto_region 37 with fail
          obtain ⟨Z, hZ⟩ : ∃ Z, Z = w2.alloc (.cells #[.int .i64 r.kind, .int .i64 r.txn, .int .i64 r.page, .int .i64 r.prev, .int .i64 r.next, .int .i64 r.key, .bool r.had, .bool r.has, .int .i64 r.old, .int .i64 r.new] 37) := ⟨_, rfl⟩
          rw [← hZ] at HBU HSQ HC HVL HRB ⊢
          obtain ⟨V, hV⟩ : ∃ V, V = w2.heap.size := ⟨_, rfl⟩
          rw [← hV] at HC HVL HRB ⊢
          clear hZ hV
          go_wp2_with fail
          refine (next_but q lo len cap zs n1 20 _ HSQ.out (by omega) (by omega) (by omega)).mono ?_
          rintro e w3 ⟨kk, rfl, hkk, hsq, hbut⟩
          have HRB3 : Hid (w3.heap[V]? = some (.cells #[.int .i64 r.kind, .int .i64 r.txn, .int .i64 r.page, .int .i64 r.prev, .int .i64 r.next, .int .i64 r.key, .bool r.had, .bool r.has, .int .i64 r.old, .int .i64 r.new] 37 (0, 0))) := by show _ = _; rw [hbut.block V HVL.out.2 (by have := HVL.out.1; have := lt_of_block HP.out.seq.lies; omega)]; exact HRB.out
          have hkp := kind_put (kk : Int) (HBU.out.trans hbut) HVL.out.1 (lt_of_block HP.out.seq.lies) HRB3.out hsq
          have hfz := frozen_cells HRB3.out 0
          have hk00c : w3.cell? ⟨V, 0, none⟩ = some (.int .i64 r.kind) := (cell_row HRB3.out 0).trans rfl
          have HKP := hide hkp
          clear HBU HSQ HC hsq hbut hkp HRB HRB3
          go_upto_region 39 with fail
          obtain ⟨Z2, hZ2⟩ : ∃ Z2, Z2 = w3.setCell ⟨V, 0, none⟩ (.int .i64 (kk : Int)) := ⟨_, rfl⟩
          obtain ⟨r2, hr2⟩ : ∃ r2 : R, r2 = ⟨(kk : Int), r.txn, r.page, r.prev, r.next, r.key, r.had, r.has, r.old, r.new⟩ := ⟨_, rfl⟩
          rw [← hZ2, ← hr2] at HKP
          rw [← hZ2]
          have HP3 := hide (HP.out.butw HKP.out.1 HKP.out.2.1)
          have HC := hide HKP.out.2.2.1
          have HIN : Hid (wider K y1.heap.size Z2.heap.size V) := .inr ⟨HVL.out.1, HKP.out.2.2.2⟩
          replace HF : Hid r2.fits := by show r2.fits; rw [hr2]; exact HF.out
          clear hZ2 hr2 HKP HVL hfz hkk hk00c
          obtain ⟨k0, k1, k2, k3, k4, k5, k6, k7, k8, k9, kl⟩ := HC.out
          go_wp2_with fail
          clear k0 k1 k2 k3 k4 k5 k6 k7 k8 k9 kl
          refine (HP3.out.append1 HOK.out r2 HF.out).mono ?_
          rintro e v1 ⟨fv, rfl, hec, hp, hkept⟩
          have HQ1 := hide hp
          have HC1 := hide (HC.out.kept hkept HIN.out)
          have HEC := hide hec
          obtain ⟨av, hav⟩ : ∃ av, av = appV N base r2 X := ⟨_, rfl⟩
          have HAV := hide hav
          rw [← hav]
          clear hp hkept hec hav
          obtain ⟨k0, k1, k2, k3, k4, k5, k6, k7, k8, k9, kl⟩ := HC1.out
          go_wp2_with fail
          clear k0 k1 k2 k3 k4 k5 k6 k7 k8 k9 kl
          refine (HQ1.out.append2 HOK.out r2).mono ?_
          rintro e v2 ⟨rfl, K5, hp⟩
          have HQ2 := hide hp
          have HOK2 := hide (HOK.out.app (base := base) r2)
          have HEC2 := HEC
          rw [← HAV.out]
          obtain ⟨ac, hac⟩ : ∃ ac, ac = appC N base r2 X := ⟨_, rfl⟩
          rw [← hac] at HEC2 ⊢
          obtain ⟨Y, hY⟩ : ∃ Y, Y = X.app N base r2 := ⟨_, rfl⟩
          have HEY : Hid (Y.ep = E) := by show Y.ep = E; rw [hY, ← HEP.out]; unfold LSt.app; split <;> rfl
          rw [← hY] at HQ2 HOK2
          clear hp hac hY HAV HEC HC1 HC HQ1 HF HIN HOK HEP
          go_wp2_with fail
          refine (is_code HEC2.out (HQ2.out.errs.step HQ2.out.bel)).mono ?_
          rintro e v3 ⟨rfl, hb⟩
          have HQ3 := hide (HQ2.out.below hb)
          clear hb HQ2 HEC2
          go_wp2_with fail
          obtain ⟨L, lao, lc, hrl, _⟩ := HQ3.out.doc.rl
          refine (lsame_any HQ3.out.log hrl).mono ?_
          rintro e t1 ⟨rfl, hb⟩
          have HT1 := hide (HQ3.out.below hb)
          clear hb hrl
          go_wp2_with fail
          refine (image_any d HT1.out.log.disk).mono ?_
          rintro e t2 ⟨io, ic, ps, rfl, hps, hown, hb⟩
          have HT2 := hide (HT1.out.below hb)
          have HI := hide hown
          have HPS := hide hps
          have HLV : Hid ((Y).vss.length = N2) := by show _ = _; rw [HOK2.out.len]; exact HN2.out.symm
          rw [HLV.out]
          clear hb hown hps HT1
          go_wp2_with fail
          obtain ⟨M, hrd, _⟩ := HT2.out.doc.rd
          refine (rimage_any hrd).mono ?_
          rintro e t3 ⟨jo, jc, qs, rfl, hqs, hown, hb⟩
          have HT3 := hide (HT2.out.below hb)
          have HI2 := hide (HI.out.below hb)
          have HJ := hide hown
          have HQS := hide hqs
          rw [HLV.out]
          clear hb hown hqs hrd HI HT2
          go_wp2_with fail
          refine (sameSectors_any HI2.out HJ.out (HPS.out.trans HQS.out.symm) (by have := congrArg List.length HPS.out; simp only [List.length_map] at this; rw [this]; exact HLV.out) (by omega)).mono ?_
          rintro e t4 ⟨rfl, q4, rfl⟩
          have HT4 := hide (HT3.out.below (below_drewN (Below.refl _ _) q4))
          clear HI2 HJ HPS HQS HLV HT3
          go_wp2_with fail
          exact ⟨⟨i + 1, (n1 + 1), _, _, E, _, Y, rfl, rfl, rfl, by go_num, by omega, by omega, HEY.out, by omega, HOK2.out, HT4.out⟩, by simp [intOf]; omega⟩
        · have hk00 : decide ((k : Int) = 0) = false := by simp; omega
          go_upto_region 37 with fail
          obtain ⟨Z, hZ⟩ : ∃ Z, Z = w2.alloc (.cells #[.int .i64 r.kind, .int .i64 r.txn, .int .i64 r.page, .int .i64 r.prev, .int .i64 r.next, .int .i64 r.key, .bool r.had, .bool r.has, .int .i64 r.old, .int .i64 r.new] 37) := ⟨_, rfl⟩
          rw [← hZ] at HBU HSQ HC HVL HRB ⊢
          obtain ⟨V, hV⟩ : ∃ V, V = w2.heap.size := ⟨_, rfl⟩
          rw [← hV] at HC HVL HRB ⊢
          clear hZ hV
          have HP3 := hide (HP.out.butw HBU.out HSQ.out)
          have HIN : Hid (wider K y1.heap.size Z.heap.size V) := .inr HVL.out
          clear HBU HSQ HVL HRB
          obtain ⟨k0, k1, k2, k3, k4, k5, k6, k7, k8, k9, kl⟩ := HC.out
          go_wp2_with fail
          clear k0 k1 k2 k3 k4 k5 k6 k7 k8 k9 kl
          refine (HP3.out.append1 HOK.out r HF.out).mono ?_
          rintro e v1 ⟨fv, rfl, hec, hp, hkept⟩
          have HQ1 := hide hp
          have HC1 := hide (HC.out.kept hkept HIN.out)
          have HEC := hide hec
          obtain ⟨av, hav⟩ : ∃ av, av = appV N base r X := ⟨_, rfl⟩
          have HAV := hide hav
          rw [← hav]
          clear hp hkept hec hav
          obtain ⟨k0, k1, k2, k3, k4, k5, k6, k7, k8, k9, kl⟩ := HC1.out
          go_wp2_with fail
          clear k0 k1 k2 k3 k4 k5 k6 k7 k8 k9 kl
          refine (HQ1.out.append2 HOK.out r).mono ?_
          rintro e v2 ⟨rfl, K5, hp⟩
          have HQ2 := hide hp
          have HOK2 := hide (HOK.out.app (base := base) r)
          have HEC2 := HEC
          rw [← HAV.out]
          obtain ⟨ac, hac⟩ : ∃ ac, ac = appC N base r X := ⟨_, rfl⟩
          rw [← hac] at HEC2 ⊢
          obtain ⟨Y, hY⟩ : ∃ Y, Y = X.app N base r := ⟨_, rfl⟩
          have HEY : Hid (Y.ep = E) := by show Y.ep = E; rw [hY, ← HEP.out]; unfold LSt.app; split <;> rfl
          rw [← hY] at HQ2 HOK2
          clear hp hac hY HAV HEC HC1 HC HQ1 HF HIN HOK HEP
          go_wp2_with fail
          refine (is_code HEC2.out (HQ2.out.errs.step HQ2.out.bel)).mono ?_
          rintro e v3 ⟨rfl, hb⟩
          have HQ3 := hide (HQ2.out.below hb)
          clear hb HQ2 HEC2
          go_wp2_with fail
          obtain ⟨L, lao, lc, hrl, _⟩ := HQ3.out.doc.rl
          refine (lsame_any HQ3.out.log hrl).mono ?_
          rintro e t1 ⟨rfl, hb⟩
          have HT1 := hide (HQ3.out.below hb)
          clear hb hrl
          go_wp2_with fail
          refine (image_any d HT1.out.log.disk).mono ?_
          rintro e t2 ⟨io, ic, ps, rfl, hps, hown, hb⟩
          have HT2 := hide (HT1.out.below hb)
          have HI := hide hown
          have HPS := hide hps
          have HLV : Hid ((Y).vss.length = N2) := by show _ = _; rw [HOK2.out.len]; exact HN2.out.symm
          rw [HLV.out]
          clear hb hown hps HT1
          go_wp2_with fail
          obtain ⟨M, hrd, _⟩ := HT2.out.doc.rd
          refine (rimage_any hrd).mono ?_
          rintro e t3 ⟨jo, jc, qs, rfl, hqs, hown, hb⟩
          have HT3 := hide (HT2.out.below hb)
          have HI2 := hide (HI.out.below hb)
          have HJ := hide hown
          have HQS := hide hqs
          rw [HLV.out]
          clear hb hown hqs hrd HI HT2
          go_wp2_with fail
          refine (sameSectors_any HI2.out HJ.out (HPS.out.trans HQS.out.symm) (by have := congrArg List.length HPS.out; simp only [List.length_map] at this; rw [this]; exact HLV.out) (by omega)).mono ?_
          rintro e t4 ⟨rfl, q4, rfl⟩
          have HT4 := hide (HT3.out.below (below_drewN (Below.refl _ _) q4))
          clear HI2 HJ HPS HQS HLV HT3
          go_wp2_with fail
          exact ⟨⟨i + 1, n1, _, _, E, _, Y, rfl, rfl, rfl, by go_num, by omega, by omega, HEY.out, by omega, HOK2.out, HT4.out⟩, by simp [intOf]; omega⟩
      · have hk11' : decide ((k : Int) < 11) = false := by simp; omega
        by_cases hk16 : k < 16
        · have hk1 : (k : Int) < 16 := by omega
          go_wp2_with fail
          have hbs := HP.out.base_bd
          have HBS := hide hbs
          clear hbs
          refine (HP.out.flush1 HOK.out).mono ?_
          rintro e v1 ⟨fv, rfl, hec, hp⟩
          have HQ1 := hide hp
          have HEC := hide hec
          clear hp hec
          go_wp2_with fail
          refine (HQ1.out.flush2 HOK.out HBS.out.1.2 HBS.out.2.1.2 HBS.out.2.2.2).mono ?_
          rintro e v2 ⟨rfl, K5, hp⟩
          have HQ2 := hide hp
          have HOK2 := hide HOK.out.flushed
          obtain ⟨ac, hac⟩ : ∃ ac, ac = flC X := ⟨_, rfl⟩
          rw [← hac] at HEC ⊢
          have HEY : Hid (X.flushed.ep = E) := HEP.out
          obtain ⟨Y, hY⟩ : ∃ Y, Y = X.flushed := ⟨_, rfl⟩
          rw [← hY] at HQ2 HOK2 HEY
          clear hp hac hY HQ1 HBS HOK HEP
          go_wp2_with fail
          refine (is_code HEC.out (HQ2.out.errs.step HQ2.out.bel)).mono ?_
          rintro e v3 ⟨rfl, hb⟩
          have HQ3 := hide (HQ2.out.below hb)
          clear hb HQ2 HEC
          go_wp2_with fail
          obtain ⟨L, lao, lc, hrl, _⟩ := HQ3.out.doc.rl
          refine (lsame_any HQ3.out.log hrl).mono ?_
          rintro e t1 ⟨rfl, hb⟩
          have HT1 := hide (HQ3.out.below hb)
          clear hb hrl
          go_wp2_with fail
          refine (image_any d HT1.out.log.disk).mono ?_
          rintro e t2 ⟨io, ic, ps, rfl, hps, hown, hb⟩
          have HT2 := hide (HT1.out.below hb)
          have HI := hide hown
          have HPS := hide hps
          have HLV : Hid ((Y).vss.length = N2) := by show _ = _; rw [HOK2.out.len]; exact HN2.out.symm
          rw [HLV.out]
          clear hb hown hps HT1
          go_wp2_with fail
          obtain ⟨M, hrd, _⟩ := HT2.out.doc.rd
          refine (rimage_any hrd).mono ?_
          rintro e t3 ⟨jo, jc, qs, rfl, hqs, hown, hb⟩
          have HT3 := hide (HT2.out.below hb)
          have HI2 := hide (HI.out.below hb)
          have HJ := hide hown
          have HQS := hide hqs
          rw [HLV.out]
          clear hb hown hqs hrd HI HT2
          go_wp2_with fail
          refine (sameSectors_any HI2.out HJ.out (HPS.out.trans HQS.out.symm) (by have := congrArg List.length HPS.out; simp only [List.length_map] at this; rw [this]; exact HLV.out) (by omega)).mono ?_
          rintro e t4 ⟨rfl, q4, rfl⟩
          have HT4 := hide (HT3.out.below (below_drewN (Below.refl _ _) q4))
          clear HI2 HJ HPS HQS HLV HT3
          go_wp2_with fail
          exact ⟨⟨i + 1, n, _, _, E, _, Y, rfl, rfl, rfl, by go_num, by omega, by omega, HEY.out, by omega, HOK2.out, HT4.out⟩, by simp [intOf]; omega⟩
        · have hk16' : decide ((k : Int) < 16) = false := by simp; omega
          by_cases hk18 : k < 18
          · have hk1 : (k : Int) < 18 := by omega
            go_wp2_with fail
            refine (next_but q lo len cap zs n 6 _ HP.out.seq (by omega) (by omega) (by omega)).mono ?_
            rintro e w3 ⟨m, rfl, hm, hsq, hbut⟩
            have HP3 := hide (HP.out.butw hbut hsq)
            clear hsq hbut
            go_wp2_with fail
            refine (HP3.out.fuse1 (m : Int) (by omega)).mono ?_
            rintro e v1 ⟨rfl, hp⟩
            have HQ1 := hide hp
            clear hp HP3
            go_wp2_with fail
            refine (HQ1.out.fuse2 (m : Int)).mono ?_
            rintro e v2 ⟨rfl, K5, hp⟩
            have HQ2 := hide hp
            have HOK2 := hide (HOK.out.fused (m : Int) (by omega))
            have HEY : Hid ((X.fused m).ep = E) := HEP.out
            obtain ⟨Y, hY⟩ : ∃ Y, Y = X.fused m := ⟨_, rfl⟩
            replace HOK2 : Hid (LOk N Y) := by show LOk N Y; rw [hY]; exact HOK2.out
            rw [← hY] at HQ2 HEY
            clear hp hY HQ1 HOK HEP
            go_wp2_with fail
            obtain ⟨L, lao, lc, hrl, _⟩ := HQ2.out.doc.rl
            refine (lsame_any HQ2.out.log hrl).mono ?_
            rintro e t1 ⟨rfl, hb⟩
            have HT1 := hide (HQ2.out.below hb)
            clear hb hrl
            go_wp2_with fail
            refine (image_any d HT1.out.log.disk).mono ?_
            rintro e t2 ⟨io, ic, ps, rfl, hps, hown, hb⟩
            have HT2 := hide (HT1.out.below hb)
            have HI := hide hown
            have HPS := hide hps
            have HLV : Hid ((Y).vss.length = N2) := by show _ = _; rw [HOK2.out.len]; exact HN2.out.symm
            rw [HLV.out]
            clear hb hown hps HT1
            go_wp2_with fail
            obtain ⟨M, hrd, _⟩ := HT2.out.doc.rd
            refine (rimage_any hrd).mono ?_
            rintro e t3 ⟨jo, jc, qs, rfl, hqs, hown, hb⟩
            have HT3 := hide (HT2.out.below hb)
            have HI2 := hide (HI.out.below hb)
            have HJ := hide hown
            have HQS := hide hqs
            rw [HLV.out]
            clear hb hown hqs hrd HI HT2
            go_wp2_with fail
            refine (sameSectors_any HI2.out HJ.out (HPS.out.trans HQS.out.symm) (by have := congrArg List.length HPS.out; simp only [List.length_map] at this; rw [this]; exact HLV.out) (by omega)).mono ?_
            rintro e t4 ⟨rfl, q4, rfl⟩
            have HT4 := hide (HT3.out.below (below_drewN (Below.refl _ _) q4))
            clear HI2 HJ HPS HQS HLV HT3
            go_wp2_with fail
            exact ⟨⟨i + 1, (n + 1), _, _, E, _, Y, rfl, rfl, rfl, by go_num, by omega, by omega, HEY.out, by omega, HOK2.out, HT4.out⟩, by simp [intOf]; omega⟩
          · have hk18' : decide ((k : Int) < 18) = false := by simp; omega
            go_wp2_with fail
            refine (next_but q lo len cap zs n 4 _ HP.out.seq (by omega) (by omega) (by omega)).mono ?_
            rintro e w3 ⟨m0, rfl, hm0, hsq, hbut⟩
            have HS1 := hide hsq
            have HB1 := hide hbut
            clear hsq hbut
            go_wp2_with fail
            refine (next_but q lo len cap zs (n + 1) 4 _ HS1.out (by omega) (by omega) (by omega)).mono ?_
            rintro e w4 ⟨m1, rfl, hm1, hsq, hbut⟩
            have HS2 := hide hsq
            have HB2 := hide (HB1.out.trans hbut)
            clear hsq hbut HS1 HB1
            go_wp2_with fail
            refine (next_but q lo len cap zs (n + 1 + 1) 4 _ HS2.out (by omega) (by omega) (by omega)).mono ?_
            rintro e w5 ⟨m2, rfl, hm2, hsq, hbut⟩
            have HS3 := hide hsq
            have HB3 := hide (HB2.out.trans hbut)
            clear hsq hbut HS2 HB2
            go_wp2_with fail
            refine (next_but q lo len cap zs (n + 1 + 1 + 1) 4 _ HS3.out (by omega) (by omega) (by omega)).mono ?_
            rintro e w6 ⟨m3, rfl, hm3, hsq, hbut⟩
            have HS4 := hide hsq
            have HB4 := hide (HB3.out.trans hbut)
            clear hsq hbut HS3 HB3
            have HRW := hide (irow4 w6 (m0 : Int) (m1 : Int) (m2 : Int) (m3 : Int) (by omega) (by omega) (by omega) (by omega))
            have HBX := hide (below_box w6 (.cells #[.int .i64 (m0 : Int), .int .i64 (m1 : Int), .int .i64 (m2 : Int), .int .i64 (m3 : Int)] 3))
            have HP3 := hide (HP.out.butw (HB4.out.alloc (.cells #[.int .i64 (m0 : Int), .int .i64 (m1 : Int), .int .i64 (m2 : Int), .int .i64 (m3 : Int)] 3)) (HS4.out.step HBX.out))
            have HVL : Hid (y1.heap.size ≤ w6.heap.size ∧ w6.heap.size < (w6.alloc (.cells #[.int .i64 (m0 : Int), .int .i64 (m1 : Int), .int .i64 (m2 : Int), .int .i64 (m3 : Int)] 3)).heap.size) := by show _ ∧ _; exact ⟨HB4.out.size, by simp⟩
            go_upto_region 23 with fail
            obtain ⟨Z, hZ⟩ : ∃ Z, Z = w6.alloc (.cells #[.int .i64 (m0 : Int), .int .i64 (m1 : Int), .int .i64 (m2 : Int), .int .i64 (m3 : Int)] 3) := ⟨_, rfl⟩
            rw [← hZ] at HRW HP3 HVL ⊢
            obtain ⟨V, hV⟩ : ∃ V, V = w6.heap.size := ⟨_, rfl⟩
            rw [← hV] at HRW HVL ⊢
            obtain ⟨ms, hms⟩ : ∃ ms : List Int, ms = [(m0 : Int), (m1 : Int), (m2 : Int), (m3 : Int)] := ⟨_, rfl⟩
            have HML : Hid (ms.length = 4) := by show ms.length = 4; rw [hms]; rfl
            rw [← hms] at HRW
            have HIN : Hid (wider K y1.heap.size Z.heap.size V) := .inr HVL.out
            have HNE : Hid (V ≠ y ∧ V ≠ s) := by show V ≠ y ∧ V ≠ s; have h1 := HP.out.lt; have h2 := HVL.out.1; omega
            clear hZ hV hms HBX HVL HB4 HS4 hm0 hm1 hm2 hm3 HP
            go_wp2_with fail
            refine (HP3.out.crash1 (some ⟨V, 0, none⟩) 4 4 ms HRW.out HML.out (fun b o e => by cases e; exact HIN.out)).mono ?_
            rintro e v1 ⟨rfl, hp1, hk1⟩
            have HQ1 := hide hp1
            have HRW1 := hide (HRW.out.kept hk1 (fun _ b o e => by cases e; exact HIN.out))
            clear hp1 hk1 HP3 HRW HIN
            go_wp2_with fail
            refine (HQ1.out.crash2 HOK.out (some ⟨V, 0, none⟩) 4 4 ms HRW1.out HML.out (by omega) (fun b o e => by cases e; exact HNE.out)).mono ?_
            rintro e v2 ⟨rfl, K5, hp1⟩
            have HQ2 := hide hp1
            have HOK2 := hide (HOK.out.crash ms)
            obtain ⟨Y, hY⟩ : ∃ Y, Y = X.crash ms := ⟨_, rfl⟩
            have HYF : Hid (Y.off = false ∧ Y.fuse = -1) := by show Y.off = false ∧ Y.fuse = -1; rw [hY]; exact ⟨rfl, rfl⟩
            rw [← hY] at HQ2 HOK2
            clear hp1 hY HQ1 HRW1 HOK HNE HML HEP
            go_wp2_with fail
            refine (next_but q lo len cap zs (n + 1 + 1 + 1 + 1) 2 _ HQ2.out.seq (by omega) (by omega) (by omega)).mono ?_
            rintro e v3 ⟨p2, rfl, hp2, hsq, hbut⟩
            have HQ3 := hide (HQ2.out.but hbut hsq)
            clear hsq hbut HQ2
            go_wp2_with fail
            refine (next_but q lo len cap zs (n + 1 + 1 + 1 + 1 + 1) 3 _ HQ3.out.seq (by omega) (by omega) (by omega)).mono ?_
            rintro e v4 ⟨p3, rfl, hp3, hsq, hbut⟩
            have HQ4 := hide (HQ3.out.but hbut hsq)
            obtain ⟨pm, hpm, hpm2⟩ : ∃ pm : Nat, (p2 : Int) * (p3 : Int) = (pm : Int) ∧ pm ≤ 2 := by
              have h2 : p2 = 0 ∨ p2 = 1 := by omega
              rcases h2 with rfl | rfl
              · exact ⟨0, by omega, by omega⟩
              · exact ⟨p3, by omega, by omega⟩
            clear hsq hbut HQ3
            obtain ⟨E2, hE2⟩ : ∃ E2 : Int, E2 = E + (pm : Int) + 1 := ⟨_, rfl⟩
            go_upto_region 26 with fail
            rw [← hE2]
            have hE3 : E2 ≤ E + 3 := by omega
            have hE4 : 1 ≤ E2 := by omega
            clear hE2 hpm hpm2 hp2 hp3
            go_wp2_with fail
            refine (next_but q lo len cap zs (n + 1 + 1 + 1 + 1 + 1 + 1) 40 _ HQ4.out.seq (by omega) (by omega) (by omega)).mono ?_
            rintro e v5 ⟨p4, rfl, hp4, hsq, hbut⟩
            have HQ5 := hide (HQ4.out.but hbut hsq)
            clear hsq hbut HQ4
            go_wp2_with fail
            refine (HQ5.out.open1 HOK2.out HYF.out.1 HYF.out.2 _ E2 (by omega) (by omega)).mono ?_
            rintro e v6 (⟨hG, l2, Y2, rfl, hY2, hp1⟩ | ⟨G, b, hG, hGe, rfl, hat, hdoc, hbel⟩)
            · have HQ6 := hide hp1
              have HG := hide hG
              have HY2 := hide hY2
              have HOK3 : Hid (LOk N Y2) := by show LOk N Y2; rw [hY2]; exact HOK2.out.reopen HYF.out.1 _ _ hE4
              have HEY : Hid (Y2.ep = E2) := by show Y2.ep = E2; rw [hY2]; rfl
              clear hp1 hG hY2 HQ5
              go_wp2_with fail
              refine (HQ6.out.open2 HOK2.out HYF.out.1 HYF.out.2 _ E2 (by omega) HG.out).mono ?_
              rintro e v7 ⟨z2, K6, rfl, hp1⟩
              rw [← HY2.out] at hp1
              have HQ7 := hide (hp1.below (below_box v7 (faultCells 0 false 0)))
              have HFB : Hid ((v7.alloc (faultCells 0 false 0)).heap[v7.heap.size]? = some (faultCells 0 false 0)) := by show _ = _; exact heap_alloc_new _ _
              unfold faultCells at HQ7 HFB
              unfold faultV
              clear hp1 HQ6 HG HY2 HOK2 HYF
              go_upto_region 29 with fail
              obtain ⟨F, hF⟩ : ∃ F, F = v7.heap.size := ⟨_, rfl⟩
              obtain ⟨W8, hW8⟩ : ∃ W8, W8 = v7.alloc (.cells #[.int .i64 0, .bool false, .int .i64 0] 55) := ⟨_, rfl⟩
              rw [← hW8] at HQ7 HFB ⊢
              rw [← hF] at HFB ⊢
              clear hF hW8
              have f0 : W8.cell? ⟨F, 0, none⟩ = some (.int .i64 0) := (cell_row HFB.out 0).trans rfl
              have f1 : W8.cell? ⟨F, 1, none⟩ = some (.bool false) := (cell_row HFB.out 1).trans rfl
              have f2 : W8.cell? ⟨F, 2, none⟩ = some (.int .i64 0) := (cell_row HFB.out 2).trans rfl
              go_wp2_with fail
              clear f0 f1 f2
              refine (same_nil W8).mono ?_
              rintro e v8 ⟨rfl, hb⟩
              have HQ8 := hide (HQ7.out.below hb)
              have hfb := (hb.block F (lt_of_block HFB.out)).trans HFB.out
              have f0 : v8.cell? ⟨F, 0, none⟩ = some (.int .i64 0) := (cell_row hfb 0).trans rfl
              have f1 : v8.cell? ⟨F, 1, none⟩ = some (.bool false) := (cell_row hfb 1).trans rfl
              have f2 : v8.cell? ⟨F, 2, none⟩ = some (.int .i64 0) := (cell_row hfb 2).trans rfl
              clear hb hfb HFB HQ7
              go_wp2_with fail
              clear f0 f1 f2
              refine (bad_no false 0 v8).mono ?_
              rintro e v9 ⟨rfl, hb⟩
              have HQ9 := hide (HQ8.out.below hb)
              clear hb HQ8
              go_wp2_with fail
              obtain ⟨L, lao, lc, hrl, _⟩ := HQ9.out.doc.rl
              refine (lsame_any HQ9.out.log hrl).mono ?_
              rintro e t1 ⟨rfl, hb⟩
              have HT1 := hide (HQ9.out.below hb)
              clear hb hrl
              go_wp2_with fail
              refine (image_any d HT1.out.log.disk).mono ?_
              rintro e t2 ⟨io, ic, ps, rfl, hps, hown, hb⟩
              have HT2 := hide (HT1.out.below hb)
              have HI := hide hown
              have HPS := hide hps
              have HLV : Hid ((Y2).vss.length = N2) := by show _ = _; rw [HOK3.out.len]; exact HN2.out.symm
              rw [HLV.out]
              clear hb hown hps HT1
              go_wp2_with fail
              obtain ⟨M, hrd, _⟩ := HT2.out.doc.rd
              refine (rimage_any hrd).mono ?_
              rintro e t3 ⟨jo, jc, qs, rfl, hqs, hown, hb⟩
              have HT3 := hide (HT2.out.below hb)
              have HI2 := hide (HI.out.below hb)
              have HJ := hide hown
              have HQS := hide hqs
              rw [HLV.out]
              clear hb hown hqs hrd HI HT2
              go_wp2_with fail
              refine (sameSectors_any HI2.out HJ.out (HPS.out.trans HQS.out.symm) (by have := congrArg List.length HPS.out; simp only [List.length_map] at this; rw [this]; exact HLV.out) (by omega)).mono ?_
              rintro e t4 ⟨rfl, q4, rfl⟩
              have HT4 := hide (HT3.out.below (below_drewN (Below.refl _ _) q4))
              clear HI2 HJ HPS HQS HLV HT3
              go_wp2_with fail
              exact ⟨⟨i + 1, (n + 7), _, _, E2, _, Y2, rfl, rfl, rfl, by go_num, by omega, by omega, HEY.out, by omega, HOK3.out, HT4.out⟩, by simp [intOf]; omega⟩
            · have HAT := hide hat
              have HD := hide hdoc
              have HBE := hide hbel
              have HG := hide hG
              have HGE := hide hGe
              have hbb : 0 ≤ base ∧ base + 6 * (N : Int) ≤ 1073741824 := by omega
              have hNN : N ≤ 100 := by omega
              clear hat hdoc hbel hG hGe HQ5
              go_wp2_with fail
              refine (doc_fail HD.out HOK2.out HYF.out HE.out HBE.out _ E2 hbb hNN G HG.out HGE.out).mono ?_
              rintro e v7 ⟨rfl, hb⟩
              have HB7 := hide (over HBE.out hb HBE.out.size)
              have hb8 := below_box v7 (faultCells 108 true G)
              have HB8 := hide (over HB7.out hb8 HB7.out.size)
              have HA8 := hide ((HAT.out.below hb).below hb8)
              have HFB : Hid ((v7.alloc (faultCells 108 true G)).heap[v7.heap.size]? = some (faultCells 108 true G)) := by show _ = _; exact heap_alloc_new _ _
              unfold faultCells at HB8 HA8 HFB
              unfold faultV
              clear hb hb8 HAT HD HBE HG HGE HB7 HOK2 HYF
              go_upto_region 29 with fail
              obtain ⟨F, hF⟩ : ∃ F, F = v7.heap.size := ⟨_, rfl⟩
              obtain ⟨W8, hW8⟩ : ∃ W8, W8 = v7.alloc (.cells #[.int .i64 108, .bool true, .int .i64 G] 55) := ⟨_, rfl⟩
              rw [← hW8] at HB8 HA8 HFB ⊢
              rw [← hF] at HFB ⊢
              clear hF hW8
              have f0 : W8.cell? ⟨F, 0, none⟩ = some (.int .i64 108) := (cell_row HFB.out 0).trans rfl
              have f1 : W8.cell? ⟨F, 1, none⟩ = some (.bool true) := (cell_row HFB.out 1).trans rfl
              have f2 : W8.cell? ⟨F, 2, none⟩ = some (.int .i64 G) := (cell_row HFB.out 2).trans rfl
              unfold atV
              go_wp2_with fail
              clear f0 f1 f2
              refine (same_placed W8 a 7 (by omega) b G 108 rfl (HE.out.step HB8.out) HA8.out.pos HA8.out.err).mono ?_
              rintro e v8 ⟨rfl, hb⟩
              have HB9 := hide (over HB8.out hb HB8.out.size)
              have hfb := (hb.block F (lt_of_block HFB.out)).trans HFB.out
              have f0 : v8.cell? ⟨F, 0, none⟩ = some (.int .i64 108) := (cell_row hfb 0).trans rfl
              have f1 : v8.cell? ⟨F, 1, none⟩ = some (.bool true) := (cell_row hfb 1).trans rfl
              have f2 : v8.cell? ⟨F, 2, none⟩ = some (.int .i64 G) := (cell_row hfb 2).trans rfl
              clear hb hfb HFB HA8 HB8
              go_wp2_with fail
              clear f0 f1 f2
              refine (bad_yes 108 (by decide) true G v8).mono ?_
              rintro e v9 ⟨rfl, hb⟩
              have HB10 := hide (over HB9.out hb HB9.out.size)
              clear hb HB9
              go_wp2_with fail
              go_ret
              exact ⟨rfl, HB10.out⟩
    · have hki : decide ((i : Int) < (len1 : Int)) = false := by simp; omega
      go_wp2_with fail
      go_ret
      exact ⟨rfl, HP.out.bel⟩
end Go.Proofs.YtjacenhblclkaaaGreatDoor.walPlays
