
/- What the statement DiskFuses asks comes out true, at all arguments, where package api's variables hold errors of their own; nothing that was there is written. -/
import Derived.Test.YtedmgdiimfenaaaDoorRows3
namespace Go.Proofs.YtedmgdiimfenaaaDoor.diskFuses
open Go.RowKit
set_option linter.unusedVariables false

set_option maxHeartbeats 4000000 in
theorem walk (a0 a1 : Int) (a2 : Bool) (w : World) (w0 : (Lit.int .i64 a0).wf = true) (w1 : (Lit.int .i64 a1).wf = true) {a : Nat → Addr} (he : SomeErrs w 18 a) :
    Calls Tryd.prog 4 #[.int .i64 a0, .int .i64 a1, .bool a2] w fun e w' => e = .returned (.bool true) ∧ Below w.heap.size w w' := by
  have HE := hide he.all
  obtain ⟨i0, hi, hz0, hz1, hz2⟩ := info_parts Tryd.info3
  have hn := numberB_bd a0 20 (by omega)
  have ha := numberB_bd a1 5 (by omega)
  obtain ⟨n, hn'⟩ : ∃ n : Nat, numberB a0 20 = n := ⟨(numberB a0 20).toNat, by omega⟩
  obtain ⟨t, ht'⟩ : ∃ t : Nat, numberB a1 5 = t := ⟨(numberB a1 5).toNat, by omega⟩
  rw [hn'] at hn
  rw [ht'] at ha
  have HN := hide hn'
  have HT := hide ht'
  clear hn' ht' w0 w1 he
  go_enter Tryd.func4, Tryd.ntmps4
  go_wp2_with fail
  refine (dfirst_any _ HE.out.errs).mono ?_
  rintro e x1 ⟨rfl, hb1⟩
  have HB1 := hide hb1
  clear hb1
  go_wp2_with fail
  refine (number_any _ _ _ (by omega) (by omega)).mono ?_
  rintro e x2 ⟨rfl, rfl⟩
  rw [HN.out]
  go_wp2_with fail
  refine (number_any _ _ _ (by omega) (by omega)).mono ?_
  rintro e x3 ⟨rfl, rfl⟩
  rw [HT.out]
  go_wp2_with fail
  refine (new_any _ 30 (.inr (.inl ⟨by omega, by omega, by omega⟩)) (HE.out.below HB1.out).errs).mono ?_
  rintro e x5 ⟨d, rfl, hd, hdisk, hb5⟩
  have HD := hide hdisk
  have HB5 := hide (over HB1.out hb5 HB1.out.size)
  obtain ⟨N1, hN1⟩ : ∃ N1, N1 = x3.heap.size := ⟨_, rfl⟩
  rw [← hN1] at HD
  have HN1 : Hid (w.heap.size ≤ N1) := by show w.heap.size ≤ N1; rw [hN1]; exact HB1.out.size
  clear hdisk hb5 hd hN1
  go_wp2_with fail
  refine (fuse_any d _ HD.out (by omega)).mono ?_
  rintro e x6 ⟨rfl, hd6, hk6⟩
  rw [show max (n : Int) (-1) = (n : Int) - ((0 : Nat) : Int) by omega, ← partRep_zero [fillOf 0, fillOf 7]] at hd6
  have HD6 := hide hd6
  have HB6 := hide (kept_over HB5.out HN1.out hk6)
  clear hd6 hk6 HD HB5
  go_wp2_with fail
  go_loopw [9] (fun i wr => ∃ k : Nat, k ≤ n ∧ i = .int .i64 k ∧ Disk wr (fun b => b < N1) a d (partRep [fillOf 0, fillOf 7] [fillOf 0] 30 k) false ((n : Int) - k) ∧ Below w.heap.size w wr) (fun i _ => n - (intOf i).toNat)
  case atStart => exact ⟨0, by omega, rfl, HD6.out, HB6.out⟩
  case round =>
    clear HD6 HB6
    obtain ⟨k, hk, rfl, hd, hb⟩ := hrel
    have HD := hide hd
    have HB := hide hb
    clear hd hb
    by_cases hlt : k < n
    · go_wp2_with fail
      refine (filled_any _ _).mono ?_
      rintro e y1 ⟨rfl, ho1, hb1⟩
      rw [show (7 : Int) % 256 = 7 by decide] at ho1
      have HO1 := hide ho1
      have HD1 := hide (HD.out.below hb1)
      have HBY := hide (over HB.out hb1 HB.out.size)
      clear ho1 hb1
      have hv : (partRep [fillOf 0, fillOf 7] [fillOf 0] 30 k).getD k [] = [fillOf 0] := by
        have := verOf_partRep [fillOf 0, fillOf 7] [fillOf 0] 30 k k (by omega) (by omega)
        rw [if_neg (by omega)] at this
        exact this
      have HV := hide hv
      clear hv
      go_wp2_with fail
      refine (write_ok d k _ _ _ HD1.out (by rw [length_partRep _ _ _ _ (by omega)]; omega) HO1.out.row (length_fillOf 7) (by rw [HV.out]; simp) (by omega)).mono ?_
      rintro e y2 ⟨rfl, hd2, hk2⟩
      rw [HV.out, burnt_some n k hlt, show [fillOf 0] ++ [fillOf 7] = [fillOf 0, fillOf 7] from rfl, partRep_succ _ _ _ _ (by omega)] at hd2
      have HD2 := hide hd2
      have HB2 := hide (kept_over HBY.out HN1.out hk2)
      clear hd2 hk2
      go_wp2_with fail
      go_roundw
      case rel => exact ⟨k + 1, by omega, by go_num, HD2.out, HB2.out⟩
      case measure => simp [intOf]; omega
    · have hkn : k = n := by omega
      subst hkn
      rw [show (k : Int) - k = 0 by omega] at HD
      clear hlt hk HN
      cases a2
      · go_wp2_with fail
        refine (filled_any _ _).mono ?_
        rintro e y1 ⟨rfl, ho1, hb1⟩
        rw [show (8 : Int) % 256 = 8 by decide] at ho1
        have HO1 := hide ho1
        have HD1 := hide (HD.out.below hb1)
        have HBY := hide (over HB.out hb1 HB.out.size)
        clear ho1 hb1
        have hv : (partRep [fillOf 0, fillOf 7] [fillOf 0] 30 k).getD k [] = [fillOf 0] := by
          have := verOf_partRep [fillOf 0, fillOf 7] [fillOf 0] 30 k k (by omega) (by omega)
          rw [if_neg (by omega)] at this
          exact this
        have HV := hide hv
        clear hv
        go_wp2_with fail
        refine (write_burn d k _ _ _ HD1.out (by rw [length_partRep _ _ _ _ (by omega)]; omega) HO1.out.row (length_fillOf 8) (by rw [HV.out]; simp)).mono ?_
        rintro e z ⟨rfl, hdz, hkz⟩
        unfold errV
        rw [HV.out] at hdz
        obtain ⟨VS, hVS⟩ : ∃ VS, VS = (partRep [fillOf 0, fillOf 7] [fillOf 0] 30 k).set k ([fillOf 0] ++ [fillOf 8]) := ⟨_, rfl⟩
        rw [← hVS] at hdz
        have HLEN : Hid (VS.length = 30) := by show VS.length = 30; rw [hVS, List.length_set, length_partRep _ _ _ _ (by omega)]
        have HVC : Hid (lastV ((crashed (List.replicate 30 1) VS).getD k []) = fillOf 8) := by
          show lastV (verOf (crashed (List.replicate 30 1) VS) k) = fillOf 8
          rw [crashed_two (y := fillOf 0) (z := fillOf 8) (by rw [HLEN.out]; omega) (by rw [HLEN.out]; exact Nat.le_refl _) (by rw [hVS, verOf_set _ _ _ (by rw [length_partRep _ _ _ _ (by omega)]; omega)]; rfl)]
          rfl
        have HDZ := hide hdz
        have HBZ := hide (kept_over HBY.out HN1.out hkz)
        clear hdz hkz hVS HD HB
        go_wp2_with fail
        go_loopw [11] (fun i wr => ∃ j : Nat, j ≤ t ∧ i = .int .i64 j ∧ Disk wr (fun b => b < N1) a d VS true 0 ∧ Below w.heap.size w wr) (fun i _ => t - (intOf i).toNat)
        case atStart => exact ⟨0, by omega, rfl, HDZ.out, HBZ.out⟩
        case round =>
          clear HDZ HBZ
          obtain ⟨j, hj, rfl, hd, hb⟩ := hrel
          have HD := hide hd
          have HB := hide hb
          clear hd hb
          by_cases hlt : j < t
          · go_wp2_with fail
            refine (read_off d _ HD.out).mono ?_
            rintro e y1 ⟨rfl, hb1⟩
            unfold errV
            have HD1 := hide (HD.out.below hb1)
            have HB1' := hide (over HB.out hb1 HB.out.size)
            clear hb1
            go_wp2_with fail
            refine (filled_any _ _).mono ?_
            rintro e y2 ⟨rfl, _, hb2⟩
            have HD2 := hide (HD1.out.below hb2)
            have HB2' := hide (over HB1'.out hb2 HB1'.out.size)
            clear hb2
            go_wp2_with fail
            refine (write_off d _ _ HD2.out).mono ?_
            rintro e y3 ⟨rfl, rfl⟩
            unfold errV
            go_wp2_with fail
            refine (sync_off d HD2.out).mono ?_
            rintro e y4 ⟨rfl, rfl⟩
            unfold errV
            go_wp2_with fail
            refine (off_any d HD2.out).mono ?_
            rintro e y5 ⟨rfl, rfl⟩
            go_wp2_with fail
            go_roundw
            case rel => exact ⟨j + 1, by omega, by go_num, HD2.out, HB2'.out⟩
            case measure => simp [intOf]; omega
          · clear hj
            obtain ⟨Z, hZ⟩ : ∃ Z, Z = wr := ⟨_, rfl⟩
            rw [← hZ] at HD HB ⊢
            clear hZ
            have hown : (Z.alloc (.cells #[] 3)).ownsRow Z.heap.size 3 1 (.slice (some ⟨Z.heap.size, 0, none⟩) 0 0) 0 [] := World.ownsRow_made Z #[] 0 (Nat.le_refl _) (by decide) (by simp)
            have HW := hide hown
            have HBA : Hid (Below Z.heap.size Z (Z.alloc (.cells #[] 3))) := (Below.refl _ _).alloc (Nat.le_refl _) _
            clear hown
            go_wp2_with fail
            go_loopw [14, 15] (fun v i wr => ∃ (j : Nat) (ao : Option Addr) (c : Nat), j ≤ 30 ∧ i = .int .i64 j ∧ v = .slice ao j c ∧ wr.ownsRow Z.heap.size 3 1 (.slice ao j c) j (intCells (List.replicate j 1)) ∧ Below Z.heap.size Z wr) (fun _ i _ => 30 - (intOf i).toNat)
            case atStart => exact ⟨0, _, _, by omega, rfl, rfl, HW.out, HBA.out⟩
            case round =>
              clear HW HBA
              obtain ⟨j, ao, c, hj, rfl, rfl, hown, hbel⟩ := hrel
              have HO := hide hown
              have HBL := hide hbel
              clear hown hbel
              by_cases hlt : j < 30
              · have hji : (j : Int) < 30 := by omega
                go_wp2_with (at_builtin; refine wpList_append_own _ rfl (.tmp 83) (.tmp 84) 22 rfl Z.heap.size 3 i0 (.int .i64 0) 1 8 Tryd.underlying22 hi hz0 hz1 hz2 rfl (by decide) (.slice ao j c) j (intCells (List.replicate j 1)) rfl (HO.out.alloc _) ⟨wr.heap.size, 0, none⟩ 1 1 [.int .i64 1] rfl rfl (cell_one_new _ _ _) (by simp [Value.oneCell']) (by unfold maxLen; omega) (by omega) (by have := HBL.out.size; simp; omega) ?_; intro v' w3 hown3 hgr3 _; have HO3 := hide hown3; have HG3 := hide hgr3; clear hown3 hgr3)
                obtain ⟨ao', c', rfl⟩ := own_shape HO3.out
                have hsz := HBL.out.size
                have hnew : w3.ownsRow Z.heap.size 3 1 (.slice ao' (j + 1) c') (j + 1) (intCells (List.replicate (j + 1) 1)) := by
                  rw [List.replicate_succ', intCells, List.map_append]
                  exact HO3.out
                have hbel3 := (HBL.out.alloc hsz (.cells #[.int .i64 1] 3)).grown HG3.out (by simp; omega) (fun q e => (HO.out.lt q e).1)
                refine ⟨?_, ?_⟩
                · exact ⟨j + 1, ao', c', hlt, by go_num, rfl, hnew, hbel3⟩
                · simp only [intOf]
                  omega
              · have hj30 : j = 30 := by omega
                have HJ := hide hj30
                have hji : decide ((j : Int) < 30) = false := by simp; omega
                obtain ⟨hrow, hblk⟩ := irow_of_own HO.out (List.length_replicate ..) (by omega) (fun x hx => by rw [(List.mem_replicate.1 hx).2]; omega)
                have HROW := hide hrow
                have HBLK := hide hblk
                have HD3 := hide (HD.out.widen HBL.out)
                have HB3 := hide (over HB.out HBL.out HB.out.size)
                have hjp : 0 < j := by omega
                clear hj hlt hj30 hrow hblk
                go_wp2_with fail
                refine (looses_any d HD3.out).mono ?_
                rintro e y1 ⟨lo, lc, rfl, _, hb1⟩
                have HD4 := hide (HD3.out.below hb1)
                have HB4 := hide (over HB3.out hb1 HB3.out.size)
                have HROW4 := hide (HROW.out.kept (Kept.of_below (K := fun b => b < wr.heap.size) hb1 (fun k hk => hk)) (fun _ b o e => (HBLK.out b o hjp e).2))
                clear hb1
                go_wp2_with fail
                refine (crash_len d ao j c _ HD4.out HROW4.out (List.length_replicate ..) (fun _ b o e => .inr (HBLK.out b o hjp e))).mono ?_
                rintro e y2 ⟨rfl, hd2, hk2⟩
                rw [HJ.out] at hd2
                have HD5 := hide hd2
                have HB5 := hide (kept_wider HB4.out HN1.out hk2)
                clear hd2 hk2
                go_wp2_with fail
                refine (read_ok d k HD5.out (by rw [length_crashed, HLEN.out]; omega)).mono ?_
                rintro e y3 ⟨g, rc, rfl, hg, hown, hlen, hb3⟩
                rw [HVC.out] at hown
                have hc0 := hown.cell 0 (by rw [length_fillOf]; omega)
                rw [show (fillOf 8).getD 0 0 = 8 from rfl] at hc0
                have HD6 := hide (HD5.out.below hb3)
                have HB6 := hide (over HB5.out hb3 HB5.out.size)
                clear hown hlen hb3 hg
                go_wp2_with fail
                refine (is_err _ a 0 (by omega) _ (by omega) (HE.out.below HB6.out)).mono ?_
                rintro e y4 ⟨rfl, hb4⟩
                have hc4 := (hb4.cell (p := ⟨g, 0, none⟩) (World.block_lt_of_cell? y3 ⟨g, 0, none⟩ hc0)).trans hc0
                have HD7 := hide (HD6.out.below hb4)
                have HB7 := hide (over HB6.out hb4 HB6.out.size)
                clear hb4 hc0
                go_wp2_with fail
                refine (sync_ok d HD7.out (by omega)).mono ?_
                rintro e y5 ⟨rfl, _, hk5⟩
                have HB8 := hide (kept_wider HB7.out HN1.out hk5)
                clear hk5
                go_wp2_with fail
                go_ret
                exact ⟨rfl, HB8.out⟩
      · go_wp2_with fail
        refine (sync_burn d HD.out).mono ?_
        rintro e z ⟨rfl, hdz, hkz⟩
        unfold errV
        obtain ⟨VS, hVS⟩ : ∃ VS, VS = partRep [fillOf 0, fillOf 7] [fillOf 0] 30 k := ⟨_, rfl⟩
        rw [← hVS] at hdz
        have HLEN : Hid (VS.length = 30) := by show VS.length = 30; rw [hVS, length_partRep _ _ _ _ (by omega)]
        have HLS : Hid ((looseL VS).length = k) := by show (looseL VS).length = k; rw [hVS]; exact looseL_partRep _ _ 30 k (by omega) (by simp) (by simp)
        have HVC : Hid (lastV ((crashed (List.replicate 30 1) VS).getD k []) = fillOf 0) := by
          show lastV (verOf (crashed (List.replicate 30 1) VS) k) = fillOf 0
          rw [crashed_same (z := fillOf 0) (by rw [HLEN.out]; omega) (by rw [hVS, verOf_partRep _ _ 30 k k (by omega) (by omega), if_neg (by omega)])]
          rfl
        have HDZ := hide hdz
        have HBZ := hide (kept_over HB.out HN1.out hkz)
        clear hdz hkz hVS HD HB
        go_wp2_with fail
        go_loopw [11] (fun i wr => ∃ j : Nat, j ≤ t ∧ i = .int .i64 j ∧ Disk wr (fun b => b < N1) a d VS true 0 ∧ Below w.heap.size w wr) (fun i _ => t - (intOf i).toNat)
        case atStart => exact ⟨0, by omega, rfl, HDZ.out, HBZ.out⟩
        case round =>
          clear HDZ HBZ
          obtain ⟨j, hj, rfl, hd, hb⟩ := hrel
          have HD := hide hd
          have HB := hide hb
          clear hd hb
          by_cases hlt : j < t
          · go_wp2_with fail
            refine (read_off d _ HD.out).mono ?_
            rintro e y1 ⟨rfl, hb1⟩
            unfold errV
            have HD1 := hide (HD.out.below hb1)
            have HB1' := hide (over HB.out hb1 HB.out.size)
            clear hb1
            go_wp2_with fail
            refine (filled_any _ _).mono ?_
            rintro e y2 ⟨rfl, _, hb2⟩
            have HD2 := hide (HD1.out.below hb2)
            have HB2' := hide (over HB1'.out hb2 HB1'.out.size)
            clear hb2
            go_wp2_with fail
            refine (write_off d _ _ HD2.out).mono ?_
            rintro e y3 ⟨rfl, rfl⟩
            unfold errV
            go_wp2_with fail
            refine (sync_off d HD2.out).mono ?_
            rintro e y4 ⟨rfl, rfl⟩
            unfold errV
            go_wp2_with fail
            refine (off_any d HD2.out).mono ?_
            rintro e y5 ⟨rfl, rfl⟩
            go_wp2_with fail
            go_roundw
            case rel => exact ⟨j + 1, by omega, by go_num, HD2.out, HB2'.out⟩
            case measure => simp [intOf]; omega
          · clear hj
            obtain ⟨Z, hZ⟩ : ∃ Z, Z = wr := ⟨_, rfl⟩
            rw [← hZ] at HD HB ⊢
            clear hZ
            have hown : (Z.alloc (.cells #[] 3)).ownsRow Z.heap.size 3 1 (.slice (some ⟨Z.heap.size, 0, none⟩) 0 0) 0 [] := World.ownsRow_made Z #[] 0 (Nat.le_refl _) (by decide) (by simp)
            have HW := hide hown
            have HBA : Hid (Below Z.heap.size Z (Z.alloc (.cells #[] 3))) := (Below.refl _ _).alloc (Nat.le_refl _) _
            clear hown
            go_wp2_with fail
            go_loopw [14, 15] (fun v i wr => ∃ (j : Nat) (ao : Option Addr) (c : Nat), j ≤ 30 ∧ i = .int .i64 j ∧ v = .slice ao j c ∧ wr.ownsRow Z.heap.size 3 1 (.slice ao j c) j (intCells (List.replicate j 1)) ∧ Below Z.heap.size Z wr) (fun _ i _ => 30 - (intOf i).toNat)
            case atStart => exact ⟨0, _, _, by omega, rfl, rfl, HW.out, HBA.out⟩
            case round =>
              clear HW HBA
              obtain ⟨j, ao, c, hj, rfl, rfl, hown, hbel⟩ := hrel
              have HO := hide hown
              have HBL := hide hbel
              clear hown hbel
              by_cases hlt : j < 30
              · have hji : (j : Int) < 30 := by omega
                go_wp2_with (at_builtin; refine wpList_append_own _ rfl (.tmp 83) (.tmp 84) 22 rfl Z.heap.size 3 i0 (.int .i64 0) 1 8 Tryd.underlying22 hi hz0 hz1 hz2 rfl (by decide) (.slice ao j c) j (intCells (List.replicate j 1)) rfl (HO.out.alloc _) ⟨wr.heap.size, 0, none⟩ 1 1 [.int .i64 1] rfl rfl (cell_one_new _ _ _) (by simp [Value.oneCell']) (by unfold maxLen; omega) (by omega) (by have := HBL.out.size; simp; omega) ?_; intro v' w3 hown3 hgr3 _; have HO3 := hide hown3; have HG3 := hide hgr3; clear hown3 hgr3)
                obtain ⟨ao', c', rfl⟩ := own_shape HO3.out
                have hsz := HBL.out.size
                have hnew : w3.ownsRow Z.heap.size 3 1 (.slice ao' (j + 1) c') (j + 1) (intCells (List.replicate (j + 1) 1)) := by
                  rw [List.replicate_succ', intCells, List.map_append]
                  exact HO3.out
                have hbel3 := (HBL.out.alloc hsz (.cells #[.int .i64 1] 3)).grown HG3.out (by simp; omega) (fun q e => (HO.out.lt q e).1)
                refine ⟨?_, ?_⟩
                · exact ⟨j + 1, ao', c', hlt, by go_num, rfl, hnew, hbel3⟩
                · simp only [intOf]
                  omega
              · have hj30 : j = 30 := by omega
                have HJ := hide hj30
                have hji : decide ((j : Int) < 30) = false := by simp; omega
                obtain ⟨hrow, hblk⟩ := irow_of_own HO.out (List.length_replicate ..) (by omega) (fun x hx => by rw [(List.mem_replicate.1 hx).2]; omega)
                have HROW := hide hrow
                have HBLK := hide hblk
                have HD3 := hide (HD.out.widen HBL.out)
                have HB3 := hide (over HB.out HBL.out HB.out.size)
                have hjp : 0 < j := by omega
                clear hj hlt hj30 hrow hblk
                go_wp2_with fail
                refine (looses_any d HD3.out).mono ?_
                rintro e y1 ⟨lo, lc, rfl, _, hb1⟩
                have HD4 := hide (HD3.out.below hb1)
                have HB4 := hide (over HB3.out hb1 HB3.out.size)
                have HROW4 := hide (HROW.out.kept (Kept.of_below (K := fun b => b < wr.heap.size) hb1 (fun k hk => hk)) (fun _ b o e => (HBLK.out b o hjp e).2))
                clear hb1
                go_wp2_with fail
                refine (crash_len d ao j c _ HD4.out HROW4.out (List.length_replicate ..) (fun _ b o e => .inr (HBLK.out b o hjp e))).mono ?_
                rintro e y2 ⟨rfl, hd2, hk2⟩
                rw [HJ.out] at hd2
                have HD5 := hide hd2
                have HB5 := hide (kept_wider HB4.out HN1.out hk2)
                clear hd2 hk2
                go_wp2_with fail
                refine (read_ok d k HD5.out (by rw [length_crashed, HLEN.out]; omega)).mono ?_
                rintro e y3 ⟨g, rc, rfl, hg, hown, hlen, hb3⟩
                rw [HVC.out] at hown
                have hc0 := hown.cell 0 (by rw [length_fillOf]; omega)
                rw [show (fillOf 0).getD 0 0 = 0 from rfl] at hc0
                have HD6 := hide (HD5.out.below hb3)
                have HB6 := hide (over HB5.out hb3 HB5.out.size)
                clear hown hlen hb3 hg
                rw [HLS.out]
                have hkk : ((k : Int) != (k : Int)) = false := by simp
                go_wp2_with fail
                refine (is_err _ a 0 (by omega) _ (by omega) (HE.out.below HB6.out)).mono ?_
                rintro e y4 ⟨rfl, hb4⟩
                have hc4 := (hb4.cell (p := ⟨g, 0, none⟩) (World.block_lt_of_cell? y3 ⟨g, 0, none⟩ hc0)).trans hc0
                have HD7 := hide (HD6.out.below hb4)
                have HB7 := hide (over HB6.out hb4 HB6.out.size)
                clear hb4 hc0
                go_wp2_with fail
                refine (sync_ok d HD7.out (by omega)).mono ?_
                rintro e y5 ⟨rfl, _, hk5⟩
                have HB8 := hide (kept_wider HB7.out HN1.out hk5)
                clear hk5
                go_wp2_with fail
                go_ret
                exact ⟨rfl, HB8.out⟩
end Go.Proofs.YtedmgdiimfenaaaDoor.diskFuses
