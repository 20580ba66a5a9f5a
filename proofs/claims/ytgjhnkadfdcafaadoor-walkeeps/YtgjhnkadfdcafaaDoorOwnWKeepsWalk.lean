
/- What the statement WalKeeps asks comes out true, at every three lists of numbers; nothing that was there is written. -/
import Derived.Test.YtgjhnkadfdcafaaDoorJoin32
namespace Go.Proofs.YtgjhnkadfdcafaaDoor.walKeeps
open Go.RowKit
set_option linter.unusedVariables false

def put (t p k v : Int) : R := ⟨2, t, 1, p, 0, k, false, true, 0, v⟩
theorem put_good {t p k v : Int} (h1 : 1 ≤ t) (h2 : t ≤ 60000) (h3 : 0 ≤ p) (h4 : p ≤ 1073741824) (h5 : 0 ≤ k) (h6 : k ≤ 1000) : goodB (put t p k v) = true :=
  good_of ⟨rfl, (by show (decide (1 ≤ t) && decide (t ≤ 60000)) = true; simp; omega), rfl, (by show (decide (0 ≤ p) && decide (p ≤ 1073741824)) = true; simp; omega), rfl, (by show (decide (0 ≤ k) && decide (k ≤ 1048575)) = true; simp; omega), rfl⟩ rfl
theorem put_fits {t p k v : Int} (h0 : 0 ≤ v) (h1 : v ≤ 100000) : (put t p k v).fits := by unfold R.fits put; simp; omega
theorem room_at (n : Nat) (hn : n ≤ 48) : roomI 8 n 0 = 48 - (n : Int) := by
  unfold roomI
  rw [if_neg (by omega)]
  omega
set_option maxRecDepth 100000 in
set_option maxHeartbeats 32000000 in
theorem walk (lo : Option Addr) (len cap : Nat) (zs : List Int) (lo1 : Option Addr) (len1 cap1 : Nat) (zs1 : List Int) (lo2 : Option Addr) (len2 cap2 : Nat) (zs2 : List Int) (w : World) (w0 : IsRow .i64 w lo len cap zs) (w1 : IsRow .i64 w lo1 len1 cap1 zs1) (w2 : IsRow .i64 w lo2 len2 cap2 zs2) {a : Nat → Addr} (he : ErrsOf w [0, 1, 2, 3, 4, 7, 8] a) :
    Calls Tryd.prog 4 #[.slice lo len cap, .slice lo1 len1 cap1, .slice lo2 len2 cap2] w fun e w' => e = .returned (.bool true) ∧ Below w.heap.size w w' := by
  have HE := hide he
  have HR := hide w0
  have HR1 := hide w1
  have HR2 := hide w2
  clear he w0 w1 w2
  go_enter Tryd.func4, Tryd.ntmps4
  go_wp2_with fail
  refine (wfirst_any w HE.out seven7).mono ?_
  rintro e x1 ⟨rfl, hb⟩
  have HB := hide hb
  have HE1 := hide (HE.out.step hb)
  clear hb
  by_cases hl : 300 < len
  · have hli : (300 : Int) < (len : Int) := by omega
    go_wp2_with fail
    go_ret
    exact ⟨rfl, HB.out⟩
  have hli : decide ((300 : Int) < (len : Int)) = false := by simp; omega
  by_cases hl1 : 8 < len1
  · have hli1 : (8 : Int) < (len1 : Int) := by omega
    go_wp2_with fail
    go_ret
    exact ⟨rfl, HB.out⟩
  have hli1 : decide ((8 : Int) < (len1 : Int)) = false := by simp; omega
  by_cases hl2 : 60 < len2
  · have hli2 : (60 : Int) < (len2 : Int) := by omega
    go_wp2_with fail
    go_ret
    exact ⟨rfl, HB.out⟩
  have hli2 : decide ((60 : Int) < (len2 : Int)) = false := by simp; omega
  go_wp2_with fail
  refine (new_any 9 9 (.inr (.inl ⟨by omega, by omega, rfl⟩)) (errs_three HE1.out seven7)).mono ?_
  rintro e x2 ⟨d, rfl, hd, hdisk, hbel⟩
  have hbs := below_box x2 (seqCells lo len cap)
  have HD2 := hide (hdisk.widen hbs)
  have hb2 := over HB.out hbel HB.out.size
  have HSQ := hide (seq_new5 HR.out (by omega) hb2)
  have HBY := hide (over hb2 hbs hb2.size)
  have HEK := hide ((((errs_ahead HE1.out seven7).kept (Kept.of_below hbel fun k hk => hk)).kept (Kept.of_below hbs fun k hk => Nat.lt_of_lt_of_le hk hbel.size)).wide (L := wider (fun b => b < x1.heap.size) x2.heap.size (x2.alloc (seqCells lo len cap)).heap.size) fun k hk => .inl hk)
  have HWS : Hid (w.heap.size ≤ x2.heap.size) := hb2.size
  have HSS : Hid (x2.heap.size < (x2.alloc (seqCells lo len cap)).heap.size) := by show _ < _; simp
  obtain ⟨s, hs⟩ : ∃ s, s = x2.heap.size := ⟨_, rfl⟩
  rw [← hs] at HD2 HSQ HEK HWS HSS
  unfold seqCells at HD2 HSQ HBY HEK HSS
  clear hdisk hbel hb2 hbs hd
  go_upto_region 10 with fail
  obtain ⟨Y, hY⟩ : ∃ Y, Y = x2.alloc (.cells #[.slice lo len cap, .int .i64 0] 47) := ⟨_, rfl⟩
  rw [← hY] at HD2 HSQ HBY HEK HSS ⊢
  rw [← hs]
  clear hY hs
  go_wp2_with fail
  refine (wnew_any d 1 8 0 1 Y (by omega)).mono ?_
  rintro e x3 ⟨rfl, rfl⟩
  have hbl := below_box Y (.cells (logCells d 1 8 0 1 (.slice none 0 0) 0) 72)
  have hK0 : ∀ k, k < w.heap.size → wider (fun b => b < x1.heap.size) s Y.heap.size k := fun k hk => .inl (Nat.lt_of_lt_of_le hk HB.out.size)
  have HT : Hid (Trio w (Y.alloc (.cells (logCells d 1 8 0 1 (.slice none 0 0) 0) 72)) (wider (fun b => b < x1.heap.size) s Y.heap.size) a Y.heap.size d s lo len cap zs 0 1 8 0 1 [] [] 0 none 0 (List.replicate 9 [fillOf 0]) false (-1)) :=
    ⟨⟨none, 0, log_new HD2.out HEK.out (by omega) (by omega) (by rw [List.length_replicate]; omega) (by omega)⟩, kp_new 1 8 9 (by omega), Side.nil (over HBY.out hbl HBY.out.size) hK0 (gno_lt HE.out seven7), HSQ.out.step hbl, .inr ⟨Nat.le_refl _, HSS.out⟩, HR.out, HWS.out⟩
  obtain ⟨W, hW⟩ : ∃ W, W = Y.alloc (.cells (logCells d 1 8 0 1 (.slice none 0 0) 0) 72) := ⟨_, rfl⟩
  rw [← hW] at HT ⊢
  obtain ⟨l0, hl0⟩ : ∃ l, l = Y.heap.size := ⟨_, rfl⟩
  rw [← hl0] at HT ⊢
  clear hW hl0 hbl hK0 HD2 HSQ HBY HEK HSS
  go_wp2_with fail
  go_loopw [10, 11, 12] (fun x al i wr => ∃ (k l n ns : Nat) (rs : List R) (ao : Option Addr) (c : Nat) (vss : List (List (List Int))) (K : Nat → Prop), x = .pointer (some ⟨l, 0, none⟩) ∧ al = .slice ao n c ∧ i = .int .i64 k ∧ k ≤ len1 ∧ rs.length = n ∧ ns ≤ 10 * k ∧ Trio w wr K a l d s lo len cap zs ns 1 8 0 ((k : Int) + 1) rs rs n ao c vss false (-1)) (fun _ _ i _ => len1 - (intOf i).toNat)
  case atStart => exact ⟨0, l0, 0, 0, [], none, 0, _, _, rfl, rfl, rfl, by omega, rfl, by omega, HT.out⟩
  case round =>
    clear HT
    obtain ⟨k, l, n, ns, rs, ao, c, vss, K, rfl, rfl, rfl, hk, hn, hns, ht⟩ := hrel
    have HT := hide ht
    have HN := hide hn
    clear ht hn
    by_cases hlt : k < len1
    · have hki : (k : Int) < (len1 : Int) := by omega
      obtain ⟨b1, off1, rfl, hbl1, hcell⟩ := row_at HR1.out (by omega) hlt
      have HCL : Hid (∀ x, Below w.heap.size w x → x.cell? ⟨b1, off1 + k, none⟩ = some (.int .i64 (zs1.getD k 0))) := fun x hx => (hx.cell (p := ⟨b1, off1 + k, none⟩) hbl1).trans hcell
      obtain ⟨z, hz⟩ : ∃ z, z = zs1.getD k 0 := ⟨_, rfl⟩
      rw [← hz] at HCL
      clear hcell hz hbl1
      go_wp2_with fail
      refine (wdone_any HT.out.log).mono ?_
      rintro e y1 ⟨rfl, q1, rfl⟩
      rw [Int.zero_add]
      replace HT := hide (HT.out.drewN q1)
      have hc0 := HCL.out _ HT.out.side.bel
      clear HCL
      go_wp2_with fail
      clear hc0
      refine (number_any _ _ _ (by omega) (by omega)).mono ?_
      rintro e y2 ⟨rfl, rfl⟩
      have hp := numberB_bd z 9 (by omega)
      obtain ⟨fz, hfz⟩ : ∃ j : Nat, numberB z 9 = j := ⟨(numberB z 9).toNat, by omega⟩
      rw [hfz] at hp ⊢
      clear hfz
      go_wp2_with fail
      refine (wfuse_any HT.out.log fz (by omega)).mono ?_
      rintro e y3 ⟨rfl, hlog, hkept⟩
      replace HT := hide (HT.out.turn hkept hlog HT.out.kp)
      clear hlog hkept hp
      go_wp2_with fail
      refine (next_but s lo len cap zs ns 9 _ HT.out.seq (by omega) (by omega) (by omega)).mono ?_
      rintro e y4 ⟨t0, rfl, ht0, hsq, hbut⟩
      replace HT := hide (HT.out.next hbut hsq)
      clear hsq hbut
      go_wp2_with fail
      go_loopw [11, 13, 14] (fun al dn kk wr => ∃ (t n1 D1 ns1 : Nat) (rs1 : List R) (ao1 : Option Addr) (c1 : Nat) (vss1 : List (List (List Int))) (off1 : Bool) (f1 : Int) (K1 : Nat → Prop), al = .slice ao1 n1 c1 ∧ dn = .int .i64 D1 ∧ kk = .int .i64 ((t : Int) - 1) ∧ t ≤ 9 ∧ rs1.length = n1 ∧ ns1 + t ≤ 10 * k + 10 ∧ Trio w wr K1 a l d s lo len cap zs ns1 1 8 0 ((k : Int) + 1) rs1 rs1 D1 ao1 c1 vss1 off1 f1) (fun _ _ kk _ => (intOf kk + 1).toNat)
      case atStart => exact ⟨t0 + 1, n, n, ns + 1, rs, ao, c, vss, false, _, K, rfl, rfl, by congr 1; omega, by omega, HN.out, by omega, HT.out⟩
      case round =>
        clear HT HN
        obtain ⟨t, n1, D1, ns1, rs1, ao1, c1, vss1, off', f1, K1, rfl, rfl, rfl, ht9, hn1, hns1, ht⟩ := hrel
        have HT := hide ht
        have HN := hide hn1
        have hn48 : n1 ≤ 48 := by have := ht.kp.lenr; omega
        have hD1 : D1 ≤ n1 := by have := ht.kp.dle; omega
        clear ht hn1
        by_cases htp : 1 ≤ t
        · have hti : (0 : Int) ≤ (t : Int) - 1 := by omega
          go_wp2_with fail
          refine (next_but s lo len cap zs ns1 8 _ HT.out.seq (by omega) (by omega) (by omega)).mono ?_
          rintro e z1 ⟨j0, rfl, hj0, hsq, hbut⟩
          replace HT := hide (HT.out.next hbut hsq)
          clear hsq hbut
          go_wp2_with fail
          go_loopw [11, 15] (fun al jj wr => ∃ (j n2 : Nat) (rs2 : List R) (ao2 : Option Addr) (c2 : Nat) (K2 : Nat → Prop), al = .slice ao2 n2 c2 ∧ jj = .int .i64 j ∧ j ≤ 8 ∧ rs2.length = n2 ∧ Trio w wr K2 a l d s lo len cap zs (ns1 + 1) 1 8 0 ((k : Int) + 1) rs2 rs2 D1 ao2 c2 vss1 off' f1) (fun _ jj _ => (intOf jj).toNat)
          case atStart => exact ⟨j0, n1, rs1, ao1, c1, K1, rfl, rfl, by omega, HN.out, HT.out⟩
          case round =>
            clear HT HN hn48 hD1
            obtain ⟨j, n2, rs2, ao2, c2, K2, rfl, rfl, hj8, hn2, ht⟩ := hrel
            have HT := hide ht
            have HN := hide hn2
            have hn48 : n2 ≤ 48 := by have := ht.kp.lenr; omega
            have hD1 : D1 ≤ n2 := by have := ht.kp.dle; omega
            clear ht hn2
            by_cases hgo : 0 < j ∧ n2 < 48
            · obtain ⟨hj0, hn47⟩ := hgo
              have hji : (0 : Int) < (j : Int) := by omega
              go_wp2_with fail
              refine (wroom_any HT.out.log n2 HN.out).mono ?_
              rintro e z2 ⟨rfl, q2, rfl⟩
              rw [room_at n2 hn48]
              have hrm : (0 : Int) < 48 - (n2 : Int) := by omega
              go_wp2_with fail
              refine (wlast_any (HT.out.drewN _).log n2 HN.out).mono ?_
              rintro e z3 ⟨rfl, q3, rfl⟩
              rw [Int.zero_add]
              go_wp2_with fail
              refine (wlast_any (HT.out.drewN _).log n2 HN.out).mono ?_
              rintro e z4 ⟨rfl, q4, hz4⟩
              rw [Int.zero_add]
              replace HT := hide (show Trio w z4 K2 a l d s lo len cap zs (ns1 + 1) 1 8 0 ((k : Int) + 1) rs2 rs2 D1 ao2 c2 vss1 off' f1 from by rw [hz4]; exact (HT.out.drewN _).drewN _)
              clear hz4
              obtain ⟨r, hr⟩ : ∃ r, r = put ((k : Int) + 1) n2 j (1000 * (k : Int) + n2) := ⟨_, rfl⟩
              have HG : Hid (goodB r = true ∧ r.fits) := by show _ ∧ _; rw [hr]; exact ⟨put_good (by omega) (by omega) (by omega) (by omega) (by omega) (by omega), put_fits (by omega) (by omega)⟩
              have hbx := below_box z4 (recCells r)
              obtain ⟨L, hKL, hNew, ht⟩ := HT.out.wide hbx
              have HC := hide (cells10_new z4 r)
              have HIN : Hid (L z4.heap.size) := hNew _ (Nat.le_refl _) (by simp)
              replace HT := hide ht
              have HYE : Hid (z4.alloc (.cells #[.int .i64 2, .int .i64 ((k : Int) + 1), .int .i64 1, .int .i64 (n2 : Int), .int .i64 0, .int .i64 (j : Int), .bool false, .bool true, .int .i64 0, .int .i64 (1000 * (k : Int) + (n2 : Int))] 31) = z4.alloc (recCells r)) := by show _ = _; rw [hr]; rfl
              clear hr ht hNew hKL hbx
              go_upto_region 26 with fail
              rw [HYE.out]
              clear HYE
              obtain ⟨Y4, hY⟩ : ∃ Y4, Y4 = z4.alloc (recCells r) := ⟨_, rfl⟩
              rw [← hY] at HT HC ⊢
              obtain ⟨V, hV⟩ : ∃ V, V = z4.heap.size := ⟨_, rfl⟩
              rw [← hV] at HC HIN ⊢
              clear hY hV
              obtain ⟨k0, k1, k2, k3, k4, k5, k6, k7, k8, k9, kl⟩ := HC.out
              go_wp2_with fail
              clear k0 k1 k2 k3 k4 k5 k6 k7 k8 k9 kl
              refine (wappend_ok HT.out.log n2 HN.out r HG.out.1 HG.out.2 (by rw [room_at n2 hn48]; omega)).mono ?_
              rintro e y5 ⟨rfl, hlog, hkept⟩
              replace HT := hide (HT.out.turn hkept hlog (HT.out.kp.append r HG.out (by rw [HN.out]; omega)))
              replace HC := hide (HC.out.kept hkept HIN.out)
              clear hlog hkept HIN
              obtain ⟨ao3, c3, y6, L3, hrun, ht⟩ := HT.out.append n2 HN.out (by omega) r 28
              have HRUN := hide hrun
              replace HT := hide ht
              have HN2 : Hid ((rs2 ++ [r]).length = n2 + 1) := by show (rs2 ++ [r]).length = n2 + 1; rw [List.length_append, HN.out]; rfl
              clear hrun ht
              obtain ⟨k0, k1, k2, k3, k4, k5, k6, k7, k8, k9, kl⟩ := HC.out
              go_wp2_with (first | (refine build1 r rfl ?_) | (at_builtin; refine wpList_append_run (by rfl) (.tmp 104) (.tmp 106) 28 (by rfl) _ _ (by rfl) (by rfl) HRUN.out ?_))
              exact ⟨⟨j - 1, n2 + 1, rs2 ++ [r], ao3, c3, L3, rfl, by rw [show ((j - 1 : Nat) : Int) = (j : Int) - 1 by omega], by omega, HN2.out, HT.out⟩, by simp [intOf]; omega⟩
            · by_cases hjz : 0 < j
              · have hji : (0 : Int) < (j : Int) := by omega
                have hn8 : n2 = 48 := by omega
                go_wp2_with fail
                refine (wroom_any HT.out.log n2 HN.out).mono ?_
                rintro e z2 ⟨rfl, q2, rfl⟩
                rw [room_at n2 hn48, show (48 : Int) - (n2 : Int) = 0 by omega]
                have HTF := hide (HT.out.drewN q2)
                clear HT hgo hn8
                go_wp2_with fail
                refine (wflush_any HTF.out.log HTF.out.kp.bd2).mono ?_
                rintro e u1 ⟨rfl, hlog, hkept⟩
                have hkf := HTF.out.kp.flush f1
                obtain ⟨G, hG⟩ : ∃ G, G = flushW 1 ((k : Int) + 1) rs2 D1 vss1 off' f1 := ⟨_, rfl⟩
                rw [← hG] at hlog hkf ⊢
                have HTG := hide (HTF.out.turn hkept hlog hkf)
                clear hlog hkept hkf hG
                cases hok : G.2.2.2 with
                | true =>
                  rw [hok] at HTG
                  rw [show flD true rs2.length D1 = n2 by rw [HN.out]; rfl] at HTG
                  rw [show flE (a 0) true = .nilIface from rfl]
                  clear hok
                  go_wp2_with fail
                  refine (wlast_any HTG.out.log n2 HN.out).mono ?_
                  rintro e u2 ⟨rfl, q9, rfl⟩
                  rw [Int.zero_add]
                  go_wp2_with fail
                  exact ⟨⟨t - 1, n2, n2, ns1 + 1, rs2, ao2, c2, _, _, _, K2, rfl, rfl, by congr 1; omega, by omega, HN.out, by omega, HTG.out.drewN _⟩, by simp [intOf]; omega⟩
                | false =>
                  rw [hok] at HTG
                  rw [show flD false rs2.length D1 = D1 from rfl] at HTG
                  rw [show flE (a 0) false = errV (a 0) from rfl]
                  unfold errV
                  clear hok
                  go_wp2_with fail
                  exact ⟨⟨t - 1, n2, D1, ns1 + 1, rs2, ao2, c2, _, _, _, K2, rfl, rfl, by congr 1; omega, by omega, HN.out, by omega, HTG.out⟩, by simp [intOf]; omega⟩
              · have hji : decide ((0 : Int) < (j : Int)) = false := by simp; omega
                have HTF := HT
                clear HT hgo
                go_wp2_with fail
                refine (wflush_any HTF.out.log HTF.out.kp.bd2).mono ?_
                rintro e u1 ⟨rfl, hlog, hkept⟩
                have hkf := HTF.out.kp.flush f1
                obtain ⟨G, hG⟩ : ∃ G, G = flushW 1 ((k : Int) + 1) rs2 D1 vss1 off' f1 := ⟨_, rfl⟩
                rw [← hG] at hlog hkf ⊢
                have HTG := hide (HTF.out.turn hkept hlog hkf)
                clear hlog hkept hkf hG
                cases hok : G.2.2.2 with
                | true =>
                  rw [hok] at HTG
                  rw [show flD true rs2.length D1 = n2 by rw [HN.out]; rfl] at HTG
                  rw [show flE (a 0) true = .nilIface from rfl]
                  clear hok
                  go_wp2_with fail
                  refine (wlast_any HTG.out.log n2 HN.out).mono ?_
                  rintro e u2 ⟨rfl, q9, rfl⟩
                  rw [Int.zero_add]
                  go_wp2_with fail
                  exact ⟨⟨t - 1, n2, n2, ns1 + 1, rs2, ao2, c2, _, _, _, K2, rfl, rfl, by congr 1; omega, by omega, HN.out, by omega, HTG.out.drewN _⟩, by simp [intOf]; omega⟩
                | false =>
                  rw [hok] at HTG
                  rw [show flD false rs2.length D1 = D1 from rfl] at HTG
                  rw [show flE (a 0) false = errV (a 0) from rfl]
                  unfold errV
                  clear hok
                  go_wp2_with fail
                  exact ⟨⟨t - 1, n2, D1, ns1 + 1, rs2, ao2, c2, _, _, _, K2, rfl, rfl, by congr 1; omega, by omega, HN.out, by omega, HTG.out⟩, by simp [intOf]; omega⟩
        · have hti : decide ((0 : Int) ≤ (t : Int) - 1) = false := by simp; omega
          obtain ⟨i0, hi, hz0, hz1, hz2⟩ := info_parts Tryd.info3
          obtain ⟨xs2, hxl, hxr⟩ := irow_of_isrow HR2.out (by omega)
          have HXR := hide hxr
          have HXL := hide hxl
          obtain ⟨Z, hZ⟩ : ∃ Z, Z = wr := ⟨_, rfl⟩
          subst hZ
          clear hxr hxl
          go_wp2_with fail
          go_loopw [19, 20] (fun mi jj wr => ∃ (j : Nat) (ms : List Int) (mo : Option Addr) (mc : Nat), mi = .slice mo j mc ∧ jj = .int .i64 j ∧ j ≤ 9 ∧ ms.length = j ∧ (∀ x ∈ ms, -9223372036854775808 ≤ x ∧ x ≤ 9223372036854775807) ∧ wr.ownsRow Z.heap.size 3 1 (.slice mo j mc) j (intCells ms) ∧ Below Z.heap.size Z wr) (fun _ jj _ => 9 - (intOf jj).toNat)
          case atStart => exact ⟨0, [], none, 0, rfl, rfl, by omega, rfl, fun x hx => by simp at hx, World.ownsRow_nil _ _ _ _, Below.refl _ _⟩
          case round =>
            obtain ⟨j, ms, mo, mc, rfl, rfl, hj9, hms, hmb, hown, hbel⟩ := hrel
            have HO := hide hown
            have HBL := hide hbel
            have HMS := hide hms
            have HMB := hide hmb
            clear hown hbel hms hmb
            by_cases hgo : j < 9 ∧ 0 < len2
            · obtain ⟨hj8, hl20⟩ := hgo
              have hji : (j : Int) < 9 := by omega
              have hli0 : (0 : Int) < (len2 : Int) := by omega
              obtain ⟨m, hm⟩ : ∃ m, m = (9 * k + j) % len2 := ⟨_, rfl⟩
              have hm2 : m < len2 := by rw [hm]; exact Nat.mod_lt _ hl20
              have hme : (9 * (k : Int) + (j : Int)) % (len2 : Int) = (m : Int) := by rw [hm]; push_cast; rfl
              have hmi : (m : Int) < (len2 : Int) := by omega
              have hnz : ((len2 : Int) == 0) = false := by simp; omega
              obtain ⟨b2, off2, hlo2, hbl2, hcell⟩ := HXR.out.2.2 (by rw [HXL.out]; exact hl20)
              subst hlo2
              have hc0 := ((over HT.out.side.bel HBL.out HT.out.side.bel.size).cell (p := ⟨b2, off2 + m, none⟩) hbl2).trans (hcell m (by rw [HXL.out]; exact hm2))
              have hvb := HXR.out.bd m
              obtain ⟨v, hv⟩ : ∃ v, v = xs2.getD m 0 := ⟨_, rfl⟩
              rw [← hv] at hc0 hvb
              clear hcell hv hm
              go_wp2_with (at_builtin; refine wpList_append_own _ rfl (.tmp 122) (.tmp 133) 22 rfl Z.heap.size 3 i0 (.int .i64 0) 1 8 Tryd.underlying22 hi hz0 hz1 hz2 rfl (by decide) (.slice mo j mc) j (intCells ms) rfl (HO.out.alloc _) ⟨wr.heap.size, 0, none⟩ 1 1 [.int .i64 v] rfl rfl (cell_one_new _ _ _) (by simp [Value.oneCell']) (by unfold maxLen; omega) (by omega) (by have := HBL.out.size; simp; omega) ?_; intro v' w3 hown3 hgr3 _; have HO3 := hide hown3; have HG3 := hide hgr3; clear hown3 hgr3)
              obtain ⟨mo', mc', rfl⟩ := own_shapeR HO3.out
              have hsz := HBL.out.size
              have hnew : w3.ownsRow Z.heap.size 3 1 (.slice mo' (j + 1) mc') (j + 1) (intCells (ms ++ [v])) := by
                rw [intCells, List.map_append]
                exact HO3.out
              have hbel3 := (HBL.out.alloc hsz (.cells #[.int .i64 v] 3)).grown HG3.out (by simp; omega) (fun q e => (HO.out.lt q e).1)
              refine ⟨?_, ?_⟩
              · exact ⟨j + 1, ms ++ [v], mo', mc', rfl, by go_num, hj8, by rw [List.length_append, HMS.out]; rfl, fun x hx => by
                  rcases List.mem_append.1 hx with h1 | h1
                  · exact HMB.out x h1
                  · rw [List.mem_singleton.1 h1]; exact hvb, hnew, hbel3⟩
              · simp only [intOf]
                omega
            obtain ⟨hrow, hblk⟩ := irow_of_own HO.out HMS.out (by omega) HMB.out
            obtain ⟨L, hKL, hNew, ht⟩ := HT.out.wide HBL.out
            have HROW := hide hrow
            have HBK : Hid (0 < ms.length → ∀ b o, mo = some ⟨b, o, none⟩ → L b) := fun hp b o e => hNew b (hblk b o (by rw [← HMS.out]; exact hp) e).1 (hblk b o (by rw [← HMS.out]; exact hp) e).2
            replace HT := hide ht
            clear hrow hblk hKL hNew ht HO HBL HMB HXR HXL
            by_cases hj99 : j < 9
            · have hji : (j : Int) < 9 := by omega
              have hlz : ¬ 0 < len2 := fun h => hgo ⟨hj99, h⟩
              have hli0 : decide ((0 : Int) < (len2 : Int)) = false := by simp; omega
              have hli1 : decide (0 < len2) = false := by simpa using hlz
              clear hgo
              go_wp2_with fail
              refine (crash_len d mo j mc ms HT.out.log.disk HROW.out HMS.out HBK.out).mono ?_
              rintro e u1 ⟨rfl, hdisk, hkept⟩
              have HD3 := hide hdisk
              have HE3 := hide (HT.out.log.errs.kept hkept)
              have HK1 := hide hkept
              obtain ⟨m, hm1, hm2, hop, hkp⟩ := HT.out.kp.crash ms ((k : Int) + 2) (by omega) (by omega)
              rw [HN.out] at hm2
              have HOP := hide hop
              have HKP := hide hkp
              have HLM : Hid ((rs1.take m).length = m) := by show _ = m; rw [List.length_take, HN.out]; omega
              clear hdisk hkept hop hkp
              go_wp2_with fail
              refine (wopen_any (F := 1) (N := 8) (base := 0) (ep := (k : Int) + 2) HD3.out HE3.out 1 (by omega) (by omega) (by have := HKP.out.len; omega) (by omega)).mono ?_
              rintro e u2 ⟨v, rfl, hpost, hkept⟩
              rw [HOP.out] at hpost
              rcases hpost with ⟨_, l2, rfl, hlog⟩ | ⟨h0, _⟩
              · rw [HLM.out] at hlog
                have HT2 := hide (HT.out.turn (HK1.out.trans hkept) hlog HKP.out)
                have hd1 : decide ((m : Int) < (D1 : Int)) = false := by simp; omega
                have hd2 : decide ((n1 : Int) < (m : Int)) = false := by simp; omega
                have hd3 : decide (m < D1) = false := by simp; omega
                have hd4 : decide (n1 < m) = false := by simp; omega
                clear hlog hkept HT HD3 HE3 HK1 HOP HKP HROW HBK HMS
                go_wp2_with fail
                refine (wlast_any HT2.out.log m HLM.out).mono ?_
                rintro e u3 ⟨rfl, q3, rfl⟩
                rw [Int.zero_add]
                go_wp2_with fail
                refine (wlast_any (HT2.out.drewN _).log m HLM.out).mono ?_
                rintro e u4 ⟨rfl, q4, rfl⟩
                rw [Int.zero_add]
                go_wp2_with fail
                go_loopw [23] (fun i wr => ∃ (pn : Nat), i = .int .i64 pn ∧ 1 ≤ pn ∧ pn ≤ m + 1 ∧ Trio w wr L a l2 d s lo len cap zs ns1 1 8 0 ((k : Int) + 2) (rs1.take m) rs1 m ao1 c1 (crashed ms vss1) false (-1)) (fun i _ => m + 1 - (intOf i).toNat)
                case atStart => exact ⟨1, rfl, by omega, by omega, HT2.out.drewN _⟩
                case round =>
                  clear HT2
                  obtain ⟨pn, rfl, hp5, hp5m, ht⟩ := hrel
                  obtain ⟨t5, ht5⟩ : ∃ t5, pn = t5 + 1 := ⟨pn - 1, by omega⟩
                  have HT := hide ht
                  clear ht
                  by_cases ht5m : t5 < m
                  · have hti5 : (pn : Int) ≤ (m : Int) := by omega
                    have HP5 := hide ht5
                    clear ht5
                    obtain ⟨r, hr⟩ : ∃ r, rs1[t5]? = some r := ⟨rs1[t5]'(by rw [HN.out]; omega), List.getElem?_eq_getElem _⟩
                    have HAT : Hid ((rs1.take m)[t5]? = some r) := by show _ = some r; rw [List.getElem?_take, if_pos ht5m]; exact hr
                    have HAS := hide hr
                    clear hr
                    go_wp2_with fail
                    refine (wlast_any HT.out.log m HLM.out).mono ?_
                    rintro e z1 ⟨rfl, q1, rfl⟩
                    rw [Int.zero_add]
                    go_wp2_with fail
                    refine (wrec_ok (HT.out.drewN _).log (pn : Int) t5 r HAT.out (by have := HP5.out; omega)).mono ?_
                    rintro e z2 ⟨rfl, hb⟩
                    have hbx := over hb (below_box z2 (recCells r)) hb.size
                    replace HT := hide ((HT.out.drewN _).below hbx)
                    have hc1 := cells10_new z2 r
                    clear hb hbx
                    obtain ⟨bb, oo, hao, hcs⟩ := HT.out.side.own.row.2 (by rw [HN.out]; omega)
                    subst hao
                    have hc2 := hcs t5 r HAS.out
                    clear hcs
                    unfold recCells at HT hc1 hc2
                    unfold R.val
                    go_upto_region 45 with fail
                    obtain ⟨Z5, hZ⟩ : ∃ Z5, Z5 = z2.alloc (.cells #[.int .i64 r.kind, .int .i64 r.txn, .int .i64 r.page, .int .i64 r.prev, .int .i64 r.next, .int .i64 r.key, .bool r.had, .bool r.has, .int .i64 r.old, .int .i64 r.new] 31) := ⟨_, rfl⟩
                    rw [← hZ] at HT hc1 hc2 ⊢
                    obtain ⟨U, hU⟩ : ∃ U, U = z2.heap.size := ⟨_, rfl⟩
                    rw [← hU] at hc1 ⊢
                    clear hZ hU
                    have HC1 := hide hc1
                    have HC2 := hide hc2
                    obtain ⟨k0, k1, k2, k3, k4, k5, k6, k7, k8, k9, kl⟩ := hc1
                    obtain ⟨j0, j1, j2, j3, j4, j5, j6, j7, j8, j9, jl⟩ := hc2
                    clear kl jl
                    have e51 : (pn : Int) - 1 = (t5 : Int) := by have := HP5.out; omega
                    have e53 : IntKind.i64.wrap (t5 : Int) = (t5 : Int) := by rw [IntKind.wrap_i64]; omega
                    have e54 : (t5 : Int) < (n1 : Int) := by omega
                    go_region_held3 (fun w' => w'.cell? ⟨U, 0, none⟩ = some (.int .i64 r.kind) ∧ w'.cell? ⟨U, 1, none⟩ = some (.int .i64 r.txn) ∧ w'.cell? ⟨U, 2, none⟩ = some (.int .i64 r.page) ∧ w'.cell? ⟨U, 3, none⟩ = some (.int .i64 r.prev) ∧ w'.cell? ⟨U, 4, none⟩ = some (.int .i64 r.next) ∧ w'.cell? ⟨U, 5, none⟩ = some (.int .i64 r.key) ∧ w'.cell? ⟨U, 6, none⟩ = some (.bool r.had) ∧ w'.cell? ⟨U, 7, none⟩ = some (.bool r.has) ∧ w'.cell? ⟨U, 8, none⟩ = some (.int .i64 r.old) ∧ w'.cell? ⟨U, 9, none⟩ = some (.int .i64 r.new) ∧ w'.cell? ⟨bb, oo + t5 * 10, none⟩ = some (.int .i64 r.kind) ∧ w'.cell? ⟨bb, oo + t5 * 10 + 1, none⟩ = some (.int .i64 r.txn) ∧ w'.cell? ⟨bb, oo + t5 * 10 + 2, none⟩ = some (.int .i64 r.page) ∧ w'.cell? ⟨bb, oo + t5 * 10 + 3, none⟩ = some (.int .i64 r.prev) ∧ w'.cell? ⟨bb, oo + t5 * 10 + 4, none⟩ = some (.int .i64 r.next) ∧ w'.cell? ⟨bb, oo + t5 * 10 + 5, none⟩ = some (.int .i64 r.key) ∧ w'.cell? ⟨bb, oo + t5 * 10 + 6, none⟩ = some (.bool r.had) ∧ w'.cell? ⟨bb, oo + t5 * 10 + 7, none⟩ = some (.bool r.has) ∧ w'.cell? ⟨bb, oo + t5 * 10 + 8, none⟩ = some (.int .i64 r.old) ∧ w'.cell? ⟨bb, oo + t5 * 10 + 9, none⟩ = some (.int .i64 r.new)) (first | go_keep | (refine ⟨?_, ?_, ?_, ?_, ?_, ?_, ?_, ?_, ?_, ?_, ?_, ?_, ?_, ?_, ?_, ?_, ?_, ?_, ?_, ?_⟩ <;> assumption))
                      (first | (go_at_call 20; refine (sameRec_same r _).mono ?_; rintro e z3 ⟨rfl, hb2⟩; have hb2 := of_drew hb2; have C2 := HC1.out.below hb2 (Nat.le_refl _); have D2 := HC2.out.of_block (hb2.block bb HC2.out.lt) hb2.size; obtain ⟨g0, g1, g2, g3, g4, g5, g6, g7, g8, g9, gl⟩ := C2; obtain ⟨q0, q1, q2, q3, q4, q5, q6, q7, q8, q9, ql⟩ := D2; have HB2 := hide hb2; clear hb2 gl ql))
                    clear e51 e53 e54
                    go_wp2_with fail
                    go_roundw
                    case rel => exact ⟨pn + 1, by go_num, by omega, by omega, HT.out.below HB2.out⟩
                    case measure => simp [intOf]; omega
                  · have hti5 : decide ((pn : Int) ≤ (m : Int)) = false := by simp; omega
                    have hmn : (m : Int) ≤ (n1 : Int) := by omega
                    have hcap : n1 ≤ c1 := by have := HT.out.side.own.le; rw [HN.out] at this; exact this
                    have hmc : (m : Int) ≤ (c1 : Int) := by omega
                    go_wp2_with fail
                    refine (wlast_any HT.out.log m HLM.out).mono ?_
                    rintro e z1 ⟨rfl, q1, rfl⟩
                    rw [Int.zero_add]
                    go_wp2_with fail
                    refine (wlast_any (HT.out.drewN _).log m HLM.out).mono ?_
                    rintro e z2 ⟨rfl, q2, rfl⟩
                    rw [Int.zero_add]
                    go_wp2_with fail
                    exact ⟨⟨k + 1, l2, m, ns1, rs1.take m, ao1, c1, _, L, rfl, rfl, by go_num, by omega, HLM.out, by omega, by rw [show ((k + 1 : Nat) : Int) + 1 = (k : Int) + 2 by omega]; exact (HT.out.drewN _).cut m (by rw [HN.out]; omega)⟩, by simp [intOf]; omega⟩
              · exact absurd (show (0 : Int) ≤ -1 from h0) (by decide)
            · have hji : decide ((j : Int) < 9) = false := by simp; omega
              clear hgo
              go_wp2_with fail
              refine (crash_len d mo j mc ms HT.out.log.disk HROW.out HMS.out HBK.out).mono ?_
              rintro e u1 ⟨rfl, hdisk, hkept⟩
              have HD3 := hide hdisk
              have HE3 := hide (HT.out.log.errs.kept hkept)
              have HK1 := hide hkept
              obtain ⟨m, hm1, hm2, hop, hkp⟩ := HT.out.kp.crash ms ((k : Int) + 2) (by omega) (by omega)
              rw [HN.out] at hm2
              have HOP := hide hop
              have HKP := hide hkp
              have HLM : Hid ((rs1.take m).length = m) := by show _ = m; rw [List.length_take, HN.out]; omega
              clear hdisk hkept hop hkp
              go_wp2_with fail
              refine (wopen_any (F := 1) (N := 8) (base := 0) (ep := (k : Int) + 2) HD3.out HE3.out 1 (by omega) (by omega) (by have := HKP.out.len; omega) (by omega)).mono ?_
              rintro e u2 ⟨v, rfl, hpost, hkept⟩
              rw [HOP.out] at hpost
              rcases hpost with ⟨_, l2, rfl, hlog⟩ | ⟨h0, _⟩
              · rw [HLM.out] at hlog
                have HT2 := hide (HT.out.turn (HK1.out.trans hkept) hlog HKP.out)
                have hd1 : decide ((m : Int) < (D1 : Int)) = false := by simp; omega
                have hd2 : decide ((n1 : Int) < (m : Int)) = false := by simp; omega
                have hd3 : decide (m < D1) = false := by simp; omega
                have hd4 : decide (n1 < m) = false := by simp; omega
                clear hlog hkept HT HD3 HE3 HK1 HOP HKP HROW HBK HMS
                go_wp2_with fail
                refine (wlast_any HT2.out.log m HLM.out).mono ?_
                rintro e u3 ⟨rfl, q3, rfl⟩
                rw [Int.zero_add]
                go_wp2_with fail
                refine (wlast_any (HT2.out.drewN _).log m HLM.out).mono ?_
                rintro e u4 ⟨rfl, q4, rfl⟩
                rw [Int.zero_add]
                go_wp2_with fail
                go_loopw [23] (fun i wr => ∃ (pn : Nat), i = .int .i64 pn ∧ 1 ≤ pn ∧ pn ≤ m + 1 ∧ Trio w wr L a l2 d s lo len cap zs ns1 1 8 0 ((k : Int) + 2) (rs1.take m) rs1 m ao1 c1 (crashed ms vss1) false (-1)) (fun i _ => m + 1 - (intOf i).toNat)
                case atStart => exact ⟨1, rfl, by omega, by omega, HT2.out.drewN _⟩
                case round =>
                  clear HT2
                  obtain ⟨pn, rfl, hp5, hp5m, ht⟩ := hrel
                  obtain ⟨t5, ht5⟩ : ∃ t5, pn = t5 + 1 := ⟨pn - 1, by omega⟩
                  have HT := hide ht
                  clear ht
                  by_cases ht5m : t5 < m
                  · have hti5 : (pn : Int) ≤ (m : Int) := by omega
                    have HP5 := hide ht5
                    clear ht5
                    obtain ⟨r, hr⟩ : ∃ r, rs1[t5]? = some r := ⟨rs1[t5]'(by rw [HN.out]; omega), List.getElem?_eq_getElem _⟩
                    have HAT : Hid ((rs1.take m)[t5]? = some r) := by show _ = some r; rw [List.getElem?_take, if_pos ht5m]; exact hr
                    have HAS := hide hr
                    clear hr
                    go_wp2_with fail
                    refine (wlast_any HT.out.log m HLM.out).mono ?_
                    rintro e z1 ⟨rfl, q1, rfl⟩
                    rw [Int.zero_add]
                    go_wp2_with fail
                    refine (wrec_ok (HT.out.drewN _).log (pn : Int) t5 r HAT.out (by have := HP5.out; omega)).mono ?_
                    rintro e z2 ⟨rfl, hb⟩
                    have hbx := over hb (below_box z2 (recCells r)) hb.size
                    replace HT := hide ((HT.out.drewN _).below hbx)
                    have hc1 := cells10_new z2 r
                    clear hb hbx
                    obtain ⟨bb, oo, hao, hcs⟩ := HT.out.side.own.row.2 (by rw [HN.out]; omega)
                    subst hao
                    have hc2 := hcs t5 r HAS.out
                    clear hcs
                    unfold recCells at HT hc1 hc2
                    unfold R.val
                    go_upto_region 45 with fail
                    obtain ⟨Z5, hZ⟩ : ∃ Z5, Z5 = z2.alloc (.cells #[.int .i64 r.kind, .int .i64 r.txn, .int .i64 r.page, .int .i64 r.prev, .int .i64 r.next, .int .i64 r.key, .bool r.had, .bool r.has, .int .i64 r.old, .int .i64 r.new] 31) := ⟨_, rfl⟩
                    rw [← hZ] at HT hc1 hc2 ⊢
                    obtain ⟨U, hU⟩ : ∃ U, U = z2.heap.size := ⟨_, rfl⟩
                    rw [← hU] at hc1 ⊢
                    clear hZ hU
                    have HC1 := hide hc1
                    have HC2 := hide hc2
                    obtain ⟨k0, k1, k2, k3, k4, k5, k6, k7, k8, k9, kl⟩ := hc1
                    obtain ⟨j0, j1, j2, j3, j4, j5, j6, j7, j8, j9, jl⟩ := hc2
                    clear kl jl
                    have e51 : (pn : Int) - 1 = (t5 : Int) := by have := HP5.out; omega
                    have e53 : IntKind.i64.wrap (t5 : Int) = (t5 : Int) := by rw [IntKind.wrap_i64]; omega
                    have e54 : (t5 : Int) < (n1 : Int) := by omega
                    go_region_held3 (fun w' => w'.cell? ⟨U, 0, none⟩ = some (.int .i64 r.kind) ∧ w'.cell? ⟨U, 1, none⟩ = some (.int .i64 r.txn) ∧ w'.cell? ⟨U, 2, none⟩ = some (.int .i64 r.page) ∧ w'.cell? ⟨U, 3, none⟩ = some (.int .i64 r.prev) ∧ w'.cell? ⟨U, 4, none⟩ = some (.int .i64 r.next) ∧ w'.cell? ⟨U, 5, none⟩ = some (.int .i64 r.key) ∧ w'.cell? ⟨U, 6, none⟩ = some (.bool r.had) ∧ w'.cell? ⟨U, 7, none⟩ = some (.bool r.has) ∧ w'.cell? ⟨U, 8, none⟩ = some (.int .i64 r.old) ∧ w'.cell? ⟨U, 9, none⟩ = some (.int .i64 r.new) ∧ w'.cell? ⟨bb, oo + t5 * 10, none⟩ = some (.int .i64 r.kind) ∧ w'.cell? ⟨bb, oo + t5 * 10 + 1, none⟩ = some (.int .i64 r.txn) ∧ w'.cell? ⟨bb, oo + t5 * 10 + 2, none⟩ = some (.int .i64 r.page) ∧ w'.cell? ⟨bb, oo + t5 * 10 + 3, none⟩ = some (.int .i64 r.prev) ∧ w'.cell? ⟨bb, oo + t5 * 10 + 4, none⟩ = some (.int .i64 r.next) ∧ w'.cell? ⟨bb, oo + t5 * 10 + 5, none⟩ = some (.int .i64 r.key) ∧ w'.cell? ⟨bb, oo + t5 * 10 + 6, none⟩ = some (.bool r.had) ∧ w'.cell? ⟨bb, oo + t5 * 10 + 7, none⟩ = some (.bool r.has) ∧ w'.cell? ⟨bb, oo + t5 * 10 + 8, none⟩ = some (.int .i64 r.old) ∧ w'.cell? ⟨bb, oo + t5 * 10 + 9, none⟩ = some (.int .i64 r.new)) (first | go_keep | (refine ⟨?_, ?_, ?_, ?_, ?_, ?_, ?_, ?_, ?_, ?_, ?_, ?_, ?_, ?_, ?_, ?_, ?_, ?_, ?_, ?_⟩ <;> assumption))
                      (first | (go_at_call 20; refine (sameRec_same r _).mono ?_; rintro e z3 ⟨rfl, hb2⟩; have hb2 := of_drew hb2; have C2 := HC1.out.below hb2 (Nat.le_refl _); have D2 := HC2.out.of_block (hb2.block bb HC2.out.lt) hb2.size; obtain ⟨g0, g1, g2, g3, g4, g5, g6, g7, g8, g9, gl⟩ := C2; obtain ⟨q0, q1, q2, q3, q4, q5, q6, q7, q8, q9, ql⟩ := D2; have HB2 := hide hb2; clear hb2 gl ql))
                    clear e51 e53 e54
                    go_wp2_with fail
                    go_roundw
                    case rel => exact ⟨pn + 1, by go_num, by omega, by omega, HT.out.below HB2.out⟩
                    case measure => simp [intOf]; omega
                  · have hti5 : decide ((pn : Int) ≤ (m : Int)) = false := by simp; omega
                    have hmn : (m : Int) ≤ (n1 : Int) := by omega
                    have hcap : n1 ≤ c1 := by have := HT.out.side.own.le; rw [HN.out] at this; exact this
                    have hmc : (m : Int) ≤ (c1 : Int) := by omega
                    go_wp2_with fail
                    refine (wlast_any HT.out.log m HLM.out).mono ?_
                    rintro e z1 ⟨rfl, q1, rfl⟩
                    rw [Int.zero_add]
                    go_wp2_with fail
                    refine (wlast_any (HT.out.drewN _).log m HLM.out).mono ?_
                    rintro e z2 ⟨rfl, q2, rfl⟩
                    rw [Int.zero_add]
                    go_wp2_with fail
                    exact ⟨⟨k + 1, l2, m, ns1, rs1.take m, ao1, c1, _, L, rfl, rfl, by go_num, by omega, HLM.out, by omega, by rw [show ((k + 1 : Nat) : Int) + 1 = (k : Int) + 2 by omega]; exact (HT.out.drewN _).cut m (by rw [HN.out]; omega)⟩, by simp [intOf]; omega⟩
              · exact absurd (show (0 : Int) ≤ -1 from h0) (by decide)
    · have hki : decide ((k : Int) < (len1 : Int)) = false := by simp; omega
      go_wp2_with fail
      go_ret
      exact ⟨rfl, HT.out.side.bel⟩
end Go.Proofs.YtgjhnkadfdcafaaDoor.walKeeps
