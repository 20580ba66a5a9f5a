
/- What the statement WalBoots asks comes out true, at every list of numbers; nothing that was there is written. -/
import Derived.Test.YtgjhnkadfdcafaaDoorJoin29
namespace Go.Proofs.YtgjhnkadfdcafaaDoor.walBoots
open Go.RowKit
set_option linter.unusedVariables false

def ends (t p : Int) : R := ⟨4, t, 0, p, 0, 0, false, false, 0, 0⟩
theorem ends_good {t p : Int} (h1 : 1 ≤ t) (h2 : t ≤ 60000) (h3 : 0 ≤ p) (h4 : p ≤ 1073741824) : goodB (ends t p) = true :=
  good_of ⟨rfl, by simp [ends, holdsB, txnLo, txnHi]; omega, by simp [ends, holdsB, pageLo, pageHi], by simp [ends, holdsB, prevLo, prevHi]; omega, by simp [ends, holdsB, nextHi], by simp [ends, holdsB, keyHi], by simp [ends, oldB]⟩ rfl
theorem ends_fits (t p : Int) : (ends t p).fits := by unfold R.fits ends; simp
theorem room_at (n : Nat) (hn : n < 72) : 0 < roomI 12 n 5 := by
  unfold roomI
  rw [if_neg (by omega)]
  omega
set_option maxRecDepth 100000 in
set_option maxHeartbeats 16000000 in
theorem walk (lo : Option Addr) (len cap : Nat) (zs : List Int) (w : World) (w2 : IsRow .i64 w lo len cap zs) {a : Nat → Addr} (he : ErrsOf w [0, 1, 2, 3, 4, 7, 8] a) :
    Calls Tryd.prog 3 #[.slice lo len cap] w fun e w' => e = .returned (.bool true) ∧ Below w.heap.size w w' := by
  have HE := hide he
  have HR := hide w2
  clear he w2
  go_enter Tryd.func3, Tryd.ntmps3
  go_wp2_with fail
  refine (wfirst_any w HE.out seven7).mono ?_
  rintro e x1 ⟨rfl, hb⟩
  have HB := hide hb
  have HE1 := hide (HE.out.step hb)
  clear hb
  by_cases hl : 8 < len
  · have hli : (8 : Int) < (len : Int) := by omega
    go_wp2_with fail
    go_ret
    exact ⟨rfl, HB.out⟩
  have hli : decide ((8 : Int) < (len : Int)) = false := by simp; omega
  go_wp2_with fail
  refine (new_any 12 12 (.inr (.inl ⟨by omega, by omega, rfl⟩)) (errs_three HE1.out seven7)).mono ?_
  rintro e x2 ⟨d, rfl, hd, hdisk, hbel⟩
  have HM := hide (log_made (F := 0) (N := 12) (base := 5) (ep := 1) HE1.out seven7 hdisk hbel (by omega) (by omega) (by omega) (by omega))
  clear hdisk hbel hd
  go_wp2_with fail
  refine (wnew_any d 0 12 5 1 x2 (by omega)).mono ?_
  rintro e x3 ⟨rfl, rfl⟩
  obtain ⟨W, hW⟩ : ∃ W, W = x2.alloc (.cells (logCells d 0 12 5 1 (.slice none 0 0) 0) 72) := ⟨_, rfl⟩
  rw [← hW] at HM ⊢
  obtain ⟨l0, hl'⟩ : ∃ l, l = x2.heap.size := ⟨_, rfl⟩
  rw [← hl'] at HM ⊢
  have HSD : Hid (Side w W (ahead x1.heap.size) none 0 []) := Side.nil (over HB.out HM.out.2 HB.out.size) (fun k hk => Nat.lt_of_lt_of_le hk HB.out.size) (gno_lt HE.out seven7)
  have HL := hide HM.out.1
  clear hW hl' HM
  go_wp2_with fail
  go_loopw [5, 6, 7] (fun x al i wr => ∃ (k l n : Nat) (ep : Int) (rs : List R) (ao : Option Addr) (c : Nat) (vss : List (List (List Int))) (K : Nat → Prop), x = .pointer (some ⟨l, 0, none⟩) ∧ al = .slice ao n c ∧ i = .int .i64 k ∧ k ≤ len ∧ rs.length = n ∧ n ≤ 8 * k ∧ (1 ≤ ep ∧ ep ≤ 2 * (k : Int) + 1) ∧ Log wr K a l d vss false (-1) 0 12 5 ep rs n ∧ Kp 0 12 ep rs n vss false ∧ Side w wr K ao c rs) (fun _ _ i _ => len - (intOf i).toNat)
  case atStart => exact ⟨0, l0, 0, 1, [], none, 0, _, _, rfl, rfl, rfl, by omega, rfl, by omega, by omega, HL.out, kp_new 0 12 12 (by omega), HSD.out⟩
  case round =>
    clear HL HSD
    obtain ⟨k, l, n, ep, rs, ao, c, vss, K, rfl, rfl, rfl, hk, hn, hn8, hep, hlog, hkp, hside⟩ := hrel
    have HL := hide hlog
    have HK := hide hkp
    have HS := hide hside
    have HN := hide hn
    clear hlog hkp hside hn
    by_cases hlt : k < len
    · have hki : (k : Int) < (len : Int) := by omega
      obtain ⟨b, off, rfl, hbl, hcell⟩ := row_at HR.out (by omega) hlt
      have hc0 := (HS.out.bel.cell (p := ⟨b, off + k, none⟩) hbl).trans hcell
      obtain ⟨z, hz⟩ : ∃ z, z = zs.getD k 0 := ⟨_, rfl⟩
      rw [← hz] at hc0
      clear hcell hz
      go_wp2_with fail
      refine (number_any _ _ _ (by omega) (by omega)).mono ?_
      rintro e x2 ⟨rfl, rfl⟩
      have hp := numberB_bd z 9 (by omega)
      obtain ⟨j0, hj0⟩ : ∃ j : Nat, numberB z 9 = j := ⟨(numberB z 9).toNat, by omega⟩
      rw [hj0] at hp ⊢
      have hj8 : j0 ≤ 8 := by omega
      clear hj0 hp hc0
      go_wp2_with fail
      go_loopw [6, 8] (fun al j wr => ∃ (j' n1 : Nat) (rs1 : List R) (ao1 : Option Addr) (c1 : Nat) (K1 : Nat → Prop), j = .int .i64 j' ∧ al = .slice ao1 n1 c1 ∧ rs1.length = n1 ∧ n1 + j' ≤ 8 * (k + 1) ∧ j' ≤ 8 ∧ Log wr K1 a l d vss false (-1) 0 12 5 ep rs1 n ∧ Kp 0 12 ep rs1 n vss false ∧ Side w wr K1 ao1 c1 rs1) (fun _ j _ => (intOf j).toNat)
      case atStart => exact ⟨j0, n, rs, ao, c, K, rfl, rfl, HN.out, by omega, hj8, HL.out, HK.out, HS.out⟩
      case round =>
        clear HL HK HS HN
        obtain ⟨j, n1, rs1, ao1, c1, K1, rfl, rfl, hn1, hnj, hj, hlog, hkp, hside⟩ := hrel
        have HL := hide hlog
        have HK := hide hkp
        have HS := hide hside
        have HN := hide hn1
        clear hlog hkp hside hn1
        by_cases hjz : 0 < j
        · have hji : (0 : Int) < (j : Int) := by omega
          obtain ⟨r, hr⟩ : ∃ r, r = ends ((k : Int) + 1) j := ⟨_, rfl⟩
          have HG : Hid (goodB r = true ∧ r.fits) := by show _ ∧ _; rw [hr]; exact ⟨ends_good (by omega) (by omega) (by omega) (by omega), ends_fits _ _⟩
          have hbx := below_box wr (recCells r)
          obtain ⟨L, hKL, hNew, hlog, hside⟩ := both_wide HL.out HS.out hbx
          have HC := hide (cells10_new wr r)
          have HIN : Hid (L wr.heap.size) := hNew _ (Nat.le_refl _) (by simp)
          replace HL := hide hlog
          replace HS := hide hside
          clear hlog hside hNew hKL hbx
          have HYE : Hid (wr.alloc (.cells #[.int .i64 4, .int .i64 ((k : Int) + 1), .int .i64 0, .int .i64 (j : Int), .int .i64 0, .int .i64 0, .bool false, .bool false, .int .i64 0, .int .i64 0] 31) = wr.alloc (recCells r)) := by show _ = _; rw [hr]; rfl
          clear hr
          go_upto_region 20 with fail
          rw [HYE.out]
          clear HYE
          obtain ⟨Y, hY⟩ : ∃ Y, Y = wr.alloc (recCells r) := ⟨_, rfl⟩
          rw [← hY] at HL HS HC ⊢
          obtain ⟨V, hV⟩ : ∃ V, V = wr.heap.size := ⟨_, rfl⟩
          rw [← hV] at HC HIN ⊢
          clear hY hV
          obtain ⟨k0, k1, k2, k3, k4, k5, k6, k7, k8, k9, kl⟩ := HC.out
          go_wp2_with fail
          clear k0 k1 k2 k3 k4 k5 k6 k7 k8 k9 kl
          refine (wappend_ok HL.out n1 HN.out r HG.out.1 HG.out.2 (room_at n1 (by omega))).mono ?_
          rintro e y1 ⟨rfl, hlog, hkept⟩
          rw [show (5 : Int) + (n1 : Int) + 1 = 5 + ((n1 : Int) + 1) by omega]
          replace HL := hide hlog
          replace HS := hide (HS.out.kept hkept)
          replace HC := hide (HC.out.kept hkept HIN.out)
          replace HK := hide (HK.out.append r HG.out (by rw [HN.out]; omega))
          clear hlog hkept HIN
          obtain ⟨ao2, c2, y2, L2, hrun, hL2, hlog, hside, _⟩ := side_append HL.out HS.out n1 HN.out (by omega) r 28
          have HRUN := hide hrun
          replace HL := hide hlog
          replace HS := hide hside
          have HN2 : Hid ((rs1 ++ [r]).length = n1 + 1) := by show (rs1 ++ [r]).length = n1 + 1; rw [List.length_append, HN.out]; rfl
          clear hrun hlog hside hL2 
          obtain ⟨k0, k1, k2, k3, k4, k5, k6, k7, k8, k9, kl⟩ := HC.out
          go_wp2_with (first | (refine build1 r rfl ?_) | (at_builtin; refine wpList_append_run (by rfl) (.tmp 56) (.tmp 58) 28 (by rfl) _ _ (by rfl) (by rfl) HRUN.out ?_))
          exact ⟨⟨j - 1, n1 + 1, rs1 ++ [r], ao2, c2, L2, by rw [show ((j - 1 : Nat) : Int) = (j : Int) - 1 by omega], rfl, HN2.out, by omega, by omega, HL.out, HK.out, HS.out⟩, by simp [intOf]; omega⟩
        · have hji : decide ((0 : Int) < (j : Int)) = false := by simp; omega
          go_wp2_with fail
          refine (wflush_any HL.out HK.out.bd2).mono ?_
          rintro e y1 ⟨rfl, hlog, hkept⟩
          have hfr := flush_free 0 ep rs1 n vss
          have hkf := HK.out.flush (-1)
          obtain ⟨G, hG⟩ : ∃ G, G = flushW 0 ep rs1 n vss false (-1) := ⟨_, rfl⟩
          rw [← hG] at hlog hfr hkf ⊢
          rw [hfr] at hlog hkf ⊢
          rw [show flD true rs1.length n = n1 by rw [HN.out]; rfl] at hlog hkf
          rw [show flE (a 0) true = .nilIface from rfl]
          have HL2 := hide hlog
          have HK2 := hide hkf
          have HS2 := hide (HS.out.kept hkept)
          clear hlog hkept hfr hG hkf HL HK HS
          go_wp2_with fail
          refine (crash_none d HL2.out.disk).mono ?_
          rintro e y2 ⟨rfl, hdisk, hkept⟩
          have HD3 := hide hdisk
          have HS3 := hide (HS2.out.kept hkept)
          have HE3 := hide (HL2.out.errs.kept hkept)
          obtain ⟨m, hm1, hm2, hop, hkp⟩ := HK2.out.crash [] (2 * (k : Int) + 2) (by omega) (by omega)
          have hmn : m = n1 := by rw [HN.out] at hm2; omega
          rw [hmn, List.take_of_length_le (by rw [HN.out]; exact Nat.le_refl _)] at hop hkp
          have HOP := hide hop
          have HK3 := hide hkp
          clear hdisk hkept hm1 hm2 hop hkp hmn HL2 HK2 HS2
          have hep2 : 2 * (k : Int) + 2 ≤ 100 := by omega
          go_wp2_with fail
          refine (wopen_any (F := 0) (N := 12) (base := 5) (ep := 2 * (k : Int) + 2) HD3.out HE3.out 1 (by omega) (by omega) (by have := HK3.out.len; omega) (by omega)).mono ?_
          rintro e y3 ⟨v, rfl, hpost, hkept⟩
          rw [HOP.out] at hpost
          rcases hpost with ⟨_, l2, rfl, hlog⟩ | ⟨h0, _⟩
          · rw [HN.out] at hlog
            have HL4 := hide hlog
            have HS4 := hide (HS3.out.kept hkept)
            clear hlog hkept HD3 HS3 HE3 HOP
            go_wp2_with fail
            refine (wlast_any HL4.out n1 HN.out).mono ?_
            rintro e y4 ⟨rfl, q4, rfl⟩
            go_wp2_with fail
            refine (wdone_any (HL4.out.drewN q4)).mono ?_
            rintro e y5 ⟨rfl, q5, rfl⟩
            go_wp2_with fail
            refine (wlast_any (HL4.out.drewN _) n1 HN.out).mono ?_
            rintro e y6 ⟨rfl, q6, rfl⟩
            go_wp2_with fail
            refine (wbase_any (HL4.out.drewN _)).mono ?_
            rintro e y7 ⟨rfl, rfl⟩
            go_wp2_with fail
            go_loopw [14] (fun i wr => ∃ (t : Nat), i = .int .i64 t ∧ t ≤ n1 ∧ Log wr K1 a l2 d (crashed [] G.1) false (-1) 0 12 5 (2 * (k : Int) + 2) rs1 n1 ∧ Side w wr K1 ao1 c1 rs1) (fun i _ => n1 - (intOf i).toNat)
            case atStart => exact ⟨0, rfl, by omega, HL4.out.drewN _, HS4.out.drewN _⟩
            case round =>
              clear HL4 HS4
              obtain ⟨t, rfl, ht, hlog, hside⟩ := hrel
              have HL := hide hlog
              have HS := hide hside
              clear hlog hside
              by_cases htl : t < n1
              · have hti : (t : Int) < (n1 : Int) := by omega
                obtain ⟨r, hr⟩ : ∃ r, rs1[t]? = some r := ⟨rs1[t]'(by rw [HN.out]; exact htl), List.getElem?_eq_getElem _⟩
                have HAT := hide hr
                clear hr
                go_wp2_with fail
                refine (wrec_ok HL.out (6 + (t : Int)) t r HAT.out (by omega)).mono ?_
                rintro e z1 ⟨rfl, hb⟩
                have hbx := over hb (below_box z1 (recCells r)) hb.size
                replace HL := hide (HL.out.below hbx)
                replace HS := hide (HS.out.below hbx)
                have hc1 := cells10_new z1 r
                clear hb hbx
                obtain ⟨bb, oo, hao, hcs⟩ := HS.out.own.row.2 (by rw [HN.out]; omega)
                subst hao
                have hc2 := hcs t r HAT.out
                clear hcs
                unfold recCells at HL HS hc1 hc2
                unfold R.val
                go_upto_region 34 with fail
                obtain ⟨Z, hZ⟩ : ∃ Z, Z = z1.alloc (.cells #[.int .i64 r.kind, .int .i64 r.txn, .int .i64 r.page, .int .i64 r.prev, .int .i64 r.next, .int .i64 r.key, .bool r.had, .bool r.has, .int .i64 r.old, .int .i64 r.new] 31) := ⟨_, rfl⟩
                rw [← hZ] at HL HS hc1 hc2 ⊢
                obtain ⟨U, hU⟩ : ∃ U, U = z1.heap.size := ⟨_, rfl⟩
                rw [← hU] at hc1 ⊢
                clear hZ hU
                have HC1 := hide hc1
                have HC2 := hide hc2
                obtain ⟨k0, k1, k2, k3, k4, k5, k6, k7, k8, k9, kl⟩ := hc1
                obtain ⟨j0, j1, j2, j3, j4, j5, j6, j7, j8, j9, jl⟩ := hc2
                clear kl jl
                go_region_held3 (fun w' => w'.cell? ⟨U, 0, none⟩ = some (.int .i64 r.kind) ∧ w'.cell? ⟨U, 1, none⟩ = some (.int .i64 r.txn) ∧ w'.cell? ⟨U, 2, none⟩ = some (.int .i64 r.page) ∧ w'.cell? ⟨U, 3, none⟩ = some (.int .i64 r.prev) ∧ w'.cell? ⟨U, 4, none⟩ = some (.int .i64 r.next) ∧ w'.cell? ⟨U, 5, none⟩ = some (.int .i64 r.key) ∧ w'.cell? ⟨U, 6, none⟩ = some (.bool r.had) ∧ w'.cell? ⟨U, 7, none⟩ = some (.bool r.has) ∧ w'.cell? ⟨U, 8, none⟩ = some (.int .i64 r.old) ∧ w'.cell? ⟨U, 9, none⟩ = some (.int .i64 r.new) ∧ w'.cell? ⟨bb, oo + t * 10, none⟩ = some (.int .i64 r.kind) ∧ w'.cell? ⟨bb, oo + t * 10 + 1, none⟩ = some (.int .i64 r.txn) ∧ w'.cell? ⟨bb, oo + t * 10 + 2, none⟩ = some (.int .i64 r.page) ∧ w'.cell? ⟨bb, oo + t * 10 + 3, none⟩ = some (.int .i64 r.prev) ∧ w'.cell? ⟨bb, oo + t * 10 + 4, none⟩ = some (.int .i64 r.next) ∧ w'.cell? ⟨bb, oo + t * 10 + 5, none⟩ = some (.int .i64 r.key) ∧ w'.cell? ⟨bb, oo + t * 10 + 6, none⟩ = some (.bool r.had) ∧ w'.cell? ⟨bb, oo + t * 10 + 7, none⟩ = some (.bool r.has) ∧ w'.cell? ⟨bb, oo + t * 10 + 8, none⟩ = some (.int .i64 r.old) ∧ w'.cell? ⟨bb, oo + t * 10 + 9, none⟩ = some (.int .i64 r.new)) (first | go_keep | (refine ⟨?_, ?_, ?_, ?_, ?_, ?_, ?_, ?_, ?_, ?_, ?_, ?_, ?_, ?_, ?_, ?_, ?_, ?_, ?_, ?_⟩ <;> assumption))
                  (first | (go_at_call 20; refine (sameRec_same r _).mono ?_; rintro e z2 ⟨rfl, hb2⟩; have hb2 := of_drew hb2; have C2 := HC1.out.below hb2 (Nat.le_refl _); have D2 := HC2.out.of_block (hb2.block bb HC2.out.lt) hb2.size; obtain ⟨p0, p1, p2, p3, p4, p5, p6, p7, p8, p9, pl⟩ := C2; obtain ⟨q0, q1, q2, q3, q4, q5, q6, q7, q8, q9, ql⟩ := D2; have HB2 := hide hb2; clear hb2 pl ql))
                go_wp2_with fail
                go_roundw
                case rel => exact ⟨t + 1, by go_num, by omega, HL.out.below HB2.out, HS.out.below HB2.out⟩
                case measure => simp [intOf]; omega
              · have hti : decide ((t : Int) < (n1 : Int)) = false := by simp; omega
                go_wp2_with fail
                exact ⟨⟨k + 1, l2, n1, 2 * (k : Int) + 2, rs1, ao1, c1, _, K1, rfl, rfl, by go_num, by omega, HN.out, by omega, by omega, HL.out, HK3.out, HS.out⟩, by simp [intOf]; omega⟩
          · exact absurd (show (0 : Int) ≤ -1 from h0) (by decide)
    · have hki : decide ((k : Int) < (len : Int)) = false := by simp; omega
      go_wp2_with fail
      go_ret
      exact ⟨rfl, HS.out.bel⟩
end Go.Proofs.YtgjhnkadfdcafaaDoor.walBoots
