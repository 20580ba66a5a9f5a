
/- What the statement WalNumbers asks comes out true, at every two numbers and list of numbers; nothing that was there is written. -/
import Derived.Test.YtgjhnkadfdcafaaDoorJoin29
namespace Go.Proofs.YtgjhnkadfdcafaaDoor.walNumbers
open Go.RowKit
set_option linter.unusedVariables false

def ck : R := ⟨7, 0, 0, 0, 0, 0, false, false, 0, 0⟩
theorem ck_good : goodB ck = true := by decide
theorem none_bad : goodB noRec = false := by decide
theorem room_at (n N : Nat) (b : Nat) (hb : b ≤ 1000) (hN : N ≤ 12) (hn : n ≤ 6 * N) : roomI N n b = (N : Int) * 6 - n := by
  unfold roomI
  rw [if_neg (by omega)]
set_option maxRecDepth 100000 in
set_option maxHeartbeats 8000000 in
theorem walk (a0 a1 : Int) (lo : Option Addr) (len cap : Nat) (zs : List Int) (w : World) (w0 : (Lit.int .i64 a0).wf = true) (w1 : (Lit.int .i64 a1).wf = true) (w2 : IsRow .i64 w lo len cap zs) {a : Nat → Addr} (he : ErrsOf w all18 a) :
    Calls Tryd.prog 6 #[.int .i64 a0, .int .i64 a1, .slice lo len cap] w fun e w' => e = .returned (.bool true) ∧ Below w.heap.size w w' := by
  have HE := hide he
  have HR := hide w2
  clear he w0 w1 w2
  go_enter Tryd.func6, Tryd.ntmps6
  go_wp2_with fail
  refine (wfirst_any w HE.out seven18).mono ?_
  rintro e x1 ⟨rfl, hb⟩
  have HB := hide hb
  have HE1 := hide (HE.out.step hb)
  clear hb
  by_cases hl : 200 < len
  · have hli : (200 : Int) < (len : Int) := by omega
    go_wp2_with fail
    go_ret
    exact ⟨rfl, HB.out⟩
  have hli : decide ((200 : Int) < (len : Int)) = false := by simp; omega
  go_wp2_with fail
  refine (number_any _ _ _ (by omega) (by omega)).mono ?_
  rintro e x2 ⟨rfl, rfl⟩
  have hp := numberB_bd a0 12 (by omega)
  obtain ⟨N, hN⟩ : ∃ N : Nat, numberB a0 12 + 1 = N := ⟨(numberB a0 12 + 1).toNat, by omega⟩
  have hN1 : 1 ≤ N := by omega
  have hN12 : N ≤ 12 := by omega
  go_wp2_with fail
  clear hN hp
  refine (number_any _ _ _ (by omega) (by omega)).mono ?_
  rintro e x3 ⟨rfl, rfl⟩
  have hp := numberB_bd a1 1000 (by omega)
  obtain ⟨b, hb⟩ : ∃ b : Nat, numberB a1 1000 = b := ⟨(numberB a1 1000).toNat, by omega⟩
  rw [hb] at hp ⊢
  have hb1 : b ≤ 1000 := by omega
  clear hb hp
  go_wp2_with fail
  refine (new_any N N (.inr (.inl ⟨by omega, by omega, rfl⟩)) (errs_three HE1.out seven18)).mono ?_
  rintro e x4 ⟨d, rfl, hd, hdisk, hbel⟩
  have HM := hide (log_made (F := 0) (N := N) (base := b) (ep := 1) HE1.out seven18 hdisk hbel (by omega) (by omega) (by omega) (by omega))
  clear hdisk hbel hd
  go_wp2_with fail
  refine (wnew_any d 0 N b 1 x4 (by omega)).mono ?_
  rintro e x5 ⟨rfl, rfl⟩
  obtain ⟨W, hW⟩ : ∃ W, W = x4.alloc (.cells (logCells d 0 N b 1 (.slice none 0 0) 0) 72) := ⟨_, rfl⟩
  rw [← hW] at HM ⊢
  obtain ⟨l, hl'⟩ : ∃ l, l = x4.heap.size := ⟨_, rfl⟩
  rw [← hl'] at HM ⊢
  have HBW := hide (over HB.out HM.out.2 HB.out.size)
  have HL := hide (log_seq HM.out.1 (seqCells lo len cap))
  have HSQ := hide (seq_new5 HR.out (by omega) HBW.out)
  have HB0 := hide (over HBW.out (below_box W (seqCells lo len cap)) HBW.out.size)
  obtain ⟨s, hs⟩ : ∃ s, s = W.heap.size := ⟨_, rfl⟩
  rw [← hs] at HL HSQ
  have HWS : Hid (w.heap.size ≤ s) := by show w.heap.size ≤ s; rw [hs]; exact HBW.out.size
  have HNE := hide (gno_ne HE.out seven18 HWS.out)
  have HK : Hid (∀ k, k < w.heap.size → aheadAnd x3.heap.size s k) := fun k hk => .inl (Nat.lt_of_lt_of_le hk HB.out.size)
  unfold seqCells at HL HSQ HB0
  clear hW hl' HM HBW
  go_upto_region 15 with fail
  obtain ⟨X, hX⟩ : ∃ X, X = W.alloc (.cells #[.slice lo len cap, .int .i64 0] 47) := ⟨_, rfl⟩
  rw [← hX] at HL HSQ HB0 ⊢
  rw [← hs]
  clear hX hs
  go_wp2_with fail
  go_loopw [11] (fun i wr => ∃ (k n1 : Nat) (rs : List R), i = .int .i64 ((k : Int) + 1) ∧ k ≤ 6 * N ∧ n1 ≤ 10 * k ∧ rs.length = k ∧ Log wr (aheadAnd x3.heap.size s) a l d (List.replicate N [fillOf 0]) false (-1) 0 N b 1 rs 0 ∧ SeqAt wr s lo len cap zs n1 ∧ Below w.heap.size w wr) (fun i _ => 6 * N + 1 - (intOf i).toNat)
  case atStart => exact ⟨0, 0, [], rfl, by omega, by omega, rfl, HL.out, HSQ.out, HB0.out⟩
  case round =>
    clear HL HSQ HB0
    obtain ⟨k, n1, rs, rfl, hk, hn1, hrs, hlog, hsq, hbel⟩ := hrel
    have HL := hide hlog
    have HSQ := hide hsq
    have HB1 := hide hbel
    have HN := hide hrs
    clear hlog hsq hbel hrs
    by_cases hlt : k < 6 * N
    · have hki : (k : Int) + 1 ≤ (N : Int) * 6 := by omega
      go_wp2_with fail
      refine (make_from n1 (by omega) s lo len cap zs _ HSQ.out).mono ?_
      rintro e y1 ⟨r, rfl, hg, hf, ⟨n2, hn2, hS2⟩, hB2⟩
      have HGF := hide (And.intro hg hf)
      have HL1 := hide (HL.out.but (.inr rfl) HNE.out hB2)
      have HB2 := hide (HB1.out.trans ((hB2.below (Nat.le_of_lt (lt_of_block HSQ.out.lies))).mono HWS.out))
      have HS2 := hide hS2
      clear hg hf hS2 hB2
      have HBX := hide (below_box y1 (recCells r))
      have HLY := hide (HL1.out.widen HBX.out)
      have HC := hide (cells10_new y1 r)
      have HB3 := hide (over HB2.out HBX.out HB2.out.size)
      have HS3 := hide (HS2.out.step HBX.out)
      have HIN : Hid (wider (aheadAnd x3.heap.size s) y1.heap.size (y1.alloc (recCells r)).heap.size y1.heap.size) := .inr ⟨Nat.le_refl _, by simp⟩
      unfold recCells at HBX HLY HC HB3 HS3 HIN
      unfold R.val
      go_upto_region 19 with fail
      obtain ⟨Y, hY⟩ : ∃ Y, Y = y1.alloc (.cells #[.int .i64 r.kind, .int .i64 r.txn, .int .i64 r.page, .int .i64 r.prev, .int .i64 r.next, .int .i64 r.key, .bool r.had, .bool r.has, .int .i64 r.old, .int .i64 r.new] 31) := ⟨_, rfl⟩
      rw [← hY] at HBX HLY HC HB3 HS3 HIN ⊢
      obtain ⟨V, hV⟩ : ∃ V, V = y1.heap.size := ⟨_, rfl⟩
      rw [← hV] at HLY HC HIN ⊢
      obtain ⟨L, hL⟩ : ∃ L, L = wider (aheadAnd x3.heap.size s) V Y.heap.size := ⟨_, rfl⟩
      rw [← hL] at HLY HIN
      have HLK : Hid (∀ k, aheadAnd x3.heap.size s k → L k) := by rw [hL]; exact fun k hk => .inl hk
      clear hL hV hY HBX HL1 HB2 HS2
      go_wp2_with fail
      refine (wroom_any HLY.out k HN.out).mono ?_
      rintro e y2 ⟨rfl, q2, rfl⟩
      rw [show roomI N k b = (N : Int) * 6 - ((k : Int) + 1) + 1 by rw [room_at k N b hb1 hN12 hk]; omega]
      replace HLY := hide (HLY.out.drewN q2)
      replace HC := hide (HC.out.below (below_drewN (Below.refl _ _) q2) (Nat.le_refl _))
      replace HB3 := hide (below_drewN HB3.out q2)
      replace HS3 := hide (HS3.out.step (below_drewN (Below.refl _ _) q2))
      obtain ⟨k0, k1, k2, k3, k4, k5, k6, k7, k8, k9, kl⟩ := HC.out
      go_wp2_with fail
      clear k0 k1 k2 k3 k4 k5 k6 k7 k8 k9 kl
      refine (wappend_ok HLY.out k HN.out r HGF.out.1 HGF.out.2 (by rw [room_at k N b hb1 hN12 hk]; omega)).mono ?_
      rintro e y3 ⟨rfl, hlog, hkept⟩
      rw [show (b : Int) + (k : Int) + 1 = (b : Int) + ((k : Int) + 1) by omega]
      have HN' : Hid ((rs ++ [r]).length = k + 1) := by show (rs ++ [r]).length = k + 1; rw [List.length_append, HN.out]; rfl
      have HAT : Hid ((rs ++ [r])[k]? = some r) := by
        show (rs ++ [r])[k]? = some r
        rw [List.getElem?_append_right (by rw [HN.out]; exact Nat.le_refl _), HN.out, Nat.sub_self]
        rfl
      replace HLY := hide hlog
      replace HC := hide (HC.out.kept hkept HIN.out)
      replace HB3 := hide (HB3.out.trans (hkept.below fun k hk => HLK.out k (HK.out k hk)))
      replace HS3 := hide (HS3.out.kept HR.out hkept (HLK.out s (.inr rfl)) HB3.out HWS.out)
      clear hlog hkept
      go_wp2_with fail
      refine (wrec_ok HLY.out ((b : Int) + ((k : Int) + 1)) k r HAT.out (by omega)).mono ?_
      rintro e y4 ⟨rfl, hb⟩
      have hbx := over hb (below_box y4 (recCells r)) hb.size
      replace HLY := hide (HLY.out.below hbx)
      replace HC := hide (HC.out.below hbx (Nat.le_refl _))
      replace HB3 := hide (over HB3.out hbx HB3.out.size)
      replace HS3 := hide (HS3.out.step hbx)
      have HC2 := hide (cells10_new y4 r)
      unfold recCells at HLY HC HB3 HS3 HC2
      clear hb hbx
      unfold R.val
      go_upto_region 23 with fail
      obtain ⟨Z, hZ⟩ : ∃ Z, Z = y4.alloc (.cells #[.int .i64 r.kind, .int .i64 r.txn, .int .i64 r.page, .int .i64 r.prev, .int .i64 r.next, .int .i64 r.key, .bool r.had, .bool r.has, .int .i64 r.old, .int .i64 r.new] 31) := ⟨_, rfl⟩
      rw [← hZ] at HLY HC HB3 HS3 HC2 ⊢
      obtain ⟨U, hU⟩ : ∃ U, U = y4.heap.size := ⟨_, rfl⟩
      rw [← hU] at HC2 ⊢
      clear hZ hU
      go_wp2_with fail
      refine (wlast_any HLY.out (k + 1) HN'.out).mono ?_
      rintro e y5 ⟨rfl, q5, rfl⟩
      rw [show (b : Int) + ((k + 1 : Nat) : Int) = (b : Int) + ((k : Int) + 1) by omega]
      replace HLY := hide (HLY.out.drewN q5)
      replace HC := hide (HC.out.below (below_drewN (Below.refl _ _) q5) (Nat.le_refl _))
      replace HC2 := hide (HC2.out.below (below_drewN (Below.refl _ _) q5) (Nat.le_refl _))
      replace HB3 := hide (below_drewN HB3.out q5)
      replace HS3 := hide (HS3.out.step (below_drewN (Below.refl _ _) q5))
      obtain ⟨k0, k1, k2, k3, k4, k5, k6, k7, k8, k9, kl⟩ := HC.out
      obtain ⟨j0, j1, j2, j3, j4, j5, j6, j7, j8, j9, jl⟩ := HC2.out
      go_wp2_with fail
      clear k0 k1 k2 k3 k4 k5 k6 k7 k8 k9 kl j0 j1 j2 j3 j4 j5 j6 j7 j8 j9 jl HC HC2
      refine (sameRec_same r _).mono ?_
      rintro e y6 ⟨rfl, hb⟩
      replace HLY := hide (HLY.out.below hb)
      replace HB3 := hide (over HB3.out hb HB3.out.size)
      replace HS3 := hide (HS3.out.step hb)
      clear hb
      go_wp2_with fail
      refine (wdone_any HLY.out).mono ?_
      rintro e y7 ⟨rfl, q7, rfl⟩
      rw [show (b : Int) + ((0 : Nat) : Int) = (b : Int) by omega]
      go_wp2_with fail
      go_roundw
      case rel => exact ⟨k + 1, n2, rs ++ [r], by go_num, by omega, by omega, HN'.out, (HLY.out.drewN q7).narrow HLK.out (fun i hi => HK.out _ (gno_lt HE.out seven18 i hi)), HS3.out.step (below_drewN (Below.refl _ _) q7), below_drewN HB3.out q7⟩
      case measure => simp [intOf]; omega
    · have hki : decide ((k : Int) + 1 ≤ (N : Int) * 6) = false := by simp; omega
      have hkN : k = 6 * N := by omega
      have hfull : roomI N k b = 0 := by rw [room_at k N b hb1 hN12 hk]; omega
      have HF : Hid (roomI N rs.length b = 0) := by show roomI N rs.length b = 0; rw [HN.out]; exact hfull
      clear hkN
      go_wp2_with fail
      refine (wappend_full HL.out ck ck_good HF.out).mono ?_
      rintro e y1 ⟨rfl, hb⟩
      replace HL := hide (HL.out.below hb)
      replace HB1 := hide (over HB1.out hb HB1.out.size)
      clear hb
      go_wp2_with fail
      refine (wappend_bad HL.out noRec none_bad).mono ?_
      rintro e y2 ⟨rfl, hb⟩
      replace HL := hide (HL.out.below hb)
      replace HB1 := hide (over HB1.out hb HB1.out.size)
      clear hb
      go_wp2_with fail
      refine (wrec_no HL.out b k HN.out (by omega) (.inl (Int.le_refl _))).mono ?_
      rintro e y3 ⟨rfl, hb⟩
      have hbx := over hb (below_box y3 (recCells noRec)) hb.size
      replace HL := hide (HL.out.below hbx)
      replace HB1 := hide (over HB1.out hbx HB1.out.size)
      clear hb hbx
      rw [noRec_val]
      unfold recCells noRec at HL HB1
      go_wp2_with fail
      refine (is_err _ a 8 (by omega) 109 (by omega) (HE.out.step HB1.out)).mono ?_
      rintro e y4 ⟨rfl, hb⟩
      replace HL := hide (HL.out.below hb)
      replace HB1 := hide (over HB1.out hb HB1.out.size)
      clear hb
      go_wp2_with fail
      refine (is_err _ a 1 (by omega) 102 (by omega) (HE.out.step HB1.out)).mono ?_
      rintro e y5 ⟨rfl, hb⟩
      replace HL := hide (HL.out.below hb)
      replace HB1 := hide (over HB1.out hb HB1.out.size)
      clear hb
      go_wp2_with fail
      refine (wroom_any HL.out k HN.out).mono ?_
      rintro e y6 ⟨rfl, q6, rfl⟩
      rw [hfull]
      go_wp2_with fail
      go_ret
      exact ⟨rfl, below_drewN HB1.out _⟩
end Go.Proofs.YtgjhnkadfdcafaaDoor.walNumbers
