
/- What the statement WalEnds asks comes out true, at every two numbers; nothing that was there is written. -/
import Derived.Test.YtgjhnkadfdcafaaDoorJoin29
namespace Go.Proofs.YtgjhnkadfdcafaaDoor.walEnds
open Go.RowKit
set_option linter.unusedVariables false

/-- The record that is appended. -/
def ck : R := ⟨7, 0, 0, 0, 0, 0, false, false, 0, 0⟩
theorem ck_good : goodB ck = true := by decide
theorem ck_fits : ck.fits := by unfold R.fits ck; decide
theorem rep_snoc (i : Nat) : List.replicate i ck ++ [ck] = List.replicate (i + 1) ck := by rw [List.replicate_succ']
theorem room_at (i m : Nat) (hm : m ≤ 8) (hi : i ≤ m) : roomI 4 i (1073741824 - m) = (m : Int) - i := by
  unfold roomI
  rw [if_pos (by omega)]
  omega
set_option maxRecDepth 100000 in
set_option maxHeartbeats 4000000 in
theorem walk (a0 a1 : Int) (w : World) (w0 : (Lit.int .i64 a0).wf = true) (w1 : (Lit.int .i64 a1).wf = true) {a : Nat → Addr} (he : ErrsOf w all18 a) :
    Calls Tryd.prog 7 #[.int .i64 a0, .int .i64 a1] w fun e w' => e = .returned (.bool true) ∧ Below w.heap.size w w' := by
  have HE := hide he
  clear he w0 w1
  go_enter Tryd.func7, Tryd.ntmps7
  go_wp2_with fail
  refine (wfirst_any w HE.out seven18).mono ?_
  rintro e x1 ⟨rfl, hb⟩
  have HB := hide hb
  have HE1 := hide (HE.out.step hb)
  clear hb
  go_wp2_with fail
  refine (number_any _ _ _ (by omega) (by omega)).mono ?_
  rintro e x2 ⟨rfl, rfl⟩
  have hp := numberB_bd a0 9 (by omega)
  obtain ⟨m, hm⟩ : ∃ m : Nat, numberB a0 9 = m := ⟨(numberB a0 9).toNat, by omega⟩
  rw [hm] at hp ⊢
  have hm8 : m ≤ 8 := by omega
  clear hm hp
  go_wp2_with fail
  refine (new_any 4 4 (.inr (.inl ⟨by omega, by omega, rfl⟩)) (errs_three HE1.out seven18)).mono ?_
  rintro e x3 ⟨d, rfl, hd, hdisk, hbel⟩
  have HM := hide (log_made (F := 0) (N := 4) (base := 1073741824 - m) (ep := 1) HE1.out seven18 hdisk hbel (by omega) (by omega) (by omega) (by omega))
  clear hdisk hbel hd
  go_wp2_with fail
  refine (wnew_any d 0 4 (1073741824 - m) 1 x3 (by omega)).mono ?_
  rintro e x4 ⟨rfl, rfl⟩
  obtain ⟨W, hW⟩ : ∃ W, W = x3.alloc (.cells (logCells d 0 4 (1073741824 - m) 1 (.slice none 0 0) 0) 72) := ⟨_, rfl⟩
  rw [← hW] at HM ⊢
  obtain ⟨l, hl⟩ : ∃ l, l = x3.heap.size := ⟨_, rfl⟩
  rw [← hl] at HM ⊢
  have HBW := hide (over HB.out HM.out.2 HB.out.size)
  have HL := hide HM.out.1
  clear hW hl HM
  go_wp2_with fail
  refine (wroom_any HL.out 0 rfl).mono ?_
  rintro e x5 ⟨rfl, q, rfl⟩
  rw [room_at 0 m hm8 (by omega)]
  have hmm : (m : Int) - ((0 : Nat) : Int) = m := by omega
  rw [hmm]
  have HL1 := hide (HL.out.drewN q)
  have HB1 := hide (below_drewN HBW.out q)
  have HK : Hid (∀ k, k < w.heap.size → ahead x2.heap.size k) := fun k hk => Nat.lt_of_lt_of_le hk HB.out.size
  clear HL HBW hmm
  go_wp2_with fail
  go_loopw [8] (fun i wr => ∃ k : Nat, i = .int .i64 k ∧ k ≤ m ∧ Log wr (ahead x2.heap.size) a l d (List.replicate 4 [fillOf 0]) false (-1) 0 4 (1073741824 - m) 1 (List.replicate k ck) 0 ∧ Below w.heap.size w wr) (fun i _ => m - (intOf i).toNat)
  case atStart => exact ⟨0, rfl, by omega, HL1.out, HB1.out⟩
  case round =>
    clear HL1 HB1
    obtain ⟨k, rfl, hk, hlog, hbel⟩ := hrel
    have HL := hide hlog
    have HB1 := hide hbel
    clear hlog hbel
    by_cases hlt : k < m
    · have hki : (k : Int) < (m : Int) := by omega
      go_wp2_with fail
      refine (wappend_ok HL.out k (List.length_replicate ..) ck ck_good ck_fits (by rw [room_at k m hm8 hk]; omega)).mono ?_
      rintro e y1 ⟨rfl, hlog, hkept⟩
      rw [rep_snoc] at hlog
      have HL2 := hide hlog
      have HB2 := hide (HB1.out.trans (hkept.below HK.out))
      clear hlog hkept
      go_wp2_with fail
      go_roundw
      case rel => exact ⟨k + 1, by go_num, by omega, HL2.out, HB2.out⟩
      case measure => simp [intOf]; omega
    · have hki : decide ((k : Int) < (m : Int)) = false := by simp; omega
      have hkm : k = m := by omega
      subst hkm
      go_wp2_with fail
      refine (wappend_full HL.out ck ck_good (by rw [List.length_replicate, room_at k k hm8 hk]; omega)).mono ?_
      rintro e y1 ⟨rfl, hb⟩
      have HL2 := hide (HL.out.below hb)
      have HB2 := hide (HB1.out.trans (hb.mono HB1.out.size))
      clear hb
      go_wp2_with fail
      refine (is_err _ a 8 (by omega) 109 (by omega) (HE.out.step HB2.out)).mono ?_
      rintro e y2 ⟨rfl, hb⟩
      have HL3 := hide (HL2.out.below hb)
      have HB3 := hide (HB2.out.trans (hb.mono HB2.out.size))
      clear hb
      go_wp2_with fail
      refine (wlast_any HL3.out k (List.length_replicate ..)).mono ?_
      rintro e y3 ⟨rfl, q3, rfl⟩
      have e1 : (1073741824 : Int) - (k : Int) + (k : Int) = 1073741824 := by omega
      rw [e1]
      go_wp2_with fail
      refine (wflush_any (HL3.out.drewN q3) (tight_new 4 (fillOf 0) false).2).mono ?_
      rintro e y4 ⟨rfl, hlog, hkept⟩
      have hfr := flush_free 0 1 (List.replicate k ck) 0 (List.replicate 4 [fillOf 0])
      obtain ⟨G, hG⟩ : ∃ G, G = flushW 0 1 (List.replicate k ck) 0 (List.replicate 4 [fillOf 0]) false (-1) := ⟨_, rfl⟩
      rw [← hG] at hlog hfr ⊢
      rw [hfr] at hlog ⊢
      rw [show flD true (List.replicate k ck).length 0 = k by rw [List.length_replicate]; rfl] at hlog
      rw [show flE (a 0) true = .nilIface from rfl]
      have HL4 := hide hlog
      have HB4 := hide ((below_drewN HB3.out q3).trans (hkept.below HK.out))
      clear hlog hkept hfr hG
      go_wp2_with fail
      refine (wdone_any HL4.out).mono ?_
      rintro e y5 ⟨rfl, q5, rfl⟩
      rw [e1]
      go_wp2_with fail
      go_ret
      exact ⟨rfl, below_drewN HB4.out _⟩
end Go.Proofs.YtgjhnkadfdcafaaDoor.walEnds
