
/- What the statement WalFlushes asks comes out true, at every list of numbers and number; nothing that was there is written. -/
import Derived.Test.YtgjhnkadfdcafabDoorJoin32
namespace Go.Proofs.YtgjhnkadfdcafabDoor.walFlushes
open Go.RowKit
set_option linter.unusedVariables false

theorem room_at (k : Nat) (hk : k < 60) : 0 < roomI 11 k 0 := by
  unfold roomI
  rw [if_neg (by omega)]
  omega
/-- Each sector has one version: a crash that keeps nothing leaves it, whatever was written behind it. -/
def one (vss : List (List (List Int))) : Prop := ∀ i, i < vss.length → ∃ v, vss.getD i [] = [v]
theorem one_of {F N : Nat} {ep : Int} {rs : List R} {D : Nat} {vss : List (List (List Int))} (h : Kp F N ep rs D vss false) : one vss := by
  intro i hi
  have h1 := h.has i hi
  have h2 := h.tig.1 rfl i
  match e : vss.getD i [] with
  | [] => rw [e] at h1; simp at h1
  | [v] => exact ⟨v, rfl⟩
  | v :: u :: t => rw [e] at h2; simp at h2
theorem crashedSec_first (vss : List (List (List Int))) (k : Nat) {v : List Int} {t : List (List Int)} (h : verOf vss k = v :: t) : crashedSec [] vss k = [v] := by
  unfold crashedSec
  split
  · rw [h]
    unfold choiceB
    simp
  · rename_i hn
    rw [h] at hn ⊢
    cases t with
    | nil => rfl
    | cons u t => simp at hn
theorem crash_back {vss vss' : List (List (List Int))} (h : one vss) (hl : vss'.length = vss.length) (hv : ∀ i, i < vss.length → ∃ t, vss'.getD i [] = vss.getD i [] ++ t) : crashed [] vss' = vss := by
  apply List.ext_getElem?
  intro i
  by_cases hi : i < vss.length
  · obtain ⟨v, hv1⟩ := h i hi
    obtain ⟨t, ht⟩ := hv i hi
    have h1 : verOf vss' i = v :: t := by unfold verOf; rw [ht, hv1]; rfl
    have h2 : (crashed [] vss').getD i [] = [v] := (verOf_crashed (by omega)).trans (crashedSec_first vss' i h1)
    rw [List.getElem?_eq_getElem (by rw [length_crashed]; omega), List.getElem?_eq_getElem hi]
    rw [List.getD_eq_getElem?_getD, List.getElem?_eq_getElem (by rw [length_crashed]; omega)] at h2
    rw [List.getD_eq_getElem?_getD, List.getElem?_eq_getElem hi] at hv1
    exact congrArg some (h2.trans hv1.symm)
  · rw [List.getElem?_eq_none (by rw [length_crashed]; omega), List.getElem?_eq_none (by omega)]
theorem crash_same {vss : List (List (List Int))} (h : one vss) : crashed [] vss = vss := crash_back h rfl fun i _ => ⟨[], by simp⟩
theorem crash_add {vss : List (List (List Int))} (h : one vss) (j : Nat) (b : List Int) (hj : j < vss.length) : crashed [] (addS vss j b) = vss := crash_back h (length_addS _ _ _) fun i hi => by
  rw [addS_at _ _ _ _ hj]
  split
  · rename_i e; exact ⟨[b], by rw [e]⟩
  · exact ⟨[], by simp⟩
/-- A Flush where the fuse goes at once: one block, and no more. -/
theorem flush_burn {first : Nat} {ep : Int} {rs : List R} {D : Nat} {vss : List (List (List Int))} (h : D < rs.length) : flushW first ep rs D vss false 0 = (addS vss (first + D / 6) (blockB ep (chunk rs (D / 6))), 0, true, false) := by
  have hb := blocks_bd rs.length
  unfold flushW
  rw [if_neg (by omega), if_neg (by decide)]
  have e : wrUp first ep rs (blocksOf rs.length - D / 6) (D / 6) vss 0 = (addS vss (first + D / 6) (blockB ep (chunk rs (D / 6))), 0, false) := by
    rw [show blocksOf rs.length - D / 6 = (blocksOf rs.length - D / 6 - 1) + 1 by omega, wrUp, if_pos rfl]
  rw [e]
  rfl
theorem flush_done {first : Nat} {ep : Int} {rs : List R} {vss : List (List (List Int))} {off : Bool} {f : Int} {D : Nat} (h : D = rs.length) : flushW first ep rs D vss off f = (vss, f, off, true) := by unfold flushW; rw [if_pos h]
theorem take_snoc {ts : List R} {k : Nat} {r : R} (h : ts[k]? = some r) : ts.take k ++ [r] = ts.take (k + 1) := by
  have hk := (List.getElem?_eq_some_iff.1 h).1
  rw [List.take_succ_eq_append_getElem hk, (List.getElem?_eq_some_iff.1 h).2]
/-- The log stays while records are made; what they lie in is named too. -/
theorem trio_made {w0 w w' : World} {K : Nat → Prop} {a : Nat → Addr} {l d s : Nat} {lo : Option Addr} {len cap : Nat} {zs : List Int} {F N : Nat} {base ep : Int} {rs ts : List R} {D : Nat} {ao : Option Addr} {c : Nat} {vss : List (List (List Int))} {off : Bool} {f : Int} {n1 : Nat} (h : Log w K a l d vss off f F N base ep rs D) (hk : Kp F N ep rs D vss off) (hK : K s) (hw : ∀ k, k < w0.heap.size → K k) (he : ∀ i ∈ seven, gno i < w0.heap.size) (hws : w0.heap.size ≤ s) (hb0 : Below w0.heap.size w0 w) (hr : IsRow .i64 w0 lo len cap zs) (hb : But s w w') (hs : SeqAt w' s lo len cap zs n1) (ho : OwnR w' w.heap.size ao c ts) (hsw : s ≤ w.heap.size) : ∃ L, Trio w0 w' L a l d s lo len cap zs n1 F N base ep rs ts D ao c vss off f := by
  refine ⟨wider K w.heap.size w'.heap.size, h.stays hb.size (fun k hk hn => hb.block k hk fun e => hn (e ▸ hK)) ?_ ?_, hk, ⟨ho.mono hb0.size, fun g hg => .inr (ho.1.lt g hg), fun k hk => .inl (hw k hk), hb0.trans ((hb.below hsw).mono hws), he⟩, hs, .inl hK, hr, hws⟩
  · rintro k (h1 | h1)
    · exact ⟨Nat.lt_of_lt_of_le (h.low k h1) hb.size, fun _ => h1⟩
    · exact ⟨h1.2, fun h2 => by omega⟩
  · intro i hi
    refine ⟨.inl (h.errs i hi).1, ?_⟩
    rw [← (h.errs i hi).2]
    exact World.cell?_of_block (w := w) (hb.block _ (h.low _ (h.errs i hi).1) (by have := he i hi; show gno i ≠ s; omega))
set_option maxRecDepth 100000 in
set_option maxHeartbeats 32000000 in
theorem walk (lo : Option Addr) (len cap : Nat) (zs : List Int) (a1 : Int) (w : World) (w0 : IsRow .i64 w lo len cap zs) (w1 : (Lit.int .i64 a1).wf = true) {a : Nat → Addr} (he : ErrsOf w [0, 1, 2, 3, 4, 7, 8] a) :
    Calls Tryd.prog 3 #[.slice lo len cap, .int .i64 a1] w fun e w' => e = .returned (.bool true) ∧ Below w.heap.size w w' := by
  have HE := hide he
  have HR := hide w0
  clear he w0 w1
  go_enter Tryd.func3, Tryd.ntmps3
  go_wp2_with fail
  refine (wfirst_any w HE.out seven7).mono ?_
  rintro e x1 ⟨rfl, hb⟩
  have HB := hide hb
  have HE1 := hide (HE.out.step hb)
  clear hb
  by_cases hl : 200 < len
  · have hli : (200 : Int) < (len : Int) := by omega
    go_wp2_with fail
    go_ret
    exact ⟨rfl, HB.out⟩
  have hli : decide ((200 : Int) < (len : Int)) = false := by simp; omega
  go_wp2_with fail
  refine (new_any 12 12 (.inr (.inl ⟨by omega, by omega, rfl⟩)) (errs_three HE1.out seven7)).mono ?_
  rintro e x4 ⟨d, rfl, hd, hdisk, hbel⟩
  have HM := hide (log_made (F := 1) (N := 11) (base := 0) (ep := 1) HE1.out seven7 hdisk hbel (by omega) (by omega) (by omega) (by omega))
  clear hdisk hbel hd
  go_wp2_with fail
  refine (wnew_any d 1 11 0 1 x4 (by omega)).mono ?_
  rintro e x5 ⟨rfl, rfl⟩
  obtain ⟨W, hW⟩ : ∃ W, W = x4.alloc (.cells (logCells d 1 11 0 1 (.slice none 0 0) 0) 59) := ⟨_, rfl⟩
  rw [← hW] at HM ⊢
  obtain ⟨l, hl'⟩ : ∃ l, l = x4.heap.size := ⟨_, rfl⟩
  rw [← hl'] at HM ⊢
  have HBW := hide (over HB.out HM.out.2 HB.out.size)
  have HL := hide (log_seq HM.out.1 (seqCells lo len cap))
  have HSQ := hide (seq_new5 HR.out (by omega) HBW.out)
  have HB0 := hide (over HBW.out (below_box W (seqCells lo len cap)) HBW.out.size)
  have HSW : Hid (W.heap.size ≤ (W.alloc (seqCells lo len cap)).heap.size) := by show _ ≤ _; simp
  obtain ⟨s, hs⟩ : ∃ s, s = W.heap.size := ⟨_, rfl⟩
  rw [← hs] at HL HSQ HSW
  have HWS : Hid (w.heap.size ≤ s) := by show w.heap.size ≤ s; rw [hs]; exact HBW.out.size
  have HK : Hid (∀ k, k < w.heap.size → aheadAnd x1.heap.size s k) := fun k hk => .inl (Nat.lt_of_lt_of_le hk HB.out.size)
  unfold seqCells at HL HSQ HB0 HSW
  clear hW hl' HM HBW
  go_upto_region 13 with fail
  obtain ⟨X, hX⟩ : ∃ X, X = W.alloc (.cells #[.slice lo len cap, .int .i64 0] 30) := ⟨_, rfl⟩
  rw [← hX] at HL HSQ HB0 HSW ⊢
  rw [← hs]
  clear hX hs
  go_wp2_with fail
  refine (recs_wide 60 (by omega) (by omega) 0 (by omega) s lo len cap zs _ HSQ.out).mono ?_
  rintro e x6 ⟨ao, c, n, ts, rfl, hn, hn60, hown, hgood, ⟨n1, hn1, hsq⟩, hbut⟩
  obtain ⟨K1, ht⟩ := trio_made HL.out (kp_new 1 11 12 (by omega)) (.inr rfl) HK.out (gno_lt HE.out seven7) HWS.out HB0.out HR.out hbut hsq hown HSW.out
  have HT := hide ht
  have HN := hide hn
  have HGD := hide hgood
  have hn60' : n ≤ 60 := by omega
  clear hown hgood hsq hbut hn hn60 ht HL HSQ HB0 HSW
  go_wp2_with fail
  refine (number_any _ _ _ (by omega) (by omega)).mono ?_
  rintro e x7 ⟨rfl, rfl⟩
  have hp := numberB_bd a1 ((n : Int) + 1) (by omega)
  obtain ⟨at_, hat⟩ : ∃ p : Nat, numberB a1 ((n : Int) + 1) = p := ⟨(numberB a1 ((n : Int) + 1)).toNat, by omega⟩
  rw [hat] at hp ⊢
  have hatn : at_ ≤ n := by omega
  clear hat hp
  go_wp2_with fail
  go_loopw [10] (fun i wr => ∃ (k D : Nat) (vss : List (List (List Int))), i = .int .i64 k ∧ k ≤ n ∧ (k ≤ at_ → D = 0) ∧ (at_ < k → D = at_ ∧ Kp 1 11 1 (ts.take at_) at_ vss false) ∧ Trio w wr K1 a l d s lo len cap zs n1 1 11 0 1 (ts.take k) ts D ao c vss false (-1)) (fun i _ => n - (intOf i).toNat)
  case atStart => exact ⟨0, 0, _, rfl, by omega, fun _ => rfl, fun h => by omega, HT.out⟩
  case round =>
    clear HT
    obtain ⟨k, D, vss, rfl, hk, hD0, hDa, ht⟩ := hrel
    have HT := hide ht
    have HD0 := hide hD0
    have HDA := hide hDa
    have HLK : Hid ((ts.take k).length = k) := by show _ = k; rw [List.length_take, HN.out]; omega
    clear ht hD0 hDa
    by_cases hlt : k < n
    · have hki : (k : Int) < (n : Int) := by omega
      obtain ⟨r, hr⟩ : ∃ r, ts[k]? = some r := ⟨ts[k]'(by rw [HN.out]; exact hlt), List.getElem?_eq_getElem _⟩
      have HAT := hide hr
      have HG := hide (HGD.out r (List.mem_of_getElem? hr))
      have HTS := hide (take_snoc hr)
      clear hr
      by_cases hka : k = at_
      · subst hka
        have heq : ((k : Int) == (k : Int)) = true := by simp
        have hDz : D = 0 := HD0.out (Nat.le_refl _)
        subst hDz
        go_wp2_with fail
        refine (wflush_any HT.out.log HT.out.kp.bd2).mono ?_
        rintro e y1 ⟨rfl, hlog, hkept⟩
        have hfr := flush_free 1 1 (ts.take k) 0 vss
        have hkf := HT.out.kp.flush (-1)
        obtain ⟨G, hG⟩ : ∃ G, G = flushW 1 1 (ts.take k) 0 vss false (-1) := ⟨_, rfl⟩
        rw [← hG] at hlog hfr hkf ⊢
        rw [hfr] at hlog hkf ⊢
        rw [show flD true (ts.take k).length 0 = k by rw [HLK.out]; rfl] at hlog hkf
        rw [show flE (a 0) true = .nilIface from rfl]
        have HKF := hide hkf
        replace HT := hide (HT.out.turn hkept hlog hkf)
        clear hlog hkept hfr hG hkf
        obtain ⟨bb, oo, hao, hcs⟩ := HT.out.side.own.row.2 (by rw [HN.out]; omega)
        subst hao
        obtain ⟨j0, j1, j2, j3, j4, j5, j6, j7, j8, j9, jl⟩ := hcs k r HAT.out
        clear hcs jl
        go_wp2_with fail
        clear j0 j1 j2 j3 j4 j5 j6 j7 j8 j9
        refine (wappend_ok HT.out.log k HLK.out r HG.out.1 HG.out.2 (room_at k (by omega))).mono ?_
        rintro e y2 ⟨rfl, hlog, hkept⟩
        have hkp2 := HT.out.kp.append r HG.out (by rw [HLK.out]; omega)
        rw [HTS.out] at hlog hkp2
        replace HT := hide (HT.out.turn hkept hlog hkp2)
        clear hlog hkept hkp2
        go_wp2_with fail
        exact ⟨⟨k + 1, k, _, by go_num, by omega, fun h => by omega, fun _ => ⟨rfl, HKF.out⟩, HT.out⟩, by simp [intOf]; omega⟩
      · have heq : ((k : Int) == (at_ : Int)) = false := by simp; omega
        have heq2 : ¬ k = at_ := hka
        obtain ⟨bb, oo, hao, hcs⟩ := HT.out.side.own.row.2 (by rw [HN.out]; omega)
        subst hao
        obtain ⟨j0, j1, j2, j3, j4, j5, j6, j7, j8, j9, jl⟩ := hcs k r HAT.out
        clear hcs jl
        go_wp2_with fail
        clear j0 j1 j2 j3 j4 j5 j6 j7 j8 j9
        refine (wappend_ok HT.out.log k HLK.out r HG.out.1 HG.out.2 (room_at k (by omega))).mono ?_
        rintro e y2 ⟨rfl, hlog, hkept⟩
        have hkp2 := HT.out.kp.append r HG.out (by rw [HLK.out]; omega)
        rw [HTS.out] at hlog hkp2
        replace HT := hide (HT.out.turn hkept hlog hkp2)
        clear hlog hkept hkp2
        go_wp2_with fail
        exact ⟨⟨k + 1, D, _, by go_num, by omega, fun h => HD0.out (by omega), fun h => HDA.out (by omega), HT.out⟩, by simp [intOf]; omega⟩
    · have hki : decide ((k : Int) < (n : Int)) = false := by simp; omega
      have hkn : k = n := by omega
      subst hkn
      rw [List.take_of_length_le (by rw [HN.out]; exact Nat.le_refl _)] at HT
      by_cases han : at_ = k
      · subst han
        have hDz : D = 0 := HD0.out (Nat.le_refl _)
        subst hDz
        have heq : ((at_ : Int) == (at_ : Int)) = true := by simp
        go_wp2_with fail
        refine (wflush_any HT.out.log HT.out.kp.bd2).mono ?_
        rintro e y1 ⟨rfl, hlog, hkept⟩
        have hfr := flush_free 1 1 ts 0 vss
        have hkf := HT.out.kp.flush (-1)
        obtain ⟨G, hG⟩ : ∃ G, G = flushW 1 1 ts 0 vss false (-1) := ⟨_, rfl⟩
        rw [← hG] at hlog hfr hkf ⊢
        rw [hfr] at hlog hkf ⊢
        rw [show flD true ts.length 0 = at_ by rw [HN.out]; rfl] at hlog hkf
        rw [show flE (a 0) true = .nilIface from rfl]
        replace HT := hide (HT.out.turn hkept hlog hkf)
        have HKP1 : Hid (Kp 1 11 1 (ts.take at_) at_ G.1 false) := by show Kp _ _ _ _ _ _ _; rw [List.take_of_length_le (by rw [HN.out]; exact Nat.le_refl _)]; exact hkf
        obtain ⟨vss1, hv1⟩ : ∃ v, v = G.1 := ⟨_, rfl⟩
        rw [← hv1] at HT HKP1
        clear hlog hkept hfr hG hkf hv1
        go_wp2_with fail
        refine (wfuse_any HT.out.log 0 (by omega)).mono ?_
        rintro e y2 ⟨rfl, hlog, hkept⟩
        replace HT := hide (HT.out.turn hkept hlog HT.out.kp)
        clear hlog hkept
        go_wp2_with fail
        refine (wflush_any HT.out.log HT.out.kp.bd2).mono ?_
        rintro e y3 ⟨rfl, hlog, hkept⟩
        rw [flush_done HN.out.symm] at hlog ⊢
        have hlog2 : Log y3 K1 a l d vss1 false (max 0 (-1)) 1 11 0 1 ts at_ := by rw [show flD true ts.length at_ = at_ by rw [HN.out]; rfl] at hlog; exact hlog
        rw [show flE (a 0) true = .nilIface from rfl]
        replace HT := hide (HT.out.turn hkept hlog2 HT.out.kp)
        have HCR := hide (crash_same (one_of HKP1.out))
        have HC1 := hide (crash_same (one_of HKP1.out))
        have heq3 : decide (at_ = at_) = true := by simp
        clear hlog hkept hlog2
        go_wp2_with fail
        have HV1 := hide (HKP1.out)
        refine (crash_none d HT.out.log.disk).mono ?_
        rintro e u1 ⟨rfl, hdisk, hkept⟩
        rw [HCR.out] at hdisk
        have HD3 := hide hdisk
        have HE3 := hide (HT.out.log.errs.kept hkept)
        have HK1 := hide hkept
        obtain ⟨m, hm1, hm2, hop, hkp⟩ := HKP1.out.crash [] 2 (by omega) (by omega)
        rw [HC1.out] at hop hkp
        have hmat : m = at_ := by rw [List.length_take] at hm2; omega
        have HTK : Hid ((ts.take at_).take m = ts.take at_) := by show _ = _; rw [hmat, List.take_take, Nat.min_self]
        rw [HTK.out] at hop hkp
        rw [hmat] at hkp
        have HOP := hide hop
        have HKP2 := hide hkp
        have HLM : Hid ((ts.take at_).length = at_) := by show _ = at_; rw [List.length_take, HN.out]; omega
        clear hdisk hkept hop hkp hm1 hm2 hmat HTK
        go_wp2_with fail
        refine (wopen_any (F := 1) (N := 11) (base := 0) (ep := 2) HD3.out HE3.out 1 (by omega) (by omega) (by have := HKP2.out.len; omega) (by omega)).mono ?_
        rintro e u2 ⟨v, rfl, hpost, hkept⟩
        rw [HOP.out] at hpost
        rcases hpost with ⟨_, l2, rfl, hlog⟩ | ⟨h0, _⟩
        · rw [HLM.out] at hlog
          have HT2 := hide (HT.out.turn (HK1.out.trans hkept) hlog HKP2.out)
          clear hlog hkept HT HD3 HE3 HK1 HOP HKP2 HCR HC1 HV1
          go_wp2_with fail
          refine (wlast_any HT2.out.log at_ HLM.out).mono ?_
          rintro e u3 ⟨rfl, q3, rfl⟩
          rw [Int.zero_add]
          go_wp2_with fail
          go_loopw [16] (fun i wr => ∃ (pn : Nat), i = .int .i64 pn ∧ 1 ≤ pn ∧ pn ≤ at_ + 1 ∧ Trio w wr K1 a l2 d s lo len cap zs n1 1 11 0 2 (ts.take at_) ts at_ ao c vss1 false (-1)) (fun i _ => at_ + 1 - (intOf i).toNat)
          case atStart => exact ⟨1, rfl, by omega, by omega, HT2.out.drewN _⟩
          case round =>
            clear HT2
            obtain ⟨pn, rfl, hpn, hpnm, ht⟩ := hrel
            obtain ⟨t5, ht5⟩ : ∃ t5, pn = t5 + 1 := ⟨pn - 1, by omega⟩
            have HT := hide ht
            have HPN := hide ht5
            by_cases ht5m : t5 < at_
            · have hti5 : (pn : Int) ≤ (at_ : Int) := by omega
              clear ht ht5
              obtain ⟨r, hr⟩ : ∃ r, ts[t5]? = some r := ⟨ts[t5]'(by rw [HN.out]; omega), List.getElem?_eq_getElem _⟩
              have HAT : Hid ((ts.take at_)[t5]? = some r) := by show _ = some r; rw [List.getElem?_take, if_pos ht5m]; exact hr
              have HAS := hide hr
              clear hr
              go_wp2_with fail
              refine (wrec_ok HT.out.log (pn : Int) t5 r HAT.out (by have := HPN.out; omega)).mono ?_
              rintro e z2 ⟨rfl, hb⟩
              have hbx := over hb (below_box z2 (recCells r)) hb.size
              replace HT := hide (HT.out.below hbx)
              have hc1 := cells10_new z2 r
              clear hb hbx
              obtain ⟨bb, oo, hao, hcs⟩ := HT.out.side.own.row.2 (by rw [HN.out]; omega)
              subst hao
              have hc2 := hcs t5 r HAS.out
              clear hcs
              unfold recCells at HT hc1 hc2
              unfold R.val
              go_upto_region 35 with fail
              obtain ⟨Z5, hZ⟩ : ∃ Z5, Z5 = z2.alloc (.cells #[.int .i64 r.kind, .int .i64 r.txn, .int .i64 r.page, .int .i64 r.prev, .int .i64 r.next, .int .i64 r.key, .bool r.had, .bool r.has, .int .i64 r.old, .int .i64 r.new] 40) := ⟨_, rfl⟩
              rw [← hZ] at HT hc1 hc2 ⊢
              obtain ⟨U, hU⟩ : ∃ U, U = z2.heap.size := ⟨_, rfl⟩
              rw [← hU] at hc1 ⊢
              clear hZ hU
              have HC1 := hide hc1
              have HC2 := hide hc2
              obtain ⟨k0, k1, k2, k3, k4, k5, k6, k7, k8, k9, kl⟩ := hc1
              obtain ⟨j0, j1, j2, j3, j4, j5, j6, j7, j8, j9, jl⟩ := hc2
              clear kl jl
              have e51 : (pn : Int) - 1 = (t5 : Int) := by have := HPN.out; omega
              have e53 : IntKind.i64.wrap (t5 : Int) = (t5 : Int) := by rw [IntKind.wrap_i64]; omega
              have e54 : (t5 : Int) < (at_ : Int) := by omega
              go_region_held3 (fun w' => w'.cell? ⟨U, 0, none⟩ = some (.int .i64 r.kind) ∧ w'.cell? ⟨U, 1, none⟩ = some (.int .i64 r.txn) ∧ w'.cell? ⟨U, 2, none⟩ = some (.int .i64 r.page) ∧ w'.cell? ⟨U, 3, none⟩ = some (.int .i64 r.prev) ∧ w'.cell? ⟨U, 4, none⟩ = some (.int .i64 r.next) ∧ w'.cell? ⟨U, 5, none⟩ = some (.int .i64 r.key) ∧ w'.cell? ⟨U, 6, none⟩ = some (.bool r.had) ∧ w'.cell? ⟨U, 7, none⟩ = some (.bool r.has) ∧ w'.cell? ⟨U, 8, none⟩ = some (.int .i64 r.old) ∧ w'.cell? ⟨U, 9, none⟩ = some (.int .i64 r.new) ∧ w'.cell? ⟨bb, oo + t5 * 10, none⟩ = some (.int .i64 r.kind) ∧ w'.cell? ⟨bb, oo + t5 * 10 + 1, none⟩ = some (.int .i64 r.txn) ∧ w'.cell? ⟨bb, oo + t5 * 10 + 2, none⟩ = some (.int .i64 r.page) ∧ w'.cell? ⟨bb, oo + t5 * 10 + 3, none⟩ = some (.int .i64 r.prev) ∧ w'.cell? ⟨bb, oo + t5 * 10 + 4, none⟩ = some (.int .i64 r.next) ∧ w'.cell? ⟨bb, oo + t5 * 10 + 5, none⟩ = some (.int .i64 r.key) ∧ w'.cell? ⟨bb, oo + t5 * 10 + 6, none⟩ = some (.bool r.had) ∧ w'.cell? ⟨bb, oo + t5 * 10 + 7, none⟩ = some (.bool r.has) ∧ w'.cell? ⟨bb, oo + t5 * 10 + 8, none⟩ = some (.int .i64 r.old) ∧ w'.cell? ⟨bb, oo + t5 * 10 + 9, none⟩ = some (.int .i64 r.new)) (first | go_keep | (refine ⟨?_, ?_, ?_, ?_, ?_, ?_, ?_, ?_, ?_, ?_, ?_, ?_, ?_, ?_, ?_, ?_, ?_, ?_, ?_, ?_⟩ <;> assumption))
                (first | (go_at_call 16; refine (sameRec_same r _).mono ?_; rintro e z3 ⟨rfl, hb2⟩; have hb2 := of_drew hb2; have C2 := HC1.out.below hb2 (Nat.le_refl _); have D2 := HC2.out.of_block (hb2.block bb HC2.out.lt) hb2.size; obtain ⟨g0, g1, g2, g3, g4, g5, g6, g7, g8, g9, gl⟩ := C2; obtain ⟨q0, q1, q2, q3, q4, q5, q6, q7, q8, q9, ql⟩ := D2; have HB2 := hide hb2; clear hb2 gl ql))
              clear e51 e53 e54
              go_wp2_with fail
              go_roundw
              case rel => exact ⟨pn + 1, by go_num, by omega, by omega, HT.out.below HB2.out⟩
              case measure => simp [intOf]; omega
            · have hti5 : decide ((pn : Int) ≤ (at_ : Int)) = false := by simp; omega
              have hti6 : decide (pn ≤ at_) = false := by simp; omega
              have hti7 : ¬ pn ≤ at_ := by omega
              clear ht ht5
              go_wp2_with fail
              go_ret
              exact ⟨rfl, HT.out.side.bel⟩
        · exact absurd (show (0 : Int) ≤ -1 from h0) (by decide)
      · have heq : ((at_ : Int) == (k : Int)) = false := by simp; omega
        have heq2 : ¬ at_ = k := han
        obtain ⟨rfl, hkp1⟩ := HDA.out (by omega)
        have HKP1 := hide hkp1
        obtain ⟨vss1, hv1⟩ : ∃ v, v = vss := ⟨_, rfl⟩
        subst hv1
        clear hkp1 HD0 HDA
        go_wp2_with fail
        refine (wfuse_any HT.out.log 0 (by omega)).mono ?_
        rintro e y2 ⟨rfl, hlog, hkept⟩
        replace HT := hide (HT.out.turn hkept hlog HT.out.kp)
        clear hlog hkept
        go_wp2_with fail
        refine (wflush_any HT.out.log HT.out.kp.bd2).mono ?_
        rintro e y3 ⟨rfl, hlog, hkept⟩
        have hkf := HT.out.kp.flush (max 0 (-1))
        rw [show max (0 : Int) (-1) = 0 from rfl, flush_burn (by rw [HN.out]; omega)] at hlog hkf
        rw [show max (0 : Int) (-1) = 0 from rfl, flush_burn (by rw [HN.out]; omega)]
        rw [show flE (a 0) false = errV (a 0) from rfl]
        replace HT := hide (HT.out.turn hkept hlog hkf)
        have HCR := hide (crash_add (one_of HKP1.out) (1 + D / 6) (blockB 1 (chunk ts (D / 6))) (by have := HKP1.out.len; omega))
        have HC1 := hide (crash_same (one_of HKP1.out))
        unfold errV
        clear hlog hkept hkf
        go_wp2_with fail
        have HV1 := hide (HKP1.out)
        refine (crash_none d HT.out.log.disk).mono ?_
        rintro e u1 ⟨rfl, hdisk, hkept⟩
        rw [HCR.out] at hdisk
        have HD3 := hide hdisk
        have HE3 := hide (HT.out.log.errs.kept hkept)
        have HK1 := hide hkept
        obtain ⟨m, hm1, hm2, hop, hkp⟩ := HKP1.out.crash [] 2 (by omega) (by omega)
        rw [HC1.out] at hop hkp
        have hmat : m = D := by rw [List.length_take] at hm2; omega
        have HTK : Hid ((ts.take D).take m = ts.take D) := by show _ = _; rw [hmat, List.take_take, Nat.min_self]
        rw [HTK.out] at hop hkp
        rw [hmat] at hkp
        have HOP := hide hop
        have HKP2 := hide hkp
        have HLM : Hid ((ts.take D).length = D) := by show _ = D; rw [List.length_take, HN.out]; omega
        clear hdisk hkept hop hkp hm1 hm2 hmat HTK
        go_wp2_with fail
        refine (wopen_any (F := 1) (N := 11) (base := 0) (ep := 2) HD3.out HE3.out 1 (by omega) (by omega) (by have := HKP2.out.len; omega) (by omega)).mono ?_
        rintro e u2 ⟨v, rfl, hpost, hkept⟩
        rw [HOP.out] at hpost
        rcases hpost with ⟨_, l2, rfl, hlog⟩ | ⟨h0, _⟩
        · rw [HLM.out] at hlog
          have HT2 := hide (HT.out.turn (HK1.out.trans hkept) hlog HKP2.out)
          clear hlog hkept HT HD3 HE3 HK1 HOP HKP2 HCR HC1 HV1
          go_wp2_with fail
          refine (wlast_any HT2.out.log D HLM.out).mono ?_
          rintro e u3 ⟨rfl, q3, rfl⟩
          rw [Int.zero_add]
          go_wp2_with fail
          go_loopw [16] (fun i wr => ∃ (pn : Nat), i = .int .i64 pn ∧ 1 ≤ pn ∧ pn ≤ D + 1 ∧ Trio w wr K1 a l2 d s lo len cap zs n1 1 11 0 2 (ts.take D) ts D ao c vss1 false (-1)) (fun i _ => D + 1 - (intOf i).toNat)
          case atStart => exact ⟨1, rfl, by omega, by omega, HT2.out.drewN _⟩
          case round =>
            clear HT2
            obtain ⟨pn, rfl, hpn, hpnm, ht⟩ := hrel
            obtain ⟨t5, ht5⟩ : ∃ t5, pn = t5 + 1 := ⟨pn - 1, by omega⟩
            have HT := hide ht
            have HPN := hide ht5
            by_cases ht5m : t5 < D
            · have hti5 : (pn : Int) ≤ (D : Int) := by omega
              clear ht ht5
              obtain ⟨r, hr⟩ : ∃ r, ts[t5]? = some r := ⟨ts[t5]'(by rw [HN.out]; omega), List.getElem?_eq_getElem _⟩
              have HAT : Hid ((ts.take D)[t5]? = some r) := by show _ = some r; rw [List.getElem?_take, if_pos ht5m]; exact hr
              have HAS := hide hr
              clear hr
              go_wp2_with fail
              refine (wrec_ok HT.out.log (pn : Int) t5 r HAT.out (by have := HPN.out; omega)).mono ?_
              rintro e z2 ⟨rfl, hb⟩
              have hbx := over hb (below_box z2 (recCells r)) hb.size
              replace HT := hide (HT.out.below hbx)
              have hc1 := cells10_new z2 r
              clear hb hbx
              obtain ⟨bb, oo, hao, hcs⟩ := HT.out.side.own.row.2 (by rw [HN.out]; omega)
              subst hao
              have hc2 := hcs t5 r HAS.out
              clear hcs
              unfold recCells at HT hc1 hc2
              unfold R.val
              go_upto_region 35 with fail
              obtain ⟨Z5, hZ⟩ : ∃ Z5, Z5 = z2.alloc (.cells #[.int .i64 r.kind, .int .i64 r.txn, .int .i64 r.page, .int .i64 r.prev, .int .i64 r.next, .int .i64 r.key, .bool r.had, .bool r.has, .int .i64 r.old, .int .i64 r.new] 40) := ⟨_, rfl⟩
              rw [← hZ] at HT hc1 hc2 ⊢
              obtain ⟨U, hU⟩ : ∃ U, U = z2.heap.size := ⟨_, rfl⟩
              rw [← hU] at hc1 ⊢
              clear hZ hU
              have HC1 := hide hc1
              have HC2 := hide hc2
              obtain ⟨k0, k1, k2, k3, k4, k5, k6, k7, k8, k9, kl⟩ := hc1
              obtain ⟨j0, j1, j2, j3, j4, j5, j6, j7, j8, j9, jl⟩ := hc2
              clear kl jl
              have e51 : (pn : Int) - 1 = (t5 : Int) := by have := HPN.out; omega
              have e53 : IntKind.i64.wrap (t5 : Int) = (t5 : Int) := by rw [IntKind.wrap_i64]; omega
              have e54 : (t5 : Int) < (k : Int) := by omega
              go_region_held3 (fun w' => w'.cell? ⟨U, 0, none⟩ = some (.int .i64 r.kind) ∧ w'.cell? ⟨U, 1, none⟩ = some (.int .i64 r.txn) ∧ w'.cell? ⟨U, 2, none⟩ = some (.int .i64 r.page) ∧ w'.cell? ⟨U, 3, none⟩ = some (.int .i64 r.prev) ∧ w'.cell? ⟨U, 4, none⟩ = some (.int .i64 r.next) ∧ w'.cell? ⟨U, 5, none⟩ = some (.int .i64 r.key) ∧ w'.cell? ⟨U, 6, none⟩ = some (.bool r.had) ∧ w'.cell? ⟨U, 7, none⟩ = some (.bool r.has) ∧ w'.cell? ⟨U, 8, none⟩ = some (.int .i64 r.old) ∧ w'.cell? ⟨U, 9, none⟩ = some (.int .i64 r.new) ∧ w'.cell? ⟨bb, oo + t5 * 10, none⟩ = some (.int .i64 r.kind) ∧ w'.cell? ⟨bb, oo + t5 * 10 + 1, none⟩ = some (.int .i64 r.txn) ∧ w'.cell? ⟨bb, oo + t5 * 10 + 2, none⟩ = some (.int .i64 r.page) ∧ w'.cell? ⟨bb, oo + t5 * 10 + 3, none⟩ = some (.int .i64 r.prev) ∧ w'.cell? ⟨bb, oo + t5 * 10 + 4, none⟩ = some (.int .i64 r.next) ∧ w'.cell? ⟨bb, oo + t5 * 10 + 5, none⟩ = some (.int .i64 r.key) ∧ w'.cell? ⟨bb, oo + t5 * 10 + 6, none⟩ = some (.bool r.had) ∧ w'.cell? ⟨bb, oo + t5 * 10 + 7, none⟩ = some (.bool r.has) ∧ w'.cell? ⟨bb, oo + t5 * 10 + 8, none⟩ = some (.int .i64 r.old) ∧ w'.cell? ⟨bb, oo + t5 * 10 + 9, none⟩ = some (.int .i64 r.new)) (first | go_keep | (refine ⟨?_, ?_, ?_, ?_, ?_, ?_, ?_, ?_, ?_, ?_, ?_, ?_, ?_, ?_, ?_, ?_, ?_, ?_, ?_, ?_⟩ <;> assumption))
                (first | (go_at_call 16; refine (sameRec_same r _).mono ?_; rintro e z3 ⟨rfl, hb2⟩; have hb2 := of_drew hb2; have C2 := HC1.out.below hb2 (Nat.le_refl _); have D2 := HC2.out.of_block (hb2.block bb HC2.out.lt) hb2.size; obtain ⟨g0, g1, g2, g3, g4, g5, g6, g7, g8, g9, gl⟩ := C2; obtain ⟨q0, q1, q2, q3, q4, q5, q6, q7, q8, q9, ql⟩ := D2; have HB2 := hide hb2; clear hb2 gl ql))
              clear e51 e53 e54
              go_wp2_with fail
              go_roundw
              case rel => exact ⟨pn + 1, by go_num, by omega, by omega, HT.out.below HB2.out⟩
              case measure => simp [intOf]; omega
            · have hti5 : decide ((pn : Int) ≤ (D : Int)) = false := by simp; omega
              have hti6 : decide (pn ≤ D) = false := by simp; omega
              have hti7 : ¬ pn ≤ D := by omega
              clear ht ht5
              go_wp2_with fail
              go_ret
              exact ⟨rfl, HT.out.side.bel⟩
        · exact absurd (show (0 : Int) ≤ -1 from h0) (by decide)
end Go.Proofs.YtgjhnkadfdcafabDoor.walFlushes
