
/- What the statement PageOwn asks comes out true, at every list of numbers, key and value; nothing that was there is written. -/
import Derived.Test.YtefgmlmhdjckaaaDoorJoin27
import Derived.Test.YtefgmlmhdjckaaaDoorJoin23
import Derived.Test.YtefgmlmhdjckaaaDoorJoin28
import Derived.Test.YtefgmlmhdjckaaaDoorJoin21
namespace Go.Proofs.YtefgmlmhdjckaaaDoor.pageOwn
open Go.RowKit
set_option linter.unusedVariables false

set_option maxRecDepth 100000 in
set_option maxHeartbeats 16000000 in
theorem walk (lo : Option Addr) (len cap : Nat) (zs : List Int) (a1 a2 : Int) (w : World) (w0 : IsRow .i64 w lo len cap zs) (w1 : (Lit.int .i64 a1).wf = true) (w2 : (Lit.int .i64 a2).wf = true) {a : Nat → Addr} (he : ErrsOf w [1, 2, 6] a) :
    Calls Tryd.prog 6 #[.slice lo len cap, .int .i64 a1, .int .i64 a2] w fun e w' => e = .returned (.bool true) ∧ Below w.heap.size w w' := by
  have HE : Hid (∀ x, Below w.heap.size w x → x.cell? ⟨0, 0, none⟩ = some (errV (a 1))) := fun x hb => (he.step hb).var 1 (by decide) rfl
  have HROW := hide w0
  clear he w0 w1 w2
  go_enter Tryd.func6, Tryd.ntmps6
  go_wp2_with fail
  refine (pfirst_any _ (HE.out _ (Below.refl _ _))).mono ?_
  rintro e x1 ⟨rfl, hb⟩
  have HB := hide hb
  clear hb
  by_cases hlen : len ≤ 100
  case neg =>
    have hl1 : (100 : Int) < (len : Int) := by omega
    go_wp2_with fail
    go_ret
    exact ⟨rfl, HB.out⟩
  have hl1 : decide ((100 : Int) < (len : Int)) = false := by simp; omega
  go_wp2_with fail
  refine (mpage_new HROW.out (by omega) HB.out 18 (by omega) (by omega)).mono ?_
  rintro e x2 ⟨lsn, es, ao, n, c, rfl, hn, hmade, hown, hb⟩
  have HN := hide hn
  have HM := hide hmade
  have HR := hide hown.row
  replace HB := hide (over HB.out hb HB.out.size)
  clear hn hmade hown hb HROW
  unfold pageV
  have hbx := below_box x2 (pageBlock lsn ao n c)
  have HP := hide (pblk_new x2 lsn ao n c)
  replace HB := hide (over HB.out hbx HB.out.size)
  replace HR := hide (HR.out.step hbx)
  unfold pageBlock at HB HR HP
  clear hbx
  go_upto_region 7 with fail
  obtain ⟨P, hP⟩ : ∃ P, P = x2.heap.size := ⟨_, rfl⟩
  rw [← hP] at HP ⊢
  obtain ⟨Y1, hY1⟩ : ∃ Y1, Y1 = x2.alloc (.cells #[.int .i64 lsn, .slice ao n c] 24) := ⟨_, rfl⟩
  rw [← hY1] at HB HR HP ⊢
  clear hY1
  clear hP
  have k0 := HP.out.c0
  have k1 := HP.out.c1
  go_wp2_with fail
  clear k0 k1
  refine (copyPage_any lsn ao n c es _ HR.out HN.out).mono ?_
  rintro e x3 ⟨a3, c3, rfl, hown, hb⟩
  have HR3 := hide hown.row
  clear hown
  replace HB := hide (over HB.out hb HB.out.size)
  replace HR := hide (HR.out.step hb)
  replace HP := hide (HP.out.step hb)
  clear hb
  unfold pageV
  have hbx := below_box x3 (pageBlock lsn a3 n c3)
  have HQ := hide (pblk_new x3 lsn a3 n c3)
  replace HB := hide (over HB.out hbx HB.out.size)
  replace HR := hide (HR.out.step hbx)
  replace HP := hide (HP.out.step hbx)
  replace HR3 := hide (HR3.out.step hbx)
  unfold pageBlock at HB HR HP HR3 HQ
  clear hbx
  go_upto_region 8 with fail
  obtain ⟨Q, hQ⟩ : ∃ Q, Q = x3.heap.size := ⟨_, rfl⟩
  rw [← hQ] at HQ ⊢
  obtain ⟨Y2, hY2⟩ : ∃ Y2, Y2 = x3.alloc (.cells #[.int .i64 lsn, .slice a3 n c3] 24) := ⟨_, rfl⟩
  rw [← hY2] at HB HR HP HR3 HQ ⊢
  clear hY2
  clear hQ
  go_wp2_with fail
  refine (number_any _ _ _ (by omega) (by omega)).mono ?_
  rintro e x4 ⟨rfl, rfl⟩
  obtain ⟨key, hkey⟩ : ∃ key, key = numberB a1 60 := ⟨_, rfl⟩
  rw [← hkey]
  clear hkey
  -- the base world of all that is made out of the page
  obtain ⟨Z, hZ⟩ : ∃ Z, Z = x4 := ⟨_, rfl⟩
  have HPZ : Hid (PBlk Z P lsn ao n c) := by show PBlk Z P lsn ao n c; rw [hZ]; exact HP.out
  have HQZ : Hid (PBlk Z Q lsn a3 n c3) := by show PBlk Z Q lsn a3 n c3; rw [hZ]; exact HQ.out
  have HRZ : Hid (EntRow Z ao es) := by show EntRow Z ao es; rw [hZ]; exact HR.out
  have HRZ3 : Hid (EntRow Z a3 es) := by show EntRow Z a3 es; rw [hZ]; exact HR3.out
  have HBZ : Hid (Below w.heap.size w Z) := by show Below w.heap.size w Z; rw [hZ]; exact HB.out
  have HB : Hid (Below Z.heap.size Z x4) := by show Below Z.heap.size Z x4; rw [hZ]; exact Below.refl _ _
  clear hZ HR3 HQ
  have k0 := HP.out.c0
  have k1 := HP.out.c1
  go_wp2_with fail
  clear k0 k1
  refine (pput_any lsn ao n c es key a2 _ HR.out HM.out.up HN.out).mono ?_
  rintro e x5 hpp
  unfold PutPost at hpp
  obtain ⟨aA, nA, cA, rfl, hmA, hoA, hb⟩ := hpp
  unfold pageV
  obtain ⟨lA, hlA⟩ : ∃ lA, lA = putL lsn es key := ⟨_, rfl⟩
  obtain ⟨eA, heA⟩ : ∃ eA, eA = putE es key a2 := ⟨_, rfl⟩
  obtain ⟨bA, hbA⟩ : ∃ bA, bA = canPut es key := ⟨_, rfl⟩
  rw [← heA] at hmA hoA
  rw [← hlA, ← hbA]
  have HOA := hide (hoA.mono HB.out.size)
  have HNA := hide hmA
  clear hlA heA hbA hmA hoA
  replace HB := hide (over HB.out hb HB.out.size)
  replace HP := hide (HP.out.step hb)
  replace HR := hide (HR.out.step hb)
  clear hb
  have hbx := below_box x5 (pageBlock lA aA nA cA)
  have HA := hide (pblk_new x5 lA aA nA cA)
  replace HB := hide (over HB.out hbx HB.out.size)
  replace HP := hide (HP.out.step hbx)
  replace HR := hide (HR.out.step hbx)
  replace HOA := hide (HOA.out.step hbx)
  unfold pageBlock at HB HP HR HOA HA
  clear hbx
  go_upto_region 10 with fail
  obtain ⟨A, hA⟩ : ∃ A, A = x5.heap.size := ⟨_, rfl⟩
  rw [← hA] at HA ⊢
  obtain ⟨Y3, hY3⟩ : ∃ Y3, Y3 = x5.alloc (.cells #[.int .i64 lA, .slice aA nA cA] 24) := ⟨_, rfl⟩
  rw [← hY3] at HB HP HR HOA HA ⊢
  clear hY3
  clear hA
  have k0 := HP.out.c0
  have k1 := HP.out.c1
  go_wp2_with fail
  clear k0 k1
  obtain ⟨sA, hsA⟩ : ∃ sA, sA = Y3.heap.size := ⟨_, rfl⟩
  have HGA : Hid (0 < nA → ∀ g, aA = some ⟨g, 0, none⟩ → g < sA) := by
    intro hp g hg
    obtain ⟨g', h2, _, h3⟩ := HOA.out.shape (by rw [HNA.out]; exact hp)
    rw [hg] at h2
    simp only [Option.some.injEq, Addr.mk.injEq, and_true] at h2
    omega
  have HSA : Hid (sA ≤ Y3.heap.size) := by show sA ≤ _; omega
  have HSZ : Hid (Z.heap.size ≤ sA) := by show Z.heap.size ≤ sA; rw [hsA]; exact HB.out.size
  refine (rem_any lsn ao n c es key _ HR.out HN.out).mono ?_
  rintro e x6 ⟨aB, nB, cB, rfl, hmB, hoB, hb⟩
  unfold pageV
  obtain ⟨eB, heB⟩ : ∃ eB, eB = remE key es := ⟨_, rfl⟩
  obtain ⟨bB, hbB⟩ : ∃ bB, bB = hasE es key := ⟨_, rfl⟩
  rw [← heB] at hmB hoB
  rw [← hsA] at hoB
  rw [← hbB]
  have HOB := hide hoB
  have HNB := hide hmB
  clear heB hbB hmB hoB hsA
  replace HB := hide (over HB.out hb HB.out.size)
  replace HP := hide (HP.out.step hb)
  replace HR := hide (HR.out.step hb)
  replace HOA := hide (HOA.out.step hb)
  replace HA := hide (HA.out.step hb)
  replace HSA := hide (Nat.le_trans HSA.out hb.size)
  clear hb
  have hbx := below_box x6 (pageBlock lsn aB nB cB)
  have HB_ := hide (pblk_new x6 lsn aB nB cB)
  replace HB := hide (over HB.out hbx HB.out.size)
  replace HP := hide (HP.out.step hbx)
  replace HR := hide (HR.out.step hbx)
  replace HOA := hide (HOA.out.step hbx)
  replace HA := hide (HA.out.step hbx)
  replace HSA := hide (Nat.le_trans HSA.out hbx.size)
  replace HOB := hide (HOB.out.step hbx)
  unfold pageBlock at HB HP HR HOA HA HSA HOB HB_
  clear hbx
  go_upto_region 11 with fail
  obtain ⟨B_, hB_⟩ : ∃ B_, B_ = x6.heap.size := ⟨_, rfl⟩
  rw [← hB_] at HB_ ⊢
  obtain ⟨Y4, hY4⟩ : ∃ Y4, Y4 = x6.alloc (.cells #[.int .i64 lsn, .slice aB nB cB] 24) := ⟨_, rfl⟩
  rw [← hY4] at HB HP HR HOA HA HSA HOB HB_ ⊢
  clear hY4
  clear hB_
  have k0 := HP.out.c0
  have k1 := HP.out.c1
  go_wp2_with fail
  clear k0 k1
  refine (rpb_ok lsn ao n c es _ HR.out HN.out HM.out.ok).mono ?_
  rintro e x7 ⟨gx, rfl, hgx, hox, hb⟩
  have HX := hide hox.row
  clear hgx hox
  replace HB := hide (over HB.out hb HB.out.size)
  replace HP := hide (HP.out.step hb)
  replace HR := hide (HR.out.step hb)
  replace HOA := hide (HOA.out.step hb)
  replace HA := hide (HA.out.step hb)
  replace HSA := hide (Nat.le_trans HSA.out hb.size)
  replace HOB := hide (HOB.out.step hb)
  replace HB_ := hide (HB_.out.step hb)
  clear hb
  have HER := hide (HE.out x7 (over HBZ.out (HB.out.mono (Nat.le_refl _)) HBZ.out.size))
  go_wp2_with fail
  have hback := page_back HM.out.ok HM.out.fits
  have hkeys : keysOf (pageB lsn es) = n := by
    have h1 : (entsOf (pageB lsn es)).length = keysOf (pageB lsn es) := length_entsUp _ _
    rw [hback.2.1, HN.out] at h1
    exact h1.symm
  refine (pread_ok _ 256 (pageB lsn es) _ HX.out HER.out (length_pageB _ _) hback.2.2).mono ?_
  rintro e x8 ⟨aC, cC, rfl, hoC, hb⟩
  rw [hback.1, hkeys]
  rw [hback.2.1] at hoC
  unfold pageV
  obtain ⟨sB, hsB⟩ : ∃ sB, sB = x7.heap.size := ⟨_, rfl⟩
  rw [← hsB] at hoC
  have HOC := hide hoC
  have HSAB : Hid (sA ≤ sB) := by show sA ≤ sB; rw [hsB]; exact HSA.out
  have HGB : Hid (0 < nB → ∀ g, aB = some ⟨g, 0, none⟩ → g < sB) := by
    intro hp g hg
    obtain ⟨g', h2, _, h3⟩ := HOB.out.shape (by rw [HNB.out]; exact hp)
    rw [hg] at h2
    simp only [Option.some.injEq, Addr.mk.injEq, and_true] at h2
    omega
  clear hoC hback hkeys HER HX hsB HSA
  replace HB := hide (over HB.out hb HB.out.size)
  replace HP := hide (HP.out.step hb)
  replace HR := hide (HR.out.step hb)
  replace HOA := hide (HOA.out.step hb)
  replace HA := hide (HA.out.step hb)
  replace HOB := hide (HOB.out.step hb)
  replace HB_ := hide (HB_.out.step hb)
  clear hb
  have hbx := below_box x8 (pageBlock lsn aC n cC)
  have HC := hide (pblk_new x8 lsn aC n cC)
  replace HB := hide (over HB.out hbx HB.out.size)
  replace HP := hide (HP.out.step hbx)
  replace HR := hide (HR.out.step hbx)
  replace HOA := hide (HOA.out.step hbx)
  replace HA := hide (HA.out.step hbx)
  replace HOB := hide (HOB.out.step hbx)
  replace HB_ := hide (HB_.out.step hbx)
  replace HOC := hide (HOC.out.step hbx)
  unfold pageBlock at HB HP HR HOA HA HOB HB_ HOC HC
  clear hbx
  go_upto_region 12 with fail
  obtain ⟨C, hC⟩ : ∃ C, C = x8.heap.size := ⟨_, rfl⟩
  rw [← hC] at HC ⊢
  obtain ⟨Y5, hY5⟩ : ∃ Y5, Y5 = x8.alloc (.cells #[.int .i64 lsn, .slice aC n cC] 24) := ⟨_, rfl⟩
  rw [← hY5] at HB HP HR HOA HA HOB HB_ HOC HC ⊢
  clear hY5
  clear hC
  clear HR
  go_wp2_with fail
  go_loopw [16] (fun i wr => ∃ (k : Nat) (eL : List (Int × Int)), k ≤ nA ∧ i = .int .i64 k ∧ eL.length = nA ∧ OwnE wr Z.heap.size aA cA eL ∧ OwnE wr sA aB cB eB ∧ OwnE wr sB aC cC es ∧ PBlk wr A lA aA nA cA ∧ PBlk wr B_ lsn aB nB cB ∧ PBlk wr C lsn aC n cC ∧ Below Z.heap.size Z wr) (fun i _ => nA - (intOf i).toNat)
  case atStart => exact ⟨0, eA, by omega, rfl, HNA.out, HOA.out, HOB.out, HOC.out, HA.out, HB_.out, HC.out, HB.out⟩
  case round =>
    clear HOA HOB HOC HA HB_ HC HB
    obtain ⟨k, eL, hk, rfl, hlen, hown, h0, h1, h2, h3, h4, hbel⟩ := hrel
    have HL := hide hlen
    have HOA := hide hown
    have HB := hide hbel
    have HOB := hide h0
    have HOC := hide h1
    have HA := hide h2
    have HB_ := hide h3
    have HC := hide h4
    clear hlen hown hbel h0 h1 h2 h3 h4
    have k1 := HA.out.c1
    by_cases hlt : k < nA
    case pos =>
      have hki : (k : Int) < (nA : Int) := by omega
      obtain ⟨⟨x, y⟩, he⟩ : ∃ e, eL[k]? = some e := ⟨eL[k]'(by rw [HL.out]; exact hlt), List.getElem?_eq_getElem _⟩
      obtain ⟨g, rfl, hg1, hg2⟩ := HOA.out.shape (by rw [HL.out]; omega)
      obtain ⟨v1, v2⟩ := HOA.out.cellV he
      have HO2 := hide (HOA.out.setVal he 77)
      have hnn : nA ≤ 1000 := by rw [← HL.out]; exact HOA.out.2
      have HL2 : Hid ((eL.set k (x, 77)).length = nA) := by show _ = _; rw [List.length_set]; exact HL.out
      have HB2 := hide (HB.out.setCell (p := ⟨g, k * 2 + 1, none⟩) hg1 (.int .i64 77))
      have HOB2 := hide (HOB.out.setFar (HGA.out (by omega) g rfl) (k * 2 + 1) (.int .i64 77))
      have HOC2 := hide (HOC.out.setFar (Nat.lt_of_lt_of_le (HGA.out (by omega) g rfl) HSAB.out) (k * 2 + 1) (.int .i64 77))
      have HA2 := hide (HA.out.far (HOA.out.ne_page HA.out) (k * 2 + 1) (.int .i64 77))
      have HB_2 := hide (HB_.out.far (HOA.out.ne_page HB_.out) (k * 2 + 1) (.int .i64 77))
      have HC2 := hide (HC.out.far (HOA.out.ne_page HC.out) (k * 2 + 1) (.int .i64 77))
      clear he hg1 hg2
      go_wp2_with fail
      go_roundw
      case rel => exact ⟨k + 1, _, by omega, by go_num, HL2.out, HO2.out, HOB2.out, HOC2.out, HA2.out, HB_2.out, HC2.out, HB2.out⟩
      case measure => simp [intOf]; omega
    have hki : decide ((k : Int) < (nA : Int)) = false := by simp; omega
    go_wp2_with fail
    clear k1 hlt hki hk
    clear HOA HA
    go_loopw [17] (fun i wr => ∃ (k : Nat) (eL : List (Int × Int)), k ≤ nB ∧ i = .int .i64 k ∧ eL.length = nB ∧ OwnE wr sA aB cB eL ∧ OwnE wr sB aC cC es ∧ PBlk wr B_ lsn aB nB cB ∧ PBlk wr C lsn aC n cC ∧ Below Z.heap.size Z wr) (fun i _ => nB - (intOf i).toNat)
    case atStart => exact ⟨0, eB, by omega, rfl, HNB.out, HOB.out, HOC.out, HB_.out, HC.out, HB.out⟩
    case round =>
      clear HOB HOC HB_ HC HB
      obtain ⟨k, eL, hk, rfl, hlen, hown, h0, h1, h2, hbel⟩ := hrel
      have HL := hide hlen
      have HOB := hide hown
      have HB := hide hbel
      have HOC := hide h0
      have HB_ := hide h1
      have HC := hide h2
      clear hlen hown hbel h0 h1 h2
      have k1 := HB_.out.c1
      by_cases hlt : k < nB
      case pos =>
        have hki : (k : Int) < (nB : Int) := by omega
        obtain ⟨⟨x, y⟩, he⟩ : ∃ e, eL[k]? = some e := ⟨eL[k]'(by rw [HL.out]; exact hlt), List.getElem?_eq_getElem _⟩
        obtain ⟨g, rfl, hg1, hg2⟩ := HOB.out.shape (by rw [HL.out]; omega)
        obtain ⟨v1, v2⟩ := HOB.out.cellV he
        have HO2 := hide (HOB.out.setVal he 78)
        have hnn : nB ≤ 1000 := by rw [← HL.out]; exact HOB.out.2
        have HL2 : Hid ((eL.set k (x, 78)).length = nB) := by show _ = _; rw [List.length_set]; exact HL.out
        have HB2 := hide (HB.out.setCell (p := ⟨g, k * 2 + 1, none⟩) (Nat.le_trans HSZ.out hg1) (.int .i64 78))
        have HOC2 := hide (HOC.out.setFar (HGB.out (by omega) g rfl) (k * 2 + 1) (.int .i64 78))
        have HB_2 := hide (HB_.out.far (HOB.out.ne_page HB_.out) (k * 2 + 1) (.int .i64 78))
        have HC2 := hide (HC.out.far (HOB.out.ne_page HC.out) (k * 2 + 1) (.int .i64 78))
        clear he hg1 hg2
        go_wp2_with fail
        go_roundw
        case rel => exact ⟨k + 1, _, by omega, by go_num, HL2.out, HO2.out, HOC2.out, HB_2.out, HC2.out, HB2.out⟩
        case measure => simp [intOf]; omega
      have hki : decide ((k : Int) < (nB : Int)) = false := by simp; omega
      go_wp2_with fail
      clear k1 hlt hki hk
      clear HOB HB_
      go_loopw [18] (fun i wr => ∃ (k : Nat) (eL : List (Int × Int)), k ≤ n ∧ i = .int .i64 k ∧ eL.length = n ∧ OwnE wr sB aC cC eL ∧ PBlk wr C lsn aC n cC ∧ Below Z.heap.size Z wr) (fun i _ => n - (intOf i).toNat)
      case atStart => exact ⟨0, es, by omega, rfl, HN.out, HOC.out, HC.out, HB.out⟩
      case round =>
        clear HOC HC HB
        obtain ⟨k, eL, hk, rfl, hlen, hown, h0, hbel⟩ := hrel
        have HL := hide hlen
        have HOC := hide hown
        have HB := hide hbel
        have HC := hide h0
        clear hlen hown hbel h0
        have k1 := HC.out.c1
        by_cases hlt : k < n
        case pos =>
          have hki : (k : Int) < (n : Int) := by omega
          obtain ⟨⟨x, y⟩, he⟩ : ∃ e, eL[k]? = some e := ⟨eL[k]'(by rw [HL.out]; exact hlt), List.getElem?_eq_getElem _⟩
          obtain ⟨g, rfl, hg1, hg2⟩ := HOC.out.shape (by rw [HL.out]; omega)
          obtain ⟨v1, v2⟩ := HOC.out.cellK he
          have HO2 := hide (HOC.out.setKey he 79)
          have hnn : n ≤ 1000 := by rw [← HL.out]; exact HOC.out.2
          have HL2 : Hid ((eL.set k (79, y)).length = n) := by show _ = _; rw [List.length_set]; exact HL.out
          have HB2 := hide (HB.out.setCell (p := ⟨g, k * 2, none⟩) (Nat.le_trans HSZ.out (Nat.le_trans HSAB.out hg1)) (.int .i64 79))
          have HC2 := hide (HC.out.far (HOC.out.ne_page HC.out) (k * 2) (.int .i64 79))
          clear he hg1 hg2
          go_wp2_with fail
          go_roundw
          case rel => exact ⟨k + 1, _, by omega, by go_num, HL2.out, HO2.out, HC2.out, HB2.out⟩
          case measure => simp [intOf]; omega
        have hki : decide ((k : Int) < (n : Int)) = false := by simp; omega
        go_upto_region 24 with fail
        clear k1 hlt hki hk
        have HPF := hide (HPZ.out.step HB.out)
        have HQF := hide (HQZ.out.step HB.out)
        have k0 := HPF.out.c0
        have k1 := HPF.out.c1
        have q0 := HQF.out.c0
        have q1 := HQF.out.c1
        have HBF := hide (over HBZ.out HB.out HBZ.out.size)
        clear HOC HC
        go_wp2_with fail
        refine (samePage_any lsn ao n c es lsn a3 n c3 es _ (HRZ.out.step HB.out) (HRZ3.out.step HB.out) HN.out HN.out).mono ?_
        rintro e x9 ⟨rfl, hb⟩
        rw [show samePgB lsn es lsn es = true from decide_eq_true ⟨rfl, rfl⟩]
        clear k0 k1 q0 q1
        go_wp2_with fail
        go_ret
        exact ⟨rfl, over HBF.out hb HBF.out.size⟩
end Go.Proofs.YtefgmlmhdjckaaaDoor.pageOwn
