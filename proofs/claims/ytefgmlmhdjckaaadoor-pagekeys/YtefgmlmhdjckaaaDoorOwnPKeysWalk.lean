
/- What the statement PageKeys asks comes out true, at every list of numbers and value; nothing that was there is written. -/
import Derived.Test.YtefgmlmhdjckaaaDoorOwnPgTab2
import Derived.Test.YtefgmlmhdjckaaaDoorJoin28
import Derived.Test.YtefgmlmhdjckaaaDoorJoin21
import Derived.Test.YtefgmlmhdjckaaaDoorJoin17
namespace Go.Proofs.YtefgmlmhdjckaaaDoor.pageKeys
open Go.RowKit
set_option linter.unusedVariables false

set_option maxRecDepth 100000 in
set_option maxHeartbeats 32000000 in
theorem walk (lo : Option Addr) (len cap : Nat) (zs : List Int) (a1 : Int) (w : World) (w0 : IsRow .i64 w lo len cap zs) (w1 : (Lit.int .i64 a1).wf = true) {a : Nat → Addr} (he : ErrsOf w [1, 2, 6] a) :
    Calls Tryd.prog 4 #[.slice lo len cap, .int .i64 a1] w fun e w' => e = .returned (.bool true) ∧ Below w.heap.size w w' := by
  have HE : Hid (∀ x, Below w.heap.size w x → x.cell? ⟨0, 0, none⟩ = some (errV (a 1))) := fun x hb => (he.step hb).var 1 (by decide) rfl
  have HROW := hide (row_cells w0)
  clear he w0 w1
  go_enter Tryd.func4, Tryd.ntmps4
  go_wp2_with fail
  refine (pfirst_any _ (HE.out _ (Below.refl _ _))).mono ?_
  rintro e x1 ⟨rfl, hb⟩
  have HB := hide hb
  clear hb
  by_cases hlen : len ≤ 60
  case neg =>
    have hl1 : (60 : Int) < (len : Int) := by omega
    go_wp2_with fail
    go_ret
    exact ⟨rfl, HB.out⟩
  have hl1 : decide ((60 : Int) < (len : Int)) = false := by simp; omega
  have HL0 : Hid (w.heap.size ≤ x1.heap.size) := hide HB.out.size
  have hbx := below_box x1 (pageBlock 3 none 0 0)
  have HP := hide (pblk_new x1 3 none 0 0)
  replace HB := hide (over HB.out hbx HB.out.size)
  unfold pageBlock at HB HP
  clear hbx
  go_upto_region 7 with fail
  obtain ⟨P, hP⟩ : ∃ P, P = x1.heap.size := ⟨_, rfl⟩
  rw [← hP] at HP HL0 ⊢
  obtain ⟨Y1, hY1⟩ : ∃ Y1, Y1 = x1.alloc (.cells #[.int .i64 3, .slice none 0 0] 24) := ⟨_, rfl⟩
  rw [← hY1] at HB HP ⊢
  clear hY1
  clear hP
  
  have HPlt : Hid (P < Y1.heap.size) := hide HP.out.lt
  have hbx := below_box Y1 (.cells #[.bool false, .bool false, .bool false, .bool false, .bool false, .bool false, .bool false, .bool false, .bool false, .bool false, .bool false, .bool false, .bool false, .bool false, .bool false, .bool false, .bool false, .bool false, .bool false, .bool false, .bool false, .bool false, .bool false, .bool false, .bool false, .bool false, .bool false, .bool false, .bool false, .bool false, .bool false, .bool false, .bool false, .bool false, .bool false, .bool false, .bool false, .bool false, .bool false, .bool false, .bool false, .bool false, .bool false, .bool false, .bool false, .bool false, .bool false, .bool false, .bool false, .bool false] 56)
  have HA := hide (heap_alloc_new Y1 (.cells #[.bool false, .bool false, .bool false, .bool false, .bool false, .bool false, .bool false, .bool false, .bool false, .bool false, .bool false, .bool false, .bool false, .bool false, .bool false, .bool false, .bool false, .bool false, .bool false, .bool false, .bool false, .bool false, .bool false, .bool false, .bool false, .bool false, .bool false, .bool false, .bool false, .bool false, .bool false, .bool false, .bool false, .bool false, .bool false, .bool false, .bool false, .bool false, .bool false, .bool false, .bool false, .bool false, .bool false, .bool false, .bool false, .bool false, .bool false, .bool false, .bool false, .bool false] 56))
  replace HB := hide (over HB.out hbx HB.out.size)
  replace HP := hide (HP.out.step hbx)
  clear hbx
  go_upto_region 8 with fail
  obtain ⟨A, hA⟩ : ∃ A, A = Y1.heap.size := ⟨_, rfl⟩
  have HAL : Hid (P < A) := by show P < A; rw [hA]; exact HPlt.out
  rw [← hA] at HA ⊢
  obtain ⟨YA, hYA⟩ : ∃ YA, YA = Y1.alloc (.cells #[.bool false, .bool false, .bool false, .bool false, .bool false, .bool false, .bool false, .bool false, .bool false, .bool false, .bool false, .bool false, .bool false, .bool false, .bool false, .bool false, .bool false, .bool false, .bool false, .bool false, .bool false, .bool false, .bool false, .bool false, .bool false, .bool false, .bool false, .bool false, .bool false, .bool false, .bool false, .bool false, .bool false, .bool false, .bool false, .bool false, .bool false, .bool false, .bool false, .bool false, .bool false, .bool false, .bool false, .bool false, .bool false, .bool false, .bool false, .bool false, .bool false, .bool false] 56) := ⟨_, rfl⟩
  rw [← hYA] at HB HP HA ⊢
  clear hYA hA
  clear HPlt
  have HAblk := HA
  clear HAblk
  have HAL' := hide (lt_of_block HA.out)
  have hbx := below_box YA (.cells #[.int .i64 0, .int .i64 0, .int .i64 0, .int .i64 0, .int .i64 0, .int .i64 0, .int .i64 0, .int .i64 0, .int .i64 0, .int .i64 0, .int .i64 0, .int .i64 0, .int .i64 0, .int .i64 0, .int .i64 0, .int .i64 0, .int .i64 0, .int .i64 0, .int .i64 0, .int .i64 0, .int .i64 0, .int .i64 0, .int .i64 0, .int .i64 0, .int .i64 0, .int .i64 0, .int .i64 0, .int .i64 0, .int .i64 0, .int .i64 0, .int .i64 0, .int .i64 0, .int .i64 0, .int .i64 0, .int .i64 0, .int .i64 0, .int .i64 0, .int .i64 0, .int .i64 0, .int .i64 0, .int .i64 0, .int .i64 0, .int .i64 0, .int .i64 0, .int .i64 0, .int .i64 0, .int .i64 0, .int .i64 0, .int .i64 0, .int .i64 0] 57)
  have HBB := hide (heap_alloc_new YA (.cells #[.int .i64 0, .int .i64 0, .int .i64 0, .int .i64 0, .int .i64 0, .int .i64 0, .int .i64 0, .int .i64 0, .int .i64 0, .int .i64 0, .int .i64 0, .int .i64 0, .int .i64 0, .int .i64 0, .int .i64 0, .int .i64 0, .int .i64 0, .int .i64 0, .int .i64 0, .int .i64 0, .int .i64 0, .int .i64 0, .int .i64 0, .int .i64 0, .int .i64 0, .int .i64 0, .int .i64 0, .int .i64 0, .int .i64 0, .int .i64 0, .int .i64 0, .int .i64 0, .int .i64 0, .int .i64 0, .int .i64 0, .int .i64 0, .int .i64 0, .int .i64 0, .int .i64 0, .int .i64 0, .int .i64 0, .int .i64 0, .int .i64 0, .int .i64 0, .int .i64 0, .int .i64 0, .int .i64 0, .int .i64 0, .int .i64 0, .int .i64 0] 57))
  replace HA := hide ((hbx.block A HAL'.out).trans HA.out)
  replace HB := hide (over HB.out hbx HB.out.size)
  replace HP := hide (HP.out.step hbx)
  clear hbx
  go_upto_region 9 with fail
  obtain ⟨B, hB⟩ : ∃ B, B = YA.heap.size := ⟨_, rfl⟩
  rw [← hB] at HBB HAL' ⊢
  obtain ⟨Y3, hY3⟩ : ∃ Y3, Y3 = YA.alloc (.cells #[.int .i64 0, .int .i64 0, .int .i64 0, .int .i64 0, .int .i64 0, .int .i64 0, .int .i64 0, .int .i64 0, .int .i64 0, .int .i64 0, .int .i64 0, .int .i64 0, .int .i64 0, .int .i64 0, .int .i64 0, .int .i64 0, .int .i64 0, .int .i64 0, .int .i64 0, .int .i64 0, .int .i64 0, .int .i64 0, .int .i64 0, .int .i64 0, .int .i64 0, .int .i64 0, .int .i64 0, .int .i64 0, .int .i64 0, .int .i64 0, .int .i64 0, .int .i64 0, .int .i64 0, .int .i64 0, .int .i64 0, .int .i64 0, .int .i64 0, .int .i64 0, .int .i64 0, .int .i64 0, .int .i64 0, .int .i64 0, .int .i64 0, .int .i64 0, .int .i64 0, .int .i64 0, .int .i64 0, .int .i64 0, .int .i64 0, .int .i64 0] 57) := ⟨_, rfl⟩
  rw [← hY3] at HB HP HA HBB ⊢
  clear hY3 hB
  have HTAB := hide (Tab.new HA.out HBB.out rfl rfl)
  have HS : Hid (KSt Y3 P A B none 0 0 []) := hide ⟨HP.out, ownE_nil _ _, HTAB.out⟩
  have HPA := HAL
  have HAB := HAL'
  have HKO := hide KOk.nil
  clear HTAB HP HA HBB HAL HAL'
  have hL0 := HL0.out
  have hPA := HPA.out
  have hAB := HAB.out
  clear HL0 HPA HAB
  have HLO := hide hL0
  have HPA := hide hPA
  have HAB := hide hAB
  clear hL0 hPA hAB
  go_wp2_with fail
  go_loopw [9, 10] (fun nn i wr => ∃ (j m c : Nat) (ao : Option Addr) (es : List (Int × Int)), j ≤ len ∧ i = .int .i64 j ∧ nn = .int .i64 m ∧ es.length = m ∧ KOk es ∧ KSt wr P A B ao m c es ∧ Below w.heap.size w wr) (fun _ i _ => len - (intOf i).toNat)
  case atStart => exact ⟨0, 0, 0, none, [], by omega, rfl, rfl, rfl, HKO.out, HS.out, HB.out⟩
  case round =>
    clear HS HB HKO
    obtain ⟨j, m, c, ao, es, hj, rfl, rfl, hm, hko, hst, hbel⟩ := hrel
    have HN := hide hm
    have HKO := hide hko
    have HS := hide hst
    have HB := hide hbel
    clear hm hko hst hbel
    by_cases hlt : j < len
    case pos =>
      have hji : (j : Int) < (len : Int) := by omega
      obtain ⟨b, off, rfl, hbl, hc⟩ := HROW.out j hlt
      rw [← HB.out.cell (show b < w.heap.size from hbl)] at hc
      obtain ⟨z, hz⟩ : ∃ z, z = zs.getD j 0 := ⟨_, rfl⟩
      rw [← hz] at hc
      clear hz
      have HC := hide hc
      go_wp2_with fail
      refine (number_any _ _ _ (by omega) (by omega)).mono ?_
      rintro e x2 ⟨rfl, rfl⟩
      have hkb := numberB_bd z 50 (by omega)
      obtain ⟨k, hk⟩ : ∃ k : Nat, numberB z 50 = (k : Int) := ⟨(numberB z 50).toNat, by omega⟩
      rw [hk] at hkb ⊢
      clear hk
      have hk50 : k < 50 := by omega
      have hk0 : (0 : Int) ≤ (k : Int) := by omega
      have hk1 : (k : Int) < 50 := by omega
      clear hkb
      cases hbit : (bits .and .i64 z 3 == 0) with
      | true =>
        have k00 := HS.out.page.c0
        have k01 := HS.out.page.c1
        go_wp2_with fail
        clear k00 k01
        refine (rem_any 3 ao m c es k _ HS.out.own.row HN.out).mono ?_
        rintro e x3 ⟨a3, m3, c3, rfl, hm3, hown3, hb⟩
        have HN3 := hide hm3
        have HO3 := hide (hown3.mono (C := B + 1) (by have := HS.out.tab.ltB; omega))
        clear hm3 hown3
        replace HS := hide (HS.out.step hb)
        replace HB := hide (over HB.out hb HB.out.size)
        clear hb
        unfold pageV
        have hbx := below_box x3 (pageBlock 3 a3 m3 c3)
        have HR := hide (pblk_new x3 3 a3 m3 c3)
        replace HS := hide (HS.out.step hbx)
        replace HB := hide (over HB.out hbx HB.out.size)
        replace HO3 := hide (HO3.out.step hbx)
        unfold pageBlock at HS HB HO3 HR
        clear hbx
        go_upto_region 16 with fail
        obtain ⟨R, hR⟩ : ∃ R, R = x3.heap.size := ⟨_, rfl⟩
        rw [← hR] at HR ⊢
        obtain ⟨Y2, hY2⟩ : ∃ Y2, Y2 = x3.alloc (.cells #[.int .i64 3, .slice a3 m3 c3] 24) := ⟨_, rfl⟩
        rw [← hY2] at HS HB HO3 HR ⊢
        clear hY2
        clear hR
        have hlr := len_rem es HKO.out.up k
        rw [HN.out, HN3.out] at hlr
        have HKO3 := hide (HKO.out.rem k)
        cases hh : hasE es k with
        | true =>
          rw [hh] at hlr
          simp only [if_true] at hlr
          have hwn : IntKind.i64.wrap ((m : Int) - 1) = (m3 : Int) := by rw [IntKind.wrap_i64]; have := HKO.out.many; have := HN.out; omega
          clear hlr
          have k00 := HR.out.c0
          have k01 := HR.out.c1
          have p00 := HS.out.page.c0
          have p01 := HS.out.page.c1
          have hPA := HPA.out
          have hAB := HAB.out
          have ne1 : ¬ P = A := by omega
          have ne2 : ¬ A = P := by omega
          have ne3 : ¬ P = B := by omega
          have ne4 : ¬ B = P := by omega
          have ne5 : ¬ A = B := by omega
          have ne6 : ¬ B = A := by omega
          clear hPA hAB
          obtain ⟨v0, cB, hvu⟩ := HS.out.tab.cellB hk50
          clear hvu
          have f0 := HS.out.page.fz 0
          have f1 := HS.out.page.fz 1
          have cA := HS.out.tab.cell hk50
          rw [hh] at cA
          have fA := HS.out.tab.fzA k
          have fB := HS.out.tab.fzB k
          go_upto_region 31 with fail
          clear k00 k01 p00 p01 f0 f1 cA cB fA fB ne1 ne2 ne3 ne4 ne5 ne6
          obtain ⟨Z, hZ⟩ : ∃ Z, Z = ((Y2.setCell ⟨P, 0, none⟩ (.int .i64 3)).setCell ⟨P, 1, none⟩ (.slice a3 m3 c3)).setCell ⟨A, k, none⟩ (.bool false) := ⟨_, rfl⟩
          rw [← hZ]
          have HZ : Hid (KSt Z P A B a3 m3 c3 (remE k es)) := by show KSt Z P A B a3 m3 c3 (remE k es); rw [hZ]; exact HS.out.del HPA.out HAB.out hk50 HO3.out
          have HBZ : Hid (Below w.heap.size w Z) := by
            show Below w.heap.size w Z
            have h1 := HLO.out
            have h2 := HPA.out
            rw [hZ]
            exact ((HB.out.setCell (p := ⟨P, 0, none⟩) h1 _).setCell (p := ⟨P, 1, none⟩) h1 _).setCell (p := ⟨A, k, none⟩) (by show w.heap.size ≤ A; omega) _
          clear hZ HS HB HR HO3
          have k00 := HZ.out.page.c0
          have k01 := HZ.out.page.c1
          go_wp2_with fail
          go_roundw
          case rel => exact ⟨j + 1, m3, c3, a3, remE k es, by omega, by go_num, by go_num, HN3.out, HKO3.out, HZ.out, HBZ.out⟩
          case measure => simp [intOf]; omega
        | false =>
          rw [hh] at hlr
          simp only [reduceIte, Bool.false_eq_true, Nat.add_zero] at hlr
          have hwn : (m : Int) = (m3 : Int) := by omega
          clear hwn
          subst hlr
          have k00 := HR.out.c0
          have k01 := HR.out.c1
          have p00 := HS.out.page.c0
          have p01 := HS.out.page.c1
          have hPA := HPA.out
          have hAB := HAB.out
          have ne1 : ¬ P = A := by omega
          have ne2 : ¬ A = P := by omega
          have ne3 : ¬ P = B := by omega
          have ne4 : ¬ B = P := by omega
          have ne5 : ¬ A = B := by omega
          have ne6 : ¬ B = A := by omega
          clear hPA hAB
          obtain ⟨v0, cB, hvu⟩ := HS.out.tab.cellB hk50
          clear hvu
          have f0 := HS.out.page.fz 0
          have f1 := HS.out.page.fz 1
          have cA := HS.out.tab.cell hk50
          rw [hh] at cA
          have fA := HS.out.tab.fzA k
          have fB := HS.out.tab.fzB k
          go_upto_region 31 with fail
          clear k00 k01 p00 p01 f0 f1 cA cB fA fB ne1 ne2 ne3 ne4 ne5 ne6
          obtain ⟨Z, hZ⟩ : ∃ Z, Z = ((Y2.setCell ⟨P, 0, none⟩ (.int .i64 3)).setCell ⟨P, 1, none⟩ (.slice a3 m3 c3)).setCell ⟨A, k, none⟩ (.bool false) := ⟨_, rfl⟩
          rw [← hZ]
          have HZ : Hid (KSt Z P A B a3 m3 c3 (remE k es)) := by show KSt Z P A B a3 m3 c3 (remE k es); rw [hZ]; exact HS.out.del HPA.out HAB.out hk50 HO3.out
          have HBZ : Hid (Below w.heap.size w Z) := by
            show Below w.heap.size w Z
            have h1 := HLO.out
            have h2 := HPA.out
            rw [hZ]
            exact ((HB.out.setCell (p := ⟨P, 0, none⟩) h1 _).setCell (p := ⟨P, 1, none⟩) h1 _).setCell (p := ⟨A, k, none⟩) (by show w.heap.size ≤ A; omega) _
          clear hZ HS HB HR HO3
          have k00 := HZ.out.page.c0
          have k01 := HZ.out.page.c1
          go_wp2_with fail
          go_roundw
          case rel => exact ⟨j + 1, m3, c3, a3, remE k es, by omega, by go_num, by go_num, HN3.out, HKO3.out, HZ.out, HBZ.out⟩
          case measure => simp [intOf]; omega
      | false =>
        obtain ⟨vv, hvv⟩ : ∃ vv, IntKind.i64.wrap (a1 + bits .and .i64 (j : Int) 7) = vv := ⟨_, rfl⟩
        have hv1 : -9223372036854775808 ≤ vv ∧ vv ≤ 9223372036854775807 := by rw [← hvv, IntKind.wrap_i64]; omega
        have HV := hide hv1
        clear hv1
        have k00 := HS.out.page.c0
        have k01 := HS.out.page.c1
        go_wp2_with fail
        clear k00 k01
        refine (pput_any 3 ao m c es k vv _ HS.out.own.row HKO.out.up HN.out).mono ?_
        rintro e x3 hpp
        unfold PutPost putL putE at hpp
        cases hh : hasE es k with
        | true =>
          have HCAN : Hid (canPut es k = true) := by show canPut es k = true; unfold canPut; rw [hh]; first | rfl | (have := HN.out; simp; omega)
          rw [HCAN.out] at hpp
          simp only [if_true] at hpp
          obtain ⟨a3, m3, c3, rfl, hm3, hown3, hb⟩ := hpp
          have HN3 := hide hm3
          have HO3 := hide (hown3.mono (C := B + 1) (by have := HS.out.tab.ltB; omega))
          clear hm3 hown3
          replace HS := hide (HS.out.step hb)
          replace HB := hide (over HB.out hb HB.out.size)
          clear hb
          unfold pageV
          have hbx := below_box x3 (pageBlock 3 a3 m3 c3)
          have HR := hide (pblk_new x3 3 a3 m3 c3)
          replace HS := hide (HS.out.step hbx)
          replace HB := hide (over HB.out hbx HB.out.size)
          replace HO3 := hide (HO3.out.step hbx)
          unfold pageBlock at HS HB HO3 HR
          clear hbx
          go_upto_region 23 with fail
          obtain ⟨R, hR⟩ : ∃ R, R = x3.heap.size := ⟨_, rfl⟩
          rw [← hR] at HR ⊢
          obtain ⟨Y2, hY2⟩ : ∃ Y2, Y2 = x3.alloc (.cells #[.int .i64 3, .slice a3 m3 c3] 24) := ⟨_, rfl⟩
          rw [← hY2] at HS HB HO3 HR ⊢
          clear hY2
          clear hR
          have hlr := len_ins es HKO.out.up k vv
          rw [HN.out, HN3.out, hh] at hlr
          simp only [if_true, Nat.add_zero] at hlr
          have HKO3 := hide (HKO.out.ins ⟨hk0, hk1⟩ HV.out HCAN.out)
          subst hlr
          have k00 := HR.out.c0
          have k01 := HR.out.c1
          have p00 := HS.out.page.c0
          have p01 := HS.out.page.c1
          have hPA := HPA.out
          have hAB := HAB.out
          have ne1 : ¬ P = A := by omega
          have ne2 : ¬ A = P := by omega
          have ne3 : ¬ P = B := by omega
          have ne4 : ¬ B = P := by omega
          have ne5 : ¬ A = B := by omega
          have ne6 : ¬ B = A := by omega
          clear hPA hAB
          obtain ⟨v0, cB, hvu⟩ := HS.out.tab.cellB hk50
          clear hvu
          have f0 := HS.out.page.fz 0
          have f1 := HS.out.page.fz 1
          have cA := HS.out.tab.cell hk50
          rw [hh] at cA
          have fA := HS.out.tab.fzA k
          have fB := HS.out.tab.fzB k
          go_upto_region 31 with fail
          clear k00 k01 p00 p01 f0 f1 cA cB fA fB ne1 ne2 ne3 ne4 ne5 ne6
          obtain ⟨Z, hZ⟩ : ∃ Z, Z = (((Y2.setCell ⟨P, 0, none⟩ (.int .i64 3)).setCell ⟨P, 1, none⟩ (.slice a3 m3 c3)).setCell ⟨A, k, none⟩ (.bool true)).setCell ⟨B, k, none⟩ (.int .i64 vv) := ⟨_, rfl⟩
          rw [← hZ]
          have HZ : Hid (KSt Z P A B a3 m3 c3 (insE k vv es)) := by show KSt Z P A B a3 m3 c3 (insE k vv es); rw [hZ]; exact HS.out.put HPA.out HAB.out hk50 vv HO3.out
          have HBZ : Hid (Below w.heap.size w Z) := by
            show Below w.heap.size w Z
            have h1 := HLO.out
            have h2 := HPA.out
            have h3 := HAB.out
            rw [hZ]
            exact (((HB.out.setCell (p := ⟨P, 0, none⟩) h1 _).setCell (p := ⟨P, 1, none⟩) h1 _).setCell (p := ⟨A, k, none⟩) (by show w.heap.size ≤ A; omega) _).setCell (p := ⟨B, k, none⟩) (by show w.heap.size ≤ B; omega) _
          clear hZ HS HB HR HO3
          have k00 := HZ.out.page.c0
          have k01 := HZ.out.page.c1
          go_wp2_with fail
          go_roundw
          case rel => exact ⟨j + 1, m3, c3, a3, insE k vv es, by omega, by go_num, by go_num, HN3.out, HKO3.out, HZ.out, HBZ.out⟩
          case measure => simp [intOf]; omega
        | false =>
          by_cases hm20 : m < 20
          case pos =>
            have hmi : (m : Int) < 20 := by omega
            have HCAN : Hid (canPut es k = true) := by show canPut es k = true; unfold canPut; rw [hh]; first | rfl | (have := HN.out; simp; omega)
            rw [HCAN.out] at hpp
            simp only [if_true] at hpp
            obtain ⟨a3, m3, c3, rfl, hm3, hown3, hb⟩ := hpp
            have HN3 := hide hm3
            have HO3 := hide (hown3.mono (C := B + 1) (by have := HS.out.tab.ltB; omega))
            clear hm3 hown3
            replace HS := hide (HS.out.step hb)
            replace HB := hide (over HB.out hb HB.out.size)
            clear hb
            unfold pageV
            have hbx := below_box x3 (pageBlock 3 a3 m3 c3)
            have HR := hide (pblk_new x3 3 a3 m3 c3)
            replace HS := hide (HS.out.step hbx)
            replace HB := hide (over HB.out hbx HB.out.size)
            replace HO3 := hide (HO3.out.step hbx)
            unfold pageBlock at HS HB HO3 HR
            clear hbx
            go_upto_region 23 with fail
            obtain ⟨R, hR⟩ : ∃ R, R = x3.heap.size := ⟨_, rfl⟩
            rw [← hR] at HR ⊢
            obtain ⟨Y2, hY2⟩ : ∃ Y2, Y2 = x3.alloc (.cells #[.int .i64 3, .slice a3 m3 c3] 24) := ⟨_, rfl⟩
            rw [← hY2] at HS HB HO3 HR ⊢
            clear hY2
            clear hR
            have hlr := len_ins es HKO.out.up k vv
            rw [HN.out, HN3.out, hh] at hlr
            simp only [reduceIte, Bool.false_eq_true] at hlr
            have HKO3 := hide (HKO.out.ins ⟨hk0, hk1⟩ HV.out HCAN.out)
            have hwn : IntKind.i64.wrap ((m : Int) + 1) = (m3 : Int) := by rw [IntKind.wrap_i64]; have := HKO.out.many; have := HN.out; omega
            clear hlr
            have k00 := HR.out.c0
            have k01 := HR.out.c1
            have p00 := HS.out.page.c0
            have p01 := HS.out.page.c1
            have hPA := HPA.out
            have hAB := HAB.out
            have ne1 : ¬ P = A := by omega
            have ne2 : ¬ A = P := by omega
            have ne3 : ¬ P = B := by omega
            have ne4 : ¬ B = P := by omega
            have ne5 : ¬ A = B := by omega
            have ne6 : ¬ B = A := by omega
            clear hPA hAB
            obtain ⟨v0, cB, hvu⟩ := HS.out.tab.cellB hk50
            clear hvu
            have f0 := HS.out.page.fz 0
            have f1 := HS.out.page.fz 1
            have cA := HS.out.tab.cell hk50
            rw [hh] at cA
            have fA := HS.out.tab.fzA k
            have fB := HS.out.tab.fzB k
            go_upto_region 31 with fail
            clear k00 k01 p00 p01 f0 f1 cA cB fA fB ne1 ne2 ne3 ne4 ne5 ne6
            obtain ⟨Z, hZ⟩ : ∃ Z, Z = (((Y2.setCell ⟨P, 0, none⟩ (.int .i64 3)).setCell ⟨P, 1, none⟩ (.slice a3 m3 c3)).setCell ⟨A, k, none⟩ (.bool true)).setCell ⟨B, k, none⟩ (.int .i64 vv) := ⟨_, rfl⟩
            rw [← hZ]
            have HZ : Hid (KSt Z P A B a3 m3 c3 (insE k vv es)) := by show KSt Z P A B a3 m3 c3 (insE k vv es); rw [hZ]; exact HS.out.put HPA.out HAB.out hk50 vv HO3.out
            have HBZ : Hid (Below w.heap.size w Z) := by
              show Below w.heap.size w Z
              have h1 := HLO.out
              have h2 := HPA.out
              have h3 := HAB.out
              rw [hZ]
              exact (((HB.out.setCell (p := ⟨P, 0, none⟩) h1 _).setCell (p := ⟨P, 1, none⟩) h1 _).setCell (p := ⟨A, k, none⟩) (by show w.heap.size ≤ A; omega) _).setCell (p := ⟨B, k, none⟩) (by show w.heap.size ≤ B; omega) _
            clear hZ HS HB HR HO3
            have k00 := HZ.out.page.c0
            have k01 := HZ.out.page.c1
            go_wp2_with fail
            go_roundw
            case rel => exact ⟨j + 1, m3, c3, a3, insE k vv es, by omega, by go_num, by go_num, HN3.out, HKO3.out, HZ.out, HBZ.out⟩
            case measure => simp [intOf]; omega
          have hmi : decide ((m : Int) < 20) = false := by simp; omega
          have HCAN : Hid (canPut es k = false) := by show canPut es k = false; unfold canPut; rw [hh]; first | rfl | (have := HN.out; simp; omega)
          rw [HCAN.out] at hpp
          simp only [reduceIte, Bool.false_eq_true] at hpp
          obtain ⟨a3, m3, c3, rfl, hm3, hown3, hb⟩ := hpp
          have HN3 := hide hm3
          clear hm3 hown3
          replace HS := hide (HS.out.step hb)
          replace HB := hide (over HB.out hb HB.out.size)
          clear hb
          unfold pageV
          have hbx := below_box x3 (pageBlock 0 a3 m3 c3)
          have HR := hide (pblk_new x3 0 a3 m3 c3)
          replace HS := hide (HS.out.step hbx)
          replace HB := hide (over HB.out hbx HB.out.size)
          unfold pageBlock at HS HB HR
          clear hbx
          go_upto_region 23 with fail
          obtain ⟨R, hR⟩ : ∃ R, R = x3.heap.size := ⟨_, rfl⟩
          rw [← hR] at HR ⊢
          obtain ⟨Y2, hY2⟩ : ∃ Y2, Y2 = x3.alloc (.cells #[.int .i64 0, .slice a3 m3 c3] 24) := ⟨_, rfl⟩
          rw [← hY2] at HS HB HR ⊢
          clear hY2
          clear hR
          have cA := HS.out.tab.cell hk50
          rw [hh] at cA
          go_upto_region 31 with fail
          clear cA
          have k00 := HS.out.page.c0
          have k01 := HS.out.page.c1
          go_wp2_with fail
          go_roundw
          case rel => exact ⟨j + 1, m, c, ao, es, by omega, by go_num, by go_num, HN.out, HKO.out, HS.out, HB.out⟩
          case measure => simp [intOf]; omega
    have hji : decide ((j : Int) < (len : Int)) = false := by simp; omega
    go_wp2_with fail
    clear hlt hji hj
    obtain ⟨y0, hy0⟩ : ∃ y0, y0 = wr := ⟨_, rfl⟩
    go_loopw [16] (fun i wr => ∃ (q : Nat), q ≤ 50 ∧ i = .int .i64 q ∧ KSt wr P A B ao m c es ∧ Below w.heap.size w wr) (fun i _ => 50 - (intOf i).toNat)
    case atStart => exact ⟨0, by omega, rfl, HS.out, HB.out⟩
    case round =>
      clear HS HB hy0
      obtain ⟨q, hq, rfl, hst, hbel⟩ := hrel
      have HS := hide hst
      have HB := hide hbel
      clear hst hbel
      have k00 := HS.out.page.c0
      have k01 := HS.out.page.c1
      by_cases hlt : q < 50
      case pos =>
        have hqi : (q : Int) < 50 := by omega
        have hq0 : (0 : Int) ≤ (q : Int) := by omega
        go_wp2_with fail
        clear k00 k01
        cases hv : valE es q with
        | none =>
          have hh : hasE es q = false := by unfold hasE; rw [hv]; rfl
          refine (get_no 3 ao m c es q _ HS.out.own.row HN.out hv).mono ?_
          rintro e z1 ⟨rfl, hb⟩
          replace HS := hide (HS.out.step hb)
          replace HB := hide (over HB.out hb HB.out.size)
          clear hb
          have cA := HS.out.tab.cell hlt
          rw [hh] at cA
          clear hh hv
          go_wp2_with fail
          go_roundw
          case rel => exact ⟨q + 1, by omega, by go_num, HS.out, HB.out⟩
          case measure => simp [intOf]; omega
        | some u =>
          have hh : hasE es q = true := by unfold hasE; rw [hv]; rfl
          refine (get_yes 3 ao m c es q u _ HS.out.own.row HKO.out.up HN.out hv).mono ?_
          rintro e z1 ⟨rfl, hb⟩
          replace HS := hide (HS.out.step hb)
          replace HB := hide (over HB.out hb HB.out.size)
          clear hb
          have cA := HS.out.tab.cell hlt
          rw [hh] at cA
          obtain ⟨v', cB, hvu⟩ := HS.out.tab.cellB hlt
          have hvu2 := hvu u hv
          subst hvu2
          clear hh hv hvu
          go_wp2_with fail
          go_roundw
          case rel => exact ⟨q + 1, by omega, by go_num, HS.out, HB.out⟩
          case measure => simp [intOf]; omega
      have hqi : decide ((q : Int) < 50) = false := by simp; omega
      go_wp2_with fail
      clear k00 k01 hqi hlt hq
      refine (pb_ok 3 ao m c es _ (a 1) (HE.out _ HB.out) HS.out.own.row HN.out HKO.out.ok).mono ?_
      rintro e z2 ⟨g, rfl, hg, hox, hb⟩
      have HX := hide hox.row
      replace HS := hide (HS.out.step hb)
      replace HB := hide (over HB.out hb HB.out.size)
      clear hg hox hb
      have hback := page_back HKO.out.ok HKO.out.fits
      have hkeys : keysOf (pageB 3 es) = m := by
        have h1 : (entsOf (pageB 3 es)).length = keysOf (pageB 3 es) := length_entsUp _ _
        rw [hback.2.1, HN.out] at h1
        exact h1.symm
      go_wp2_with fail
      refine (pread_ok _ 256 (pageB 3 es) _ HX.out (HE.out _ HB.out) (length_pageB _ _) hback.2.2).mono ?_
      rintro e z3 ⟨aC, cC, rfl, hoC, hb⟩
      rw [hback.1, hkeys]
      rw [hback.2.1] at hoC
      unfold pageV
      have HR2 := hide hoC.row
      replace HS := hide (HS.out.step hb)
      replace HB := hide (over HB.out hb HB.out.size)
      clear hoC hb hback hkeys HX
      have hbx := below_box z3 (pageBlock 3 aC m cC)
      have HC := hide (pblk_new z3 3 aC m cC)
      replace HB := hide (over HB.out hbx HB.out.size)
      replace HS := hide (HS.out.step hbx)
      replace HR2 := hide (HR2.out.step hbx)
      unfold pageBlock at HB HS HR2 HC
      clear hbx
      go_upto_region 41 with fail
      obtain ⟨C, hC⟩ : ∃ C, C = z3.heap.size := ⟨_, rfl⟩
      rw [← hC] at HC ⊢
      obtain ⟨Y21, hY21⟩ : ∃ Y21, Y21 = z3.alloc (.cells #[.int .i64 3, .slice aC m cC] 24) := ⟨_, rfl⟩
      rw [← hY21] at HB HS HR2 HC ⊢
      clear hY21
      clear hC
      have k00 := HS.out.page.c0
      have k01 := HS.out.page.c1
      have q00 := HC.out.c0
      have q01 := HC.out.c1
      go_wp2_with fail
      refine (samePage_any 3 ao m c es 3 aC m cC es _ HS.out.own.row HR2.out HN.out HN.out).mono ?_
      rintro e z4 ⟨rfl, hb⟩
      rw [show samePgB 3 es 3 es = true from decide_eq_true ⟨rfl, rfl⟩]
      replace HS := hide (HS.out.step hb)
      replace HB := hide (over HB.out hb HB.out.size)
      clear hb k00 k01 q00 q01
      have k00 := HS.out.page.c0
      have k01 := HS.out.page.c1
      go_wp2_with fail
      refine (pcheck_any 3 ao m c es _ (a 1) (HE.out _ HB.out) HS.out.own.row HN.out).mono ?_
      rintro e z5 ⟨rfl, hb⟩
      rw [checkPV_ok HKO.out.ok]
      have HBF := hide (over HB.out hb HB.out.size)
      clear hb k00 k01
      go_wp2_with fail
      go_ret
      exact ⟨rfl, HBF.out⟩
end Go.Proofs.YtefgmlmhdjckaaaDoor.pageKeys
