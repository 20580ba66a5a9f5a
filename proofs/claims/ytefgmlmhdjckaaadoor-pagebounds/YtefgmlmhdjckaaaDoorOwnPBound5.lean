
/- What the statement PageBounds asks comes out true: way 5 of its seven. -/
import Derived.Test.YtefgmlmhdjckaaaDoorOwnPBMath
namespace Go.Proofs.YtefgmlmhdjckaaaDoor.pageBounds
open Go.RowKit
set_option linter.unusedVariables false

set_option maxRecDepth 100000 in
set_option maxHeartbeats 16000000 in
theorem walk5 (a0 a1 a2 : Int) (w : World) (hway : numberB a0 7 = 5) {a : Nat → Addr} (he : ErrsOf w all18 a) :
    Calls Tryd.prog 5 #[.int .i64 a0, .int .i64 a1, .int .i64 a2] w fun e w' => e = .returned (.bool true) ∧ Below w.heap.size w w' := by
  have HW := hide he
  have HE : Hid (∀ x, Below w.heap.size w x → x.cell? ⟨0, 0, none⟩ = some (errV (a 1))) := fun x hb => (he.step hb).cell 1 (mem18 (by omega))
  have HWAY := hide hway
  clear he hway
  go_enter Tryd.func5, Tryd.ntmps5
  go_wp2_with fail
  refine (pfirst_any _ (HE.out _ (Below.refl _ _))).mono ?_
  rintro e x1 ⟨rfl, hb⟩
  have HB := hide hb
  clear hb
  go_wp2_with fail
  refine (number_any _ _ _ (by omega) (by omega)).mono ?_
  rintro e x2 ⟨rfl, rfl⟩
  have hnb := numberB_bd a1 20 (by omega)
  obtain ⟨n, hn⟩ : ∃ n : Nat, numberB a1 20 + 1 = n := ⟨(numberB a1 20 + 1).toNat, by omega⟩
  have hn1 : 1 ≤ n := by omega
  have hn20 : n ≤ 20 := by omega
  have hwn : IntKind.i64.wrap (numberB a1 20 + 1) = (n : Int) := by rw [IntKind.wrap_i64]; omega
  obtain ⟨k9, hk9⟩ : ∃ k9, k9 = numberB a1 20 := ⟨_, rfl⟩
  rw [← hk9] at hwn hn ⊢
  have hn' : k9 + 1 = (n : Int) := hn
  clear hnb hk9 hn
  have HB0 := hide HB.out.size
  have hbx := below_box x2 (pageBlock 5 none 0 0)
  have HP := hide (pblk_new x2 5 none 0 0)
  replace HB := hide (over HB.out hbx HB.out.size)
  unfold pageBlock at HB HP
  clear hbx
  go_upto_region 6 with fail
  obtain ⟨P, hP⟩ : ∃ P, P = x2.heap.size := ⟨_, rfl⟩
  rw [← hP] at HP ⊢
  have HPW : Hid (w.heap.size ≤ P) := by show w.heap.size ≤ P; rw [hP]; exact HB0.out
  obtain ⟨Y1, hY1⟩ : ∃ Y1, Y1 = x2.alloc (.cells #[.int .i64 5, .slice none 0 0] 24) := ⟨_, rfl⟩
  rw [← hY1] at HB HP ⊢
  clear hY1
  clear hP
  have HPA := hide (PageAt.mk (w0 := w) HP.out (ownE_nil _ _) rfl HPW.out HB.out)
  clear HP HB HPW hwn hn'
  go_wp2_with fail
  go_loopw [9] (fun i wr => ∃ (k : Nat) (ao : Option Addr) (c : Nat), k ≤ n ∧ i = .int .i64 k ∧ PageAt w wr P 5 ao k c ((bl a2 n).take k)) (fun i _ => n - (intOf i).toNat)
  case atStart => exact ⟨0, none, 0, by omega, rfl, HPA.out⟩
  case round =>
    clear HPA
    obtain ⟨k, ao, c, hk, rfl, hpa⟩ := hrel
    have HPA := hide hpa
    clear hpa
    obtain ⟨c0, c1, f1, cl⟩ := HPA.out.cell
    by_cases hlt : k < n
    case pos =>
      have hki : (k : Int) < (n : Int) := by omega
      have he := bl_at a2 n k hlt
      obtain ⟨a3, c3, w3, hrun, hc3, hf3, hpa, hoth⟩ := HPA.out.more (by omega) (2 * (k : Int), a2)
      rw [← take_succ_at he] at hpa
      have HRUN := hide hrun
      have HPA2 := hide hpa
      clear he hrun hpa hoth
      go_wp2_with (first | (with_reducible refine buildE (2 * (k : Int), a2) ?_ ?_; rfl) | (at_builtin; refine wpList_append_runE rfl (.tmp 26) (.tmp 31) 22 rfl _ _ rfl rfl HRUN.out ?_))
      go_roundw
      case rel => exact ⟨k + 1, a3, c3, by omega, by go_num, HPA2.out⟩
      case measure => simp [intOf]; omega
    have hki : decide ((k : Int) < (n : Int)) = false := by simp; omega
    have hkn : k = n := by omega
    subst hkn
    clear hlt hk
    have HR := hide HPA.out.own.row
    rw [List.take_of_length_le (by rw [bl_len]; exact Nat.le_refl _)] at HR
    have HP : Hid (PBlk wr P 5 ao k c) := HPA.out.head
    have HB := hide HPA.out.bel
    have HN : Hid ((bl a2 k).length = k) := bl_len a2 k
    clear HPA f1 cl
    go_wp2_with fail
    refine (pcheck_any 5 ao k c (bl a2 k) _ (a 1) (HE.out _ HB.out) HR.out HN.out).mono ?_
    rintro e x3 ⟨rfl, hb⟩
    rw [checkPV_ok (bl_ok a2 k hn1 hn20)]
    replace HB := hide (over HB.out hb HB.out.size)
    replace HP := hide (HP.out.step hb)
    replace HR := hide (HR.out.step hb)
    clear hb c0 c1 hki
    have k0 := HP.out.c0
    have k1 := HP.out.c1
    go_wp2_with fail
    clear k0 k1
    have HB3 := hide HB.out
    refine (copyPage_any 5 ao k c (bl a2 k) _ HR.out HN.out).mono ?_
    rintro e x4 ⟨a3, c3, rfl, hown, hb⟩
    have HO := hide hown
    have HBZ := hide hb
    have HLX : Hid (x3.heap.size ≤ x4.heap.size) := hb.size
    replace HB := hide (over HB.out hb HB.out.size)
    clear hown hb HR HP
    unfold pageV
    have hbx := below_box x4 (pageBlock 5 a3 k c3)
    have HQ := hide (pblk_new x4 5 a3 k c3)
    replace HB := hide (over HB.out hbx HB.out.size)
    replace HBZ := hide (over HBZ.out hbx HBZ.out.size)
    replace HO := hide (HO.out.step hbx)
    unfold pageBlock at HB HBZ HO HQ
    clear hbx
    go_upto_region 13 with fail
    obtain ⟨Q, hQ⟩ : ∃ Q, Q = x4.heap.size := ⟨_, rfl⟩
    rw [← hQ] at HQ ⊢
    rw [← hQ] at HLX
    obtain ⟨Y2, hY2⟩ : ∃ Y2, Y2 = x4.alloc (.cells #[.int .i64 5, .slice a3 k c3] 24) := ⟨_, rfl⟩
    rw [← hY2] at HB HBZ HO HQ ⊢
    clear hY2
    clear hQ
    have HPA := hide (PageAt.mk (w0 := x3) HQ.out HO.out HN.out HLX.out HBZ.out)
    have HBX : Hid (∀ z, Below x3.heap.size x3 z → Below w.heap.size w z) := fun z hz => over HB3.out hz HB3.out.size
    clear HQ HO HBZ HB
    go_wp2_with fail
    refine (number_any _ _ _ (by omega) (by omega)).mono ?_
    rintro e xx ⟨rfl, rfl⟩
    rw [HWAY.out]
    obtain ⟨c0, c1, f1, cl⟩ := HPA.out.cell
    have q0 := HPA.out.cell.1
    have g0 : xx.frozen? ⟨Q, 0, none⟩ = false := PBlk.fz HPA.out.head 0
    go_upto_region 28 with fail
    clear q0 g0 c0 c1 f1 cl
    obtain ⟨Z, hZ⟩ : ∃ Z, Z = xx.setCell ⟨Q, 0, none⟩ (.int .i64 0) := ⟨_, rfl⟩
    have HQ : Hid (PBlk Z Q 0 a3 k c3) := by show PBlk Z Q 0 a3 k c3; rw [hZ]; exact PBlk.putL HPA.out.head 0
    have HRQ : Hid (EntRow Z a3 (bl a2 k)) := by show EntRow Z a3 _; rw [hZ]; exact (HPA.out.own.setPage HPA.out.head 0 _).row
    have HNQ : Hid ((bl a2 k).length = k) := HN.out
    have HBQ : Hid (Below x3.heap.size x3 Z) := by show Below _ _ Z; rw [hZ]; exact HPA.out.bel.setCell (p := ⟨Q, 0, none⟩) HLX.out _
    rw [← hZ]
    clear hZ HPA
    have HOK : Hid (okP 0 (bl a2 k) = false) := ok_no fun h => by have h1 := h.lsn0; rw [bl_len] at h1; omega
    have HBF := hide (HBX.out _ HBQ.out)
    have k0 := HQ.out.c0
    have k1 := HQ.out.c1
    go_wp2_with fail
    refine (pb_bad 0 a3 k c3 (bl a2 k) _ (a 1) (HE.out _ HBF.out) HRQ.out HNQ.out HOK.out).mono ?_
    rintro e y1 ⟨rfl, hb⟩
    replace HQ := hide (HQ.out.step hb)
    replace HRQ := hide (HRQ.out.step hb)
    replace HBF := hide (over HBF.out hb HBF.out.size)
    clear hb k0 k1
    have k0 := HQ.out.c0
    have k1 := HQ.out.c1
    have HI := hide (fun w' (h : Below w.heap.size w w') => is_err w' a 1 (by omega) 102 (by omega) (HW.out.step h))
    have HCK := hide (pcheck_any 0 a3 k c3 (bl a2 k) y1 (a 1) (HE.out _ HBF.out) HRQ.out HNQ.out)
    rw [checkPV_no HOK.out] at HCK
    unfold errV at HI HCK ⊢
    unfold pageV at HCK
    go_wp2_with fail
    refine HCK.out.mono ?_
    rintro e y2 ⟨rfl, hb⟩
    replace HBF := hide (over HBF.out hb HBF.out.size)
    clear hb k0 k1 HCK
    go_wp2_with fail
    refine (HI.out _ HBF.out).mono ?_
    rintro e y3 ⟨rfl, hb⟩
    replace HBF := hide (over HBF.out hb HBF.out.size)
    clear hb
    go_wp2_with fail
    refine (HI.out _ HBF.out).mono ?_
    rintro e y4 ⟨rfl, hb⟩
    replace HBF := hide (over HBF.out hb HBF.out.size)
    clear hb
    go_wp2_with fail
    go_ret
    exact ⟨rfl, HBF.out⟩
end Go.Proofs.YtefgmlmhdjckaaaDoor.pageBounds
