
/- What the statement RecZeros asks comes out true, at every list of numbers, place and byte; nothing that was there is written. -/
import Derived.Test.YtimajndclhmanaaDoorMakeSeq
import Derived.Test.YtimajndclhmanaaDoorLay
namespace Go.Proofs.YtimajndclhmanaaDoor.recZeros
open Go.RowKit
set_option linter.unusedVariables false

theorem place (k : Nat) (h : k < 6) : ∃ p : Nat, (p = 6 ∨ p = 7 ∨ p = 20 ∨ p = 21 ∨ p = 22 ∨ p = 23) ∧ (#[Value.int .i64 6, .int .i64 7, .int .i64 20, .int .i64 21, .int .i64 22, .int .i64 23])[k]? = some (.int .i64 (p : Int)) := by
  match k, h with
  | 0, _ => exact ⟨6, by omega, rfl⟩
  | 1, _ => exact ⟨7, by omega, rfl⟩
  | 2, _ => exact ⟨20, by omega, rfl⟩
  | 3, _ => exact ⟨21, by omega, rfl⟩
  | 4, _ => exact ⟨22, by omega, rfl⟩
  | 5, _ => exact ⟨23, by omega, rfl⟩
set_option maxHeartbeats 4000000 in
theorem walk (a0 : Option Addr) (len0 cap0 : Nat) (z0 : List Int) (a1 a2 : Int) (w : World) (w0 : IsRow .i64 w a0 len0 cap0 z0) (w1 : (Lit.int .i64 a1).wf = true) (w2 : (Lit.int .u8 a2).wf = true) {a : Nat → Addr} (he : ErrsOf w [1, 2, 3] a) :
    Calls Tryd.prog 7 #[.slice a0 len0 cap0, .int .i64 a1, .int .u8 a2] w fun e w' => e = .returned (.bool true) ∧ Below w.heap.size w w' := by
  have HE := hide (errs_read he (by simp) (by simp) (by simp))
  have HW := hide HE.out
  have H0 := hide w0
  obtain ⟨b0, b1⟩ := wf_u8 w2
  clear he w0 w1 w2
  by_cases hl : len0 ≤ 60 ∧ a2 ≠ 0
  · obtain ⟨hl1, hl2⟩ := hl
    have hd1 : decide ((60 : Int) < (len0 : Int)) = false := by simp; omega
    have hd2 : (a2 == 0) = false := by simpa using hl2
    have HX := hide (xor_zero a2 b0 b1)
    have HL := hide hl1
    have HN := hide hl2
    clear hl1 hl2
    go_enter Tryd.func7, Tryd.ntmps7
    go_wp2_with fail
    refine (rfirst_any _ _ HE.out.range).mono ?_
    rintro e x1 ⟨rfl, hb⟩
    replace HE := hide (HE.out.step hb)
    have HB := hide hb
    clear hb
    go_wp2_with fail
    refine (make_new H0.out HL.out HB.out).mono ?_
    rintro e x2 ⟨r, rfl, hg, hf, hb⟩
    replace HE := hide (HE.out.step hb)
    replace HB := hide (over HB.out hb HB.out.size)
    have HG := hide hg
    have HF := hide hf
    clear hb hg hf
    go_wp2_with fail
    refine (recBytes_good r _ _ HE.out.range HG.out).mono ?_
    rintro e x3 ⟨g, rfl, hg, hown, hb⟩
    replace HE := hide (HE.out.step hb)
    have HS := hide (Nat.le_trans HB.out.size hg)
    replace HB := hide (over HB.out hb HB.out.size)
    have HO := hide hown
    clear hb hg hown
    go_wp2_with fail
    have hk := numberB_bd a1 6 (by omega)
    obtain ⟨k, hk'⟩ : ∃ k : Nat, numberB a1 6 = k := ⟨(numberB a1 6).toNat, by omega⟩
    have hk6 : k < 6 := by omega
    obtain ⟨p, hp, hpc⟩ := place k hk6
    have hb : Below x3.heap.size x3 (x3.alloc (.cells #[.int .i64 6, .int .i64 7, .int .i64 20, .int .i64 21, .int .i64 22, .int .i64 23] 3)) := below_box _ _
    have hcp : (x3.alloc (.cells #[.int .i64 6, .int .i64 7, .int .i64 20, .int .i64 21, .int .i64 22, .int .i64 23] 3)).cell? ⟨x3.heap.size, k, none⟩ = some (.int .i64 (p : Int)) := by rw [cell_row (heap_alloc_new _ _)]; exact hpc
    obtain ⟨X, hX⟩ : ∃ X, X = x3.alloc (.cells #[.int .i64 6, .int .i64 7, .int .i64 20, .int .i64 21, .int .i64 22, .int .i64 23] 3) := ⟨_, rfl⟩
    rw [← hX] at hb hcp ⊢
    clear hX hpc
    refine (number_any _ _ _ (by omega) (by omega)).mono ?_
    rintro e x4 ⟨rfl, rfl⟩
    rw [hk']
    replace HE := hide (HE.out.step hb)
    replace HO := hide (HO.out.below hb (Nat.le_refl _))
    replace HB := hide (over HB.out hb HB.out.size)
    have hki : (k : Int) < 6 := by omega
    clear hb hk hk'
    have hp40 : p < 40 := by omega
    have hpi : (p : Int) < 40 := by omega
    have HP := hide hp
    have hc := HO.out.cell p (by rw [length_recB]; exact hp40)
    rw [rec_getD r p hp] at hc
    have hfz := HO.out.frozen p
    clear hp
    go_wp2_with fail
    clear hc hfz hcp hki
    rw [HX.out]
    have HI := hide (isRec_zero ((recB r).set p a2) p (by have := HP.out; omega) (by rw [byteAt_set _ _ _ (by rw [length_recB]; exact hp40)]; exact HN.out))
    replace HB := hide (HB.out.setCell (p := ⟨g, p, none⟩) HS.out (.int .u8 a2))
    replace HO := hide (HO.out.stored p a2 b0 b1)
    obtain ⟨Y, hY⟩ : ∃ Y, Y = x4.setCell ⟨g, p, none⟩ (.int .u8 a2) := ⟨_, rfl⟩
    rw [← hY] at HB HO ⊢
    clear hY HE
    refine (read_bad _ _ ((recB r).set p a2) _ HO.out.row (HW.out.step HB.out) (by rw [List.length_set, length_recB]) HI.out).mono ?_
    rintro e x5 ⟨rfl, hb⟩
    rw [noRec_val]
    unfold errV
    replace HO := hide ((HO.out.below hb (Nat.le_refl _)).below (below_box x5 (.cells #[.int .i64 0, .int .i64 0, .int .i64 0, .int .i64 0, .int .i64 0, .int .i64 0, .bool false, .bool false, .int .i64 0, .int .i64 0] 23)) (Nat.le_refl _))
    replace HB := hide (over HB.out hb HB.out.size)
    replace HB := hide (over HB.out (below_box x5 (.cells #[.int .i64 0, .int .i64 0, .int .i64 0, .int .i64 0, .int .i64 0, .int .i64 0, .bool false, .bool false, .int .i64 0, .int .i64 0] 23)) HB.out.size)
    clear hb HI
    go_wp2_with fail
    refine (copy_len _ _ _ ((recB r).set p a2) _ HO.out.row (by rw [List.length_set, length_recB])).mono ?_
    rintro e x6 ⟨g2, rfl, hg, hown, hb⟩
    have HS2 := hide (Nat.le_trans HB.out.size hg)
    replace HB := hide (over HB.out hb HB.out.size)
    have HO2 := hide hown
    have hc := hown.cell p (by rw [List.length_set, length_recB]; exact hp40)
    have hfz := hown.frozen p
    clear hg hown hb HO
    go_wp2_with fail
    clear hc hfz
    replace HB := hide (HB.out.setCell (p := ⟨g2, p, none⟩) HS2.out (.int .u8 0))
    replace HO2 := hide (HO2.out.stored p 0 (by omega) (by omega))
    rw [set_getD (recB r) p a2 0 (by rw [length_recB]; exact hp40) (rec_getD r p HP.out)] at HO2
    obtain ⟨Y, hY⟩ : ∃ Y, Y = x6.setCell ⟨g2, p, none⟩ (.int .u8 0) := ⟨_, rfl⟩
    rw [← hY] at HB HO2 ⊢
    clear hY
    refine (read_ok _ _ (recB r) _ HO2.out.row (HW.out.step HB.out) (length_recB r) (isRec_recB r HG.out HF.out)).mono ?_
    rintro e x7 ⟨rfl, hb⟩
    rw [parts_recB r HG.out HF.out]
    replace HO2 := hide ((HO2.out.below hb (Nat.le_refl _)).below (below_box x7 (recCells r)) (Nat.le_refl _))
    replace HB := hide (over HB.out hb HB.out.size)
    replace HB := hide (over HB.out (below_box x7 (recCells r)) HB.out.size)
    clear hb
    unfold recCells at HO2 HB
    unfold R.val
    have hc := HO2.out.cell 1 (by rw [length_recB]; omega)
    have hfz := HO2.out.frozen 1
    rw [rec_mark r] at hc
    have hm := markB_bd r
    obtain ⟨m, hme⟩ : ∃ m, m = markB r := ⟨_, rfl⟩
    rw [← hme] at hc hm
    have HM := hide hm
    clear hme hm
    go_wp2_with fail
    clear hc hfz
    rw [or_four m HM.out.1 HM.out.2]
    have HI := hide (isRec_mark ((recB r).set 1 (m + 4)) (by rw [show (1 : Int) = ((1 : Nat) : Int) from rfl, byteAt_set _ _ _ (by rw [length_recB]; omega)]; have := HM.out.1; omega))
    replace HB := hide (HB.out.setCell (p := ⟨g2, 1, none⟩) HS2.out (.int .u8 (m + 4)))
    replace HO2 := hide (HO2.out.stored 1 (m + 4) (by have := HM.out; omega) (by have := HM.out; omega))
    refine (read_bad _ _ ((recB r).set 1 (m + 4)) _ HO2.out.row (HW.out.step HB.out) (by rw [List.length_set, length_recB]) HI.out).mono ?_
    rintro e x8 ⟨rfl, hb⟩
    rw [noRec_val]
    unfold errV
    replace HB := hide (over HB.out hb HB.out.size)
    replace HB := hide (over HB.out (below_box x8 (.cells #[.int .i64 0, .int .i64 0, .int .i64 0, .int .i64 0, .int .i64 0, .int .i64 0, .bool false, .bool false, .int .i64 0, .int .i64 0] 23)) HB.out.size)
    clear hb
    go_wp2_with fail
    go_ret
    exact ⟨rfl, HB.out⟩
  · have hd1 : decide ((60 : Int) < (len0 : Int)) = true ∨ decide ((60 : Int) < (len0 : Int)) = false ∧ (a2 == 0) = true := by simp; omega
    rcases hd1 with hd1 | ⟨hd1, hd2⟩
    all_goals
      clear hl
      go_enter Tryd.func7, Tryd.ntmps7
      go_wp2_with fail
      refine (rfirst_any _ _ HE.out.range).mono ?_
      rintro e x1 ⟨rfl, hb⟩
      have HB := hide hb
      clear hb
      go_wp2_with fail
      go_ret
      exact ⟨rfl, HB.out⟩
end Go.Proofs.YtimajndclhmanaaDoor.recZeros
