
/- What the document's own Redo answers of a change that is to be done (with a value). -/
import Derived.Test.YtefgmlmhdjckaaaDoorOwnPgRedo
namespace Go.Proofs.YtefgmlmhdjckaaaDoor
open Go.RowKit
set_option linter.unusedVariables false

set_option maxRecDepth 100000 in
set_option maxHeartbeats 8000000 in
theorem rredo_has (lsnP lsn : Int) (ao : Option Addr) (n c : Nat) (es : List (Int × Int)) (r : R) (w : World) (h : EntRow w ao es) (hu : Up es) (hn : es.length = n) (hn9 : n ≤ 100) (hch : isChg r = true) (hlt : lsnP < lsn) (hhas : r.has = true) (hcan : canPut es r.key = true) :
    Calls Tryd.prog 33 #[pageV lsnP ao n c, .int .i64 lsn, r.val] w fun e w' => ∃ ao' m c', e = .returned (.tuple #[pageV lsn ao' m c', .bool true, .int .i64 0]) ∧ (doneE r es).length = m ∧ OwnE w' w.heap.size ao' c' (doneE r es) ∧ Below w.heap.size w w' := by
  obtain ⟨X, hX, hp, hc, hz, hrow, hb⟩ := boxes3 w lsnP ao n c r h
  have HX := hide hX
  obtain ⟨B3, hB3⟩ : ∃ B3, B3 = w.heap.size := ⟨_, rfl⟩
  have HB3 := hide hB3
  rw [← hB3] at hp hc hz
  obtain ⟨B4, hB4⟩ : ∃ B4, B4 = B3 + 1 := ⟨_, rfl⟩
  have HB4 := hide hB4
  rw [← hB4] at hc hz
  obtain ⟨B5, hB5⟩ : ∃ B5, B5 = B4 + 1 := ⟨_, rfl⟩
  have HB5 := hide hB5
  rw [← hB5] at hz
  have HLO : Hid (w.heap.size ≤ B5) := by show w.heap.size ≤ B5; omega
  have HLX := hide hb.size
  have HP := hide hp
  have HC := hide hc
  have HZ := hide hz
  have HR := hide hrow
  have HB := hide hb
  have HN := hide hn
  have hkk : isChg r = true → r.kind = 2 ∨ r.kind = 3 := by
    intro h
    unfold isChg at h
    rw [Bool.or_eq_true, decide_eq_true_eq, decide_eq_true_eq] at h
    exact h
  have hkk2 : isChg r = false → ¬ r.kind = 2 ∧ ¬ r.kind = 3 := by
    intro h
    unfold isChg at h
    rw [Bool.or_eq_false_iff, decide_eq_false_iff_not, decide_eq_false_iff_not] at h
    exact h
  have HHAS := hide hhas
  have HUP := hide hu
  have hle : decide (lsn ≤ lsnP) = false := by simp; omega
  have HCAN := hide hcan
  have HDE : Hid (doneE r es = insE r.key r.new es) := by show _ = _; unfold doneE putE; rw [hhas, hcan]; simp
  have hk23 := hkk hch
  clear hX hp hc hz hrow hb hB3 hB4 hB5 h hu hn hch hkk hkk2 hhas hcan
  obtain ⟨k, b1, b2, b3, b4, key, b6, has, b8, new⟩ := r
  unfold pageBlock recCells at HX
  unfold pageV
  unfold R.val
  simp only at HX hk23 HHAS HCAN HDE ⊢
  have r0 := HC.out.c0
  have r5 := HC.out.c5
  have r7 := HC.out.c7
  have r9 := HC.out.c9
  simp only at r0 r5 r7 r9
  have k0 := HP.out.c0
  have k1 := HP.out.c1
  have hhas := HHAS.out
  subst hhas
  clear HHAS
  rcases hk23 with h2 | h2
  all_goals
    subst h2
    go_enter Tryd.func33, Tryd.ntmps33
    go_upto_region 1 with fail
    rw [← HX.out, ← HB3.out, ← HB4.out, ← HB5.out]
    go_upto_region 3 with fail
    go_wp2_with fail
    refine (rrem_any lsnP ao n c es key _ HR.out HN.out (by omega)).mono ?_
    rintro e x1 ⟨aO, mO, cO, rfl, hmO, hoO, hb⟩
    obtain ⟨bO, hbO⟩ : ∃ bO, bO = hasE es key := ⟨_, rfl⟩
    rw [← hbO]
    have HMO := hide hmO
    have HOO := hide hoO
    clear hmO hoO hbO k0 k1 r0 r5 r7 r9
    replace HB := hide (over HB.out hb HB.out.size)
    replace HP := hide (HP.out.step hb)
    replace HC := hide (HC.out.step hb)
    replace HZ := hide (HZ.out.step hb)
    replace HR := hide (HR.out.step hb)
    have HLO1 : Hid (w.heap.size ≤ x1.heap.size) := HB.out.size
    have HNO : Hid (x1.heap.size ≠ B5) := by show _ ≠ B5; have h1 := HZ.out.lt; omega
    clear hb
    unfold pageV
    have hbx := below_box x1 (pageBlock lsnP aO mO cO)
    have HO := hide (pblk_new x1 lsnP aO mO cO)
    replace HB := hide (over HB.out hbx HB.out.size)
    replace HP := hide (HP.out.step hbx)
    replace HC := hide (HC.out.step hbx)
    replace HZ := hide (HZ.out.step hbx)
    replace HR := hide (HR.out.step hbx)
    replace HOO := hide (HOO.out.step hbx)
    unfold pageBlock at HB HP HC HZ HR HOO HO
    clear hbx
    go_upto_region 4 with fail
    obtain ⟨O, hO⟩ : ∃ O, O = x1.heap.size := ⟨_, rfl⟩
    rw [← hO] at HO HLO1 HNO ⊢
    obtain ⟨Y1, hY1⟩ : ∃ Y1, Y1 = x1.alloc (.cells #[.int .i64 lsnP, .slice aO mO cO] 24) := ⟨_, rfl⟩
    rw [← hY1] at HB HP HC HZ HR HOO HO ⊢
    clear hY1
    clear hO
    have HLY : Hid (w.heap.size ≤ Y1.heap.size) := HB.out.size
    have r0 := HC.out.c0
    have r5 := HC.out.c5
    have r7 := HC.out.c7
    have r9 := HC.out.c9
    simp only at r0 r5 r7 r9
    have k0 := HP.out.c0
    have k1 := HP.out.c1
    go_wp2_with fail
    refine (rput_any lsnP ao n c es key new _ HR.out HUP.out HN.out (by omega)).mono ?_
    rintro e x2 hpp
    unfold PutPost at hpp
    obtain ⟨aU, mU, cU, rfl, hmU, hoU, hb⟩ := hpp
    unfold putE at hmU hoU
    rw [HCAN.out, if_pos rfl] at hmU hoU
    unfold putL
    rw [HCAN.out, if_pos rfl]
    have HMU := hide hmU
    have HOU := hide hoU
    clear hmU hoU k0 k1 r0 r5 r7 r9
    replace HB := hide (over HB.out hb HB.out.size)
    replace HP := hide (HP.out.step hb)
    replace HC := hide (HC.out.step hb)
    replace HZ := hide (HZ.out.step hb)
    replace HR := hide (HR.out.step hb)
    replace HOO := hide (HOO.out.step hb)
    replace HO := hide (HO.out.step hb)
    have HNU : Hid (x2.heap.size ≠ O ∧ x2.heap.size ≠ B5) := ⟨by have h1 := HO.out.lt; omega, by have h1 := HZ.out.lt; omega⟩
    clear hb
    unfold pageV
    have hbx := below_box x2 (pageBlock lsnP aU mU cU)
    have HU := hide (pblk_new x2 lsnP aU mU cU)
    replace HB := hide (over HB.out hbx HB.out.size)
    replace HP := hide (HP.out.step hbx)
    replace HC := hide (HC.out.step hbx)
    replace HZ := hide (HZ.out.step hbx)
    replace HR := hide (HR.out.step hbx)
    replace HOO := hide (HOO.out.step hbx)
    replace HO := hide (HO.out.step hbx)
    replace HOU := hide (HOU.out.step hbx)
    unfold pageBlock at HB HP HC HZ HR HOO HO HOU HU
    clear hbx
    go_upto_region 6 with fail
    obtain ⟨U, hU⟩ : ∃ U, U = x2.heap.size := ⟨_, rfl⟩
    rw [← hU] at HU HNU ⊢
    obtain ⟨Y2, hY2⟩ : ∃ Y2, Y2 = x2.alloc (.cells #[.int .i64 lsnP, .slice aU mU cU] 24) := ⟨_, rfl⟩
    rw [← hY2] at HB HP HC HZ HR HOO HO HOU HU ⊢
    clear hY2
    clear hU
    have u0 := HU.out.c0
    have u1 := HU.out.c1
    have o0 := HO.out.c0
    have o1 := HO.out.c1
    have f0 := HO.out.fz 0
    have f1 := HO.out.fz 1
    go_upto_region 9 with fail
    clear u0 u1 o0 o1 f0 f1
    have HZ2 := hide ((HZ.out.far HNO.out 0 (.int .i64 lsnP)).far HNO.out 1 (.slice aU mU cU))
    have HOU2 := hide ((HOU.out.setPage HO.out 0 (.int .i64 lsnP)).setPage (set_block HO.out 0 _) 1 (.slice aU mU cU))
    have HB2 := hide ((HB.out.setCell (p := ⟨O, 0, none⟩) HLO1.out (.int .i64 lsnP)).setCell (p := ⟨O, 1, none⟩) HLO1.out (.slice aU mU cU))
    have HO2 := hide (HO.out.put lsnP aU mU cU)
    obtain ⟨Z, hZ⟩ : ∃ Z, Z = (Y2.setCell ⟨O, 0, none⟩ (.int .i64 lsnP)).setCell ⟨O, 1, none⟩ (.slice aU mU cU) := ⟨_, rfl⟩
    rw [← hZ] at HZ2 HOU2 HB2 HO2 ⊢
    clear hZ HZ HOU HB HO
    have o0 := HO2.out.c0
    have g0 := HO2.out.fz 0
    go_upto_region 10 with fail
    clear o0 g0
    have HZ3 := hide (HZ2.out.far HNO.out 0 (.int .i64 lsn))
    have HOW3 := hide (HOU2.out.setPage HO2.out 0 (.int .i64 lsn))
    have HB3' := hide (HB2.out.setCell (p := ⟨O, 0, none⟩) HLO1.out (.int .i64 lsn))
    have HO3 := hide (HO2.out.putL lsn)
    obtain ⟨V, hV⟩ : ∃ V, V = Z.setCell ⟨O, 0, none⟩ (.int .i64 lsn) := ⟨_, rfl⟩
    rw [← hV] at HZ3 HOW3 HB3' HO3 ⊢
    clear hV
    have o0 := HO3.out.c0
    have o1 := HO3.out.c1
    have z0 := HZ3.out.c0
    have z1 := HZ3.out.c1
    have g0 := HZ3.out.fz 0
    have g1 := HZ3.out.fz 1
    go_wp2_with fail
    exact bodyPost_ret (v := .tuple #[.agg #[.int .i64 lsn, .slice aU mU cU], .bool true, .int .i64 0]) (by simp [results, Tryd.results33, go_sem, *]) rfl ⟨aU, mU, cU, rfl, by rw [HDE.out]; exact HMU.out, by rw [HDE.out]; exact ((HOW3.out.mono HLY.out).setPage HZ3.out 0 _).setPage (set_block HZ3.out 0 _) 1 _, (HB3'.out.setCell (p := ⟨B5, 0, none⟩) HLO.out _).setCell (p := ⟨B5, 1, none⟩) HLO.out _⟩
end Go.Proofs.YtefgmlmhdjckaaaDoor
