
/- What the document's own Redo answers of a change that is to be done (without a value). -/
import Derived.Test.YtefgmlmhdjckaaaDoorOwnPgRedo
namespace Go.Proofs.YtefgmlmhdjckaaaDoor
open Go.RowKit
set_option linter.unusedVariables false

set_option maxRecDepth 100000 in
set_option maxHeartbeats 8000000 in
theorem rredo_del (lsnP lsn : Int) (ao : Option Addr) (n c : Nat) (es : List (Int × Int)) (r : R) (w : World) (h : EntRow w ao es) (hu : Up es) (hn : es.length = n) (hn9 : n ≤ 100) (hch : isChg r = true) (hlt : lsnP < lsn) (hhas : r.has = false) :
    Calls Tryd.prog 33 #[pageV lsnP ao n c, .int .i64 lsn, r.val] w fun e w' => ∃ ao' m c', e = .returned (.tuple #[pageV lsn ao' m c', .bool true, .int .i64 0]) ∧ (doneE r es).length = m ∧ OwnE w' w.heap.size ao' c' (doneE r es) ∧ Below w.heap.size w w' := by
  obtain ⟨X, hX, hp, hc, hz, hrow, hb⟩ := boxes3 w lsnP ao n c r h
  have HX := hide hX
  obtain ⟨B3, hB3⟩ : ∃ B3, B3 = w.heap.size := ⟨_, rfl⟩
  have HB3 := hide hB3
  rw [← hB3] at hp hc hz
  obtain ⟨B4, hB4⟩ : ∃ B4, B4 = B3 + 1 := ⟨_, rfl⟩
  have HB4 := hide hB4
  rw [← hB4] at hc hz
  obtain ⟨B5, hB5⟩ : ∃ B5, B5 = B4 + 1 := ⟨_, rfl⟩
  have HB5 := hide hB5
  rw [← hB5] at hz
  have HLO : Hid (w.heap.size ≤ B5) := by show w.heap.size ≤ B5; omega
  have HLX := hide hb.size
  have HP := hide hp
  have HC := hide hc
  have HZ := hide hz
  have HR := hide hrow
  have HB := hide hb
  have HN := hide hn
  have hkk : isChg r = true → r.kind = 2 ∨ r.kind = 3 := by
    intro h
    unfold isChg at h
    rw [Bool.or_eq_true, decide_eq_true_eq, decide_eq_true_eq] at h
    exact h
  have hkk2 : isChg r = false → ¬ r.kind = 2 ∧ ¬ r.kind = 3 := by
    intro h
    unfold isChg at h
    rw [Bool.or_eq_false_iff, decide_eq_false_iff_not, decide_eq_false_iff_not] at h
    exact h
  have HHAS := hide hhas
  have HUP := hide hu
  have hle : decide (lsn ≤ lsnP) = false := by simp; omega
  have HDE : Hid (doneE r es = remE r.key es) := by show _ = _; unfold doneE; rw [hhas]; simp
  have hk23 := hkk hch
  clear hX hp hc hz hrow hb hB3 hB4 hB5 h hu hn hch hkk hkk2 hhas
  obtain ⟨k, b1, b2, b3, b4, key, b6, has, b8, new⟩ := r
  unfold pageBlock recCells at HX
  unfold pageV
  unfold R.val
  simp only at HX hk23 HHAS HDE ⊢
  have r0 := HC.out.c0
  have r5 := HC.out.c5
  have r7 := HC.out.c7
  have r9 := HC.out.c9
  simp only at r0 r5 r7 r9
  have k0 := HP.out.c0
  have k1 := HP.out.c1
  have hhas := HHAS.out
  subst hhas
  clear HHAS
  rcases hk23 with h2 | h2
  all_goals
    subst h2
    go_enter Tryd.func33, Tryd.ntmps33
    go_upto_region 1 with fail
    rw [← HX.out, ← HB3.out, ← HB4.out, ← HB5.out]
    go_upto_region 3 with fail
    go_wp2_with fail
    refine (rrem_any lsnP ao n c es key _ HR.out HN.out (by omega)).mono ?_
    rintro e x1 ⟨aO, mO, cO, rfl, hmO, hoO, hb⟩
    obtain ⟨bO, hbO⟩ : ∃ bO, bO = hasE es key := ⟨_, rfl⟩
    rw [← hbO]
    have HMO := hide hmO
    have HOO := hide hoO
    clear hmO hoO hbO k0 k1 r0 r5 r7 r9
    replace HB := hide (over HB.out hb HB.out.size)
    replace HP := hide (HP.out.step hb)
    replace HC := hide (HC.out.step hb)
    replace HZ := hide (HZ.out.step hb)
    replace HR := hide (HR.out.step hb)
    have HLO1 : Hid (w.heap.size ≤ x1.heap.size) := HB.out.size
    have HNO : Hid (x1.heap.size ≠ B5) := by show _ ≠ B5; have h1 := HZ.out.lt; omega
    clear hb
    unfold pageV
    have hbx := below_box x1 (pageBlock lsnP aO mO cO)
    have HO := hide (pblk_new x1 lsnP aO mO cO)
    replace HB := hide (over HB.out hbx HB.out.size)
    replace HP := hide (HP.out.step hbx)
    replace HC := hide (HC.out.step hbx)
    replace HZ := hide (HZ.out.step hbx)
    replace HR := hide (HR.out.step hbx)
    replace HOO := hide (HOO.out.step hbx)
    unfold pageBlock at HB HP HC HZ HR HOO HO
    clear hbx
    go_upto_region 4 with fail
    obtain ⟨O, hO⟩ : ∃ O, O = x1.heap.size := ⟨_, rfl⟩
    rw [← hO] at HO HLO1 HNO ⊢
    obtain ⟨Y1, hY1⟩ : ∃ Y1, Y1 = x1.alloc (.cells #[.int .i64 lsnP, .slice aO mO cO] 24) := ⟨_, rfl⟩
    rw [← hY1] at HB HP HC HZ HR HOO HO ⊢
    clear hY1
    clear hO
    have r7 := HC.out.c7
    simp only at r7
    go_upto_region 9 with fail
    clear r7
    have o0 := HO.out.c0
    have g0 := HO.out.fz 0
    go_upto_region 10 with fail
    clear o0 g0
    have HZ3 := hide (HZ.out.far HNO.out 0 (.int .i64 lsn))
    have HOW3 := hide (HOO.out.setPage HO.out 0 (.int .i64 lsn))
    have HB3' := hide (HB.out.setCell (p := ⟨O, 0, none⟩) HLO1.out (.int .i64 lsn))
    have HO3 := hide (HO.out.putL lsn)
    obtain ⟨V, hV⟩ : ∃ V, V = Y1.setCell ⟨O, 0, none⟩ (.int .i64 lsn) := ⟨_, rfl⟩
    rw [← hV] at HZ3 HOW3 HB3' HO3 ⊢
    clear hV
    have o0 := HO3.out.c0
    have o1 := HO3.out.c1
    have z0 := HZ3.out.c0
    have z1 := HZ3.out.c1
    have g0 := HZ3.out.fz 0
    have g1 := HZ3.out.fz 1
    go_wp2_with fail
    exact bodyPost_ret (v := .tuple #[.agg #[.int .i64 lsn, .slice aO mO cO], .bool true, .int .i64 0]) (by simp [results, Tryd.results33, go_sem, *]) rfl ⟨aO, mO, cO, rfl, by rw [HDE.out]; exact HMO.out, by rw [HDE.out]; exact ((HOW3.out.mono HLX.out).setPage HZ3.out 0 _).setPage (set_block HZ3.out 0 _) 1 _, (HB3'.out.setCell (p := ⟨B5, 0, none⟩) HLO.out _).setCell (p := ⟨B5, 1, none⟩) HLO.out _⟩
end Go.Proofs.YtefgmlmhdjckaaaDoor
