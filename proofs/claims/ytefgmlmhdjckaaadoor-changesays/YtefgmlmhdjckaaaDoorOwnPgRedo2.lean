
/- What change.Redo answers of a change that is to be done: the page behind it, or ErrPage. -/
import Derived.Test.YtefgmlmhdjckaaaDoorOwnPgRedo
namespace Go.Proofs.YtefgmlmhdjckaaaDoor
open Go.RowKit
set_option linter.unusedVariables false

set_option maxRecDepth 100000 in
set_option maxHeartbeats 4000000 in
theorem redo_yes (lsnP lsn : Int) (ao : Option Addr) (n c : Nat) (es : List (Int × Int)) (r : R) (w : World) (h : EntRow w ao es) (hu : Up es) (hn : es.length = n) (hch : isChg r = true) (hlt : lsnP < lsn) (hok : okD r es = true) :
    Calls Tryd.prog 32 #[pageV lsnP ao n c, .int .i64 lsn, r.val] w fun e w' => ∃ ao' m c', e = .returned (.tuple #[pageV lsn ao' m c', .bool true, .nilIface]) ∧ (doneE r es).length = m ∧ OwnE w' w.heap.size ao' c' (doneE r es) ∧ Below w.heap.size w w' := by
  obtain ⟨X, hX, hp, hc, hz, hrow, hb⟩ := boxes3 w lsnP ao n c r h
  have HX := hide hX
  obtain ⟨B3, hB3⟩ : ∃ B3, B3 = w.heap.size := ⟨_, rfl⟩
  have HB3 := hide hB3
  rw [← hB3] at hp hc hz
  obtain ⟨B4, hB4⟩ : ∃ B4, B4 = B3 + 1 := ⟨_, rfl⟩
  have HB4 := hide hB4
  rw [← hB4] at hc hz
  obtain ⟨B5, hB5⟩ : ∃ B5, B5 = B4 + 1 := ⟨_, rfl⟩
  have HB5 := hide hB5
  rw [← hB5] at hz
  have HLO : Hid (w.heap.size ≤ B5) := by show w.heap.size ≤ B5; omega
  have HLX := hide hb.size
  have HP := hide hp
  have HC := hide hc
  have HZ := hide hz
  have HB := hide hb
  have HCH := hide (pgchg_any r X)
  rw [hch] at HCH
  have HDONE : Hid (∀ x, Below X.heap.size X x → Calls Tryd.prog 54 #[pageV lsnP ao n c, r.val] x (DonePost x lsnP es r)) := fun x hb => done_any lsnP ao n c es r x (hrow.step hb) hu hn
  have hle : decide (lsn ≤ lsnP) = false := by simp; omega
  obtain ⟨L, hL⟩ : ∃ L, L = doneL lsnP r es := ⟨_, rfl⟩
  obtain ⟨ok, hokk⟩ : ∃ ok, ok = okD r es := ⟨_, rfl⟩
  obtain ⟨E, hE⟩ : ∃ E, E = doneE r es := ⟨_, rfl⟩
  have HPOST : Hid (∀ x e w', DonePost x lsnP es r e w' → ∃ ao' m c', e = .returned (.tuple #[pageV L ao' m c', .bool ok]) ∧ E.length = m ∧ OwnE w' x.heap.size ao' c' E ∧ Below x.heap.size x w') := by
    rintro x e w' ⟨a, m, d, h1, h2, h3, h4⟩
    rw [← hL, ← hokk] at h1
    rw [← hE] at h2 h3
    exact ⟨a, m, d, h1, h2, h3, h4⟩
  rw [← hokk] at hok
  subst hok
  have HE : Hid (doneE r es = E) := hE.symm
  clear hX hp hc hz hrow hb hB3 hB4 hB5 h hu hn hch hL hE hokk
  obtain ⟨k, b1, b2, b3, b4, b5, b6, b7, b8, b9⟩ := r
  unfold pageBlock recCells at HX
  unfold pageV
  unfold R.val at HCH HDONE ⊢
  simp only at HX HCH HDONE ⊢
  have r0 := HC.out.c0
  have r1 := HC.out.c1
  have r2 := HC.out.c2
  have r3 := HC.out.c3
  have r4 := HC.out.c4
  have r5 := HC.out.c5
  have r6 := HC.out.c6
  have r7 := HC.out.c7
  have r8 := HC.out.c8
  have r9 := HC.out.c9
  simp only at r0 r1 r2 r3 r4 r5 r6 r7 r8 r9
  go_enter Tryd.func32, Tryd.ntmps32
  go_upto_region 1 with fail
  rw [← HX.out, ← HB3.out, ← HB4.out, ← HB5.out]
  clear HX HB3 HB4 HB5
  go_wp2_with fail
  refine HCH.out.mono ?_
  rintro e x1 ⟨rfl, hb⟩
  have HBX := hide hb
  replace HP := hide (HP.out.step hb)
  replace HC := hide (HC.out.step hb)
  replace HZ := hide (HZ.out.step hb)
  replace HB := hide (over HB.out hb HB.out.size)
  clear hb r0 r1 r2 r3 r4 r5 r6 r7 r8 r9 HCH
  have k0 := HP.out.c0
  have k1 := HP.out.c1
  have r0 := HC.out.c0
  have r1 := HC.out.c1
  have r2 := HC.out.c2
  have r3 := HC.out.c3
  have r4 := HC.out.c4
  have r5 := HC.out.c5
  have r6 := HC.out.c6
  have r7 := HC.out.c7
  have r8 := HC.out.c8
  have r9 := HC.out.c9
  simp only at r0 r1 r2 r3 r4 r5 r6 r7 r8 r9
  go_wp2_with fail
  refine (HDONE.out _ HBX.out).mono ?_
  rintro e x2 hpp
  obtain ⟨a, m, d, rfl, hm, ho, hb⟩ := HPOST.out _ _ _ hpp
  clear hpp k0 k1 r0 r1 r2 r3 r4 r5 r6 r7 r8 r9 HDONE HPOST HC HP
  replace HZ := hide (HZ.out.step hb)
  have HO0 := hide (ho.mono HB.out.size)
  replace HB := hide (over HB.out hb HB.out.size)
  have HM := hide hm
  have hbx := below_box x2 (pageBlock L a m d)
  have HQ := hide (pblk_new x2 L a m d)
  have HO := hide (HO0.out.step hbx)
  have HNE : Hid (x2.heap.size ≠ B5) := by show _ ≠ B5; have := HZ.out.lt; omega
  have HLQ : Hid (w.heap.size ≤ x2.heap.size) := HB.out.size
  replace HZ := hide (HZ.out.step hbx)
  replace HB := hide (over HB.out hbx HB.out.size)
  clear hm ho hb hbx HBX HO0
  unfold pageBlock at HQ HO HZ HB
  unfold pageV
  go_upto_region 4 with fail
  obtain ⟨Y, hY⟩ : ∃ Y, Y = x2.alloc (.cells #[.int .i64 L, .slice a m d] 24) := ⟨_, rfl⟩
  rw [← hY] at HQ HO HZ HB ⊢
  clear hY
  obtain ⟨Q, hQ⟩ : ∃ Q, Q = x2.heap.size := ⟨_, rfl⟩
  rw [← hQ] at HQ HNE HLQ ⊢
  clear hQ
  have q0 := HQ.out.c0
  have g0 := HQ.out.fz 0
  go_upto_region 7 with fail
  clear q0 g0
  have HQ2 := hide (HQ.out.putL lsn)
  replace HO := hide (HO.out.setPage HQ.out 0 (.int .i64 lsn))
  replace HZ := hide (HZ.out.far HNE.out 0 (.int .i64 lsn))
  replace HB := hide (HB.out.setCell (p := ⟨Q, 0, none⟩) HLQ.out (.int .i64 lsn))
  obtain ⟨Y2, hY⟩ : ∃ Y2, Y2 = Y.setCell ⟨Q, 0, none⟩ (.int .i64 lsn) := ⟨_, rfl⟩
  rw [← hY] at HQ2 HO HZ HB ⊢
  clear hY HQ
  have q0 := HQ2.out.c0
  have q1 := HQ2.out.c1
  have z0 := HZ.out.c0
  have z1 := HZ.out.c1
  have g0 := HZ.out.fz 0
  have g1 := HZ.out.fz 1
  go_wp2_with fail
  exact bodyPost_ret (v := .tuple #[.agg #[.int .i64 lsn, .slice a m d], .bool true, .nilIface]) (by simp [results, Tryd.results32, go_sem, z0, z1]) rfl ⟨a, m, d, rfl, by rw [HE.out]; exact HM.out, by rw [HE.out]; exact (HO.out.setPage HZ.out 0 _).setPage (set_block HZ.out 0 _) 1 _, (HB.out.setCell (p := ⟨B5, 0, none⟩) HLO.out _).setCell (p := ⟨B5, 1, none⟩) HLO.out _⟩
set_option maxRecDepth 100000 in
set_option maxHeartbeats 4000000 in
theorem redo_no (lsnP lsn : Int) (ao : Option Addr) (n c : Nat) (es : List (Int × Int)) (r : R) (w : World) {z : Addr} (hE0 : w.cell? ⟨2, 0, none⟩ = some (errV z)) (h : EntRow w ao es) (hu : Up es) (hn : es.length = n) (hch : isChg r = true) (hlt : lsnP < lsn) (hok : okD r es = false) :
    Calls Tryd.prog 32 #[pageV lsnP ao n c, .int .i64 lsn, r.val] w fun e w' => e = .returned (.tuple #[pageV 0 none 0 0, .bool false, errV z]) ∧ Below w.heap.size w w' := by
  have HE0 := hide hE0
  have HLT : Hid (2 < w.heap.size) := World.block_lt_of_cell? w _ hE0
  clear hE0
  obtain ⟨X, hX, hp, hc, hz, hrow, hb⟩ := boxes3 w lsnP ao n c r h
  have HX := hide hX
  obtain ⟨B3, hB3⟩ : ∃ B3, B3 = w.heap.size := ⟨_, rfl⟩
  have HB3 := hide hB3
  rw [← hB3] at hp hc hz
  obtain ⟨B4, hB4⟩ : ∃ B4, B4 = B3 + 1 := ⟨_, rfl⟩
  have HB4 := hide hB4
  rw [← hB4] at hc hz
  obtain ⟨B5, hB5⟩ : ∃ B5, B5 = B4 + 1 := ⟨_, rfl⟩
  have HB5 := hide hB5
  rw [← hB5] at hz
  have HLO : Hid (w.heap.size ≤ B5) := by show w.heap.size ≤ B5; omega
  have HLX := hide hb.size
  have HP := hide hp
  have HC := hide hc
  have HZ := hide hz
  have HB := hide hb
  have HCH := hide (pgchg_any r X)
  rw [hch] at HCH
  have HDONE : Hid (∀ x, Below X.heap.size X x → Calls Tryd.prog 54 #[pageV lsnP ao n c, r.val] x (DonePost x lsnP es r)) := fun x hb => done_any lsnP ao n c es r x (hrow.step hb) hu hn
  have hle : decide (lsn ≤ lsnP) = false := by simp; omega
  obtain ⟨L, hL⟩ : ∃ L, L = doneL lsnP r es := ⟨_, rfl⟩
  obtain ⟨ok, hokk⟩ : ∃ ok, ok = okD r es := ⟨_, rfl⟩
  obtain ⟨E, hE⟩ : ∃ E, E = doneE r es := ⟨_, rfl⟩
  have HPOST : Hid (∀ x e w', DonePost x lsnP es r e w' → ∃ ao' m c', e = .returned (.tuple #[pageV L ao' m c', .bool ok]) ∧ E.length = m ∧ OwnE w' x.heap.size ao' c' E ∧ Below x.heap.size x w') := by
    rintro x e w' ⟨a, m, d, h1, h2, h3, h4⟩
    rw [← hL, ← hokk] at h1
    rw [← hE] at h2 h3
    exact ⟨a, m, d, h1, h2, h3, h4⟩
  rw [← hokk] at hok
  subst hok
  clear hX hp hc hz hrow hb hB3 hB4 hB5 h hu hn hch hL hE hokk
  obtain ⟨k, b1, b2, b3, b4, b5, b6, b7, b8, b9⟩ := r
  unfold pageBlock recCells at HX
  unfold pageV
  unfold R.val at HCH HDONE ⊢
  simp only at HX HCH HDONE ⊢
  have r0 := HC.out.c0
  have r1 := HC.out.c1
  have r2 := HC.out.c2
  have r3 := HC.out.c3
  have r4 := HC.out.c4
  have r5 := HC.out.c5
  have r6 := HC.out.c6
  have r7 := HC.out.c7
  have r8 := HC.out.c8
  have r9 := HC.out.c9
  simp only at r0 r1 r2 r3 r4 r5 r6 r7 r8 r9
  go_enter Tryd.func32, Tryd.ntmps32
  go_upto_region 1 with fail
  rw [← HX.out, ← HB3.out, ← HB4.out, ← HB5.out]
  clear HX HB3 HB4 HB5
  go_wp2_with fail
  refine HCH.out.mono ?_
  rintro e x1 ⟨rfl, hb⟩
  have HBX := hide hb
  replace HP := hide (HP.out.step hb)
  replace HC := hide (HC.out.step hb)
  replace HZ := hide (HZ.out.step hb)
  replace HB := hide (over HB.out hb HB.out.size)
  clear hb r0 r1 r2 r3 r4 r5 r6 r7 r8 r9 HCH
  have k0 := HP.out.c0
  have k1 := HP.out.c1
  have r0 := HC.out.c0
  have r1 := HC.out.c1
  have r2 := HC.out.c2
  have r3 := HC.out.c3
  have r4 := HC.out.c4
  have r5 := HC.out.c5
  have r6 := HC.out.c6
  have r7 := HC.out.c7
  have r8 := HC.out.c8
  have r9 := HC.out.c9
  simp only at r0 r1 r2 r3 r4 r5 r6 r7 r8 r9
  go_wp2_with fail
  refine (HDONE.out _ HBX.out).mono ?_
  rintro e x2 hpp
  obtain ⟨a, m, d, rfl, hm, ho, hb⟩ := HPOST.out _ _ _ hpp
  clear hpp k0 k1 r0 r1 r2 r3 r4 r5 r6 r7 r8 r9 HDONE HPOST HC HP
  replace HZ := hide (HZ.out.step hb)
  have HO0 := hide (ho.mono HB.out.size)
  replace HB := hide (over HB.out hb HB.out.size)
  have HM := hide hm
  have hbx := below_box x2 (pageBlock L a m d)
  have HQ := hide (pblk_new x2 L a m d)
  have HO := hide (HO0.out.step hbx)
  have HNE : Hid (x2.heap.size ≠ B5) := by show _ ≠ B5; have := HZ.out.lt; omega
  have HLQ : Hid (w.heap.size ≤ x2.heap.size) := HB.out.size
  replace HZ := hide (HZ.out.step hbx)
  replace HB := hide (over HB.out hbx HB.out.size)
  clear hm ho hb hbx HBX HO0
  unfold pageBlock at HQ HO HZ HB
  unfold pageV
  go_upto_region 4 with fail
  obtain ⟨Y, hY⟩ : ∃ Y, Y = x2.alloc (.cells #[.int .i64 L, .slice a m d] 24) := ⟨_, rfl⟩
  rw [← hY] at HQ HO HZ HB ⊢
  clear hY
  obtain ⟨Q, hQ⟩ : ∃ Q, Q = x2.heap.size := ⟨_, rfl⟩
  rw [← hQ] at HQ HNE HLQ ⊢
  clear hQ
  have e0 := (HB.out.cell (p := ⟨2, 0, none⟩) HLT.out).trans HE0.out
  have hne : ¬ 2 = B5 := by have := HLT.out; have := HLO.out; omega
  have hne2 : ¬ B5 = 2 := fun e => hne e.symm
  have z0 := HZ.out.c0
  have z1 := HZ.out.c1
  have g0 := HZ.out.fz 0
  have g1 := HZ.out.fz 1
  unfold errV at *
  go_wp2_with fail
  go_region
  all_goals
    go_wp2_with fail
    exact bodyPost_ret (v := .tuple #[.agg #[.int .i64 0, .slice none 0 0], .bool false, .iface 111 (.pointer (some z))]) (by simp [results, Tryd.results32, go_sem, *]) rfl ⟨rfl, ((below_drew HB.out).setCell (p := ⟨B5, 0, none⟩) HLO.out _).setCell (p := ⟨B5, 1, none⟩) HLO.out _⟩
end Go.Proofs.YtefgmlmhdjckaaaDoor
