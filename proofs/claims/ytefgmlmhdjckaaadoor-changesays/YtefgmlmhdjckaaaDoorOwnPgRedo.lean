
/- What change.changes, change.done and change.Redo answer. -/
import Derived.Test.YtefgmlmhdjckaaaDoorJoin25
import Derived.Test.YtefgmlmhdjckaaaDoorJoin7
namespace Go.Proofs.YtefgmlmhdjckaaaDoor
open Go.RowKit
set_option linter.unusedVariables false

theorem Cells10.step {w w' : World} {B : Nat} {r : R} (h : Cells10 w B r) (hb : Below w.heap.size w w') : Cells10 w' B r := h.below hb (Nat.le_refl _)
theorem boxes3 (w : World) (lsn : Int) (ao : Option Addr) (n c : Nat) (r : R) {es : List (Int × Int)} (h : EntRow w ao es) : ∃ X, X = ((w.alloc (pageBlock lsn ao n c)).alloc (recCells r)).alloc (pageBlock 0 none 0 0) ∧ PBlk X w.heap.size lsn ao n c ∧ Cells10 X (w.heap.size + 1) r ∧ PBlk X (w.heap.size + 1 + 1) 0 none 0 0 ∧ EntRow X ao es ∧ Below w.heap.size w X := by
  have hb1 := below_box w (pageBlock lsn ao n c)
  have hb2 := below_box (w.alloc (pageBlock lsn ao n c)) (recCells r)
  have hb3 := below_box ((w.alloc (pageBlock lsn ao n c)).alloc (recCells r)) (pageBlock 0 none 0 0)
  have hs1 : (w.alloc (pageBlock lsn ao n c)).heap.size = w.heap.size + 1 := by simp
  have hs2 : ((w.alloc (pageBlock lsn ao n c)).alloc (recCells r)).heap.size = w.heap.size + 1 + 1 := by simp
  have hb := over (over hb1 hb2 hb1.size) hb3 (over hb1 hb2 hb1.size).size
  have hr := cells10_new (w.alloc (pageBlock lsn ao n c)) r
  have hz := pblk_new ((w.alloc (pageBlock lsn ao n c)).alloc (recCells r)) 0 none 0 0
  rw [hs1] at hr
  rw [hs2] at hz
  exact ⟨_, rfl, ((pblk_new w lsn ao n c).step hb2).step hb3, hr.step hb3, hz, h.below hb (Nat.le_refl _), hb⟩
/-- Is a record a change? -/
def isChg (r : R) : Bool := decide (r.kind = 2) || decide (r.kind = 3)
set_option maxRecDepth 100000 in
set_option maxHeartbeats 1000000 in
theorem pgchg_any (r : R) (w : World) : Calls Tryd.prog 53 #[r.val] w fun e w' => e = .returned (.bool (isChg r)) ∧ Below w.heap.size w w' := by
  obtain ⟨k, a1, a2, a3, a4, a5, a6, a7, a8, a9⟩ := r
  have HB := hide (below_box w (recCells ⟨k, a1, a2, a3, a4, a5, a6, a7, a8, a9⟩))
  unfold recCells at HB
  unfold R.val
  simp only at HB ⊢
  by_cases h2 : k = 2
  · have HV : Hid (isChg ⟨k, a1, a2, a3, a4, a5, a6, a7, a8, a9⟩ = true) := by show _ = _; simp [isChg, h2]
    subst h2
    go_enter Tryd.func53, Tryd.ntmps53
    go_wp2_with fail
    go_ret
    exact ⟨ret_bool HV.out.symm, below_box w _⟩
  · have h2' : (k == 2) = false := by simpa using h2
    by_cases h3 : k = 3
    · have HV : Hid (isChg ⟨k, a1, a2, a3, a4, a5, a6, a7, a8, a9⟩ = true) := by show _ = _; simp [isChg, h3]
      subst h3
      go_enter Tryd.func53, Tryd.ntmps53
      go_wp2_with fail
      go_ret
      exact ⟨ret_bool HV.out.symm, below_box w _⟩
    · have h3' : (k == 3) = false := by simpa using h3
      have HV : Hid (isChg ⟨k, a1, a2, a3, a4, a5, a6, a7, a8, a9⟩ = false) := by show _ = _; simp [isChg, h2, h3]
      go_enter Tryd.func53, Tryd.ntmps53
      go_wp2_with fail
      go_ret
      exact ⟨ret_bool HV.out.symm, below_box w _⟩
/-- What a change makes of a page. -/
def okD (r : R) (es : List (Int × Int)) : Bool := !r.has || canPut es r.key
def doneL (lsn : Int) (r : R) (es : List (Int × Int)) : Int := if r.has = true then putL lsn es r.key else lsn
def doneE (r : R) (es : List (Int × Int)) : List (Int × Int) := if r.has = true then putE es r.key r.new else remE r.key es
def DonePost (w : World) (lsn : Int) (es : List (Int × Int)) (r : R) (e : Ending) (w' : World) : Prop := ∃ ao' m c', e = .returned (.tuple #[pageV (doneL lsn r es) ao' m c', .bool (okD r es)]) ∧ (doneE r es).length = m ∧ OwnE w' w.heap.size ao' c' (doneE r es) ∧ Below w.heap.size w w'
set_option maxRecDepth 100000 in
set_option maxHeartbeats 2000000 in
theorem done_any (lsn : Int) (ao : Option Addr) (n c : Nat) (es : List (Int × Int)) (r : R) (w : World) (h : EntRow w ao es) (hu : Up es) (hn : es.length = n) :
    Calls Tryd.prog 54 #[pageV lsn ao n c, r.val] w (DonePost w lsn es r) := by
  obtain ⟨X, hX, hp, hc, hz, hrow, hb⟩ := boxes3 w lsn ao n c r h
  have HX := hide hX
  obtain ⟨B3, hB3⟩ : ∃ B3, B3 = w.heap.size := ⟨_, rfl⟩
  have HB3 := hide hB3
  rw [← hB3] at hp hc hz
  obtain ⟨B4, hB4⟩ : ∃ B4, B4 = B3 + 1 := ⟨_, rfl⟩
  have HB4 := hide hB4
  rw [← hB4] at hc hz
  obtain ⟨B5, hB5⟩ : ∃ B5, B5 = B4 + 1 := ⟨_, rfl⟩
  have HB5 := hide hB5
  rw [← hB5] at hz
  have HLO : Hid (w.heap.size ≤ B5) := by show w.heap.size ≤ B5; omega
  have HLX := hide hb.size
  have HP := hide hp
  have HC := hide hc
  have HZ := hide hz
  have HB := hide hb
  cases hhas : r.has with
  | true =>
    have HPOST : Hid (∀ e w', PutPost X lsn es r.key r.new e w' → ∃ ao' m c', e = .returned (.tuple #[pageV (doneL lsn r es) ao' m c', .bool (okD r es)]) ∧ (doneE r es).length = m ∧ OwnE w' w.heap.size ao' c' (doneE r es) ∧ Below X.heap.size X w') := by
      rintro e w' ⟨a, m, d, rfl, hm, ho, hb⟩
      unfold doneL doneE okD
      rw [hhas, if_pos rfl, if_pos rfl]
      exact ⟨a, m, d, rfl, hm, ho.mono HLX.out, hb⟩
    have HPUT := hide (pput_any lsn ao n c es r.key r.new X hrow hu hn)
    clear hX hp hc hz hrow hb hB3 hB4 hB5 h hu hn
    obtain ⟨k, b1, b2, b3, b4, key, b6, has, b8, new⟩ := r
    simp only at hhas HPOST HPUT
    subst hhas
    unfold pageBlock recCells at HX
    unfold pageV R.val DonePost
    simp only at HX ⊢
    go_enter Tryd.func54, Tryd.ntmps54
    go_upto_region 1 with fail
    rw [← HX.out, ← HB3.out, ← HB4.out, ← HB5.out]
    clear HX HB3 HB4 HB5
    have k0 := HP.out.c0
    have k1 := HP.out.c1
    have r5 := HC.out.c5
    have r7 := HC.out.c7
    have r9 := HC.out.c9
    simp only at r5 r7 r9
    go_wp2_with fail
    refine HPUT.out.mono ?_
    rintro e x1 hpp
    obtain ⟨a, m, d, rfl, hm, ho, hb⟩ := HPOST.out e x1 hpp
    replace HZ := hide (HZ.out.step hb)
    replace HB := hide (over HB.out hb HB.out.size)
    have HO := hide ho
    have HM := hide hm
    clear hpp hm ho hb k0 k1 r5 r7 r9 HPUT HPOST
    have z0 := HZ.out.c0
    have z1 := HZ.out.c1
    have g0 := HZ.out.fz 0
    have g1 := HZ.out.fz 1
    unfold pageV
    go_wp2_with fail
    exact bodyPost_ret (by simp [results, Tryd.results54, go_sem, z0, z1]; rfl) rfl ⟨a, m, d, rfl, HM.out, (HO.out.setPage HZ.out 0 _).setPage (set_block HZ.out 0 _) 1 _, (HB.out.setCell (p := ⟨B5, 0, none⟩) HLO.out _).setCell (p := ⟨B5, 1, none⟩) HLO.out _⟩
  | false =>
    have HREM : Hid (Calls Tryd.prog 27 #[pageV lsn ao n c, .int .i64 r.key] X fun e w' => ∃ ao' m c', e = .returned (.tuple #[pageV (doneL lsn r es) ao' m c', .bool (hasE es r.key)]) ∧ (doneE r es).length = m ∧ OwnE w' w.heap.size ao' c' (doneE r es) ∧ Below X.heap.size X w') := by
      unfold doneL doneE
      rw [hhas, if_neg (by simp), if_neg (by simp)]
      refine (rem_any lsn ao n c es r.key X hrow hn).mono ?_
      rintro e w' ⟨a, m, d, rfl, hm, ho, hb⟩
      exact ⟨a, m, d, rfl, hm, ho.mono HLX.out, hb⟩
    have HOKD : Hid (okD r es = true) := by show _ = _; unfold okD; rw [hhas]; rfl
    clear hX hp hc hz hrow hb hB3 hB4 hB5 h hu hn
    obtain ⟨k, b1, b2, b3, b4, key, b6, has, b8, new⟩ := r
    simp only at hhas HREM
    subst hhas
    unfold pageBlock recCells at HX
    unfold pageV R.val DonePost
    simp only at HX ⊢
    rw [HOKD.out]
    go_enter Tryd.func54, Tryd.ntmps54
    go_upto_region 1 with fail
    rw [← HX.out, ← HB3.out, ← HB4.out, ← HB5.out]
    clear HX HB3 HB4 HB5
    have k0 := HP.out.c0
    have k1 := HP.out.c1
    have r5 := HC.out.c5
    have r7 := HC.out.c7
    simp only at r5 r7
    go_wp2_with fail
    refine HREM.out.mono ?_
    rintro e x1 ⟨a, m, d, rfl, hm, ho, hb⟩
    obtain ⟨L, hL⟩ : ∃ L, L = doneL lsn ⟨k, b1, b2, b3, b4, key, b6, false, b8, new⟩ es := ⟨_, rfl⟩
    obtain ⟨bh, hbh⟩ : ∃ bh, bh = hasE es key := ⟨_, rfl⟩
    rw [← hL, ← hbh]
    have HL := hide hL
    have HZ0 := HZ.out.lt
    replace HZ := hide (HZ.out.step hb)
    replace HB := hide (over HB.out hb HB.out.size)
    have hbx := below_box x1 (pageBlock L a m d)
    have HQ := hide (pblk_new x1 L a m d)
    have HO := hide (ho.step hbx)
    have HM := hide hm
    have HNE : Hid (x1.heap.size ≠ B5) := by show _ ≠ B5; have := HZ.out.lt; omega
    replace HZ := hide (HZ.out.step hbx)
    replace HB := hide (over HB.out hbx HB.out.size)
    unfold pageBlock at HQ HO HZ HB
    clear hm ho hb hbx k0 k1 r5 r7 HREM hL hbh HZ0
    unfold pageV
    go_upto_region 4 with fail
    obtain ⟨Y, hY⟩ : ∃ Y, Y = x1.alloc (.cells #[.int .i64 L, .slice a m d] 24) := ⟨_, rfl⟩
    rw [← hY] at HQ HO HZ HB ⊢
    clear hY
    obtain ⟨Q, hQ⟩ : ∃ Q, Q = x1.heap.size := ⟨_, rfl⟩
    rw [← hQ] at HQ HNE ⊢
    clear hQ
    have q0 := HQ.out.c0
    have q1 := HQ.out.c1
    have z0 := HZ.out.c0
    have z1 := HZ.out.c1
    have g0 := HZ.out.fz 0
    have g1 := HZ.out.fz 1
    go_wp2_with fail
    exact bodyPost_ret (v := .tuple #[.agg #[.int .i64 L, .slice a m d], .bool true]) (by simp [results, Tryd.results54, go_sem, z0, z1]) rfl ⟨a, m, d, by rw [HL.out]; rfl, HM.out, (HO.out.setPage HZ.out 0 _).setPage (set_block HZ.out 0 _) 1 _, (HB.out.setCell (p := ⟨B5, 0, none⟩) HLO.out _).setCell (p := ⟨B5, 1, none⟩) HLO.out _⟩
/-- Is nothing to be done? -/
def skipD (lsnP lsn : Int) (r : R) : Bool := !isChg r || decide (lsn ≤ lsnP)
set_option maxRecDepth 100000 in
set_option maxHeartbeats 4000000 in
theorem redo_skip (lsnP lsn : Int) (ao : Option Addr) (n c : Nat) (es : List (Int × Int)) (r : R) (w : World) (h : EntRow w ao es) (hn : es.length = n) (hs : skipD lsnP lsn r = true) :
    Calls Tryd.prog 32 #[pageV lsnP ao n c, .int .i64 lsn, r.val] w fun e w' => ∃ ao' c', e = .returned (.tuple #[pageV lsnP ao' n c', .bool false, .nilIface]) ∧ OwnE w' w.heap.size ao' c' es ∧ Below w.heap.size w w' := by
  obtain ⟨X, hX, hp, hc, hz, hrow, hb⟩ := boxes3 w lsnP ao n c r h
  have HX := hide hX
  obtain ⟨B3, hB3⟩ : ∃ B3, B3 = w.heap.size := ⟨_, rfl⟩
  have HB3 := hide hB3
  rw [← hB3] at hp hc hz
  obtain ⟨B4, hB4⟩ : ∃ B4, B4 = B3 + 1 := ⟨_, rfl⟩
  have HB4 := hide hB4
  rw [← hB4] at hc hz
  obtain ⟨B5, hB5⟩ : ∃ B5, B5 = B4 + 1 := ⟨_, rfl⟩
  have HB5 := hide hB5
  rw [← hB5] at hz
  have HLO : Hid (w.heap.size ≤ B5) := by show w.heap.size ≤ B5; omega
  have HLX := hide hb.size
  have HP := hide hp
  have HC := hide hc
  have HZ := hide hz
  have HB := hide hb
  have HCH := hide (pgchg_any r X)
  have HROW := hide hrow
  have HN := hide hn
  have hsk : isChg r = false ∨ (isChg r = true ∧ lsn ≤ lsnP) := by
    unfold skipD at hs
    cases hq : isChg r with
    | false => exact .inl rfl
    | true => rw [hq] at hs; exact .inr ⟨rfl, by simpa using hs⟩
  obtain ⟨cb, hcb⟩ : ∃ cb, cb = isChg r := ⟨_, rfl⟩
  rw [← hcb] at hsk HCH
  clear hX hp hc hz hrow hb hB3 hB4 hB5 h hn hs hcb
  obtain ⟨k, b1, b2, b3, b4, key, b6, has, b8, new⟩ := r
  unfold pageBlock recCells at HX
  unfold pageV
  unfold R.val at HCH ⊢
  simp only at HX HCH ⊢
  have r0 := HC.out.c0
  have r1 := HC.out.c1
  have r2 := HC.out.c2
  have r3 := HC.out.c3
  have r4 := HC.out.c4
  have r5 := HC.out.c5
  have r6 := HC.out.c6
  have r7 := HC.out.c7
  have r8 := HC.out.c8
  have r9 := HC.out.c9
  simp only at r0 r1 r2 r3 r4 r5 r6 r7 r8 r9
  have HT : Hid (∀ (x1 : World), Below X.heap.size X x1 → Calls Tryd.prog 49 #[.slice ao n c] x1.drew fun e w' => ∃ ao' c', e = .returned (.slice ao' n c') ∧ OwnE w' X.heap.size ao' c' es ∧ Below x1.heap.size x1 w') := by
    intro x1 hb
    refine (clone_any ao n c es x1.drew ((HROW.out.step hb).drew) HN.out).mono ?_
    rintro e w' ⟨a, d, rfl, ho, hb2⟩
    exact ⟨a, d, rfl, ho.mono hb.size, of_drew hb2⟩
  rcases hsk with rfl | ⟨rfl, hle⟩
  all_goals
    go_enter Tryd.func32, Tryd.ntmps32
    go_upto_region 1 with fail
    rw [← HX.out, ← HB3.out, ← HB4.out, ← HB5.out]
    go_wp2_with fail
    refine HCH.out.mono ?_
    rintro e x1 ⟨rfl, hb⟩
    have HP1 := hide (HP.out.step hb)
    have HZ1 := hide (HZ.out.step hb)
    have HBX := hide hb
    have HB1 := hide (over HB.out hb HB.out.size)
    have HCL := hide (HT.out x1 hb)
    clear hb r0 r1 r2 r3 r4 r5 r6 r7 r8 r9 HCH HT
    have k0 := HP1.out.c0
    have k1 := HP1.out.c1
    have z0 := HZ1.out.c0
    have z1 := HZ1.out.c1
    have g0 := HZ1.out.fz 0
    have g1 := HZ1.out.fz 1
    go_wp2_with fail
    go_region_with (go_at_call 49; refine HCL.out.mono ?_; rintro e w2 ⟨ao2, c2, rfl, hown, hb⟩; have P2 := HP1.out.step hb; have Z2 := HZ1.out.step hb; have K0 := P2.c0; have K1 := P2.c1; have Z0 := Z2.c0; have Z1 := Z2.c1; have F0 := Z2.fz 0; have F1 := Z2.fz 1; have HO := hide (hown.mono HLX.out); have HB2 := hide hb; have HZ2 := hide Z2; clear hown hb P2 Z2)
    all_goals
      go_wp2_with fail
      exact bodyPost_ret (v := .tuple #[.agg #[.int .i64 lsnP, .slice ao2 n c2], .bool false, .nilIface]) (by simp [results, Tryd.results32, go_sem, *]) rfl ⟨ao2, c2, rfl, (HO.out.setPage HZ2.out 0 _).setPage (set_block HZ2.out 0 _) 1 _, ((over HB1.out HB2.out HB1.out.size).setCell (p := ⟨B5, 0, none⟩) HLO.out _).setCell (p := ⟨B5, 1, none⟩) HLO.out _⟩
end Go.Proofs.YtefgmlmhdjckaaaDoor
