
/- What the statement DirtyPlays asks comes out true, at every list of pairs; nothing that was there is written. -/
import Derived.Test.YtmkbedfccgojpaaOwnDtPlaysM
namespace Go.Proofs.Ytmkbedfccgojpaa.dirtyPlays
open Go.RowKit
set_option linter.unusedVariables false

theorem enters16 : Enters Try.prog 16 := enters Try.func16 (by kernel_rfl) (by kernel_rfl)
theorem enters17 : Enters Try.prog 17 := enters Try.func17 (by kernel_rfl) (by kernel_rfl)
theorem enters18 : Enters Try.prog 18 := enters Try.func18 (by kernel_rfl) (by kernel_rfl)
theorem enters15 : Enters Try.prog 15 := enters Try.func15 (by kernel_rfl) (by kernel_rfl)
set_option maxRecDepth 100000 in
set_option maxHeartbeats 32000000 in
theorem walk (a0 : Option Addr) (len0 cap0 : Nat) (zf zg : Nat → Int) (w : World) (w0 : PairsIn w a0 len0 zf zg) :
    Calls Try.prog 3 #[.slice a0 len0 cap0] w fun e w' => e = .returned (.bool true) ∧ Below w.heap.size w w' := by
  have HROW := hide w0
  clear w0
  go_enter Try.func3, Try.ntmps3
  go_wp2_with fail
  refine (dtfirst_any _).mono ?_
  rintro e x1 ⟨rfl, hb⟩
  have HB := hide hb
  clear hb
  by_cases hlen : len0 ≤ 80
  case neg =>
    have hl1 : (80 : Int) < (len0 : Int) := by omega
    go_wp2_with fail
    go_ret
    exact ⟨rfl, HB.out⟩
  have hl1 : decide ((80 : Int) < (len0 : Int)) = false := by simp; omega
  have hbx := below_box (x1.alloc (.cells #[.map none] 26)) (.cells #[.slice none 0 0] 29)
  have HT := hide ((tab_new x1).step hbx)
  have HB1 := hide (over (over HB.out (below_box x1 (.cells #[.map none] 26)) HB.out.size) hbx (Nat.le_trans HB.out.size (below_box x1 _).size))
  obtain ⟨T, hT⟩ : ∃ T, T = x1.heap.size := ⟨_, rfl⟩
  have HTL : Hid (w.heap.size ≤ T) := by show _ ≤ _; rw [hT]; exact HB.out.size
  obtain ⟨X, hX⟩ : ∃ X, X = x1.heap.size + 1 := ⟨_, rfl⟩
  have hsz : (x1.alloc (.cells #[.map none] 26)).heap.size = X := by rw [hX]; simp
  have HTX : Hid (T < X) := by show _ < _; omega
  have HRT : Hid (RTab ((x1.alloc (.cells #[.map none] 26)).alloc (.cells #[.slice none 0 0] 29)) X 0 (X + 1) none 0 []) :=
    ⟨⟨_, _, by rw [← hsz]; exact heap_alloc_new _ _, rfl⟩, ownD_nil _ _, by omega, List.Pairwise.nil⟩
  have HXW : Hid (X + 1 ≤ ((x1.alloc (.cells #[.map none] 26)).alloc (.cells #[.slice none 0 0] 29)).heap.size) := by show _ ≤ _; rw [hX]; simp
  clear hbx hsz
  go_upto_region 8 with fail
  rw [← hT] at HT
  rw [← hX, ← hT]
  obtain ⟨Y, hY⟩ : ∃ Y, Y = (x1.alloc (.cells #[.map none] 26)).alloc (.cells #[.slice none 0 0] 29) := ⟨_, rfl⟩
  rw [← hY] at HT HB1 HRT HXW ⊢
  clear hY hT hX HB
  go_wp2_with fail
  go_loopw [6] (fun i wr => ∃ (k : Nat) (mb : Option Nat) (es : List (Int × Int)) (ao : Option Addr) (c : Nat), k ≤ len0 ∧ i = .int .i64 k ∧ TabAt wr T 0 mb k es ∧ RTab wr X 0 (X + 1) ao c es ∧ es.length ≤ k ∧ (∀ b, mb = some b → w.heap.size ≤ b) ∧ Below w.heap.size w wr ∧ X + 1 ≤ wr.heap.size) (fun i _ => len0 - posOf i)
  case atStart => exact ⟨0, none, [], none, 0, by omega, rfl, HT.out, HRT.out, by simp, fun b e => by simp at e, HB1.out, HXW.out⟩
  case round =>
    clear HT HB1 HRT HXW
    obtain ⟨k, mb, es, ao, c, hk, rfl, ht, hr, hl, hmb, hb, hxw⟩ := hrel
    have HT := hide ht
    have HR := hide hr
    have HL := hide hl
    have HM := hide hmb
    have HB := hide hb
    have HXW := hide hxw
    clear ht hl hmb hb hr hxw
    by_cases hlt : k < len0
    · have hki : (k : Int) < (len0 : Int) := by omega
      obtain ⟨b, off, rfl, hbl, hc⟩ := HROW.out.1 (by omega)
      obtain ⟨c0, c1⟩ := hc k hlt
      have HF : Hid ((Lit.int .i64 (zg k)).wf = true) := (HROW.out.2 k hlt).2
      obtain ⟨z, hz⟩ : ∃ z, z = zf k := ⟨_, rfl⟩
      obtain ⟨y, hy⟩ : ∃ y, y = zg k := ⟨_, rfl⟩
      rw [← hz] at c0
      rw [← hy] at c1 HF
      have k0 := (HB.out.cell (p := ⟨b, off + k * 2, none⟩) hbl).trans c0
      have k1 := (HB.out.cell (p := ⟨b, off + k * 2 + 1, none⟩) hbl).trans c1
      clear hc hz hy
      have hn := numberB_bd z 12 (by omega)
      go_wp2_with fail
      refine (number_any _ _ _ (by omega) (by omega)).mono ?_
      rintro e y1 ⟨rfl, rfl⟩
      obtain ⟨p, hp⟩ : ∃ p, p = numberB z 12 := ⟨_, rfl⟩
      rw [← hp] at hn ⊢
      have HPW : Hid ((Lit.int .i64 p).wf = true) := wf_small (by omega) (by omega)
      clear hp k0
      have HC1 : Hid (w.cell? ⟨b, off + k * 2 + 1, none⟩ = some (.int .i64 y) ∧ b < w.heap.size) := ⟨c1, hbl⟩
      clear c0 c1 hbl
      have hbt := HB.out.size
      cases hbit : (bits .and .i64 y 3 == 0) with
      | true =>
        go_wp2_with fail
        refine (tdrop_any HT.out p HPW.out).mono ?_
        rintro e y2 ⟨rfl, hbut, ht⟩
        have HT1 := hide ht
        have HR1 := hide (HR.out.but HT.out hbut HTX.out)
        have HB1 := hide (HB.out.trans (hbut.below HTL.out HM.out HB.out.size))
        have HX1 := hide (Nat.le_trans HXW.out hbut.size)
        clear hbut ht HT HB HR HXW hbt
        go_wp2_with fail
        refine (rtdrop_any HR1.out (by have := HL.out; omega) HX1.out p).mono ?_
        rintro e y3 ⟨rfl, hbut, ao', c', hr⟩
        have HT2 := hide (HT1.out.but HR1.out hbut HTX.out)
        have HR2 := hide hr
        have HB2 := hide (HB1.out.trans (hbut.below (Nat.le_trans HTL.out (Nat.le_of_lt HTX.out)) (fun b e => by simp at e) HB1.out.size))
        have HX2 := hide (Nat.le_trans HX1.out hbut.size)
        have HL2 : Hid ((remE p es).length ≤ k) := Nat.le_trans (len_rem_le es p) HL.out
        clear hbut hr HT1 HR1 HB1 HX1 k1
        obtain ⟨mb', hmb'⟩ : ∃ mb', mb' = mb := ⟨_, rfl⟩
        rw [← hmb'] at HT2 HM
        clear hmb'
        obtain ⟨H0, hH0⟩ : ∃ H0, H0 = hasE es p := ⟨_, rfl⟩
        rw [← hH0]
        clear hH0
        go_wp2_with fail
        refine (tfrom_any HT2.out p HPW.out).mono ?_
        rintro e v1 ⟨rfl, hb⟩
        have HT7 := hide (HT2.out.step hb)
        have HR7 := hide (HR2.out.step hb)
        have HB7 := hide (over HB2.out hb HB2.out.size)
        have HX7 := hide (Nat.le_trans HX2.out hb.size)
        clear hb
        go_wp2_with fail
        refine (rtfrom_any HR7.out (by have := HL2.out; omega) p).mono ?_
        rintro e v2 ⟨rfl, rfl⟩
        obtain ⟨V, hV⟩ : ∃ V, V = (valE (remE p es) p).getD 0 := ⟨_, rfl⟩
        obtain ⟨HH, hHH⟩ : ∃ HH, HH = hasE (remE p es) p := ⟨_, rfl⟩
        rw [← hV, ← hHH]
        clear hV hHH
        obtain ⟨gs, hgs⟩ : ∃ gs, gs = remE p es := ⟨_, rfl⟩
        rw [← hgs] at HT7 HR7 HL2
        clear hgs
        obtain ⟨n, hn'⟩ : ∃ n, n = gs.length := ⟨_, rfl⟩
        have hall := all_any HT7.out.drew (by have := HL2.out; omega)
        rw [← hn'] at hall
        have HNN := hide hn'
        clear hn'
        go_wp2_with fail
        refine region_of_sched (S := fun w' => TabAt w' T 0 mb' (k) gs ∧ RTab w' X 0 (X + 1) ao' c' gs) [(0, true), (1, true), (2, true), (3, true), (4, true), (5, true), (6, true), (7, true), (8, true), (10, true), (11, true), (9, false), (12, false), (13, true), (14, true), (15, true), (16, false), (17, false), (18, true), (19, true)] (by kernel_rfl) (by kernel_rfl) (by kernel_rfl) (by kernel_rfl) (fun c a d v w h => by cases d <;> exact h) ⟨HT7.out.drew, HR7.out.drew⟩ ?_
        refine sched_move (i := 0) (.int .i64 V) rfl rfl rfl rfl rfl ?_
        simp only [List.set]
        refine sched_move (i := 1) (.int .i64 V) rfl rfl rfl rfl rfl ?_
        simp only [List.set]
        refine sched_take (i := 2) (v := .bool false) rfl rfl rfl (by intro w hSw; (try dsimp only at hSw); obtain ⟨s1, s2⟩ := hSw; go_simp) ?_
        simp only [List.set]
        refine sched_move (i := 3) (.bool false) rfl rfl rfl rfl rfl ?_
        simp only [List.set]
        refine sched_move (i := 4) (.bool HH) rfl rfl rfl rfl rfl ?_
        simp only [List.set]
        refine sched_move (i := 5) (.bool HH) rfl rfl rfl rfl rfl ?_
        simp only [List.set]
        refine sched_take (i := 6) (v := .bool false) rfl rfl rfl (by intro w hSw; (try dsimp only at hSw); obtain ⟨s1, s2⟩ := hSw; go_simp) ?_
        simp only [List.set]
        refine sched_pick (i := 7) false (.bool false) rfl rfl rfl rfl rfl rfl ?_
        simp only [List.set]
        refine sched_move (i := 8) (.bool false) rfl rfl rfl rfl rfl ?_
        simp only [List.set]
        refine sched_take (i := 10) (v := .pointer (some ⟨X, 0, none⟩)) rfl rfl rfl (by intro w hSw; (try dsimp only at hSw); obtain ⟨s1, s2⟩ := hSw; go_simp) ?_
        simp only [List.set]
        refine sched_take (i := 11) (v := .slice ao' n c') rfl rfl rfl (by intro w hSw; (try dsimp only at hSw); obtain ⟨s1, s2⟩ := hSw; have k0 := s2.cell; rw [← HNN.out] at k0; go_simp) ?_
        simp only [List.set]
        refine sched_call (i := 9) rfl rfl rfl rfl enters16 (hall.mono ?_)
        rintro e9 v3 ⟨a5, c5, rfl, ho, hb⟩
        have hb := of_drew hb
        refine ⟨_, rfl, ⟨HT7.out.step hb, HR7.out.step hb⟩, ?_⟩
        have HO := hide ho.row
        have HT8 := hide (HT7.out.step hb)
        have HR8 := hide (HR7.out.step hb)
        have HB8 := hide (over HB7.out hb HB7.out.size)
        have HX8 := hide (Nat.le_trans HX7.out hb.size)
        clear hb ho
        simp only [List.set]
        have hsame := sameDirs_any a5 n c5 gs ao' n c' gs v3 HO.out HR8.out.own.row HNN.out.symm HNN.out.symm
        rw [show decide (gs = gs) = true from decide_eq_true rfl] at hsame
        refine sched_call (i := 12) rfl rfl rfl rfl enters15 (hsame.mono ?_)
        rintro e9 v4 ⟨rfl, hb⟩
        refine ⟨_, rfl, ⟨HT8.out.step hb, HR8.out.step hb⟩, ?_⟩
        have HT9 := hide (HT8.out.step hb)
        have HR9 := hide (HR8.out.step hb)
        have HB9 := hide (over HB8.out hb HB8.out.size)
        have HX9 := hide (Nat.le_trans HX8.out hb.size)
        clear hb HO HT8 HR8 HB8 HX8 hsame
        simp only [List.set]
        refine sched_take (i := 13) (v := .bool false) rfl rfl rfl (by intro w hSw; (try dsimp only at hSw); obtain ⟨s1, s2⟩ := hSw; go_simp) ?_
        simp only [List.set]
        refine sched_pick (i := 14) false (.bool false) rfl rfl rfl rfl rfl rfl ?_
        simp only [List.set]
        refine sched_move (i := 15) (.bool false) rfl rfl rfl rfl rfl ?_
        simp only [List.set]
        refine sched_call (i := 16) rfl rfl rfl rfl enters17 ((tleast_any HT9.out).mono ?_)
        rintro e9 v5 ⟨rfl, hb⟩
        refine ⟨_, rfl, ⟨HT9.out.step hb, HR9.out.step hb⟩, ?_⟩
        have HTA := hide (HT9.out.step hb)
        have HRA := hide (HR9.out.step hb)
        have HBA := hide (over HB9.out hb HB9.out.size)
        have HXA := hide (Nat.le_trans HX9.out hb.size)
        clear hb HT9 HR9 HB9 HX9
        simp only [List.set]
        refine sched_call (i := 17) rfl rfl rfl rfl enters18 ((rtleast_any HRA.out (by have := HL2.out; omega)).mono ?_)
        rintro e9 v6 ⟨rfl, rfl⟩
        refine ⟨_, rfl, ⟨HTA.out, HRA.out⟩, ?_⟩
        simp only [List.set]
        obtain ⟨m, hm⟩ : ∃ m, m = leastE gs := ⟨_, rfl⟩
        rw [← hm]
        clear hm
        refine sched_take (i := 18) (v := .bool false) rfl rfl rfl (by intro w hSw; (try dsimp only at hSw); obtain ⟨s1, s2⟩ := hSw; go_simp) ?_
        simp only [List.set]
        refine sched_pick (i := 19) false (.bool false) rfl rfl rfl rfl rfl rfl ?_
        simp only [List.set]
        refine sched_nil ?_
        go_wp2_with fail
        go_roundw
        case rel => exact ⟨k + 1, mb', gs, ao', c', by omega, by go_num, HTA.out.mono (by omega), HRA.out, by have := HL2.out; omega, HM.out, HBA.out, HXA.out⟩
        case measure => simp [posOf]; omega
      | false =>
        go_wp2_with fail
        refine (tadd_any HT.out (by omega) p y HPW.out HF.out).mono ?_
        rintro e y2 ⟨rfl, hbut, mb', ht, hmb'⟩
        have HT1 := hide ht
        have HR1 := hide (HR.out.but HT.out hbut HTX.out)
        have HB1 := hide (HB.out.trans (hbut.below HTL.out HM.out HB.out.size))
        have HX1 := hide (Nat.le_trans HXW.out hbut.size)
        have HM2 : Hid (∀ b, mb' = some b → w.heap.size ≤ b) := (fun b e => by
          rcases hmb' with h1 | ⟨b', h1, h2⟩
          · exact HM.out b (h1.symm.trans e)
          · rw [h1] at e; simp at e; omega)
        have HUP := hide HT.out.up
        have k2 := (HB1.out.cell (p := ⟨b, off + k * 2 + 1, none⟩) HC1.out.2).trans HC1.out.1
        clear hbut ht HT HB HR HXW hbt hmb' k1
        go_wp2_with fail
        refine (rtadd_any HR1.out (by have := HL.out; omega) HX1.out p y).mono ?_
        rintro e y3 ⟨rfl, hbut, ao', c', hr⟩
        have HT2 := hide (HT1.out.but HR1.out hbut HTX.out)
        have HR2 := hide hr
        have HB2 := hide (HB1.out.trans (hbut.below (Nat.le_trans HTL.out (Nat.le_of_lt HTX.out)) (fun b e => by simp at e) HB1.out.size))
        have HX2 := hide (Nat.le_trans HX1.out hbut.size)
        have HL2 : Hid ((addE p y es).length ≤ k + 1) := by show _ ≤ _; have := len_add es HUP.out p y; have := HL.out; omega
        clear hbut hr HT1 HR1 HB1 HX1 k2
        go_wp2_with fail
        refine (tfrom_any HT2.out p HPW.out).mono ?_
        rintro e v1 ⟨rfl, hb⟩
        have HT7 := hide (HT2.out.step hb)
        have HR7 := hide (HR2.out.step hb)
        have HB7 := hide (over HB2.out hb HB2.out.size)
        have HX7 := hide (Nat.le_trans HX2.out hb.size)
        clear hb
        go_wp2_with fail
        refine (rtfrom_any HR7.out (by have := HL2.out; omega) p).mono ?_
        rintro e v2 ⟨rfl, rfl⟩
        obtain ⟨V, hV⟩ : ∃ V, V = (valE (addE p y es) p).getD 0 := ⟨_, rfl⟩
        obtain ⟨HH, hHH⟩ : ∃ HH, HH = hasE (addE p y es) p := ⟨_, rfl⟩
        rw [← hV, ← hHH]
        clear hV hHH
        obtain ⟨gs, hgs⟩ : ∃ gs, gs = addE p y es := ⟨_, rfl⟩
        rw [← hgs] at HT7 HR7 HL2
        clear hgs
        obtain ⟨n, hn'⟩ : ∃ n, n = gs.length := ⟨_, rfl⟩
        have hall := all_any HT7.out.drew (by have := HL2.out; omega)
        rw [← hn'] at hall
        have HNN := hide hn'
        clear hn'
        go_wp2_with fail
        refine region_of_sched (S := fun w' => TabAt w' T 0 mb' (k + 1) gs ∧ RTab w' X 0 (X + 1) ao' c' gs) [(0, true), (1, true), (2, true), (3, true), (4, true), (5, true), (6, true), (7, true), (8, true), (10, true), (11, true), (9, false), (12, false), (13, true), (14, true), (15, true), (16, false), (17, false), (18, true), (19, true)] (by kernel_rfl) (by kernel_rfl) (by kernel_rfl) (by kernel_rfl) (fun c a d v w h => by cases d <;> exact h) ⟨HT7.out.drew, HR7.out.drew⟩ ?_
        refine sched_move (i := 0) (.int .i64 V) rfl rfl rfl rfl rfl ?_
        simp only [List.set]
        refine sched_move (i := 1) (.int .i64 V) rfl rfl rfl rfl rfl ?_
        simp only [List.set]
        refine sched_take (i := 2) (v := .bool false) rfl rfl rfl (by intro w hSw; (try dsimp only at hSw); obtain ⟨s1, s2⟩ := hSw; go_simp) ?_
        simp only [List.set]
        refine sched_move (i := 3) (.bool false) rfl rfl rfl rfl rfl ?_
        simp only [List.set]
        refine sched_move (i := 4) (.bool HH) rfl rfl rfl rfl rfl ?_
        simp only [List.set]
        refine sched_move (i := 5) (.bool HH) rfl rfl rfl rfl rfl ?_
        simp only [List.set]
        refine sched_take (i := 6) (v := .bool false) rfl rfl rfl (by intro w hSw; (try dsimp only at hSw); obtain ⟨s1, s2⟩ := hSw; go_simp) ?_
        simp only [List.set]
        refine sched_pick (i := 7) false (.bool false) rfl rfl rfl rfl rfl rfl ?_
        simp only [List.set]
        refine sched_move (i := 8) (.bool false) rfl rfl rfl rfl rfl ?_
        simp only [List.set]
        refine sched_take (i := 10) (v := .pointer (some ⟨X, 0, none⟩)) rfl rfl rfl (by intro w hSw; (try dsimp only at hSw); obtain ⟨s1, s2⟩ := hSw; go_simp) ?_
        simp only [List.set]
        refine sched_take (i := 11) (v := .slice ao' n c') rfl rfl rfl (by intro w hSw; (try dsimp only at hSw); obtain ⟨s1, s2⟩ := hSw; have k0 := s2.cell; rw [← HNN.out] at k0; go_simp) ?_
        simp only [List.set]
        refine sched_call (i := 9) rfl rfl rfl rfl enters16 (hall.mono ?_)
        rintro e9 v3 ⟨a5, c5, rfl, ho, hb⟩
        have hb := of_drew hb
        refine ⟨_, rfl, ⟨HT7.out.step hb, HR7.out.step hb⟩, ?_⟩
        have HO := hide ho.row
        have HT8 := hide (HT7.out.step hb)
        have HR8 := hide (HR7.out.step hb)
        have HB8 := hide (over HB7.out hb HB7.out.size)
        have HX8 := hide (Nat.le_trans HX7.out hb.size)
        clear hb ho
        simp only [List.set]
        have hsame := sameDirs_any a5 n c5 gs ao' n c' gs v3 HO.out HR8.out.own.row HNN.out.symm HNN.out.symm
        rw [show decide (gs = gs) = true from decide_eq_true rfl] at hsame
        refine sched_call (i := 12) rfl rfl rfl rfl enters15 (hsame.mono ?_)
        rintro e9 v4 ⟨rfl, hb⟩
        refine ⟨_, rfl, ⟨HT8.out.step hb, HR8.out.step hb⟩, ?_⟩
        have HT9 := hide (HT8.out.step hb)
        have HR9 := hide (HR8.out.step hb)
        have HB9 := hide (over HB8.out hb HB8.out.size)
        have HX9 := hide (Nat.le_trans HX8.out hb.size)
        clear hb HO HT8 HR8 HB8 HX8 hsame
        simp only [List.set]
        refine sched_take (i := 13) (v := .bool false) rfl rfl rfl (by intro w hSw; (try dsimp only at hSw); obtain ⟨s1, s2⟩ := hSw; go_simp) ?_
        simp only [List.set]
        refine sched_pick (i := 14) false (.bool false) rfl rfl rfl rfl rfl rfl ?_
        simp only [List.set]
        refine sched_move (i := 15) (.bool false) rfl rfl rfl rfl rfl ?_
        simp only [List.set]
        refine sched_call (i := 16) rfl rfl rfl rfl enters17 ((tleast_any HT9.out).mono ?_)
        rintro e9 v5 ⟨rfl, hb⟩
        refine ⟨_, rfl, ⟨HT9.out.step hb, HR9.out.step hb⟩, ?_⟩
        have HTA := hide (HT9.out.step hb)
        have HRA := hide (HR9.out.step hb)
        have HBA := hide (over HB9.out hb HB9.out.size)
        have HXA := hide (Nat.le_trans HX9.out hb.size)
        clear hb HT9 HR9 HB9 HX9
        simp only [List.set]
        refine sched_call (i := 17) rfl rfl rfl rfl enters18 ((rtleast_any HRA.out (by have := HL2.out; omega)).mono ?_)
        rintro e9 v6 ⟨rfl, rfl⟩
        refine ⟨_, rfl, ⟨HTA.out, HRA.out⟩, ?_⟩
        simp only [List.set]
        obtain ⟨m, hm⟩ : ∃ m, m = leastE gs := ⟨_, rfl⟩
        rw [← hm]
        clear hm
        refine sched_take (i := 18) (v := .bool false) rfl rfl rfl (by intro w hSw; (try dsimp only at hSw); obtain ⟨s1, s2⟩ := hSw; go_simp) ?_
        simp only [List.set]
        refine sched_pick (i := 19) false (.bool false) rfl rfl rfl rfl rfl rfl ?_
        simp only [List.set]
        refine sched_nil ?_
        go_wp2_with fail
        go_roundw
        case rel => exact ⟨k + 1, mb', gs, ao', c', by omega, by go_num, HTA.out.mono (by omega), HRA.out, by have := HL2.out; omega, HM2.out, HBA.out, HXA.out⟩
        case measure => simp [posOf]; omega
    · have hki : decide ((k : Int) < (len0 : Int)) = false := by simp; omega
      go_wp2_with fail
      go_ret
      exact ⟨rfl, HB.out⟩
end Go.Proofs.Ytmkbedfccgojpaa.dirtyPlays
