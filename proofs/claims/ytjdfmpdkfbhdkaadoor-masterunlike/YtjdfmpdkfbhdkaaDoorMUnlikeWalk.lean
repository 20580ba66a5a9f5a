
/- What the statement MasterUnlike asks comes out true, at every two masters, number and byte; nothing that was there is written. -/
import Derived.Test.YtjdfmpdkfbhdkaaDoorMastTools
import Derived.Test.YtjdfmpdkfbhdkaaDoorSched
import Derived.Test.YtjdfmpdkfbhdkaaDoorBlockTools
namespace Go.Proofs.YtjdfmpdkfbhdkaaDoor.masterUnlike
open Go.RowKit
set_option linter.unusedVariables false

theorem same_both {a b : M} (ha : okM a = true) (hb : okM b = true) : sameB (mastB a) (mastB b) = sameM a b := by
  by_cases h : a = b
  · subst h
    rw [sameM_refl]
    exact sameB_true rfl
  · have h1 : sameM a b = false := by
      cases hs : sameM a b with
      | false => rfl
      | true => exact absurd ((sameM_iff a b).1 hs) h
    rw [h1]
    unfold sameB
    exact decide_eq_false fun e => h (mastB_inj ha hb e)
theorem same_at (ao : Option Addr) (n cap : Nat) (xs : List Int) (bo : Option Addr) (n' cap' : Nat) (ys : List Int) (w : World) (b : Bool) (h : Row w ao xs) (h' : Row w bo ys) (hn : xs.length = n) (hn' : ys.length = n') (hb : sameB xs ys = b) :
    Calls Tryd.prog 12 #[.slice ao n cap, .slice bo n' cap'] w fun e w' => e = .returned (.bool b) ∧ Below w.heap.size w w' := by
  subst hb
  refine (same_len ao n cap xs bo n' cap' ys w h h' hn hn').mono ?_
  rintro e w' ⟨rfl, n, rfl⟩
  exact ⟨rfl, below_drewN (Below.refl _ _) n⟩
theorem sameM_at (a b : M) (q : Bool) (h : sameM a b = q) (w : World) : Calls Tryd.prog 20 #[a.val, b.val] w fun e w' => e = .returned (.bool q) ∧ Below w.heap.size w w' := by
  subst h; exact sameMaster_any a b w
theorem run_ld7 {B : Nat} {w : World} {m : M} (h : Cells7 w B m) : (Instr.loadAt 23 (.pointer (some ⟨B, 0, none⟩))).run Tryd.prog w = .ok m.val w := by
  obtain ⟨k0, k1, k2, k3, k4, k5, k6, kl⟩ := h
  unfold M.val
  go_simp
theorem take_ld7 {S : World → Prop} {B : Nat} {m : M} {o : Oper} {a : Act} {x : Operand} (hop : o.op = .load 23 x) (ha : a.eval x = .pointer (some ⟨B, 0, none⟩)) (hS : ∀ w, S w → Cells7 w B m) : ∀ w, S w → (execOp a.eval o).run Tryd.prog w = .ok (.value m.val) w := by
  intro w h
  simp [execOp, hop, ha, run_ld7 (hS w h)]
theorem run_nnil (t : Tmp) (w : World) : (do eqGuard .neq 28 (.tmp t) (.const .nilIface) .nilIface .nilIface; binOp .neq 28 .nilIface .nilIface : Sem Value).run Tryd.prog w = .ok (.bool false) w := by
  go_simp
theorem take_nnil {S : World → Prop} {o : Oper} {a : Act} {t : Tmp} (hop : o.op = .binOp .neq 28 (.tmp t) (.const .nilIface) 28) (hx : a.eval (.tmp t) = .nilIface) : ∀ w, S w → (execOp a.eval o).run Tryd.prog w = .ok (.value (.bool false)) w := by
  intro w _
  have h := run_nnil t w
  have hc : a.eval (.const .nilIface) = .nilIface := rfl
  simp only [execOp, hop, hx, hc, Sem.run_bind] at h ⊢
  rw [h]
  rfl
theorem run_neb (x y : Operand) (b : Bool) (w : World) : (do eqGuard .neq 4 x y (.bool b) (.bool b); binOp .neq 4 (.bool b) (.bool b) : Sem Value).run Tryd.prog w = .ok (.bool false) w := by
  cases b <;> go_simp
theorem take_neb {S : World → Prop} {o : Oper} {a : Act} {x y : Operand} (b : Bool) (hop : o.op = .binOp .neq 4 x y 4) (hx : a.eval x = .bool b) (hy : a.eval y = .bool b) : ∀ w, S w → (execOp a.eval o).run Tryd.prog w = .ok (.value (.bool false)) w := by
  intro w _
  have h := run_neb x y b w
  simp only [execOp, hop, hx, hy, Sem.run_bind] at h ⊢
  rw [h]
  rfl
theorem run_nei (x y : Operand) (n : Int) (w : World) : (do eqGuard .neq 3 x y (.int .i64 n) (.int .i64 n); binOp .neq 3 (.int .i64 n) (.int .i64 n) : Sem Value).run Tryd.prog w = .ok (.bool false) w := by
  go_simp
theorem take_nei {S : World → Prop} {o : Oper} {a : Act} {x y : Operand} (n : Int) (hop : o.op = .binOp .neq 3 x y 3) (hx : a.eval x = .int .i64 n) (hy : a.eval y = .int .i64 n) : ∀ w, S w → (execOp a.eval o).run Tryd.prog w = .ok (.value (.bool false)) w := by
  intro w _
  have h := run_nei x y n w
  simp only [execOp, hop, hx, hy, Sem.run_bind] at h ⊢
  rw [h]
  rfl
theorem run_len (p : Option Addr) (n c : Nat) (w : World) : (builtin .len #[24] 3 #[false] #[.slice p n c]).run Tryd.prog w = .ok (.value (.int .i64 (n : Int))) w := by
  go_simp
theorem take_len {S : World → Prop} {o : Oper} {a : Act} {t : Tmp} (p : Option Addr) (n c : Nat) (hop : o.op = .call { callee := .builtin .len, args := #[.tmp t], argTypes := #[24] }) (ht : o.type = 3) (hx : a.eval (.tmp t) = .slice p n c) : ∀ w, S w → (execOp a.eval o).run Tryd.prog w = .ok (.value (.int .i64 (n : Int))) w := by
  intro w _
  simp [execOp, hop, resolve, invoke, hx, ht, run_len]
theorem enters12 : Enters Tryd.prog 12 := enters Tryd.func12 (by kernel_rfl) (by kernel_rfl)
theorem enters20 : Enters Tryd.prog 20 := enters Tryd.func20 (by kernel_rfl) (by kernel_rfl)
set_option maxRecDepth 100000 in
set_option maxHeartbeats 16000000 in
theorem walk (a0 a1 : M) (a2 a3 : Int) (w : World) (w2 : (Lit.int .i64 a2).wf = true) (w3 : (Lit.int .u8 a3).wf = true) {a : Nat → Addr} (he : ErrsOf w all18 a) :
    Calls Tryd.prog 5 #[a0.val, a1.val, .int .i64 a2, .int .u8 a3] w fun e w' => e = .returned (.bool true) ∧ Below w.heap.size w w' := by
  have HW := hide he
  have HY3 := hide (wf_u8 w3)
  have HR : Hid (∀ x, Below w.heap.size w x → x.cell? ⟨0, 0, none⟩ = some (errV (a 1))) := fun x hb => (he.step hb).cell 1 (mem18 (by omega))
  have HE : Hid (∀ x, Below w.heap.size w x → MastErrs x (a 1) (a 2) (a 5)) := fun x hb => errs_mast (he.step hb) (mem18 (by omega)) (mem18 (by omega)) (mem18 (by omega))
  clear he w2 w3
  obtain ⟨X, hX⟩ : ∃ X, X = (w.alloc (mCells a0)).alloc (mCells a1) := ⟨_, rfl⟩
  have hb1 := below_box (w.alloc (mCells a0)) (mCells a1)
  have HA := hide ((at7_new w a0).step hb1)
  have HC := hide (at7_new (w.alloc (mCells a0)) a1)
  have HB := hide (over (below_box w (mCells a0)) hb1 (by simp))
  have hs1 : (w.alloc (mCells a0)).heap.size = w.heap.size + 1 := by simp
  rw [hs1] at HC
  rw [← hX] at HA HC HB
  have HX : Hid ((w.alloc (.cells #[.int .i64 a0.e, .int .i64 a0.b, .int .i64 a0.r, .int .i64 a0.c, .int .i64 a0.p, .int .i64 a0.k, .int .i64 a0.f] 23)).alloc (.cells #[.int .i64 a1.e, .int .i64 a1.b, .int .i64 a1.r, .int .i64 a1.c, .int .i64 a1.p, .int .i64 a1.k, .int .i64 a1.f] 23) = X) := hX.symm
  obtain ⟨B, hB⟩ : ∃ B, B = w.heap.size := ⟨_, rfl⟩
  have HBE := hide hB
  rw [← hB] at HA HC
  obtain ⟨C, hC⟩ : ∃ C, C = B + 1 := ⟨_, rfl⟩
  have HCE := hide hC
  rw [← hC] at HC
  have HNE : Hid (B ≠ C) := by show B ≠ C; omega
  have HBC : Hid (w.heap.size ≤ C) := by show w.heap.size ≤ C; omega
  have HBB : Hid (w.heap.size ≤ B) := by show w.heap.size ≤ B; omega
  clear hX hb1 hs1 hB hC
  unfold M.val
  go_enter Tryd.func5, Tryd.ntmps5
  go_wp2_with fail
  rw [HX.out, ← HBE.out, ← HCE.out]
  clear HX HCE HBE
  refine (mfirst_any _ (HW.out.step HB.out)).mono ?_
  rintro e x1 ⟨rfl, hb⟩
  replace HA := hide (HA.out.step hb)
  replace HC := hide (HC.out.step hb)
  replace HB := hide (over HB.out hb HB.out.size)
  clear hb
  obtain ⟨k0, k1, k2, k3, k4, k5, k6, kl⟩ := HA.out.cells
  go_wp2_with fail
  clear k0 k1 k2 k3 k4 k5 k6 kl
  refine (good_any a0 _).mono ?_
  rintro e x2 ⟨rfl, hb⟩
  replace HA := hide (HA.out.step hb)
  replace HC := hide (HC.out.step hb)
  replace HB := hide (over HB.out hb HB.out.size)
  clear hb
  have HOKA := hide (goodM_ok a0)
  obtain ⟨ma, hm⟩ : ∃ m, m = goodM a0 := ⟨_, rfl⟩
  rw [← hm] at HOKA ⊢
  clear hm
  have z0 := HA.out.cell 0 (by omega)
  have f0 := HA.out.fz 0
  have z1 := HA.out.cell 1 (by omega)
  have f1 := HA.out.fz 1
  have z2 := HA.out.cell 2 (by omega)
  have f2 := HA.out.fz 2
  have z3 := HA.out.cell 3 (by omega)
  have f3 := HA.out.fz 3
  have z4 := HA.out.cell 4 (by omega)
  have f4 := HA.out.fz 4
  have z5 := HA.out.cell 5 (by omega)
  have f5 := HA.out.fz 5
  have z6 := HA.out.cell 6 (by omega)
  have f6 := HA.out.fz 6
  unfold M.val
  go_upto_region 5 with fail
  clear z0 z1 z2 z3 z4 z5 z6 f0 f1 f2 f3 f4 f5 f6
  replace HC := hide (HC.out.far7 (B := B) ma HNE.out.symm)
  replace HA := hide (HA.out.put7 ma)
  replace HB := hide (below_put7 HB.out HBB.out ma)
  unfold put7 at HA HC HB
  obtain ⟨x3, hx3⟩ : ∃ x3, x3 = ((((((x2.setCell ⟨B, 0, none⟩ (.int .i64 ma.e)).setCell ⟨B, 1, none⟩ (.int .i64 ma.b)).setCell ⟨B, 2, none⟩ (.int .i64 ma.r)).setCell ⟨B, 3, none⟩ (.int .i64 ma.c)).setCell ⟨B, 4, none⟩ (.int .i64 ma.p)).setCell ⟨B, 5, none⟩ (.int .i64 ma.k)).setCell ⟨B, 6, none⟩ (.int .i64 ma.f) := ⟨_, rfl⟩
  rw [← hx3] at HA HC HB ⊢
  clear hx3
  obtain ⟨k0, k1, k2, k3, k4, k5, k6, kl⟩ := HC.out.cells
  go_wp2_with fail
  clear k0 k1 k2 k3 k4 k5 k6 kl
  refine (good_any a1 _).mono ?_
  rintro e x4 ⟨rfl, hb⟩
  replace HA := hide (HA.out.step hb)
  replace HC := hide (HC.out.step hb)
  replace HB := hide (over HB.out hb HB.out.size)
  clear hb
  have HOKB := hide (goodM_ok a1)
  obtain ⟨mb, hm⟩ : ∃ m, m = goodM a1 := ⟨_, rfl⟩
  rw [← hm] at HOKB ⊢
  clear hm
  have z0 := HC.out.cell 0 (by omega)
  have f0 := HC.out.fz 0
  have z1 := HC.out.cell 1 (by omega)
  have f1 := HC.out.fz 1
  have z2 := HC.out.cell 2 (by omega)
  have f2 := HC.out.fz 2
  have z3 := HC.out.cell 3 (by omega)
  have f3 := HC.out.fz 3
  have z4 := HC.out.cell 4 (by omega)
  have f4 := HC.out.fz 4
  have z5 := HC.out.cell 5 (by omega)
  have f5 := HC.out.fz 5
  have z6 := HC.out.cell 6 (by omega)
  have f6 := HC.out.fz 6
  unfold M.val
  go_upto_region 6 with fail
  clear z0 z1 z2 z3 z4 z5 z6 f0 f1 f2 f3 f4 f5 f6
  replace HA := hide (HA.out.far7 (B := C) mb HNE.out)
  replace HC := hide (HC.out.put7 mb)
  replace HB := hide (below_put7 HB.out HBC.out mb)
  unfold put7 at HA HC HB
  obtain ⟨x5, hx5⟩ : ∃ x5, x5 = ((((((x4.setCell ⟨C, 0, none⟩ (.int .i64 mb.e)).setCell ⟨C, 1, none⟩ (.int .i64 mb.b)).setCell ⟨C, 2, none⟩ (.int .i64 mb.r)).setCell ⟨C, 3, none⟩ (.int .i64 mb.c)).setCell ⟨C, 4, none⟩ (.int .i64 mb.p)).setCell ⟨C, 5, none⟩ (.int .i64 mb.k)).setCell ⟨C, 6, none⟩ (.int .i64 mb.f) := ⟨_, rfl⟩
  rw [← hx5] at HA HC HB ⊢
  clear hx5
  have HA5 := hide HA.out
  obtain ⟨k0, k1, k2, k3, k4, k5, k6, kl⟩ := HA.out.cells
  go_wp2_with fail
  clear k0 k1 k2 k3 k4 k5 k6 kl
  refine (mb_ok ma _ _ (HR.out _ HB.out) HOKA.out).mono ?_
  rintro e x6 ⟨g, rfl, hg, hown, hb⟩
  have HO := hide hown
  have HG := hide hg
  have HBD := hide hb
  replace HA := hide (HA.out.step hb)
  replace HC := hide (HC.out.step hb)
  have HGW := hide (Nat.le_trans HB.out.size hg)
  replace HB := hide (over HB.out hb HB.out.size)
  clear hb hg hown
  obtain ⟨k0, k1, k2, k3, k4, k5, k6, kl⟩ := HC.out.cells
  go_wp2_with fail
  clear k0 k1 k2 k3 k4 k5 k6 kl
  refine (mb_ok mb _ _ (HR.out _ HB.out) HOKB.out).mono ?_
  rintro e x7 ⟨g', rfl, hg, hown, hb⟩
  have HY := hide hown.row
  replace HO := hide (HO.out.below hb (Nat.le_refl _))
  replace HA := hide (HA.out.step hb)
  replace HC := hide (HC.out.step hb)
  replace HBD := hide (over HBD.out hb HBD.out.size)
  replace HB := hide (over HB.out hb HB.out.size)
  clear hb hg hown
  have HSB := hide (same_both HOKA.out HOKB.out)
  obtain ⟨q, hq⟩ : ∃ q, sameM ma mb = q := ⟨_, rfl⟩
  rw [hq] at HSB
  have HQ := hide hq
  clear hq
  go_wp2_with fail
  refine region_of_sched (S := fun w' => Cells7 w' B ma ∧ Cells7 w' C mb) [(0, true), (1, true), (2, true), (3, true), (4, true), (5, true), (6, true), (7, true), (8, true), (9, true), (10, true), (11, true), (12, true), (13, true), (15, true), (16, true), (14, false), (17, false), (18, true), (19, true)] (by kernel_rfl) (by kernel_rfl) (by kernel_rfl) (by kernel_rfl) (fun c a d v w h => by cases d <;> exact h) ⟨(HA.out.step (below_drew (Below.refl _ _))).cells, (HC.out.step (below_drew (Below.refl _ _))).cells⟩ ?_
  have hbd := below_drew (Below.refl x7.heap.size x7)
  replace HA := hide (HA.out.step hbd)
  replace HC := hide (HC.out.step hbd)
  replace HO := hide (HO.out.below hbd (Nat.le_refl _))
  replace HY := hide (HY.out.below hbd (Nat.le_refl _))
  replace HB := hide (below_drew HB.out)
  replace HBD := hide (below_drew HBD.out)
  clear hbd
  refine sched_move (i := 0) .nilIface rfl rfl rfl rfl rfl ?_
  simp only [List.set]
  refine sched_take (i := 1) rfl rfl rfl (take_nnil rfl rfl) ?_
  simp only [List.set]
  refine sched_move (i := 2) (.bool false) rfl rfl rfl rfl rfl ?_
  simp only [List.set]
  refine sched_move (i := 3) .nilIface rfl rfl rfl rfl rfl ?_
  simp only [List.set]
  refine sched_take (i := 4) rfl rfl rfl (take_nnil rfl rfl) ?_
  simp only [List.set]
  refine sched_pick (i := 5) false (.bool false) rfl rfl rfl rfl rfl rfl ?_
  simp only [List.set]
  refine sched_move (i := 6) (.bool false) rfl rfl rfl rfl rfl ?_
  simp only [List.set]
  refine sched_move (i := 7) (.slice (some ⟨g, 0, none⟩) 256 256) rfl rfl rfl rfl rfl ?_
  simp only [List.set]
  refine sched_take (i := 8) rfl rfl rfl (take_len (some ⟨g, 0, none⟩) 256 256 rfl rfl rfl) ?_
  simp only [List.set]
  refine sched_take (i := 9) rfl rfl rfl (take_nei 256 rfl rfl rfl) ?_
  simp only [List.set]
  refine sched_pick (i := 10) false (.bool false) rfl rfl rfl rfl rfl rfl ?_
  simp only [List.set]
  refine sched_move (i := 11) (.bool false) rfl rfl rfl rfl rfl ?_
  simp only [List.set]
  refine sched_move (i := 12) (.slice (some ⟨g, 0, none⟩) 256 256) rfl rfl rfl rfl rfl ?_
  simp only [List.set]
  refine sched_move (i := 13) (.slice (some ⟨g', 0, none⟩) 256 256) rfl rfl rfl rfl rfl ?_
  simp only [List.set]
  refine sched_take (i := 15) rfl rfl rfl (take_ld7 rfl rfl fun w h => h.1) ?_
  simp only [List.set]
  refine sched_take (i := 16) rfl rfl rfl (take_ld7 rfl rfl fun w h => h.2) ?_
  simp only [List.set]
  refine sched_call (i := 14) rfl rfl rfl rfl enters12 ((same_at _ _ _ (mastB ma) _ _ _ (mastB mb) _ _ HO.out.row HY.out (length_mastB ma) (length_mastB mb) HSB.out).mono ?_)
  rintro e y ⟨rfl, hb⟩
  refine ⟨_, rfl, ⟨(HA.out.step hb).cells, (HC.out.step hb).cells⟩, ?_⟩
  replace HA := hide (HA.out.step hb)
  replace HC := hide (HC.out.step hb)
  replace HO := hide (HO.out.below hb (Nat.le_refl _))
  replace HB := hide (over HB.out hb HB.out.size)
  replace HBD := hide (over HBD.out hb HBD.out.size)
  clear hb
  simp only [List.set]
  refine sched_call (i := 17) rfl rfl rfl rfl enters20 ((sameM_at ma mb _ HQ.out _).mono ?_)
  rintro e x8 ⟨rfl, hb⟩
  refine ⟨_, rfl, ⟨(HA.out.step hb).cells, (HC.out.step hb).cells⟩, ?_⟩
  replace HO := hide (HO.out.below hb (Nat.le_refl _))
  replace HB := hide (over HB.out hb HB.out.size)
  replace HBD := hide (over HBD.out hb HBD.out.size)
  clear hb HA HC HY
  simp only [List.set]
  refine sched_take (i := 18) rfl rfl rfl (take_neb q rfl rfl rfl) ?_
  simp only [List.set]
  refine sched_pick (i := 19) false (.bool false) rfl rfl rfl rfl rfl rfl ?_
  simp only [List.set]
  refine sched_nil ?_
  by_cases h30 : a3 = 0
  · have h31 : (a3 == 0) = true := by simpa using h30
    clear h30
    go_wp2_with fail
    go_ret
    exact ⟨rfl, HB.out⟩
  have h31 : (a3 == 0) = false := by simpa using h30
  have HNZ := hide h30
  clear h30
  go_wp2_with fail
  refine (number_any _ _ _ (by omega) (by omega)).mono ?_
  rintro e x8 ⟨rfl, rfl⟩
  have hp := numberB_bd a2 256 (by omega)
  obtain ⟨p, hp'⟩ : ∃ p : Nat, numberB a2 256 = p := ⟨(numberB a2 256).toNat, by omega⟩
  rw [hp'] at hp ⊢
  have hp256 : p < 256 := by omega
  have hpi : (p : Int) < 256 := by omega
  clear hp hp'
  have HLB := hide (length_mastB ma)
  have hc := HO.out.cell p (by rw [HLB.out]; exact hp256)
  have hby := HO.out.2.1.getD p
  have hfz := HO.out.frozen p
  obtain ⟨yy, hyy⟩ : ∃ yy, yy = (mastB ma).getD p 0 := ⟨_, rfl⟩
  rw [← hyy] at hc hby
  have HYY := hide hyy
  have HVN := hide (xor_ne yy a3 hby HY3.out HNZ.out)
  have HXB := hide (xor_bd yy a3)
  clear hyy hby
  obtain ⟨v, hv⟩ : ∃ v, v = bits .xor .u8 yy a3 := ⟨_, rfl⟩
  rw [← hv] at HXB HVN
  have HVE := hide hv
  rw [HYY.out] at HVN
  clear hv
  go_upto_region 14 with fail
  clear hc hfz
  rw [← HVE.out]
  have HD := hide (HO.out.stored p v HXB.out.1 HXB.out.2).row
  replace HB := hide (HB.out.setCell (p := ⟨g, p, none⟩) HGW.out (.int .u8 v))
  replace HBD := hide (HBD.out.setCell (p := ⟨g, p, none⟩) HG.out (.int .u8 v))
  obtain ⟨Z, hZ⟩ : ∃ Z, Z = x8.setCell ⟨g, p, none⟩ (.int .u8 v) := ⟨_, rfl⟩
  rw [← hZ] at HD HB HBD ⊢
  clear hZ HO HXB HVE HYY HG HGW
  obtain ⟨ds, hds⟩ : ∃ ds, ds = (mastB ma).set p v := ⟨_, rfl⟩
  have HDL : Hid (ds.length = 256) := by show ds.length = 256; rw [hds, List.length_set]; exact HLB.out
  rw [← hds] at HD
  have HDS := hide hds
  clear hds
  have HA := hide (HA5.out.step HBD.out)
  clear HA5 HBD
  by_cases hp4 : p < 4 ∨ 32 ≤ p
  · have HIM : Hid (isMast ds = false) := by show isMast ds = false; rw [HDS.out]; exact turned_mast hp256 hp4 HVN.out
    go_wp2_with fail
    refine (mread_bad _ _ ds _ HD.out (HE.out _ HB.out) HDL.out HIM.out).mono ?_
    rintro e y1 ⟨rfl, hb⟩
    replace HB := hide (over HB.out hb HB.out.size)
    clear hb
    unfold M.val noM
    replace HB := hide (over HB.out (below_box y1 (mCells noM)) HB.out.size)
    unfold mCells noM at HB
    have HI := hide (fun w' (h : Below w.heap.size w w') => is_err w' a 5 (by omega) 106 (by omega) (HW.out.step h))
    rcases hp4 with hp4 | hp4
    · have hq4 : (p : Int) < 4 := by omega
      go_wp2_with fail
      refine (HI.out _ HB.out).mono ?_
      rintro e y2 ⟨rfl, hb⟩
      replace HB := hide (over HB.out hb HB.out.size)
      clear hb
      go_wp2_with fail
      go_ret
      exact ⟨rfl, HB.out⟩
    · have hq4 : decide ((p : Int) < 4) = false := by simp; omega
      have hq5 : (32 : Int) ≤ (p : Int) := by omega
      go_wp2_with fail
      refine (HI.out _ HB.out).mono ?_
      rintro e y2 ⟨rfl, hb⟩
      replace HB := hide (over HB.out hb HB.out.size)
      clear hb
      go_wp2_with fail
      go_ret
      exact ⟨rfl, HB.out⟩
  · have hq4 : decide ((p : Int) < 4) = false := by simp; omega
    have hq5 : decide ((32 : Int) ≤ (p : Int)) = false := by simp; omega
    clear hp4
    cases him : isMast ds with
    | false =>
      have HIM := hide him
      clear him
      go_wp2_with fail
      refine (mread_bad _ _ ds _ HD.out (HE.out _ HB.out) HDL.out HIM.out).mono ?_
      rintro e y1 ⟨rfl, hb⟩
      have hbx := hb.trans ((below_box y1 (mCells noM)).mono hb.size)
      unfold mCells noM at hbx
      replace HA := hide (HA.out.step hbx)
      replace HB := hide (over HB.out hbx HB.out.size)
      obtain ⟨Y1, hY1⟩ : ∃ Y1, Y1 = y1.alloc (.cells #[.int .i64 0, .int .i64 0, .int .i64 0, .int .i64 0, .int .i64 0, .int .i64 0, .int .i64 0] 23) := ⟨_, rfl⟩
      rw [← hY1] at HA HB
      have HY1 := hide hY1.symm
      clear hb hbx hY1
      unfold M.val noM errV
      go_upto_region 17 with fail
      rw [HY1.out]
      clear HY1
      obtain ⟨k0, k1, k2, k3, k4, k5, k6, kl⟩ := HA.out.cells
      go_wp2_with fail
      clear k0 k1 k2 k3 k4 k5 k6 kl
      refine (goodMaster_any ma _).mono ?_
      rintro e y2 ⟨rfl, hb⟩
      rw [HOKA.out]
      replace HB := hide (over HB.out hb HB.out.size)
      clear hb
      go_wp2_with fail
      go_ret
      exact ⟨rfl, HB.out⟩
    | true =>
      have HIM := hide him
      clear him
      have HSN : Hid (sameM (saidM ds) ma = false) := by
        show sameM (saidM ds) ma = false
        have h := HIM.out
        rw [HDS.out] at h ⊢
        exact turned_mastO HOKA.out hp256 HVN.out h
      go_wp2_with fail
      refine (mread_ok _ _ ds _ HD.out (HE.out _ HB.out) HDL.out HIM.out).mono ?_
      rintro e y1 ⟨rfl, hb⟩
      obtain ⟨n, hn⟩ : ∃ n, n = saidM ds := ⟨_, rfl⟩
      rw [← hn] at HSN ⊢
      clear hn
      have hbx := hb.trans ((below_box y1 (mCells n)).mono hb.size)
      have HC := hide (cells7_new y1 n)
      unfold mCells at hbx HC
      replace HA := hide (HA.out.step hbx)
      replace HB := hide (over HB.out hbx HB.out.size)
      obtain ⟨Y1, hY1⟩ : ∃ Y1, Y1 = y1.alloc (.cells #[.int .i64 n.e, .int .i64 n.b, .int .i64 n.r, .int .i64 n.c, .int .i64 n.p, .int .i64 n.k, .int .i64 n.f] 23) := ⟨_, rfl⟩
      rw [← hY1] at HA HB HC
      have HY1 := hide hY1.symm
      obtain ⟨BX, hBX⟩ : ∃ BX, BX = y1.heap.size := ⟨_, rfl⟩
      rw [← hBX] at HC
      clear hb hbx hY1
      unfold M.val
      go_upto_region 17 with fail
      rw [HY1.out, ← hBX]
      clear HY1 hBX
      obtain ⟨k0, k1, k2, k3, k4, k5, k6, kl⟩ := HA.out.cells
      obtain ⟨q0, q1, q2, q3, q4, q5, q6, ql⟩ := HC.out
      go_wp2_with fail
      clear k0 k1 k2 k3 k4 k5 k6 kl q0 q1 q2 q3 q4 q5 q6 ql
      refine (sameMaster_any n ma _).mono ?_
      rintro e y2 ⟨rfl, hb⟩
      rw [HSN.out]
      replace HA := hide (HA.out.step hb)
      replace HB := hide (over HB.out hb HB.out.size)
      clear hb HC
      obtain ⟨k0, k1, k2, k3, k4, k5, k6, kl⟩ := HA.out.cells
      go_wp2_with fail
      clear k0 k1 k2 k3 k4 k5 k6 kl
      refine (goodMaster_any ma _).mono ?_
      rintro e y3 ⟨rfl, hb⟩
      rw [HOKA.out]
      replace HB := hide (over HB.out hb HB.out.size)
      clear hb
      go_wp2_with fail
      go_ret
      exact ⟨rfl, HB.out⟩
end Go.Proofs.YtjdfmpdkfbhdkaaDoor.masterUnlike
