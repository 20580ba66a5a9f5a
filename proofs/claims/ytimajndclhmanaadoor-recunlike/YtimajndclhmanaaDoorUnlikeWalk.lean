
/- What the statement RecUnlike asks comes out true, at any two lists of numbers; nothing that was there is written. -/
import Derived.Test.YtimajndclhmanaaDoorMakeSeq
import Derived.Test.YtimajndclhmanaaDoorRecSame2
import Derived.Test.YtimajndclhmanaaDoorLay
import Derived.Test.YtimajndclhmanaaDoorSched
namespace Go.Proofs.YtimajndclhmanaaDoor.recUnlike
open Go.RowKit
set_option linter.unusedVariables false

theorem same_both {a b : R} (ha : goodB a = true) (hfa : a.fits) (hb : goodB b = true) (hfb : b.fits) : sameB (recB a) (recB b) = sameR a b := by
  by_cases h : a = b
  · subst h
    simp [sameB, sameR]
  · unfold sameB sameR
    rw [decide_eq_false fun e => h (recB_inj ha hfa hb hfb e), decide_eq_false fun e => h (eq_of_parts e)]
theorem same_at (ao : Option Addr) (n cap : Nat) (xs : List Int) (bo : Option Addr) (n' cap' : Nat) (ys : List Int) (w : World) (b : Bool) (h : Row w ao xs) (h' : Row w bo ys) (hn : xs.length = n) (hn' : ys.length = n') (hb : sameB xs ys = b) :
    Calls Tryd.prog 18 #[.slice ao n cap, .slice bo n' cap'] w fun e w' => e = .returned (.bool b) ∧ Below w.heap.size w w' := by
  subst hn; subst hn'; subst hb
  refine (same_any ao cap xs bo cap' ys w h h').mono ?_
  rintro e w' ⟨rfl, n, rfl⟩
  exact ⟨rfl, below_drewN (Below.refl _ _) n⟩
theorem sameR_at (a b : R) (q : Bool) (h : sameR a b = q) (w : World) : Calls Tryd.prog 21 #[a.val, b.val] w fun e w' => e = .returned (.bool q) ∧ Below w.heap.size w w' := by
  subst h; exact sameRec_any a b w
theorem recSame_at (a b : R) (q : Bool) (h : sameR a b = q) (w : World) : Calls Tryd.prog 22 #[a.val, b.val] w fun e w' => e = .returned (.bool q) ∧ Below w.heap.size w w' := by
  subst h; exact recSame_any a b w
theorem run_ld10 {B : Nat} {w : World} {r : R} (h : Cells10 w B r) : (Instr.loadAt 23 (.pointer (some ⟨B, 0, none⟩))).run Tryd.prog w = .ok r.val w := by
  obtain ⟨k0, k1, k2, k3, k4, k5, k6, k7, k8, k9, kl⟩ := h
  unfold R.val
  go_simp
theorem take_ld10 {S : World → Prop} {B : Nat} {r : R} {o : Oper} {a : Act} {x : Operand} (hop : o.op = .load 23 x) (ha : a.eval x = .pointer (some ⟨B, 0, none⟩)) (hS : ∀ w, S w → Cells10 w B r) : ∀ w, S w → (execOp a.eval o).run Tryd.prog w = .ok (.value r.val) w := by
  intro w h
  simp [execOp, hop, ha, run_ld10 (hS w h)]
theorem run_nil (t : Tmp) (w : World) : (do eqGuard .eql 35 (.tmp t) (.const .nilIface) .nilIface .nilIface; binOp .eql 35 .nilIface .nilIface : Sem Value).run Tryd.prog w = .ok (.bool true) w := by
  go_simp
theorem take_nil {S : World → Prop} {o : Oper} {a : Act} {t : Tmp} (hop : o.op = .binOp .eql 35 (.tmp t) (.const .nilIface) 35) (hx : a.eval (.tmp t) = .nilIface) : ∀ w, S w → (execOp a.eval o).run Tryd.prog w = .ok (.value (.bool true)) w := by
  intro w _
  have h := run_nil t w
  have hc : a.eval (.const .nilIface) = .nilIface := rfl
  simp only [execOp, hop, hx, hc, Sem.run_bind] at h ⊢
  rw [h]
  rfl
theorem run_eqb (x y : Operand) (b : Bool) (w : World) : (do eqGuard .eql 4 x y (.bool b) (.bool b); binOp .eql 4 (.bool b) (.bool b) : Sem Value).run Tryd.prog w = .ok (.bool true) w := by
  cases b <;> go_simp
theorem take_eqb {S : World → Prop} {o : Oper} {a : Act} {x y : Operand} (b : Bool) (hop : o.op = .binOp .eql 4 x y 4) (hx : a.eval x = .bool b) (hy : a.eval y = .bool b) : ∀ w, S w → (execOp a.eval o).run Tryd.prog w = .ok (.value (.bool true)) w := by
  intro w _
  have h := run_eqb x y b w
  simp only [execOp, hop, hx, hy, Sem.run_bind] at h ⊢
  rw [h]
  rfl
theorem enters18 : Enters Tryd.prog 18 := enters Tryd.func18 (by kernel_rfl) (by kernel_rfl)
theorem enters21 : Enters Tryd.prog 21 := enters Tryd.func21 (by kernel_rfl) (by kernel_rfl)
theorem enters22 : Enters Tryd.prog 22 := enters Tryd.func22 (by kernel_rfl) (by kernel_rfl)
set_option maxRecDepth 100000 in
set_option maxHeartbeats 8000000 in
theorem walk (a0 : Option Addr) (len0 cap0 : Nat) (z0 : List Int) (a1 : Option Addr) (len1 cap1 : Nat) (z1 : List Int) (w : World) (w0 : IsRow .i64 w a0 len0 cap0 z0) (w1 : IsRow .i64 w a1 len1 cap1 z1) {a : Nat → Addr} (he : ErrsOf w [1] a) :
    Calls Tryd.prog 6 #[.slice a0 len0 cap0, .slice a1 len1 cap1] w fun e w' => e = .returned (.bool true) ∧ Below w.heap.size w w' := by
  have HE : Hid (∀ x, Below w.heap.size w x → x.cell? ⟨0, 0, none⟩ = some (errV (a 1))) := fun x hb => (hb.cell (World.block_lt_of_cell? w _ (he.cell 1 (by simp)))).trans (he.cell 1 (by simp))
  have H0 := hide w0
  have H1 := hide w1
  clear he w0 w1
  by_cases hl : len0 ≤ 60 ∧ len1 ≤ 60
  · obtain ⟨hl1, hl2⟩ := hl
    have hd1 : decide ((60 : Int) < (len0 : Int)) = false := by simp; omega
    have hd2 : decide ((60 : Int) < (len1 : Int)) = false := by simp; omega
    have HL1 := hide hl1
    have HL2 := hide hl2
    clear hl1 hl2
    go_enter Tryd.func6, Tryd.ntmps6
    go_wp2_with fail
    refine (rfirst_any _ _ (HE.out _ (Below.refl _ _))).mono ?_
    rintro e x1 ⟨rfl, hb⟩
    have HB := hide hb
    clear hb
    go_wp2_with fail
    refine (make_new H0.out HL1.out HB.out).mono ?_
    rintro e x2 ⟨ra, rfl, hg, hf, hb⟩
    have hb2 := below_box x2 (recCells ra)
    have HA := hide (cells10_new x2 ra)
    replace HB := hide (over HB.out hb HB.out.size)
    replace HB := hide (over HB.out hb2 HB.out.size)
    have GA := hide hg
    have FA := hide hf
    clear hb hg hf hb2
    unfold recCells at HA HB
    unfold R.val
    go_wp2_with fail
    refine (make_at H1.out HL2.out HB.out (by simp)).mono ?_
    rintro e x3 ⟨rb, rfl, hg, hf, hb⟩
    replace HA := hide (HA.out.below hb (Nat.le_refl _))
    replace HB := hide (over HB.out hb HB.out.size)
    have hb2 := below_box x3 (recCells rb)
    replace HA := hide (HA.out.below hb2 (Nat.le_refl _))
    replace HB := hide (over HB.out hb2 HB.out.size)
    have HC := hide (cells10_new x3 rb)
    have GB := hide hg
    have FB := hide hf
    clear hb hg hf hb2
    unfold recCells at HA HB HC
    unfold R.val
    obtain ⟨k0, k1, k2, k3, k4, k5, k6, k7, k8, k9, kl⟩ := HA.out
    go_wp2_with fail
    clear k0 k1 k2 k3 k4 k5 k6 k7 k8 k9 kl
    refine (recBytes_good ra _ _ (HE.out _ HB.out) GA.out).mono ?_
    rintro e x4 ⟨g, rfl, hg, hown, hb⟩
    have HX := hide hown.row
    replace HA := hide (HA.out.below hb (Nat.le_refl _))
    replace HC := hide (HC.out.below hb (Nat.le_refl _))
    replace HB := hide (over HB.out hb HB.out.size)
    clear hb hg hown
    obtain ⟨m0, m1, m2, m3, m4, m5, m6, m7, m8, m9, ml⟩ := HC.out
    go_wp2_with fail
    clear m0 m1 m2 m3 m4 m5 m6 m7 m8 m9 ml
    refine (recBytes_good rb _ _ (HE.out _ HB.out) GB.out).mono ?_
    rintro e x5 ⟨g', rfl, hg, hown, hb⟩
    have HY := hide hown.row
    replace HX := hide (HX.out.below hb (Nat.le_refl _))
    replace HA := hide (HA.out.below hb (Nat.le_refl _))
    replace HC := hide (HC.out.below hb (Nat.le_refl _))
    replace HB := hide (over HB.out hb HB.out.size)
    clear hb hg hown
    have HSB := hide (same_both GA.out FA.out GB.out FB.out)
    go_wp2_with fail
    obtain ⟨q, hq⟩ : ∃ q, sameR ra rb = q := ⟨_, rfl⟩
    rw [hq] at HSB
    have HQ := hide hq
    clear hq
    refine region_of_sched (S := fun w' => Cells10 w' x2.heap.size ra ∧ Cells10 w' x3.heap.size rb) [(0, true), (1, true), (2, true), (3, true), (4, true), (5, true), (6, true), (7, true), (8, true), (9, true), (10, true), (11, true), (13, true), (14, true), (12, false), (15, false), (16, true), (17, true), (18, true), (19, true), (20, true), (22, true), (23, true), (21, false), (24, false), (25, true), (26, true), (27, true)] (by kernel_rfl) (by kernel_rfl) (by kernel_rfl) (by kernel_rfl) (fun c a d v w h => by cases d <;> exact h) ⟨HA.out.below (below_drew (Below.refl _ _)) (Nat.le_refl _), HC.out.below (below_drew (Below.refl _ _)) (Nat.le_refl _)⟩ ?_
    replace HA := hide (HA.out.below (below_drew (Below.refl x5.heap.size x5)) (Nat.le_refl _))
    replace HC := hide (HC.out.below (below_drew (Below.refl x5.heap.size x5)) (Nat.le_refl _))
    replace HX := hide (HX.out.below (below_drew (Below.refl x5.heap.size x5)) (Nat.le_refl _))
    replace HY := hide (HY.out.below (below_drew (Below.refl x5.heap.size x5)) (Nat.le_refl _))
    replace HB := hide (below_drew HB.out)
    refine sched_move (i := 0) (.bool true) rfl rfl rfl rfl rfl ?_
    simp only [List.set]
    refine sched_move (i := 1) (.bool true) rfl rfl rfl rfl rfl ?_
    simp only [List.set]
    refine sched_move (i := 2) .nilIface rfl rfl rfl rfl rfl ?_
    simp only [List.set]
    refine sched_take (i := 3) rfl rfl rfl (take_nil rfl rfl) ?_
    simp only [List.set]
    refine sched_pick (i := 4) true (.bool true) rfl rfl rfl rfl rfl rfl ?_
    simp only [List.set]
    refine sched_move (i := 5) (.bool true) rfl rfl rfl rfl rfl ?_
    simp only [List.set]
    refine sched_move (i := 6) .nilIface rfl rfl rfl rfl rfl ?_
    simp only [List.set]
    refine sched_take (i := 7) rfl rfl rfl (take_nil rfl rfl) ?_
    simp only [List.set]
    refine sched_pick (i := 8) true (.bool true) rfl rfl rfl rfl rfl rfl ?_
    simp only [List.set]
    refine sched_move (i := 9) (.bool true) rfl rfl rfl rfl rfl ?_
    simp only [List.set]
    refine sched_move (i := 10) (.slice (some ⟨g, 0, none⟩) 40 40) rfl rfl rfl rfl rfl ?_
    simp only [List.set]
    refine sched_move (i := 11) (.slice (some ⟨g', 0, none⟩) 40 40) rfl rfl rfl rfl rfl ?_
    simp only [List.set]
    refine sched_take (i := 13) rfl rfl rfl (take_ld10 rfl rfl fun w h => h.1) ?_
    simp only [List.set]
    refine sched_take (i := 14) rfl rfl rfl (take_ld10 rfl rfl fun w h => h.2) ?_
    simp only [List.set]
    refine sched_call (i := 12) rfl rfl rfl rfl enters18 ((same_at _ _ _ (recB ra) _ _ _ (recB rb) _ _ HX.out HY.out (length_recB ra) (length_recB rb) HSB.out).mono ?_)
    rintro e y ⟨rfl, hb⟩
    refine ⟨_, rfl, ⟨HA.out.below hb (Nat.le_refl _), HC.out.below hb (Nat.le_refl _)⟩, ?_⟩
    replace HA := hide (HA.out.below hb (Nat.le_refl _))
    replace HC := hide (HC.out.below hb (Nat.le_refl _))
    replace HB := hide (over HB.out hb HB.out.size)
    clear hb
    simp only [List.set]
    refine sched_call (i := 15) rfl rfl rfl rfl enters21 ((sameR_at ra rb _ HQ.out _).mono ?_)
    rintro e y ⟨rfl, hb⟩
    refine ⟨_, rfl, ⟨HA.out.below hb (Nat.le_refl _), HC.out.below hb (Nat.le_refl _)⟩, ?_⟩
    replace HA := hide (HA.out.below hb (Nat.le_refl _))
    replace HC := hide (HC.out.below hb (Nat.le_refl _))
    replace HB := hide (over HB.out hb HB.out.size)
    clear hb
    simp only [List.set]
    refine sched_take (i := 16) rfl rfl rfl (take_eqb q rfl rfl rfl) ?_
    simp only [List.set]
    refine sched_pick (i := 17) true (.bool true) rfl rfl rfl rfl rfl rfl ?_
    simp only [List.set]
    refine sched_move (i := 18) (.bool true) rfl rfl rfl rfl rfl ?_
    simp only [List.set]
    refine sched_take (i := 19) rfl rfl rfl (take_ld10 rfl rfl fun w h => h.1) ?_
    simp only [List.set]
    refine sched_take (i := 20) rfl rfl rfl (take_ld10 rfl rfl fun w h => h.2) ?_
    simp only [List.set]
    refine sched_take (i := 22) rfl rfl rfl (take_ld10 rfl rfl fun w h => h.1) ?_
    simp only [List.set]
    refine sched_take (i := 23) rfl rfl rfl (take_ld10 rfl rfl fun w h => h.2) ?_
    simp only [List.set]
    refine sched_call (i := 21) rfl rfl rfl rfl enters22 ((recSame_at ra rb _ HQ.out _).mono ?_)
    rintro e y ⟨rfl, hb⟩
    refine ⟨_, rfl, ⟨HA.out.below hb (Nat.le_refl _), HC.out.below hb (Nat.le_refl _)⟩, ?_⟩
    replace HA := hide (HA.out.below hb (Nat.le_refl _))
    replace HC := hide (HC.out.below hb (Nat.le_refl _))
    replace HB := hide (over HB.out hb HB.out.size)
    clear hb
    simp only [List.set]
    refine sched_call (i := 24) rfl rfl rfl rfl enters21 ((sameR_at ra rb _ HQ.out _).mono ?_)
    rintro e y ⟨rfl, hb⟩
    refine ⟨_, rfl, ⟨HA.out.below hb (Nat.le_refl _), HC.out.below hb (Nat.le_refl _)⟩, ?_⟩
    replace HA := hide (HA.out.below hb (Nat.le_refl _))
    replace HC := hide (HC.out.below hb (Nat.le_refl _))
    replace HB := hide (over HB.out hb HB.out.size)
    clear hb
    simp only [List.set]
    refine sched_take (i := 25) rfl rfl rfl (take_eqb q rfl rfl rfl) ?_
    simp only [List.set]
    refine sched_pick (i := 26) true (.bool true) rfl rfl rfl rfl rfl rfl ?_
    simp only [List.set]
    refine sched_assign (i := 27) (.bool true) rfl rfl rfl rfl rfl ?_
    simp only [List.set]
    refine sched_nil ?_
    go_wp2_with fail
    go_ret
    exact ⟨rfl, HB.out⟩
  · have hd1 : decide ((60 : Int) < (len0 : Int)) = true ∨ decide ((60 : Int) < (len0 : Int)) = false ∧ decide ((60 : Int) < (len1 : Int)) = true := by simp; omega
    rcases hd1 with hd1 | ⟨hd1, hd2⟩
    all_goals
      clear hl
      go_enter Tryd.func6, Tryd.ntmps6
      go_wp2_with fail
      refine (rfirst_any _ _ (HE.out _ (Below.refl _ _))).mono ?_
      rintro e x1 ⟨rfl, hb⟩
      have HB := hide hb
      clear hb
      go_wp2_with fail
      go_ret
      exact ⟨rfl, HB.out⟩
end Go.Proofs.YtimajndclhmanaaDoor.recUnlike
