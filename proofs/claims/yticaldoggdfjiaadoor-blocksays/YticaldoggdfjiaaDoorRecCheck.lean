
/- What rec.Check answers: no error of a record that may be, ErrRange of every other. -/
import Derived.Test.YticaldoggdfjiaaDoorRecSpans
import Derived.Test.YticaldoggdfjiaaDoorSched
namespace Go.Proofs.YticaldoggdfjiaaDoor
open Go.RowKit
set_option linter.unusedVariables false

/-- A record and a span lie in memory, cell by cell. -/
structure Cells12 (w : World) (B : Nat) (r : R) : Prop where
  c0 : w.cell? ⟨B, 0, none⟩ = some (.int .i64 r.kind)
  c1 : w.cell? ⟨B, 1, none⟩ = some (.int .i64 r.txn)
  c2 : w.cell? ⟨B, 2, none⟩ = some (.int .i64 r.page)
  c3 : w.cell? ⟨B, 3, none⟩ = some (.int .i64 r.prev)
  c4 : w.cell? ⟨B, 4, none⟩ = some (.int .i64 r.next)
  c5 : w.cell? ⟨B, 5, none⟩ = some (.int .i64 r.key)
  c6 : w.cell? ⟨B, 6, none⟩ = some (.bool r.had)
  c7 : w.cell? ⟨B, 7, none⟩ = some (.bool r.has)
  c8 : w.cell? ⟨B, 8, none⟩ = some (.int .i64 r.old)
  c9 : w.cell? ⟨B, 9, none⟩ = some (.int .i64 r.new)
  s0 : w.cell? ⟨B + 1, 0, none⟩ = some (.int .i64 1)
  s1 : w.cell? ⟨B + 1, 1, none⟩ = some (.int .i64 10)
  lt : B + 1 < w.heap.size
theorem Cells12.below {w w' : World} {B n : Nat} {r : R} (h : Cells12 w B r) (hb : Below n w w') (hn : w.heap.size ≤ n) : Cells12 w' B r := by
  have hl := h.lt
  have h0 : ∀ o, w'.cell? ⟨B, o, none⟩ = w.cell? ⟨B, o, none⟩ := fun o => hb.cell (show B < n by omega)
  have h1 : ∀ o, w'.cell? ⟨B + 1, o, none⟩ = w.cell? ⟨B + 1, o, none⟩ := fun o => hb.cell (show B + 1 < n by omega)
  exact ⟨(h0 _).trans h.c0, (h0 _).trans h.c1, (h0 _).trans h.c2, (h0 _).trans h.c3, (h0 _).trans h.c4, (h0 _).trans h.c5, (h0 _).trans h.c6, (h0 _).trans h.c7, (h0 _).trans h.c8, (h0 _).trans h.c9, (h1 _).trans h.s0, (h1 _).trans h.s1, Nat.lt_of_lt_of_le hl hb.size⟩
theorem cells12_new (w : World) (r : R) : Cells12 ((w.alloc (.cells #[.int .i64 r.kind, .int .i64 r.txn, .int .i64 r.page, .int .i64 r.prev, .int .i64 r.next, .int .i64 r.key, .bool r.had, .bool r.has, .int .i64 r.old, .int .i64 r.new] 23)).alloc (.cells #[.int .i64 1, .int .i64 10] 75)) w.heap.size r := by
  constructor <;> simp
theorem enters39 : Enters Tryd.prog 39 := enters Tryd.func39 (by kernel_rfl) (by kernel_rfl)
theorem enters40 : Enters Tryd.prog 40 := enters Tryd.func40 (by kernel_rfl) (by kernel_rfl)
theorem enters41 : Enters Tryd.prog 41 := enters Tryd.func41 (by kernel_rfl) (by kernel_rfl)
theorem enters42 : Enters Tryd.prog 42 := enters Tryd.func42 (by kernel_rfl) (by kernel_rfl)
theorem enters43 : Enters Tryd.prog 43 := enters Tryd.func43 (by kernel_rfl) (by kernel_rfl)
theorem enters44 : Enters Tryd.prog 44 := enters Tryd.func44 (by kernel_rfl) (by kernel_rfl)
theorem enters45 : Enters Tryd.prog 45 := enters Tryd.func45 (by kernel_rfl) (by kernel_rfl)
theorem enters46 : Enters Tryd.prog 46 := enters Tryd.func46 (by kernel_rfl) (by kernel_rfl)
theorem enters47 : Enters Tryd.prog 47 := enters Tryd.func47 (by kernel_rfl) (by kernel_rfl)
/-- What rec.Check answers. -/
def checkV (r : R) (x : Addr) : Value := if goodB r then .nilIface else errV x
theorem checkV_bad {r : R} {x : Addr} (h : goodB r = false) : checkV r x = errV x := by simp [checkV, h]
theorem checkV_good {r : R} {x : Addr} (h : goodB r = true) : checkV r x = .nilIface := by simp [checkV, h]
theorem ret_bad {r : R} {x : Addr} (h : goodB r = false) : Ending.returned (.iface 99 (.pointer (some x))) = .returned (checkV r x) := by rw [checkV_bad h]; rfl
theorem ret_good {r : R} {x : Addr} (h : goodB r = true) : Ending.returned .nilIface = .returned (checkV r x) := by rw [checkV_good h]
theorem run_fa (f : Nat) (hf : f < 10) (B : Nat) (w : World) : (Instr.fieldAt 23 (.pointer (some ⟨B, 0, none⟩)) f).run Tryd.prog w = .ok (.pointer (some ⟨B, f, none⟩)) w := by
  match f, hf with
  | 0, _ => go_simp
  | 1, _ => go_simp
  | 2, _ => go_simp
  | 3, _ => go_simp
  | 4, _ => go_simp
  | 5, _ => go_simp
  | 6, _ => go_simp
  | 7, _ => go_simp
  | 8, _ => go_simp
  | 9, _ => go_simp
theorem take_fa {S : World → Prop} {o : Oper} {a : Act} {x : Operand} {B : Nat} (f : Nat) (hf : f < 10) (hop : o.op = .fieldAddr 23 x f) (ha : a.eval x = .pointer (some ⟨B, 0, none⟩)) : ∀ w, S w → (execOp a.eval o).run Tryd.prog w = .ok (.value (.pointer (some ⟨B, f, none⟩))) w := by
  intro w _
  simp [execOp, hop, ha, run_fa f hf B w]
theorem run_ld {n : Int} {p : Addr} {w : World} (h : w.cell? p = some (.int .i64 n)) : (Instr.loadAt 3 (.pointer (some p))).run Tryd.prog w = .ok (.int .i64 n) w := by go_simp
theorem take_ld {S : World → Prop} {o : Oper} {a : Act} {x : Operand} {p : Addr} {n : Int} (hop : o.op = .load 3 x) (ha : a.eval x = .pointer (some p)) (hc : ∀ w, S w → w.cell? p = some (.int .i64 n)) : ∀ w, S w → (execOp a.eval o).run Tryd.prog w = .ok (.value (.int .i64 n)) w := by
  intro w hS
  simp [execOp, hop, ha, run_ld (hc w hS)]
theorem run_ldS {B : Nat} {w : World} {r : R} (h : Cells12 w B r) : (Instr.loadAt 75 (.pointer (some ⟨B + 1, 0, none⟩))).run Tryd.prog w = .ok (pairV 1 10) w := by
  obtain ⟨k0, k1, k2, k3, k4, k5, k6, k7, k8, k9, k10, k11, kl⟩ := h
  unfold pairV
  go_simp
theorem run_ldR {B : Nat} {w : World} {r : R} (h : Cells12 w B r) : (Instr.loadAt 23 (.pointer (some ⟨B, 0, none⟩))).run Tryd.prog w = .ok r.val w := by
  obtain ⟨k0, k1, k2, k3, k4, k5, k6, k7, k8, k9, k10, k11, kl⟩ := h
  unfold R.val
  go_simp
theorem take_ldS {B : Nat} {r : R} {o : Oper} {a : Act} {x : Operand} (hop : o.op = .load 75 x) (ha : a.eval x = .pointer (some ⟨B + 1, 0, none⟩)) : ∀ w, Cells12 w B r → (execOp a.eval o).run Tryd.prog w = .ok (.value (pairV 1 10)) w := by
  intro w hS
  simp [execOp, hop, ha, run_ldS hS]
theorem take_ldR {B : Nat} {r : R} {o : Oper} {a : Act} {x : Operand} (hop : o.op = .load 23 x) (ha : a.eval x = .pointer (some ⟨B, 0, none⟩)) : ∀ w, Cells12 w B r → (execOp a.eval o).run Tryd.prog w = .ok (.value r.val) w := by
  intro w hS
  simp [execOp, hop, ha, run_ldR hS]
set_option maxHeartbeats 4000000 in
set_option maxRecDepth 100000 in
theorem check_any (r : R) (w : World) (x : Addr) (hE : w.cell? ⟨0, 0, none⟩ = some (errV x)) :
    Calls Tryd.prog 17 #[r.val] w fun e w' => e = .returned (checkV r x) ∧ Below w.heap.size w w' := by
  have HC := hide (cells12_new w r)
  have HB : Hid (Below w.heap.size w ((w.alloc (.cells #[.int .i64 r.kind, .int .i64 r.txn, .int .i64 r.page, .int .i64 r.prev, .int .i64 r.next, .int .i64 r.key, .bool r.had, .bool r.has, .int .i64 r.old, .int .i64 r.new] 23)).alloc (.cells #[.int .i64 1, .int .i64 10] 75))) := ((Below.refl _ _).alloc (Nat.le_refl _) _).alloc (by simp) _
  obtain ⟨W, hW⟩ : ∃ W, W = (w.alloc (.cells #[.int .i64 r.kind, .int .i64 r.txn, .int .i64 r.page, .int .i64 r.prev, .int .i64 r.next, .int .i64 r.key, .bool r.had, .bool r.has, .int .i64 r.old, .int .i64 r.new] 23)).alloc (.cells #[.int .i64 1, .int .i64 10] 75) := ⟨_, rfl⟩
  rw [← hW] at HC HB
  have HW := hide hW
  clear hW
  have HG : Hid (∀ w', Below w.heap.size w w' → w'.cell? ⟨0, 0, none⟩ = some (.iface 99 (.pointer (some x)))) := fun w' hb => (hb.cell (World.block_lt_of_cell? w _ hE)).trans hE
  clear hE
  show Calls Tryd.prog 17 #[.agg #[.int .i64 r.kind, .int .i64 r.txn, .int .i64 r.page, .int .i64 r.prev, .int .i64 r.next, .int .i64 r.key, .bool r.had, .bool r.has, .int .i64 r.old, .int .i64 r.new]] w _
  go_enter Tryd.func17, Tryd.ntmps17
  go_wp2_with fail
  rw [← HW.out]
  refine region_of_sched (S := fun w' => Cells12 w' w.heap.size r) [(0, true), (1, true), (2, true), (3, false), (4, true), (5, true), (6, true), (8, true), (9, true), (7, false), (10, false), (11, true), (12, true), (13, true), (14, true), (16, true), (17, true), (15, false), (18, false), (19, true), (20, true), (21, true), (22, true), (24, true), (25, true), (23, false), (26, false), (27, true), (28, true), (29, true), (30, true), (32, true), (33, true), (31, false), (34, false), (35, true), (36, true), (37, true), (38, true), (40, true), (41, true), (39, false), (42, false), (43, true), (44, true), (45, true), (46, false), (47, true), (48, true), (49, true), (50, false), (51, true), (52, true), (53, true), (54, false), (55, true), (56, true)] (by kernel_rfl) (by kernel_rfl) (by kernel_rfl) (by kernel_rfl) (fun c a d v w h => by cases d <;> exact h) (HC.out.below (below_drew (Below.refl _ _)) (Nat.le_refl _)) ?_
  replace HC := hide (HC.out.below (below_drew (Below.refl W.heap.size W)) (Nat.le_refl _))
  replace HB := hide (below_drew HB.out)
  refine sched_take (i := 0) rfl rfl rfl (take_ldS rfl rfl) ?_
  simp only [List.set]
  refine sched_take (i := 1) rfl rfl rfl (take_fa 0 (by decide) rfl rfl) ?_
  simp only [List.set]
  refine sched_take (i := 2) rfl rfl rfl (take_ld rfl rfl fun w h => h.c0) ?_
  simp only [List.set]
  cases h1 : holdsB 1 10 r.kind
  · refine sched_call (i := 3) rfl rfl rfl rfl enters39 ((holds_any _ _ _ _ _ h1).mono ?_)
    rintro e w2 ⟨rfl, hb2⟩
    refine ⟨_, rfl, HC.out.below hb2 (Nat.le_refl _), ?_⟩
    simp only [List.set]
    refine sched_move (i := 4) (.bool false) rfl rfl rfl rfl rfl ?_
    simp only [List.set]
    refine sched_skip [(5, true), (6, true), (8, true), (9, true), (7, false), (10, false)] (by kernel_rfl) (HC.out.below hb2 (Nat.le_refl _)) ?_
    refine sched_pick (i := 11) false (.bool false) rfl rfl rfl rfl rfl rfl ?_
    simp only [List.set]
    refine sched_move (i := 12) (.bool false) rfl rfl rfl rfl rfl ?_
    simp only [List.set]
    refine sched_skip [(13, true), (14, true), (16, true), (17, true), (15, false), (18, false)] (by kernel_rfl) (HC.out.below hb2 (Nat.le_refl _)) ?_
    refine sched_pick (i := 19) false (.bool false) rfl rfl rfl rfl rfl rfl ?_
    simp only [List.set]
    refine sched_move (i := 20) (.bool false) rfl rfl rfl rfl rfl ?_
    simp only [List.set]
    refine sched_skip [(21, true), (22, true), (24, true), (25, true), (23, false), (26, false)] (by kernel_rfl) (HC.out.below hb2 (Nat.le_refl _)) ?_
    refine sched_pick (i := 27) false (.bool false) rfl rfl rfl rfl rfl rfl ?_
    simp only [List.set]
    refine sched_move (i := 28) (.bool false) rfl rfl rfl rfl rfl ?_
    simp only [List.set]
    refine sched_skip [(29, true), (30, true), (32, true), (33, true), (31, false), (34, false)] (by kernel_rfl) (HC.out.below hb2 (Nat.le_refl _)) ?_
    refine sched_pick (i := 35) false (.bool false) rfl rfl rfl rfl rfl rfl ?_
    simp only [List.set]
    refine sched_move (i := 36) (.bool false) rfl rfl rfl rfl rfl ?_
    simp only [List.set]
    refine sched_skip [(37, true), (38, true), (40, true), (41, true), (39, false), (42, false)] (by kernel_rfl) (HC.out.below hb2 (Nat.le_refl _)) ?_
    refine sched_pick (i := 43) false (.bool false) rfl rfl rfl rfl rfl rfl ?_
    simp only [List.set]
    refine sched_move (i := 44) (.bool false) rfl rfl rfl rfl rfl ?_
    simp only [List.set]
    refine sched_skip [(45, true), (46, false)] (by kernel_rfl) (HC.out.below hb2 (Nat.le_refl _)) ?_
    refine sched_pick (i := 47) false (.bool false) rfl rfl rfl rfl rfl rfl ?_
    simp only [List.set]
    refine sched_move (i := 48) (.bool false) rfl rfl rfl rfl rfl ?_
    simp only [List.set]
    refine sched_skip [(49, true), (50, false)] (by kernel_rfl) (HC.out.below hb2 (Nat.le_refl _)) ?_
    refine sched_pick (i := 51) false (.bool false) rfl rfl rfl rfl rfl rfl ?_
    simp only [List.set]
    refine sched_move (i := 52) (.bool false) rfl rfl rfl rfl rfl ?_
    simp only [List.set]
    refine sched_skip [(53, true), (54, false)] (by kernel_rfl) (HC.out.below hb2 (Nat.le_refl _)) ?_
    refine sched_pick (i := 55) false (.bool false) rfl rfl rfl rfl rfl rfl ?_
    simp only [List.set]
    refine sched_assign (i := 56) (.bool false) rfl rfl rfl rfl rfl ?_
    simp only [List.set]
    refine sched_nil ?_
    have hB2 := over HB.out hb2 HB.out.size
    have HB2 := hide hB2
    have hE2 := HG.out _ hB2
    clear hB2 hb2
    go_wp2_with fail
    go_ret
    exact ⟨ret_bad (by unfold goodB; rw [h1]; rfl), HB2.out⟩
  refine sched_call (i := 3) rfl rfl rfl rfl enters39 ((holds_any _ _ _ _ _ h1).mono ?_)
  rintro e w2 ⟨rfl, hb2⟩
  refine ⟨_, rfl, HC.out.below hb2 (Nat.le_refl _), ?_⟩
  replace HC := hide (HC.out.below hb2 (Nat.le_refl _))
  replace HB := hide (over HB.out hb2 HB.out.size)
  clear hb2
  simp only [List.set]
  refine sched_move (i := 4) (.bool true) rfl rfl rfl rfl rfl ?_
  simp only [List.set]
  refine sched_take (i := 5) rfl rfl rfl (take_fa 0 (by decide) rfl rfl) ?_
  simp only [List.set]
  refine sched_take (i := 6) rfl rfl rfl (take_ld rfl rfl fun w h => h.c0) ?_
  simp only [List.set]
  refine sched_take (i := 8) rfl rfl rfl (take_fa 1 (by decide) rfl rfl) ?_
  simp only [List.set]
  refine sched_take (i := 9) rfl rfl rfl (take_ld rfl rfl fun w h => h.c1) ?_
  simp only [List.set]
  refine sched_call (i := 7) rfl rfl rfl rfl enters40 ((txnSpan_any _ _).mono ?_)
  rintro e w2 ⟨rfl, hb2⟩
  refine ⟨_, rfl, HC.out.below hb2 (Nat.le_refl _), ?_⟩
  replace HC := hide (HC.out.below hb2 (Nat.le_refl _))
  replace HB := hide (over HB.out hb2 HB.out.size)
  clear hb2
  simp only [List.set]
  cases h2 : holdsB (txnLo r.kind) (txnHi r.kind) r.txn
  · refine sched_call (i := 10) rfl rfl rfl rfl enters39 ((holds_any _ _ _ _ _ h2).mono ?_)
    rintro e w2 ⟨rfl, hb2⟩
    refine ⟨_, rfl, HC.out.below hb2 (Nat.le_refl _), ?_⟩
    simp only [List.set]
    refine sched_pick (i := 11) true (.bool false) rfl rfl rfl rfl rfl rfl ?_
    simp only [List.set]
    refine sched_move (i := 12) (.bool false) rfl rfl rfl rfl rfl ?_
    simp only [List.set]
    refine sched_skip [(13, true), (14, true), (16, true), (17, true), (15, false), (18, false)] (by kernel_rfl) (HC.out.below hb2 (Nat.le_refl _)) ?_
    refine sched_pick (i := 19) false (.bool false) rfl rfl rfl rfl rfl rfl ?_
    simp only [List.set]
    refine sched_move (i := 20) (.bool false) rfl rfl rfl rfl rfl ?_
    simp only [List.set]
    refine sched_skip [(21, true), (22, true), (24, true), (25, true), (23, false), (26, false)] (by kernel_rfl) (HC.out.below hb2 (Nat.le_refl _)) ?_
    refine sched_pick (i := 27) false (.bool false) rfl rfl rfl rfl rfl rfl ?_
    simp only [List.set]
    refine sched_move (i := 28) (.bool false) rfl rfl rfl rfl rfl ?_
    simp only [List.set]
    refine sched_skip [(29, true), (30, true), (32, true), (33, true), (31, false), (34, false)] (by kernel_rfl) (HC.out.below hb2 (Nat.le_refl _)) ?_
    refine sched_pick (i := 35) false (.bool false) rfl rfl rfl rfl rfl rfl ?_
    simp only [List.set]
    refine sched_move (i := 36) (.bool false) rfl rfl rfl rfl rfl ?_
    simp only [List.set]
    refine sched_skip [(37, true), (38, true), (40, true), (41, true), (39, false), (42, false)] (by kernel_rfl) (HC.out.below hb2 (Nat.le_refl _)) ?_
    refine sched_pick (i := 43) false (.bool false) rfl rfl rfl rfl rfl rfl ?_
    simp only [List.set]
    refine sched_move (i := 44) (.bool false) rfl rfl rfl rfl rfl ?_
    simp only [List.set]
    refine sched_skip [(45, true), (46, false)] (by kernel_rfl) (HC.out.below hb2 (Nat.le_refl _)) ?_
    refine sched_pick (i := 47) false (.bool false) rfl rfl rfl rfl rfl rfl ?_
    simp only [List.set]
    refine sched_move (i := 48) (.bool false) rfl rfl rfl rfl rfl ?_
    simp only [List.set]
    refine sched_skip [(49, true), (50, false)] (by kernel_rfl) (HC.out.below hb2 (Nat.le_refl _)) ?_
    refine sched_pick (i := 51) false (.bool false) rfl rfl rfl rfl rfl rfl ?_
    simp only [List.set]
    refine sched_move (i := 52) (.bool false) rfl rfl rfl rfl rfl ?_
    simp only [List.set]
    refine sched_skip [(53, true), (54, false)] (by kernel_rfl) (HC.out.below hb2 (Nat.le_refl _)) ?_
    refine sched_pick (i := 55) false (.bool false) rfl rfl rfl rfl rfl rfl ?_
    simp only [List.set]
    refine sched_assign (i := 56) (.bool false) rfl rfl rfl rfl rfl ?_
    simp only [List.set]
    refine sched_nil ?_
    have hB2 := over HB.out hb2 HB.out.size
    have HB2 := hide hB2
    have hE2 := HG.out _ hB2
    clear hB2 hb2
    go_wp2_with fail
    go_ret
    exact ⟨ret_bad (by unfold goodB; rw [h1, h2]; rfl), HB2.out⟩
  refine sched_call (i := 10) rfl rfl rfl rfl enters39 ((holds_any _ _ _ _ _ h2).mono ?_)
  rintro e w2 ⟨rfl, hb2⟩
  refine ⟨_, rfl, HC.out.below hb2 (Nat.le_refl _), ?_⟩
  replace HC := hide (HC.out.below hb2 (Nat.le_refl _))
  replace HB := hide (over HB.out hb2 HB.out.size)
  clear hb2
  simp only [List.set]
  refine sched_pick (i := 11) true (.bool true) rfl rfl rfl rfl rfl rfl ?_
  simp only [List.set]
  refine sched_move (i := 12) (.bool true) rfl rfl rfl rfl rfl ?_
  simp only [List.set]
  refine sched_take (i := 13) rfl rfl rfl (take_fa 0 (by decide) rfl rfl) ?_
  simp only [List.set]
  refine sched_take (i := 14) rfl rfl rfl (take_ld rfl rfl fun w h => h.c0) ?_
  simp only [List.set]
  refine sched_take (i := 16) rfl rfl rfl (take_fa 2 (by decide) rfl rfl) ?_
  simp only [List.set]
  refine sched_take (i := 17) rfl rfl rfl (take_ld rfl rfl fun w h => h.c2) ?_
  simp only [List.set]
  refine sched_call (i := 15) rfl rfl rfl rfl enters41 ((pageSpan_any _ _).mono ?_)
  rintro e w2 ⟨rfl, hb2⟩
  refine ⟨_, rfl, HC.out.below hb2 (Nat.le_refl _), ?_⟩
  replace HC := hide (HC.out.below hb2 (Nat.le_refl _))
  replace HB := hide (over HB.out hb2 HB.out.size)
  clear hb2
  simp only [List.set]
  cases h3 : holdsB (pageLo r.kind) (pageHi r.kind) r.page
  · refine sched_call (i := 18) rfl rfl rfl rfl enters39 ((holds_any _ _ _ _ _ h3).mono ?_)
    rintro e w2 ⟨rfl, hb2⟩
    refine ⟨_, rfl, HC.out.below hb2 (Nat.le_refl _), ?_⟩
    simp only [List.set]
    refine sched_pick (i := 19) true (.bool false) rfl rfl rfl rfl rfl rfl ?_
    simp only [List.set]
    refine sched_move (i := 20) (.bool false) rfl rfl rfl rfl rfl ?_
    simp only [List.set]
    refine sched_skip [(21, true), (22, true), (24, true), (25, true), (23, false), (26, false)] (by kernel_rfl) (HC.out.below hb2 (Nat.le_refl _)) ?_
    refine sched_pick (i := 27) false (.bool false) rfl rfl rfl rfl rfl rfl ?_
    simp only [List.set]
    refine sched_move (i := 28) (.bool false) rfl rfl rfl rfl rfl ?_
    simp only [List.set]
    refine sched_skip [(29, true), (30, true), (32, true), (33, true), (31, false), (34, false)] (by kernel_rfl) (HC.out.below hb2 (Nat.le_refl _)) ?_
    refine sched_pick (i := 35) false (.bool false) rfl rfl rfl rfl rfl rfl ?_
    simp only [List.set]
    refine sched_move (i := 36) (.bool false) rfl rfl rfl rfl rfl ?_
    simp only [List.set]
    refine sched_skip [(37, true), (38, true), (40, true), (41, true), (39, false), (42, false)] (by kernel_rfl) (HC.out.below hb2 (Nat.le_refl _)) ?_
    refine sched_pick (i := 43) false (.bool false) rfl rfl rfl rfl rfl rfl ?_
    simp only [List.set]
    refine sched_move (i := 44) (.bool false) rfl rfl rfl rfl rfl ?_
    simp only [List.set]
    refine sched_skip [(45, true), (46, false)] (by kernel_rfl) (HC.out.below hb2 (Nat.le_refl _)) ?_
    refine sched_pick (i := 47) false (.bool false) rfl rfl rfl rfl rfl rfl ?_
    simp only [List.set]
    refine sched_move (i := 48) (.bool false) rfl rfl rfl rfl rfl ?_
    simp only [List.set]
    refine sched_skip [(49, true), (50, false)] (by kernel_rfl) (HC.out.below hb2 (Nat.le_refl _)) ?_
    refine sched_pick (i := 51) false (.bool false) rfl rfl rfl rfl rfl rfl ?_
    simp only [List.set]
    refine sched_move (i := 52) (.bool false) rfl rfl rfl rfl rfl ?_
    simp only [List.set]
    refine sched_skip [(53, true), (54, false)] (by kernel_rfl) (HC.out.below hb2 (Nat.le_refl _)) ?_
    refine sched_pick (i := 55) false (.bool false) rfl rfl rfl rfl rfl rfl ?_
    simp only [List.set]
    refine sched_assign (i := 56) (.bool false) rfl rfl rfl rfl rfl ?_
    simp only [List.set]
    refine sched_nil ?_
    have hB2 := over HB.out hb2 HB.out.size
    have HB2 := hide hB2
    have hE2 := HG.out _ hB2
    clear hB2 hb2
    go_wp2_with fail
    go_ret
    exact ⟨ret_bad (by unfold goodB; rw [h1, h2, h3]; rfl), HB2.out⟩
  refine sched_call (i := 18) rfl rfl rfl rfl enters39 ((holds_any _ _ _ _ _ h3).mono ?_)
  rintro e w2 ⟨rfl, hb2⟩
  refine ⟨_, rfl, HC.out.below hb2 (Nat.le_refl _), ?_⟩
  replace HC := hide (HC.out.below hb2 (Nat.le_refl _))
  replace HB := hide (over HB.out hb2 HB.out.size)
  clear hb2
  simp only [List.set]
  refine sched_pick (i := 19) true (.bool true) rfl rfl rfl rfl rfl rfl ?_
  simp only [List.set]
  refine sched_move (i := 20) (.bool true) rfl rfl rfl rfl rfl ?_
  simp only [List.set]
  refine sched_take (i := 21) rfl rfl rfl (take_fa 0 (by decide) rfl rfl) ?_
  simp only [List.set]
  refine sched_take (i := 22) rfl rfl rfl (take_ld rfl rfl fun w h => h.c0) ?_
  simp only [List.set]
  refine sched_take (i := 24) rfl rfl rfl (take_fa 3 (by decide) rfl rfl) ?_
  simp only [List.set]
  refine sched_take (i := 25) rfl rfl rfl (take_ld rfl rfl fun w h => h.c3) ?_
  simp only [List.set]
  refine sched_call (i := 23) rfl rfl rfl rfl enters42 ((prevSpan_any _ _).mono ?_)
  rintro e w2 ⟨rfl, hb2⟩
  refine ⟨_, rfl, HC.out.below hb2 (Nat.le_refl _), ?_⟩
  replace HC := hide (HC.out.below hb2 (Nat.le_refl _))
  replace HB := hide (over HB.out hb2 HB.out.size)
  clear hb2
  simp only [List.set]
  cases h4 : holdsB (prevLo r.kind) (prevHi r.kind) r.prev
  · refine sched_call (i := 26) rfl rfl rfl rfl enters39 ((holds_any _ _ _ _ _ h4).mono ?_)
    rintro e w2 ⟨rfl, hb2⟩
    refine ⟨_, rfl, HC.out.below hb2 (Nat.le_refl _), ?_⟩
    simp only [List.set]
    refine sched_pick (i := 27) true (.bool false) rfl rfl rfl rfl rfl rfl ?_
    simp only [List.set]
    refine sched_move (i := 28) (.bool false) rfl rfl rfl rfl rfl ?_
    simp only [List.set]
    refine sched_skip [(29, true), (30, true), (32, true), (33, true), (31, false), (34, false)] (by kernel_rfl) (HC.out.below hb2 (Nat.le_refl _)) ?_
    refine sched_pick (i := 35) false (.bool false) rfl rfl rfl rfl rfl rfl ?_
    simp only [List.set]
    refine sched_move (i := 36) (.bool false) rfl rfl rfl rfl rfl ?_
    simp only [List.set]
    refine sched_skip [(37, true), (38, true), (40, true), (41, true), (39, false), (42, false)] (by kernel_rfl) (HC.out.below hb2 (Nat.le_refl _)) ?_
    refine sched_pick (i := 43) false (.bool false) rfl rfl rfl rfl rfl rfl ?_
    simp only [List.set]
    refine sched_move (i := 44) (.bool false) rfl rfl rfl rfl rfl ?_
    simp only [List.set]
    refine sched_skip [(45, true), (46, false)] (by kernel_rfl) (HC.out.below hb2 (Nat.le_refl _)) ?_
    refine sched_pick (i := 47) false (.bool false) rfl rfl rfl rfl rfl rfl ?_
    simp only [List.set]
    refine sched_move (i := 48) (.bool false) rfl rfl rfl rfl rfl ?_
    simp only [List.set]
    refine sched_skip [(49, true), (50, false)] (by kernel_rfl) (HC.out.below hb2 (Nat.le_refl _)) ?_
    refine sched_pick (i := 51) false (.bool false) rfl rfl rfl rfl rfl rfl ?_
    simp only [List.set]
    refine sched_move (i := 52) (.bool false) rfl rfl rfl rfl rfl ?_
    simp only [List.set]
    refine sched_skip [(53, true), (54, false)] (by kernel_rfl) (HC.out.below hb2 (Nat.le_refl _)) ?_
    refine sched_pick (i := 55) false (.bool false) rfl rfl rfl rfl rfl rfl ?_
    simp only [List.set]
    refine sched_assign (i := 56) (.bool false) rfl rfl rfl rfl rfl ?_
    simp only [List.set]
    refine sched_nil ?_
    have hB2 := over HB.out hb2 HB.out.size
    have HB2 := hide hB2
    have hE2 := HG.out _ hB2
    clear hB2 hb2
    go_wp2_with fail
    go_ret
    exact ⟨ret_bad (by unfold goodB; rw [h1, h2, h3, h4]; rfl), HB2.out⟩
  refine sched_call (i := 26) rfl rfl rfl rfl enters39 ((holds_any _ _ _ _ _ h4).mono ?_)
  rintro e w2 ⟨rfl, hb2⟩
  refine ⟨_, rfl, HC.out.below hb2 (Nat.le_refl _), ?_⟩
  replace HC := hide (HC.out.below hb2 (Nat.le_refl _))
  replace HB := hide (over HB.out hb2 HB.out.size)
  clear hb2
  simp only [List.set]
  refine sched_pick (i := 27) true (.bool true) rfl rfl rfl rfl rfl rfl ?_
  simp only [List.set]
  refine sched_move (i := 28) (.bool true) rfl rfl rfl rfl rfl ?_
  simp only [List.set]
  refine sched_take (i := 29) rfl rfl rfl (take_fa 0 (by decide) rfl rfl) ?_
  simp only [List.set]
  refine sched_take (i := 30) rfl rfl rfl (take_ld rfl rfl fun w h => h.c0) ?_
  simp only [List.set]
  refine sched_take (i := 32) rfl rfl rfl (take_fa 4 (by decide) rfl rfl) ?_
  simp only [List.set]
  refine sched_take (i := 33) rfl rfl rfl (take_ld rfl rfl fun w h => h.c4) ?_
  simp only [List.set]
  refine sched_call (i := 31) rfl rfl rfl rfl enters43 ((nextSpan_any _ _).mono ?_)
  rintro e w2 ⟨rfl, hb2⟩
  refine ⟨_, rfl, HC.out.below hb2 (Nat.le_refl _), ?_⟩
  replace HC := hide (HC.out.below hb2 (Nat.le_refl _))
  replace HB := hide (over HB.out hb2 HB.out.size)
  clear hb2
  simp only [List.set]
  cases h5 : holdsB (0) (nextHi r.kind) r.next
  · refine sched_call (i := 34) rfl rfl rfl rfl enters39 ((holds_any _ _ _ _ _ h5).mono ?_)
    rintro e w2 ⟨rfl, hb2⟩
    refine ⟨_, rfl, HC.out.below hb2 (Nat.le_refl _), ?_⟩
    simp only [List.set]
    refine sched_pick (i := 35) true (.bool false) rfl rfl rfl rfl rfl rfl ?_
    simp only [List.set]
    refine sched_move (i := 36) (.bool false) rfl rfl rfl rfl rfl ?_
    simp only [List.set]
    refine sched_skip [(37, true), (38, true), (40, true), (41, true), (39, false), (42, false)] (by kernel_rfl) (HC.out.below hb2 (Nat.le_refl _)) ?_
    refine sched_pick (i := 43) false (.bool false) rfl rfl rfl rfl rfl rfl ?_
    simp only [List.set]
    refine sched_move (i := 44) (.bool false) rfl rfl rfl rfl rfl ?_
    simp only [List.set]
    refine sched_skip [(45, true), (46, false)] (by kernel_rfl) (HC.out.below hb2 (Nat.le_refl _)) ?_
    refine sched_pick (i := 47) false (.bool false) rfl rfl rfl rfl rfl rfl ?_
    simp only [List.set]
    refine sched_move (i := 48) (.bool false) rfl rfl rfl rfl rfl ?_
    simp only [List.set]
    refine sched_skip [(49, true), (50, false)] (by kernel_rfl) (HC.out.below hb2 (Nat.le_refl _)) ?_
    refine sched_pick (i := 51) false (.bool false) rfl rfl rfl rfl rfl rfl ?_
    simp only [List.set]
    refine sched_move (i := 52) (.bool false) rfl rfl rfl rfl rfl ?_
    simp only [List.set]
    refine sched_skip [(53, true), (54, false)] (by kernel_rfl) (HC.out.below hb2 (Nat.le_refl _)) ?_
    refine sched_pick (i := 55) false (.bool false) rfl rfl rfl rfl rfl rfl ?_
    simp only [List.set]
    refine sched_assign (i := 56) (.bool false) rfl rfl rfl rfl rfl ?_
    simp only [List.set]
    refine sched_nil ?_
    have hB2 := over HB.out hb2 HB.out.size
    have HB2 := hide hB2
    have hE2 := HG.out _ hB2
    clear hB2 hb2
    go_wp2_with fail
    go_ret
    exact ⟨ret_bad (by unfold goodB; rw [h1, h2, h3, h4, h5]; rfl), HB2.out⟩
  refine sched_call (i := 34) rfl rfl rfl rfl enters39 ((holds_any _ _ _ _ _ h5).mono ?_)
  rintro e w2 ⟨rfl, hb2⟩
  refine ⟨_, rfl, HC.out.below hb2 (Nat.le_refl _), ?_⟩
  replace HC := hide (HC.out.below hb2 (Nat.le_refl _))
  replace HB := hide (over HB.out hb2 HB.out.size)
  clear hb2
  simp only [List.set]
  refine sched_pick (i := 35) true (.bool true) rfl rfl rfl rfl rfl rfl ?_
  simp only [List.set]
  refine sched_move (i := 36) (.bool true) rfl rfl rfl rfl rfl ?_
  simp only [List.set]
  refine sched_take (i := 37) rfl rfl rfl (take_fa 0 (by decide) rfl rfl) ?_
  simp only [List.set]
  refine sched_take (i := 38) rfl rfl rfl (take_ld rfl rfl fun w h => h.c0) ?_
  simp only [List.set]
  refine sched_take (i := 40) rfl rfl rfl (take_fa 5 (by decide) rfl rfl) ?_
  simp only [List.set]
  refine sched_take (i := 41) rfl rfl rfl (take_ld rfl rfl fun w h => h.c5) ?_
  simp only [List.set]
  refine sched_call (i := 39) rfl rfl rfl rfl enters44 ((keySpan_any _ _).mono ?_)
  rintro e w2 ⟨rfl, hb2⟩
  refine ⟨_, rfl, HC.out.below hb2 (Nat.le_refl _), ?_⟩
  replace HC := hide (HC.out.below hb2 (Nat.le_refl _))
  replace HB := hide (over HB.out hb2 HB.out.size)
  clear hb2
  simp only [List.set]
  cases h6 : holdsB (0) (keyHi r.kind) r.key
  · refine sched_call (i := 42) rfl rfl rfl rfl enters39 ((holds_any _ _ _ _ _ h6).mono ?_)
    rintro e w2 ⟨rfl, hb2⟩
    refine ⟨_, rfl, HC.out.below hb2 (Nat.le_refl _), ?_⟩
    simp only [List.set]
    refine sched_pick (i := 43) true (.bool false) rfl rfl rfl rfl rfl rfl ?_
    simp only [List.set]
    refine sched_move (i := 44) (.bool false) rfl rfl rfl rfl rfl ?_
    simp only [List.set]
    refine sched_skip [(45, true), (46, false)] (by kernel_rfl) (HC.out.below hb2 (Nat.le_refl _)) ?_
    refine sched_pick (i := 47) false (.bool false) rfl rfl rfl rfl rfl rfl ?_
    simp only [List.set]
    refine sched_move (i := 48) (.bool false) rfl rfl rfl rfl rfl ?_
    simp only [List.set]
    refine sched_skip [(49, true), (50, false)] (by kernel_rfl) (HC.out.below hb2 (Nat.le_refl _)) ?_
    refine sched_pick (i := 51) false (.bool false) rfl rfl rfl rfl rfl rfl ?_
    simp only [List.set]
    refine sched_move (i := 52) (.bool false) rfl rfl rfl rfl rfl ?_
    simp only [List.set]
    refine sched_skip [(53, true), (54, false)] (by kernel_rfl) (HC.out.below hb2 (Nat.le_refl _)) ?_
    refine sched_pick (i := 55) false (.bool false) rfl rfl rfl rfl rfl rfl ?_
    simp only [List.set]
    refine sched_assign (i := 56) (.bool false) rfl rfl rfl rfl rfl ?_
    simp only [List.set]
    refine sched_nil ?_
    have hB2 := over HB.out hb2 HB.out.size
    have HB2 := hide hB2
    have hE2 := HG.out _ hB2
    clear hB2 hb2
    go_wp2_with fail
    go_ret
    exact ⟨ret_bad (by unfold goodB; rw [h1, h2, h3, h4, h5, h6]; rfl), HB2.out⟩
  refine sched_call (i := 42) rfl rfl rfl rfl enters39 ((holds_any _ _ _ _ _ h6).mono ?_)
  rintro e w2 ⟨rfl, hb2⟩
  refine ⟨_, rfl, HC.out.below hb2 (Nat.le_refl _), ?_⟩
  replace HC := hide (HC.out.below hb2 (Nat.le_refl _))
  replace HB := hide (over HB.out hb2 HB.out.size)
  clear hb2
  simp only [List.set]
  refine sched_pick (i := 43) true (.bool true) rfl rfl rfl rfl rfl rfl ?_
  simp only [List.set]
  refine sched_move (i := 44) (.bool true) rfl rfl rfl rfl rfl ?_
  simp only [List.set]
  refine sched_take (i := 45) rfl rfl rfl (take_ldR rfl rfl) ?_
  simp only [List.set]
  cases h7 : oldB r
  · refine sched_call (i := 46) rfl rfl rfl rfl enters45 ((oldHolds_any r _ _ h7).mono ?_)
    rintro e w2 ⟨rfl, hb2⟩
    refine ⟨_, rfl, HC.out.below hb2 (Nat.le_refl _), ?_⟩
    simp only [List.set]
    refine sched_pick (i := 47) true (.bool false) rfl rfl rfl rfl rfl rfl ?_
    simp only [List.set]
    refine sched_move (i := 48) (.bool false) rfl rfl rfl rfl rfl ?_
    simp only [List.set]
    refine sched_skip [(49, true), (50, false)] (by kernel_rfl) (HC.out.below hb2 (Nat.le_refl _)) ?_
    refine sched_pick (i := 51) false (.bool false) rfl rfl rfl rfl rfl rfl ?_
    simp only [List.set]
    refine sched_move (i := 52) (.bool false) rfl rfl rfl rfl rfl ?_
    simp only [List.set]
    refine sched_skip [(53, true), (54, false)] (by kernel_rfl) (HC.out.below hb2 (Nat.le_refl _)) ?_
    refine sched_pick (i := 55) false (.bool false) rfl rfl rfl rfl rfl rfl ?_
    simp only [List.set]
    refine sched_assign (i := 56) (.bool false) rfl rfl rfl rfl rfl ?_
    simp only [List.set]
    refine sched_nil ?_
    have hB2 := over HB.out hb2 HB.out.size
    have HB2 := hide hB2
    have hE2 := HG.out _ hB2
    clear hB2 hb2
    go_wp2_with fail
    go_ret
    exact ⟨ret_bad (by unfold goodB; rw [h1, h2, h3, h4, h5, h6, h7]; rfl), HB2.out⟩
  refine sched_call (i := 46) rfl rfl rfl rfl enters45 ((oldHolds_any r _ _ h7).mono ?_)
  rintro e w2 ⟨rfl, hb2⟩
  refine ⟨_, rfl, HC.out.below hb2 (Nat.le_refl _), ?_⟩
  replace HC := hide (HC.out.below hb2 (Nat.le_refl _))
  replace HB := hide (over HB.out hb2 HB.out.size)
  clear hb2
  simp only [List.set]
  refine sched_pick (i := 47) true (.bool true) rfl rfl rfl rfl rfl rfl ?_
  simp only [List.set]
  refine sched_move (i := 48) (.bool true) rfl rfl rfl rfl rfl ?_
  simp only [List.set]
  refine sched_take (i := 49) rfl rfl rfl (take_ldR rfl rfl) ?_
  simp only [List.set]
  cases h8 : newB r
  · refine sched_call (i := 50) rfl rfl rfl rfl enters46 ((newHolds_any r _ _ h8).mono ?_)
    rintro e w2 ⟨rfl, hb2⟩
    refine ⟨_, rfl, HC.out.below hb2 (Nat.le_refl _), ?_⟩
    simp only [List.set]
    refine sched_pick (i := 51) true (.bool false) rfl rfl rfl rfl rfl rfl ?_
    simp only [List.set]
    refine sched_move (i := 52) (.bool false) rfl rfl rfl rfl rfl ?_
    simp only [List.set]
    refine sched_skip [(53, true), (54, false)] (by kernel_rfl) (HC.out.below hb2 (Nat.le_refl _)) ?_
    refine sched_pick (i := 55) false (.bool false) rfl rfl rfl rfl rfl rfl ?_
    simp only [List.set]
    refine sched_assign (i := 56) (.bool false) rfl rfl rfl rfl rfl ?_
    simp only [List.set]
    refine sched_nil ?_
    have hB2 := over HB.out hb2 HB.out.size
    have HB2 := hide hB2
    have hE2 := HG.out _ hB2
    clear hB2 hb2
    go_wp2_with fail
    go_ret
    exact ⟨ret_bad (by unfold goodB; rw [h1, h2, h3, h4, h5, h6, h7, h8]; rfl), HB2.out⟩
  refine sched_call (i := 50) rfl rfl rfl rfl enters46 ((newHolds_any r _ _ h8).mono ?_)
  rintro e w2 ⟨rfl, hb2⟩
  refine ⟨_, rfl, HC.out.below hb2 (Nat.le_refl _), ?_⟩
  replace HC := hide (HC.out.below hb2 (Nat.le_refl _))
  replace HB := hide (over HB.out hb2 HB.out.size)
  clear hb2
  simp only [List.set]
  refine sched_pick (i := 51) true (.bool true) rfl rfl rfl rfl rfl rfl ?_
  simp only [List.set]
  refine sched_move (i := 52) (.bool true) rfl rfl rfl rfl rfl ?_
  simp only [List.set]
  refine sched_take (i := 53) rfl rfl rfl (take_ldR rfl rfl) ?_
  simp only [List.set]
  cases h9 : chgB r
  · refine sched_call (i := 54) rfl rfl rfl rfl enters47 ((changes_any r _ _ h9).mono ?_)
    rintro e w2 ⟨rfl, hb2⟩
    refine ⟨_, rfl, HC.out.below hb2 (Nat.le_refl _), ?_⟩
    simp only [List.set]
    refine sched_pick (i := 55) true (.bool false) rfl rfl rfl rfl rfl rfl ?_
    simp only [List.set]
    refine sched_assign (i := 56) (.bool false) rfl rfl rfl rfl rfl ?_
    simp only [List.set]
    refine sched_nil ?_
    have hB2 := over HB.out hb2 HB.out.size
    have HB2 := hide hB2
    have hE2 := HG.out _ hB2
    clear hB2 hb2
    go_wp2_with fail
    go_ret
    exact ⟨ret_bad (by unfold goodB; rw [h1, h2, h3, h4, h5, h6, h7, h8, h9]; rfl), HB2.out⟩
  refine sched_call (i := 54) rfl rfl rfl rfl enters47 ((changes_any r _ _ h9).mono ?_)
  rintro e w2 ⟨rfl, hb2⟩
  refine ⟨_, rfl, HC.out.below hb2 (Nat.le_refl _), ?_⟩
  replace HC := hide (HC.out.below hb2 (Nat.le_refl _))
  replace HB := hide (over HB.out hb2 HB.out.size)
  clear hb2
  simp only [List.set]
  refine sched_pick (i := 55) true (.bool true) rfl rfl rfl rfl rfl rfl ?_
  simp only [List.set]
  refine sched_assign (i := 56) (.bool true) rfl rfl rfl rfl rfl ?_
  simp only [List.set]
  refine sched_nil ?_
  go_wp2_with fail
  go_ret
  exact ⟨ret_good (by unfold goodB; rw [h1, h2, h3, h4, h5, h6, h7, h8, h9]; rfl), HB.out⟩
end Go.Proofs.YticaldoggdfjiaaDoor
