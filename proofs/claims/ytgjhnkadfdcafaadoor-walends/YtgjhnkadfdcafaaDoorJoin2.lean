/- Lemmas and contracts that the law stands on, joined: RecCheck, RecBytes, RecMake, BlockMem, BlockMath, Ref, First. -/
import Derived.Test.YtgjhnkadfdcafaaDoorJoin1
import Derived.Great.CaseRows
/- What rec.Check answers: no error of a record that may be, ErrRange of every other. -/
namespace Go.Proofs.YtgjhnkadfdcafaaDoor
open Go.RowKit
set_option linter.unusedVariables false

/-- A record and a span lie in memory, cell by cell. -/
structure Cells12 (w : World) (B : Nat) (r : R) : Prop where
  c0 : w.cell? ⟨B, 0, none⟩ = some (.int .i64 r.kind)
  c1 : w.cell? ⟨B, 1, none⟩ = some (.int .i64 r.txn)
  c2 : w.cell? ⟨B, 2, none⟩ = some (.int .i64 r.page)
  c3 : w.cell? ⟨B, 3, none⟩ = some (.int .i64 r.prev)
  c4 : w.cell? ⟨B, 4, none⟩ = some (.int .i64 r.next)
  c5 : w.cell? ⟨B, 5, none⟩ = some (.int .i64 r.key)
  c6 : w.cell? ⟨B, 6, none⟩ = some (.bool r.had)
  c7 : w.cell? ⟨B, 7, none⟩ = some (.bool r.has)
  c8 : w.cell? ⟨B, 8, none⟩ = some (.int .i64 r.old)
  c9 : w.cell? ⟨B, 9, none⟩ = some (.int .i64 r.new)
  s0 : w.cell? ⟨B + 1, 0, none⟩ = some (.int .i64 1)
  s1 : w.cell? ⟨B + 1, 1, none⟩ = some (.int .i64 10)
  lt : B + 1 < w.heap.size
theorem Cells12.below {w w' : World} {B n : Nat} {r : R} (h : Cells12 w B r) (hb : Below n w w') (hn : w.heap.size ≤ n) : Cells12 w' B r := by
  have hl := h.lt
  have h0 : ∀ o, w'.cell? ⟨B, o, none⟩ = w.cell? ⟨B, o, none⟩ := fun o => hb.cell (show B < n by omega)
  have h1 : ∀ o, w'.cell? ⟨B + 1, o, none⟩ = w.cell? ⟨B + 1, o, none⟩ := fun o => hb.cell (show B + 1 < n by omega)
  exact ⟨(h0 _).trans h.c0, (h0 _).trans h.c1, (h0 _).trans h.c2, (h0 _).trans h.c3, (h0 _).trans h.c4, (h0 _).trans h.c5, (h0 _).trans h.c6, (h0 _).trans h.c7, (h0 _).trans h.c8, (h0 _).trans h.c9, (h1 _).trans h.s0, (h1 _).trans h.s1, Nat.lt_of_lt_of_le hl hb.size⟩
theorem cells12_new (w : World) (r : R) : Cells12 ((w.alloc (.cells #[.int .i64 r.kind, .int .i64 r.txn, .int .i64 r.page, .int .i64 r.prev, .int .i64 r.next, .int .i64 r.key, .bool r.had, .bool r.has, .int .i64 r.old, .int .i64 r.new] 31)).alloc (.cells #[.int .i64 1, .int .i64 10] 93)) w.heap.size r := by
  constructor <;> simp
theorem enters50 : Enters Tryd.prog 50 := enters Tryd.func50 (by kernel_rfl) (by kernel_rfl)
theorem enters51 : Enters Tryd.prog 51 := enters Tryd.func51 (by kernel_rfl) (by kernel_rfl)
theorem enters52 : Enters Tryd.prog 52 := enters Tryd.func52 (by kernel_rfl) (by kernel_rfl)
theorem enters53 : Enters Tryd.prog 53 := enters Tryd.func53 (by kernel_rfl) (by kernel_rfl)
theorem enters54 : Enters Tryd.prog 54 := enters Tryd.func54 (by kernel_rfl) (by kernel_rfl)
theorem enters55 : Enters Tryd.prog 55 := enters Tryd.func55 (by kernel_rfl) (by kernel_rfl)
theorem enters56 : Enters Tryd.prog 56 := enters Tryd.func56 (by kernel_rfl) (by kernel_rfl)
theorem enters57 : Enters Tryd.prog 57 := enters Tryd.func57 (by kernel_rfl) (by kernel_rfl)
theorem enters58 : Enters Tryd.prog 58 := enters Tryd.func58 (by kernel_rfl) (by kernel_rfl)
/-- What rec.Check answers. -/
def checkV (r : R) (x : Addr) : Value := if goodB r then .nilIface else errV x
theorem checkV_bad {r : R} {x : Addr} (h : goodB r = false) : checkV r x = errV x := by simp [checkV, h]
theorem checkV_good {r : R} {x : Addr} (h : goodB r = true) : checkV r x = .nilIface := by simp [checkV, h]
theorem ret_bad {r : R} {x : Addr} (h : goodB r = false) : Ending.returned (.iface 120 (.pointer (some x))) = .returned (checkV r x) := by rw [checkV_bad h]; rfl
theorem ret_good {r : R} {x : Addr} (h : goodB r = true) : Ending.returned .nilIface = .returned (checkV r x) := by rw [checkV_good h]
theorem run_fa (f : Nat) (hf : f < 10) (B : Nat) (w : World) : (Instr.fieldAt 31 (.pointer (some ⟨B, 0, none⟩)) f).run Tryd.prog w = .ok (.pointer (some ⟨B, f, none⟩)) w := by
  match f, hf with
  | 0, _ => go_simp
  | 1, _ => go_simp
  | 2, _ => go_simp
  | 3, _ => go_simp
  | 4, _ => go_simp
  | 5, _ => go_simp
  | 6, _ => go_simp
  | 7, _ => go_simp
  | 8, _ => go_simp
  | 9, _ => go_simp
theorem take_fa {S : World → Prop} {o : Oper} {a : Act} {x : Operand} {B : Nat} (f : Nat) (hf : f < 10) (hop : o.op = .fieldAddr 31 x f) (ha : a.eval x = .pointer (some ⟨B, 0, none⟩)) : ∀ w, S w → (execOp a.eval o).run Tryd.prog w = .ok (.value (.pointer (some ⟨B, f, none⟩))) w := by
  intro w _
  simp [execOp, hop, ha, run_fa f hf B w]
theorem run_ld {n : Int} {p : Addr} {w : World} (h : w.cell? p = some (.int .i64 n)) : (Instr.loadAt 3 (.pointer (some p))).run Tryd.prog w = .ok (.int .i64 n) w := by go_simp
theorem take_ld {S : World → Prop} {o : Oper} {a : Act} {x : Operand} {p : Addr} {n : Int} (hop : o.op = .load 3 x) (ha : a.eval x = .pointer (some p)) (hc : ∀ w, S w → w.cell? p = some (.int .i64 n)) : ∀ w, S w → (execOp a.eval o).run Tryd.prog w = .ok (.value (.int .i64 n)) w := by
  intro w hS
  simp [execOp, hop, ha, run_ld (hc w hS)]
theorem run_ldS {B : Nat} {w : World} {r : R} (h : Cells12 w B r) : (Instr.loadAt 93 (.pointer (some ⟨B + 1, 0, none⟩))).run Tryd.prog w = .ok (pairV 1 10) w := by
  obtain ⟨k0, k1, k2, k3, k4, k5, k6, k7, k8, k9, k10, k11, kl⟩ := h
  unfold pairV
  go_simp
theorem run_ldR {B : Nat} {w : World} {r : R} (h : Cells12 w B r) : (Instr.loadAt 31 (.pointer (some ⟨B, 0, none⟩))).run Tryd.prog w = .ok r.val w := by
  obtain ⟨k0, k1, k2, k3, k4, k5, k6, k7, k8, k9, k10, k11, kl⟩ := h
  unfold R.val
  go_simp
theorem take_ldS {B : Nat} {r : R} {o : Oper} {a : Act} {x : Operand} (hop : o.op = .load 93 x) (ha : a.eval x = .pointer (some ⟨B + 1, 0, none⟩)) : ∀ w, Cells12 w B r → (execOp a.eval o).run Tryd.prog w = .ok (.value (pairV 1 10)) w := by
  intro w hS
  simp [execOp, hop, ha, run_ldS hS]
theorem take_ldR {B : Nat} {r : R} {o : Oper} {a : Act} {x : Operand} (hop : o.op = .load 31 x) (ha : a.eval x = .pointer (some ⟨B, 0, none⟩)) : ∀ w, Cells12 w B r → (execOp a.eval o).run Tryd.prog w = .ok (.value r.val) w := by
  intro w hS
  simp [execOp, hop, ha, run_ldR hS]
set_option maxHeartbeats 4000000 in
set_option maxRecDepth 100000 in
theorem check_any (r : R) (w : World) (x : Addr) (hE : w.cell? ⟨1, 0, none⟩ = some (errV x)) :
    Calls Tryd.prog 31 #[r.val] w fun e w' => e = .returned (checkV r x) ∧ Below w.heap.size w w' := by
  have HC := hide (cells12_new w r)
  have HB : Hid (Below w.heap.size w ((w.alloc (.cells #[.int .i64 r.kind, .int .i64 r.txn, .int .i64 r.page, .int .i64 r.prev, .int .i64 r.next, .int .i64 r.key, .bool r.had, .bool r.has, .int .i64 r.old, .int .i64 r.new] 31)).alloc (.cells #[.int .i64 1, .int .i64 10] 93))) := ((Below.refl _ _).alloc (Nat.le_refl _) _).alloc (by simp) _
  obtain ⟨W, hW⟩ : ∃ W, W = (w.alloc (.cells #[.int .i64 r.kind, .int .i64 r.txn, .int .i64 r.page, .int .i64 r.prev, .int .i64 r.next, .int .i64 r.key, .bool r.had, .bool r.has, .int .i64 r.old, .int .i64 r.new] 31)).alloc (.cells #[.int .i64 1, .int .i64 10] 93) := ⟨_, rfl⟩
  rw [← hW] at HC HB
  have HW := hide hW
  clear hW
  have HG : Hid (∀ w', Below w.heap.size w w' → w'.cell? ⟨1, 0, none⟩ = some (.iface 120 (.pointer (some x)))) := fun w' hb => (hb.cell (World.block_lt_of_cell? w _ hE)).trans hE
  clear hE
  show Calls Tryd.prog 31 #[.agg #[.int .i64 r.kind, .int .i64 r.txn, .int .i64 r.page, .int .i64 r.prev, .int .i64 r.next, .int .i64 r.key, .bool r.had, .bool r.has, .int .i64 r.old, .int .i64 r.new]] w _
  go_enter Tryd.func31, Tryd.ntmps31
  go_wp2_with fail
  rw [← HW.out]
  refine region_of_sched (S := fun w' => Cells12 w' w.heap.size r) [(0, true), (1, true), (2, true), (3, false), (4, true), (5, true), (6, true), (8, true), (9, true), (7, false), (10, false), (11, true), (12, true), (13, true), (14, true), (16, true), (17, true), (15, false), (18, false), (19, true), (20, true), (21, true), (22, true), (24, true), (25, true), (23, false), (26, false), (27, true), (28, true), (29, true), (30, true), (32, true), (33, true), (31, false), (34, false), (35, true), (36, true), (37, true), (38, true), (40, true), (41, true), (39, false), (42, false), (43, true), (44, true), (45, true), (46, false), (47, true), (48, true), (49, true), (50, false), (51, true), (52, true), (53, true), (54, false), (55, true), (56, true)] (by kernel_rfl) (by kernel_rfl) (by kernel_rfl) (by kernel_rfl) (fun c a d v w h => by cases d <;> exact h) (HC.out.below (below_drew (Below.refl _ _)) (Nat.le_refl _)) ?_
  replace HC := hide (HC.out.below (below_drew (Below.refl W.heap.size W)) (Nat.le_refl _))
  replace HB := hide (below_drew HB.out)
  refine sched_take (i := 0) rfl rfl rfl (take_ldS rfl rfl) ?_
  simp only [List.set]
  refine sched_take (i := 1) rfl rfl rfl (take_fa 0 (by decide) rfl rfl) ?_
  simp only [List.set]
  refine sched_take (i := 2) rfl rfl rfl (take_ld rfl rfl fun w h => h.c0) ?_
  simp only [List.set]
  cases h1 : holdsB 1 10 r.kind
  · refine sched_call (i := 3) rfl rfl rfl rfl enters50 ((holds_any _ _ _ _ _ h1).mono ?_)
    rintro e w2 ⟨rfl, hb2⟩
    refine ⟨_, rfl, HC.out.below hb2 (Nat.le_refl _), ?_⟩
    simp only [List.set]
    refine sched_move (i := 4) (.bool false) rfl rfl rfl rfl rfl ?_
    simp only [List.set]
    refine sched_skip [(5, true), (6, true), (8, true), (9, true), (7, false), (10, false)] (by kernel_rfl) (HC.out.below hb2 (Nat.le_refl _)) ?_
    refine sched_pick (i := 11) false (.bool false) rfl rfl rfl rfl rfl rfl ?_
    simp only [List.set]
    refine sched_move (i := 12) (.bool false) rfl rfl rfl rfl rfl ?_
    simp only [List.set]
    refine sched_skip [(13, true), (14, true), (16, true), (17, true), (15, false), (18, false)] (by kernel_rfl) (HC.out.below hb2 (Nat.le_refl _)) ?_
    refine sched_pick (i := 19) false (.bool false) rfl rfl rfl rfl rfl rfl ?_
    simp only [List.set]
    refine sched_move (i := 20) (.bool false) rfl rfl rfl rfl rfl ?_
    simp only [List.set]
    refine sched_skip [(21, true), (22, true), (24, true), (25, true), (23, false), (26, false)] (by kernel_rfl) (HC.out.below hb2 (Nat.le_refl _)) ?_
    refine sched_pick (i := 27) false (.bool false) rfl rfl rfl rfl rfl rfl ?_
    simp only [List.set]
    refine sched_move (i := 28) (.bool false) rfl rfl rfl rfl rfl ?_
    simp only [List.set]
    refine sched_skip [(29, true), (30, true), (32, true), (33, true), (31, false), (34, false)] (by kernel_rfl) (HC.out.below hb2 (Nat.le_refl _)) ?_
    refine sched_pick (i := 35) false (.bool false) rfl rfl rfl rfl rfl rfl ?_
    simp only [List.set]
    refine sched_move (i := 36) (.bool false) rfl rfl rfl rfl rfl ?_
    simp only [List.set]
    refine sched_skip [(37, true), (38, true), (40, true), (41, true), (39, false), (42, false)] (by kernel_rfl) (HC.out.below hb2 (Nat.le_refl _)) ?_
    refine sched_pick (i := 43) false (.bool false) rfl rfl rfl rfl rfl rfl ?_
    simp only [List.set]
    refine sched_move (i := 44) (.bool false) rfl rfl rfl rfl rfl ?_
    simp only [List.set]
    refine sched_skip [(45, true), (46, false)] (by kernel_rfl) (HC.out.below hb2 (Nat.le_refl _)) ?_
    refine sched_pick (i := 47) false (.bool false) rfl rfl rfl rfl rfl rfl ?_
    simp only [List.set]
    refine sched_move (i := 48) (.bool false) rfl rfl rfl rfl rfl ?_
    simp only [List.set]
    refine sched_skip [(49, true), (50, false)] (by kernel_rfl) (HC.out.below hb2 (Nat.le_refl _)) ?_
    refine sched_pick (i := 51) false (.bool false) rfl rfl rfl rfl rfl rfl ?_
    simp only [List.set]
    refine sched_move (i := 52) (.bool false) rfl rfl rfl rfl rfl ?_
    simp only [List.set]
    refine sched_skip [(53, true), (54, false)] (by kernel_rfl) (HC.out.below hb2 (Nat.le_refl _)) ?_
    refine sched_pick (i := 55) false (.bool false) rfl rfl rfl rfl rfl rfl ?_
    simp only [List.set]
    refine sched_assign (i := 56) (.bool false) rfl rfl rfl rfl rfl ?_
    simp only [List.set]
    refine sched_nil ?_
    have hB2 := over HB.out hb2 HB.out.size
    have HB2 := hide hB2
    have hE2 := HG.out _ hB2
    clear hB2 hb2
    go_wp2_with fail
    go_ret
    exact ⟨ret_bad (by unfold goodB; rw [h1]; rfl), HB2.out⟩
  refine sched_call (i := 3) rfl rfl rfl rfl enters50 ((holds_any _ _ _ _ _ h1).mono ?_)
  rintro e w2 ⟨rfl, hb2⟩
  refine ⟨_, rfl, HC.out.below hb2 (Nat.le_refl _), ?_⟩
  replace HC := hide (HC.out.below hb2 (Nat.le_refl _))
  replace HB := hide (over HB.out hb2 HB.out.size)
  clear hb2
  simp only [List.set]
  refine sched_move (i := 4) (.bool true) rfl rfl rfl rfl rfl ?_
  simp only [List.set]
  refine sched_take (i := 5) rfl rfl rfl (take_fa 0 (by decide) rfl rfl) ?_
  simp only [List.set]
  refine sched_take (i := 6) rfl rfl rfl (take_ld rfl rfl fun w h => h.c0) ?_
  simp only [List.set]
  refine sched_take (i := 8) rfl rfl rfl (take_fa 1 (by decide) rfl rfl) ?_
  simp only [List.set]
  refine sched_take (i := 9) rfl rfl rfl (take_ld rfl rfl fun w h => h.c1) ?_
  simp only [List.set]
  refine sched_call (i := 7) rfl rfl rfl rfl enters51 ((txnSpan_any _ _).mono ?_)
  rintro e w2 ⟨rfl, hb2⟩
  refine ⟨_, rfl, HC.out.below hb2 (Nat.le_refl _), ?_⟩
  replace HC := hide (HC.out.below hb2 (Nat.le_refl _))
  replace HB := hide (over HB.out hb2 HB.out.size)
  clear hb2
  simp only [List.set]
  cases h2 : holdsB (txnLo r.kind) (txnHi r.kind) r.txn
  · refine sched_call (i := 10) rfl rfl rfl rfl enters50 ((holds_any _ _ _ _ _ h2).mono ?_)
    rintro e w2 ⟨rfl, hb2⟩
    refine ⟨_, rfl, HC.out.below hb2 (Nat.le_refl _), ?_⟩
    simp only [List.set]
    refine sched_pick (i := 11) true (.bool false) rfl rfl rfl rfl rfl rfl ?_
    simp only [List.set]
    refine sched_move (i := 12) (.bool false) rfl rfl rfl rfl rfl ?_
    simp only [List.set]
    refine sched_skip [(13, true), (14, true), (16, true), (17, true), (15, false), (18, false)] (by kernel_rfl) (HC.out.below hb2 (Nat.le_refl _)) ?_
    refine sched_pick (i := 19) false (.bool false) rfl rfl rfl rfl rfl rfl ?_
    simp only [List.set]
    refine sched_move (i := 20) (.bool false) rfl rfl rfl rfl rfl ?_
    simp only [List.set]
    refine sched_skip [(21, true), (22, true), (24, true), (25, true), (23, false), (26, false)] (by kernel_rfl) (HC.out.below hb2 (Nat.le_refl _)) ?_
    refine sched_pick (i := 27) false (.bool false) rfl rfl rfl rfl rfl rfl ?_
    simp only [List.set]
    refine sched_move (i := 28) (.bool false) rfl rfl rfl rfl rfl ?_
    simp only [List.set]
    refine sched_skip [(29, true), (30, true), (32, true), (33, true), (31, false), (34, false)] (by kernel_rfl) (HC.out.below hb2 (Nat.le_refl _)) ?_
    refine sched_pick (i := 35) false (.bool false) rfl rfl rfl rfl rfl rfl ?_
    simp only [List.set]
    refine sched_move (i := 36) (.bool false) rfl rfl rfl rfl rfl ?_
    simp only [List.set]
    refine sched_skip [(37, true), (38, true), (40, true), (41, true), (39, false), (42, false)] (by kernel_rfl) (HC.out.below hb2 (Nat.le_refl _)) ?_
    refine sched_pick (i := 43) false (.bool false) rfl rfl rfl rfl rfl rfl ?_
    simp only [List.set]
    refine sched_move (i := 44) (.bool false) rfl rfl rfl rfl rfl ?_
    simp only [List.set]
    refine sched_skip [(45, true), (46, false)] (by kernel_rfl) (HC.out.below hb2 (Nat.le_refl _)) ?_
    refine sched_pick (i := 47) false (.bool false) rfl rfl rfl rfl rfl rfl ?_
    simp only [List.set]
    refine sched_move (i := 48) (.bool false) rfl rfl rfl rfl rfl ?_
    simp only [List.set]
    refine sched_skip [(49, true), (50, false)] (by kernel_rfl) (HC.out.below hb2 (Nat.le_refl _)) ?_
    refine sched_pick (i := 51) false (.bool false) rfl rfl rfl rfl rfl rfl ?_
    simp only [List.set]
    refine sched_move (i := 52) (.bool false) rfl rfl rfl rfl rfl ?_
    simp only [List.set]
    refine sched_skip [(53, true), (54, false)] (by kernel_rfl) (HC.out.below hb2 (Nat.le_refl _)) ?_
    refine sched_pick (i := 55) false (.bool false) rfl rfl rfl rfl rfl rfl ?_
    simp only [List.set]
    refine sched_assign (i := 56) (.bool false) rfl rfl rfl rfl rfl ?_
    simp only [List.set]
    refine sched_nil ?_
    have hB2 := over HB.out hb2 HB.out.size
    have HB2 := hide hB2
    have hE2 := HG.out _ hB2
    clear hB2 hb2
    go_wp2_with fail
    go_ret
    exact ⟨ret_bad (by unfold goodB; rw [h1, h2]; rfl), HB2.out⟩
  refine sched_call (i := 10) rfl rfl rfl rfl enters50 ((holds_any _ _ _ _ _ h2).mono ?_)
  rintro e w2 ⟨rfl, hb2⟩
  refine ⟨_, rfl, HC.out.below hb2 (Nat.le_refl _), ?_⟩
  replace HC := hide (HC.out.below hb2 (Nat.le_refl _))
  replace HB := hide (over HB.out hb2 HB.out.size)
  clear hb2
  simp only [List.set]
  refine sched_pick (i := 11) true (.bool true) rfl rfl rfl rfl rfl rfl ?_
  simp only [List.set]
  refine sched_move (i := 12) (.bool true) rfl rfl rfl rfl rfl ?_
  simp only [List.set]
  refine sched_take (i := 13) rfl rfl rfl (take_fa 0 (by decide) rfl rfl) ?_
  simp only [List.set]
  refine sched_take (i := 14) rfl rfl rfl (take_ld rfl rfl fun w h => h.c0) ?_
  simp only [List.set]
  refine sched_take (i := 16) rfl rfl rfl (take_fa 2 (by decide) rfl rfl) ?_
  simp only [List.set]
  refine sched_take (i := 17) rfl rfl rfl (take_ld rfl rfl fun w h => h.c2) ?_
  simp only [List.set]
  refine sched_call (i := 15) rfl rfl rfl rfl enters52 ((pageSpan_any _ _).mono ?_)
  rintro e w2 ⟨rfl, hb2⟩
  refine ⟨_, rfl, HC.out.below hb2 (Nat.le_refl _), ?_⟩
  replace HC := hide (HC.out.below hb2 (Nat.le_refl _))
  replace HB := hide (over HB.out hb2 HB.out.size)
  clear hb2
  simp only [List.set]
  cases h3 : holdsB (pageLo r.kind) (pageHi r.kind) r.page
  · refine sched_call (i := 18) rfl rfl rfl rfl enters50 ((holds_any _ _ _ _ _ h3).mono ?_)
    rintro e w2 ⟨rfl, hb2⟩
    refine ⟨_, rfl, HC.out.below hb2 (Nat.le_refl _), ?_⟩
    simp only [List.set]
    refine sched_pick (i := 19) true (.bool false) rfl rfl rfl rfl rfl rfl ?_
    simp only [List.set]
    refine sched_move (i := 20) (.bool false) rfl rfl rfl rfl rfl ?_
    simp only [List.set]
    refine sched_skip [(21, true), (22, true), (24, true), (25, true), (23, false), (26, false)] (by kernel_rfl) (HC.out.below hb2 (Nat.le_refl _)) ?_
    refine sched_pick (i := 27) false (.bool false) rfl rfl rfl rfl rfl rfl ?_
    simp only [List.set]
    refine sched_move (i := 28) (.bool false) rfl rfl rfl rfl rfl ?_
    simp only [List.set]
    refine sched_skip [(29, true), (30, true), (32, true), (33, true), (31, false), (34, false)] (by kernel_rfl) (HC.out.below hb2 (Nat.le_refl _)) ?_
    refine sched_pick (i := 35) false (.bool false) rfl rfl rfl rfl rfl rfl ?_
    simp only [List.set]
    refine sched_move (i := 36) (.bool false) rfl rfl rfl rfl rfl ?_
    simp only [List.set]
    refine sched_skip [(37, true), (38, true), (40, true), (41, true), (39, false), (42, false)] (by kernel_rfl) (HC.out.below hb2 (Nat.le_refl _)) ?_
    refine sched_pick (i := 43) false (.bool false) rfl rfl rfl rfl rfl rfl ?_
    simp only [List.set]
    refine sched_move (i := 44) (.bool false) rfl rfl rfl rfl rfl ?_
    simp only [List.set]
    refine sched_skip [(45, true), (46, false)] (by kernel_rfl) (HC.out.below hb2 (Nat.le_refl _)) ?_
    refine sched_pick (i := 47) false (.bool false) rfl rfl rfl rfl rfl rfl ?_
    simp only [List.set]
    refine sched_move (i := 48) (.bool false) rfl rfl rfl rfl rfl ?_
    simp only [List.set]
    refine sched_skip [(49, true), (50, false)] (by kernel_rfl) (HC.out.below hb2 (Nat.le_refl _)) ?_
    refine sched_pick (i := 51) false (.bool false) rfl rfl rfl rfl rfl rfl ?_
    simp only [List.set]
    refine sched_move (i := 52) (.bool false) rfl rfl rfl rfl rfl ?_
    simp only [List.set]
    refine sched_skip [(53, true), (54, false)] (by kernel_rfl) (HC.out.below hb2 (Nat.le_refl _)) ?_
    refine sched_pick (i := 55) false (.bool false) rfl rfl rfl rfl rfl rfl ?_
    simp only [List.set]
    refine sched_assign (i := 56) (.bool false) rfl rfl rfl rfl rfl ?_
    simp only [List.set]
    refine sched_nil ?_
    have hB2 := over HB.out hb2 HB.out.size
    have HB2 := hide hB2
    have hE2 := HG.out _ hB2
    clear hB2 hb2
    go_wp2_with fail
    go_ret
    exact ⟨ret_bad (by unfold goodB; rw [h1, h2, h3]; rfl), HB2.out⟩
  refine sched_call (i := 18) rfl rfl rfl rfl enters50 ((holds_any _ _ _ _ _ h3).mono ?_)
  rintro e w2 ⟨rfl, hb2⟩
  refine ⟨_, rfl, HC.out.below hb2 (Nat.le_refl _), ?_⟩
  replace HC := hide (HC.out.below hb2 (Nat.le_refl _))
  replace HB := hide (over HB.out hb2 HB.out.size)
  clear hb2
  simp only [List.set]
  refine sched_pick (i := 19) true (.bool true) rfl rfl rfl rfl rfl rfl ?_
  simp only [List.set]
  refine sched_move (i := 20) (.bool true) rfl rfl rfl rfl rfl ?_
  simp only [List.set]
  refine sched_take (i := 21) rfl rfl rfl (take_fa 0 (by decide) rfl rfl) ?_
  simp only [List.set]
  refine sched_take (i := 22) rfl rfl rfl (take_ld rfl rfl fun w h => h.c0) ?_
  simp only [List.set]
  refine sched_take (i := 24) rfl rfl rfl (take_fa 3 (by decide) rfl rfl) ?_
  simp only [List.set]
  refine sched_take (i := 25) rfl rfl rfl (take_ld rfl rfl fun w h => h.c3) ?_
  simp only [List.set]
  refine sched_call (i := 23) rfl rfl rfl rfl enters53 ((prevSpan_any _ _).mono ?_)
  rintro e w2 ⟨rfl, hb2⟩
  refine ⟨_, rfl, HC.out.below hb2 (Nat.le_refl _), ?_⟩
  replace HC := hide (HC.out.below hb2 (Nat.le_refl _))
  replace HB := hide (over HB.out hb2 HB.out.size)
  clear hb2
  simp only [List.set]
  cases h4 : holdsB (prevLo r.kind) (prevHi r.kind) r.prev
  · refine sched_call (i := 26) rfl rfl rfl rfl enters50 ((holds_any _ _ _ _ _ h4).mono ?_)
    rintro e w2 ⟨rfl, hb2⟩
    refine ⟨_, rfl, HC.out.below hb2 (Nat.le_refl _), ?_⟩
    simp only [List.set]
    refine sched_pick (i := 27) true (.bool false) rfl rfl rfl rfl rfl rfl ?_
    simp only [List.set]
    refine sched_move (i := 28) (.bool false) rfl rfl rfl rfl rfl ?_
    simp only [List.set]
    refine sched_skip [(29, true), (30, true), (32, true), (33, true), (31, false), (34, false)] (by kernel_rfl) (HC.out.below hb2 (Nat.le_refl _)) ?_
    refine sched_pick (i := 35) false (.bool false) rfl rfl rfl rfl rfl rfl ?_
    simp only [List.set]
    refine sched_move (i := 36) (.bool false) rfl rfl rfl rfl rfl ?_
    simp only [List.set]
    refine sched_skip [(37, true), (38, true), (40, true), (41, true), (39, false), (42, false)] (by kernel_rfl) (HC.out.below hb2 (Nat.le_refl _)) ?_
    refine sched_pick (i := 43) false (.bool false) rfl rfl rfl rfl rfl rfl ?_
    simp only [List.set]
    refine sched_move (i := 44) (.bool false) rfl rfl rfl rfl rfl ?_
    simp only [List.set]
    refine sched_skip [(45, true), (46, false)] (by kernel_rfl) (HC.out.below hb2 (Nat.le_refl _)) ?_
    refine sched_pick (i := 47) false (.bool false) rfl rfl rfl rfl rfl rfl ?_
    simp only [List.set]
    refine sched_move (i := 48) (.bool false) rfl rfl rfl rfl rfl ?_
    simp only [List.set]
    refine sched_skip [(49, true), (50, false)] (by kernel_rfl) (HC.out.below hb2 (Nat.le_refl _)) ?_
    refine sched_pick (i := 51) false (.bool false) rfl rfl rfl rfl rfl rfl ?_
    simp only [List.set]
    refine sched_move (i := 52) (.bool false) rfl rfl rfl rfl rfl ?_
    simp only [List.set]
    refine sched_skip [(53, true), (54, false)] (by kernel_rfl) (HC.out.below hb2 (Nat.le_refl _)) ?_
    refine sched_pick (i := 55) false (.bool false) rfl rfl rfl rfl rfl rfl ?_
    simp only [List.set]
    refine sched_assign (i := 56) (.bool false) rfl rfl rfl rfl rfl ?_
    simp only [List.set]
    refine sched_nil ?_
    have hB2 := over HB.out hb2 HB.out.size
    have HB2 := hide hB2
    have hE2 := HG.out _ hB2
    clear hB2 hb2
    go_wp2_with fail
    go_ret
    exact ⟨ret_bad (by unfold goodB; rw [h1, h2, h3, h4]; rfl), HB2.out⟩
  refine sched_call (i := 26) rfl rfl rfl rfl enters50 ((holds_any _ _ _ _ _ h4).mono ?_)
  rintro e w2 ⟨rfl, hb2⟩
  refine ⟨_, rfl, HC.out.below hb2 (Nat.le_refl _), ?_⟩
  replace HC := hide (HC.out.below hb2 (Nat.le_refl _))
  replace HB := hide (over HB.out hb2 HB.out.size)
  clear hb2
  simp only [List.set]
  refine sched_pick (i := 27) true (.bool true) rfl rfl rfl rfl rfl rfl ?_
  simp only [List.set]
  refine sched_move (i := 28) (.bool true) rfl rfl rfl rfl rfl ?_
  simp only [List.set]
  refine sched_take (i := 29) rfl rfl rfl (take_fa 0 (by decide) rfl rfl) ?_
  simp only [List.set]
  refine sched_take (i := 30) rfl rfl rfl (take_ld rfl rfl fun w h => h.c0) ?_
  simp only [List.set]
  refine sched_take (i := 32) rfl rfl rfl (take_fa 4 (by decide) rfl rfl) ?_
  simp only [List.set]
  refine sched_take (i := 33) rfl rfl rfl (take_ld rfl rfl fun w h => h.c4) ?_
  simp only [List.set]
  refine sched_call (i := 31) rfl rfl rfl rfl enters54 ((nextSpan_any _ _).mono ?_)
  rintro e w2 ⟨rfl, hb2⟩
  refine ⟨_, rfl, HC.out.below hb2 (Nat.le_refl _), ?_⟩
  replace HC := hide (HC.out.below hb2 (Nat.le_refl _))
  replace HB := hide (over HB.out hb2 HB.out.size)
  clear hb2
  simp only [List.set]
  cases h5 : holdsB (0) (nextHi r.kind) r.next
  · refine sched_call (i := 34) rfl rfl rfl rfl enters50 ((holds_any _ _ _ _ _ h5).mono ?_)
    rintro e w2 ⟨rfl, hb2⟩
    refine ⟨_, rfl, HC.out.below hb2 (Nat.le_refl _), ?_⟩
    simp only [List.set]
    refine sched_pick (i := 35) true (.bool false) rfl rfl rfl rfl rfl rfl ?_
    simp only [List.set]
    refine sched_move (i := 36) (.bool false) rfl rfl rfl rfl rfl ?_
    simp only [List.set]
    refine sched_skip [(37, true), (38, true), (40, true), (41, true), (39, false), (42, false)] (by kernel_rfl) (HC.out.below hb2 (Nat.le_refl _)) ?_
    refine sched_pick (i := 43) false (.bool false) rfl rfl rfl rfl rfl rfl ?_
    simp only [List.set]
    refine sched_move (i := 44) (.bool false) rfl rfl rfl rfl rfl ?_
    simp only [List.set]
    refine sched_skip [(45, true), (46, false)] (by kernel_rfl) (HC.out.below hb2 (Nat.le_refl _)) ?_
    refine sched_pick (i := 47) false (.bool false) rfl rfl rfl rfl rfl rfl ?_
    simp only [List.set]
    refine sched_move (i := 48) (.bool false) rfl rfl rfl rfl rfl ?_
    simp only [List.set]
    refine sched_skip [(49, true), (50, false)] (by kernel_rfl) (HC.out.below hb2 (Nat.le_refl _)) ?_
    refine sched_pick (i := 51) false (.bool false) rfl rfl rfl rfl rfl rfl ?_
    simp only [List.set]
    refine sched_move (i := 52) (.bool false) rfl rfl rfl rfl rfl ?_
    simp only [List.set]
    refine sched_skip [(53, true), (54, false)] (by kernel_rfl) (HC.out.below hb2 (Nat.le_refl _)) ?_
    refine sched_pick (i := 55) false (.bool false) rfl rfl rfl rfl rfl rfl ?_
    simp only [List.set]
    refine sched_assign (i := 56) (.bool false) rfl rfl rfl rfl rfl ?_
    simp only [List.set]
    refine sched_nil ?_
    have hB2 := over HB.out hb2 HB.out.size
    have HB2 := hide hB2
    have hE2 := HG.out _ hB2
    clear hB2 hb2
    go_wp2_with fail
    go_ret
    exact ⟨ret_bad (by unfold goodB; rw [h1, h2, h3, h4, h5]; rfl), HB2.out⟩
  refine sched_call (i := 34) rfl rfl rfl rfl enters50 ((holds_any _ _ _ _ _ h5).mono ?_)
  rintro e w2 ⟨rfl, hb2⟩
  refine ⟨_, rfl, HC.out.below hb2 (Nat.le_refl _), ?_⟩
  replace HC := hide (HC.out.below hb2 (Nat.le_refl _))
  replace HB := hide (over HB.out hb2 HB.out.size)
  clear hb2
  simp only [List.set]
  refine sched_pick (i := 35) true (.bool true) rfl rfl rfl rfl rfl rfl ?_
  simp only [List.set]
  refine sched_move (i := 36) (.bool true) rfl rfl rfl rfl rfl ?_
  simp only [List.set]
  refine sched_take (i := 37) rfl rfl rfl (take_fa 0 (by decide) rfl rfl) ?_
  simp only [List.set]
  refine sched_take (i := 38) rfl rfl rfl (take_ld rfl rfl fun w h => h.c0) ?_
  simp only [List.set]
  refine sched_take (i := 40) rfl rfl rfl (take_fa 5 (by decide) rfl rfl) ?_
  simp only [List.set]
  refine sched_take (i := 41) rfl rfl rfl (take_ld rfl rfl fun w h => h.c5) ?_
  simp only [List.set]
  refine sched_call (i := 39) rfl rfl rfl rfl enters55 ((keySpan_any _ _).mono ?_)
  rintro e w2 ⟨rfl, hb2⟩
  refine ⟨_, rfl, HC.out.below hb2 (Nat.le_refl _), ?_⟩
  replace HC := hide (HC.out.below hb2 (Nat.le_refl _))
  replace HB := hide (over HB.out hb2 HB.out.size)
  clear hb2
  simp only [List.set]
  cases h6 : holdsB (0) (keyHi r.kind) r.key
  · refine sched_call (i := 42) rfl rfl rfl rfl enters50 ((holds_any _ _ _ _ _ h6).mono ?_)
    rintro e w2 ⟨rfl, hb2⟩
    refine ⟨_, rfl, HC.out.below hb2 (Nat.le_refl _), ?_⟩
    simp only [List.set]
    refine sched_pick (i := 43) true (.bool false) rfl rfl rfl rfl rfl rfl ?_
    simp only [List.set]
    refine sched_move (i := 44) (.bool false) rfl rfl rfl rfl rfl ?_
    simp only [List.set]
    refine sched_skip [(45, true), (46, false)] (by kernel_rfl) (HC.out.below hb2 (Nat.le_refl _)) ?_
    refine sched_pick (i := 47) false (.bool false) rfl rfl rfl rfl rfl rfl ?_
    simp only [List.set]
    refine sched_move (i := 48) (.bool false) rfl rfl rfl rfl rfl ?_
    simp only [List.set]
    refine sched_skip [(49, true), (50, false)] (by kernel_rfl) (HC.out.below hb2 (Nat.le_refl _)) ?_
    refine sched_pick (i := 51) false (.bool false) rfl rfl rfl rfl rfl rfl ?_
    simp only [List.set]
    refine sched_move (i := 52) (.bool false) rfl rfl rfl rfl rfl ?_
    simp only [List.set]
    refine sched_skip [(53, true), (54, false)] (by kernel_rfl) (HC.out.below hb2 (Nat.le_refl _)) ?_
    refine sched_pick (i := 55) false (.bool false) rfl rfl rfl rfl rfl rfl ?_
    simp only [List.set]
    refine sched_assign (i := 56) (.bool false) rfl rfl rfl rfl rfl ?_
    simp only [List.set]
    refine sched_nil ?_
    have hB2 := over HB.out hb2 HB.out.size
    have HB2 := hide hB2
    have hE2 := HG.out _ hB2
    clear hB2 hb2
    go_wp2_with fail
    go_ret
    exact ⟨ret_bad (by unfold goodB; rw [h1, h2, h3, h4, h5, h6]; rfl), HB2.out⟩
  refine sched_call (i := 42) rfl rfl rfl rfl enters50 ((holds_any _ _ _ _ _ h6).mono ?_)
  rintro e w2 ⟨rfl, hb2⟩
  refine ⟨_, rfl, HC.out.below hb2 (Nat.le_refl _), ?_⟩
  replace HC := hide (HC.out.below hb2 (Nat.le_refl _))
  replace HB := hide (over HB.out hb2 HB.out.size)
  clear hb2
  simp only [List.set]
  refine sched_pick (i := 43) true (.bool true) rfl rfl rfl rfl rfl rfl ?_
  simp only [List.set]
  refine sched_move (i := 44) (.bool true) rfl rfl rfl rfl rfl ?_
  simp only [List.set]
  refine sched_take (i := 45) rfl rfl rfl (take_ldR rfl rfl) ?_
  simp only [List.set]
  cases h7 : oldB r
  · refine sched_call (i := 46) rfl rfl rfl rfl enters56 ((oldHolds_any r _ _ h7).mono ?_)
    rintro e w2 ⟨rfl, hb2⟩
    refine ⟨_, rfl, HC.out.below hb2 (Nat.le_refl _), ?_⟩
    simp only [List.set]
    refine sched_pick (i := 47) true (.bool false) rfl rfl rfl rfl rfl rfl ?_
    simp only [List.set]
    refine sched_move (i := 48) (.bool false) rfl rfl rfl rfl rfl ?_
    simp only [List.set]
    refine sched_skip [(49, true), (50, false)] (by kernel_rfl) (HC.out.below hb2 (Nat.le_refl _)) ?_
    refine sched_pick (i := 51) false (.bool false) rfl rfl rfl rfl rfl rfl ?_
    simp only [List.set]
    refine sched_move (i := 52) (.bool false) rfl rfl rfl rfl rfl ?_
    simp only [List.set]
    refine sched_skip [(53, true), (54, false)] (by kernel_rfl) (HC.out.below hb2 (Nat.le_refl _)) ?_
    refine sched_pick (i := 55) false (.bool false) rfl rfl rfl rfl rfl rfl ?_
    simp only [List.set]
    refine sched_assign (i := 56) (.bool false) rfl rfl rfl rfl rfl ?_
    simp only [List.set]
    refine sched_nil ?_
    have hB2 := over HB.out hb2 HB.out.size
    have HB2 := hide hB2
    have hE2 := HG.out _ hB2
    clear hB2 hb2
    go_wp2_with fail
    go_ret
    exact ⟨ret_bad (by unfold goodB; rw [h1, h2, h3, h4, h5, h6, h7]; rfl), HB2.out⟩
  refine sched_call (i := 46) rfl rfl rfl rfl enters56 ((oldHolds_any r _ _ h7).mono ?_)
  rintro e w2 ⟨rfl, hb2⟩
  refine ⟨_, rfl, HC.out.below hb2 (Nat.le_refl _), ?_⟩
  replace HC := hide (HC.out.below hb2 (Nat.le_refl _))
  replace HB := hide (over HB.out hb2 HB.out.size)
  clear hb2
  simp only [List.set]
  refine sched_pick (i := 47) true (.bool true) rfl rfl rfl rfl rfl rfl ?_
  simp only [List.set]
  refine sched_move (i := 48) (.bool true) rfl rfl rfl rfl rfl ?_
  simp only [List.set]
  refine sched_take (i := 49) rfl rfl rfl (take_ldR rfl rfl) ?_
  simp only [List.set]
  cases h8 : newB r
  · refine sched_call (i := 50) rfl rfl rfl rfl enters57 ((newHolds_any r _ _ h8).mono ?_)
    rintro e w2 ⟨rfl, hb2⟩
    refine ⟨_, rfl, HC.out.below hb2 (Nat.le_refl _), ?_⟩
    simp only [List.set]
    refine sched_pick (i := 51) true (.bool false) rfl rfl rfl rfl rfl rfl ?_
    simp only [List.set]
    refine sched_move (i := 52) (.bool false) rfl rfl rfl rfl rfl ?_
    simp only [List.set]
    refine sched_skip [(53, true), (54, false)] (by kernel_rfl) (HC.out.below hb2 (Nat.le_refl _)) ?_
    refine sched_pick (i := 55) false (.bool false) rfl rfl rfl rfl rfl rfl ?_
    simp only [List.set]
    refine sched_assign (i := 56) (.bool false) rfl rfl rfl rfl rfl ?_
    simp only [List.set]
    refine sched_nil ?_
    have hB2 := over HB.out hb2 HB.out.size
    have HB2 := hide hB2
    have hE2 := HG.out _ hB2
    clear hB2 hb2
    go_wp2_with fail
    go_ret
    exact ⟨ret_bad (by unfold goodB; rw [h1, h2, h3, h4, h5, h6, h7, h8]; rfl), HB2.out⟩
  refine sched_call (i := 50) rfl rfl rfl rfl enters57 ((newHolds_any r _ _ h8).mono ?_)
  rintro e w2 ⟨rfl, hb2⟩
  refine ⟨_, rfl, HC.out.below hb2 (Nat.le_refl _), ?_⟩
  replace HC := hide (HC.out.below hb2 (Nat.le_refl _))
  replace HB := hide (over HB.out hb2 HB.out.size)
  clear hb2
  simp only [List.set]
  refine sched_pick (i := 51) true (.bool true) rfl rfl rfl rfl rfl rfl ?_
  simp only [List.set]
  refine sched_move (i := 52) (.bool true) rfl rfl rfl rfl rfl ?_
  simp only [List.set]
  refine sched_take (i := 53) rfl rfl rfl (take_ldR rfl rfl) ?_
  simp only [List.set]
  cases h9 : chgB r
  · refine sched_call (i := 54) rfl rfl rfl rfl enters58 ((changes_any r _ _ h9).mono ?_)
    rintro e w2 ⟨rfl, hb2⟩
    refine ⟨_, rfl, HC.out.below hb2 (Nat.le_refl _), ?_⟩
    simp only [List.set]
    refine sched_pick (i := 55) true (.bool false) rfl rfl rfl rfl rfl rfl ?_
    simp only [List.set]
    refine sched_assign (i := 56) (.bool false) rfl rfl rfl rfl rfl ?_
    simp only [List.set]
    refine sched_nil ?_
    have hB2 := over HB.out hb2 HB.out.size
    have HB2 := hide hB2
    have hE2 := HG.out _ hB2
    clear hB2 hb2
    go_wp2_with fail
    go_ret
    exact ⟨ret_bad (by unfold goodB; rw [h1, h2, h3, h4, h5, h6, h7, h8, h9]; rfl), HB2.out⟩
  refine sched_call (i := 54) rfl rfl rfl rfl enters58 ((changes_any r _ _ h9).mono ?_)
  rintro e w2 ⟨rfl, hb2⟩
  refine ⟨_, rfl, HC.out.below hb2 (Nat.le_refl _), ?_⟩
  replace HC := hide (HC.out.below hb2 (Nat.le_refl _))
  replace HB := hide (over HB.out hb2 HB.out.size)
  clear hb2
  simp only [List.set]
  refine sched_pick (i := 55) true (.bool true) rfl rfl rfl rfl rfl rfl ?_
  simp only [List.set]
  refine sched_assign (i := 56) (.bool true) rfl rfl rfl rfl rfl ?_
  simp only [List.set]
  refine sched_nil ?_
  go_wp2_with fail
  go_ret
  exact ⟨ret_good (by unfold goodB; rw [h1, h2, h3, h4, h5, h6, h7, h8, h9]; rfl), HB.out⟩
end Go.Proofs.YtgjhnkadfdcafaaDoor

/- What rec.Bytes answers: ErrRange of a record that may not be; else its forty bytes, in new memory. -/
namespace Go.Proofs.YtgjhnkadfdcafaaDoor
open Go.RowKit
set_option linter.unusedVariables false

/-- A list and an error, as what a function hands back. -/
theorem bytes_len (l cap : Nat) (ao : Option Addr) (xs : List Int) (a s n : Int) (w : World) (h : Row w ao xs) (hl : xs.length = l) (ha : -9223372036854775808 ≤ a) (ha' : a ≤ 9223372036854775807) (hn : 0 ≤ n) (hn' : n ≤ 18446744073709551615) :
    Calls Tryd.prog 62 #[.slice ao l cap, .int .i64 a, .int .i64 s, .int .u64 n] w fun e w' => e = .returned (.slice (some ⟨w.heap.size, 0, none⟩) l l) ∧ Own w' w.heap.size (some ⟨w.heap.size, 0, none⟩) l (putB xs a n (widthB s).toNat) ∧ Below w.heap.size w w' := by subst hl; exact put_any ao cap xs a s n w h ha ha' hn hn'
theorem fill_nil : fillB [] 40 = List.replicate 40 0 := by decide
theorem u64_wrap (n : Int) : IntKind.u64.wrap n = u64 n := by rw [IntKind.wrap_u64]; rfl
/-- A record lies in memory, cell by cell. -/
structure Cells10 (w : World) (B : Nat) (r : R) : Prop where
  c0 : w.cell? ⟨B, 0, none⟩ = some (.int .i64 r.kind)
  c1 : w.cell? ⟨B, 1, none⟩ = some (.int .i64 r.txn)
  c2 : w.cell? ⟨B, 2, none⟩ = some (.int .i64 r.page)
  c3 : w.cell? ⟨B, 3, none⟩ = some (.int .i64 r.prev)
  c4 : w.cell? ⟨B, 4, none⟩ = some (.int .i64 r.next)
  c5 : w.cell? ⟨B, 5, none⟩ = some (.int .i64 r.key)
  c6 : w.cell? ⟨B, 6, none⟩ = some (.bool r.had)
  c7 : w.cell? ⟨B, 7, none⟩ = some (.bool r.has)
  c8 : w.cell? ⟨B, 8, none⟩ = some (.int .i64 r.old)
  c9 : w.cell? ⟨B, 9, none⟩ = some (.int .i64 r.new)
  lt : B < w.heap.size
theorem Cells10.below {w w' : World} {B n : Nat} {r : R} (h : Cells10 w B r) (hb : Below n w w') (hn : w.heap.size ≤ n) : Cells10 w' B r := by
  have hl := h.lt
  have h0 : ∀ o, w'.cell? ⟨B, o, none⟩ = w.cell? ⟨B, o, none⟩ := fun o => hb.cell (show B < n by omega)
  exact ⟨(h0 _).trans h.c0, (h0 _).trans h.c1, (h0 _).trans h.c2, (h0 _).trans h.c3, (h0 _).trans h.c4, (h0 _).trans h.c5, (h0 _).trans h.c6, (h0 _).trans h.c7, (h0 _).trans h.c8, (h0 _).trans h.c9, Nat.lt_of_lt_of_le hl hb.size⟩
/-- A record's block. -/
def recCells (r : R) : Obj := .cells #[.int .i64 r.kind, .int .i64 r.txn, .int .i64 r.page, .int .i64 r.prev, .int .i64 r.next, .int .i64 r.key, .bool r.had, .bool r.has, .int .i64 r.old, .int .i64 r.new] 31
theorem cells10_new (w : World) (r : R) : Cells10 (w.alloc (recCells r)) w.heap.size r := by
  unfold recCells
  constructor <;> simp

set_option maxHeartbeats 1000000 in
theorem recBytes_bad (r : R) (w : World) (x : Addr) (hE : w.cell? ⟨1, 0, none⟩ = some (errV x)) (hg : goodB r = false) :
    Calls Tryd.prog 40 #[r.val] w fun e w' => e = .returned (.tuple #[.slice none 0 0, errV x]) ∧ Below w.heap.size w w' := by
  have HE2 : Hid ((w.alloc (recCells r)).cell? ⟨1, 0, none⟩ = some (errV x)) := ((below_box w (recCells r)).cell (World.block_lt_of_cell? w _ hE)).trans hE
  have HB := hide (below_box w (recCells r))
  unfold recCells at HE2 HB
  clear hE
  show Calls Tryd.prog 40 #[.agg #[.int .i64 r.kind, .int .i64 r.txn, .int .i64 r.page, .int .i64 r.prev, .int .i64 r.next, .int .i64 r.key, .bool r.had, .bool r.has, .int .i64 r.old, .int .i64 r.new]] w _
  go_enter Tryd.func40, Tryd.ntmps40
  go_wp2_with fail
  refine (check_any r _ x HE2.out).mono ?_
  rintro e w2 ⟨rfl, hb2⟩
  rw [checkV_bad hg]
  have HB2 := hide (over HB.out hb2 HB.out.size)
  clear hb2
  unfold errV
  go_wp2_with fail
  go_ret2
  exact ⟨rfl, HB2.out⟩
set_option maxHeartbeats 4000000 in
theorem recBytes_good (r : R) (w : World) (x : Addr) (hE : w.cell? ⟨1, 0, none⟩ = some (errV x)) (hg : goodB r = true) :
    Calls Tryd.prog 40 #[r.val] w fun e w' => ∃ g, e = .returned (.tuple #[.slice (some ⟨g, 0, none⟩) 40 40, .nilIface]) ∧ w.heap.size ≤ g ∧ Own w' g (some ⟨g, 0, none⟩) 40 (recB r) ∧ Below w.heap.size w w' := by
  have HE2 : Hid ((w.alloc (recCells r)).cell? ⟨1, 0, none⟩ = some (errV x)) := ((below_box w (recCells r)).cell (World.block_lt_of_cell? w _ hE)).trans hE
  have HB := hide (below_box w (recCells r))
  have HC := hide (cells10_new w r)
  unfold recCells at HE2 HB HC
  obtain ⟨⟨s0, s1⟩, ⟨t0, t1⟩, ⟨p0, p1⟩, ⟨v0, v1⟩, ⟨n0, n1⟩, ⟨y0, y1⟩⟩ := R.small hg
  clear hE
  show Calls Tryd.prog 40 #[.agg #[.int .i64 r.kind, .int .i64 r.txn, .int .i64 r.page, .int .i64 r.prev, .int .i64 r.next, .int .i64 r.key, .bool r.had, .bool r.has, .int .i64 r.old, .int .i64 r.new]] w _
  go_enter Tryd.func40, Tryd.ntmps40
  go_wp2_with fail
  refine (check_any r _ x HE2.out).mono ?_
  rintro e w2 ⟨rfl, hb⟩
  rw [checkV_good hg]
  replace HC := hide (HC.out.below hb (Nat.le_refl _))
  replace HB := hide (over HB.out hb HB.out.size)
  clear hb HE2
  go_wp2_with fail
  refine (fill_any none 0 [] 40 _ (row_nil _) (by omega)).mono ?_
  rintro e w3 ⟨rfl, hown, hb⟩
  rw [fill_nil, List.length_replicate] at hown ⊢
  have HO := hide hown
  replace HC := hide (HC.out.below hb (Nat.le_refl _))
  replace HB := hide (over HB.out hb HB.out.size)
  clear hown hb
  have k := HC.out.c0
  go_wp2_with fail
  clear k
  refine (bytes_len 40 40 _ (List.replicate 40 0) _ _ (r.kind) _ HO.out.row (List.length_replicate ..) (by omega) (by omega) (by omega) (by omega)).mono ?_
  rintro e wp ⟨rfl, hown, hb⟩
  replace HO : Hid (Own wp _ _ 40 (rec1 r)) := hown
  replace HC := hide (HC.out.below hb (Nat.le_refl _))
  have HS := hide HB.out.size
  replace HB := hide (over HB.out hb HB.out.size)
  clear hown hb
  obtain ⟨k0, k1, k2, k3, k4, k5, k6, k7, k8, k9, kl⟩ := HC.out
  go_wp2_with fail
  clear k0 k1 k2 k3 k4 k5 k6 k7 k8 k9 kl
  refine (marks_any r _).mono ?_
  rintro e wm ⟨rfl, hb⟩
  replace HO := hide (HO.out.below hb (Nat.le_refl _))
  replace HC := hide (HC.out.below hb (Nat.le_refl _))
  replace HB := hide (over HB.out hb HB.out.size)
  clear hb
  go_wp2_with fail
  refine (bytes_len 40 40 _ (rec1 r) _ _ (markB r) _ HO.out.row (length_rec1 r) (by omega) (by omega) (markB_bd r).1 (Int.le_trans (markB_bd r).2 (by omega))).mono ?_
  rintro e wp ⟨rfl, hown, hb⟩
  replace HO : Hid (Own wp _ _ 40 (rec2 r)) := hown
  replace HC := hide (HC.out.below hb (Nat.le_refl _))
  have HS := hide HB.out.size
  replace HB := hide (over HB.out hb HB.out.size)
  clear hown hb
  have k := HC.out.c1
  go_wp2_with fail
  clear k
  refine (bytes_len 40 40 _ (rec2 r) _ _ (r.txn) _ HO.out.row (length_rec2 r) (by omega) (by omega) (by omega) (by omega)).mono ?_
  rintro e wp ⟨rfl, hown, hb⟩
  replace HO : Hid (Own wp _ _ 40 (rec3 r)) := hown
  replace HC := hide (HC.out.below hb (Nat.le_refl _))
  have HS := hide HB.out.size
  replace HB := hide (over HB.out hb HB.out.size)
  clear hown hb
  have k := HC.out.c2
  go_wp2_with fail
  clear k
  refine (bytes_len 40 40 _ (rec3 r) _ _ (r.page) _ HO.out.row (length_rec3 r) (by omega) (by omega) (by omega) (by omega)).mono ?_
  rintro e wp ⟨rfl, hown, hb⟩
  replace HO : Hid (Own wp _ _ 40 (rec4 r)) := hown
  replace HC := hide (HC.out.below hb (Nat.le_refl _))
  have HS := hide HB.out.size
  replace HB := hide (over HB.out hb HB.out.size)
  clear hown hb
  have k := HC.out.c3
  go_wp2_with fail
  clear k
  refine (bytes_len 40 40 _ (rec4 r) _ _ (r.prev) _ HO.out.row (length_rec4 r) (by omega) (by omega) (by omega) (by omega)).mono ?_
  rintro e wp ⟨rfl, hown, hb⟩
  replace HO : Hid (Own wp _ _ 40 (rec5 r)) := hown
  replace HC := hide (HC.out.below hb (Nat.le_refl _))
  have HS := hide HB.out.size
  replace HB := hide (over HB.out hb HB.out.size)
  clear hown hb
  have k := HC.out.c4
  go_wp2_with fail
  clear k
  refine (bytes_len 40 40 _ (rec5 r) _ _ (r.next) _ HO.out.row (length_rec5 r) (by omega) (by omega) (by omega) (by omega)).mono ?_
  rintro e wp ⟨rfl, hown, hb⟩
  replace HO : Hid (Own wp _ _ 40 (rec6 r)) := hown
  replace HC := hide (HC.out.below hb (Nat.le_refl _))
  have HS := hide HB.out.size
  replace HB := hide (over HB.out hb HB.out.size)
  clear hown hb
  have k := HC.out.c5
  go_wp2_with fail
  clear k
  refine (bytes_len 40 40 _ (rec6 r) _ _ (r.key) _ HO.out.row (length_rec6 r) (by omega) (by omega) (by omega) (by omega)).mono ?_
  rintro e wp ⟨rfl, hown, hb⟩
  replace HO : Hid (Own wp _ _ 40 (rec7 r)) := hown
  replace HC := hide (HC.out.below hb (Nat.le_refl _))
  have HS := hide HB.out.size
  replace HB := hide (over HB.out hb HB.out.size)
  clear hown hb
  have k := HC.out.c8
  go_wp2_with fail
  rw [u64_wrap]
  clear k
  refine (bytes_len 40 40 _ (rec7 r) _ _ (u64 r.old) _ HO.out.row (length_rec7 r) (by omega) (by omega) (u64_bd _).1 (u64_bd _).2).mono ?_
  rintro e wp ⟨rfl, hown, hb⟩
  replace HO : Hid (Own wp _ _ 40 (rec8 r)) := hown
  replace HC := hide (HC.out.below hb (Nat.le_refl _))
  have HS := hide HB.out.size
  replace HB := hide (over HB.out hb HB.out.size)
  clear hown hb
  have k := HC.out.c9
  go_wp2_with fail
  rw [u64_wrap]
  clear k
  refine (bytes_len 40 40 _ (rec8 r) _ _ (u64 r.new) _ HO.out.row (length_rec8 r) (by omega) (by omega) (u64_bd _).1 (u64_bd _).2).mono ?_
  rintro e wp ⟨rfl, hown, hb⟩
  replace HO : Hid (Own wp _ _ 40 (recB r)) := hown
  replace HC := hide (HC.out.below hb (Nat.le_refl _))
  have HS := hide HB.out.size
  replace HB := hide (over HB.out hb HB.out.size)
  clear hown hb
  go_wp2_with fail
  go_ret2
  exact ⟨_, rfl, HS.out, HO.out, HB.out⟩
end Go.Proofs.YtgjhnkadfdcafaaDoor

/- What phoenixmake.Rec makes out of a list of numbers: a record that may be; only the list's own counter is written. -/
namespace Go.Proofs.YtgjhnkadfdcafaaDoor
open Go.RowKit
set_option linter.unusedVariables false

/-- A list of numbers that is taken one by one lies at block s. -/
structure SeqAt (w : World) (s : Nat) (lo : Option Addr) (len cap : Nat) (zs : List Int) (n : Nat) : Prop where
  lies : w.heap[s]? = some (.cells #[.slice lo len cap, .int .i64 n] 47 (0, 0))
  row : ∀ i, i < len → ∃ b off, lo = some ⟨b, off, none⟩ ∧ b < s ∧ w.cell? ⟨b, off + i, none⟩ = some (.int .i64 (zs.getD i 0))
  small : n ≤ 1000 ∧ len ≤ 500
/-- Of all blocks that were there none but s has turned. -/
structure But (s : Nat) (w w' : World) : Prop where
  os : w'.os = w.os
  tape : w'.tape = w.tape
  output : w'.output = w.output
  size : w.heap.size ≤ w'.heap.size
  block : ∀ k, k < w.heap.size → k ≠ s → w'.heap[k]? = w.heap[k]?
theorem But.refl (s : Nat) (w : World) : But s w w := ⟨rfl, rfl, rfl, Nat.le_refl _, fun _ _ _ => rfl⟩
theorem But.trans {s : Nat} {a b c : World} (h : But s a b) (k : But s b c) : But s a c :=
  ⟨k.os.trans h.os, k.tape.trans h.tape, k.output.trans h.output, Nat.le_trans h.size k.size, fun i hi hs => (k.block i (Nat.lt_of_lt_of_le hi h.size) hs).trans (h.block i hi hs)⟩
theorem But.of_below {s : Nat} {a b : World} (h : Below a.heap.size a b) : But s a b := ⟨h.os, h.tape, h.output, h.size, fun k hk _ => h.block k hk⟩
theorem But.below {s : Nat} {a b : World} (h : But s a b) (hs : s ≤ a.heap.size) : Below s a b := ⟨h.os, h.tape, h.output, h.size, fun k hk => h.block k (Nat.lt_of_lt_of_le hk hs) (Nat.ne_of_lt hk)⟩
theorem But.alloc {s : Nat} {a b : World} (h : But s a b) (A : Obj) : But s a (b.alloc A) := h.trans (But.of_below ((Below.refl _ _).alloc (Nat.le_refl _) A))
theorem But.set (s : Nat) (w : World) (o : Nat) (v : Value) (q : Nat) : But s w ((w.setCell ⟨s, o, none⟩ v).drewN q) := by
  refine ⟨rfl, rfl, rfl, ?_, fun k hk hs => ?_⟩
  · show w.heap.size ≤ (w.setCell _ _).heap.size; simp [World.setCell]
  · show (w.setCell _ _).heap[k]? = _
    simp only [World.setCell, Array.getElem?_modify]
    rw [if_neg (fun e => hs e.symm)]
theorem seq_cell {w : World} {s : Nat} {lo : Option Addr} {len cap : Nat} {zs : List Int} {n : Nat} (h : SeqAt w s lo len cap zs n) : w.cell? ⟨s, 0, none⟩ = some (.slice lo len cap) ∧ w.cell? ⟨s, 1, none⟩ = some (.int .i64 n) := by
  constructor <;> (simp only [World.cell?, h.lies]; rfl)
theorem set_block {w : World} {s : Nat} {c : Array Value} {t : TypeId} (h : w.heap[s]? = some (.cells c t (0, 0))) (o : Nat) (v : Value) : (w.setCell ⟨s, o, none⟩ v).heap[s]? = some (.cells (c.setIfInBounds o v) t (0, 0)) := by
  simp [World.setCell, Array.getElem?_modify, h]
theorem SeqAt.next {w : World} {s : Nat} {lo : Option Addr} {len cap : Nat} {zs : List Int} {n : Nat} (h : SeqAt w s lo len cap zs n) (hn : n + 1 ≤ 1000) (q : Nat) : SeqAt ((w.setCell ⟨s, 1, none⟩ (.int .i64 ((n + 1 : Nat) : Int))).drewN q) s lo len cap zs (n + 1) := by
  refine ⟨?_, fun i hi => ?_, hn, h.small.2⟩
  · exact set_block h.lies 1 _
  · obtain ⟨b, off, rfl, hb, hc⟩ := h.row i hi
    refine ⟨b, off, rfl, hb, ?_⟩
    have hB : Below s w (w.setCell ⟨s, 1, none⟩ (.int .i64 ((n + 1 : Nat) : Int))) := (Below.refl s w).setCell (p := ⟨s, 1, none⟩) (Nat.le_refl _) _
    exact (hB.cell (show b < s from hb)).trans hc
set_option maxHeartbeats 1000000 in
theorem next_any (s : Nat) (lo : Option Addr) (len cap : Nat) (zs : List Int) (n : Nat) (m : Int) (w : World) (h : SeqAt w s lo len cap zs n) (h0 : 0 < m) (h1 : m ≤ 100000) :
    Calls Tryd.prog 22 #[.pointer (some ⟨s, 0, none⟩), .int .i64 m] w fun e w' => ∃ k q, e = .returned (.int .i64 k) ∧ (0 ≤ k ∧ k < m) ∧ w' = (w.setCell ⟨s, 1, none⟩ (.int .i64 ((n + 1 : Nat) : Int))).drewN q := by
  obtain ⟨c0, c1⟩ := seq_cell h
  have hsm := h.small
  have hf : w.frozen? ⟨s, 1, none⟩ = false := by simp [World.frozen?, h.lies]
  obtain ⟨hs1, hs2⟩ := hsm
  by_cases hlt : n < len
  · obtain ⟨b, off, rfl, hb, hc⟩ := h.row n hlt
    have hlt' : (n : Int) < (len : Int) := by omega
    have hd : decide ((n : Int) < (len : Int)) = true := by simp; omega
    clear h
    obtain ⟨y, hy⟩ : ∃ y, y = zs.getD n 0 := ⟨_, rfl⟩
    rw [← hy] at hc
    clear hy
    go_enter Tryd.func22, Tryd.ntmps22
    go_wp2_with fail
    go_quiet (fail)
    go_wp2_with fail
    go_quiet (fail)
    go_wp2_with fail
    refine (number_any _ _ _ h0 h1).mono ?_
    rintro e w2 ⟨rfl, rfl⟩
    have hnb := numberB_bd y m h0
    go_wp2_with fail
    go_ret
    exact ⟨_, _, rfl, hnb, rfl⟩
  · have hd : decide ((n : Int) < (len : Int)) = false := by simp; omega
    clear h
    go_enter Tryd.func22, Tryd.ntmps22
    go_wp2_with fail
    go_quiet (fail)
    go_wp2_with fail
    refine (number_any _ _ _ h0 h1).mono ?_
    rintro e w2 ⟨rfl, rfl⟩
    have hnb := numberB_bd 0 m h0
    go_wp2_with fail
    go_ret
    exact ⟨_, _, rfl, hnb, rfl⟩
theorem set_alloc (x : World) (A : Obj) (p : Addr) (v : Value) (h : p.block < x.heap.size) : (x.alloc A).setCell p v = (x.setCell p v).alloc A := by
  unfold World.setCell World.alloc
  simp only
  congr 1
  refine Array.ext (by simp) fun i h1 h2 => ?_
  simp only [Array.getElem_modify, Array.getElem_push, Array.size_modify]
  by_cases e : i < x.heap.size
  · simp [e]
  · have : ¬ p.block = i := by omega
    simp [e, this]
theorem SeqAt.alloc {w : World} {s : Nat} {lo : Option Addr} {len cap : Nat} {zs : List Int} {n : Nat} (h : SeqAt w s lo len cap zs n) (A : Obj) : SeqAt (w.alloc A) s lo len cap zs n := by
  have hb := (Below.refl w.heap.size w).alloc (Nat.le_refl _) A
  have hlt := lt_of_block h.lies
  refine ⟨by rw [hb.block _ hlt]; exact h.lies, fun i hi => ?_, h.small⟩
  obtain ⟨b, off, e, hbs, hc⟩ := h.row i hi
  exact ⟨b, off, e, hbs, (hb.cell (show b < w.heap.size by omega)).trans hc⟩
theorem next_one (x : World) (A : Obj) (N s : Nat) (lo : Option Addr) (len cap : Nat) (zs : List Int) (n : Nat) (m : Int) (h : SeqAt x s lo len cap zs n) (hN : x.heap.size = N) (h0 : 0 < m) (h1 : m ≤ 100000) (hn : n < 1000) :
    Calls Tryd.prog 22 #[.pointer (some ⟨s, 0, none⟩), .int .i64 m] (x.alloc A) fun e w' => ∃ k x', e = .returned (.int .i64 k) ∧ (0 ≤ k ∧ k < m) ∧ w' = x'.alloc A ∧ SeqAt x' s lo len cap zs (n + 1) ∧ x'.heap.size = N ∧ But s x x' := by
  refine (next_any s lo len cap zs n m _ (h.alloc A) h0 h1).mono ?_
  rintro e w' ⟨k, q, rfl, hk, rfl⟩
  refine ⟨k, (x.setCell ⟨s, 1, none⟩ (.int .i64 ((n + 1 : Nat) : Int))).drewN q, rfl, hk, ?_, h.next (by omega) q, ?_, ?_⟩
  · rw [set_alloc x A _ _ (lt_of_block h.lies)]; rfl
  · rw [← hN]; show (x.setCell _ _).heap.size = _; simp [World.setCell]
  · exact But.set s x 1 _ q
theorem next_two (x : World) (A B : Obj) (N s : Nat) (lo : Option Addr) (len cap : Nat) (zs : List Int) (n : Nat) (m : Int) (h : SeqAt x s lo len cap zs n) (hN : x.heap.size = N) (h0 : 0 < m) (h1 : m ≤ 100000) (hn : n < 1000) :
    Calls Tryd.prog 22 #[.pointer (some ⟨s, 0, none⟩), .int .i64 m] ((x.alloc A).alloc B) fun e w' => ∃ k x', e = .returned (.int .i64 k) ∧ (0 ≤ k ∧ k < m) ∧ w' = (x'.alloc A).alloc B ∧ SeqAt x' s lo len cap zs (n + 1) ∧ x'.heap.size = N ∧ But s x x' := by
  refine (next_any s lo len cap zs n m _ ((h.alloc A).alloc B) h0 h1).mono ?_
  rintro e w' ⟨k, q, rfl, hk, rfl⟩
  refine ⟨k, (x.setCell ⟨s, 1, none⟩ (.int .i64 ((n + 1 : Nat) : Int))).drewN q, rfl, hk, ?_, h.next (by omega) q, ?_, ?_⟩
  · have hlt := lt_of_block h.lies
    rw [set_alloc (x.alloc A) B _ _ (by simp; omega), set_alloc x A _ _ hlt]; rfl
  · rw [← hN]; show (x.setCell _ _).heap.size = _; simp [World.setCell]
  · exact But.set s x 1 _ q
theorem good_of {r : R} (h : holdsB 1 10 r.kind = true ∧ holdsB (txnLo r.kind) (txnHi r.kind) r.txn = true ∧ holdsB (pageLo r.kind) (pageHi r.kind) r.page = true ∧ holdsB (prevLo r.kind) (prevHi r.kind) r.prev = true ∧ holdsB 0 (nextHi r.kind) r.next = true ∧ holdsB 0 (keyHi r.kind) r.key = true ∧ oldB r = true) (h' : (newB r && chgB r) = true) : goodB r = true := by
  unfold goodB
  obtain ⟨h1, h2, h3, h4, h5, h6, h7⟩ := h
  rw [h1, h2, h3, h4, h5, h6, h7, h']
  rfl
set_option maxHeartbeats 4000000 in
theorem make_from (n0 : Nat) (hn0 : n0 + 20 ≤ 1000) (s : Nat) (lo : Option Addr) (len cap : Nat) (zs : List Int) (w : World) (h : SeqAt w s lo len cap zs n0) :
    Calls Tryd.prog 28 #[.pointer (some ⟨s, 0, none⟩)] w fun e w' => ∃ r : R, e = .returned r.val ∧ goodB r = true ∧ r.fits ∧ (∃ n1, n1 ≤ n0 + 10 ∧ SeqAt w' s lo len cap zs n1) ∧ But s w w' := by
  have HS := hide h
  have HB := hide (But.refl s w)
  obtain ⟨N, hN⟩ : ∃ N, w.heap.size = N := ⟨_, rfl⟩
  have HE : Hid (∀ (x : World) (A B : Obj) (n1 : Nat), But s w x → SeqAt x s lo len cap zs n1 → n1 ≤ n0 + 10 → (∃ n1, n1 ≤ n0 + 10 ∧ SeqAt ((x.alloc A).alloc B) s lo len cap zs n1) ∧ But s w ((x.alloc A).alloc B)) :=
    fun x A B n1 hb hs hn => ⟨⟨n1, hn, (hs.alloc A).alloc B⟩, (hb.alloc A).alloc B⟩
  clear h
  go_enter Tryd.func28, Tryd.ntmps28
  go_wp2_with fail
  refine (next_one _ _ N s lo len cap zs n0 10 HS.out hN (by omega) (by omega) (by omega)).mono ?_
  rintro e w2 ⟨k0, x0, rfl, ⟨p0, q0⟩, rfl, hS, hN0, hB⟩
  replace HS := hide hS
  replace HB := hide (HB.out.trans hB)
  clear hS hB hN
  rename x0.heap.size = N => hN
  have hk : k0 = 0 ∨ k0 = 1 ∨ k0 = 2 ∨ k0 = 3 ∨ k0 = 4 ∨ k0 = 5 ∨ k0 = 6 ∨ k0 = 7 ∨ k0 = 8 ∨ k0 = 9 := by omega
  clear p0 q0
  rcases hk with rfl | rfl | rfl | rfl | rfl | rfl | rfl | rfl | rfl | rfl
  · go_wp2_with fail
    refine (next_two _ _ _ N s lo len cap zs (n0 + 1) 5 HS.out hN (by omega) (by omega) (by omega)).mono ?_
    rintro e w2 ⟨k1, x1, rfl, ⟨p1, q1⟩, rfl, hS, hN1, hB⟩
    replace HS := hide hS
    replace HB := hide (HB.out.trans hB)
    clear hS hB hN
    rename x1.heap.size = N => hN
    go_wp2_with fail
    exact bodyPost_ret (v := .agg #[.int .i64 (1), .int .i64 (1 + k1), .int .i64 (0), .int .i64 (0), .int .i64 (0), .int .i64 (0), .bool false, .bool false, .int .i64 (0), .int .i64 (0)]) (by simp [results, Tryd.results28, go_sem, hN]) rfl ⟨⟨1, 1 + k1, 0, 0, 0, 0, false, false, 0, 0⟩, rfl, good_of ⟨rfl, by simp [holdsB, txnLo, txnHi]; try omega, by simp [holdsB, pageLo, pageHi]; try omega, by simp [holdsB, prevLo, prevHi]; try omega, by simp [holdsB, nextHi]; try omega, by simp [holdsB, keyHi]; try omega, by simp [oldB]; try omega⟩ rfl, ⟨⟨by simp; try omega, by simp; try omega⟩, ⟨by simp; try omega, by simp; try omega⟩⟩, HE.out _ _ _ _ HB.out HS.out (by omega)⟩
  · go_wp2_with fail
    refine (next_two _ _ _ N s lo len cap zs (n0 + 1) 5 HS.out hN (by omega) (by omega) (by omega)).mono ?_
    rintro e w2 ⟨k1, x1, rfl, ⟨p1, q1⟩, rfl, hS, hN1, hB⟩
    replace HS := hide hS
    replace HB := hide (HB.out.trans hB)
    clear hS hB hN
    rename x1.heap.size = N => hN
    go_wp2_with fail
    refine (next_two _ _ _ N s lo len cap zs (n0 + 2) 4 HS.out hN (by omega) (by omega) (by omega)).mono ?_
    rintro e w2 ⟨k2, x2, rfl, ⟨p2, q2⟩, rfl, hS, hN2, hB⟩
    replace HS := hide hS
    replace HB := hide (HB.out.trans hB)
    clear hS hB hN
    rename x2.heap.size = N => hN
    go_wp2_with fail
    refine (next_two _ _ _ N s lo len cap zs (n0 + 3) 20 HS.out hN (by omega) (by omega) (by omega)).mono ?_
    rintro e w2 ⟨k3, x3, rfl, ⟨p3, q3⟩, rfl, hS, hN3, hB⟩
    replace HS := hide hS
    replace HB := hide (HB.out.trans hB)
    clear hS hB hN
    rename x3.heap.size = N => hN
    go_wp2_with fail
    refine (next_two _ _ _ N s lo len cap zs (n0 + 4) 40 HS.out hN (by omega) (by omega) (by omega)).mono ?_
    rintro e w2 ⟨k4, x4, rfl, ⟨p4, q4⟩, rfl, hS, hN4, hB⟩
    replace HS := hide hS
    replace HB := hide (HB.out.trans hB)
    clear hS hB hN
    rename x4.heap.size = N => hN
    go_wp2_with fail
    refine (next_two _ _ _ N s lo len cap zs (n0 + 5) 3 HS.out hN (by omega) (by omega) (by omega)).mono ?_
    rintro e w2 ⟨k5, x5, rfl, ⟨p5, q5⟩, rfl, hS, hN5, hB⟩
    replace HS := hide hS
    replace HB := hide (HB.out.trans hB)
    clear hS hB hN
    rename x5.heap.size = N => hN
    rcases (show k5 = 0 ∨ 0 < k5 by omega) with rfl | hh
    · go_wp2_with fail
      refine (next_two _ _ _ N s lo len cap zs (n0 + 6) 2 HS.out hN (by omega) (by omega) (by omega)).mono ?_
      rintro e w2 ⟨k6, x6, rfl, ⟨p6, q6⟩, rfl, hS, hN6, hB⟩
      replace HS := hide hS
      replace HB := hide (HB.out.trans hB)
      clear hS hB hN
      rename x6.heap.size = N => hN
      rcases (show k6 = 0 ∨ 0 < k6 by omega) with rfl | hm
      · go_wp2_with fail
        refine (next_two _ _ _ N s lo len cap zs (n0 + 7) 1000 HS.out hN (by omega) (by omega) (by omega)).mono ?_
        rintro e w2 ⟨k7, x7, rfl, ⟨p7, q7⟩, rfl, hS, hN7, hB⟩
        replace HS := hide hS
        replace HB := hide (HB.out.trans hB)
        clear hS hB hN
        rename x7.heap.size = N => hN
        go_wp2_with fail
        exact bodyPost_ret (v := .agg #[.int .i64 (2), .int .i64 (1 + k1), .int .i64 (1 + k2), .int .i64 (k3), .int .i64 (0), .int .i64 (k4), .bool true, .bool false, .int .i64 (k7 - 500), .int .i64 (0)]) (by simp [results, Tryd.results28, go_sem, hN]) rfl ⟨⟨2, 1 + k1, 1 + k2, k3, 0, k4, true, false, k7 - 500, 0⟩, rfl, good_of ⟨rfl, by simp [holdsB, txnLo, txnHi]; try omega, by simp [holdsB, pageLo, pageHi]; try omega, by simp [holdsB, prevLo, prevHi]; try omega, by simp [holdsB, nextHi]; try omega, by simp [holdsB, keyHi]; try omega, by simp [oldB]; try omega⟩ rfl, ⟨⟨by simp; try omega, by simp; try omega⟩, ⟨by simp; try omega, by simp; try omega⟩⟩, HE.out _ _ _ _ HB.out HS.out (by omega)⟩
      · have hm1 : (k6 == 0) = false := by simp; omega
        go_wp2_with fail
        refine (next_two _ _ _ N s lo len cap zs (n0 + 7) 1000 HS.out hN (by omega) (by omega) (by omega)).mono ?_
        rintro e w2 ⟨k7, x7, rfl, ⟨p7, q7⟩, rfl, hS, hN7, hB⟩
        replace HS := hide hS
        replace HB := hide (HB.out.trans hB)
        clear hS hB hN
        rename x7.heap.size = N => hN
        go_wp2_with fail
        exact bodyPost_ret (v := .agg #[.int .i64 (2), .int .i64 (1 + k1), .int .i64 (1 + k2), .int .i64 (k3), .int .i64 (0), .int .i64 (k4), .bool true, .bool false, .int .i64 (k7 - 500), .int .i64 (0)]) (by simp [results, Tryd.results28, go_sem, hN]) rfl ⟨⟨2, 1 + k1, 1 + k2, k3, 0, k4, true, false, k7 - 500, 0⟩, rfl, good_of ⟨rfl, by simp [holdsB, txnLo, txnHi]; try omega, by simp [holdsB, pageLo, pageHi]; try omega, by simp [holdsB, prevLo, prevHi]; try omega, by simp [holdsB, nextHi]; try omega, by simp [holdsB, keyHi]; try omega, by simp [oldB]; try omega⟩ rfl, ⟨⟨by simp; try omega, by simp; try omega⟩, ⟨by simp; try omega, by simp; try omega⟩⟩, HE.out _ _ _ _ HB.out HS.out (by omega)⟩
    · have hh1 : decide (0 < k5) = true := by simp; omega
      go_wp2_with fail
      refine (next_two _ _ _ N s lo len cap zs (n0 + 6) 1000 HS.out hN (by omega) (by omega) (by omega)).mono ?_
      rintro e w2 ⟨k6, x6, rfl, ⟨p6, q6⟩, rfl, hS, hN6, hB⟩
      replace HS := hide hS
      replace HB := hide (HB.out.trans hB)
      clear hS hB hN
      rename x6.heap.size = N => hN
      go_wp2_with fail
      refine (next_two _ _ _ N s lo len cap zs (n0 + 7) 2 HS.out hN (by omega) (by omega) (by omega)).mono ?_
      rintro e w2 ⟨k7, x7, rfl, ⟨p7, q7⟩, rfl, hS, hN7, hB⟩
      replace HS := hide hS
      replace HB := hide (HB.out.trans hB)
      clear hS hB hN
      rename x7.heap.size = N => hN
      rcases (show k7 = 0 ∨ 0 < k7 by omega) with rfl | hm
      · go_wp2_with fail
        refine (next_two _ _ _ N s lo len cap zs (n0 + 8) 1000 HS.out hN (by omega) (by omega) (by omega)).mono ?_
        rintro e w2 ⟨k8, x8, rfl, ⟨p8, q8⟩, rfl, hS, hN8, hB⟩
        replace HS := hide hS
        replace HB := hide (HB.out.trans hB)
        clear hS hB hN
        rename x8.heap.size = N => hN
        go_wp2_with fail
        exact bodyPost_ret (v := .agg #[.int .i64 (2), .int .i64 (1 + k1), .int .i64 (1 + k2), .int .i64 (k3), .int .i64 (0), .int .i64 (k4), .bool true, .bool true, .int .i64 (k8 - 500), .int .i64 (k6 - 500)]) (by simp [results, Tryd.results28, go_sem, hN]) rfl ⟨⟨2, 1 + k1, 1 + k2, k3, 0, k4, true, true, k8 - 500, k6 - 500⟩, rfl, good_of ⟨rfl, by simp [holdsB, txnLo, txnHi]; try omega, by simp [holdsB, pageLo, pageHi]; try omega, by simp [holdsB, prevLo, prevHi]; try omega, by simp [holdsB, nextHi]; try omega, by simp [holdsB, keyHi]; try omega, by simp [oldB]; try omega⟩ rfl, ⟨⟨by simp; try omega, by simp; try omega⟩, ⟨by simp; try omega, by simp; try omega⟩⟩, HE.out _ _ _ _ HB.out HS.out (by omega)⟩
      · have hm1 : (k7 == 0) = false := by simp; omega
        go_wp2_with fail
        exact bodyPost_ret (v := .agg #[.int .i64 (2), .int .i64 (1 + k1), .int .i64 (1 + k2), .int .i64 (k3), .int .i64 (0), .int .i64 (k4), .bool false, .bool true, .int .i64 (0), .int .i64 (k6 - 500)]) (by simp [results, Tryd.results28, go_sem, hN]) rfl ⟨⟨2, 1 + k1, 1 + k2, k3, 0, k4, false, true, 0, k6 - 500⟩, rfl, good_of ⟨rfl, by simp [holdsB, txnLo, txnHi]; try omega, by simp [holdsB, pageLo, pageHi]; try omega, by simp [holdsB, prevLo, prevHi]; try omega, by simp [holdsB, nextHi]; try omega, by simp [holdsB, keyHi]; try omega, by simp [oldB]; try omega⟩ rfl, ⟨⟨by simp; try omega, by simp; try omega⟩, ⟨by simp; try omega, by simp; try omega⟩⟩, HE.out _ _ _ _ HB.out HS.out (by omega)⟩
  · go_wp2_with fail
    refine (next_two _ _ _ N s lo len cap zs (n0 + 1) 5 HS.out hN (by omega) (by omega) (by omega)).mono ?_
    rintro e w2 ⟨k1, x1, rfl, ⟨p1, q1⟩, rfl, hS, hN1, hB⟩
    replace HS := hide hS
    replace HB := hide (HB.out.trans hB)
    clear hS hB hN
    rename x1.heap.size = N => hN
    go_wp2_with fail
    refine (next_two _ _ _ N s lo len cap zs (n0 + 2) 4 HS.out hN (by omega) (by omega) (by omega)).mono ?_
    rintro e w2 ⟨k2, x2, rfl, ⟨p2, q2⟩, rfl, hS, hN2, hB⟩
    replace HS := hide hS
    replace HB := hide (HB.out.trans hB)
    clear hS hB hN
    rename x2.heap.size = N => hN
    go_wp2_with fail
    refine (next_two _ _ _ N s lo len cap zs (n0 + 3) 20 HS.out hN (by omega) (by omega) (by omega)).mono ?_
    rintro e w2 ⟨k3, x3, rfl, ⟨p3, q3⟩, rfl, hS, hN3, hB⟩
    replace HS := hide hS
    replace HB := hide (HB.out.trans hB)
    clear hS hB hN
    rename x3.heap.size = N => hN
    go_wp2_with fail
    refine (next_two _ _ _ N s lo len cap zs (n0 + 4) 40 HS.out hN (by omega) (by omega) (by omega)).mono ?_
    rintro e w2 ⟨k4, x4, rfl, ⟨p4, q4⟩, rfl, hS, hN4, hB⟩
    replace HS := hide hS
    replace HB := hide (HB.out.trans hB)
    clear hS hB hN
    rename x4.heap.size = N => hN
    go_wp2_with fail
    refine (next_two _ _ _ N s lo len cap zs (n0 + 5) 3 HS.out hN (by omega) (by omega) (by omega)).mono ?_
    rintro e w2 ⟨k5, x5, rfl, ⟨p5, q5⟩, rfl, hS, hN5, hB⟩
    replace HS := hide hS
    replace HB := hide (HB.out.trans hB)
    clear hS hB hN
    rename x5.heap.size = N => hN
    rcases (show k5 = 0 ∨ 0 < k5 by omega) with rfl | hh
    · go_wp2_with fail
      refine (next_two _ _ _ N s lo len cap zs (n0 + 6) 20 HS.out hN (by omega) (by omega) (by omega)).mono ?_
      rintro e w2 ⟨k6, x6, rfl, ⟨p6, q6⟩, rfl, hS, hN6, hB⟩
      replace HS := hide hS
      replace HB := hide (HB.out.trans hB)
      clear hS hB hN
      rename x6.heap.size = N => hN
      go_wp2_with fail
      refine (next_two _ _ _ N s lo len cap zs (n0 + 7) 20 HS.out hN (by omega) (by omega) (by omega)).mono ?_
      rintro e w2 ⟨k7, x7, rfl, ⟨p7, q7⟩, rfl, hS, hN7, hB⟩
      replace HS := hide hS
      replace HB := hide (HB.out.trans hB)
      clear hS hB hN
      rename x7.heap.size = N => hN
      go_wp2_with fail
      exact bodyPost_ret (v := .agg #[.int .i64 (3), .int .i64 (1 + k1), .int .i64 (1 + k2), .int .i64 (k3), .int .i64 (k7), .int .i64 (k4), .bool true, .bool false, .int .i64 (1 + k6), .int .i64 (0)]) (by simp [results, Tryd.results28, go_sem, hN]) rfl ⟨⟨3, 1 + k1, 1 + k2, k3, k7, k4, true, false, 1 + k6, 0⟩, rfl, good_of ⟨rfl, by simp [holdsB, txnLo, txnHi]; try omega, by simp [holdsB, pageLo, pageHi]; try omega, by simp [holdsB, prevLo, prevHi]; try omega, by simp [holdsB, nextHi]; try omega, by simp [holdsB, keyHi]; try omega, by simp [oldB]; try omega⟩ rfl, ⟨⟨by simp; try omega, by simp; try omega⟩, ⟨by simp; try omega, by simp; try omega⟩⟩, HE.out _ _ _ _ HB.out HS.out (by omega)⟩
    · have hh1 : decide (0 < k5) = true := by simp; omega
      go_wp2_with fail
      refine (next_two _ _ _ N s lo len cap zs (n0 + 6) 1000 HS.out hN (by omega) (by omega) (by omega)).mono ?_
      rintro e w2 ⟨k6, x6, rfl, ⟨p6, q6⟩, rfl, hS, hN6, hB⟩
      replace HS := hide hS
      replace HB := hide (HB.out.trans hB)
      clear hS hB hN
      rename x6.heap.size = N => hN
      go_wp2_with fail
      refine (next_two _ _ _ N s lo len cap zs (n0 + 7) 20 HS.out hN (by omega) (by omega) (by omega)).mono ?_
      rintro e w2 ⟨k7, x7, rfl, ⟨p7, q7⟩, rfl, hS, hN7, hB⟩
      replace HS := hide hS
      replace HB := hide (HB.out.trans hB)
      clear hS hB hN
      rename x7.heap.size = N => hN
      go_wp2_with fail
      refine (next_two _ _ _ N s lo len cap zs (n0 + 8) 20 HS.out hN (by omega) (by omega) (by omega)).mono ?_
      rintro e w2 ⟨k8, x8, rfl, ⟨p8, q8⟩, rfl, hS, hN8, hB⟩
      replace HS := hide hS
      replace HB := hide (HB.out.trans hB)
      clear hS hB hN
      rename x8.heap.size = N => hN
      go_wp2_with fail
      exact bodyPost_ret (v := .agg #[.int .i64 (3), .int .i64 (1 + k1), .int .i64 (1 + k2), .int .i64 (k3), .int .i64 (k8), .int .i64 (k4), .bool true, .bool true, .int .i64 (1 + k7), .int .i64 (k6 - 500)]) (by simp [results, Tryd.results28, go_sem, hN]) rfl ⟨⟨3, 1 + k1, 1 + k2, k3, k8, k4, true, true, 1 + k7, k6 - 500⟩, rfl, good_of ⟨rfl, by simp [holdsB, txnLo, txnHi]; try omega, by simp [holdsB, pageLo, pageHi]; try omega, by simp [holdsB, prevLo, prevHi]; try omega, by simp [holdsB, nextHi]; try omega, by simp [holdsB, keyHi]; try omega, by simp [oldB]; try omega⟩ rfl, ⟨⟨by simp; try omega, by simp; try omega⟩, ⟨by simp; try omega, by simp; try omega⟩⟩, HE.out _ _ _ _ HB.out HS.out (by omega)⟩
  · go_wp2_with fail
    refine (next_two _ _ _ N s lo len cap zs (n0 + 1) 5 HS.out hN (by omega) (by omega) (by omega)).mono ?_
    rintro e w2 ⟨k1, x1, rfl, ⟨p1, q1⟩, rfl, hS, hN1, hB⟩
    replace HS := hide hS
    replace HB := hide (HB.out.trans hB)
    clear hS hB hN
    rename x1.heap.size = N => hN
    go_wp2_with fail
    refine (next_two _ _ _ N s lo len cap zs (n0 + 2) 20 HS.out hN (by omega) (by omega) (by omega)).mono ?_
    rintro e w2 ⟨k2, x2, rfl, ⟨p2, q2⟩, rfl, hS, hN2, hB⟩
    replace HS := hide hS
    replace HB := hide (HB.out.trans hB)
    clear hS hB hN
    rename x2.heap.size = N => hN
    go_wp2_with fail
    exact bodyPost_ret (v := .agg #[.int .i64 (4), .int .i64 (1 + k1), .int .i64 (0), .int .i64 (k2), .int .i64 (0), .int .i64 (0), .bool false, .bool false, .int .i64 (0), .int .i64 (0)]) (by simp [results, Tryd.results28, go_sem, hN]) rfl ⟨⟨4, 1 + k1, 0, k2, 0, 0, false, false, 0, 0⟩, rfl, good_of ⟨rfl, by simp [holdsB, txnLo, txnHi]; try omega, by simp [holdsB, pageLo, pageHi]; try omega, by simp [holdsB, prevLo, prevHi]; try omega, by simp [holdsB, nextHi]; try omega, by simp [holdsB, keyHi]; try omega, by simp [oldB]; try omega⟩ rfl, ⟨⟨by simp; try omega, by simp; try omega⟩, ⟨by simp; try omega, by simp; try omega⟩⟩, HE.out _ _ _ _ HB.out HS.out (by omega)⟩
  · go_wp2_with fail
    refine (next_two _ _ _ N s lo len cap zs (n0 + 1) 5 HS.out hN (by omega) (by omega) (by omega)).mono ?_
    rintro e w2 ⟨k1, x1, rfl, ⟨p1, q1⟩, rfl, hS, hN1, hB⟩
    replace HS := hide hS
    replace HB := hide (HB.out.trans hB)
    clear hS hB hN
    rename x1.heap.size = N => hN
    go_wp2_with fail
    refine (next_two _ _ _ N s lo len cap zs (n0 + 2) 20 HS.out hN (by omega) (by omega) (by omega)).mono ?_
    rintro e w2 ⟨k2, x2, rfl, ⟨p2, q2⟩, rfl, hS, hN2, hB⟩
    replace HS := hide hS
    replace HB := hide (HB.out.trans hB)
    clear hS hB hN
    rename x2.heap.size = N => hN
    go_wp2_with fail
    exact bodyPost_ret (v := .agg #[.int .i64 (5), .int .i64 (1 + k1), .int .i64 (0), .int .i64 (k2), .int .i64 (0), .int .i64 (0), .bool false, .bool false, .int .i64 (0), .int .i64 (0)]) (by simp [results, Tryd.results28, go_sem, hN]) rfl ⟨⟨5, 1 + k1, 0, k2, 0, 0, false, false, 0, 0⟩, rfl, good_of ⟨rfl, by simp [holdsB, txnLo, txnHi]; try omega, by simp [holdsB, pageLo, pageHi]; try omega, by simp [holdsB, prevLo, prevHi]; try omega, by simp [holdsB, nextHi]; try omega, by simp [holdsB, keyHi]; try omega, by simp [oldB]; try omega⟩ rfl, ⟨⟨by simp; try omega, by simp; try omega⟩, ⟨by simp; try omega, by simp; try omega⟩⟩, HE.out _ _ _ _ HB.out HS.out (by omega)⟩
  · go_wp2_with fail
    refine (next_two _ _ _ N s lo len cap zs (n0 + 1) 5 HS.out hN (by omega) (by omega) (by omega)).mono ?_
    rintro e w2 ⟨k1, x1, rfl, ⟨p1, q1⟩, rfl, hS, hN1, hB⟩
    replace HS := hide hS
    replace HB := hide (HB.out.trans hB)
    clear hS hB hN
    rename x1.heap.size = N => hN
    go_wp2_with fail
    refine (next_two _ _ _ N s lo len cap zs (n0 + 2) 20 HS.out hN (by omega) (by omega) (by omega)).mono ?_
    rintro e w2 ⟨k2, x2, rfl, ⟨p2, q2⟩, rfl, hS, hN2, hB⟩
    replace HS := hide hS
    replace HB := hide (HB.out.trans hB)
    clear hS hB hN
    rename x2.heap.size = N => hN
    go_wp2_with fail
    exact bodyPost_ret (v := .agg #[.int .i64 (6), .int .i64 (1 + k1), .int .i64 (0), .int .i64 (k2), .int .i64 (0), .int .i64 (0), .bool false, .bool false, .int .i64 (0), .int .i64 (0)]) (by simp [results, Tryd.results28, go_sem, hN]) rfl ⟨⟨6, 1 + k1, 0, k2, 0, 0, false, false, 0, 0⟩, rfl, good_of ⟨rfl, by simp [holdsB, txnLo, txnHi]; try omega, by simp [holdsB, pageLo, pageHi]; try omega, by simp [holdsB, prevLo, prevHi]; try omega, by simp [holdsB, nextHi]; try omega, by simp [holdsB, keyHi]; try omega, by simp [oldB]; try omega⟩ rfl, ⟨⟨by simp; try omega, by simp; try omega⟩, ⟨by simp; try omega, by simp; try omega⟩⟩, HE.out _ _ _ _ HB.out HS.out (by omega)⟩
  · go_wp2_with fail
    exact bodyPost_ret (v := .agg #[.int .i64 (7), .int .i64 (0), .int .i64 (0), .int .i64 (0), .int .i64 (0), .int .i64 (0), .bool false, .bool false, .int .i64 (0), .int .i64 (0)]) (by simp [results, Tryd.results28, go_sem, hN]) rfl ⟨⟨7, 0, 0, 0, 0, 0, false, false, 0, 0⟩, rfl, good_of ⟨rfl, by simp [holdsB, txnLo, txnHi]; try omega, by simp [holdsB, pageLo, pageHi]; try omega, by simp [holdsB, prevLo, prevHi]; try omega, by simp [holdsB, nextHi]; try omega, by simp [holdsB, keyHi]; try omega, by simp [oldB]; try omega⟩ rfl, ⟨⟨by simp; try omega, by simp; try omega⟩, ⟨by simp; try omega, by simp; try omega⟩⟩, HE.out _ _ _ _ HB.out HS.out (by omega)⟩
  · go_wp2_with fail
    refine (next_two _ _ _ N s lo len cap zs (n0 + 1) 5 HS.out hN (by omega) (by omega) (by omega)).mono ?_
    rintro e w2 ⟨k1, x1, rfl, ⟨p1, q1⟩, rfl, hS, hN1, hB⟩
    replace HS := hide hS
    replace HB := hide (HB.out.trans hB)
    clear hS hB hN
    rename x1.heap.size = N => hN
    go_wp2_with fail
    refine (next_two _ _ _ N s lo len cap zs (n0 + 2) 20 HS.out hN (by omega) (by omega) (by omega)).mono ?_
    rintro e w2 ⟨k2, x2, rfl, ⟨p2, q2⟩, rfl, hS, hN2, hB⟩
    replace HS := hide hS
    replace HB := hide (HB.out.trans hB)
    clear hS hB hN
    rename x2.heap.size = N => hN
    go_wp2_with fail
    refine (next_two _ _ _ N s lo len cap zs (n0 + 3) 3 HS.out hN (by omega) (by omega) (by omega)).mono ?_
    rintro e w2 ⟨k3, x3, rfl, ⟨p3, q3⟩, rfl, hS, hN3, hB⟩
    replace HS := hide hS
    replace HB := hide (HB.out.trans hB)
    clear hS hB hN
    rename x3.heap.size = N => hN
    go_wp2_with fail
    refine (next_two _ _ _ N s lo len cap zs (n0 + 4) 20 HS.out hN (by omega) (by omega) (by omega)).mono ?_
    rintro e w2 ⟨k4, x4, rfl, ⟨p4, q4⟩, rfl, hS, hN4, hB⟩
    replace HS := hide hS
    replace HB := hide (HB.out.trans hB)
    clear hS hB hN
    rename x4.heap.size = N => hN
    go_wp2_with fail
    exact bodyPost_ret (v := .agg #[.int .i64 (8), .int .i64 (1 + k1), .int .i64 (0), .int .i64 (k2), .int .i64 (k4), .int .i64 (k3), .bool false, .bool false, .int .i64 (0), .int .i64 (0)]) (by simp [results, Tryd.results28, go_sem, hN]) rfl ⟨⟨8, 1 + k1, 0, k2, k4, k3, false, false, 0, 0⟩, rfl, good_of ⟨rfl, by simp [holdsB, txnLo, txnHi]; try omega, by simp [holdsB, pageLo, pageHi]; try omega, by simp [holdsB, prevLo, prevHi]; try omega, by simp [holdsB, nextHi]; try omega, by simp [holdsB, keyHi]; try omega, by simp [oldB]; try omega⟩ rfl, ⟨⟨by simp; try omega, by simp; try omega⟩, ⟨by simp; try omega, by simp; try omega⟩⟩, HE.out _ _ _ _ HB.out HS.out (by omega)⟩
  · go_wp2_with fail
    refine (next_two _ _ _ N s lo len cap zs (n0 + 1) 4 HS.out hN (by omega) (by omega) (by omega)).mono ?_
    rintro e w2 ⟨k1, x1, rfl, ⟨p1, q1⟩, rfl, hS, hN1, hB⟩
    replace HS := hide hS
    replace HB := hide (HB.out.trans hB)
    clear hS hB hN
    rename x1.heap.size = N => hN
    go_wp2_with fail
    refine (next_two _ _ _ N s lo len cap zs (n0 + 2) 20 HS.out hN (by omega) (by omega) (by omega)).mono ?_
    rintro e w2 ⟨k2, x2, rfl, ⟨p2, q2⟩, rfl, hS, hN2, hB⟩
    replace HS := hide hS
    replace HB := hide (HB.out.trans hB)
    clear hS hB hN
    rename x2.heap.size = N => hN
    go_wp2_with fail
    exact bodyPost_ret (v := .agg #[.int .i64 (9), .int .i64 (0), .int .i64 (1 + k1), .int .i64 (1 + k2), .int .i64 (0), .int .i64 (0), .bool false, .bool false, .int .i64 (0), .int .i64 (0)]) (by simp [results, Tryd.results28, go_sem, hN]) rfl ⟨⟨9, 0, 1 + k1, 1 + k2, 0, 0, false, false, 0, 0⟩, rfl, good_of ⟨rfl, by simp [holdsB, txnLo, txnHi]; try omega, by simp [holdsB, pageLo, pageHi]; try omega, by simp [holdsB, prevLo, prevHi]; try omega, by simp [holdsB, nextHi]; try omega, by simp [holdsB, keyHi]; try omega, by simp [oldB]; try omega⟩ rfl, ⟨⟨by simp; try omega, by simp; try omega⟩, ⟨by simp; try omega, by simp; try omega⟩⟩, HE.out _ _ _ _ HB.out HS.out (by omega)⟩
  · go_wp2_with fail
    refine (next_two _ _ _ N s lo len cap zs (n0 + 1) 9 HS.out hN (by omega) (by omega) (by omega)).mono ?_
    rintro e w2 ⟨k1, x1, rfl, ⟨p1, q1⟩, rfl, hS, hN1, hB⟩
    replace HS := hide hS
    replace HB := hide (HB.out.trans hB)
    clear hS hB hN
    rename x1.heap.size = N => hN
    go_wp2_with fail
    exact bodyPost_ret (v := .agg #[.int .i64 (10), .int .i64 (0), .int .i64 (0), .int .i64 (0), .int .i64 (k1), .int .i64 (0), .bool false, .bool false, .int .i64 (0), .int .i64 (0)]) (by simp [results, Tryd.results28, go_sem, hN]) rfl ⟨⟨10, 0, 0, 0, k1, 0, false, false, 0, 0⟩, rfl, good_of ⟨rfl, by simp [holdsB, txnLo, txnHi]; try omega, by simp [holdsB, pageLo, pageHi]; try omega, by simp [holdsB, prevLo, prevHi]; try omega, by simp [holdsB, nextHi]; try omega, by simp [holdsB, keyHi]; try omega, by simp [oldB]; try omega⟩ rfl, ⟨⟨by simp; try omega, by simp; try omega⟩, ⟨by simp; try omega, by simp; try omega⟩⟩, HE.out _ _ _ _ HB.out HS.out (by omega)⟩
theorem make_any (s : Nat) (lo : Option Addr) (len cap : Nat) (zs : List Int) (w : World) (h : SeqAt w s lo len cap zs 0) :
    Calls Tryd.prog 28 #[.pointer (some ⟨s, 0, none⟩)] w fun e w' => ∃ r : R, e = .returned r.val ∧ goodB r = true ∧ r.fits ∧ Below s w w' := by
  refine (make_from 0 (by omega) s lo len cap zs w h).mono ?_
  rintro e w' ⟨r, rfl, hg, hf, _, hb⟩
  exact ⟨r, rfl, hg, hf, hb.below (Nat.le_of_lt (lt_of_block h.lies))⟩
end Go.Proofs.YtgjhnkadfdcafaaDoor

/- Records side by side in memory: what a list of records is, how one is built and appended; what the lists hold stays. -/
namespace Go.Proofs.YtgjhnkadfdcafaaDoor
open Go.RowKit
set_option linter.unusedVariables false

theorem Tryd.info31 : (Tryd.prog.info? 31).map (fun i => (i.zero, i.size, i.bytes)) = some (some (.agg #[.int .i64 0, .int .i64 0, .int .i64 0, .int .i64 0, .int .i64 0, .int .i64 0, .bool false, .bool false, .int .i64 0, .int .i64 0]), 10, 72) := by kernel_rfl
theorem Tryd.size31 : (Tryd.prog.info? 31).map (·.size) = some 10 := by kernel_rfl
theorem Tryd.hasz31 : ((Tryd.prog.info? 31).bind (·.zero)).isSome = true := by kernel_rfl
/-- The cells of records that lie side by side. -/
def cellsOfRs (rs : List R) : List Value := (rs.map R.val).flatMap fun v => v.cells.toList
theorem length_cellsOfRs (rs : List R) : (cellsOfRs rs).length = rs.length * 10 := by
  induction rs with
  | nil => rfl
  | cons r rs ih =>
    have hc : cellsOfRs (r :: rs) = r.val.cells.toList ++ cellsOfRs rs := rfl
    have hl : r.val.cells.toList.length = 10 := rfl
    rw [hc, List.length_append, hl, ih, List.length_cons]
    omega
theorem cellsOfRs_snoc (rs : List R) (r : R) : cellsOfRs (rs ++ [r]) = cellsOfRs rs ++ cellsOfRs [r] := by simp [cellsOfRs]
theorem oneCell_rs (r : R) : ∀ u ∈ cellsOfRs [r], u.oneCell' = true := by
  intro u hu
  have e : cellsOfRs [r] = [.int .i64 r.kind, .int .i64 r.txn, .int .i64 r.page, .int .i64 r.prev, .int .i64 r.next, .int .i64 r.key, .bool r.had, .bool r.has, .int .i64 r.old, .int .i64 r.new] := rfl
  rw [e] at hu
  simp only [List.mem_cons, List.not_mem_nil, or_false] at hu
  rcases hu with rfl | rfl | rfl | rfl | rfl | rfl | rfl | rfl | rfl | rfl <;> rfl
theorem rs_get : ∀ (rs : List R) (i j : Nat) (r : R), rs[i]? = some r → j < 10 → (cellsOfRs rs)[i * 10 + j]? = r.val.cells.toList[j]? := by
  intro rs
  induction rs with
  | nil => intro i j r h; simp at h
  | cons x rs ih =>
    intro i j r h hj
    have hl : x.val.cells.toList.length = 10 := rfl
    have hc : cellsOfRs (x :: rs) = x.val.cells.toList ++ cellsOfRs rs := rfl
    rw [hc]
    cases i with
    | zero =>
      simp at h
      subst h
      rw [List.getElem?_append_left (by rw [hl]; omega)]
      simp
    | succ i =>
      rw [List.getElem?_append_right (by rw [hl]; omega), hl]
      have := ih i j r (by simpa using h) hj
      rw [show (i + 1) * 10 + j - 10 = i * 10 + j by omega]
      exact this
/-- A record's ten cells from o on. -/
structure CellsFrom (w : World) (B o : Nat) (r : R) : Prop where
  c0 : w.cell? ⟨B, o, none⟩ = some (.int .i64 r.kind)
  c1 : w.cell? ⟨B, o + 1, none⟩ = some (.int .i64 r.txn)
  c2 : w.cell? ⟨B, o + 2, none⟩ = some (.int .i64 r.page)
  c3 : w.cell? ⟨B, o + 3, none⟩ = some (.int .i64 r.prev)
  c4 : w.cell? ⟨B, o + 4, none⟩ = some (.int .i64 r.next)
  c5 : w.cell? ⟨B, o + 5, none⟩ = some (.int .i64 r.key)
  c6 : w.cell? ⟨B, o + 6, none⟩ = some (.bool r.had)
  c7 : w.cell? ⟨B, o + 7, none⟩ = some (.bool r.has)
  c8 : w.cell? ⟨B, o + 8, none⟩ = some (.int .i64 r.old)
  c9 : w.cell? ⟨B, o + 9, none⟩ = some (.int .i64 r.new)
  lt : B < w.heap.size
theorem CellsFrom.of_cells {w : World} {B o : Nat} {r : R} (hc : ∀ j, j < 10 → w.cell? ⟨B, o + j, none⟩ = r.val.cells.toList[j]?) (hlt : B < w.heap.size) : CellsFrom w B o r :=
  ⟨hc 0 (by omega), hc 1 (by omega), hc 2 (by omega), hc 3 (by omega), hc 4 (by omega), hc 5 (by omega), hc 6 (by omega), hc 7 (by omega), hc 8 (by omega), hc 9 (by omega), hlt⟩
theorem CellsFrom.of_block {w w' : World} {B o : Nat} {r : R} (h : CellsFrom w B o r) (hb : w'.heap[B]? = w.heap[B]?) (hs : w.heap.size ≤ w'.heap.size) : CellsFrom w' B o r := by
  have hl := h.lt
  have h0 : ∀ o, w'.cell? ⟨B, o, none⟩ = w.cell? ⟨B, o, none⟩ := fun o => by simp only [World.cell?, hb]
  exact ⟨(h0 _).trans h.c0, (h0 _).trans h.c1, (h0 _).trans h.c2, (h0 _).trans h.c3, (h0 _).trans h.c4, (h0 _).trans h.c5, (h0 _).trans h.c6, (h0 _).trans h.c7, (h0 _).trans h.c8, (h0 _).trans h.c9, Nat.lt_of_lt_of_le hl hs⟩
/-- The slice that begins at 'ao' reads in w as the records rs. -/
def RecRow (w : World) (ao : Option Addr) (rs : List R) : Prop :=
  rs.length ≤ 1000 ∧ (0 < rs.length → ∃ b off, ao = some ⟨b, off, none⟩ ∧ ∀ i r, rs[i]? = some r → CellsFrom w b (off + i * 10) r)
theorem RecRow.below {w w' : World} {B : Nat} {ao : Option Addr} {rs : List R} (h : RecRow w ao rs) (hb : Below B w w') (hB : w.heap.size ≤ B) : RecRow w' ao rs := by
  refine ⟨h.1, fun hp => ?_⟩
  obtain ⟨b, off, e, hc⟩ := h.2 hp
  exact ⟨b, off, e, fun i r hi => (hc i r hi).of_block (hb.block b (Nat.lt_of_lt_of_le (hc i r hi).lt hB)) hb.size⟩
theorem RecRow.step {w w' : World} {ao : Option Addr} {rs : List R} (h : RecRow w ao rs) (hb : Below w.heap.size w w') : RecRow w' ao rs := h.below hb (Nat.le_refl _)
theorem recRow_nil (w : World) : RecRow w none [] := ⟨by simp, fun h => by simp at h⟩
theorem RecRow.one {w : World} {B : Nat} {r : R} (h : Cells10 w B r) : RecRow w (some ⟨B, 0, none⟩) [r] := by
  refine ⟨by simp, fun _ => ⟨B, 0, rfl, fun i r' hi => ?_⟩⟩
  cases i with
  | zero =>
    simp at hi
    subst hi
    exact ⟨h.c0, h.c1, h.c2, h.c3, h.c4, h.c5, h.c6, h.c7, h.c8, h.c9, h.lt⟩
  | succ i => simp at hi
/-- The slice that begins at 'ao' owns the records rs: it lies in a block from 'B' on. -/
def OwnR (w : World) (B : Nat) (ao : Option Addr) (cap : Nat) (rs : List R) : Prop :=
  w.ownsRow B 31 10 (.slice ao rs.length cap) rs.length (cellsOfRs rs) ∧ rs.length ≤ 1000
theorem ownR_nil (w : World) (B : Nat) : OwnR w B none 0 [] := ⟨World.ownsRow_nil _ _ _ _, by simp⟩
theorem OwnR.row {w : World} {B : Nat} {ao : Option Addr} {cap : Nat} {rs : List R} (h : OwnR w B ao cap rs) : RecRow w ao rs := by
  obtain ⟨h1, h2⟩ := h
  refine ⟨h2, fun hp => ?_⟩
  have h1' := h1
  rcases h1.2 with ⟨e, h0⟩ | ⟨g, c, cur, hv, hg, hh, h4, h5, h6, h7⟩
  · omega
  · simp only [Value.slice.injEq] at hv
    obtain ⟨rfl, _, rfl⟩ := hv
    refine ⟨g, 0, rfl, fun i r hi => ?_⟩
    have hlt := (List.getElem?_eq_some_iff.1 hi).1
    refine CellsFrom.of_cells (fun j hj => ?_) (lt_of_block hh)
    rw [Nat.zero_add, h1'.cellAt (i * 10 + j) (by omega)]
    exact rs_get rs i j r hi hj
theorem OwnR.of_blocks {w w' : World} {B : Nat} {ao : Option Addr} {cap : Nat} {rs : List R} (h : OwnR w B ao cap rs) (hb : ∀ g, B ≤ g → g < w.heap.size → w'.heap[g]? = w.heap[g]?) : OwnR w' B ao cap rs := by
  obtain ⟨⟨h0, h1⟩, h2⟩ := h
  refine ⟨⟨h0, ?_⟩, h2⟩
  rcases h1 with h1 | ⟨g, c, cur, hv, hg, hh, r⟩
  · exact .inl h1
  · exact .inr ⟨g, c, cur, hv, hg, by rw [hb g hg (lt_of_block hh)]; exact hh, r⟩
theorem OwnR.below {w w' : World} {B C : Nat} {ao : Option Addr} {cap : Nat} {rs : List R} (h : OwnR w B ao cap rs) (hb : Below C w w') (hC : w.heap.size ≤ C) : OwnR w' B ao cap rs := h.of_blocks fun g _ hg => hb.block g (Nat.lt_of_lt_of_le hg hC)
theorem OwnR.but {w w' : World} {s B : Nat} {ao : Option Addr} {cap : Nat} {rs : List R} (h : OwnR w B ao cap rs) (hb : But s w w') (hs : s < B) : OwnR w' B ao cap rs := h.of_blocks fun g h1 hg => hb.block g hg (by omega)
theorem OwnR.mono {w : World} {B C : Nat} {ao : Option Addr} {cap : Nat} {rs : List R} (h : OwnR w B ao cap rs) (hC : C ≤ B) : OwnR w C ao cap rs := by
  obtain ⟨⟨h0, h1⟩, h2⟩ := h
  refine ⟨⟨h0, ?_⟩, h2⟩
  rcases h1 with h1 | ⟨g, c, cur, hv, hg, r⟩
  · exact .inl h1
  · exact .inr ⟨g, c, cur, hv, by omega, r⟩
theorem own_shapeR {w : World} {B e sz n : Nat} {v : Value} {cs : List Value} (h : w.ownsRow B e sz v n cs) : ∃ ao cap, v = .slice ao n cap := by
  rcases h.2 with ⟨h1, h2⟩ | ⟨g, cap, cur, h1, _⟩
  · exact ⟨none, 0, by rw [h1, h2]⟩
  · exact ⟨_, cap, h1⟩
theorem But.over {s : Nat} {a b c : World} (h : But s a b) (k : Below a.heap.size b c) : But s a c := ⟨k.os.trans h.os, k.tape.trans h.tape, k.output.trans h.output, Nat.le_trans h.size k.size, fun i hi hs => (k.block i hi).trans (h.block i hi hs)⟩
/-- A list of one record is built. -/
theorem build1 {ops : Array Oper} {rest : List Oper} {a : Act} {w : World} {Q : Exit → Act → World → Prop} {d n : Tmp} {ty : TypeId} {pos : String} {af : Array Edge} (r : R)
    (hev : a.eval (.tmp n) = r.val)
    (h : wpList Tryd.prog ops Q rest (a.put (some d) (.slice (some ⟨w.heap.size, 0, none⟩) 1 1)) (w.alloc (recCells r))) :
    wpList Tryd.prog ops Q ({ dst := some d, op := .buildSlice 28 1 #[(0, .tmp n)], type := ty, pos := pos, after := af, guard := none } :: rest) a w := by
  refine Go.Great.wpList_buildRows rfl 28 31 #[(0, .tmp n)] 10 [r.val] rfl (fun _ => n) w.heap.size rfl (some d) rfl Tryd.underlying28 Tryd.size31 Tryd.hasz31 (by omega) (by simp) (by simp) rfl (fun v hv => ?_) (fun i hi => ?_) h
  · simp at hv; subst hv; rfl
  · simp at hi; subst hi; exact hev
theorem cells_one {w : World} {g : Nat} {r : R} (h : w.heap[g]? = some (.cells (cellsOfRs [r]).toArray 31 (0, 0))) : ∀ j u, (cellsOfRs [r])[j]? = some u → w.cell? ((⟨g, 0, none⟩ : Addr).add j) = some u := by
  intro j u hj
  rw [Addr.add_lit, cell_row h, List.getElem?_toArray, Nat.zero_add]
  exact hj
/-- One record is appended to a list of our own. -/
theorem append1 {ops : Array Oper} {rest : List Oper} {a : Act} {w : World} {Q : Exit → Act → World → Prop} {d : Option Tmp} {x y : Operand} {ty : TypeId} {pos : String} {af : Array Edge} (B : Nat) (ao : Option Addr) (n c : Nat) (rs : List R) (r : R)
    (hx : a.eval x = .slice ao n c) (hn : rs.length = n) (hown : OwnR w B ao c rs) (hs : n < 900) (hy : a.eval y = .slice (some ⟨w.heap.size, 0, none⟩) 1 1) (hB : B ≤ w.heap.size)
    (h : ∀ ao' c' w', OwnR w' B ao' c' (rs ++ [r]) → Below B w w' → wpList Tryd.prog ops Q rest (a.put d (.slice ao' (n + 1) c')) w') :
    wpList Tryd.prog ops Q ({ dst := d, op := .call { callee := .builtin .append, args := #[x, y], argTypes := #[28, 28] }, type := ty, pos := pos, after := af, guard := none } :: rest) a (w.alloc (recCells r)) := by
  subst hn
  obtain ⟨i0, hi, hz0, hz1, hz2⟩ := info_parts Tryd.info31
  have hlies : (w.alloc (recCells r)).heap[w.heap.size]? = some (.cells (cellsOfRs [r]).toArray 31 (0, 0)) := heap_alloc_new _ _
  have hown1 : (w.alloc (recCells r)).ownsRow B 31 10 (.slice ao rs.length c) rs.length (cellsOfRs rs) := hown.1.alloc _
  refine wpList_append_own _ rfl x y 28 rfl B 31 i0 _ 10 72 Tryd.underlying28 hi hz0 hz1 hz2 rfl (by decide) _ rs.length (cellsOfRs rs) hx hown1 ⟨w.heap.size, 0, none⟩ 1 1 (cellsOfRs [r]) hy rfl (cells_one hlies) (oneCell_rs r) (by unfold maxLen; omega) (by omega) (by simp; omega) ?_
  intro v' w' hown2 hgr _
  obtain ⟨ao', c', rfl⟩ := own_shapeR hown2
  refine h ao' c' w' ⟨?_, by simp; omega⟩ (((Below.refl B w).alloc hB _).grown hgr (by simp; omega) (fun j e => (hown1.lt j e).1))
  rw [cellsOfRs_snoc, List.length_append]
  exact hown2
end Go.Proofs.YtgjhnkadfdcafaaDoor

/- Plain lemmas on blocks: which may be, their bytes, what bytes say; no Go text here. -/
namespace Go.Proofs.YtgjhnkadfdcafaaDoor
open Go.RowKit
set_option linter.unusedVariables false

/-- What stands ahead of a block's records. -/
def headB (epoch n : Int) : List Int := putB (putB (fillB [80, 72, 88, 66] 16) 4 epoch 4) 8 n 2
/-- Records' bytes, one behind the other. -/
def recsB (rs : List R) : List Int := (rs.map recB).flatten
/-- A block's bytes. -/
def blockB (epoch : Int) (rs : List R) : List Int := fillB (headB epoch rs.length ++ recsB rs) 256
/-- A block that may be. -/
def okB (epoch : Int) (rs : List R) : Bool := decide (1 ≤ epoch ∧ epoch ≤ 1073741824 ∧ 1 ≤ rs.length ∧ rs.length ≤ 6) && rs.all goodB
theorem byteAt_grownB (xs : List Int) (n : Nat) (p : Int) : byteAt (grownB xs n) p = byteAt xs p := by
  unfold byteAt grownB
  split <;> split
  · rename_i h1 h2
    rw [List.getD_eq_getElem?_getD, List.getD_eq_getElem?_getD, List.getElem?_append_left (by omega)]
  · rename_i h1 h2
    rw [List.getD_eq_getElem?_getD, List.getElem?_append_right (by omega), List.getElem?_replicate]
    split <;> rfl
  · rename_i h1 h2
    exfalso
    apply h1
    simp
    omega
  · rfl
theorem byteAt_fillB (xs : List Int) (S p : Int) : byteAt (fillB xs S) p = byteAt xs p := byteAt_grownB _ _ _
theorem byteAt_left (xs ys : List Int) (p : Int) (h : p < xs.length) : byteAt (xs ++ ys) p = byteAt xs p := by
  unfold byteAt
  by_cases h0 : 0 ≤ p
  · rw [if_pos ⟨h0, by simp; omega⟩, if_pos ⟨h0, h⟩, List.getD_eq_getElem?_getD, List.getD_eq_getElem?_getD, List.getElem?_append_left (by omega)]
  · rw [if_neg (fun h => h0 h.1), if_neg (fun h => h0 h.1)]
theorem byteAt_out (xs : List Int) (p : Int) (h : (xs.length : Int) ≤ p) : byteAt xs p = 0 := by
  unfold byteAt
  rw [if_neg (by omega)]
theorem getB_congr (xs ys : List Int) (a : Int) (k : Nat) (h : ∀ p, a ≤ p → p < a + k → byteAt xs p = byteAt ys p) : getB xs a k = getB ys a k :=
  num_congr k fun j h0 h1 => h _ (by omega) (by omega)
theorem length_headB (e n : Int) : (headB e n).length = 16 := by rw [headB, length_putB, length_putB, length_fillB]; rfl
theorem length_recsB (rs : List R) : (recsB rs).length = 40 * rs.length := by
  induction rs with
  | nil => rfl
  | cons r rs ih => simp only [recsB, List.map_cons, List.flatten_cons, List.length_append, List.length_cons, length_recB] at ih ⊢; omega
theorem recsB_snoc (rs : List R) (k : Nat) (r : R) (h : rs[k]? = some r) : recsB (rs.take (k + 1)) = recsB (rs.take k) ++ recB r := by
  have hk := (List.getElem?_eq_some_iff.1 h).1
  rw [List.take_add_one, h]
  simp [recsB]
theorem bytes_head0 : Bytes [80, 72, 88, 66] := by
  intro x hx
  simp at hx
  omega
theorem bytes_headB (e n : Int) : Bytes (headB e n) := ((bytes_head0.grownB _).putB _ _ _).putB _ _ _
theorem bytes_recsB (rs : List R) : Bytes (recsB rs) := by
  intro x hx
  obtain ⟨l, hl, hx⟩ := List.mem_flatten.1 hx
  obtain ⟨r, _, rfl⟩ := List.mem_map.1 hl
  exact bytes_recB r x hx
theorem bytes_blockB (e : Int) (rs : List R) : Bytes (blockB e rs) := ((bytes_headB _ _).append (bytes_recsB _)).grownB _
theorem length_blockB (e : Int) (rs : List R) (h : rs.length ≤ 6) : (blockB e rs).length = 256 := by
  rw [blockB, length_fillB, List.length_append, length_headB, length_recsB]
  show max 256 _ = 256
  omega
theorem blockB_head (e : Int) (rs : List R) (p : Int) (h : p < 16) : byteAt (blockB e rs) p = byteAt (headB e rs.length) p := by
  rw [blockB, byteAt_fillB, byteAt_left _ _ _ (by rw [length_headB]; omega)]
theorem blockB_out (e : Int) (rs : List R) (p : Int) (h : 16 + 40 * (rs.length : Int) ≤ p) : byteAt (blockB e rs) p = 0 := by
  rw [blockB, byteAt_fillB, byteAt_out]
  rw [List.length_append, length_headB, length_recsB]
  omega
theorem blockB_gap (e : Int) (rs : List R) (p : Int) (h : 10 ≤ p) (h' : p < 16) : byteAt (blockB e rs) p = 0 := by
  rw [blockB_head e rs p h', headB, byteAt_putB, if_neg (by omega), byteAt_putB, if_neg (by omega), byteAt_fillB, byteAt_out]
  simp only [List.length_cons, List.length_nil]
  omega
theorem blockB_mark (e : Int) (rs : List R) (p : Int) (h' : p < 4) : byteAt (blockB e rs) p = byteAt [80, 72, 88, 66] p := by
  rw [blockB_head e rs p (by omega), headB, byteAt_putB, if_neg (by omega), byteAt_putB, if_neg (by omega), byteAt_fillB]
theorem blockB_epochAt (e : Int) (rs : List R) (p : Int) (h : 4 ≤ p) (h' : p < 8) : byteAt (blockB e rs) p = byteOf e (p - 4).toNat := by
  rw [blockB_head e rs p (by omega), headB, byteAt_putB, if_neg (by omega), byteAt_putB, if_pos (by rw [length_fillB]; simp; omega)]
theorem blockB_countAt (e : Int) (rs : List R) (p : Int) (h : 8 ≤ p) (h' : p < 10) : byteAt (blockB e rs) p = byteOf rs.length (p - 8).toNat := by
  rw [blockB_head e rs p (by omega), headB, byteAt_putB, if_pos (by rw [length_putB, length_fillB]; simp; omega)]
/-- What bytes say as a block. -/
def epochOf (xs : List Int) : Int := getB xs 4 4
def countOf (xs : List Int) : Int := getB xs 8 2
def manyOf (xs : List Int) : Nat := min (countOf xs).toNat 6
def partAt (xs : List Int) (i : Nat) : List Int := (xs.drop (16 + 40 * i)).take 40
def recsUp (xs : List Int) (k : Nat) : List R := (List.range k).map fun i => partsR (partAt xs i)
def recsOf (xs : List Int) : List R := recsUp xs (manyOf xs)
/-- The first k parts are records. -/
def partsOk (xs : List Int) (k : Nat) : Bool := (List.range k).all fun i => isRec (partAt xs i)
/-- The bytes are a block's. -/
def isBlock (xs : List Int) : Bool := partsOk xs (manyOf xs) && (okB (epochOf xs) (recsOf xs) && decide (blockB (epochOf xs) (recsOf xs) = xs))
theorem length_recsUp (xs : List Int) (k : Nat) : (recsUp xs k).length = k := by simp [recsUp]
theorem length_recsOf (xs : List Int) : (recsOf xs).length = manyOf xs := length_recsUp _ _
theorem manyOf_le (xs : List Int) : manyOf xs ≤ 6 := by unfold manyOf; omega
theorem recsUp_succ (xs : List Int) (k : Nat) : recsUp xs (k + 1) = recsUp xs k ++ [partsR (partAt xs k)] := by
  unfold recsUp
  rw [List.range_succ, List.map_append]
  rfl
theorem partsOk_iff (xs : List Int) (k : Nat) : partsOk xs k = true ↔ ∀ i, i < k → isRec (partAt xs i) = true := by
  unfold partsOk
  rw [List.all_eq_true]
  simp only [List.mem_range]
theorem partsOk_no {xs : List Int} {k i : Nat} (hi : i < k) (h : isRec (partAt xs i) = false) : partsOk xs k = false := by
  cases hp : partsOk xs k with
  | false => rfl
  | true => rw [(partsOk_iff xs k).1 hp i hi] at h; cases h
theorem length_partAt (xs : List Int) (i : Nat) (h : xs.length = 256) (hi : i < 6) : (partAt xs i).length = 40 := by
  unfold partAt
  rw [List.length_take, List.length_drop]
  omega
theorem epoch_blockB (e : Int) (rs : List R) (h0 : 0 ≤ e) (h1 : e ≤ 1073741824) : epochOf (blockB e rs) = e := by
  unfold epochOf
  rw [getB_congr _ (headB e rs.length) 4 4 (fun p hp hp' => blockB_head e rs p (by omega)), headB, get_put_other _ _ _ _ _ _ (by omega), get_put_same _ _ _ _ (by omega) (by rw [length_fillB]; decide)]
  exact mod_lt h0 (by omega)
theorem count_blockB (e : Int) (rs : List R) (h : rs.length ≤ 6) : countOf (blockB e rs) = rs.length := by
  unfold countOf
  rw [getB_congr _ (headB e rs.length) 8 2 (fun p hp hp' => blockB_head e rs p (by omega)), headB, get_put_same _ _ _ _ (by omega) (by rw [length_putB, length_fillB]; decide)]
  exact mod_lt (by omega) (by omega)
theorem many_blockB (e : Int) (rs : List R) (h : rs.length ≤ 6) : manyOf (blockB e rs) = rs.length := by
  unfold manyOf
  rw [count_blockB e rs h]
  omega
theorem recsB_part (zs : List Int) : ∀ (rs : List R) (i : Nat) (r : R), rs[i]? = some r → ((recsB rs ++ zs).drop (40 * i)).take 40 = recB r := by
  intro rs
  induction rs with
  | nil => intro i r h; simp at h
  | cons x rs ih =>
    intro i r h
    have hx := length_recB x
    have e : recsB (x :: rs) ++ zs = recB x ++ (recsB rs ++ zs) := by simp [recsB]
    rw [e]
    cases i with
    | zero =>
      simp at h
      subst h
      rw [Nat.mul_zero, List.drop_zero, List.take_append_of_le_length (by omega), List.take_of_length_le (by omega)]
    | succ i =>
      rw [show 40 * (i + 1) = (recB x).length + 40 * i by omega, List.drop_length_add_append]
      exact ih i r (by simpa using h)
theorem part_blockB (e : Int) (rs : List R) (i : Nat) (r : R) (h : rs[i]? = some r) : partAt (blockB e rs) i = recB r := by
  unfold partAt blockB fillB grownB
  have hh := length_headB e rs.length
  rw [List.append_assoc, show 16 + 40 * i = (headB e rs.length).length + 40 * i by omega, List.drop_length_add_append]
  exact recsB_part _ rs i r h
theorem recs_blockB (e : Int) (rs : List R) (h : rs.length ≤ 6) (hg : ∀ r ∈ rs, goodB r = true ∧ r.fits) : recsOf (blockB e rs) = rs := by
  unfold recsOf
  rw [many_blockB e rs h]
  unfold recsUp
  refine List.ext_getElem (by simp) fun i h1 h2 => ?_
  rw [List.getElem_map, List.getElem_range, part_blockB e rs i rs[i] (List.getElem?_eq_getElem h2)]
  have := hg rs[i] (List.getElem_mem h2)
  exact parts_recB _ this.1 this.2
theorem okB_iff (e : Int) (rs : List R) : okB e rs = true ↔ (1 ≤ e ∧ e ≤ 1073741824 ∧ 1 ≤ rs.length ∧ rs.length ≤ 6) ∧ ∀ r ∈ rs, goodB r = true := by
  unfold okB
  rw [Bool.and_eq_true, decide_eq_true_eq, List.all_eq_true]
theorem isBlock_blockB (e : Int) (rs : List R) (h : okB e rs = true) (hf : ∀ r ∈ rs, r.fits) : isBlock (blockB e rs) = true ∧ epochOf (blockB e rs) = e ∧ recsOf (blockB e rs) = rs := by
  obtain ⟨⟨h0, h1, h2, h3⟩, hg⟩ := (okB_iff e rs).1 h
  have he := epoch_blockB e rs (by omega) h1
  have hr := recs_blockB e rs h3 fun r hr => ⟨hg r hr, hf r hr⟩
  refine ⟨?_, he, hr⟩
  unfold isBlock
  rw [he, hr, h, many_blockB e rs h3, (partsOk_iff _ _).2]
  · simp
  · intro i hi
    have hm := List.getElem_mem hi
    rw [part_blockB e rs i rs[i] (List.getElem?_eq_getElem hi)]
    exact isRec_recB _ (hg _ hm) (hf _ hm)
theorem isBlock_parts {xs : List Int} (h : isBlock xs = true) : partsOk xs (manyOf xs) = true ∧ okB (epochOf xs) (recsOf xs) = true ∧ blockB (epochOf xs) (recsOf xs) = xs := by
  unfold isBlock at h
  rw [Bool.and_eq_true, Bool.and_eq_true, decide_eq_true_eq] at h
  exact h
theorem isBlock_gap {xs : List Int} (p : Int) (h : 10 ≤ p) (h' : p < 16) (hx : byteAt xs p ≠ 0) : isBlock xs = false := by
  cases hb : isBlock xs with
  | false => rfl
  | true =>
    rw [← (isBlock_parts hb).2.2] at hx
    exact absurd (blockB_gap _ _ p h h') hx
theorem isBlock_out {xs : List Int} (p : Int) (h : 16 + 40 * (manyOf xs : Int) ≤ p) (hx : byteAt xs p ≠ 0) : isBlock xs = false := by
  cases hb : isBlock xs with
  | false => rfl
  | true =>
    have e := (isBlock_parts hb).2.2
    have hl := length_recsOf xs
    obtain ⟨rs, hrs⟩ : ∃ rs, rs = recsOf xs := ⟨_, rfl⟩
    rw [← hrs] at e hl
    rw [← e] at hx
    exact absurd (blockB_out _ rs p (by rw [hl]; exact h)) hx
theorem blockB_not_zero (e : Int) (rs : List R) (h : rs.length ≤ 6) (xs : List Int) (hl : xs.length = 256) (k : Nat) (he : ∀ i, i ≠ k → xs.getD i 0 = (blockB e rs).getD i 0) : zeroB xs = false := by
  by_cases hk : k = 0
  · refine zeroB_false (i := 1) (by omega) ?_
    rw [he 1 (by omega), ← byteAt_nat, blockB_mark e rs _ (by omega)]
    decide
  · refine zeroB_false (i := 0) (by omega) ?_
    rw [he 0 (by omega), ← byteAt_nat, blockB_mark e rs _ (by omega)]
    decide
theorem getD_set_ne (xs : List Int) (k i : Nat) (v : Int) (h : i ≠ k) : (xs.set k v).getD i 0 = xs.getD i 0 := by
  rw [List.getD_eq_getElem?_getD, List.getD_eq_getElem?_getD, List.getElem?_set_ne (fun e => h e.symm)]
theorem getD_set_eq (xs : List Int) (k : Nat) (v : Int) (h : k < xs.length) : (xs.set k v).getD k 0 = v := by
  rw [List.getD_eq_getElem?_getD, List.getElem?_set_self h]
  rfl
theorem epoch_bytes (e : Int) (h0 : 0 ≤ e) (h1 : e < 16777216) : byteOf e 0 + 256 * byteOf e 1 + 65536 * byteOf e 2 = e := by
  unfold byteOf
  rw [show (256 : Int) ^ 0 = 1 by decide, show (256 : Int) ^ 1 = 256 by decide, show (256 : Int) ^ 2 = 65536 by decide]
  omega
end Go.Proofs.YtgjhnkadfdcafaaDoor

/- What the document's own Put and Fill (phoenixref1) answer, at every list of bytes; nothing that was there is written. -/
namespace Go.Proofs.YtgjhnkadfdcafaaDoor
open Go.RowKit
set_option linter.unusedVariables false

def sliceLen : Value → Nat
  | .slice _ n _ => n
  | _ => 0
theorem grownB_succ (xs : List Int) (k : Nat) (h : xs.length ≤ k) : grownB xs (k + 1) = grownB xs k ++ [0] := by
  unfold grownB
  rw [show k + 1 - xs.length = (k - xs.length) + 1 by omega, List.replicate_succ', List.append_assoc]
theorem grownB_self (xs : List Int) : grownB xs xs.length = xs := by simp [grownB]

/-- 'append(s, x...)' of two lists of bytes, s the call's own, under whatever guard says yes: the two, one behind the other, owned; below B nothing has turned. -/
theorem wpList_append_bytes {w : World} {ops : Array Oper} {rest : List Oper} {o : Oper} {a : Act} {Q : Exit → Act → World → Prop}
    (hw : Region.wanted o (yielded ops a.tmps) = true) (s x : Operand)
    (ho : o.op = .call { callee := .builtin .append, args := #[s, x], argTypes := #[51, 51] })
    (B : Nat) (ao : Option Addr) (cap : Nat) (xs : List Int) (hs : a.eval s = .slice ao xs.length cap) (hO : Own w B ao cap xs)
    (bo : Option Addr) (c : Nat) (ys : List Int) (hx : a.eval x = .slice bo ys.length c) (hr : Row w bo ys) (hnil : bo = none → ys = [] ∧ c = 0)
    (hlen : xs.length + ys.length ≤ 4294967296) (hB : B ≤ w.heap.size) (zs : List Int) (hzs : zs = xs ++ ys)
    (h : ∀ ao' c' w', Own w' B ao' c' zs → Below B w w' → w.grownBy w' (Value.slice ao xs.length cap).ownBlock → wpList Tryd.prog ops Q rest (a.put o.dst (.slice ao' zs.length c')) w') : wpList Tryd.prog ops Q (o :: rest) a w := by
  obtain ⟨i0, hi, hz0, hz1, hz2⟩ := info_parts Tryd.info5
  subst hzs
  refine BigFrame.wpList_want hw fun K hK => ?_
  cases bo with
  | none =>
    obtain ⟨rfl, rfl⟩ := hnil rfl
    have hrun := run_append_owned_none (P := Tryd.prog) (w := w) B 51 o.type 5 i0 1 Tryd.underlying51 hi _ xs.length (cellsOf xs) hO.1
    unfold Oper.wp
    simp only [List.length_nil] at hx
    simp [execOp, ho, resolve, invoke, builtin, hs, hx, hrun, Result.andThen]
    have := h ao cap w (by simpa using hO) (Below.refl _ _) (World.grownBy.refl _ _)
    simp only [List.append_nil] at this
    exact hK _ _ this
  | some ad =>
    have hsrc : ∀ j u, (cellsOf ys)[j]? = some u → w.cell? (ad.add j) = some u := by
      intro j u hj
      obtain ⟨ad', e, hs⟩ := hr.src (by rw [length_cellsOf]; have := (cellsOf_at hj).1; omega)
      cases e
      exact hs j u hj
    refine wp_append_own w s x 51 ho B 5 i0 (.int .u8 0) 1 1 Tryd.underlying51 hi hz0 hz1 hz2 rfl (by decide) _ xs.length (cellsOf xs) hs hO.1 ad ys.length c (cellsOf ys) hx (by rw [length_cellsOf, Nat.mul_one]) hsrc (oneCell_cellsOf ys) (by unfold maxLen; omega) (by omega) hB ?_
    intro v' w' h1 h2 _
    obtain ⟨ao', c', rfl⟩ := own_shape h1
    have := h ao' c' w' ⟨by rw [List.length_append, cellsOf_append]; exact h1, hO.2.1.append hr.2.1, by simp; omega⟩ ((Below.refl _ _).grown h2 hB (fun j e => (hO.1.lt j e).1)) h2
    rw [List.length_append] at this
    exact hK _ _ this
theorem Rows2.below {w w' : World} {oo : Option Addr} {ls : List Part} {B : Nat} (h : Rows2 w oo ls) (hb : Below B w w') (hB : w.heap.size ≤ B) : Rows2 w' oo ls := by
  obtain ⟨h0, h1, h2⟩ := h
  refine ⟨h0, fun p hp => ⟨(h1 p hp).1.below hb hB, (h1 p hp).2⟩, fun hp => ?_⟩
  obtain ⟨b, off, e, hlt, hc⟩ := h2 hp
  refine ⟨b, off, e, by have := hb.size; omega, fun i hi => ?_⟩
  rw [hb.cell (by show b < B; omega)]
  exact hc i hi
theorem Rows2.drewN {w : World} {oo : Option Addr} {ls : List Part} (h : Rows2 w oo ls) (n : Nat) : Rows2 (w.drewN n) oo ls := h
theorem join_len (oo : Option Addr) (n cap : Nat) (ls : List Part) (w : World) (h : Rows2 w oo ls) (hn : ls.length = n) (hsum : (joinB ls).length ≤ 4294967296) :
    Calls Tryd.prog 41 #[.slice oo n cap] w fun e w' => ∃ ao c, e = .returned (.slice ao (joinB ls).length c) ∧ Own w' w.heap.size ao c (joinB ls) ∧ Below w.heap.size w w' := by subst hn; exact join_any oo cap ls w h hsum
theorem joinB_part (ls : List Part) (k : Nat) (hk : k < ls.length) : ((joinB ls).drop (joinB (ls.take k)).length).take ls[k].xs.length = ls[k].xs := by
  have e : joinB ls = joinB (ls.take k) ++ (ls[k].xs ++ joinB (ls.drop (k + 1))) := by
    unfold joinB
    conv => lhs; rw [← List.take_append_drop k ls, List.drop_eq_getElem_cons hk]
    simp only [List.map_append, List.flatten_append, List.map_cons, List.flatten_cons]
  rw [e, List.drop_left, List.take_left]
theorem Own.le {w : World} {B : Nat} {ao : Option Addr} {cap : Nat} {xs : List Int} (h : Own w B ao cap xs) : xs.length ≤ cap ∧ (ao = none ∧ xs = [] ∧ cap = 0 ∨ ∃ g, ao = some ⟨g, 0, none⟩) := by
  rcases h.1.2 with ⟨e, h0⟩ | ⟨g, c, cur, hv, _, _, h4, _⟩
  · simp only [Value.slice.injEq] at e
    exact ⟨by omega, .inl ⟨e.1, List.eq_nil_of_length_eq_zero h0, e.2.2⟩⟩
  · simp only [Value.slice.injEq] at hv
    exact ⟨by omega, .inr ⟨g, hv.1⟩⟩
/-- A part of a list of bytes, read where it lies. -/
theorem Row.part {w : World} {g m : Nat} {J X : List Int} (h : Row w (some ⟨g, 0, none⟩) J) (hX : (J.drop m).take X.length = X) (ao : Option Addr) (hao : 0 < X.length → ao = some ⟨g, m, none⟩) : Row w ao X := by
  obtain ⟨h0, h1, h2⟩ := h
  have hlen : X.length ≤ J.length - m := by
    have := congrArg List.length hX
    simp at this
    omega
  refine ⟨by omega, fun x hx => h1 x ?_, fun hp => ?_⟩
  · rw [← hX] at hx
    exact List.mem_of_mem_drop (List.mem_of_mem_take hx)
  · obtain ⟨b, off, e, hb, hc⟩ := h2 (by omega)
    simp only [Option.some.injEq, Addr.mk.injEq, and_true] at e
    obtain ⟨rfl, rfl⟩ := e
    refine ⟨g, m, hao hp, hb, fun i hi => ?_⟩
    have := hc (m + i) (by omega)
    rw [Nat.zero_add] at this
    rw [this]
    congr 2
    conv => rhs; rw [← hX]
    rw [List.getD_eq_getElem?_getD, List.getD_eq_getElem?_getD, List.getElem?_take, if_pos hi, List.getElem?_drop]
theorem fill_len (ao : Option Addr) (n cap : Nat) (xs : List Int) (S : Int) (w : World) (h : Row w ao xs) (hn : xs.length = n) (hS : S ≤ 2147483647) :
    Calls Tryd.prog 42 #[.slice ao n cap, .int .i64 S] w fun e w' => e = .returned (.slice (some ⟨w.heap.size, 0, none⟩) (max S.toNat n) (max S.toNat n)) ∧ Own w' w.heap.size (some ⟨w.heap.size, 0, none⟩) (max S.toNat n) (fillB xs S) ∧ Below w.heap.size w w' := by
  subst hn
  have h1 := fill_any ao cap xs S w h hS
  rw [length_fillB] at h1
  exact h1
theorem fill_head (xs : List Int) (S : Int) : ((fillB xs S).drop 0).take xs.length = xs := by
  unfold fillB grownB
  rw [List.drop_zero, List.take_left]
theorem fill_tail (xs : List Int) (S : Int) (m : Nat) (hm : m = max S.toNat xs.length - xs.length) : ((fillB xs S).drop xs.length).take (List.replicate m (0 : Int)).length = List.replicate m 0 := by
  subst hm
  unfold fillB grownB
  rw [List.drop_left, List.take_of_length_le (Nat.le_refl _)]
end Go.Proofs.YtgjhnkadfdcafaaDoor

/- The chapter's examples, as the statements ask them first: they hold, and nothing that was there is written. -/
namespace Go.Proofs.YtgjhnkadfdcafaaDoor
open Go.RowKit
set_option linter.unusedVariables false

theorem first_row (w : World) : Row (w.alloc (.cells #[.int .u8 0, .int .u8 0] 5)) (some ⟨w.heap.size, 0, none⟩) [0, 0] := by
  refine ⟨by simp, fun x hx => by simp at hx; omega, fun _ => ⟨w.heap.size, 0, rfl, by simp, fun i hi => ?_⟩⟩
  match i, hi with
  | 0, _ => simp
  | 1, _ => simp
theorem first_put : putB [0, 0] 0 258 (widthB 2).toNat = [2, 1] := by decide
theorem first_get : getB [] 0 (widthB 8).toNat = 0 := by decide
theorem first_zero : zeroB [2, 1] = false := by decide

end Go.Proofs.YtgjhnkadfdcafaaDoor
