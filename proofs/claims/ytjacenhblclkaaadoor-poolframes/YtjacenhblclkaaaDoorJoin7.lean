/- Lemmas and contracts that the law stands on, joined: RecCheck, RecMake, RecBytes, RecFirst, RecRead, RecGood, RecGood2, RecGood3, RecSame, RecSame2. -/
import Derived.Test.YtjacenhblclkaaaDoorJoin6
import Derived.Test.YtjacenhblclkaaaDoorJoin5
import Derived.Laws.BytesArg
import Derived.Laws.StructEq
/- What rec.Check answers: no error of a record that may be, ErrRange of every other. -/
namespace Go.Proofs.YtjacenhblclkaaaDoor
open Go.RowKit
set_option linter.unusedVariables false

/-- A record and a span lie in memory, cell by cell. -/
structure Cells12 (w : World) (B : Nat) (r : R) : Prop where
  c0 : w.cell? ⟨B, 0, none⟩ = some (.int .i64 r.kind)
  c1 : w.cell? ⟨B, 1, none⟩ = some (.int .i64 r.txn)
  c2 : w.cell? ⟨B, 2, none⟩ = some (.int .i64 r.page)
  c3 : w.cell? ⟨B, 3, none⟩ = some (.int .i64 r.prev)
  c4 : w.cell? ⟨B, 4, none⟩ = some (.int .i64 r.next)
  c5 : w.cell? ⟨B, 5, none⟩ = some (.int .i64 r.key)
  c6 : w.cell? ⟨B, 6, none⟩ = some (.bool r.had)
  c7 : w.cell? ⟨B, 7, none⟩ = some (.bool r.has)
  c8 : w.cell? ⟨B, 8, none⟩ = some (.int .i64 r.old)
  c9 : w.cell? ⟨B, 9, none⟩ = some (.int .i64 r.new)
  s0 : w.cell? ⟨B + 1, 0, none⟩ = some (.int .i64 1)
  s1 : w.cell? ⟨B + 1, 1, none⟩ = some (.int .i64 10)
  lt : B + 1 < w.heap.size
theorem Cells12.below {w w' : World} {B n : Nat} {r : R} (h : Cells12 w B r) (hb : Below n w w') (hn : w.heap.size ≤ n) : Cells12 w' B r := by
  have hl := h.lt
  have h0 : ∀ o, w'.cell? ⟨B, o, none⟩ = w.cell? ⟨B, o, none⟩ := fun o => hb.cell (show B < n by omega)
  have h1 : ∀ o, w'.cell? ⟨B + 1, o, none⟩ = w.cell? ⟨B + 1, o, none⟩ := fun o => hb.cell (show B + 1 < n by omega)
  exact ⟨(h0 _).trans h.c0, (h0 _).trans h.c1, (h0 _).trans h.c2, (h0 _).trans h.c3, (h0 _).trans h.c4, (h0 _).trans h.c5, (h0 _).trans h.c6, (h0 _).trans h.c7, (h0 _).trans h.c8, (h0 _).trans h.c9, (h1 _).trans h.s0, (h1 _).trans h.s1, Nat.lt_of_lt_of_le hl hb.size⟩
theorem cells12_new (w : World) (r : R) : Cells12 ((w.alloc (.cells #[.int .i64 r.kind, .int .i64 r.txn, .int .i64 r.page, .int .i64 r.prev, .int .i64 r.next, .int .i64 r.key, .bool r.had, .bool r.has, .int .i64 r.old, .int .i64 r.new] 42)).alloc (.cells #[.int .i64 1, .int .i64 10] 120)) w.heap.size r := by
  constructor <;> simp
theorem enters63 : Enters Tryd.prog 63 := enters Tryd.func63 (by kernel_rfl) (by kernel_rfl)
theorem enters64 : Enters Tryd.prog 64 := enters Tryd.func64 (by kernel_rfl) (by kernel_rfl)
theorem enters65 : Enters Tryd.prog 65 := enters Tryd.func65 (by kernel_rfl) (by kernel_rfl)
theorem enters66 : Enters Tryd.prog 66 := enters Tryd.func66 (by kernel_rfl) (by kernel_rfl)
theorem enters67 : Enters Tryd.prog 67 := enters Tryd.func67 (by kernel_rfl) (by kernel_rfl)
theorem enters68 : Enters Tryd.prog 68 := enters Tryd.func68 (by kernel_rfl) (by kernel_rfl)
theorem enters69 : Enters Tryd.prog 69 := enters Tryd.func69 (by kernel_rfl) (by kernel_rfl)
theorem enters70 : Enters Tryd.prog 70 := enters Tryd.func70 (by kernel_rfl) (by kernel_rfl)
theorem enters71 : Enters Tryd.prog 71 := enters Tryd.func71 (by kernel_rfl) (by kernel_rfl)
/-- What rec.Check answers. -/
def checkV (r : R) (x : Addr) : Value := if goodB r then .nilIface else errV x
theorem checkV_bad {r : R} {x : Addr} (h : goodB r = false) : checkV r x = errV x := by simp [checkV, h]
theorem checkV_good {r : R} {x : Addr} (h : goodB r = true) : checkV r x = .nilIface := by simp [checkV, h]
theorem ret_bad {r : R} {x : Addr} (h : goodB r = false) : Ending.returned (.iface 168 (.pointer (some x))) = .returned (checkV r x) := by rw [checkV_bad h]; rfl
theorem ret_good {r : R} {x : Addr} (h : goodB r = true) : Ending.returned .nilIface = .returned (checkV r x) := by rw [checkV_good h]
theorem run_fa (f : Nat) (hf : f < 10) (B : Nat) (w : World) : (Instr.fieldAt 42 (.pointer (some ⟨B, 0, none⟩)) f).run Tryd.prog w = .ok (.pointer (some ⟨B, f, none⟩)) w := by
  match f, hf with
  | 0, _ => go_simp
  | 1, _ => go_simp
  | 2, _ => go_simp
  | 3, _ => go_simp
  | 4, _ => go_simp
  | 5, _ => go_simp
  | 6, _ => go_simp
  | 7, _ => go_simp
  | 8, _ => go_simp
  | 9, _ => go_simp
theorem take_fa {S : World → Prop} {o : Oper} {a : Act} {x : Operand} {B : Nat} (f : Nat) (hf : f < 10) (hop : o.op = .fieldAddr 42 x f) (ha : a.eval x = .pointer (some ⟨B, 0, none⟩)) : ∀ w, S w → (execOp a.eval o).run Tryd.prog w = .ok (.value (.pointer (some ⟨B, f, none⟩))) w := by
  intro w _
  simp [execOp, hop, ha, run_fa f hf B w]
theorem run_ld {n : Int} {p : Addr} {w : World} (h : w.cell? p = some (.int .i64 n)) : (Instr.loadAt 3 (.pointer (some p))).run Tryd.prog w = .ok (.int .i64 n) w := by go_simp
theorem take_ld {S : World → Prop} {o : Oper} {a : Act} {x : Operand} {p : Addr} {n : Int} (hop : o.op = .load 3 x) (ha : a.eval x = .pointer (some p)) (hc : ∀ w, S w → w.cell? p = some (.int .i64 n)) : ∀ w, S w → (execOp a.eval o).run Tryd.prog w = .ok (.value (.int .i64 n)) w := by
  intro w hS
  simp [execOp, hop, ha, run_ld (hc w hS)]
theorem run_ldS {B : Nat} {w : World} {r : R} (h : Cells12 w B r) : (Instr.loadAt 120 (.pointer (some ⟨B + 1, 0, none⟩))).run Tryd.prog w = .ok (pairV 1 10) w := by
  obtain ⟨k0, k1, k2, k3, k4, k5, k6, k7, k8, k9, k10, k11, kl⟩ := h
  unfold pairV
  go_simp
theorem run_ldR {B : Nat} {w : World} {r : R} (h : Cells12 w B r) : (Instr.loadAt 42 (.pointer (some ⟨B, 0, none⟩))).run Tryd.prog w = .ok r.val w := by
  obtain ⟨k0, k1, k2, k3, k4, k5, k6, k7, k8, k9, k10, k11, kl⟩ := h
  unfold R.val
  go_simp
theorem take_ldS {B : Nat} {r : R} {o : Oper} {a : Act} {x : Operand} (hop : o.op = .load 120 x) (ha : a.eval x = .pointer (some ⟨B + 1, 0, none⟩)) : ∀ w, Cells12 w B r → (execOp a.eval o).run Tryd.prog w = .ok (.value (pairV 1 10)) w := by
  intro w hS
  simp [execOp, hop, ha, run_ldS hS]
theorem take_ldR {B : Nat} {r : R} {o : Oper} {a : Act} {x : Operand} (hop : o.op = .load 42 x) (ha : a.eval x = .pointer (some ⟨B, 0, none⟩)) : ∀ w, Cells12 w B r → (execOp a.eval o).run Tryd.prog w = .ok (.value r.val) w := by
  intro w hS
  simp [execOp, hop, ha, run_ldR hS]
set_option maxHeartbeats 4000000 in
set_option maxRecDepth 100000 in
theorem check_any (r : R) (w : World) (x : Addr) (hE : w.cell? ⟨0, 0, none⟩ = some (errV x)) :
    Calls Tryd.prog 35 #[r.val] w fun e w' => e = .returned (checkV r x) ∧ Below w.heap.size w w' := by
  have HC := hide (cells12_new w r)
  have HB : Hid (Below w.heap.size w ((w.alloc (.cells #[.int .i64 r.kind, .int .i64 r.txn, .int .i64 r.page, .int .i64 r.prev, .int .i64 r.next, .int .i64 r.key, .bool r.had, .bool r.has, .int .i64 r.old, .int .i64 r.new] 42)).alloc (.cells #[.int .i64 1, .int .i64 10] 120))) := ((Below.refl _ _).alloc (Nat.le_refl _) _).alloc (by simp) _
  obtain ⟨W, hW⟩ : ∃ W, W = (w.alloc (.cells #[.int .i64 r.kind, .int .i64 r.txn, .int .i64 r.page, .int .i64 r.prev, .int .i64 r.next, .int .i64 r.key, .bool r.had, .bool r.has, .int .i64 r.old, .int .i64 r.new] 42)).alloc (.cells #[.int .i64 1, .int .i64 10] 120) := ⟨_, rfl⟩
  rw [← hW] at HC HB
  have HW := hide hW
  clear hW
  have HG : Hid (∀ w', Below w.heap.size w w' → w'.cell? ⟨0, 0, none⟩ = some (.iface 168 (.pointer (some x)))) := fun w' hb => (hb.cell (World.block_lt_of_cell? w _ hE)).trans hE
  clear hE
  show Calls Tryd.prog 35 #[.agg #[.int .i64 r.kind, .int .i64 r.txn, .int .i64 r.page, .int .i64 r.prev, .int .i64 r.next, .int .i64 r.key, .bool r.had, .bool r.has, .int .i64 r.old, .int .i64 r.new]] w _
  go_enter Tryd.func35, Tryd.ntmps35
  go_wp2_with fail
  rw [← HW.out]
  refine region_of_sched (S := fun w' => Cells12 w' w.heap.size r) [(0, true), (1, true), (2, true), (3, false), (4, true), (5, true), (6, true), (8, true), (9, true), (7, false), (10, false), (11, true), (12, true), (13, true), (14, true), (16, true), (17, true), (15, false), (18, false), (19, true), (20, true), (21, true), (22, true), (24, true), (25, true), (23, false), (26, false), (27, true), (28, true), (29, true), (30, true), (32, true), (33, true), (31, false), (34, false), (35, true), (36, true), (37, true), (38, true), (40, true), (41, true), (39, false), (42, false), (43, true), (44, true), (45, true), (46, false), (47, true), (48, true), (49, true), (50, false), (51, true), (52, true), (53, true), (54, false), (55, true), (56, true)] (by kernel_rfl) (by kernel_rfl) (by kernel_rfl) (by kernel_rfl) (fun c a d v w h => by cases d <;> exact h) (HC.out.below (below_drew (Below.refl _ _)) (Nat.le_refl _)) ?_
  replace HC := hide (HC.out.below (below_drew (Below.refl W.heap.size W)) (Nat.le_refl _))
  replace HB := hide (below_drew HB.out)
  refine sched_take (i := 0) rfl rfl rfl (take_ldS rfl rfl) ?_
  simp only [List.set]
  refine sched_take (i := 1) rfl rfl rfl (take_fa 0 (by decide) rfl rfl) ?_
  simp only [List.set]
  refine sched_take (i := 2) rfl rfl rfl (take_ld rfl rfl fun w h => h.c0) ?_
  simp only [List.set]
  cases h1 : holdsB 1 10 r.kind
  · refine sched_call (i := 3) rfl rfl rfl rfl enters63 ((holds_any _ _ _ _ _ h1).mono ?_)
    rintro e w2 ⟨rfl, hb2⟩
    refine ⟨_, rfl, HC.out.below hb2 (Nat.le_refl _), ?_⟩
    simp only [List.set]
    refine sched_move (i := 4) (.bool false) rfl rfl rfl rfl rfl ?_
    simp only [List.set]
    refine sched_skip [(5, true), (6, true), (8, true), (9, true), (7, false), (10, false)] (by kernel_rfl) (HC.out.below hb2 (Nat.le_refl _)) ?_
    refine sched_pick (i := 11) false (.bool false) rfl rfl rfl rfl rfl rfl ?_
    simp only [List.set]
    refine sched_move (i := 12) (.bool false) rfl rfl rfl rfl rfl ?_
    simp only [List.set]
    refine sched_skip [(13, true), (14, true), (16, true), (17, true), (15, false), (18, false)] (by kernel_rfl) (HC.out.below hb2 (Nat.le_refl _)) ?_
    refine sched_pick (i := 19) false (.bool false) rfl rfl rfl rfl rfl rfl ?_
    simp only [List.set]
    refine sched_move (i := 20) (.bool false) rfl rfl rfl rfl rfl ?_
    simp only [List.set]
    refine sched_skip [(21, true), (22, true), (24, true), (25, true), (23, false), (26, false)] (by kernel_rfl) (HC.out.below hb2 (Nat.le_refl _)) ?_
    refine sched_pick (i := 27) false (.bool false) rfl rfl rfl rfl rfl rfl ?_
    simp only [List.set]
    refine sched_move (i := 28) (.bool false) rfl rfl rfl rfl rfl ?_
    simp only [List.set]
    refine sched_skip [(29, true), (30, true), (32, true), (33, true), (31, false), (34, false)] (by kernel_rfl) (HC.out.below hb2 (Nat.le_refl _)) ?_
    refine sched_pick (i := 35) false (.bool false) rfl rfl rfl rfl rfl rfl ?_
    simp only [List.set]
    refine sched_move (i := 36) (.bool false) rfl rfl rfl rfl rfl ?_
    simp only [List.set]
    refine sched_skip [(37, true), (38, true), (40, true), (41, true), (39, false), (42, false)] (by kernel_rfl) (HC.out.below hb2 (Nat.le_refl _)) ?_
    refine sched_pick (i := 43) false (.bool false) rfl rfl rfl rfl rfl rfl ?_
    simp only [List.set]
    refine sched_move (i := 44) (.bool false) rfl rfl rfl rfl rfl ?_
    simp only [List.set]
    refine sched_skip [(45, true), (46, false)] (by kernel_rfl) (HC.out.below hb2 (Nat.le_refl _)) ?_
    refine sched_pick (i := 47) false (.bool false) rfl rfl rfl rfl rfl rfl ?_
    simp only [List.set]
    refine sched_move (i := 48) (.bool false) rfl rfl rfl rfl rfl ?_
    simp only [List.set]
    refine sched_skip [(49, true), (50, false)] (by kernel_rfl) (HC.out.below hb2 (Nat.le_refl _)) ?_
    refine sched_pick (i := 51) false (.bool false) rfl rfl rfl rfl rfl rfl ?_
    simp only [List.set]
    refine sched_move (i := 52) (.bool false) rfl rfl rfl rfl rfl ?_
    simp only [List.set]
    refine sched_skip [(53, true), (54, false)] (by kernel_rfl) (HC.out.below hb2 (Nat.le_refl _)) ?_
    refine sched_pick (i := 55) false (.bool false) rfl rfl rfl rfl rfl rfl ?_
    simp only [List.set]
    refine sched_assign (i := 56) (.bool false) rfl rfl rfl rfl rfl ?_
    simp only [List.set]
    refine sched_nil ?_
    have hB2 := over HB.out hb2 HB.out.size
    have HB2 := hide hB2
    have hE2 := HG.out _ hB2
    clear hB2 hb2
    go_wp2_with fail
    go_ret
    exact ⟨ret_bad (by unfold goodB; rw [h1]; rfl), HB2.out⟩
  refine sched_call (i := 3) rfl rfl rfl rfl enters63 ((holds_any _ _ _ _ _ h1).mono ?_)
  rintro e w2 ⟨rfl, hb2⟩
  refine ⟨_, rfl, HC.out.below hb2 (Nat.le_refl _), ?_⟩
  replace HC := hide (HC.out.below hb2 (Nat.le_refl _))
  replace HB := hide (over HB.out hb2 HB.out.size)
  clear hb2
  simp only [List.set]
  refine sched_move (i := 4) (.bool true) rfl rfl rfl rfl rfl ?_
  simp only [List.set]
  refine sched_take (i := 5) rfl rfl rfl (take_fa 0 (by decide) rfl rfl) ?_
  simp only [List.set]
  refine sched_take (i := 6) rfl rfl rfl (take_ld rfl rfl fun w h => h.c0) ?_
  simp only [List.set]
  refine sched_take (i := 8) rfl rfl rfl (take_fa 1 (by decide) rfl rfl) ?_
  simp only [List.set]
  refine sched_take (i := 9) rfl rfl rfl (take_ld rfl rfl fun w h => h.c1) ?_
  simp only [List.set]
  refine sched_call (i := 7) rfl rfl rfl rfl enters64 ((txnSpan_any _ _).mono ?_)
  rintro e w2 ⟨rfl, hb2⟩
  refine ⟨_, rfl, HC.out.below hb2 (Nat.le_refl _), ?_⟩
  replace HC := hide (HC.out.below hb2 (Nat.le_refl _))
  replace HB := hide (over HB.out hb2 HB.out.size)
  clear hb2
  simp only [List.set]
  cases h2 : holdsB (txnLo r.kind) (txnHi r.kind) r.txn
  · refine sched_call (i := 10) rfl rfl rfl rfl enters63 ((holds_any _ _ _ _ _ h2).mono ?_)
    rintro e w2 ⟨rfl, hb2⟩
    refine ⟨_, rfl, HC.out.below hb2 (Nat.le_refl _), ?_⟩
    simp only [List.set]
    refine sched_pick (i := 11) true (.bool false) rfl rfl rfl rfl rfl rfl ?_
    simp only [List.set]
    refine sched_move (i := 12) (.bool false) rfl rfl rfl rfl rfl ?_
    simp only [List.set]
    refine sched_skip [(13, true), (14, true), (16, true), (17, true), (15, false), (18, false)] (by kernel_rfl) (HC.out.below hb2 (Nat.le_refl _)) ?_
    refine sched_pick (i := 19) false (.bool false) rfl rfl rfl rfl rfl rfl ?_
    simp only [List.set]
    refine sched_move (i := 20) (.bool false) rfl rfl rfl rfl rfl ?_
    simp only [List.set]
    refine sched_skip [(21, true), (22, true), (24, true), (25, true), (23, false), (26, false)] (by kernel_rfl) (HC.out.below hb2 (Nat.le_refl _)) ?_
    refine sched_pick (i := 27) false (.bool false) rfl rfl rfl rfl rfl rfl ?_
    simp only [List.set]
    refine sched_move (i := 28) (.bool false) rfl rfl rfl rfl rfl ?_
    simp only [List.set]
    refine sched_skip [(29, true), (30, true), (32, true), (33, true), (31, false), (34, false)] (by kernel_rfl) (HC.out.below hb2 (Nat.le_refl _)) ?_
    refine sched_pick (i := 35) false (.bool false) rfl rfl rfl rfl rfl rfl ?_
    simp only [List.set]
    refine sched_move (i := 36) (.bool false) rfl rfl rfl rfl rfl ?_
    simp only [List.set]
    refine sched_skip [(37, true), (38, true), (40, true), (41, true), (39, false), (42, false)] (by kernel_rfl) (HC.out.below hb2 (Nat.le_refl _)) ?_
    refine sched_pick (i := 43) false (.bool false) rfl rfl rfl rfl rfl rfl ?_
    simp only [List.set]
    refine sched_move (i := 44) (.bool false) rfl rfl rfl rfl rfl ?_
    simp only [List.set]
    refine sched_skip [(45, true), (46, false)] (by kernel_rfl) (HC.out.below hb2 (Nat.le_refl _)) ?_
    refine sched_pick (i := 47) false (.bool false) rfl rfl rfl rfl rfl rfl ?_
    simp only [List.set]
    refine sched_move (i := 48) (.bool false) rfl rfl rfl rfl rfl ?_
    simp only [List.set]
    refine sched_skip [(49, true), (50, false)] (by kernel_rfl) (HC.out.below hb2 (Nat.le_refl _)) ?_
    refine sched_pick (i := 51) false (.bool false) rfl rfl rfl rfl rfl rfl ?_
    simp only [List.set]
    refine sched_move (i := 52) (.bool false) rfl rfl rfl rfl rfl ?_
    simp only [List.set]
    refine sched_skip [(53, true), (54, false)] (by kernel_rfl) (HC.out.below hb2 (Nat.le_refl _)) ?_
    refine sched_pick (i := 55) false (.bool false) rfl rfl rfl rfl rfl rfl ?_
    simp only [List.set]
    refine sched_assign (i := 56) (.bool false) rfl rfl rfl rfl rfl ?_
    simp only [List.set]
    refine sched_nil ?_
    have hB2 := over HB.out hb2 HB.out.size
    have HB2 := hide hB2
    have hE2 := HG.out _ hB2
    clear hB2 hb2
    go_wp2_with fail
    go_ret
    exact ⟨ret_bad (by unfold goodB; rw [h1, h2]; rfl), HB2.out⟩
  refine sched_call (i := 10) rfl rfl rfl rfl enters63 ((holds_any _ _ _ _ _ h2).mono ?_)
  rintro e w2 ⟨rfl, hb2⟩
  refine ⟨_, rfl, HC.out.below hb2 (Nat.le_refl _), ?_⟩
  replace HC := hide (HC.out.below hb2 (Nat.le_refl _))
  replace HB := hide (over HB.out hb2 HB.out.size)
  clear hb2
  simp only [List.set]
  refine sched_pick (i := 11) true (.bool true) rfl rfl rfl rfl rfl rfl ?_
  simp only [List.set]
  refine sched_move (i := 12) (.bool true) rfl rfl rfl rfl rfl ?_
  simp only [List.set]
  refine sched_take (i := 13) rfl rfl rfl (take_fa 0 (by decide) rfl rfl) ?_
  simp only [List.set]
  refine sched_take (i := 14) rfl rfl rfl (take_ld rfl rfl fun w h => h.c0) ?_
  simp only [List.set]
  refine sched_take (i := 16) rfl rfl rfl (take_fa 2 (by decide) rfl rfl) ?_
  simp only [List.set]
  refine sched_take (i := 17) rfl rfl rfl (take_ld rfl rfl fun w h => h.c2) ?_
  simp only [List.set]
  refine sched_call (i := 15) rfl rfl rfl rfl enters65 ((pageSpan_any _ _).mono ?_)
  rintro e w2 ⟨rfl, hb2⟩
  refine ⟨_, rfl, HC.out.below hb2 (Nat.le_refl _), ?_⟩
  replace HC := hide (HC.out.below hb2 (Nat.le_refl _))
  replace HB := hide (over HB.out hb2 HB.out.size)
  clear hb2
  simp only [List.set]
  cases h3 : holdsB (pageLo r.kind) (pageHi r.kind) r.page
  · refine sched_call (i := 18) rfl rfl rfl rfl enters63 ((holds_any _ _ _ _ _ h3).mono ?_)
    rintro e w2 ⟨rfl, hb2⟩
    refine ⟨_, rfl, HC.out.below hb2 (Nat.le_refl _), ?_⟩
    simp only [List.set]
    refine sched_pick (i := 19) true (.bool false) rfl rfl rfl rfl rfl rfl ?_
    simp only [List.set]
    refine sched_move (i := 20) (.bool false) rfl rfl rfl rfl rfl ?_
    simp only [List.set]
    refine sched_skip [(21, true), (22, true), (24, true), (25, true), (23, false), (26, false)] (by kernel_rfl) (HC.out.below hb2 (Nat.le_refl _)) ?_
    refine sched_pick (i := 27) false (.bool false) rfl rfl rfl rfl rfl rfl ?_
    simp only [List.set]
    refine sched_move (i := 28) (.bool false) rfl rfl rfl rfl rfl ?_
    simp only [List.set]
    refine sched_skip [(29, true), (30, true), (32, true), (33, true), (31, false), (34, false)] (by kernel_rfl) (HC.out.below hb2 (Nat.le_refl _)) ?_
    refine sched_pick (i := 35) false (.bool false) rfl rfl rfl rfl rfl rfl ?_
    simp only [List.set]
    refine sched_move (i := 36) (.bool false) rfl rfl rfl rfl rfl ?_
    simp only [List.set]
    refine sched_skip [(37, true), (38, true), (40, true), (41, true), (39, false), (42, false)] (by kernel_rfl) (HC.out.below hb2 (Nat.le_refl _)) ?_
    refine sched_pick (i := 43) false (.bool false) rfl rfl rfl rfl rfl rfl ?_
    simp only [List.set]
    refine sched_move (i := 44) (.bool false) rfl rfl rfl rfl rfl ?_
    simp only [List.set]
    refine sched_skip [(45, true), (46, false)] (by kernel_rfl) (HC.out.below hb2 (Nat.le_refl _)) ?_
    refine sched_pick (i := 47) false (.bool false) rfl rfl rfl rfl rfl rfl ?_
    simp only [List.set]
    refine sched_move (i := 48) (.bool false) rfl rfl rfl rfl rfl ?_
    simp only [List.set]
    refine sched_skip [(49, true), (50, false)] (by kernel_rfl) (HC.out.below hb2 (Nat.le_refl _)) ?_
    refine sched_pick (i := 51) false (.bool false) rfl rfl rfl rfl rfl rfl ?_
    simp only [List.set]
    refine sched_move (i := 52) (.bool false) rfl rfl rfl rfl rfl ?_
    simp only [List.set]
    refine sched_skip [(53, true), (54, false)] (by kernel_rfl) (HC.out.below hb2 (Nat.le_refl _)) ?_
    refine sched_pick (i := 55) false (.bool false) rfl rfl rfl rfl rfl rfl ?_
    simp only [List.set]
    refine sched_assign (i := 56) (.bool false) rfl rfl rfl rfl rfl ?_
    simp only [List.set]
    refine sched_nil ?_
    have hB2 := over HB.out hb2 HB.out.size
    have HB2 := hide hB2
    have hE2 := HG.out _ hB2
    clear hB2 hb2
    go_wp2_with fail
    go_ret
    exact ⟨ret_bad (by unfold goodB; rw [h1, h2, h3]; rfl), HB2.out⟩
  refine sched_call (i := 18) rfl rfl rfl rfl enters63 ((holds_any _ _ _ _ _ h3).mono ?_)
  rintro e w2 ⟨rfl, hb2⟩
  refine ⟨_, rfl, HC.out.below hb2 (Nat.le_refl _), ?_⟩
  replace HC := hide (HC.out.below hb2 (Nat.le_refl _))
  replace HB := hide (over HB.out hb2 HB.out.size)
  clear hb2
  simp only [List.set]
  refine sched_pick (i := 19) true (.bool true) rfl rfl rfl rfl rfl rfl ?_
  simp only [List.set]
  refine sched_move (i := 20) (.bool true) rfl rfl rfl rfl rfl ?_
  simp only [List.set]
  refine sched_take (i := 21) rfl rfl rfl (take_fa 0 (by decide) rfl rfl) ?_
  simp only [List.set]
  refine sched_take (i := 22) rfl rfl rfl (take_ld rfl rfl fun w h => h.c0) ?_
  simp only [List.set]
  refine sched_take (i := 24) rfl rfl rfl (take_fa 3 (by decide) rfl rfl) ?_
  simp only [List.set]
  refine sched_take (i := 25) rfl rfl rfl (take_ld rfl rfl fun w h => h.c3) ?_
  simp only [List.set]
  refine sched_call (i := 23) rfl rfl rfl rfl enters66 ((prevSpan_any _ _).mono ?_)
  rintro e w2 ⟨rfl, hb2⟩
  refine ⟨_, rfl, HC.out.below hb2 (Nat.le_refl _), ?_⟩
  replace HC := hide (HC.out.below hb2 (Nat.le_refl _))
  replace HB := hide (over HB.out hb2 HB.out.size)
  clear hb2
  simp only [List.set]
  cases h4 : holdsB (prevLo r.kind) (prevHi r.kind) r.prev
  · refine sched_call (i := 26) rfl rfl rfl rfl enters63 ((holds_any _ _ _ _ _ h4).mono ?_)
    rintro e w2 ⟨rfl, hb2⟩
    refine ⟨_, rfl, HC.out.below hb2 (Nat.le_refl _), ?_⟩
    simp only [List.set]
    refine sched_pick (i := 27) true (.bool false) rfl rfl rfl rfl rfl rfl ?_
    simp only [List.set]
    refine sched_move (i := 28) (.bool false) rfl rfl rfl rfl rfl ?_
    simp only [List.set]
    refine sched_skip [(29, true), (30, true), (32, true), (33, true), (31, false), (34, false)] (by kernel_rfl) (HC.out.below hb2 (Nat.le_refl _)) ?_
    refine sched_pick (i := 35) false (.bool false) rfl rfl rfl rfl rfl rfl ?_
    simp only [List.set]
    refine sched_move (i := 36) (.bool false) rfl rfl rfl rfl rfl ?_
    simp only [List.set]
    refine sched_skip [(37, true), (38, true), (40, true), (41, true), (39, false), (42, false)] (by kernel_rfl) (HC.out.below hb2 (Nat.le_refl _)) ?_
    refine sched_pick (i := 43) false (.bool false) rfl rfl rfl rfl rfl rfl ?_
    simp only [List.set]
    refine sched_move (i := 44) (.bool false) rfl rfl rfl rfl rfl ?_
    simp only [List.set]
    refine sched_skip [(45, true), (46, false)] (by kernel_rfl) (HC.out.below hb2 (Nat.le_refl _)) ?_
    refine sched_pick (i := 47) false (.bool false) rfl rfl rfl rfl rfl rfl ?_
    simp only [List.set]
    refine sched_move (i := 48) (.bool false) rfl rfl rfl rfl rfl ?_
    simp only [List.set]
    refine sched_skip [(49, true), (50, false)] (by kernel_rfl) (HC.out.below hb2 (Nat.le_refl _)) ?_
    refine sched_pick (i := 51) false (.bool false) rfl rfl rfl rfl rfl rfl ?_
    simp only [List.set]
    refine sched_move (i := 52) (.bool false) rfl rfl rfl rfl rfl ?_
    simp only [List.set]
    refine sched_skip [(53, true), (54, false)] (by kernel_rfl) (HC.out.below hb2 (Nat.le_refl _)) ?_
    refine sched_pick (i := 55) false (.bool false) rfl rfl rfl rfl rfl rfl ?_
    simp only [List.set]
    refine sched_assign (i := 56) (.bool false) rfl rfl rfl rfl rfl ?_
    simp only [List.set]
    refine sched_nil ?_
    have hB2 := over HB.out hb2 HB.out.size
    have HB2 := hide hB2
    have hE2 := HG.out _ hB2
    clear hB2 hb2
    go_wp2_with fail
    go_ret
    exact ⟨ret_bad (by unfold goodB; rw [h1, h2, h3, h4]; rfl), HB2.out⟩
  refine sched_call (i := 26) rfl rfl rfl rfl enters63 ((holds_any _ _ _ _ _ h4).mono ?_)
  rintro e w2 ⟨rfl, hb2⟩
  refine ⟨_, rfl, HC.out.below hb2 (Nat.le_refl _), ?_⟩
  replace HC := hide (HC.out.below hb2 (Nat.le_refl _))
  replace HB := hide (over HB.out hb2 HB.out.size)
  clear hb2
  simp only [List.set]
  refine sched_pick (i := 27) true (.bool true) rfl rfl rfl rfl rfl rfl ?_
  simp only [List.set]
  refine sched_move (i := 28) (.bool true) rfl rfl rfl rfl rfl ?_
  simp only [List.set]
  refine sched_take (i := 29) rfl rfl rfl (take_fa 0 (by decide) rfl rfl) ?_
  simp only [List.set]
  refine sched_take (i := 30) rfl rfl rfl (take_ld rfl rfl fun w h => h.c0) ?_
  simp only [List.set]
  refine sched_take (i := 32) rfl rfl rfl (take_fa 4 (by decide) rfl rfl) ?_
  simp only [List.set]
  refine sched_take (i := 33) rfl rfl rfl (take_ld rfl rfl fun w h => h.c4) ?_
  simp only [List.set]
  refine sched_call (i := 31) rfl rfl rfl rfl enters67 ((nextSpan_any _ _).mono ?_)
  rintro e w2 ⟨rfl, hb2⟩
  refine ⟨_, rfl, HC.out.below hb2 (Nat.le_refl _), ?_⟩
  replace HC := hide (HC.out.below hb2 (Nat.le_refl _))
  replace HB := hide (over HB.out hb2 HB.out.size)
  clear hb2
  simp only [List.set]
  cases h5 : holdsB (0) (nextHi r.kind) r.next
  · refine sched_call (i := 34) rfl rfl rfl rfl enters63 ((holds_any _ _ _ _ _ h5).mono ?_)
    rintro e w2 ⟨rfl, hb2⟩
    refine ⟨_, rfl, HC.out.below hb2 (Nat.le_refl _), ?_⟩
    simp only [List.set]
    refine sched_pick (i := 35) true (.bool false) rfl rfl rfl rfl rfl rfl ?_
    simp only [List.set]
    refine sched_move (i := 36) (.bool false) rfl rfl rfl rfl rfl ?_
    simp only [List.set]
    refine sched_skip [(37, true), (38, true), (40, true), (41, true), (39, false), (42, false)] (by kernel_rfl) (HC.out.below hb2 (Nat.le_refl _)) ?_
    refine sched_pick (i := 43) false (.bool false) rfl rfl rfl rfl rfl rfl ?_
    simp only [List.set]
    refine sched_move (i := 44) (.bool false) rfl rfl rfl rfl rfl ?_
    simp only [List.set]
    refine sched_skip [(45, true), (46, false)] (by kernel_rfl) (HC.out.below hb2 (Nat.le_refl _)) ?_
    refine sched_pick (i := 47) false (.bool false) rfl rfl rfl rfl rfl rfl ?_
    simp only [List.set]
    refine sched_move (i := 48) (.bool false) rfl rfl rfl rfl rfl ?_
    simp only [List.set]
    refine sched_skip [(49, true), (50, false)] (by kernel_rfl) (HC.out.below hb2 (Nat.le_refl _)) ?_
    refine sched_pick (i := 51) false (.bool false) rfl rfl rfl rfl rfl rfl ?_
    simp only [List.set]
    refine sched_move (i := 52) (.bool false) rfl rfl rfl rfl rfl ?_
    simp only [List.set]
    refine sched_skip [(53, true), (54, false)] (by kernel_rfl) (HC.out.below hb2 (Nat.le_refl _)) ?_
    refine sched_pick (i := 55) false (.bool false) rfl rfl rfl rfl rfl rfl ?_
    simp only [List.set]
    refine sched_assign (i := 56) (.bool false) rfl rfl rfl rfl rfl ?_
    simp only [List.set]
    refine sched_nil ?_
    have hB2 := over HB.out hb2 HB.out.size
    have HB2 := hide hB2
    have hE2 := HG.out _ hB2
    clear hB2 hb2
    go_wp2_with fail
    go_ret
    exact ⟨ret_bad (by unfold goodB; rw [h1, h2, h3, h4, h5]; rfl), HB2.out⟩
  refine sched_call (i := 34) rfl rfl rfl rfl enters63 ((holds_any _ _ _ _ _ h5).mono ?_)
  rintro e w2 ⟨rfl, hb2⟩
  refine ⟨_, rfl, HC.out.below hb2 (Nat.le_refl _), ?_⟩
  replace HC := hide (HC.out.below hb2 (Nat.le_refl _))
  replace HB := hide (over HB.out hb2 HB.out.size)
  clear hb2
  simp only [List.set]
  refine sched_pick (i := 35) true (.bool true) rfl rfl rfl rfl rfl rfl ?_
  simp only [List.set]
  refine sched_move (i := 36) (.bool true) rfl rfl rfl rfl rfl ?_
  simp only [List.set]
  refine sched_take (i := 37) rfl rfl rfl (take_fa 0 (by decide) rfl rfl) ?_
  simp only [List.set]
  refine sched_take (i := 38) rfl rfl rfl (take_ld rfl rfl fun w h => h.c0) ?_
  simp only [List.set]
  refine sched_take (i := 40) rfl rfl rfl (take_fa 5 (by decide) rfl rfl) ?_
  simp only [List.set]
  refine sched_take (i := 41) rfl rfl rfl (take_ld rfl rfl fun w h => h.c5) ?_
  simp only [List.set]
  refine sched_call (i := 39) rfl rfl rfl rfl enters68 ((keySpan_any _ _).mono ?_)
  rintro e w2 ⟨rfl, hb2⟩
  refine ⟨_, rfl, HC.out.below hb2 (Nat.le_refl _), ?_⟩
  replace HC := hide (HC.out.below hb2 (Nat.le_refl _))
  replace HB := hide (over HB.out hb2 HB.out.size)
  clear hb2
  simp only [List.set]
  cases h6 : holdsB (0) (keyHi r.kind) r.key
  · refine sched_call (i := 42) rfl rfl rfl rfl enters63 ((holds_any _ _ _ _ _ h6).mono ?_)
    rintro e w2 ⟨rfl, hb2⟩
    refine ⟨_, rfl, HC.out.below hb2 (Nat.le_refl _), ?_⟩
    simp only [List.set]
    refine sched_pick (i := 43) true (.bool false) rfl rfl rfl rfl rfl rfl ?_
    simp only [List.set]
    refine sched_move (i := 44) (.bool false) rfl rfl rfl rfl rfl ?_
    simp only [List.set]
    refine sched_skip [(45, true), (46, false)] (by kernel_rfl) (HC.out.below hb2 (Nat.le_refl _)) ?_
    refine sched_pick (i := 47) false (.bool false) rfl rfl rfl rfl rfl rfl ?_
    simp only [List.set]
    refine sched_move (i := 48) (.bool false) rfl rfl rfl rfl rfl ?_
    simp only [List.set]
    refine sched_skip [(49, true), (50, false)] (by kernel_rfl) (HC.out.below hb2 (Nat.le_refl _)) ?_
    refine sched_pick (i := 51) false (.bool false) rfl rfl rfl rfl rfl rfl ?_
    simp only [List.set]
    refine sched_move (i := 52) (.bool false) rfl rfl rfl rfl rfl ?_
    simp only [List.set]
    refine sched_skip [(53, true), (54, false)] (by kernel_rfl) (HC.out.below hb2 (Nat.le_refl _)) ?_
    refine sched_pick (i := 55) false (.bool false) rfl rfl rfl rfl rfl rfl ?_
    simp only [List.set]
    refine sched_assign (i := 56) (.bool false) rfl rfl rfl rfl rfl ?_
    simp only [List.set]
    refine sched_nil ?_
    have hB2 := over HB.out hb2 HB.out.size
    have HB2 := hide hB2
    have hE2 := HG.out _ hB2
    clear hB2 hb2
    go_wp2_with fail
    go_ret
    exact ⟨ret_bad (by unfold goodB; rw [h1, h2, h3, h4, h5, h6]; rfl), HB2.out⟩
  refine sched_call (i := 42) rfl rfl rfl rfl enters63 ((holds_any _ _ _ _ _ h6).mono ?_)
  rintro e w2 ⟨rfl, hb2⟩
  refine ⟨_, rfl, HC.out.below hb2 (Nat.le_refl _), ?_⟩
  replace HC := hide (HC.out.below hb2 (Nat.le_refl _))
  replace HB := hide (over HB.out hb2 HB.out.size)
  clear hb2
  simp only [List.set]
  refine sched_pick (i := 43) true (.bool true) rfl rfl rfl rfl rfl rfl ?_
  simp only [List.set]
  refine sched_move (i := 44) (.bool true) rfl rfl rfl rfl rfl ?_
  simp only [List.set]
  refine sched_take (i := 45) rfl rfl rfl (take_ldR rfl rfl) ?_
  simp only [List.set]
  cases h7 : oldB r
  · refine sched_call (i := 46) rfl rfl rfl rfl enters69 ((oldHolds_any r _ _ h7).mono ?_)
    rintro e w2 ⟨rfl, hb2⟩
    refine ⟨_, rfl, HC.out.below hb2 (Nat.le_refl _), ?_⟩
    simp only [List.set]
    refine sched_pick (i := 47) true (.bool false) rfl rfl rfl rfl rfl rfl ?_
    simp only [List.set]
    refine sched_move (i := 48) (.bool false) rfl rfl rfl rfl rfl ?_
    simp only [List.set]
    refine sched_skip [(49, true), (50, false)] (by kernel_rfl) (HC.out.below hb2 (Nat.le_refl _)) ?_
    refine sched_pick (i := 51) false (.bool false) rfl rfl rfl rfl rfl rfl ?_
    simp only [List.set]
    refine sched_move (i := 52) (.bool false) rfl rfl rfl rfl rfl ?_
    simp only [List.set]
    refine sched_skip [(53, true), (54, false)] (by kernel_rfl) (HC.out.below hb2 (Nat.le_refl _)) ?_
    refine sched_pick (i := 55) false (.bool false) rfl rfl rfl rfl rfl rfl ?_
    simp only [List.set]
    refine sched_assign (i := 56) (.bool false) rfl rfl rfl rfl rfl ?_
    simp only [List.set]
    refine sched_nil ?_
    have hB2 := over HB.out hb2 HB.out.size
    have HB2 := hide hB2
    have hE2 := HG.out _ hB2
    clear hB2 hb2
    go_wp2_with fail
    go_ret
    exact ⟨ret_bad (by unfold goodB; rw [h1, h2, h3, h4, h5, h6, h7]; rfl), HB2.out⟩
  refine sched_call (i := 46) rfl rfl rfl rfl enters69 ((oldHolds_any r _ _ h7).mono ?_)
  rintro e w2 ⟨rfl, hb2⟩
  refine ⟨_, rfl, HC.out.below hb2 (Nat.le_refl _), ?_⟩
  replace HC := hide (HC.out.below hb2 (Nat.le_refl _))
  replace HB := hide (over HB.out hb2 HB.out.size)
  clear hb2
  simp only [List.set]
  refine sched_pick (i := 47) true (.bool true) rfl rfl rfl rfl rfl rfl ?_
  simp only [List.set]
  refine sched_move (i := 48) (.bool true) rfl rfl rfl rfl rfl ?_
  simp only [List.set]
  refine sched_take (i := 49) rfl rfl rfl (take_ldR rfl rfl) ?_
  simp only [List.set]
  cases h8 : newB r
  · refine sched_call (i := 50) rfl rfl rfl rfl enters70 ((newHolds_any r _ _ h8).mono ?_)
    rintro e w2 ⟨rfl, hb2⟩
    refine ⟨_, rfl, HC.out.below hb2 (Nat.le_refl _), ?_⟩
    simp only [List.set]
    refine sched_pick (i := 51) true (.bool false) rfl rfl rfl rfl rfl rfl ?_
    simp only [List.set]
    refine sched_move (i := 52) (.bool false) rfl rfl rfl rfl rfl ?_
    simp only [List.set]
    refine sched_skip [(53, true), (54, false)] (by kernel_rfl) (HC.out.below hb2 (Nat.le_refl _)) ?_
    refine sched_pick (i := 55) false (.bool false) rfl rfl rfl rfl rfl rfl ?_
    simp only [List.set]
    refine sched_assign (i := 56) (.bool false) rfl rfl rfl rfl rfl ?_
    simp only [List.set]
    refine sched_nil ?_
    have hB2 := over HB.out hb2 HB.out.size
    have HB2 := hide hB2
    have hE2 := HG.out _ hB2
    clear hB2 hb2
    go_wp2_with fail
    go_ret
    exact ⟨ret_bad (by unfold goodB; rw [h1, h2, h3, h4, h5, h6, h7, h8]; rfl), HB2.out⟩
  refine sched_call (i := 50) rfl rfl rfl rfl enters70 ((newHolds_any r _ _ h8).mono ?_)
  rintro e w2 ⟨rfl, hb2⟩
  refine ⟨_, rfl, HC.out.below hb2 (Nat.le_refl _), ?_⟩
  replace HC := hide (HC.out.below hb2 (Nat.le_refl _))
  replace HB := hide (over HB.out hb2 HB.out.size)
  clear hb2
  simp only [List.set]
  refine sched_pick (i := 51) true (.bool true) rfl rfl rfl rfl rfl rfl ?_
  simp only [List.set]
  refine sched_move (i := 52) (.bool true) rfl rfl rfl rfl rfl ?_
  simp only [List.set]
  refine sched_take (i := 53) rfl rfl rfl (take_ldR rfl rfl) ?_
  simp only [List.set]
  cases h9 : chgB r
  · refine sched_call (i := 54) rfl rfl rfl rfl enters71 ((changes_any r _ _ h9).mono ?_)
    rintro e w2 ⟨rfl, hb2⟩
    refine ⟨_, rfl, HC.out.below hb2 (Nat.le_refl _), ?_⟩
    simp only [List.set]
    refine sched_pick (i := 55) true (.bool false) rfl rfl rfl rfl rfl rfl ?_
    simp only [List.set]
    refine sched_assign (i := 56) (.bool false) rfl rfl rfl rfl rfl ?_
    simp only [List.set]
    refine sched_nil ?_
    have hB2 := over HB.out hb2 HB.out.size
    have HB2 := hide hB2
    have hE2 := HG.out _ hB2
    clear hB2 hb2
    go_wp2_with fail
    go_ret
    exact ⟨ret_bad (by unfold goodB; rw [h1, h2, h3, h4, h5, h6, h7, h8, h9]; rfl), HB2.out⟩
  refine sched_call (i := 54) rfl rfl rfl rfl enters71 ((changes_any r _ _ h9).mono ?_)
  rintro e w2 ⟨rfl, hb2⟩
  refine ⟨_, rfl, HC.out.below hb2 (Nat.le_refl _), ?_⟩
  replace HC := hide (HC.out.below hb2 (Nat.le_refl _))
  replace HB := hide (over HB.out hb2 HB.out.size)
  clear hb2
  simp only [List.set]
  refine sched_pick (i := 55) true (.bool true) rfl rfl rfl rfl rfl rfl ?_
  simp only [List.set]
  refine sched_assign (i := 56) (.bool true) rfl rfl rfl rfl rfl ?_
  simp only [List.set]
  refine sched_nil ?_
  go_wp2_with fail
  go_ret
  exact ⟨ret_good (by unfold goodB; rw [h1, h2, h3, h4, h5, h6, h7, h8, h9]; rfl), HB.out⟩
end Go.Proofs.YtjacenhblclkaaaDoor

/- What phoenixmake.Rec makes out of a list of numbers: a record that may be; only the list's own counter is written. -/
namespace Go.Proofs.YtjacenhblclkaaaDoor
open Go.RowKit
set_option linter.unusedVariables false

/-- Of all blocks that were there none but s has turned. -/
structure But (s : Nat) (w w' : World) : Prop where
  os : w'.os = w.os
  tape : w'.tape = w.tape
  output : w'.output = w.output
  size : w.heap.size ≤ w'.heap.size
  block : ∀ k, k < w.heap.size → k ≠ s → w'.heap[k]? = w.heap[k]?
theorem But.refl (s : Nat) (w : World) : But s w w := ⟨rfl, rfl, rfl, Nat.le_refl _, fun _ _ _ => rfl⟩
theorem But.trans {s : Nat} {a b c : World} (h : But s a b) (k : But s b c) : But s a c :=
  ⟨k.os.trans h.os, k.tape.trans h.tape, k.output.trans h.output, Nat.le_trans h.size k.size, fun i hi hs => (k.block i (Nat.lt_of_lt_of_le hi h.size) hs).trans (h.block i hi hs)⟩
theorem But.of_below {s : Nat} {a b : World} (h : Below a.heap.size a b) : But s a b := ⟨h.os, h.tape, h.output, h.size, fun k hk _ => h.block k hk⟩
theorem But.below {s : Nat} {a b : World} (h : But s a b) (hs : s ≤ a.heap.size) : Below s a b := ⟨h.os, h.tape, h.output, h.size, fun k hk => h.block k (Nat.lt_of_lt_of_le hk hs) (Nat.ne_of_lt hk)⟩
theorem But.alloc {s : Nat} {a b : World} (h : But s a b) (A : Obj) : But s a (b.alloc A) := h.trans (But.of_below ((Below.refl _ _).alloc (Nat.le_refl _) A))
theorem But.set (s : Nat) (w : World) (o : Nat) (v : Value) (q : Nat) : But s w ((w.setCell ⟨s, o, none⟩ v).drewN q) := by
  refine ⟨rfl, rfl, rfl, ?_, fun k hk hs => ?_⟩
  · show w.heap.size ≤ (w.setCell _ _).heap.size; simp [World.setCell]
  · show (w.setCell _ _).heap[k]? = _
    simp only [World.setCell, Array.getElem?_modify]
    rw [if_neg (fun e => hs e.symm)]
theorem set_block {w : World} {s : Nat} {c : Array Value} {t : TypeId} (h : w.heap[s]? = some (.cells c t (0, 0))) (o : Nat) (v : Value) : (w.setCell ⟨s, o, none⟩ v).heap[s]? = some (.cells (c.setIfInBounds o v) t (0, 0)) := by
  simp [World.setCell, Array.getElem?_modify, h]
theorem set_alloc (x : World) (A : Obj) (p : Addr) (v : Value) (h : p.block < x.heap.size) : (x.alloc A).setCell p v = (x.setCell p v).alloc A := by
  unfold World.setCell World.alloc
  simp only
  congr 1
  refine Array.ext (by simp) fun i h1 h2 => ?_
  simp only [Array.getElem_modify, Array.getElem_push, Array.size_modify]
  by_cases e : i < x.heap.size
  · simp [e]
  · have : ¬ p.block = i := by omega
    simp [e, this]
theorem good_of {r : R} (h : holdsB 1 10 r.kind = true ∧ holdsB (txnLo r.kind) (txnHi r.kind) r.txn = true ∧ holdsB (pageLo r.kind) (pageHi r.kind) r.page = true ∧ holdsB (prevLo r.kind) (prevHi r.kind) r.prev = true ∧ holdsB 0 (nextHi r.kind) r.next = true ∧ holdsB 0 (keyHi r.kind) r.key = true ∧ oldB r = true) (h' : (newB r && chgB r) = true) : goodB r = true := by
  unfold goodB
  obtain ⟨h1, h2, h3, h4, h5, h6, h7⟩ := h
  rw [h1, h2, h3, h4, h5, h6, h7, h']
  rfl
end Go.Proofs.YtjacenhblclkaaaDoor

/- What rec.Bytes answers: ErrRange of a record that may not be; else its forty bytes, in new memory. -/
namespace Go.Proofs.YtjacenhblclkaaaDoor
open Go.RowKit
set_option linter.unusedVariables false

/-- A list and an error, as what a function hands back. -/
theorem bytes_len (l cap : Nat) (ao : Option Addr) (xs : List Int) (a s n : Int) (w : World) (h : Row w ao xs) (hl : xs.length = l) (ha : -9223372036854775808 ≤ a) (ha' : a ≤ 9223372036854775807) (hn : 0 ≤ n) (hn' : n ≤ 18446744073709551615) :
    Calls Tryd.prog 75 #[.slice ao l cap, .int .i64 a, .int .i64 s, .int .u64 n] w fun e w' => e = .returned (.slice (some ⟨w.heap.size, 0, none⟩) l l) ∧ Own w' w.heap.size (some ⟨w.heap.size, 0, none⟩) l (putB xs a n (widthB s).toNat) ∧ Below w.heap.size w w' := by subst hl; exact put_any ao cap xs a s n w h ha ha' hn hn'
theorem fill_nil : fillB [] 40 = List.replicate 40 0 := by decide
theorem u64_wrap (n : Int) : IntKind.u64.wrap n = u64 n := by rw [IntKind.wrap_u64]; rfl
/-- A record lies in memory, cell by cell. -/
structure Cells10 (w : World) (B : Nat) (r : R) : Prop where
  c0 : w.cell? ⟨B, 0, none⟩ = some (.int .i64 r.kind)
  c1 : w.cell? ⟨B, 1, none⟩ = some (.int .i64 r.txn)
  c2 : w.cell? ⟨B, 2, none⟩ = some (.int .i64 r.page)
  c3 : w.cell? ⟨B, 3, none⟩ = some (.int .i64 r.prev)
  c4 : w.cell? ⟨B, 4, none⟩ = some (.int .i64 r.next)
  c5 : w.cell? ⟨B, 5, none⟩ = some (.int .i64 r.key)
  c6 : w.cell? ⟨B, 6, none⟩ = some (.bool r.had)
  c7 : w.cell? ⟨B, 7, none⟩ = some (.bool r.has)
  c8 : w.cell? ⟨B, 8, none⟩ = some (.int .i64 r.old)
  c9 : w.cell? ⟨B, 9, none⟩ = some (.int .i64 r.new)
  lt : B < w.heap.size
theorem Cells10.below {w w' : World} {B n : Nat} {r : R} (h : Cells10 w B r) (hb : Below n w w') (hn : w.heap.size ≤ n) : Cells10 w' B r := by
  have hl := h.lt
  have h0 : ∀ o, w'.cell? ⟨B, o, none⟩ = w.cell? ⟨B, o, none⟩ := fun o => hb.cell (show B < n by omega)
  exact ⟨(h0 _).trans h.c0, (h0 _).trans h.c1, (h0 _).trans h.c2, (h0 _).trans h.c3, (h0 _).trans h.c4, (h0 _).trans h.c5, (h0 _).trans h.c6, (h0 _).trans h.c7, (h0 _).trans h.c8, (h0 _).trans h.c9, Nat.lt_of_lt_of_le hl hb.size⟩
/-- A record's block. -/
def recCells (r : R) : Obj := .cells #[.int .i64 r.kind, .int .i64 r.txn, .int .i64 r.page, .int .i64 r.prev, .int .i64 r.next, .int .i64 r.key, .bool r.had, .bool r.has, .int .i64 r.old, .int .i64 r.new] 42
theorem cells10_new (w : World) (r : R) : Cells10 (w.alloc (recCells r)) w.heap.size r := by
  unfold recCells
  constructor <;> simp

set_option maxHeartbeats 1000000 in
theorem recBytes_bad (r : R) (w : World) (x : Addr) (hE : w.cell? ⟨0, 0, none⟩ = some (errV x)) (hg : goodB r = false) :
    Calls Tryd.prog 110 #[r.val] w fun e w' => e = .returned (.tuple #[.slice none 0 0, errV x]) ∧ Below w.heap.size w w' := by
  have HE2 : Hid ((w.alloc (recCells r)).cell? ⟨0, 0, none⟩ = some (errV x)) := ((below_box w (recCells r)).cell (World.block_lt_of_cell? w _ hE)).trans hE
  have HB := hide (below_box w (recCells r))
  unfold recCells at HE2 HB
  clear hE
  show Calls Tryd.prog 110 #[.agg #[.int .i64 r.kind, .int .i64 r.txn, .int .i64 r.page, .int .i64 r.prev, .int .i64 r.next, .int .i64 r.key, .bool r.had, .bool r.has, .int .i64 r.old, .int .i64 r.new]] w _
  go_enter Tryd.func110, Tryd.ntmps110
  go_wp2_with fail
  refine (check_any r _ x HE2.out).mono ?_
  rintro e w2 ⟨rfl, hb2⟩
  rw [checkV_bad hg]
  have HB2 := hide (over HB.out hb2 HB.out.size)
  clear hb2
  unfold errV
  go_wp2_with fail
  go_ret2
  exact ⟨rfl, HB2.out⟩
set_option maxHeartbeats 4000000 in
theorem recBytes_good (r : R) (w : World) (x : Addr) (hE : w.cell? ⟨0, 0, none⟩ = some (errV x)) (hg : goodB r = true) :
    Calls Tryd.prog 110 #[r.val] w fun e w' => ∃ g, e = .returned (.tuple #[.slice (some ⟨g, 0, none⟩) 40 40, .nilIface]) ∧ w.heap.size ≤ g ∧ Own w' g (some ⟨g, 0, none⟩) 40 (recB r) ∧ Below w.heap.size w w' := by
  have HE2 : Hid ((w.alloc (recCells r)).cell? ⟨0, 0, none⟩ = some (errV x)) := ((below_box w (recCells r)).cell (World.block_lt_of_cell? w _ hE)).trans hE
  have HB := hide (below_box w (recCells r))
  have HC := hide (cells10_new w r)
  unfold recCells at HE2 HB HC
  obtain ⟨⟨s0, s1⟩, ⟨t0, t1⟩, ⟨p0, p1⟩, ⟨v0, v1⟩, ⟨n0, n1⟩, ⟨y0, y1⟩⟩ := R.small hg
  clear hE
  show Calls Tryd.prog 110 #[.agg #[.int .i64 r.kind, .int .i64 r.txn, .int .i64 r.page, .int .i64 r.prev, .int .i64 r.next, .int .i64 r.key, .bool r.had, .bool r.has, .int .i64 r.old, .int .i64 r.new]] w _
  go_enter Tryd.func110, Tryd.ntmps110
  go_wp2_with fail
  refine (check_any r _ x HE2.out).mono ?_
  rintro e w2 ⟨rfl, hb⟩
  rw [checkV_good hg]
  replace HC := hide (HC.out.below hb (Nat.le_refl _))
  replace HB := hide (over HB.out hb HB.out.size)
  clear hb HE2
  go_wp2_with fail
  refine (fill_any none 0 [] 40 _ (row_nil _) (by omega)).mono ?_
  rintro e w3 ⟨rfl, hown, hb⟩
  rw [fill_nil, List.length_replicate] at hown ⊢
  have HO := hide hown
  replace HC := hide (HC.out.below hb (Nat.le_refl _))
  replace HB := hide (over HB.out hb HB.out.size)
  clear hown hb
  have k := HC.out.c0
  go_wp2_with fail
  clear k
  refine (bytes_len 40 40 _ (List.replicate 40 0) _ _ (r.kind) _ HO.out.row (List.length_replicate ..) (by omega) (by omega) (by omega) (by omega)).mono ?_
  rintro e wp ⟨rfl, hown, hb⟩
  replace HO : Hid (Own wp _ _ 40 (rec1 r)) := hown
  replace HC := hide (HC.out.below hb (Nat.le_refl _))
  have HS := hide HB.out.size
  replace HB := hide (over HB.out hb HB.out.size)
  clear hown hb
  obtain ⟨k0, k1, k2, k3, k4, k5, k6, k7, k8, k9, kl⟩ := HC.out
  go_wp2_with fail
  clear k0 k1 k2 k3 k4 k5 k6 k7 k8 k9 kl
  refine (marks_any r _).mono ?_
  rintro e wm ⟨rfl, hb⟩
  replace HO := hide (HO.out.below hb (Nat.le_refl _))
  replace HC := hide (HC.out.below hb (Nat.le_refl _))
  replace HB := hide (over HB.out hb HB.out.size)
  clear hb
  go_wp2_with fail
  refine (bytes_len 40 40 _ (rec1 r) _ _ (markB r) _ HO.out.row (length_rec1 r) (by omega) (by omega) (markB_bd r).1 (Int.le_trans (markB_bd r).2 (by omega))).mono ?_
  rintro e wp ⟨rfl, hown, hb⟩
  replace HO : Hid (Own wp _ _ 40 (rec2 r)) := hown
  replace HC := hide (HC.out.below hb (Nat.le_refl _))
  have HS := hide HB.out.size
  replace HB := hide (over HB.out hb HB.out.size)
  clear hown hb
  have k := HC.out.c1
  go_wp2_with fail
  clear k
  refine (bytes_len 40 40 _ (rec2 r) _ _ (r.txn) _ HO.out.row (length_rec2 r) (by omega) (by omega) (by omega) (by omega)).mono ?_
  rintro e wp ⟨rfl, hown, hb⟩
  replace HO : Hid (Own wp _ _ 40 (rec3 r)) := hown
  replace HC := hide (HC.out.below hb (Nat.le_refl _))
  have HS := hide HB.out.size
  replace HB := hide (over HB.out hb HB.out.size)
  clear hown hb
  have k := HC.out.c2
  go_wp2_with fail
  clear k
  refine (bytes_len 40 40 _ (rec3 r) _ _ (r.page) _ HO.out.row (length_rec3 r) (by omega) (by omega) (by omega) (by omega)).mono ?_
  rintro e wp ⟨rfl, hown, hb⟩
  replace HO : Hid (Own wp _ _ 40 (rec4 r)) := hown
  replace HC := hide (HC.out.below hb (Nat.le_refl _))
  have HS := hide HB.out.size
  replace HB := hide (over HB.out hb HB.out.size)
  clear hown hb
  have k := HC.out.c3
  go_wp2_with fail
  clear k
  refine (bytes_len 40 40 _ (rec4 r) _ _ (r.prev) _ HO.out.row (length_rec4 r) (by omega) (by omega) (by omega) (by omega)).mono ?_
  rintro e wp ⟨rfl, hown, hb⟩
  replace HO : Hid (Own wp _ _ 40 (rec5 r)) := hown
  replace HC := hide (HC.out.below hb (Nat.le_refl _))
  have HS := hide HB.out.size
  replace HB := hide (over HB.out hb HB.out.size)
  clear hown hb
  have k := HC.out.c4
  go_wp2_with fail
  clear k
  refine (bytes_len 40 40 _ (rec5 r) _ _ (r.next) _ HO.out.row (length_rec5 r) (by omega) (by omega) (by omega) (by omega)).mono ?_
  rintro e wp ⟨rfl, hown, hb⟩
  replace HO : Hid (Own wp _ _ 40 (rec6 r)) := hown
  replace HC := hide (HC.out.below hb (Nat.le_refl _))
  have HS := hide HB.out.size
  replace HB := hide (over HB.out hb HB.out.size)
  clear hown hb
  have k := HC.out.c5
  go_wp2_with fail
  clear k
  refine (bytes_len 40 40 _ (rec6 r) _ _ (r.key) _ HO.out.row (length_rec6 r) (by omega) (by omega) (by omega) (by omega)).mono ?_
  rintro e wp ⟨rfl, hown, hb⟩
  replace HO : Hid (Own wp _ _ 40 (rec7 r)) := hown
  replace HC := hide (HC.out.below hb (Nat.le_refl _))
  have HS := hide HB.out.size
  replace HB := hide (over HB.out hb HB.out.size)
  clear hown hb
  have k := HC.out.c8
  go_wp2_with fail
  rw [u64_wrap]
  clear k
  refine (bytes_len 40 40 _ (rec7 r) _ _ (u64 r.old) _ HO.out.row (length_rec7 r) (by omega) (by omega) (u64_bd _).1 (u64_bd _).2).mono ?_
  rintro e wp ⟨rfl, hown, hb⟩
  replace HO : Hid (Own wp _ _ 40 (rec8 r)) := hown
  replace HC := hide (HC.out.below hb (Nat.le_refl _))
  have HS := hide HB.out.size
  replace HB := hide (over HB.out hb HB.out.size)
  clear hown hb
  have k := HC.out.c9
  go_wp2_with fail
  rw [u64_wrap]
  clear k
  refine (bytes_len 40 40 _ (rec8 r) _ _ (u64 r.new) _ HO.out.row (length_rec8 r) (by omega) (by omega) (u64_bd _).1 (u64_bd _).2).mono ?_
  rintro e wp ⟨rfl, hown, hb⟩
  replace HO : Hid (Own wp _ _ 40 (recB r)) := hown
  replace HC := hide (HC.out.below hb (Nat.le_refl _))
  have HS := hide HB.out.size
  replace HB := hide (over HB.out hb HB.out.size)
  clear hown hb
  go_wp2_with fail
  go_ret2
  exact ⟨_, rfl, HS.out, HO.out, HB.out⟩
end Go.Proofs.YtjacenhblclkaaaDoor

/- The chapter's examples on records, as the statements ask them first: they hold, and nothing that was there is written. -/
namespace Go.Proofs.YtjacenhblclkaaaDoor
open Go.RowKit
set_option linter.unusedVariables false

def ckBegin : R := ⟨7, 0, 0, 0, 0, 0, false, false, 0, 0⟩
def emptyRec : R := ⟨0, 0, 0, 0, 0, 0, false, false, 0, 0⟩
theorem ck_good : goodB ckBegin = true := by decide
theorem empty_bad : goodB emptyRec = false := by decide
theorem ck_first : (recB ckBegin).getD 0 0 = 7 := by decide +kernel
end Go.Proofs.YtjacenhblclkaaaDoor

/- What rec.Read and rec.Same answer: the record whose bytes they are, or why there is none; whether two are the same. -/
namespace Go.Proofs.YtjacenhblclkaaaDoor
open Go.RowKit
set_option linter.unusedVariables false

theorem str_eq {xs ys : List Int} (hx : Bytes xs) (hy : Bytes ys) : ((strOfNums xs).toList == (strOfNums ys).toList) = sameB xs ys := by
  have hinj : ∀ a b : Int, 0 ≤ a → a ≤ 255 → 0 ≤ b → b ≤ 255 → UInt8.ofNat a.toNat = UInt8.ofNat b.toNat → a = b := by
    intro a b a0 a1 b0 b1 h
    have h2 := congrArg UInt8.toNat h
    simp only [UInt8.toNat_ofNat'] at h2
    omega
  have hmap : ∀ xs ys : List Int, Bytes xs → Bytes ys → (xs.map fun n => UInt8.ofNat n.toNat) = (ys.map fun n => UInt8.ofNat n.toNat) → xs = ys := by
    intro xs
    induction xs with
    | nil => intro ys _ _ h; cases ys with | nil => rfl | cons y ys => simp at h
    | cons x xs ih =>
      intro ys hx hy h
      cases ys with
      | nil => simp at h
      | cons y ys =>
        simp only [List.map_cons, List.cons.injEq] at h
        have h0 := hx x (by simp)
        have h1 := hy y (by simp)
        rw [hinj x y h0.1 h0.2 h1.1 h1.2 h.1, ih ys (fun z hz => hx z (by simp [hz])) (fun z hz => hy z (by simp [hz])) h.2]
  unfold sameB
  rw [ByteArray.toList_eq, ByteArray.toList_eq, strOfNums_data, strOfNums_data]
  by_cases h : xs = ys
  · simp [h]
  · rw [decide_eq_false h, beq_eq_false_iff_ne]
    exact fun e => h (hmap xs ys hx hy e)
set_option maxHeartbeats 400000 in
theorem equal_any (ao : Option Addr) (n cap : Nat) (xs : List Int) (bo : Option Addr) (n' cap' : Nat) (ys : List Int) (w : World) (h : Row w ao xs) (h' : Row w bo ys) (hn : xs.length = n) (hn' : ys.length = n') (h0 : 0 < n) (h0' : 0 < n') :
    Calls Tryd.prog 45 #[.slice ao n cap, .slice bo n' cap'] w fun e w' => e = .returned (.bool (sameB xs ys)) ∧ w' = w := by
  obtain ⟨b, off, rfl, _, hc⟩ := h.2.2 (by omega)
  obtain ⟨b', off', rfl, _, hc'⟩ := h'.2.2 (by omega)
  have k1 := run_convert_bytes_arg (P := Tryd.prog) w 44 5 Tryd.underlying44 Tryd.underlying5 b off n cap xs hn (fun i hi => hc i (by omega)) 9 Tryd.underlying9
  have k2 := run_convert_bytes_arg (P := Tryd.prog) w 44 5 Tryd.underlying44 Tryd.underlying5 b' off' n' cap' ys hn' (fun i hi => hc' i (by omega)) 9 Tryd.underlying9
  have HE := hide (str_eq h.2.1 h'.2.1)
  clear hc hc' h h'
  go_enter Tryd.func45, Tryd.ntmps45
  go_wp2_with fail
  go_ret
  exact ⟨ret_bool HE.out, rfl⟩
theorem and_one (m : Int) (h0 : 0 ≤ m) (h1 : m ≤ 255) : (bits .and .u64 m 1 != 0) = decide (m % 2 = 1) := by
  have hk : ∀ n : Fin 256, (bits .and .u64 ((n : Nat) : Int) 1 != 0) = decide (((n : Nat) : Int) % 2 = 1) := by decide +kernel
  have := hk ⟨m.toNat, by omega⟩
  rwa [show (((⟨m.toNat, by omega⟩ : Fin 256) : Nat) : Int) = m by simp; omega] at this
theorem and_two (m : Int) (h0 : 0 ≤ m) (h1 : m ≤ 255) : (bits .and .u64 m 2 != 0) = decide (m / 2 % 2 = 1) := by
  have hk : ∀ n : Fin 256, (bits .and .u64 ((n : Nat) : Int) 2 != 0) = decide (((n : Nat) : Int) / 2 % 2 = 1) := by decide +kernel
  have := hk ⟨m.toNat, by omega⟩
  rwa [show (((⟨m.toNat, by omega⟩ : Fin 256) : Nat) : Int) = m by simp; omega] at this
theorem i64_wrap (n : Int) (h : 0 ≤ n ∧ n ≤ 18446744073709551615) : wrap64 n = i64 n := by
  unfold wrap64 i64
  split <;> omega
theorem get_at (ao : Option Addr) (n cap : Nat) (xs : List Int) (a s : Int) (w : World) (h : Row w ao xs) (hn : xs.length = n) (ha : -9223372036854775808 ≤ a) (ha' : a ≤ 9223372036854775807) :
    Calls Tryd.prog 73 #[.slice ao n cap, .int .i64 a, .int .i64 s] w fun e w' => e = .returned (.int .u64 (getB xs a (widthB s).toNat)) ∧ w' = w := by subst hn; exact get_any ao cap xs a s w h ha ha'
theorem getB_lt (xs : List Int) (hb : Bytes xs) (a : Int) (k : Nat) : 0 ≤ getB xs a k ∧ getB xs a k < 256 ^ k := num_bd k fun j => hb.byte _
/-- The errors that rec.Read can meet: their variables. -/
structure ReadErrs (w : World) (x y z : Addr) : Prop where
  range : w.cell? ⟨0, 0, none⟩ = some (errV x)
  short : w.cell? ⟨3, 0, none⟩ = some (errV y)
  rc : w.cell? ⟨5, 0, none⟩ = some (errV z)
theorem ReadErrs.step {w w' : World} {x y z : Addr} (h : ReadErrs w x y z) (hb : Below w.heap.size w w') : ReadErrs w' x y z :=
  ⟨(hb.cell (World.block_lt_of_cell? w _ h.range)).trans h.range, (hb.cell (World.block_lt_of_cell? w _ h.short)).trans h.short, (hb.cell (World.block_lt_of_cell? w _ h.rc)).trans h.rc⟩
def noRec : R := ⟨0, 0, 0, 0, 0, 0, false, false, 0, 0⟩
def zeroCells : Obj := .cells #[.int .i64 0, .int .i64 0, .int .i64 0, .int .i64 0, .int .i64 0, .int .i64 0, .bool false, .bool false, .int .i64 0, .int .i64 0] 42
/-- The block of a record that holds nothing yet. -/
structure ZeroAt (w : World) (B : Nat) : Prop where
  lies : w.heap[B]? = some (.cells #[.int .i64 0, .int .i64 0, .int .i64 0, .int .i64 0, .int .i64 0, .int .i64 0, .bool false, .bool false, .int .i64 0, .int .i64 0] 42 (0, 0))
theorem ZeroAt.below {w w' : World} {B n : Nat} (h : ZeroAt w B) (hb : Below n w w') (hn : w.heap.size ≤ n) : ZeroAt w' B := ⟨by rw [hb.block _ (Nat.lt_of_lt_of_le (lt_of_block h.lies) hn)]; exact h.lies⟩
theorem zero_lies (w : World) : ZeroAt (w.alloc zeroCells) w.heap.size := ⟨by unfold zeroCells; exact heap_alloc_new _ _⟩
theorem frozen_at {w : World} {d : Nat} {c : Array Value} {e : TypeId} (h : w.heap[d]? = some (.cells c e (0, 0))) (o : Nat) : w.frozen? ⟨d, o, none⟩ = false := by
  simp [World.frozen?, h]
theorem below_sets {B : Nat} {a w : World} (h : Below B a w) (v0 v1 v2 v3 v4 v5 v6 v7 v8 v9 : Value) : Below B a ((((((((((w.setCell ⟨B, 0, none⟩ v0).setCell ⟨B, 1, none⟩ v1).setCell ⟨B, 2, none⟩ v2).setCell ⟨B, 3, none⟩ v3).setCell ⟨B, 4, none⟩ v4).setCell ⟨B, 5, none⟩ v5).setCell ⟨B, 6, none⟩ v6).setCell ⟨B, 7, none⟩ v7).setCell ⟨B, 8, none⟩ v8).setCell ⟨B, 9, none⟩ v9) :=
  (((((((((h.setCell (Nat.le_refl _) v0).setCell (Nat.le_refl _) v1).setCell (Nat.le_refl _) v2).setCell (Nat.le_refl _) v3).setCell (Nat.le_refl _) v4).setCell (Nat.le_refl _) v5).setCell (Nat.le_refl _) v6).setCell (Nat.le_refl _) v7).setCell (Nat.le_refl _) v8).setCell (Nat.le_refl _) v9
end Go.Proofs.YtjacenhblclkaaaDoor

/- What the document's own GoodRec answers: the same as rec.Check. -/
namespace Go.Proofs.YtjacenhblclkaaaDoor
open Go.RowKit
set_option linter.unusedVariables false

theorem holds00 (n : Int) : holdsB 0 0 n = (n == 0) := by
  unfold holdsB
  by_cases h : n = 0
  · simp [h]
  · have : (n == 0) = false := by simpa using h
    rw [this, Bool.and_eq_false_iff]
    by_cases h0 : 0 ≤ n
    · exact .inr (decide_eq_false (by omega))
    · exact .inl (decide_eq_false h0)
theorem good1 (txn page prev next key : Int) (had has : Bool) (old new : Int) : goodB ⟨1, txn, page, prev, next, key, had, has, old, new⟩ = (holdsB 1 60000 txn && (holdsB 0 0 page && (holdsB 0 0 prev && (holdsB 0 0 next && (holdsB 0 0 key && ((!had && (old == 0)) && ((!has && (new == 0)) && true))))))) := rfl
theorem good2 (txn page prev next key : Int) (had has : Bool) (old new : Int) : goodB ⟨2, txn, page, prev, next, key, had, has, old, new⟩ = (holdsB 1 60000 txn && (holdsB 1 32 page && (holdsB 0 1073741824 prev && (holdsB 0 0 next && (holdsB 0 1048575 key && ((had || (old == 0)) && ((has || (new == 0)) && (had || has)))))))) := rfl
theorem good3 (txn page prev next key : Int) (had has : Bool) (old new : Int) : goodB ⟨3, txn, page, prev, next, key, had, has, old, new⟩ = (holdsB 1 60000 txn && (holdsB 1 32 page && (holdsB 0 1073741824 prev && (holdsB 0 1073741824 next && (holdsB 0 1048575 key && ((had && (decide (1 ≤ old) && decide (old ≤ 1073741824))) && ((has || (new == 0)) && true))))))) := rfl
end Go.Proofs.YtjacenhblclkaaaDoor

/- What the document's own GoodRec answers: the same as rec.Check. -/
namespace Go.Proofs.YtjacenhblclkaaaDoor
open Go.RowKit
set_option linter.unusedVariables false

theorem good4 (txn page prev next key : Int) (had has : Bool) (old new : Int) : goodB ⟨4, txn, page, prev, next, key, had, has, old, new⟩ = (holdsB 1 60000 txn && (holdsB 0 0 page && (holdsB 0 1073741824 prev && (holdsB 0 0 next && (holdsB 0 0 key && ((!had && (old == 0)) && ((!has && (new == 0)) && true))))))) := rfl
theorem good5 (txn page prev next key : Int) (had has : Bool) (old new : Int) : goodB ⟨5, txn, page, prev, next, key, had, has, old, new⟩ = (holdsB 1 60000 txn && (holdsB 0 0 page && (holdsB 0 1073741824 prev && (holdsB 0 0 next && (holdsB 0 0 key && ((!had && (old == 0)) && ((!has && (new == 0)) && true))))))) := rfl
theorem good6 (txn page prev next key : Int) (had has : Bool) (old new : Int) : goodB ⟨6, txn, page, prev, next, key, had, has, old, new⟩ = (holdsB 1 60000 txn && (holdsB 0 0 page && (holdsB 0 1073741824 prev && (holdsB 0 0 next && (holdsB 0 0 key && ((!had && (old == 0)) && ((!has && (new == 0)) && true))))))) := rfl
theorem good7 (txn page prev next key : Int) (had has : Bool) (old new : Int) : goodB ⟨7, txn, page, prev, next, key, had, has, old, new⟩ = (holdsB 0 0 txn && (holdsB 0 0 page && (holdsB 0 0 prev && (holdsB 0 0 next && (holdsB 0 0 key && ((!had && (old == 0)) && ((!has && (new == 0)) && true))))))) := rfl
end Go.Proofs.YtjacenhblclkaaaDoor

/- What the document's own GoodRec answers: the same as rec.Check. -/
namespace Go.Proofs.YtjacenhblclkaaaDoor
open Go.RowKit
set_option linter.unusedVariables false

theorem good8 (txn page prev next key : Int) (had has : Bool) (old new : Int) : goodB ⟨8, txn, page, prev, next, key, had, has, old, new⟩ = (holdsB 1 60000 txn && (holdsB 0 0 page && (holdsB 0 1073741824 prev && (holdsB 0 1073741824 next && (holdsB 0 2 key && ((!had && (old == 0)) && ((!has && (new == 0)) && true))))))) := rfl
theorem good9 (txn page prev next key : Int) (had has : Bool) (old new : Int) : goodB ⟨9, txn, page, prev, next, key, had, has, old, new⟩ = (holdsB 0 0 txn && (holdsB 1 32 page && (holdsB 1 1073741824 prev && (holdsB 0 0 next && (holdsB 0 0 key && ((!had && (old == 0)) && ((!has && (new == 0)) && true))))))) := rfl
theorem good10 (txn page prev next key : Int) (had has : Bool) (old new : Int) : goodB ⟨10, txn, page, prev, next, key, had, has, old, new⟩ = (holdsB 0 0 txn && (holdsB 0 0 page && (holdsB 0 0 prev && (holdsB 0 60000 next && (holdsB 0 0 key && ((!had && (old == 0)) && ((!has && (new == 0)) && true))))))) := rfl
end Go.Proofs.YtjacenhblclkaaaDoor

/- What rec.Same and the document's own SameRec answer: whether two records are the same in each part. -/
namespace Go.Proofs.YtjacenhblclkaaaDoor
open Go.RowKit
set_option linter.unusedVariables false

def sameR (a b : R) : Bool := decide (a.kind = b.kind ∧ a.txn = b.txn ∧ a.page = b.page ∧ a.prev = b.prev ∧ a.next = b.next ∧ a.key = b.key ∧ a.had = b.had ∧ a.has = b.has ∧ a.old = b.old ∧ a.new = b.new)
theorem eq_of_parts {a b : R} (h : a.kind = b.kind ∧ a.txn = b.txn ∧ a.page = b.page ∧ a.prev = b.prev ∧ a.next = b.next ∧ a.key = b.key ∧ a.had = b.had ∧ a.has = b.has ∧ a.old = b.old ∧ a.new = b.new) : a = b := by
  obtain ⟨a0, b0, c0, d0, e0, f0, g0, h0, i0, j0⟩ := a
  obtain ⟨a1, b1, c1, d1, e1, f1, g1, h1, i1, j1⟩ := b
  simp only at h
  obtain ⟨rfl, rfl, rfl, rfl, rfl, rfl, rfl, rfl, rfl, rfl⟩ := h
  rfl
theorem Tryd.st42 : Tryd.prog.underlying 42 = some (.struct (Tryd.prog.fieldsOf 42)) := by kernel_rfl
theorem Tryd.sh42 : Tryd.prog.stoodInHeld 42 = false := by kernel_rfl
theorem Tryd.gu42 : Tryd.prog.eqGuardType Tryd.prog.depth 42 = false := by kernel_rfl
theorem int_eq (d : Nat) (t : TypeId) (ht : Tryd.prog.underlying t = some (.int .i64)) (x y : Int) (w : World) : (Op.equalIn (d + 1) t (.int .i64 x) (.int .i64 y)).run Tryd.prog w = .ok (x == y) w := run_equalIn_int w d t .i64 .i64 x y ht
set_option maxHeartbeats 1000000 in
theorem eql_rec (a b : R) (w : World) : (binOp .eql 42 a.val b.val).run Tryd.prog w = .ok (.bool (sameR a b)) w := by
  obtain ⟨a0, b0, c0, d0, e0, f0, g0, h0, i0, j0⟩ := a
  obtain ⟨a1, b1, c1, d1, e1, f1, g1, h1, i1, j1⟩ := b
  unfold R.val
  simp only
  rw [run_eql_struct, show (10000 : Nat) = 9999 + 1 from rfl, run_equalIn_agg w 9999 42 _ _ Tryd.st42 Tryd.sh42]
  simp only [Program.fieldsOf, Tryd.underlying42]
  have e3 : ∀ (x y : Int) (w : World), (Op.equalIn 9999 3 (.int .i64 x) (.int .i64 y)).run Tryd.prog w = .ok (x == y) w := fun x y w => int_eq 9998 3 Tryd.underlying3 x y w
  have e2 : ∀ (x y : Int) (w : World), (Op.equalIn 9999 2 (.int .i64 x) (.int .i64 y)).run Tryd.prog w = .ok (x == y) w := fun x y w => int_eq 9998 2 Tryd.underlying2 x y w
  have e4 : ∀ (x y : Bool) (w : World), (Op.equalIn 9999 4 (.bool x) (.bool y)).run Tryd.prog w = .ok (x == y) w := fun x y w => run_equalIn_bool' w 9998 4 x y Tryd.underlying4
  unfold sameR
  by_cases q0 : a0 = a1
  · subst q0
    by_cases q1 : b0 = b1
    · subst q1
      by_cases q2 : c0 = c1
      · subst q2
        by_cases q3 : d0 = d1
        · subst q3
          by_cases q4 : e0 = e1
          · subst q4
            by_cases q5 : f0 = f1
            · subst q5
              by_cases q6 : g0 = g1
              · subst q6
                by_cases q7 : h0 = h1
                · subst q7
                  by_cases q8 : i0 = i1
                  · subst q8
                    by_cases q9 : j0 = j1
                    · subst q9
                      simp [Op.eqFields, part, go_sem, e3, e2, e4]
                    · simp [Op.eqFields, part, go_sem, e3, e2, e4, q9]
                  · simp [Op.eqFields, part, go_sem, e3, e2, e4, q8]
                · simp [Op.eqFields, part, go_sem, e3, e4, q7]
              · simp [Op.eqFields, part, go_sem, e3, e4, q6]
            · simp [Op.eqFields, part, go_sem, e3, q5]
          · simp [Op.eqFields, part, go_sem, e3, q4]
        · simp [Op.eqFields, part, go_sem, e3, q3]
      · simp [Op.eqFields, part, go_sem, e3, q2]
    · simp [Op.eqFields, part, go_sem, e3, q1]
  · simp [Op.eqFields, part, go_sem, e3, q0]
theorem wpList_eql {ops : Array Oper} {Q : Exit → Act → World → Prop} {act : Act} {w : World} {rest : List Oper} {d : Option Tmp} {ty : TypeId} {pos : String} {af : Array Edge} {x y : Operand} (a b : R) (hx : act.eval x = a.val) (hy : act.eval y = b.val)
    (h : wpList Tryd.prog ops Q rest (act.put d (.bool (sameR a b))) w) : wpList Tryd.prog ops Q ({ dst := d, op := .binOp .eql 42 x y 42, type := ty, pos := pos, after := af, guard := none } :: rest) act w := by
  refine BigFrame.wpList_want rfl fun K hK => ?_
  unfold Oper.wp
  have hr : (execOp act.eval { dst := d, op := .binOp .eql 42 x y 42, type := ty, pos := pos, after := af, guard := none }).run Tryd.prog w = .ok (.value (.bool (sameR a b))) w := by
    have hG : (eqGuard .eql 42 x y a.val b.val).run Tryd.prog w = .ok () w := run_eqGuard_agg w .eql 42 x y _ _ Tryd.gu42
    simp only [execOp, hx, hy, Sem.run_bind, hG, Result.andThen_ok, eql_rec, Sem.run_pure]
  rw [hr]
  exact hK _ _ h
end Go.Proofs.YtjacenhblclkaaaDoor

/- What the document's own SameRec answers of any two records: whether they are the same in each part. -/
namespace Go.Proofs.YtjacenhblclkaaaDoor
open Go.RowKit
set_option linter.unusedVariables false

end Go.Proofs.YtjacenhblclkaaaDoor
