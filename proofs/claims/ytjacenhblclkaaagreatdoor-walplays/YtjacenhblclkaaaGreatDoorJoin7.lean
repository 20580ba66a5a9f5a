/- Lemmas and contracts that the law stands on, joined: RecCheck, RecMake, RecBytes, RecFirst, RecRead, RecSame, RecSame2, RecGood, RecGood2, RecGood3. -/
import Derived.Test.YtjacenhblclkaaaGreatDoorJoin6
import Derived.Test.YtjacenhblclkaaaGreatDoorJoin5
import Derived.Laws.BytesArg
import Derived.Laws.StructEq
/- What rec.Check answers: no error of a record that may be, ErrRange of every other. -/
namespace Go.Proofs.YtjacenhblclkaaaGreatDoor
open Go.RowKit
set_option linter.unusedVariables false

/-- A record and a span lie in memory, cell by cell. -/
structure Cells12 (w : World) (B : Nat) (r : R) : Prop where
  c0 : w.cell? ⟨B, 0, none⟩ = some (.int .i64 r.kind)
  c1 : w.cell? ⟨B, 1, none⟩ = some (.int .i64 r.txn)
  c2 : w.cell? ⟨B, 2, none⟩ = some (.int .i64 r.page)
  c3 : w.cell? ⟨B, 3, none⟩ = some (.int .i64 r.prev)
  c4 : w.cell? ⟨B, 4, none⟩ = some (.int .i64 r.next)
  c5 : w.cell? ⟨B, 5, none⟩ = some (.int .i64 r.key)
  c6 : w.cell? ⟨B, 6, none⟩ = some (.bool r.had)
  c7 : w.cell? ⟨B, 7, none⟩ = some (.bool r.has)
  c8 : w.cell? ⟨B, 8, none⟩ = some (.int .i64 r.old)
  c9 : w.cell? ⟨B, 9, none⟩ = some (.int .i64 r.new)
  s0 : w.cell? ⟨B + 1, 0, none⟩ = some (.int .i64 1)
  s1 : w.cell? ⟨B + 1, 1, none⟩ = some (.int .i64 10)
  lt : B + 1 < w.heap.size
theorem Cells12.below {w w' : World} {B n : Nat} {r : R} (h : Cells12 w B r) (hb : Below n w w') (hn : w.heap.size ≤ n) : Cells12 w' B r := by
  have hl := h.lt
  have h0 : ∀ o, w'.cell? ⟨B, o, none⟩ = w.cell? ⟨B, o, none⟩ := fun o => hb.cell (show B < n by omega)
  have h1 : ∀ o, w'.cell? ⟨B + 1, o, none⟩ = w.cell? ⟨B + 1, o, none⟩ := fun o => hb.cell (show B + 1 < n by omega)
  exact ⟨(h0 _).trans h.c0, (h0 _).trans h.c1, (h0 _).trans h.c2, (h0 _).trans h.c3, (h0 _).trans h.c4, (h0 _).trans h.c5, (h0 _).trans h.c6, (h0 _).trans h.c7, (h0 _).trans h.c8, (h0 _).trans h.c9, (h1 _).trans h.s0, (h1 _).trans h.s1, Nat.lt_of_lt_of_le hl hb.size⟩
theorem cells12_new (w : World) (r : R) : Cells12 ((w.alloc (.cells #[.int .i64 r.kind, .int .i64 r.txn, .int .i64 r.page, .int .i64 r.prev, .int .i64 r.next, .int .i64 r.key, .bool r.had, .bool r.has, .int .i64 r.old, .int .i64 r.new] 37)).alloc (.cells #[.int .i64 1, .int .i64 10] 165)) w.heap.size r := by
  constructor <;> simp
theorem enters110 : Enters Tryz.prog 110 := enters Tryz.func110 (by kernel_rfl) (by kernel_rfl)
theorem enters111 : Enters Tryz.prog 111 := enters Tryz.func111 (by kernel_rfl) (by kernel_rfl)
theorem enters112 : Enters Tryz.prog 112 := enters Tryz.func112 (by kernel_rfl) (by kernel_rfl)
theorem enters113 : Enters Tryz.prog 113 := enters Tryz.func113 (by kernel_rfl) (by kernel_rfl)
theorem enters114 : Enters Tryz.prog 114 := enters Tryz.func114 (by kernel_rfl) (by kernel_rfl)
theorem enters115 : Enters Tryz.prog 115 := enters Tryz.func115 (by kernel_rfl) (by kernel_rfl)
theorem enters116 : Enters Tryz.prog 116 := enters Tryz.func116 (by kernel_rfl) (by kernel_rfl)
theorem enters117 : Enters Tryz.prog 117 := enters Tryz.func117 (by kernel_rfl) (by kernel_rfl)
theorem enters118 : Enters Tryz.prog 118 := enters Tryz.func118 (by kernel_rfl) (by kernel_rfl)
/-- What rec.Check answers. -/
def checkV (r : R) (x : Addr) : Value := if goodB r then .nilIface else errV x
theorem checkV_bad {r : R} {x : Addr} (h : goodB r = false) : checkV r x = errV x := by simp [checkV, h]
theorem checkV_good {r : R} {x : Addr} (h : goodB r = true) : checkV r x = .nilIface := by simp [checkV, h]
theorem ret_bad {r : R} {x : Addr} (h : goodB r = false) : Ending.returned (.iface 237 (.pointer (some x))) = .returned (checkV r x) := by rw [checkV_bad h]; rfl
theorem ret_good {r : R} {x : Addr} (h : goodB r = true) : Ending.returned .nilIface = .returned (checkV r x) := by rw [checkV_good h]
theorem run_fa (f : Nat) (hf : f < 10) (B : Nat) (w : World) : (Instr.fieldAt 37 (.pointer (some ⟨B, 0, none⟩)) f).run Tryz.prog w = .ok (.pointer (some ⟨B, f, none⟩)) w := by
  match f, hf with
  | 0, _ => go_simp
  | 1, _ => go_simp
  | 2, _ => go_simp
  | 3, _ => go_simp
  | 4, _ => go_simp
  | 5, _ => go_simp
  | 6, _ => go_simp
  | 7, _ => go_simp
  | 8, _ => go_simp
  | 9, _ => go_simp
theorem take_fa {S : World → Prop} {o : Oper} {a : Act} {x : Operand} {B : Nat} (f : Nat) (hf : f < 10) (hop : o.op = .fieldAddr 37 x f) (ha : a.eval x = .pointer (some ⟨B, 0, none⟩)) : ∀ w, S w → (execOp a.eval o).run Tryz.prog w = .ok (.value (.pointer (some ⟨B, f, none⟩))) w := by
  intro w _
  simp [execOp, hop, ha, run_fa f hf B w]
theorem run_ld {n : Int} {p : Addr} {w : World} (h : w.cell? p = some (.int .i64 n)) : (Instr.loadAt 3 (.pointer (some p))).run Tryz.prog w = .ok (.int .i64 n) w := by go_simp
theorem take_ld {S : World → Prop} {o : Oper} {a : Act} {x : Operand} {p : Addr} {n : Int} (hop : o.op = .load 3 x) (ha : a.eval x = .pointer (some p)) (hc : ∀ w, S w → w.cell? p = some (.int .i64 n)) : ∀ w, S w → (execOp a.eval o).run Tryz.prog w = .ok (.value (.int .i64 n)) w := by
  intro w hS
  simp [execOp, hop, ha, run_ld (hc w hS)]
theorem run_ldS {B : Nat} {w : World} {r : R} (h : Cells12 w B r) : (Instr.loadAt 165 (.pointer (some ⟨B + 1, 0, none⟩))).run Tryz.prog w = .ok (pairV 1 10) w := by
  obtain ⟨k0, k1, k2, k3, k4, k5, k6, k7, k8, k9, k10, k11, kl⟩ := h
  unfold pairV
  go_simp
theorem run_ldR {B : Nat} {w : World} {r : R} (h : Cells12 w B r) : (Instr.loadAt 37 (.pointer (some ⟨B, 0, none⟩))).run Tryz.prog w = .ok r.val w := by
  obtain ⟨k0, k1, k2, k3, k4, k5, k6, k7, k8, k9, k10, k11, kl⟩ := h
  unfold R.val
  go_simp
theorem take_ldS {B : Nat} {r : R} {o : Oper} {a : Act} {x : Operand} (hop : o.op = .load 165 x) (ha : a.eval x = .pointer (some ⟨B + 1, 0, none⟩)) : ∀ w, Cells12 w B r → (execOp a.eval o).run Tryz.prog w = .ok (.value (pairV 1 10)) w := by
  intro w hS
  simp [execOp, hop, ha, run_ldS hS]
theorem take_ldR {B : Nat} {r : R} {o : Oper} {a : Act} {x : Operand} (hop : o.op = .load 37 x) (ha : a.eval x = .pointer (some ⟨B, 0, none⟩)) : ∀ w, Cells12 w B r → (execOp a.eval o).run Tryz.prog w = .ok (.value r.val) w := by
  intro w hS
  simp [execOp, hop, ha, run_ldR hS]
set_option maxHeartbeats 4000000 in
set_option maxRecDepth 100000 in
theorem check_any (r : R) (w : World) (x : Addr) (hE : w.cell? ⟨2, 0, none⟩ = some (errV x)) :
    Calls Tryz.prog 61 #[r.val] w fun e w' => e = .returned (checkV r x) ∧ Below w.heap.size w w' := by
  have HC := hide (cells12_new w r)
  have HB : Hid (Below w.heap.size w ((w.alloc (.cells #[.int .i64 r.kind, .int .i64 r.txn, .int .i64 r.page, .int .i64 r.prev, .int .i64 r.next, .int .i64 r.key, .bool r.had, .bool r.has, .int .i64 r.old, .int .i64 r.new] 37)).alloc (.cells #[.int .i64 1, .int .i64 10] 165))) := ((Below.refl _ _).alloc (Nat.le_refl _) _).alloc (by simp) _
  obtain ⟨W, hW⟩ : ∃ W, W = (w.alloc (.cells #[.int .i64 r.kind, .int .i64 r.txn, .int .i64 r.page, .int .i64 r.prev, .int .i64 r.next, .int .i64 r.key, .bool r.had, .bool r.has, .int .i64 r.old, .int .i64 r.new] 37)).alloc (.cells #[.int .i64 1, .int .i64 10] 165) := ⟨_, rfl⟩
  rw [← hW] at HC HB
  have HW := hide hW
  clear hW
  have HG : Hid (∀ w', Below w.heap.size w w' → w'.cell? ⟨2, 0, none⟩ = some (.iface 237 (.pointer (some x)))) := fun w' hb => (hb.cell (World.block_lt_of_cell? w _ hE)).trans hE
  clear hE
  show Calls Tryz.prog 61 #[.agg #[.int .i64 r.kind, .int .i64 r.txn, .int .i64 r.page, .int .i64 r.prev, .int .i64 r.next, .int .i64 r.key, .bool r.had, .bool r.has, .int .i64 r.old, .int .i64 r.new]] w _
  go_enter Tryz.func61, Tryz.ntmps61
  go_wp2_with fail
  rw [← HW.out]
  refine region_of_sched (S := fun w' => Cells12 w' w.heap.size r) [(0, true), (1, true), (2, true), (3, false), (4, true), (5, true), (6, true), (8, true), (9, true), (7, false), (10, false), (11, true), (12, true), (13, true), (14, true), (16, true), (17, true), (15, false), (18, false), (19, true), (20, true), (21, true), (22, true), (24, true), (25, true), (23, false), (26, false), (27, true), (28, true), (29, true), (30, true), (32, true), (33, true), (31, false), (34, false), (35, true), (36, true), (37, true), (38, true), (40, true), (41, true), (39, false), (42, false), (43, true), (44, true), (45, true), (46, false), (47, true), (48, true), (49, true), (50, false), (51, true), (52, true), (53, true), (54, false), (55, true), (56, true)] (by kernel_rfl) (by kernel_rfl) (by kernel_rfl) (by kernel_rfl) (fun c a d v w h => by cases d <;> exact h) (HC.out.below (below_drew (Below.refl _ _)) (Nat.le_refl _)) ?_
  replace HC := hide (HC.out.below (below_drew (Below.refl W.heap.size W)) (Nat.le_refl _))
  replace HB := hide (below_drew HB.out)
  refine sched_take (i := 0) rfl rfl rfl (take_ldS rfl rfl) ?_
  simp only [List.set]
  refine sched_take (i := 1) rfl rfl rfl (take_fa 0 (by decide) rfl rfl) ?_
  simp only [List.set]
  refine sched_take (i := 2) rfl rfl rfl (take_ld rfl rfl fun w h => h.c0) ?_
  simp only [List.set]
  cases h1 : holdsB 1 10 r.kind
  · refine sched_call (i := 3) rfl rfl rfl rfl enters110 ((holds_any _ _ _ _ _ h1).mono ?_)
    rintro e w2 ⟨rfl, hb2⟩
    refine ⟨_, rfl, HC.out.below hb2 (Nat.le_refl _), ?_⟩
    simp only [List.set]
    refine sched_move (i := 4) (.bool false) rfl rfl rfl rfl rfl ?_
    simp only [List.set]
    refine sched_skip [(5, true), (6, true), (8, true), (9, true), (7, false), (10, false)] (by kernel_rfl) (HC.out.below hb2 (Nat.le_refl _)) ?_
    refine sched_pick (i := 11) false (.bool false) rfl rfl rfl rfl rfl rfl ?_
    simp only [List.set]
    refine sched_move (i := 12) (.bool false) rfl rfl rfl rfl rfl ?_
    simp only [List.set]
    refine sched_skip [(13, true), (14, true), (16, true), (17, true), (15, false), (18, false)] (by kernel_rfl) (HC.out.below hb2 (Nat.le_refl _)) ?_
    refine sched_pick (i := 19) false (.bool false) rfl rfl rfl rfl rfl rfl ?_
    simp only [List.set]
    refine sched_move (i := 20) (.bool false) rfl rfl rfl rfl rfl ?_
    simp only [List.set]
    refine sched_skip [(21, true), (22, true), (24, true), (25, true), (23, false), (26, false)] (by kernel_rfl) (HC.out.below hb2 (Nat.le_refl _)) ?_
    refine sched_pick (i := 27) false (.bool false) rfl rfl rfl rfl rfl rfl ?_
    simp only [List.set]
    refine sched_move (i := 28) (.bool false) rfl rfl rfl rfl rfl ?_
    simp only [List.set]
    refine sched_skip [(29, true), (30, true), (32, true), (33, true), (31, false), (34, false)] (by kernel_rfl) (HC.out.below hb2 (Nat.le_refl _)) ?_
    refine sched_pick (i := 35) false (.bool false) rfl rfl rfl rfl rfl rfl ?_
    simp only [List.set]
    refine sched_move (i := 36) (.bool false) rfl rfl rfl rfl rfl ?_
    simp only [List.set]
    refine sched_skip [(37, true), (38, true), (40, true), (41, true), (39, false), (42, false)] (by kernel_rfl) (HC.out.below hb2 (Nat.le_refl _)) ?_
    refine sched_pick (i := 43) false (.bool false) rfl rfl rfl rfl rfl rfl ?_
    simp only [List.set]
    refine sched_move (i := 44) (.bool false) rfl rfl rfl rfl rfl ?_
    simp only [List.set]
    refine sched_skip [(45, true), (46, false)] (by kernel_rfl) (HC.out.below hb2 (Nat.le_refl _)) ?_
    refine sched_pick (i := 47) false (.bool false) rfl rfl rfl rfl rfl rfl ?_
    simp only [List.set]
    refine sched_move (i := 48) (.bool false) rfl rfl rfl rfl rfl ?_
    simp only [List.set]
    refine sched_skip [(49, true), (50, false)] (by kernel_rfl) (HC.out.below hb2 (Nat.le_refl _)) ?_
    refine sched_pick (i := 51) false (.bool false) rfl rfl rfl rfl rfl rfl ?_
    simp only [List.set]
    refine sched_move (i := 52) (.bool false) rfl rfl rfl rfl rfl ?_
    simp only [List.set]
    refine sched_skip [(53, true), (54, false)] (by kernel_rfl) (HC.out.below hb2 (Nat.le_refl _)) ?_
    refine sched_pick (i := 55) false (.bool false) rfl rfl rfl rfl rfl rfl ?_
    simp only [List.set]
    refine sched_assign (i := 56) (.bool false) rfl rfl rfl rfl rfl ?_
    simp only [List.set]
    refine sched_nil ?_
    have hB2 := over HB.out hb2 HB.out.size
    have HB2 := hide hB2
    have hE2 := HG.out _ hB2
    clear hB2 hb2
    go_wp2_with fail
    go_ret
    exact ⟨ret_bad (by unfold goodB; rw [h1]; rfl), HB2.out⟩
  refine sched_call (i := 3) rfl rfl rfl rfl enters110 ((holds_any _ _ _ _ _ h1).mono ?_)
  rintro e w2 ⟨rfl, hb2⟩
  refine ⟨_, rfl, HC.out.below hb2 (Nat.le_refl _), ?_⟩
  replace HC := hide (HC.out.below hb2 (Nat.le_refl _))
  replace HB := hide (over HB.out hb2 HB.out.size)
  clear hb2
  simp only [List.set]
  refine sched_move (i := 4) (.bool true) rfl rfl rfl rfl rfl ?_
  simp only [List.set]
  refine sched_take (i := 5) rfl rfl rfl (take_fa 0 (by decide) rfl rfl) ?_
  simp only [List.set]
  refine sched_take (i := 6) rfl rfl rfl (take_ld rfl rfl fun w h => h.c0) ?_
  simp only [List.set]
  refine sched_take (i := 8) rfl rfl rfl (take_fa 1 (by decide) rfl rfl) ?_
  simp only [List.set]
  refine sched_take (i := 9) rfl rfl rfl (take_ld rfl rfl fun w h => h.c1) ?_
  simp only [List.set]
  refine sched_call (i := 7) rfl rfl rfl rfl enters111 ((txnSpan_any _ _).mono ?_)
  rintro e w2 ⟨rfl, hb2⟩
  refine ⟨_, rfl, HC.out.below hb2 (Nat.le_refl _), ?_⟩
  replace HC := hide (HC.out.below hb2 (Nat.le_refl _))
  replace HB := hide (over HB.out hb2 HB.out.size)
  clear hb2
  simp only [List.set]
  cases h2 : holdsB (txnLo r.kind) (txnHi r.kind) r.txn
  · refine sched_call (i := 10) rfl rfl rfl rfl enters110 ((holds_any _ _ _ _ _ h2).mono ?_)
    rintro e w2 ⟨rfl, hb2⟩
    refine ⟨_, rfl, HC.out.below hb2 (Nat.le_refl _), ?_⟩
    simp only [List.set]
    refine sched_pick (i := 11) true (.bool false) rfl rfl rfl rfl rfl rfl ?_
    simp only [List.set]
    refine sched_move (i := 12) (.bool false) rfl rfl rfl rfl rfl ?_
    simp only [List.set]
    refine sched_skip [(13, true), (14, true), (16, true), (17, true), (15, false), (18, false)] (by kernel_rfl) (HC.out.below hb2 (Nat.le_refl _)) ?_
    refine sched_pick (i := 19) false (.bool false) rfl rfl rfl rfl rfl rfl ?_
    simp only [List.set]
    refine sched_move (i := 20) (.bool false) rfl rfl rfl rfl rfl ?_
    simp only [List.set]
    refine sched_skip [(21, true), (22, true), (24, true), (25, true), (23, false), (26, false)] (by kernel_rfl) (HC.out.below hb2 (Nat.le_refl _)) ?_
    refine sched_pick (i := 27) false (.bool false) rfl rfl rfl rfl rfl rfl ?_
    simp only [List.set]
    refine sched_move (i := 28) (.bool false) rfl rfl rfl rfl rfl ?_
    simp only [List.set]
    refine sched_skip [(29, true), (30, true), (32, true), (33, true), (31, false), (34, false)] (by kernel_rfl) (HC.out.below hb2 (Nat.le_refl _)) ?_
    refine sched_pick (i := 35) false (.bool false) rfl rfl rfl rfl rfl rfl ?_
    simp only [List.set]
    refine sched_move (i := 36) (.bool false) rfl rfl rfl rfl rfl ?_
    simp only [List.set]
    refine sched_skip [(37, true), (38, true), (40, true), (41, true), (39, false), (42, false)] (by kernel_rfl) (HC.out.below hb2 (Nat.le_refl _)) ?_
    refine sched_pick (i := 43) false (.bool false) rfl rfl rfl rfl rfl rfl ?_
    simp only [List.set]
    refine sched_move (i := 44) (.bool false) rfl rfl rfl rfl rfl ?_
    simp only [List.set]
    refine sched_skip [(45, true), (46, false)] (by kernel_rfl) (HC.out.below hb2 (Nat.le_refl _)) ?_
    refine sched_pick (i := 47) false (.bool false) rfl rfl rfl rfl rfl rfl ?_
    simp only [List.set]
    refine sched_move (i := 48) (.bool false) rfl rfl rfl rfl rfl ?_
    simp only [List.set]
    refine sched_skip [(49, true), (50, false)] (by kernel_rfl) (HC.out.below hb2 (Nat.le_refl _)) ?_
    refine sched_pick (i := 51) false (.bool false) rfl rfl rfl rfl rfl rfl ?_
    simp only [List.set]
    refine sched_move (i := 52) (.bool false) rfl rfl rfl rfl rfl ?_
    simp only [List.set]
    refine sched_skip [(53, true), (54, false)] (by kernel_rfl) (HC.out.below hb2 (Nat.le_refl _)) ?_
    refine sched_pick (i := 55) false (.bool false) rfl rfl rfl rfl rfl rfl ?_
    simp only [List.set]
    refine sched_assign (i := 56) (.bool false) rfl rfl rfl rfl rfl ?_
    simp only [List.set]
    refine sched_nil ?_
    have hB2 := over HB.out hb2 HB.out.size
    have HB2 := hide hB2
    have hE2 := HG.out _ hB2
    clear hB2 hb2
    go_wp2_with fail
    go_ret
    exact ⟨ret_bad (by unfold goodB; rw [h1, h2]; rfl), HB2.out⟩
  refine sched_call (i := 10) rfl rfl rfl rfl enters110 ((holds_any _ _ _ _ _ h2).mono ?_)
  rintro e w2 ⟨rfl, hb2⟩
  refine ⟨_, rfl, HC.out.below hb2 (Nat.le_refl _), ?_⟩
  replace HC := hide (HC.out.below hb2 (Nat.le_refl _))
  replace HB := hide (over HB.out hb2 HB.out.size)
  clear hb2
  simp only [List.set]
  refine sched_pick (i := 11) true (.bool true) rfl rfl rfl rfl rfl rfl ?_
  simp only [List.set]
  refine sched_move (i := 12) (.bool true) rfl rfl rfl rfl rfl ?_
  simp only [List.set]
  refine sched_take (i := 13) rfl rfl rfl (take_fa 0 (by decide) rfl rfl) ?_
  simp only [List.set]
  refine sched_take (i := 14) rfl rfl rfl (take_ld rfl rfl fun w h => h.c0) ?_
  simp only [List.set]
  refine sched_take (i := 16) rfl rfl rfl (take_fa 2 (by decide) rfl rfl) ?_
  simp only [List.set]
  refine sched_take (i := 17) rfl rfl rfl (take_ld rfl rfl fun w h => h.c2) ?_
  simp only [List.set]
  refine sched_call (i := 15) rfl rfl rfl rfl enters112 ((pageSpan_any _ _).mono ?_)
  rintro e w2 ⟨rfl, hb2⟩
  refine ⟨_, rfl, HC.out.below hb2 (Nat.le_refl _), ?_⟩
  replace HC := hide (HC.out.below hb2 (Nat.le_refl _))
  replace HB := hide (over HB.out hb2 HB.out.size)
  clear hb2
  simp only [List.set]
  cases h3 : holdsB (pageLo r.kind) (pageHi r.kind) r.page
  · refine sched_call (i := 18) rfl rfl rfl rfl enters110 ((holds_any _ _ _ _ _ h3).mono ?_)
    rintro e w2 ⟨rfl, hb2⟩
    refine ⟨_, rfl, HC.out.below hb2 (Nat.le_refl _), ?_⟩
    simp only [List.set]
    refine sched_pick (i := 19) true (.bool false) rfl rfl rfl rfl rfl rfl ?_
    simp only [List.set]
    refine sched_move (i := 20) (.bool false) rfl rfl rfl rfl rfl ?_
    simp only [List.set]
    refine sched_skip [(21, true), (22, true), (24, true), (25, true), (23, false), (26, false)] (by kernel_rfl) (HC.out.below hb2 (Nat.le_refl _)) ?_
    refine sched_pick (i := 27) false (.bool false) rfl rfl rfl rfl rfl rfl ?_
    simp only [List.set]
    refine sched_move (i := 28) (.bool false) rfl rfl rfl rfl rfl ?_
    simp only [List.set]
    refine sched_skip [(29, true), (30, true), (32, true), (33, true), (31, false), (34, false)] (by kernel_rfl) (HC.out.below hb2 (Nat.le_refl _)) ?_
    refine sched_pick (i := 35) false (.bool false) rfl rfl rfl rfl rfl rfl ?_
    simp only [List.set]
    refine sched_move (i := 36) (.bool false) rfl rfl rfl rfl rfl ?_
    simp only [List.set]
    refine sched_skip [(37, true), (38, true), (40, true), (41, true), (39, false), (42, false)] (by kernel_rfl) (HC.out.below hb2 (Nat.le_refl _)) ?_
    refine sched_pick (i := 43) false (.bool false) rfl rfl rfl rfl rfl rfl ?_
    simp only [List.set]
    refine sched_move (i := 44) (.bool false) rfl rfl rfl rfl rfl ?_
    simp only [List.set]
    refine sched_skip [(45, true), (46, false)] (by kernel_rfl) (HC.out.below hb2 (Nat.le_refl _)) ?_
    refine sched_pick (i := 47) false (.bool false) rfl rfl rfl rfl rfl rfl ?_
    simp only [List.set]
    refine sched_move (i := 48) (.bool false) rfl rfl rfl rfl rfl ?_
    simp only [List.set]
    refine sched_skip [(49, true), (50, false)] (by kernel_rfl) (HC.out.below hb2 (Nat.le_refl _)) ?_
    refine sched_pick (i := 51) false (.bool false) rfl rfl rfl rfl rfl rfl ?_
    simp only [List.set]
    refine sched_move (i := 52) (.bool false) rfl rfl rfl rfl rfl ?_
    simp only [List.set]
    refine sched_skip [(53, true), (54, false)] (by kernel_rfl) (HC.out.below hb2 (Nat.le_refl _)) ?_
    refine sched_pick (i := 55) false (.bool false) rfl rfl rfl rfl rfl rfl ?_
    simp only [List.set]
    refine sched_assign (i := 56) (.bool false) rfl rfl rfl rfl rfl ?_
    simp only [List.set]
    refine sched_nil ?_
    have hB2 := over HB.out hb2 HB.out.size
    have HB2 := hide hB2
    have hE2 := HG.out _ hB2
    clear hB2 hb2
    go_wp2_with fail
    go_ret
    exact ⟨ret_bad (by unfold goodB; rw [h1, h2, h3]; rfl), HB2.out⟩
  refine sched_call (i := 18) rfl rfl rfl rfl enters110 ((holds_any _ _ _ _ _ h3).mono ?_)
  rintro e w2 ⟨rfl, hb2⟩
  refine ⟨_, rfl, HC.out.below hb2 (Nat.le_refl _), ?_⟩
  replace HC := hide (HC.out.below hb2 (Nat.le_refl _))
  replace HB := hide (over HB.out hb2 HB.out.size)
  clear hb2
  simp only [List.set]
  refine sched_pick (i := 19) true (.bool true) rfl rfl rfl rfl rfl rfl ?_
  simp only [List.set]
  refine sched_move (i := 20) (.bool true) rfl rfl rfl rfl rfl ?_
  simp only [List.set]
  refine sched_take (i := 21) rfl rfl rfl (take_fa 0 (by decide) rfl rfl) ?_
  simp only [List.set]
  refine sched_take (i := 22) rfl rfl rfl (take_ld rfl rfl fun w h => h.c0) ?_
  simp only [List.set]
  refine sched_take (i := 24) rfl rfl rfl (take_fa 3 (by decide) rfl rfl) ?_
  simp only [List.set]
  refine sched_take (i := 25) rfl rfl rfl (take_ld rfl rfl fun w h => h.c3) ?_
  simp only [List.set]
  refine sched_call (i := 23) rfl rfl rfl rfl enters113 ((prevSpan_any _ _).mono ?_)
  rintro e w2 ⟨rfl, hb2⟩
  refine ⟨_, rfl, HC.out.below hb2 (Nat.le_refl _), ?_⟩
  replace HC := hide (HC.out.below hb2 (Nat.le_refl _))
  replace HB := hide (over HB.out hb2 HB.out.size)
  clear hb2
  simp only [List.set]
  cases h4 : holdsB (prevLo r.kind) (prevHi r.kind) r.prev
  · refine sched_call (i := 26) rfl rfl rfl rfl enters110 ((holds_any _ _ _ _ _ h4).mono ?_)
    rintro e w2 ⟨rfl, hb2⟩
    refine ⟨_, rfl, HC.out.below hb2 (Nat.le_refl _), ?_⟩
    simp only [List.set]
    refine sched_pick (i := 27) true (.bool false) rfl rfl rfl rfl rfl rfl ?_
    simp only [List.set]
    refine sched_move (i := 28) (.bool false) rfl rfl rfl rfl rfl ?_
    simp only [List.set]
    refine sched_skip [(29, true), (30, true), (32, true), (33, true), (31, false), (34, false)] (by kernel_rfl) (HC.out.below hb2 (Nat.le_refl _)) ?_
    refine sched_pick (i := 35) false (.bool false) rfl rfl rfl rfl rfl rfl ?_
    simp only [List.set]
    refine sched_move (i := 36) (.bool false) rfl rfl rfl rfl rfl ?_
    simp only [List.set]
    refine sched_skip [(37, true), (38, true), (40, true), (41, true), (39, false), (42, false)] (by kernel_rfl) (HC.out.below hb2 (Nat.le_refl _)) ?_
    refine sched_pick (i := 43) false (.bool false) rfl rfl rfl rfl rfl rfl ?_
    simp only [List.set]
    refine sched_move (i := 44) (.bool false) rfl rfl rfl rfl rfl ?_
    simp only [List.set]
    refine sched_skip [(45, true), (46, false)] (by kernel_rfl) (HC.out.below hb2 (Nat.le_refl _)) ?_
    refine sched_pick (i := 47) false (.bool false) rfl rfl rfl rfl rfl rfl ?_
    simp only [List.set]
    refine sched_move (i := 48) (.bool false) rfl rfl rfl rfl rfl ?_
    simp only [List.set]
    refine sched_skip [(49, true), (50, false)] (by kernel_rfl) (HC.out.below hb2 (Nat.le_refl _)) ?_
    refine sched_pick (i := 51) false (.bool false) rfl rfl rfl rfl rfl rfl ?_
    simp only [List.set]
    refine sched_move (i := 52) (.bool false) rfl rfl rfl rfl rfl ?_
    simp only [List.set]
    refine sched_skip [(53, true), (54, false)] (by kernel_rfl) (HC.out.below hb2 (Nat.le_refl _)) ?_
    refine sched_pick (i := 55) false (.bool false) rfl rfl rfl rfl rfl rfl ?_
    simp only [List.set]
    refine sched_assign (i := 56) (.bool false) rfl rfl rfl rfl rfl ?_
    simp only [List.set]
    refine sched_nil ?_
    have hB2 := over HB.out hb2 HB.out.size
    have HB2 := hide hB2
    have hE2 := HG.out _ hB2
    clear hB2 hb2
    go_wp2_with fail
    go_ret
    exact ⟨ret_bad (by unfold goodB; rw [h1, h2, h3, h4]; rfl), HB2.out⟩
  refine sched_call (i := 26) rfl rfl rfl rfl enters110 ((holds_any _ _ _ _ _ h4).mono ?_)
  rintro e w2 ⟨rfl, hb2⟩
  refine ⟨_, rfl, HC.out.below hb2 (Nat.le_refl _), ?_⟩
  replace HC := hide (HC.out.below hb2 (Nat.le_refl _))
  replace HB := hide (over HB.out hb2 HB.out.size)
  clear hb2
  simp only [List.set]
  refine sched_pick (i := 27) true (.bool true) rfl rfl rfl rfl rfl rfl ?_
  simp only [List.set]
  refine sched_move (i := 28) (.bool true) rfl rfl rfl rfl rfl ?_
  simp only [List.set]
  refine sched_take (i := 29) rfl rfl rfl (take_fa 0 (by decide) rfl rfl) ?_
  simp only [List.set]
  refine sched_take (i := 30) rfl rfl rfl (take_ld rfl rfl fun w h => h.c0) ?_
  simp only [List.set]
  refine sched_take (i := 32) rfl rfl rfl (take_fa 4 (by decide) rfl rfl) ?_
  simp only [List.set]
  refine sched_take (i := 33) rfl rfl rfl (take_ld rfl rfl fun w h => h.c4) ?_
  simp only [List.set]
  refine sched_call (i := 31) rfl rfl rfl rfl enters114 ((nextSpan_any _ _).mono ?_)
  rintro e w2 ⟨rfl, hb2⟩
  refine ⟨_, rfl, HC.out.below hb2 (Nat.le_refl _), ?_⟩
  replace HC := hide (HC.out.below hb2 (Nat.le_refl _))
  replace HB := hide (over HB.out hb2 HB.out.size)
  clear hb2
  simp only [List.set]
  cases h5 : holdsB (0) (nextHi r.kind) r.next
  · refine sched_call (i := 34) rfl rfl rfl rfl enters110 ((holds_any _ _ _ _ _ h5).mono ?_)
    rintro e w2 ⟨rfl, hb2⟩
    refine ⟨_, rfl, HC.out.below hb2 (Nat.le_refl _), ?_⟩
    simp only [List.set]
    refine sched_pick (i := 35) true (.bool false) rfl rfl rfl rfl rfl rfl ?_
    simp only [List.set]
    refine sched_move (i := 36) (.bool false) rfl rfl rfl rfl rfl ?_
    simp only [List.set]
    refine sched_skip [(37, true), (38, true), (40, true), (41, true), (39, false), (42, false)] (by kernel_rfl) (HC.out.below hb2 (Nat.le_refl _)) ?_
    refine sched_pick (i := 43) false (.bool false) rfl rfl rfl rfl rfl rfl ?_
    simp only [List.set]
    refine sched_move (i := 44) (.bool false) rfl rfl rfl rfl rfl ?_
    simp only [List.set]
    refine sched_skip [(45, true), (46, false)] (by kernel_rfl) (HC.out.below hb2 (Nat.le_refl _)) ?_
    refine sched_pick (i := 47) false (.bool false) rfl rfl rfl rfl rfl rfl ?_
    simp only [List.set]
    refine sched_move (i := 48) (.bool false) rfl rfl rfl rfl rfl ?_
    simp only [List.set]
    refine sched_skip [(49, true), (50, false)] (by kernel_rfl) (HC.out.below hb2 (Nat.le_refl _)) ?_
    refine sched_pick (i := 51) false (.bool false) rfl rfl rfl rfl rfl rfl ?_
    simp only [List.set]
    refine sched_move (i := 52) (.bool false) rfl rfl rfl rfl rfl ?_
    simp only [List.set]
    refine sched_skip [(53, true), (54, false)] (by kernel_rfl) (HC.out.below hb2 (Nat.le_refl _)) ?_
    refine sched_pick (i := 55) false (.bool false) rfl rfl rfl rfl rfl rfl ?_
    simp only [List.set]
    refine sched_assign (i := 56) (.bool false) rfl rfl rfl rfl rfl ?_
    simp only [List.set]
    refine sched_nil ?_
    have hB2 := over HB.out hb2 HB.out.size
    have HB2 := hide hB2
    have hE2 := HG.out _ hB2
    clear hB2 hb2
    go_wp2_with fail
    go_ret
    exact ⟨ret_bad (by unfold goodB; rw [h1, h2, h3, h4, h5]; rfl), HB2.out⟩
  refine sched_call (i := 34) rfl rfl rfl rfl enters110 ((holds_any _ _ _ _ _ h5).mono ?_)
  rintro e w2 ⟨rfl, hb2⟩
  refine ⟨_, rfl, HC.out.below hb2 (Nat.le_refl _), ?_⟩
  replace HC := hide (HC.out.below hb2 (Nat.le_refl _))
  replace HB := hide (over HB.out hb2 HB.out.size)
  clear hb2
  simp only [List.set]
  refine sched_pick (i := 35) true (.bool true) rfl rfl rfl rfl rfl rfl ?_
  simp only [List.set]
  refine sched_move (i := 36) (.bool true) rfl rfl rfl rfl rfl ?_
  simp only [List.set]
  refine sched_take (i := 37) rfl rfl rfl (take_fa 0 (by decide) rfl rfl) ?_
  simp only [List.set]
  refine sched_take (i := 38) rfl rfl rfl (take_ld rfl rfl fun w h => h.c0) ?_
  simp only [List.set]
  refine sched_take (i := 40) rfl rfl rfl (take_fa 5 (by decide) rfl rfl) ?_
  simp only [List.set]
  refine sched_take (i := 41) rfl rfl rfl (take_ld rfl rfl fun w h => h.c5) ?_
  simp only [List.set]
  refine sched_call (i := 39) rfl rfl rfl rfl enters115 ((keySpan_any _ _).mono ?_)
  rintro e w2 ⟨rfl, hb2⟩
  refine ⟨_, rfl, HC.out.below hb2 (Nat.le_refl _), ?_⟩
  replace HC := hide (HC.out.below hb2 (Nat.le_refl _))
  replace HB := hide (over HB.out hb2 HB.out.size)
  clear hb2
  simp only [List.set]
  cases h6 : holdsB (0) (keyHi r.kind) r.key
  · refine sched_call (i := 42) rfl rfl rfl rfl enters110 ((holds_any _ _ _ _ _ h6).mono ?_)
    rintro e w2 ⟨rfl, hb2⟩
    refine ⟨_, rfl, HC.out.below hb2 (Nat.le_refl _), ?_⟩
    simp only [List.set]
    refine sched_pick (i := 43) true (.bool false) rfl rfl rfl rfl rfl rfl ?_
    simp only [List.set]
    refine sched_move (i := 44) (.bool false) rfl rfl rfl rfl rfl ?_
    simp only [List.set]
    refine sched_skip [(45, true), (46, false)] (by kernel_rfl) (HC.out.below hb2 (Nat.le_refl _)) ?_
    refine sched_pick (i := 47) false (.bool false) rfl rfl rfl rfl rfl rfl ?_
    simp only [List.set]
    refine sched_move (i := 48) (.bool false) rfl rfl rfl rfl rfl ?_
    simp only [List.set]
    refine sched_skip [(49, true), (50, false)] (by kernel_rfl) (HC.out.below hb2 (Nat.le_refl _)) ?_
    refine sched_pick (i := 51) false (.bool false) rfl rfl rfl rfl rfl rfl ?_
    simp only [List.set]
    refine sched_move (i := 52) (.bool false) rfl rfl rfl rfl rfl ?_
    simp only [List.set]
    refine sched_skip [(53, true), (54, false)] (by kernel_rfl) (HC.out.below hb2 (Nat.le_refl _)) ?_
    refine sched_pick (i := 55) false (.bool false) rfl rfl rfl rfl rfl rfl ?_
    simp only [List.set]
    refine sched_assign (i := 56) (.bool false) rfl rfl rfl rfl rfl ?_
    simp only [List.set]
    refine sched_nil ?_
    have hB2 := over HB.out hb2 HB.out.size
    have HB2 := hide hB2
    have hE2 := HG.out _ hB2
    clear hB2 hb2
    go_wp2_with fail
    go_ret
    exact ⟨ret_bad (by unfold goodB; rw [h1, h2, h3, h4, h5, h6]; rfl), HB2.out⟩
  refine sched_call (i := 42) rfl rfl rfl rfl enters110 ((holds_any _ _ _ _ _ h6).mono ?_)
  rintro e w2 ⟨rfl, hb2⟩
  refine ⟨_, rfl, HC.out.below hb2 (Nat.le_refl _), ?_⟩
  replace HC := hide (HC.out.below hb2 (Nat.le_refl _))
  replace HB := hide (over HB.out hb2 HB.out.size)
  clear hb2
  simp only [List.set]
  refine sched_pick (i := 43) true (.bool true) rfl rfl rfl rfl rfl rfl ?_
  simp only [List.set]
  refine sched_move (i := 44) (.bool true) rfl rfl rfl rfl rfl ?_
  simp only [List.set]
  refine sched_take (i := 45) rfl rfl rfl (take_ldR rfl rfl) ?_
  simp only [List.set]
  cases h7 : oldB r
  · refine sched_call (i := 46) rfl rfl rfl rfl enters116 ((oldHolds_any r _ _ h7).mono ?_)
    rintro e w2 ⟨rfl, hb2⟩
    refine ⟨_, rfl, HC.out.below hb2 (Nat.le_refl _), ?_⟩
    simp only [List.set]
    refine sched_pick (i := 47) true (.bool false) rfl rfl rfl rfl rfl rfl ?_
    simp only [List.set]
    refine sched_move (i := 48) (.bool false) rfl rfl rfl rfl rfl ?_
    simp only [List.set]
    refine sched_skip [(49, true), (50, false)] (by kernel_rfl) (HC.out.below hb2 (Nat.le_refl _)) ?_
    refine sched_pick (i := 51) false (.bool false) rfl rfl rfl rfl rfl rfl ?_
    simp only [List.set]
    refine sched_move (i := 52) (.bool false) rfl rfl rfl rfl rfl ?_
    simp only [List.set]
    refine sched_skip [(53, true), (54, false)] (by kernel_rfl) (HC.out.below hb2 (Nat.le_refl _)) ?_
    refine sched_pick (i := 55) false (.bool false) rfl rfl rfl rfl rfl rfl ?_
    simp only [List.set]
    refine sched_assign (i := 56) (.bool false) rfl rfl rfl rfl rfl ?_
    simp only [List.set]
    refine sched_nil ?_
    have hB2 := over HB.out hb2 HB.out.size
    have HB2 := hide hB2
    have hE2 := HG.out _ hB2
    clear hB2 hb2
    go_wp2_with fail
    go_ret
    exact ⟨ret_bad (by unfold goodB; rw [h1, h2, h3, h4, h5, h6, h7]; rfl), HB2.out⟩
  refine sched_call (i := 46) rfl rfl rfl rfl enters116 ((oldHolds_any r _ _ h7).mono ?_)
  rintro e w2 ⟨rfl, hb2⟩
  refine ⟨_, rfl, HC.out.below hb2 (Nat.le_refl _), ?_⟩
  replace HC := hide (HC.out.below hb2 (Nat.le_refl _))
  replace HB := hide (over HB.out hb2 HB.out.size)
  clear hb2
  simp only [List.set]
  refine sched_pick (i := 47) true (.bool true) rfl rfl rfl rfl rfl rfl ?_
  simp only [List.set]
  refine sched_move (i := 48) (.bool true) rfl rfl rfl rfl rfl ?_
  simp only [List.set]
  refine sched_take (i := 49) rfl rfl rfl (take_ldR rfl rfl) ?_
  simp only [List.set]
  cases h8 : newB r
  · refine sched_call (i := 50) rfl rfl rfl rfl enters117 ((newHolds_any r _ _ h8).mono ?_)
    rintro e w2 ⟨rfl, hb2⟩
    refine ⟨_, rfl, HC.out.below hb2 (Nat.le_refl _), ?_⟩
    simp only [List.set]
    refine sched_pick (i := 51) true (.bool false) rfl rfl rfl rfl rfl rfl ?_
    simp only [List.set]
    refine sched_move (i := 52) (.bool false) rfl rfl rfl rfl rfl ?_
    simp only [List.set]
    refine sched_skip [(53, true), (54, false)] (by kernel_rfl) (HC.out.below hb2 (Nat.le_refl _)) ?_
    refine sched_pick (i := 55) false (.bool false) rfl rfl rfl rfl rfl rfl ?_
    simp only [List.set]
    refine sched_assign (i := 56) (.bool false) rfl rfl rfl rfl rfl ?_
    simp only [List.set]
    refine sched_nil ?_
    have hB2 := over HB.out hb2 HB.out.size
    have HB2 := hide hB2
    have hE2 := HG.out _ hB2
    clear hB2 hb2
    go_wp2_with fail
    go_ret
    exact ⟨ret_bad (by unfold goodB; rw [h1, h2, h3, h4, h5, h6, h7, h8]; rfl), HB2.out⟩
  refine sched_call (i := 50) rfl rfl rfl rfl enters117 ((newHolds_any r _ _ h8).mono ?_)
  rintro e w2 ⟨rfl, hb2⟩
  refine ⟨_, rfl, HC.out.below hb2 (Nat.le_refl _), ?_⟩
  replace HC := hide (HC.out.below hb2 (Nat.le_refl _))
  replace HB := hide (over HB.out hb2 HB.out.size)
  clear hb2
  simp only [List.set]
  refine sched_pick (i := 51) true (.bool true) rfl rfl rfl rfl rfl rfl ?_
  simp only [List.set]
  refine sched_move (i := 52) (.bool true) rfl rfl rfl rfl rfl ?_
  simp only [List.set]
  refine sched_take (i := 53) rfl rfl rfl (take_ldR rfl rfl) ?_
  simp only [List.set]
  cases h9 : chgB r
  · refine sched_call (i := 54) rfl rfl rfl rfl enters118 ((changes_any r _ _ h9).mono ?_)
    rintro e w2 ⟨rfl, hb2⟩
    refine ⟨_, rfl, HC.out.below hb2 (Nat.le_refl _), ?_⟩
    simp only [List.set]
    refine sched_pick (i := 55) true (.bool false) rfl rfl rfl rfl rfl rfl ?_
    simp only [List.set]
    refine sched_assign (i := 56) (.bool false) rfl rfl rfl rfl rfl ?_
    simp only [List.set]
    refine sched_nil ?_
    have hB2 := over HB.out hb2 HB.out.size
    have HB2 := hide hB2
    have hE2 := HG.out _ hB2
    clear hB2 hb2
    go_wp2_with fail
    go_ret
    exact ⟨ret_bad (by unfold goodB; rw [h1, h2, h3, h4, h5, h6, h7, h8, h9]; rfl), HB2.out⟩
  refine sched_call (i := 54) rfl rfl rfl rfl enters118 ((changes_any r _ _ h9).mono ?_)
  rintro e w2 ⟨rfl, hb2⟩
  refine ⟨_, rfl, HC.out.below hb2 (Nat.le_refl _), ?_⟩
  replace HC := hide (HC.out.below hb2 (Nat.le_refl _))
  replace HB := hide (over HB.out hb2 HB.out.size)
  clear hb2
  simp only [List.set]
  refine sched_pick (i := 55) true (.bool true) rfl rfl rfl rfl rfl rfl ?_
  simp only [List.set]
  refine sched_assign (i := 56) (.bool true) rfl rfl rfl rfl rfl ?_
  simp only [List.set]
  refine sched_nil ?_
  go_wp2_with fail
  go_ret
  exact ⟨ret_good (by unfold goodB; rw [h1, h2, h3, h4, h5, h6, h7, h8, h9]; rfl), HB.out⟩
end Go.Proofs.YtjacenhblclkaaaGreatDoor

/- What phoenixmake.Rec makes out of a list of numbers: a record that may be; only the list's own counter is written. -/
namespace Go.Proofs.YtjacenhblclkaaaGreatDoor
open Go.RowKit
set_option linter.unusedVariables false

/-- A list of numbers that is taken one by one lies at block s. -/
structure SeqAt (w : World) (s : Nat) (lo : Option Addr) (len cap : Nat) (zs : List Int) (n : Nat) : Prop where
  lies : w.heap[s]? = some (.cells #[.slice lo len cap, .int .i64 n] 35 (0, 0))
  row : ∀ i, i < len → ∃ b off, lo = some ⟨b, off, none⟩ ∧ b < s ∧ w.cell? ⟨b, off + i, none⟩ = some (.int .i64 (zs.getD i 0))
  small : n ≤ 1000 ∧ len ≤ 500
/-- Of all blocks that were there none but s has turned. -/
structure But (s : Nat) (w w' : World) : Prop where
  os : w'.os = w.os
  tape : w'.tape = w.tape
  output : w'.output = w.output
  size : w.heap.size ≤ w'.heap.size
  block : ∀ k, k < w.heap.size → k ≠ s → w'.heap[k]? = w.heap[k]?
theorem But.refl (s : Nat) (w : World) : But s w w := ⟨rfl, rfl, rfl, Nat.le_refl _, fun _ _ _ => rfl⟩
theorem But.trans {s : Nat} {a b c : World} (h : But s a b) (k : But s b c) : But s a c :=
  ⟨k.os.trans h.os, k.tape.trans h.tape, k.output.trans h.output, Nat.le_trans h.size k.size, fun i hi hs => (k.block i (Nat.lt_of_lt_of_le hi h.size) hs).trans (h.block i hi hs)⟩
theorem But.of_below {s : Nat} {a b : World} (h : Below a.heap.size a b) : But s a b := ⟨h.os, h.tape, h.output, h.size, fun k hk _ => h.block k hk⟩
theorem But.below {s : Nat} {a b : World} (h : But s a b) (hs : s ≤ a.heap.size) : Below s a b := ⟨h.os, h.tape, h.output, h.size, fun k hk => h.block k (Nat.lt_of_lt_of_le hk hs) (Nat.ne_of_lt hk)⟩
theorem But.alloc {s : Nat} {a b : World} (h : But s a b) (A : Obj) : But s a (b.alloc A) := h.trans (But.of_below ((Below.refl _ _).alloc (Nat.le_refl _) A))
theorem But.set (s : Nat) (w : World) (o : Nat) (v : Value) (q : Nat) : But s w ((w.setCell ⟨s, o, none⟩ v).drewN q) := by
  refine ⟨rfl, rfl, rfl, ?_, fun k hk hs => ?_⟩
  · show w.heap.size ≤ (w.setCell _ _).heap.size; simp [World.setCell]
  · show (w.setCell _ _).heap[k]? = _
    simp only [World.setCell, Array.getElem?_modify]
    rw [if_neg (fun e => hs e.symm)]
theorem seq_cell {w : World} {s : Nat} {lo : Option Addr} {len cap : Nat} {zs : List Int} {n : Nat} (h : SeqAt w s lo len cap zs n) : w.cell? ⟨s, 0, none⟩ = some (.slice lo len cap) ∧ w.cell? ⟨s, 1, none⟩ = some (.int .i64 n) := by
  constructor <;> (simp only [World.cell?, h.lies]; rfl)
theorem set_block {w : World} {s : Nat} {c : Array Value} {t : TypeId} (h : w.heap[s]? = some (.cells c t (0, 0))) (o : Nat) (v : Value) : (w.setCell ⟨s, o, none⟩ v).heap[s]? = some (.cells (c.setIfInBounds o v) t (0, 0)) := by
  simp [World.setCell, Array.getElem?_modify, h]
theorem SeqAt.next {w : World} {s : Nat} {lo : Option Addr} {len cap : Nat} {zs : List Int} {n : Nat} (h : SeqAt w s lo len cap zs n) (hn : n + 1 ≤ 1000) (q : Nat) : SeqAt ((w.setCell ⟨s, 1, none⟩ (.int .i64 ((n + 1 : Nat) : Int))).drewN q) s lo len cap zs (n + 1) := by
  refine ⟨?_, fun i hi => ?_, hn, h.small.2⟩
  · exact set_block h.lies 1 _
  · obtain ⟨b, off, rfl, hb, hc⟩ := h.row i hi
    refine ⟨b, off, rfl, hb, ?_⟩
    have hB : Below s w (w.setCell ⟨s, 1, none⟩ (.int .i64 ((n + 1 : Nat) : Int))) := (Below.refl s w).setCell (p := ⟨s, 1, none⟩) (Nat.le_refl _) _
    exact (hB.cell (show b < s from hb)).trans hc
set_option maxHeartbeats 1000000 in
theorem next_any (s : Nat) (lo : Option Addr) (len cap : Nat) (zs : List Int) (n : Nat) (m : Int) (w : World) (h : SeqAt w s lo len cap zs n) (h0 : 0 < m) (h1 : m ≤ 100000) :
    Calls Tryz.prog 12 #[.pointer (some ⟨s, 0, none⟩), .int .i64 m] w fun e w' => ∃ k q, e = .returned (.int .i64 k) ∧ (0 ≤ k ∧ k < m) ∧ w' = (w.setCell ⟨s, 1, none⟩ (.int .i64 ((n + 1 : Nat) : Int))).drewN q := by
  obtain ⟨c0, c1⟩ := seq_cell h
  have hsm := h.small
  have hf : w.frozen? ⟨s, 1, none⟩ = false := by simp [World.frozen?, h.lies]
  obtain ⟨hs1, hs2⟩ := hsm
  by_cases hlt : n < len
  · obtain ⟨b, off, rfl, hb, hc⟩ := h.row n hlt
    have hlt' : (n : Int) < (len : Int) := by omega
    have hd : decide ((n : Int) < (len : Int)) = true := by simp; omega
    clear h
    obtain ⟨y, hy⟩ : ∃ y, y = zs.getD n 0 := ⟨_, rfl⟩
    rw [← hy] at hc
    clear hy
    go_enter Tryz.func12, Tryz.ntmps12
    go_wp2_with fail
    go_quiet (fail)
    go_wp2_with fail
    go_quiet (fail)
    go_wp2_with fail
    refine (number_any _ _ _ h0 h1).mono ?_
    rintro e w2 ⟨rfl, rfl⟩
    have hnb := numberB_bd y m h0
    go_wp2_with fail
    go_ret
    exact ⟨_, _, rfl, hnb, rfl⟩
  · have hd : decide ((n : Int) < (len : Int)) = false := by simp; omega
    clear h
    go_enter Tryz.func12, Tryz.ntmps12
    go_wp2_with fail
    go_quiet (fail)
    go_wp2_with fail
    refine (number_any _ _ _ h0 h1).mono ?_
    rintro e w2 ⟨rfl, rfl⟩
    have hnb := numberB_bd 0 m h0
    go_wp2_with fail
    go_ret
    exact ⟨_, _, rfl, hnb, rfl⟩
theorem set_alloc (x : World) (A : Obj) (p : Addr) (v : Value) (h : p.block < x.heap.size) : (x.alloc A).setCell p v = (x.setCell p v).alloc A := by
  unfold World.setCell World.alloc
  simp only
  congr 1
  refine Array.ext (by simp) fun i h1 h2 => ?_
  simp only [Array.getElem_modify, Array.getElem_push, Array.size_modify]
  by_cases e : i < x.heap.size
  · simp [e]
  · have : ¬ p.block = i := by omega
    simp [e, this]
theorem SeqAt.alloc {w : World} {s : Nat} {lo : Option Addr} {len cap : Nat} {zs : List Int} {n : Nat} (h : SeqAt w s lo len cap zs n) (A : Obj) : SeqAt (w.alloc A) s lo len cap zs n := by
  have hb := (Below.refl w.heap.size w).alloc (Nat.le_refl _) A
  have hlt := lt_of_block h.lies
  refine ⟨by rw [hb.block _ hlt]; exact h.lies, fun i hi => ?_, h.small⟩
  obtain ⟨b, off, e, hbs, hc⟩ := h.row i hi
  exact ⟨b, off, e, hbs, (hb.cell (show b < w.heap.size by omega)).trans hc⟩
theorem next_one (x : World) (A : Obj) (N s : Nat) (lo : Option Addr) (len cap : Nat) (zs : List Int) (n : Nat) (m : Int) (h : SeqAt x s lo len cap zs n) (hN : x.heap.size = N) (h0 : 0 < m) (h1 : m ≤ 100000) (hn : n < 1000) :
    Calls Tryz.prog 12 #[.pointer (some ⟨s, 0, none⟩), .int .i64 m] (x.alloc A) fun e w' => ∃ k x', e = .returned (.int .i64 k) ∧ (0 ≤ k ∧ k < m) ∧ w' = x'.alloc A ∧ SeqAt x' s lo len cap zs (n + 1) ∧ x'.heap.size = N ∧ But s x x' := by
  refine (next_any s lo len cap zs n m _ (h.alloc A) h0 h1).mono ?_
  rintro e w' ⟨k, q, rfl, hk, rfl⟩
  refine ⟨k, (x.setCell ⟨s, 1, none⟩ (.int .i64 ((n + 1 : Nat) : Int))).drewN q, rfl, hk, ?_, h.next (by omega) q, ?_, ?_⟩
  · rw [set_alloc x A _ _ (lt_of_block h.lies)]; rfl
  · rw [← hN]; show (x.setCell _ _).heap.size = _; simp [World.setCell]
  · exact But.set s x 1 _ q
theorem next_two (x : World) (A B : Obj) (N s : Nat) (lo : Option Addr) (len cap : Nat) (zs : List Int) (n : Nat) (m : Int) (h : SeqAt x s lo len cap zs n) (hN : x.heap.size = N) (h0 : 0 < m) (h1 : m ≤ 100000) (hn : n < 1000) :
    Calls Tryz.prog 12 #[.pointer (some ⟨s, 0, none⟩), .int .i64 m] ((x.alloc A).alloc B) fun e w' => ∃ k x', e = .returned (.int .i64 k) ∧ (0 ≤ k ∧ k < m) ∧ w' = (x'.alloc A).alloc B ∧ SeqAt x' s lo len cap zs (n + 1) ∧ x'.heap.size = N ∧ But s x x' := by
  refine (next_any s lo len cap zs n m _ ((h.alloc A).alloc B) h0 h1).mono ?_
  rintro e w' ⟨k, q, rfl, hk, rfl⟩
  refine ⟨k, (x.setCell ⟨s, 1, none⟩ (.int .i64 ((n + 1 : Nat) : Int))).drewN q, rfl, hk, ?_, h.next (by omega) q, ?_, ?_⟩
  · have hlt := lt_of_block h.lies
    rw [set_alloc (x.alloc A) B _ _ (by simp; omega), set_alloc x A _ _ hlt]; rfl
  · rw [← hN]; show (x.setCell _ _).heap.size = _; simp [World.setCell]
  · exact But.set s x 1 _ q
theorem good_of {r : R} (h : holdsB 1 10 r.kind = true ∧ holdsB (txnLo r.kind) (txnHi r.kind) r.txn = true ∧ holdsB (pageLo r.kind) (pageHi r.kind) r.page = true ∧ holdsB (prevLo r.kind) (prevHi r.kind) r.prev = true ∧ holdsB 0 (nextHi r.kind) r.next = true ∧ holdsB 0 (keyHi r.kind) r.key = true ∧ oldB r = true) (h' : (newB r && chgB r) = true) : goodB r = true := by
  unfold goodB
  obtain ⟨h1, h2, h3, h4, h5, h6, h7⟩ := h
  rw [h1, h2, h3, h4, h5, h6, h7, h']
  rfl
set_option maxHeartbeats 4000000 in
theorem make_from (n0 : Nat) (hn0 : n0 + 20 ≤ 1000) (s : Nat) (lo : Option Addr) (len cap : Nat) (zs : List Int) (w : World) (h : SeqAt w s lo len cap zs n0) :
    Calls Tryz.prog 11 #[.pointer (some ⟨s, 0, none⟩)] w fun e w' => ∃ r : R, e = .returned r.val ∧ goodB r = true ∧ r.fits ∧ (∃ n1, n1 ≤ n0 + 10 ∧ SeqAt w' s lo len cap zs n1) ∧ But s w w' := by
  have HS := hide h
  have HB := hide (But.refl s w)
  obtain ⟨N, hN⟩ : ∃ N, w.heap.size = N := ⟨_, rfl⟩
  have HE : Hid (∀ (x : World) (A B : Obj) (n1 : Nat), But s w x → SeqAt x s lo len cap zs n1 → n1 ≤ n0 + 10 → (∃ n1, n1 ≤ n0 + 10 ∧ SeqAt ((x.alloc A).alloc B) s lo len cap zs n1) ∧ But s w ((x.alloc A).alloc B)) :=
    fun x A B n1 hb hs hn => ⟨⟨n1, hn, (hs.alloc A).alloc B⟩, (hb.alloc A).alloc B⟩
  clear h
  go_enter Tryz.func11, Tryz.ntmps11
  go_wp2_with fail
  refine (next_one _ _ N s lo len cap zs n0 10 HS.out hN (by omega) (by omega) (by omega)).mono ?_
  rintro e w2 ⟨k0, x0, rfl, ⟨p0, q0⟩, rfl, hS, hN0, hB⟩
  replace HS := hide hS
  replace HB := hide (HB.out.trans hB)
  clear hS hB hN
  rename x0.heap.size = N => hN
  have hk : k0 = 0 ∨ k0 = 1 ∨ k0 = 2 ∨ k0 = 3 ∨ k0 = 4 ∨ k0 = 5 ∨ k0 = 6 ∨ k0 = 7 ∨ k0 = 8 ∨ k0 = 9 := by omega
  clear p0 q0
  rcases hk with rfl | rfl | rfl | rfl | rfl | rfl | rfl | rfl | rfl | rfl
  · go_wp2_with fail
    refine (next_two _ _ _ N s lo len cap zs (n0 + 1) 5 HS.out hN (by omega) (by omega) (by omega)).mono ?_
    rintro e w2 ⟨k1, x1, rfl, ⟨p1, q1⟩, rfl, hS, hN1, hB⟩
    replace HS := hide hS
    replace HB := hide (HB.out.trans hB)
    clear hS hB hN
    rename x1.heap.size = N => hN
    go_wp2_with fail
    exact bodyPost_ret (v := .agg #[.int .i64 (1), .int .i64 (1 + k1), .int .i64 (0), .int .i64 (0), .int .i64 (0), .int .i64 (0), .bool false, .bool false, .int .i64 (0), .int .i64 (0)]) (by simp [results, Tryz.results11, go_sem, hN]) rfl ⟨⟨1, 1 + k1, 0, 0, 0, 0, false, false, 0, 0⟩, rfl, good_of ⟨rfl, by simp [holdsB, txnLo, txnHi]; try omega, by simp [holdsB, pageLo, pageHi]; try omega, by simp [holdsB, prevLo, prevHi]; try omega, by simp [holdsB, nextHi]; try omega, by simp [holdsB, keyHi]; try omega, by simp [oldB]; try omega⟩ rfl, ⟨⟨by simp; try omega, by simp; try omega⟩, ⟨by simp; try omega, by simp; try omega⟩⟩, HE.out _ _ _ _ HB.out HS.out (by omega)⟩
  · go_wp2_with fail
    refine (next_two _ _ _ N s lo len cap zs (n0 + 1) 5 HS.out hN (by omega) (by omega) (by omega)).mono ?_
    rintro e w2 ⟨k1, x1, rfl, ⟨p1, q1⟩, rfl, hS, hN1, hB⟩
    replace HS := hide hS
    replace HB := hide (HB.out.trans hB)
    clear hS hB hN
    rename x1.heap.size = N => hN
    go_wp2_with fail
    refine (next_two _ _ _ N s lo len cap zs (n0 + 2) 4 HS.out hN (by omega) (by omega) (by omega)).mono ?_
    rintro e w2 ⟨k2, x2, rfl, ⟨p2, q2⟩, rfl, hS, hN2, hB⟩
    replace HS := hide hS
    replace HB := hide (HB.out.trans hB)
    clear hS hB hN
    rename x2.heap.size = N => hN
    go_wp2_with fail
    refine (next_two _ _ _ N s lo len cap zs (n0 + 3) 20 HS.out hN (by omega) (by omega) (by omega)).mono ?_
    rintro e w2 ⟨k3, x3, rfl, ⟨p3, q3⟩, rfl, hS, hN3, hB⟩
    replace HS := hide hS
    replace HB := hide (HB.out.trans hB)
    clear hS hB hN
    rename x3.heap.size = N => hN
    go_wp2_with fail
    refine (next_two _ _ _ N s lo len cap zs (n0 + 4) 40 HS.out hN (by omega) (by omega) (by omega)).mono ?_
    rintro e w2 ⟨k4, x4, rfl, ⟨p4, q4⟩, rfl, hS, hN4, hB⟩
    replace HS := hide hS
    replace HB := hide (HB.out.trans hB)
    clear hS hB hN
    rename x4.heap.size = N => hN
    go_wp2_with fail
    refine (next_two _ _ _ N s lo len cap zs (n0 + 5) 3 HS.out hN (by omega) (by omega) (by omega)).mono ?_
    rintro e w2 ⟨k5, x5, rfl, ⟨p5, q5⟩, rfl, hS, hN5, hB⟩
    replace HS := hide hS
    replace HB := hide (HB.out.trans hB)
    clear hS hB hN
    rename x5.heap.size = N => hN
    rcases (show k5 = 0 ∨ 0 < k5 by omega) with rfl | hh
    · go_wp2_with fail
      refine (next_two _ _ _ N s lo len cap zs (n0 + 6) 2 HS.out hN (by omega) (by omega) (by omega)).mono ?_
      rintro e w2 ⟨k6, x6, rfl, ⟨p6, q6⟩, rfl, hS, hN6, hB⟩
      replace HS := hide hS
      replace HB := hide (HB.out.trans hB)
      clear hS hB hN
      rename x6.heap.size = N => hN
      rcases (show k6 = 0 ∨ 0 < k6 by omega) with rfl | hm
      · go_wp2_with fail
        refine (next_two _ _ _ N s lo len cap zs (n0 + 7) 1000 HS.out hN (by omega) (by omega) (by omega)).mono ?_
        rintro e w2 ⟨k7, x7, rfl, ⟨p7, q7⟩, rfl, hS, hN7, hB⟩
        replace HS := hide hS
        replace HB := hide (HB.out.trans hB)
        clear hS hB hN
        rename x7.heap.size = N => hN
        go_wp2_with fail
        exact bodyPost_ret (v := .agg #[.int .i64 (2), .int .i64 (1 + k1), .int .i64 (1 + k2), .int .i64 (k3), .int .i64 (0), .int .i64 (k4), .bool true, .bool false, .int .i64 (k7 - 500), .int .i64 (0)]) (by simp [results, Tryz.results11, go_sem, hN]) rfl ⟨⟨2, 1 + k1, 1 + k2, k3, 0, k4, true, false, k7 - 500, 0⟩, rfl, good_of ⟨rfl, by simp [holdsB, txnLo, txnHi]; try omega, by simp [holdsB, pageLo, pageHi]; try omega, by simp [holdsB, prevLo, prevHi]; try omega, by simp [holdsB, nextHi]; try omega, by simp [holdsB, keyHi]; try omega, by simp [oldB]; try omega⟩ rfl, ⟨⟨by simp; try omega, by simp; try omega⟩, ⟨by simp; try omega, by simp; try omega⟩⟩, HE.out _ _ _ _ HB.out HS.out (by omega)⟩
      · have hm1 : (k6 == 0) = false := by simp; omega
        go_wp2_with fail
        refine (next_two _ _ _ N s lo len cap zs (n0 + 7) 1000 HS.out hN (by omega) (by omega) (by omega)).mono ?_
        rintro e w2 ⟨k7, x7, rfl, ⟨p7, q7⟩, rfl, hS, hN7, hB⟩
        replace HS := hide hS
        replace HB := hide (HB.out.trans hB)
        clear hS hB hN
        rename x7.heap.size = N => hN
        go_wp2_with fail
        exact bodyPost_ret (v := .agg #[.int .i64 (2), .int .i64 (1 + k1), .int .i64 (1 + k2), .int .i64 (k3), .int .i64 (0), .int .i64 (k4), .bool true, .bool false, .int .i64 (k7 - 500), .int .i64 (0)]) (by simp [results, Tryz.results11, go_sem, hN]) rfl ⟨⟨2, 1 + k1, 1 + k2, k3, 0, k4, true, false, k7 - 500, 0⟩, rfl, good_of ⟨rfl, by simp [holdsB, txnLo, txnHi]; try omega, by simp [holdsB, pageLo, pageHi]; try omega, by simp [holdsB, prevLo, prevHi]; try omega, by simp [holdsB, nextHi]; try omega, by simp [holdsB, keyHi]; try omega, by simp [oldB]; try omega⟩ rfl, ⟨⟨by simp; try omega, by simp; try omega⟩, ⟨by simp; try omega, by simp; try omega⟩⟩, HE.out _ _ _ _ HB.out HS.out (by omega)⟩
    · have hh1 : decide (0 < k5) = true := by simp; omega
      go_wp2_with fail
      refine (next_two _ _ _ N s lo len cap zs (n0 + 6) 1000 HS.out hN (by omega) (by omega) (by omega)).mono ?_
      rintro e w2 ⟨k6, x6, rfl, ⟨p6, q6⟩, rfl, hS, hN6, hB⟩
      replace HS := hide hS
      replace HB := hide (HB.out.trans hB)
      clear hS hB hN
      rename x6.heap.size = N => hN
      go_wp2_with fail
      refine (next_two _ _ _ N s lo len cap zs (n0 + 7) 2 HS.out hN (by omega) (by omega) (by omega)).mono ?_
      rintro e w2 ⟨k7, x7, rfl, ⟨p7, q7⟩, rfl, hS, hN7, hB⟩
      replace HS := hide hS
      replace HB := hide (HB.out.trans hB)
      clear hS hB hN
      rename x7.heap.size = N => hN
      rcases (show k7 = 0 ∨ 0 < k7 by omega) with rfl | hm
      · go_wp2_with fail
        refine (next_two _ _ _ N s lo len cap zs (n0 + 8) 1000 HS.out hN (by omega) (by omega) (by omega)).mono ?_
        rintro e w2 ⟨k8, x8, rfl, ⟨p8, q8⟩, rfl, hS, hN8, hB⟩
        replace HS := hide hS
        replace HB := hide (HB.out.trans hB)
        clear hS hB hN
        rename x8.heap.size = N => hN
        go_wp2_with fail
        exact bodyPost_ret (v := .agg #[.int .i64 (2), .int .i64 (1 + k1), .int .i64 (1 + k2), .int .i64 (k3), .int .i64 (0), .int .i64 (k4), .bool true, .bool true, .int .i64 (k8 - 500), .int .i64 (k6 - 500)]) (by simp [results, Tryz.results11, go_sem, hN]) rfl ⟨⟨2, 1 + k1, 1 + k2, k3, 0, k4, true, true, k8 - 500, k6 - 500⟩, rfl, good_of ⟨rfl, by simp [holdsB, txnLo, txnHi]; try omega, by simp [holdsB, pageLo, pageHi]; try omega, by simp [holdsB, prevLo, prevHi]; try omega, by simp [holdsB, nextHi]; try omega, by simp [holdsB, keyHi]; try omega, by simp [oldB]; try omega⟩ rfl, ⟨⟨by simp; try omega, by simp; try omega⟩, ⟨by simp; try omega, by simp; try omega⟩⟩, HE.out _ _ _ _ HB.out HS.out (by omega)⟩
      · have hm1 : (k7 == 0) = false := by simp; omega
        go_wp2_with fail
        exact bodyPost_ret (v := .agg #[.int .i64 (2), .int .i64 (1 + k1), .int .i64 (1 + k2), .int .i64 (k3), .int .i64 (0), .int .i64 (k4), .bool false, .bool true, .int .i64 (0), .int .i64 (k6 - 500)]) (by simp [results, Tryz.results11, go_sem, hN]) rfl ⟨⟨2, 1 + k1, 1 + k2, k3, 0, k4, false, true, 0, k6 - 500⟩, rfl, good_of ⟨rfl, by simp [holdsB, txnLo, txnHi]; try omega, by simp [holdsB, pageLo, pageHi]; try omega, by simp [holdsB, prevLo, prevHi]; try omega, by simp [holdsB, nextHi]; try omega, by simp [holdsB, keyHi]; try omega, by simp [oldB]; try omega⟩ rfl, ⟨⟨by simp; try omega, by simp; try omega⟩, ⟨by simp; try omega, by simp; try omega⟩⟩, HE.out _ _ _ _ HB.out HS.out (by omega)⟩
  · go_wp2_with fail
    refine (next_two _ _ _ N s lo len cap zs (n0 + 1) 5 HS.out hN (by omega) (by omega) (by omega)).mono ?_
    rintro e w2 ⟨k1, x1, rfl, ⟨p1, q1⟩, rfl, hS, hN1, hB⟩
    replace HS := hide hS
    replace HB := hide (HB.out.trans hB)
    clear hS hB hN
    rename x1.heap.size = N => hN
    go_wp2_with fail
    refine (next_two _ _ _ N s lo len cap zs (n0 + 2) 4 HS.out hN (by omega) (by omega) (by omega)).mono ?_
    rintro e w2 ⟨k2, x2, rfl, ⟨p2, q2⟩, rfl, hS, hN2, hB⟩
    replace HS := hide hS
    replace HB := hide (HB.out.trans hB)
    clear hS hB hN
    rename x2.heap.size = N => hN
    go_wp2_with fail
    refine (next_two _ _ _ N s lo len cap zs (n0 + 3) 20 HS.out hN (by omega) (by omega) (by omega)).mono ?_
    rintro e w2 ⟨k3, x3, rfl, ⟨p3, q3⟩, rfl, hS, hN3, hB⟩
    replace HS := hide hS
    replace HB := hide (HB.out.trans hB)
    clear hS hB hN
    rename x3.heap.size = N => hN
    go_wp2_with fail
    refine (next_two _ _ _ N s lo len cap zs (n0 + 4) 40 HS.out hN (by omega) (by omega) (by omega)).mono ?_
    rintro e w2 ⟨k4, x4, rfl, ⟨p4, q4⟩, rfl, hS, hN4, hB⟩
    replace HS := hide hS
    replace HB := hide (HB.out.trans hB)
    clear hS hB hN
    rename x4.heap.size = N => hN
    go_wp2_with fail
    refine (next_two _ _ _ N s lo len cap zs (n0 + 5) 3 HS.out hN (by omega) (by omega) (by omega)).mono ?_
    rintro e w2 ⟨k5, x5, rfl, ⟨p5, q5⟩, rfl, hS, hN5, hB⟩
    replace HS := hide hS
    replace HB := hide (HB.out.trans hB)
    clear hS hB hN
    rename x5.heap.size = N => hN
    rcases (show k5 = 0 ∨ 0 < k5 by omega) with rfl | hh
    · go_wp2_with fail
      refine (next_two _ _ _ N s lo len cap zs (n0 + 6) 20 HS.out hN (by omega) (by omega) (by omega)).mono ?_
      rintro e w2 ⟨k6, x6, rfl, ⟨p6, q6⟩, rfl, hS, hN6, hB⟩
      replace HS := hide hS
      replace HB := hide (HB.out.trans hB)
      clear hS hB hN
      rename x6.heap.size = N => hN
      go_wp2_with fail
      refine (next_two _ _ _ N s lo len cap zs (n0 + 7) 20 HS.out hN (by omega) (by omega) (by omega)).mono ?_
      rintro e w2 ⟨k7, x7, rfl, ⟨p7, q7⟩, rfl, hS, hN7, hB⟩
      replace HS := hide hS
      replace HB := hide (HB.out.trans hB)
      clear hS hB hN
      rename x7.heap.size = N => hN
      go_wp2_with fail
      exact bodyPost_ret (v := .agg #[.int .i64 (3), .int .i64 (1 + k1), .int .i64 (1 + k2), .int .i64 (k3), .int .i64 (k7), .int .i64 (k4), .bool true, .bool false, .int .i64 (1 + k6), .int .i64 (0)]) (by simp [results, Tryz.results11, go_sem, hN]) rfl ⟨⟨3, 1 + k1, 1 + k2, k3, k7, k4, true, false, 1 + k6, 0⟩, rfl, good_of ⟨rfl, by simp [holdsB, txnLo, txnHi]; try omega, by simp [holdsB, pageLo, pageHi]; try omega, by simp [holdsB, prevLo, prevHi]; try omega, by simp [holdsB, nextHi]; try omega, by simp [holdsB, keyHi]; try omega, by simp [oldB]; try omega⟩ rfl, ⟨⟨by simp; try omega, by simp; try omega⟩, ⟨by simp; try omega, by simp; try omega⟩⟩, HE.out _ _ _ _ HB.out HS.out (by omega)⟩
    · have hh1 : decide (0 < k5) = true := by simp; omega
      go_wp2_with fail
      refine (next_two _ _ _ N s lo len cap zs (n0 + 6) 1000 HS.out hN (by omega) (by omega) (by omega)).mono ?_
      rintro e w2 ⟨k6, x6, rfl, ⟨p6, q6⟩, rfl, hS, hN6, hB⟩
      replace HS := hide hS
      replace HB := hide (HB.out.trans hB)
      clear hS hB hN
      rename x6.heap.size = N => hN
      go_wp2_with fail
      refine (next_two _ _ _ N s lo len cap zs (n0 + 7) 20 HS.out hN (by omega) (by omega) (by omega)).mono ?_
      rintro e w2 ⟨k7, x7, rfl, ⟨p7, q7⟩, rfl, hS, hN7, hB⟩
      replace HS := hide hS
      replace HB := hide (HB.out.trans hB)
      clear hS hB hN
      rename x7.heap.size = N => hN
      go_wp2_with fail
      refine (next_two _ _ _ N s lo len cap zs (n0 + 8) 20 HS.out hN (by omega) (by omega) (by omega)).mono ?_
      rintro e w2 ⟨k8, x8, rfl, ⟨p8, q8⟩, rfl, hS, hN8, hB⟩
      replace HS := hide hS
      replace HB := hide (HB.out.trans hB)
      clear hS hB hN
      rename x8.heap.size = N => hN
      go_wp2_with fail
      exact bodyPost_ret (v := .agg #[.int .i64 (3), .int .i64 (1 + k1), .int .i64 (1 + k2), .int .i64 (k3), .int .i64 (k8), .int .i64 (k4), .bool true, .bool true, .int .i64 (1 + k7), .int .i64 (k6 - 500)]) (by simp [results, Tryz.results11, go_sem, hN]) rfl ⟨⟨3, 1 + k1, 1 + k2, k3, k8, k4, true, true, 1 + k7, k6 - 500⟩, rfl, good_of ⟨rfl, by simp [holdsB, txnLo, txnHi]; try omega, by simp [holdsB, pageLo, pageHi]; try omega, by simp [holdsB, prevLo, prevHi]; try omega, by simp [holdsB, nextHi]; try omega, by simp [holdsB, keyHi]; try omega, by simp [oldB]; try omega⟩ rfl, ⟨⟨by simp; try omega, by simp; try omega⟩, ⟨by simp; try omega, by simp; try omega⟩⟩, HE.out _ _ _ _ HB.out HS.out (by omega)⟩
  · go_wp2_with fail
    refine (next_two _ _ _ N s lo len cap zs (n0 + 1) 5 HS.out hN (by omega) (by omega) (by omega)).mono ?_
    rintro e w2 ⟨k1, x1, rfl, ⟨p1, q1⟩, rfl, hS, hN1, hB⟩
    replace HS := hide hS
    replace HB := hide (HB.out.trans hB)
    clear hS hB hN
    rename x1.heap.size = N => hN
    go_wp2_with fail
    refine (next_two _ _ _ N s lo len cap zs (n0 + 2) 20 HS.out hN (by omega) (by omega) (by omega)).mono ?_
    rintro e w2 ⟨k2, x2, rfl, ⟨p2, q2⟩, rfl, hS, hN2, hB⟩
    replace HS := hide hS
    replace HB := hide (HB.out.trans hB)
    clear hS hB hN
    rename x2.heap.size = N => hN
    go_wp2_with fail
    exact bodyPost_ret (v := .agg #[.int .i64 (4), .int .i64 (1 + k1), .int .i64 (0), .int .i64 (k2), .int .i64 (0), .int .i64 (0), .bool false, .bool false, .int .i64 (0), .int .i64 (0)]) (by simp [results, Tryz.results11, go_sem, hN]) rfl ⟨⟨4, 1 + k1, 0, k2, 0, 0, false, false, 0, 0⟩, rfl, good_of ⟨rfl, by simp [holdsB, txnLo, txnHi]; try omega, by simp [holdsB, pageLo, pageHi]; try omega, by simp [holdsB, prevLo, prevHi]; try omega, by simp [holdsB, nextHi]; try omega, by simp [holdsB, keyHi]; try omega, by simp [oldB]; try omega⟩ rfl, ⟨⟨by simp; try omega, by simp; try omega⟩, ⟨by simp; try omega, by simp; try omega⟩⟩, HE.out _ _ _ _ HB.out HS.out (by omega)⟩
  · go_wp2_with fail
    refine (next_two _ _ _ N s lo len cap zs (n0 + 1) 5 HS.out hN (by omega) (by omega) (by omega)).mono ?_
    rintro e w2 ⟨k1, x1, rfl, ⟨p1, q1⟩, rfl, hS, hN1, hB⟩
    replace HS := hide hS
    replace HB := hide (HB.out.trans hB)
    clear hS hB hN
    rename x1.heap.size = N => hN
    go_wp2_with fail
    refine (next_two _ _ _ N s lo len cap zs (n0 + 2) 20 HS.out hN (by omega) (by omega) (by omega)).mono ?_
    rintro e w2 ⟨k2, x2, rfl, ⟨p2, q2⟩, rfl, hS, hN2, hB⟩
    replace HS := hide hS
    replace HB := hide (HB.out.trans hB)
    clear hS hB hN
    rename x2.heap.size = N => hN
    go_wp2_with fail
    exact bodyPost_ret (v := .agg #[.int .i64 (5), .int .i64 (1 + k1), .int .i64 (0), .int .i64 (k2), .int .i64 (0), .int .i64 (0), .bool false, .bool false, .int .i64 (0), .int .i64 (0)]) (by simp [results, Tryz.results11, go_sem, hN]) rfl ⟨⟨5, 1 + k1, 0, k2, 0, 0, false, false, 0, 0⟩, rfl, good_of ⟨rfl, by simp [holdsB, txnLo, txnHi]; try omega, by simp [holdsB, pageLo, pageHi]; try omega, by simp [holdsB, prevLo, prevHi]; try omega, by simp [holdsB, nextHi]; try omega, by simp [holdsB, keyHi]; try omega, by simp [oldB]; try omega⟩ rfl, ⟨⟨by simp; try omega, by simp; try omega⟩, ⟨by simp; try omega, by simp; try omega⟩⟩, HE.out _ _ _ _ HB.out HS.out (by omega)⟩
  · go_wp2_with fail
    refine (next_two _ _ _ N s lo len cap zs (n0 + 1) 5 HS.out hN (by omega) (by omega) (by omega)).mono ?_
    rintro e w2 ⟨k1, x1, rfl, ⟨p1, q1⟩, rfl, hS, hN1, hB⟩
    replace HS := hide hS
    replace HB := hide (HB.out.trans hB)
    clear hS hB hN
    rename x1.heap.size = N => hN
    go_wp2_with fail
    refine (next_two _ _ _ N s lo len cap zs (n0 + 2) 20 HS.out hN (by omega) (by omega) (by omega)).mono ?_
    rintro e w2 ⟨k2, x2, rfl, ⟨p2, q2⟩, rfl, hS, hN2, hB⟩
    replace HS := hide hS
    replace HB := hide (HB.out.trans hB)
    clear hS hB hN
    rename x2.heap.size = N => hN
    go_wp2_with fail
    exact bodyPost_ret (v := .agg #[.int .i64 (6), .int .i64 (1 + k1), .int .i64 (0), .int .i64 (k2), .int .i64 (0), .int .i64 (0), .bool false, .bool false, .int .i64 (0), .int .i64 (0)]) (by simp [results, Tryz.results11, go_sem, hN]) rfl ⟨⟨6, 1 + k1, 0, k2, 0, 0, false, false, 0, 0⟩, rfl, good_of ⟨rfl, by simp [holdsB, txnLo, txnHi]; try omega, by simp [holdsB, pageLo, pageHi]; try omega, by simp [holdsB, prevLo, prevHi]; try omega, by simp [holdsB, nextHi]; try omega, by simp [holdsB, keyHi]; try omega, by simp [oldB]; try omega⟩ rfl, ⟨⟨by simp; try omega, by simp; try omega⟩, ⟨by simp; try omega, by simp; try omega⟩⟩, HE.out _ _ _ _ HB.out HS.out (by omega)⟩
  · go_wp2_with fail
    exact bodyPost_ret (v := .agg #[.int .i64 (7), .int .i64 (0), .int .i64 (0), .int .i64 (0), .int .i64 (0), .int .i64 (0), .bool false, .bool false, .int .i64 (0), .int .i64 (0)]) (by simp [results, Tryz.results11, go_sem, hN]) rfl ⟨⟨7, 0, 0, 0, 0, 0, false, false, 0, 0⟩, rfl, good_of ⟨rfl, by simp [holdsB, txnLo, txnHi]; try omega, by simp [holdsB, pageLo, pageHi]; try omega, by simp [holdsB, prevLo, prevHi]; try omega, by simp [holdsB, nextHi]; try omega, by simp [holdsB, keyHi]; try omega, by simp [oldB]; try omega⟩ rfl, ⟨⟨by simp; try omega, by simp; try omega⟩, ⟨by simp; try omega, by simp; try omega⟩⟩, HE.out _ _ _ _ HB.out HS.out (by omega)⟩
  · go_wp2_with fail
    refine (next_two _ _ _ N s lo len cap zs (n0 + 1) 5 HS.out hN (by omega) (by omega) (by omega)).mono ?_
    rintro e w2 ⟨k1, x1, rfl, ⟨p1, q1⟩, rfl, hS, hN1, hB⟩
    replace HS := hide hS
    replace HB := hide (HB.out.trans hB)
    clear hS hB hN
    rename x1.heap.size = N => hN
    go_wp2_with fail
    refine (next_two _ _ _ N s lo len cap zs (n0 + 2) 20 HS.out hN (by omega) (by omega) (by omega)).mono ?_
    rintro e w2 ⟨k2, x2, rfl, ⟨p2, q2⟩, rfl, hS, hN2, hB⟩
    replace HS := hide hS
    replace HB := hide (HB.out.trans hB)
    clear hS hB hN
    rename x2.heap.size = N => hN
    go_wp2_with fail
    refine (next_two _ _ _ N s lo len cap zs (n0 + 3) 3 HS.out hN (by omega) (by omega) (by omega)).mono ?_
    rintro e w2 ⟨k3, x3, rfl, ⟨p3, q3⟩, rfl, hS, hN3, hB⟩
    replace HS := hide hS
    replace HB := hide (HB.out.trans hB)
    clear hS hB hN
    rename x3.heap.size = N => hN
    go_wp2_with fail
    refine (next_two _ _ _ N s lo len cap zs (n0 + 4) 20 HS.out hN (by omega) (by omega) (by omega)).mono ?_
    rintro e w2 ⟨k4, x4, rfl, ⟨p4, q4⟩, rfl, hS, hN4, hB⟩
    replace HS := hide hS
    replace HB := hide (HB.out.trans hB)
    clear hS hB hN
    rename x4.heap.size = N => hN
    go_wp2_with fail
    exact bodyPost_ret (v := .agg #[.int .i64 (8), .int .i64 (1 + k1), .int .i64 (0), .int .i64 (k2), .int .i64 (k4), .int .i64 (k3), .bool false, .bool false, .int .i64 (0), .int .i64 (0)]) (by simp [results, Tryz.results11, go_sem, hN]) rfl ⟨⟨8, 1 + k1, 0, k2, k4, k3, false, false, 0, 0⟩, rfl, good_of ⟨rfl, by simp [holdsB, txnLo, txnHi]; try omega, by simp [holdsB, pageLo, pageHi]; try omega, by simp [holdsB, prevLo, prevHi]; try omega, by simp [holdsB, nextHi]; try omega, by simp [holdsB, keyHi]; try omega, by simp [oldB]; try omega⟩ rfl, ⟨⟨by simp; try omega, by simp; try omega⟩, ⟨by simp; try omega, by simp; try omega⟩⟩, HE.out _ _ _ _ HB.out HS.out (by omega)⟩
  · go_wp2_with fail
    refine (next_two _ _ _ N s lo len cap zs (n0 + 1) 4 HS.out hN (by omega) (by omega) (by omega)).mono ?_
    rintro e w2 ⟨k1, x1, rfl, ⟨p1, q1⟩, rfl, hS, hN1, hB⟩
    replace HS := hide hS
    replace HB := hide (HB.out.trans hB)
    clear hS hB hN
    rename x1.heap.size = N => hN
    go_wp2_with fail
    refine (next_two _ _ _ N s lo len cap zs (n0 + 2) 20 HS.out hN (by omega) (by omega) (by omega)).mono ?_
    rintro e w2 ⟨k2, x2, rfl, ⟨p2, q2⟩, rfl, hS, hN2, hB⟩
    replace HS := hide hS
    replace HB := hide (HB.out.trans hB)
    clear hS hB hN
    rename x2.heap.size = N => hN
    go_wp2_with fail
    exact bodyPost_ret (v := .agg #[.int .i64 (9), .int .i64 (0), .int .i64 (1 + k1), .int .i64 (1 + k2), .int .i64 (0), .int .i64 (0), .bool false, .bool false, .int .i64 (0), .int .i64 (0)]) (by simp [results, Tryz.results11, go_sem, hN]) rfl ⟨⟨9, 0, 1 + k1, 1 + k2, 0, 0, false, false, 0, 0⟩, rfl, good_of ⟨rfl, by simp [holdsB, txnLo, txnHi]; try omega, by simp [holdsB, pageLo, pageHi]; try omega, by simp [holdsB, prevLo, prevHi]; try omega, by simp [holdsB, nextHi]; try omega, by simp [holdsB, keyHi]; try omega, by simp [oldB]; try omega⟩ rfl, ⟨⟨by simp; try omega, by simp; try omega⟩, ⟨by simp; try omega, by simp; try omega⟩⟩, HE.out _ _ _ _ HB.out HS.out (by omega)⟩
  · go_wp2_with fail
    refine (next_two _ _ _ N s lo len cap zs (n0 + 1) 9 HS.out hN (by omega) (by omega) (by omega)).mono ?_
    rintro e w2 ⟨k1, x1, rfl, ⟨p1, q1⟩, rfl, hS, hN1, hB⟩
    replace HS := hide hS
    replace HB := hide (HB.out.trans hB)
    clear hS hB hN
    rename x1.heap.size = N => hN
    go_wp2_with fail
    exact bodyPost_ret (v := .agg #[.int .i64 (10), .int .i64 (0), .int .i64 (0), .int .i64 (0), .int .i64 (k1), .int .i64 (0), .bool false, .bool false, .int .i64 (0), .int .i64 (0)]) (by simp [results, Tryz.results11, go_sem, hN]) rfl ⟨⟨10, 0, 0, 0, k1, 0, false, false, 0, 0⟩, rfl, good_of ⟨rfl, by simp [holdsB, txnLo, txnHi]; try omega, by simp [holdsB, pageLo, pageHi]; try omega, by simp [holdsB, prevLo, prevHi]; try omega, by simp [holdsB, nextHi]; try omega, by simp [holdsB, keyHi]; try omega, by simp [oldB]; try omega⟩ rfl, ⟨⟨by simp; try omega, by simp; try omega⟩, ⟨by simp; try omega, by simp; try omega⟩⟩, HE.out _ _ _ _ HB.out HS.out (by omega)⟩
theorem make_any (s : Nat) (lo : Option Addr) (len cap : Nat) (zs : List Int) (w : World) (h : SeqAt w s lo len cap zs 0) :
    Calls Tryz.prog 11 #[.pointer (some ⟨s, 0, none⟩)] w fun e w' => ∃ r : R, e = .returned r.val ∧ goodB r = true ∧ r.fits ∧ Below s w w' := by
  refine (make_from 0 (by omega) s lo len cap zs w h).mono ?_
  rintro e w' ⟨r, rfl, hg, hf, _, hb⟩
  exact ⟨r, rfl, hg, hf, hb.below (Nat.le_of_lt (lt_of_block h.lies))⟩
end Go.Proofs.YtjacenhblclkaaaGreatDoor

/- What rec.Bytes answers: ErrRange of a record that may not be; else its forty bytes, in new memory. -/
namespace Go.Proofs.YtjacenhblclkaaaGreatDoor
open Go.RowKit
set_option linter.unusedVariables false

/-- A list and an error, as what a function hands back. -/
theorem bytes_len (l cap : Nat) (ao : Option Addr) (xs : List Int) (a s n : Int) (w : World) (h : Row w ao xs) (hl : xs.length = l) (ha : -9223372036854775808 ≤ a) (ha' : a ≤ 9223372036854775807) (hn : 0 ≤ n) (hn' : n ≤ 18446744073709551615) :
    Calls Tryz.prog 155 #[.slice ao l cap, .int .i64 a, .int .i64 s, .int .u64 n] w fun e w' => e = .returned (.slice (some ⟨w.heap.size, 0, none⟩) l l) ∧ Own w' w.heap.size (some ⟨w.heap.size, 0, none⟩) l (putB xs a n (widthB s).toNat) ∧ Below w.heap.size w w' := by subst hl; exact put_any ao cap xs a s n w h ha ha' hn hn'
theorem fill_nil : fillB [] 40 = List.replicate 40 0 := by decide
theorem u64_wrap (n : Int) : IntKind.u64.wrap n = u64 n := by rw [IntKind.wrap_u64]; rfl
/-- A record lies in memory, cell by cell. -/
structure Cells10 (w : World) (B : Nat) (r : R) : Prop where
  c0 : w.cell? ⟨B, 0, none⟩ = some (.int .i64 r.kind)
  c1 : w.cell? ⟨B, 1, none⟩ = some (.int .i64 r.txn)
  c2 : w.cell? ⟨B, 2, none⟩ = some (.int .i64 r.page)
  c3 : w.cell? ⟨B, 3, none⟩ = some (.int .i64 r.prev)
  c4 : w.cell? ⟨B, 4, none⟩ = some (.int .i64 r.next)
  c5 : w.cell? ⟨B, 5, none⟩ = some (.int .i64 r.key)
  c6 : w.cell? ⟨B, 6, none⟩ = some (.bool r.had)
  c7 : w.cell? ⟨B, 7, none⟩ = some (.bool r.has)
  c8 : w.cell? ⟨B, 8, none⟩ = some (.int .i64 r.old)
  c9 : w.cell? ⟨B, 9, none⟩ = some (.int .i64 r.new)
  lt : B < w.heap.size
theorem Cells10.below {w w' : World} {B n : Nat} {r : R} (h : Cells10 w B r) (hb : Below n w w') (hn : w.heap.size ≤ n) : Cells10 w' B r := by
  have hl := h.lt
  have h0 : ∀ o, w'.cell? ⟨B, o, none⟩ = w.cell? ⟨B, o, none⟩ := fun o => hb.cell (show B < n by omega)
  exact ⟨(h0 _).trans h.c0, (h0 _).trans h.c1, (h0 _).trans h.c2, (h0 _).trans h.c3, (h0 _).trans h.c4, (h0 _).trans h.c5, (h0 _).trans h.c6, (h0 _).trans h.c7, (h0 _).trans h.c8, (h0 _).trans h.c9, Nat.lt_of_lt_of_le hl hb.size⟩
/-- A record's block. -/
def recCells (r : R) : Obj := .cells #[.int .i64 r.kind, .int .i64 r.txn, .int .i64 r.page, .int .i64 r.prev, .int .i64 r.next, .int .i64 r.key, .bool r.had, .bool r.has, .int .i64 r.old, .int .i64 r.new] 37
theorem cells10_new (w : World) (r : R) : Cells10 (w.alloc (recCells r)) w.heap.size r := by
  unfold recCells
  constructor <;> simp

set_option maxHeartbeats 1000000 in
theorem recBytes_bad (r : R) (w : World) (x : Addr) (hE : w.cell? ⟨2, 0, none⟩ = some (errV x)) (hg : goodB r = false) :
    Calls Tryz.prog 143 #[r.val] w fun e w' => e = .returned (.tuple #[.slice none 0 0, errV x]) ∧ Below w.heap.size w w' := by
  have HE2 : Hid ((w.alloc (recCells r)).cell? ⟨2, 0, none⟩ = some (errV x)) := ((below_box w (recCells r)).cell (World.block_lt_of_cell? w _ hE)).trans hE
  have HB := hide (below_box w (recCells r))
  unfold recCells at HE2 HB
  clear hE
  show Calls Tryz.prog 143 #[.agg #[.int .i64 r.kind, .int .i64 r.txn, .int .i64 r.page, .int .i64 r.prev, .int .i64 r.next, .int .i64 r.key, .bool r.had, .bool r.has, .int .i64 r.old, .int .i64 r.new]] w _
  go_enter Tryz.func143, Tryz.ntmps143
  go_wp2_with fail
  refine (check_any r _ x HE2.out).mono ?_
  rintro e w2 ⟨rfl, hb2⟩
  rw [checkV_bad hg]
  have HB2 := hide (over HB.out hb2 HB.out.size)
  clear hb2
  unfold errV
  go_wp2_with fail
  go_ret2
  exact ⟨rfl, HB2.out⟩
set_option maxHeartbeats 4000000 in
theorem recBytes_good (r : R) (w : World) (x : Addr) (hE : w.cell? ⟨2, 0, none⟩ = some (errV x)) (hg : goodB r = true) :
    Calls Tryz.prog 143 #[r.val] w fun e w' => ∃ g, e = .returned (.tuple #[.slice (some ⟨g, 0, none⟩) 40 40, .nilIface]) ∧ w.heap.size ≤ g ∧ Own w' g (some ⟨g, 0, none⟩) 40 (recB r) ∧ Below w.heap.size w w' := by
  have HE2 : Hid ((w.alloc (recCells r)).cell? ⟨2, 0, none⟩ = some (errV x)) := ((below_box w (recCells r)).cell (World.block_lt_of_cell? w _ hE)).trans hE
  have HB := hide (below_box w (recCells r))
  have HC := hide (cells10_new w r)
  unfold recCells at HE2 HB HC
  obtain ⟨⟨s0, s1⟩, ⟨t0, t1⟩, ⟨p0, p1⟩, ⟨v0, v1⟩, ⟨n0, n1⟩, ⟨y0, y1⟩⟩ := R.small hg
  clear hE
  show Calls Tryz.prog 143 #[.agg #[.int .i64 r.kind, .int .i64 r.txn, .int .i64 r.page, .int .i64 r.prev, .int .i64 r.next, .int .i64 r.key, .bool r.had, .bool r.has, .int .i64 r.old, .int .i64 r.new]] w _
  go_enter Tryz.func143, Tryz.ntmps143
  go_wp2_with fail
  refine (check_any r _ x HE2.out).mono ?_
  rintro e w2 ⟨rfl, hb⟩
  rw [checkV_good hg]
  replace HC := hide (HC.out.below hb (Nat.le_refl _))
  replace HB := hide (over HB.out hb HB.out.size)
  clear hb HE2
  go_wp2_with fail
  refine (fill_any none 0 [] 40 _ (row_nil _) (by omega)).mono ?_
  rintro e w3 ⟨rfl, hown, hb⟩
  rw [fill_nil, List.length_replicate] at hown ⊢
  have HO := hide hown
  replace HC := hide (HC.out.below hb (Nat.le_refl _))
  replace HB := hide (over HB.out hb HB.out.size)
  clear hown hb
  have k := HC.out.c0
  go_wp2_with fail
  clear k
  refine (bytes_len 40 40 _ (List.replicate 40 0) _ _ (r.kind) _ HO.out.row (List.length_replicate ..) (by omega) (by omega) (by omega) (by omega)).mono ?_
  rintro e wp ⟨rfl, hown, hb⟩
  replace HO : Hid (Own wp _ _ 40 (rec1 r)) := hown
  replace HC := hide (HC.out.below hb (Nat.le_refl _))
  have HS := hide HB.out.size
  replace HB := hide (over HB.out hb HB.out.size)
  clear hown hb
  obtain ⟨k0, k1, k2, k3, k4, k5, k6, k7, k8, k9, kl⟩ := HC.out
  go_wp2_with fail
  clear k0 k1 k2 k3 k4 k5 k6 k7 k8 k9 kl
  refine (marks_any r _).mono ?_
  rintro e wm ⟨rfl, hb⟩
  replace HO := hide (HO.out.below hb (Nat.le_refl _))
  replace HC := hide (HC.out.below hb (Nat.le_refl _))
  replace HB := hide (over HB.out hb HB.out.size)
  clear hb
  go_wp2_with fail
  refine (bytes_len 40 40 _ (rec1 r) _ _ (markB r) _ HO.out.row (length_rec1 r) (by omega) (by omega) (markB_bd r).1 (Int.le_trans (markB_bd r).2 (by omega))).mono ?_
  rintro e wp ⟨rfl, hown, hb⟩
  replace HO : Hid (Own wp _ _ 40 (rec2 r)) := hown
  replace HC := hide (HC.out.below hb (Nat.le_refl _))
  have HS := hide HB.out.size
  replace HB := hide (over HB.out hb HB.out.size)
  clear hown hb
  have k := HC.out.c1
  go_wp2_with fail
  clear k
  refine (bytes_len 40 40 _ (rec2 r) _ _ (r.txn) _ HO.out.row (length_rec2 r) (by omega) (by omega) (by omega) (by omega)).mono ?_
  rintro e wp ⟨rfl, hown, hb⟩
  replace HO : Hid (Own wp _ _ 40 (rec3 r)) := hown
  replace HC := hide (HC.out.below hb (Nat.le_refl _))
  have HS := hide HB.out.size
  replace HB := hide (over HB.out hb HB.out.size)
  clear hown hb
  have k := HC.out.c2
  go_wp2_with fail
  clear k
  refine (bytes_len 40 40 _ (rec3 r) _ _ (r.page) _ HO.out.row (length_rec3 r) (by omega) (by omega) (by omega) (by omega)).mono ?_
  rintro e wp ⟨rfl, hown, hb⟩
  replace HO : Hid (Own wp _ _ 40 (rec4 r)) := hown
  replace HC := hide (HC.out.below hb (Nat.le_refl _))
  have HS := hide HB.out.size
  replace HB := hide (over HB.out hb HB.out.size)
  clear hown hb
  have k := HC.out.c3
  go_wp2_with fail
  clear k
  refine (bytes_len 40 40 _ (rec4 r) _ _ (r.prev) _ HO.out.row (length_rec4 r) (by omega) (by omega) (by omega) (by omega)).mono ?_
  rintro e wp ⟨rfl, hown, hb⟩
  replace HO : Hid (Own wp _ _ 40 (rec5 r)) := hown
  replace HC := hide (HC.out.below hb (Nat.le_refl _))
  have HS := hide HB.out.size
  replace HB := hide (over HB.out hb HB.out.size)
  clear hown hb
  have k := HC.out.c4
  go_wp2_with fail
  clear k
  refine (bytes_len 40 40 _ (rec5 r) _ _ (r.next) _ HO.out.row (length_rec5 r) (by omega) (by omega) (by omega) (by omega)).mono ?_
  rintro e wp ⟨rfl, hown, hb⟩
  replace HO : Hid (Own wp _ _ 40 (rec6 r)) := hown
  replace HC := hide (HC.out.below hb (Nat.le_refl _))
  have HS := hide HB.out.size
  replace HB := hide (over HB.out hb HB.out.size)
  clear hown hb
  have k := HC.out.c5
  go_wp2_with fail
  clear k
  refine (bytes_len 40 40 _ (rec6 r) _ _ (r.key) _ HO.out.row (length_rec6 r) (by omega) (by omega) (by omega) (by omega)).mono ?_
  rintro e wp ⟨rfl, hown, hb⟩
  replace HO : Hid (Own wp _ _ 40 (rec7 r)) := hown
  replace HC := hide (HC.out.below hb (Nat.le_refl _))
  have HS := hide HB.out.size
  replace HB := hide (over HB.out hb HB.out.size)
  clear hown hb
  have k := HC.out.c8
  go_wp2_with fail
  rw [u64_wrap]
  clear k
  refine (bytes_len 40 40 _ (rec7 r) _ _ (u64 r.old) _ HO.out.row (length_rec7 r) (by omega) (by omega) (u64_bd _).1 (u64_bd _).2).mono ?_
  rintro e wp ⟨rfl, hown, hb⟩
  replace HO : Hid (Own wp _ _ 40 (rec8 r)) := hown
  replace HC := hide (HC.out.below hb (Nat.le_refl _))
  have HS := hide HB.out.size
  replace HB := hide (over HB.out hb HB.out.size)
  clear hown hb
  have k := HC.out.c9
  go_wp2_with fail
  rw [u64_wrap]
  clear k
  refine (bytes_len 40 40 _ (rec8 r) _ _ (u64 r.new) _ HO.out.row (length_rec8 r) (by omega) (by omega) (u64_bd _).1 (u64_bd _).2).mono ?_
  rintro e wp ⟨rfl, hown, hb⟩
  replace HO : Hid (Own wp _ _ 40 (recB r)) := hown
  replace HC := hide (HC.out.below hb (Nat.le_refl _))
  have HS := hide HB.out.size
  replace HB := hide (over HB.out hb HB.out.size)
  clear hown hb
  go_wp2_with fail
  go_ret2
  exact ⟨_, rfl, HS.out, HO.out, HB.out⟩
end Go.Proofs.YtjacenhblclkaaaGreatDoor

/- The chapter's examples on records, as the statements ask them first: they hold, and nothing that was there is written. -/
namespace Go.Proofs.YtjacenhblclkaaaGreatDoor
open Go.RowKit
set_option linter.unusedVariables false

def ckBegin : R := ⟨7, 0, 0, 0, 0, 0, false, false, 0, 0⟩
def emptyRec : R := ⟨0, 0, 0, 0, 0, 0, false, false, 0, 0⟩
theorem ck_good : goodB ckBegin = true := by decide
theorem empty_bad : goodB emptyRec = false := by decide
theorem ck_first : (recB ckBegin).getD 0 0 = 7 := by decide +kernel
end Go.Proofs.YtjacenhblclkaaaGreatDoor

/- What rec.Read and rec.Same answer: the record whose bytes they are, or why there is none; whether two are the same. -/
namespace Go.Proofs.YtjacenhblclkaaaGreatDoor
open Go.RowKit
set_option linter.unusedVariables false

theorem str_eq {xs ys : List Int} (hx : Bytes xs) (hy : Bytes ys) : ((strOfNums xs).toList == (strOfNums ys).toList) = sameB xs ys := by
  have hinj : ∀ a b : Int, 0 ≤ a → a ≤ 255 → 0 ≤ b → b ≤ 255 → UInt8.ofNat a.toNat = UInt8.ofNat b.toNat → a = b := by
    intro a b a0 a1 b0 b1 h
    have h2 := congrArg UInt8.toNat h
    simp only [UInt8.toNat_ofNat'] at h2
    omega
  have hmap : ∀ xs ys : List Int, Bytes xs → Bytes ys → (xs.map fun n => UInt8.ofNat n.toNat) = (ys.map fun n => UInt8.ofNat n.toNat) → xs = ys := by
    intro xs
    induction xs with
    | nil => intro ys _ _ h; cases ys with | nil => rfl | cons y ys => simp at h
    | cons x xs ih =>
      intro ys hx hy h
      cases ys with
      | nil => simp at h
      | cons y ys =>
        simp only [List.map_cons, List.cons.injEq] at h
        have h0 := hx x (by simp)
        have h1 := hy y (by simp)
        rw [hinj x y h0.1 h0.2 h1.1 h1.2 h.1, ih ys (fun z hz => hx z (by simp [hz])) (fun z hz => hy z (by simp [hz])) h.2]
  unfold sameB
  rw [ByteArray.toList_eq, ByteArray.toList_eq, strOfNums_data, strOfNums_data]
  by_cases h : xs = ys
  · simp [h]
  · rw [decide_eq_false h, beq_eq_false_iff_ne]
    exact fun e => h (hmap xs ys hx hy e)
set_option maxHeartbeats 400000 in
theorem equal_any (ao : Option Addr) (n cap : Nat) (xs : List Int) (bo : Option Addr) (n' cap' : Nat) (ys : List Int) (w : World) (h : Row w ao xs) (h' : Row w bo ys) (hn : xs.length = n) (hn' : ys.length = n') (h0 : 0 < n) (h0' : 0 < n') :
    Calls Tryz.prog 151 #[.slice ao n cap, .slice bo n' cap'] w fun e w' => e = .returned (.bool (sameB xs ys)) ∧ w' = w := by
  obtain ⟨b, off, rfl, _, hc⟩ := h.2.2 (by omega)
  obtain ⟨b', off', rfl, _, hc'⟩ := h'.2.2 (by omega)
  have k1 := run_convert_bytes_arg (P := Tryz.prog) w 65 5 Tryz.underlying65 Tryz.underlying5 b off n cap xs hn (fun i hi => hc i (by omega)) 9 Tryz.underlying9
  have k2 := run_convert_bytes_arg (P := Tryz.prog) w 65 5 Tryz.underlying65 Tryz.underlying5 b' off' n' cap' ys hn' (fun i hi => hc' i (by omega)) 9 Tryz.underlying9
  have HE := hide (str_eq h.2.1 h'.2.1)
  clear hc hc' h h'
  go_enter Tryz.func151, Tryz.ntmps151
  go_wp2_with fail
  go_ret
  exact ⟨ret_bool HE.out, rfl⟩
theorem and_one (m : Int) (h0 : 0 ≤ m) (h1 : m ≤ 255) : (bits .and .u64 m 1 != 0) = decide (m % 2 = 1) := by
  have hk : ∀ n : Fin 256, (bits .and .u64 ((n : Nat) : Int) 1 != 0) = decide (((n : Nat) : Int) % 2 = 1) := by decide +kernel
  have := hk ⟨m.toNat, by omega⟩
  rwa [show (((⟨m.toNat, by omega⟩ : Fin 256) : Nat) : Int) = m by simp; omega] at this
theorem and_two (m : Int) (h0 : 0 ≤ m) (h1 : m ≤ 255) : (bits .and .u64 m 2 != 0) = decide (m / 2 % 2 = 1) := by
  have hk : ∀ n : Fin 256, (bits .and .u64 ((n : Nat) : Int) 2 != 0) = decide (((n : Nat) : Int) / 2 % 2 = 1) := by decide +kernel
  have := hk ⟨m.toNat, by omega⟩
  rwa [show (((⟨m.toNat, by omega⟩ : Fin 256) : Nat) : Int) = m by simp; omega] at this
theorem i64_wrap (n : Int) (h : 0 ≤ n ∧ n ≤ 18446744073709551615) : wrap64 n = i64 n := by
  unfold wrap64 i64
  split <;> omega
theorem get_at (ao : Option Addr) (n cap : Nat) (xs : List Int) (a s : Int) (w : World) (h : Row w ao xs) (hn : xs.length = n) (ha : -9223372036854775808 ≤ a) (ha' : a ≤ 9223372036854775807) :
    Calls Tryz.prog 150 #[.slice ao n cap, .int .i64 a, .int .i64 s] w fun e w' => e = .returned (.int .u64 (getB xs a (widthB s).toNat)) ∧ w' = w := by subst hn; exact get_any ao cap xs a s w h ha ha'
theorem getB_lt (xs : List Int) (hb : Bytes xs) (a : Int) (k : Nat) : 0 ≤ getB xs a k ∧ getB xs a k < 256 ^ k := num_bd k fun j => hb.byte _
set_option maxHeartbeats 2000000 in
theorem parts_any (ao : Option Addr) (cap : Nat) (xs : List Int) (w : World) (h : Row w ao xs) (hn : xs.length = 40) :
    Calls Tryz.prog 181 #[.slice ao 40 cap] w fun e w' => e = .returned (partsR xs).val ∧ Below w.heap.size w w' := by
  have HP : Hid (∀ g0 g1 g2 g4 g8 g12 g16 g24 g32 : Int, getB xs 0 1 = g0 → getB xs 1 1 = g1 → getB xs 2 2 = g2 → getB xs 4 2 = g4 → getB xs 8 4 = g8 → getB xs 12 4 = g12 → getB xs 16 4 = g16 → getB xs 24 8 = g24 → getB xs 32 8 = g32 → (partsR xs).val = .agg #[.int .i64 g0, .int .i64 g2, .int .i64 g4, .int .i64 g8, .int .i64 g12, .int .i64 g16, .bool (bits .and .u64 g1 1 != 0), .bool (bits .and .u64 g1 2 != 0), .int .i64 (wrap64 g24), .int .i64 (wrap64 g32)]) := by
    intro g0 g1 g2 g4 g8 g12 g16 g24 g32 h0 h1 h2 h4 h8 h12 h16 h24 h32
    have b1 := getB_lt xs h.2.1 1 1
    have b24 := getB_bd xs h.2.1 24 8 (by omega)
    have b32 := getB_bd xs h.2.1 32 8 (by omega)
    rw [h1] at b1
    rw [h24] at b24
    rw [h32] at b32
    unfold partsR R.val
    simp only
    rw [h0, h1, h2, h4, h8, h12, h16, h24, h32, and_one g1 b1.1 (by omega), and_two g1 b1.1 (by omega), i64_wrap g24 b24, i64_wrap g32 b32]
  have HB : Hid (Bytes xs) := h.2.1
  obtain ⟨A, hA⟩ : ∃ A, A = w.alloc (.cells #[.int .i64 0, .int .i64 0, .int .i64 0, .int .i64 0, .int .i64 0, .int .i64 0, .bool false, .bool false, .int .i64 0, .int .i64 0] 37) := ⟨_, rfl⟩
  have HR : Hid (Row A ao xs) := by show Row A ao xs; rw [hA]; exact h.below (below_box _ _) (Nat.le_refl _)
  rw [hA] at HR
  clear hA h
  have q0 := getB_lt xs HB.out 0 1
  have q1 := getB_lt xs HB.out 1 1
  have q2 := getB_lt xs HB.out 2 2
  have q4 := getB_lt xs HB.out 4 2
  have q8 := getB_lt xs HB.out 8 4
  have q12 := getB_lt xs HB.out 12 4
  have q16 := getB_lt xs HB.out 16 4
  have q24 := getB_bd xs HB.out 24 8 (by omega)
  have q32 := getB_bd xs HB.out 32 8 (by omega)
  have H := HP.out _ _ _ _ _ _ _ _ _ rfl rfl rfl rfl rfl rfl rfl rfl rfl
  have HH := hide H
  clear H HP
  obtain ⟨g0, e0⟩ : ∃ g, g = getB xs 0 1 := ⟨_, rfl⟩
  obtain ⟨g1, e1⟩ : ∃ g, g = getB xs 1 1 := ⟨_, rfl⟩
  obtain ⟨g2, e2⟩ : ∃ g, g = getB xs 2 2 := ⟨_, rfl⟩
  obtain ⟨g4, e4⟩ : ∃ g, g = getB xs 4 2 := ⟨_, rfl⟩
  obtain ⟨g8, e8⟩ : ∃ g, g = getB xs 8 4 := ⟨_, rfl⟩
  obtain ⟨g12, e12⟩ : ∃ g, g = getB xs 12 4 := ⟨_, rfl⟩
  obtain ⟨g16, e16⟩ : ∃ g, g = getB xs 16 4 := ⟨_, rfl⟩
  obtain ⟨g24, e24⟩ : ∃ g, g = getB xs 24 8 := ⟨_, rfl⟩
  obtain ⟨g32, e32⟩ : ∃ g, g = getB xs 32 8 := ⟨_, rfl⟩
  rw [← e0, ← e1, ← e2, ← e4, ← e8, ← e12, ← e16, ← e24, ← e32] at HH
  rw [← e0] at q0; rw [← e1] at q1; rw [← e2] at q2; rw [← e4] at q4; rw [← e8] at q8; rw [← e12] at q12; rw [← e16] at q16; rw [← e24] at q24; rw [← e32] at q32
  have E0 : Hid (getB xs 0 (widthB 1).toNat = g0) := e0.symm
  have E1 : Hid (getB xs 1 (widthB 1).toNat = g1) := e1.symm
  have E2 : Hid (getB xs 2 (widthB 2).toNat = g2) := e2.symm
  have E4 : Hid (getB xs 4 (widthB 2).toNat = g4) := e4.symm
  have E8 : Hid (getB xs 8 (widthB 4).toNat = g8) := e8.symm
  have E12 : Hid (getB xs 12 (widthB 4).toNat = g12) := e12.symm
  have E16 : Hid (getB xs 16 (widthB 4).toNat = g16) := e16.symm
  have E24 : Hid (getB xs 24 (widthB 8).toNat = g24) := e24.symm
  have E32 : Hid (getB xs 32 (widthB 8).toNat = g32) := e32.symm
  clear e0 e1 e2 e4 e8 e12 e16 e24 e32
  obtain ⟨q0a, q0b⟩ := q0; obtain ⟨q2a, q2b⟩ := q2; obtain ⟨q4a, q4b⟩ := q4; obtain ⟨q8a, q8b⟩ := q8; obtain ⟨q12a, q12b⟩ := q12; obtain ⟨q16a, q16b⟩ := q16
  have p1 : (256 : Int) ^ 1 = 256 := by decide
  have p2 : (256 : Int) ^ 2 = 65536 := by decide
  have p4 : (256 : Int) ^ 4 = 4294967296 := by decide
  rw [p1] at q0b; rw [p2] at q2b q4b; rw [p4] at q8b q12b q16b
  clear p1 p2 p4 q1 q24 q32
  have HN := hide hn
  clear hn
  go_enter Tryz.func181, Tryz.ntmps181
  go_wp2_with fail
  refine (get_at _ _ _ xs _ _ _ HR.out HN.out (by omega) (by omega)).mono ?_
  rintro e w2 ⟨rfl, rfl⟩
  rw [E1.out]
  go_wp2_with fail
  refine (get_at _ _ _ xs _ _ _ HR.out HN.out (by omega) (by omega)).mono ?_
  rintro e w2 ⟨rfl, rfl⟩
  rw [E0.out]
  go_wp2_with fail
  refine (get_at _ _ _ xs _ _ _ HR.out HN.out (by omega) (by omega)).mono ?_
  rintro e w2 ⟨rfl, rfl⟩
  rw [E2.out]
  go_wp2_with fail
  refine (get_at _ _ _ xs _ _ _ HR.out HN.out (by omega) (by omega)).mono ?_
  rintro e w2 ⟨rfl, rfl⟩
  rw [E4.out]
  go_wp2_with fail
  refine (get_at _ _ _ xs _ _ _ HR.out HN.out (by omega) (by omega)).mono ?_
  rintro e w2 ⟨rfl, rfl⟩
  rw [E8.out]
  go_wp2_with fail
  refine (get_at _ _ _ xs _ _ _ HR.out HN.out (by omega) (by omega)).mono ?_
  rintro e w2 ⟨rfl, rfl⟩
  rw [E12.out]
  go_wp2_with fail
  refine (get_at _ _ _ xs _ _ _ HR.out HN.out (by omega) (by omega)).mono ?_
  rintro e w2 ⟨rfl, rfl⟩
  rw [E16.out]
  go_wp2_with fail
  refine (get_at _ _ _ xs _ _ _ HR.out HN.out (by omega) (by omega)).mono ?_
  rintro e w2 ⟨rfl, rfl⟩
  rw [E24.out]
  go_wp2_with fail
  refine (get_at _ _ _ xs _ _ _ HR.out HN.out (by omega) (by omega)).mono ?_
  rintro e w2 ⟨rfl, rfl⟩
  rw [E32.out]
  go_wp2_with fail
  exact bodyPost_ret (v := .agg #[.int .i64 g0, .int .i64 g2, .int .i64 g4, .int .i64 g8, .int .i64 g12, .int .i64 g16, .bool (bits .and .u64 g1 1 != 0), .bool (bits .and .u64 g1 2 != 0), .int .i64 (wrap64 g24), .int .i64 (wrap64 g32)]) (by simp [results, Tryz.results181, go_sem]) rfl ⟨by rw [HH.out], below_box _ _⟩
/-- The errors that rec.Read can meet: their variables. -/
structure ReadErrs (w : World) (x y z : Addr) : Prop where
  range : w.cell? ⟨2, 0, none⟩ = some (errV x)
  short : w.cell? ⟨3, 0, none⟩ = some (errV y)
  rc : w.cell? ⟨7, 0, none⟩ = some (errV z)
theorem ReadErrs.step {w w' : World} {x y z : Addr} (h : ReadErrs w x y z) (hb : Below w.heap.size w w') : ReadErrs w' x y z :=
  ⟨(hb.cell (World.block_lt_of_cell? w _ h.range)).trans h.range, (hb.cell (World.block_lt_of_cell? w _ h.short)).trans h.short, (hb.cell (World.block_lt_of_cell? w _ h.rc)).trans h.rc⟩
def noRec : R := ⟨0, 0, 0, 0, 0, 0, false, false, 0, 0⟩
set_option maxHeartbeats 1000000 in
theorem read_short (ao : Option Addr) (n cap : Nat) (w : World) {x y z : Addr} (he : ReadErrs w x y z) (hn : n ≠ 40) :
    Calls Tryz.prog 171 #[.slice ao n cap] w fun e w' => e = .returned (.tuple #[noRec.val, errV y]) ∧ Below w.heap.size w w' := by
  have hne : ((n : Int) != 40) = true := by simp; omega
  have hs := World.new_ne w ⟨3, 0, none⟩ he.short
  have hE0 : ∀ X, (w.alloc X).cell? ⟨3, 0, none⟩ = some (errV y) := fun X => (he.step (below_box w X)).short
  clear he hn
  unfold errV at *
  go_enter Tryz.func171, Tryz.ntmps171
  go_wp2_with fail
  go_region
  all_goals
    go_wp2_with fail
    exact bodyPost_ret (v := .tuple #[.agg #[.int .i64 0, .int .i64 0, .int .i64 0, .int .i64 0, .int .i64 0, .int .i64 0, .bool false, .bool false, .int .i64 0, .int .i64 0], .iface 237 (.pointer (some y))]) (by simp [results, Tryz.results171, go_sem]) rfl ⟨rfl, below_drew (below_box _ _)⟩
def zeroCells : Obj := .cells #[.int .i64 0, .int .i64 0, .int .i64 0, .int .i64 0, .int .i64 0, .int .i64 0, .bool false, .bool false, .int .i64 0, .int .i64 0] 37
/-- The block of a record that holds nothing yet. -/
structure ZeroAt (w : World) (B : Nat) : Prop where
  lies : w.heap[B]? = some (.cells #[.int .i64 0, .int .i64 0, .int .i64 0, .int .i64 0, .int .i64 0, .int .i64 0, .bool false, .bool false, .int .i64 0, .int .i64 0] 37 (0, 0))
theorem ZeroAt.below {w w' : World} {B n : Nat} (h : ZeroAt w B) (hb : Below n w w') (hn : w.heap.size ≤ n) : ZeroAt w' B := ⟨by rw [hb.block _ (Nat.lt_of_lt_of_le (lt_of_block h.lies) hn)]; exact h.lies⟩
theorem zero_lies (w : World) : ZeroAt (w.alloc zeroCells) w.heap.size := ⟨by unfold zeroCells; exact heap_alloc_new _ _⟩
theorem frozen_at {w : World} {d : Nat} {c : Array Value} {e : TypeId} (h : w.heap[d]? = some (.cells c e (0, 0))) (o : Nat) : w.frozen? ⟨d, o, none⟩ = false := by
  simp [World.frozen?, h]
theorem below_sets {B : Nat} {a w : World} (h : Below B a w) (v0 v1 v2 v3 v4 v5 v6 v7 v8 v9 : Value) : Below B a ((((((((((w.setCell ⟨B, 0, none⟩ v0).setCell ⟨B, 1, none⟩ v1).setCell ⟨B, 2, none⟩ v2).setCell ⟨B, 3, none⟩ v3).setCell ⟨B, 4, none⟩ v4).setCell ⟨B, 5, none⟩ v5).setCell ⟨B, 6, none⟩ v6).setCell ⟨B, 7, none⟩ v7).setCell ⟨B, 8, none⟩ v8).setCell ⟨B, 9, none⟩ v9) :=
  (((((((((h.setCell (Nat.le_refl _) v0).setCell (Nat.le_refl _) v1).setCell (Nat.le_refl _) v2).setCell (Nat.le_refl _) v3).setCell (Nat.le_refl _) v4).setCell (Nat.le_refl _) v5).setCell (Nat.le_refl _) v6).setCell (Nat.le_refl _) v7).setCell (Nat.le_refl _) v8).setCell (Nat.le_refl _) v9
set_option maxHeartbeats 2000000 in
theorem read_ok (ao : Option Addr) (cap : Nat) (xs : List Int) (w : World) {x y z : Addr} (h : Row w ao xs) (he : ReadErrs w x y z) (hn : xs.length = 40) (hi : isRec xs = true) :
    Calls Tryz.prog 171 #[.slice ao 40 cap] w fun e w' => e = .returned (.tuple #[(partsR xs).val, .nilIface]) ∧ Below w.heap.size w w' := by
  have hg : goodB (partsR xs) = true := by unfold isRec at hi; simp only [Bool.and_eq_true] at hi; exact hi.1
  have hx : recB (partsR xs) = xs := by unfold isRec at hi; simp only [Bool.and_eq_true, decide_eq_true_eq] at hi; exact hi.2
  clear hi
  obtain ⟨r, hr⟩ : ∃ r, r = partsR xs := ⟨_, rfl⟩
  have HR := hide hr
  rw [← hr] at hg hx ⊢
  have HB0 := hide (below_box w (zeroCells))
  have HRow := hide (h.below HB0.out (Nat.le_refl _))
  have HE := hide (he.step HB0.out)
  have HZ := hide (zero_lies w)
  unfold zeroCells at HB0 HRow HE HZ
  have HN := hide hn
  clear h he hn hr
  go_enter Tryz.func171, Tryz.ntmps171
  go_wp2_with fail
  refine (parts_any _ _ xs _ HRow.out HN.out).mono ?_
  rintro e w2 ⟨rfl, hb⟩
  rw [← HR.out]
  replace HRow := hide (HRow.out.below hb (Nat.le_refl _))
  replace HE := hide (HE.out.step hb)
  replace HZ := hide (HZ.out.below hb (Nat.le_refl _))
  replace HB0 := hide (over HB0.out hb HB0.out.size)
  clear hb
  have HB1 := hide (below_box w2 (recCells r))
  replace HRow := hide (HRow.out.below HB1.out (Nat.le_refl _))
  replace HE := hide (HE.out.step HB1.out)
  replace HZ := hide (HZ.out.below HB1.out (Nat.le_refl _))
  have HC := hide (cells10_new w2 r)
  replace HB0 := hide (over HB0.out HB1.out HB0.out.size)
  clear HB1
  unfold R.val
  unfold recCells at HRow HE HZ HC HB0
  go_wp2_with fail
  refine (recBytes_good r _ x HE.out.range hg).mono ?_
  rintro e W ⟨g, rfl, hgb, hown, hb⟩
  rw [hx] at hown
  have HO := hide hown.row
  replace HRow := hide (HRow.out.below hb (Nat.le_refl _))
  replace HZ := hide (HZ.out.below hb (Nat.le_refl _))
  replace HC := hide (HC.out.below hb (Nat.le_refl _))
  replace HB0 := hide (over HB0.out hb HB0.out.size)
  clear hb hown hgb HE
  go_wp2_with fail
  refine (equal_any _ _ _ xs _ _ _ xs _ HO.out HRow.out HN.out HN.out (by omega) (by omega)).mono ?_
  rintro e W' ⟨rfl, rfl⟩
  rw [sameB_true rfl]
  have z0 : W'.cell? ⟨w.heap.size, 0, none⟩ = some (.int .i64 0) := by rw [cell_row HZ.out.lies]; rfl
  have f0 : W'.frozen? ⟨w.heap.size, 0, none⟩ = false := frozen_at HZ.out.lies 0
  have z1 : W'.cell? ⟨w.heap.size, 1, none⟩ = some (.int .i64 0) := by rw [cell_row HZ.out.lies]; rfl
  have f1 : W'.frozen? ⟨w.heap.size, 1, none⟩ = false := frozen_at HZ.out.lies 1
  have z2 : W'.cell? ⟨w.heap.size, 2, none⟩ = some (.int .i64 0) := by rw [cell_row HZ.out.lies]; rfl
  have f2 : W'.frozen? ⟨w.heap.size, 2, none⟩ = false := frozen_at HZ.out.lies 2
  have z3 : W'.cell? ⟨w.heap.size, 3, none⟩ = some (.int .i64 0) := by rw [cell_row HZ.out.lies]; rfl
  have f3 : W'.frozen? ⟨w.heap.size, 3, none⟩ = false := frozen_at HZ.out.lies 3
  have z4 : W'.cell? ⟨w.heap.size, 4, none⟩ = some (.int .i64 0) := by rw [cell_row HZ.out.lies]; rfl
  have f4 : W'.frozen? ⟨w.heap.size, 4, none⟩ = false := frozen_at HZ.out.lies 4
  have z5 : W'.cell? ⟨w.heap.size, 5, none⟩ = some (.int .i64 0) := by rw [cell_row HZ.out.lies]; rfl
  have f5 : W'.frozen? ⟨w.heap.size, 5, none⟩ = false := frozen_at HZ.out.lies 5
  have z6 : W'.cell? ⟨w.heap.size, 6, none⟩ = some (.bool false) := by rw [cell_row HZ.out.lies]; rfl
  have f6 : W'.frozen? ⟨w.heap.size, 6, none⟩ = false := frozen_at HZ.out.lies 6
  have z7 : W'.cell? ⟨w.heap.size, 7, none⟩ = some (.bool false) := by rw [cell_row HZ.out.lies]; rfl
  have f7 : W'.frozen? ⟨w.heap.size, 7, none⟩ = false := frozen_at HZ.out.lies 7
  have z8 : W'.cell? ⟨w.heap.size, 8, none⟩ = some (.int .i64 0) := by rw [cell_row HZ.out.lies]; rfl
  have f8 : W'.frozen? ⟨w.heap.size, 8, none⟩ = false := frozen_at HZ.out.lies 8
  have z9 : W'.cell? ⟨w.heap.size, 9, none⟩ = some (.int .i64 0) := by rw [cell_row HZ.out.lies]; rfl
  have f9 : W'.frozen? ⟨w.heap.size, 9, none⟩ = false := frozen_at HZ.out.lies 9
  obtain ⟨k0, k1, k2, k3, k4, k5, k6, k7, k8, k9, kl⟩ := HC.out
  go_wp2_with fail
  exact bodyPost_ret (v := .tuple #[.agg #[.int .i64 r.kind, .int .i64 r.txn, .int .i64 r.page, .int .i64 r.prev, .int .i64 r.next, .int .i64 r.key, .bool r.had, .bool r.has, .int .i64 r.old, .int .i64 r.new], .nilIface]) (by simp [results, Tryz.results171, go_sem, *]) rfl ⟨rfl, below_sets HB0.out _ _ _ _ _ _ _ _ _ _⟩
set_option maxHeartbeats 2000000 in
theorem read_bad1 (ao : Option Addr) (cap : Nat) (xs : List Int) (w : World) {x y z : Addr} (h : Row w ao xs) (he : ReadErrs w x y z) (hn : xs.length = 40) (hg : goodB (partsR xs) = false) :
    Calls Tryz.prog 171 #[.slice ao 40 cap] w fun e w' => e = .returned (.tuple #[noRec.val, errV z]) ∧ Below w.heap.size w w' := by
  have HLT : Hid (7 < w.heap.size) := World.block_lt_of_cell? w _ he.rc
  obtain ⟨r, hr⟩ : ∃ r, r = partsR xs := ⟨_, rfl⟩
  have HR := hide hr
  rw [← hr] at hg
  have HB0 := hide (below_box w (zeroCells))
  have HRow := hide (h.below HB0.out (Nat.le_refl _))
  have HE := hide (he.step HB0.out)
  have HZ := hide (zero_lies w)
  unfold zeroCells at HB0 HRow HE HZ
  have HN := hide hn
  clear h he hn hr
  go_enter Tryz.func171, Tryz.ntmps171
  go_wp2_with fail
  refine (parts_any _ _ xs _ HRow.out HN.out).mono ?_
  rintro e w2 ⟨rfl, hb⟩
  rw [← HR.out]
  replace HRow := hide (HRow.out.below hb (Nat.le_refl _))
  replace HE := hide (HE.out.step hb)
  replace HZ := hide (HZ.out.below hb (Nat.le_refl _))
  replace HB0 := hide (over HB0.out hb HB0.out.size)
  clear hb
  have HB1 := hide (below_box w2 (recCells r))
  replace HRow := hide (HRow.out.below HB1.out (Nat.le_refl _))
  replace HE := hide (HE.out.step HB1.out)
  replace HZ := hide (HZ.out.below HB1.out (Nat.le_refl _))
  have HC := hide (cells10_new w2 r)
  replace HB0 := hide (over HB0.out HB1.out HB0.out.size)
  clear HB1
  unfold R.val
  unfold recCells at HRow HE HZ HC HB0
  go_wp2_with fail
  refine (recBytes_bad r _ x HE.out.range hg).mono ?_
  rintro e W ⟨rfl, hb⟩
  replace HZ := hide (HZ.out.below hb (Nat.le_refl _))
  replace HE := hide (HE.out.step hb)
  replace HB0 := hide (over HB0.out hb HB0.out.size)
  clear hb HC HRow
  have z0 : W.cell? ⟨w.heap.size, 0, none⟩ = some (.int .i64 0) := by rw [cell_row HZ.out.lies]; rfl
  have f0 : W.frozen? ⟨w.heap.size, 0, none⟩ = false := frozen_at HZ.out.lies 0
  have z1 : W.cell? ⟨w.heap.size, 1, none⟩ = some (.int .i64 0) := by rw [cell_row HZ.out.lies]; rfl
  have f1 : W.frozen? ⟨w.heap.size, 1, none⟩ = false := frozen_at HZ.out.lies 1
  have z2 : W.cell? ⟨w.heap.size, 2, none⟩ = some (.int .i64 0) := by rw [cell_row HZ.out.lies]; rfl
  have f2 : W.frozen? ⟨w.heap.size, 2, none⟩ = false := frozen_at HZ.out.lies 2
  have z3 : W.cell? ⟨w.heap.size, 3, none⟩ = some (.int .i64 0) := by rw [cell_row HZ.out.lies]; rfl
  have f3 : W.frozen? ⟨w.heap.size, 3, none⟩ = false := frozen_at HZ.out.lies 3
  have z4 : W.cell? ⟨w.heap.size, 4, none⟩ = some (.int .i64 0) := by rw [cell_row HZ.out.lies]; rfl
  have f4 : W.frozen? ⟨w.heap.size, 4, none⟩ = false := frozen_at HZ.out.lies 4
  have z5 : W.cell? ⟨w.heap.size, 5, none⟩ = some (.int .i64 0) := by rw [cell_row HZ.out.lies]; rfl
  have f5 : W.frozen? ⟨w.heap.size, 5, none⟩ = false := frozen_at HZ.out.lies 5
  have z6 : W.cell? ⟨w.heap.size, 6, none⟩ = some (.bool false) := by rw [cell_row HZ.out.lies]; rfl
  have f6 : W.frozen? ⟨w.heap.size, 6, none⟩ = false := frozen_at HZ.out.lies 6
  have z7 : W.cell? ⟨w.heap.size, 7, none⟩ = some (.bool false) := by rw [cell_row HZ.out.lies]; rfl
  have f7 : W.frozen? ⟨w.heap.size, 7, none⟩ = false := frozen_at HZ.out.lies 7
  have z8 : W.cell? ⟨w.heap.size, 8, none⟩ = some (.int .i64 0) := by rw [cell_row HZ.out.lies]; rfl
  have f8 : W.frozen? ⟨w.heap.size, 8, none⟩ = false := frozen_at HZ.out.lies 8
  have z9 : W.cell? ⟨w.heap.size, 9, none⟩ = some (.int .i64 0) := by rw [cell_row HZ.out.lies]; rfl
  have f9 : W.frozen? ⟨w.heap.size, 9, none⟩ = false := frozen_at HZ.out.lies 9
  have hEl : 7 ≠ w.heap.size := Nat.ne_of_lt HLT.out
  have hEl' : w.heap.size ≠ 7 := Ne.symm hEl
  have hE := HE.out.rc
  unfold errV at *
  go_wp2_with fail
  go_region
  all_goals
    go_wp2_with fail
    exact bodyPost_ret (v := .tuple #[.agg #[.int .i64 0, .int .i64 0, .int .i64 0, .int .i64 0, .int .i64 0, .int .i64 0, .bool false, .bool false, .int .i64 0, .int .i64 0], .iface 237 (.pointer (some z))]) (by simp [results, Tryz.results171, go_sem, *]) rfl ⟨rfl, below_drew (below_sets HB0.out _ _ _ _ _ _ _ _ _ _)⟩
set_option maxHeartbeats 2000000 in
theorem read_bad2 (ao : Option Addr) (cap : Nat) (xs : List Int) (w : World) {x y z : Addr} (h : Row w ao xs) (he : ReadErrs w x y z) (hn : xs.length = 40) (hg : goodB (partsR xs) = true) (hx : sameB (recB (partsR xs)) xs = false) :
    Calls Tryz.prog 171 #[.slice ao 40 cap] w fun e w' => e = .returned (.tuple #[noRec.val, errV z]) ∧ Below w.heap.size w w' := by
  have HLT : Hid (7 < w.heap.size) := World.block_lt_of_cell? w _ he.rc
  obtain ⟨r, hr⟩ : ∃ r, r = partsR xs := ⟨_, rfl⟩
  have HR := hide hr
  rw [← hr] at hg hx
  have HB0 := hide (below_box w (zeroCells))
  have HRow := hide (h.below HB0.out (Nat.le_refl _))
  have HE := hide (he.step HB0.out)
  have HZ := hide (zero_lies w)
  unfold zeroCells at HB0 HRow HE HZ
  have HN := hide hn
  clear h he hn hr
  go_enter Tryz.func171, Tryz.ntmps171
  go_wp2_with fail
  refine (parts_any _ _ xs _ HRow.out HN.out).mono ?_
  rintro e w2 ⟨rfl, hb⟩
  rw [← HR.out]
  replace HRow := hide (HRow.out.below hb (Nat.le_refl _))
  replace HE := hide (HE.out.step hb)
  replace HZ := hide (HZ.out.below hb (Nat.le_refl _))
  replace HB0 := hide (over HB0.out hb HB0.out.size)
  clear hb
  have HB1 := hide (below_box w2 (recCells r))
  replace HRow := hide (HRow.out.below HB1.out (Nat.le_refl _))
  replace HE := hide (HE.out.step HB1.out)
  replace HZ := hide (HZ.out.below HB1.out (Nat.le_refl _))
  have HC := hide (cells10_new w2 r)
  replace HB0 := hide (over HB0.out HB1.out HB0.out.size)
  clear HB1
  unfold R.val
  unfold recCells at HRow HE HZ HC HB0
  go_wp2_with fail
  refine (recBytes_good r _ x HE.out.range hg).mono ?_
  rintro e W ⟨g, rfl, hgb, hown, hb⟩
  have HO := hide hown.row
  replace HRow := hide (HRow.out.below hb (Nat.le_refl _))
  replace HZ := hide (HZ.out.below hb (Nat.le_refl _))
  replace HE := hide (HE.out.step hb)
  replace HB0 := hide (over HB0.out hb HB0.out.size)
  clear hb hown hgb HC
  go_wp2_with fail
  refine (equal_any _ _ _ (recB r) _ _ _ xs _ HO.out HRow.out (length_recB r) HN.out (by omega) (by omega)).mono ?_
  rintro e W' ⟨rfl, rfl⟩
  rw [hx]
  have z0 : W'.cell? ⟨w.heap.size, 0, none⟩ = some (.int .i64 0) := by rw [cell_row HZ.out.lies]; rfl
  have f0 : W'.frozen? ⟨w.heap.size, 0, none⟩ = false := frozen_at HZ.out.lies 0
  have z1 : W'.cell? ⟨w.heap.size, 1, none⟩ = some (.int .i64 0) := by rw [cell_row HZ.out.lies]; rfl
  have f1 : W'.frozen? ⟨w.heap.size, 1, none⟩ = false := frozen_at HZ.out.lies 1
  have z2 : W'.cell? ⟨w.heap.size, 2, none⟩ = some (.int .i64 0) := by rw [cell_row HZ.out.lies]; rfl
  have f2 : W'.frozen? ⟨w.heap.size, 2, none⟩ = false := frozen_at HZ.out.lies 2
  have z3 : W'.cell? ⟨w.heap.size, 3, none⟩ = some (.int .i64 0) := by rw [cell_row HZ.out.lies]; rfl
  have f3 : W'.frozen? ⟨w.heap.size, 3, none⟩ = false := frozen_at HZ.out.lies 3
  have z4 : W'.cell? ⟨w.heap.size, 4, none⟩ = some (.int .i64 0) := by rw [cell_row HZ.out.lies]; rfl
  have f4 : W'.frozen? ⟨w.heap.size, 4, none⟩ = false := frozen_at HZ.out.lies 4
  have z5 : W'.cell? ⟨w.heap.size, 5, none⟩ = some (.int .i64 0) := by rw [cell_row HZ.out.lies]; rfl
  have f5 : W'.frozen? ⟨w.heap.size, 5, none⟩ = false := frozen_at HZ.out.lies 5
  have z6 : W'.cell? ⟨w.heap.size, 6, none⟩ = some (.bool false) := by rw [cell_row HZ.out.lies]; rfl
  have f6 : W'.frozen? ⟨w.heap.size, 6, none⟩ = false := frozen_at HZ.out.lies 6
  have z7 : W'.cell? ⟨w.heap.size, 7, none⟩ = some (.bool false) := by rw [cell_row HZ.out.lies]; rfl
  have f7 : W'.frozen? ⟨w.heap.size, 7, none⟩ = false := frozen_at HZ.out.lies 7
  have z8 : W'.cell? ⟨w.heap.size, 8, none⟩ = some (.int .i64 0) := by rw [cell_row HZ.out.lies]; rfl
  have f8 : W'.frozen? ⟨w.heap.size, 8, none⟩ = false := frozen_at HZ.out.lies 8
  have z9 : W'.cell? ⟨w.heap.size, 9, none⟩ = some (.int .i64 0) := by rw [cell_row HZ.out.lies]; rfl
  have f9 : W'.frozen? ⟨w.heap.size, 9, none⟩ = false := frozen_at HZ.out.lies 9
  have hEl : 7 ≠ w.heap.size := Nat.ne_of_lt HLT.out
  have hEl' : w.heap.size ≠ 7 := Ne.symm hEl
  have hE := HE.out.rc
  unfold errV at *
  go_wp2_with fail
  go_region
  all_goals
    go_wp2_with fail
    exact bodyPost_ret (v := .tuple #[.agg #[.int .i64 0, .int .i64 0, .int .i64 0, .int .i64 0, .int .i64 0, .int .i64 0, .bool false, .bool false, .int .i64 0, .int .i64 0], .iface 237 (.pointer (some z))]) (by simp [results, Tryz.results171, go_sem, *]) rfl ⟨rfl, below_drew (below_sets HB0.out _ _ _ _ _ _ _ _ _ _)⟩
theorem read_bad (ao : Option Addr) (cap : Nat) (xs : List Int) (w : World) {x y z : Addr} (h : Row w ao xs) (he : ReadErrs w x y z) (hn : xs.length = 40) (hi : isRec xs = false) :
    Calls Tryz.prog 171 #[.slice ao 40 cap] w fun e w' => e = .returned (.tuple #[noRec.val, errV z]) ∧ Below w.heap.size w w' := by
  cases hg : goodB (partsR xs) with
  | false => exact read_bad1 ao cap xs w h he hn hg
  | true =>
    refine read_bad2 ao cap xs w h he hn hg ?_
    unfold isRec at hi
    rw [hg, Bool.true_and] at hi
    exact hi
end Go.Proofs.YtjacenhblclkaaaGreatDoor

/- What rec.Same and the document's own SameRec answer: whether two records are the same in each part. -/
namespace Go.Proofs.YtjacenhblclkaaaGreatDoor
open Go.RowKit
set_option linter.unusedVariables false

def sameR (a b : R) : Bool := decide (a.kind = b.kind ∧ a.txn = b.txn ∧ a.page = b.page ∧ a.prev = b.prev ∧ a.next = b.next ∧ a.key = b.key ∧ a.had = b.had ∧ a.has = b.has ∧ a.old = b.old ∧ a.new = b.new)
theorem eq_of_parts {a b : R} (h : a.kind = b.kind ∧ a.txn = b.txn ∧ a.page = b.page ∧ a.prev = b.prev ∧ a.next = b.next ∧ a.key = b.key ∧ a.had = b.had ∧ a.has = b.has ∧ a.old = b.old ∧ a.new = b.new) : a = b := by
  obtain ⟨a0, b0, c0, d0, e0, f0, g0, h0, i0, j0⟩ := a
  obtain ⟨a1, b1, c1, d1, e1, f1, g1, h1, i1, j1⟩ := b
  simp only at h
  obtain ⟨rfl, rfl, rfl, rfl, rfl, rfl, rfl, rfl, rfl, rfl⟩ := h
  rfl
theorem Tryz.st37 : Tryz.prog.underlying 37 = some (.struct (Tryz.prog.fieldsOf 37)) := by kernel_rfl
theorem Tryz.sh37 : Tryz.prog.stoodInHeld 37 = false := by kernel_rfl
theorem Tryz.gu37 : Tryz.prog.eqGuardType Tryz.prog.depth 37 = false := by kernel_rfl
set_option maxHeartbeats 1000000 in
theorem sameRec_same (a : R) (w : World) : Calls Tryz.prog 82 #[a.val, a.val] w fun e w' => e = .returned (.bool true) ∧ Below w.heap.size w w' := by
  obtain ⟨a0, b0, c0, d0, e0, f0, g0, h0, i0, j0⟩ := a
  unfold R.val
  simp only
  go_enter Tryz.func82, Tryz.ntmps82
  go_wp2_with fail
  go_ret
  exact ⟨rfl, (below_box w _).alloc (by simp) _⟩
theorem int_eq (d : Nat) (t : TypeId) (ht : Tryz.prog.underlying t = some (.int .i64)) (x y : Int) (w : World) : (Op.equalIn (d + 1) t (.int .i64 x) (.int .i64 y)).run Tryz.prog w = .ok (x == y) w := run_equalIn_int w d t .i64 .i64 x y ht
set_option maxHeartbeats 1000000 in
theorem eql_rec (a b : R) (w : World) : (binOp .eql 37 a.val b.val).run Tryz.prog w = .ok (.bool (sameR a b)) w := by
  obtain ⟨a0, b0, c0, d0, e0, f0, g0, h0, i0, j0⟩ := a
  obtain ⟨a1, b1, c1, d1, e1, f1, g1, h1, i1, j1⟩ := b
  unfold R.val
  simp only
  rw [run_eql_struct, show (10000 : Nat) = 9999 + 1 from rfl, run_equalIn_agg w 9999 37 _ _ Tryz.st37 Tryz.sh37]
  simp only [Program.fieldsOf, Tryz.underlying37]
  have e3 : ∀ (x y : Int) (w : World), (Op.equalIn 9999 3 (.int .i64 x) (.int .i64 y)).run Tryz.prog w = .ok (x == y) w := fun x y w => int_eq 9998 3 Tryz.underlying3 x y w
  have e2 : ∀ (x y : Int) (w : World), (Op.equalIn 9999 2 (.int .i64 x) (.int .i64 y)).run Tryz.prog w = .ok (x == y) w := fun x y w => int_eq 9998 2 Tryz.underlying2 x y w
  have e4 : ∀ (x y : Bool) (w : World), (Op.equalIn 9999 4 (.bool x) (.bool y)).run Tryz.prog w = .ok (x == y) w := fun x y w => run_equalIn_bool' w 9998 4 x y Tryz.underlying4
  unfold sameR
  by_cases q0 : a0 = a1
  · subst q0
    by_cases q1 : b0 = b1
    · subst q1
      by_cases q2 : c0 = c1
      · subst q2
        by_cases q3 : d0 = d1
        · subst q3
          by_cases q4 : e0 = e1
          · subst q4
            by_cases q5 : f0 = f1
            · subst q5
              by_cases q6 : g0 = g1
              · subst q6
                by_cases q7 : h0 = h1
                · subst q7
                  by_cases q8 : i0 = i1
                  · subst q8
                    by_cases q9 : j0 = j1
                    · subst q9
                      simp [Op.eqFields, part, go_sem, e3, e2, e4]
                    · simp [Op.eqFields, part, go_sem, e3, e2, e4, q9]
                  · simp [Op.eqFields, part, go_sem, e3, e2, e4, q8]
                · simp [Op.eqFields, part, go_sem, e3, e4, q7]
              · simp [Op.eqFields, part, go_sem, e3, e4, q6]
            · simp [Op.eqFields, part, go_sem, e3, q5]
          · simp [Op.eqFields, part, go_sem, e3, q4]
        · simp [Op.eqFields, part, go_sem, e3, q3]
      · simp [Op.eqFields, part, go_sem, e3, q2]
    · simp [Op.eqFields, part, go_sem, e3, q1]
  · simp [Op.eqFields, part, go_sem, e3, q0]
theorem wpList_eql {ops : Array Oper} {Q : Exit → Act → World → Prop} {act : Act} {w : World} {rest : List Oper} {d : Option Tmp} {ty : TypeId} {pos : String} {af : Array Edge} {x y : Operand} (a b : R) (hx : act.eval x = a.val) (hy : act.eval y = b.val)
    (h : wpList Tryz.prog ops Q rest (act.put d (.bool (sameR a b))) w) : wpList Tryz.prog ops Q ({ dst := d, op := .binOp .eql 37 x y 37, type := ty, pos := pos, after := af, guard := none } :: rest) act w := by
  refine BigFrame.wpList_want rfl fun K hK => ?_
  unfold Oper.wp
  have hr : (execOp act.eval { dst := d, op := .binOp .eql 37 x y 37, type := ty, pos := pos, after := af, guard := none }).run Tryz.prog w = .ok (.value (.bool (sameR a b))) w := by
    have hG : (eqGuard .eql 37 x y a.val b.val).run Tryz.prog w = .ok () w := run_eqGuard_agg w .eql 37 x y _ _ Tryz.gu37
    simp only [execOp, hx, hy, Sem.run_bind, hG, Result.andThen_ok, eql_rec, Sem.run_pure]
  rw [hr]
  exact hK _ _ h
end Go.Proofs.YtjacenhblclkaaaGreatDoor

/- What the document's own SameRec answers of any two records: whether they are the same in each part. -/
namespace Go.Proofs.YtjacenhblclkaaaGreatDoor
open Go.RowKit
set_option linter.unusedVariables false

set_option maxHeartbeats 4000000 in
theorem sameRec_any (a b : R) (w : World) : Calls Tryz.prog 82 #[a.val, b.val] w fun e w' => e = .returned (.bool (sameR a b)) ∧ Below w.heap.size w w' := by
  obtain ⟨a0, b0, c0, d0, e0, f0, g0, h0, i0, j0⟩ := a
  obtain ⟨a1, b1, c1, d1, e1, f1, g1, h1, i1, j1⟩ := b
  unfold R.val
  simp only
  by_cases q0 : a0 = a1
  case neg =>
    have HR : Hid (sameR ⟨a0, b0, c0, d0, e0, f0, g0, h0, i0, j0⟩ ⟨a1, b1, c1, d1, e1, f1, g1, h1, i1, j1⟩ = false) := hide (by simp [sameR, q0])
    have qq : (a0 == a1) = false := by simpa using q0
    clear q0
    go_enter Tryz.func82, Tryz.ntmps82
    go_wp2_with fail
    go_ret
    exact ⟨ret_bool (HR.out).symm, (below_box w _).alloc (by simp) _⟩
  subst q0
  by_cases q1 : b0 = b1
  case neg =>
    have HR : Hid (sameR ⟨a0, b0, c0, d0, e0, f0, g0, h0, i0, j0⟩ ⟨a0, b1, c1, d1, e1, f1, g1, h1, i1, j1⟩ = false) := hide (by simp [sameR, q1])
    have qq : (b0 == b1) = false := by simpa using q1
    clear q1
    go_enter Tryz.func82, Tryz.ntmps82
    go_wp2_with fail
    go_ret
    exact ⟨ret_bool (HR.out).symm, (below_box w _).alloc (by simp) _⟩
  subst q1
  by_cases q2 : c0 = c1
  case neg =>
    have HR : Hid (sameR ⟨a0, b0, c0, d0, e0, f0, g0, h0, i0, j0⟩ ⟨a0, b0, c1, d1, e1, f1, g1, h1, i1, j1⟩ = false) := hide (by simp [sameR, q2])
    have qq : (c0 == c1) = false := by simpa using q2
    clear q2
    go_enter Tryz.func82, Tryz.ntmps82
    go_wp2_with fail
    go_ret
    exact ⟨ret_bool (HR.out).symm, (below_box w _).alloc (by simp) _⟩
  subst q2
  by_cases q3 : d0 = d1
  case neg =>
    have HR : Hid (sameR ⟨a0, b0, c0, d0, e0, f0, g0, h0, i0, j0⟩ ⟨a0, b0, c0, d1, e1, f1, g1, h1, i1, j1⟩ = false) := hide (by simp [sameR, q3])
    have qq : (d0 == d1) = false := by simpa using q3
    clear q3
    go_enter Tryz.func82, Tryz.ntmps82
    go_wp2_with fail
    go_ret
    exact ⟨ret_bool (HR.out).symm, (below_box w _).alloc (by simp) _⟩
  subst q3
  by_cases q4 : e0 = e1
  case neg =>
    have HR : Hid (sameR ⟨a0, b0, c0, d0, e0, f0, g0, h0, i0, j0⟩ ⟨a0, b0, c0, d0, e1, f1, g1, h1, i1, j1⟩ = false) := hide (by simp [sameR, q4])
    have qq : (e0 == e1) = false := by simpa using q4
    clear q4
    go_enter Tryz.func82, Tryz.ntmps82
    go_wp2_with fail
    go_ret
    exact ⟨ret_bool (HR.out).symm, (below_box w _).alloc (by simp) _⟩
  subst q4
  by_cases q5 : f0 = f1
  case neg =>
    have HR : Hid (sameR ⟨a0, b0, c0, d0, e0, f0, g0, h0, i0, j0⟩ ⟨a0, b0, c0, d0, e0, f1, g1, h1, i1, j1⟩ = false) := hide (by simp [sameR, q5])
    have qq : (f0 == f1) = false := by simpa using q5
    clear q5
    go_enter Tryz.func82, Tryz.ntmps82
    go_wp2_with fail
    go_ret
    exact ⟨ret_bool (HR.out).symm, (below_box w _).alloc (by simp) _⟩
  subst q5
  by_cases q6 : g0 = g1
  case neg =>
    have HR : Hid (sameR ⟨a0, b0, c0, d0, e0, f0, g0, h0, i0, j0⟩ ⟨a0, b0, c0, d0, e0, f0, g1, h1, i1, j1⟩ = false) := hide (by simp [sameR, q6])
    have qq : (g0 == g1) = false := by simpa using q6
    clear q6
    go_enter Tryz.func82, Tryz.ntmps82
    go_wp2_with fail
    go_ret
    exact ⟨ret_bool (HR.out).symm, (below_box w _).alloc (by simp) _⟩
  subst q6
  by_cases q7 : h0 = h1
  case neg =>
    have HR : Hid (sameR ⟨a0, b0, c0, d0, e0, f0, g0, h0, i0, j0⟩ ⟨a0, b0, c0, d0, e0, f0, g0, h1, i1, j1⟩ = false) := hide (by simp [sameR, q7])
    have qq : (h0 == h1) = false := by simpa using q7
    clear q7
    go_enter Tryz.func82, Tryz.ntmps82
    go_wp2_with fail
    go_ret
    exact ⟨ret_bool (HR.out).symm, (below_box w _).alloc (by simp) _⟩
  subst q7
  by_cases q8 : i0 = i1
  case neg =>
    have HR : Hid (sameR ⟨a0, b0, c0, d0, e0, f0, g0, h0, i0, j0⟩ ⟨a0, b0, c0, d0, e0, f0, g0, h0, i1, j1⟩ = false) := hide (by simp [sameR, q8])
    have qq : (i0 == i1) = false := by simpa using q8
    clear q8
    go_enter Tryz.func82, Tryz.ntmps82
    go_wp2_with fail
    go_ret
    exact ⟨ret_bool (HR.out).symm, (below_box w _).alloc (by simp) _⟩
  subst q8
  by_cases q9 : j0 = j1
  case neg =>
    have HR : Hid (sameR ⟨a0, b0, c0, d0, e0, f0, g0, h0, i0, j0⟩ ⟨a0, b0, c0, d0, e0, f0, g0, h0, i0, j1⟩ = false) := hide (by simp [sameR, q9])
    have qq : (j0 == j1) = false := by simpa using q9
    clear q9
    go_enter Tryz.func82, Tryz.ntmps82
    go_wp2_with fail
    go_ret
    exact ⟨ret_bool (HR.out).symm, (below_box w _).alloc (by simp) _⟩
  subst q9
  have HR : Hid (sameR ⟨a0, b0, c0, d0, e0, f0, g0, h0, i0, j0⟩ ⟨a0, b0, c0, d0, e0, f0, g0, h0, i0, j0⟩ = true) := hide (by simp [sameR])
  go_enter Tryz.func82, Tryz.ntmps82
  go_wp2_with fail
  go_ret
  exact ⟨ret_bool (HR.out).symm, (below_box w _).alloc (by simp) _⟩
end Go.Proofs.YtjacenhblclkaaaGreatDoor

/- What the document's own GoodRec answers: the same as rec.Check. -/
namespace Go.Proofs.YtjacenhblclkaaaGreatDoor
open Go.RowKit
set_option linter.unusedVariables false

set_option maxHeartbeats 400000 in
theorem from_any (n lo hi : Int) (b : Bool) (w : World) (h : holdsB lo hi n = b) : Calls Tryz.prog 119 #[.int .i64 n, .int .i64 lo, .int .i64 hi] w fun e w' => e = .returned (.bool b) ∧ w' = w := by
  subst h
  go_enter Tryz.func119, Tryz.ntmps119
  go_wp2
  all_goals
    go_ret
    refine ⟨ret_bool ?_, rfl⟩
    unfold holdsB
    simp
    omega
theorem holds00 (n : Int) : holdsB 0 0 n = (n == 0) := by
  unfold holdsB
  by_cases h : n = 0
  · simp [h]
  · have : (n == 0) = false := by simpa using h
    rw [this, Bool.and_eq_false_iff]
    by_cases h0 : 0 ≤ n
    · exact .inr (decide_eq_false (by omega))
    · exact .inl (decide_eq_false h0)
theorem good1 (txn page prev next key : Int) (had has : Bool) (old new : Int) : goodB ⟨1, txn, page, prev, next, key, had, has, old, new⟩ = (holdsB 1 60000 txn && (holdsB 0 0 page && (holdsB 0 0 prev && (holdsB 0 0 next && (holdsB 0 0 key && ((!had && (old == 0)) && ((!has && (new == 0)) && true))))))) := rfl
set_option maxRecDepth 100000 in
set_option maxHeartbeats 4000000 in
theorem goodRec1 (txn page prev next key : Int) (had has : Bool) (old new : Int) (w : World) : Calls Tryz.prog 62 #[(R.mk 1 txn page prev next key had has old new).val] w fun e w' => e = .returned (.bool (goodB ⟨1, txn, page, prev, next, key, had, has, old, new⟩)) ∧ Below w.heap.size w w' := by
  rw [good1]
  unfold R.val
  simp only
  go_enter Tryz.func62, Tryz.ntmps62
  go_wp2_with (go_at_call 119; refine (from_any _ _ _ _ _ rfl).mono ?_; rintro e w2 ⟨rfl, rfl⟩)
  all_goals
    go_ret
    refine ⟨ret_bool ?_, below_box _ _⟩
    simp_all [holds00]
theorem good2 (txn page prev next key : Int) (had has : Bool) (old new : Int) : goodB ⟨2, txn, page, prev, next, key, had, has, old, new⟩ = (holdsB 1 60000 txn && (holdsB 1 32 page && (holdsB 0 1073741824 prev && (holdsB 0 0 next && (holdsB 0 1048575 key && ((had || (old == 0)) && ((has || (new == 0)) && (had || has)))))))) := rfl
set_option maxRecDepth 100000 in
set_option maxHeartbeats 4000000 in
theorem goodRec2 (txn page prev next key : Int) (had has : Bool) (old new : Int) (w : World) : Calls Tryz.prog 62 #[(R.mk 2 txn page prev next key had has old new).val] w fun e w' => e = .returned (.bool (goodB ⟨2, txn, page, prev, next, key, had, has, old, new⟩)) ∧ Below w.heap.size w w' := by
  rw [good2]
  unfold R.val
  simp only
  cases had <;> cases has
  all_goals
    go_enter Tryz.func62, Tryz.ntmps62
    go_wp2_with (go_at_call 119; refine (from_any _ _ _ _ _ rfl).mono ?_; rintro e w2 ⟨rfl, rfl⟩)
    all_goals
      go_ret
      refine ⟨ret_bool ?_, below_box _ _⟩
      simp_all
theorem good3 (txn page prev next key : Int) (had has : Bool) (old new : Int) : goodB ⟨3, txn, page, prev, next, key, had, has, old, new⟩ = (holdsB 1 60000 txn && (holdsB 1 32 page && (holdsB 0 1073741824 prev && (holdsB 0 1073741824 next && (holdsB 0 1048575 key && ((had && (decide (1 ≤ old) && decide (old ≤ 1073741824))) && ((has || (new == 0)) && true))))))) := rfl
set_option maxRecDepth 100000 in
set_option maxHeartbeats 4000000 in
theorem goodRec3 (txn page prev next key : Int) (had has : Bool) (old new : Int) (w : World) : Calls Tryz.prog 62 #[(R.mk 3 txn page prev next key had has old new).val] w fun e w' => e = .returned (.bool (goodB ⟨3, txn, page, prev, next, key, had, has, old, new⟩)) ∧ Below w.heap.size w w' := by
  rw [good3]
  unfold R.val
  simp only
  go_enter Tryz.func62, Tryz.ntmps62
  go_wp2_with (go_at_call 119; refine (from_any _ _ _ _ _ rfl).mono ?_; rintro e w2 ⟨rfl, rfl⟩)
  all_goals
    go_ret
    refine ⟨ret_bool ?_, below_box _ _⟩
    simp_all
    try (intros; omega)
end Go.Proofs.YtjacenhblclkaaaGreatDoor

/- What the document's own GoodRec answers: the same as rec.Check. -/
namespace Go.Proofs.YtjacenhblclkaaaGreatDoor
open Go.RowKit
set_option linter.unusedVariables false

theorem good4 (txn page prev next key : Int) (had has : Bool) (old new : Int) : goodB ⟨4, txn, page, prev, next, key, had, has, old, new⟩ = (holdsB 1 60000 txn && (holdsB 0 0 page && (holdsB 0 1073741824 prev && (holdsB 0 0 next && (holdsB 0 0 key && ((!had && (old == 0)) && ((!has && (new == 0)) && true))))))) := rfl
set_option maxRecDepth 100000 in
set_option maxHeartbeats 4000000 in
theorem goodRec4 (txn page prev next key : Int) (had has : Bool) (old new : Int) (w : World) : Calls Tryz.prog 62 #[(R.mk 4 txn page prev next key had has old new).val] w fun e w' => e = .returned (.bool (goodB ⟨4, txn, page, prev, next, key, had, has, old, new⟩)) ∧ Below w.heap.size w w' := by
  rw [good4]
  unfold R.val
  simp only
  go_enter Tryz.func62, Tryz.ntmps62
  go_wp2_with (go_at_call 119; refine (from_any _ _ _ _ _ rfl).mono ?_; rintro e w2 ⟨rfl, rfl⟩)
  all_goals
    go_ret
    refine ⟨ret_bool ?_, below_box _ _⟩
    simp_all [holds00]
theorem good5 (txn page prev next key : Int) (had has : Bool) (old new : Int) : goodB ⟨5, txn, page, prev, next, key, had, has, old, new⟩ = (holdsB 1 60000 txn && (holdsB 0 0 page && (holdsB 0 1073741824 prev && (holdsB 0 0 next && (holdsB 0 0 key && ((!had && (old == 0)) && ((!has && (new == 0)) && true))))))) := rfl
set_option maxRecDepth 100000 in
set_option maxHeartbeats 4000000 in
theorem goodRec5 (txn page prev next key : Int) (had has : Bool) (old new : Int) (w : World) : Calls Tryz.prog 62 #[(R.mk 5 txn page prev next key had has old new).val] w fun e w' => e = .returned (.bool (goodB ⟨5, txn, page, prev, next, key, had, has, old, new⟩)) ∧ Below w.heap.size w w' := by
  rw [good5]
  unfold R.val
  simp only
  go_enter Tryz.func62, Tryz.ntmps62
  go_wp2_with (go_at_call 119; refine (from_any _ _ _ _ _ rfl).mono ?_; rintro e w2 ⟨rfl, rfl⟩)
  all_goals
    go_ret
    refine ⟨ret_bool ?_, below_box _ _⟩
    simp_all [holds00]
theorem good6 (txn page prev next key : Int) (had has : Bool) (old new : Int) : goodB ⟨6, txn, page, prev, next, key, had, has, old, new⟩ = (holdsB 1 60000 txn && (holdsB 0 0 page && (holdsB 0 1073741824 prev && (holdsB 0 0 next && (holdsB 0 0 key && ((!had && (old == 0)) && ((!has && (new == 0)) && true))))))) := rfl
set_option maxRecDepth 100000 in
set_option maxHeartbeats 4000000 in
theorem goodRec6 (txn page prev next key : Int) (had has : Bool) (old new : Int) (w : World) : Calls Tryz.prog 62 #[(R.mk 6 txn page prev next key had has old new).val] w fun e w' => e = .returned (.bool (goodB ⟨6, txn, page, prev, next, key, had, has, old, new⟩)) ∧ Below w.heap.size w w' := by
  rw [good6]
  unfold R.val
  simp only
  go_enter Tryz.func62, Tryz.ntmps62
  go_wp2_with (go_at_call 119; refine (from_any _ _ _ _ _ rfl).mono ?_; rintro e w2 ⟨rfl, rfl⟩)
  all_goals
    go_ret
    refine ⟨ret_bool ?_, below_box _ _⟩
    simp_all [holds00]
theorem good7 (txn page prev next key : Int) (had has : Bool) (old new : Int) : goodB ⟨7, txn, page, prev, next, key, had, has, old, new⟩ = (holdsB 0 0 txn && (holdsB 0 0 page && (holdsB 0 0 prev && (holdsB 0 0 next && (holdsB 0 0 key && ((!had && (old == 0)) && ((!has && (new == 0)) && true))))))) := rfl
set_option maxRecDepth 100000 in
set_option maxHeartbeats 4000000 in
theorem goodRec7 (txn page prev next key : Int) (had has : Bool) (old new : Int) (w : World) : Calls Tryz.prog 62 #[(R.mk 7 txn page prev next key had has old new).val] w fun e w' => e = .returned (.bool (goodB ⟨7, txn, page, prev, next, key, had, has, old, new⟩)) ∧ Below w.heap.size w w' := by
  rw [good7]
  unfold R.val
  simp only
  go_enter Tryz.func62, Tryz.ntmps62
  go_wp2_with (go_at_call 119; refine (from_any _ _ _ _ _ rfl).mono ?_; rintro e w2 ⟨rfl, rfl⟩)
  all_goals
    go_ret
    refine ⟨ret_bool ?_, below_box _ _⟩
    simp_all [holds00]
end Go.Proofs.YtjacenhblclkaaaGreatDoor

/- What the document's own GoodRec answers: the same as rec.Check. -/
namespace Go.Proofs.YtjacenhblclkaaaGreatDoor
open Go.RowKit
set_option linter.unusedVariables false

theorem good8 (txn page prev next key : Int) (had has : Bool) (old new : Int) : goodB ⟨8, txn, page, prev, next, key, had, has, old, new⟩ = (holdsB 1 60000 txn && (holdsB 0 0 page && (holdsB 0 1073741824 prev && (holdsB 0 1073741824 next && (holdsB 0 2 key && ((!had && (old == 0)) && ((!has && (new == 0)) && true))))))) := rfl
set_option maxRecDepth 100000 in
set_option maxHeartbeats 4000000 in
theorem goodRec8 (txn page prev next key : Int) (had has : Bool) (old new : Int) (w : World) : Calls Tryz.prog 62 #[(R.mk 8 txn page prev next key had has old new).val] w fun e w' => e = .returned (.bool (goodB ⟨8, txn, page, prev, next, key, had, has, old, new⟩)) ∧ Below w.heap.size w w' := by
  rw [good8]
  unfold R.val
  simp only
  go_enter Tryz.func62, Tryz.ntmps62
  go_wp2_with (go_at_call 119; refine (from_any _ _ _ _ _ rfl).mono ?_; rintro e w2 ⟨rfl, rfl⟩)
  all_goals
    go_ret
    refine ⟨ret_bool ?_, below_box _ _⟩
    simp_all [holds00]
theorem good9 (txn page prev next key : Int) (had has : Bool) (old new : Int) : goodB ⟨9, txn, page, prev, next, key, had, has, old, new⟩ = (holdsB 0 0 txn && (holdsB 1 32 page && (holdsB 1 1073741824 prev && (holdsB 0 0 next && (holdsB 0 0 key && ((!had && (old == 0)) && ((!has && (new == 0)) && true))))))) := rfl
set_option maxRecDepth 100000 in
set_option maxHeartbeats 4000000 in
theorem goodRec9 (txn page prev next key : Int) (had has : Bool) (old new : Int) (w : World) : Calls Tryz.prog 62 #[(R.mk 9 txn page prev next key had has old new).val] w fun e w' => e = .returned (.bool (goodB ⟨9, txn, page, prev, next, key, had, has, old, new⟩)) ∧ Below w.heap.size w w' := by
  rw [good9]
  unfold R.val
  simp only
  go_enter Tryz.func62, Tryz.ntmps62
  go_wp2_with (go_at_call 119; refine (from_any _ _ _ _ _ rfl).mono ?_; rintro e w2 ⟨rfl, rfl⟩)
  all_goals
    go_ret
    refine ⟨ret_bool ?_, below_box _ _⟩
    simp_all [holds00]
theorem good10 (txn page prev next key : Int) (had has : Bool) (old new : Int) : goodB ⟨10, txn, page, prev, next, key, had, has, old, new⟩ = (holdsB 0 0 txn && (holdsB 0 0 page && (holdsB 0 0 prev && (holdsB 0 60000 next && (holdsB 0 0 key && ((!had && (old == 0)) && ((!has && (new == 0)) && true))))))) := rfl
set_option maxRecDepth 100000 in
set_option maxHeartbeats 4000000 in
theorem goodRec10 (txn page prev next key : Int) (had has : Bool) (old new : Int) (w : World) : Calls Tryz.prog 62 #[(R.mk 10 txn page prev next key had has old new).val] w fun e w' => e = .returned (.bool (goodB ⟨10, txn, page, prev, next, key, had, has, old, new⟩)) ∧ Below w.heap.size w w' := by
  rw [good10]
  unfold R.val
  simp only
  go_enter Tryz.func62, Tryz.ntmps62
  go_wp2_with (go_at_call 119; refine (from_any _ _ _ _ _ rfl).mono ?_; rintro e w2 ⟨rfl, rfl⟩)
  all_goals
    go_ret
    refine ⟨ret_bool ?_, below_box _ _⟩
    simp_all [holds00]
set_option maxRecDepth 100000 in
set_option maxHeartbeats 4000000 in
theorem goodRec_out (kind txn page prev next key : Int) (had has : Bool) (old new : Int) (h : holdsB 1 10 kind = false) (w : World) : Calls Tryz.prog 62 #[(R.mk kind txn page prev next key had has old new).val] w fun e w' => e = .returned (.bool (goodB ⟨kind, txn, page, prev, next, key, had, has, old, new⟩)) ∧ Below w.heap.size w w' := by
  have hg : goodB ⟨kind, txn, page, prev, next, key, had, has, old, new⟩ = false := by unfold goodB; rw [h]; rfl
  rw [hg]
  have hn : ¬ (1 ≤ kind ∧ kind ≤ 10) := by rw [← holdsB_iff, h]; simp
  have h6 : holdsB 1 6 kind = false := by
    cases e : holdsB 1 6 kind with
    | false => rfl
    | true => rw [holdsB_iff] at e; omega
  have q2 : (kind == 2) = false := by simp; omega
  have q3 : (kind == 3) = false := by simp; omega
  have q8 : (kind == 8) = false := by simp; omega
  have q9 : (kind == 9) = false := by simp; omega
  clear hg hn
  unfold R.val
  simp only
  go_enter Tryz.func62, Tryz.ntmps62
  go_wp2_with fail
  refine (from_any _ _ _ _ _ h6).mono ?_
  rintro e w2 ⟨rfl, rfl⟩
  go_wp2_with fail
  refine (from_any _ _ _ _ _ h).mono ?_
  rintro e w2 ⟨rfl, rfl⟩
  go_wp2_with fail
  go_ret
  exact ⟨rfl, below_box _ _⟩
theorem goodRec_any (r : R) (w : World) : Calls Tryz.prog 62 #[r.val] w fun e w' => e = .returned (.bool (goodB r)) ∧ Below w.heap.size w w' := by
  obtain ⟨kind, txn, page, prev, next, key, had, has, old, new⟩ := r
  cases h : holdsB 1 10 kind with
  | false => exact goodRec_out kind txn page prev next key had has old new h w
  | true =>
    rw [holdsB_iff] at h
    have hk : kind = 1 ∨ kind = 2 ∨ kind = 3 ∨ kind = 4 ∨ kind = 5 ∨ kind = 6 ∨ kind = 7 ∨ kind = 8 ∨ kind = 9 ∨ kind = 10 := by omega
    rcases hk with rfl | rfl | rfl | rfl | rfl | rfl | rfl | rfl | rfl | rfl
    · exact goodRec1 txn page prev next key had has old new w
    · exact goodRec2 txn page prev next key had has old new w
    · exact goodRec3 txn page prev next key had has old new w
    · exact goodRec4 txn page prev next key had has old new w
    · exact goodRec5 txn page prev next key had has old new w
    · exact goodRec6 txn page prev next key had has old new w
    · exact goodRec7 txn page prev next key had has old new w
    · exact goodRec8 txn page prev next key had has old new w
    · exact goodRec9 txn page prev next key had has old new w
    · exact goodRec10 txn page prev next key had has old new w
end Go.Proofs.YtjacenhblclkaaaGreatDoor
