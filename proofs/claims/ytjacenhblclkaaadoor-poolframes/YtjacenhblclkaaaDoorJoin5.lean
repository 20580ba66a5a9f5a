/- Lemmas and contracts that the law stands on, joined: Base, Sched, See, ErrC, Sector, Disk, Power, Reads, Turns, Writes, Syncs, See2, Ints. -/
import Derived.Test.YtjacenhblclkaaaDoorJoin4
import Derived.Deep.RegionHeld3
import Derived.LaidEql
import Derived.Maps.AppendAt
import Derived.Lib.SliceRun
import Derived.BigQuiet
/- Small facts on memory that every later text wants, and what an error of package api is as a value. -/
namespace Go.Proofs.YtjacenhblclkaaaDoor
open Go.RowKit
set_option linter.unusedVariables false

theorem lt_of_block {w : World} {g : Nat} {x : Obj} (h : w.heap[g]? = some x) : g < w.heap.size := (Array.getElem?_eq_some_iff.1 h).1
theorem cell_row {w : World} {d : Nat} {c : Array Value} {e : TypeId} (h : w.heap[d]? = some (.cells c e (0, 0))) (o : Nat) : w.cell? ⟨d, o, none⟩ = c[o]? := by
  simp [World.cell?, h]
theorem below_drewN {B : Nat} {a w : World} (h : Below B a w) (n : Nat) : Below B a (w.drewN n) := h.trans ⟨rfl, rfl, rfl, Nat.le_refl _, fun _ _ => rfl⟩
theorem below_drew {B : Nat} {a w : World} (h : Below B a w) : Below B a w.drew := h.trans ⟨rfl, rfl, rfl, Nat.le_refl _, fun _ _ => rfl⟩
theorem of_drew {B : Nat} {w w1 : World} (h : Below B w.drew w1) : Below B w w1 := ⟨h.os, h.tape, h.output, h.size, h.block⟩
/-- An error of package api, as a value. -/
def errV (x : Addr) : Value := .iface 168 (.pointer (some x))
/-- The errors of package api in the document's order: the block of each one's variable. -/
def gno (i : Nat) : Nat := [2, 0, 3, 5, 6, 7, 4, 8, 1, 9, 10, 11, 12, 13, 14, 15, 16, 17].getD i 0
/-- The variables of those errors that ks names hold errors that lie in memory of their own, each another. -/
structure ErrsOf (w : World) (ks : List Nat) (a : Nat → Addr) : Prop where
  cell : ∀ i ∈ ks, w.cell? ⟨gno i, 0, none⟩ = some (errV (a i))
  row : ∀ i ∈ ks, ∃ c t, w.heap[(a i).block]? = some (.cells c t (0, 0))
  ne : ∀ i ∈ ks, ∀ j ∈ ks, i ≠ j → a i ≠ a j
theorem ErrsOf.below {w w' : World} {ks : List Nat} {a : Nat → Addr} (h : ErrsOf w ks a) {B : Nat} (hb : Below B w w') (hB : w.heap.size ≤ B) : ErrsOf w' ks a := by
  refine ⟨fun i hi => ?_, fun i hi => ?_, h.ne⟩
  · have hlt := World.block_lt_of_cell? w _ (h.cell i hi)
    rw [hb.cell (Nat.lt_of_lt_of_le hlt hB)]; exact h.cell i hi
  · obtain ⟨c, t, hr⟩ := h.row i hi
    exact ⟨c, t, by rw [hb.block _ (Nat.lt_of_lt_of_le (lt_of_block hr) hB)]; exact hr⟩
theorem ErrsOf.step {w w' : World} {ks : List Nat} {a : Nat → Addr} (h : ErrsOf w ks a) (hb : Below w.heap.size w w') : ErrsOf w' ks a := h.below hb (Nat.le_refl _)
theorem ErrsOf.drew {w : World} {ks : List Nat} {a : Nat → Addr} (h : ErrsOf w ks a) : ErrsOf w.drew ks a := ⟨h.cell, h.row, h.ne⟩
theorem ErrsOf.alloc {w : World} {ks : List Nat} {a : Nat → Addr} (h : ErrsOf w ks a) (x : Obj) : ErrsOf (w.alloc x) ks a := h.step ((Below.refl _ _).alloc (Nat.le_refl _) x)
theorem ErrsOf.var {w : World} {ks : List Nat} {a : Nat → Addr} (h : ErrsOf w ks a) (i : Nat) {g : Nat} (hi : i ∈ ks) (hg : gno i = g) : w.cell? ⟨g, 0, none⟩ = some (errV (a i)) := by rw [← hg]; exact h.cell i hi
end Go.Proofs.YtjacenhblclkaaaDoor

/- A statement that leaves its order open, walked by a list of steps: an operation that only reads what stays, or that is not wanted, may be taken first; where one call alone can come up it is carried out. No Go text here. -/
namespace Go.Proofs.YtjacenhblclkaaaDoor
open Go.RowKit
set_option linter.unusedVariables false

/-- The steps may come in this order: (i, true): operation i is taken first; (i, false): i alone can come up. -/
def schedB (ops : Array Oper) : List (Nat × Bool) → Array Bool → Bool
  | [], listed => (Region.ready .any ops listed).isEmpty
  | (i, true) :: r, listed => Region.free .any ops listed i && (Region.ready .any ops listed).contains i && schedB ops r (listed.setIfInBounds i true)
  | (i, false) :: r, listed => decide (Region.ready .any ops listed = [i]) && schedB ops r (listed.setIfInBounds i true)
/-- What the steps must show. -/
def Sched (P : Program) (ops : Array Oper) (Q : Exit → Act → World → Prop) (S : World → Prop) : List (Nat × Bool) → Act → World → Prop
  | [], a, w => Q .normal a w
  | (i, true) :: r, a, w => ∃ oi v, ops[i]? = some oi ∧ YieldsIf P ops S oi v a ∧ Sched P ops Q S r (a.put oi.dst v) w
  | (i, false) :: r, a, w => wpOp P ops Q i (fun a' w' => S w' ∧ Sched P ops Q S r a' w') a w
section
variable {P : Program} {ops : Array Oper} {Q : Exit → Act → World → Prop} {S : World → Prop}
theorem wpAnyH_of_sched (hs : Region.noSelect ops = true) (hQ : ∀ c a d v w, Q (.panic c) (Act.put a d v) w → Q (.panic c) a w) :
    ∀ (steps : List (Nat × Bool)) (listed : Array Bool) (a : Act) (w : World) (fuel : Nat), schedB ops steps listed = true → steps.length ≤ fuel → S w → Sched P ops Q S steps a w → wpAnyH P .any ops Q S fuel listed a w := by
  intro steps
  induction steps with
  | nil =>
    intro listed a w fuel h _ _ hq
    simp only [schedB, List.isEmpty_iff] at h
    exact wpAnyH_done h hq fuel
  | cons s r ih =>
    obtain ⟨i, b⟩ := s
    intro listed a w fuel h hf hS hq
    cases fuel with
    | zero => simp at hf
    | succ fuel =>
      cases b with
      | true =>
        simp only [schedB, Bool.and_eq_true] at h
        obtain ⟨⟨h1, h2⟩, h3⟩ := h
        obtain ⟨oi, v, ho, hy, hr⟩ := hq
        exact wpAnyH_take ho hs h1 h2 (fun c a w => hQ c a _ _ w) hy hS (ih _ _ _ _ h3 (by simp at hf; omega) hS hr)
      | false =>
        simp only [schedB, Bool.and_eq_true, decide_eq_true_eq] at h
        refine wpAnyH_all h.1 (by simp) (fun j hj => ?_)
        simp only [List.mem_singleton] at hj
        subst hj
        exact wpOp_mono (fun a' w' h' => ⟨h'.1, ih _ _ _ _ h.2 (by simp at hf; omega) h'.1 h'.2⟩) hq
theorem region_of_sched {id : Nat} {a : Act} {w : World} (steps : List (Nat × Bool)) (hm : P.follows .mixedOrders = true) (hs : Region.noSelect ops = true) (hb : schedB ops steps (Array.replicate ops.size false) = true) (hl : decide (steps.length ≤ ops.size) = true)
    (hQ : ∀ c a d v w, Q (.panic c) (Act.put a d v) w → Q (.panic c) a w) (hS : S w.drew) (h : Sched P ops Q S steps a w.drew) : (Code.region id ops true).wp P Q a w :=
  wp_region_held_drew hm hS fun hS => wpAnyH_of_sched hs hQ steps _ _ _ _ hb (of_decide_eq_true hl) hS h
theorem sched_nil {a : Act} {w : World} (h : Q .normal a w) : Sched P ops Q S [] a w := h
theorem sched_take {i : Nat} {r : List (Nat × Bool)} {t : List Value} {ds : List Deferred} {w : World} {o : Oper} {v : Value} {d : Tmp} (ho : ops[i]? = some o) (hd : o.dst = some d) (hw : Region.wanted o (yielded ops t.toArray) = true) (hv : ∀ w, S w → (execOp (Act.mk t.toArray ds).eval o).run P w = .ok (.value v) w) (hr : Sched P ops Q S r (Act.mk (t.set d v).toArray ds) w) : Sched P ops Q S ((i, true) :: r) (Act.mk t.toArray ds) w :=
  ⟨o, v, ho, .inl ⟨hw, hv⟩, by rw [hd]; simpa [Act.put] using hr⟩
/-- A call of the program's own function enters it. -/
def Enters (P : Program) (f : FuncId) : Prop := ∀ (args : Array Value) (w : World), (callFunc f args).run P w = .ok (.enter f args) w
theorem enters {f : FuncId} {fn : Func} (hf : P.funcs[f]? = some fn) (hn : (fn.name == "runtime.NumGoroutine") = false) (hb : fn.body.isNone = false) : Enters P f := by
  intro args w
  have hn' : ¬ fn.name = "runtime.NumGoroutine" := by simpa using hn
  have hb' : ¬ fn.body = none := by intro e; rw [e] at hb; simp at hb
  simp [callFunc, run_program, hf, hn', hb']
theorem run_enter {o : Oper} {a : Act} {f : FuncId} {xs : Array Operand} {ts : Array TypeId} (hf : Enters P f) (hop : o.op = .call { callee := .value (.func f), args := xs, argTypes := ts }) (w : World) : (execOp a.eval o).run P w = .ok (.enter f (xs.map a.eval)) w := by
  have h : a.eval (.func f) = .func (.func f) #[] #[] := rfl
  simp [execOp, hop, resolve, h, Deferred.ofValue, invoke, hf (xs.map a.eval) w]
theorem sched_call {i : Nat} {r : List (Nat × Bool)} {t : List Value} {ds : List Deferred} {w : World} {o : Oper} {d : Tmp} {f : FuncId} {ys : List Operand} {ts : Array TypeId} (ho : ops[i]? = some o) (hd : o.dst = some d) (hw : Region.wanted o (yielded ops t.toArray) = true)
    (hop : o.op = .call { callee := .value (.func f), args := ys.toArray, argTypes := ts }) (hf : Enters P f)
    (hc : Calls P f (ys.map (Act.mk t.toArray ds).eval).toArray w fun e w' => ∃ v, e = .returned v ∧ S w' ∧ Sched P ops Q S r (Act.mk (t.set d v).toArray ds) w') : Sched P ops Q S ((i, false) :: r) (Act.mk t.toArray ds) w := by
  show wpOp P ops Q i _ _ w
  unfold wpOp
  rw [ho]
  simp only [hw, if_true]
  refine .inl ?_
  unfold Oper.wp
  rw [run_enter hf hop, List.map_toArray]
  refine hc.mono ?_
  rintro e w' ⟨v, rfl, hS, hr⟩
  refine ⟨hS, ?_⟩
  rw [hd]
  simpa [Act.put] using hr
theorem sched_move {i : Nat} {r : List (Nat × Bool)} {t : List Value} {ds : List Deferred} {w : World} {o : Oper} {d : Tmp} {x : Operand} (v : Value) (ho : ops[i]? = some o) (hd : o.dst = some d) (hw : Region.wanted o (yielded ops t.toArray) = true) (hop : o.op = .move x) (hv : (Act.mk t.toArray ds).eval x = v) (hr : Sched P ops Q S r (Act.mk (t.set d v).toArray ds) w) : Sched P ops Q S ((i, true) :: r) (Act.mk t.toArray ds) w :=
  sched_take ho hd hw (fun w _ => by simp [execOp, hop, hv]) hr
theorem sched_assign {i : Nat} {r : List (Nat × Bool)} {t : List Value} {ds : List Deferred} {w : World} {o : Oper} {d : Tmp} {x : Operand} (v : Value) (ho : ops[i]? = some o) (hd : o.dst = some d) (hw : Region.wanted o (yielded ops t.toArray) = true) (hop : o.op = .assign x) (hv : (Act.mk t.toArray ds).eval x = v) (hr : Sched P ops Q S r (Act.mk (t.set d v).toArray ds) w) : Sched P ops Q S ((i, true) :: r) (Act.mk t.toArray ds) w :=
  sched_take ho hd hw (fun w _ => by simp [execOp, hop, hv]) hr
theorem sched_pick {i : Nat} {r : List (Nat × Bool)} {t : List Value} {ds : List Deferred} {w : World} {o : Oper} {d : Tmp} {c x y : Operand} (b : Bool) (v : Value) (ho : ops[i]? = some o) (hd : o.dst = some d) (hw : Region.wanted o (yielded ops t.toArray) = true) (hop : o.op = .pick c x y) (hc : (Act.mk t.toArray ds).eval c = .bool b) (hv : (bif b then (Act.mk t.toArray ds).eval x else (Act.mk t.toArray ds).eval y) = v) (hr : Sched P ops Q S r (Act.mk (t.set d v).toArray ds) w) : Sched P ops Q S ((i, true) :: r) (Act.mk t.toArray ds) w :=
  sched_take ho hd hw (fun w _ => by cases b <;> simp_all [execOp, asBool]) hr
def isUndef : Value → Bool
  | .tuple x => x.isEmpty
  | _ => false
theorem eq_undef {v : Value} (h : isUndef v = true) : v = undef := by
  cases v <;> simp [isUndef] at h
  subst h; rfl
/-- None of these operations is wanted, and their slots are empty. -/
def skipB (ops : Array Oper) (t : List Value) : List (Nat × Bool) → Bool
  | [] => true
  | (i, _) :: r => (match ops[i]? with
    | none => false
    | some o => !Region.wanted o (yielded ops t.toArray) && (match o.dst with | none => true | some d => isUndef (t.getD d undef))) && skipB ops t r
theorem set_same (t : List Value) (d : Nat) (h : isUndef (t.getD d undef) = true) : t.set d undef = t := by
  refine List.ext_getElem (by simp) fun n h1 h2 => ?_
  rw [List.getElem_set]
  split
  · rename_i e
    subst e
    rw [List.getD_eq_getElem?_getD, List.getElem?_eq_getElem h2] at h
    exact (eq_undef h).symm
  · rfl
theorem sched_skip {t : List Value} {ds : List Deferred} {w : World} {r : List (Nat × Bool)} : ∀ (is : List (Nat × Bool)) (h : skipB ops t is = true) (hS : S w) (hr : Sched P ops Q S r (Act.mk t.toArray ds) w), Sched P ops Q S (is ++ r) (Act.mk t.toArray ds) w := by
  intro is
  induction is with
  | nil => intro _ _ hr; exact hr
  | cons s is ih =>
    obtain ⟨i, b⟩ := s
    intro h hS hr
    simp only [skipB, Bool.and_eq_true] at h
    have hgo := ih h.2 hS hr
    cases ho : ops[i]? with
    | none => simp [ho] at h
    | some o =>
      simp only [ho, Bool.and_eq_true, Bool.not_eq_true'] at h
      obtain ⟨⟨hw, hd⟩, _⟩ := h
      have hp : (Act.mk t.toArray ds).put o.dst undef = Act.mk t.toArray ds := by
        cases hdd : o.dst with
        | none => rfl
        | some d =>
          rw [hdd] at hd
          simp only [Act.put, List.setIfInBounds_toArray, set_same t d hd]
      cases b with
      | true => exact ⟨o, undef, ho, .inr ⟨hw, rfl⟩, by rw [hp]; exact hgo⟩
      | false =>
        show wpOp P ops Q i _ _ w
        unfold wpOp
        rw [ho]
        simp only [hw, Bool.false_eq_true, if_false, hp]
        exact ⟨hS, hgo⟩
end
end Go.Proofs.YtjacenhblclkaaaDoor

/- What phoenixsee.Is answers of no error and of the errors of package api. -/
namespace Go.Proofs.YtjacenhblclkaaaDoor
open Go.RowKit
set_option linter.unusedVariables false

/-- All eighteen, by their places in the document's list. -/
def all18 : List Nat := [0, 1, 2, 3, 4, 5, 6, 7, 8, 9, 10, 11, 12, 13, 14, 15, 16, 17]
theorem mem18 {i : Nat} (h : i < 18) : i ∈ all18 := by
  unfold all18
  simp only [List.mem_cons, List.not_mem_nil, or_false]
  omega
set_option maxHeartbeats 400000 in
theorem bare_any (c : Int) (w : World) : Calls Tryd.prog 51 #[.int .i64 c] w fun e w' => e = .returned (.agg #[.int .i64 c, .bool false, .int .i64 0]) ∧ w' = w.alloc (.cells #[.int .i64 c, .bool false, .int .i64 0] 64) := by
  go_enter Tryd.func51, Tryd.ntmps51
  go_wp2_with fail
  exact bodyPost_ret (v := .agg #[.int .i64 c, .bool false, .int .i64 0]) (by simp [results, Tryd.results51, go_sem]) rfl ⟨rfl, rfl⟩
set_option maxHeartbeats 400000 in
theorem sameFault_any (c : Int) (w : World) : Calls Tryd.prog 52 #[.agg #[.int .i64 c, .bool false, .int .i64 0], .agg #[.int .i64 c, .bool false, .int .i64 0]] w fun e w' => e = .returned (.bool true) ∧ Below w.heap.size w w' := by
  go_enter Tryd.func52, Tryd.ntmps52
  go_wp2_with fail
  go_ret
  exact ⟨rfl, ((Below.refl _ _).alloc (Nat.le_refl _) _).alloc (by simp) _⟩
theorem Tryd.cmp168 : (Tryd.prog.info? 168).map (·.comparable) = some true := by kernel_rfl
theorem Tryd.sz184 : (Tryd.prog.info? 184).map (·.size) = some 1 := by kernel_rfl
theorem eql_same (x : Addr) (w : World) : (binOp .eql 36 (.iface 168 (.pointer (some x))) (.iface 168 (.pointer (some x)))).run Tryd.prog w = .ok (.bool true) w := by
  obtain ⟨i, hi, hc⟩ := Option.map_eq_some_iff.1 Tryd.cmp168
  obtain ⟨j, hj, _⟩ := Option.map_eq_some_iff.1 Tryd.sz184
  exact run_eql_iface_ptr_same w x Tryd.underlying36 Tryd.underlying168 hi hc hj
theorem eql_other {x y : Addr} {w : World} {c c' : Array Value} {t t' : TypeId} (hne : x ≠ y) (hx : w.heap[x.block]? = some (.cells c t (0, 0))) (hy : w.heap[y.block]? = some (.cells c' t' (0, 0))) : (binOp .eql 36 (.iface 168 (.pointer (some x))) (.iface 168 (.pointer (some y)))).run Tryd.prog w = .ok (.bool false) w := by
  obtain ⟨i, hi, hc⟩ := Option.map_eq_some_iff.1 Tryd.cmp168
  obtain ⟨j, hj, hs⟩ := Option.map_eq_some_iff.1 Tryd.sz184
  exact run_eql_iface_ptr_other w Tryd.underlying36 Tryd.underlying168 hi hc hj (by rw [hs]; decide) hne hx hy
set_option maxHeartbeats 400000 in
theorem alike_same (x : Addr) (w : World) : Calls Tryd.prog 100 #[errV x, errV x] w fun e w' => e = .returned (.bool true) ∧ w' = w := by
  unfold errV
  have he := eql_same x w
  go_enter Tryd.func100, Tryd.ntmps100
  go_wp2_with fail
  go_ret
  exact ⟨rfl, rfl⟩
set_option maxHeartbeats 400000 in
theorem alike_other (x y : Addr) (w : World) {c c' : Array Value} {t t' : TypeId} (hne : x ≠ y) (hx : w.heap[x.block]? = some (.cells c t (0, 0))) (hy : w.heap[y.block]? = some (.cells c' t' (0, 0))) : Calls Tryd.prog 100 #[errV x, errV y] w fun e w' => e = .returned (.bool false) ∧ w' = w := by
  unfold errV
  have he := eql_other hne hx hy
  clear hne hx hy
  go_enter Tryd.func100, Tryd.ntmps100
  go_wp2_with fail
  go_ret
  exact ⟨rfl, rfl⟩
/-- The list of all errors, as a block. -/
def errBlock (a : Nat → Addr) : Obj := .cells #[errV (a 0), errV (a 1), errV (a 2), errV (a 3), errV (a 4), errV (a 5), errV (a 6), errV (a 7), errV (a 8), errV (a 9), errV (a 10), errV (a 11), errV (a 12), errV (a 13), errV (a 14), errV (a 15), errV (a 16), errV (a 17)] 36
set_option maxHeartbeats 400000 in
theorem sentinels_any (w : World) (a : Nat → Addr) (h : ErrsOf w all18 a) : Calls Tryd.prog 99 #[] w fun e w' => e = .returned (.slice (some ⟨w.heap.size, 0, none⟩) 18 18) ∧ w' = w.alloc (errBlock a) := by
  have h0 := h.var 0 (g := 2) (mem18 (by omega)) rfl; have h1 := h.var 1 (g := 0) (mem18 (by omega)) rfl; have h2 := h.var 2 (g := 3) (mem18 (by omega)) rfl; have h3 := h.var 3 (g := 5) (mem18 (by omega)) rfl; have h4 := h.var 4 (g := 6) (mem18 (by omega)) rfl; have h5 := h.var 5 (g := 7) (mem18 (by omega)) rfl
  have h6 := h.var 6 (g := 4) (mem18 (by omega)) rfl; have h7 := h.var 7 (g := 8) (mem18 (by omega)) rfl; have h8 := h.var 8 (g := 1) (mem18 (by omega)) rfl; have h9 := h.var 9 (g := 9) (mem18 (by omega)) rfl; have h10 := h.var 10 (g := 10) (mem18 (by omega)) rfl; have h11 := h.var 11 (g := 11) (mem18 (by omega)) rfl
  have h12 := h.var 12 (g := 12) (mem18 (by omega)) rfl; have h13 := h.var 13 (g := 13) (mem18 (by omega)) rfl; have h14 := h.var 14 (g := 14) (mem18 (by omega)) rfl; have h15 := h.var 15 (g := 15) (mem18 (by omega)) rfl; have h16 := h.var 16 (g := 16) (mem18 (by omega)) rfl; have h17 := h.var 17 (g := 17) (mem18 (by omega)) rfl
  clear h
  unfold errBlock
  unfold errV at *
  go_enter Tryd.func99, Tryd.ntmps99
  go_wp2_with fail
  go_ret
  exact ⟨rfl, rfl⟩
theorem err_at {w : World} {a : Nat → Addr} (i : Nat) (hi : i < 18) : (w.alloc (errBlock a)).cell? ⟨w.heap.size, i, none⟩ = some (errV (a i)) := by
  rw [cell_row (heap_alloc_new w (errBlock a))]
  rcases (show i = 0 ∨ i = 1 ∨ i = 2 ∨ i = 3 ∨ i = 4 ∨ i = 5 ∨ i = 6 ∨ i = 7 ∨ i = 8 ∨ i = 9 ∨ i = 10 ∨ i = 11 ∨ i = 12 ∨ i = 13 ∨ i = 14 ∨ i = 15 ∨ i = 16 ∨ i = 17 by omega) with rfl | rfl | rfl | rfl | rfl | rfl | rfl | rfl | rfl | rfl | rfl | rfl | rfl | rfl | rfl | rfl | rfl | rfl <;> rfl
set_option maxHeartbeats 1000000 in
theorem sentinel_any (w : World) (a : Nat → Addr) (i : Nat) (hi : i < 18) (h : ErrsOf w all18 a) : Calls Tryd.prog 81 #[errV (a i)] w fun e w' => e = .returned (.int .i64 (101 + (i : Int))) ∧ w' = w.alloc (errBlock a) := by
  have HE := hide h
  have H2 := hide (h.step ((Below.refl _ _).alloc (Nat.le_refl _) (errBlock a)))
  clear h
  go_enter Tryd.func81, Tryd.ntmps81
  go_wp2_with fail
  refine (sentinels_any w a HE.out).mono ?_
  rintro e w1 ⟨rfl, rfl⟩
  go_wp2_with fail
  go_loop [4] (fun v => ∃ k : Nat, k ≤ i ∧ v = .int .i64 k) (fun v => 18 - (intOf v).toNat)
  case atStart => exact ⟨0, by omega, rfl⟩
  case round =>
    obtain ⟨k, hk, rfl⟩ := hrel
    have hc := err_at (w := w) (a := a) k (by omega)
    have hki : (k : Int) < 18 := by omega
    by_cases e : k = i
    · subst e
      go_wp2_with fail
      refine (alike_same _ _).mono ?_
      rintro e w1 ⟨rfl, rfl⟩
      go_wp2_with fail
      go_ret
      exact ⟨rfl, rfl⟩
    · have hne : a i ≠ a k := by
        exact HE.out.ne i (mem18 (by omega)) k (mem18 (by omega)) (fun h => e h.symm)
      obtain ⟨c, t, hr⟩ := H2.out.row i (mem18 (by omega))
      obtain ⟨c', t', hr'⟩ := H2.out.row k (mem18 (by omega))
      have HR := hide hr
      have HR' := hide hr'
      have HN := hide hne
      clear hr hr' hne
      go_wp2_with fail
      refine (alike_other _ _ _ HN.out HR.out HR'.out).mono ?_
      rintro e w1 ⟨rfl, rfl⟩
      go_wp2_with fail
      go_round
      case rel => exact ⟨k + 1, by omega, by go_num⟩
      case measure => simp [intOf]; omega
theorem Tryd.zero116 : (Tryd.prog.info? 116).map (·.zero) = some (some (.pointer none)) := by kernel_rfl
theorem assert_other (v : Value) (w : World) : (Instr.typeAssert (.iface 168 v) 36 116 true).run Tryd.prog w = .ok (.tuple #[.pointer none, .bool false]) w := by
  obtain ⟨j, hj, hz⟩ := Option.map_eq_some_iff.1 Tryd.zero116
  simp [Instr.typeAssert, run_underlying Tryd.underlying116, zeroValue, typeInfo, hj, hz]
set_option maxHeartbeats 1000000 in
theorem fault_err (w : World) (a : Nat → Addr) (i : Nat) (hi : i < 18) (h : ErrsOf w all18 a) : Calls Tryd.prog 53 #[errV (a i)] w fun e w' => e = .returned (.agg #[.int .i64 (101 + (i : Int)), .bool false, .int .i64 0]) ∧ Below w.heap.size w w' := by
  have HE2 := hide (h.step ((Below.refl _ _).alloc (Nat.le_refl _) (.cells #[.int .i64 0, .bool false, .int .i64 0] 64)))
  clear h
  have hta := assert_other
  show Calls Tryd.prog 53 #[.iface 168 (.pointer (some (a i)))] w _
  go_enter Tryd.func53, Tryd.ntmps53
  go_wp2_with fail
  refine (sentinel_any _ a i hi HE2.out).mono ?_
  rintro e w1 ⟨rfl, rfl⟩
  go_wp2_with fail
  refine (bare_any _ _).mono ?_
  rintro e w1 ⟨rfl, rfl⟩
  go_wp2_with fail
  exact bodyPost_ret (v := .agg #[.int .i64 (101 + (i : Int)), .bool false, .int .i64 0]) (by simp [results, Tryd.results53, go_sem]) rfl ⟨rfl, (((Below.refl _ _).alloc (Nat.le_refl _) _).alloc (by simp) _).alloc (by simp; omega) _⟩
set_option maxHeartbeats 1000000 in
theorem same_err (w : World) (a : Nat → Addr) (i : Nat) (hi : i < 18) (h : ErrsOf w all18 a) : Calls Tryd.prog 27 #[errV (a i), .agg #[.int .i64 (101 + (i : Int)), .bool false, .int .i64 0]] w fun e w' => e = .returned (.bool true) ∧ Below w.heap.size w w' := by
  obtain ⟨c, hc⟩ : ∃ c, c = 101 + (i : Int) := ⟨_, rfl⟩
  have HC := hide hc
  rw [← hc]
  obtain ⟨W, hW⟩ : ∃ W, W = w.alloc (.cells #[.int .i64 c, .bool false, .int .i64 0] 64) := ⟨_, rfl⟩
  have hWr : W.heap[w.heap.size]? = some (.cells #[.int .i64 c, .bool false, .int .i64 0] 64 (0, 0)) := by rw [hW]; exact heap_alloc_new _ _
  have HB : Hid (Below w.heap.size w W) := by show Below _ _ _; rw [hW]; exact (Below.refl _ _).alloc (Nat.le_refl _) _
  have HE := hide (h.step HB.out)
  have HWR := hide hWr
  have h0 : W.cell? ⟨w.heap.size, 0, none⟩ = some (.int .i64 c) := by rw [cell_row hWr]; rfl
  have h1 : W.cell? ⟨w.heap.size, 1, none⟩ = some (.bool false) := by rw [cell_row hWr]; rfl
  have h2 : W.cell? ⟨w.heap.size, 2, none⟩ = some (.int .i64 0) := by rw [cell_row hWr]; rfl
  have hlt := lt_of_block hWr
  have HL0 : Hid ((⟨w.heap.size, 0, none⟩ : Addr).block < W.drew.heap.size) := hlt
  have HL1 : Hid ((⟨w.heap.size, 1, none⟩ : Addr).block < W.drew.heap.size) := hlt
  have HL2 : Hid ((⟨w.heap.size, 2, none⟩ : Addr).block < W.drew.heap.size) := hlt
  have HW := hide hW
  clear h hc hWr hW hlt
  go_enter Tryd.func27, Tryd.ntmps27
  go_wp2_with fail
  rw [← HW.out]
  go_region_held3 (fun w' => w'.cell? ⟨w.heap.size, 0, none⟩ = some (.int .i64 c) ∧ w'.cell? ⟨w.heap.size, 1, none⟩ = some (.bool false) ∧ w'.cell? ⟨w.heap.size, 2, none⟩ = some (.int .i64 0)) (first | go_keep | (refine ⟨?_, ?_, ?_⟩ <;> assumption))
    (first
      | (go_at_call 53; refine (fault_err _ a i hi HE.out.drew).mono ?_; rintro e w2 ⟨rfl, hb2⟩; rw [← HC.out]; have hb2 := of_drew hb2; have k0 := (hb2.cell HL0.out).trans h0; have k1 := (hb2.cell HL1.out).trans h1; have k2 := (hb2.cell HL2.out).trans h2; have hs2 := hb2.size; have HB2 := hide hb2; clear hb2)
      | (go_at_call 52; refine (sameFault_any c _).mono ?_; rintro e w3 ⟨rfl, hb3⟩; have m0 := (hb3.cell (p := ⟨w.heap.size, 0, none⟩) (Nat.lt_of_lt_of_le HL0.out HB2.out.size)).trans k0; have m1 := (hb3.cell (p := ⟨w.heap.size, 1, none⟩) (Nat.lt_of_lt_of_le HL0.out HB2.out.size)).trans k1; have m2 := (hb3.cell (p := ⟨w.heap.size, 2, none⟩) (Nat.lt_of_lt_of_le HL0.out HB2.out.size)).trans k2; have HB3 := hide hb3; clear hb3))
  go_wp2_with fail
  go_ret
  exact ⟨rfl, over (over HB.out HB2.out HB.out.size) HB3.out (Nat.le_trans HB.out.size HB2.out.size)⟩
set_option maxHeartbeats 400000 in
theorem is_err (w : World) (a : Nat → Addr) (i : Nat) (hi : i < 18) (c : Int) (hc : c = 101 + (i : Int)) (h : ErrsOf w all18 a) : Calls Tryd.prog 26 #[errV (a i), .int .i64 c] w fun e w' => e = .returned (.bool true) ∧ Below w.heap.size w w' := by
  have HE := hide (h.step ((Below.refl _ _).alloc (Nat.le_refl _) (.cells #[.int .i64 c, .bool false, .int .i64 0] 64)))
  have HC := hide hc
  clear h hc
  go_enter Tryd.func26, Tryd.ntmps26
  go_wp2_with fail
  refine (bare_any _ _).mono ?_
  rintro e w1 ⟨rfl, rfl⟩
  go_wp2_with fail
  rw [HC.out] at HE ⊢
  refine (same_err _ a i hi HE.out).mono ?_
  rintro e w2 ⟨rfl, hb⟩
  have HB := hide hb
  clear hb
  go_wp2_with fail
  go_ret
  exact ⟨rfl, over ((Below.refl _ _).alloc (Nat.le_refl _) _) HB.out (by simp)⟩
set_option maxHeartbeats 400000 in
theorem none_any (w : World) : Calls Tryd.prog 54 #[] w fun e w' => e = .returned (.agg #[.int .i64 0, .bool false, .int .i64 0]) ∧ w' = w.alloc (.cells #[.int .i64 0, .bool false, .int .i64 0] 64) := by
  go_enter Tryd.func54, Tryd.ntmps54
  go_wp2_with fail
  exact bodyPost_ret (v := .agg #[.int .i64 0, .bool false, .int .i64 0]) (by simp [results, Tryd.results54, go_sem]) rfl ⟨rfl, rfl⟩
set_option maxHeartbeats 400000 in
theorem fault_nil (w : World) : Calls Tryd.prog 53 #[.nilIface] w fun e w' => e = .returned (.agg #[.int .i64 0, .bool false, .int .i64 0]) ∧ Below w.heap.size w w' := by
  go_enter Tryd.func53, Tryd.ntmps53
  go_wp2_with fail
  refine (none_any _).mono ?_
  rintro e w1 ⟨rfl, rfl⟩
  go_wp2_with fail
  exact bodyPost_ret (v := .agg #[.int .i64 0, .bool false, .int .i64 0]) (by simp [results, Tryd.results53, go_sem]) rfl ⟨rfl, ((Below.refl _ _).alloc (Nat.le_refl _) _).alloc (by simp) _⟩
set_option maxHeartbeats 1000000 in
theorem same_nil (w : World) : Calls Tryd.prog 27 #[.nilIface, .agg #[.int .i64 0, .bool false, .int .i64 0]] w fun e w' => e = .returned (.bool true) ∧ Below w.heap.size w w' := by
  obtain ⟨W, hW⟩ : ∃ W, W = w.alloc (.cells #[.int .i64 0, .bool false, .int .i64 0] 64) := ⟨_, rfl⟩
  have hWr : W.heap[w.heap.size]? = some (.cells #[.int .i64 0, .bool false, .int .i64 0] 64 (0, 0)) := by rw [hW]; exact heap_alloc_new _ _
  have HB : Hid (Below w.heap.size w W) := by show Below _ _ _; rw [hW]; exact (Below.refl _ _).alloc (Nat.le_refl _) _
  have HWR := hide hWr
  have h0 : W.cell? ⟨w.heap.size, 0, none⟩ = some (.int .i64 0) := by rw [cell_row hWr]; rfl
  have h1 : W.cell? ⟨w.heap.size, 1, none⟩ = some (.bool false) := by rw [cell_row hWr]; rfl
  have h2 : W.cell? ⟨w.heap.size, 2, none⟩ = some (.int .i64 0) := by rw [cell_row hWr]; rfl
  have hlt := lt_of_block hWr
  have HL0 : Hid ((⟨w.heap.size, 0, none⟩ : Addr).block < W.drew.heap.size) := hlt
  have HL1 : Hid ((⟨w.heap.size, 1, none⟩ : Addr).block < W.drew.heap.size) := hlt
  have HL2 : Hid ((⟨w.heap.size, 2, none⟩ : Addr).block < W.drew.heap.size) := hlt
  have HW := hide hW
  clear hWr hW hlt
  go_enter Tryd.func27, Tryd.ntmps27
  go_wp2_with fail
  rw [← HW.out]
  go_region_held3 (fun w' => w'.cell? ⟨w.heap.size, 0, none⟩ = some (.int .i64 0) ∧ w'.cell? ⟨w.heap.size, 1, none⟩ = some (.bool false) ∧ w'.cell? ⟨w.heap.size, 2, none⟩ = some (.int .i64 0)) (first | go_keep | (refine ⟨?_, ?_, ?_⟩ <;> assumption))
    (first
      | (go_at_call 53; refine (fault_nil _).mono ?_; rintro e w2 ⟨rfl, hb2⟩; have hb2 := of_drew hb2; have k0 := (hb2.cell HL0.out).trans h0; have k1 := (hb2.cell HL1.out).trans h1; have k2 := (hb2.cell HL2.out).trans h2; have hs2 := hb2.size; have HB2 := hide hb2; clear hb2)
      | (go_at_call 52; refine (sameFault_any 0 _).mono ?_; rintro e w3 ⟨rfl, hb3⟩; have m0 := (hb3.cell (p := ⟨w.heap.size, 0, none⟩) (Nat.lt_of_lt_of_le HL0.out HB2.out.size)).trans k0; have m1 := (hb3.cell (p := ⟨w.heap.size, 1, none⟩) (Nat.lt_of_lt_of_le HL0.out HB2.out.size)).trans k1; have m2 := (hb3.cell (p := ⟨w.heap.size, 2, none⟩) (Nat.lt_of_lt_of_le HL0.out HB2.out.size)).trans k2; have HB3 := hide hb3; clear hb3))
  go_wp2_with fail
  go_ret
  exact ⟨rfl, over (over HB.out HB2.out HB.out.size) HB3.out (Nat.le_trans HB.out.size HB2.out.size)⟩
set_option maxHeartbeats 400000 in
theorem is_ok (w : World) : Calls Tryd.prog 26 #[.nilIface, .int .i64 0] w fun e w' => e = .returned (.bool true) ∧ Below w.heap.size w w' := by
  go_enter Tryd.func26, Tryd.ntmps26
  go_wp2_with fail
  refine (bare_any _ _).mono ?_
  rintro e w1 ⟨rfl, rfl⟩
  go_wp2_with fail
  refine (same_nil _).mono ?_
  rintro e w2 ⟨rfl, hb⟩
  have HB := hide hb
  clear hb
  go_wp2_with fail
  go_ret
  exact ⟨rfl, over ((Below.refl _ _).alloc (Nat.le_refl _) _) HB.out (by simp)⟩
end Go.Proofs.YtjacenhblclkaaaDoor

/- An error as a value and as a number. -/
namespace Go.Proofs.YtjacenhblclkaaaDoor
open Go.RowKit
set_option linter.unusedVariables false

/-- An error as a value, and as a number. -/
def ErrCode (a : Nat → Addr) (fv : Value) (cd : Int) : Prop := (fv = .nilIface ∧ cd = 0) ∨ ∃ i, i < 18 ∧ fv = errV (a i) ∧ cd = 101 + (i : Int)
theorem is_code {w : World} {a : Nat → Addr} {fv : Value} {cd : Int} (h : ErrCode a fv cd) (he : ErrsOf w all18 a) : Calls Tryd.prog 26 #[fv, .int .i64 cd] w fun e w' => e = .returned (.bool true) ∧ Below w.heap.size w w' := by
  rcases h with ⟨rfl, rfl⟩ | ⟨i, hi, rfl, rfl⟩
  · exact is_ok w
  · exact is_err w a i hi _ rfl he
end Go.Proofs.YtjacenhblclkaaaDoor

/- What the methods of a disk's sector, and bytes.Clone, do to memory, at every sector and every list of bytes. -/
namespace Go.Proofs.YtjacenhblclkaaaDoor
open Go.RowKit
set_option linter.unusedVariables false

theorem Tryd.info44 : (Tryd.prog.info? 44).map (fun i => (i.zero, i.size, i.bytes)) = some (some (.slice none 0 0), 1, 24) := by kernel_rfl

set_option maxRecDepth 100000 in
set_option maxHeartbeats 400000 in
theorem loose_any (b o : Nat) (ao : Option Addr) (n cap : Nat) (w : World) (hc : w.cell? ⟨b, o, none⟩ = some (.slice ao n cap)) (hn : n ≤ 4294967296) :
    Calls Tryd.prog 48 #[.pointer (some ⟨b, o, none⟩)] w fun e w' => e = .returned (.int .i64 ((n : Int) - 1)) ∧ w' = w := by
  go_enter Tryd.func48, Tryd.ntmps48
  go_wp2_with fail
  go_ret
  exact ⟨rfl, rfl⟩

set_option maxRecDepth 100000 in
set_option maxHeartbeats 400000 in
theorem last_any (b o g off : Nat) (n cap : Nat) (v : Value) (w : World) (hc : w.cell? ⟨b, o, none⟩ = some (.slice (some ⟨g, off, none⟩) (n + 1) cap)) (hn : n + 1 ≤ 4294967296) (hv : w.cell? ⟨g, off + n, none⟩ = some v) :
    Calls Tryd.prog 42 #[.pointer (some ⟨b, o, none⟩)] w fun e w' => e = .returned v ∧ ∃ m, w' = w.drewN m := by
  go_enter Tryd.func42, Tryd.ntmps42
  go_wp2_with fail
  have h1 : (0 : Int) ≤ ((n + 1 : Nat) : Int) - 1 := by omega
  have h2 : ((n + 1 : Nat) : Int) - 1 < ((n + 1 : Nat) : Int) := by omega
  have h3 : (((n + 1 : Nat) : Int) - 1).toNat = n := by omega
  go_quiet ((go_at_call 48; exact Calls.quiet_of_same (loose_any _ _ _ _ _ _ (by assumption) (by omega))))
  go_wp2_with fail
  go_ret
  exact ⟨rfl, _, rfl⟩

set_option maxRecDepth 100000 in
set_option maxHeartbeats 400000 in
theorem keep_any (b o g off : Nat) (n cap k : Nat) (xo : Option Addr) (xl xc : Nat) (w : World) (hc : w.cell? ⟨b, o, none⟩ = some (.slice (some ⟨g, off, none⟩) n cap)) (hf : w.frozen? ⟨b, o, none⟩ = false) (hn : n ≤ 4294967296) (hk : k < n) (hv : w.cell? ⟨g, off + k, none⟩ = some (.slice xo xl xc)) :
    Calls Tryd.prog 78 #[.pointer (some ⟨b, o, none⟩), .int .i64 k] w fun e w' => e = .returned (.tuple #[]) ∧ w' = (w.setCell ⟨b, o, none⟩ (.slice (some ⟨w.heap.size, 0, none⟩) 1 1)).alloc (.cells #[.slice xo xl xc] 44) := by
  have hb := World.block_lt_of_cell? w _ hc
  simp only at hb
  have h1 : (k : Int) < (n : Int) := by omega
  go_enter Tryd.func78, Tryd.ntmps78
  go_wp2_with fail
  go_end0
  exact ⟨rfl, rfl⟩

set_option maxRecDepth 100000 in
set_option maxHeartbeats 400000 in
theorem clone_any (ao : Option Addr) (cap : Nat) (xs : List Int) (w : World) (h : Row w ao xs) (hp : 0 < xs.length) :
    Calls Tryd.prog 41 #[.slice ao xs.length cap] w fun e w' => ∃ g c, e = .returned (.slice (some ⟨g, 0, none⟩) xs.length c) ∧ w.heap.size ≤ g ∧ Own w' w.heap.size (some ⟨g, 0, none⟩) c xs ∧ Below w.heap.size w w' := by
  obtain ⟨i0, hi, hz0, hz1, hz2⟩ := info_parts Tryd.info5
  have HR := hide h
  obtain ⟨h0, h1, h2⟩ := h
  obtain ⟨b, off, rfl, hb, hc⟩ := h2 hp
  have HC := hide hc
  clear hc h2
  have hE := fun w' => Lib.run_eql_slice_nil (P := Tryd.prog) w' 44 5 (some ⟨b, off, none⟩) xs.length cap 0 0 Tryd.underlying44
  have hsrc : ∀ j u, (cellsOf xs)[j]? = some u → (w.alloc (.cells #[] 5)).cell? ((⟨b, off, none⟩ : Addr).add j) = some u := by
    intro j u hj
    obtain ⟨hlt, rfl⟩ := cellsOf_at hj
    rw [Addr.add_lit, ((Below.refl w.heap.size w).alloc (Nat.le_refl _) _).cell (by exact hb)]
    exact HC.out j hlt
  have HS := hide hsrc
  clear hsrc
  have hown : (w.alloc (.cells #[] 5)).ownsRow w.heap.size 5 1 (.slice (some ⟨w.heap.size, 0, none⟩) 0 0) 0 [] := World.ownsRow_made w #[] 0 (Nat.le_refl _) (by decide) (by simp)
  have HW := hide hown
  clear hown
  go_enter Tryd.func41, Tryd.ntmps41
  go_wp2_with (at_builtin; refine wpList_append_own_at _ rfl (.tmp 5) (.tmp 6) 44 rfl w.heap.size 5 i0 (.int .u8 0) 1 1 Tryd.underlying44 hi hz0 hz1 hz2 rfl (by decide) _ 0 [] rfl HW.out ⟨b, off, none⟩ xs.length cap (cellsOf xs) rfl (by rw [length_cellsOf, Nat.mul_one]) HS.out (oneCell_cellsOf xs) (by unfold maxLen; omega) (by omega) (by simp) ?_; intro v' w2 hown2 hgr2 _ _; have HO2 := hide hown2; have HG2 := hide hgr2; clear hown2 hgr2)
  go_ret
  have h3 := HO2.out
  rw [Nat.zero_add, List.nil_append] at h3
  obtain ⟨ao', c', rfl⟩ := own_shape h3
  have h4 : Own w2 w.heap.size ao' c' xs := ⟨h3, h1, h0⟩
  rcases h3.2 with ⟨e, h5⟩ | ⟨g, c, cur, hv, hg, _⟩
  · omega
  · simp only [Value.slice.injEq, true_and] at hv
    obtain ⟨rfl, rfl⟩ := hv
    exact ⟨g, _, rfl, hg, h4, ((Below.refl _ _).alloc (Nat.le_refl _) _).grown HG2.out (by simp) (fun j e => by cases e; exact Nat.le_refl _)⟩

theorem grown_alloc_at {w w2 : World} {x : Obj} {r : Option Nat} (h : (w.alloc x).grownBy w2 r) {b : Nat} (hb : b < w.heap.size) (hne : r ≠ some b) : w2.heap[b]? = w.heap[b]? :=
  (h.block b (Nat.lt_of_lt_of_le hb (by simp)) (fun e => hne e.symm)).trans (Below.heap_alloc _ _ _ hb)
set_option maxRecDepth 100000 in
set_option maxHeartbeats 400000 in
theorem add_any (b o : Nat) (v : Value) (n : Nat) (xs : List Value) (xo : Option Addr) (xl xc : Nat) (B : Nat) (w : World) (hc : w.cell? ⟨b, o, none⟩ = some v) (hf : w.frozen? ⟨b, o, none⟩ = false) (hn : n + 1 ≤ 4294967296) (ho : w.ownsRow B 44 1 v n xs) (hB : B ≤ w.heap.size) (hne : v.ownBlock ≠ some b) :
    Calls Tryd.prog 30 #[.pointer (some ⟨b, o, none⟩), .slice xo xl xc] w fun e w' => e = .returned (.tuple #[]) ∧ ∃ w1 v', w' = w1.setCell ⟨b, o, none⟩ v' ∧ w1.ownsRow B 44 1 v' (n + 1) (xs ++ [.slice xo xl xc]) ∧ w.grownBy w1 v.ownBlock ∧ (v'.ownBlock = v.ownBlock ∨ ∃ g, v'.ownBlock = some g ∧ w.heap.size ≤ g) := by
  obtain ⟨i0, hi, hz0, hz1, hz2⟩ := info_parts Tryd.info44
  obtain ⟨ao, cap, rfl⟩ := own_shape ho
  have HO := hide ho
  clear ho
  have hb := World.block_lt_of_cell? w _ hc
  simp only at hb
  go_enter Tryd.func30, Tryd.ntmps30
  go_wp2_with (at_builtin; refine wpList_append_own_at _ rfl (.tmp 8) (.tmp 10) 74 rfl B 44 i0 (.slice none 0 0) 1 24 Tryd.underlying74 hi hz0 hz1 hz2 rfl (by decide) (.slice ao n cap) n xs rfl (HO.out.alloc _) ⟨w.heap.size, 0, none⟩ 1 1 [.slice xo xl xc] rfl rfl (cell_one_new _ _ _) (by simp [Value.oneCell']) (by unfold maxLen; omega) (by omega) (by simp; omega) ?_; intro v' w2 hown2 hgr2 _ hat2; obtain ⟨ao', c', rfl⟩ := own_shape hown2; have hc2 : w2.cell? ⟨b, o, none⟩ = some (.slice ao n cap) := (World.cell?_of_block (w := w) (grown_alloc_at hgr2 hb hne)).trans hc; have hf2 : w2.frozen? ⟨b, o, none⟩ = false := (World.frozen?_of_block (w := w) (grown_alloc_at hgr2 hb hne)).trans hf; have HO2 := hide hown2; have HG2 := hide hgr2; have HA2 := hide hat2; clear hown2 hgr2 hat2)
  go_end0
  refine ⟨rfl, w2, _, rfl, HO2.out, ?_, ?_⟩
  · exact ⟨HG2.out.os, HG2.out.tape, HG2.out.output, by have := HG2.out.size; simp at this; omega, fun k hk e => (HG2.out.block k (by simp; omega) e).trans (Below.heap_alloc _ _ _ hk)⟩
  · rcases HA2.out with h | h
    · exact .inl h
    · exact .inr ⟨_, h, by simp⟩
end Go.Proofs.YtjacenhblclkaaaDoor

/- What a disk is in memory: its sectors, each with its versions, and what stays of it while other memory turns. -/
namespace Go.Proofs.YtjacenhblclkaaaDoor
open Go.RowKit
set_option linter.unusedVariables false

/-- Of the blocks that K names nothing has turned; no block has gone. -/
structure Kept (K : Nat → Prop) (w w' : World) : Prop where
  os : w'.os = w.os
  tape : w'.tape = w.tape
  output : w'.output = w.output
  size : w.heap.size ≤ w'.heap.size
  block : ∀ k, K k → w'.heap[k]? = w.heap[k]?
theorem Kept.refl (K : Nat → Prop) (w : World) : Kept K w w := ⟨rfl, rfl, rfl, Nat.le_refl _, fun _ _ => rfl⟩
theorem Kept.trans {K : Nat → Prop} {a b c : World} (h : Kept K a b) (k : Kept K b c) : Kept K a c :=
  ⟨k.os.trans h.os, k.tape.trans h.tape, k.output.trans h.output, Nat.le_trans h.size k.size, fun i hi => (k.block i hi).trans (h.block i hi)⟩
theorem Kept.mono {K L : Nat → Prop} {w w' : World} (h : Kept K w w') (hL : ∀ k, L k → K k) : Kept L w w' := ⟨h.os, h.tape, h.output, h.size, fun k hk => h.block k (hL k hk)⟩
theorem Kept.of_below {K : Nat → Prop} {B : Nat} {w w' : World} (h : Below B w w') (hK : ∀ k, K k → k < B) : Kept K w w' := ⟨h.os, h.tape, h.output, h.size, fun k hk => h.block k (hK k hk)⟩
theorem Kept.below {K : Nat → Prop} {B : Nat} {w w' : World} (h : Kept K w w') (hK : ∀ k, k < B → K k) : Below B w w' := ⟨h.os, h.tape, h.output, h.size, fun k hk => h.block k (hK k hk)⟩
theorem Kept.cell {K : Nat → Prop} {w w' : World} (h : Kept K w w') {p : Addr} (hp : K p.block) : w'.cell? p = w.cell? p := World.cell?_of_block (w := w) (h.block p.block hp)
theorem Kept.frozen {K : Nat → Prop} {w w' : World} (h : Kept K w w') {p : Addr} (hp : K p.block) : w'.frozen? p = w.frozen? p := World.frozen?_of_block (w := w) (h.block p.block hp)
theorem Kept.drewN {K : Nat → Prop} {w w' : World} (h : Kept K w w') (n : Nat) : Kept K w (w'.drewN n) := h.trans ⟨rfl, rfl, rfl, Nat.le_refl _, fun _ _ => rfl⟩
theorem Kept.over {K : Nat → Prop} {w w1 w2 : World} (h : Kept K w w1) (hK : ∀ k, K k → k < w1.heap.size) (hb : Below w1.heap.size w1 w2) : Kept K w w2 := h.trans (Kept.of_below hb hK)

/-- A row that is owned stays owned where its block stays. -/
theorem owns_of_block {w w' : World} {B e sz n : Nat} {v : Value} {xs : List Value} (h : w.ownsRow B e sz v n xs) (hb : ∀ g, v.ownBlock = some g → g < w.heap.size → w'.heap[g]? = w.heap[g]?) : w'.ownsRow B e sz v n xs := by
  refine ⟨h.1, ?_⟩
  rcases h.2 with h | ⟨g, cap, cur, rfl, hg, hh, r⟩
  · exact .inl h
  · exact .inr ⟨g, cap, cur, rfl, hg, by rw [hb g rfl (lt_of_block hh)]; exact hh, r⟩
/-- The block of a row that is owned holds its kind of cells. -/
theorem owns_type {w : World} {B e sz n : Nat} {v : Value} {xs : List Value} (h : w.ownsRow B e sz v n xs) {g : Nat} (hg : v.ownBlock = some g) : ∃ cur, w.heap[g]? = some (.cells cur e (0, 0)) := by
  rcases h.2 with ⟨rfl, _⟩ | ⟨g', cap, cur, rfl, _, hh, _⟩
  · simp [Value.ownBlock] at hg
  · simp only [Value.ownBlock, Option.some.injEq] at hg
    subst hg
    exact ⟨cur, hh⟩
theorem Own.of_block {w w' : World} {B : Nat} {ao : Option Addr} {cap : Nat} {xs : List Int} (h : Own w B ao cap xs) (hb : ∀ g, (Value.slice ao xs.length cap).ownBlock = some g → g < w.heap.size → w'.heap[g]? = w.heap[g]?) : Own w' B ao cap xs := ⟨owns_of_block h.1 hb, h.2⟩

/-- A sector: the value that holds its versions, and what they are. -/
structure Sec where
  v : Value
  vs : List Part
def Sec.isIn (w : World) (K : Nat → Prop) (s : Sec) : Prop :=
  w.ownsRow 0 44 1 s.v s.vs.length (s.vs.map Part.val) ∧ 1 ≤ s.vs.length ∧ s.vs.length ≤ 4294967296 ∧ (∀ g, s.v.ownBlock = some g → ¬ K g) ∧
  ∀ p ∈ s.vs, Own w 0 p.ao p.cap p.xs ∧ p.xs.length = 256 ∧ ∀ g, p.val.ownBlock = some g → ¬ K g
/-- The three errors that a disk answers. -/
def Errs (w : World) (K : Nat → Prop) (a : Nat → Addr) : Prop := ∀ i, i < 3 → K (gno i) ∧ w.cell? ⟨gno i, 0, none⟩ = some (errV (a i))
structure DiskOf (w : World) (K : Nat → Prop) (a : Nat → Addr) (d s : Nat) (ss : List Sec) (off : Bool) (fuse : Int) : Prop where
  head : w.heap[d]? = some (.cells #[.slice (some ⟨s, 0, none⟩) ss.length ss.length, .bool off, .int .i64 fuse] 73 (0, 0))
  secs : w.heap[s]? = some (.cells (ss.map Sec.v).toArray 76 (0, 0))
  each : ∀ x ∈ ss, x.isIn w K
  apart : ∀ (i j : Nat) (x y : Sec), ss[i]? = some x → ss[j]? = some y → i ≠ j → x.v.ownBlock ≠ y.v.ownBlock
  nd : ¬ K d
  ns : ¬ K s
  low : ∀ k, K k → k < w.heap.size
  many : 1 ≤ ss.length ∧ ss.length ≤ 200
  fuseBd : -1 ≤ fuse ∧ fuse ≤ 9223372036854775807
  errs : Errs w K a
/-- The versions of each sector, as bytes. -/
def vers (ss : List Sec) : List (List (List Int)) := ss.map fun x => x.vs.map (·.xs)
/-- A disk: its sectors' versions (the fast one first), whether power is off, its fuse. -/
def Disk (w : World) (K : Nat → Prop) (a : Nat → Addr) (d : Nat) (vss : List (List (List Int))) (off : Bool) (fuse : Int) : Prop :=
  ∃ s ss, DiskOf w K a d s ss off fuse ∧ vers ss = vss
theorem length_vers (ss : List Sec) : (vers ss).length = ss.length := by simp [vers]
theorem Disk.errs {w : World} {K : Nat → Prop} {a : Nat → Addr} {d : Nat} {vss : List (List (List Int))} {off : Bool} {fuse : Int} (h : Disk w K a d vss off fuse) : Errs w K a := by obtain ⟨s, ss, h, _⟩ := h; exact h.errs
theorem Disk.low {w : World} {K : Nat → Prop} {a : Nat → Addr} {d : Nat} {vss : List (List (List Int))} {off : Bool} {fuse : Int} (h : Disk w K a d vss off fuse) : ∀ k, K k → k < w.heap.size := by obtain ⟨s, ss, h, _⟩ := h; exact h.low
theorem Disk.many {w : World} {K : Nat → Prop} {a : Nat → Addr} {d : Nat} {vss : List (List (List Int))} {off : Bool} {fuse : Int} (h : Disk w K a d vss off fuse) : 1 ≤ vss.length ∧ vss.length ≤ 200 := by obtain ⟨s, ss, h, rfl⟩ := h; rw [length_vers]; exact h.many

theorem DiskOf.ne {w : World} {K : Nat → Prop} {a : Nat → Addr} {d s : Nat} {ss : List Sec} {off : Bool} {fuse : Int} (h : DiskOf w K a d s ss off fuse) : d ≠ s := by
  intro e
  have h1 := h.head
  rw [e, h.secs] at h1
  simp at h1
theorem DiskOf.ne_ver {w : World} {K : Nat → Prop} {a : Nat → Addr} {d s : Nat} {ss : List Sec} {off : Bool} {fuse : Int} (h : DiskOf w K a d s ss off fuse) {x : Sec} (hx : x ∈ ss) {g : Nat} (hg : x.v.ownBlock = some g) : g ≠ d ∧ g ≠ s := by
  obtain ⟨cur, hc⟩ := owns_type (h.each x hx).1 hg
  constructor
  · rintro rfl; rw [h.head] at hc; simp at hc
  · rintro rfl; rw [h.secs] at hc; simp at hc
theorem DiskOf.ne_part {w : World} {K : Nat → Prop} {a : Nat → Addr} {d s : Nat} {ss : List Sec} {off : Bool} {fuse : Int} (h : DiskOf w K a d s ss off fuse) {x : Sec} (hx : x ∈ ss) {p : Part} (hp : p ∈ x.vs) {g : Nat} (hg : p.val.ownBlock = some g) : g ≠ d ∧ g ≠ s ∧ ∀ y ∈ ss, y.v.ownBlock ≠ some g := by
  obtain ⟨cur, hc⟩ := owns_type ((h.each x hx).2.2.2.2 p hp).1.1 hg
  refine ⟨?_, ?_, fun y hy e => ?_⟩
  · rintro rfl; rw [h.head] at hc; simp at hc
  · rintro rfl; rw [h.secs] at hc; simp at hc
  · obtain ⟨cur', hc'⟩ := owns_type (h.each y hy).1 e
    rw [hc] at hc'
    simp at hc'

/-- One sector turns: what is in the disk's other blocks, and all that K names, stays. -/
theorem DiskOf.step {w w' : World} {K : Nat → Prop} {a : Nat → Addr} {d s : Nat} {ss : List Sec} {off : Bool} {fuse : Int} (h : DiskOf w K a d s ss off fuse) (i : Nat) (x x' : Sec) (hx : ss[i]? = some x)
    (hos : w'.os = w.os) (htape : w'.tape = w.tape) (hout : w'.output = w.output) (hsize : w.heap.size ≤ w'.heap.size)
    (hold : ∀ k, k < w.heap.size → k ≠ s → some k ≠ x.v.ownBlock → w'.heap[k]? = w.heap[k]?)
    (hsec : w'.heap[s]? = some (.cells ((ss.set i x').map Sec.v).toArray 76 (0, 0))) (hin : x'.isIn w' K)
    (hat : x'.v.ownBlock = x.v.ownBlock ∨ ∃ g, x'.v.ownBlock = some g ∧ w.heap.size ≤ g) :
    DiskOf w' K a d s (ss.set i x') off fuse ∧ Kept K w w' := by
  have hxm : x ∈ ss := List.mem_of_getElem? hx
  have hil : i < ss.length := (List.getElem?_eq_some_iff.1 hx).1
  have hkept : Kept K w w' := ⟨hos, htape, hout, hsize, fun k hk => hold k (h.low k hk) (fun e => h.ns (e ▸ hk)) (fun e => (h.each x hxm).2.2.2.1 k e.symm hk)⟩
  have hother : ∀ j y, ss[j]? = some y → j ≠ i → y.isIn w' K := by
    intro j y hy hj
    have hym := List.mem_of_getElem? hy
    obtain ⟨h1, h2, h3, h4, h5⟩ := h.each y hym
    refine ⟨owns_of_block h1 fun g hg hlt => hold g hlt (h.ne_ver hym hg).2 (fun e => h.apart j i y x hy hx hj (by rw [hg, e])), h2, h3, h4, fun p hp => ?_⟩
    obtain ⟨p1, p2, p3⟩ := h5 p hp
    exact ⟨p1.of_block fun g hg hlt => hold g hlt (h.ne_part hym hp hg).2.1 (fun e => (h.ne_part hym hp hg).2.2 x hxm e.symm), p2, p3⟩
  refine ⟨⟨?_, hsec, ?_, ?_, h.nd, h.ns, fun k hk => Nat.lt_of_lt_of_le (h.low k hk) hsize, by simpa using h.many, h.fuseBd, fun j hj => ⟨(h.errs j hj).1, by rw [hkept.cell (by exact (h.errs j hj).1)]; exact (h.errs j hj).2⟩⟩, hkept⟩
  · rw [hold d (lt_of_block h.head) h.ne (fun e => (h.ne_ver hxm e.symm).1 rfl), List.length_set]
    exact h.head
  · intro y hy
    obtain ⟨j, hj⟩ := List.getElem?_of_mem hy
    rw [List.getElem?_set] at hj
    by_cases e1 : i = j
    · rw [if_pos e1, if_pos hil] at hj
      simp only [Option.some.injEq] at hj
      rw [← hj]
      exact hin
    · rw [if_neg e1] at hj
      exact hother j y hj (by omega)
  · have hnew : ∀ j y, ss[j]? = some y → j ≠ i → x'.v.ownBlock ≠ y.v.ownBlock := by
      intro j y hy hj e
      rcases hat with h1 | ⟨g, h1, h2⟩
      · exact h.apart j i y x hy hx hj (e.symm.trans h1)
      · obtain ⟨cur, hc⟩ := owns_type (h.each y (List.mem_of_getElem? hy)).1 (e.symm.trans h1)
        have := lt_of_block hc
        omega
    intro j k y z hy hz hjk
    rw [List.getElem?_set] at hy hz
    by_cases e1 : i = j
    · rw [if_pos e1, if_pos hil] at hy
      rw [if_neg (by omega)] at hz
      simp only [Option.some.injEq] at hy
      rw [← hy]
      exact hnew k z hz (by omega)
    · rw [if_neg e1] at hy
      by_cases e2 : i = k
      · rw [if_pos e2, if_pos hil] at hz
        simp only [Option.some.injEq] at hz
        rw [← hz]
        exact fun e => hnew j y hy (by omega) e.symm
      · rw [if_neg e2] at hz
        exact h.apart j k y z hy hz hjk

/-- While nothing that is there turns, a disk stays, whatever new blocks K names besides. -/
theorem DiskOf.more {w w' : World} {K L : Nat → Prop} {a : Nat → Addr} {d s : Nat} {ss : List Sec} {off : Bool} {fuse : Int} (h : DiskOf w K a d s ss off fuse) (hb : Below w.heap.size w w') (hL : ∀ k, L k → k < w'.heap.size ∧ (k < w.heap.size → K k)) (hg : ∀ k, k < 3 → L (gno k)) : DiskOf w' L a d s ss off fuse := by
  have hn : ∀ g, g < w.heap.size → ¬ K g → ¬ L g := fun g h1 h2 h3 => h2 ((hL g h3).2 h1)
  have hd := lt_of_block h.head
  have hs := lt_of_block h.secs
  refine ⟨?_, ?_, fun x hx => ?_, h.apart, hn d hd h.nd, hn s hs h.ns, fun k hk => (hL k hk).1, h.many, h.fuseBd, fun j hj => ⟨hg j hj, ?_⟩⟩
  · rw [hb.block d hd]; exact h.head
  · rw [hb.block s hs]; exact h.secs
  · obtain ⟨h1, h2, h3, h4, h5⟩ := h.each x hx
    refine ⟨owns_of_block h1 fun g _ hlt => hb.block g hlt, h2, h3, fun g hg => ?_, fun p hp => ?_⟩
    · exact hn g (h1.lt g hg).2 (h4 g hg)
    · obtain ⟨p1, p2, p3⟩ := h5 p hp
      exact ⟨p1.of_block fun g _ hlt => hb.block g hlt, p2, fun g hg => hn g (p1.1.lt g hg).2 (p3 g hg)⟩
  · rw [hb.cell (h.low _ (h.errs j hj).1)]; exact (h.errs j hj).2
theorem Disk.more {w w' : World} {K L : Nat → Prop} {a : Nat → Addr} {d : Nat} {vss : List (List (List Int))} {off : Bool} {fuse : Int} (h : Disk w K a d vss off fuse) (hb : Below w.heap.size w w') (hL : ∀ k, L k → k < w'.heap.size ∧ (k < w.heap.size → K k)) (hg : ∀ k, k < 3 → L (gno k)) : Disk w' L a d vss off fuse := by
  obtain ⟨s, ss, h, e⟩ := h
  exact ⟨s, ss, h.more hb hL hg, e⟩
theorem Disk.below {w w' : World} {K : Nat → Prop} {a : Nat → Addr} {d : Nat} {vss : List (List (List Int))} {off : Bool} {fuse : Int} (h : Disk w K a d vss off fuse) (hb : Below w.heap.size w w') : Disk w' K a d vss off fuse :=
  h.more hb (fun k hk => ⟨Nat.lt_of_lt_of_le (h.low k hk) hb.size, fun _ => hk⟩) (fun k hk => (h.errs k hk).1)
theorem Disk.drewN {w : World} {K : Nat → Prop} {a : Nat → Addr} {d : Nat} {vss : List (List (List Int))} {off : Bool} {fuse : Int} (h : Disk w K a d vss off fuse) (n : Nat) : Disk (w.drewN n) K a d vss off fuse := by
  obtain ⟨s, ss, h, e⟩ := h
  exact ⟨s, ss, ⟨h.head, h.secs, h.each, h.apart, h.nd, h.ns, h.low, h.many, h.fuseBd, h.errs⟩, e⟩

/-- Power, and the fuse, turn; nothing else does. -/
theorem DiskOf.power {w w' : World} {K : Nat → Prop} {a : Nat → Addr} {d s : Nat} {ss : List Sec} {off off' : Bool} {fuse fuse' : Int} (h : DiskOf w K a d s ss off fuse)
    (hos : w'.os = w.os) (htape : w'.tape = w.tape) (hout : w'.output = w.output) (hsize : w'.heap.size = w.heap.size) (hold : ∀ k, k ≠ d → w'.heap[k]? = w.heap[k]?)
    (hhead : w'.heap[d]? = some (.cells #[.slice (some ⟨s, 0, none⟩) ss.length ss.length, .bool off', .int .i64 fuse'] 73 (0, 0))) (hf : -1 ≤ fuse' ∧ fuse' ≤ 9223372036854775807) :
    DiskOf w' K a d s ss off' fuse' ∧ Kept K w w' := by
  have hkept : Kept K w w' := ⟨hos, htape, hout, by omega, fun k hk => hold k (fun e => h.nd (e ▸ hk))⟩
  refine ⟨⟨hhead, ?_, fun x hx => ?_, h.apart, h.nd, h.ns, by rw [hsize]; exact h.low, h.many, hf, fun j hj => ⟨(h.errs j hj).1, by rw [hkept.cell (by exact (h.errs j hj).1)]; exact (h.errs j hj).2⟩⟩, hkept⟩
  · rw [hold s (fun e => h.ne e.symm)]; exact h.secs
  · obtain ⟨h1, h2, h3, h4, h5⟩ := h.each x hx
    refine ⟨owns_of_block h1 fun g hg _ => hold g (h.ne_ver hx hg).1, h2, h3, h4, fun p hp => ?_⟩
    obtain ⟨p1, p2, p3⟩ := h5 p hp
    exact ⟨p1.of_block fun g hg _ => hold g (h.ne_part hx hp hg).1, p2, p3⟩
end Go.Proofs.YtjacenhblclkaaaDoor

/- What a disk's small methods answer: Size, Off, Fuse, has, spend, powerOn, at every disk. -/
namespace Go.Proofs.YtjacenhblclkaaaDoor
open Go.RowKit
set_option linter.unusedVariables false

theorem heap_set_same {w : World} {d : Nat} {c : Array Value} {e : TypeId} (h : w.heap[d]? = some (.cells c e (0, 0))) (o : Nat) (v : Value) : (w.setCell ⟨d, o, none⟩ v).heap[d]? = some (.cells (c.setIfInBounds o v) e (0, 0)) := by
  simp [World.setCell, Array.getElem?_modify, h]
theorem frozen_row {w : World} {d : Nat} {c : Array Value} {e : TypeId} (h : w.heap[d]? = some (.cells c e (0, 0))) (o : Nat) : w.frozen? ⟨d, o, none⟩ = false := by
  simp [World.frozen?, h]
theorem DiskOf.c0 {w : World} {K : Nat → Prop} {a : Nat → Addr} {d s : Nat} {ss : List Sec} {off : Bool} {fuse : Int} (h : DiskOf w K a d s ss off fuse) : w.cell? ⟨d, 0, none⟩ = some (.slice (some ⟨s, 0, none⟩) ss.length ss.length) := by rw [cell_row h.head]; rfl
theorem DiskOf.c1 {w : World} {K : Nat → Prop} {a : Nat → Addr} {d s : Nat} {ss : List Sec} {off : Bool} {fuse : Int} (h : DiskOf w K a d s ss off fuse) : w.cell? ⟨d, 1, none⟩ = some (.bool off) := by rw [cell_row h.head]; rfl
theorem DiskOf.c2 {w : World} {K : Nat → Prop} {a : Nat → Addr} {d s : Nat} {ss : List Sec} {off : Bool} {fuse : Int} (h : DiskOf w K a d s ss off fuse) : w.cell? ⟨d, 2, none⟩ = some (.int .i64 fuse) := by rw [cell_row h.head]; rfl
theorem DiskOf.fz {w : World} {K : Nat → Prop} {a : Nat → Addr} {d s : Nat} {ss : List Sec} {off : Bool} {fuse : Int} (h : DiskOf w K a d s ss off fuse) (o : Nat) : w.frozen? ⟨d, o, none⟩ = false := frozen_row h.head o
theorem DiskOf.cs {w : World} {K : Nat → Prop} {a : Nat → Addr} {d s : Nat} {ss : List Sec} {off : Bool} {fuse : Int} (h : DiskOf w K a d s ss off fuse) {i : Nat} {x : Sec} (hx : ss[i]? = some x) : w.cell? ⟨s, i, none⟩ = some x.v := by rw [cell_row h.secs]; simp [hx]
theorem DiskOf.fs {w : World} {K : Nat → Prop} {a : Nat → Addr} {d s : Nat} {ss : List Sec} {off : Bool} {fuse : Int} (h : DiskOf w K a d s ss off fuse) (o : Nat) : w.frozen? ⟨s, o, none⟩ = false := frozen_row h.secs o
theorem DiskOf.e {w : World} {K : Nat → Prop} {a : Nat → Addr} {d s : Nat} {ss : List Sec} {off : Bool} {fuse : Int} (h : DiskOf w K a d s ss off fuse) (i : Nat) (hi : i < 3) : w.cell? ⟨gno i, 0, none⟩ = some (.iface 168 (.pointer (some (a i)))) := (h.errs i hi).2
theorem DiskOf.e0 {w : World} {K : Nat → Prop} {a : Nat → Addr} {d s : Nat} {ss : List Sec} {off : Bool} {fuse : Int} (h : DiskOf w K a d s ss off fuse) : w.cell? ⟨2, 0, none⟩ = some (.iface 168 (.pointer (some (a 0)))) := h.e 0 (show 0 < 3 by omega)
theorem DiskOf.e1 {w : World} {K : Nat → Prop} {a : Nat → Addr} {d s : Nat} {ss : List Sec} {off : Bool} {fuse : Int} (h : DiskOf w K a d s ss off fuse) : w.cell? ⟨0, 0, none⟩ = some (.iface 168 (.pointer (some (a 1)))) := h.e 1 (show 1 < 3 by omega)
theorem DiskOf.e2 {w : World} {K : Nat → Prop} {a : Nat → Addr} {d s : Nat} {ss : List Sec} {off : Bool} {fuse : Int} (h : DiskOf w K a d s ss off fuse) : w.cell? ⟨3, 0, none⟩ = some (.iface 168 (.pointer (some (a 2)))) := h.e 2 (show 2 < 3 by omega)

/-- Is there a sector i? -/
def hasSec (n : Nat) (i : Int) : Bool := decide (0 ≤ i ∧ i < n)
set_option maxRecDepth 100000 in
set_option maxHeartbeats 400000 in
theorem hasSec_any (d s n : Nat) (i : Int) (w : World) (h0 : w.cell? ⟨d, 0, none⟩ = some (.slice (some ⟨s, 0, none⟩) n n)) :
    Calls Tryd.prog 40 #[.pointer (some ⟨d, 0, none⟩), .int .i64 i] w fun e w' => e = .returned (.bool (hasSec n i)) ∧ w' = w := by
  by_cases h1 : 0 ≤ i
  · go_enter Tryd.func40, Tryd.ntmps40
    go_wp2_with fail
    go_ret
    exact ⟨ret_bool (by simp [hasSec, h1]), rfl⟩
  · have h2 : decide (0 ≤ i) = false := by simpa using h1
    go_enter Tryd.func40, Tryd.ntmps40
    go_wp2_with fail
    go_ret
    exact ⟨ret_bool (by simp [hasSec]; omega), rfl⟩

theorem DiskOf.set1 {w : World} {K : Nat → Prop} {a : Nat → Addr} {d s : Nat} {ss : List Sec} {off : Bool} {fuse : Int} (h : DiskOf w K a d s ss off fuse) (off' : Bool) : DiskOf (w.setCell ⟨d, 1, none⟩ (.bool off')) K a d s ss off' fuse ∧ Kept K w (w.setCell ⟨d, 1, none⟩ (.bool off')) :=
  h.power rfl rfl rfl (by simp [World.setCell]) (fun k hk => Below.heap_setCell _ _ _ _ hk) (heap_set_same h.head 1 _) h.fuseBd
theorem DiskOf.set2 {w : World} {K : Nat → Prop} {a : Nat → Addr} {d s : Nat} {ss : List Sec} {off : Bool} {fuse : Int} (h : DiskOf w K a d s ss off fuse) (fuse' : Int) (hf : -1 ≤ fuse' ∧ fuse' ≤ 9223372036854775807) : DiskOf (w.setCell ⟨d, 2, none⟩ (.int .i64 fuse')) K a d s ss off fuse' ∧ Kept K w (w.setCell ⟨d, 2, none⟩ (.int .i64 fuse')) :=
  h.power rfl rfl rfl (by simp [World.setCell]) (fun k hk => Below.heap_setCell _ _ _ _ hk) (heap_set_same h.head 2 _) hf

/-- What a fuse is behind one more that goes through. -/
def burnt (fuse : Int) : Int := if 0 < fuse then fuse - 1 else fuse
set_option maxRecDepth 100000 in
set_option maxHeartbeats 400000 in
theorem spend_ok (d s : Nat) (ss : List Sec) {w : World} {K : Nat → Prop} {a : Nat → Addr} {off : Bool} {fuse : Int} (h : DiskOf w K a d s ss off fuse) (hf : fuse ≠ 0) :
    Calls Tryd.prog 50 #[.pointer (some ⟨d, 0, none⟩)] w fun e w' => e = .returned .nilIface ∧ DiskOf w' K a d s ss off (burnt fuse) ∧ Kept K w w' := by
  have h0 := h.c2
  have h1 := h.fz 2
  have hb := h.fuseBd
  have H := hide h
  clear h
  have hz : (fuse == 0) = false := by simp [hf]
  unfold burnt
  by_cases hp : 0 < fuse
  · rw [if_pos hp]
    go_enter Tryd.func50, Tryd.ntmps50
    go_wp2_with fail
    go_ret
    have h4 := H.out.set2 (fuse - 1) (by omega)
    exact ⟨rfl, h4.1, h4.2⟩
  · rw [if_neg hp]
    have hd : decide (0 < fuse) = false := by simpa using hp
    go_enter Tryd.func50, Tryd.ntmps50
    go_wp2_with fail
    go_ret
    exact ⟨rfl, H.out, Kept.refl _ _⟩
set_option maxRecDepth 100000 in
set_option maxHeartbeats 400000 in
theorem spend_burn (d s : Nat) (ss : List Sec) {w : World} {K : Nat → Prop} {a : Nat → Addr} {off : Bool} (h : DiskOf w K a d s ss off 0) :
    Calls Tryd.prog 50 #[.pointer (some ⟨d, 0, none⟩)] w fun e w' => e = .returned (errV (a 0)) ∧ DiskOf w' K a d s ss true 0 ∧ Kept K w w' := by
  have h0 := h.c2
  have h1 := h.c1
  have h2 := h.fz 1
  have h4 := h.set1 true
  have he := h4.1.e0
  have H4 := hide h4
  clear h h4
  go_enter Tryd.func50, Tryd.ntmps50
  go_wp2_with fail
  go_ret
  exact ⟨rfl, H4.out.1, H4.out.2⟩
end Go.Proofs.YtjacenhblclkaaaDoor

/- What a disk's Read and Write answer, at every disk. -/
namespace Go.Proofs.YtjacenhblclkaaaDoor
open Go.RowKit
set_option linter.unusedVariables false

/-- The last of a sector's versions. -/
def lastV (vs : List (List Int)) : List Int := vs.getD (vs.length - 1) []
theorem DiskOf.sec {w : World} {K : Nat → Prop} {a : Nat → Addr} {d s : Nat} {ss : List Sec} {off : Bool} {fuse : Int} (h : DiskOf w K a d s ss off fuse) {i : Nat} {x : Sec} (hx : ss[i]? = some x) :
    ∃ g cap, x.v = .slice (some ⟨g, 0, none⟩) x.vs.length cap ∧ g < w.heap.size ∧ ∀ j p, x.vs[j]? = some p → w.cell? ⟨g, j, none⟩ = some p.val := by
  obtain ⟨h1, h2, h3, h4, h5⟩ := h.each x (List.mem_of_getElem? hx)
  rcases h1.2 with ⟨_, e⟩ | ⟨g, cap, cur, hv, _, hh, _⟩
  · omega
  · refine ⟨g, cap, hv, lt_of_block hh, fun j p hp => ?_⟩
    have := h1.cells (g := g) (by rw [hv]; rfl) j p.val (by simp [hp])
    rw [Addr.add_lit, Nat.zero_add] at this
    exact this
theorem vers_at {ss : List Sec} {i : Nat} {x : Sec} (h : ss[i]? = some x) : (vers ss).getD i [] = x.vs.map (·.xs) := by
  simp [vers, List.getD_eq_getElem?_getD, h]
theorem lastV_of {x : Sec} {p : Part} {n : Nat} (h : x.vs[n]? = some p) (hn : x.vs.length = n + 1) : lastV (x.vs.map (·.xs)) = p.xs := by
  simp only [lastV, List.length_map, hn, Nat.add_sub_cancel, List.getD_eq_getElem?_getD, List.getElem?_map, h]
  rfl
theorem sec_at {ss : List Sec} {k : Nat} (h : k < ss.length) : ∃ x, ss[k]? = some x := ⟨_, List.getElem?_eq_getElem h⟩

theorem clone_len (ao : Option Addr) (n cap : Nat) (xs : List Int) (w : World) (h : Row w ao xs) (hn : xs.length = n) (hp : 0 < n) :
    Calls Tryd.prog 41 #[.slice ao n cap] w fun e w' => ∃ g c, e = .returned (.slice (some ⟨g, 0, none⟩) n c) ∧ w.heap.size ≤ g ∧ Own w' w.heap.size (some ⟨g, 0, none⟩) c xs ∧ Below w.heap.size w w' := by subst hn; exact clone_any ao cap xs w h hp
set_option maxRecDepth 100000 in
set_option maxHeartbeats 400000 in
theorem read_off (d : Nat) (i : Int) {w : World} {K : Nat → Prop} {a : Nat → Addr} {vss : List (List (List Int))} {fuse : Int} (h : Disk w K a d vss true fuse) :
    Calls Tryd.prog 15 #[.pointer (some ⟨d, 0, none⟩), .int .i64 i] w fun e w' => e = .returned (.tuple #[.slice none 0 0, errV (a 0)]) ∧ Below w.heap.size w w' := by
  obtain ⟨s, ss, h, rfl⟩ := h
  have h0 := h.c1
  have he := h.e0
  clear h
  go_enter Tryd.func15, Tryd.ntmps15
  go_wp2_with fail
  go_quiet (fail)
  go_wp2_with fail
  go_ret2
  exact ⟨rfl, below_drewN (Below.refl _ _) _⟩
set_option maxRecDepth 100000 in
set_option maxHeartbeats 400000 in
theorem read_range (d : Nat) (i : Int) {w : World} {K : Nat → Prop} {a : Nat → Addr} {vss : List (List (List Int))} {fuse : Int} (h : Disk w K a d vss false fuse) (hi : hasSec vss.length i = false) :
    Calls Tryd.prog 15 #[.pointer (some ⟨d, 0, none⟩), .int .i64 i] w fun e w' => e = .returned (.tuple #[.slice none 0 0, errV (a 1)]) ∧ Below w.heap.size w w' := by
  obtain ⟨s, ss, h, rfl⟩ := h
  rw [length_vers] at hi
  have h0 := h.c0
  have h1 := h.c1
  have he := h.e1
  clear h
  go_enter Tryd.func15, Tryd.ntmps15
  go_wp2_with fail
  refine (hasSec_any _ _ _ _ _ h0).mono ?_
  rintro e w' ⟨rfl, rfl⟩
  go_wp2_with fail
  go_quiet (fail)
  go_wp2_with fail
  go_ret2
  exact ⟨rfl, below_drewN (Below.refl _ _) _⟩
set_option maxRecDepth 100000 in
set_option maxHeartbeats 400000 in
theorem dread_ok (d k : Nat) {w : World} {K : Nat → Prop} {a : Nat → Addr} {vss : List (List (List Int))} {fuse : Int} (h : Disk w K a d vss false fuse) (hk : k < vss.length) :
    Calls Tryd.prog 15 #[.pointer (some ⟨d, 0, none⟩), .int .i64 k] w fun e w' => ∃ g c, e = .returned (.tuple #[.slice (some ⟨g, 0, none⟩) 256 c, .nilIface]) ∧ w.heap.size ≤ g ∧ Own w' w.heap.size (some ⟨g, 0, none⟩) c (lastV (vss.getD k [])) ∧ (lastV (vss.getD k [])).length = 256 ∧ Below w.heap.size w w' := by
  have hm := h.many
  obtain ⟨s, ss, h, rfl⟩ := h
  rw [length_vers] at hk hm
  have h0 := h.c0
  have h1 := h.c1
  obtain ⟨x, hx⟩ := sec_at hk
  obtain ⟨g, cap, hv, hg, hc⟩ := h.sec hx
  have hcs := h.cs hx
  obtain ⟨i1, i2, i3, i4, i5⟩ := h.each x (List.mem_of_getElem? hx)
  obtain ⟨n, hn⟩ : ∃ n, x.vs.length = n + 1 := ⟨x.vs.length - 1, by omega⟩
  obtain ⟨p, hp⟩ : ∃ p, x.vs[n]? = some p := ⟨_, List.getElem?_eq_getElem (by omega)⟩
  obtain ⟨p1, p2, p3⟩ := i5 p (List.mem_of_getElem? hp)
  have hcp := hc n p hp
  rw [vers_at hx, lastV_of hp hn]
  rw [hv, hn] at hcs
  have hlen : x.vs.length ≤ 4294967296 := i3
  rw [hn] at hlen
  have hh : hasSec ss.length k = true := by simp [hasSec]; omega
  have HP := hide p1
  have hki : (k : Int) < (ss.length : Int) := by omega
  have HG := hide hcp
  have HS := hide hcs
  clear h hv hc i1 i2 i3 i4 i5 hx hp p1 p3 hcp hcs hn
  obtain ⟨po, pc, px⟩ := p
  simp only at p2 HP ⊢
  have HV : Hid (w.cell? ⟨g, n, none⟩ = some (.slice po 256 pc)) := by rw [← p2]; exact HG.out
  clear HG
  go_enter Tryd.func15, Tryd.ntmps15
  go_wp2_with fail
  refine (hasSec_any _ _ _ _ _ h0).mono ?_
  rintro e w' ⟨rfl, rfl⟩
  go_wp2_with fail
  refine (last_any s k g 0 n cap (.slice po 256 pc) _ HS.out hlen (by rw [Nat.zero_add]; exact HV.out)).mono ?_
  rintro e w1 ⟨rfl, m, rfl⟩
  go_wp2_with fail
  refine (clone_len po 256 pc px _ (HP.out.row.drewN m) p2 (by omega)).mono ?_
  rintro e w2 ⟨g', c', rfl, hg', hown, hbel⟩
  have HO := hide hown
  have HB := hide hbel
  clear hown hbel
  go_wp2_with fail
  go_ret2
  exact ⟨g', c', rfl, hg', HO.out, p2, (below_drewN (Below.refl _ _) m).trans HB.out⟩
end Go.Proofs.YtjacenhblclkaaaDoor

/- How a disk's sector turns: a version more, or one version alone; all else stays. -/
namespace Go.Proofs.YtjacenhblclkaaaDoor
open Go.RowKit
set_option linter.unusedVariables false

theorem DiskOf.ne_bytes {w : World} {K : Nat → Prop} {a : Nat → Addr} {d s : Nat} {ss : List Sec} {off : Bool} {fuse : Int} (h : DiskOf w K a d s ss off fuse) {B : Nat} {ao : Option Addr} {cap : Nat} {xs : List Int} (ho : Own w B ao cap xs) {g : Nat} (hg : (Value.slice ao xs.length cap).ownBlock = some g) : g ≠ d ∧ g ≠ s ∧ ∀ y ∈ ss, y.v.ownBlock ≠ some g := by
  obtain ⟨cur, hc⟩ := owns_type ho.1 hg
  refine ⟨?_, ?_, fun y hy e => ?_⟩
  · rintro rfl; rw [h.head] at hc; simp at hc
  · rintro rfl; rw [h.secs] at hc; simp at hc
  · obtain ⟨cur', hc'⟩ := owns_type (h.each y hy).1 e
    rw [hc] at hc'
    simp at hc'
theorem set_secs (ss : List Sec) (i : Nat) (x' : Sec) : (ss.map Sec.v).toArray.setIfInBounds i x'.v = ((ss.set i x').map Sec.v).toArray := by
  simp [List.map_set]
theorem DiskOf.added {w w1 : World} {K : Nat → Prop} {a : Nat → Addr} {d s : Nat} {ss : List Sec} {off : Bool} {fuse : Int} (h : DiskOf w K a d s ss off fuse) {i : Nat} {x : Sec} (hx : ss[i]? = some x) (p : Part) (hp : Own w 0 p.ao p.cap p.xs) (hpl : p.xs.length = 256) (hpk : ∀ g, p.val.ownBlock = some g → ¬ K g) (hlen : x.vs.length + 1 ≤ 4294967296)
    {v' : Value} (ho : w1.ownsRow 0 44 1 v' (x.vs.length + 1) (x.vs.map Part.val ++ [p.val])) (hg : w.grownBy w1 x.v.ownBlock) (hat : v'.ownBlock = x.v.ownBlock ∨ ∃ g, v'.ownBlock = some g ∧ w.heap.size ≤ g) :
    DiskOf (w1.setCell ⟨s, i, none⟩ v') K a d s (ss.set i ⟨v', x.vs ++ [p]⟩) off fuse ∧ Kept K w (w1.setCell ⟨s, i, none⟩ v') := by
  have hxm := List.mem_of_getElem? hx
  have hs : w1.heap[s]? = w.heap[s]? := hg.block s (lt_of_block h.secs) (fun e => (h.ne_ver hxm e.symm).2 rfl)
  have hold : ∀ k, k < w.heap.size → k ≠ s → some k ≠ x.v.ownBlock → (w1.setCell ⟨s, i, none⟩ v').heap[k]? = w.heap[k]? := fun k h1 h2 h3 => (Below.heap_setCell _ _ _ _ h2).trans (hg.block k h1 h3)
  have hbytes : ∀ {ao cap xs}, Own w 0 ao cap xs → Own (w1.setCell ⟨s, i, none⟩ v') 0 ao cap xs := fun hq => hq.of_block fun g hg hlt => hold g hlt (h.ne_bytes hq hg).2.1 (fun e => (h.ne_bytes hq hg).2.2 x hxm e.symm)
  obtain ⟨i1, i2, i3, i4, i5⟩ := h.each x hxm
  refine h.step i x ⟨v', x.vs ++ [p]⟩ hx (by exact hg.os) (by exact hg.tape) (by exact hg.output) (by have := hg.size; simpa [World.setCell] using this) hold ?_ ?_ hat
  · rw [← set_secs]
    exact heap_set_same (hs.trans h.secs) i v'
  · refine ⟨?_, by simp, by simpa using hlen, ?_, ?_⟩
    · simp only [List.length_append, List.length_cons, List.length_nil, List.map_append, List.map_cons, List.map_nil]
      refine owns_of_block ho fun g hg' _ => Below.heap_setCell _ _ _ _ ?_
      rcases hat with h1 | ⟨g', h1, h2⟩
      · exact (h.ne_ver hxm (h1 ▸ hg')).2
      · rw [h1] at hg'
        have := lt_of_block h.secs
        simp only [Option.some.injEq] at hg'
        show g ≠ s
        omega
    · intro g hg' hk
      rcases hat with h1 | ⟨g', h1, h2⟩
      · exact i4 g (h1 ▸ hg') hk
      · rw [show (⟨v', x.vs ++ [p]⟩ : Sec).v = v' from rfl, h1] at hg'
        simp only [Option.some.injEq] at hg'
        have := h.low g hk
        omega
    · intro q hq
      rcases List.mem_append.1 hq with h1 | h1
      · exact ⟨hbytes (i5 q h1).1, (i5 q h1).2⟩
      · rw [List.mem_singleton.1 h1]
        exact ⟨hbytes hp, hpl, hpk⟩
theorem DiskOf.fresh {w : World} {K : Nat → Prop} {a : Nat → Addr} {d s : Nat} {ss : List Sec} {off : Bool} {fuse : Int} (h : DiskOf w K a d s ss off fuse) {i : Nat} {x : Sec} (hx : ss[i]? = some x) (p : Part) (hp : Own w 0 p.ao p.cap p.xs) (hpl : p.xs.length = 256) (hpk : ∀ g, p.val.ownBlock = some g → ¬ K g) :
    DiskOf ((w.setCell ⟨s, i, none⟩ (.slice (some ⟨w.heap.size, 0, none⟩) 1 1)).alloc (.cells #[p.val] 44)) K a d s (ss.set i ⟨.slice (some ⟨w.heap.size, 0, none⟩) 1 1, [p]⟩) off fuse ∧ Kept K w ((w.setCell ⟨s, i, none⟩ (.slice (some ⟨w.heap.size, 0, none⟩) 1 1)).alloc (.cells #[p.val] 44)) := by
  have hxm := List.mem_of_getElem? hx
  have hsz : (w.setCell ⟨s, i, none⟩ (.slice (some ⟨w.heap.size, 0, none⟩) 1 1)).heap.size = w.heap.size := by simp [World.setCell]
  have hold : ∀ k, k < w.heap.size → k ≠ s → some k ≠ x.v.ownBlock → ((w.setCell ⟨s, i, none⟩ (.slice (some ⟨w.heap.size, 0, none⟩) 1 1)).alloc (.cells #[p.val] 44)).heap[k]? = w.heap[k]? := fun k h1 h2 _ => (Below.heap_alloc _ _ _ (by rw [hsz]; exact h1)).trans (Below.heap_setCell _ _ _ _ h2)
  refine h.step i x ⟨.slice (some ⟨w.heap.size, 0, none⟩) 1 1, [p]⟩ hx rfl rfl rfl (by simp [hsz]) hold ?_ ?_ (.inr ⟨w.heap.size, rfl, Nat.le_refl _⟩)
  · rw [← set_secs, Below.heap_alloc _ _ _ (by rw [hsz]; exact lt_of_block h.secs)]
    exact heap_set_same h.secs i _
  · refine ⟨⟨by simp, .inr ⟨w.heap.size, 1, #[p.val], rfl, Nat.zero_le _, ?_, by simp, by decide, by simp, by simp⟩⟩, by simp, by simp, ?_, ?_⟩
    · have := heap_alloc_new (w.setCell ⟨s, i, none⟩ (.slice (some ⟨w.heap.size, 0, none⟩) 1 1)) (.cells #[p.val] 44)
      rw [hsz] at this
      exact this
    · intro g hg hk
      simp only [Value.ownBlock, Option.some.injEq] at hg
      have := h.low g hk
      omega
    · intro q hq
      rw [List.mem_singleton.1 hq]
      exact ⟨hp.of_block fun g hg hlt => hold g hlt (h.ne_bytes hp hg).2.1 (fun e => (h.ne_bytes hp hg).2.2 x hxm e.symm), hpl, hpk⟩

theorem sec_loose {w : World} {K : Nat → Prop} {a : Nat → Addr} {d s : Nat} {ss : List Sec} {off : Bool} {fuse : Int} (h : DiskOf w K a d s ss off fuse) {i : Nat} {x : Sec} (hx : ss[i]? = some x) :
    Calls Tryd.prog 48 #[.pointer (some ⟨s, i, none⟩)] w fun e w' => e = .returned (.int .i64 ((x.vs.length : Int) - 1)) ∧ w' = w := by
  obtain ⟨g, cap, hv, _, _⟩ := h.sec hx
  exact loose_any s i _ _ _ w (by rw [h.cs hx, hv]) (h.each x (List.mem_of_getElem? hx)).2.2.1
theorem sec_add {w : World} {K : Nat → Prop} {a : Nat → Addr} {d s : Nat} {ss : List Sec} {off : Bool} {fuse : Int} (h : DiskOf w K a d s ss off fuse) {i : Nat} {x : Sec} (hx : ss[i]? = some x) (p : Part) (hp : Own w 0 p.ao p.cap p.xs) (hpl : p.xs.length = 256) (hpk : ∀ g, p.val.ownBlock = some g → ¬ K g) (hlen : x.vs.length + 1 ≤ 4294967296) :
    Calls Tryd.prog 30 #[.pointer (some ⟨s, i, none⟩), p.val] w fun e w' => e = .returned (.tuple #[]) ∧ ∃ v', DiskOf w' K a d s (ss.set i ⟨v', x.vs ++ [p]⟩) off fuse ∧ Kept K w w' := by
  have hxm := List.mem_of_getElem? hx
  refine (add_any s i x.v x.vs.length (x.vs.map Part.val) p.ao p.xs.length p.cap 0 w (h.cs hx) (h.fs i) hlen (h.each x hxm).1 (Nat.zero_le _) (fun e => (h.ne_ver hxm e).2 rfl)).mono ?_
  rintro e w' ⟨rfl, w1, v', rfl, h1, h2, h3⟩
  exact ⟨rfl, v', h.added hx p hp hpl hpk hlen h1 h2 h3⟩
theorem sec_keep {w : World} {K : Nat → Prop} {a : Nat → Addr} {d s : Nat} {ss : List Sec} {off : Bool} {fuse : Int} (h : DiskOf w K a d s ss off fuse) {i : Nat} {x : Sec} (hx : ss[i]? = some x) (k : Nat) (p : Part) (hp : x.vs[k]? = some p) :
    Calls Tryd.prog 78 #[.pointer (some ⟨s, i, none⟩), .int .i64 k] w fun e w' => e = .returned (.tuple #[]) ∧ ∃ v', DiskOf w' K a d s (ss.set i ⟨v', [p]⟩) off fuse ∧ Kept K w w' := by
  have hxm := List.mem_of_getElem? hx
  obtain ⟨g, cap, hv, hg, hc⟩ := h.sec hx
  obtain ⟨i1, i2, i3, i4, i5⟩ := h.each x hxm
  obtain ⟨p1, p2, p3⟩ := i5 p (List.mem_of_getElem? hp)
  refine (keep_any s i g 0 x.vs.length cap k p.ao p.xs.length p.cap w (by rw [h.cs hx, hv]) (h.fs i) i3 (List.getElem?_eq_some_iff.1 hp).1 (by rw [Nat.zero_add]; exact hc k p hp)).mono ?_
  rintro e w' ⟨rfl, rfl⟩
  exact ⟨rfl, _, h.fresh hx p p1 p2 p3⟩
end Go.Proofs.YtjacenhblclkaaaDoor

/- What a disk's Write answers, at every disk. -/
namespace Go.Proofs.YtjacenhblclkaaaDoor
open Go.RowKit
set_option linter.unusedVariables false

theorem vers_set (ss : List Sec) (i : Nat) (x : Sec) : vers (ss.set i x) = (vers ss).set i (x.vs.map (·.xs)) := by simp [vers, List.map_set]
theorem DiskOf.belowD {w w' : World} {K : Nat → Prop} {a : Nat → Addr} {d s : Nat} {ss : List Sec} {off : Bool} {fuse : Int} (h : DiskOf w K a d s ss off fuse) (hb : Below w.heap.size w w') : DiskOf w' K a d s ss off fuse :=
  h.more hb (fun k hk => ⟨Nat.lt_of_lt_of_le (h.low k hk) hb.size, fun _ => hk⟩) (fun k hk => (h.errs k hk).1)
theorem Own.any {w : World} {B : Nat} {ao : Option Addr} {cap : Nat} {xs : List Int} (h : Own w B ao cap xs) : Own w 0 ao cap xs := h.mono (Nat.zero_le _)

theorem sec_add_len {w : World} {K : Nat → Prop} {a : Nat → Addr} {d s : Nat} {ss : List Sec} {off : Bool} {fuse : Int} (h : DiskOf w K a d s ss off fuse) {i : Nat} {x : Sec} (hx : ss[i]? = some x) (ao : Option Addr) (cap : Nat) (xs : List Int) (hp : Own w 0 ao cap xs) (hpl : xs.length = 256) (hpk : ∀ g, (Value.slice ao 256 cap).ownBlock = some g → ¬ K g) (hlen : x.vs.length + 1 ≤ 4294967296) :
    Calls Tryd.prog 30 #[.pointer (some ⟨s, i, none⟩), .slice ao 256 cap] w fun e w' => e = .returned (.tuple #[]) ∧ ∃ v', DiskOf w' K a d s (ss.set i ⟨v', x.vs ++ [⟨ao, cap, xs⟩]⟩) off fuse ∧ Kept K w w' := by
  have h1 := sec_add h hx ⟨ao, cap, xs⟩ hp hpl (by show ∀ g, (Value.slice ao xs.length cap).ownBlock = some g → ¬ K g; rw [hpl]; exact hpk) hlen
  rw [show (⟨ao, cap, xs⟩ : Part).val = .slice ao 256 cap by rw [← hpl]; rfl] at h1
  exact h1

theorem not_low {K : Nat → Prop} {B g' n c : Nat} (low : ∀ k, K k → k < B) (h : B ≤ g') : ∀ g, (Value.slice (some ⟨g', 0, none⟩) n c).ownBlock = some g → ¬ K g := by
  intro g e hk
  simp only [Value.ownBlock, Option.some.injEq] at e
  have := low g hk
  omega

set_option maxRecDepth 100000 in
set_option maxHeartbeats 400000 in
theorem write_off (d : Nat) (i : Int) (b : Value) {w : World} {K : Nat → Prop} {a : Nat → Addr} {vss : List (List (List Int))} {fuse : Int} (h : Disk w K a d vss true fuse) :
    Calls Tryd.prog 25 #[.pointer (some ⟨d, 0, none⟩), .int .i64 i, b] w fun e w' => e = .returned (errV (a 0)) ∧ w' = w := by
  obtain ⟨s, ss, h, rfl⟩ := h
  have h0 := h.c1
  have he := h.e0
  clear h
  go_enter Tryd.func25, Tryd.ntmps25
  go_wp2_with fail
  go_ret
  exact ⟨rfl, rfl⟩
set_option maxRecDepth 100000 in
set_option maxHeartbeats 400000 in
theorem write_range (d : Nat) (i : Int) (b : Value) {w : World} {K : Nat → Prop} {a : Nat → Addr} {vss : List (List (List Int))} {fuse : Int} (h : Disk w K a d vss false fuse) (hi : hasSec vss.length i = false) :
    Calls Tryd.prog 25 #[.pointer (some ⟨d, 0, none⟩), .int .i64 i, b] w fun e w' => e = .returned (errV (a 1)) ∧ w' = w := by
  obtain ⟨s, ss, h, rfl⟩ := h
  rw [length_vers] at hi
  have h0 := h.c0
  have h1 := h.c1
  have he := h.e1
  clear h
  go_enter Tryd.func25, Tryd.ntmps25
  go_wp2_with fail
  refine (hasSec_any _ _ _ _ _ h0).mono ?_
  rintro e w' ⟨rfl, rfl⟩
  go_wp2_with fail
  go_ret
  exact ⟨rfl, rfl⟩
set_option maxRecDepth 100000 in
set_option maxHeartbeats 400000 in
theorem write_short (d : Nat) (i : Int) (bo : Option Addr) (n c : Nat) {w : World} {K : Nat → Prop} {a : Nat → Addr} {vss : List (List (List Int))} {fuse : Int} (h : Disk w K a d vss false fuse) (hi : hasSec vss.length i = true) (hn : n ≠ 256) :
    Calls Tryd.prog 25 #[.pointer (some ⟨d, 0, none⟩), .int .i64 i, .slice bo n c] w fun e w' => e = .returned (errV (a 2)) ∧ w' = w := by
  obtain ⟨s, ss, h, rfl⟩ := h
  rw [length_vers] at hi
  have h0 := h.c0
  have h1 := h.c1
  have he := h.e2
  clear h
  have hne : ((n : Int) != 256) = true := by simp; omega
  go_enter Tryd.func25, Tryd.ntmps25
  go_wp2_with fail
  refine (hasSec_any _ _ _ _ _ h0).mono ?_
  rintro e w' ⟨rfl, rfl⟩
  go_wp2_with fail
  go_ret
  exact ⟨rfl, rfl⟩

set_option maxRecDepth 100000 in
set_option maxHeartbeats 1000000 in
theorem write_any (d k : Nat) (bo : Option Addr) (bc : Nat) (ys : List Int) {w : World} {K : Nat → Prop} {a : Nat → Addr} {s : Nat} {ss : List Sec} {fuse : Int} (h : DiskOf w K a d s ss false fuse) (hk : k < ss.length) (hr : Row w bo ys) (hl : ys.length = 256) (x : Sec) (hx : ss[k]? = some x) (hlen : x.vs.length + 1 ≤ 4294967296) :
    Calls Tryd.prog 25 #[.pointer (some ⟨d, 0, none⟩), .int .i64 k, .slice bo 256 bc] w fun e w' => ∃ x' : Sec, x'.vs.map (·.xs) = x.vs.map (·.xs) ++ [ys] ∧ Kept K w w' ∧ (fuse ≠ 0 → e = .returned .nilIface ∧ DiskOf w' K a d s (ss.set k x') false (burnt fuse)) ∧ (fuse = 0 → e = .returned (errV (a 0)) ∧ DiskOf w' K a d s (ss.set k x') true 0) := by
  have h0 := h.c0
  have h1 := h.c1
  have hm := h.many
  have H := hide h
  have HR := hide hr
  have HX := hide hx
  have hh : hasSec ss.length k = true := by simp [hasSec]; omega
  have hki : (k : Int) < (ss.length : Int) := by omega
  clear h hr hx
  go_enter Tryd.func25, Tryd.ntmps25
  go_wp2_with fail
  refine (hasSec_any _ _ _ _ _ h0).mono ?_
  rintro e w' ⟨rfl, rfl⟩
  go_wp2_with fail
  go_region_held3 (fun w' => w'.cell? ⟨d, 0, none⟩ = some (.slice (some ⟨s, 0, none⟩) ss.length ss.length)) (first | go_keep | assumption)
    (first
      | (go_at_call 41; refine (clone_len bo 256 bc ys _ (by exact HR.out) hl (by omega)).mono ?_; rintro e w1 ⟨g', c', rfl, hg', hown, hbel⟩; have hbel := of_drew hbel; have H1 := hide (H.out.belowD hbel); have hc1 := H1.out.c0; have HO := hide hown; have HB := hide hbel; have HG := hide hg'; clear hown hbel hg')
      | (go_at_call 30; refine (sec_add_len H1.out HX.out (some ⟨g', 0, none⟩) c' ys HO.out.any hl (not_low H.out.low HG.out) hlen).mono ?_; rintro e w2 ⟨rfl, v', h2, k2⟩; have hc2 := h2.c0; rw [List.length_set] at hc2; have H2 := hide h2; have HK := hide k2; clear h2 k2))
  have hmap : (x.vs ++ [(⟨some ⟨g', 0, none⟩, c', ys⟩ : Part)]).map (fun p : Part => p.xs) = x.vs.map (·.xs) ++ [ys] := by simp
  have HM := hide hmap
  have HKK : Hid (Kept K w' w2) := (Kept.of_below HB.out H.out.low).trans HK.out
  clear hmap HK HB
  by_cases hf : fuse = 0
  · subst hf
    go_wp2_with fail
    refine (spend_burn _ _ _ H2.out).mono ?_
    rintro e w3 ⟨rfl, h3, k3⟩
    have H3 := hide h3
    have HK3 := hide k3
    clear h3 k3
    go_wp2_with fail
    go_ret
    exact ⟨_, HM.out, HKK.out.trans HK3.out, rfl, H3.out⟩
  · go_wp2_with fail
    refine (spend_ok _ _ _ H2.out hf).mono ?_
    rintro e w3 ⟨rfl, h3, k3⟩
    have H3 := hide h3
    have HK3 := hide k3
    clear h3 k3
    go_wp2_with fail
    go_ret
    exact ⟨_, HM.out, HKK.out.trans HK3.out, fun _ => ⟨rfl, H3.out⟩, fun e => absurd e hf⟩
theorem write_ok (d k : Nat) (bo : Option Addr) (bc : Nat) (ys : List Int) {w : World} {K : Nat → Prop} {a : Nat → Addr} {vss : List (List (List Int))} {fuse : Int} (h : Disk w K a d vss false fuse) (hk : k < vss.length) (hr : Row w bo ys) (hl : ys.length = 256) (hlen : (vss.getD k []).length + 1 ≤ 4294967296) (hf : fuse ≠ 0) :
    Calls Tryd.prog 25 #[.pointer (some ⟨d, 0, none⟩), .int .i64 k, .slice bo 256 bc] w fun e w' => e = .returned .nilIface ∧ Disk w' K a d (vss.set k (vss.getD k [] ++ [ys])) false (burnt fuse) ∧ Kept K w w' := by
  obtain ⟨s, ss, h, rfl⟩ := h
  rw [length_vers] at hk
  obtain ⟨x, hx⟩ := sec_at hk
  rw [vers_at hx] at hlen ⊢
  refine (write_any d k bo bc ys h hk hr hl x hx (by simpa using hlen)).mono ?_
  rintro e w' ⟨x', hx', hkept, h1, _⟩
  exact ⟨(h1 hf).1, ⟨s, _, (h1 hf).2, by rw [vers_set, hx']⟩, hkept⟩
theorem write_burn (d k : Nat) (bo : Option Addr) (bc : Nat) (ys : List Int) {w : World} {K : Nat → Prop} {a : Nat → Addr} {vss : List (List (List Int))} (h : Disk w K a d vss false 0) (hk : k < vss.length) (hr : Row w bo ys) (hl : ys.length = 256) (hlen : (vss.getD k []).length + 1 ≤ 4294967296) :
    Calls Tryd.prog 25 #[.pointer (some ⟨d, 0, none⟩), .int .i64 k, .slice bo 256 bc] w fun e w' => e = .returned (errV (a 0)) ∧ Disk w' K a d (vss.set k (vss.getD k [] ++ [ys])) true 0 ∧ Kept K w w' := by
  obtain ⟨s, ss, h, rfl⟩ := h
  rw [length_vers] at hk
  obtain ⟨x, hx⟩ := sec_at hk
  rw [vers_at hx] at hlen ⊢
  refine (write_any d k bo bc ys h hk hr hl x hx (by simpa using hlen)).mono ?_
  rintro e w' ⟨x', hx', hkept, _, h1⟩
  exact ⟨(h1 rfl).1, ⟨s, _, (h1 rfl).2, by rw [vers_set, hx']⟩, hkept⟩
end Go.Proofs.YtjacenhblclkaaaDoor

/- What a disk's Sync answers, at every disk. -/
namespace Go.Proofs.YtjacenhblclkaaaDoor
open Go.RowKit
set_option linter.unusedVariables false

/-- The first k of a list turned by f, the rest as they are. -/
def syncTo {α : Type} (f : α → α) (k : Nat) (l : List α) : List α := (l.take k).map f ++ l.drop k
theorem syncTo_zero {α : Type} (f : α → α) (l : List α) : syncTo f 0 l = l := by simp [syncTo]
theorem syncTo_all {α : Type} (f : α → α) (l : List α) : syncTo f l.length l = l.map f := by simp [syncTo]
theorem length_syncTo {α : Type} (f : α → α) (k : Nat) (l : List α) : (syncTo f k l).length = l.length := by simp [syncTo]; omega
theorem syncTo_at {α : Type} (f : α → α) (k : Nat) (l : List α) : (syncTo f k l)[k]? = l[k]? := by
  by_cases h : k < l.length
  · rw [syncTo, List.getElem?_append_right (by simp; omega)]
    simp [Nat.min_eq_left (Nat.le_of_lt h)]
  · rw [List.getElem?_eq_none (by rw [length_syncTo]; omega), List.getElem?_eq_none (by omega)]
theorem syncTo_succ {α : Type} (f : α → α) (k : Nat) (l : List α) (x : α) (h : l[k]? = some x) : (syncTo f k l).set k (f x) = syncTo f (k + 1) l := by
  have hk : k < l.length := (List.getElem?_eq_some_iff.1 h).1
  have hx : l[k] = x := (List.getElem?_eq_some_iff.1 h).2
  unfold syncTo
  rw [List.set_append_right _ _ (by simp; omega), List.take_succ_eq_append_getElem hk, List.drop_eq_getElem_cons hk, hx]
  simp [Nat.min_eq_left (Nat.le_of_lt hk)]
theorem vers_get (ss : List Sec) (i : Nat) : (vers ss)[i]? = (ss[i]?).map fun x => x.vs.map (·.xs) := by simp [vers]

theorem DiskOf.drew {w : World} {K : Nat → Prop} {a : Nat → Addr} {d s : Nat} {ss : List Sec} {off : Bool} {fuse : Int} (h : DiskOf w K a d s ss off fuse) : DiskOf w.drew K a d s ss off fuse := ⟨h.head, h.secs, h.each, h.apart, h.nd, h.ns, h.low, h.many, h.fuseBd, h.errs⟩
theorem DiskOf.drewN {w : World} {K : Nat → Prop} {a : Nat → Addr} {d s : Nat} {ss : List Sec} {off : Bool} {fuse : Int} (h : DiskOf w K a d s ss off fuse) (n : Nat) : DiskOf (w.drewN n) K a d s ss off fuse := ⟨h.head, h.secs, h.each, h.apart, h.nd, h.ns, h.low, h.many, h.fuseBd, h.errs⟩
theorem Disk.drew {w : World} {K : Nat → Prop} {a : Nat → Addr} {d : Nat} {vss : List (List (List Int))} {off : Bool} {fuse : Int} (h : Disk w K a d vss off fuse) : Disk w.drew K a d vss off fuse := by obtain ⟨s, ss, h, e⟩ := h; exact ⟨s, ss, h.drew, e⟩
theorem Kept.of_drew {K : Nat → Prop} {w w1 : World} (h : Kept K w.drew w1) : Kept K w w1 := ⟨h.os, h.tape, h.output, h.size, h.block⟩
theorem sec_keep_int {w : World} {K : Nat → Prop} {a : Nat → Addr} {d s : Nat} {ss : List Sec} {off : Bool} {fuse : Int} (h : DiskOf w K a d s ss off fuse) {i : Nat} {x : Sec} (hx : ss[i]? = some x) (k : Nat) (kk : Int) (hk : kk = k) (p : Part) (hp : x.vs[k]? = some p) :
    Calls Tryd.prog 78 #[.pointer (some ⟨s, i, none⟩), .int .i64 kk] w fun e w' => e = .returned (.tuple #[]) ∧ ∃ v', DiskOf w' K a d s (ss.set i ⟨v', [p]⟩) off fuse ∧ Kept K w w' := by subst hk; exact sec_keep h hx k p hp

set_option maxRecDepth 100000 in
set_option maxHeartbeats 400000 in
theorem sync_off (d : Nat) {w : World} {K : Nat → Prop} {a : Nat → Addr} {vss : List (List (List Int))} {fuse : Int} (h : Disk w K a d vss true fuse) :
    Calls Tryd.prog 47 #[.pointer (some ⟨d, 0, none⟩)] w fun e w' => e = .returned (errV (a 0)) ∧ w' = w := by
  obtain ⟨s, ss, h, rfl⟩ := h
  have h0 := h.c1
  have he := h.e0
  clear h
  go_enter Tryd.func47, Tryd.ntmps47
  go_wp2_with fail
  go_ret
  exact ⟨rfl, rfl⟩
set_option maxRecDepth 100000 in
set_option maxHeartbeats 400000 in
theorem sync_burn (d : Nat) {w : World} {K : Nat → Prop} {a : Nat → Addr} {vss : List (List (List Int))} (h : Disk w K a d vss false 0) :
    Calls Tryd.prog 47 #[.pointer (some ⟨d, 0, none⟩)] w fun e w' => e = .returned (errV (a 0)) ∧ Disk w' K a d vss true 0 ∧ Kept K w w' := by
  obtain ⟨s, ss, h, rfl⟩ := h
  have h0 := h.c1
  have H := hide h
  clear h
  go_enter Tryd.func47, Tryd.ntmps47
  go_wp2_with fail
  refine (spend_burn _ _ _ H.out).mono ?_
  rintro e w1 ⟨rfl, h1, k1⟩
  have H1 := hide h1
  have HK := hide k1
  clear h1 k1
  unfold errV
  go_wp2_with fail
  go_ret
  exact ⟨rfl, ⟨s, ss, H1.out, rfl⟩, HK.out⟩
/-- Behind a Sync a sector has its last version alone. -/
def synced (vs : List (List Int)) : List (List Int) := [lastV vs]
theorem sync_step {ss' : List Sec} {k : Nat} {vss : List (List (List Int))} {x : Sec} {p : Part} {n : Nat} {v' : Value} (he : vers ss' = syncTo synced k vss) (hx : ss'[k]? = some x) (hp : x.vs[n]? = some p) (hn : x.vs.length = n + 1) : vers (ss'.set k ⟨v', [p]⟩) = syncTo synced (k + 1) vss := by
  have h1 : (vers ss')[k]? = some (x.vs.map (·.xs)) := by rw [vers_get, hx]; rfl
  rw [he, syncTo_at] at h1
  rw [vers_set, he]
  have h2 := syncTo_succ synced k vss _ h1
  rw [show synced (x.vs.map (·.xs)) = [p.xs] by rw [synced, lastV_of hp hn]] at h2
  exact h2
theorem last_part {w : World} {K : Nat → Prop} {a : Nat → Addr} {d s : Nat} {ss : List Sec} {off : Bool} {fuse : Int} (h : DiskOf w K a d s ss off fuse) {k : Nat} (hk : k < ss.length) : ∃ x n p, ss[k]? = some x ∧ x.vs.length = n + 1 ∧ x.vs[n]? = some p := by
  obtain ⟨x, hx⟩ := sec_at hk
  have := (h.each x (List.mem_of_getElem? hx)).2.1
  exact ⟨x, x.vs.length - 1, _, hx, by omega, List.getElem?_eq_getElem (by omega)⟩
theorem length_of_vers {ss ss' : List Sec} {f : List (List Int) → List (List Int)} {k : Nat} (h : vers ss' = syncTo f k (vers ss)) : ss'.length = ss.length := by
  have := congrArg List.length h
  rw [length_vers, length_syncTo, length_vers] at this
  exact this
set_option maxRecDepth 100000 in
set_option maxHeartbeats 1000000 in
theorem sync_ok (d : Nat) {w : World} {K : Nat → Prop} {a : Nat → Addr} {vss : List (List (List Int))} {fuse : Int} (h : Disk w K a d vss false fuse) (hf : fuse ≠ 0) :
    Calls Tryd.prog 47 #[.pointer (some ⟨d, 0, none⟩)] w fun e w' => e = .returned .nilIface ∧ Disk w' K a d (vss.map synced) false (burnt fuse) ∧ Kept K w w' := by
  obtain ⟨s, ss, h, rfl⟩ := h
  have h0 := h.c1
  have hm := h.many
  have H := hide h
  clear h
  go_enter Tryd.func47, Tryd.ntmps47
  go_wp2_with fail
  refine (spend_ok _ _ _ H.out hf).mono ?_
  rintro e w1 ⟨rfl, h1, k1⟩
  have h2 := h1.c0
  have H1 := hide h1
  have HK := hide k1
  clear h1 k1 h0 H
  go_wp2_with fail
  go_loopw [20] (fun i wr => ∃ (k : Nat) (ss' : List Sec), k ≤ ss.length ∧ i = .int .i64 k ∧ DiskOf wr K a d s ss' false (burnt fuse) ∧ vers ss' = syncTo synced k (vers ss) ∧ Kept K w wr) (fun i _ => ss.length - (intOf i).toNat)
  case atStart => exact ⟨0, ss, by omega, rfl, H1.out, (syncTo_zero _ _).symm, HK.out⟩
  case round =>
    clear H1 HK h2
    obtain ⟨k, ss', hk, rfl, hd, he, hkept⟩ := hrel
    have hlen := length_of_vers he
    have h3 := hd.c0
    rw [hlen] at h3
    have HD := hide hd
    have HE := hide he
    have HK := hide hkept
    have HL := hide hlen
    clear hd he hkept hlen
    by_cases hlt : k < ss.length
    · obtain ⟨x, n, p, hx, hn, hp⟩ := last_part HD.out (k := k) (by rw [HL.out]; exact hlt)
      have HX := hide hx
      have HN := hide hn
      have HP := hide hp
      clear hx hn hp
      have hki : (k : Int) < (ss.length : Int) := by omega
      go_wp2_with fail
      go_region_held3 (fun w' => w'.cell? ⟨d, 0, none⟩ = some (.slice (some ⟨s, 0, none⟩) ss.length ss.length)) (first | go_keep | assumption)
        (first
          | (go_at_call 48; refine (sec_loose HD.out.drew HX.out).mono ?_; rintro e w2 ⟨rfl, rfl⟩)
          | (go_at_call 78; refine (sec_keep_int HD.out.drew HX.out n _ (by have := HN.out; omega) p HP.out).mono ?_; rintro e w2 ⟨rfl, v', h4, k4⟩; have h5 := h4.c0; rw [List.length_set, HL.out] at h5; have H4 := hide h4; have HK4 := hide k4.of_drew; clear h4 k4))
      go_wp2_with fail
      go_roundw
      case rel => exact ⟨k + 1, _, by omega, by go_num, H4.out, sync_step HE.out HX.out HP.out HN.out, HK.out.trans HK4.out⟩
      case measure => simp [intOf]; omega
    · go_wp2_with fail
      go_ret
      have hk' : k = ss.length := by omega
      refine ⟨rfl, ⟨s, ss', HD.out, ?_⟩, HK.out⟩
      rw [HE.out, hk', ← length_vers, syncTo_all]
end Go.Proofs.YtjacenhblclkaaaDoor

/- What phoenixsee.Same answers of an error with a place. -/
namespace Go.Proofs.YtjacenhblclkaaaDoor
open Go.RowKit
set_option linter.unusedVariables false

theorem frozen_cells {w : World} {d : Nat} {c : Array Value} {e : TypeId} (h : w.heap[d]? = some (.cells c e (0, 0))) (o : Nat) : w.frozen? ⟨d, o, none⟩ = false := by simp [World.frozen?, h]
/-- A fault as a value. -/
def faultV (c : Int) (p : Bool) (n : Int) : Value := .agg #[.int .i64 c, .bool p, .int .i64 n]
def faultCells (c : Int) (p : Bool) (n : Int) : Obj := .cells #[.int .i64 c, .bool p, .int .i64 n] 64
set_option maxHeartbeats 400000 in
theorem placed_any (c n : Int) (w : World) (hc : c ≠ 0) : Calls Tryd.prog 28 #[.int .i64 c, .int .i64 n] w fun e w' => e = .returned (faultV c true n) ∧ w' = w.alloc (faultCells c true n) := by
  have hc1 : (c == 0) = false := by simpa using hc
  unfold faultV faultCells
  go_enter Tryd.func28, Tryd.ntmps28
  go_wp2_with fail
  exact bodyPost_ret (v := .agg #[.int .i64 c, .bool true, .int .i64 n]) (by simp [results, Tryd.results28, go_sem]) rfl ⟨rfl, rfl⟩
set_option maxHeartbeats 400000 in
theorem sameFault_same (c : Int) (p : Bool) (n : Int) (w : World) : Calls Tryd.prog 52 #[faultV c p n, faultV c p n] w fun e w' => e = .returned (.bool true) ∧ Below w.heap.size w w' := by
  unfold faultV
  go_enter Tryd.func52, Tryd.ntmps52
  cases p
  all_goals
    go_wp2_with fail
    go_ret
    exact ⟨rfl, ((Below.refl _ _).alloc (Nat.le_refl _) _).alloc (by simp) _⟩
/-- An error around another one's place, as a value. -/
def atV (x : Addr) : Value := .iface 116 (.pointer (some x))
theorem assert_at (x : Addr) (w : World) : (Instr.typeAssert (.iface 116 (.pointer (some x))) 36 116 true).run Tryd.prog w = .ok (.tuple #[.pointer (some x), .bool true]) w := by
  simp [Instr.typeAssert, run_underlying Tryd.underlying116]
theorem sentinel_b (w : World) (a : Nat → Addr) (i : Nat) (hi : i < 18) (h : ErrsOf w all18 a) : Calls Tryd.prog 81 #[errV (a i)] w fun e w' => e = .returned (.int .i64 (101 + (i : Int))) ∧ Below w.heap.size w w' := by
  refine (sentinel_any w a i hi h).mono ?_
  rintro e w' ⟨rfl, rfl⟩
  exact ⟨rfl, (Below.refl _ _).alloc (Nat.le_refl _) _⟩
theorem placed_b (c n : Int) (w : World) (hc : c ≠ 0) : Calls Tryd.prog 28 #[.int .i64 c, .int .i64 n] w fun e w' => e = .returned (faultV c true n) ∧ Below w.heap.size w w' := by
  refine (placed_any c n w hc).mono ?_
  rintro e w' ⟨rfl, rfl⟩
  exact ⟨rfl, (Below.refl _ _).alloc (Nat.le_refl _) _⟩
set_option maxRecDepth 100000 in
set_option maxHeartbeats 1000000 in
theorem fault_at (w : World) (a : Nat → Addr) (i : Nat) (hi : i < 18) (b : Nat) (n : Int) (h : ErrsOf w all18 a) (h0 : w.cell? ⟨b, 0, none⟩ = some (.int .i64 n)) (h1 : w.cell? ⟨b, 1, none⟩ = some (errV (a i))) :
    Calls Tryd.prog 53 #[atV ⟨b, 0, none⟩] w fun e w' => e = .returned (faultV (101 + (i : Int)) true n) ∧ Below w.heap.size w w' := by
  obtain ⟨W, hW⟩ : ∃ W, W = w.alloc (faultCells 0 false 0) := ⟨_, rfl⟩
  have HB : Hid (Below w.heap.size w W) := by show Below _ _ _; rw [hW]; exact (Below.refl _ _).alloc (Nat.le_refl _) _
  have hWr : W.heap[w.heap.size]? = some (.cells #[.int .i64 0, .bool false, .int .i64 0] 64 (0, 0)) := by rw [hW]; exact heap_alloc_new _ _
  have HWR := hide hWr
  have HE := hide (h.step HB.out)
  have hlt := World.block_lt_of_cell? w _ h0
  have k0 := (HB.out.cell (p := ⟨b, 0, none⟩) hlt).trans h0
  have k1 : W.cell? ⟨b, 1, none⟩ = some (.iface 168 (.pointer (some (a i)))) := (HB.out.cell (p := ⟨b, 1, none⟩) hlt).trans h1
  have l0 := k0
  have l1 := k1
  rw [hW] at l0 l1
  unfold faultCells at l0 l1
  have HLB : Hid (b < W.heap.size) := Nat.lt_of_lt_of_le hlt HB.out.size
  have HLR : Hid (w.heap.size < W.heap.size) := lt_of_block hWr
  have hne : b ≠ w.heap.size := Nat.ne_of_lt hlt
  have hne' : w.heap.size ≠ b := Ne.symm hne
  have HWE : Hid (w.alloc (.cells #[.int .i64 0, .bool false, .int .i64 0] 64) = W) := hW.symm
  obtain ⟨cd, hcd⟩ : ∃ cd, cd = 101 + (i : Int) := ⟨_, rfl⟩
  have HCD := hide hcd.symm
  have HC : Hid (cd ≠ 0) := by show cd ≠ 0; omega
  rw [← hcd]
  clear h h0 h1 hlt hW hWr hcd
  have hta := assert_at
  unfold atV faultV
  go_enter Tryd.func53, Tryd.ntmps53
  go_wp2_with fail
  clear l0 l1 hta
  rw [HWE.out]
  go_region_held3 (fun w' => w'.cell? ⟨b, 0, none⟩ = some (.int .i64 n) ∧ w'.cell? ⟨b, 1, none⟩ = some (.iface 168 (.pointer (some (a i))))) (first | go_keep | (refine ⟨?_, ?_⟩ <;> assumption))
    (first
      | (go_at_call 81; refine (sentinel_b _ a i hi HE.out.drew).mono ?_; rintro e w2 ⟨rfl, hb2⟩; rw [HCD.out]; have hb2 := of_drew hb2; have m0 := (hb2.cell (p := ⟨b, 0, none⟩) HLB.out).trans k0; have m1 := (hb2.cell (p := ⟨b, 1, none⟩) HLB.out).trans k1; have HB2 := hide hb2; clear hb2)
      | (go_at_call 28; refine (placed_b _ _ _ HC.out).mono ?_; rintro e w3 ⟨rfl, hb3⟩; unfold faultV; have p0 := (hb3.cell (p := ⟨b, 0, none⟩) (Nat.lt_of_lt_of_le HLB.out HB2.out.size)).trans m0; have p1 := (hb3.cell (p := ⟨b, 1, none⟩) (Nat.lt_of_lt_of_le HLB.out HB2.out.size)).trans m1; have hr3 : w3.heap[w.heap.size]? = some (.cells #[.int .i64 0, .bool false, .int .i64 0] 64 (0, 0)) := (hb3.block _ (Nat.lt_of_lt_of_le HLR.out HB2.out.size)).trans ((HB2.out.block _ HLR.out).trans HWR.out); have r0 : w3.cell? ⟨w.heap.size, 0, none⟩ = some (.int .i64 0) := (cell_row hr3 0).trans rfl; have r1 : w3.cell? ⟨w.heap.size, 1, none⟩ = some (.bool false) := (cell_row hr3 1).trans rfl; have r2 : w3.cell? ⟨w.heap.size, 2, none⟩ = some (.int .i64 0) := (cell_row hr3 2).trans rfl; have g0 : w3.frozen? ⟨w.heap.size, 0, none⟩ = false := frozen_cells hr3 0; have g1 : w3.frozen? ⟨w.heap.size, 1, none⟩ = false := frozen_cells hr3 1; have g2 : w3.frozen? ⟨w.heap.size, 2, none⟩ = false := frozen_cells hr3 2; have HB3 := hide (HB2.out.trans (hb3.mono HB2.out.size)); clear hb3 hr3))
  go_wp2_with fail
  exact bodyPost_ret (v := .agg #[.int .i64 cd, .bool true, .int .i64 n]) (by simp [results, Tryd.results53, go_sem, *]) rfl ⟨rfl, (((HB.out.trans (HB3.out.mono HB.out.size)).setCell (p := ⟨w.heap.size, 0, none⟩) (Nat.le_refl _) _).setCell (p := ⟨w.heap.size, 1, none⟩) (Nat.le_refl _) _).setCell (p := ⟨w.heap.size, 2, none⟩) (Nat.le_refl _) _⟩
set_option maxRecDepth 100000 in
set_option maxHeartbeats 1000000 in
theorem same_placed (w : World) (a : Nat → Addr) (i : Nat) (hi : i < 18) (b : Nat) (n c : Int) (hc : c = 101 + (i : Int)) (h : ErrsOf w all18 a) (q0 : w.cell? ⟨b, 0, none⟩ = some (.int .i64 n)) (q1 : w.cell? ⟨b, 1, none⟩ = some (errV (a i))) :
    Calls Tryd.prog 27 #[atV ⟨b, 0, none⟩, faultV c true n] w fun e w' => e = .returned (.bool true) ∧ Below w.heap.size w w' := by
  have HC := hide hc
  obtain ⟨W, hW⟩ : ∃ W, W = w.alloc (.cells #[.int .i64 c, .bool true, .int .i64 n] 64) := ⟨_, rfl⟩
  have hWr : W.heap[w.heap.size]? = some (.cells #[.int .i64 c, .bool true, .int .i64 n] 64 (0, 0)) := by rw [hW]; exact heap_alloc_new _ _
  have HB : Hid (Below w.heap.size w W) := by show Below _ _ _; rw [hW]; exact (Below.refl _ _).alloc (Nat.le_refl _) _
  have HE := hide (h.step HB.out)
  have hlb := World.block_lt_of_cell? w _ q0
  have HQ0 : Hid (W.drew.cell? ⟨b, 0, none⟩ = some (.int .i64 n)) := (HB.out.cell (p := ⟨b, 0, none⟩) hlb).trans q0
  have HQ1 : Hid (W.drew.cell? ⟨b, 1, none⟩ = some (errV (a i))) := (HB.out.cell (p := ⟨b, 1, none⟩) hlb).trans q1
  have h0 : W.cell? ⟨w.heap.size, 0, none⟩ = some (.int .i64 c) := by rw [cell_row hWr]; rfl
  have h1 : W.cell? ⟨w.heap.size, 1, none⟩ = some (.bool true) := by rw [cell_row hWr]; rfl
  have h2 : W.cell? ⟨w.heap.size, 2, none⟩ = some (.int .i64 n) := by rw [cell_row hWr]; rfl
  have hlt := lt_of_block hWr
  have HL0 : Hid ((⟨w.heap.size, 0, none⟩ : Addr).block < W.drew.heap.size) := hlt
  have HL1 : Hid ((⟨w.heap.size, 1, none⟩ : Addr).block < W.drew.heap.size) := hlt
  have HL2 : Hid ((⟨w.heap.size, 2, none⟩ : Addr).block < W.drew.heap.size) := hlt
  have HW := hide hW
  have HSF : Hid (∀ x, Calls Tryd.prog 52 #[.agg #[.int .i64 c, .bool true, .int .i64 n], .agg #[.int .i64 c, .bool true, .int .i64 n]] x fun e w' => e = .returned (.bool true) ∧ Below x.heap.size x w') := fun x => sameFault_same c true n x
  clear h hc hWr hW hlt q0 q1 hlb
  unfold atV faultV
  go_enter Tryd.func27, Tryd.ntmps27
  go_wp2_with fail
  rw [← HW.out]
  go_region_held3 (fun w' => w'.cell? ⟨w.heap.size, 0, none⟩ = some (.int .i64 c) ∧ w'.cell? ⟨w.heap.size, 1, none⟩ = some (.bool true) ∧ w'.cell? ⟨w.heap.size, 2, none⟩ = some (.int .i64 n)) (first | go_keep | (refine ⟨?_, ?_, ?_⟩ <;> assumption))
    (first
      | (go_at_call 53; refine (fault_at _ a i hi b n HE.out.drew HQ0.out HQ1.out).mono ?_; rintro e w2 ⟨rfl, hb2⟩; rw [← HC.out]; unfold faultV; have hb2 := of_drew hb2; have k0 := (hb2.cell HL0.out).trans h0; have k1 := (hb2.cell HL1.out).trans h1; have k2 := (hb2.cell HL2.out).trans h2; have hs2 := hb2.size; have HB2 := hide hb2; clear hb2)
      | (go_at_call 52; refine (HSF.out _).mono ?_; rintro e w3 ⟨rfl, hb3⟩; have m0 := (hb3.cell (p := ⟨w.heap.size, 0, none⟩) (Nat.lt_of_lt_of_le HL0.out HB2.out.size)).trans k0; have m1 := (hb3.cell (p := ⟨w.heap.size, 1, none⟩) (Nat.lt_of_lt_of_le HL0.out HB2.out.size)).trans k1; have m2 := (hb3.cell (p := ⟨w.heap.size, 2, none⟩) (Nat.lt_of_lt_of_le HL0.out HB2.out.size)).trans k2; have HB3 := hide hb3; clear hb3))
  go_wp2_with fail
  go_ret
  exact ⟨rfl, over (over HB.out HB2.out HB.out.size) HB3.out (Nat.le_trans HB.out.size HB2.out.size)⟩
end Go.Proofs.YtjacenhblclkaaaDoor

/- Lists of numbers of our own: read, appended to, held against each other (the same words as PlKeys': never import both). -/
namespace Go.Proofs.YtjacenhblclkaaaDoor
open Go.RowKit
set_option linter.unusedVariables false

theorem Tryd.info3 : (Tryd.prog.info? 3).map (fun i => (i.zero, i.size, i.bytes)) = some (some (.int .i64 0), 1, 8) := by kernel_rfl
/-- xs as cells. -/
def icells (xs : List Int) : List Value := xs.map (Value.int .i64)
theorem length_icells (xs : List Int) : (icells xs).length = xs.length := by simp [icells]
theorem icells_at {xs : List Int} {j : Nat} (h : j < xs.length) : (icells xs)[j]? = some (.int .i64 (xs.getD j 0)) := by simp [icells, h]
/-- The slice owns the numbers xs, in a block from B on. -/
def OwnI (w : World) (B : Nat) (ao : Option Addr) (m cap : Nat) (xs : List Int) : Prop := w.ownsRow B 3 1 (.slice ao m cap) m (icells xs) ∧ m = xs.length
/-- The slice that begins at 'ao' reads in w as the numbers xs. -/
def RowI (w : World) (ao : Option Addr) (xs : List Int) : Prop :=
  0 < xs.length → ∃ b off, ao = some ⟨b, off, none⟩ ∧ b < w.heap.size ∧ ∀ i, i < xs.length → w.cell? ⟨b, off + i, none⟩ = some (.int .i64 (xs.getD i 0))
theorem RowI.below {w w' : World} {B : Nat} {ao : Option Addr} {xs : List Int} (h : RowI w ao xs) (hb : Below B w w') (hB : w.heap.size ≤ B) : RowI w' ao xs := by
  intro hp
  obtain ⟨b, off, e, hlt, hc⟩ := h hp
  refine ⟨b, off, e, by have := hb.size; omega, fun i hi => ?_⟩
  rw [hb.cell (by show b < B; omega)]
  exact hc i hi
theorem OwnI.row {w : World} {B : Nat} {ao : Option Addr} {m cap : Nat} {xs : List Int} (h : OwnI w B ao m cap xs) : RowI w ao xs := by
  obtain ⟨h1, rfl⟩ := h
  intro hp
  have h1' := h1
  rcases h1.2 with ⟨e, h0⟩ | ⟨g, c, cur, hv, hg, hh, h4, h5, h6, h7⟩
  · omega
  · simp only [Value.slice.injEq] at hv
    obtain ⟨rfl, _, rfl⟩ := hv
    refine ⟨g, 0, rfl, ?_, fun i hi => ?_⟩
    · by_cases hlt : g < w.heap.size
      · exact hlt
      · rw [Array.getElem?_eq_none (by omega)] at hh; simp at hh
    · rw [Nat.zero_add, h1'.cellAt i (by omega)]
      exact icells_at hi
theorem cell_one_new (w : World) (x : Value) (e : TypeId) : ∀ j u, [x][j]? = some u → (w.alloc (.cells #[x] e)).cell? ((⟨w.heap.size, 0, none⟩ : Addr).add j) = some u := by
  intro j u hj
  rw [Addr.add_lit, cell_row (heap_alloc_new w (.cells #[x] e))]
  simpa using hj

set_option maxRecDepth 100000 in
set_option maxHeartbeats 1000000 in
theorem sameInts_same (ao bo : Option Addr) (m c m' c' : Nat) (xs : List Int) (w : World) (h : RowI w ao xs) (h' : RowI w bo xs) (hm : m = xs.length) (hm' : m' = xs.length) (hl : xs.length ≤ 2000000) :
    Calls Tryd.prog 24 #[.slice ao m c, .slice bo m' c'] w fun e w' => e = .returned (.bool true) ∧ ∃ q, w' = w.drewN q := by
  subst hm hm'
  go_enter Tryd.func24, Tryd.ntmps24
  go_wp2_with fail
  go_loopw [5] (fun i wr => ∃ k : Nat, k ≤ xs.length ∧ i = .int .i64 k ∧ ∃ q, wr = w.drewN q) (fun i _ => xs.length - (intOf i).toNat)
  case atStart => exact ⟨0, by omega, rfl, 0, rfl⟩
  case round =>
    obtain ⟨k, hk, rfl, q, rfl⟩ := hrel
    by_cases hlt : k < xs.length
    · obtain ⟨b, off, rfl, hb, hc⟩ := h (by omega)
      obtain ⟨b', off', rfl, hb', hc'⟩ := h' (by omega)
      have hcp := hc k hlt
      have hcp' := hc' k hlt
      obtain ⟨y, hy⟩ : ∃ y, y = xs.getD k 0 := ⟨_, rfl⟩
      rw [← hy] at hcp hcp'
      have hki : (k : Int) < (xs.length : Int) := by omega
      clear hc hc' hy h h'
      go_wp2_with fail
      go_quiet (fail)
      go_wp2_with fail
      go_roundw
      case rel => exact ⟨k + 1, by omega, by go_num, _, rfl⟩
      case measure => simp [intOf]; omega
    · go_wp2_with fail
      go_ret
      exact ⟨rfl, q, rfl⟩
theorem RowI.step {w w' : World} {ao : Option Addr} {xs : List Int} (h : RowI w ao xs) (hb : Below w.heap.size w w') : RowI w' ao xs := h.below hb (Nat.le_refl _)
theorem OwnI.step {w w' : World} {B : Nat} {ao : Option Addr} {m cap : Nat} {xs : List Int} (h : OwnI w B ao m cap xs) (hb : Below w.heap.size w w') : OwnI w' B ao m cap xs := ⟨owns_of_block h.1 fun g hg hlt => hb.block g hlt, h.2⟩
theorem OwnI.mono {w : World} {B C : Nat} {ao : Option Addr} {m cap : Nat} {xs : List Int} (h : OwnI w B ao m cap xs) (hC : C ≤ B) : OwnI w C ao m cap xs := by
  obtain ⟨⟨h0, h1⟩, h2⟩ := h
  refine ⟨⟨h0, ?_⟩, h2⟩
  rcases h1 with h1 | ⟨g, c, cur, hv, hg, r⟩
  · exact .inl h1
  · exact .inr ⟨g, c, cur, hv, Nat.le_trans hC hg, r⟩
theorem ownI_nil (w : World) (B : Nat) : OwnI w B none 0 0 [] := ⟨World.ownsRow_nil _ _ _ _, rfl⟩
theorem own_shapeI {w : World} {B e sz n : Nat} {v : Value} {cs : List Value} (h : w.ownsRow B e sz v n cs) : ∃ ao cap, v = .slice ao n cap := by
  rcases h.2 with ⟨rfl, h0⟩ | ⟨g, c, cur, hv, _⟩
  · exact ⟨none, 0, by rw [h0]⟩
  · exact ⟨_, _, hv⟩
theorem OwnI.le {w : World} {B : Nat} {ao : Option Addr} {m cap : Nat} {xs : List Int} (h : OwnI w B ao m cap xs) : m ≤ cap ∧ cap ≤ 9223372036854775807 := by
  rcases h.1.2 with ⟨e, h0⟩ | ⟨g, c, cur, hv, hg, hh, h4, h5, h6, h7⟩
  · simp only [Value.slice.injEq] at e
    omega
  · simp only [Value.slice.injEq] at hv
    obtain ⟨rfl, _, rfl⟩ := hv
    unfold maxLen at h5
    omega
/-- What the builtin append does to numbers of our own. -/
theorem run_appendI {w : World} {B : Nat} {ao : Option Addr} {n c : Nat} {xs ys : List Int} {y : Addr} {m yc : Nat} (hown : OwnI w B ao n c xs) (hm : ys.length = m) (hs : n + m ≤ 100000) (hB : B ≤ w.heap.size) (h : ∀ j u, (icells ys)[j]? = some u → w.cell? (y.add j) = some u) (ty : TypeId) :
    ∃ ao' c' w', (Builtin.append_ #[22, 22] ty #[.slice ao n c, .slice (some y) m yc]).run Tryd.prog w = .ok (.slice ao' (n + m) c') w' ∧ OwnI w' B ao' (n + m) c' (xs ++ ys) ∧ w.grownBy w' (Value.slice ao n c).ownBlock ∧ Below B w w' := by
  subst hm
  obtain ⟨i0, hi, hz0, hz1, hz2⟩ := info_parts Tryd.info3
  obtain ⟨v', w', hr, ho, hg, _, hat⟩ := run_append_own_at (P := Tryd.prog) w B 22 ty 3 i0 _ 1 8 Tryd.underlying22 hi hz0 hz1 hz2 rfl (by decide) (.slice ao n c) n (icells xs) hown.1 y ys.length yc (icells ys) (by rw [length_icells]; omega) h (by intro u hu; obtain ⟨x, _, rfl⟩ := List.mem_map.1 hu; rfl) (by unfold maxLen; omega) (by omega) hB
  obtain ⟨ao', c', rfl⟩ := own_shapeI ho
  refine ⟨ao', c', w', hr, ⟨?_, by rw [List.length_append, ← hown.2]⟩, hg, (Below.refl B w).grown hg hB (fun j e => (hown.1.lt j e).1)⟩
  have e : icells (xs ++ ys) = icells xs ++ icells ys := by simp [icells]
  rw [e]
  exact ho
end Go.Proofs.YtjacenhblclkaaaDoor
