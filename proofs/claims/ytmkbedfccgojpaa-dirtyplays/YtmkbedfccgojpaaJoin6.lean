/- Lemmas and contracts that the law stands on, joined: Base, Sched. -/
import Derived.Test.YtmkbedfccgojpaaJoin5
import Derived.Deep.RegionHeld3
/- Small facts on memory that every later text wants, and what an error of package api is as a value. -/
namespace Go.Proofs.Ytmkbedfccgojpaa
open Go.RowKit
set_option linter.unusedVariables false

theorem lt_of_block {w : World} {g : Nat} {x : Obj} (h : w.heap[g]? = some x) : g < w.heap.size := (Array.getElem?_eq_some_iff.1 h).1
theorem cell_row {w : World} {d : Nat} {c : Array Value} {e : TypeId} (h : w.heap[d]? = some (.cells c e (0, 0))) (o : Nat) : w.cell? ⟨d, o, none⟩ = c[o]? := by
  simp [World.cell?, h]
theorem below_drewN {B : Nat} {a w : World} (h : Below B a w) (n : Nat) : Below B a (w.drewN n) := h.trans ⟨rfl, rfl, rfl, Nat.le_refl _, fun _ _ => rfl⟩
theorem below_drew {B : Nat} {a w : World} (h : Below B a w) : Below B a w.drew := h.trans ⟨rfl, rfl, rfl, Nat.le_refl _, fun _ _ => rfl⟩
theorem of_drew {B : Nat} {w w1 : World} (h : Below B w.drew w1) : Below B w w1 := ⟨h.os, h.tape, h.output, h.size, h.block⟩
/-- The errors of package api in the document's order: the block of each one's variable. -/
def gno (i : Nat) : Nat := [999, 999, 999, 999, 999, 999, 999, 999, 999, 999, 999, 999, 999, 999, 999, 999, 999, 999].getD i 0
end Go.Proofs.Ytmkbedfccgojpaa

/- A statement that leaves its order open, walked by a list of steps: an operation that only reads what stays, or that is not wanted, may be taken first; where one call alone can come up it is carried out. No Go text here. -/
namespace Go.Proofs.Ytmkbedfccgojpaa
open Go.RowKit
set_option linter.unusedVariables false

/-- The steps may come in this order: (i, true): operation i is taken first; (i, false): i alone can come up. -/
def schedB (ops : Array Oper) : List (Nat × Bool) → Array Bool → Bool
  | [], listed => (Region.ready .any ops listed).isEmpty
  | (i, true) :: r, listed => Region.free .any ops listed i && (Region.ready .any ops listed).contains i && schedB ops r (listed.setIfInBounds i true)
  | (i, false) :: r, listed => decide (Region.ready .any ops listed = [i]) && schedB ops r (listed.setIfInBounds i true)
/-- What the steps must show. -/
def Sched (P : Program) (ops : Array Oper) (Q : Exit → Act → World → Prop) (S : World → Prop) : List (Nat × Bool) → Act → World → Prop
  | [], a, w => Q .normal a w
  | (i, true) :: r, a, w => ∃ oi v, ops[i]? = some oi ∧ YieldsIf P ops S oi v a ∧ Sched P ops Q S r (a.put oi.dst v) w
  | (i, false) :: r, a, w => wpOp P ops Q i (fun a' w' => S w' ∧ Sched P ops Q S r a' w') a w
section
variable {P : Program} {ops : Array Oper} {Q : Exit → Act → World → Prop} {S : World → Prop}
theorem wpAnyH_of_sched (hs : Region.noSelect ops = true) (hQ : ∀ c a d v w, Q (.panic c) (Act.put a d v) w → Q (.panic c) a w) :
    ∀ (steps : List (Nat × Bool)) (listed : Array Bool) (a : Act) (w : World) (fuel : Nat), schedB ops steps listed = true → steps.length ≤ fuel → S w → Sched P ops Q S steps a w → wpAnyH P .any ops Q S fuel listed a w := by
  intro steps
  induction steps with
  | nil =>
    intro listed a w fuel h _ _ hq
    simp only [schedB, List.isEmpty_iff] at h
    exact wpAnyH_done h hq fuel
  | cons s r ih =>
    obtain ⟨i, b⟩ := s
    intro listed a w fuel h hf hS hq
    cases fuel with
    | zero => simp at hf
    | succ fuel =>
      cases b with
      | true =>
        simp only [schedB, Bool.and_eq_true] at h
        obtain ⟨⟨h1, h2⟩, h3⟩ := h
        obtain ⟨oi, v, ho, hy, hr⟩ := hq
        exact wpAnyH_take ho hs h1 h2 (fun c a w => hQ c a _ _ w) hy hS (ih _ _ _ _ h3 (by simp at hf; omega) hS hr)
      | false =>
        simp only [schedB, Bool.and_eq_true, decide_eq_true_eq] at h
        refine wpAnyH_all h.1 (by simp) (fun j hj => ?_)
        simp only [List.mem_singleton] at hj
        subst hj
        exact wpOp_mono (fun a' w' h' => ⟨h'.1, ih _ _ _ _ h.2 (by simp at hf; omega) h'.1 h'.2⟩) hq
theorem region_of_sched {id : Nat} {a : Act} {w : World} (steps : List (Nat × Bool)) (hm : P.follows .mixedOrders = true) (hs : Region.noSelect ops = true) (hb : schedB ops steps (Array.replicate ops.size false) = true) (hl : decide (steps.length ≤ ops.size) = true)
    (hQ : ∀ c a d v w, Q (.panic c) (Act.put a d v) w → Q (.panic c) a w) (hS : S w.drew) (h : Sched P ops Q S steps a w.drew) : (Code.region id ops true).wp P Q a w :=
  wp_region_held_drew hm hS fun hS => wpAnyH_of_sched hs hQ steps _ _ _ _ hb (of_decide_eq_true hl) hS h
theorem sched_nil {a : Act} {w : World} (h : Q .normal a w) : Sched P ops Q S [] a w := h
theorem sched_take {i : Nat} {r : List (Nat × Bool)} {t : List Value} {ds : List Deferred} {w : World} {o : Oper} {v : Value} {d : Tmp} (ho : ops[i]? = some o) (hd : o.dst = some d) (hw : Region.wanted o (yielded ops t.toArray) = true) (hv : ∀ w, S w → (execOp (Act.mk t.toArray ds).eval o).run P w = .ok (.value v) w) (hr : Sched P ops Q S r (Act.mk (t.set d v).toArray ds) w) : Sched P ops Q S ((i, true) :: r) (Act.mk t.toArray ds) w :=
  ⟨o, v, ho, .inl ⟨hw, hv⟩, by rw [hd]; simpa [Act.put] using hr⟩
/-- A call of the program's own function enters it. -/
def Enters (P : Program) (f : FuncId) : Prop := ∀ (args : Array Value) (w : World), (callFunc f args).run P w = .ok (.enter f args) w
theorem enters {f : FuncId} {fn : Func} (hf : P.funcs[f]? = some fn) (hn : (fn.name == "runtime.NumGoroutine") = false) (hb : fn.body.isNone = false) : Enters P f := by
  intro args w
  have hn' : ¬ fn.name = "runtime.NumGoroutine" := by simpa using hn
  have hb' : ¬ fn.body = none := by intro e; rw [e] at hb; simp at hb
  simp [callFunc, run_program, hf, hn', hb']
theorem run_enter {o : Oper} {a : Act} {f : FuncId} {xs : Array Operand} {ts : Array TypeId} (hf : Enters P f) (hop : o.op = .call { callee := .value (.func f), args := xs, argTypes := ts }) (w : World) : (execOp a.eval o).run P w = .ok (.enter f (xs.map a.eval)) w := by
  have h : a.eval (.func f) = .func (.func f) #[] #[] := rfl
  simp [execOp, hop, resolve, h, Deferred.ofValue, invoke, hf (xs.map a.eval) w]
theorem sched_call {i : Nat} {r : List (Nat × Bool)} {t : List Value} {ds : List Deferred} {w : World} {o : Oper} {d : Tmp} {f : FuncId} {ys : List Operand} {ts : Array TypeId} (ho : ops[i]? = some o) (hd : o.dst = some d) (hw : Region.wanted o (yielded ops t.toArray) = true)
    (hop : o.op = .call { callee := .value (.func f), args := ys.toArray, argTypes := ts }) (hf : Enters P f)
    (hc : Calls P f (ys.map (Act.mk t.toArray ds).eval).toArray w fun e w' => ∃ v, e = .returned v ∧ S w' ∧ Sched P ops Q S r (Act.mk (t.set d v).toArray ds) w') : Sched P ops Q S ((i, false) :: r) (Act.mk t.toArray ds) w := by
  show wpOp P ops Q i _ _ w
  unfold wpOp
  rw [ho]
  simp only [hw, if_true]
  refine .inl ?_
  unfold Oper.wp
  rw [run_enter hf hop, List.map_toArray]
  refine hc.mono ?_
  rintro e w' ⟨v, rfl, hS, hr⟩
  refine ⟨hS, ?_⟩
  rw [hd]
  simpa [Act.put] using hr
theorem sched_move {i : Nat} {r : List (Nat × Bool)} {t : List Value} {ds : List Deferred} {w : World} {o : Oper} {d : Tmp} {x : Operand} (v : Value) (ho : ops[i]? = some o) (hd : o.dst = some d) (hw : Region.wanted o (yielded ops t.toArray) = true) (hop : o.op = .move x) (hv : (Act.mk t.toArray ds).eval x = v) (hr : Sched P ops Q S r (Act.mk (t.set d v).toArray ds) w) : Sched P ops Q S ((i, true) :: r) (Act.mk t.toArray ds) w :=
  sched_take ho hd hw (fun w _ => by simp [execOp, hop, hv]) hr
theorem sched_assign {i : Nat} {r : List (Nat × Bool)} {t : List Value} {ds : List Deferred} {w : World} {o : Oper} {d : Tmp} {x : Operand} (v : Value) (ho : ops[i]? = some o) (hd : o.dst = some d) (hw : Region.wanted o (yielded ops t.toArray) = true) (hop : o.op = .assign x) (hv : (Act.mk t.toArray ds).eval x = v) (hr : Sched P ops Q S r (Act.mk (t.set d v).toArray ds) w) : Sched P ops Q S ((i, true) :: r) (Act.mk t.toArray ds) w :=
  sched_take ho hd hw (fun w _ => by simp [execOp, hop, hv]) hr
theorem sched_pick {i : Nat} {r : List (Nat × Bool)} {t : List Value} {ds : List Deferred} {w : World} {o : Oper} {d : Tmp} {c x y : Operand} (b : Bool) (v : Value) (ho : ops[i]? = some o) (hd : o.dst = some d) (hw : Region.wanted o (yielded ops t.toArray) = true) (hop : o.op = .pick c x y) (hc : (Act.mk t.toArray ds).eval c = .bool b) (hv : (bif b then (Act.mk t.toArray ds).eval x else (Act.mk t.toArray ds).eval y) = v) (hr : Sched P ops Q S r (Act.mk (t.set d v).toArray ds) w) : Sched P ops Q S ((i, true) :: r) (Act.mk t.toArray ds) w :=
  sched_take ho hd hw (fun w _ => by cases b <;> simp_all [execOp, asBool]) hr
def isUndef : Value → Bool
  | .tuple x => x.isEmpty
  | _ => false
theorem eq_undef {v : Value} (h : isUndef v = true) : v = undef := by
  cases v <;> simp [isUndef] at h
  subst h; rfl
/-- None of these operations is wanted, and their slots are empty. -/
def skipB (ops : Array Oper) (t : List Value) : List (Nat × Bool) → Bool
  | [] => true
  | (i, _) :: r => (match ops[i]? with
    | none => false
    | some o => !Region.wanted o (yielded ops t.toArray) && (match o.dst with | none => true | some d => isUndef (t.getD d undef))) && skipB ops t r
theorem set_same (t : List Value) (d : Nat) (h : isUndef (t.getD d undef) = true) : t.set d undef = t := by
  refine List.ext_getElem (by simp) fun n h1 h2 => ?_
  rw [List.getElem_set]
  split
  · rename_i e
    subst e
    rw [List.getD_eq_getElem?_getD, List.getElem?_eq_getElem h2] at h
    exact (eq_undef h).symm
  · rfl
theorem sched_skip {t : List Value} {ds : List Deferred} {w : World} {r : List (Nat × Bool)} : ∀ (is : List (Nat × Bool)) (h : skipB ops t is = true) (hS : S w) (hr : Sched P ops Q S r (Act.mk t.toArray ds) w), Sched P ops Q S (is ++ r) (Act.mk t.toArray ds) w := by
  intro is
  induction is with
  | nil => intro _ _ hr; exact hr
  | cons s is ih =>
    obtain ⟨i, b⟩ := s
    intro h hS hr
    simp only [skipB, Bool.and_eq_true] at h
    have hgo := ih h.2 hS hr
    cases ho : ops[i]? with
    | none => simp [ho] at h
    | some o =>
      simp only [ho, Bool.and_eq_true, Bool.not_eq_true'] at h
      obtain ⟨⟨hw, hd⟩, _⟩ := h
      have hp : (Act.mk t.toArray ds).put o.dst undef = Act.mk t.toArray ds := by
        cases hdd : o.dst with
        | none => rfl
        | some d =>
          rw [hdd] at hd
          simp only [Act.put, List.setIfInBounds_toArray, set_same t d hd]
      cases b with
      | true => exact ⟨o, undef, ho, .inr ⟨hw, rfl⟩, by rw [hp]; exact hgo⟩
      | false =>
        show wpOp P ops Q i _ _ w
        unfold wpOp
        rw [ho]
        simp only [hw, Bool.false_eq_true, if_false, hp]
        exact ⟨hS, hgo⟩
end
end Go.Proofs.Ytmkbedfccgojpaa
