/- Lemmas and contracts that the law stands on, joined: Base, Sched, Sector, Disk, Power, Reads, Turns, Writes, Syncs, See, See2. -/
import Derived.Test.YtdijgpkcolpfoaaDoorJoin4
import Derived.Deep.RegionHeld3
import Derived.Maps.AppendAt
import Derived.Lib.SliceRun
import Derived.LaidEql
/- Small facts on memory that every later text wants, and what an error of package api is as a value. -/
namespace Go.Proofs.YtdijgpkcolpfoaaDoor
open Go.RowKit
set_option linter.unusedVariables false

theorem lt_of_block {w : World} {g : Nat} {x : Obj} (h : w.heap[g]? = some x) : g < w.heap.size := (Array.getElem?_eq_some_iff.1 h).1
theorem cell_row {w : World} {d : Nat} {c : Array Value} {e : TypeId} (h : w.heap[d]? = some (.cells c e (0, 0))) (o : Nat) : w.cell? ⟨d, o, none⟩ = c[o]? := by
  simp [World.cell?, h]
theorem below_drewN {B : Nat} {a w : World} (h : Below B a w) (n : Nat) : Below B a (w.drewN n) := h.trans ⟨rfl, rfl, rfl, Nat.le_refl _, fun _ _ => rfl⟩
theorem below_drew {B : Nat} {a w : World} (h : Below B a w) : Below B a w.drew := h.trans ⟨rfl, rfl, rfl, Nat.le_refl _, fun _ _ => rfl⟩
theorem of_drew {B : Nat} {w w1 : World} (h : Below B w.drew w1) : Below B w w1 := ⟨h.os, h.tape, h.output, h.size, h.block⟩
/-- An error of package api, as a value. -/
def errV (x : Addr) : Value := .iface 102 (.pointer (some x))
/-- The errors of package api in the document's order: the block of each one's variable. -/
def gno (i : Nat) : Nat := [3, 0, 1, 4, 5, 6, 2, 7, 8, 9, 10, 11, 12, 13, 14, 15, 16, 17].getD i 0
/-- The variables of those errors that ks names hold errors that lie in memory of their own, each another. -/
structure ErrsOf (w : World) (ks : List Nat) (a : Nat → Addr) : Prop where
  cell : ∀ i ∈ ks, w.cell? ⟨gno i, 0, none⟩ = some (errV (a i))
  row : ∀ i ∈ ks, ∃ c t, w.heap[(a i).block]? = some (.cells c t (0, 0))
  ne : ∀ i ∈ ks, ∀ j ∈ ks, i ≠ j → a i ≠ a j
theorem ErrsOf.below {w w' : World} {ks : List Nat} {a : Nat → Addr} (h : ErrsOf w ks a) {B : Nat} (hb : Below B w w') (hB : w.heap.size ≤ B) : ErrsOf w' ks a := by
  refine ⟨fun i hi => ?_, fun i hi => ?_, h.ne⟩
  · have hlt := World.block_lt_of_cell? w _ (h.cell i hi)
    rw [hb.cell (Nat.lt_of_lt_of_le hlt hB)]; exact h.cell i hi
  · obtain ⟨c, t, hr⟩ := h.row i hi
    exact ⟨c, t, by rw [hb.block _ (Nat.lt_of_lt_of_le (lt_of_block hr) hB)]; exact hr⟩
theorem ErrsOf.step {w w' : World} {ks : List Nat} {a : Nat → Addr} (h : ErrsOf w ks a) (hb : Below w.heap.size w w') : ErrsOf w' ks a := h.below hb (Nat.le_refl _)
theorem ErrsOf.drew {w : World} {ks : List Nat} {a : Nat → Addr} (h : ErrsOf w ks a) : ErrsOf w.drew ks a := ⟨h.cell, h.row, h.ne⟩
theorem ErrsOf.alloc {w : World} {ks : List Nat} {a : Nat → Addr} (h : ErrsOf w ks a) (x : Obj) : ErrsOf (w.alloc x) ks a := h.step ((Below.refl _ _).alloc (Nat.le_refl _) x)
theorem ErrsOf.var {w : World} {ks : List Nat} {a : Nat → Addr} (h : ErrsOf w ks a) (i : Nat) {g : Nat} (hi : i ∈ ks) (hg : gno i = g) : w.cell? ⟨g, 0, none⟩ = some (errV (a i)) := by rw [← hg]; exact h.cell i hi
end Go.Proofs.YtdijgpkcolpfoaaDoor

/- A statement that leaves its order open, walked by a list of steps: an operation that only reads what stays, or that is not wanted, may be taken first; where one call alone can come up it is carried out. No Go text here. -/
namespace Go.Proofs.YtdijgpkcolpfoaaDoor
open Go.RowKit
set_option linter.unusedVariables false

/-- The steps may come in this order: (i, true): operation i is taken first; (i, false): i alone can come up. -/
def schedB (ops : Array Oper) : List (Nat × Bool) → Array Bool → Bool
  | [], listed => (Region.ready .any ops listed).isEmpty
  | (i, true) :: r, listed => Region.free .any ops listed i && (Region.ready .any ops listed).contains i && schedB ops r (listed.setIfInBounds i true)
  | (i, false) :: r, listed => decide (Region.ready .any ops listed = [i]) && schedB ops r (listed.setIfInBounds i true)
/-- What the steps must show. -/
def Sched (P : Program) (ops : Array Oper) (Q : Exit → Act → World → Prop) (S : World → Prop) : List (Nat × Bool) → Act → World → Prop
  | [], a, w => Q .normal a w
  | (i, true) :: r, a, w => ∃ oi v, ops[i]? = some oi ∧ YieldsIf P ops S oi v a ∧ Sched P ops Q S r (a.put oi.dst v) w
  | (i, false) :: r, a, w => wpOp P ops Q i (fun a' w' => S w' ∧ Sched P ops Q S r a' w') a w
section
variable {P : Program} {ops : Array Oper} {Q : Exit → Act → World → Prop} {S : World → Prop}
theorem wpAnyH_of_sched (hs : Region.noSelect ops = true) (hQ : ∀ c a d v w, Q (.panic c) (Act.put a d v) w → Q (.panic c) a w) :
    ∀ (steps : List (Nat × Bool)) (listed : Array Bool) (a : Act) (w : World) (fuel : Nat), schedB ops steps listed = true → steps.length ≤ fuel → S w → Sched P ops Q S steps a w → wpAnyH P .any ops Q S fuel listed a w := by
  intro steps
  induction steps with
  | nil =>
    intro listed a w fuel h _ _ hq
    simp only [schedB, List.isEmpty_iff] at h
    exact wpAnyH_done h hq fuel
  | cons s r ih =>
    obtain ⟨i, b⟩ := s
    intro listed a w fuel h hf hS hq
    cases fuel with
    | zero => simp at hf
    | succ fuel =>
      cases b with
      | true =>
        simp only [schedB, Bool.and_eq_true] at h
        obtain ⟨⟨h1, h2⟩, h3⟩ := h
        obtain ⟨oi, v, ho, hy, hr⟩ := hq
        exact wpAnyH_take ho hs h1 h2 (fun c a w => hQ c a _ _ w) hy hS (ih _ _ _ _ h3 (by simp at hf; omega) hS hr)
      | false =>
        simp only [schedB, Bool.and_eq_true, decide_eq_true_eq] at h
        refine wpAnyH_all h.1 (by simp) (fun j hj => ?_)
        simp only [List.mem_singleton] at hj
        subst hj
        exact wpOp_mono (fun a' w' h' => ⟨h'.1, ih _ _ _ _ h.2 (by simp at hf; omega) h'.1 h'.2⟩) hq
theorem region_of_sched {id : Nat} {a : Act} {w : World} (steps : List (Nat × Bool)) (hm : P.follows .mixedOrders = true) (hs : Region.noSelect ops = true) (hb : schedB ops steps (Array.replicate ops.size false) = true) (hl : decide (steps.length ≤ ops.size) = true)
    (hQ : ∀ c a d v w, Q (.panic c) (Act.put a d v) w → Q (.panic c) a w) (hS : S w.drew) (h : Sched P ops Q S steps a w.drew) : (Code.region id ops true).wp P Q a w :=
  wp_region_held_drew hm hS fun hS => wpAnyH_of_sched hs hQ steps _ _ _ _ hb (of_decide_eq_true hl) hS h
theorem sched_nil {a : Act} {w : World} (h : Q .normal a w) : Sched P ops Q S [] a w := h
theorem sched_take {i : Nat} {r : List (Nat × Bool)} {t : List Value} {ds : List Deferred} {w : World} {o : Oper} {v : Value} {d : Tmp} (ho : ops[i]? = some o) (hd : o.dst = some d) (hw : Region.wanted o (yielded ops t.toArray) = true) (hv : ∀ w, S w → (execOp (Act.mk t.toArray ds).eval o).run P w = .ok (.value v) w) (hr : Sched P ops Q S r (Act.mk (t.set d v).toArray ds) w) : Sched P ops Q S ((i, true) :: r) (Act.mk t.toArray ds) w :=
  ⟨o, v, ho, .inl ⟨hw, hv⟩, by rw [hd]; simpa [Act.put] using hr⟩
/-- A call of the program's own function enters it. -/
def Enters (P : Program) (f : FuncId) : Prop := ∀ (args : Array Value) (w : World), (callFunc f args).run P w = .ok (.enter f args) w
theorem enters {f : FuncId} {fn : Func} (hf : P.funcs[f]? = some fn) (hn : (fn.name == "runtime.NumGoroutine") = false) (hb : fn.body.isNone = false) : Enters P f := by
  intro args w
  have hn' : ¬ fn.name = "runtime.NumGoroutine" := by simpa using hn
  have hb' : ¬ fn.body = none := by intro e; rw [e] at hb; simp at hb
  simp [callFunc, run_program, hf, hn', hb']
theorem run_enter {o : Oper} {a : Act} {f : FuncId} {xs : Array Operand} {ts : Array TypeId} (hf : Enters P f) (hop : o.op = .call { callee := .value (.func f), args := xs, argTypes := ts }) (w : World) : (execOp a.eval o).run P w = .ok (.enter f (xs.map a.eval)) w := by
  have h : a.eval (.func f) = .func (.func f) #[] #[] := rfl
  simp [execOp, hop, resolve, h, Deferred.ofValue, invoke, hf (xs.map a.eval) w]
theorem sched_call {i : Nat} {r : List (Nat × Bool)} {t : List Value} {ds : List Deferred} {w : World} {o : Oper} {d : Tmp} {f : FuncId} {ys : List Operand} {ts : Array TypeId} (ho : ops[i]? = some o) (hd : o.dst = some d) (hw : Region.wanted o (yielded ops t.toArray) = true)
    (hop : o.op = .call { callee := .value (.func f), args := ys.toArray, argTypes := ts }) (hf : Enters P f)
    (hc : Calls P f (ys.map (Act.mk t.toArray ds).eval).toArray w fun e w' => ∃ v, e = .returned v ∧ S w' ∧ Sched P ops Q S r (Act.mk (t.set d v).toArray ds) w') : Sched P ops Q S ((i, false) :: r) (Act.mk t.toArray ds) w := by
  show wpOp P ops Q i _ _ w
  unfold wpOp
  rw [ho]
  simp only [hw, if_true]
  refine .inl ?_
  unfold Oper.wp
  rw [run_enter hf hop, List.map_toArray]
  refine hc.mono ?_
  rintro e w' ⟨v, rfl, hS, hr⟩
  refine ⟨hS, ?_⟩
  rw [hd]
  simpa [Act.put] using hr
theorem sched_move {i : Nat} {r : List (Nat × Bool)} {t : List Value} {ds : List Deferred} {w : World} {o : Oper} {d : Tmp} {x : Operand} (v : Value) (ho : ops[i]? = some o) (hd : o.dst = some d) (hw : Region.wanted o (yielded ops t.toArray) = true) (hop : o.op = .move x) (hv : (Act.mk t.toArray ds).eval x = v) (hr : Sched P ops Q S r (Act.mk (t.set d v).toArray ds) w) : Sched P ops Q S ((i, true) :: r) (Act.mk t.toArray ds) w :=
  sched_take ho hd hw (fun w _ => by simp [execOp, hop, hv]) hr
theorem sched_assign {i : Nat} {r : List (Nat × Bool)} {t : List Value} {ds : List Deferred} {w : World} {o : Oper} {d : Tmp} {x : Operand} (v : Value) (ho : ops[i]? = some o) (hd : o.dst = some d) (hw : Region.wanted o (yielded ops t.toArray) = true) (hop : o.op = .assign x) (hv : (Act.mk t.toArray ds).eval x = v) (hr : Sched P ops Q S r (Act.mk (t.set d v).toArray ds) w) : Sched P ops Q S ((i, true) :: r) (Act.mk t.toArray ds) w :=
  sched_take ho hd hw (fun w _ => by simp [execOp, hop, hv]) hr
theorem sched_pick {i : Nat} {r : List (Nat × Bool)} {t : List Value} {ds : List Deferred} {w : World} {o : Oper} {d : Tmp} {c x y : Operand} (b : Bool) (v : Value) (ho : ops[i]? = some o) (hd : o.dst = some d) (hw : Region.wanted o (yielded ops t.toArray) = true) (hop : o.op = .pick c x y) (hc : (Act.mk t.toArray ds).eval c = .bool b) (hv : (bif b then (Act.mk t.toArray ds).eval x else (Act.mk t.toArray ds).eval y) = v) (hr : Sched P ops Q S r (Act.mk (t.set d v).toArray ds) w) : Sched P ops Q S ((i, true) :: r) (Act.mk t.toArray ds) w :=
  sched_take ho hd hw (fun w _ => by cases b <;> simp_all [execOp, asBool]) hr
def isUndef : Value → Bool
  | .tuple x => x.isEmpty
  | _ => false
theorem eq_undef {v : Value} (h : isUndef v = true) : v = undef := by
  cases v <;> simp [isUndef] at h
  subst h; rfl
/-- None of these operations is wanted, and their slots are empty. -/
def skipB (ops : Array Oper) (t : List Value) : List (Nat × Bool) → Bool
  | [] => true
  | (i, _) :: r => (match ops[i]? with
    | none => false
    | some o => !Region.wanted o (yielded ops t.toArray) && (match o.dst with | none => true | some d => isUndef (t.getD d undef))) && skipB ops t r
theorem set_same (t : List Value) (d : Nat) (h : isUndef (t.getD d undef) = true) : t.set d undef = t := by
  refine List.ext_getElem (by simp) fun n h1 h2 => ?_
  rw [List.getElem_set]
  split
  · rename_i e
    subst e
    rw [List.getD_eq_getElem?_getD, List.getElem?_eq_getElem h2] at h
    exact (eq_undef h).symm
  · rfl
theorem sched_skip {t : List Value} {ds : List Deferred} {w : World} {r : List (Nat × Bool)} : ∀ (is : List (Nat × Bool)) (h : skipB ops t is = true) (hS : S w) (hr : Sched P ops Q S r (Act.mk t.toArray ds) w), Sched P ops Q S (is ++ r) (Act.mk t.toArray ds) w := by
  intro is
  induction is with
  | nil => intro _ _ hr; exact hr
  | cons s is ih =>
    obtain ⟨i, b⟩ := s
    intro h hS hr
    simp only [skipB, Bool.and_eq_true] at h
    have hgo := ih h.2 hS hr
    cases ho : ops[i]? with
    | none => simp [ho] at h
    | some o =>
      simp only [ho, Bool.and_eq_true, Bool.not_eq_true'] at h
      obtain ⟨⟨hw, hd⟩, _⟩ := h
      have hp : (Act.mk t.toArray ds).put o.dst undef = Act.mk t.toArray ds := by
        cases hdd : o.dst with
        | none => rfl
        | some d =>
          rw [hdd] at hd
          simp only [Act.put, List.setIfInBounds_toArray, set_same t d hd]
      cases b with
      | true => exact ⟨o, undef, ho, .inr ⟨hw, rfl⟩, by rw [hp]; exact hgo⟩
      | false =>
        show wpOp P ops Q i _ _ w
        unfold wpOp
        rw [ho]
        simp only [hw, Bool.false_eq_true, if_false, hp]
        exact ⟨hS, hgo⟩
end
end Go.Proofs.YtdijgpkcolpfoaaDoor

/- What the methods of a disk's sector, and bytes.Clone, do to memory, at every sector and every list of bytes. -/
namespace Go.Proofs.YtdijgpkcolpfoaaDoor
open Go.RowKit
set_option linter.unusedVariables false

theorem Tryd.info26 : (Tryd.prog.info? 26).map (fun i => (i.zero, i.size, i.bytes)) = some (some (.slice none 0 0), 1, 24) := by kernel_rfl

theorem grown_alloc_at {w w2 : World} {x : Obj} {r : Option Nat} (h : (w.alloc x).grownBy w2 r) {b : Nat} (hb : b < w.heap.size) (hne : r ≠ some b) : w2.heap[b]? = w.heap[b]? :=
  (h.block b (Nat.lt_of_lt_of_le hb (by simp)) (fun e => hne e.symm)).trans (Below.heap_alloc _ _ _ hb)
end Go.Proofs.YtdijgpkcolpfoaaDoor

/- What a disk is in memory: its sectors, each with its versions, and what stays of it while other memory turns. -/
namespace Go.Proofs.YtdijgpkcolpfoaaDoor
open Go.RowKit
set_option linter.unusedVariables false

/-- Of the blocks that K names nothing has turned; no block has gone. -/
structure Kept (K : Nat → Prop) (w w' : World) : Prop where
  os : w'.os = w.os
  tape : w'.tape = w.tape
  output : w'.output = w.output
  size : w.heap.size ≤ w'.heap.size
  block : ∀ k, K k → w'.heap[k]? = w.heap[k]?
theorem Kept.refl (K : Nat → Prop) (w : World) : Kept K w w := ⟨rfl, rfl, rfl, Nat.le_refl _, fun _ _ => rfl⟩
theorem Kept.trans {K : Nat → Prop} {a b c : World} (h : Kept K a b) (k : Kept K b c) : Kept K a c :=
  ⟨k.os.trans h.os, k.tape.trans h.tape, k.output.trans h.output, Nat.le_trans h.size k.size, fun i hi => (k.block i hi).trans (h.block i hi)⟩
theorem Kept.mono {K L : Nat → Prop} {w w' : World} (h : Kept K w w') (hL : ∀ k, L k → K k) : Kept L w w' := ⟨h.os, h.tape, h.output, h.size, fun k hk => h.block k (hL k hk)⟩
theorem Kept.of_below {K : Nat → Prop} {B : Nat} {w w' : World} (h : Below B w w') (hK : ∀ k, K k → k < B) : Kept K w w' := ⟨h.os, h.tape, h.output, h.size, fun k hk => h.block k (hK k hk)⟩
theorem Kept.below {K : Nat → Prop} {B : Nat} {w w' : World} (h : Kept K w w') (hK : ∀ k, k < B → K k) : Below B w w' := ⟨h.os, h.tape, h.output, h.size, fun k hk => h.block k (hK k hk)⟩
theorem Kept.cell {K : Nat → Prop} {w w' : World} (h : Kept K w w') {p : Addr} (hp : K p.block) : w'.cell? p = w.cell? p := World.cell?_of_block (w := w) (h.block p.block hp)
theorem Kept.frozen {K : Nat → Prop} {w w' : World} (h : Kept K w w') {p : Addr} (hp : K p.block) : w'.frozen? p = w.frozen? p := World.frozen?_of_block (w := w) (h.block p.block hp)
theorem Kept.drewN {K : Nat → Prop} {w w' : World} (h : Kept K w w') (n : Nat) : Kept K w (w'.drewN n) := h.trans ⟨rfl, rfl, rfl, Nat.le_refl _, fun _ _ => rfl⟩
theorem Kept.over {K : Nat → Prop} {w w1 w2 : World} (h : Kept K w w1) (hK : ∀ k, K k → k < w1.heap.size) (hb : Below w1.heap.size w1 w2) : Kept K w w2 := h.trans (Kept.of_below hb hK)

/-- A row that is owned stays owned where its block stays. -/
theorem owns_of_block {w w' : World} {B e sz n : Nat} {v : Value} {xs : List Value} (h : w.ownsRow B e sz v n xs) (hb : ∀ g, v.ownBlock = some g → g < w.heap.size → w'.heap[g]? = w.heap[g]?) : w'.ownsRow B e sz v n xs := by
  refine ⟨h.1, ?_⟩
  rcases h.2 with h | ⟨g, cap, cur, rfl, hg, hh, r⟩
  · exact .inl h
  · exact .inr ⟨g, cap, cur, rfl, hg, by rw [hb g rfl (lt_of_block hh)]; exact hh, r⟩
/-- The block of a row that is owned holds its kind of cells. -/
theorem owns_type {w : World} {B e sz n : Nat} {v : Value} {xs : List Value} (h : w.ownsRow B e sz v n xs) {g : Nat} (hg : v.ownBlock = some g) : ∃ cur, w.heap[g]? = some (.cells cur e (0, 0)) := by
  rcases h.2 with ⟨rfl, _⟩ | ⟨g', cap, cur, rfl, _, hh, _⟩
  · simp [Value.ownBlock] at hg
  · simp only [Value.ownBlock, Option.some.injEq] at hg
    subst hg
    exact ⟨cur, hh⟩
theorem Own.of_block {w w' : World} {B : Nat} {ao : Option Addr} {cap : Nat} {xs : List Int} (h : Own w B ao cap xs) (hb : ∀ g, (Value.slice ao xs.length cap).ownBlock = some g → g < w.heap.size → w'.heap[g]? = w.heap[g]?) : Own w' B ao cap xs := ⟨owns_of_block h.1 hb, h.2⟩

/-- A sector: the value that holds its versions, and what they are. -/
structure Sec where
  v : Value
  vs : List Part
def Sec.isIn (w : World) (K : Nat → Prop) (s : Sec) : Prop :=
  w.ownsRow 0 26 1 s.v s.vs.length (s.vs.map Part.val) ∧ 1 ≤ s.vs.length ∧ s.vs.length ≤ 4294967296 ∧ (∀ g, s.v.ownBlock = some g → ¬ K g) ∧
  ∀ p ∈ s.vs, Own w 0 p.ao p.cap p.xs ∧ p.xs.length = 256 ∧ ∀ g, p.val.ownBlock = some g → ¬ K g
/-- The three errors that a disk answers. -/
def Errs (w : World) (K : Nat → Prop) (a : Nat → Addr) : Prop := ∀ i, i < 3 → K (gno i) ∧ w.cell? ⟨gno i, 0, none⟩ = some (errV (a i))
/-- The versions of each sector, as bytes. -/
def vers (ss : List Sec) : List (List (List Int)) := ss.map fun x => x.vs.map (·.xs)
theorem length_vers (ss : List Sec) : (vers ss).length = ss.length := by simp [vers]
end Go.Proofs.YtdijgpkcolpfoaaDoor

/- What a disk's small methods answer: Size, Off, Fuse, has, spend, powerOn, at every disk. -/
namespace Go.Proofs.YtdijgpkcolpfoaaDoor
open Go.RowKit
set_option linter.unusedVariables false

theorem heap_set_same {w : World} {d : Nat} {c : Array Value} {e : TypeId} (h : w.heap[d]? = some (.cells c e (0, 0))) (o : Nat) (v : Value) : (w.setCell ⟨d, o, none⟩ v).heap[d]? = some (.cells (c.setIfInBounds o v) e (0, 0)) := by
  simp [World.setCell, Array.getElem?_modify, h]
theorem frozen_row {w : World} {d : Nat} {c : Array Value} {e : TypeId} (h : w.heap[d]? = some (.cells c e (0, 0))) (o : Nat) : w.frozen? ⟨d, o, none⟩ = false := by
  simp [World.frozen?, h]
/-- Is there a sector i? -/
def hasSec (n : Nat) (i : Int) : Bool := decide (0 ≤ i ∧ i < n)
/-- What a fuse is behind one more that goes through. -/
def burnt (fuse : Int) : Int := if 0 < fuse then fuse - 1 else fuse
end Go.Proofs.YtdijgpkcolpfoaaDoor

/- What a disk's Read and Write answer, at every disk. -/
namespace Go.Proofs.YtdijgpkcolpfoaaDoor
open Go.RowKit
set_option linter.unusedVariables false

/-- The last of a sector's versions. -/
def lastV (vs : List (List Int)) : List Int := vs.getD (vs.length - 1) []
theorem vers_at {ss : List Sec} {i : Nat} {x : Sec} (h : ss[i]? = some x) : (vers ss).getD i [] = x.vs.map (·.xs) := by
  simp [vers, List.getD_eq_getElem?_getD, h]
theorem lastV_of {x : Sec} {p : Part} {n : Nat} (h : x.vs[n]? = some p) (hn : x.vs.length = n + 1) : lastV (x.vs.map (·.xs)) = p.xs := by
  simp only [lastV, List.length_map, hn, Nat.add_sub_cancel, List.getD_eq_getElem?_getD, List.getElem?_map, h]
  rfl
theorem sec_at {ss : List Sec} {k : Nat} (h : k < ss.length) : ∃ x, ss[k]? = some x := ⟨_, List.getElem?_eq_getElem h⟩

end Go.Proofs.YtdijgpkcolpfoaaDoor

/- How a disk's sector turns: a version more, or one version alone; all else stays. -/
namespace Go.Proofs.YtdijgpkcolpfoaaDoor
open Go.RowKit
set_option linter.unusedVariables false

theorem set_secs (ss : List Sec) (i : Nat) (x' : Sec) : (ss.map Sec.v).toArray.setIfInBounds i x'.v = ((ss.set i x').map Sec.v).toArray := by
  simp [List.map_set]
end Go.Proofs.YtdijgpkcolpfoaaDoor

/- What a disk's Write answers, at every disk. -/
namespace Go.Proofs.YtdijgpkcolpfoaaDoor
open Go.RowKit
set_option linter.unusedVariables false

theorem vers_set (ss : List Sec) (i : Nat) (x : Sec) : vers (ss.set i x) = (vers ss).set i (x.vs.map (·.xs)) := by simp [vers, List.map_set]
theorem Own.any {w : World} {B : Nat} {ao : Option Addr} {cap : Nat} {xs : List Int} (h : Own w B ao cap xs) : Own w 0 ao cap xs := h.mono (Nat.zero_le _)

theorem not_low {K : Nat → Prop} {B g' n c : Nat} (low : ∀ k, K k → k < B) (h : B ≤ g') : ∀ g, (Value.slice (some ⟨g', 0, none⟩) n c).ownBlock = some g → ¬ K g := by
  intro g e hk
  simp only [Value.ownBlock, Option.some.injEq] at e
  have := low g hk
  omega

end Go.Proofs.YtdijgpkcolpfoaaDoor

/- What a disk's Sync answers, at every disk. -/
namespace Go.Proofs.YtdijgpkcolpfoaaDoor
open Go.RowKit
set_option linter.unusedVariables false

/-- The first k of a list turned by f, the rest as they are. -/
def syncTo {α : Type} (f : α → α) (k : Nat) (l : List α) : List α := (l.take k).map f ++ l.drop k
theorem syncTo_zero {α : Type} (f : α → α) (l : List α) : syncTo f 0 l = l := by simp [syncTo]
theorem syncTo_all {α : Type} (f : α → α) (l : List α) : syncTo f l.length l = l.map f := by simp [syncTo]
theorem length_syncTo {α : Type} (f : α → α) (k : Nat) (l : List α) : (syncTo f k l).length = l.length := by simp [syncTo]; omega
theorem syncTo_at {α : Type} (f : α → α) (k : Nat) (l : List α) : (syncTo f k l)[k]? = l[k]? := by
  by_cases h : k < l.length
  · rw [syncTo, List.getElem?_append_right (by simp; omega)]
    simp [Nat.min_eq_left (Nat.le_of_lt h)]
  · rw [List.getElem?_eq_none (by rw [length_syncTo]; omega), List.getElem?_eq_none (by omega)]
theorem syncTo_succ {α : Type} (f : α → α) (k : Nat) (l : List α) (x : α) (h : l[k]? = some x) : (syncTo f k l).set k (f x) = syncTo f (k + 1) l := by
  have hk : k < l.length := (List.getElem?_eq_some_iff.1 h).1
  have hx : l[k] = x := (List.getElem?_eq_some_iff.1 h).2
  unfold syncTo
  rw [List.set_append_right _ _ (by simp; omega), List.take_succ_eq_append_getElem hk, List.drop_eq_getElem_cons hk, hx]
  simp [Nat.min_eq_left (Nat.le_of_lt hk)]
theorem vers_get (ss : List Sec) (i : Nat) : (vers ss)[i]? = (ss[i]?).map fun x => x.vs.map (·.xs) := by simp [vers]

theorem Kept.of_drew {K : Nat → Prop} {w w1 : World} (h : Kept K w.drew w1) : Kept K w w1 := ⟨h.os, h.tape, h.output, h.size, h.block⟩
/-- Behind a Sync a sector has its last version alone. -/
def synced (vs : List (List Int)) : List (List Int) := [lastV vs]
theorem sync_step {ss' : List Sec} {k : Nat} {vss : List (List (List Int))} {x : Sec} {p : Part} {n : Nat} {v' : Value} (he : vers ss' = syncTo synced k vss) (hx : ss'[k]? = some x) (hp : x.vs[n]? = some p) (hn : x.vs.length = n + 1) : vers (ss'.set k ⟨v', [p]⟩) = syncTo synced (k + 1) vss := by
  have h1 : (vers ss')[k]? = some (x.vs.map (·.xs)) := by rw [vers_get, hx]; rfl
  rw [he, syncTo_at] at h1
  rw [vers_set, he]
  have h2 := syncTo_succ synced k vss _ h1
  rw [show synced (x.vs.map (·.xs)) = [p.xs] by rw [synced, lastV_of hp hn]] at h2
  exact h2
theorem length_of_vers {ss ss' : List Sec} {f : List (List Int) → List (List Int)} {k : Nat} (h : vers ss' = syncTo f k (vers ss)) : ss'.length = ss.length := by
  have := congrArg List.length h
  rw [length_vers, length_syncTo, length_vers] at this
  exact this
end Go.Proofs.YtdijgpkcolpfoaaDoor

/- What phoenixsee.Is answers of no error and of the errors of package api. -/
namespace Go.Proofs.YtdijgpkcolpfoaaDoor
open Go.RowKit
set_option linter.unusedVariables false

/-- All eighteen, by their places in the document's list. -/
def all18 : List Nat := [0, 1, 2, 3, 4, 5, 6, 7, 8, 9, 10, 11, 12, 13, 14, 15, 16, 17]
theorem mem18 {i : Nat} (h : i < 18) : i ∈ all18 := by
  unfold all18
  simp only [List.mem_cons, List.not_mem_nil, or_false]
  omega
set_option maxHeartbeats 400000 in
theorem bare_any (c : Int) (w : World) : Calls Tryd.prog 31 #[.int .i64 c] w fun e w' => e = .returned (.agg #[.int .i64 c, .bool false, .int .i64 0]) ∧ w' = w.alloc (.cells #[.int .i64 c, .bool false, .int .i64 0] 70) := by
  go_enter Tryd.func31, Tryd.ntmps31
  go_wp2_with fail
  exact bodyPost_ret (v := .agg #[.int .i64 c, .bool false, .int .i64 0]) (by simp [results, Tryd.results31, go_sem]) rfl ⟨rfl, rfl⟩
set_option maxHeartbeats 400000 in
theorem sameFault_any (c : Int) (w : World) : Calls Tryd.prog 48 #[.agg #[.int .i64 c, .bool false, .int .i64 0], .agg #[.int .i64 c, .bool false, .int .i64 0]] w fun e w' => e = .returned (.bool true) ∧ Below w.heap.size w w' := by
  go_enter Tryd.func48, Tryd.ntmps48
  go_wp2_with fail
  go_ret
  exact ⟨rfl, ((Below.refl _ _).alloc (Nat.le_refl _) _).alloc (by simp) _⟩
theorem Tryd.cmp102 : (Tryd.prog.info? 102).map (·.comparable) = some true := by kernel_rfl
theorem Tryd.sz120 : (Tryd.prog.info? 120).map (·.size) = some 1 := by kernel_rfl
theorem eql_same (x : Addr) (w : World) : (binOp .eql 35 (.iface 102 (.pointer (some x))) (.iface 102 (.pointer (some x)))).run Tryd.prog w = .ok (.bool true) w := by
  obtain ⟨i, hi, hc⟩ := Option.map_eq_some_iff.1 Tryd.cmp102
  obtain ⟨j, hj, _⟩ := Option.map_eq_some_iff.1 Tryd.sz120
  exact run_eql_iface_ptr_same w x Tryd.underlying35 Tryd.underlying102 hi hc hj
theorem eql_other {x y : Addr} {w : World} {c c' : Array Value} {t t' : TypeId} (hne : x ≠ y) (hx : w.heap[x.block]? = some (.cells c t (0, 0))) (hy : w.heap[y.block]? = some (.cells c' t' (0, 0))) : (binOp .eql 35 (.iface 102 (.pointer (some x))) (.iface 102 (.pointer (some y)))).run Tryd.prog w = .ok (.bool false) w := by
  obtain ⟨i, hi, hc⟩ := Option.map_eq_some_iff.1 Tryd.cmp102
  obtain ⟨j, hj, hs⟩ := Option.map_eq_some_iff.1 Tryd.sz120
  exact run_eql_iface_ptr_other w Tryd.underlying35 Tryd.underlying102 hi hc hj (by rw [hs]; decide) hne hx hy
set_option maxHeartbeats 400000 in
theorem alike_same (x : Addr) (w : World) : Calls Tryd.prog 63 #[errV x, errV x] w fun e w' => e = .returned (.bool true) ∧ w' = w := by
  unfold errV
  have he := eql_same x w
  go_enter Tryd.func63, Tryd.ntmps63
  go_wp2_with fail
  go_ret
  exact ⟨rfl, rfl⟩
set_option maxHeartbeats 400000 in
theorem alike_other (x y : Addr) (w : World) {c c' : Array Value} {t t' : TypeId} (hne : x ≠ y) (hx : w.heap[x.block]? = some (.cells c t (0, 0))) (hy : w.heap[y.block]? = some (.cells c' t' (0, 0))) : Calls Tryd.prog 63 #[errV x, errV y] w fun e w' => e = .returned (.bool false) ∧ w' = w := by
  unfold errV
  have he := eql_other hne hx hy
  clear hne hx hy
  go_enter Tryd.func63, Tryd.ntmps63
  go_wp2_with fail
  go_ret
  exact ⟨rfl, rfl⟩
/-- The list of all errors, as a block. -/
def errBlock (a : Nat → Addr) : Obj := .cells #[errV (a 0), errV (a 1), errV (a 2), errV (a 3), errV (a 4), errV (a 5), errV (a 6), errV (a 7), errV (a 8), errV (a 9), errV (a 10), errV (a 11), errV (a 12), errV (a 13), errV (a 14), errV (a 15), errV (a 16), errV (a 17)] 35
set_option maxHeartbeats 400000 in
theorem sentinels_any (w : World) (a : Nat → Addr) (h : ErrsOf w all18 a) : Calls Tryd.prog 62 #[] w fun e w' => e = .returned (.slice (some ⟨w.heap.size, 0, none⟩) 18 18) ∧ w' = w.alloc (errBlock a) := by
  have h0 := h.var 0 (g := 3) (mem18 (by omega)) rfl; have h1 := h.var 1 (g := 0) (mem18 (by omega)) rfl; have h2 := h.var 2 (g := 1) (mem18 (by omega)) rfl; have h3 := h.var 3 (g := 4) (mem18 (by omega)) rfl; have h4 := h.var 4 (g := 5) (mem18 (by omega)) rfl; have h5 := h.var 5 (g := 6) (mem18 (by omega)) rfl
  have h6 := h.var 6 (g := 2) (mem18 (by omega)) rfl; have h7 := h.var 7 (g := 7) (mem18 (by omega)) rfl; have h8 := h.var 8 (g := 8) (mem18 (by omega)) rfl; have h9 := h.var 9 (g := 9) (mem18 (by omega)) rfl; have h10 := h.var 10 (g := 10) (mem18 (by omega)) rfl; have h11 := h.var 11 (g := 11) (mem18 (by omega)) rfl
  have h12 := h.var 12 (g := 12) (mem18 (by omega)) rfl; have h13 := h.var 13 (g := 13) (mem18 (by omega)) rfl; have h14 := h.var 14 (g := 14) (mem18 (by omega)) rfl; have h15 := h.var 15 (g := 15) (mem18 (by omega)) rfl; have h16 := h.var 16 (g := 16) (mem18 (by omega)) rfl; have h17 := h.var 17 (g := 17) (mem18 (by omega)) rfl
  clear h
  unfold errBlock
  unfold errV at *
  go_enter Tryd.func62, Tryd.ntmps62
  go_wp2_with fail
  go_ret
  exact ⟨rfl, rfl⟩
theorem err_at {w : World} {a : Nat → Addr} (i : Nat) (hi : i < 18) : (w.alloc (errBlock a)).cell? ⟨w.heap.size, i, none⟩ = some (errV (a i)) := by
  rw [cell_row (heap_alloc_new w (errBlock a))]
  rcases (show i = 0 ∨ i = 1 ∨ i = 2 ∨ i = 3 ∨ i = 4 ∨ i = 5 ∨ i = 6 ∨ i = 7 ∨ i = 8 ∨ i = 9 ∨ i = 10 ∨ i = 11 ∨ i = 12 ∨ i = 13 ∨ i = 14 ∨ i = 15 ∨ i = 16 ∨ i = 17 by omega) with rfl | rfl | rfl | rfl | rfl | rfl | rfl | rfl | rfl | rfl | rfl | rfl | rfl | rfl | rfl | rfl | rfl | rfl <;> rfl
set_option maxHeartbeats 1000000 in
theorem sentinel_any (w : World) (a : Nat → Addr) (i : Nat) (hi : i < 18) (h : ErrsOf w all18 a) : Calls Tryd.prog 59 #[errV (a i)] w fun e w' => e = .returned (.int .i64 (101 + (i : Int))) ∧ w' = w.alloc (errBlock a) := by
  have HE := hide h
  have H2 := hide (h.step ((Below.refl _ _).alloc (Nat.le_refl _) (errBlock a)))
  clear h
  go_enter Tryd.func59, Tryd.ntmps59
  go_wp2_with fail
  refine (sentinels_any w a HE.out).mono ?_
  rintro e w1 ⟨rfl, rfl⟩
  go_wp2_with fail
  go_loop [4] (fun v => ∃ k : Nat, k ≤ i ∧ v = .int .i64 k) (fun v => 18 - (intOf v).toNat)
  case atStart => exact ⟨0, by omega, rfl⟩
  case round =>
    obtain ⟨k, hk, rfl⟩ := hrel
    have hc := err_at (w := w) (a := a) k (by omega)
    have hki : (k : Int) < 18 := by omega
    by_cases e : k = i
    · subst e
      go_wp2_with fail
      refine (alike_same _ _).mono ?_
      rintro e w1 ⟨rfl, rfl⟩
      go_wp2_with fail
      go_ret
      exact ⟨rfl, rfl⟩
    · have hne : a i ≠ a k := by
        exact HE.out.ne i (mem18 (by omega)) k (mem18 (by omega)) (fun h => e h.symm)
      obtain ⟨c, t, hr⟩ := H2.out.row i (mem18 (by omega))
      obtain ⟨c', t', hr'⟩ := H2.out.row k (mem18 (by omega))
      have HR := hide hr
      have HR' := hide hr'
      have HN := hide hne
      clear hr hr' hne
      go_wp2_with fail
      refine (alike_other _ _ _ HN.out HR.out HR'.out).mono ?_
      rintro e w1 ⟨rfl, rfl⟩
      go_wp2_with fail
      go_round
      case rel => exact ⟨k + 1, by omega, by go_num⟩
      case measure => simp [intOf]; omega
theorem Tryd.zero92 : (Tryd.prog.info? 92).map (·.zero) = some (some (.pointer none)) := by kernel_rfl
theorem assert_other (v : Value) (w : World) : (Instr.typeAssert (.iface 102 v) 35 92 true).run Tryd.prog w = .ok (.tuple #[.pointer none, .bool false]) w := by
  obtain ⟨j, hj, hz⟩ := Option.map_eq_some_iff.1 Tryd.zero92
  simp [Instr.typeAssert, run_underlying Tryd.underlying92, zeroValue, typeInfo, hj, hz]
set_option maxHeartbeats 1000000 in
theorem fault_err (w : World) (a : Nat → Addr) (i : Nat) (hi : i < 18) (h : ErrsOf w all18 a) : Calls Tryd.prog 49 #[errV (a i)] w fun e w' => e = .returned (.agg #[.int .i64 (101 + (i : Int)), .bool false, .int .i64 0]) ∧ Below w.heap.size w w' := by
  have HE2 := hide (h.step ((Below.refl _ _).alloc (Nat.le_refl _) (.cells #[.int .i64 0, .bool false, .int .i64 0] 70)))
  clear h
  have hta := assert_other
  show Calls Tryd.prog 49 #[.iface 102 (.pointer (some (a i)))] w _
  go_enter Tryd.func49, Tryd.ntmps49
  go_wp2_with fail
  refine (sentinel_any _ a i hi HE2.out).mono ?_
  rintro e w1 ⟨rfl, rfl⟩
  go_wp2_with fail
  refine (bare_any _ _).mono ?_
  rintro e w1 ⟨rfl, rfl⟩
  go_wp2_with fail
  exact bodyPost_ret (v := .agg #[.int .i64 (101 + (i : Int)), .bool false, .int .i64 0]) (by simp [results, Tryd.results49, go_sem]) rfl ⟨rfl, (((Below.refl _ _).alloc (Nat.le_refl _) _).alloc (by simp) _).alloc (by simp; omega) _⟩
set_option maxHeartbeats 1000000 in
theorem same_err (w : World) (a : Nat → Addr) (i : Nat) (hi : i < 18) (h : ErrsOf w all18 a) : Calls Tryd.prog 30 #[errV (a i), .agg #[.int .i64 (101 + (i : Int)), .bool false, .int .i64 0]] w fun e w' => e = .returned (.bool true) ∧ Below w.heap.size w w' := by
  obtain ⟨c, hc⟩ : ∃ c, c = 101 + (i : Int) := ⟨_, rfl⟩
  have HC := hide hc
  rw [← hc]
  obtain ⟨W, hW⟩ : ∃ W, W = w.alloc (.cells #[.int .i64 c, .bool false, .int .i64 0] 70) := ⟨_, rfl⟩
  have hWr : W.heap[w.heap.size]? = some (.cells #[.int .i64 c, .bool false, .int .i64 0] 70 (0, 0)) := by rw [hW]; exact heap_alloc_new _ _
  have HB : Hid (Below w.heap.size w W) := by show Below _ _ _; rw [hW]; exact (Below.refl _ _).alloc (Nat.le_refl _) _
  have HE := hide (h.step HB.out)
  have HWR := hide hWr
  have h0 : W.cell? ⟨w.heap.size, 0, none⟩ = some (.int .i64 c) := by rw [cell_row hWr]; rfl
  have h1 : W.cell? ⟨w.heap.size, 1, none⟩ = some (.bool false) := by rw [cell_row hWr]; rfl
  have h2 : W.cell? ⟨w.heap.size, 2, none⟩ = some (.int .i64 0) := by rw [cell_row hWr]; rfl
  have hlt := lt_of_block hWr
  have HL0 : Hid ((⟨w.heap.size, 0, none⟩ : Addr).block < W.drew.heap.size) := hlt
  have HL1 : Hid ((⟨w.heap.size, 1, none⟩ : Addr).block < W.drew.heap.size) := hlt
  have HL2 : Hid ((⟨w.heap.size, 2, none⟩ : Addr).block < W.drew.heap.size) := hlt
  have HW := hide hW
  clear h hc hWr hW hlt
  go_enter Tryd.func30, Tryd.ntmps30
  go_wp2_with fail
  rw [← HW.out]
  go_region_held3 (fun w' => w'.cell? ⟨w.heap.size, 0, none⟩ = some (.int .i64 c) ∧ w'.cell? ⟨w.heap.size, 1, none⟩ = some (.bool false) ∧ w'.cell? ⟨w.heap.size, 2, none⟩ = some (.int .i64 0)) (first | go_keep | (refine ⟨?_, ?_, ?_⟩ <;> assumption))
    (first
      | (go_at_call 49; refine (fault_err _ a i hi HE.out.drew).mono ?_; rintro e w2 ⟨rfl, hb2⟩; rw [← HC.out]; have hb2 := of_drew hb2; have k0 := (hb2.cell HL0.out).trans h0; have k1 := (hb2.cell HL1.out).trans h1; have k2 := (hb2.cell HL2.out).trans h2; have hs2 := hb2.size; have HB2 := hide hb2; clear hb2)
      | (go_at_call 48; refine (sameFault_any c _).mono ?_; rintro e w3 ⟨rfl, hb3⟩; have m0 := (hb3.cell (p := ⟨w.heap.size, 0, none⟩) (Nat.lt_of_lt_of_le HL0.out HB2.out.size)).trans k0; have m1 := (hb3.cell (p := ⟨w.heap.size, 1, none⟩) (Nat.lt_of_lt_of_le HL0.out HB2.out.size)).trans k1; have m2 := (hb3.cell (p := ⟨w.heap.size, 2, none⟩) (Nat.lt_of_lt_of_le HL0.out HB2.out.size)).trans k2; have HB3 := hide hb3; clear hb3))
  go_wp2_with fail
  go_ret
  exact ⟨rfl, over (over HB.out HB2.out HB.out.size) HB3.out (Nat.le_trans HB.out.size HB2.out.size)⟩
set_option maxHeartbeats 400000 in
theorem is_err (w : World) (a : Nat → Addr) (i : Nat) (hi : i < 18) (c : Int) (hc : c = 101 + (i : Int)) (h : ErrsOf w all18 a) : Calls Tryd.prog 10 #[errV (a i), .int .i64 c] w fun e w' => e = .returned (.bool true) ∧ Below w.heap.size w w' := by
  have HE := hide (h.step ((Below.refl _ _).alloc (Nat.le_refl _) (.cells #[.int .i64 c, .bool false, .int .i64 0] 70)))
  have HC := hide hc
  clear h hc
  go_enter Tryd.func10, Tryd.ntmps10
  go_wp2_with fail
  refine (bare_any _ _).mono ?_
  rintro e w1 ⟨rfl, rfl⟩
  go_wp2_with fail
  rw [HC.out] at HE ⊢
  refine (same_err _ a i hi HE.out).mono ?_
  rintro e w2 ⟨rfl, hb⟩
  have HB := hide hb
  clear hb
  go_wp2_with fail
  go_ret
  exact ⟨rfl, over ((Below.refl _ _).alloc (Nat.le_refl _) _) HB.out (by simp)⟩
set_option maxHeartbeats 400000 in
theorem none_any (w : World) : Calls Tryd.prog 58 #[] w fun e w' => e = .returned (.agg #[.int .i64 0, .bool false, .int .i64 0]) ∧ w' = w.alloc (.cells #[.int .i64 0, .bool false, .int .i64 0] 70) := by
  go_enter Tryd.func58, Tryd.ntmps58
  go_wp2_with fail
  exact bodyPost_ret (v := .agg #[.int .i64 0, .bool false, .int .i64 0]) (by simp [results, Tryd.results58, go_sem]) rfl ⟨rfl, rfl⟩
set_option maxHeartbeats 400000 in
theorem fault_nil (w : World) : Calls Tryd.prog 49 #[.nilIface] w fun e w' => e = .returned (.agg #[.int .i64 0, .bool false, .int .i64 0]) ∧ Below w.heap.size w w' := by
  go_enter Tryd.func49, Tryd.ntmps49
  go_wp2_with fail
  refine (none_any _).mono ?_
  rintro e w1 ⟨rfl, rfl⟩
  go_wp2_with fail
  exact bodyPost_ret (v := .agg #[.int .i64 0, .bool false, .int .i64 0]) (by simp [results, Tryd.results49, go_sem]) rfl ⟨rfl, ((Below.refl _ _).alloc (Nat.le_refl _) _).alloc (by simp) _⟩
set_option maxHeartbeats 1000000 in
theorem same_nil (w : World) : Calls Tryd.prog 30 #[.nilIface, .agg #[.int .i64 0, .bool false, .int .i64 0]] w fun e w' => e = .returned (.bool true) ∧ Below w.heap.size w w' := by
  obtain ⟨W, hW⟩ : ∃ W, W = w.alloc (.cells #[.int .i64 0, .bool false, .int .i64 0] 70) := ⟨_, rfl⟩
  have hWr : W.heap[w.heap.size]? = some (.cells #[.int .i64 0, .bool false, .int .i64 0] 70 (0, 0)) := by rw [hW]; exact heap_alloc_new _ _
  have HB : Hid (Below w.heap.size w W) := by show Below _ _ _; rw [hW]; exact (Below.refl _ _).alloc (Nat.le_refl _) _
  have HWR := hide hWr
  have h0 : W.cell? ⟨w.heap.size, 0, none⟩ = some (.int .i64 0) := by rw [cell_row hWr]; rfl
  have h1 : W.cell? ⟨w.heap.size, 1, none⟩ = some (.bool false) := by rw [cell_row hWr]; rfl
  have h2 : W.cell? ⟨w.heap.size, 2, none⟩ = some (.int .i64 0) := by rw [cell_row hWr]; rfl
  have hlt := lt_of_block hWr
  have HL0 : Hid ((⟨w.heap.size, 0, none⟩ : Addr).block < W.drew.heap.size) := hlt
  have HL1 : Hid ((⟨w.heap.size, 1, none⟩ : Addr).block < W.drew.heap.size) := hlt
  have HL2 : Hid ((⟨w.heap.size, 2, none⟩ : Addr).block < W.drew.heap.size) := hlt
  have HW := hide hW
  clear hWr hW hlt
  go_enter Tryd.func30, Tryd.ntmps30
  go_wp2_with fail
  rw [← HW.out]
  go_region_held3 (fun w' => w'.cell? ⟨w.heap.size, 0, none⟩ = some (.int .i64 0) ∧ w'.cell? ⟨w.heap.size, 1, none⟩ = some (.bool false) ∧ w'.cell? ⟨w.heap.size, 2, none⟩ = some (.int .i64 0)) (first | go_keep | (refine ⟨?_, ?_, ?_⟩ <;> assumption))
    (first
      | (go_at_call 49; refine (fault_nil _).mono ?_; rintro e w2 ⟨rfl, hb2⟩; have hb2 := of_drew hb2; have k0 := (hb2.cell HL0.out).trans h0; have k1 := (hb2.cell HL1.out).trans h1; have k2 := (hb2.cell HL2.out).trans h2; have hs2 := hb2.size; have HB2 := hide hb2; clear hb2)
      | (go_at_call 48; refine (sameFault_any 0 _).mono ?_; rintro e w3 ⟨rfl, hb3⟩; have m0 := (hb3.cell (p := ⟨w.heap.size, 0, none⟩) (Nat.lt_of_lt_of_le HL0.out HB2.out.size)).trans k0; have m1 := (hb3.cell (p := ⟨w.heap.size, 1, none⟩) (Nat.lt_of_lt_of_le HL0.out HB2.out.size)).trans k1; have m2 := (hb3.cell (p := ⟨w.heap.size, 2, none⟩) (Nat.lt_of_lt_of_le HL0.out HB2.out.size)).trans k2; have HB3 := hide hb3; clear hb3))
  go_wp2_with fail
  go_ret
  exact ⟨rfl, over (over HB.out HB2.out HB.out.size) HB3.out (Nat.le_trans HB.out.size HB2.out.size)⟩
set_option maxHeartbeats 400000 in
theorem is_ok (w : World) : Calls Tryd.prog 10 #[.nilIface, .int .i64 0] w fun e w' => e = .returned (.bool true) ∧ Below w.heap.size w w' := by
  go_enter Tryd.func10, Tryd.ntmps10
  go_wp2_with fail
  refine (bare_any _ _).mono ?_
  rintro e w1 ⟨rfl, rfl⟩
  go_wp2_with fail
  refine (same_nil _).mono ?_
  rintro e w2 ⟨rfl, hb⟩
  have HB := hide hb
  clear hb
  go_wp2_with fail
  go_ret
  exact ⟨rfl, over ((Below.refl _ _).alloc (Nat.le_refl _) _) HB.out (by simp)⟩
end Go.Proofs.YtdijgpkcolpfoaaDoor

/- What phoenixsee.Same answers of an error with a place. -/
namespace Go.Proofs.YtdijgpkcolpfoaaDoor
open Go.RowKit
set_option linter.unusedVariables false

theorem frozen_cells {w : World} {d : Nat} {c : Array Value} {e : TypeId} (h : w.heap[d]? = some (.cells c e (0, 0))) (o : Nat) : w.frozen? ⟨d, o, none⟩ = false := by simp [World.frozen?, h]
/-- A fault as a value. -/
def faultV (c : Int) (p : Bool) (n : Int) : Value := .agg #[.int .i64 c, .bool p, .int .i64 n]
def faultCells (c : Int) (p : Bool) (n : Int) : Obj := .cells #[.int .i64 c, .bool p, .int .i64 n] 70
set_option maxHeartbeats 400000 in
theorem placed_any (c n : Int) (w : World) (hc : c ≠ 0) : Calls Tryd.prog 60 #[.int .i64 c, .int .i64 n] w fun e w' => e = .returned (faultV c true n) ∧ w' = w.alloc (faultCells c true n) := by
  have hc1 : (c == 0) = false := by simpa using hc
  unfold faultV faultCells
  go_enter Tryd.func60, Tryd.ntmps60
  go_wp2_with fail
  exact bodyPost_ret (v := .agg #[.int .i64 c, .bool true, .int .i64 n]) (by simp [results, Tryd.results60, go_sem]) rfl ⟨rfl, rfl⟩
set_option maxHeartbeats 400000 in
theorem sameFault_same (c : Int) (p : Bool) (n : Int) (w : World) : Calls Tryd.prog 48 #[faultV c p n, faultV c p n] w fun e w' => e = .returned (.bool true) ∧ Below w.heap.size w w' := by
  unfold faultV
  go_enter Tryd.func48, Tryd.ntmps48
  cases p
  all_goals
    go_wp2_with fail
    go_ret
    exact ⟨rfl, ((Below.refl _ _).alloc (Nat.le_refl _) _).alloc (by simp) _⟩
/-- An error around another one's place, as a value. -/
def atV (x : Addr) : Value := .iface 92 (.pointer (some x))
theorem assert_at (x : Addr) (w : World) : (Instr.typeAssert (.iface 92 (.pointer (some x))) 35 92 true).run Tryd.prog w = .ok (.tuple #[.pointer (some x), .bool true]) w := by
  simp [Instr.typeAssert, run_underlying Tryd.underlying92]
theorem sentinel_b (w : World) (a : Nat → Addr) (i : Nat) (hi : i < 18) (h : ErrsOf w all18 a) : Calls Tryd.prog 59 #[errV (a i)] w fun e w' => e = .returned (.int .i64 (101 + (i : Int))) ∧ Below w.heap.size w w' := by
  refine (sentinel_any w a i hi h).mono ?_
  rintro e w' ⟨rfl, rfl⟩
  exact ⟨rfl, (Below.refl _ _).alloc (Nat.le_refl _) _⟩
theorem placed_b (c n : Int) (w : World) (hc : c ≠ 0) : Calls Tryd.prog 60 #[.int .i64 c, .int .i64 n] w fun e w' => e = .returned (faultV c true n) ∧ Below w.heap.size w w' := by
  refine (placed_any c n w hc).mono ?_
  rintro e w' ⟨rfl, rfl⟩
  exact ⟨rfl, (Below.refl _ _).alloc (Nat.le_refl _) _⟩
set_option maxRecDepth 100000 in
set_option maxHeartbeats 1000000 in
theorem fault_at (w : World) (a : Nat → Addr) (i : Nat) (hi : i < 18) (b : Nat) (n : Int) (h : ErrsOf w all18 a) (h0 : w.cell? ⟨b, 0, none⟩ = some (.int .i64 n)) (h1 : w.cell? ⟨b, 1, none⟩ = some (errV (a i))) :
    Calls Tryd.prog 49 #[atV ⟨b, 0, none⟩] w fun e w' => e = .returned (faultV (101 + (i : Int)) true n) ∧ Below w.heap.size w w' := by
  obtain ⟨W, hW⟩ : ∃ W, W = w.alloc (faultCells 0 false 0) := ⟨_, rfl⟩
  have HB : Hid (Below w.heap.size w W) := by show Below _ _ _; rw [hW]; exact (Below.refl _ _).alloc (Nat.le_refl _) _
  have hWr : W.heap[w.heap.size]? = some (.cells #[.int .i64 0, .bool false, .int .i64 0] 70 (0, 0)) := by rw [hW]; exact heap_alloc_new _ _
  have HWR := hide hWr
  have HE := hide (h.step HB.out)
  have hlt := World.block_lt_of_cell? w _ h0
  have k0 := (HB.out.cell (p := ⟨b, 0, none⟩) hlt).trans h0
  have k1 : W.cell? ⟨b, 1, none⟩ = some (.iface 102 (.pointer (some (a i)))) := (HB.out.cell (p := ⟨b, 1, none⟩) hlt).trans h1
  have l0 := k0
  have l1 := k1
  rw [hW] at l0 l1
  unfold faultCells at l0 l1
  have HLB : Hid (b < W.heap.size) := Nat.lt_of_lt_of_le hlt HB.out.size
  have HLR : Hid (w.heap.size < W.heap.size) := lt_of_block hWr
  have hne : b ≠ w.heap.size := Nat.ne_of_lt hlt
  have hne' : w.heap.size ≠ b := Ne.symm hne
  have HWE : Hid (w.alloc (.cells #[.int .i64 0, .bool false, .int .i64 0] 70) = W) := hW.symm
  obtain ⟨cd, hcd⟩ : ∃ cd, cd = 101 + (i : Int) := ⟨_, rfl⟩
  have HCD := hide hcd.symm
  have HC : Hid (cd ≠ 0) := by show cd ≠ 0; omega
  rw [← hcd]
  clear h h0 h1 hlt hW hWr hcd
  have hta := assert_at
  unfold atV faultV
  go_enter Tryd.func49, Tryd.ntmps49
  go_wp2_with fail
  clear l0 l1 hta
  rw [HWE.out]
  go_region_held3 (fun w' => w'.cell? ⟨b, 0, none⟩ = some (.int .i64 n) ∧ w'.cell? ⟨b, 1, none⟩ = some (.iface 102 (.pointer (some (a i))))) (first | go_keep | (refine ⟨?_, ?_⟩ <;> assumption))
    (first
      | (go_at_call 59; refine (sentinel_b _ a i hi HE.out.drew).mono ?_; rintro e w2 ⟨rfl, hb2⟩; rw [HCD.out]; have hb2 := of_drew hb2; have m0 := (hb2.cell (p := ⟨b, 0, none⟩) HLB.out).trans k0; have m1 := (hb2.cell (p := ⟨b, 1, none⟩) HLB.out).trans k1; have HB2 := hide hb2; clear hb2)
      | (go_at_call 60; refine (placed_b _ _ _ HC.out).mono ?_; rintro e w3 ⟨rfl, hb3⟩; unfold faultV; have p0 := (hb3.cell (p := ⟨b, 0, none⟩) (Nat.lt_of_lt_of_le HLB.out HB2.out.size)).trans m0; have p1 := (hb3.cell (p := ⟨b, 1, none⟩) (Nat.lt_of_lt_of_le HLB.out HB2.out.size)).trans m1; have hr3 : w3.heap[w.heap.size]? = some (.cells #[.int .i64 0, .bool false, .int .i64 0] 70 (0, 0)) := (hb3.block _ (Nat.lt_of_lt_of_le HLR.out HB2.out.size)).trans ((HB2.out.block _ HLR.out).trans HWR.out); have r0 : w3.cell? ⟨w.heap.size, 0, none⟩ = some (.int .i64 0) := (cell_row hr3 0).trans rfl; have r1 : w3.cell? ⟨w.heap.size, 1, none⟩ = some (.bool false) := (cell_row hr3 1).trans rfl; have r2 : w3.cell? ⟨w.heap.size, 2, none⟩ = some (.int .i64 0) := (cell_row hr3 2).trans rfl; have g0 : w3.frozen? ⟨w.heap.size, 0, none⟩ = false := frozen_cells hr3 0; have g1 : w3.frozen? ⟨w.heap.size, 1, none⟩ = false := frozen_cells hr3 1; have g2 : w3.frozen? ⟨w.heap.size, 2, none⟩ = false := frozen_cells hr3 2; have HB3 := hide (HB2.out.trans (hb3.mono HB2.out.size)); clear hb3 hr3))
  go_wp2_with fail
  exact bodyPost_ret (v := .agg #[.int .i64 cd, .bool true, .int .i64 n]) (by simp [results, Tryd.results49, go_sem, *]) rfl ⟨rfl, (((HB.out.trans (HB3.out.mono HB.out.size)).setCell (p := ⟨w.heap.size, 0, none⟩) (Nat.le_refl _) _).setCell (p := ⟨w.heap.size, 1, none⟩) (Nat.le_refl _) _).setCell (p := ⟨w.heap.size, 2, none⟩) (Nat.le_refl _) _⟩
set_option maxRecDepth 100000 in
set_option maxHeartbeats 1000000 in
theorem same_placed (w : World) (a : Nat → Addr) (i : Nat) (hi : i < 18) (b : Nat) (n c : Int) (hc : c = 101 + (i : Int)) (h : ErrsOf w all18 a) (q0 : w.cell? ⟨b, 0, none⟩ = some (.int .i64 n)) (q1 : w.cell? ⟨b, 1, none⟩ = some (errV (a i))) :
    Calls Tryd.prog 30 #[atV ⟨b, 0, none⟩, faultV c true n] w fun e w' => e = .returned (.bool true) ∧ Below w.heap.size w w' := by
  have HC := hide hc
  obtain ⟨W, hW⟩ : ∃ W, W = w.alloc (.cells #[.int .i64 c, .bool true, .int .i64 n] 70) := ⟨_, rfl⟩
  have hWr : W.heap[w.heap.size]? = some (.cells #[.int .i64 c, .bool true, .int .i64 n] 70 (0, 0)) := by rw [hW]; exact heap_alloc_new _ _
  have HB : Hid (Below w.heap.size w W) := by show Below _ _ _; rw [hW]; exact (Below.refl _ _).alloc (Nat.le_refl _) _
  have HE := hide (h.step HB.out)
  have hlb := World.block_lt_of_cell? w _ q0
  have HQ0 : Hid (W.drew.cell? ⟨b, 0, none⟩ = some (.int .i64 n)) := (HB.out.cell (p := ⟨b, 0, none⟩) hlb).trans q0
  have HQ1 : Hid (W.drew.cell? ⟨b, 1, none⟩ = some (errV (a i))) := (HB.out.cell (p := ⟨b, 1, none⟩) hlb).trans q1
  have h0 : W.cell? ⟨w.heap.size, 0, none⟩ = some (.int .i64 c) := by rw [cell_row hWr]; rfl
  have h1 : W.cell? ⟨w.heap.size, 1, none⟩ = some (.bool true) := by rw [cell_row hWr]; rfl
  have h2 : W.cell? ⟨w.heap.size, 2, none⟩ = some (.int .i64 n) := by rw [cell_row hWr]; rfl
  have hlt := lt_of_block hWr
  have HL0 : Hid ((⟨w.heap.size, 0, none⟩ : Addr).block < W.drew.heap.size) := hlt
  have HL1 : Hid ((⟨w.heap.size, 1, none⟩ : Addr).block < W.drew.heap.size) := hlt
  have HL2 : Hid ((⟨w.heap.size, 2, none⟩ : Addr).block < W.drew.heap.size) := hlt
  have HW := hide hW
  have HSF : Hid (∀ x, Calls Tryd.prog 48 #[.agg #[.int .i64 c, .bool true, .int .i64 n], .agg #[.int .i64 c, .bool true, .int .i64 n]] x fun e w' => e = .returned (.bool true) ∧ Below x.heap.size x w') := fun x => sameFault_same c true n x
  clear h hc hWr hW hlt q0 q1 hlb
  unfold atV faultV
  go_enter Tryd.func30, Tryd.ntmps30
  go_wp2_with fail
  rw [← HW.out]
  go_region_held3 (fun w' => w'.cell? ⟨w.heap.size, 0, none⟩ = some (.int .i64 c) ∧ w'.cell? ⟨w.heap.size, 1, none⟩ = some (.bool true) ∧ w'.cell? ⟨w.heap.size, 2, none⟩ = some (.int .i64 n)) (first | go_keep | (refine ⟨?_, ?_, ?_⟩ <;> assumption))
    (first
      | (go_at_call 49; refine (fault_at _ a i hi b n HE.out.drew HQ0.out HQ1.out).mono ?_; rintro e w2 ⟨rfl, hb2⟩; rw [← HC.out]; unfold faultV; have hb2 := of_drew hb2; have k0 := (hb2.cell HL0.out).trans h0; have k1 := (hb2.cell HL1.out).trans h1; have k2 := (hb2.cell HL2.out).trans h2; have hs2 := hb2.size; have HB2 := hide hb2; clear hb2)
      | (go_at_call 48; refine (HSF.out _).mono ?_; rintro e w3 ⟨rfl, hb3⟩; have m0 := (hb3.cell (p := ⟨w.heap.size, 0, none⟩) (Nat.lt_of_lt_of_le HL0.out HB2.out.size)).trans k0; have m1 := (hb3.cell (p := ⟨w.heap.size, 1, none⟩) (Nat.lt_of_lt_of_le HL0.out HB2.out.size)).trans k1; have m2 := (hb3.cell (p := ⟨w.heap.size, 2, none⟩) (Nat.lt_of_lt_of_le HL0.out HB2.out.size)).trans k2; have HB3 := hide hb3; clear hb3))
  go_wp2_with fail
  go_ret
  exact ⟨rfl, over (over HB.out HB2.out HB.out.size) HB3.out (Nat.le_trans HB.out.size HB2.out.size)⟩
end Go.Proofs.YtdijgpkcolpfoaaDoor
