/- Lemmas and contracts that the law stands on, joined: RecCheck, RecMake, RecBytes, RecFirst, RecRead, RecGood, RecGood2, RecGood3. -/
import Derived.Test.YtdijgpkcolpfoaaDoorJoin6
import Derived.Test.YtdijgpkcolpfoaaDoorJoin5
import Derived.Laws.BytesArg
import Derived.Laws.StructEq
/- What rec.Check answers: no error of a record that may be, ErrRange of every other. -/
namespace Go.Proofs.YtdijgpkcolpfoaaDoor
open Go.RowKit
set_option linter.unusedVariables false

/-- A record and a span lie in memory, cell by cell. -/
structure Cells12 (w : World) (B : Nat) (r : R) : Prop where
  c0 : w.cell? ⟨B, 0, none⟩ = some (.int .i64 r.kind)
  c1 : w.cell? ⟨B, 1, none⟩ = some (.int .i64 r.txn)
  c2 : w.cell? ⟨B, 2, none⟩ = some (.int .i64 r.page)
  c3 : w.cell? ⟨B, 3, none⟩ = some (.int .i64 r.prev)
  c4 : w.cell? ⟨B, 4, none⟩ = some (.int .i64 r.next)
  c5 : w.cell? ⟨B, 5, none⟩ = some (.int .i64 r.key)
  c6 : w.cell? ⟨B, 6, none⟩ = some (.bool r.had)
  c7 : w.cell? ⟨B, 7, none⟩ = some (.bool r.has)
  c8 : w.cell? ⟨B, 8, none⟩ = some (.int .i64 r.old)
  c9 : w.cell? ⟨B, 9, none⟩ = some (.int .i64 r.new)
  s0 : w.cell? ⟨B + 1, 0, none⟩ = some (.int .i64 1)
  s1 : w.cell? ⟨B + 1, 1, none⟩ = some (.int .i64 10)
  lt : B + 1 < w.heap.size
theorem Cells12.below {w w' : World} {B n : Nat} {r : R} (h : Cells12 w B r) (hb : Below n w w') (hn : w.heap.size ≤ n) : Cells12 w' B r := by
  have hl := h.lt
  have h0 : ∀ o, w'.cell? ⟨B, o, none⟩ = w.cell? ⟨B, o, none⟩ := fun o => hb.cell (show B < n by omega)
  have h1 : ∀ o, w'.cell? ⟨B + 1, o, none⟩ = w.cell? ⟨B + 1, o, none⟩ := fun o => hb.cell (show B + 1 < n by omega)
  exact ⟨(h0 _).trans h.c0, (h0 _).trans h.c1, (h0 _).trans h.c2, (h0 _).trans h.c3, (h0 _).trans h.c4, (h0 _).trans h.c5, (h0 _).trans h.c6, (h0 _).trans h.c7, (h0 _).trans h.c8, (h0 _).trans h.c9, (h1 _).trans h.s0, (h1 _).trans h.s1, Nat.lt_of_lt_of_le hl hb.size⟩
/-- What rec.Check answers. -/
def checkV (r : R) (x : Addr) : Value := if goodB r then .nilIface else errV x
theorem checkV_bad {r : R} {x : Addr} (h : goodB r = false) : checkV r x = errV x := by simp [checkV, h]
theorem checkV_good {r : R} {x : Addr} (h : goodB r = true) : checkV r x = .nilIface := by simp [checkV, h]
theorem ret_bad {r : R} {x : Addr} (h : goodB r = false) : Ending.returned (.iface 102 (.pointer (some x))) = .returned (checkV r x) := by rw [checkV_bad h]; rfl
theorem ret_good {r : R} {x : Addr} (h : goodB r = true) : Ending.returned .nilIface = .returned (checkV r x) := by rw [checkV_good h]
theorem run_fa (f : Nat) (hf : f < 10) (B : Nat) (w : World) : (Instr.fieldAt 60 (.pointer (some ⟨B, 0, none⟩)) f).run Tryd.prog w = .ok (.pointer (some ⟨B, f, none⟩)) w := by
  match f, hf with
  | 0, _ => go_simp
  | 1, _ => go_simp
  | 2, _ => go_simp
  | 3, _ => go_simp
  | 4, _ => go_simp
  | 5, _ => go_simp
  | 6, _ => go_simp
  | 7, _ => go_simp
  | 8, _ => go_simp
  | 9, _ => go_simp
theorem take_fa {S : World → Prop} {o : Oper} {a : Act} {x : Operand} {B : Nat} (f : Nat) (hf : f < 10) (hop : o.op = .fieldAddr 60 x f) (ha : a.eval x = .pointer (some ⟨B, 0, none⟩)) : ∀ w, S w → (execOp a.eval o).run Tryd.prog w = .ok (.value (.pointer (some ⟨B, f, none⟩))) w := by
  intro w _
  simp [execOp, hop, ha, run_fa f hf B w]
theorem run_ld {n : Int} {p : Addr} {w : World} (h : w.cell? p = some (.int .i64 n)) : (Instr.loadAt 3 (.pointer (some p))).run Tryd.prog w = .ok (.int .i64 n) w := by go_simp
theorem take_ld {S : World → Prop} {o : Oper} {a : Act} {x : Operand} {p : Addr} {n : Int} (hop : o.op = .load 3 x) (ha : a.eval x = .pointer (some p)) (hc : ∀ w, S w → w.cell? p = some (.int .i64 n)) : ∀ w, S w → (execOp a.eval o).run Tryd.prog w = .ok (.value (.int .i64 n)) w := by
  intro w hS
  simp [execOp, hop, ha, run_ld (hc w hS)]
theorem run_ldR {B : Nat} {w : World} {r : R} (h : Cells12 w B r) : (Instr.loadAt 60 (.pointer (some ⟨B, 0, none⟩))).run Tryd.prog w = .ok r.val w := by
  obtain ⟨k0, k1, k2, k3, k4, k5, k6, k7, k8, k9, k10, k11, kl⟩ := h
  unfold R.val
  go_simp
theorem take_ldR {B : Nat} {r : R} {o : Oper} {a : Act} {x : Operand} (hop : o.op = .load 60 x) (ha : a.eval x = .pointer (some ⟨B, 0, none⟩)) : ∀ w, Cells12 w B r → (execOp a.eval o).run Tryd.prog w = .ok (.value r.val) w := by
  intro w hS
  simp [execOp, hop, ha, run_ldR hS]
end Go.Proofs.YtdijgpkcolpfoaaDoor

/- What phoenixmake.Rec makes out of a list of numbers: a record that may be; only the list's own counter is written. -/
namespace Go.Proofs.YtdijgpkcolpfoaaDoor
open Go.RowKit
set_option linter.unusedVariables false

/-- A list of numbers that is taken one by one lies at block s. -/
structure SeqAt (w : World) (s : Nat) (lo : Option Addr) (len cap : Nat) (zs : List Int) (n : Nat) : Prop where
  lies : w.heap[s]? = some (.cells #[.slice lo len cap, .int .i64 n] 31 (0, 0))
  row : ∀ i, i < len → ∃ b off, lo = some ⟨b, off, none⟩ ∧ b < s ∧ w.cell? ⟨b, off + i, none⟩ = some (.int .i64 (zs.getD i 0))
  small : n ≤ 1000 ∧ len ≤ 500
/-- Of all blocks that were there none but s has turned. -/
structure But (s : Nat) (w w' : World) : Prop where
  os : w'.os = w.os
  tape : w'.tape = w.tape
  output : w'.output = w.output
  size : w.heap.size ≤ w'.heap.size
  block : ∀ k, k < w.heap.size → k ≠ s → w'.heap[k]? = w.heap[k]?
theorem But.refl (s : Nat) (w : World) : But s w w := ⟨rfl, rfl, rfl, Nat.le_refl _, fun _ _ _ => rfl⟩
theorem But.trans {s : Nat} {a b c : World} (h : But s a b) (k : But s b c) : But s a c :=
  ⟨k.os.trans h.os, k.tape.trans h.tape, k.output.trans h.output, Nat.le_trans h.size k.size, fun i hi hs => (k.block i (Nat.lt_of_lt_of_le hi h.size) hs).trans (h.block i hi hs)⟩
theorem But.of_below {s : Nat} {a b : World} (h : Below a.heap.size a b) : But s a b := ⟨h.os, h.tape, h.output, h.size, fun k hk _ => h.block k hk⟩
theorem But.below {s : Nat} {a b : World} (h : But s a b) (hs : s ≤ a.heap.size) : Below s a b := ⟨h.os, h.tape, h.output, h.size, fun k hk => h.block k (Nat.lt_of_lt_of_le hk hs) (Nat.ne_of_lt hk)⟩
theorem But.alloc {s : Nat} {a b : World} (h : But s a b) (A : Obj) : But s a (b.alloc A) := h.trans (But.of_below ((Below.refl _ _).alloc (Nat.le_refl _) A))
theorem But.set (s : Nat) (w : World) (o : Nat) (v : Value) (q : Nat) : But s w ((w.setCell ⟨s, o, none⟩ v).drewN q) := by
  refine ⟨rfl, rfl, rfl, ?_, fun k hk hs => ?_⟩
  · show w.heap.size ≤ (w.setCell _ _).heap.size; simp [World.setCell]
  · show (w.setCell _ _).heap[k]? = _
    simp only [World.setCell, Array.getElem?_modify]
    rw [if_neg (fun e => hs e.symm)]
theorem seq_cell {w : World} {s : Nat} {lo : Option Addr} {len cap : Nat} {zs : List Int} {n : Nat} (h : SeqAt w s lo len cap zs n) : w.cell? ⟨s, 0, none⟩ = some (.slice lo len cap) ∧ w.cell? ⟨s, 1, none⟩ = some (.int .i64 n) := by
  constructor <;> (simp only [World.cell?, h.lies]; rfl)
theorem set_block {w : World} {s : Nat} {c : Array Value} {t : TypeId} (h : w.heap[s]? = some (.cells c t (0, 0))) (o : Nat) (v : Value) : (w.setCell ⟨s, o, none⟩ v).heap[s]? = some (.cells (c.setIfInBounds o v) t (0, 0)) := by
  simp [World.setCell, Array.getElem?_modify, h]
theorem SeqAt.next {w : World} {s : Nat} {lo : Option Addr} {len cap : Nat} {zs : List Int} {n : Nat} (h : SeqAt w s lo len cap zs n) (hn : n + 1 ≤ 1000) (q : Nat) : SeqAt ((w.setCell ⟨s, 1, none⟩ (.int .i64 ((n + 1 : Nat) : Int))).drewN q) s lo len cap zs (n + 1) := by
  refine ⟨?_, fun i hi => ?_, hn, h.small.2⟩
  · exact set_block h.lies 1 _
  · obtain ⟨b, off, rfl, hb, hc⟩ := h.row i hi
    refine ⟨b, off, rfl, hb, ?_⟩
    have hB : Below s w (w.setCell ⟨s, 1, none⟩ (.int .i64 ((n + 1 : Nat) : Int))) := (Below.refl s w).setCell (p := ⟨s, 1, none⟩) (Nat.le_refl _) _
    exact (hB.cell (show b < s from hb)).trans hc
set_option maxHeartbeats 1000000 in
theorem next_any (s : Nat) (lo : Option Addr) (len cap : Nat) (zs : List Int) (n : Nat) (m : Int) (w : World) (h : SeqAt w s lo len cap zs n) (h0 : 0 < m) (h1 : m ≤ 100000) :
    Calls Tryd.prog 26 #[.pointer (some ⟨s, 0, none⟩), .int .i64 m] w fun e w' => ∃ k q, e = .returned (.int .i64 k) ∧ (0 ≤ k ∧ k < m) ∧ w' = (w.setCell ⟨s, 1, none⟩ (.int .i64 ((n + 1 : Nat) : Int))).drewN q := by
  obtain ⟨c0, c1⟩ := seq_cell h
  have hsm := h.small
  have hf : w.frozen? ⟨s, 1, none⟩ = false := by simp [World.frozen?, h.lies]
  obtain ⟨hs1, hs2⟩ := hsm
  by_cases hlt : n < len
  · obtain ⟨b, off, rfl, hb, hc⟩ := h.row n hlt
    have hlt' : (n : Int) < (len : Int) := by omega
    have hd : decide ((n : Int) < (len : Int)) = true := by simp; omega
    clear h
    obtain ⟨y, hy⟩ : ∃ y, y = zs.getD n 0 := ⟨_, rfl⟩
    rw [← hy] at hc
    clear hy
    go_enter Tryd.func26, Tryd.ntmps26
    go_wp2_with fail
    go_quiet (fail)
    go_wp2_with fail
    go_quiet (fail)
    go_wp2_with fail
    refine (number_any _ _ _ h0 h1).mono ?_
    rintro e w2 ⟨rfl, rfl⟩
    have hnb := numberB_bd y m h0
    go_wp2_with fail
    go_ret
    exact ⟨_, _, rfl, hnb, rfl⟩
  · have hd : decide ((n : Int) < (len : Int)) = false := by simp; omega
    clear h
    go_enter Tryd.func26, Tryd.ntmps26
    go_wp2_with fail
    go_quiet (fail)
    go_wp2_with fail
    refine (number_any _ _ _ h0 h1).mono ?_
    rintro e w2 ⟨rfl, rfl⟩
    have hnb := numberB_bd 0 m h0
    go_wp2_with fail
    go_ret
    exact ⟨_, _, rfl, hnb, rfl⟩
theorem set_alloc (x : World) (A : Obj) (p : Addr) (v : Value) (h : p.block < x.heap.size) : (x.alloc A).setCell p v = (x.setCell p v).alloc A := by
  unfold World.setCell World.alloc
  simp only
  congr 1
  refine Array.ext (by simp) fun i h1 h2 => ?_
  simp only [Array.getElem_modify, Array.getElem_push, Array.size_modify]
  by_cases e : i < x.heap.size
  · simp [e]
  · have : ¬ p.block = i := by omega
    simp [e, this]
theorem SeqAt.alloc {w : World} {s : Nat} {lo : Option Addr} {len cap : Nat} {zs : List Int} {n : Nat} (h : SeqAt w s lo len cap zs n) (A : Obj) : SeqAt (w.alloc A) s lo len cap zs n := by
  have hb := (Below.refl w.heap.size w).alloc (Nat.le_refl _) A
  have hlt := lt_of_block h.lies
  refine ⟨by rw [hb.block _ hlt]; exact h.lies, fun i hi => ?_, h.small⟩
  obtain ⟨b, off, e, hbs, hc⟩ := h.row i hi
  exact ⟨b, off, e, hbs, (hb.cell (show b < w.heap.size by omega)).trans hc⟩
theorem next_one (x : World) (A : Obj) (N s : Nat) (lo : Option Addr) (len cap : Nat) (zs : List Int) (n : Nat) (m : Int) (h : SeqAt x s lo len cap zs n) (hN : x.heap.size = N) (h0 : 0 < m) (h1 : m ≤ 100000) (hn : n < 1000) :
    Calls Tryd.prog 26 #[.pointer (some ⟨s, 0, none⟩), .int .i64 m] (x.alloc A) fun e w' => ∃ k x', e = .returned (.int .i64 k) ∧ (0 ≤ k ∧ k < m) ∧ w' = x'.alloc A ∧ SeqAt x' s lo len cap zs (n + 1) ∧ x'.heap.size = N ∧ But s x x' := by
  refine (next_any s lo len cap zs n m _ (h.alloc A) h0 h1).mono ?_
  rintro e w' ⟨k, q, rfl, hk, rfl⟩
  refine ⟨k, (x.setCell ⟨s, 1, none⟩ (.int .i64 ((n + 1 : Nat) : Int))).drewN q, rfl, hk, ?_, h.next (by omega) q, ?_, ?_⟩
  · rw [set_alloc x A _ _ (lt_of_block h.lies)]; rfl
  · rw [← hN]; show (x.setCell _ _).heap.size = _; simp [World.setCell]
  · exact But.set s x 1 _ q
theorem next_two (x : World) (A B : Obj) (N s : Nat) (lo : Option Addr) (len cap : Nat) (zs : List Int) (n : Nat) (m : Int) (h : SeqAt x s lo len cap zs n) (hN : x.heap.size = N) (h0 : 0 < m) (h1 : m ≤ 100000) (hn : n < 1000) :
    Calls Tryd.prog 26 #[.pointer (some ⟨s, 0, none⟩), .int .i64 m] ((x.alloc A).alloc B) fun e w' => ∃ k x', e = .returned (.int .i64 k) ∧ (0 ≤ k ∧ k < m) ∧ w' = (x'.alloc A).alloc B ∧ SeqAt x' s lo len cap zs (n + 1) ∧ x'.heap.size = N ∧ But s x x' := by
  refine (next_any s lo len cap zs n m _ ((h.alloc A).alloc B) h0 h1).mono ?_
  rintro e w' ⟨k, q, rfl, hk, rfl⟩
  refine ⟨k, (x.setCell ⟨s, 1, none⟩ (.int .i64 ((n + 1 : Nat) : Int))).drewN q, rfl, hk, ?_, h.next (by omega) q, ?_, ?_⟩
  · have hlt := lt_of_block h.lies
    rw [set_alloc (x.alloc A) B _ _ (by simp; omega), set_alloc x A _ _ hlt]; rfl
  · rw [← hN]; show (x.setCell _ _).heap.size = _; simp [World.setCell]
  · exact But.set s x 1 _ q
theorem good_of {r : R} (h : holdsB 1 10 r.kind = true ∧ holdsB (txnLo r.kind) (txnHi r.kind) r.txn = true ∧ holdsB (pageLo r.kind) (pageHi r.kind) r.page = true ∧ holdsB (prevLo r.kind) (prevHi r.kind) r.prev = true ∧ holdsB 0 (nextHi r.kind) r.next = true ∧ holdsB 0 (keyHi r.kind) r.key = true ∧ oldB r = true) (h' : (newB r && chgB r) = true) : goodB r = true := by
  unfold goodB
  obtain ⟨h1, h2, h3, h4, h5, h6, h7⟩ := h
  rw [h1, h2, h3, h4, h5, h6, h7, h']
  rfl
end Go.Proofs.YtdijgpkcolpfoaaDoor

/- What rec.Bytes answers: ErrRange of a record that may not be; else its forty bytes, in new memory. -/
namespace Go.Proofs.YtdijgpkcolpfoaaDoor
open Go.RowKit
set_option linter.unusedVariables false

/-- A list and an error, as what a function hands back. -/
theorem bytes_len (l cap : Nat) (ao : Option Addr) (xs : List Int) (a s n : Int) (w : World) (h : Row w ao xs) (hl : xs.length = l) (ha : -9223372036854775808 ≤ a) (ha' : a ≤ 9223372036854775807) (hn : 0 ≤ n) (hn' : n ≤ 18446744073709551615) :
    Calls Tryd.prog 29 #[.slice ao l cap, .int .i64 a, .int .i64 s, .int .u64 n] w fun e w' => e = .returned (.slice (some ⟨w.heap.size, 0, none⟩) l l) ∧ Own w' w.heap.size (some ⟨w.heap.size, 0, none⟩) l (putB xs a n (widthB s).toNat) ∧ Below w.heap.size w w' := by subst hl; exact put_any ao cap xs a s n w h ha ha' hn hn'
theorem fill_nil : fillB [] 40 = List.replicate 40 0 := by decide
theorem u64_wrap (n : Int) : IntKind.u64.wrap n = u64 n := by rw [IntKind.wrap_u64]; rfl
/-- A record lies in memory, cell by cell. -/
structure Cells10 (w : World) (B : Nat) (r : R) : Prop where
  c0 : w.cell? ⟨B, 0, none⟩ = some (.int .i64 r.kind)
  c1 : w.cell? ⟨B, 1, none⟩ = some (.int .i64 r.txn)
  c2 : w.cell? ⟨B, 2, none⟩ = some (.int .i64 r.page)
  c3 : w.cell? ⟨B, 3, none⟩ = some (.int .i64 r.prev)
  c4 : w.cell? ⟨B, 4, none⟩ = some (.int .i64 r.next)
  c5 : w.cell? ⟨B, 5, none⟩ = some (.int .i64 r.key)
  c6 : w.cell? ⟨B, 6, none⟩ = some (.bool r.had)
  c7 : w.cell? ⟨B, 7, none⟩ = some (.bool r.has)
  c8 : w.cell? ⟨B, 8, none⟩ = some (.int .i64 r.old)
  c9 : w.cell? ⟨B, 9, none⟩ = some (.int .i64 r.new)
  lt : B < w.heap.size
theorem Cells10.below {w w' : World} {B n : Nat} {r : R} (h : Cells10 w B r) (hb : Below n w w') (hn : w.heap.size ≤ n) : Cells10 w' B r := by
  have hl := h.lt
  have h0 : ∀ o, w'.cell? ⟨B, o, none⟩ = w.cell? ⟨B, o, none⟩ := fun o => hb.cell (show B < n by omega)
  exact ⟨(h0 _).trans h.c0, (h0 _).trans h.c1, (h0 _).trans h.c2, (h0 _).trans h.c3, (h0 _).trans h.c4, (h0 _).trans h.c5, (h0 _).trans h.c6, (h0 _).trans h.c7, (h0 _).trans h.c8, (h0 _).trans h.c9, Nat.lt_of_lt_of_le hl hb.size⟩
/-- A record's block. -/
def recCells (r : R) : Obj := .cells #[.int .i64 r.kind, .int .i64 r.txn, .int .i64 r.page, .int .i64 r.prev, .int .i64 r.next, .int .i64 r.key, .bool r.had, .bool r.has, .int .i64 r.old, .int .i64 r.new] 60
theorem cells10_new (w : World) (r : R) : Cells10 (w.alloc (recCells r)) w.heap.size r := by
  unfold recCells
  constructor <;> simp

end Go.Proofs.YtdijgpkcolpfoaaDoor

/- The chapter's examples on records, as the statements ask them first: they hold, and nothing that was there is written. -/
namespace Go.Proofs.YtdijgpkcolpfoaaDoor
open Go.RowKit
set_option linter.unusedVariables false

def ckBegin : R := ⟨7, 0, 0, 0, 0, 0, false, false, 0, 0⟩
def emptyRec : R := ⟨0, 0, 0, 0, 0, 0, false, false, 0, 0⟩
theorem ck_good : goodB ckBegin = true := by decide
theorem empty_bad : goodB emptyRec = false := by decide
theorem ck_first : (recB ckBegin).getD 0 0 = 7 := by decide +kernel
end Go.Proofs.YtdijgpkcolpfoaaDoor

/- What rec.Read and rec.Same answer: the record whose bytes they are, or why there is none; whether two are the same. -/
namespace Go.Proofs.YtdijgpkcolpfoaaDoor
open Go.RowKit
set_option linter.unusedVariables false

theorem str_eq {xs ys : List Int} (hx : Bytes xs) (hy : Bytes ys) : ((strOfNums xs).toList == (strOfNums ys).toList) = sameB xs ys := by
  have hinj : ∀ a b : Int, 0 ≤ a → a ≤ 255 → 0 ≤ b → b ≤ 255 → UInt8.ofNat a.toNat = UInt8.ofNat b.toNat → a = b := by
    intro a b a0 a1 b0 b1 h
    have h2 := congrArg UInt8.toNat h
    simp only [UInt8.toNat_ofNat'] at h2
    omega
  have hmap : ∀ xs ys : List Int, Bytes xs → Bytes ys → (xs.map fun n => UInt8.ofNat n.toNat) = (ys.map fun n => UInt8.ofNat n.toNat) → xs = ys := by
    intro xs
    induction xs with
    | nil => intro ys _ _ h; cases ys with | nil => rfl | cons y ys => simp at h
    | cons x xs ih =>
      intro ys hx hy h
      cases ys with
      | nil => simp at h
      | cons y ys =>
        simp only [List.map_cons, List.cons.injEq] at h
        have h0 := hx x (by simp)
        have h1 := hy y (by simp)
        rw [hinj x y h0.1 h0.2 h1.1 h1.2 h.1, ih ys (fun z hz => hx z (by simp [hz])) (fun z hz => hy z (by simp [hz])) h.2]
  unfold sameB
  rw [ByteArray.toList_eq, ByteArray.toList_eq, strOfNums_data, strOfNums_data]
  by_cases h : xs = ys
  · simp [h]
  · rw [decide_eq_false h, beq_eq_false_iff_ne]
    exact fun e => h (hmap xs ys hx hy e)
set_option maxHeartbeats 400000 in
theorem equal_any (ao : Option Addr) (n cap : Nat) (xs : List Int) (bo : Option Addr) (n' cap' : Nat) (ys : List Int) (w : World) (h : Row w ao xs) (h' : Row w bo ys) (hn : xs.length = n) (hn' : ys.length = n') (h0 : 0 < n) (h0' : 0 < n') :
    Calls Tryd.prog 35 #[.slice ao n cap, .slice bo n' cap'] w fun e w' => e = .returned (.bool (sameB xs ys)) ∧ w' = w := by
  obtain ⟨b, off, rfl, _, hc⟩ := h.2.2 (by omega)
  obtain ⟨b', off', rfl, _, hc'⟩ := h'.2.2 (by omega)
  have k1 := run_convert_bytes_arg (P := Tryd.prog) w 26 5 Tryd.underlying26 Tryd.underlying5 b off n cap xs hn (fun i hi => hc i (by omega)) 9 Tryd.underlying9
  have k2 := run_convert_bytes_arg (P := Tryd.prog) w 26 5 Tryd.underlying26 Tryd.underlying5 b' off' n' cap' ys hn' (fun i hi => hc' i (by omega)) 9 Tryd.underlying9
  have HE := hide (str_eq h.2.1 h'.2.1)
  clear hc hc' h h'
  go_enter Tryd.func35, Tryd.ntmps35
  go_wp2_with fail
  go_ret
  exact ⟨ret_bool HE.out, rfl⟩
theorem and_one (m : Int) (h0 : 0 ≤ m) (h1 : m ≤ 255) : (bits .and .u64 m 1 != 0) = decide (m % 2 = 1) := by
  have hk : ∀ n : Fin 256, (bits .and .u64 ((n : Nat) : Int) 1 != 0) = decide (((n : Nat) : Int) % 2 = 1) := by decide +kernel
  have := hk ⟨m.toNat, by omega⟩
  rwa [show (((⟨m.toNat, by omega⟩ : Fin 256) : Nat) : Int) = m by simp; omega] at this
theorem and_two (m : Int) (h0 : 0 ≤ m) (h1 : m ≤ 255) : (bits .and .u64 m 2 != 0) = decide (m / 2 % 2 = 1) := by
  have hk : ∀ n : Fin 256, (bits .and .u64 ((n : Nat) : Int) 2 != 0) = decide (((n : Nat) : Int) / 2 % 2 = 1) := by decide +kernel
  have := hk ⟨m.toNat, by omega⟩
  rwa [show (((⟨m.toNat, by omega⟩ : Fin 256) : Nat) : Int) = m by simp; omega] at this
theorem i64_wrap (n : Int) (h : 0 ≤ n ∧ n ≤ 18446744073709551615) : wrap64 n = i64 n := by
  unfold wrap64 i64
  split <;> omega
theorem get_at (ao : Option Addr) (n cap : Nat) (xs : List Int) (a s : Int) (w : World) (h : Row w ao xs) (hn : xs.length = n) (ha : -9223372036854775808 ≤ a) (ha' : a ≤ 9223372036854775807) :
    Calls Tryd.prog 51 #[.slice ao n cap, .int .i64 a, .int .i64 s] w fun e w' => e = .returned (.int .u64 (getB xs a (widthB s).toNat)) ∧ w' = w := by subst hn; exact get_any ao cap xs a s w h ha ha'
theorem getB_lt (xs : List Int) (hb : Bytes xs) (a : Int) (k : Nat) : 0 ≤ getB xs a k ∧ getB xs a k < 256 ^ k := num_bd k fun j => hb.byte _
/-- The errors that rec.Read can meet: their variables. -/
structure ReadErrs (w : World) (x y z : Addr) : Prop where
  range : w.cell? ⟨0, 0, none⟩ = some (errV x)
  short : w.cell? ⟨1, 0, none⟩ = some (errV y)
  rc : w.cell? ⟨4, 0, none⟩ = some (errV z)
theorem ReadErrs.step {w w' : World} {x y z : Addr} (h : ReadErrs w x y z) (hb : Below w.heap.size w w') : ReadErrs w' x y z :=
  ⟨(hb.cell (World.block_lt_of_cell? w _ h.range)).trans h.range, (hb.cell (World.block_lt_of_cell? w _ h.short)).trans h.short, (hb.cell (World.block_lt_of_cell? w _ h.rc)).trans h.rc⟩
def noRec : R := ⟨0, 0, 0, 0, 0, 0, false, false, 0, 0⟩
def zeroCells : Obj := .cells #[.int .i64 0, .int .i64 0, .int .i64 0, .int .i64 0, .int .i64 0, .int .i64 0, .bool false, .bool false, .int .i64 0, .int .i64 0] 60
/-- The block of a record that holds nothing yet. -/
structure ZeroAt (w : World) (B : Nat) : Prop where
  lies : w.heap[B]? = some (.cells #[.int .i64 0, .int .i64 0, .int .i64 0, .int .i64 0, .int .i64 0, .int .i64 0, .bool false, .bool false, .int .i64 0, .int .i64 0] 60 (0, 0))
theorem ZeroAt.below {w w' : World} {B n : Nat} (h : ZeroAt w B) (hb : Below n w w') (hn : w.heap.size ≤ n) : ZeroAt w' B := ⟨by rw [hb.block _ (Nat.lt_of_lt_of_le (lt_of_block h.lies) hn)]; exact h.lies⟩
theorem zero_lies (w : World) : ZeroAt (w.alloc zeroCells) w.heap.size := ⟨by unfold zeroCells; exact heap_alloc_new _ _⟩
theorem frozen_at {w : World} {d : Nat} {c : Array Value} {e : TypeId} (h : w.heap[d]? = some (.cells c e (0, 0))) (o : Nat) : w.frozen? ⟨d, o, none⟩ = false := by
  simp [World.frozen?, h]
theorem below_sets {B : Nat} {a w : World} (h : Below B a w) (v0 v1 v2 v3 v4 v5 v6 v7 v8 v9 : Value) : Below B a ((((((((((w.setCell ⟨B, 0, none⟩ v0).setCell ⟨B, 1, none⟩ v1).setCell ⟨B, 2, none⟩ v2).setCell ⟨B, 3, none⟩ v3).setCell ⟨B, 4, none⟩ v4).setCell ⟨B, 5, none⟩ v5).setCell ⟨B, 6, none⟩ v6).setCell ⟨B, 7, none⟩ v7).setCell ⟨B, 8, none⟩ v8).setCell ⟨B, 9, none⟩ v9) :=
  (((((((((h.setCell (Nat.le_refl _) v0).setCell (Nat.le_refl _) v1).setCell (Nat.le_refl _) v2).setCell (Nat.le_refl _) v3).setCell (Nat.le_refl _) v4).setCell (Nat.le_refl _) v5).setCell (Nat.le_refl _) v6).setCell (Nat.le_refl _) v7).setCell (Nat.le_refl _) v8).setCell (Nat.le_refl _) v9
end Go.Proofs.YtdijgpkcolpfoaaDoor

/- What the document's own GoodRec answers: the same as rec.Check. -/
namespace Go.Proofs.YtdijgpkcolpfoaaDoor
open Go.RowKit
set_option linter.unusedVariables false

theorem holds00 (n : Int) : holdsB 0 0 n = (n == 0) := by
  unfold holdsB
  by_cases h : n = 0
  · simp [h]
  · have : (n == 0) = false := by simpa using h
    rw [this, Bool.and_eq_false_iff]
    by_cases h0 : 0 ≤ n
    · exact .inr (decide_eq_false (by omega))
    · exact .inl (decide_eq_false h0)
theorem good1 (txn page prev next key : Int) (had has : Bool) (old new : Int) : goodB ⟨1, txn, page, prev, next, key, had, has, old, new⟩ = (holdsB 1 60000 txn && (holdsB 0 0 page && (holdsB 0 0 prev && (holdsB 0 0 next && (holdsB 0 0 key && ((!had && (old == 0)) && ((!has && (new == 0)) && true))))))) := rfl
theorem good2 (txn page prev next key : Int) (had has : Bool) (old new : Int) : goodB ⟨2, txn, page, prev, next, key, had, has, old, new⟩ = (holdsB 1 60000 txn && (holdsB 1 32 page && (holdsB 0 1073741824 prev && (holdsB 0 0 next && (holdsB 0 1048575 key && ((had || (old == 0)) && ((has || (new == 0)) && (had || has)))))))) := rfl
theorem good3 (txn page prev next key : Int) (had has : Bool) (old new : Int) : goodB ⟨3, txn, page, prev, next, key, had, has, old, new⟩ = (holdsB 1 60000 txn && (holdsB 1 32 page && (holdsB 0 1073741824 prev && (holdsB 0 1073741824 next && (holdsB 0 1048575 key && ((had && (decide (1 ≤ old) && decide (old ≤ 1073741824))) && ((has || (new == 0)) && true))))))) := rfl
end Go.Proofs.YtdijgpkcolpfoaaDoor

/- What the document's own GoodRec answers: the same as rec.Check. -/
namespace Go.Proofs.YtdijgpkcolpfoaaDoor
open Go.RowKit
set_option linter.unusedVariables false

theorem good4 (txn page prev next key : Int) (had has : Bool) (old new : Int) : goodB ⟨4, txn, page, prev, next, key, had, has, old, new⟩ = (holdsB 1 60000 txn && (holdsB 0 0 page && (holdsB 0 1073741824 prev && (holdsB 0 0 next && (holdsB 0 0 key && ((!had && (old == 0)) && ((!has && (new == 0)) && true))))))) := rfl
theorem good5 (txn page prev next key : Int) (had has : Bool) (old new : Int) : goodB ⟨5, txn, page, prev, next, key, had, has, old, new⟩ = (holdsB 1 60000 txn && (holdsB 0 0 page && (holdsB 0 1073741824 prev && (holdsB 0 0 next && (holdsB 0 0 key && ((!had && (old == 0)) && ((!has && (new == 0)) && true))))))) := rfl
theorem good6 (txn page prev next key : Int) (had has : Bool) (old new : Int) : goodB ⟨6, txn, page, prev, next, key, had, has, old, new⟩ = (holdsB 1 60000 txn && (holdsB 0 0 page && (holdsB 0 1073741824 prev && (holdsB 0 0 next && (holdsB 0 0 key && ((!had && (old == 0)) && ((!has && (new == 0)) && true))))))) := rfl
theorem good7 (txn page prev next key : Int) (had has : Bool) (old new : Int) : goodB ⟨7, txn, page, prev, next, key, had, has, old, new⟩ = (holdsB 0 0 txn && (holdsB 0 0 page && (holdsB 0 0 prev && (holdsB 0 0 next && (holdsB 0 0 key && ((!had && (old == 0)) && ((!has && (new == 0)) && true))))))) := rfl
end Go.Proofs.YtdijgpkcolpfoaaDoor

/- What the document's own GoodRec answers: the same as rec.Check. -/
namespace Go.Proofs.YtdijgpkcolpfoaaDoor
open Go.RowKit
set_option linter.unusedVariables false

theorem good8 (txn page prev next key : Int) (had has : Bool) (old new : Int) : goodB ⟨8, txn, page, prev, next, key, had, has, old, new⟩ = (holdsB 1 60000 txn && (holdsB 0 0 page && (holdsB 0 1073741824 prev && (holdsB 0 1073741824 next && (holdsB 0 2 key && ((!had && (old == 0)) && ((!has && (new == 0)) && true))))))) := rfl
theorem good9 (txn page prev next key : Int) (had has : Bool) (old new : Int) : goodB ⟨9, txn, page, prev, next, key, had, has, old, new⟩ = (holdsB 0 0 txn && (holdsB 1 32 page && (holdsB 1 1073741824 prev && (holdsB 0 0 next && (holdsB 0 0 key && ((!had && (old == 0)) && ((!has && (new == 0)) && true))))))) := rfl
theorem good10 (txn page prev next key : Int) (had has : Bool) (old new : Int) : goodB ⟨10, txn, page, prev, next, key, had, has, old, new⟩ = (holdsB 0 0 txn && (holdsB 0 0 page && (holdsB 0 0 prev && (holdsB 0 60000 next && (holdsB 0 0 key && ((!had && (old == 0)) && ((!has && (new == 0)) && true))))))) := rfl
end Go.Proofs.YtdijgpkcolpfoaaDoor
