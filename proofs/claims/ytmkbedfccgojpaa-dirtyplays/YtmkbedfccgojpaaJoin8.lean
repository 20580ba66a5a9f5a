/- Lemmas and contracts that the law stands on, joined: RecCheck, RecMake, RecBytes, RecFirst, RecRead. -/
import Derived.Test.YtmkbedfccgojpaaJoin7
import Derived.Test.YtmkbedfccgojpaaJoin6
import Derived.Laws.BytesArg
import Derived.Laws.StructEq
/- What rec.Check answers: no error of a record that may be, ErrRange of every other. -/
namespace Go.Proofs.Ytmkbedfccgojpaa
open Go.RowKit
set_option linter.unusedVariables false

/-- A record and a span lie in memory, cell by cell. -/
structure Cells12 (w : World) (B : Nat) (r : R) : Prop where
  c0 : w.cell? ⟨B, 0, none⟩ = some (.int .i64 r.kind)
  c1 : w.cell? ⟨B, 1, none⟩ = some (.int .i64 r.txn)
  c2 : w.cell? ⟨B, 2, none⟩ = some (.int .i64 r.page)
  c3 : w.cell? ⟨B, 3, none⟩ = some (.int .i64 r.prev)
  c4 : w.cell? ⟨B, 4, none⟩ = some (.int .i64 r.next)
  c5 : w.cell? ⟨B, 5, none⟩ = some (.int .i64 r.key)
  c6 : w.cell? ⟨B, 6, none⟩ = some (.bool r.had)
  c7 : w.cell? ⟨B, 7, none⟩ = some (.bool r.has)
  c8 : w.cell? ⟨B, 8, none⟩ = some (.int .i64 r.old)
  c9 : w.cell? ⟨B, 9, none⟩ = some (.int .i64 r.new)
  s0 : w.cell? ⟨B + 1, 0, none⟩ = some (.int .i64 1)
  s1 : w.cell? ⟨B + 1, 1, none⟩ = some (.int .i64 10)
  lt : B + 1 < w.heap.size
theorem Cells12.below {w w' : World} {B n : Nat} {r : R} (h : Cells12 w B r) (hb : Below n w w') (hn : w.heap.size ≤ n) : Cells12 w' B r := by
  have hl := h.lt
  have h0 : ∀ o, w'.cell? ⟨B, o, none⟩ = w.cell? ⟨B, o, none⟩ := fun o => hb.cell (show B < n by omega)
  have h1 : ∀ o, w'.cell? ⟨B + 1, o, none⟩ = w.cell? ⟨B + 1, o, none⟩ := fun o => hb.cell (show B + 1 < n by omega)
  exact ⟨(h0 _).trans h.c0, (h0 _).trans h.c1, (h0 _).trans h.c2, (h0 _).trans h.c3, (h0 _).trans h.c4, (h0 _).trans h.c5, (h0 _).trans h.c6, (h0 _).trans h.c7, (h0 _).trans h.c8, (h0 _).trans h.c9, (h1 _).trans h.s0, (h1 _).trans h.s1, Nat.lt_of_lt_of_le hl hb.size⟩
theorem run_ld {n : Int} {p : Addr} {w : World} (h : w.cell? p = some (.int .i64 n)) : (Instr.loadAt 3 (.pointer (some p))).run Try.prog w = .ok (.int .i64 n) w := by go_simp
theorem take_ld {S : World → Prop} {o : Oper} {a : Act} {x : Operand} {p : Addr} {n : Int} (hop : o.op = .load 3 x) (ha : a.eval x = .pointer (some p)) (hc : ∀ w, S w → w.cell? p = some (.int .i64 n)) : ∀ w, S w → (execOp a.eval o).run Try.prog w = .ok (.value (.int .i64 n)) w := by
  intro w hS
  simp [execOp, hop, ha, run_ld (hc w hS)]
end Go.Proofs.Ytmkbedfccgojpaa

/- What phoenixmake.Rec makes out of a list of numbers: a record that may be; only the list's own counter is written. -/
namespace Go.Proofs.Ytmkbedfccgojpaa
open Go.RowKit
set_option linter.unusedVariables false

/-- Of all blocks that were there none but s has turned. -/
structure But (s : Nat) (w w' : World) : Prop where
  os : w'.os = w.os
  tape : w'.tape = w.tape
  output : w'.output = w.output
  size : w.heap.size ≤ w'.heap.size
  block : ∀ k, k < w.heap.size → k ≠ s → w'.heap[k]? = w.heap[k]?
theorem But.refl (s : Nat) (w : World) : But s w w := ⟨rfl, rfl, rfl, Nat.le_refl _, fun _ _ _ => rfl⟩
theorem But.trans {s : Nat} {a b c : World} (h : But s a b) (k : But s b c) : But s a c :=
  ⟨k.os.trans h.os, k.tape.trans h.tape, k.output.trans h.output, Nat.le_trans h.size k.size, fun i hi hs => (k.block i (Nat.lt_of_lt_of_le hi h.size) hs).trans (h.block i hi hs)⟩
theorem But.of_below {s : Nat} {a b : World} (h : Below a.heap.size a b) : But s a b := ⟨h.os, h.tape, h.output, h.size, fun k hk _ => h.block k hk⟩
theorem But.below {s : Nat} {a b : World} (h : But s a b) (hs : s ≤ a.heap.size) : Below s a b := ⟨h.os, h.tape, h.output, h.size, fun k hk => h.block k (Nat.lt_of_lt_of_le hk hs) (Nat.ne_of_lt hk)⟩
theorem But.alloc {s : Nat} {a b : World} (h : But s a b) (A : Obj) : But s a (b.alloc A) := h.trans (But.of_below ((Below.refl _ _).alloc (Nat.le_refl _) A))
theorem But.set (s : Nat) (w : World) (o : Nat) (v : Value) (q : Nat) : But s w ((w.setCell ⟨s, o, none⟩ v).drewN q) := by
  refine ⟨rfl, rfl, rfl, ?_, fun k hk hs => ?_⟩
  · show w.heap.size ≤ (w.setCell _ _).heap.size; simp [World.setCell]
  · show (w.setCell _ _).heap[k]? = _
    simp only [World.setCell, Array.getElem?_modify]
    rw [if_neg (fun e => hs e.symm)]
theorem set_block {w : World} {s : Nat} {c : Array Value} {t : TypeId} (h : w.heap[s]? = some (.cells c t (0, 0))) (o : Nat) (v : Value) : (w.setCell ⟨s, o, none⟩ v).heap[s]? = some (.cells (c.setIfInBounds o v) t (0, 0)) := by
  simp [World.setCell, Array.getElem?_modify, h]
theorem set_alloc (x : World) (A : Obj) (p : Addr) (v : Value) (h : p.block < x.heap.size) : (x.alloc A).setCell p v = (x.setCell p v).alloc A := by
  unfold World.setCell World.alloc
  simp only
  congr 1
  refine Array.ext (by simp) fun i h1 h2 => ?_
  simp only [Array.getElem_modify, Array.getElem_push, Array.size_modify]
  by_cases e : i < x.heap.size
  · simp [e]
  · have : ¬ p.block = i := by omega
    simp [e, this]
theorem good_of {r : R} (h : holdsB 1 10 r.kind = true ∧ holdsB (txnLo r.kind) (txnHi r.kind) r.txn = true ∧ holdsB (pageLo r.kind) (pageHi r.kind) r.page = true ∧ holdsB (prevLo r.kind) (prevHi r.kind) r.prev = true ∧ holdsB 0 (nextHi r.kind) r.next = true ∧ holdsB 0 (keyHi r.kind) r.key = true ∧ oldB r = true) (h' : (newB r && chgB r) = true) : goodB r = true := by
  unfold goodB
  obtain ⟨h1, h2, h3, h4, h5, h6, h7⟩ := h
  rw [h1, h2, h3, h4, h5, h6, h7, h']
  rfl
end Go.Proofs.Ytmkbedfccgojpaa

/- What rec.Bytes answers: ErrRange of a record that may not be; else its forty bytes, in new memory. -/
namespace Go.Proofs.Ytmkbedfccgojpaa
open Go.RowKit
set_option linter.unusedVariables false

theorem fill_nil : fillB [] 40 = List.replicate 40 0 := by decide
theorem u64_wrap (n : Int) : IntKind.u64.wrap n = u64 n := by rw [IntKind.wrap_u64]; rfl
/-- A record lies in memory, cell by cell. -/
structure Cells10 (w : World) (B : Nat) (r : R) : Prop where
  c0 : w.cell? ⟨B, 0, none⟩ = some (.int .i64 r.kind)
  c1 : w.cell? ⟨B, 1, none⟩ = some (.int .i64 r.txn)
  c2 : w.cell? ⟨B, 2, none⟩ = some (.int .i64 r.page)
  c3 : w.cell? ⟨B, 3, none⟩ = some (.int .i64 r.prev)
  c4 : w.cell? ⟨B, 4, none⟩ = some (.int .i64 r.next)
  c5 : w.cell? ⟨B, 5, none⟩ = some (.int .i64 r.key)
  c6 : w.cell? ⟨B, 6, none⟩ = some (.bool r.had)
  c7 : w.cell? ⟨B, 7, none⟩ = some (.bool r.has)
  c8 : w.cell? ⟨B, 8, none⟩ = some (.int .i64 r.old)
  c9 : w.cell? ⟨B, 9, none⟩ = some (.int .i64 r.new)
  lt : B < w.heap.size
theorem Cells10.below {w w' : World} {B n : Nat} {r : R} (h : Cells10 w B r) (hb : Below n w w') (hn : w.heap.size ≤ n) : Cells10 w' B r := by
  have hl := h.lt
  have h0 : ∀ o, w'.cell? ⟨B, o, none⟩ = w.cell? ⟨B, o, none⟩ := fun o => hb.cell (show B < n by omega)
  exact ⟨(h0 _).trans h.c0, (h0 _).trans h.c1, (h0 _).trans h.c2, (h0 _).trans h.c3, (h0 _).trans h.c4, (h0 _).trans h.c5, (h0 _).trans h.c6, (h0 _).trans h.c7, (h0 _).trans h.c8, (h0 _).trans h.c9, Nat.lt_of_lt_of_le hl hb.size⟩
end Go.Proofs.Ytmkbedfccgojpaa

/- The chapter's examples on records, as the statements ask them first: they hold, and nothing that was there is written. -/
namespace Go.Proofs.Ytmkbedfccgojpaa
open Go.RowKit
set_option linter.unusedVariables false

def ckBegin : R := ⟨7, 0, 0, 0, 0, 0, false, false, 0, 0⟩
def emptyRec : R := ⟨0, 0, 0, 0, 0, 0, false, false, 0, 0⟩
theorem ck_good : goodB ckBegin = true := by decide
theorem empty_bad : goodB emptyRec = false := by decide
theorem ck_first : (recB ckBegin).getD 0 0 = 7 := by decide +kernel
end Go.Proofs.Ytmkbedfccgojpaa

/- What rec.Read and rec.Same answer: the record whose bytes they are, or why there is none; whether two are the same. -/
namespace Go.Proofs.Ytmkbedfccgojpaa
open Go.RowKit
set_option linter.unusedVariables false

theorem str_eq {xs ys : List Int} (hx : Bytes xs) (hy : Bytes ys) : ((strOfNums xs).toList == (strOfNums ys).toList) = sameB xs ys := by
  have hinj : ∀ a b : Int, 0 ≤ a → a ≤ 255 → 0 ≤ b → b ≤ 255 → UInt8.ofNat a.toNat = UInt8.ofNat b.toNat → a = b := by
    intro a b a0 a1 b0 b1 h
    have h2 := congrArg UInt8.toNat h
    simp only [UInt8.toNat_ofNat'] at h2
    omega
  have hmap : ∀ xs ys : List Int, Bytes xs → Bytes ys → (xs.map fun n => UInt8.ofNat n.toNat) = (ys.map fun n => UInt8.ofNat n.toNat) → xs = ys := by
    intro xs
    induction xs with
    | nil => intro ys _ _ h; cases ys with | nil => rfl | cons y ys => simp at h
    | cons x xs ih =>
      intro ys hx hy h
      cases ys with
      | nil => simp at h
      | cons y ys =>
        simp only [List.map_cons, List.cons.injEq] at h
        have h0 := hx x (by simp)
        have h1 := hy y (by simp)
        rw [hinj x y h0.1 h0.2 h1.1 h1.2 h.1, ih ys (fun z hz => hx z (by simp [hz])) (fun z hz => hy z (by simp [hz])) h.2]
  unfold sameB
  rw [ByteArray.toList_eq, ByteArray.toList_eq, strOfNums_data, strOfNums_data]
  by_cases h : xs = ys
  · simp [h]
  · rw [decide_eq_false h, beq_eq_false_iff_ne]
    exact fun e => h (hmap xs ys hx hy e)
theorem and_one (m : Int) (h0 : 0 ≤ m) (h1 : m ≤ 255) : (bits .and .u64 m 1 != 0) = decide (m % 2 = 1) := by
  have hk : ∀ n : Fin 256, (bits .and .u64 ((n : Nat) : Int) 1 != 0) = decide (((n : Nat) : Int) % 2 = 1) := by decide +kernel
  have := hk ⟨m.toNat, by omega⟩
  rwa [show (((⟨m.toNat, by omega⟩ : Fin 256) : Nat) : Int) = m by simp; omega] at this
theorem and_two (m : Int) (h0 : 0 ≤ m) (h1 : m ≤ 255) : (bits .and .u64 m 2 != 0) = decide (m / 2 % 2 = 1) := by
  have hk : ∀ n : Fin 256, (bits .and .u64 ((n : Nat) : Int) 2 != 0) = decide (((n : Nat) : Int) / 2 % 2 = 1) := by decide +kernel
  have := hk ⟨m.toNat, by omega⟩
  rwa [show (((⟨m.toNat, by omega⟩ : Fin 256) : Nat) : Int) = m by simp; omega] at this
theorem i64_wrap (n : Int) (h : 0 ≤ n ∧ n ≤ 18446744073709551615) : wrap64 n = i64 n := by
  unfold wrap64 i64
  split <;> omega
theorem getB_lt (xs : List Int) (hb : Bytes xs) (a : Int) (k : Nat) : 0 ≤ getB xs a k ∧ getB xs a k < 256 ^ k := num_bd k fun j => hb.byte _
def noRec : R := ⟨0, 0, 0, 0, 0, 0, false, false, 0, 0⟩
theorem frozen_at {w : World} {d : Nat} {c : Array Value} {e : TypeId} (h : w.heap[d]? = some (.cells c e (0, 0))) (o : Nat) : w.frozen? ⟨d, o, none⟩ = false := by
  simp [World.frozen?, h]
theorem below_sets {B : Nat} {a w : World} (h : Below B a w) (v0 v1 v2 v3 v4 v5 v6 v7 v8 v9 : Value) : Below B a ((((((((((w.setCell ⟨B, 0, none⟩ v0).setCell ⟨B, 1, none⟩ v1).setCell ⟨B, 2, none⟩ v2).setCell ⟨B, 3, none⟩ v3).setCell ⟨B, 4, none⟩ v4).setCell ⟨B, 5, none⟩ v5).setCell ⟨B, 6, none⟩ v6).setCell ⟨B, 7, none⟩ v7).setCell ⟨B, 8, none⟩ v8).setCell ⟨B, 9, none⟩ v9) :=
  (((((((((h.setCell (Nat.le_refl _) v0).setCell (Nat.le_refl _) v1).setCell (Nat.le_refl _) v2).setCell (Nat.le_refl _) v3).setCell (Nat.le_refl _) v4).setCell (Nat.le_refl _) v5).setCell (Nat.le_refl _) v6).setCell (Nat.le_refl _) v7).setCell (Nat.le_refl _) v8).setCell (Nat.le_refl _) v9
end Go.Proofs.Ytmkbedfccgojpaa
