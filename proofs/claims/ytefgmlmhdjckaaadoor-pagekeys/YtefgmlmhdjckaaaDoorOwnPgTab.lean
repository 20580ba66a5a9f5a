
/- Two tables in memory, of fifty bools and fifty numbers, beside a page: they hold what the page's keys are and their values. -/
import Derived.Test.YtefgmlmhdjckaaaDoorJoin27
namespace Go.Proofs.YtefgmlmhdjckaaaDoor
open Go.RowKit
set_option linter.unusedVariables false

structure Tab (w : World) (A B : Nat) (es : List (Int × Int)) : Prop where
  has : ∃ ch, w.heap[A]? = some (.cells ch 56 (0, 0)) ∧ ∀ k : Nat, k < 50 → ch[k]? = some (.bool (hasE es k))
  val : ∃ cv, w.heap[B]? = some (.cells cv 57 (0, 0)) ∧ ∀ k : Nat, k < 50 → ∃ v, cv[k]? = some (.int .i64 v) ∧ ∀ u, valE es k = some u → v = u
theorem heap_far {w : World} {Q P : Nat} (h : Q ≠ P) (i : Nat) (v : Value) : (w.setCell ⟨Q, i, none⟩ v).heap[P]? = w.heap[P]? := by
  simp [World.setCell, Array.getElem?_modify, h]
theorem Tab.below {w w' : World} {A B C : Nat} {es : List (Int × Int)} (h : Tab w A B es) (hb : Below C w w') (hA : A < C) (hB : B < C) : Tab w' A B es := by
  obtain ⟨⟨ch, h1, h2⟩, cv, h3, h4⟩ := h
  exact ⟨⟨ch, (hb.block A hA).trans h1, h2⟩, cv, (hb.block B hB).trans h3, h4⟩
theorem Tab.step {w w' : World} {A B : Nat} {es : List (Int × Int)} (h : Tab w A B es) (hb : Below w.heap.size w w') : Tab w' A B es := by
  obtain ⟨⟨ch, h1, h2⟩, cv, h3, h4⟩ := h
  exact Tab.below ⟨⟨ch, h1, h2⟩, cv, h3, h4⟩ hb (lt_of_block h1) (lt_of_block h3)
theorem Tab.far {w : World} {A B Q : Nat} {es : List (Int × Int)} (h : Tab w A B es) (hA : Q ≠ A) (hB : Q ≠ B) (i : Nat) (v : Value) : Tab (w.setCell ⟨Q, i, none⟩ v) A B es := by
  obtain ⟨⟨ch, h1, h2⟩, cv, h3, h4⟩ := h
  exact ⟨⟨ch, (heap_far hA i v).trans h1, h2⟩, cv, (heap_far hB i v).trans h3, h4⟩
theorem Tab.cell {w : World} {A B : Nat} {es : List (Int × Int)} (h : Tab w A B es) {k : Nat} (hk : k < 50) : w.cell? ⟨A, k, none⟩ = some (.bool (hasE es k)) := by
  obtain ⟨⟨ch, h1, h2⟩, _⟩ := h
  exact (cell_row h1 k).trans (h2 k hk)
theorem Tab.fzA {w : World} {A B : Nat} {es : List (Int × Int)} (h : Tab w A B es) (k : Nat) : w.frozen? ⟨A, k, none⟩ = false := by
  obtain ⟨⟨ch, h1, h2⟩, _⟩ := h
  simp [World.frozen?, h1]
theorem Tab.fzB {w : World} {A B : Nat} {es : List (Int × Int)} (h : Tab w A B es) (k : Nat) : w.frozen? ⟨B, k, none⟩ = false := by
  obtain ⟨_, cv, h1, h2⟩ := h
  simp [World.frozen?, h1]
theorem Tab.ne {w : World} {A B : Nat} {es : List (Int × Int)} (h : Tab w A B es) : A ≠ B := by
  obtain ⟨⟨ch, h1, h2⟩, cv, h3, h4⟩ := h
  intro e
  subst e
  rw [h1] at h3
  injection h3 with h5
  injection h5 with h6 h7 h8
  exact absurd h7 (by decide)
theorem Tab.cellB {w : World} {A B : Nat} {es : List (Int × Int)} (h : Tab w A B es) {k : Nat} (hk : k < 50) : ∃ v, w.cell? ⟨B, k, none⟩ = some (.int .i64 v) ∧ ∀ u, valE es k = some u → v = u := by
  obtain ⟨_, cv, h1, h2⟩ := h
  obtain ⟨v, h3, h4⟩ := h2 k hk
  exact ⟨v, (cell_row h1 k).trans h3, h4⟩
theorem Tab.ltA {w : World} {A B : Nat} {es : List (Int × Int)} (h : Tab w A B es) : A < w.heap.size := by
  obtain ⟨⟨ch, h1, h2⟩, _⟩ := h
  exact lt_of_block h1
theorem Tab.ltB {w : World} {A B : Nat} {es : List (Int × Int)} (h : Tab w A B es) : B < w.heap.size := by
  obtain ⟨_, cv, h1, h2⟩ := h
  exact lt_of_block h1
theorem set_at {c : Array Value} {k j : Nat} {v x : Value} (hk : c[k]? = some x) : (c.setIfInBounds k v)[j]? = if k = j then some v else c[j]? := by
  have hlt : k < c.size := (Array.getElem?_eq_some_iff.1 hk).1
  rw [Array.getElem?_setIfInBounds]
  split
  · simp
  · rfl
/-- A key struck. -/
theorem Tab.del {w : World} {A B : Nat} {es : List (Int × Int)} (h : Tab w A B es) {k : Nat} (hk : k < 50) : Tab (w.setCell ⟨A, k, none⟩ (.bool false)) A B (remE k es) := by
  have hne := h.ne
  obtain ⟨⟨ch, h1, h2⟩, cv, h3, h4⟩ := h
  refine ⟨⟨_, set_block h1 k _, fun j hj => ?_⟩, cv, (heap_far hne k _).trans h3, fun j hj => ?_⟩
  · rw [set_at (h2 k hk)]
    unfold hasE
    rw [val_rem]
    by_cases e : k = j
    · subst e
      rw [if_pos rfl, if_pos rfl]; rfl
    · rw [if_neg e, if_neg (by omega), h2 j hj]; rfl
  · obtain ⟨v, h5, h6⟩ := h4 j hj
    refine ⟨v, h5, fun u hu => h6 u ?_⟩
    rw [val_rem] at hu
    split at hu
    · exact absurd hu (by simp)
    · exact hu
/-- A key put. -/
theorem Tab.put {w : World} {A B : Nat} {es : List (Int × Int)} (h : Tab w A B es) {k : Nat} (hk : k < 50) (v : Int) : Tab ((w.setCell ⟨A, k, none⟩ (.bool true)).setCell ⟨B, k, none⟩ (.int .i64 v)) A B (insE k v es) := by
  have hne := h.ne
  obtain ⟨⟨ch, h1, h2⟩, cv, h3, h4⟩ := h
  refine ⟨⟨_, (heap_far (fun e => hne e.symm) k _).trans (set_block h1 k _), fun j hj => ?_⟩, _, set_block ((heap_far hne k _).trans h3) k _, fun j hj => ?_⟩
  · rw [set_at (h2 k hk)]
    unfold hasE
    rw [val_ins]
    by_cases e : k = j
    · subst e
      rw [if_pos rfl, if_pos rfl]; rfl
    · rw [if_neg e, if_neg (by omega), h2 j hj]; rfl
  · obtain ⟨v0, h7, h8⟩ := h4 k hk
    rw [set_at h7, val_ins]
    by_cases e : k = j
    · subst e
      rw [if_pos rfl, if_pos rfl]
      exact ⟨v, rfl, fun u hu => by injection hu⟩
    · rw [if_neg e, if_neg (by omega)]
      exact h4 j hj
/-- A key put where it is already: the mark is written beside its value. -/
theorem Tab.new {w : World} {A B : Nat} {ch cv : Array Value} (hA : w.heap[A]? = some (.cells ch 56 (0, 0))) (hB : w.heap[B]? = some (.cells cv 57 (0, 0))) (h1 : ch = Array.replicate 50 (.bool false)) (h2 : cv = Array.replicate 50 (.int .i64 0)) : Tab w A B [] := by
  subst h1 h2
  refine ⟨⟨_, hA, fun k hk => ?_⟩, _, hB, fun k hk => ⟨0, ?_, fun u hu => by simp [valE] at hu⟩⟩
  · rw [Array.getElem?_replicate, if_pos hk]; rfl
  · rw [Array.getElem?_replicate, if_pos hk]
/-- Entries in blocks behind do not turn where a block ahead of them is written. -/
theorem OwnE.low {w : World} {C Q : Nat} {ao : Option Addr} {cap : Nat} {es : List (Int × Int)} (h : OwnE w C ao cap es) (hQ : Q < C) (i : Nat) (v : Value) : OwnE (w.setCell ⟨Q, i, none⟩ v) C ao cap es :=
  h.of_blocks fun g hg _ => heap_far (by omega) i v
/-- What stands between two rounds. -/
structure KSt (w : World) (P A B : Nat) (ao : Option Addr) (m c : Nat) (es : List (Int × Int)) : Prop where
  page : PBlk w P 3 ao m c
  own : OwnE w (B + 1) ao c es
  tab : Tab w A B es
theorem KSt.step {w w' : World} {P A B : Nat} {ao : Option Addr} {m c : Nat} {es : List (Int × Int)} (h : KSt w P A B ao m c es) (hb : Below w.heap.size w w') : KSt w' P A B ao m c es := ⟨h.page.step hb, h.own.step hb, h.tab.step hb⟩
/-- Keys from 0 to 49, values within eight bytes. -/
structure KOk (es : List (Int × Int)) : Prop where
  up : Up es
  many : es.length ≤ 20
  keys : ∀ e ∈ es, (0 ≤ e.1 ∧ e.1 < 50) ∧ -9223372036854775808 ≤ e.2 ∧ e.2 ≤ 9223372036854775807
theorem KOk.rem {es : List (Int × Int)} (h : KOk es) (k : Int) : KOk (remE k es) := ⟨h.up.rem k, Nat.le_trans (len_rem_le es k) h.many, fun e he => h.keys e (mem_rem he)⟩
theorem KOk.ins {es : List (Int × Int)} (h : KOk es) {k : Int} {v : Int} (hk : 0 ≤ k ∧ k < 50) (hv : -9223372036854775808 ≤ v ∧ v ≤ 9223372036854775807) (hc : canPut es k = true) : KOk (insE k v es) := by
  refine ⟨h.up.ins k v, ?_, fun e he => ?_⟩
  · have h1 := len_ins es h.up k v
    have h2 := h.many
    unfold canPut at hc
    cases hh : hasE es k with
    | true => rw [hh] at h1; simp at h1; omega
    | false => rw [hh] at h1 hc; simp at h1 hc; omega
  · rcases mem_ins he with rfl | h1
    · exact ⟨hk, hv⟩
    · exact h.keys e h1
end Go.Proofs.YtefgmlmhdjckaaaDoor
