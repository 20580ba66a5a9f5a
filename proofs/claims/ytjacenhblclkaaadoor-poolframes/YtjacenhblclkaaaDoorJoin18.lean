/- Lemmas and contracts that the law stands on, joined: PgCopy, PgFind, PgGood, PgRefB. -/
import Derived.Test.YtjacenhblclkaaaDoorJoin10
import Derived.Test.YtjacenhblclkaaaDoorJoin17
import Derived.Test.YtjacenhblclkaaaDoorJoin9
import Derived.Deep.RegionHeld3
import Derived.Deep.Cut
import Derived.Test.YtjacenhblclkaaaDoorJoin14
import Derived.Test.YtjacenhblclkaaaDoorJoin15
/- What phoenixref.Entries, phoenixref.Page (copies, in new memory) and slices.Clone answer. -/
namespace Go.Proofs.YtjacenhblclkaaaDoor
open Go.RowKit
set_option linter.unusedVariables false

/-- A page in memory: its block. -/
def PBlk (w : World) (P : Nat) (lsn : Int) (ao : Option Addr) (n c : Nat) : Prop := w.heap[P]? = some (.cells #[.int .i64 lsn, .slice ao n c] 34 (0, 0))
theorem PBlk.c0 {w : World} {P : Nat} {lsn : Int} {ao : Option Addr} {n c : Nat} (h : PBlk w P lsn ao n c) : w.cell? ⟨P, 0, none⟩ = some (.int .i64 lsn) := (cell_row h 0).trans rfl
theorem PBlk.c1 {w : World} {P : Nat} {lsn : Int} {ao : Option Addr} {n c : Nat} (h : PBlk w P lsn ao n c) : w.cell? ⟨P, 1, none⟩ = some (.slice ao n c) := (cell_row h 1).trans rfl
theorem PBlk.fz {w : World} {P : Nat} {lsn : Int} {ao : Option Addr} {n c : Nat} (h : PBlk w P lsn ao n c) (i : Nat) : w.frozen? ⟨P, i, none⟩ = false := by unfold PBlk at h; simp [World.frozen?, h]
theorem PBlk.lt {w : World} {P : Nat} {lsn : Int} {ao : Option Addr} {n c : Nat} (h : PBlk w P lsn ao n c) : P < w.heap.size := lt_of_block h
theorem PBlk.below {w w' : World} {B P : Nat} {lsn : Int} {ao : Option Addr} {n c : Nat} (h : PBlk w P lsn ao n c) (hb : Below B w w') (hP : P < B) : PBlk w' P lsn ao n c := (hb.block P hP).trans h
theorem PBlk.step {w w' : World} {P : Nat} {lsn : Int} {ao : Option Addr} {n c : Nat} (h : PBlk w P lsn ao n c) (hb : Below w.heap.size w w') : PBlk w' P lsn ao n c := h.below hb h.lt
theorem pblk_new (w : World) (lsn : Int) (ao : Option Addr) (n c : Nat) : PBlk (w.alloc (pageBlock lsn ao n c)) w.heap.size lsn ao n c := heap_alloc_new _ _
theorem PBlk.put {w : World} {P : Nat} {lsn : Int} {ao : Option Addr} {n c : Nat} (h : PBlk w P lsn ao n c) (l2 : Int) (bo : Option Addr) (m d : Nat) : PBlk ((w.setCell ⟨P, 0, none⟩ (.int .i64 l2)).setCell ⟨P, 1, none⟩ (.slice bo m d)) P l2 bo m d := by
  have h1 := set_block h 0 (.int .i64 l2)
  have h2 := set_block h1 1 (.slice bo m d)
  exact h2
theorem PBlk.putL {w : World} {P : Nat} {lsn : Int} {ao : Option Addr} {n c : Nat} (h : PBlk w P lsn ao n c) (l2 : Int) : PBlk (w.setCell ⟨P, 0, none⟩ (.int .i64 l2)) P l2 ao n c := set_block h 0 (.int .i64 l2)
theorem PBlk.far {w : World} {P : Nat} {lsn : Int} {ao : Option Addr} {n c : Nat} (h : PBlk w P lsn ao n c) {Q : Nat} (hq : Q ≠ P) (i : Nat) (v : Value) : PBlk (w.setCell ⟨Q, i, none⟩ v) P lsn ao n c := by unfold PBlk; rw [Below.heap_setCell _ _ _ _ hq.symm]; exact h
theorem EntRow.apart {w : World} {b off P : Nat} {es : List (Int × Int)} {l0 : Int} {a0 : Option Addr} {n0 d0 : Nat} (hz : PBlk w P l0 a0 n0 d0) (hp : 0 < es.length) (hc : ∀ i e, es[i]? = some e → w.cell? ⟨b, off + i * 2, none⟩ = some (.int .i64 e.1) ∧ w.cell? ⟨b, off + i * 2 + 1, none⟩ = some (.int .i64 e.2)) : b ≠ P := by
  rintro rfl
  have h1 := (hc 0 _ (List.getElem?_eq_getElem hp)).2
  rw [show off + 0 * 2 + 1 = off + 1 by omega, cell_row hz] at h1
  cases off with
  | zero => simp at h1
  | succ off => simp at h1
theorem EntRow.set {w : World} {ao : Option Addr} {es : List (Int × Int)} {P : Nat} {l0 : Int} {a0 : Option Addr} {n0 d0 : Nat} (hz : PBlk w P l0 a0 n0 d0) (h : EntRow w ao es) (o : Nat) (v : Value) : EntRow (w.setCell ⟨P, o, none⟩ v) ao es := by
  refine ⟨h.1, fun hp => ?_⟩
  obtain ⟨b, off, e, hlt, hc⟩ := h.2 hp
  have hne := EntRow.apart hz hp hc
  refine ⟨b, off, e, by simp [World.setCell]; exact hlt, fun i x hi => ?_⟩
  obtain ⟨c1, c2⟩ := hc i x hi
  rw [World.cell?_setCell_other _ _ _ _ (by intro e'; injection e' with e1 _; exact hne e1.symm), World.cell?_setCell_other _ _ _ _ (by intro e'; injection e' with e1 _; exact hne e1.symm)]
  exact ⟨c1, c2⟩
end Go.Proofs.YtjacenhblclkaaaDoor

/- What slices.IndexFunc, page.find, page.place, page.Get and the document's own Find answer. -/
namespace Go.Proofs.YtjacenhblclkaaaDoor
open Go.RowKit
set_option linter.unusedVariables false

/-- r is the place of the first entry of which p holds, or -1. -/
def IdxAt (p : Int × Int → Bool) (es : List (Int × Int)) (r : Int) : Prop := (r = -1 ∧ ∀ e ∈ es, p e = false) ∨ ∃ (k : Nat) (e : Int × Int), r = k ∧ es[k]? = some e ∧ p e = true ∧ ∀ x ∈ es.take k, p x = false
theorem IdxAt.hit {p : Int × Int → Bool} {es : List (Int × Int)} {r : Int} (h : IdxAt p es r) {k : Nat} {e : Int × Int} (he : es[k]? = some e) (hp : p e = true) (ht : ∀ x ∈ es.take k, p x = false) : r = k := by
  rcases h with ⟨_, h⟩ | ⟨j, x, rfl, hx, hpx, htx⟩
  · have := h e (List.mem_of_getElem? he)
    rw [hp] at this; cases this
  · rcases Nat.lt_trichotomy j k with h1 | h1 | h1
    · have hm : x ∈ es.take k := by
        rw [List.mem_take_iff_getElem]
        obtain ⟨hj, rfl⟩ := List.getElem?_eq_some_iff.1 hx
        exact ⟨j, by omega, rfl⟩
      rw [ht x hm] at hpx; cases hpx
    · rw [h1]
    · have hm : e ∈ es.take j := by
        rw [List.mem_take_iff_getElem]
        obtain ⟨hj, rfl⟩ := List.getElem?_eq_some_iff.1 he
        exact ⟨k, by omega, rfl⟩
      rw [htx e hm] at hp; cases hp
theorem IdxAt.miss {p : Int × Int → Bool} {es : List (Int × Int)} {r : Int} (h : IdxAt p es r) (hn : ∀ e ∈ es, p e = false) : r = -1 := by
  rcases h with ⟨h, _⟩ | ⟨k, e, _, he, hp, _⟩
  · exact h
  · rw [hn e (List.mem_of_getElem? he)] at hp; cases hp
theorem idx_some (p : Int × Int → Bool) : ∀ es : List (Int × Int), ∃ r, IdxAt p es r := by
  intro es
  induction es with
  | nil => exact ⟨-1, .inl ⟨rfl, fun e he => by simp at he⟩⟩
  | cons x s ih =>
    cases hx : p x with
    | true => exact ⟨0, .inr ⟨0, x, rfl, rfl, hx, fun y hy => by simp at hy⟩⟩
    | false =>
      obtain ⟨r, h⟩ := ih
      rcases h with ⟨rfl, h⟩ | ⟨k, e, rfl, he, hp, ht⟩
      · exact ⟨-1, .inl ⟨rfl, fun e he => by
          rcases List.mem_cons.1 he with rfl | h1
          · exact hx
          · exact h e h1⟩⟩
      · refine ⟨((k + 1 : Nat) : Int), .inr ⟨k + 1, e, rfl, by simpa using he, hp, fun y hy => ?_⟩⟩
        rw [List.take_succ_cons] at hy
        rcases List.mem_cons.1 hy with rfl | h1
        · exact hx
        · exact ht y h1
/-- The place of a key that is there. -/
theorem idx_key {es : List (Int × Int)} {key : Int} (h : hasE es key = true) : ∃ (k : Nat) (e : Int × Int), es[k]? = some e ∧ e.1 = key ∧ IdxAt (fun e => decide (e.1 = key)) es k := by
  obtain ⟨r, hr⟩ := idx_some (fun e : Int × Int => decide (e.1 = key)) es
  rcases hr with ⟨rfl, hn⟩ | ⟨k, e, rfl, he, hp, ht⟩
  · exfalso
    have : hasE es key = false := hasE_false.2 fun e he => by simpa using hn e he
    rw [h] at this; cases this
  · exact ⟨k, e, he, by simpa using hp, .inr ⟨k, e, rfl, he, hp, ht⟩⟩
theorem idx_no {es : List (Int × Int)} {key : Int} (h : hasE es key = false) : IdxAt (fun e => decide (e.1 = key)) es (-1) := .inl ⟨rfl, fun e he => by simpa using hasE_false.1 h e he⟩
/-- A page and a number, boxed. -/
theorem boxes (w : World) (lsn : Int) (ao : Option Addr) (n c : Nat) (key : Int) {es : List (Int × Int)} (h : EntRow w ao es) : ∃ X, X = (w.alloc (pageBlock lsn ao n c)).alloc (.cells #[.int .i64 key] 3) ∧ PBlk X w.heap.size lsn ao n c ∧ X.cell? ⟨w.heap.size + 1, 0, none⟩ = some (.int .i64 key) ∧ w.heap.size + 1 < X.heap.size ∧ EntRow X ao es ∧ Below w.heap.size w X := by
  have hb1 := below_box w (pageBlock lsn ao n c)
  have hb2 := below_box (w.alloc (pageBlock lsn ao n c)) (.cells #[.int .i64 key] 3)
  have hsz : (w.alloc (pageBlock lsn ao n c)).heap.size = w.heap.size + 1 := by simp
  have hb := over hb1 hb2 hb1.size
  refine ⟨_, rfl, (pblk_new w lsn ao n c).step hb2, ?_, by simp, h.below hb (Nat.le_refl _), hb⟩
  rw [← hsz]
  exact (cell_row (heap_alloc_new _ _) 0).trans rfl
theorem valE_first {es : List (Int × Int)} {k : Nat} {x y : Int} (he : es[k]? = some (x, y)) (hno : ∀ z ∈ es.take k, z.1 ≠ x) : valE es x = some y := by
  induction es generalizing k with
  | nil => simp at he
  | cons z s ih =>
    rw [valE]
    cases k with
    | zero => simp at he; subst he; simp
    | succ k =>
      rw [if_neg (hno z (by simp))]
      exact ih (by simpa using he) (fun q hq => hno q (by simp [hq]))
/-- The place of a key that isn't there. -/
theorem idx_place {es : List (Int × Int)} {key : Int} (hu : Up es) (hh : hasE es key = false) : ∃ q : Nat, q ≤ es.length ∧ ((q = es.length ∧ IdxAt (fun e => decide (key < e.1)) es (-1)) ∨ IdxAt (fun e => decide (key < e.1)) es q) ∧ ∀ v, insE key v es = es.take q ++ (key, v) :: es.drop q := by
  have hne := hasE_false.1 hh
  obtain ⟨r, hr⟩ := idx_some (fun e : Int × Int => decide (key < e.1)) es
  rcases hr with ⟨rfl, hn⟩ | ⟨k, e, rfl, he, hp, ht⟩
  · refine ⟨es.length, Nat.le_refl _, .inl ⟨rfl, .inl ⟨rfl, hn⟩⟩, fun v => ins_place (Nat.le_refl _) (fun e he => ?_) (fun e he => ?_)⟩
    · rw [List.take_length] at he
      have h1 : ¬ key < e.1 := by simpa using hn e he
      have h2 := hne e he
      omega
    · rw [List.getElem?_eq_none (Nat.le_refl _)] at he; cases he
  · refine ⟨k, Nat.le_of_lt (List.getElem?_eq_some_iff.1 he).1, .inr (.inr ⟨k, e, rfl, he, hp, ht⟩), fun v => ins_place (Nat.le_of_lt (List.getElem?_eq_some_iff.1 he).1) (fun x hx => ?_) (fun x hx => ?_)⟩
    · have h1 : ¬ key < x.1 := by simpa using ht x hx
      have h2 := hne x (List.mem_of_mem_take hx)
      omega
    · rw [he] at hx
      simp only [Option.some.injEq] at hx
      subst hx
      simpa using hp
end Go.Proofs.YtjacenhblclkaaaDoor

/- The document's own word on whether a page may be: what phoenixref7.Good answers. -/
namespace Go.Proofs.YtjacenhblclkaaaDoor
open Go.RowKit
set_option linter.unusedVariables false

/-- The first k keys rise, and may be. -/
def GoodUp (es : List (Int × Int)) (k : Nat) : Prop := Up (es.take k) ∧ ∀ e ∈ es.take k, 0 ≤ e.1 ∧ e.1 < 1048576
theorem goodUp_zero (es : List (Int × Int)) : GoodUp es 0 := ⟨List.Pairwise.nil, fun e he => by simp at he⟩
theorem goodUp_all {es : List (Int × Int)} : riseB 0 es = true ↔ GoodUp es es.length := by
  unfold GoodUp
  rw [List.take_length]
  exact ⟨fun h => ⟨rise_up h, rise_bd es 0 h⟩, fun h => up_rise h.1 h.2⟩
theorem GoodUp.mono {es : List (Int × Int)} {j k : Nat} (h : GoodUp es k) (hj : j ≤ k) : GoodUp es j := by
  have e : es.take j = (es.take k).take j := by rw [List.take_take, Nat.min_eq_left hj]
  refine ⟨?_, fun x hx => ?_⟩
  · rw [e]; exact List.Pairwise.sublist (List.take_sublist _ _) h.1
  · rw [e] at hx; exact h.2 x (List.mem_of_mem_take hx)
/-- What the test of key k asks. -/
def keyOk (es : List (Int × Int)) (k : Nat) (e : Int × Int) : Prop := 0 ≤ e.1 ∧ e.1 < 1048576 ∧ ∀ p, 0 < k → es[k - 1]? = some p → p.1 < e.1
theorem goodUp_succ {es : List (Int × Int)} {k : Nat} {e : Int × Int} (he : es[k]? = some e) : GoodUp es (k + 1) ↔ GoodUp es k ∧ keyOk es k e := by
  have ht := take_succ_at he
  constructor
  · intro h
    refine ⟨h.mono (by omega), ?_⟩
    have hm : e ∈ es.take (k + 1) := by rw [ht]; simp
    refine ⟨(h.2 e hm).1, (h.2 e hm).2, fun p hk hp => ?_⟩
    have hu := h.1
    rw [ht] at hu
    have hpm : p ∈ es.take k := by
      have hkl := (List.getElem?_eq_some_iff.1 he).1
      refine List.mem_iff_getElem?.2 ⟨k - 1, ?_⟩
      rw [List.getElem?_take, if_pos (by omega)]
      exact hp
    exact (List.pairwise_append.1 hu).2.2 p hpm e (by simp)
  · rintro ⟨h, h0, h1, h2⟩
    refine ⟨?_, fun x hx => ?_⟩
    · rw [ht]
      refine List.pairwise_append.2 ⟨h.1, List.pairwise_singleton _ _, fun a ha b hb => ?_⟩
      rw [List.mem_singleton.1 hb]
      obtain ⟨j, hj⟩ := List.mem_iff_getElem?.1 ha
      rw [List.getElem?_take] at hj
      split at hj
      · rename_i hjk
        have hkl := (List.getElem?_eq_some_iff.1 he).1
        obtain ⟨p, hp⟩ : ∃ p, es[k - 1]? = some p := ⟨_, List.getElem?_eq_getElem (by omega)⟩
        have hpe := h2 p (by omega) hp
        by_cases hjl : j = k - 1
        · subst hjl
          rw [hp] at hj
          injection hj with hj
          subst hj
          exact hpe
        · have hlt := List.pairwise_iff_getElem.1 h.1 j (k - 1) (by simp; omega) (by simp; omega) (by omega)
          simp only [List.getElem_take] at hlt
          obtain ⟨q1, q2⟩ := List.getElem?_eq_some_iff.1 hj
          obtain ⟨q3, q4⟩ := List.getElem?_eq_some_iff.1 hp
          rw [q2, q4] at hlt
          omega
      · simp at hj
    · rw [ht] at hx
      rcases List.mem_append.1 hx with hx | hx
      · exact h.2 x hx
      · rw [List.mem_singleton.1 hx]; exact ⟨h0, h1⟩

end Go.Proofs.YtjacenhblclkaaaDoor

/- What the document's own Bytes of a page answers, of one that may be. -/
namespace Go.Proofs.YtjacenhblclkaaaDoor
open Go.RowKit
set_option linter.unusedVariables false

theorem zero_256 : List.replicate 256 (0 : Int) = page0 := rfl
end Go.Proofs.YtjacenhblclkaaaDoor
