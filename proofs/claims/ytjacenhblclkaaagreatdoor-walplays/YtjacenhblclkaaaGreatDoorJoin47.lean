/- Lemmas and contracts that the law stands on, joined: RPlays. -/
import Derived.Test.YtjacenhblclkaaaGreatDoorJoin44
import Derived.Test.YtjacenhblclkaaaGreatDoorJoin46
/- WalPlays' calls, each told of both sides alike: what each answers and what it makes of a state, over the same plain functions. -/
namespace Go.Proofs.YtjacenhblclkaaaGreatDoor
open Go.RowKit
set_option linter.unusedVariables false

/-- What Append answers of a record, and what it makes of a state. -/
def appV (N : Nat) (base : Int) (r : R) (X : LSt) : Int := if goodB r = true ∧ 0 < roomR N X.rs.length base then base + X.rs.length + 1 else 0
def appC (N : Nat) (base : Int) (r : R) (X : LSt) : Int := if goodB r = true then (if 0 < roomR N X.rs.length base then 0 else 109) else 102
def LSt.app (X : LSt) (N : Nat) (base : Int) (r : R) : LSt := if goodB r = true ∧ 0 < roomR N X.rs.length base then ⟨X.vss, X.off, X.fuse, X.ep, X.rs ++ [r], X.D⟩ else X
/-- What Flush answers. -/
def flC (X : LSt) : Int := if (flushW 2 X.ep X.rs X.D X.vss X.off X.fuse).2.2.2 then 0 else 101
def LSt.fused (X : LSt) (m : Int) : LSt := ⟨X.vss, X.off, max m (-1), X.ep, X.rs, X.D⟩
def LSt.crash (X : LSt) (zs : List Int) : LSt := ⟨crashed zs X.vss, false, -1, X.ep, X.rs, X.D⟩
def LSt.reopen (X : LSt) (N : Nat) (reset ep : Int) : LSt := ⟨X.vss, false, -1, ep, (openUp (rdL X.vss 2) ep N 0 reset []).1, (openUp (rdL X.vss 2) ep N 0 reset []).1.length⟩
theorem Cells10.but {w w' : World} {B q : Nat} {r : R} (h : Cells10 w B r) (hb : But q w w') (hne : B ≠ q) : Cells10 w' B r := by
  obtain ⟨k0, k1, k2, k3, k4, k5, k6, k7, k8, k9, kl⟩ := h
  have e : ∀ j, w'.cell? ⟨B, j, none⟩ = w.cell? ⟨B, j, none⟩ := fun j => World.cell?_of_block (w := w) (hb.block B kl hne)
  exact ⟨(e 0).trans k0, (e 1).trans k1, (e 2).trans k2, (e 3).trans k3, (e 4).trans k4, (e 5).trans k5, (e 6).trans k6, (e 7).trans k7, (e 8).trans k8, (e 9).trans k9, Nat.lt_of_lt_of_le kl hb.size⟩
theorem cells10_block {w : World} {B : Nat} {r : R} (h : w.heap[B]? = some (.cells #[.int .i64 r.kind, .int .i64 r.txn, .int .i64 r.page, .int .i64 r.prev, .int .i64 r.next, .int .i64 r.key, .bool r.had, .bool r.has, .int .i64 r.old, .int .i64 r.new] 37 (0, 0))) : Cells10 w B r :=
  ⟨(cell_row h 0).trans rfl, (cell_row h 1).trans rfl, (cell_row h 2).trans rfl, (cell_row h 3).trans rfl, (cell_row h 4).trans rfl, (cell_row h 5).trans rfl, (cell_row h 6).trans rfl, (cell_row h 7).trans rfl, (cell_row h 8).trans rfl, (cell_row h 9).trans rfl, lt_of_block h⟩
/-- A record's kind is put anew. -/
theorem kind_put {y1 w3 : World} {q V : Nat} {r : R} {lo : Option Addr} {len cap : Nat} {zs : List Int} {n : Nat} (kk : Int) (hb : But q y1 w3) (hV : y1.heap.size ≤ V) (hq : q < y1.heap.size)
    (h : w3.heap[V]? = some (.cells #[.int .i64 r.kind, .int .i64 r.txn, .int .i64 r.page, .int .i64 r.prev, .int .i64 r.next, .int .i64 r.key, .bool r.had, .bool r.has, .int .i64 r.old, .int .i64 r.new] 37 (0, 0))) (hs : SeqAt w3 q lo len cap zs n) :
    But q y1 (w3.setCell ⟨V, 0, none⟩ (.int .i64 kk)) ∧ SeqAt (w3.setCell ⟨V, 0, none⟩ (.int .i64 kk)) q lo len cap zs n ∧ Cells10 (w3.setCell ⟨V, 0, none⟩ (.int .i64 kk)) V ⟨kk, r.txn, r.page, r.prev, r.next, r.key, r.had, r.has, r.old, r.new⟩ ∧ V < (w3.setCell ⟨V, 0, none⟩ (.int .i64 kk)).heap.size := by
  have hlt := lt_of_block h
  refine ⟨⟨hb.os, hb.tape, hb.output, ?_, fun k hk hn => ?_⟩, ⟨?_, fun j hj => ?_, hs.small⟩, cells10_block (set_block h 0 (.int .i64 kk)), ?_⟩
  · have := hb.size
    simp only [World.setCell, Array.size_modify]
    exact this
  · rw [Below.heap_setCell _ _ _ _ (by show k ≠ V; omega)]
    exact hb.block k hk hn
  · rw [Below.heap_setCell _ _ _ _ (by show q ≠ V; omega)]
    exact hs.lies
  · obtain ⟨b, off, e, hb2, hc⟩ := hs.row j hj
    refine ⟨b, off, e, hb2, ?_⟩
    rw [World.cell?_setCell_other _ _ _ _ (by intro e'; injection e' with e1 _; omega)]
    exact hc
  · simp only [World.setCell, Array.size_modify]
    exact hlt
/-- Four numbers in a new block. -/
theorem irow4 (w : World) (a b c d : Int) (ha : 0 ≤ a ∧ a < 4) (hb : 0 ≤ b ∧ b < 4) (hc : 0 ≤ c ∧ c < 4) (hd : 0 ≤ d ∧ d < 4) : IRow (w.alloc (.cells #[.int .i64 a, .int .i64 b, .int .i64 c, .int .i64 d] 3)) (some ⟨w.heap.size, 0, none⟩) [a, b, c, d] := by
  refine ⟨by simp, fun x hx => ?_, fun _ => ⟨_, 0, rfl, by simp, fun i hi => ?_⟩⟩
  · simp at hx
    rcases hx with rfl | rfl | rfl | rfl <;> omega
  · rw [Nat.zero_add, cell_row (heap_alloc_new w (.cells #[.int .i64 a, .int .i64 b, .int .i64 c, .int .i64 d] 3))]
    have hi4 : i < 4 := by simpa using hi
    rcases (show i = 0 ∨ i = 1 ∨ i = 2 ∨ i = 3 by omega) with rfl | rfl | rfl | rfl <;> rfl
section
variable {w0 w w' : World} {K : Nat → Prop} {a : Nat → Addr} {l l' d z z' y s cap q : Nat} {lo : Option Addr} {len qc : Nat} {zs : List Int} {n n' N : Nat} {base : Int} {X X' Y Y' : LSt}
theorem roomR_le {N n : Nat} {base : Int} (h : 0 < roomR N n base) : n + 1 ≤ 6 * N := by
  unfold roomR at h
  omega
theorem LOk.app (h : LOk N X) (r : R) : LOk N (X.app N base r) := by
  unfold LSt.app
  split
  · rename_i hh
    exact h.append r (roomR_le hh.2)
  · exact h
theorem LOk.crash (h : LOk N X) (ms : List Int) : LOk N (X.crash ms) :=
  ⟨h.len6, h.dle, hasV_crashed ms _ h.has, tight_crashed ms _ h.has false, (length_crashed ms _).trans h.len, ⟨by show (-1 : Int) ≤ -1; decide, by show (-1 : Int) ≤ 100; decide⟩, h.ep1⟩
theorem LOk.reopen (h : LOk N X) (ho : X.off = false) (reset ep : Int) (he : 1 ≤ ep) : LOk N (X.reopen N reset ep) :=
  ⟨by have := openUp_len (rdL X.vss 2) ep N 0 reset []; simpa [LSt.reopen] using this, Nat.le_refl _, h.has, by have := h.tig; rw [ho] at this; exact this, h.len, ⟨by show (-1 : Int) ≤ -1; decide, by show (-1 : Int) ≤ 100; decide⟩, he⟩
theorem Pair.base_bd (h : Pair w0 w K a l d z y s cap q lo len qc zs n N base X Y) : (0 ≤ base ∧ base + (X.rs.length : Int) ≤ 1073741824) ∧ (1 ≤ X.ep ∧ X.ep ≤ 1073741824) ∧ N ≤ 100 ∧ ∀ r ∈ X.rs, goodB r = true := by
  obtain ⟨ao, c, h1⟩ := h.log
  have h2 := h1.bd
  exact ⟨⟨h2.1.1, h2.1.2⟩, h2.2.1, h1.many, fun r hr => (h1.good r hr).1⟩
/-- The real Append. -/
theorem Pair.append1 (h : Pair w0 w K a l d z y s cap q lo len qc zs n N base X Y) (hX : LOk N X) (r : R) (hf : r.fits) :
    Calls Tryz.prog 13 #[.pointer (some ⟨l, 0, none⟩), r.val] w fun e w' => ∃ fv, e = .returned (.tuple #[.int .i64 (appV N base r X), fv]) ∧ ErrCode a fv (appC N base r X) ∧ Pair w0 w' K a l d z y s cap q lo len qc zs n N base (X.app N base r) Y ∧ Kept K w w' := by
  have hr := room_alike h.base_bd.1 hX.len6
  cases hg : goodB r with
  | false =>
    have e1 : appV N base r X = 0 := by unfold appV; rw [if_neg (by rw [hg]; simp)]
    have e2 : appC N base r X = 102 := by unfold appC; rw [if_neg (by rw [hg]; simp)]
    have e3 : X.app N base r = X := by unfold LSt.app; rw [if_neg (by rw [hg]; simp)]
    refine (wappend_bad h.log r hg).mono ?_
    rintro e w' ⟨rfl, hb⟩
    rw [e1, e2, e3]
    exact ⟨_, rfl, .inr ⟨1, by omega, rfl, rfl⟩, h.below hb, h.log.kept hb⟩
  | true =>
    by_cases hp : 0 < roomR N X.rs.length base
    · have e1 : appV N base r X = base + X.rs.length + 1 := by unfold appV; rw [if_pos ⟨hg, hp⟩]
      have e2 : appC N base r X = 0 := by unfold appC; rw [if_pos hg, if_pos hp]
      have e3 : X.app N base r = ⟨X.vss, X.off, X.fuse, X.ep, X.rs ++ [r], X.D⟩ := by unfold LSt.app; rw [if_pos ⟨hg, hp⟩]
      refine (wappend_ok h.log X.rs.length rfl r hg hf (by rw [hr]; exact hp)).mono ?_
      rintro e w' ⟨rfl, hl, hk⟩
      rw [e1, e2, e3]
      exact ⟨_, rfl, .inl ⟨rfl, rfl⟩, h.real hl hk, hk⟩
    · have h0 : roomI N X.rs.length base = 0 := by
        have := (room_bd h.base_bd.1 (by have := h.base_bd.2.2.1; omega) hX.len6).1
        omega
      have e1 : appV N base r X = 0 := by unfold appV; rw [if_neg (fun hh => hp hh.2)]
      have e2 : appC N base r X = 109 := by unfold appC; rw [if_pos hg, if_neg hp]
      have e3 : X.app N base r = X := by unfold LSt.app; rw [if_neg (fun hh => hp hh.2)]
      refine (wappend_full h.log r hg h0).mono ?_
      rintro e w' ⟨rfl, hb⟩
      rw [e1, e2, e3]
      exact ⟨_, rfl, .inr ⟨8, by omega, rfl, rfl⟩, h.below hb, h.log.kept hb⟩
/-- The document's Append. -/
theorem Pair.append2 (h : Pair w0 w K a l d z y s cap q lo len qc zs n N base X Y) (hY : LOk N Y) (r : R) :
    Calls Tryz.prog 14 #[.pointer (some ⟨z, 0, none⟩), r.val] w fun e w' => e = .returned (.tuple #[.int .i64 (appV N base r Y), .int .i64 (appC N base r Y)]) ∧ ∃ K', Pair w0 w' K' a l d z y s cap q lo len qc zs n N base X (Y.app N base r) := by
  have hb := h.base_bd
  refine (h.doc.append r ⟨hb.1.1, by have := hb.1.2; omega⟩ (by have := hY.len6; omega) hb.2.2.1).mono ?_
  rintro e w' ⟨h1, h2, h3, ho⟩
  cases hg : goodB r with
  | false =>
    have e1 : appV N base r Y = 0 := by unfold appV; rw [if_neg (by rw [hg]; simp)]
    have e2 : appC N base r Y = 102 := by unfold appC; rw [if_neg (by rw [hg]; simp)]
    have e3 : Y.app N base r = Y := by unfold LSt.app; rw [if_neg (by rw [hg]; simp)]
    obtain ⟨rfl, hd⟩ := h1 hg
    rw [e1, e2, e3]
    exact ⟨rfl, _, h.turn hd ho⟩
  | true =>
    by_cases hp : 0 < roomR N Y.rs.length base
    · have e1 : appV N base r Y = base + Y.rs.length + 1 := by unfold appV; rw [if_pos ⟨hg, hp⟩]
      have e2 : appC N base r Y = 0 := by unfold appC; rw [if_pos hg, if_pos hp]
      have e3 : Y.app N base r = ⟨Y.vss, Y.off, Y.fuse, Y.ep, Y.rs ++ [r], Y.D⟩ := by unfold LSt.app; rw [if_pos ⟨hg, hp⟩]
      obtain ⟨rfl, hd⟩ := h3 hg hp
      rw [e1, e2, e3]
      exact ⟨rfl, _, h.turn hd ho⟩
    · have e1 : appV N base r Y = 0 := by unfold appV; rw [if_neg (fun hh => hp hh.2)]
      have e2 : appC N base r Y = 109 := by unfold appC; rw [if_pos hg, if_neg hp]
      have e3 : Y.app N base r = Y := by unfold LSt.app; rw [if_neg (fun hh => hp hh.2)]
      obtain ⟨rfl, hd⟩ := h2 hg (by omega)
      rw [e1, e2, e3]
      exact ⟨rfl, _, h.turn hd ho⟩
/-- Both Flushes. -/
theorem Pair.flush1 (h : Pair w0 w K a l d z y s cap q lo len qc zs n N base X Y) (hX : LOk N X) :
    Calls Tryz.prog 16 #[.pointer (some ⟨l, 0, none⟩)] w fun e w' => ∃ fv, e = .returned fv ∧ ErrCode a fv (flC X) ∧ Pair w0 w' K a l d z y s cap q lo len qc zs n N base X.flushed Y := by
  refine (wflush_any h.log hX.tig.2).mono ?_
  rintro e w' ⟨rfl, hl, hk⟩
  refine ⟨_, rfl, ?_, h.real hl hk⟩
  unfold flC flE
  cases (flushW 2 X.ep X.rs X.D X.vss X.off X.fuse).2.2.2 with
  | true => exact .inl ⟨rfl, rfl⟩
  | false => exact .inr ⟨0, by omega, rfl, rfl⟩
theorem Pair.flush2 (h : Pair w0 w K a l d z y s cap q lo len qc zs n N base X Y) (hY : LOk N Y) (hb : base + (Y.rs.length : Int) ≤ 1073741824) (he : Y.ep ≤ 1073741824) (hg : ∀ r ∈ Y.rs, goodB r = true) :
    Calls Tryz.prog 17 #[.pointer (some ⟨z, 0, none⟩)] w fun e w' => e = .returned (.int .i64 (flC Y)) ∧ ∃ K', Pair w0 w' K' a l d z y s cap q lo len qc zs n N base X Y.flushed := by
  have hbb := h.base_bd
  refine (h.doc.flush ⟨hbb.1.1, hb⟩ ⟨hY.ep1, he⟩ (by rw [hY.len]; omega) hY.len6 hY.dle hbb.2.2.1 hg ⟨hY.fu.1, by have := hY.fu.2; omega⟩ hY.tig.2).mono ?_
  rintro e w' ⟨rfl, hd, ho⟩
  exact ⟨rfl, _, h.turn hd ho⟩
/-- Both Fuses. -/
theorem Pair.fuse1 (h : Pair w0 w K a l d z y s cap q lo len qc zs n N base X Y) (m : Int) (hm : m ≤ 100) :
    Calls Tryz.prog 18 #[.pointer (some ⟨d, 0, none⟩), .int .i64 m] w fun e w' => e = .returned (.tuple #[]) ∧ Pair w0 w' K a l d z y s cap q lo len qc zs n N base (X.fused m) Y := by
  refine (wfuse_any h.log m (by omega)).mono ?_
  rintro e w' ⟨rfl, hl, hk⟩
  exact ⟨rfl, h.real hl hk⟩
theorem Pair.fuse2 (h : Pair w0 w K a l d z y s cap q lo len qc zs n N base X Y) (m : Int) :
    Calls Tryz.prog 19 #[.pointer (some ⟨y, 0, none⟩), .int .i64 m] w fun e w' => e = .returned (.tuple #[]) ∧ ∃ K', Pair w0 w' K' a l d z y s cap q lo len qc zs n N base X (Y.fused m) := by
  refine (h.doc.fused m).mono ?_
  rintro e w' ⟨rfl, hd, ho⟩
  exact ⟨rfl, _, h.turn' hd ho⟩
/-- New memory is made; K names it too. -/
theorem Pair.wide (h : Pair w0 w K a l d z y s cap q lo len qc zs n N base X Y) (hb : Below w.heap.size w w') : Pair w0 w' (wider K w.heap.size w'.heap.size) a l d z y s cap q lo len qc zs n N base X Y := by
  have hq := lt_of_block h.seq.lies
  refine ⟨h.log.widen hb, (h.doc.below hb).wide fun k hk => ⟨.inl hk.1, hk.2⟩, h.seq.step hb, .inl h.kq, h.low, fun k hk => .inl (h.old k hk), h.row, h.bel.trans (hb.mono h.bel.size), h.errs⟩
/-- The source of numbers turns, new memory is made, and K names it too. -/
theorem Pair.butw (h : Pair w0 w K a l d z y s cap q lo len qc zs n N base X Y) (hb : But q w w') (hs : SeqAt w' q lo len qc zs n') : Pair w0 w' (wider K w.heap.size w'.heap.size) a l d z y s cap q lo len qc zs n' N base X Y := by
  have hne : ∀ i ∈ seven, gno i ≠ q := fun i hi => by
    have := gno_lt h.errs (fun i hi => by revert hi; unfold seven all18; simp; omega) i hi
    have := h.low.1
    omega
  refine ⟨h.log.stays hb.size (fun k hk hn => hb.block k hk fun e => hn (e ▸ h.kq)) ?_ ?_, (h.doc.kept ⟨hb.os, hb.tape, hb.output, hb.size, fun k hk => hb.block k (h.log.low k hk.1) hk.2⟩).wide fun k hk => ⟨.inl hk.1, hk.2⟩, hs, .inl h.kq, h.low, fun k hk => .inl (h.old k hk), h.row, h.bel.trans ((hb.below (Nat.le_of_lt (lt_of_block h.seq.lies))).mono h.low.1), h.errs⟩
  · rintro k (h1 | h1)
    · exact ⟨Nat.lt_of_lt_of_le (h.log.low k h1) hb.size, fun _ => h1⟩
    · exact ⟨h1.2, fun h2 => by omega⟩
  · intro i hi
    refine ⟨.inl (h.log.errs i hi).1, ?_⟩
    rw [← (h.log.errs i hi).2]
    exact World.cell?_of_block (w := w) (hb.block _ (h.log.low _ (h.log.errs i hi).1) (hne i hi))
theorem Pair.lt (h : Pair w0 w K a l d z y s cap q lo len qc zs n N base X Y) : y < w.heap.size ∧ s < w.heap.size := by
  obtain ⟨M, h1, _⟩ := h.doc.rd
  exact ⟨h1.lt, h1.ltS⟩
/-- Both Crashes. -/
theorem Pair.crash1 (h : Pair w0 w K a l d z y s cap q lo len qc zs n N base X Y) (zo : Option Addr) (zc m : Nat) (ms : List Int) (hz : IRow w zo ms) (hm : ms.length = m) (hK : ∀ b o, zo = some ⟨b, o, none⟩ → K b) :
    Calls Tryz.prog 20 #[.pointer (some ⟨d, 0, none⟩), .slice zo m zc] w fun e w' => e = .returned (.tuple #[]) ∧ Pair w0 w' K a l d z y s cap q lo len qc zs n N base (X.crash ms) Y ∧ Kept K w w' := by
  obtain ⟨ao, c, h1⟩ := h.log
  refine (crash_len d zo m zc ms h1.disk hz hm (fun _ b o e => .inl (hK b o e))).mono ?_
  rintro e w' ⟨rfl, hd, hk⟩
  have hk' := hk.mono (L := K) fun k hk => .inl hk
  exact ⟨rfl, h.real ⟨ao, c, h1.turn hd hk (length_crashed ms _)⟩ hk', hk'⟩
theorem Pair.crash2 (h : Pair w0 w K a l d z y s cap q lo len qc zs n N base X Y) (hY : LOk N Y) (zo : Option Addr) (zc m : Nat) (ms : List Int) (hz : IRow w zo ms) (hm : ms.length = m) (hm1 : m ≤ 1000) (hne : ∀ b o, zo = some ⟨b, o, none⟩ → b ≠ y ∧ b ≠ s) :
    Calls Tryz.prog 21 #[.pointer (some ⟨y, 0, none⟩), .slice zo m zc] w fun e w' => e = .returned (.tuple #[]) ∧ ∃ K', Pair w0 w' K' a l d z y s cap q lo len qc zs n N base X (Y.crash ms) := by
  subst hm
  refine (h.doc.crashed zo zc ms hz hne hm1 fun vs hvs => ?_).mono ?_
  · obtain ⟨i, hi, e⟩ := List.getElem_of_mem hvs
    have := hY.tig.2 i
    rw [List.getD_eq_getElem?_getD, List.getElem?_eq_getElem hi, e] at this
    have h2 : vs.length ≤ 2 := this
    omega
  rintro e w' ⟨rfl, hd, ho⟩
  exact ⟨rfl, _, h.turn' hd ho⟩
/-- The real Open: another log, or an error at a place. -/
theorem Pair.open1 (h : Pair w0 w K a l d z y s cap q lo len qc zs n N base X Y) (hX : LOk N X) (ho : X.off = false) (hf : X.fuse = -1) (reset ep : Int) (hb : base + 6 * (N : Int) ≤ 1073741824) (he : 1 ≤ ep ∧ ep ≤ 1073741824) :
    Calls Tryz.prog 22 #[.pointer (some ⟨d, 0, none⟩), .int .i64 2, .int .i64 N, .int .i64 base, .int .i64 reset, .int .i64 ep] w fun e w' =>
      ((openUp (rdL X.vss 2) ep N 0 reset []).2 = -1 ∧ ∃ l' X2, e = .returned (.tuple #[.pointer (some ⟨l', 0, none⟩), .nilIface]) ∧ X2 = X.reopen N reset ep ∧ Pair w0 w' K a l' d z y s cap q lo len qc zs n N base X2 Y) ∨
      (∃ (G : Int) (b : Nat), 0 ≤ G ∧ G = (openUp (rdL X.vss 2) ep N 0 reset []).2 ∧ e = .returned (.tuple #[.pointer none, atV ⟨b, 0, none⟩]) ∧ AtLog w' a b G ∧ Doc w' (fun k => K k ∧ k ≠ q) z y s cap Y.vss Y.off Y.fuse 2 N base Y.ep Y.rs Y.D ∧ Below w0.heap.size w0 w') := by
  have hbb := h.base_bd
  have hd := h.log.disk
  rw [ho, hf] at hd
  refine (wopen_any (F := 2) hd h.log.errs reset ⟨hbb.1.1, hb⟩ he (by rw [hX.len]; omega) hbb.2.2.1).mono ?_
  rintro e w' ⟨v, rfl, hp, hk⟩
  rcases hp with ⟨h1, l', rfl, hl⟩ | ⟨h1, b, rfl, hat, _⟩
  · exact .inl ⟨h1, l', _, rfl, rfl, h.real (X' := X.reopen N reset ep) hl hk⟩
  · exact .inr ⟨_, b, h1, rfl, rfl, hat, h.doc.kept (hk.mono fun k hk => hk.1), below_kept h.bel hk h.old⟩
/-- The document's OpenLog, where there is an error. -/
theorem doc_fail (hd : Doc w K z y s cap Y.vss Y.off Y.fuse 2 N base Y.ep Y.rs Y.D) (hY : LOk N Y) (ho : Y.off = false ∧ Y.fuse = -1) (he : ErrsOf w0 all18 a) (hb0 : Below w0.heap.size w0 w) (reset ep : Int) (hb : 0 ≤ base ∧ base + 6 * (N : Int) ≤ 1073741824) (hN : N ≤ 100) (G : Int) (hG : 0 ≤ G) (hGe : G = (openUp (rdL Y.vss 2) ep N 0 reset []).2) :
    Calls Tryz.prog 23 #[.pointer (some ⟨y, 0, none⟩), .int .i64 2, .int .i64 N, .int .i64 base, .int .i64 reset, .int .i64 ep] w fun e w' => e = .returned (.tuple #[.pointer none, faultV 108 true G]) ∧ Below w.heap.size w w' := by
  subst hGe
  rw [ho.1, ho.2] at hd
  have hlow : ∀ i ∈ seven, gno i < w.heap.size := fun i hi => Nat.lt_of_lt_of_le (gno_lt he (fun i hi => by revert hi; unfold seven all18; simp; omega) i hi) hb0.size
  refine (hd.opened (F := 2) reset ep hb (by rw [hY.len]; omega) hN (fun j => Nat.le_succ_of_le (hY.tig.2 j)) hlow).mono ?_
  rintro e w' ⟨v, rfl, hbl, ⟨h1, _⟩ | ⟨_, rfl⟩⟩
  · omega
  · exact ⟨rfl, hbl⟩
/-- The document's OpenLog, where all is well. -/
theorem Pair.open2 (h : Pair w0 w K a l d z y s cap q lo len qc zs n N base X Y) (hY : LOk N Y) (ho : Y.off = false) (hf : Y.fuse = -1) (reset ep : Int) (hb : base + 6 * (N : Int) ≤ 1073741824) (hG : (openUp (rdL Y.vss 2) ep N 0 reset []).2 = -1) :
    Calls Tryz.prog 23 #[.pointer (some ⟨y, 0, none⟩), .int .i64 2, .int .i64 N, .int .i64 base, .int .i64 reset, .int .i64 ep] w fun e w' => ∃ z' K', e = .returned (.tuple #[.pointer (some ⟨z', 0, none⟩), faultV 0 false 0]) ∧ Pair w0 w' K' a l d z' y s cap q lo len qc zs n N base X (Y.reopen N reset ep) := by
  have hbb := h.base_bd
  have hd := h.doc
  rw [ho, hf] at hd
  have hlow : ∀ i ∈ seven, gno i < w.heap.size := fun i hi => h.log.low _ (h.log.errs i hi).1
  have hlt := h.lt
  have hsz := h.bel.size
  refine (hd.opened (F := 2) reset ep ⟨hbb.1.1, hb⟩ (by rw [hY.len]; omega) hbb.2.2.1 (fun j => Nat.le_succ_of_le (hY.tig.2 j)) hlow).mono ?_
  rintro e w' ⟨v, rfl, hbl, ⟨_, z', rfl, hz, hd'⟩ | ⟨h1, _⟩⟩
  · exact ⟨z', _, rfl, h.anew (Y' := Y.reopen N reset ep) hd' hbl (by omega)⟩
  · omega
end
end Go.Proofs.YtjacenhblclkaaaGreatDoor
