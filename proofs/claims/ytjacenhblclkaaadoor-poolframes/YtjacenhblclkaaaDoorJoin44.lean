/- Lemmas and contracts that the law stands on, joined: DtTab, PoTab, DtLeast. -/
import Derived.Test.YtjacenhblclkaaaDoorJoin42
import Derived.Test.YtjacenhblclkaaaDoorJoin43
import Derived.Test.YtjacenhblclkaaaDoorJoin6
import Derived.Maps.OwnSet
import Derived.Maps.RangeWalk
import Derived.Test.YtjacenhblclkaaaDoorJoin7
/- A table of dirty pages in memory: a map of ints in a cell; what its From, Add and Drop answer. -/
namespace Go.Proofs.YtjacenhblclkaaaDoor
open Go.RowKit
set_option linter.unusedVariables false

theorem Tryd.keyed3 : Maps.Keyed Tryd.prog 3 := Maps.int_keyed Tryd.underlying3
theorem Tryd.zero3 (w : World) : (zeroValue 3).run Tryd.prog w = .ok (.int .i64 0) w := by kernel_rfl
/-- Nothing that was there has turned but block T and, if there is one, block mb. -/
structure But2 (T : Nat) (mb : Option Nat) (w w' : World) : Prop where
  os : w'.os = w.os
  tape : w'.tape = w.tape
  output : w'.output = w.output
  size : w.heap.size ≤ w'.heap.size
  block : ∀ k, k < w.heap.size → k ≠ T → some k ≠ mb → w'.heap[k]? = w.heap[k]?
theorem But2.refl (T : Nat) (mb : Option Nat) (w : World) : But2 T mb w w := ⟨rfl, rfl, rfl, Nat.le_refl _, fun _ _ _ _ => rfl⟩
theorem But2.of_below {T : Nat} {mb : Option Nat} {w w' : World} (hb : Below w.heap.size w w') : But2 T mb w w' := ⟨hb.os, hb.tape, hb.output, hb.size, fun k hk _ _ => hb.block k hk⟩
theorem But2.trans {T : Nat} {mb mb' : Option Nat} {w w' w2 : World} (h : But2 T mb w w') (k : But2 T mb' w' w2) (hm : ∀ b, mb' = some b → mb = some b ∨ w.heap.size ≤ b) : But2 T mb w w2 :=
  ⟨k.os.trans h.os, k.tape.trans h.tape, k.output.trans h.output, Nat.le_trans h.size k.size, fun i hi h1 h2 => (k.block i (Nat.lt_of_lt_of_le hi h.size) h1 (fun e => by
    rcases hm i e.symm with h3 | h3
    · exact h2 h3.symm
    · omega)).trans (h.block i hi h1 h2)⟩
theorem But2.below {T : Nat} {mb : Option Nat} {B : Nat} {w w' : World} (h : But2 T mb w w') (hT : B ≤ T) (hm : ∀ b, mb = some b → B ≤ b) (hB : B ≤ w.heap.size) : Below B w w' :=
  ⟨h.os, h.tape, h.output, h.size, fun k hk => h.block k (Nat.lt_of_lt_of_le hk hB) (by omega) (fun e => by have := hm k e.symm; omega)⟩
/-- At offset o of block T lies a table that holds the pages es; mb: its map's block; at most N pages were put there. -/
structure TabAt (w : World) (T o : Nat) (mb : Option Nat) (N : Nat) (es : List (Int × Int)) : Prop where
  row : ∃ c ty, w.heap[T]? = some (.cells c ty (0, 0)) ∧ c[o]? = some (.map mb)
  up : Up es
  nil : mb = none → es = []
  own : ∀ b, mb = some b → w.ownsMap Tryd.prog 3 (plainElem Tryd.prog 3) b N (mapD es)
section
variable {w w' : World} {T o N : Nat} {mb : Option Nat} {es : List (Int × Int)}
theorem TabAt.cell (h : TabAt w T o mb N es) : w.cell? ⟨T, o, none⟩ = some (.map mb) := by
  obtain ⟨c, ty, h1, h2⟩ := h.row
  exact (cell_row h1 o).trans h2
theorem TabAt.fz (h : TabAt w T o mb N es) (i : Nat) : w.frozen? ⟨T, i, none⟩ = false := by
  obtain ⟨c, ty, h1, h2⟩ := h.row
  simp [World.frozen?, h1]
theorem TabAt.lt (h : TabAt w T o mb N es) : T < w.heap.size := by
  obtain ⟨c, ty, h1, h2⟩ := h.row
  exact lt_of_block h1
theorem TabAt.ne (h : TabAt w T o mb N es) {b : Nat} (hb : mb = some b) : b ≠ T := by
  rintro rfl
  obtain ⟨c, ty, h1, h2⟩ := h.row
  obtain ⟨e, clock, h3, _⟩ := h.own _ hb
  rw [h1] at h3
  simp at h3
theorem TabAt.mono (h : TabAt w T o mb N es) {M : Nat} (hM : N ≤ M) : TabAt w T o mb M es := ⟨h.row, h.up, h.nil, fun b hb => (h.own b hb).mono hM⟩
theorem ownsMap_of {b n : Nat} {D : DataW Unit} (h : w.ownsMap Tryd.prog 3 (plainElem Tryd.prog 3) b n D) (hb : w'.heap[b]? = w.heap[b]?) : w'.ownsMap Tryd.prog 3 (plainElem Tryd.prog 3) b n D := by
  obtain ⟨e, clock, h1, h2⟩ := h
  exact ⟨e, clock, hb.trans h1, h2⟩
/-- The table stays while its blocks stay. -/
theorem TabAt.of_blocks (h : TabAt w T o mb N es) (hT : w'.heap[T]? = w.heap[T]?) (hm : ∀ b, mb = some b → w'.heap[b]? = w.heap[b]?) : TabAt w' T o mb N es := by
  obtain ⟨c, ty, h1, h2⟩ := h.row
  exact ⟨⟨c, ty, hT.trans h1, h2⟩, h.up, h.nil, fun b hb => ownsMap_of (h.own b hb) (hm b hb)⟩
theorem TabAt.below (h : TabAt w T o mb N es) {B : Nat} (hb : Below B w w') (hB : w.heap.size ≤ B) : TabAt w' T o mb N es :=
  h.of_blocks (hb.block T (Nat.lt_of_lt_of_le h.lt hB)) fun b e => hb.block b (Nat.lt_of_lt_of_le (h.own b e).lt hB)
theorem TabAt.step (h : TabAt w T o mb N es) (hb : Below w.heap.size w w') : TabAt w' T o mb N es := h.below hb (Nat.le_refl _)
theorem TabAt.drew (h : TabAt w T o mb N es) : TabAt w.drew T o mb N es := ⟨h.row, h.up, h.nil, h.own⟩
end
theorem val_of_key {es : List (Int × Int)} {p c : Int} (h : (mapD es).atKey (.int .i64 p) (.lit (.int .i64 0)) = .lit (.int .i64 c)) : c = (valE es p).getD 0 := by
  rw [atKey_mapD] at h
  cases hv : valE es p with
  | none => rw [hv] at h; simp at h; simp [h]
  | some v => rw [hv] at h; simp at h; simp [h]
theorem none_of_nil {es : List (Int × Int)} (h : es = []) (p : Int) : valE es p = none ∧ hasE es p = false := by
  subst h
  exact ⟨rfl, rfl⟩
set_option maxRecDepth 100000 in
set_option maxHeartbeats 1000000 in
theorem tfrom_any {w : World} {T o N : Nat} {mb : Option Nat} {es : List (Int × Int)} (h : TabAt w T o mb N es) (p : Int) (hp : (Lit.int .i64 p).wf = true) :
    Calls Tryd.prog 55 #[.pointer (some ⟨T, o, none⟩), .int .i64 p] w fun e w' => e = .returned (.tuple #[.int .i64 ((valE es p).getD 0), .bool (hasE es p)]) ∧ Below w.heap.size w w' := by
  have hkey := Maps.keyOf_int_mk Tryd.underlying3 hp
  have c0 := h.cell
  cases mb with
  | none =>
    obtain ⟨e1, e2⟩ := none_of_nil (h.nil rfl) p
    rw [e1, e2]
    have hrun := Maps.look_nil (w := w) true Tryd.keyed3 Tryd.underlying81 (Tryd.zero3 _) hkey
    clear h e1 e2
    go_enter Tryd.func55, Tryd.ntmps55
    go_wp2_with fail
    go_ret2
    exact ⟨rfl, Below.refl _ _⟩
  | some b =>
    have hown := h.own b rfl
    clear h
    go_enter Tryd.func55, Tryd.ntmps55
    go_wp2_with (first
      | (at_lookup; refine wpList_lookup_own_ok_int _ rfl _ _ 81 rfl 3 3 .i64 Tryd.keyed3 Tryd.underlying81 Tryd.underlying3 (Tryd.zero3 _) b N _ rfl hown _ _ rfl hkey ?_; intro c hat hwc; replace hat := val_of_key hat; subst hat; rw [has_mapD])
      | go_in)
    go_ret2
    exact ⟨rfl, Below.refl _ _⟩
/-- A cell of the table's block is written. -/
theorem TabAt.setMap {w : World} {T o N M : Nat} {mb : Option Nat} {es fs : List (Int × Int)} {b : Nat} (h : TabAt w T o mb N es) (hu : Up fs) (hb : w.ownsMap Tryd.prog 3 (plainElem Tryd.prog 3) b M (mapD fs)) : TabAt (w.setCell ⟨T, o, none⟩ (.map (some b))) T o (some b) M fs := by
  obtain ⟨c, ty, h1, h2⟩ := h.row
  have ho : o < c.size := (Array.getElem?_eq_some_iff.1 h2).1
  refine ⟨⟨c.setIfInBounds o (.map (some b)), ty, ?_, ?_⟩, hu, fun e => by simp at e, fun b' e => ?_⟩
  · simp [World.setCell, Array.getElem?_modify, h1]
  · simp [ho]
  · simp only [Option.some.injEq] at e
    subst e
    refine hb.setCell (fun e => ?_) _
    have e' : b = T := e
    subst e'
    obtain ⟨_, _, h3, _⟩ := hb
    rw [h1] at h3
    simp at h3
theorem But2.setT {T : Nat} {mb : Option Nat} {w w' : World} (h : But2 T mb w w') (o : Nat) (v : Value) : But2 T mb w (w'.setCell ⟨T, o, none⟩ v) :=
  ⟨h.os, h.tape, h.output, by simpa [World.setCell] using h.size, fun k hk h1 h2 => (Below.heap_setCell _ _ _ _ h1).trans (h.block k hk h1 h2)⟩
theorem But2.grown {T : Nat} {mb : Option Nat} {w w' w2 : World} (h : But2 T mb w w') {b : Nat} (hg : w'.grownBy w2 (some b)) (hm : mb = some b ∨ w.heap.size ≤ b) : But2 T mb w w2 :=
  ⟨hg.os.trans h.os, hg.tape.trans h.tape, hg.output.trans h.output, Nat.le_trans h.size hg.size, fun k hk h1 h2 => (hg.block k (Nat.lt_of_lt_of_le hk h.size) (fun e => by
    simp only [Option.some.injEq] at e
    subst e
    rcases hm with h3 | h3
    · exact h2 h3.symm
    · omega)).trans (h.block k hk h1 h2)⟩
theorem TabAt.grown {w w' : World} {T o N M : Nat} {b : Nat} {es fs : List (Int × Int)} (h : TabAt w T o (some b) N es) (hg : w.grownBy w' (some b)) (hu : Up fs) (hb : w'.ownsMap Tryd.prog 3 (plainElem Tryd.prog 3) b M (mapD fs)) : TabAt w' T o (some b) M fs := by
  have hT := hg.block T h.lt (by have := h.ne rfl; simp; omega)
  obtain ⟨c, ty, h1, h2⟩ := h.row
  exact ⟨⟨c, ty, hT.trans h1, h2⟩, hu, fun e => by simp at e, fun b' e => by simp only [Option.some.injEq] at e; subst e; exact hb⟩
set_option maxRecDepth 100000 in
set_option maxHeartbeats 2000000 in
theorem tadd_any {w : World} {T o N : Nat} {mb : Option Nat} {es : List (Int × Int)} (h : TabAt w T o mb N es) (hN : N ≤ 1000) (p f : Int) (hp : (Lit.int .i64 p).wf = true) (hf : (Lit.int .i64 f).wf = true) :
    Calls Tryd.prog 39 #[.pointer (some ⟨T, o, none⟩), .int .i64 p, .int .i64 f] w fun e w' => e = .returned (.tuple #[]) ∧ But2 T mb w w' ∧ ∃ mb', TabAt w' T o mb' (N + 1) (addE p f es) ∧ (mb' = mb ∨ ∃ b, mb' = some b ∧ w.heap.size ≤ b) := by
  have hkey := Maps.keyOf_int_mk Tryd.underlying3 hp
  have hpl := plainElem_int (H := Unit) Tryd.underlying3 hf
  have c0 := h.cell
  have f0 := h.fz o
  have HT := hide h
  cases mb with
  | none =>
    obtain ⟨e1, e2⟩ := none_of_nil (h.nil rfl) p
    have HA : Hid (addE p f es = insE p f es ∧ es = []) := ⟨by unfold addE; rw [if_neg (by rw [e2]; simp)], h.nil rfl⟩
    have hrun := Maps.look_nil (w := w) true Tryd.keyed3 Tryd.underlying81 (Tryd.zero3 _) hkey
    have hmm := @run_makeMap Tryd.prog
    have hlt := h.lt
    have heq := fun w => run_eql_map_nil (P := Tryd.prog) w 81 _ _ none Tryd.underlying81
    have hcm : (w.alloc (.map #[] 0)).setCell ⟨T, o, none⟩ (.map (some w.heap.size)) = (w.setCell ⟨T, o, none⟩ (.map (some w.heap.size))).alloc (.map #[] 0) := World.setCell_alloc_past _ T o _ h.lt
    have hmade := World.ownsMap_made (H := Unit) w Tryd.prog 3 (plainElem Tryd.prog 3)
    have HT2 := hide ((h.step (below_box w (.map #[] 0))).setMap (fs := []) List.Pairwise.nil hmade)
    have HB2 : Hid (But2 T none w ((w.alloc (.map #[] 0)).setCell ⟨T, o, none⟩ (.map (some w.heap.size)))) := (But2.of_below (below_box w _)).setT o _
    rw [hcm] at HT2 HB2
    have hown := HT2.out.own _ rfl
    have HP : Hid ((mapD []).put (.int .i64 p) (.lit (.int .i64 f)) = mapD (insE p f [])) := put_mapD List.Pairwise.nil rfl f
    clear h e1 e2 hmade hcm
    go_enter Tryd.func39, Tryd.ntmps39
    go_wp2_with (first
      | (at_mapUpdate; refine wpList_mapUpdate_own _ rfl _ _ _ 81 rfl 3 3 Tryd.keyed3 Tryd.underlying81 _ w.heap.size 0 _ rfl hown (by unfold maxLen; omega) _ _ _ rfl rfl hkey _ [] hpl ?_; intro w1 hown1 hgrow1)
      | go_in)
    go_end0
    rw [HP.out, ← HA.out.2] at hown1
    exact ⟨rfl, HB2.out.grown hgrow1 (.inr (Nat.le_refl _)), some w.heap.size, by rw [HA.out.1]; exact (HT2.out.grown hgrow1 (HT.out.up.ins _ _) hown1).mono (by omega), .inr ⟨_, rfl, Nat.le_refl _⟩⟩
  | some b =>
    have hown := h.own b rfl
    cases hh : hasE es p with
    | true =>
      have HA : Hid (addE p f es = es) := by show _ = _; unfold addE; rw [if_pos hh]
      have HH := hide hh
      clear h hh
      go_enter Tryd.func39, Tryd.ntmps39
      go_wp2_with (first
        | (at_lookup; refine wpList_lookup_own_ok_int _ rfl _ _ 81 rfl 3 3 .i64 Tryd.keyed3 Tryd.underlying81 Tryd.underlying3 (Tryd.zero3 _) b N _ rfl hown _ _ rfl hkey ?_; intro c hat hwc; clear hat; rw [has_mapD, HH.out])
        | go_in)
      refine bodyPost_ret (results_none rfl _ _ _) rfl ?_
      exact ⟨rfl, But2.refl _ _ _, some b, by rw [HA.out]; exact HT.out.mono (by omega), .inl rfl⟩
    | false =>
      have HA : Hid (addE p f es = insE p f es) := by show _ = _; unfold addE; rw [if_neg (by rw [hh]; simp)]
      have HP : Hid ((mapD es).put (.int .i64 p) (.lit (.int .i64 f)) = mapD (insE p f es)) := put_mapD h.up hh f
      have HH := hide hh
      have heq := fun w => run_eql_map_nil (P := Tryd.prog) w 81 _ _ (some b) Tryd.underlying81
      clear h hh
      go_enter Tryd.func39, Tryd.ntmps39
      go_wp2_with (first
        | (at_lookup; refine wpList_lookup_own_ok_int _ rfl _ _ 81 rfl 3 3 .i64 Tryd.keyed3 Tryd.underlying81 Tryd.underlying3 (Tryd.zero3 _) b N _ rfl hown _ _ rfl hkey ?_; intro c hat hwc; clear hat; rw [has_mapD, HH.out])
        | (at_mapUpdate; refine wpList_mapUpdate_own _ rfl _ _ _ 81 rfl 3 3 Tryd.keyed3 Tryd.underlying81 _ b N _ rfl hown (by unfold maxLen; omega) _ _ _ rfl rfl hkey _ [] hpl ?_; intro w1 hown1 hgrow1)
        | go_in)
      go_end0
      rw [HP.out] at hown1
      exact ⟨rfl, (But2.refl _ _ _).grown hgrow1 (.inl rfl), some b, by rw [HA.out]; exact HT.out.grown hgrow1 (HT.out.up.ins _ _) hown1, .inl rfl⟩
set_option maxRecDepth 100000 in
set_option maxHeartbeats 2000000 in
theorem tdrop_any {w : World} {T o N : Nat} {mb : Option Nat} {es : List (Int × Int)} (h : TabAt w T o mb N es) (p : Int) (hp : (Lit.int .i64 p).wf = true) :
    Calls Tryd.prog 58 #[.pointer (some ⟨T, o, none⟩), .int .i64 p] w fun e w' => e = .returned (.bool (hasE es p)) ∧ But2 T mb w w' ∧ TabAt w' T o mb N (remE p es) := by
  have hkey := Maps.keyOf_int_mk Tryd.underlying3 hp
  have c0 := h.cell
  have HT := hide h
  cases mb with
  | none =>
    obtain ⟨e1, e2⟩ := none_of_nil (h.nil rfl) p
    have HA : Hid (remE p es = es) := rem_of_not e2
    rw [e2]
    have hrun := Maps.look_nil (w := w) true Tryd.keyed3 Tryd.underlying81 (Tryd.zero3 _) hkey
    have hdel := Maps.drop_nil (w := w) Tryd.keyed3 Tryd.underlying81 hkey
    clear h e1 e2
    go_enter Tryd.func58, Tryd.ntmps58
    go_wp2_with fail
    go_ret
    exact ⟨rfl, But2.refl _ _ _, by rw [HA.out]; exact HT.out⟩
  | some b =>
    have hown := h.own b rfl
    clear h
    go_enter Tryd.func58, Tryd.ntmps58
    go_wp2_with (first
      | (at_lookup; refine wpList_lookup_own_ok_int _ rfl _ _ 81 rfl 3 3 .i64 Tryd.keyed3 Tryd.underlying81 Tryd.underlying3 (Tryd.zero3 _) b N _ rfl hown _ _ rfl hkey ?_; intro c hat hwc; clear hat; rw [has_mapD])
      | (at_delete; refine wpList_delete_own _ rfl _ _ 81 3 rfl 3 Tryd.keyed3 Tryd.underlying81 _ b N _ rfl hown _ _ rfl hkey ?_; intro w1 hown1 hturn1)
      | go_in)
    go_ret
    rw [del_mapD] at hown1
    exact ⟨rfl, (But2.refl _ _ _).grown hturn1.grown (.inl rfl), HT.out.grown hturn1.grown (HT.out.up.rem _) hown1⟩
end Go.Proofs.YtjacenhblclkaaaDoor

/- A table of dirty pages that stands in a greater block: what Add and Drop leave of that block. -/
namespace Go.Proofs.YtjacenhblclkaaaDoor
open Go.RowKit
set_option linter.unusedVariables false

theorem tab_same {w : World} {T o N : Nat} {mb : Option Nat} {es : List (Int × Int)} (h : TabAt w T o mb N es) {c : Array Value} {ty : TypeId} (hc : w.heap[T]? = some (.cells c ty (0, 0))) : c.setIfInBounds o (.map mb) = c := by
  obtain ⟨c', ty', h1, h2⟩ := h.row
  rw [hc] at h1
  simp only [Option.some.injEq, Obj.cells.injEq] at h1
  obtain ⟨rfl, _⟩ := h1
  apply Array.ext_getElem?
  intro i
  by_cases hi : o = i
  · subst hi
    rw [Array.getElem?_setIfInBounds_self]
    have hlt := (Array.getElem?_eq_some_iff.1 h2).1
    rw [h2]
    simp [hlt]
  · rw [Array.getElem?_setIfInBounds_ne hi]
set_option maxRecDepth 100000 in
set_option maxHeartbeats 2000000 in
theorem tadd_row {w : World} {T o N : Nat} {mb : Option Nat} {es : List (Int × Int)} (h : TabAt w T o mb N es) (hN : N ≤ 1000) (p f : Int) (hp : (Lit.int .i64 p).wf = true) (hf : (Lit.int .i64 f).wf = true) :
    Calls Tryd.prog 39 #[.pointer (some ⟨T, o, none⟩), .int .i64 p, .int .i64 f] w fun e w' => e = .returned (.tuple #[]) ∧ But2 T mb w w' ∧ ∃ mb', TabAt w' T o mb' (N + 1) (addE p f es) ∧ (mb' = mb ∨ ∃ b, mb' = some b ∧ w.heap.size ≤ b) ∧ ∀ c ty, w.heap[T]? = some (.cells c ty (0, 0)) → w'.heap[T]? = some (.cells (c.setIfInBounds o (.map mb')) ty (0, 0)) := by
  have hkey := Maps.keyOf_int_mk Tryd.underlying3 hp
  have hpl := plainElem_int (H := Unit) Tryd.underlying3 hf
  have c0 := h.cell
  have f0 := h.fz o
  have HT := hide h
  cases mb with
  | none =>
    obtain ⟨e1, e2⟩ := none_of_nil (h.nil rfl) p
    have HA : Hid (addE p f es = insE p f es ∧ es = []) := ⟨by unfold addE; rw [if_neg (by rw [e2]; simp)], h.nil rfl⟩
    have hrun := Maps.look_nil (w := w) true Tryd.keyed3 Tryd.underlying81 (Tryd.zero3 _) hkey
    have hmm := @run_makeMap Tryd.prog
    have hlt := h.lt
    have heq := fun w => run_eql_map_nil (P := Tryd.prog) w 81 _ _ none Tryd.underlying81
    have hcm : (w.alloc (.map #[] 0)).setCell ⟨T, o, none⟩ (.map (some w.heap.size)) = (w.setCell ⟨T, o, none⟩ (.map (some w.heap.size))).alloc (.map #[] 0) := World.setCell_alloc_past _ T o _ h.lt
    have hmade := World.ownsMap_made (H := Unit) w Tryd.prog 3 (plainElem Tryd.prog 3)
    have HT2 := hide ((h.step (below_box w (.map #[] 0))).setMap (fs := []) List.Pairwise.nil hmade)
    have HB2 : Hid (But2 T none w ((w.alloc (.map #[] 0)).setCell ⟨T, o, none⟩ (.map (some w.heap.size)))) := (But2.of_below (below_box w _)).setT o _
    rw [hcm] at HT2 HB2
    have hown := HT2.out.own _ rfl
    have HP : Hid ((mapD []).put (.int .i64 p) (.lit (.int .i64 f)) = mapD (insE p f [])) := put_mapD List.Pairwise.nil rfl f
    clear h e1 e2 hmade hcm
    go_enter Tryd.func39, Tryd.ntmps39
    go_wp2_with (first
      | (at_mapUpdate; refine wpList_mapUpdate_own _ rfl _ _ _ 81 rfl 3 3 Tryd.keyed3 Tryd.underlying81 _ w.heap.size 0 _ rfl hown (by unfold maxLen; omega) _ _ _ rfl rfl hkey _ [] hpl ?_; intro w1 hown1 hgrow1)
      | go_in)
    go_end0
    rw [HP.out, ← HA.out.2] at hown1
    exact ⟨rfl, HB2.out.grown hgrow1 (.inr (Nat.le_refl _)), some w.heap.size, by rw [HA.out.1]; exact (HT2.out.grown hgrow1 (HT.out.up.ins _ _) hown1).mono (by omega), .inr ⟨_, rfl, Nat.le_refl _⟩, fun c ty hc => by
      have hlt := HT.out.lt
      rw [hgrow1.block T HT2.out.lt (by simp; omega), (below_box _ _).block T (by simpa [World.setCell] using hlt)]
      exact set_block (show w.heap[T]? = some _ from by rw [Array.getElem?_eq_getElem hlt]; exact congrArg some hc) o _⟩
  | some b =>
    have hown := h.own b rfl
    cases hh : hasE es p with
    | true =>
      have HA : Hid (addE p f es = es) := by show _ = _; unfold addE; rw [if_pos hh]
      have HH := hide hh
      clear h hh
      go_enter Tryd.func39, Tryd.ntmps39
      go_wp2_with (first
        | (at_lookup; refine wpList_lookup_own_ok_int _ rfl _ _ 81 rfl 3 3 .i64 Tryd.keyed3 Tryd.underlying81 Tryd.underlying3 (Tryd.zero3 _) b N _ rfl hown _ _ rfl hkey ?_; intro c hat hwc; clear hat; rw [has_mapD, HH.out])
        | go_in)
      refine bodyPost_ret (results_none rfl _ _ _) rfl ?_
      exact ⟨rfl, But2.refl _ _ _, some b, by rw [HA.out]; exact HT.out.mono (by omega), .inl rfl, fun c ty hc => by rw [hc, tab_same HT.out hc]⟩
    | false =>
      have HA : Hid (addE p f es = insE p f es) := by show _ = _; unfold addE; rw [if_neg (by rw [hh]; simp)]
      have HP : Hid ((mapD es).put (.int .i64 p) (.lit (.int .i64 f)) = mapD (insE p f es)) := put_mapD h.up hh f
      have HH := hide hh
      have heq := fun w => run_eql_map_nil (P := Tryd.prog) w 81 _ _ (some b) Tryd.underlying81
      clear h hh
      go_enter Tryd.func39, Tryd.ntmps39
      go_wp2_with (first
        | (at_lookup; refine wpList_lookup_own_ok_int _ rfl _ _ 81 rfl 3 3 .i64 Tryd.keyed3 Tryd.underlying81 Tryd.underlying3 (Tryd.zero3 _) b N _ rfl hown _ _ rfl hkey ?_; intro c hat hwc; clear hat; rw [has_mapD, HH.out])
        | (at_mapUpdate; refine wpList_mapUpdate_own _ rfl _ _ _ 81 rfl 3 3 Tryd.keyed3 Tryd.underlying81 _ b N _ rfl hown (by unfold maxLen; omega) _ _ _ rfl rfl hkey _ [] hpl ?_; intro w1 hown1 hgrow1)
        | go_in)
      go_end0
      rw [HP.out] at hown1
      exact ⟨rfl, (But2.refl _ _ _).grown hgrow1 (.inl rfl), some b, by rw [HA.out]; exact HT.out.grown hgrow1 (HT.out.up.ins _ _) hown1, .inl rfl, fun c ty hc => by rw [hgrow1.block T HT.out.lt (by have := HT.out.ne rfl; simp; omega), hc, tab_same HT.out hc]⟩
set_option maxRecDepth 100000 in
set_option maxHeartbeats 2000000 in
theorem tdrop_row {w : World} {T o N : Nat} {mb : Option Nat} {es : List (Int × Int)} (h : TabAt w T o mb N es) (p : Int) (hp : (Lit.int .i64 p).wf = true) :
    Calls Tryd.prog 58 #[.pointer (some ⟨T, o, none⟩), .int .i64 p] w fun e w' => e = .returned (.bool (hasE es p)) ∧ But2 T mb w w' ∧ TabAt w' T o mb N (remE p es) ∧ w'.heap[T]? = w.heap[T]? := by
  have hkey := Maps.keyOf_int_mk Tryd.underlying3 hp
  have c0 := h.cell
  have HT := hide h
  cases mb with
  | none =>
    obtain ⟨e1, e2⟩ := none_of_nil (h.nil rfl) p
    have HA : Hid (remE p es = es) := rem_of_not e2
    rw [e2]
    have hrun := Maps.look_nil (w := w) true Tryd.keyed3 Tryd.underlying81 (Tryd.zero3 _) hkey
    have hdel := Maps.drop_nil (w := w) Tryd.keyed3 Tryd.underlying81 hkey
    clear h e1 e2
    go_enter Tryd.func58, Tryd.ntmps58
    go_wp2_with fail
    go_ret
    exact ⟨rfl, But2.refl _ _ _, by rw [HA.out]; exact HT.out, rfl⟩
  | some b =>
    have hown := h.own b rfl
    clear h
    go_enter Tryd.func58, Tryd.ntmps58
    go_wp2_with (first
      | (at_lookup; refine wpList_lookup_own_ok_int _ rfl _ _ 81 rfl 3 3 .i64 Tryd.keyed3 Tryd.underlying81 Tryd.underlying3 (Tryd.zero3 _) b N _ rfl hown _ _ rfl hkey ?_; intro c hat hwc; clear hat; rw [has_mapD])
      | (at_delete; refine wpList_delete_own _ rfl _ _ 81 3 rfl 3 Tryd.keyed3 Tryd.underlying81 _ b N _ rfl hown _ _ rfl hkey ?_; intro w1 hown1 hturn1)
      | go_in)
    go_ret
    rw [del_mapD] at hown1
    exact ⟨rfl, (But2.refl _ _ _).grown hturn1.grown (.inl rfl), HT.out.grown hturn1.grown (HT.out.up.rem _) hown1, hturn1.grown.block T HT.out.lt (by have := HT.out.ne rfl; simp; omega)⟩
end Go.Proofs.YtjacenhblclkaaaDoor

/- What a table's Least answers. -/
namespace Go.Proofs.YtjacenhblclkaaaDoor
open Go.RowKit
set_option linter.unusedVariables false

theorem val_of_hat {es : List (Int × Int)} {x c : Int} (h : ∀ zd : DataW Unit, (mapD es).atKey (.int .i64 x) zd = .lit (.int .i64 c)) : (x, c) ∈ es := by
  have h1 := h .nil
  rw [atKey_mapD] at h1
  cases hv : valE es x with
  | none => rw [hv] at h1; simp at h1
  | some v => rw [hv] at h1; simp at h1; subst h1; exact valE_of_mem hv
/-- The least of what has been met. -/
def metL (es : List (Int × Int)) (left : Lit → Bool) (c : Int) : Prop :=
  (∀ e ∈ es, left (.int .i64 e.1) = false → c ≤ e.2) ∧ ((c = 9223372036854775807 ∧ ∀ e ∈ es, left (.int .i64 e.1) = true) ∨ ∃ e ∈ es, e.2 = c)
theorem met_start (es : List (Int × Int)) : metL es (Maps.has (mapD es)) 9223372036854775807 := by
  have h : ∀ e ∈ es, Maps.has (mapD es) (.int .i64 e.1) = true := fun e he => by rw [has_mapD]; exact hasE_true he rfl
  exact ⟨fun e he hf => by rw [h e he] at hf; simp at hf, .inl ⟨rfl, h⟩⟩
theorem met_step {es : List (Int × Int)} {left : Lit → Bool} {c x v d : Int} (h : metL es left c) (hx : (x, v) ∈ es) (hu : Up es) (hv : v ≤ 9223372036854775807) (hd : d = if v < c then v else c) : metL es (fun z => left z && !z.sameKey (.int .i64 x)) d := by
  have hone : ∀ e ∈ es, e.1 = x → e.2 = v := by
    intro e he h1
    obtain ⟨i, hi⟩ := List.getElem?_of_mem he
    obtain ⟨j, hj⟩ := List.getElem?_of_mem hx
    have a := valE_at hu hi
    have b := valE_at hu hj
    rw [h1] at a
    rw [a] at b
    simpa using b
  refine ⟨fun e he hf => ?_, ?_⟩
  · simp only [same_lit, Bool.and_eq_false_iff, Bool.not_eq_false', decide_eq_true_eq] at hf
    rcases hf with hf | hf
    · have := h.1 e he hf
      rw [hd]; split <;> omega
    · have := hone e he hf
      rw [hd]; split <;> omega
  · right
    by_cases hvc : v < c
    · rw [if_pos hvc] at hd
      exact ⟨(x, v), hx, hd.symm⟩
    · rw [if_neg hvc] at hd
      rcases h.2 with ⟨h1, _⟩ | ⟨e, he, h1⟩
      · exact ⟨(x, v), hx, by show v = d; omega⟩
      · exact ⟨e, he, by omega⟩
theorem met_end {es : List (Int × Int)} {left : Lit → Bool} {c : Int} (h : metL es left c) (hne : es ≠ []) (hl : ∀ kl, left kl = false) : c = leastE es := by
  refine (leastE_of (fun e => absurd e hne) (fun e he => h.1 e he (hl _)) fun _ => ?_).symm
  rcases h.2 with ⟨_, h1⟩ | h1
  · cases es with
    | nil => exact absurd rfl hne
    | cons e r => have := h1 e (by simp); rw [hl] at this; simp at this
  · exact h1
end Go.Proofs.YtjacenhblclkaaaDoor
