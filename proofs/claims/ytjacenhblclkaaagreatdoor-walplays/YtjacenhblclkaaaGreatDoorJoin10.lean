/- Lemmas and contracts that the law stands on, joined: RDisk, RLog, RSync. -/
import Derived.Test.YtjacenhblclkaaaGreatDoorJoin4
import Derived.Test.YtjacenhblclkaaaGreatDoorJoin5
import Derived.Test.YtjacenhblclkaaaGreatDoorJoin9
import Derived.BigQuiet
import Derived.BigRegion
/- The document's own disk in memory (phoenixref1.Disk): its versions, how it stays while other memory turns, and what Fuse, burn and Read do. -/
namespace Go.Proofs.YtjacenhblclkaaaGreatDoor
open Go.RowKit
set_option linter.unusedVariables false

/-- A sector's versions, the fast one first: a list of lists of bytes that is never written in place. -/
def VRow (w : World) (M : Nat → Prop) (v : Value) (vs : List (List Int)) : Prop :=
  0 < vs.length ∧ ∃ b o c, v = .slice (some ⟨b, o, none⟩) vs.length c ∧ vs.length ≤ c ∧ (∃ cs : Array Value, w.heap[b]? = some (.cells cs 65 (0, 0))) ∧
    (∀ j xs, vs[j]? = some xs → xs.length = 256 ∧ ∃ g gc, w.cell? ⟨b, o + j, none⟩ = some (.slice (some ⟨g, 0, none⟩) 256 gc) ∧ Row w (some ⟨g, 0, none⟩) xs ∧ (∃ cg : Array Value, w.heap[g]? = some (.cells cg 5 (0, 0))) ∧ M g) ∧ M b
/-- Blocks of bytes, and of lists of bytes, stay. -/
def StaysB (w w' : World) : Prop := w.heap.size ≤ w'.heap.size ∧ ∀ (g : Nat) (cs : Array Value) (t : TypeId), (t = 65 ∨ t = 5) → w.heap[g]? = some (.cells cs t (0, 0)) → w'.heap[g]? = w.heap[g]?
theorem StaysB.of_below {w w' : World} (h : Below w.heap.size w w') : StaysB w w' := ⟨h.size, fun g cs t _ hg => h.block g (lt_of_block hg)⟩
theorem StaysB.set {w : World} {P : Nat} {c : Array Value} {t : TypeId} (h : w.heap[P]? = some (.cells c t (0, 0))) (h1 : t ≠ 65) (h2 : t ≠ 5) (o : Nat) (v : Value) : StaysB w (w.setCell ⟨P, o, none⟩ v) := by
  refine ⟨by simp [World.setCell], fun g cs u hu hg => ?_⟩
  refine Below.heap_setCell _ _ _ _ fun e => ?_
  have e : g = P := e
  subst e
  rw [h] at hg
  injection hg with hg
  injection hg with _ hg _
  rcases hu with rfl | rfl
  · exact h1 hg
  · exact h2 hg
theorem VRow.kept {w w' : World} {M : Nat → Prop} {v : Value} {vs : List (List Int)} (h : VRow w M v vs) (hz : w.heap.size ≤ w'.heap.size) (hk : ∀ (g : Nat) (cs : Array Value) (t : TypeId), (t = 65 ∨ t = 5) → M g → w.heap[g]? = some (.cells cs t (0, 0)) → w'.heap[g]? = w.heap[g]?) : VRow w' M v vs := by
  obtain ⟨h0, b, o, c, rfl, hc, ⟨cs, hb⟩, hx, hM⟩ := h
  have hb' := hk b cs _ (.inl rfl) hM hb
  refine ⟨h0, b, o, c, rfl, hc, ⟨cs, hb'.trans hb⟩, fun j xs hj => ?_, hM⟩
  obtain ⟨hl, g, gc, h1, ⟨r0, r1, r2⟩, ⟨cg, hg⟩, hMg⟩ := hx j xs hj
  have hg' := hk g cg _ (.inr rfl) hMg hg
  refine ⟨hl, g, gc, (World.cell?_of_block (w := w) hb').trans h1, ⟨r0, r1, fun hp => ?_⟩, ⟨cg, hg'.trans hg⟩, hMg⟩
  obtain ⟨b2, o2, e, hlt, hcell⟩ := r2 hp
  injection e with e
  injection e with e1 e2 _
  subst e1; subst e2
  exact ⟨g, 0, rfl, Nat.lt_of_lt_of_le hlt hz, fun i hi => (World.cell?_of_block (w := w) (a := ⟨g, 0 + i, none⟩) hg').trans (hcell i hi)⟩
theorem VRow.stays {w w' : World} {M : Nat → Prop} {v : Value} {vs : List (List Int)} (h : VRow w M v vs) (hs : StaysB w w') : VRow w' M v vs := h.kept hs.1 fun g cs t ht _ hg => hs.2 g cs t ht hg
theorem VRow.wide {w : World} {M L : Nat → Prop} {v : Value} {vs : List (List Int)} (h : VRow w M v vs) (hL : ∀ k, M k → L k) : VRow w L v vs := by
  obtain ⟨h0, b, o, c, rfl, hc, hb, hx, hM⟩ := h
  refine ⟨h0, b, o, c, rfl, hc, hb, fun j xs hj => ?_, hL _ hM⟩
  obtain ⟨hl, g, gc, h1, h2, h3, hMg⟩ := hx j xs hj
  exact ⟨hl, g, gc, h1, h2, h3, hL _ hMg⟩
/-- The document's disk lies at block y, its table of sectors at block s. -/
structure RD (w : World) (M : Nat → Prop) (y s cap : Nat) (vss : List (List (List Int))) (left : Int) (gone : Bool) : Prop where
  head : w.heap[y]? = some (.cells #[.slice (some ⟨s, 0, none⟩) vss.length cap, .int .i64 left, .bool gone] 89 (0, 0))
  tab : ∃ cs : Array Value, w.heap[s]? = some (.cells cs 61 (0, 0)) ∧ cs.size = cap ∧ ∀ (i : Nat) (vs : List (List Int)), vss[i]? = some vs → ∃ v : Value, cs[i]? = some v ∧ VRow w M v vs
  fits : vss.length ≤ cap
  many : vss.length ≤ 200
  my : M y
  ms : M s
/-- The disk stays while the blocks that M names stay. -/
theorem RD.kept {w w' : World} {M : Nat → Prop} {y s cap : Nat} {vss : List (List (List Int))} {left : Int} {gone : Bool} (h : RD w M y s cap vss left gone) (hz : w.heap.size ≤ w'.heap.size) (hk : ∀ g, M g → w'.heap[g]? = w.heap[g]?) : RD w' M y s cap vss left gone := by
  obtain ⟨cs, h1, h2, h3⟩ := h.tab
  refine ⟨(hk y h.my).trans h.head, ⟨cs, (hk s h.ms).trans h1, h2, fun i vs hi => ?_⟩, h.fits, h.many, h.my, h.ms⟩
  obtain ⟨v, h4, h5⟩ := h3 i vs hi
  exact ⟨v, h4, h5.kept hz fun g _ _ _ hg _ => hk g hg⟩
theorem RD.wide {w : World} {M L : Nat → Prop} {y s cap : Nat} {vss : List (List (List Int))} {left : Int} {gone : Bool} (h : RD w M y s cap vss left gone) (hL : ∀ k, M k → L k) : RD w L y s cap vss left gone := by
  obtain ⟨cs, h1, h2, h3⟩ := h.tab
  refine ⟨h.head, ⟨cs, h1, h2, fun i vs hi => ?_⟩, h.fits, h.many, hL _ h.my, hL _ h.ms⟩
  obtain ⟨v, h4, h5⟩ := h3 i vs hi
  exact ⟨v, h4, h5.wide hL⟩
/-- None of the blocks that were there turned but those two. -/
structure Only2 (y s : Nat) (w w' : World) : Prop where
  os : w'.os = w.os
  tape : w'.tape = w.tape
  output : w'.output = w.output
  size : w.heap.size ≤ w'.heap.size
  block : ∀ k, k < w.heap.size → k ≠ y → k ≠ s → w'.heap[k]? = w.heap[k]?
section
variable {w w' : World} {M : Nat → Prop} {y s cap : Nat} {vss : List (List (List Int))} {left : Int} {gone : Bool}
theorem RD.c0 (h : RD w M y s cap vss left gone) : w.cell? ⟨y, 0, none⟩ = some (.slice (some ⟨s, 0, none⟩) vss.length cap) := (cell_row h.head 0).trans rfl
theorem RD.c1 (h : RD w M y s cap vss left gone) : w.cell? ⟨y, 1, none⟩ = some (.int .i64 left) := (cell_row h.head 1).trans rfl
theorem RD.c2 (h : RD w M y s cap vss left gone) : w.cell? ⟨y, 2, none⟩ = some (.bool gone) := (cell_row h.head 2).trans rfl
theorem RD.fz (h : RD w M y s cap vss left gone) (o : Nat) : w.frozen? ⟨y, o, none⟩ = false := by simp [World.frozen?, h.head]
theorem RD.lt (h : RD w M y s cap vss left gone) : y < w.heap.size := lt_of_block h.head
theorem RD.ne (h : RD w M y s cap vss left gone) : y ≠ s := by
  obtain ⟨cs, h1, _⟩ := h.tab
  intro e
  have h2 := h.head
  rw [e, h1] at h2
  injection h2 with h3
  injection h3 with _ h4 _
  exact absurd h4 (by decide)
theorem RD.step (h : RD w M y s cap vss left gone) (hb : Below w.heap.size w w') : RD w' M y s cap vss left gone := by
  obtain ⟨cs, h1, h2, h3⟩ := h.tab
  refine ⟨(hb.block y h.lt).trans h.head, ⟨cs, (hb.block s (lt_of_block h1)).trans h1, h2, fun i vs hi => ?_⟩, h.fits, h.many, h.my, h.ms⟩
  obtain ⟨v, h4, h5⟩ := h3 i vs hi
  exact ⟨v, h4, h5.stays (.of_below hb)⟩
theorem RD.set (h : RD w M y s cap vss left gone) (o : Nat) (v : Value) {left' : Int} {gone' : Bool} (hc : (#[.slice (some ⟨s, 0, none⟩) vss.length cap, .int .i64 left, .bool gone] : Array Value).setIfInBounds o v = #[.slice (some ⟨s, 0, none⟩) vss.length cap, .int .i64 left', .bool gone']) : RD (w.setCell ⟨y, o, none⟩ v) M y s cap vss left' gone' := by
  have hs := StaysB.set h.head (by decide) (by decide) o v
  obtain ⟨cs, h1, h2, h3⟩ := h.tab
  refine ⟨by rw [← hc]; exact set_block h.head o v, ⟨cs, (Below.heap_setCell _ _ _ _ (show s ≠ (⟨y, o, none⟩ : Addr).block from h.ne.symm)).trans h1, h2, fun i vs hi => ?_⟩, h.fits, h.many, h.my, h.ms⟩
  obtain ⟨u, h4, h5⟩ := h3 i vs hi
  exact ⟨u, h4, h5.stays hs⟩
/-- A sector's versions are other ones. -/
theorem RD.put (h : RD w M y s cap vss left gone) {i : Nat} (hi : i < vss.length) {v : Value} {vs : List (List Int)} (hv : VRow w M v vs) : RD (w.setCell ⟨s, i, none⟩ v) M y s cap (vss.set i vs) left gone := by
  obtain ⟨cs, h1, h2, h3⟩ := h.tab
  have hs := StaysB.set h1 (by decide) (by decide) i v
  refine ⟨by rw [List.length_set]; exact (Below.heap_setCell _ _ _ _ (show y ≠ (⟨s, i, none⟩ : Addr).block from h.ne)).trans h.head, ⟨_, set_block h1 i v, by rw [Array.size_setIfInBounds]; exact h2, fun j us hj => ?_⟩, by rw [List.length_set]; exact h.fits, by rw [List.length_set]; exact h.many, h.my, h.ms⟩
  rw [List.getElem?_set] at hj
  have hci : i < cs.size := by have := h.fits; omega
  rw [Array.getElem?_setIfInBounds]
  by_cases e : i = j
  · subst e
    rw [if_pos rfl, if_pos hi] at hj
    injection hj with hj
    subst hj
    exact ⟨v, by simp [hci], hv.stays hs⟩
  · rw [if_neg e] at hj
    obtain ⟨u, h4, h5⟩ := h3 j us hj
    exact ⟨u, by rw [if_neg e]; exact h4, h5.stays hs⟩
theorem Only2.refl (y s : Nat) (w : World) : Only2 y s w w := ⟨rfl, rfl, rfl, Nat.le_refl _, fun _ _ _ _ => rfl⟩
theorem Only2.of_below (hb : Below w.heap.size w w') : Only2 y s w w' := ⟨hb.os, hb.tape, hb.output, hb.size, fun k hk _ _ => hb.block k hk⟩
theorem Only2.trans {w2 : World} (h : Only2 y s w w') (k : Only2 y s w' w2) : Only2 y s w w2 :=
  ⟨k.os.trans h.os, k.tape.trans h.tape, k.output.trans h.output, Nat.le_trans h.size k.size, fun i hi h1 h2 => (k.block i (Nat.lt_of_lt_of_le hi h.size) h1 h2).trans (h.block i hi h1 h2)⟩
theorem Only2.setY (h : Only2 y s w w') (o : Nat) (v : Value) : Only2 y s w (w'.setCell ⟨y, o, none⟩ v) :=
  ⟨h.os, h.tape, h.output, by simp [World.setCell]; exact h.size, fun k hk h1 h2 => (Below.heap_setCell _ _ _ _ (show k ≠ (⟨y, o, none⟩ : Addr).block from h1)).trans (h.block k hk h1 h2)⟩
theorem Only2.setS (h : Only2 y s w w') (o : Nat) (v : Value) : Only2 y s w (w'.setCell ⟨s, o, none⟩ v) :=
  ⟨h.os, h.tape, h.output, by simp [World.setCell]; exact h.size, fun k hk h1 h2 => (Below.heap_setCell _ _ _ _ (show k ≠ (⟨s, o, none⟩ : Addr).block from h2)).trans (h.block k hk h1 h2)⟩
end

set_option maxHeartbeats 1000000 in
theorem rfuse_any (n : Int) {w : World} {M : Nat → Prop} {y s cap : Nat} {vss : List (List (List Int))} {left : Int} {gone : Bool} (h : RD w M y s cap vss left gone) :
    Calls Tryz.prog 19 #[.pointer (some ⟨y, 0, none⟩), .int .i64 n] w fun e w' => e = .returned (.tuple #[]) ∧ RD w' M y s cap vss (max n (-1)) gone ∧ Only2 y s w w' := by
  have c1 := h.c1
  have f1 := h.fz 1
  have H := hide h
  clear h
  go_enter Tryz.func19, Tryz.ntmps19
  go_wp2_with fail
  · go_end0
    rw [show max n (-1) = -1 by omega]
    exact ⟨rfl, H.out.set 1 _ rfl, (Only2.refl y s w).setY 1 _⟩
  · go_end0
    rw [show max n (-1) = n by omega]
    exact ⟨rfl, H.out.set 1 _ rfl, (Only2.refl y s w).setY 1 _⟩
set_option maxHeartbeats 1000000 in
/-- What the fuse leaves, and whether the power goes. -/
theorem rburn_any {w : World} {M : Nat → Prop} {y s cap : Nat} {vss : List (List (List Int))} {left : Int} {gone : Bool} (h : RD w M y s cap vss left gone) (hl : -1 ≤ left) (hl2 : left ≤ 9223372036854775807) :
    Calls Tryz.prog 88 #[.pointer (some ⟨y, 0, none⟩)] w fun e w' => e = .returned (.bool (decide (left ≠ 0))) ∧ RD w' M y s cap vss (if 0 < left then left - 1 else left) (gone || decide (left = 0)) ∧ Only2 y s w w' := by
  have c1 := h.c1
  have c2 := h.c2
  have f1 := h.fz 1
  have f2 := h.fz 2
  have H := hide h
  clear h
  go_enter Tryz.func88, Tryz.ntmps88
  by_cases h0 : left = 0
  · subst h0
    go_wp2_with fail
    go_ret
    exact ⟨rfl, H.out.set 2 _ rfl, (Only2.refl y s w).setY 2 _⟩
  · have e0 : (left == 0) = false := by simp [h0]
    have e1 : decide (left = 0) = false := decide_eq_false h0
    have e2 : decide (left ≠ 0) = true := decide_eq_true h0
    rw [e1, e2, Bool.or_false]
    by_cases hp : 0 < left
    · rw [if_pos hp]
      have hw : IntKind.i64.wrap (left - 1) = left - 1 := by rw [IntKind.wrap_i64]; omega
      go_wp2_with fail
      go_ret
      exact ⟨rfl, H.out.set 1 _ rfl, (Only2.refl y s w).setY 1 _⟩
    · rw [if_neg hp]
      have e3 : decide (0 < left) = false := decide_eq_false hp
      go_wp2_with fail
      go_ret
      exact ⟨rfl, H.out, Only2.refl y s w⟩

theorem RD.sec {w : World} {M : Nat → Prop} {y s cap : Nat} {vss : List (List (List Int))} {left : Int} {gone : Bool} (h : RD w M y s cap vss left gone) {i : Nat} {vs : List (List Int)} (hi : vss[i]? = some vs) :
    ∃ b o c, w.cell? ⟨s, i, none⟩ = some (.slice (some ⟨b, o, none⟩) vs.length c) ∧ 0 < vs.length ∧ vs.length ≤ c ∧ ∀ j xs, vs[j]? = some xs → xs.length = 256 ∧ ∃ g gc, w.cell? ⟨b, o + j, none⟩ = some (.slice (some ⟨g, 0, none⟩) 256 gc) ∧ Row w (some ⟨g, 0, none⟩) xs := by
  obtain ⟨cs, h1, h2, h3⟩ := h.tab
  obtain ⟨v, h4, h0, b, o, c, rfl, hc, _, hx, _⟩ := h3 i vs hi
  refine ⟨b, o, c, (cell_row h1 i).trans h4, h0, hc, fun j xs hj => ?_⟩
  obtain ⟨hl, g, gc, q1, q2, _⟩ := hx j xs hj
  exact ⟨hl, g, gc, q1, q2⟩
set_option maxHeartbeats 1000000 in
theorem rdread_off {w : World} {M : Nat → Prop} {y s cap : Nat} {vss : List (List (List Int))} {left : Int} (i : Int) (h : RD w M y s cap vss left true) :
    Calls Tryz.prog 74 #[.pointer (some ⟨y, 0, none⟩), .int .i64 i] w fun e w' => e = .returned (.tuple #[.slice none 0 0, .int .i64 101]) ∧ w' = w := by
  have c2 := h.c2
  clear h
  go_enter Tryz.func74, Tryz.ntmps74
  go_wp2_with fail
  exact bodyPost_ret (v := .tuple #[.slice none 0 0, .int .i64 101]) (by simp [results, Tryz.results74, go_sem]) rfl ⟨rfl, rfl⟩
set_option maxHeartbeats 1000000 in
theorem rdread_range {w : World} {M : Nat → Prop} {y s cap : Nat} {vss : List (List (List Int))} {left : Int} (i : Int) (h : RD w M y s cap vss left false) (hi : i < 0 ∨ (vss.length : Int) ≤ i) :
    Calls Tryz.prog 74 #[.pointer (some ⟨y, 0, none⟩), .int .i64 i] w fun e w' => e = .returned (.tuple #[.slice none 0 0, .int .i64 102]) ∧ w' = w := by
  have c0 := h.c0
  have c2 := h.c2
  clear h
  go_enter Tryz.func74, Tryz.ntmps74
  by_cases h0 : i < 0
  · go_wp2_with fail
    exact bodyPost_ret (v := .tuple #[.slice none 0 0, .int .i64 102]) (by simp [results, Tryz.results74, go_sem]) rfl ⟨rfl, rfl⟩
  · have h1 : (vss.length : Int) ≤ i := by omega
    have h2 : decide (i < 0) = false := by simp; omega
    clear hi h0
    go_wp2_with fail
    exact bodyPost_ret (v := .tuple #[.slice none 0 0, .int .i64 102]) (by simp [results, Tryz.results74, go_sem]) rfl ⟨rfl, rfl⟩
set_option maxRecDepth 100000 in
set_option maxHeartbeats 2000000 in
theorem rdread_ok {w : World} {M : Nat → Prop} {y s cap : Nat} {vss : List (List (List Int))} {left : Int} (i : Nat) (h : RD w M y s cap vss left false) {vs : List (List Int)} (hi : vss[i]? = some vs) (hbig : vs.length ≤ 1000000) :
    Calls Tryz.prog 74 #[.pointer (some ⟨y, 0, none⟩), .int .i64 i] w fun e w' => ∃ g, e = .returned (.tuple #[.slice (some ⟨g, 0, none⟩) 256 256, .int .i64 0]) ∧ w.heap.size ≤ g ∧ Own w' g (some ⟨g, 0, none⟩) 256 (lastV vs) ∧ Below w.heap.size w w' := by
  have c0 := h.c0
  have c2 := h.c2
  have hil : i < vss.length := (List.getElem?_eq_some_iff.1 hi).1
  obtain ⟨b, o, c, h1, h2, h3, h4⟩ := h.sec hi
  have hlast : vs[vs.length - 1]? = some (lastV vs) := by unfold lastV; rw [List.getD_eq_getElem?_getD, List.getElem?_eq_getElem (by omega)]; rfl
  obtain ⟨hl, g, gc, h5, h6⟩ := h4 _ _ hlast
  obtain ⟨xs, hxs⟩ : ∃ xs, xs = lastV vs := ⟨_, rfl⟩
  rw [← hxs] at hl h6 ⊢
  have HR := hide h6
  have HL := hide hl
  obtain ⟨m, hm⟩ : ∃ m, vs.length = m + 1 := ⟨vs.length - 1, by omega⟩
  rw [hm] at h1 h3 h5
  have hw1 : IntKind.i64.wrap ((m : Int) + 1 - 1) = m := by rw [IntKind.wrap_i64]; omega
  have hw2 : wrap64 ((m : Int) + 1 - 1) = m := by unfold wrap64; omega
  have hw3 : IntKind.i64.wrap (m : Int) = m := by rw [IntKind.wrap_i64]; omega
  have hw4 : wrap64 (m : Int) = m := by unfold wrap64; omega
  have hm0 : (0 : Int) ≤ (m : Int) := by omega
  have hm1 : (m : Int) < ((m + 1 : Nat) : Int) := by omega
  have hm2 : (m : Int) < (m : Int) + 1 := by omega
  rw [show m + 1 - 1 = m by omega] at h5
  have h7 : (i : Int) < (vss.length : Int) := by omega
  have h8 : decide ((vss.length : Int) ≤ (i : Int)) = false := by simp; omega
  clear h h4 h6 hl hxs hlast hm h2 hi
  go_enter Tryz.func74, Tryz.ntmps74
  go_wp2_with fail
  have HC : Hid (Calls Tryz.prog 85 #[.slice (some ⟨g, 0, none⟩) 256 gc] w.drew fun e w' => ∃ g', e = .returned (.slice (some ⟨g', 0, none⟩) 256 256) ∧ w.heap.size ≤ g' ∧ Own w' g' (some ⟨g', 0, none⟩) 256 xs ∧ Below w.heap.size w w') := by
    refine (copy_len _ 256 gc xs w.drew (HR.out.below (below_drew (Below.refl w.heap.size _)) (Nat.le_refl _)) HL.out).mono ?_
    rintro e w' ⟨g', rfl, hg, hown, hb⟩
    exact ⟨g', rfl, hg, hown, of_drew hb⟩
  go_region_with (go_at_call 85; refine HC.out.mono ?_; rintro e w2 ⟨g', rfl, hg, hown, hb⟩; have HG := hide hg; have HO := hide hown; have HB := hide hb; clear hg hown hb)
  all_goals
    go_wp2_with fail
    exact bodyPost_ret (v := .tuple #[.slice (some ⟨g', 0, none⟩) 256 256, .int .i64 0]) (by simp [results, Tryz.results74, go_sem]) rfl ⟨g', rfl, HG.out, HO.out, HB.out⟩
end Go.Proofs.YtjacenhblclkaaaGreatDoor

/- The document's own log (phoenixref1.Log): what its Last and its Room answer. -/
namespace Go.Proofs.YtjacenhblclkaaaGreatDoor
open Go.RowKit
set_option linter.unusedVariables false

set_option maxHeartbeats 1000000 in
theorem rlast_cells (z : Nat) (base : Int) (ao : Option Addr) (n c : Nat) (w : World) (h3 : w.cell? ⟨z, 3, none⟩ = some (.int .i64 base)) (h5 : w.cell? ⟨z, 5, none⟩ = some (.slice ao n c)) (hb : 0 ≤ base ∧ base ≤ 1073741824) (hn : n ≤ 1200) :
    Calls Tryz.prog 38 #[.pointer (some ⟨z, 0, none⟩)] w fun e w' => e = .returned (.int .i64 (base + n)) ∧ ∃ m, w' = w.drewN m := by
  have e1 : IntKind.i64.wrap (base + (n : Int)) = base + n := by rw [IntKind.wrap_i64]; omega
  have e2 : wrap64 (base + (n : Int)) = base + n := by unfold wrap64; omega
  go_enter Tryz.func38, Tryz.ntmps38
  go_wp2_with fail
  go_quiet (fail)
  go_wp2_with fail
  go_ret
  exact ⟨rfl, _, rfl⟩
/-- The room of the document's log. -/
def roomR (N n : Nat) (base : Int) : Int := max (min (6 * (N : Int) - n) (1073741824 - (base + n))) 0
set_option maxHeartbeats 2000000 in
theorem rroom_cells (z N : Nat) (base : Int) (ao : Option Addr) (n c : Nat) (w : World) (h2 : w.cell? ⟨z, 2, none⟩ = some (.int .i64 N)) (h3 : w.cell? ⟨z, 3, none⟩ = some (.int .i64 base)) (h5 : w.cell? ⟨z, 5, none⟩ = some (.slice ao n c)) (hb : 0 ≤ base ∧ base ≤ 1073741824) (hn : n ≤ 1200) (hN : N ≤ 1000) :
    Calls Tryz.prog 63 #[.pointer (some ⟨z, 0, none⟩)] w fun e w' => e = .returned (.int .i64 (roomR N n base)) ∧ ∃ m, w' = w.drewN m := by
  have HL : Hid (∀ m, Calls Tryz.prog 38 #[.pointer (some ⟨z, 0, none⟩)] (w.drewN m) fun e w' => e = .returned (.int .i64 (base + n)) ∧ ∃ k, w' = w.drewN k) := fun m => by
    refine (rlast_cells z base ao n c (w.drewN m) h3 h5 hb hn).mono ?_
    rintro e w' ⟨rfl, k, rfl⟩
    exact ⟨rfl, m + k, by rw [World.drewN_drewN]⟩
  have e1 : IntKind.i64.wrap (6 * (N : Int)) = 6 * N := by rw [IntKind.wrap_i64]; omega
  have e2 : IntKind.i64.wrap (6 * (N : Int) - n) = 6 * N - n := by rw [IntKind.wrap_i64]; omega
  have e3 : IntKind.i64.wrap (1073741824 - (base + (n : Int))) = 1073741824 - (base + n) := by rw [IntKind.wrap_i64]; omega
  have HR : Hid (roomR N n base = max (min (6 * (N : Int) - n) (1073741824 - (base + n))) 0) := rfl
  have HQ : Hid (∀ m, Calls Tryz.prog 38 #[.pointer (some ⟨z, 0, none⟩)] (w.drewN m) fun e w' => e = .returned (.int .i64 (base + n)) ∧ ∃ k, w' = (w.drewN m).drewN k) := fun m =>
    (rlast_cells z base ao n c (w.drewN m) h3 h5 hb hn)
  clear HL
  go_enter Tryz.func63, Tryz.ntmps63
  by_cases a1 : 6 * (N : Int) - n ≤ 1073741824 - (base + n)
  all_goals
    by_cases a2 : 0 ≤ 6 * (N : Int) - n
    all_goals
      by_cases a3 : 0 ≤ 1073741824 - (base + (n : Int))
      all_goals
        first
          | (exfalso; omega)
          | (go_wp2_with fail
             go_quiet ((go_at_call 38; exact Calls.quiet_of (HQ.out _)))
             go_wp2_with fail
             go_ret
             refine ⟨ret_int ?_, _, rfl⟩
             rw [HR.out]
             omega)
end Go.Proofs.YtjacenhblclkaaaGreatDoor

/- The document's own disk: what its Sync does. -/
namespace Go.Proofs.YtjacenhblclkaaaGreatDoor
open Go.RowKit
set_option linter.unusedVariables false

theorem RD.fzS {w : World} {M : Nat → Prop} {y s cap : Nat} {vss : List (List (List Int))} {left : Int} {gone : Bool} (h : RD w M y s cap vss left gone) (o : Nat) : w.frozen? ⟨s, o, none⟩ = false := by
  obtain ⟨cs, h1, _⟩ := h.tab
  simp [World.frozen?, h1]
/-- One version alone, out of a sector's list. -/
theorem RD.one {w : World} {M : Nat → Prop} {y s cap : Nat} {vss : List (List (List Int))} {left : Int} {gone : Bool} (h : RD w M y s cap vss left gone) {i : Nat} {vs : List (List Int)} (hi : vss[i]? = some vs) :
    ∃ b o c, w.cell? ⟨s, i, none⟩ = some (.slice (some ⟨b, o, none⟩) vs.length c) ∧ 0 < vs.length ∧ vs.length ≤ c ∧ ∀ k, k < vs.length → VRow w M (.slice (some ⟨b, o + k, none⟩) 1 (c - k)) [vs.getD k []] := by
  obtain ⟨cs, h1, h2, h3⟩ := h.tab
  obtain ⟨v, h4, h0, b, o, c, rfl, hc, hb, hx, hMb⟩ := h3 i vs hi
  refine ⟨b, o, c, (cell_row h1 i).trans h4, h0, hc, fun k hk => ⟨by simp, b, o + k, c - k, rfl, by simp; omega, hb, fun j xs hj => ?_, hMb⟩⟩
  have hk' : vs[k]? = some (vs.getD k []) := by rw [List.getD_eq_getElem?_getD, List.getElem?_eq_getElem hk]; rfl
  cases j with
  | zero =>
    simp only [List.getElem?_cons_zero, Option.some.injEq] at hj
    subst hj
    exact hx k _ hk'
  | succ j => simp at hj
theorem sync_put {vss : List (List (List Int))} {k : Nat} {vs : List (List Int)} (h : vss[k]? = some vs) : (syncTo synced k vss).set k [lastV vs] = syncTo synced (k + 1) vss := syncTo_succ synced k vss vs h
set_option maxHeartbeats 1000000 in
theorem rsync_off {w : World} {M : Nat → Prop} {y s cap : Nat} {vss : List (List (List Int))} {left : Int} (h : RD w M y s cap vss left true) :
    Calls Tryz.prog 69 #[.pointer (some ⟨y, 0, none⟩)] w fun e w' => e = .returned (.int .i64 101) ∧ w' = w := by
  have c2 := h.c2
  clear h
  go_enter Tryz.func69, Tryz.ntmps69
  go_wp2_with fail
  go_ret
  exact ⟨rfl, rfl⟩
set_option maxHeartbeats 1000000 in
theorem rsync_burn {w : World} {M : Nat → Prop} {y s cap : Nat} {vss : List (List (List Int))} (h : RD w M y s cap vss 0 false) :
    Calls Tryz.prog 69 #[.pointer (some ⟨y, 0, none⟩)] w fun e w' => e = .returned (.int .i64 101) ∧ RD w' M y s cap vss 0 true ∧ Only2 y s w w' := by
  have c2 := h.c2
  have H := hide h
  clear h
  go_enter Tryz.func69, Tryz.ntmps69
  go_wp2_with fail
  refine (rburn_any H.out (by omega) (by omega)).mono ?_
  rintro e w1 ⟨rfl, h1, h2⟩
  have H1 : Hid (RD w1 M y s cap vss 0 true) := h1
  have H2 := hide h2
  clear h1 h2
  rw [show decide ((0 : Int) ≠ 0) = false by decide]
  go_wp2_with fail
  go_ret
  exact ⟨rfl, H1.out, H2.out⟩
set_option maxRecDepth 100000 in
set_option maxHeartbeats 4000000 in
theorem rsync_ok {w : World} {M : Nat → Prop} {y s cap : Nat} {vss : List (List (List Int))} {left : Int} (h : RD w M y s cap vss left false) (hl : -1 ≤ left) (hl2 : left ≤ 9223372036854775807) (h0 : left ≠ 0) (hbig : ∀ vs ∈ vss, vs.length ≤ 1000000) :
    Calls Tryz.prog 69 #[.pointer (some ⟨y, 0, none⟩)] w fun e w' => e = .returned (.int .i64 0) ∧ RD w' M y s cap (vss.map synced) (burnt left) false ∧ Only2 y s w w' := by
  have c2 := h.c2
  have hmany := h.many
  have H := hide h
  have HBIG := hide hbig
  clear h hbig
  go_enter Tryz.func69, Tryz.ntmps69
  go_wp2_with fail
  refine (rburn_any H.out hl hl2).mono ?_
  rintro e w1 ⟨rfl, h1, h2⟩
  rw [show (false || decide (left = 0)) = false by simp [h0]] at h1
  have H1 : Hid (RD w1 M y s cap vss (burnt left) false) := h1
  have H2 := hide h2
  rw [show decide (left ≠ 0) = true from decide_eq_true h0]
  clear h1 h2 c2 H
  go_wp2_with fail
  go_loopw [3] (fun i wr => ∃ k : Nat, k ≤ vss.length ∧ i = .int .i64 k ∧ RD wr M y s cap (syncTo synced k vss) (burnt left) false ∧ Only2 y s w wr) (fun i _ => vss.length - (intOf i).toNat)
  case atStart => exact ⟨0, by omega, rfl, by rw [syncTo_zero]; exact H1.out, H2.out⟩
  case round =>
    clear H1 H2
    obtain ⟨k, hk, rfl, hd, ho⟩ := hrel
    have c0 := hd.c0
    rw [length_syncTo] at c0
    have HD := hide hd
    have HO := hide ho
    clear hd ho
    by_cases hlt : k < vss.length
    · have hki : (k : Int) < (vss.length : Int) := by omega
      obtain ⟨vs, hvs⟩ : ∃ vs, vss[k]? = some vs := ⟨_, List.getElem?_eq_getElem hlt⟩
      have hvb := HBIG.out vs (List.mem_of_getElem? hvs)
      obtain ⟨b, o, c, h3, h4, h5, h6⟩ := HD.out.one (i := k) (vs := vs) (by rw [syncTo_at]; exact hvs)
      have HV := hide (h6 (vs.length - 1) (by omega))
      have HVS := hide hvs
      have hfz := HD.out.fzS k
      obtain ⟨m, hm⟩ : ∃ m, vs.length = m + 1 := ⟨vs.length - 1, by omega⟩
      have HS : Hid (vs.length - 1 = m) := by show _ = _; omega
      rw [hm] at h3 h5
      have hw1 : IntKind.i64.wrap ((m : Int) + 1 - 1) = m := by rw [IntKind.wrap_i64]; omega
      have hw2 : wrap64 ((m : Int) + 1 - 1) = m := by unfold wrap64; omega
      have hw3 : IntKind.i64.wrap (m : Int) = m := by rw [IntKind.wrap_i64]; omega
      have hw4 : wrap64 (m : Int) = m := by unfold wrap64; omega
      have hm1 : (m : Int) ≤ (m : Int) + 1 := by omega
      have hm2 : m ≤ c := by omega
      clear h4 h6 hvs hm hvb
      go_wp2_with fail
      go_region
      all_goals
        have hv2 : VRow wr.drew M (.slice (some ⟨b, o + m, none⟩) 1 (c - m)) (synced vs) := by
          have := HV.out
          rw [HS.out] at this
          show VRow _ _ _ [lastV vs]
          unfold lastV
          rw [HS.out]
          exact this.stays (.of_below (below_drew (Below.refl _ _)))
        have hp := (HD.out.step (below_drew (Below.refl _ _))).put (i := k) (by rw [length_syncTo]; exact hlt) hv2
        rw [show synced vs = [lastV vs] from rfl, sync_put HVS.out] at hp
        have HP := hide hp
        clear hp hv2
        go_wp2_with fail
        go_roundw
        case rel => exact ⟨k + 1, by omega, by go_num, HP.out, (HO.out.trans (.of_below (below_drew (Below.refl _ _)))).setS k _⟩
        case measure => simp [intOf]; omega
    · have hki : decide ((k : Int) < (vss.length : Int)) = false := by simp; omega
      have hk' : k = vss.length := by omega
      go_wp2_with fail
      go_ret
      refine ⟨rfl, ?_, HO.out⟩
      have := HD.out
      rw [hk', syncTo_all] at this
      exact this
end Go.Proofs.YtjacenhblclkaaaGreatDoor
