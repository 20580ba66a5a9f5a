
/- How a disk's sector turns: a version more, or one version alone; all else stays. -/
import Derived.Test.YtedmgdiimfenaaaDoorReads
namespace Go.Proofs.YtedmgdiimfenaaaDoor
open Go.RowKit
set_option linter.unusedVariables false

theorem DiskOf.ne_bytes {w : World} {K : Nat → Prop} {a : Nat → Addr} {d s : Nat} {ss : List Sec} {off : Bool} {fuse : Int} (h : DiskOf w K a d s ss off fuse) {B : Nat} {ao : Option Addr} {cap : Nat} {xs : List Int} (ho : Own w B ao cap xs) {g : Nat} (hg : (Value.slice ao xs.length cap).ownBlock = some g) : g ≠ d ∧ g ≠ s ∧ ∀ y ∈ ss, y.v.ownBlock ≠ some g := by
  obtain ⟨cur, hc⟩ := owns_type ho.1 hg
  refine ⟨?_, ?_, fun y hy e => ?_⟩
  · rintro rfl; rw [h.head] at hc; simp at hc
  · rintro rfl; rw [h.secs] at hc; simp at hc
  · obtain ⟨cur', hc'⟩ := owns_type (h.each y hy).1 e
    rw [hc] at hc'
    simp at hc'
theorem set_secs (ss : List Sec) (i : Nat) (x' : Sec) : (ss.map Sec.v).toArray.setIfInBounds i x'.v = ((ss.set i x').map Sec.v).toArray := by
  simp [List.map_set]
theorem DiskOf.added {w w1 : World} {K : Nat → Prop} {a : Nat → Addr} {d s : Nat} {ss : List Sec} {off : Bool} {fuse : Int} (h : DiskOf w K a d s ss off fuse) {i : Nat} {x : Sec} (hx : ss[i]? = some x) (p : Part) (hp : Own w 0 p.ao p.cap p.xs) (hpl : p.xs.length = 256) (hpk : ∀ g, p.val.ownBlock = some g → ¬ K g) (hlen : x.vs.length + 1 ≤ 4294967296)
    {v' : Value} (ho : w1.ownsRow 0 27 1 v' (x.vs.length + 1) (x.vs.map Part.val ++ [p.val])) (hg : w.grownBy w1 x.v.ownBlock) (hat : v'.ownBlock = x.v.ownBlock ∨ ∃ g, v'.ownBlock = some g ∧ w.heap.size ≤ g) :
    DiskOf (w1.setCell ⟨s, i, none⟩ v') K a d s (ss.set i ⟨v', x.vs ++ [p]⟩) off fuse ∧ Kept K w (w1.setCell ⟨s, i, none⟩ v') := by
  have hxm := List.mem_of_getElem? hx
  have hs : w1.heap[s]? = w.heap[s]? := hg.block s (lt_of_block h.secs) (fun e => (h.ne_ver hxm e.symm).2 rfl)
  have hold : ∀ k, k < w.heap.size → k ≠ s → some k ≠ x.v.ownBlock → (w1.setCell ⟨s, i, none⟩ v').heap[k]? = w.heap[k]? := fun k h1 h2 h3 => (Below.heap_setCell _ _ _ _ h2).trans (hg.block k h1 h3)
  have hbytes : ∀ {ao cap xs}, Own w 0 ao cap xs → Own (w1.setCell ⟨s, i, none⟩ v') 0 ao cap xs := fun hq => hq.of_block fun g hg hlt => hold g hlt (h.ne_bytes hq hg).2.1 (fun e => (h.ne_bytes hq hg).2.2 x hxm e.symm)
  obtain ⟨i1, i2, i3, i4, i5⟩ := h.each x hxm
  refine h.step i x ⟨v', x.vs ++ [p]⟩ hx (by exact hg.os) (by exact hg.tape) (by exact hg.output) (by have := hg.size; simpa [World.setCell] using this) hold ?_ ?_ hat
  · rw [← set_secs]
    exact heap_set_same (hs.trans h.secs) i v'
  · refine ⟨?_, by simp, by simpa using hlen, ?_, ?_⟩
    · simp only [List.length_append, List.length_cons, List.length_nil, List.map_append, List.map_cons, List.map_nil]
      refine owns_of_block ho fun g hg' _ => Below.heap_setCell _ _ _ _ ?_
      rcases hat with h1 | ⟨g', h1, h2⟩
      · exact (h.ne_ver hxm (h1 ▸ hg')).2
      · rw [h1] at hg'
        have := lt_of_block h.secs
        simp only [Option.some.injEq] at hg'
        show g ≠ s
        omega
    · intro g hg' hk
      rcases hat with h1 | ⟨g', h1, h2⟩
      · exact i4 g (h1 ▸ hg') hk
      · rw [show (⟨v', x.vs ++ [p]⟩ : Sec).v = v' from rfl, h1] at hg'
        simp only [Option.some.injEq] at hg'
        have := h.low g hk
        omega
    · intro q hq
      rcases List.mem_append.1 hq with h1 | h1
      · exact ⟨hbytes (i5 q h1).1, (i5 q h1).2⟩
      · rw [List.mem_singleton.1 h1]
        exact ⟨hbytes hp, hpl, hpk⟩
theorem DiskOf.fresh {w : World} {K : Nat → Prop} {a : Nat → Addr} {d s : Nat} {ss : List Sec} {off : Bool} {fuse : Int} (h : DiskOf w K a d s ss off fuse) {i : Nat} {x : Sec} (hx : ss[i]? = some x) (p : Part) (hp : Own w 0 p.ao p.cap p.xs) (hpl : p.xs.length = 256) (hpk : ∀ g, p.val.ownBlock = some g → ¬ K g) :
    DiskOf ((w.setCell ⟨s, i, none⟩ (.slice (some ⟨w.heap.size, 0, none⟩) 1 1)).alloc (.cells #[p.val] 27)) K a d s (ss.set i ⟨.slice (some ⟨w.heap.size, 0, none⟩) 1 1, [p]⟩) off fuse ∧ Kept K w ((w.setCell ⟨s, i, none⟩ (.slice (some ⟨w.heap.size, 0, none⟩) 1 1)).alloc (.cells #[p.val] 27)) := by
  have hxm := List.mem_of_getElem? hx
  have hsz : (w.setCell ⟨s, i, none⟩ (.slice (some ⟨w.heap.size, 0, none⟩) 1 1)).heap.size = w.heap.size := by simp [World.setCell]
  have hold : ∀ k, k < w.heap.size → k ≠ s → some k ≠ x.v.ownBlock → ((w.setCell ⟨s, i, none⟩ (.slice (some ⟨w.heap.size, 0, none⟩) 1 1)).alloc (.cells #[p.val] 27)).heap[k]? = w.heap[k]? := fun k h1 h2 _ => (Below.heap_alloc _ _ _ (by rw [hsz]; exact h1)).trans (Below.heap_setCell _ _ _ _ h2)
  refine h.step i x ⟨.slice (some ⟨w.heap.size, 0, none⟩) 1 1, [p]⟩ hx rfl rfl rfl (by simp [hsz]) hold ?_ ?_ (.inr ⟨w.heap.size, rfl, Nat.le_refl _⟩)
  · rw [← set_secs, Below.heap_alloc _ _ _ (by rw [hsz]; exact lt_of_block h.secs)]
    exact heap_set_same h.secs i _
  · refine ⟨⟨by simp, .inr ⟨w.heap.size, 1, #[p.val], rfl, Nat.zero_le _, ?_, by simp, by decide, by simp, by simp⟩⟩, by simp, by simp, ?_, ?_⟩
    · have := heap_alloc_new (w.setCell ⟨s, i, none⟩ (.slice (some ⟨w.heap.size, 0, none⟩) 1 1)) (.cells #[p.val] 27)
      rw [hsz] at this
      exact this
    · intro g hg hk
      simp only [Value.ownBlock, Option.some.injEq] at hg
      have := h.low g hk
      omega
    · intro q hq
      rw [List.mem_singleton.1 hq]
      exact ⟨hp.of_block fun g hg hlt => hold g hlt (h.ne_bytes hp hg).2.1 (fun e => (h.ne_bytes hp hg).2.2 x hxm e.symm), hpl, hpk⟩

theorem sec_loose {w : World} {K : Nat → Prop} {a : Nat → Addr} {d s : Nat} {ss : List Sec} {off : Bool} {fuse : Int} (h : DiskOf w K a d s ss off fuse) {i : Nat} {x : Sec} (hx : ss[i]? = some x) :
    Calls Tryd.prog 28 #[.pointer (some ⟨s, i, none⟩)] w fun e w' => e = .returned (.int .i64 ((x.vs.length : Int) - 1)) ∧ w' = w := by
  obtain ⟨g, cap, hv, _, _⟩ := h.sec hx
  exact loose_any s i _ _ _ w (by rw [h.cs hx, hv]) (h.each x (List.mem_of_getElem? hx)).2.2.1
theorem sec_add {w : World} {K : Nat → Prop} {a : Nat → Addr} {d s : Nat} {ss : List Sec} {off : Bool} {fuse : Int} (h : DiskOf w K a d s ss off fuse) {i : Nat} {x : Sec} (hx : ss[i]? = some x) (p : Part) (hp : Own w 0 p.ao p.cap p.xs) (hpl : p.xs.length = 256) (hpk : ∀ g, p.val.ownBlock = some g → ¬ K g) (hlen : x.vs.length + 1 ≤ 4294967296) :
    Calls Tryd.prog 25 #[.pointer (some ⟨s, i, none⟩), p.val] w fun e w' => e = .returned (.tuple #[]) ∧ ∃ v', DiskOf w' K a d s (ss.set i ⟨v', x.vs ++ [p]⟩) off fuse ∧ Kept K w w' := by
  have hxm := List.mem_of_getElem? hx
  refine (add_any s i x.v x.vs.length (x.vs.map Part.val) p.ao p.xs.length p.cap 0 w (h.cs hx) (h.fs i) hlen (h.each x hxm).1 (Nat.zero_le _) (fun e => (h.ne_ver hxm e).2 rfl)).mono ?_
  rintro e w' ⟨rfl, w1, v', rfl, h1, h2, h3⟩
  exact ⟨rfl, v', h.added hx p hp hpl hpk hlen h1 h2 h3⟩
theorem sec_keep {w : World} {K : Nat → Prop} {a : Nat → Addr} {d s : Nat} {ss : List Sec} {off : Bool} {fuse : Int} (h : DiskOf w K a d s ss off fuse) {i : Nat} {x : Sec} (hx : ss[i]? = some x) (k : Nat) (p : Part) (hp : x.vs[k]? = some p) :
    Calls Tryd.prog 27 #[.pointer (some ⟨s, i, none⟩), .int .i64 k] w fun e w' => e = .returned (.tuple #[]) ∧ ∃ v', DiskOf w' K a d s (ss.set i ⟨v', [p]⟩) off fuse ∧ Kept K w w' := by
  have hxm := List.mem_of_getElem? hx
  obtain ⟨g, cap, hv, hg, hc⟩ := h.sec hx
  obtain ⟨i1, i2, i3, i4, i5⟩ := h.each x hxm
  obtain ⟨p1, p2, p3⟩ := i5 p (List.mem_of_getElem? hp)
  refine (keep_any s i g 0 x.vs.length cap k p.ao p.xs.length p.cap w (by rw [h.cs hx, hv]) (h.fs i) i3 (List.getElem?_eq_some_iff.1 hp).1 (by rw [Nat.zero_add]; exact hc k p hp)).mono ?_
  rintro e w' ⟨rfl, rfl⟩
  exact ⟨rfl, _, h.fresh hx p p1 p2 p3⟩
end Go.Proofs.YtedmgdiimfenaaaDoor
