
/- What a disk is in memory: its sectors, each with its versions, and what stays of it while other memory turns. -/
import Derived.Test.YtedmgdiimfenaaaDoorSector
namespace Go.Proofs.YtedmgdiimfenaaaDoor
open Go.RowKit
set_option linter.unusedVariables false

/-- Of the blocks that K names nothing has turned; no block has gone. -/
structure Kept (K : Nat → Prop) (w w' : World) : Prop where
  os : w'.os = w.os
  tape : w'.tape = w.tape
  output : w'.output = w.output
  size : w.heap.size ≤ w'.heap.size
  block : ∀ k, K k → w'.heap[k]? = w.heap[k]?
theorem Kept.refl (K : Nat → Prop) (w : World) : Kept K w w := ⟨rfl, rfl, rfl, Nat.le_refl _, fun _ _ => rfl⟩
theorem Kept.trans {K : Nat → Prop} {a b c : World} (h : Kept K a b) (k : Kept K b c) : Kept K a c :=
  ⟨k.os.trans h.os, k.tape.trans h.tape, k.output.trans h.output, Nat.le_trans h.size k.size, fun i hi => (k.block i hi).trans (h.block i hi)⟩
theorem Kept.mono {K L : Nat → Prop} {w w' : World} (h : Kept K w w') (hL : ∀ k, L k → K k) : Kept L w w' := ⟨h.os, h.tape, h.output, h.size, fun k hk => h.block k (hL k hk)⟩
theorem Kept.of_below {K : Nat → Prop} {B : Nat} {w w' : World} (h : Below B w w') (hK : ∀ k, K k → k < B) : Kept K w w' := ⟨h.os, h.tape, h.output, h.size, fun k hk => h.block k (hK k hk)⟩
theorem Kept.below {K : Nat → Prop} {B : Nat} {w w' : World} (h : Kept K w w') (hK : ∀ k, k < B → K k) : Below B w w' := ⟨h.os, h.tape, h.output, h.size, fun k hk => h.block k (hK k hk)⟩
theorem Kept.cell {K : Nat → Prop} {w w' : World} (h : Kept K w w') {p : Addr} (hp : K p.block) : w'.cell? p = w.cell? p := World.cell?_of_block (w := w) (h.block p.block hp)
theorem Kept.frozen {K : Nat → Prop} {w w' : World} (h : Kept K w w') {p : Addr} (hp : K p.block) : w'.frozen? p = w.frozen? p := World.frozen?_of_block (w := w) (h.block p.block hp)
theorem Kept.drewN {K : Nat → Prop} {w w' : World} (h : Kept K w w') (n : Nat) : Kept K w (w'.drewN n) := h.trans ⟨rfl, rfl, rfl, Nat.le_refl _, fun _ _ => rfl⟩
theorem Kept.over {K : Nat → Prop} {w w1 w2 : World} (h : Kept K w w1) (hK : ∀ k, K k → k < w1.heap.size) (hb : Below w1.heap.size w1 w2) : Kept K w w2 := h.trans (Kept.of_below hb hK)

theorem lt_of_block {w : World} {g : Nat} {x : Obj} (h : w.heap[g]? = some x) : g < w.heap.size := (Array.getElem?_eq_some_iff.1 h).1
/-- A row that is owned stays owned where its block stays. -/
theorem owns_of_block {w w' : World} {B e sz n : Nat} {v : Value} {xs : List Value} (h : w.ownsRow B e sz v n xs) (hb : ∀ g, v.ownBlock = some g → g < w.heap.size → w'.heap[g]? = w.heap[g]?) : w'.ownsRow B e sz v n xs := by
  refine ⟨h.1, ?_⟩
  rcases h.2 with h | ⟨g, cap, cur, rfl, hg, hh, r⟩
  · exact .inl h
  · exact .inr ⟨g, cap, cur, rfl, hg, by rw [hb g rfl (lt_of_block hh)]; exact hh, r⟩
/-- The block of a row that is owned holds its kind of cells. -/
theorem owns_type {w : World} {B e sz n : Nat} {v : Value} {xs : List Value} (h : w.ownsRow B e sz v n xs) {g : Nat} (hg : v.ownBlock = some g) : ∃ cur, w.heap[g]? = some (.cells cur e (0, 0)) := by
  rcases h.2 with ⟨rfl, _⟩ | ⟨g', cap, cur, rfl, _, hh, _⟩
  · simp [Value.ownBlock] at hg
  · simp only [Value.ownBlock, Option.some.injEq] at hg
    subst hg
    exact ⟨cur, hh⟩
theorem Own.of_block {w w' : World} {B : Nat} {ao : Option Addr} {cap : Nat} {xs : List Int} (h : Own w B ao cap xs) (hb : ∀ g, (Value.slice ao xs.length cap).ownBlock = some g → g < w.heap.size → w'.heap[g]? = w.heap[g]?) : Own w' B ao cap xs := ⟨owns_of_block h.1 hb, h.2⟩

/-- A sector: the value that holds its versions, and what they are. -/
structure Sec where
  v : Value
  vs : List Part
def Sec.isIn (w : World) (K : Nat → Prop) (s : Sec) : Prop :=
  w.ownsRow 0 27 1 s.v s.vs.length (s.vs.map Part.val) ∧ 1 ≤ s.vs.length ∧ s.vs.length ≤ 4294967296 ∧ (∀ g, s.v.ownBlock = some g → ¬ K g) ∧
  ∀ p ∈ s.vs, Own w 0 p.ao p.cap p.xs ∧ p.xs.length = 256 ∧ ∀ g, p.val.ownBlock = some g → ¬ K g
/-- An error of package api, as a value. -/
def errV (x : Addr) : Value := .iface 79 (.pointer (some x))
/-- The three errors that a disk answers. -/
def Errs (w : World) (K : Nat → Prop) (a : Nat → Addr) : Prop := ∀ i, i < 3 → K i ∧ w.cell? ⟨i, 0, none⟩ = some (errV (a i))
structure DiskOf (w : World) (K : Nat → Prop) (a : Nat → Addr) (d s : Nat) (ss : List Sec) (off : Bool) (fuse : Int) : Prop where
  head : w.heap[d]? = some (.cells #[.slice (some ⟨s, 0, none⟩) ss.length ss.length, .bool off, .int .i64 fuse] 55 (0, 0))
  secs : w.heap[s]? = some (.cells (ss.map Sec.v).toArray 57 (0, 0))
  each : ∀ x ∈ ss, x.isIn w K
  apart : ∀ (i j : Nat) (x y : Sec), ss[i]? = some x → ss[j]? = some y → i ≠ j → x.v.ownBlock ≠ y.v.ownBlock
  nd : ¬ K d
  ns : ¬ K s
  low : ∀ k, K k → k < w.heap.size
  many : 1 ≤ ss.length ∧ ss.length ≤ 200
  fuseBd : -1 ≤ fuse ∧ fuse ≤ 9223372036854775807
  errs : Errs w K a
/-- The versions of each sector, as bytes. -/
def vers (ss : List Sec) : List (List (List Int)) := ss.map fun x => x.vs.map (·.xs)
/-- A disk: its sectors' versions (the fast one first), whether power is off, its fuse. -/
def Disk (w : World) (K : Nat → Prop) (a : Nat → Addr) (d : Nat) (vss : List (List (List Int))) (off : Bool) (fuse : Int) : Prop :=
  ∃ s ss, DiskOf w K a d s ss off fuse ∧ vers ss = vss
theorem length_vers (ss : List Sec) : (vers ss).length = ss.length := by simp [vers]
theorem Disk.errs {w : World} {K : Nat → Prop} {a : Nat → Addr} {d : Nat} {vss : List (List (List Int))} {off : Bool} {fuse : Int} (h : Disk w K a d vss off fuse) : Errs w K a := by obtain ⟨s, ss, h, _⟩ := h; exact h.errs
theorem Disk.low {w : World} {K : Nat → Prop} {a : Nat → Addr} {d : Nat} {vss : List (List (List Int))} {off : Bool} {fuse : Int} (h : Disk w K a d vss off fuse) : ∀ k, K k → k < w.heap.size := by obtain ⟨s, ss, h, _⟩ := h; exact h.low
theorem Disk.many {w : World} {K : Nat → Prop} {a : Nat → Addr} {d : Nat} {vss : List (List (List Int))} {off : Bool} {fuse : Int} (h : Disk w K a d vss off fuse) : 1 ≤ vss.length ∧ vss.length ≤ 200 := by obtain ⟨s, ss, h, rfl⟩ := h; rw [length_vers]; exact h.many

theorem DiskOf.ne {w : World} {K : Nat → Prop} {a : Nat → Addr} {d s : Nat} {ss : List Sec} {off : Bool} {fuse : Int} (h : DiskOf w K a d s ss off fuse) : d ≠ s := by
  intro e
  have h1 := h.head
  rw [e, h.secs] at h1
  simp at h1
theorem DiskOf.ne_ver {w : World} {K : Nat → Prop} {a : Nat → Addr} {d s : Nat} {ss : List Sec} {off : Bool} {fuse : Int} (h : DiskOf w K a d s ss off fuse) {x : Sec} (hx : x ∈ ss) {g : Nat} (hg : x.v.ownBlock = some g) : g ≠ d ∧ g ≠ s := by
  obtain ⟨cur, hc⟩ := owns_type (h.each x hx).1 hg
  constructor
  · rintro rfl; rw [h.head] at hc; simp at hc
  · rintro rfl; rw [h.secs] at hc; simp at hc
theorem DiskOf.ne_part {w : World} {K : Nat → Prop} {a : Nat → Addr} {d s : Nat} {ss : List Sec} {off : Bool} {fuse : Int} (h : DiskOf w K a d s ss off fuse) {x : Sec} (hx : x ∈ ss) {p : Part} (hp : p ∈ x.vs) {g : Nat} (hg : p.val.ownBlock = some g) : g ≠ d ∧ g ≠ s ∧ ∀ y ∈ ss, y.v.ownBlock ≠ some g := by
  obtain ⟨cur, hc⟩ := owns_type ((h.each x hx).2.2.2.2 p hp).1.1 hg
  refine ⟨?_, ?_, fun y hy e => ?_⟩
  · rintro rfl; rw [h.head] at hc; simp at hc
  · rintro rfl; rw [h.secs] at hc; simp at hc
  · obtain ⟨cur', hc'⟩ := owns_type (h.each y hy).1 e
    rw [hc] at hc'
    simp at hc'

/-- One sector turns: what is in the disk's other blocks, and all that K names, stays. -/
theorem DiskOf.step {w w' : World} {K : Nat → Prop} {a : Nat → Addr} {d s : Nat} {ss : List Sec} {off : Bool} {fuse : Int} (h : DiskOf w K a d s ss off fuse) (i : Nat) (x x' : Sec) (hx : ss[i]? = some x)
    (hos : w'.os = w.os) (htape : w'.tape = w.tape) (hout : w'.output = w.output) (hsize : w.heap.size ≤ w'.heap.size)
    (hold : ∀ k, k < w.heap.size → k ≠ s → some k ≠ x.v.ownBlock → w'.heap[k]? = w.heap[k]?)
    (hsec : w'.heap[s]? = some (.cells ((ss.set i x').map Sec.v).toArray 57 (0, 0))) (hin : x'.isIn w' K)
    (hat : x'.v.ownBlock = x.v.ownBlock ∨ ∃ g, x'.v.ownBlock = some g ∧ w.heap.size ≤ g) :
    DiskOf w' K a d s (ss.set i x') off fuse ∧ Kept K w w' := by
  have hxm : x ∈ ss := List.mem_of_getElem? hx
  have hil : i < ss.length := (List.getElem?_eq_some_iff.1 hx).1
  have hkept : Kept K w w' := ⟨hos, htape, hout, hsize, fun k hk => hold k (h.low k hk) (fun e => h.ns (e ▸ hk)) (fun e => (h.each x hxm).2.2.2.1 k e.symm hk)⟩
  have hother : ∀ j y, ss[j]? = some y → j ≠ i → y.isIn w' K := by
    intro j y hy hj
    have hym := List.mem_of_getElem? hy
    obtain ⟨h1, h2, h3, h4, h5⟩ := h.each y hym
    refine ⟨owns_of_block h1 fun g hg hlt => hold g hlt (h.ne_ver hym hg).2 (fun e => h.apart j i y x hy hx hj (by rw [hg, e])), h2, h3, h4, fun p hp => ?_⟩
    obtain ⟨p1, p2, p3⟩ := h5 p hp
    exact ⟨p1.of_block fun g hg hlt => hold g hlt (h.ne_part hym hp hg).2.1 (fun e => (h.ne_part hym hp hg).2.2 x hxm e.symm), p2, p3⟩
  refine ⟨⟨?_, hsec, ?_, ?_, h.nd, h.ns, fun k hk => Nat.lt_of_lt_of_le (h.low k hk) hsize, by simpa using h.many, h.fuseBd, fun j hj => ⟨(h.errs j hj).1, by rw [hkept.cell (by exact (h.errs j hj).1)]; exact (h.errs j hj).2⟩⟩, hkept⟩
  · rw [hold d (lt_of_block h.head) h.ne (fun e => (h.ne_ver hxm e.symm).1 rfl), List.length_set]
    exact h.head
  · intro y hy
    obtain ⟨j, hj⟩ := List.getElem?_of_mem hy
    rw [List.getElem?_set] at hj
    by_cases e1 : i = j
    · rw [if_pos e1, if_pos hil] at hj
      simp only [Option.some.injEq] at hj
      rw [← hj]
      exact hin
    · rw [if_neg e1] at hj
      exact hother j y hj (by omega)
  · have hnew : ∀ j y, ss[j]? = some y → j ≠ i → x'.v.ownBlock ≠ y.v.ownBlock := by
      intro j y hy hj e
      rcases hat with h1 | ⟨g, h1, h2⟩
      · exact h.apart j i y x hy hx hj (e.symm.trans h1)
      · obtain ⟨cur, hc⟩ := owns_type (h.each y (List.mem_of_getElem? hy)).1 (e.symm.trans h1)
        have := lt_of_block hc
        omega
    intro j k y z hy hz hjk
    rw [List.getElem?_set] at hy hz
    by_cases e1 : i = j
    · rw [if_pos e1, if_pos hil] at hy
      rw [if_neg (by omega)] at hz
      simp only [Option.some.injEq] at hy
      rw [← hy]
      exact hnew k z hz (by omega)
    · rw [if_neg e1] at hy
      by_cases e2 : i = k
      · rw [if_pos e2, if_pos hil] at hz
        simp only [Option.some.injEq] at hz
        rw [← hz]
        exact fun e => hnew j y hy (by omega) e.symm
      · rw [if_neg e2] at hz
        exact h.apart j k y z hy hz hjk

/-- While nothing that is there turns, a disk stays, whatever new blocks K names besides. -/
theorem DiskOf.more {w w' : World} {K L : Nat → Prop} {a : Nat → Addr} {d s : Nat} {ss : List Sec} {off : Bool} {fuse : Int} (h : DiskOf w K a d s ss off fuse) (hb : Below w.heap.size w w') (hL : ∀ k, L k → k < w'.heap.size ∧ (k < w.heap.size → K k)) (hg : ∀ k, k < 3 → L k) : DiskOf w' L a d s ss off fuse := by
  have hn : ∀ g, g < w.heap.size → ¬ K g → ¬ L g := fun g h1 h2 h3 => h2 ((hL g h3).2 h1)
  have hd := lt_of_block h.head
  have hs := lt_of_block h.secs
  refine ⟨?_, ?_, fun x hx => ?_, h.apart, hn d hd h.nd, hn s hs h.ns, fun k hk => (hL k hk).1, h.many, h.fuseBd, fun j hj => ⟨hg j hj, ?_⟩⟩
  · rw [hb.block d hd]; exact h.head
  · rw [hb.block s hs]; exact h.secs
  · obtain ⟨h1, h2, h3, h4, h5⟩ := h.each x hx
    refine ⟨owns_of_block h1 fun g _ hlt => hb.block g hlt, h2, h3, fun g hg => ?_, fun p hp => ?_⟩
    · exact hn g (h1.lt g hg).2 (h4 g hg)
    · obtain ⟨p1, p2, p3⟩ := h5 p hp
      exact ⟨p1.of_block fun g _ hlt => hb.block g hlt, p2, fun g hg => hn g (p1.1.lt g hg).2 (p3 g hg)⟩
  · rw [hb.cell (h.low j (h.errs j hj).1)]; exact (h.errs j hj).2
theorem Disk.more {w w' : World} {K L : Nat → Prop} {a : Nat → Addr} {d : Nat} {vss : List (List (List Int))} {off : Bool} {fuse : Int} (h : Disk w K a d vss off fuse) (hb : Below w.heap.size w w') (hL : ∀ k, L k → k < w'.heap.size ∧ (k < w.heap.size → K k)) (hg : ∀ k, k < 3 → L k) : Disk w' L a d vss off fuse := by
  obtain ⟨s, ss, h, e⟩ := h
  exact ⟨s, ss, h.more hb hL hg, e⟩
theorem Disk.below {w w' : World} {K : Nat → Prop} {a : Nat → Addr} {d : Nat} {vss : List (List (List Int))} {off : Bool} {fuse : Int} (h : Disk w K a d vss off fuse) (hb : Below w.heap.size w w') : Disk w' K a d vss off fuse :=
  h.more hb (fun k hk => ⟨Nat.lt_of_lt_of_le (h.low k hk) hb.size, fun _ => hk⟩) (fun k hk => (h.errs k hk).1)
theorem Disk.drewN {w : World} {K : Nat → Prop} {a : Nat → Addr} {d : Nat} {vss : List (List (List Int))} {off : Bool} {fuse : Int} (h : Disk w K a d vss off fuse) (n : Nat) : Disk (w.drewN n) K a d vss off fuse := by
  obtain ⟨s, ss, h, e⟩ := h
  exact ⟨s, ss, ⟨h.head, h.secs, h.each, h.apart, h.nd, h.ns, h.low, h.many, h.fuseBd, h.errs⟩, e⟩

/-- Power, and the fuse, turn; nothing else does. -/
theorem DiskOf.power {w w' : World} {K : Nat → Prop} {a : Nat → Addr} {d s : Nat} {ss : List Sec} {off off' : Bool} {fuse fuse' : Int} (h : DiskOf w K a d s ss off fuse)
    (hos : w'.os = w.os) (htape : w'.tape = w.tape) (hout : w'.output = w.output) (hsize : w'.heap.size = w.heap.size) (hold : ∀ k, k ≠ d → w'.heap[k]? = w.heap[k]?)
    (hhead : w'.heap[d]? = some (.cells #[.slice (some ⟨s, 0, none⟩) ss.length ss.length, .bool off', .int .i64 fuse'] 55 (0, 0))) (hf : -1 ≤ fuse' ∧ fuse' ≤ 9223372036854775807) :
    DiskOf w' K a d s ss off' fuse' ∧ Kept K w w' := by
  have hkept : Kept K w w' := ⟨hos, htape, hout, by omega, fun k hk => hold k (fun e => h.nd (e ▸ hk))⟩
  refine ⟨⟨hhead, ?_, fun x hx => ?_, h.apart, h.nd, h.ns, by rw [hsize]; exact h.low, h.many, hf, fun j hj => ⟨(h.errs j hj).1, by rw [hkept.cell (by exact (h.errs j hj).1)]; exact (h.errs j hj).2⟩⟩, hkept⟩
  · rw [hold s (fun e => h.ne e.symm)]; exact h.secs
  · obtain ⟨h1, h2, h3, h4, h5⟩ := h.each x hx
    refine ⟨owns_of_block h1 fun g hg _ => hold g (h.ne_ver hx hg).1, h2, h3, h4, fun p hp => ?_⟩
    obtain ⟨p1, p2, p3⟩ := h5 p hp
    exact ⟨p1.of_block fun g hg _ => hold g (h.ne_part hx hp hg).1, p2, p3⟩
end Go.Proofs.YtedmgdiimfenaaaDoor
