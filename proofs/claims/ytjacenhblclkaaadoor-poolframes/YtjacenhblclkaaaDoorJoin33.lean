/- Lemmas and contracts that the law stands on, joined: WalObj, WalCalls, WalRec, WalAppend. -/
import Derived.Test.YtjacenhblclkaaaDoorJoin30
import Derived.Test.YtjacenhblclkaaaDoorJoin11
import Derived.Test.YtjacenhblclkaaaDoorJoin32
import Derived.Test.YtjacenhblclkaaaDoorJoin9
import Derived.Deep.RegionLaw
import Derived.Test.YtjacenhblclkaaaDoorJoin16
/- What a log is in memory: its own cells, its records, its disk; what stays of it while other memory turns. -/
namespace Go.Proofs.YtjacenhblclkaaaDoor
open Go.RowKit
set_option linter.unusedVariables false

/-- The errors that a log's calls can meet, by their places in the document's list. -/
def seven : List Nat := [0, 1, 2]
/-- Their variables lie in blocks that K names, and hold them. -/
def ErrsK (w : World) (K : Nat → Prop) (a : Nat → Addr) : Prop := ∀ i ∈ seven, K (gno i) ∧ w.cell? ⟨gno i, 0, none⟩ = some (errV (a i))
theorem ErrsK.three {w : World} {K : Nat → Prop} {a : Nat → Addr} (h : ErrsK w K a) : Errs w K a := fun i hi => h i (by
  rcases (show i = 0 ∨ i = 1 ∨ i = 2 by omega) with rfl | rfl | rfl <;> decide)
theorem ErrsK.kept {w w' : World} {K : Nat → Prop} {a : Nat → Addr} (h : ErrsK w K a) (hk : Kept K w w') : ErrsK w' K a := fun i hi => ⟨(h i hi).1, (hk.cell (h i hi).1).trans (h i hi).2⟩
theorem ErrsK.wide {w : World} {K L : Nat → Prop} {a : Nat → Addr} (h : ErrsK w K a) (hL : ∀ k, K k → L k) : ErrsK w L a := fun i hi => ⟨hL _ (h i hi).1, (h i hi).2⟩
theorem ErrsK.rng {w : World} {K : Nat → Prop} {a : Nat → Addr} (h : ErrsK w K a) : w.cell? ⟨0, 0, none⟩ = some (errV (a 1)) := (h 1 (by decide)).2
theorem ErrsOf.errsK {w : World} {ks : List Nat} {a : Nat → Addr} (h : ErrsOf w ks a) (hs : ∀ i ∈ seven, i ∈ ks) {K : Nat → Prop} (hK : ∀ k, k < w.heap.size → K k) : ErrsK w K a := fun i hi => ⟨hK _ (World.block_lt_of_cell? w _ (h.cell i (hs i hi))), h.cell i (hs i hi)⟩

/-- A disk stays where none of its blocks turns, whatever else does. -/
theorem DiskOf.stays {w w' : World} {K L : Nat → Prop} {a : Nat → Addr} {d s : Nat} {ss : List Sec} {off : Bool} {fuse : Int} (h : DiskOf w K a d s ss off fuse) (hold : ∀ k, k < w.heap.size → ¬ K k → w'.heap[k]? = w.heap[k]?) (hL : ∀ k, L k → k < w'.heap.size ∧ (k < w.heap.size → K k)) (he : Errs w' L a) : DiskOf w' L a d s ss off fuse := by
  have hn : ∀ g, g < w.heap.size → ¬ K g → ¬ L g := fun g h1 h2 h3 => h2 ((hL g h3).2 h1)
  have hd := lt_of_block h.head
  have hs := lt_of_block h.secs
  refine ⟨?_, ?_, fun x hx => ?_, h.apart, hn d hd h.nd, hn s hs h.ns, fun k hk => (hL k hk).1, h.many, h.fuseBd, he⟩
  · rw [hold d hd h.nd]; exact h.head
  · rw [hold s hs h.ns]; exact h.secs
  · obtain ⟨h1, h2, h3, h4, h5⟩ := h.each x hx
    refine ⟨owns_of_block h1 fun g hg hlt => hold g hlt (h4 g hg), h2, h3, fun g hg => ?_, fun p hp => ?_⟩
    · exact hn g (h1.lt g hg).2 (h4 g hg)
    · obtain ⟨p1, p2, p3⟩ := h5 p hp
      exact ⟨p1.of_block fun g hg hlt => hold g hlt (p3 g hg), p2, fun g hg => hn g (p1.1.lt g hg).2 (p3 g hg)⟩
theorem Disk.stays {w w' : World} {K L : Nat → Prop} {a : Nat → Addr} {d : Nat} {vss : List (List (List Int))} {off : Bool} {fuse : Int} (h : Disk w K a d vss off fuse) (hold : ∀ k, k < w.heap.size → ¬ K k → w'.heap[k]? = w.heap[k]?) (hL : ∀ k, L k → k < w'.heap.size ∧ (k < w.heap.size → K k)) (he : Errs w' L a) : Disk w' L a d vss off fuse := by
  obtain ⟨s, ss, h, e⟩ := h
  exact ⟨s, ss, h.stays hold hL he, e⟩
theorem Disk.narrow {w : World} {K L : Nat → Prop} {a : Nat → Addr} {d : Nat} {vss : List (List (List Int))} {off : Bool} {fuse : Int} (h : Disk w L a d vss off fuse) (hK : ∀ k, K k → L k) (he : ErrsK w K a) : Disk w K a d vss off fuse :=
  h.stays (fun _ _ _ => rfl) (fun k hk => ⟨h.low k (hK k hk), fun _ => hK k hk⟩) he.three

/-- What K names, a log's own block, and that of its records. -/
def withLog (K : Nat → Prop) (l : Nat) (v : Value) (k : Nat) : Prop := K k ∨ k = l ∨ v.ownBlock = some k
/-- A log's own cells. -/
def logCells (d F N : Nat) (base ep : Int) (v : Value) (D : Nat) : Array Value := #[.pointer (some ⟨d, 0, none⟩), .int .i64 F, .int .i64 N, .int .i64 base, .int .i64 ep, v, .int .i64 D]
/-- A log in memory at block l: its disk lies at block d, its blocks are the sectors F to F + N - 1. -/
structure LogOf (w : World) (K : Nat → Prop) (a : Nat → Addr) (l d : Nat) (vss : List (List (List Int))) (off : Bool) (fuse : Int) (F N : Nat) (base ep : Int) (ao : Option Addr) (c : Nat) (rs : List R) (D : Nat) : Prop where
  head : w.heap[l]? = some (.cells (logCells d F N base ep (.slice ao rs.length c) D) 80 (0, 0))
  own : OwnR w 0 ao c rs
  disk : Disk w (withLog K l (.slice ao rs.length c)) a d vss off fuse
  nl : ¬ K l
  nr : ∀ g, (Value.slice ao rs.length c).ownBlock = some g → ¬ K g
  errs : ErrsK w K a
  bd : (0 ≤ base ∧ base + rs.length ≤ 1073741824) ∧ (1 ≤ ep ∧ ep ≤ 1073741824) ∧ F + N ≤ vss.length ∧ rs.length ≤ 6 * N ∧ D ≤ rs.length
  good : ∀ r ∈ rs, goodB r = true ∧ r.fits
  many : N ≤ 100
/-- A log: its records, how many of them are flushed, its disk's versions, power and fuse. -/
def Log (w : World) (K : Nat → Prop) (a : Nat → Addr) (l d : Nat) (vss : List (List (List Int))) (off : Bool) (fuse : Int) (F N : Nat) (base ep : Int) (rs : List R) (D : Nat) : Prop := ∃ ao c, LogOf w K a l d vss off fuse F N base ep ao c rs D
section
variable {w w' : World} {K L : Nat → Prop} {a : Nat → Addr} {l d : Nat} {vss : List (List (List Int))} {off : Bool} {fuse : Int} {F N : Nat} {base ep : Int} {ao : Option Addr} {c : Nat} {rs : List R} {D : Nat}
theorem LogOf.low (h : LogOf w K a l d vss off fuse F N base ep ao c rs D) : ∀ k, K k → k < w.heap.size := fun k hk => h.disk.low k (.inl hk)
theorem LogOf.small (h : LogOf w K a l d vss off fuse F N base ep ao c rs D) : N ≤ 100 ∧ F ≤ 200 := by
  have h0 := h.many
  have h1 := h.disk.many
  have h2 := h.bd
  omega
theorem LogOf.ne (h : LogOf w K a l d vss off fuse F N base ep ao c rs D) {g : Nat} (hg : (Value.slice ao rs.length c).ownBlock = some g) : g ≠ l := by
  obtain ⟨cur, hc⟩ := owns_type h.own.1 hg
  rintro rfl
  rw [h.head] at hc
  simp at hc
/-- A log stays where neither its blocks nor its disk's turn. -/
theorem LogOf.stays (h : LogOf w K a l d vss off fuse F N base ep ao c rs D) (hs : w.heap.size ≤ w'.heap.size) (hold : ∀ k, k < w.heap.size → ¬ K k → w'.heap[k]? = w.heap[k]?) (hL : ∀ k, L k → k < w'.heap.size ∧ (k < w.heap.size → K k)) (he : ErrsK w' L a) : LogOf w' L a l d vss off fuse F N base ep ao c rs D := by
  have hl := lt_of_block h.head
  have hw : ∀ k, withLog L l (.slice ao rs.length c) k → k < w'.heap.size ∧ (k < w.heap.size → withLog K l (.slice ao rs.length c) k) := by
    rintro k (h1 | h1 | h1)
    · exact ⟨(hL k h1).1, fun h2 => .inl ((hL k h1).2 h2)⟩
    · exact ⟨by omega, fun _ => .inr (.inl h1)⟩
    · exact ⟨Nat.lt_of_lt_of_le (h.own.1.lt k h1).2 hs, fun _ => .inr (.inr h1)⟩
  refine ⟨?_, ⟨owns_of_block h.own.1 fun g hg hlt => hold g hlt (h.nr g hg), h.own.2⟩, h.disk.stays (fun k hk hn => hold k hk fun hk' => hn (.inl hk')) hw fun i hi => ⟨.inl (he.three i hi).1, (he.three i hi).2⟩, fun hk => h.nl ((hL l hk).2 hl), fun g hg hk => h.nr g hg ((hL g hk).2 (h.own.1.lt g hg).2), he, h.bd, h.good, h.many⟩
  rw [hold l hl h.nl]
  exact h.head
theorem LogOf.below (h : LogOf w K a l d vss off fuse F N base ep ao c rs D) (hb : Below w.heap.size w w') : LogOf w' K a l d vss off fuse F N base ep ao c rs D :=
  h.stays hb.size (fun k hk _ => hb.block k hk) (fun k hk => ⟨Nat.lt_of_lt_of_le (h.low k hk) hb.size, fun _ => hk⟩) (h.errs.kept (Kept.of_below hb h.low))
/-- K may name what is new besides. -/
theorem LogOf.widen (h : LogOf w K a l d vss off fuse F N base ep ao c rs D) (hb : Below w.heap.size w w') : LogOf w' (wider K w.heap.size w'.heap.size) a l d vss off fuse F N base ep ao c rs D :=
  h.stays hb.size (fun k hk _ => hb.block k hk) (fun k hk => by rcases hk with h1 | h1; exact ⟨Nat.lt_of_lt_of_le (h.low k h1) hb.size, fun _ => h1⟩; exact ⟨h1.2, fun h2 => absurd h2 (by omega)⟩) ((h.errs.kept (Kept.of_below hb h.low)).wide fun k hk => .inl hk)
theorem LogOf.drewN (h : LogOf w K a l d vss off fuse F N base ep ao c rs D) (n : Nat) : LogOf (w.drewN n) K a l d vss off fuse F N base ep ao c rs D := h.below ⟨rfl, rfl, rfl, Nat.le_refl _, fun _ _ => rfl⟩
theorem LogOf.drew (h : LogOf w K a l d vss off fuse F N base ep ao c rs D) : LogOf w.drew K a l d vss off fuse F N base ep ao c rs D := h.below ⟨rfl, rfl, rfl, Nat.le_refl _, fun _ _ => rfl⟩
/-- The log's disk has turned, and nothing else that is named. -/
theorem LogOf.turn {vss' : List (List (List Int))} {off' : Bool} {fuse' : Int} (h : LogOf w K a l d vss off fuse F N base ep ao c rs D) (hd : Disk w' (withLog K l (.slice ao rs.length c)) a d vss' off' fuse') (hk : Kept (withLog K l (.slice ao rs.length c)) w w') (hv : vss'.length = vss.length) : LogOf w' K a l d vss' off' fuse' F N base ep ao c rs D := by
  refine ⟨?_, ⟨owns_of_block h.own.1 fun g hg _ => hk.block g (.inr (.inr hg)), h.own.2⟩, hd, h.nl, h.nr, h.errs.kept (hk.mono fun k h1 => .inl h1), by rw [hv]; exact h.bd, h.good, h.many⟩
  rw [hk.block l (.inr (.inl rfl))]
  exact h.head
theorem LogOf.cellAt (h : LogOf w K a l d vss off fuse F N base ep ao c rs D) (o : Nat) : w.cell? ⟨l, o, none⟩ = (logCells d F N base ep (.slice ao rs.length c) D)[o]? := cell_row h.head o
theorem LogOf.c0 (h : LogOf w K a l d vss off fuse F N base ep ao c rs D) : w.cell? ⟨l, 0, none⟩ = some (.pointer (some ⟨d, 0, none⟩)) := h.cellAt 0
theorem LogOf.c1 (h : LogOf w K a l d vss off fuse F N base ep ao c rs D) : w.cell? ⟨l, 1, none⟩ = some (.int .i64 F) := h.cellAt 1
theorem LogOf.c2 (h : LogOf w K a l d vss off fuse F N base ep ao c rs D) : w.cell? ⟨l, 2, none⟩ = some (.int .i64 N) := h.cellAt 2
theorem LogOf.c3 (h : LogOf w K a l d vss off fuse F N base ep ao c rs D) : w.cell? ⟨l, 3, none⟩ = some (.int .i64 base) := h.cellAt 3
theorem LogOf.c4 (h : LogOf w K a l d vss off fuse F N base ep ao c rs D) : w.cell? ⟨l, 4, none⟩ = some (.int .i64 ep) := h.cellAt 4
theorem LogOf.c5 (h : LogOf w K a l d vss off fuse F N base ep ao c rs D) {n : Nat} (hn : rs.length = n) : w.cell? ⟨l, 5, none⟩ = some (.slice ao n c) := by rw [← hn]; exact h.cellAt 5
theorem LogOf.c6 (h : LogOf w K a l d vss off fuse F N base ep ao c rs D) : w.cell? ⟨l, 6, none⟩ = some (.int .i64 D) := h.cellAt 6
theorem LogOf.fz (h : LogOf w K a l d vss off fuse F N base ep ao c rs D) (o : Nat) : w.frozen? ⟨l, o, none⟩ = false := frozen_row h.head o
/-- A log without records, as wal.New makes it. -/
theorem log_new (h : Disk w K a d vss off fuse) (he : ErrsK w K a) (hb : 0 ≤ base ∧ base ≤ 1073741824) (hep : 1 ≤ ep ∧ ep ≤ 1073741824) (hF : F + N ≤ vss.length) (hN : N ≤ 100) : LogOf (w.alloc (.cells (logCells d F N base ep (.slice none 0 0) 0) 80)) K a w.heap.size d vss off fuse F N base ep none 0 [] 0 := by
  have hbel := (Below.refl w.heap.size w).alloc (Nat.le_refl _) (.cells (logCells d F N base ep (.slice none 0 0) 0) 80)
  have hk := Kept.of_below hbel h.low
  refine ⟨heap_alloc_new _ _, ownR_nil _ _, ?_, fun hk => absurd (h.low _ hk) (Nat.lt_irrefl _), fun g hg => by simp [Value.ownBlock] at hg, he.kept hk, ⟨⟨hb.1, by simpa using hb.2⟩, hep, hF, by simp, by simp⟩, fun r hr => absurd hr (by simp), hN⟩
  refine h.stays (fun k h1 _ => hbel.block k h1) ?_ ?_
  · rintro k (h1 | h1 | h1)
    · exact ⟨Nat.lt_of_lt_of_le (h.low k h1) hbel.size, fun _ => h1⟩
    · exact ⟨by rw [h1]; simp, fun h2 => absurd h2 (by omega)⟩
    · simp [Value.ownBlock] at h1
  · exact fun i hi => ⟨.inl (he.three i hi).1, (he.kept hk).three i hi |>.2⟩
/-- The records have grown: 'w1' is where they lie, their slice is put into the log's cell. -/
theorem LogOf.grown {w1 : World} {ts : List R} {ao' : Option Addr} {c' : Nat} (h : LogOf w K a l d vss off fuse F N base ep ao c rs D) (ho : OwnR w1 0 ao' c' (rs ++ ts)) (hg : w.grownBy w1 (Value.slice ao rs.length c).ownBlock) (hat : (Value.slice ao' (rs ++ ts).length c').ownBlock = (Value.slice ao rs.length c).ownBlock ∨ ∃ g, (Value.slice ao' (rs ++ ts).length c').ownBlock = some g ∧ w.heap.size ≤ g)
    (hb : base + (rs ++ ts).length ≤ 1073741824) (hN : (rs ++ ts).length ≤ 6 * N) (hgd : ∀ r ∈ ts, goodB r = true ∧ r.fits) :
    LogOf (w1.setCell ⟨l, 5, none⟩ (.slice ao' (rs ++ ts).length c')) K a l d vss off fuse F N base ep ao' c' (rs ++ ts) D ∧ Kept K w (w1.setCell ⟨l, 5, none⟩ (.slice ao' (rs ++ ts).length c')) := by
  have hl := lt_of_block h.head
  have hnl : ∀ g, (Value.slice ao' (rs ++ ts).length c').ownBlock = some g → g ≠ l := by
    intro g hg' e
    rcases hat with h1 | ⟨g', h1, h2⟩
    · exact h.ne (h1 ▸ hg') e
    · rw [h1] at hg'
      simp only [Option.some.injEq] at hg'
      omega
  have hsz : (w1.setCell ⟨l, 5, none⟩ (.slice ao' (rs ++ ts).length c')).heap.size = w1.heap.size := by simp [World.setCell]
  have hold : ∀ k, k < w.heap.size → k ≠ l → some k ≠ (Value.slice ao rs.length c).ownBlock → (w1.setCell ⟨l, 5, none⟩ (.slice ao' (rs ++ ts).length c')).heap[k]? = w.heap[k]? := fun k h1 h2 h3 => (Below.heap_setCell _ _ _ _ h2).trans (hg.block k h1 h3)
  have hkept : Kept K w (w1.setCell ⟨l, 5, none⟩ (.slice ao' (rs ++ ts).length c')) := ⟨hg.os, hg.tape, hg.output, by rw [hsz]; exact hg.size, fun k hk => hold k (h.low k hk) (fun e => h.nl (e ▸ hk)) (fun e => h.nr k e.symm hk)⟩
  have hbd := h.bd
  have hlen : rs.length ≤ (rs ++ ts).length := by simp
  have hown : OwnR (w1.setCell ⟨l, 5, none⟩ (.slice ao' (rs ++ ts).length c')) 0 ao' c' (rs ++ ts) := ⟨owns_of_block ho.1 fun g hg' _ => Below.heap_setCell _ _ _ _ (hnl g hg'), ho.2⟩
  refine ⟨⟨?_, hown, ?_, h.nl, ?_, h.errs.kept hkept, ⟨⟨hbd.1.1, hb⟩, hbd.2.1, hbd.2.2.1, hN, Nat.le_trans hbd.2.2.2.2 hlen⟩, ?_, h.many⟩, hkept⟩
  · have e : w1.heap[l]? = _ := (hg.block l hl (fun e => h.ne e.symm rfl)).trans h.head
    rw [heap_set_same e]
    rfl
  · refine h.disk.stays (fun k h1 h2 => hold k h1 (fun e => h2 (.inr (.inl e))) (fun e => h2 (.inr (.inr e.symm)))) ?_ fun i hi => ⟨.inl (h.errs.three i hi).1, ((h.errs.kept hkept).three i hi).2⟩
    rintro k (h1 | h1 | h1)
    · exact ⟨Nat.lt_of_lt_of_le (h.low k h1) hkept.size, fun _ => .inl h1⟩
    · exact ⟨by have := hkept.size; omega, fun _ => .inr (.inl h1)⟩
    · refine ⟨(hown.1.lt k h1).2, fun h2 => ?_⟩
      rcases hat with h3 | ⟨g, h3, h4⟩
      · exact .inr (.inr (h3 ▸ h1))
      · rw [h3] at h1
        simp only [Option.some.injEq] at h1
        omega
  · intro g hg' hk
    rcases hat with h3 | ⟨g', h3, h4⟩
    · exact h.nr g (h3 ▸ hg') hk
    · rw [h3] at hg'
      simp only [Option.some.injEq] at hg'
      have := h.low g hk
      omega
  · intro r hr
    rcases List.mem_append.1 hr with h1 | h1
    · exact h.good r h1
    · exact hgd r h1
/-- All is flushed. -/
theorem LogOf.setDone (h : LogOf w K a l d vss off fuse F N base ep ao c rs D) (D' : Nat) (hD : D' ≤ rs.length) : LogOf (w.setCell ⟨l, 6, none⟩ (.int .i64 D')) K a l d vss off fuse F N base ep ao c rs D' ∧ Kept K w (w.setCell ⟨l, 6, none⟩ (.int .i64 D')) := by
  have hsz : (w.setCell ⟨l, 6, none⟩ (.int .i64 D')).heap.size = w.heap.size := by simp [World.setCell]
  have hold : ∀ k, k ≠ l → (w.setCell ⟨l, 6, none⟩ (.int .i64 D')).heap[k]? = w.heap[k]? := fun k h2 => Below.heap_setCell _ _ _ _ h2
  have hkept : Kept K w (w.setCell ⟨l, 6, none⟩ (.int .i64 D')) := ⟨rfl, rfl, rfl, by omega, fun k hk => hold k (fun e => h.nl (e ▸ hk))⟩
  have hbd := h.bd
  refine ⟨⟨?_, ⟨owns_of_block h.own.1 fun g hg _ => hold g (h.ne hg), h.own.2⟩, ?_, h.nl, h.nr, h.errs.kept hkept, ⟨hbd.1, hbd.2.1, hbd.2.2.1, hbd.2.2.2.1, hD⟩, h.good, h.many⟩, hkept⟩
  · rw [heap_set_same h.head]
    rfl
  · exact h.disk.stays (fun k h1 h2 => hold k (fun e => h2 (.inr (.inl e)))) (fun k hk => ⟨by rw [hsz]; exact h.disk.low k hk, fun _ => hk⟩) fun i hi => ⟨.inl (h.errs.three i hi).1, ((h.errs.kept hkept).three i hi).2⟩
end
end Go.Proofs.YtjacenhblclkaaaDoor

/- What wal.New, and a log's small methods, answer: Base, Last, Done, Room, Rec. -/
namespace Go.Proofs.YtjacenhblclkaaaDoor
open Go.RowKit
set_option linter.unusedVariables false

set_option maxRecDepth 100000 in
set_option maxHeartbeats 400000 in
theorem wnew_any (d F N : Nat) (base ep : Int) (w : World) (hN : N ≤ 200) : Calls Tryd.prog 9 #[.pointer (some ⟨d, 0, none⟩), .int .i64 F, .int .i64 N, .int .i64 base, .int .i64 ep] w fun e w' => e = .returned (.pointer (some ⟨w.heap.size, 0, none⟩)) ∧ w' = w.alloc (.cells (logCells d F N base ep (.slice none 0 0) 0) 80) := by
  have h1 : (0 : Int) ≤ (N : Int) := by omega
  have h2 : (N : Int) ≤ 1073741824 := by omega
  have h3 : ¬ ((N : Int) < 0) := by omega
  have h4 : ¬ ((1073741824 : Int) < (N : Int)) := by omega
  clear hN
  unfold logCells
  go_enter Tryd.func9, Tryd.ntmps9
  go_wp2_with fail
  go_ret
  rw [show min (N : Int) 1073741824 = (N : Int) by omega]
  exact ⟨rfl, rfl⟩
set_option maxRecDepth 100000 in
set_option maxHeartbeats 400000 in
theorem wlast_cells (l : Nat) (base : Int) (ao : Option Addr) (n c : Nat) (w : World) (h3 : w.cell? ⟨l, 3, none⟩ = some (.int .i64 base)) (h5 : w.cell? ⟨l, 5, none⟩ = some (.slice ao n c)) (hb : 0 ≤ base ∧ base ≤ 1073741824) (hn : n ≤ 1200) : Calls Tryd.prog 37 #[.pointer (some ⟨l, 0, none⟩)] w fun e w' => e = .returned (.int .i64 (base + n)) ∧ ∃ m, w' = w.drewN m := by
  go_enter Tryd.func37, Tryd.ntmps37
  go_wp2_with fail
  go_quiet (fail)
  go_wp2_with fail
  go_ret
  exact ⟨rfl, _, rfl⟩
set_option maxRecDepth 100000 in
set_option maxHeartbeats 400000 in
theorem wdone_cells (l : Nat) (base : Int) (D : Nat) (w : World) (h3 : w.cell? ⟨l, 3, none⟩ = some (.int .i64 base)) (h6 : w.cell? ⟨l, 6, none⟩ = some (.int .i64 D)) (hb : 0 ≤ base ∧ base ≤ 1073741824) (hn : D ≤ 1200) : Calls Tryd.prog 17 #[.pointer (some ⟨l, 0, none⟩)] w fun e w' => e = .returned (.int .i64 (base + D)) ∧ ∃ m, w' = w.drewN m := by
  go_enter Tryd.func17, Tryd.ntmps17
  go_wp2_with fail
  go_quiet (fail)
  go_wp2_with fail
  go_ret
  exact ⟨rfl, _, rfl⟩
/-- How many more records there is room for. -/
def roomI (N n : Nat) (base : Int) : Int := if 1073741824 - ((N : Int) * 6 - (n : Int)) < base + (n : Int) then 1073741824 - (base + (n : Int)) else (N : Int) * 6 - (n : Int)
theorem room_bd {N n : Nat} {base : Int} (hb : 0 ≤ base ∧ base + (n : Int) ≤ 1073741824) (hN : N ≤ 200) (hn : n ≤ 6 * N) : 0 ≤ roomI N n base ∧ roomI N n base ≤ 1200 := by
  unfold roomI
  split <;> omega
set_option maxRecDepth 100000 in
set_option maxHeartbeats 1000000 in
theorem wroom_cells (l N : Nat) (base : Int) (ao : Option Addr) (n c : Nat) (w : World) (h2 : w.cell? ⟨l, 2, none⟩ = some (.int .i64 N)) (h3 : w.cell? ⟨l, 3, none⟩ = some (.int .i64 base)) (h5 : w.cell? ⟨l, 5, none⟩ = some (.slice ao n c)) (hb : 0 ≤ base ∧ base + (n : Int) ≤ 1073741824) (hN : N ≤ 200) (hn : n ≤ 6 * N) : Calls Tryd.prog 36 #[.pointer (some ⟨l, 0, none⟩)] w fun e w' => e = .returned (.int .i64 (roomI N n base)) ∧ ∃ m, w' = w.drewN m := by
  have HL : Hid (∀ m, Calls Tryd.prog 37 #[.pointer (some ⟨l, 0, none⟩)] (w.drewN m) fun e w' => e = .returned (.int .i64 (base + n)) ∧ ∃ k, w' = w.drewN k) := by
    intro m
    refine (wlast_cells l base ao n c (w.drewN m) h3 h5 (by omega) (by omega)).mono ?_
    rintro e w' ⟨rfl, k, rfl⟩
    exact ⟨rfl, _, World.drewN_drewN ..⟩
  by_cases hc : 1073741824 - ((N : Int) * 6 - (n : Int)) < base + (n : Int)
  · have hr : roomI N n base = 1073741824 - (base + (n : Int)) := by unfold roomI; rw [if_pos hc]
    rw [hr]
    have hm : ¬ (1073741824 - (base + (n : Int)) < 0) := by omega
    have hm' : 0 ≤ 1073741824 - (base + (n : Int)) := by omega
    have hx : max (1073741824 - (base + (n : Int))) 0 = 1073741824 - (base + (n : Int)) := by omega
    clear hr
    go_enter Tryd.func36, Tryd.ntmps36
    go_wp2_with fail
    go_quiet (fail)
    go_wp2_with fail
    refine (HL.out _).mono ?_
    rintro e w1 ⟨rfl, k, rfl⟩
    go_wp2_with fail
    refine (HL.out _).mono ?_
    rintro e w1 ⟨rfl, k2, rfl⟩
    go_wp2_with fail
    go_ret
    exact ⟨rfl, _, rfl⟩
  · have hr : roomI N n base = (N : Int) * 6 - (n : Int) := by unfold roomI; rw [if_neg hc]
    rw [hr]
    have hd : decide (1073741824 - ((N : Int) * 6 - (n : Int)) < base + (n : Int)) = false := by simpa using hc
    have hm : ¬ ((N : Int) * 6 - (n : Int) < 0) := by omega
    have hm' : 0 ≤ (N : Int) * 6 - (n : Int) := by omega
    have hx : max ((N : Int) * 6 - (n : Int)) 0 = (N : Int) * 6 - (n : Int) := by omega
    clear hr hc
    go_enter Tryd.func36, Tryd.ntmps36
    go_wp2_with fail
    go_quiet (fail)
    go_wp2_with fail
    refine (HL.out _).mono ?_
    rintro e w1 ⟨rfl, k, rfl⟩
    go_wp2_with fail
    go_ret
    exact ⟨rfl, _, rfl⟩
section
variable {w w' : World} {K L : Nat → Prop} {a : Nat → Addr} {l d : Nat} {vss : List (List (List Int))} {off : Bool} {fuse : Int} {F N : Nat} {base ep : Int} {ao : Option Addr} {c : Nat} {rs : List R} {D : Nat}
theorem wlast_any (h : Log w K a l d vss off fuse F N base ep rs D) (n : Nat) (hn : rs.length = n) : Calls Tryd.prog 37 #[.pointer (some ⟨l, 0, none⟩)] w fun e w' => e = .returned (.int .i64 (base + n)) ∧ ∃ m, w' = w.drewN m := by
  obtain ⟨ao, c, h⟩ := h
  have h1 := h.bd
  have h2 := h.small
  exact wlast_cells l base ao n c w h.c3 (h.c5 hn) (by omega) (by omega)
theorem wdone_any (h : Log w K a l d vss off fuse F N base ep rs D) : Calls Tryd.prog 17 #[.pointer (some ⟨l, 0, none⟩)] w fun e w' => e = .returned (.int .i64 (base + D)) ∧ ∃ m, w' = w.drewN m := by
  obtain ⟨ao, c, h⟩ := h
  have h1 := h.bd
  have h2 := h.small
  exact wdone_cells l base D w h.c3 h.c6 (by omega) (by omega)
theorem wroom_any (h : Log w K a l d vss off fuse F N base ep rs D) (n : Nat) (hn : rs.length = n) : Calls Tryd.prog 36 #[.pointer (some ⟨l, 0, none⟩)] w fun e w' => e = .returned (.int .i64 (roomI N n base)) ∧ ∃ m, w' = w.drewN m := by
  obtain ⟨ao, c, h⟩ := h
  have h1 := h.bd
  have h2 := h.small
  exact wroom_cells l N base ao n c w h.c2 h.c3 (h.c5 hn) (by omega) (by omega) (by omega)
end
end Go.Proofs.YtjacenhblclkaaaDoor

/- What a log's Rec answers. -/
namespace Go.Proofs.YtjacenhblclkaaaDoor
open Go.RowKit
set_option linter.unusedVariables false

section
variable {w w' : World} {K L : Nat → Prop} {a : Nat → Addr} {l d : Nat} {vss : List (List (List Int))} {off : Bool} {fuse : Int} {F N : Nat} {base ep : Int} {ao : Option Addr} {c : Nat} {rs : List R} {D : Nat}
end
end Go.Proofs.YtjacenhblclkaaaDoor

/- What a log's Append answers. -/
namespace Go.Proofs.YtjacenhblclkaaaDoor
open Go.RowKit
set_option linter.unusedVariables false

theorem step_append_w {P : Program} {w : World} {ops : Array Oper} {o : Oper} {a : Act} {K : Act → World → Prop} {Q : Exit → Act → World → Prop} {E : Prop} (hw : Region.wanted o (yielded ops a.tmps) = true) (s x : Operand) (t : TypeId)
    (ho : o.op = .call { callee := .builtin .append, args := #[s, x], argTypes := #[t, t] }) (vs vx : Value) (hs : a.eval s = vs) (hx : a.eval x = vx) {v' : Value} {w' : World} (hr : (Builtin.append_ #[t, t] o.type #[vs, vx]).run P w = .ok v' w')
    (h : K (a.put o.dst v') w') : if Region.wanted o (yielded ops a.tmps) = true then Oper.wp P o a w K Q else E := by
  rw [if_pos hw]
  unfold Oper.wp execOp
  simp only [ho, resolve, invoke, builtin, Sem.run_bind, Sem.run_pure, Result.andThen_ok, List.map_toArray, List.map_cons, List.map_nil, hs, hx, hr]
  exact h
theorem Below.drewN_self (w : World) (m : Nat) : Below w.heap.size w (w.drewN m) := ⟨rfl, rfl, rfl, Nat.le_refl _, fun _ _ => rfl⟩
section
variable {w w' : World} {K L : Nat → Prop} {a : Nat → Addr} {l d : Nat} {vss : List (List (List Int))} {off : Bool} {fuse : Int} {F N : Nat} {base ep : Int} {ao : Option Addr} {c : Nat} {rs : List R} {D : Nat}
theorem Below.intoKept {w w1 : World} (h : LogOf w K a l d vss off fuse F N base ep ao c rs D) (hb : Below w.heap.size w w1) : Kept K w w1 := Kept.of_below hb h.low
/-- One record is appended: what the builtin does, and the log behind it. -/
theorem append_run (h : LogOf w K a l d vss off fuse F N base ep ao c rs D) (n : Nat) (hn : rs.length = n) (r : R) (hg : goodB r = true ∧ r.fits) (hroom : n + 1 ≤ 6 * N) (hb : base + (n : Int) + 1 ≤ 1073741824) (ty : TypeId) :
    ∃ ao' c' w1, (Builtin.append_ #[78, 78] ty #[.slice ao n c, .slice (some ⟨w.heap.size, 0, none⟩) 1 1]).run Tryd.prog (w.alloc (recCells r)) = .ok (.slice ao' (n + 1) c') w1 ∧ w1.cell? ⟨l, 5, none⟩ = some (.slice ao n c) ∧ w1.frozen? ⟨l, 5, none⟩ = false ∧
      LogOf (w1.setCell ⟨l, 5, none⟩ (.slice ao' (n + 1) c')) K a l d vss off fuse F N base ep ao' c' (rs ++ [r]) D ∧ Kept K w (w1.setCell ⟨l, 5, none⟩ (.slice ao' (n + 1) c')) := by
  subst hn
  have hbel := below_box w (recCells r)
  have h1 := h.below hbel
  have hsm := h.small
  have hlies : (w.alloc (recCells r)).heap[w.heap.size]? = some (.cells (cellsOfRs [r]).toArray 42 (0, 0)) := heap_alloc_new _ _
  have hrow : ∀ i x, [r][i]? = some x → CellsFrom (w.alloc (recCells r)) w.heap.size (0 + i * 10) x := by
    intro i x hi
    cases i with
    | zero =>
      simp only [List.getElem?_cons_zero, Option.some.injEq] at hi
      subst hi
      have hc := cells10_new w r
      exact ⟨hc.c0, hc.c1, hc.c2, hc.c3, hc.c4, hc.c5, hc.c6, hc.c7, hc.c8, hc.c9, hc.lt⟩
    | succ i => simp at hi
  obtain ⟨ao', c', w1, hr, ho, hgr, hbw, hat⟩ := run_appendR (yc := 1) h1.own rfl (show [r].length = 1 from rfl) (by omega) (Nat.zero_le _) hrow ty
  have hln : (rs ++ [r]).length = rs.length + 1 := by simp
  have hg2 := h1.grown (ts := [r]) ho hgr (by rw [hln]; exact hat) (by rw [hln]; push_cast; omega) (by rw [hln]; exact hroom) (fun x hx => by rw [List.mem_singleton.1 hx]; exact hg)
  rw [hln] at hg2
  have hl1 := lt_of_block h1.head
  have e : w1.heap[l]? = _ := (hgr.block l hl1 (fun e => h1.ne e.symm rfl)).trans h1.head
  refine ⟨ao', c', w1, hr, (cell_row e 5).trans rfl, frozen_row e 5, hg2.1, (Kept.of_below hbel h.low).trans hg2.2⟩
set_option maxRecDepth 100000 in
set_option maxHeartbeats 4000000 in
theorem wappend_ok (h : Log w K a l d vss off fuse F N base ep rs D) (n : Nat) (hn : rs.length = n) (r : R) (hg : goodB r = true) (hf : r.fits) (hr : 0 < roomI N n base) : Calls Tryd.prog 13 #[.pointer (some ⟨l, 0, none⟩), r.val] w fun e w' => e = .returned (.tuple #[.int .i64 (base + n + 1), .nilIface]) ∧ Log w' K a l d vss off fuse F N base ep (rs ++ [r]) D ∧ Kept K w w' := by
  obtain ⟨ao, c, h⟩ := h
  have hbd := h.bd
  have hsm := h.small
  have HRM : Hid (n + 1 ≤ 6 * N ∧ base + (n : Int) + 1 ≤ 1073741824) := by
    show _ ∧ _
    unfold roomI at hr
    split at hr <;> omega
  have HRZ : Hid ((roomI N n base == 0) = false) := by
    show (roomI N n base == 0) = false
    simp
    omega
  have HB := hide (below_box w (recCells r))
  have HH := hide (h.below HB.out)
  have HK := hide (Kept.of_below HB.out h.low)
  have HC := hide (cells10_new w r)
  have hchk : checkV r (a 1) = .nilIface := checkV_good hg
  have HN := hide hn
  have HG := hide (And.intro hg hf)
  have HBB : Hid (0 ≤ base ∧ base ≤ 1073741824) := by show _ ∧ _; omega
  have HN6 : Hid (n ≤ 1000) := by show n ≤ 1000; omega
  have HLT : Hid (w.heap.size < (w.alloc (recCells r)).heap.size) := by show _ < _; simp
  unfold recCells at HB HH HC HK HLT
  obtain ⟨k0, k1, k2, k3, k4, k5, k6, k7, k8, k9, kl⟩ := HC.out
  clear h hn hr hbd hsm hg hf kl
  unfold R.val
  go_enter Tryd.func13, Tryd.ntmps13
  go_wp2_with fail
  clear k0 k1 k2 k3 k4 k5 k6 k7 k8 k9
  refine (check_any r _ (a 1) HH.out.errs.rng).mono ?_
  rintro e w1 ⟨rfl, hb⟩
  rw [hchk]
  have HH1 := hide (HH.out.below hb)
  have HK1 := hide (HK.out.trans (Kept.of_below hb HH.out.low))
  have HC1 := hide (HC.out.below hb (Nat.le_refl _))
  clear hb HB HH HK HC HLT
  go_wp2_with fail
  refine (wroom_any ⟨_, _, HH1.out⟩ n HN.out).mono ?_
  rintro e w2 ⟨rfl, m, rfl⟩
  have hrz := HRZ.out
  obtain ⟨rm, hrm⟩ : ∃ rm, rm = roomI N n base := ⟨_, rfl⟩
  rw [← hrm] at hrz ⊢
  clear hrm
  obtain ⟨W, hW⟩ : ∃ W, W = w1.drewN m := ⟨_, rfl⟩
  have HHW : Hid (LogOf W K a l d vss off fuse F N base ep ao c rs D) := by show LogOf W K a l d vss off fuse F N base ep ao c rs D; rw [hW]; exact HH1.out.drewN m
  have HCW : Hid (Cells10 W w.heap.size r) := by show Cells10 W w.heap.size r; rw [hW]; exact HC1.out.below (Below.drewN_self w1 m) (Nat.le_refl _)
  have HKW : Hid (Kept K w W) := by show Kept K w W; rw [hW]; exact HK1.out.drewN m
  rw [← hW]
  clear hW HH1 HC1 HK1
  have hc5 := HHW.out.c5 HN.out
  have hlt := World.block_lt_of_cell? W _ hc5
  simp only at hlt
  obtain ⟨k0, k1, k2, k3, k4, k5, k6, k7, k8, k9, kl⟩ := HCW.out
  obtain ⟨ao', c', w3, hrun, hc3, hf3, hlog, hkept⟩ := append_run HHW.out.drew n HN.out r HG.out HRM.out.1 HRM.out.2 78
  have HRUN : Hid ((Builtin.append_ #[78, 78] 78 #[.slice ao n c, .slice (some ⟨W.heap.size, 0, none⟩) 1 1]).run Tryd.prog (W.alloc (.cells #[.int .i64 r.kind, .int .i64 r.txn, .int .i64 r.page, .int .i64 r.prev, .int .i64 r.next, .int .i64 r.key, .bool r.had, .bool r.has, .int .i64 r.old, .int .i64 r.new] 42)).drew = .ok (.slice ao' (n + 1) c') w3) := hrun
  have HLOG := hide hlog
  have HKP : Hid (Kept K W (w3.setCell ⟨l, 5, none⟩ (.slice ao' (n + 1) c'))) := hkept.of_drew
  clear hrun hlog hkept HCW
  go_wp2_with fail
  apply dup
  case k =>
    intro TAIL
    go_region_law (first
      | (refine step_append_w (by rfl) (.tmp 20) (.tmp 22) 78 (by rfl) _ _ (by rfl) (by rfl) HRUN.out ?_)
      | fail)
    all_goals exact TAIL.out
  case h =>
    clear k0 k1 k2 k3 k4 k5 k6 k7 k8 k9 hc3 hf3 hc5
    have HLN : Hid ((rs ++ [r]).length = n + 1) := by show (rs ++ [r]).length = n + 1; rw [List.length_append, HN.out]; rfl
    go_wp2_with fail
    refine (wlast_any ⟨_, _, HLOG.out⟩ (n + 1) HLN.out).mono ?_
    rintro e w4 ⟨rfl, m4, rfl⟩
    rw [show base + ((n + 1 : Nat) : Int) = base + (n : Int) + 1 by omega]
    go_wp2_with fail
    go_ret2
    exact ⟨rfl, ⟨_, _, HLOG.out.drewN _⟩, (HKW.out.trans HKP.out).drewN _⟩
end
end Go.Proofs.YtjacenhblclkaaaDoor
