/- Lemmas and contracts that the law stands on, joined: RLogObj. -/
import Derived.Test.YtjacenhblclkaaaGreatDoorJoin10
import Derived.Test.YtjacenhblclkaaaGreatDoorJoin21
import Derived.Test.YtjacenhblclkaaaGreatDoorJoin5
import Derived.Test.YtjacenhblclkaaaGreatDoorJoin7
/- The document's own log in memory (phoenixref1.Log): how it lies, how it stays; what NewLog answers. -/
namespace Go.Proofs.YtjacenhblclkaaaGreatDoor
open Go.RowKit
set_option linter.unusedVariables false

/-- The document's log as a block. -/
def rlogCells (y F N : Nat) (base ep : Int) (v : Value) (D : Nat) : Array Value := #[.pointer (some ⟨y, 0, none⟩), .int .i64 F, .int .i64 N, .int .i64 base, .int .i64 ep, v, .int .i64 (base + D)]
/-- The document's log lies at block z, over the disk at block y: the records rs, of which D are flushed; M names what it reads. -/
structure RL (w : World) (M : Nat → Prop) (z y F N : Nat) (base ep : Int) (ao : Option Addr) (c : Nat) (rs : List R) (D : Nat) : Prop where
  head : w.heap[z]? = some (.cells (rlogCells y F N base ep (.slice ao rs.length c) D) 105 (0, 0))
  row : RecRow w ao rs
  cap : rs.length ≤ c
  mrow : ∀ b off, ao = some ⟨b, off, none⟩ → 0 < rs.length → M b
  mz : M z
section
variable {w w' : World} {M : Nat → Prop} {z y F N : Nat} {base ep : Int} {ao : Option Addr} {c : Nat} {rs : List R} {D : Nat}
theorem RL.lt (h : RL w M z y F N base ep ao c rs D) : z < w.heap.size := lt_of_block h.head
theorem RL.c0 (h : RL w M z y F N base ep ao c rs D) : w.cell? ⟨z, 0, none⟩ = some (.pointer (some ⟨y, 0, none⟩)) := (cell_row h.head 0).trans rfl
theorem RL.c1 (h : RL w M z y F N base ep ao c rs D) : w.cell? ⟨z, 1, none⟩ = some (.int .i64 F) := (cell_row h.head 1).trans rfl
theorem RL.c2 (h : RL w M z y F N base ep ao c rs D) : w.cell? ⟨z, 2, none⟩ = some (.int .i64 N) := (cell_row h.head 2).trans rfl
theorem RL.c3 (h : RL w M z y F N base ep ao c rs D) : w.cell? ⟨z, 3, none⟩ = some (.int .i64 base) := (cell_row h.head 3).trans rfl
theorem RL.c4 (h : RL w M z y F N base ep ao c rs D) : w.cell? ⟨z, 4, none⟩ = some (.int .i64 ep) := (cell_row h.head 4).trans rfl
theorem RL.c5 (h : RL w M z y F N base ep ao c rs D) {n : Nat} (hn : rs.length = n) : w.cell? ⟨z, 5, none⟩ = some (.slice ao n c) := by rw [← hn]; exact (cell_row h.head 5).trans rfl
theorem RL.c6 (h : RL w M z y F N base ep ao c rs D) : w.cell? ⟨z, 6, none⟩ = some (.int .i64 (base + D)) := (cell_row h.head 6).trans rfl
theorem RL.fz (h : RL w M z y F N base ep ao c rs D) (o : Nat) : w.frozen? ⟨z, o, none⟩ = false := by simp [World.frozen?, h.head]
/-- The log stays while the blocks that M names stay. -/
theorem RL.kept (h : RL w M z y F N base ep ao c rs D) (hz : w.heap.size ≤ w'.heap.size) (hk : ∀ g, M g → w'.heap[g]? = w.heap[g]?) : RL w' M z y F N base ep ao c rs D := by
  refine ⟨(hk z h.mz).trans h.head, ⟨h.row.1, fun hp => ?_⟩, h.cap, h.mrow, h.mz⟩
  obtain ⟨b, off, e, hc⟩ := h.row.2 hp
  exact ⟨b, off, e, fun i r hi => (hc i r hi).of_block (hk b (h.mrow b off e hp)) hz⟩
theorem RL.below (h : RL w M z y F N base ep ao c rs D) {B : Nat} (hb : Below B w w') (hB : w.heap.size ≤ B) : RL w' M z y F N base ep ao c rs D :=
  ⟨(hb.block z (Nat.lt_of_lt_of_le h.lt hB)).trans h.head, h.row.below hb hB, h.cap, h.mrow, h.mz⟩
theorem RL.step (h : RL w M z y F N base ep ao c rs D) (hb : Below w.heap.size w w') : RL w' M z y F N base ep ao c rs D := h.below hb (Nat.le_refl _)
theorem RL.wide (h : RL w M z y F N base ep ao c rs D) {L : Nat → Prop} (hL : ∀ k, M k → L k) : RL w L z y F N base ep ao c rs D := ⟨h.head, h.row, h.cap, fun b off e hp => hL b (h.mrow b off e hp), hL z h.mz⟩
/-- Its records are other ones, in new memory. -/
theorem RL.put (h : RL w M z y F N base ep ao c rs D) {B : Nat} {bo : Option Addr} {d n : Nat} {ts : List R} (ho : OwnR w B bo d ts) (hn : ts.length = n) (hB : z < B) : RL (w.setCell ⟨z, 5, none⟩ (.slice bo n d)) (fun g => M g ∨ (B ≤ g ∧ g < w.heap.size)) z y F N base ep bo d ts D := by
  subst hn
  have hle : ts.length ≤ d := by
    rcases ho.1.2 with ⟨h1, h2⟩ | ⟨g, c', cur, h1, h2, h3, h4, h5, _⟩
    · omega
    · simp only [Value.slice.injEq] at h1
      obtain ⟨_, _, rfl⟩ := h1
      exact h4
  have ho' : OwnR (w.setCell ⟨z, 5, none⟩ (.slice bo ts.length d)) B bo d ts := ⟨owns_of_block ho.1 fun g hg _ => Below.heap_setCell _ _ _ _ (show g ≠ z from fun e => by have := (ho.1.lt g hg).1; omega), ho.2⟩
  refine ⟨set_block h.head 5 _, ho'.row, hle, fun b off e hp => .inr ?_, .inl h.mz⟩
  subst e
  exact ho.1.lt b rfl
/-- How many are flushed. -/
theorem RL.mark (h : RL w M z y F N base ep ao c rs D) (D' : Nat) : RL (w.setCell ⟨z, 6, none⟩ (.int .i64 (base + D'))) M z y F N base ep ao c rs D' := by
  refine ⟨set_block h.head 6 _, ⟨h.row.1, fun hp => ?_⟩, h.cap, h.mrow, h.mz⟩
  obtain ⟨b, off, e, hc⟩ := h.row.2 hp
  refine ⟨b, off, e, fun i r hi => (hc i r hi).of_block (Below.heap_setCell _ _ _ _ (show b ≠ z from fun e' => ?_)) (by simp [World.setCell])⟩
  have h1 := (hc i r hi).c0
  have h2 := (hc i r hi).c6
  subst e'
  rw [cell_row h.head] at h2
  have hsz : off + i * 10 + 6 < 7 := by
    have := (Array.getElem?_eq_some_iff.1 h2).1
    simpa [rlogCells] using this
  have h9 := (hc i r hi).c9
  rw [cell_row h.head] at h9
  have := (Array.getElem?_eq_some_iff.1 h9).1
  have : off + i * 10 + 9 < 7 := by simpa [rlogCells] using this
  omega
end
set_option maxHeartbeats 1000000 in
theorem rnewlog_any (y F N : Nat) (base ep : Int) (w : World) : Calls Tryz.prog 10 #[.pointer (some ⟨y, 0, none⟩), .int .i64 F, .int .i64 N, .int .i64 base, .int .i64 ep] w fun e w' => e = .returned (.pointer (some ⟨w.heap.size, 0, none⟩)) ∧ w' = w.alloc (.cells (rlogCells y F N base ep (.slice none 0 0) 0) 105) := by
  unfold rlogCells
  go_enter Tryz.func10, Tryz.ntmps10
  go_wp2_with fail
  go_ret
  exact ⟨rfl, by simp⟩
theorem rl_new (w : World) (M : Nat → Prop) (y F N : Nat) (base ep : Int) (hM : M w.heap.size) : RL (w.alloc (.cells (rlogCells y F N base ep (.slice none 0 0) 0) 105)) M w.heap.size y F N base ep none 0 [] 0 :=
  ⟨heap_alloc_new _ _, recRow_nil _, by simp, fun b off e => by simp at e, hM⟩
end Go.Proofs.YtjacenhblclkaaaGreatDoor
