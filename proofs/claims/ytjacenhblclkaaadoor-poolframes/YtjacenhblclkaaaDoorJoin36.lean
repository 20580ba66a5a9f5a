/- Lemmas and contracts that the law stands on, joined: Rows3. -/
import Derived.Test.YtjacenhblclkaaaDoorJoin32
import Derived.Test.YtjacenhblclkaaaDoorJoin8
import Derived.Test.YtjacenhblclkaaaDoorJoin29
/- A list of numbers of the call's own, grown by one at a time; how disks and what was there stay meanwhile. -/
namespace Go.Proofs.YtjacenhblclkaaaDoor
open Go.RowKit
set_option linter.unusedVariables false

/-- Numbers as cells. -/
def intCells (zs : List Int) : List Value := zs.map (Value.int .i64)
theorem irow_of_own {w : World} {B n c : Nat} {ao : Option Addr} {zs : List Int} (h : w.ownsRow B 3 1 (.slice ao n c) n (intCells zs)) (hn : zs.length = n) (hl : n ≤ 4294967296) (hz : ∀ x ∈ zs, -9223372036854775808 ≤ x ∧ x ≤ 9223372036854775807) : IRow w ao zs ∧ ∀ b o, 0 < n → ao = some ⟨b, o, none⟩ → B ≤ b ∧ b < w.heap.size := by
  refine ⟨⟨by omega, hz, fun hp => ?_⟩, fun b o hp e => ?_⟩
  · obtain ⟨g, cap, hv, hg, hlt, hc⟩ := owns_first h (by omega)
    simp only [Value.slice.injEq] at hv
    refine ⟨g, 0, hv.1, hlt, fun i hi => ?_⟩
    rw [Nat.zero_add]
    refine hc i _ ?_
    simp [intCells, hi]
  · obtain ⟨g, cap, hv, hg, hlt, hc⟩ := owns_first h hp
    simp only [Value.slice.injEq] at hv
    rw [hv.1] at e
    simp only [Option.some.injEq, Addr.mk.injEq] at e
    omega
theorem irow_of_isrow {w : World} {ao : Option Addr} {len cap : Nat} {zs : List Int} (h : IsRow .i64 w ao len cap zs) (hl : len ≤ 4294967296) : ∃ xs : List Int, xs.length = len ∧ IRow w ao xs := by
  rcases h with ⟨rfl, rfl, rfl, rfl⟩ | ⟨x, rfl, h1, h2, h3, h4, h5⟩
  · exact ⟨[], rfl, by simp, fun x hx => by simp at hx, fun hp => by simp at hp⟩
  · refine ⟨zs.take len, by simp; omega, by simp; omega, fun y hy => wf_i64 (h5 y (List.mem_of_mem_take hy)), fun hp => ?_⟩
    have hlen : (zs.take len).length = len := by simp; omega
    rw [hlen] at hp ⊢
    obtain ⟨b, off, spot⟩ := x
    have hspot : spot = none := by
      have hc := h4 0 (by omega)
      simpa [Addr.add] using World.cell?_spot hc
    subst hspot
    have hb : b < w.heap.size := by
      have hc := h4 0 (by omega)
      exact World.block_lt_of_cell? w _ hc
    refine ⟨b, off, rfl, hb, fun i hi => ?_⟩
    have := h4 i (by omega)
    rw [Addr.add_lit] at this
    rw [this, getD_take hi]
theorem IRow.below {w w' : World} {ao : Option Addr} {zs : List Int} (h : IRow w ao zs) (hb : Below w.heap.size w w') : IRow w' ao zs := by
  obtain ⟨h0, h1, h2⟩ := h
  refine ⟨h0, h1, fun hp => ?_⟩
  obtain ⟨b, off, e, hlt, hc⟩ := h2 hp
  refine ⟨b, off, e, Nat.lt_of_lt_of_le hlt hb.size, fun i hi => ?_⟩
  rw [hb.cell (by exact hlt)]
  exact hc i hi
theorem kept_over {w x y : World} {N : Nat} (h : Below w.heap.size w x) (hN : w.heap.size ≤ N) (hk : Kept (fun b => b < N) x y) : Below w.heap.size w y :=
  h.trans (hk.below fun b hb => Nat.lt_of_lt_of_le hb hN)
theorem kept_wider {w x y : World} {N B C : Nat} (h : Below w.heap.size w x) (hN : w.heap.size ≤ N) (hk : Kept (wider (fun b => b < N) B C) x y) : Below w.heap.size w y :=
  h.trans (hk.below fun b hb => .inl (Nat.lt_of_lt_of_le hb hN))
theorem Disk.widen {w w' : World} {K : Nat → Prop} {a : Nat → Addr} {d : Nat} {vss : List (List (List Int))} {off : Bool} {fuse : Int} (h : Disk w K a d vss off fuse) (hb : Below w.heap.size w w') : Disk w' (wider K w.heap.size w'.heap.size) a d vss off fuse := by
  obtain ⟨s, ss, h, e⟩ := h
  exact ⟨s, ss, h.widen hb, e⟩
/-- A disk stays while blocks turn that K names (or new ones come). -/
theorem DiskOf.other {w w' : World} {K : Nat → Prop} {a : Nat → Addr} {d s : Nat} {ss : List Sec} {off : Bool} {fuse : Int} (h : DiskOf w K a d s ss off fuse) (hsize : w.heap.size ≤ w'.heap.size) (hold : ∀ k, k < w.heap.size → ¬ K k → w'.heap[k]? = w.heap[k]?) (hE : Errs w' K a) : DiskOf w' K a d s ss off fuse := by
  refine ⟨?_, ?_, fun x hx => (h.each x hx).of_block fun g hlt hg => ?_, h.apart, h.nd, h.ns, fun k hk => Nat.lt_of_lt_of_le (h.low k hk) hsize, h.many, h.fuseBd, hE⟩
  · rw [hold d (lt_of_block h.head) h.nd]; exact h.head
  · rw [hold s (lt_of_block h.secs) h.ns]; exact h.secs
  · obtain ⟨h1, h2, h3, h4, h5⟩ := h.each x hx
    rcases hg with h6 | ⟨p, hp, h6⟩
    · exact hold g hlt (h4 g h6)
    · exact hold g hlt ((h5 p hp).2.2 g h6)
theorem Disk.setOther {w : World} {K : Nat → Prop} {a : Nat → Addr} {d : Nat} {vss : List (List (List Int))} {off : Bool} {fuse : Int} (h : Disk w K a d vss off fuse) {p : Addr} (hp : K p.block) (v : Value) (hE : Errs (w.setCell p v) K a) : Disk (w.setCell p v) K a d vss off fuse := by
  obtain ⟨s, ss, h, e⟩ := h
  exact ⟨s, ss, h.other (by simp [World.setCell]) (fun k _ hk => Below.heap_setCell _ _ _ _ (fun e => hk (e ▸ hp))) hE, e⟩
theorem errsK {w w' : World} {K : Nat → Prop} {a : Nat → Addr} (h : Errs w (fun b => b < w.heap.size) a) (hb : Below w.heap.size w w') (hK : ∀ b, b < w.heap.size → K b) : Errs w' K a :=
  fun i hi => ⟨hK _ (h i hi).1, (hb.cell (h i hi).1).trans (h i hi).2⟩
theorem kept_all {w x y : World} {K : Nat → Prop} (h : Below w.heap.size w x) (hK : ∀ b, b < w.heap.size → K b) (hk : Kept K x y) : Below w.heap.size w y := h.trans (hk.below hK)
theorem verOf_set_ne (vss : List (List (List Int))) (k s : Nat) (x : List (List Int)) (h : s ≠ k) : verOf (vss.set k x) s = verOf vss s := by
  rw [verOf, verOf, List.getD_eq_getElem?_getD, List.getD_eq_getElem?_getD, List.getElem?_set, if_neg (by omega)]
theorem verOf_map {f : List (List Int) → List (List Int)} (vss : List (List (List Int))) (s : Nat) (h : s < vss.length) : verOf (vss.map f) s = f (verOf vss s) := by
  rw [verOf, verOf, List.getD_eq_getElem?_getD, List.getD_eq_getElem?_getD, List.getElem?_map, List.getElem?_eq_getElem h]; rfl
theorem Disk.one_le {w : World} {K : Nat → Prop} {a : Nat → Addr} {d : Nat} {vss : List (List (List Int))} {off : Bool} {fuse : Int} (h : Disk w K a d vss off fuse) {s : Nat} (hs : s < vss.length) : 1 ≤ (verOf vss s).length := by
  obtain ⟨q, ss, h, rfl⟩ := h
  rw [length_vers] at hs
  obtain ⟨x, hx⟩ := sec_at hs
  rw [verOf_vers hx, List.length_map]
  exact (h.each x (List.mem_of_getElem? hx)).2.1
theorem burnt_none : burnt (-1) = -1 := rfl
theorem burnt_some (n k : Nat) (h : k < n) : burnt ((n : Int) - k) = (n : Int) - ((k + 1 : Nat) : Int) := by
  unfold burnt
  rw [if_pos (by omega)]
  omega
end Go.Proofs.YtjacenhblclkaaaDoor
