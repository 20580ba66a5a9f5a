/- Lemmas and contracts that the law stands on, joined: WalSt. -/
import Derived.Test.YtjacenhblclkaaaGreatDoorJoin36
import Derived.Test.YtjacenhblclkaaaGreatDoorJoin45
/- A log, a list of records beside it and a source of numbers, all at once: what each call leaves of them. -/
namespace Go.Proofs.YtjacenhblclkaaaGreatDoor
open Go.RowKit
set_option linter.unusedVariables false

/-- Some first records of a list of our own: a list of our own, in the same memory. -/
theorem OwnR.take {w : World} {B : Nat} {ao : Option Addr} {c : Nat} {ts : List R} (h : OwnR w B ao c ts) (m : Nat) (hm : m ≤ ts.length) : OwnR w B ao c (ts.take m) := by
  have hl : (ts.take m).length = m := by rw [List.length_take]; omega
  have hc : cellsOfRs (ts.take m) = (cellsOfRs ts).take (m * 10) := by
    have h1 := cellsOfRs_append (ts.take m) (ts.drop m)
    rw [List.take_append_drop] at h1
    have h2 : (cellsOfRs (ts.take m)).length = m * 10 := by rw [length_cellsOfRs, hl]
    rw [h1]
    exact (List.take_left' h2).symm
  refine ⟨⟨by rw [length_cellsOfRs], ?_⟩, by have := h.2; omega⟩
  rcases h.1.2 with ⟨h1, h2⟩ | ⟨g, cap, cur, h1, h2, h3, h4, h5, h6, h7⟩
  · have hm0 : m = 0 := by omega
    subst hm0
    simp only [Value.slice.injEq] at h1
    exact .inl ⟨by rw [hl, h1.1, h1.2.2], hl⟩
  · simp only [Value.slice.injEq] at h1
    refine .inr ⟨g, cap, cur, by rw [hl, h1.1, h1.2.2], h2, h3, by omega, h5, h6, ?_⟩
    rw [hl, hc, ← h7, List.take_take, Nat.min_eq_left (by omega)]
theorem ownBlock_len {ao : Option Addr} {n m c : Nat} : (Value.slice ao n c).ownBlock = (Value.slice ao m c).ownBlock := by cases ao <;> rfl
theorem Side.take {w0 w : World} {K : Nat → Prop} {ao : Option Addr} {c : Nat} {ts : List R} (h : Side w0 w K ao c ts) (m : Nat) (hm : m ≤ ts.length) : Side w0 w K ao c (ts.take m) :=
  ⟨h.own.take m hm, fun g hg => h.at_ g (by rw [← hg]; exact ownBlock_len), h.old, h.bel, h.err⟩
structure Trio (w0 w : World) (K : Nat → Prop) (a : Nat → Addr) (l d s : Nat) (lo : Option Addr) (len cap : Nat) (zs : List Int) (ns F N : Nat) (base ep : Int) (rs ts : List R) (D : Nat) (ao : Option Addr) (c : Nat) (vss : List (List (List Int))) (off : Bool) (f : Int) : Prop where
  log : Log w K a l d vss off f F N base ep rs D
  kp : Kp F N ep rs D vss off
  side : Side w0 w K ao c ts
  seq : SeqAt w s lo len cap zs ns
  sK : K s
  row : IsRow .i64 w0 lo len cap zs
  ws : w0.heap.size ≤ s
section
variable {w0 w w' : World} {K L : Nat → Prop} {a : Nat → Addr} {l d s : Nat} {lo : Option Addr} {len cap : Nat} {zs : List Int} {ns F N : Nat} {base ep : Int} {rs ts : List R} {D : Nat} {ao : Option Addr} {c : Nat} {vss : List (List (List Int))} {off : Bool} {f : Int}
theorem Trio.below (h : Trio w0 w K a l d s lo len cap zs ns F N base ep rs ts D ao c vss off f) (hb : Below w.heap.size w w') : Trio w0 w' K a l d s lo len cap zs ns F N base ep rs ts D ao c vss off f :=
  ⟨h.log.below hb, h.kp, h.side.below hb, h.seq.step hb, h.sK, h.row, h.ws⟩
theorem Trio.drewN (h : Trio w0 w K a l d s lo len cap zs ns F N base ep rs ts D ao c vss off f) (n : Nat) : Trio w0 (w.drewN n) K a l d s lo len cap zs ns F N base ep rs ts D ao c vss off f := h.below (below_drewN (Below.refl _ _) n)
theorem Trio.wide (h : Trio w0 w K a l d s lo len cap zs ns F N base ep rs ts D ao c vss off f) (hb : Below w.heap.size w w') : ∃ L, (∀ k, K k → L k) ∧ (∀ k, w.heap.size ≤ k → k < w'.heap.size → L k) ∧ Trio w0 w' L a l d s lo len cap zs ns F N base ep rs ts D ao c vss off f := by
  obtain ⟨L, h1, h2, h3, h4⟩ := both_wide h.log h.side hb
  exact ⟨L, h1, h2, h3, h.kp, h4, h.seq.step hb, h1 _ h.sK, h.row, h.ws⟩
theorem Trio.gne (h : Trio w0 w K a l d s lo len cap zs ns F N base ep rs ts D ao c vss off f) : ∀ i ∈ seven, gno i ≠ s := fun i hi => by have := h.side.err i hi; have := h.ws; omega
theorem Trio.sne (h : Trio w0 w K a l d s lo len cap zs ns F N base ep rs ts D ao c vss off f) : some s ≠ (Value.slice ao ts.length c).ownBlock := by
  intro e
  obtain ⟨cur, hc⟩ := owns_type h.side.own.1 e.symm
  rw [h.seq.lies] at hc
  simp at hc
/-- A number is drawn. -/
theorem Trio.next (h : Trio w0 w K a l d s lo len cap zs ns F N base ep rs ts D ao c vss off f) (hb : But s w w') {ns' : Nat} (hs : SeqAt w' s lo len cap zs ns') : Trio w0 w' K a l d s lo len cap zs ns' F N base ep rs ts D ao c vss off f := by
  refine ⟨h.log.but h.sK h.gne hb, h.kp, ⟨h.side.own.of_block fun g hg hlt => hb.block g hlt fun e => h.sne (by rw [← e]; exact hg.symm), h.side.at_, h.side.old, h.side.bel.trans ((hb.below (Nat.le_of_lt (lt_of_block h.seq.lies))).mono h.ws), h.side.err⟩, hs, h.sK, h.row, h.ws⟩
/-- The log, or its disk, has turned. -/
theorem Trio.turn (h : Trio w0 w K a l d s lo len cap zs ns F N base ep rs ts D ao c vss off f) (hk : Kept K w w') {l' : Nat} {ep' : Int} {rs' : List R} {D' : Nat} {vss' : List (List (List Int))} {off' : Bool} {f' : Int} (hl : Log w' K a l' d vss' off' f' F N base ep' rs' D') (hp : Kp F N ep' rs' D' vss' off') : Trio w0 w' K a l' d s lo len cap zs ns F N base ep' rs' ts D' ao c vss' off' f' :=
  ⟨hl, hp, h.side.kept hk, h.seq.kept h.row hk h.sK (h.side.kept hk).bel h.ws, h.sK, h.row, h.ws⟩
/-- The list beside the log grows by one. -/
theorem Trio.append (h : Trio w0 w K a l d s lo len cap zs ns F N base ep rs ts D ao c vss off f) (n : Nat) (hn : ts.length = n) (hs : n ≤ 900) (r : R) (ty : TypeId) :
    ∃ ao' c' w1 L, (Builtin.append_ #[103, 103] ty #[.slice ao n c, .slice (some ⟨w.heap.size, 0, none⟩) 1 1]).run Tryz.prog (w.alloc (recCells r)) = .ok (.slice ao' (n + 1) c') w1 ∧ Trio w0 w1 L a l d s lo len cap zs ns F N base ep rs (ts ++ [r]) D ao' c' vss off f := by
  obtain ⟨ao', c', w1, L, h1, h2, h3, h4, h5, h6⟩ := side_append h.log h.side n hn hs r ty
  refine ⟨ao', c', w1, L, h1, h3, h.kp, h4, seq_of h.row h.seq.small.2 h4.bel h.ws h.seq.small.1 ?_, h2 _ h.sK, h.row, h.ws⟩
  rw [h6 s (lt_of_block h.seq.lies) h.sne]
  exact h.seq.lies
theorem Trio.cut (h : Trio w0 w K a l d s lo len cap zs ns F N base ep rs ts D ao c vss off f) (m : Nat) (hm : m ≤ ts.length) : Trio w0 w K a l d s lo len cap zs ns F N base ep rs (ts.take m) D ao c vss off f := ⟨h.log, h.kp, h.side.take m hm, h.seq, h.sK, h.row, h.ws⟩
/-- The fuse is set. -/
theorem wfuse_any (h : Log w K a l d vss off f F N base ep rs D) (n : Int) (hn : n ≤ 9223372036854775807) : Calls Tryz.prog 18 #[.pointer (some ⟨d, 0, none⟩), .int .i64 n] w fun e w' => e = .returned (.tuple #[]) ∧ Log w' K a l d vss off (max n (-1)) F N base ep rs D ∧ Kept K w w' := by
  obtain ⟨ao, c, h⟩ := h
  refine (fuse_any d n h.disk hn).mono ?_
  rintro e w' ⟨rfl, h1, h2⟩
  exact ⟨rfl, ⟨ao, c, h.turn h1 h2 rfl⟩, h2.mono fun k hk => .inl hk⟩
end
end Go.Proofs.YtjacenhblclkaaaGreatDoor
