/- Lemmas and contracts that the law stands on, joined: PoObj. -/
import Derived.Test.YtjacenhblclkaaaDoorJoin38
import Derived.Test.YtjacenhblclkaaaDoorJoin40
import Derived.Test.YtjacenhblclkaaaDoorJoin45
/- A pool in memory: its own cells, its table, its frames, its log and disk; what stays of it while other memory turns. -/
namespace Go.Proofs.YtjacenhblclkaaaDoor
open Go.RowKit
set_option linter.unusedVariables false

/-- A pool's state: its disk's versions, power, the fuse; its log's boot, records, how many are flushed; what is dirty; what is here. -/
structure PSt where
  vss : List (List (List Int))
  off : Bool
  fuse : Int
  ep : Int
  rs : List R
  D : Nat
  es : List (Int × Int)
  ps : List Pg
/-- A pool's own cells. -/
def poolCells (mb : Option Nat) (d l : Nat) (most : Int) (v : Value) : Array Value := #[.map mb, .pointer (some ⟨d, 0, none⟩), .pointer (some ⟨l, 0, none⟩), .int .i64 most, v]
/-- Where a frame's entries lie. -/
def Fr.own (f : Fr) : Option Nat := (Value.slice f.ao f.pg.es.length f.c).ownBlock
/-- What K names, and a pool's own blocks. -/
def withPool (K : Nat → Prop) (P : Nat) (mb : Option Nat) (v : Value) (fs : List Fr) (k : Nat) : Prop := K k ∨ k = P ∨ mb = some k ∨ v.ownBlock = some k ∨ ∃ f ∈ fs, f.own = some k
/-- A pool at block P, its log at block l, its disk at block d. -/
structure PoolOf (w : World) (K : Nat → Prop) (a : Nat → Addr) (P l d F N : Nat) (base most : Int) (mb : Option Nat) (fo : Option Addr) (fc : Nat) (fs : List Fr) (T : Nat) (S : PSt) : Prop where
  head : w.heap[P]? = some (.cells (poolCells mb d l most (.slice fo fs.length fc)) 86 (0, 0))
  tab : TabAt w P 0 mb T S.es
  own : OwnF w 0 fo fc fs
  pages : fs.map (·.pg) = S.ps
  ents : ∀ f ∈ fs, OwnE w 0 f.ao f.c f.pg.es
  log : Log w (withPool K P mb (.slice fo fs.length fc) fs) a l d S.vss S.off S.fuse F N base S.ep S.rs S.D
  nP : ¬ K P
  nm : ∀ b, mb = some b → ¬ K b
  nf : ∀ g, (Value.slice fo fs.length fc).ownBlock = some g → ¬ K g
  errs : ErrsK w K a
  page : K (gno 6) ∧ w.cell? ⟨gno 6, 0, none⟩ = some (errV (a 6))
def PoolAt (w : World) (K : Nat → Prop) (a : Nat → Addr) (P l d F N : Nat) (base most : Int) (T : Nat) (S : PSt) : Prop := ∃ mb fo fc fs, PoolOf w K a P l d F N base most mb fo fc fs T S
section
variable {w w' : World} {K : Nat → Prop} {a : Nat → Addr} {P l d F N : Nat} {base most : Int} {mb mb' : Option Nat} {fo fo' : Option Addr} {fc fc' : Nat} {fs fs' : List Fr} {T T' : Nat} {S : PSt}
theorem PoolOf.lt (h : PoolOf w K a P l d F N base most mb fo fc fs T S) : P < w.heap.size := lt_of_block h.head
theorem PoolOf.cell (h : PoolOf w K a P l d F N base most mb fo fc fs T S) (o : Nat) : w.cell? ⟨P, o, none⟩ = (poolCells mb d l most (.slice fo fs.length fc))[o]? := cell_row h.head o
theorem PoolOf.c1 (h : PoolOf w K a P l d F N base most mb fo fc fs T S) : w.cell? ⟨P, 1, none⟩ = some (.pointer (some ⟨d, 0, none⟩)) := h.cell 1
theorem PoolOf.c2 (h : PoolOf w K a P l d F N base most mb fo fc fs T S) : w.cell? ⟨P, 2, none⟩ = some (.pointer (some ⟨l, 0, none⟩)) := h.cell 2
theorem PoolOf.c3 (h : PoolOf w K a P l d F N base most mb fo fc fs T S) : w.cell? ⟨P, 3, none⟩ = some (.int .i64 most) := h.cell 3
theorem PoolOf.c4 (h : PoolOf w K a P l d F N base most mb fo fc fs T S) {n : Nat} (hn : fs.length = n) : w.cell? ⟨P, 4, none⟩ = some (.slice fo n fc) := by rw [← hn]; exact h.cell 4
theorem PoolOf.fz (h : PoolOf w K a P l d F N base most mb fo fc fs T S) (o : Nat) : w.frozen? ⟨P, o, none⟩ = false := frozen_cells h.head o
theorem PoolOf.low (h : PoolOf w K a P l d F N base most mb fo fc fs T S) : ∀ k, K k → k < w.heap.size := fun k hk => h.log.low k (.inl hk)
theorem PoolOf.pg (h : PoolOf w K a P l d F N base most mb fo fc fs T S) : PgErrs w (a 1) (a 2) (a 6) := ⟨(h.errs 1 (by decide)).2, (h.errs 2 (by decide)).2, h.page.2⟩
theorem PoolOf.len (h : PoolOf w K a P l d F N base most mb fo fc fs T S) : fs.length = S.ps.length := by rw [← h.pages, List.length_map]
theorem OwnE.of_own {w w' : World} {B : Nat} {ao : Option Addr} {cap : Nat} {es : List (Int × Int)} (h : OwnE w B ao cap es) (hb : ∀ g, (Value.slice ao es.length cap).ownBlock = some g → w'.heap[g]? = w.heap[g]?) : OwnE w' B ao cap es := ⟨owns_of_block h.1 fun g hg _ => hb g hg, h.2⟩
/-- A frame's entries lie in none of a pool's other blocks. -/
theorem PoolOf.apart (h : PoolOf w K a P l d F N base most mb fo fc fs T S) {f : Fr} (hf : f ∈ fs) {g : Nat} (hg : f.own = some g) : g ≠ P ∧ mb ≠ some g ∧ (Value.slice fo fs.length fc).ownBlock ≠ some g := by
  obtain ⟨cur, hc⟩ := owns_type (h.ents f hf).1 hg
  refine ⟨?_, ?_, ?_⟩
  · rintro rfl
    rw [h.head] at hc
    simp at hc
  · intro e
    obtain ⟨es, clock, h1, _⟩ := h.tab.own g e
    rw [h1] at hc
    simp at hc
  · intro e
    obtain ⟨cur2, hc2⟩ := owns_type h.own.1 e
    rw [hc2] at hc
    simp at hc
theorem PoolOf.named (h : PoolOf w K a P l d F N base most mb fo fc fs T S) {k : Nat} (hk : K k) : k ≠ P ∧ mb ≠ some k ∧ (Value.slice fo fs.length fc).ownBlock ≠ some k :=
  ⟨fun e => h.nP (e ▸ hk), fun e => h.nm k e hk, fun e => h.nf k e hk⟩
/-- A call of the log's or the disk's. -/
theorem PoolOf.turn {vss' : List (List (List Int))} {off' : Bool} {fuse' ep' : Int} {rs' : List R} {D' : Nat} (h : PoolOf w K a P l d F N base most mb fo fc fs T S) (hl : Log w' (withPool K P mb (.slice fo fs.length fc) fs) a l d vss' off' fuse' F N base ep' rs' D') (hk : Kept (withPool K P mb (.slice fo fs.length fc) fs) w w') :
    PoolOf w' K a P l d F N base most mb fo fc fs T ⟨vss', off', fuse', ep', rs', D', S.es, S.ps⟩ := by
  have hP := hk.block P (.inr (.inl rfl))
  refine ⟨hP.trans h.head, h.tab.of_blocks hP fun b e => hk.block b (.inr (.inr (.inl e))), h.own.of_block fun g hg => hk.block g (.inr (.inr (.inr (.inl hg)))), h.pages, fun f hf => (h.ents f hf).of_own fun g hg => hk.block g (.inr (.inr (.inr (.inr ⟨f, hf, hg⟩)))), hl, h.nP, h.nm, h.nf, h.errs.kept (hk.mono fun k hk => .inl hk), ⟨h.page.1, (hk.cell (.inl h.page.1)).trans h.page.2⟩⟩
theorem PoolOf.below (h : PoolOf w K a P l d F N base most mb fo fc fs T S) (hb : Below w.heap.size w w') : PoolOf w' K a P l d F N base most mb fo fc fs T S :=
  h.turn (h.log.below hb) (h.log.kept hb)
theorem PoolOf.kept (h : PoolOf w K a P l d F N base most mb fo fc fs T S) (hb : Below w.heap.size w w') : Kept K w w' := Kept.of_below hb h.low
/-- A pool's own blocks turn; new ones come. -/
theorem PoolOf.stay (h : PoolOf w K a P l d F N base most mb fo fc fs T S) (hout : w'.os = w.os ∧ w'.tape = w.tape ∧ w'.output = w.output) (hs : w.heap.size ≤ w'.heap.size)
    (hold : ∀ k, k < w.heap.size → k ≠ P → mb ≠ some k → (Value.slice fo fs.length fc).ownBlock ≠ some k → w'.heap[k]? = w.heap[k]?) {es' : List (Int × Int)} {ps' : List Pg}
    (head : w'.heap[P]? = some (.cells (poolCells mb' d l most (.slice fo' fs'.length fc')) 86 (0, 0))) (tab : TabAt w' P 0 mb' T' es') (own : OwnF w' 0 fo' fc' fs') (pages : fs'.map (·.pg) = ps') (ents : ∀ f ∈ fs', OwnE w' 0 f.ao f.c f.pg.es)
    (hm : mb' = mb ∨ ∃ b, mb' = some b ∧ w.heap.size ≤ b) (hf : ∀ g, (Value.slice fo' fs'.length fc').ownBlock = some g → (Value.slice fo fs.length fc).ownBlock = some g ∨ w.heap.size ≤ g) (hfr : ∀ f ∈ fs', ∀ g, f.own = some g → (∃ f0 ∈ fs, f0.own = some g) ∨ w.heap.size ≤ g) :
    PoolOf w' K a P l d F N base most mb' fo' fc' fs' T' ⟨S.vss, S.off, S.fuse, S.ep, S.rs, S.D, es', ps'⟩ ∧ Kept K w w' := by
  have hk : ∀ k, K k → w'.heap[k]? = w.heap[k]? := fun k hk => by
    obtain ⟨h1, h2, h3⟩ := h.named hk
    exact hold k (h.low k hk) h1 h2 h3
  have hkept : Kept K w w' := ⟨hout.1, hout.2.1, hout.2.2, hs, hk⟩
  have hP := lt_of_block head
  refine ⟨⟨head, tab, own, pages, ents, h.log.stays hs (fun k hlt hn => hold k hlt (fun e => hn (.inr (.inl e))) (fun e => hn (.inr (.inr (.inl e)))) (fun e => hn (.inr (.inr (.inr (.inl e)))))) ?_ ((h.errs.kept hkept).wide fun k hk => .inl hk), h.nP, ?_, ?_, h.errs.kept hkept, ⟨h.page.1, (hkept.cell h.page.1).trans h.page.2⟩⟩, hkept⟩
  · rintro k (h1 | h1 | h1 | h1 | ⟨f, h1, h2⟩)
    · exact ⟨Nat.lt_of_lt_of_le (h.low k h1) hs, fun _ => .inl h1⟩
    · exact ⟨by omega, fun _ => .inr (.inl h1)⟩
    · refine ⟨(tab.own k h1).lt, fun hlt => ?_⟩
      rcases hm with e | ⟨b, e, hb⟩
      · exact .inr (.inr (.inl (e ▸ h1)))
      · rw [h1] at e
        simp only [Option.some.injEq] at e
        omega
    · refine ⟨(own.1.lt k h1).2, fun hlt => ?_⟩
      rcases hf k h1 with e | e
      · exact .inr (.inr (.inr (.inl e)))
      · omega
    · refine ⟨((ents f h1).1.lt k h2).2, fun hlt => ?_⟩
      rcases hfr f h1 k h2 with ⟨f0, h3, h4⟩ | e
      · exact .inr (.inr (.inr (.inr ⟨f0, h3, h4⟩)))
      · omega
  · intro b e hb
    rcases hm with e2 | ⟨b2, e2, hb2⟩
    · exact h.nm b (e2 ▸ e) hb
    · rw [e] at e2
      simp only [Option.some.injEq] at e2
      have := h.low b hb
      omega
  · intro g hg hb
    rcases hf g hg with e | e
    · exact h.nf g e hb
    · have := h.low g hb
      omega
end
/-- The place of a page that is here, or -1. -/
def AtP (ps : List Pg) (n : Int) (k : Nat) (p : Pg) : Prop := ps[k]? = some p ∧ p.n = n ∧ ∀ q ∈ ps.take k, q.n ≠ n
theorem idx_at {fs : List Fr} {ps : List Pg} (hp : fs.map (·.pg) = ps) {n : Int} {k : Nat} {p : Pg} (h : AtP ps n k p) : ∃ f, fs[k]? = some f ∧ f.pg = p ∧ IdxF (fun f => decide (f.pg.n = n)) fs k := by
  subst hp
  obtain ⟨h1, h2, h3⟩ := h
  rw [List.getElem?_map, Option.map_eq_some_iff] at h1
  obtain ⟨f, hf, rfl⟩ := h1
  refine ⟨f, hf, rfl, .inr ⟨k, f, rfl, hf, by simpa using h2, fun x hx => ?_⟩⟩
  have := h3 x.pg (by rw [← List.map_take]; exact List.mem_map_of_mem hx)
  simpa using this
theorem idx_none {fs : List Fr} {ps : List Pg} (hp : fs.map (·.pg) = ps) {n : Int} (h : ∀ p ∈ ps, p.n ≠ n) : IdxF (fun f => decide (f.pg.n = n)) fs (-1) := by
  subst hp
  refine .inl ⟨rfl, fun f hf => ?_⟩
  have := h f.pg (List.mem_map_of_mem hf)
  simpa using this
theorem at_or_not (ps : List Pg) (n : Int) : (∀ p ∈ ps, p.n ≠ n) ∨ ∃ k p, AtP ps n k p := by
  induction ps with
  | nil => exact .inl fun p hp => by simp at hp
  | cons q s ih =>
    by_cases hq : q.n = n
    · exact .inr ⟨0, q, rfl, hq, fun x hx => by simp at hx⟩
    · rcases ih with h | ⟨k, p, h1, h2, h3⟩
      · refine .inl fun p hp => ?_
        rcases List.mem_cons.1 hp with rfl | h4
        · exact hq
        · exact h p h4
      · refine .inr ⟨k + 1, p, by simpa using h1, h2, fun x hx => ?_⟩
        rw [List.take_succ_cons] at hx
        rcases List.mem_cons.1 hx with rfl | h4
        · exact hq
        · exact h3 x h4
end Go.Proofs.YtjacenhblclkaaaDoor
