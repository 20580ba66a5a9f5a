/- Lemmas and contracts that the law stands on, joined: WalRead, WalOpen, WalFirst, WalSeq, WalSide, WalKp. -/
import Derived.Test.YtjacenhblclkaaaDoorJoin34
import Derived.Test.YtjacenhblclkaaaDoorJoin5
import Derived.Test.YtjacenhblclkaaaDoorJoin24
/- What a log's readBlock answers. -/
namespace Go.Proofs.YtjacenhblclkaaaDoor
open Go.RowKit
set_option linter.unusedVariables false

/-- A sector's last version is of bytes. -/
theorem Disk.bytes {w : World} {K : Nat → Prop} {a : Nat → Addr} {d : Nat} {vss : List (List (List Int))} {off : Bool} {fuse : Int} (h : Disk w K a d vss off fuse) {k : Nat} (hk : k < vss.length) : Bytes (lastV (vss.getD k [])) ∧ (lastV (vss.getD k [])).length = 256 := by
  obtain ⟨s, ss, h, rfl⟩ := h
  rw [length_vers] at hk
  obtain ⟨x, n, p, hx, hn, hp⟩ := last_part h hk
  rw [vers_at hx, lastV_of hp hn]
  obtain ⟨h1, h2, _⟩ := (h.each x (List.mem_of_getElem? hx)).2.2.2.2 p (List.mem_of_getElem? hp)
  exact ⟨h1.row.2.1, h2⟩
/-- A place and the log's error around it: what lies behind the error that Open answers. -/
structure AtLog (w : World) (a : Nat → Addr) (b : Nat) (k : Int) : Prop where
  pos : w.cell? ⟨b, 0, none⟩ = some (.int .i64 k)
  err : w.cell? ⟨b, 1, none⟩ = some (errV (a 7))
  lt : b < w.heap.size
theorem AtLog.below {w w' : World} {a : Nat → Addr} {b : Nat} {k : Int} (h : AtLog w a b k) (hb : Below w.heap.size w w') : AtLog w' a b k := ⟨(hb.cell (p := ⟨b, 0, none⟩) h.lt).trans h.pos, (hb.cell (p := ⟨b, 1, none⟩) h.lt).trans h.err, Nat.lt_of_lt_of_le h.lt hb.size⟩
theorem at_new (w : World) (a : Nat → Addr) (k : Int) : AtLog (w.alloc (.cells #[.int .i64 k, errV (a 7)] 118)) a w.heap.size k := by
  have e := heap_alloc_new w (.cells #[.int .i64 k, errV (a 7)] 118)
  exact ⟨(cell_row e 0).trans rfl, (cell_row e 1).trans rfl, lt_of_block e⟩
section
variable {w w' : World} {K L : Nat → Prop} {a : Nat → Addr} {l d : Nat} {vss : List (List (List Int))} {off : Bool} {fuse : Int} {F N : Nat} {base ep : Int} {ao : Option Addr} {c : Nat} {rs : List R} {D : Nat}
/-- The block can't be. -/
def badB (xs : List Int) (ep : Int) : Bool := decide (ansC xs ≠ 0) || (decide (0 < (ansR xs).length) && decide (ep ≤ ansN xs))
end
end Go.Proofs.YtjacenhblclkaaaDoor

/- What wal.Open answers of whatever disk. -/
namespace Go.Proofs.YtjacenhblclkaaaDoor
open Go.RowKit
set_option linter.unusedVariables false

theorem wpList_append_run {P : Program} {w : World} {ops : Array Oper} {rest : List Oper} {o : Oper} {a : Act} {Q : Exit → Act → World → Prop} (hgd : o.guard = none) (s x : Operand) (t : TypeId) (ho : o.op = .call { callee := .builtin .append, args := #[s, x], argTypes := #[t, t] }) (vs vx : Value) (hs : a.eval s = vs) (hx : a.eval x = vx)
    {v' : Value} {w' : World} (hr : (Builtin.append_ #[t, t] o.type #[vs, vx]).run P w = .ok v' w') (h : wpList P ops Q rest (a.put o.dst v') w') : wpList P ops Q (o :: rest) a w :=
  wpList_plain hgd fun _ hK => by
    unfold Oper.wp execOp
    simp only [ho, resolve, invoke, builtin, Sem.run_bind, Sem.run_pure, Result.andThen_ok, List.map_toArray, List.map_cons, List.map_nil, hs, hx, hr]
    exact hK _ _ h
/-- What is read of block k. -/
def rdL (vss : List (List (List Int))) (F k : Nat) : List Int := lastV (verL vss F k)
theorem badB_iff (xs : List Int) (ep : Int) : badB xs ep = true ↔ ansC xs ≠ 0 ∨ (0 < (ansR xs).length ∧ ep ≤ ansN xs) := by simp [badB]
theorem badB_not (xs : List Int) (ep : Int) : badB xs ep = false ↔ ansC xs = 0 ∧ ((ansR xs).length = 0 ∨ ansN xs < ep) := by
  rw [← Bool.not_eq_true, badB_iff]
  constructor
  · intro h
    refine ⟨?_, ?_⟩
    · by_cases h1 : ansC xs = 0
      · exact h1
      · exact absurd (.inl h1) h
    · by_cases h1 : (ansR xs).length = 0
      · exact .inl h1
      · refine .inr ?_
        by_cases h2 : ansN xs < ep
        · exact h2
        · exact absurd (.inr ⟨by omega, by omega⟩) h
  · rintro ⟨h1, h2⟩ (h3 | ⟨h3, h4⟩)
    · exact h3 h1
    · omega
section
variable {rd : Nat → List Int} {ep least : Int} {n k : Nat} {acc : List R}
theorem openUp_bad (h : badB (rd k) ep = true) : openUp rd ep (n + 1) k least acc = ([], (k : Int)) := by
  rw [openUp]
  rcases (badB_iff _ _).1 h with h1 | ⟨h1, h2⟩
  · rw [if_pos h1]
  · by_cases h3 : ansC (rd k) ≠ 0
    · rw [if_pos h3]
    · rw [if_neg h3, if_neg (by omega), if_pos h2]
theorem openUp_end (h : badB (rd k) ep = false) (h2 : (ansR (rd k)).length = 0 ∨ ansN (rd k) < least) : openUp rd ep (n + 1) k least acc = (acc, -1) := by
  obtain ⟨h3, h4⟩ := (badB_not _ _).1 h
  rw [openUp, if_neg (by simpa using h3)]
  by_cases h5 : (ansR (rd k)).length = 0
  · rw [if_pos h5]
  · rw [if_neg h5, if_neg (by omega), if_pos (by omega)]
theorem openUp_part (h : badB (rd k) ep = false) (h2 : ¬ (ansR (rd k)).length = 0) (h5 : ¬ ansN (rd k) < least) (h6 : (ansR (rd k)).length < 6) : openUp rd ep (n + 1) k least acc = (acc ++ ansR (rd k), -1) := by
  obtain ⟨h3, h4⟩ := (badB_not _ _).1 h
  rw [openUp, if_neg (by simpa using h3), if_neg h2, if_neg (by omega), if_neg h5, if_pos h6]
theorem openUp_full (h : badB (rd k) ep = false) (h2 : ¬ (ansR (rd k)).length = 0) (h5 : ¬ ansN (rd k) < least) (h6 : ¬ (ansR (rd k)).length < 6) : openUp rd ep (n + 1) k least acc = openUp rd ep n (k + 1) (ansN (rd k)) (acc ++ ansR (rd k)) := by
  obtain ⟨h3, h4⟩ := (badB_not _ _).1 h
  rw [openUp, if_neg (by simpa using h3), if_neg h2, if_neg (by omega), if_neg h5, if_neg h6]
end
section
variable {w w' : World} {K L : Nat → Prop} {a : Nat → Addr} {l d : Nat} {vss : List (List (List Int))} {off : Bool} {fuse : Int} {F N : Nat} {base ep : Int} {ao : Option Addr} {c : Nat} {rs : List R} {D : Nat}
/-- Many records are appended: what the builtin does, and the log behind it. -/
theorem append_many (h : LogOf w K a l d vss off fuse F N base ep ao c rs D) (n m : Nat) (hn : rs.length = n) (ts : List R) (hm : ts.length = m) {mo : Option Addr} {mc : Nat} (hrow : RecRow w mo ts) (h0 : 0 < m) (hg : ∀ r ∈ ts, goodB r = true ∧ r.fits) (hroom : n + m ≤ 6 * N) (hb : base + (n : Int) + m ≤ 1073741824) (ty : TypeId) :
    ∃ ao' c' w1, (Builtin.append_ #[78, 78] ty #[.slice ao n c, .slice mo m mc]).run Tryd.prog w = .ok (.slice ao' (n + m) c') w1 ∧ w1.cell? ⟨l, 5, none⟩ = some (.slice ao n c) ∧ w1.frozen? ⟨l, 5, none⟩ = false ∧
      LogOf (w1.setCell ⟨l, 5, none⟩ (.slice ao' (n + m) c')) K a l d vss off fuse F N base ep ao' c' (rs ++ ts) D ∧ Kept K w (w1.setCell ⟨l, 5, none⟩ (.slice ao' (n + m) c')) := by
  subst hn; subst hm
  have hsm := h.small
  obtain ⟨b, o, rfl, hc⟩ := hrow.2 h0
  obtain ⟨ao', c', w1, hr, ho, hgr, hbw, hat⟩ := run_appendR (yc := mc) h.own rfl rfl (by omega) (Nat.zero_le _) hc ty
  have hln : (rs ++ ts).length = rs.length + ts.length := List.length_append
  have hg2 := h.grown (ts := ts) ho hgr (by rw [hln]; exact hat) (by rw [hln]; push_cast; omega) (by rw [hln]; exact hroom) hg
  rw [hln] at hg2
  have hl1 := lt_of_block h.head
  have e : w1.heap[l]? = _ := (hgr.block l hl1 (fun e => h.ne e.symm rfl)).trans h.head
  exact ⟨ao', c', w1, hr, (cell_row e 5).trans rfl, frozen_row e 5, hg2.1, hg2.2⟩
/-- What Open answers. -/
def openPost (w : World) (K : Nat → Prop) (a : Nat → Addr) (d : Nat) (vss : List (List (List Int))) (fuse : Int) (F N : Nat) (base ep : Int) (G : List R × Int) (v : Value) (w' : World) : Prop :=
  (G.2 = -1 ∧ ∃ l, v = .tuple #[.pointer (some ⟨l, 0, none⟩), .nilIface] ∧ Log w' K a l d vss false fuse F N base ep G.1 G.1.length) ∨ (0 ≤ G.2 ∧ ∃ b, v = .tuple #[.pointer none, atV ⟨b, 0, none⟩] ∧ AtLog w' a b G.2 ∧ Disk w' K a d vss false fuse)
end
end Go.Proofs.YtjacenhblclkaaaDoor

/- The chapter's examples on logs, as the statements ask them first: they hold, and nothing that was there is written. A disk and a log on it, made. -/
namespace Go.Proofs.YtjacenhblclkaaaDoor
open Go.RowKit
set_option linter.unusedVariables false

/-- What is ahead of block B. -/
def ahead (B k : Nat) : Prop := k < B
theorem errs_ahead {w : World} {ks : List Nat} {a : Nat → Addr} (h : ErrsOf w ks a) (hs : ∀ i ∈ seven, i ∈ ks) : ErrsK w (ahead w.heap.size) a := h.errsK hs fun k hk => hk
theorem errs_three {w : World} {ks : List Nat} {a : Nat → Addr} (h : ErrsOf w ks a) (hs : ∀ i ∈ seven, i ∈ ks) : Errs w (fun b => b < w.heap.size) a := (errs_ahead h hs).three
theorem seven18 : ∀ i ∈ seven, i ∈ all18 := by decide
theorem seven7 : ∀ i ∈ seven, i ∈ [0, 1, 2, 3, 4, 7, 8] := by decide
section
variable {w w' : World} {K L : Nat → Prop} {a : Nat → Addr} {l d : Nat} {vss : List (List (List Int))} {off : Bool} {fuse : Int} {F N : Nat} {base ep : Int} {rs : List R} {D : Nat}
theorem Log.drewN (h : Log w K a l d vss off fuse F N base ep rs D) (n : Nat) : Log (w.drewN n) K a l d vss off fuse F N base ep rs D := by obtain ⟨ao, c, h⟩ := h; exact ⟨ao, c, h.drewN n⟩
theorem Log.below (h : Log w K a l d vss off fuse F N base ep rs D) (hb : Below w.heap.size w w') : Log w' K a l d vss off fuse F N base ep rs D := by obtain ⟨ao, c, h⟩ := h; exact ⟨ao, c, h.below hb⟩
theorem Log.low (h : Log w K a l d vss off fuse F N base ep rs D) : ∀ k, K k → k < w.heap.size := by obtain ⟨ao, c, h⟩ := h; exact h.low
theorem Log.widen (h : Log w K a l d vss off fuse F N base ep rs D) (hb : Below w.heap.size w w') : Log w' (wider K w.heap.size w'.heap.size) a l d vss off fuse F N base ep rs D := by obtain ⟨ao, c, h⟩ := h; exact ⟨ao, c, h.widen hb⟩
theorem Log.stays (h : Log w K a l d vss off fuse F N base ep rs D) (hs : w.heap.size ≤ w'.heap.size) (hold : ∀ k, k < w.heap.size → ¬ K k → w'.heap[k]? = w.heap[k]?) (hL : ∀ k, L k → k < w'.heap.size ∧ (k < w.heap.size → K k)) (he : ErrsK w' L a) : Log w' L a l d vss off fuse F N base ep rs D := by obtain ⟨ao, c, h⟩ := h; exact ⟨ao, c, h.stays hs hold hL he⟩
theorem Log.errs (h : Log w K a l d vss off fuse F N base ep rs D) : ErrsK w K a := by obtain ⟨ao, c, h⟩ := h; exact h.errs
theorem Log.kept (h : Log w K a l d vss off fuse F N base ep rs D) (hb : Below w.heap.size w w') : Kept K w w' := Kept.of_below hb h.low
/-- The log's disk, by itself. -/
theorem Log.disk (h : Log w K a l d vss off fuse F N base ep rs D) : Disk w K a d vss off fuse := by obtain ⟨ao, c, h⟩ := h; exact h.disk.narrow (fun k hk => .inl hk) h.errs
end
/-- A disk is made, and a log on it. -/
theorem log_made {w w1 : World} {ks : List Nat} {a : Nat → Addr} {d n F N : Nat} {base ep : Int} (he : ErrsOf w ks a) (hs : ∀ i ∈ seven, i ∈ ks) (hd : Disk w1 (fun b => b < w.heap.size) a d (List.replicate n [fillOf 0]) false (-1)) (hb : Below w.heap.size w w1) (h0 : 0 ≤ base ∧ base ≤ 1073741824) (hep : 1 ≤ ep ∧ ep ≤ 1073741824) (hF : F + N ≤ n) (hN : N ≤ 100) :
    Log (w1.alloc (.cells (logCells d F N base ep (.slice none 0 0) 0) 80)) (ahead w.heap.size) a w1.heap.size d (List.replicate n [fillOf 0]) false (-1) F N base ep [] 0 ∧ Below w.heap.size w (w1.alloc (.cells (logCells d F N base ep (.slice none 0 0) 0) 80)) :=
  ⟨⟨none, 0, log_new hd ((errs_ahead he hs).kept (Kept.of_below hb fun k hk => hk)) h0 hep (by rw [List.length_replicate]; exact hF) hN⟩, over hb (below_box _ _) hb.size⟩
end Go.Proofs.YtjacenhblclkaaaDoor

/- Logs beside a source of numbers and other memory: what stays of which. -/
namespace Go.Proofs.YtjacenhblclkaaaDoor
open Go.RowKit
set_option linter.unusedVariables false

theorem ErrsK.narrow {w : World} {K L : Nat → Prop} {a : Nat → Addr} (h : ErrsK w L a) (hK : ∀ i ∈ seven, K (gno i)) : ErrsK w K a := fun i hi => ⟨hK i hi, (h i hi).2⟩
theorem Cells10.kept {w w' : World} {K : Nat → Prop} {B : Nat} {r : R} (h : Cells10 w B r) (hk : Kept K w w') (hK : K B) : Cells10 w' B r := by
  obtain ⟨k0, k1, k2, k3, k4, k5, k6, k7, k8, k9, kl⟩ := h
  have e : ∀ j, w'.cell? ⟨B, j, none⟩ = w.cell? ⟨B, j, none⟩ := fun j => hk.cell (p := ⟨B, j, none⟩) hK
  exact ⟨(e 0).trans k0, (e 1).trans k1, (e 2).trans k2, (e 3).trans k3, (e 4).trans k4, (e 5).trans k5, (e 6).trans k6, (e 7).trans k7, (e 8).trans k8, (e 9).trans k9, Nat.lt_of_lt_of_le kl hk.size⟩
section
variable {w w' : World} {K L : Nat → Prop} {a : Nat → Addr} {l d : Nat} {vss : List (List (List Int))} {off : Bool} {fuse : Int} {F N : Nat} {base ep : Int} {rs : List R} {D : Nat}
theorem Log.narrow (h : Log w L a l d vss off fuse F N base ep rs D) (hK : ∀ k, K k → L k) (he : ∀ i ∈ seven, K (gno i)) : Log w K a l d vss off fuse F N base ep rs D :=
  h.stays (Nat.le_refl _) (fun _ _ _ => rfl) (fun k hk => ⟨h.low k (hK k hk), fun _ => hK k hk⟩) (h.errs.narrow he)
/-- The source of numbers turns, and new memory is made: the log stays. -/
theorem Log.but (h : Log w K a l d vss off fuse F N base ep rs D) {s : Nat} (hs : K s) (hne : ∀ i ∈ seven, gno i ≠ s) (hb : But s w w') : Log w' K a l d vss off fuse F N base ep rs D :=
  h.stays hb.size (fun k hk hn => hb.block k hk fun e => hn (e ▸ hs)) (fun k hk => ⟨Nat.lt_of_lt_of_le (h.low k hk) hb.size, fun _ => hk⟩) fun i hi => ⟨(h.errs i hi).1, by
    rw [← (h.errs i hi).2]
    exact World.cell?_of_block (w := w) (hb.block _ (h.low _ (h.errs i hi).1) (hne i hi))⟩
end
/-- What is ahead of B, and block s. -/
def aheadAnd (B s k : Nat) : Prop := k < B ∨ k = s
theorem gno_lt {w : World} {ks : List Nat} {a : Nat → Addr} (h : ErrsOf w ks a) (hs : ∀ i ∈ seven, i ∈ ks) : ∀ i ∈ seven, gno i < w.heap.size := fun i hi => World.block_lt_of_cell? w _ (h.cell i (hs i hi))
theorem gno_ne {w : World} {ks : List Nat} {a : Nat → Addr} (h : ErrsOf w ks a) (hs : ∀ i ∈ seven, i ∈ ks) {s : Nat} (hws : w.heap.size ≤ s) : ∀ i ∈ seven, gno i ≠ s := fun i hi => by have := gno_lt h hs i hi; omega
/-- A log that was made, and then a source of numbers. -/
theorem log_seq {w : World} {B : Nat} {a : Nat → Addr} {l d : Nat} {vss : List (List (List Int))} {off : Bool} {fuse : Int} {F N : Nat} {base ep : Int} {rs : List R} {D : Nat} (h : Log w (ahead B) a l d vss off fuse F N base ep rs D) (x : Obj) : Log (w.alloc x) (aheadAnd B w.heap.size) a l d vss off fuse F N base ep rs D := by
  have hb := (Below.refl w.heap.size w).alloc (Nat.le_refl _) x
  refine (h.widen hb).narrow (fun k hk => ?_) fun i hi => .inl (h.errs i hi).1
  rcases hk with h1 | h1
  · exact .inl h1
  · exact .inr ⟨by omega, by rw [h1]; simp⟩
end Go.Proofs.YtjacenhblclkaaaDoor

/- A list of records kept beside a log: each stays while the other turns. -/
namespace Go.Proofs.YtjacenhblclkaaaDoor
open Go.RowKit
set_option linter.unusedVariables false

theorem OwnR.of_block {w w' : World} {B : Nat} {ao : Option Addr} {cap : Nat} {rs : List R} (h : OwnR w B ao cap rs) (hb : ∀ g, (Value.slice ao rs.length cap).ownBlock = some g → g < w.heap.size → w'.heap[g]? = w.heap[g]?) : OwnR w' B ao cap rs := ⟨owns_of_block h.1 hb, h.2⟩
/-- A list of our own, whose block K names; K names all that was there at first. -/
structure Side (w0 w : World) (K : Nat → Prop) (ao : Option Addr) (c : Nat) (ts : List R) : Prop where
  own : OwnR w w0.heap.size ao c ts
  at_ : ∀ g, (Value.slice ao ts.length c).ownBlock = some g → K g
  old : ∀ k, k < w0.heap.size → K k
  bel : Below w0.heap.size w0 w
  err : ∀ i ∈ seven, gno i < w0.heap.size
section
variable {w0 w w' : World} {K L : Nat → Prop} {ao : Option Addr} {c : Nat} {ts : List R}
theorem Side.kept (h : Side w0 w K ao c ts) (hk : Kept K w w') : Side w0 w' K ao c ts :=
  ⟨h.own.of_block fun g hg _ => hk.block g (h.at_ g hg), h.at_, h.old, h.bel.trans (hk.below h.old), h.err⟩
theorem Side.below (h : Side w0 w K ao c ts) (hb : Below w.heap.size w w') : Side w0 w' K ao c ts :=
  ⟨h.own.below hb (Nat.le_refl _), h.at_, h.old, over h.bel hb h.bel.size, h.err⟩
theorem Side.wide (h : Side w0 w K ao c ts) (hL : ∀ k, K k → L k) : Side w0 w L ao c ts := ⟨h.own, fun g hg => hL g (h.at_ g hg), fun k hk => hL k (h.old k hk), h.bel, h.err⟩
theorem Side.drewN (h : Side w0 w K ao c ts) (n : Nat) : Side w0 (w.drewN n) K ao c ts := h.below (below_drewN (Below.refl _ _) n)
theorem Side.nil (h : Below w0.heap.size w0 w) (hK : ∀ k, k < w0.heap.size → K k) (he : ∀ i ∈ seven, gno i < w0.heap.size) : Side w0 w K none 0 [] := ⟨ownR_nil _ _, fun g hg => by simp [Value.ownBlock] at hg, hK, h, he⟩
end
section
variable {w0 w w' : World} {K L : Nat → Prop} {a : Nat → Addr} {l d : Nat} {vss : List (List (List Int))} {off : Bool} {fuse : Int} {F N : Nat} {base ep : Int} {rs : List R} {D : Nat} {ao : Option Addr} {c : Nat} {ts : List R}
theorem Log.wide (h : Log w K a l d vss off fuse F N base ep rs D) (hb : Below w.heap.size w w') : ∃ L, (∀ k, K k → L k) ∧ (∀ k, w.heap.size ≤ k → k < w'.heap.size → L k) ∧ Log w' L a l d vss off fuse F N base ep rs D :=
  ⟨_, fun k hk => .inl hk, fun k h1 h2 => .inr ⟨h1, h2⟩, h.widen hb⟩
/-- One record is appended to the list beside the log. -/
theorem side_append (hL : Log w K a l d vss off fuse F N base ep rs D) (hS : Side w0 w K ao c ts) (n : Nat) (hn : ts.length = n) (hs : n ≤ 900) (r : R) (ty : TypeId) :
    ∃ ao' c' w1 L, (Builtin.append_ #[78, 78] ty #[.slice ao n c, .slice (some ⟨w.heap.size, 0, none⟩) 1 1]).run Tryd.prog (w.alloc (recCells r)) = .ok (.slice ao' (n + 1) c') w1 ∧ (∀ k, K k → L k) ∧ Log w1 L a l d vss off fuse F N base ep rs D ∧ Side w0 w1 L ao' c' (ts ++ [r]) ∧ w.heap.size ≤ w1.heap.size ∧ ∀ k, k < w.heap.size → some k ≠ (Value.slice ao ts.length c).ownBlock → w1.heap[k]? = w.heap[k]? := by
  subst hn
  have hbel := below_box w (recCells r)
  have h1 := hL.below hbel
  have h2 := hS.below hbel
  have hrow : ∀ i x, [r][i]? = some x → CellsFrom (w.alloc (recCells r)) w.heap.size (0 + i * 10) x := by
    intro i x hi
    cases i with
    | zero =>
      simp only [List.getElem?_cons_zero, Option.some.injEq] at hi
      subst hi
      have hc := cells10_new w r
      exact ⟨hc.c0, hc.c1, hc.c2, hc.c3, hc.c4, hc.c5, hc.c6, hc.c7, hc.c8, hc.c9, hc.lt⟩
    | succ i => simp at hi
  obtain ⟨ao', c', w1, hr, ho, hgr, hbw, hat⟩ := run_appendR (yc := 1) h2.own rfl (show [r].length = 1 from rfl) (by omega) h2.bel.size hrow ty
  have hln : (ts ++ [r]).length = ts.length + 1 := by simp
  have hsz := hgr.size
  refine ⟨ao', c', w1, wider K (w.alloc (recCells r)).heap.size w1.heap.size, hr, fun k hk => .inl hk, h1.stays hsz (fun k hk hn => hgr.block k hk fun e => hn (h2.at_ k e.symm)) ?_ ?_, ⟨ho, fun g hg => ?_, fun k hk => .inl (h2.old k hk), h2.bel.trans hbw, h2.err⟩, Nat.le_trans hbel.size hsz, fun k hk hne => (hgr.block k (Nat.lt_of_lt_of_le hk hbel.size) hne).trans (hbel.block k hk)⟩
  · rintro k (h3 | h3)
    · exact ⟨Nat.lt_of_lt_of_le (h1.low k h3) hsz, fun _ => h3⟩
    · exact ⟨h3.2, fun h4 => by omega⟩
  · intro i hi
    refine ⟨.inl (h1.errs i hi).1, ?_⟩
    rw [← (h1.errs i hi).2]
    refine World.cell?_of_block (w := w.alloc (recCells r)) (hgr.block _ (h1.low _ (h1.errs i hi).1) fun e => ?_)
    have h5 := (h2.own.1.lt (gno i) e.symm).1
    have h6 := h2.err i hi
    omega
  · rw [hln] at hg
    rcases hat with h3 | ⟨g', h3, h4⟩
    · exact .inl (h2.at_ g (h3 ▸ hg))
    · rw [h3] at hg
      simp only [Option.some.injEq] at hg
      subst hg
      exact .inr ⟨h4, by have := (ho.1.lt g' (by rw [hln]; exact h3)).2; exact this⟩
/-- Side and log, both behind new memory that K names too. -/
theorem both_wide (hL : Log w K a l d vss off fuse F N base ep rs D) (hS : Side w0 w K ao c ts) (hb : Below w.heap.size w w') : ∃ L, (∀ k, K k → L k) ∧ (∀ k, w.heap.size ≤ k → k < w'.heap.size → L k) ∧ Log w' L a l d vss off fuse F N base ep rs D ∧ Side w0 w' L ao c ts := by
  obtain ⟨L, h1, h2, h3⟩ := hL.wide hb
  exact ⟨L, h1, h2, h3, (hS.below hb).wide h1⟩
end
end Go.Proofs.YtjacenhblclkaaaDoor

/- A log on a disk as it should be, told in one word: what Append, Flush, a crash and Open make of it; plain lemmas. -/
namespace Go.Proofs.YtjacenhblclkaaaDoor
open Go.RowKit
set_option linter.unusedVariables false

/-- A log of N blocks from sector F on, in the boot ep, as it should be. -/
structure Kp (F N : Nat) (ep : Int) (rs : List R) (D : Nat) (vss : List (List (List Int))) (off : Bool) : Prop where
  walk : ∃ e, Walk N ep rs D (verL vss F) e
  has : hasV vss
  tig : tight vss off
  len : F + N ≤ vss.length
theorem zero_fill : zeroB (fillOf 0) = true := by decide +kernel
section
variable {F N : Nat} {ep : Int} {rs : List R} {D : Nat} {vss : List (List (List Int))} {off : Bool}
theorem kp_new (F N n : Nat) (h : F + N ≤ n) : Kp F N 1 [] 0 (List.replicate n [fillOf 0]) false := by
  refine ⟨⟨fun _ => 1, walk_new N _ _ fun k hk v hv => ?_⟩, hasV_new n _, tight_new n _ _, by rw [List.length_replicate]; exact h⟩
  unfold verL at hv
  rw [List.getD_eq_getElem?_getD, List.getElem?_replicate, if_pos (by omega)] at hv
  have hv' : v = fillOf 0 := by simpa using hv
  rw [hv']
  exact ⟨length_fillOf 0, zero_fill⟩
theorem Kp.append (h : Kp F N ep rs D vss off) (r : R) (hg : goodB r = true ∧ r.fits) (hl : rs.length + 1 ≤ 6 * N) : Kp F N ep (rs ++ [r]) D vss off := by
  obtain ⟨e, hw⟩ := h.walk
  exact ⟨⟨e, hw.append [r] (fun x hx => by rw [List.mem_singleton.1 hx]; exact hg) hl⟩, h.has, h.tig, h.len⟩
theorem Kp.flush (h : Kp F N ep rs D vss off) (fuse : Int) : Kp F N ep rs (flD (flushW F ep rs D vss off fuse).2.2.2 rs.length D) (flushW F ep rs D vss off fuse).1 (flushW F ep rs D vss off fuse).2.2.1 := by
  obtain ⟨e, hw⟩ := h.walk
  refine ⟨flush_walk off fuse hw h.len h.has, hasV_flushW off fuse h.len hw.len hw.dle h.has, tight_flush h.tig, ?_⟩
  rw [length_flushW]
  exact h.len
theorem Kp.crash (h : Kp F N ep rs D vss off) (zs : List Int) (ep' : Int) (h1 : ep < ep') (h2 : ep' ≤ 1073741824) : ∃ m, D ≤ m ∧ m ≤ rs.length ∧ openUp (rdL (crashed zs vss) F) ep' N 0 1 [] = (rs.take m, -1) ∧ Kp F N ep' (rs.take m) m (crashed zs vss) false := by
  obtain ⟨e, hw⟩ := h.walk
  obtain ⟨m, e', h3, h4, h5, h6⟩ := crash_opened zs hw h.len h.has ep' h1 h2
  exact ⟨m, h3, h4, h5, ⟨e', h6⟩, hasV_crashed zs vss h.has, tight_crashed zs vss h.has false, by rw [length_crashed]; exact h.len⟩
theorem Kp.bd2 (h : Kp F N ep rs D vss off) : verBd vss 2 := h.tig.2
theorem Kp.dle (h : Kp F N ep rs D vss off) : D ≤ rs.length := by obtain ⟨e, hw⟩ := h.walk; exact hw.dle
theorem Kp.good (h : Kp F N ep rs D vss off) : ∀ r ∈ rs, goodB r = true ∧ r.fits := by obtain ⟨e, hw⟩ := h.walk; exact hw.good
theorem Kp.lenr (h : Kp F N ep rs D vss off) : rs.length ≤ 6 * N := by obtain ⟨e, hw⟩ := h.walk; exact hw.len
end
end Go.Proofs.YtjacenhblclkaaaDoor
