/- Lemmas and contracts that the law stands on, joined: RBoth, RPair, RPairNew. -/
import Derived.Test.YtjacenhblclkaaaGreatDoorJoin43
import Derived.Test.YtjacenhblclkaaaGreatDoorJoin36
/- The document's disk and log beside the real ones: what stays of either while the other turns. -/
namespace Go.Proofs.YtjacenhblclkaaaGreatDoor
open Go.RowKit
set_option linter.unusedVariables false

/-- The document's disk (block y, its table s) and its log (block z); K names all that they read. -/
structure Doc (w : World) (K : Nat → Prop) (z y s cap : Nat) (vss : List (List (List Int))) (off : Bool) (fuse : Int) (F N : Nat) (base ep : Int) (rs : List R) (D : Nat) : Prop where
  rd : ∃ M : Nat → Prop, RD w M y s cap vss fuse off ∧ (∀ g, M g → K g) ∧ ¬ M z
  rl : ∃ (L : Nat → Prop) (ao : Option Addr) (c : Nat), RL w L z y F N base ep ao c rs D ∧ (∀ g, L g → K g) ∧ ¬ L y ∧ ¬ L s
  far : ∀ i ∈ seven, gno i ≠ z ∧ gno i ≠ y ∧ gno i ≠ s
section
variable {w w' : World} {K : Nat → Prop} {a : Nat → Addr} {l d z y s cap : Nat} {vss : List (List (List Int))} {off : Bool} {fuse : Int} {F N : Nat} {base ep : Int} {rs : List R} {D : Nat}
theorem RD.ltS {M : Nat → Prop} {left : Int} {gone : Bool} (h : RD w M y s cap vss left gone) : s < w.heap.size := by
  obtain ⟨cs, h1, _⟩ := h.tab
  exact lt_of_block h1
/-- What the document's disk reads is there already. -/
theorem RD.lowM {M : Nat → Prop} {left : Int} {gone : Bool} (h : RD w M y s cap vss left gone) : RD w (fun g => M g ∧ g < w.heap.size) y s cap vss left gone := by
  obtain ⟨cs, h1, h2, h3⟩ := h.tab
  refine ⟨h.head, ⟨cs, h1, h2, fun i vs hi => ?_⟩, h.fits, h.many, ⟨h.my, h.lt⟩, h.ms, lt_of_block h1⟩
  obtain ⟨v, h4, h0, b, o, c, rfl, hc, ⟨cb, hb⟩, hx, hM⟩ := h3 i vs hi
  refine ⟨_, h4, h0, b, o, c, rfl, hc, ⟨cb, hb⟩, fun j xs hj => ?_, hM, lt_of_block hb⟩
  obtain ⟨hl, g, gc, e1, e2, e3, hMg⟩ := hx j xs hj
  obtain ⟨cg, hg⟩ := e3
  exact ⟨hl, g, gc, e1, e2, ⟨cg, hg⟩, hMg, lt_of_block hg⟩
theorem Doc.kept (h : Doc w K z y s cap vss off fuse F N base ep rs D) (hk : Kept K w w') : Doc w' K z y s cap vss off fuse F N base ep rs D := by
  obtain ⟨M, h1, h2, h3⟩ := h.rd
  obtain ⟨L, ao, c, k1, k2, k3⟩ := h.rl
  exact ⟨⟨M, h1.kept hk.size fun g hg => hk.block g (h2 g hg), h2, h3⟩, ⟨L, ao, c, k1.kept hk.size fun g hg => hk.block g (k2 g hg), k2, k3⟩, h.far⟩
theorem Doc.below (h : Doc w K z y s cap vss off fuse F N base ep rs D) (hb : Below w.heap.size w w') : Doc w' K z y s cap vss off fuse F N base ep rs D := by
  obtain ⟨M, h1, h2, h3⟩ := h.rd
  obtain ⟨L, ao, c, k1, k2, k3⟩ := h.rl
  exact ⟨⟨M, h1.step hb, h2, h3⟩, ⟨L, ao, c, k1.step hb, k2, k3⟩, h.far⟩
theorem Doc.wide (h : Doc w K z y s cap vss off fuse F N base ep rs D) {K' : Nat → Prop} (hK : ∀ k, K k → K' k) : Doc w K' z y s cap vss off fuse F N base ep rs D := by
  obtain ⟨M, h1, h2, h3⟩ := h.rd
  obtain ⟨L, ao, c, k1, k2, k3⟩ := h.rl
  exact ⟨⟨M, h1, fun g hg => hK g (h2 g hg), h3⟩, ⟨L, ao, c, k1, fun g hg => hK g (k2 g hg), k3⟩, h.far⟩
theorem Doc.names (h : Doc w K z y s cap vss off fuse F N base ep rs D) : K z ∧ K y ∧ K s := by
  obtain ⟨M, h1, h2, h3⟩ := h.rd
  obtain ⟨L, ao, c, k1, k2, k3⟩ := h.rl
  exact ⟨k2 z k1.mz, h2 y h1.my, h2 s h1.ms⟩
/-- The real log stays while the document's turns. -/
theorem Log.only3 (h : Log w K a l d vss off fuse F N base ep rs D) (hK : K z ∧ K y ∧ K s) (hf : ∀ i ∈ seven, gno i ≠ z ∧ gno i ≠ y ∧ gno i ≠ s) (ho : Only3 z y s w w') : Log w' (wider K w.heap.size w'.heap.size) a l d vss off fuse F N base ep rs D := by
  refine h.stays ho.2.2.2.1 (fun k hk hn => ho.2.2.2.2 k hk (fun e => hn (e ▸ hK.1)) (fun e => hn (e ▸ hK.2.1)) (fun e => hn (e ▸ hK.2.2))) (fun k hk => ?_) fun i hi => ⟨.inl (h.errs i hi).1, ?_⟩
  · rcases hk with hk | hk
    · exact ⟨Nat.lt_of_lt_of_le (h.low k hk) ho.2.2.2.1, fun _ => hk⟩
    · exact ⟨hk.2, fun h1 => absurd h1 (Nat.not_lt.2 hk.1)⟩
  · rw [← (h.errs i hi).2]
    obtain ⟨f1, f2, f3⟩ := hf i hi
    exact World.cell?_of_block (w := w) (ho.2.2.2.2 _ (h.low _ (h.errs i hi).1) f1 f2 f3)
/-- What the document's Flush makes of both. -/
theorem Doc.flush (h : Doc w K z y s cap vss off fuse F N base ep rs D) (hb : 0 ≤ base ∧ base + rs.length ≤ 1073741824) (hep : 1 ≤ ep ∧ ep ≤ 1073741824) (hFN : F + N ≤ vss.length) (h6 : rs.length ≤ 6 * N) (hDl : D ≤ rs.length) (hN : N ≤ 100) (hgood : ∀ r ∈ rs, goodB r = true) (hleft : -1 ≤ fuse ∧ fuse ≤ 9223372036854775807) (hv : verBd vss 2) :
    Calls Tryz.prog 17 #[.pointer (some ⟨z, 0, none⟩)] w fun e w' => e = .returned (.int .i64 (if (flushW F ep rs D vss off fuse).2.2.2 then 0 else 101)) ∧ Doc w' (wider K w.heap.size w'.heap.size) z y s cap (flushW F ep rs D vss off fuse).1 (flushW F ep rs D vss off fuse).2.2.1 (flushW F ep rs D vss off fuse).2.1 F N base ep rs (flD (flushW F ep rs D vss off fuse).2.2.2 rs.length D) ∧ Only3 z y s w w' := by
  obtain ⟨M, h1, h2, h3⟩ := h.rd
  obtain ⟨L, ao, c, k1, k2, k3, k4⟩ := h.rl
  refine (rflush_any k1 h1 k3 k4 h3 hb hep hFN h6 hDl hN hgood hleft hv).mono ?_
  rintro e w' ⟨rfl, g1, g2, g3⟩
  refine ⟨rfl, ⟨⟨_, g2, fun g hg => hg.imp (h2 g) id, ?_⟩, ⟨L, ao, c, g1, fun g hg => .inl (k2 g hg), k3, k4⟩, h.far⟩, g3⟩
  rintro (hg | hg)
  · exact h3 hg
  · exact absurd k1.lt (Nat.not_lt.2 hg.1)
/-- What the document's Fuse makes of both. -/
theorem Doc.fused (n : Int) (h : Doc w K z y s cap vss off fuse F N base ep rs D) :
    Calls Tryz.prog 19 #[.pointer (some ⟨y, 0, none⟩), .int .i64 n] w fun e w' => e = .returned (.tuple #[]) ∧ Doc w' K z y s cap vss off (max n (-1)) F N base ep rs D ∧ Only3 z y s w w' := by
  obtain ⟨M, h1, h2, h3⟩ := h.rd
  obtain ⟨L, ao, c, k1, k2, k3, k4⟩ := h.rl
  refine (rfuse_any n h1).mono ?_
  rintro e w' ⟨rfl, g1, g2⟩
  exact ⟨rfl, ⟨⟨M, g1, h2, h3⟩, ⟨L, ao, c, k1.only g2 k3 k4, k2, k3, k4⟩, h.far⟩, .of2 g2⟩
/-- What the document's Crash makes of both. -/
theorem Doc.crashed (zao : Option Addr) (zcap : Nat) (zs : List Int) (h : Doc w K z y s cap vss off fuse F N base ep rs D) (hz : IRow w zao zs) (hne : ∀ b off, zao = some ⟨b, off, none⟩ → b ≠ y ∧ b ≠ s) (hzl : zs.length ≤ 1000) (hbig : ∀ vs ∈ vss, vs.length ≤ 1000000) :
    Calls Tryz.prog 21 #[.pointer (some ⟨y, 0, none⟩), .slice zao zs.length zcap] w fun e w' => e = .returned (.tuple #[]) ∧ Doc w' K z y s cap (crashed zs vss) false (-1) F N base ep rs D ∧ Only3 z y s w w' := by
  obtain ⟨M, h1, h2, h3⟩ := h.rd
  obtain ⟨L, ao, c, k1, k2, k3, k4⟩ := h.rl
  refine (rcrash_any zao zcap zs h1 hz hne hzl hbig).mono ?_
  rintro e w' ⟨rfl, g1, g2⟩
  exact ⟨rfl, ⟨⟨M, g1, h2, h3⟩, ⟨L, ao, c, k1.only g2 k3 k4, k2, k3, k4⟩, h.far⟩, .of2 g2⟩
/-- What the document's OpenLog makes of the disk: another log, at another block. -/
theorem Doc.opened (reset : Int) (ep' : Int) (h : Doc w K z y s cap vss false fuse F N base ep rs D) (hb : 0 ≤ base ∧ base + 6 * (N : Int) ≤ 1073741824) (hF : F + N ≤ vss.length) (hN : N ≤ 100) (hv : ∀ j, (vss.getD j []).length ≤ 3) (hlow : ∀ i ∈ seven, gno i < w.heap.size) :
    Calls Tryz.prog 23 #[.pointer (some ⟨y, 0, none⟩), .int .i64 F, .int .i64 N, .int .i64 base, .int .i64 reset, .int .i64 ep'] w fun e w' => ∃ v, e = .returned v ∧ Below w.heap.size w w' ∧
      (((openUp (rdL vss F) ep' N 0 reset []).2 = -1 ∧ ∃ z', v = .tuple #[.pointer (some ⟨z', 0, none⟩), faultV 0 false 0] ∧ w.heap.size ≤ z' ∧ Doc w' (wider K w.heap.size w'.heap.size) z' y s cap vss false fuse F N base ep' (openUp (rdL vss F) ep' N 0 reset []).1 (openUp (rdL vss F) ep' N 0 reset []).1.length) ∨
        (0 ≤ (openUp (rdL vss F) ep' N 0 reset []).2 ∧ v = .tuple #[.pointer none, faultV 108 true (openUp (rdL vss F) ep' N 0 reset []).2])) := by
  obtain ⟨M, h1, h2, h3⟩ := h.rd
  refine (ropen_any h1 reset hb hF hN hv).mono ?_
  rintro e w' ⟨v, rfl, hp, hbl⟩
  refine ⟨v, rfl, hbl, ?_⟩
  rcases hp with ⟨g1, z', ao, c, rfl, g2⟩ | ⟨g1, rfl⟩
  · refine .inl ⟨g1, z', rfl, g2.mz, ⟨fun g => M g ∧ g < w.heap.size, ?_, fun g hg => .inl (h2 g hg.1), fun hg => ?_⟩, ⟨_, ao, c, g2.low, fun g hg => .inr ⟨hg.1, hg.2⟩, fun hg => ?_, fun hg => ?_⟩, fun i hi => ⟨?_, (h.far i hi).2⟩⟩
    · exact h1.lowM.step hbl
    · have := g2.mz
      omega
    · have := h1.lt
      omega
    · have := h1.ltS
      omega
    · have := g2.mz
      have := hlow i hi
      omega
  · exact .inr ⟨g1, rfl⟩
/-- What the document's Append makes of both: a record that can't be; no room; one record more. -/
theorem Doc.append (h : Doc w K z y s cap vss off fuse F N base ep rs D) (r : R) (hb : 0 ≤ base ∧ base ≤ 1073741824) (h6 : rs.length ≤ 700) (hN : N ≤ 100) :
    Calls Tryz.prog 14 #[.pointer (some ⟨z, 0, none⟩), r.val] w fun e w' =>
      (goodB r = false → e = .returned (.tuple #[.int .i64 0, .int .i64 102]) ∧ Doc w' (wider K w.heap.size w'.heap.size) z y s cap vss off fuse F N base ep rs D) ∧
      (goodB r = true → roomR N rs.length base ≤ 0 → e = .returned (.tuple #[.int .i64 0, .int .i64 109]) ∧ Doc w' (wider K w.heap.size w'.heap.size) z y s cap vss off fuse F N base ep rs D) ∧
      (goodB r = true → 0 < roomR N rs.length base → e = .returned (.tuple #[.int .i64 (base + rs.length + 1), .int .i64 0]) ∧ Doc w' (wider K w.heap.size w'.heap.size) z y s cap vss off fuse F N base ep (rs ++ [r]) D) ∧ Only3 z y s w w' := by
  obtain ⟨M, h1, h2, h3⟩ := h.rd
  obtain ⟨L, ao, c, k1, k2, k3, k4⟩ := h.rl
  have hbelow : ∀ w', Below w.heap.size w w' → Doc w' (wider K w.heap.size w'.heap.size) z y s cap vss off fuse F N base ep rs D ∧ Only3 z y s w w' := fun w' hb => ⟨(h.below hb).wide fun k hk => .inl hk, .of2 (.of_below hb)⟩
  cases hg : goodB r with
  | false =>
    refine (rappend_bad k1 r hg).mono ?_
    rintro e w' ⟨rfl, hbl⟩
    exact ⟨fun _ => ⟨rfl, (hbelow w' hbl).1⟩, fun h => Bool.noConfusion h, fun h => Bool.noConfusion h, (hbelow w' hbl).2⟩
  | true =>
    by_cases hr : 0 < roomR N rs.length base
    · refine (rappend_ok k1 r hg rs.length rfl hb h6 hN hr).mono ?_
      rintro e w' ⟨rfl, ⟨ao', c', g1⟩, g2⟩
      have h3' : Only3 z y s w w' := ⟨g2.os, g2.tape, g2.output, g2.size, fun k hk e1 _ _ => g2.block k hk e1 e1⟩
      refine ⟨fun h => Bool.noConfusion h, fun _ h => absurd hr (by omega), fun _ _ => ⟨rfl, ⟨fun g => M g ∧ g < w.heap.size, ?_, fun g hg => .inl (h2 g hg.1), fun hg => h3 hg.1⟩, ⟨_, ao', c', g1, fun g hg => hg.imp (k2 g) id, ?_, ?_⟩, h.far⟩, h3'⟩
      · exact h1.lowM.kept g2.size fun g hg => g2.block g hg.2 (fun e => h3 (e ▸ hg.1)) (fun e => h3 (e ▸ hg.1))
      · rintro (hy | hy)
        · exact k3 hy
        · exact absurd h1.lt (Nat.not_lt.2 hy.1)
      · rintro (hy | hy)
        · exact k4 hy
        · exact absurd h1.ltS (Nat.not_lt.2 hy.1)
    · have hr0 : roomR N rs.length base = 0 := by unfold roomR at hr ⊢; omega
      refine (rappend_full k1 r hg rs.length rfl hb h6 hN hr0).mono ?_
      rintro e w' ⟨rfl, hbl⟩
      exact ⟨fun h => Bool.noConfusion h, fun _ _ => ⟨rfl, (hbelow w' hbl).1⟩, fun _ h => absurd h hr, (hbelow w' hbl).2⟩
end
end Go.Proofs.YtjacenhblclkaaaGreatDoor

/- Both sides of WalPlays in one word: the real log, the document's, the source of numbers; what a call of either side leaves. -/
namespace Go.Proofs.YtjacenhblclkaaaGreatDoor
open Go.RowKit
set_option linter.unusedVariables false

/-- A log's state: its disk's versions, power, the fuse, its boot, its records, how many are flushed. -/
structure LSt where
  vss : List (List (List Int))
  off : Bool
  fuse : Int
  ep : Int
  rs : List R
  D : Nat
/-- What holds of a state of N blocks from sector 2 on. -/
structure LOk (N : Nat) (X : LSt) : Prop where
  len6 : X.rs.length ≤ 6 * N
  dle : X.D ≤ X.rs.length
  has : hasV X.vss
  tig : tight X.vss X.off
  len : X.vss.length = N + 2
  fu : -1 ≤ X.fuse ∧ X.fuse ≤ 100
  ep1 : 1 ≤ X.ep
/-- Both sides: the real log at l (disk d), the document's at z (disk y, table s), the source of numbers at q. -/
structure Pair (w0 w : World) (K : Nat → Prop) (a : Nat → Addr) (l d z y s cap q : Nat) (lo : Option Addr) (len qc : Nat) (zs : List Int) (n : Nat) (N : Nat) (base : Int) (X Y : LSt) : Prop where
  log : Log w K a l d X.vss X.off X.fuse 2 N base X.ep X.rs X.D
  doc : Doc w (fun k => K k ∧ k ≠ q) z y s cap Y.vss Y.off Y.fuse 2 N base Y.ep Y.rs Y.D
  seq : SeqAt w q lo len qc zs n
  kq : K q
  low : w0.heap.size ≤ q ∧ w0.heap.size ≤ z ∧ w0.heap.size ≤ y ∧ w0.heap.size ≤ s
  old : ∀ k, k < w0.heap.size → K k
  row : IsRow .i64 w0 lo len qc zs
  bel : Below w0.heap.size w0 w
  errs : ErrsOf w0 all18 a
section
variable {w0 w w' : World} {K : Nat → Prop} {a : Nat → Addr} {l l' d z z' y s cap q : Nat} {lo : Option Addr} {len qc : Nat} {zs : List Int} {n n' N : Nat} {base : Int} {X X' Y Y' : LSt}
theorem below_kept {B : Nat} (h : Below B w0 w) (hk : Kept K w w') (hK : ∀ k, k < B → K k) : Below B w0 w' :=
  ⟨hk.os.trans h.os, hk.tape.trans h.tape, hk.output.trans h.output, Nat.le_trans h.size hk.size, fun k hk' => (hk.block k (hK k hk')).trans (h.block k hk')⟩
theorem below_only3 {B : Nat} (h : Below B w0 w) (hB : B ≤ w.heap.size) (ho : Only3 z y s w w') (hz : B ≤ z) (hy : B ≤ y) (hs : B ≤ s) : Below B w0 w' :=
  ⟨ho.1.trans h.os, ho.2.1.trans h.tape, ho.2.2.1.trans h.output, Nat.le_trans h.size ho.2.2.2.1, fun k hk' => (ho.2.2.2.2 k (Nat.lt_of_lt_of_le hk' hB) (by omega) (by omega) (by omega)).trans (h.block k hk')⟩
/-- A call of the real side. -/
theorem Pair.real (h : Pair w0 w K a l d z y s cap q lo len qc zs n N base X Y) (hl : Log w' K a l' d X'.vss X'.off X'.fuse 2 N base X'.ep X'.rs X'.D) (hk : Kept K w w') : Pair w0 w' K a l' d z y s cap q lo len qc zs n N base X' Y := by
  have hb := below_kept h.bel hk h.old
  exact ⟨hl, h.doc.kept (hk.mono fun k hk => hk.1), h.seq.kept h.row hk h.kq hb h.low.1, h.kq, h.low, h.old, h.row, hb, h.errs⟩
/-- A call that makes new memory alone. -/
theorem Pair.below (h : Pair w0 w K a l d z y s cap q lo len qc zs n N base X Y) (hb : Below w.heap.size w w') : Pair w0 w' K a l d z y s cap q lo len qc zs n N base X Y :=
  ⟨h.log.below hb, h.doc.below hb, h.seq.step hb, h.kq, h.low, h.old, h.row, h.bel.trans (hb.mono h.bel.size), h.errs⟩
theorem Pair.names (h : Pair w0 w K a l d z y s cap q lo len qc zs n N base X Y) : (K z ∧ K y ∧ K s) ∧ q ≠ z ∧ q ≠ y ∧ q ≠ s := by
  obtain ⟨h1, h2, h3⟩ := h.doc.names
  exact ⟨⟨h1.1, h2.1, h3.1⟩, fun e => h1.2 e.symm, fun e => h2.2 e.symm, fun e => h3.2 e.symm⟩
/-- A call of the document's side. -/
theorem Pair.turn (h : Pair w0 w K a l d z y s cap q lo len qc zs n N base X Y) (hd : Doc w' (wider (fun k => K k ∧ k ≠ q) w.heap.size w'.heap.size) z y s cap Y'.vss Y'.off Y'.fuse 2 N base Y'.ep Y'.rs Y'.D) (ho : Only3 z y s w w') : Pair w0 w' (wider K w.heap.size w'.heap.size) a l d z y s cap q lo len qc zs n N base X Y' := by
  have hq := lt_of_block h.seq.lies
  obtain ⟨hK, n1, n2, n3⟩ := h.names
  have hb := below_only3 h.bel h.bel.size ho h.low.2.1 h.low.2.2.1 h.low.2.2.2
  refine ⟨h.log.only3 hK h.doc.far ho, hd.wide fun k hk => ?_, seq_of h.row h.seq.small.2 hb h.low.1 h.seq.small.1 ((ho.2.2.2.2 q hq n1 n2 n3).trans h.seq.lies), .inl h.kq, h.low, fun k hk => .inl (h.old k hk), h.row, hb, h.errs⟩
  rcases hk with hk | hk
  · exact ⟨.inl hk.1, hk.2⟩
  · exact ⟨.inr hk, by omega⟩
/-- The same where no new memory is told of. -/
theorem Pair.turn' (h : Pair w0 w K a l d z y s cap q lo len qc zs n N base X Y) (hd : Doc w' (fun k => K k ∧ k ≠ q) z y s cap Y'.vss Y'.off Y'.fuse 2 N base Y'.ep Y'.rs Y'.D) (ho : Only3 z y s w w') : Pair w0 w' (wider K w.heap.size w'.heap.size) a l d z y s cap q lo len qc zs n N base X Y' :=
  h.turn (hd.wide fun k hk => .inl hk) ho
/-- The document's log is another one, in new memory. -/
theorem Pair.anew (h : Pair w0 w K a l d z y s cap q lo len qc zs n N base X Y) (hd : Doc w' (wider (fun k => K k ∧ k ≠ q) w.heap.size w'.heap.size) z' y s cap Y'.vss Y'.off Y'.fuse 2 N base Y'.ep Y'.rs Y'.D) (hb : Below w.heap.size w w') (hz : w0.heap.size ≤ z') : Pair w0 w' (wider K w.heap.size w'.heap.size) a l d z' y s cap q lo len qc zs n N base X Y' := by
  have hq := lt_of_block h.seq.lies
  refine ⟨h.log.widen hb, hd.wide fun k hk => ?_, h.seq.step hb, .inl h.kq, ⟨h.low.1, hz, h.low.2.2⟩, fun k hk => .inl (h.old k hk), h.row, h.bel.trans (hb.mono h.bel.size), h.errs⟩
  rcases hk with hk | hk
  · exact ⟨.inl hk.1, hk.2⟩
  · exact ⟨.inr hk, by omega⟩
/-- The source of numbers turns, and new memory is made. -/
theorem Pair.but (h : Pair w0 w K a l d z y s cap q lo len qc zs n N base X Y) (hb : But q w w') (hs : SeqAt w' q lo len qc zs n') : Pair w0 w' K a l d z y s cap q lo len qc zs n' N base X Y := by
  have hne : ∀ i ∈ seven, gno i ≠ q := fun i hi => by
    have := gno_lt h.errs (fun i hi => by revert hi; unfold seven all18; simp; omega) i hi
    have := h.low.1
    omega
  exact ⟨h.log.but h.kq hne hb, h.doc.kept ⟨hb.os, hb.tape, hb.output, hb.size, fun k hk => hb.block k (h.log.low k hk.1) hk.2⟩, hs, h.kq, h.low, h.old, h.row, h.bel.trans ((hb.below (Nat.le_of_lt (lt_of_block h.seq.lies))).mono h.low.1), h.errs⟩
/-- One record more, flushed, cut off and opened: what stays of a state. -/
theorem LOk.append (h : LOk N X) (r : R) (hr : X.rs.length + 1 ≤ 6 * N) : LOk N ⟨X.vss, X.off, X.fuse, X.ep, X.rs ++ [r], X.D⟩ :=
  ⟨by show (X.rs ++ [r]).length ≤ _; rw [List.length_append]; exact hr, by show _ ≤ (X.rs ++ [r]).length; rw [List.length_append]; exact Nat.le_trans h.dle (Nat.le_add_right _ _), h.has, h.tig, h.len, h.fu, h.ep1⟩
/-- What Flush makes of a state. -/
def LSt.flushed (X : LSt) : LSt := ⟨(flushW 2 X.ep X.rs X.D X.vss X.off X.fuse).1, (flushW 2 X.ep X.rs X.D X.vss X.off X.fuse).2.2.1, (flushW 2 X.ep X.rs X.D X.vss X.off X.fuse).2.1, X.ep, X.rs, flD (flushW 2 X.ep X.rs X.D X.vss X.off X.fuse).2.2.2 X.rs.length X.D⟩
theorem burnt_small {f : Int} (h : -1 ≤ f ∧ f ≤ 100) : -1 ≤ burnt f ∧ burnt f ≤ 100 := by
  unfold burnt
  split <;> omega
theorem wrUp_fuse (first : Nat) (ep : Int) (rs : List R) : ∀ n k vss f, -1 ≤ f ∧ f ≤ 100 → -1 ≤ (wrUp first ep rs n k vss f).2.1 ∧ (wrUp first ep rs n k vss f).2.1 ≤ 100 := by
  intro n
  induction n with
  | zero => intro k vss f h; exact h
  | succ n ih =>
    intro k vss f h
    rw [wrUp]
    split
    · exact ⟨by show -1 ≤ (0 : Int); omega, by show (0 : Int) ≤ 100; omega⟩
    · exact ih _ _ _ (burnt_small h)
theorem flushW_fuse (first : Nat) (ep : Int) (rs : List R) (D : Nat) (vss : List (List (List Int))) (off : Bool) (f : Int) (h : -1 ≤ f ∧ f ≤ 100) : -1 ≤ (flushW first ep rs D vss off f).2.1 ∧ (flushW first ep rs D vss off f).2.1 ≤ 100 := by
  have h1 := wrUp_fuse first ep rs (blocksOf rs.length - D / 6) (D / 6) vss f h
  unfold flushW
  split
  · exact h
  · split
    · exact h
    · split
      · split
        · exact ⟨by show -1 ≤ (0 : Int); omega, by show (0 : Int) ≤ 100; omega⟩
        · exact burnt_small h1
      · exact h1
theorem LOk.flushed (h : LOk N X) : LOk N X.flushed := by
  refine ⟨h.len6, ?_, hasV_flushW (N := N) _ _ (by rw [h.len]; omega) h.len6 h.dle h.has, tight_flush h.tig, (length_flushW ..).trans h.len, flushW_fuse _ _ _ _ _ _ _ h.fu, h.ep1⟩
  show flD _ _ _ ≤ X.rs.length
  unfold flD
  split
  · exact Nat.le_refl _
  · exact h.dle
theorem LOk.fused (h : LOk N X) (m : Int) (h1 : m ≤ 100) : LOk N ⟨X.vss, X.off, max m (-1), X.ep, X.rs, X.D⟩ := ⟨h.len6, h.dle, h.has, h.tig, h.len, ⟨by show -1 ≤ max m (-1); omega, by show max m (-1) ≤ 100; omega⟩, h.ep1⟩
/-- What a crash, and the next boot, make of a state. -/
def LSt.opened (X : LSt) (N : Nat) (zs : List Int) (reset ep : Int) : LSt := ⟨crashed zs X.vss, false, -1, ep, (openUp (rdL (crashed zs X.vss) 2) ep N 0 reset []).1, (openUp (rdL (crashed zs X.vss) 2) ep N 0 reset []).1.length⟩
theorem LOk.opened (h : LOk N X) (zs : List Int) (reset ep : Int) (he : 1 ≤ ep) : LOk N (X.opened N zs reset ep) :=
  ⟨by have := openUp_len (rdL (crashed zs X.vss) 2) ep N 0 reset []; simpa [LSt.opened] using this, Nat.le_refl _, hasV_crashed zs _ h.has, tight_crashed zs _ h.has false, (length_crashed zs _).trans h.len, ⟨by show (-1 : Int) ≤ -1; decide, by show (-1 : Int) ≤ 100; decide⟩, he⟩
end
end Go.Proofs.YtjacenhblclkaaaGreatDoor

/- The state at the beginning of WalPlays' loop. -/
namespace Go.Proofs.YtjacenhblclkaaaGreatDoor
open Go.RowKit
set_option linter.unusedVariables false

/-- A log that was made on a new disk. -/
def LSt.new (N : Nat) : LSt := ⟨List.replicate (N + 2) [fillOf 0], false, -1, 1, [], 0⟩
theorem LOk.new (N : Nat) : LOk N (LSt.new N) :=
  ⟨Nat.zero_le _, Nat.le_refl _, hasV_new _ _, tight_new _ _ _, List.length_replicate, ⟨by show (-1 : Int) ≤ -1; decide, by show (-1 : Int) ≤ 100; decide⟩, by show (1 : Int) ≤ 1; decide⟩
theorem disk_wide {w w' : World} {K : Nat → Prop} {a : Nat → Addr} {d : Nat} {vss : List (List (List Int))} {off : Bool} {fuse : Int} (h : Disk w K a d vss off fuse) (hb : Below w.heap.size w w') : Disk w' (wider K w.heap.size w'.heap.size) a d vss off fuse := by
  obtain ⟨s, ss, h, e⟩ := h
  exact ⟨s, ss, h.widen hb, e⟩
theorem pair_new {w x1 x2 x3 : World} {a : Nat → Addr} {d s sc : Nat} {lo : Option Addr} {len qc : Nat} {zs : List Int} {N : Nat} {base : Int} (he : ErrsOf w all18 a) (hr : IsRow .i64 w lo len qc zs) (hl : len ≤ 500) (h1 : Below w.heap.size w x1) (h2 : Below x1.heap.size x1 x2)
    (hd : Disk x2 (fun b => b < x1.heap.size) a d (List.replicate (N + 2) [fillOf 0]) false (-1)) (h3 : Below x2.heap.size x2 x3) (hy : RD x3 (fun g => x2.heap.size ≤ g ∧ g < x3.heap.size) x2.heap.size s sc (List.replicate (N + 2) [fillOf 0]) (-1) false) (hys : x2.heap.size < s) (hb : 0 ≤ base ∧ base ≤ 1073741824) (hN : N ≤ 100) :
    ∃ K, Pair w (((x3.alloc (.cells (logCells d 2 N base 1 (.slice none 0 0) 0) 114)).alloc (.cells (rlogCells x2.heap.size 2 N base 1 (.slice none 0 0) 0) 105)).alloc (seqCells lo len qc)) K a x3.heap.size d (x3.alloc (.cells (logCells d 2 N base 1 (.slice none 0 0) 0) 114)).heap.size x2.heap.size s sc
      ((x3.alloc (.cells (logCells d 2 N base 1 (.slice none 0 0) 0) 114)).alloc (.cells (rlogCells x2.heap.size 2 N base 1 (.slice none 0 0) 0) 105)).heap.size lo len qc zs 0 N base (LSt.new N) (LSt.new N) := by
  have hb2 : Below w.heap.size w x2 := h1.trans (h2.mono h1.size)
  have hb3 : Below w.heap.size w x3 := hb2.trans (h3.mono hb2.size)
  have hek : ErrsK x3 (wider (fun b => b < x1.heap.size) x2.heap.size x3.heap.size) a := by
    have e1 := (errs_ahead he seven18).kept (Kept.of_below hb3 fun k hk => hk)
    exact e1.wide fun k hk => .inl (Nat.lt_of_lt_of_le hk h1.size)
  have hd3 : Disk x3 (wider (fun b => b < x1.heap.size) x2.heap.size x3.heap.size) a d (List.replicate (N + 2) [fillOf 0]) false (-1) := disk_wide hd h3
  have hl4 := log_new (base := base) (ep := 1) (F := 2) (N := N) hd3 hek hb ⟨by decide, by decide⟩ (by rw [List.length_replicate]; omega) hN
  have hb4 := below_box x3 (.cells (logCells d 2 N base 1 (.slice none 0 0) 0) 114)
  have hs4 : (x3.alloc (.cells (logCells d 2 N base 1 (.slice none 0 0) 0) 114)).heap.size = x3.heap.size + 1 := by simp
  obtain ⟨x4, hx4⟩ : ∃ x4, x4 = x3.alloc (.cells (logCells d 2 N base 1 (.slice none 0 0) 0) 114) := ⟨_, rfl⟩
  rw [← hx4] at hl4 hb4 hs4 ⊢
  have hb5 := below_box x4 (.cells (rlogCells x2.heap.size 2 N base 1 (.slice none 0 0) 0) 105)
  have hs5 : (x4.alloc (.cells (rlogCells x2.heap.size 2 N base 1 (.slice none 0 0) 0) 105)).heap.size = x4.heap.size + 1 := by simp
  have hr5 := rl_new x4 (fun g => g = x4.heap.size) x2.heap.size 2 N base 1 rfl
  obtain ⟨x5, hx5⟩ : ∃ x5, x5 = x4.alloc (.cells (rlogCells x2.heap.size 2 N base 1 (.slice none 0 0) 0) 105) := ⟨_, rfl⟩
  rw [← hx5] at hb5 hs5 hr5 ⊢
  have hb6 := below_box x5 (seqCells lo len qc)
  have hs6 : (x5.alloc (seqCells lo len qc)).heap.size = x5.heap.size + 1 := by simp
  have hbw4 : Below w.heap.size w x4 := hb3.trans (hb4.mono hb3.size)
  have hbw5 : Below w.heap.size w x5 := hbw4.trans (hb5.mono hbw4.size)
  have hsq := seq_new5 hr hl hbw5
  have hb46 : Below x4.heap.size x4 (x5.alloc (seqCells lo len qc)) := hb5.trans (hb6.mono hb5.size)
  have hb36 : Below x3.heap.size x3 (x5.alloc (seqCells lo len qc)) := hb4.trans (hb46.mono hb4.size)
  have hsz3 := h3.size
  have hsw := hb2.size
  have hlt := hy.lt
  have hlts := hy.ltS
  refine ⟨wider (wider (fun b => b < x1.heap.size) x2.heap.size x3.heap.size) x4.heap.size (x5.alloc (seqCells lo len qc)).heap.size, ?_, ⟨⟨_, hy.step hb36, fun g hg => ⟨.inl (.inr hg), by omega⟩, fun hg => by omega⟩, ⟨_, none, 0, hr5.step hb6, fun g hg => ⟨.inr (by omega), by omega⟩, fun hg => by omega, fun hg => by omega⟩, fun i hi => ?_⟩, hsq, .inr (by omega), by omega, fun k hk => .inl (.inl (Nat.lt_of_lt_of_le hk h1.size)), hr, hbw5.trans (hb6.mono hbw5.size), he⟩
  · exact (show Log x4 _ a x3.heap.size d (List.replicate (N + 2) [fillOf 0]) false (-1) 2 N base 1 [] 0 from ⟨none, 0, hl4⟩).widen hb46
  · have := gno_lt he seven18 i hi
    omega
end Go.Proofs.YtjacenhblclkaaaGreatDoor
