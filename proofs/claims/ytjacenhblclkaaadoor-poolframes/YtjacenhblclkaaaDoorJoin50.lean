/- Lemmas and contracts that the law stands on, joined: PoFlush, PoFlush2, PoEvict, PoEvict2, PoRead, PoApp, PoGet, PoGet2, PoSet, PoSet2. -/
import Derived.Test.YtjacenhblclkaaaDoorJoin47
import Derived.Test.YtjacenhblclkaaaDoorJoin49
/- What a pool's Flush answers, and what it makes of a state. -/
namespace Go.Proofs.YtjacenhblclkaaaDoor
open Go.RowKit
set_option linter.unusedVariables false

/-- The page that is here, by its number. -/
def getP : List Pg → Int → Option Pg
  | [], _ => none
  | q :: s, n => if q.n = n then some q else getP s n
theorem getP_at {ps : List Pg} {n : Int} {k : Nat} {p : Pg} (h : AtP ps n k p) : getP ps n = some p := by
  induction ps generalizing k with
  | nil => simp [AtP] at h
  | cons q s ih =>
    obtain ⟨h1, h2, h3⟩ := h
    cases k with
    | zero =>
      simp at h1
      subst h1
      rw [getP, if_pos h2]
    | succ k =>
      rw [getP, if_neg (h3 q (by simp)), ih (k := k) ⟨by simpa using h1, h2, fun x hx => h3 x (by simp [hx])⟩]
theorem getP_none {ps : List Pg} {n : Int} (h : ∀ p ∈ ps, p.n ≠ n) : getP ps n = none := by
  induction ps with
  | nil => rfl
  | cons q s ih => rw [getP, if_neg (h q (by simp)), ih fun p hp => h p (by simp [hp])]
/-- What the log's Flush makes of a state; its code. -/
def PSt.lf (S : PSt) (F : Nat) : PSt := ⟨(flushW F S.ep S.rs S.D S.vss S.off S.fuse).1, (flushW F S.ep S.rs S.D S.vss S.off S.fuse).2.2.1, (flushW F S.ep S.rs S.D S.vss S.off S.fuse).2.1, S.ep, S.rs, flD (flushW F S.ep S.rs S.D S.vss S.off S.fuse).2.2.2 S.rs.length S.D, S.es, S.ps⟩
def PSt.lok (S : PSt) (F : Nat) : Bool := (flushW F S.ep S.rs S.D S.vss S.off S.fuse).2.2.2
/-- A page that is dirty is written: what it makes of a state. -/
def PSt.put (S : PSt) (p : Pg) : PSt := if wrC S.off S.fuse = 0 then ⟨(S.wr p.n.toNat (pageB p.lsn p.es)).vss, (S.wr p.n.toNat (pageB p.lsn p.es)).off, (S.wr p.n.toNat (pageB p.lsn p.es)).fuse, S.ep, S.rs, S.D, remE p.n S.es, S.ps⟩ else S.wr p.n.toNat (pageB p.lsn p.es)
/-- Flush of a page that is here and dirty: the log first. -/
def PSt.go (S : PSt) (F : Nat) (base : Int) (p : Pg) : PSt := if base + S.D < p.lsn then (if S.lok F then (S.lf F).put p else S.lf F) else S.put p
def PSt.goC (S : PSt) (F : Nat) (base : Int) (p : Pg) : Int := if base + S.D < p.lsn then (if S.lok F then wrC (S.lf F).off (S.lf F).fuse else 101) else wrC S.off S.fuse
def PSt.flush (S : PSt) (F : Nat) (base n : Int) : PSt := match getP S.ps n with | none => S | some p => if hasE S.es n then S.go F base p else S
def PSt.flushC (S : PSt) (F : Nat) (base n : Int) : Int := match getP S.ps n with | none => 0 | some p => if hasE S.es n then S.goC F base p else 0
/-- A state that may be. -/
structure PSt.Ok (S : PSt) (V : Nat) : Prop where
  page : ∀ p ∈ S.ps, okP p.lsn p.es = true ∧ 1 ≤ p.n ∧ p.n < S.vss.length
  vers : verBd S.vss V
  few : S.ps.length ≤ 8
section
variable {w w' : World} {K : Nat → Prop} {a : Nat → Addr} {P l d F N : Nat} {base most : Int} {mb : Option Nat} {fo : Option Addr} {fc : Nat} {fs : List Fr} {T : Nat} {S : PSt}
theorem PoolOf.drewN (h : PoolOf w K a P l d F N base most mb fo fc fs T S) (n : Nat) : PoolOf (w.drewN n) K a P l d F N base most mb fo fc fs T S := h.below (below_drewN (Below.refl _ _) n)
/-- A page is taken out of the table. -/
theorem PoolOf.dropped (h : PoolOf w K a P l d F N base most mb fo fc fs T S) (n : Int) (hn : (Lit.int .i64 n).wf = true) :
    Calls Tryd.prog 58 #[.pointer (some ⟨P, 0, none⟩), .int .i64 n] w fun e w' => e = .returned (.bool (hasE S.es n)) ∧ PoolOf w' K a P l d F N base most mb fo fc fs T ⟨S.vss, S.off, S.fuse, S.ep, S.rs, S.D, remE n S.es, S.ps⟩ ∧ Kept K w w' := by
  refine (tdrop_row h.tab n hn).mono ?_
  rintro e w' ⟨rfl, hb, ht, hP⟩
  have hf : ∀ g, (Value.slice fo fs.length fc).ownBlock = some g → w'.heap[g]? = w.heap[g]? := fun g hg => by
    refine hb.block g (h.own.1.lt g hg).2 ?_ ?_
    · rintro rfl
      obtain ⟨cur, hc⟩ := owns_type h.own.1 hg
      rw [h.head] at hc
      simp at hc
    · intro e
      obtain ⟨es, clock, h1, _⟩ := h.tab.own g e.symm
      obtain ⟨cur, hc⟩ := owns_type h.own.1 hg
      rw [h1] at hc
      simp at hc
  obtain ⟨h1, h2⟩ := h.stay (w' := w') (mb' := mb) (fo' := fo) (fc' := fc) (fs' := fs) (T' := T) (es' := remE n S.es) (ps' := S.ps) ⟨hb.os, hb.tape, hb.output⟩ hb.size (fun k hk hp hm _ => hb.block k hk hp (fun e => hm e.symm)) (hP.trans h.head) ht (h.own.of_block hf) h.pages
    (fun f hf => (h.ents f hf).of_own fun g hg => by
      obtain ⟨a1, a2, a3⟩ := h.apart hf hg
      exact hb.block g ((h.ents f hf).1.lt g hg).2 a1 (fun e => a2 e.symm)) (.inl rfl) (fun g hg => .inl hg) (fun f hf g hg => .inl ⟨f, hf, hg⟩)
  exact ⟨rfl, h1, h2⟩
theorem PoolOf.lflush (h : PoolOf w K a P l d F N base most mb fo fc fs T S) (hv : verBd S.vss 1000) :
    Calls Tryd.prog 56 #[.pointer (some ⟨l, 0, none⟩)] w fun e w' => e = .returned (flE (a 0) (S.lok F)) ∧ PoolOf w' K a P l d F N base most mb fo fc fs T (S.lf F) ∧ Kept K w w' := by
  refine (wflush_many h.log hv).mono ?_
  rintro e w' ⟨rfl, hl, hk⟩
  exact ⟨rfl, h.turn hl hk, hk.mono fun k hk => .inl hk⟩
theorem wf_at {vss : List (List (List Int))} {n : Int} (h1 : 1 ≤ n) (h2 : n < vss.length) (hm : vss.length ≤ 4294967296) : (Lit.int .i64 n).wf = true := wf_small (by omega) (by omega)
theorem PoolOf.many (h : PoolOf w K a P l d F N base most mb fo fc fs T S) : S.vss.length ≤ 200 := h.log.disk.many.2
end
end Go.Proofs.YtjacenhblclkaaaDoor

/- What a pool's Flush answers: the walk. -/
namespace Go.Proofs.YtjacenhblclkaaaDoor
open Go.RowKit
set_option linter.unusedVariables false

section
variable {w w' : World} {K : Nat → Prop} {a : Nat → Addr} {P l d F N : Nat} {base most : Int} {mb : Option Nat} {fo : Option Addr} {fc : Nat} {fs : List Fr} {T : Nat} {S : PSt}
theorem PSt.Ok.wrv {V : Nat} (h : S.Ok V) (hV : V ≤ 1000) (s : Nat) : (S.vss.getD s []).length ≤ 1000 := Nat.le_trans (h.vers s) hV
theorem length_lf (S : PSt) (F : Nat) : (S.lf F).vss.length = S.vss.length := length_flushW ..
theorem verBd_lf {V : Nat} (h : verBd S.vss V) (hV : 1 ≤ V) : verBd (S.lf F).vss (V + 1) := by
  unfold PSt.lf flushW
  have h1 : verBd (wrUp F S.ep S.rs (blocksOf S.rs.length - S.D / 6) (S.D / 6) S.vss S.fuse).1 (V + 1) := wrUp_bd F S.ep S.rs V _ _ S.vss S.fuse (h.mono (by omega)) (fun j _ => h j)
  split
  · exact h.mono (by omega)
  · split
    · exact h.mono (by omega)
    · split
      · split
        · exact h1
        · exact (verBd_synced _).mono (by omega)
      · exact h1
set_option maxRecDepth 100000 in
set_option maxHeartbeats 8000000 in
theorem pflush_none (h : PoolOf w K a P l d F N base most mb fo fc fs T S) (n : Int) (hn : (Lit.int .i64 n).wf = true) (hno : (∀ p ∈ S.ps, p.n ≠ n) ∨ hasE S.es n = false) :
    Calls Tryd.prog 29 #[.pointer (some ⟨P, 0, none⟩), .int .i64 n] w fun e w' => e = .returned .nilIface ∧ PoolOf w' K a P l d F N base most mb fo fc fs T S ∧ Kept K w w' := by
  obtain ⟨m, hm⟩ : ∃ m, fs.length = m := ⟨_, rfl⟩
  have HH := hide h
  have HW := hide hn
  have HNO := hide hno
  have HF : Hid (∃ r : Int, Calls Tryd.prog 31 #[.pointer (some ⟨P, 0, none⟩), .int .i64 n] w (fun e w' => e = .returned (.int .i64 r) ∧ Below w.heap.size w w') ∧ (0 ≤ r → hasE S.es n = false)) := by
    show ∃ r : Int, _
    rcases at_or_not S.ps n with h1 | ⟨k, p, hat⟩
    · exact ⟨-1, pfind_any P fo m fc fs n (-1) w (h.c4 hm) h.own.row hm (idx_none h.pages h1), fun h => by omega⟩
    · obtain ⟨f, hf, hfp, hidx⟩ := idx_at h.pages hat
      refine ⟨k, pfind_any P fo m fc fs n k w (h.c4 hm) h.own.row hm hidx, fun _ => ?_⟩
      rcases hno with h2 | h2
      · exact absurd hat.2.1 (h2 p (List.mem_of_getElem? hat.1))
      · exact h2
  obtain ⟨r, hfind, hr⟩ := HF.out
  have HFI := hide hfind
  clear h hn hno hfind HF hm
  go_enter Tryd.func29, Tryd.ntmps29
  go_wp2_with fail
  refine HFI.out.mono ?_
  rintro e w1 ⟨rfl, hb⟩
  have HH1 := hide (HH.out.below hb)
  have HK1 := hide (HH.out.kept hb)
  clear hb HFI HH
  go_wp2_with fail
  refine (tfrom_any HH1.out.tab n HW.out).mono ?_
  rintro e w2 ⟨rfl, hb⟩
  have HH2 := hide (HH1.out.below hb)
  have HK2 := hide (HK1.out.trans (HH1.out.kept hb))
  obtain ⟨v0, hv0⟩ : ∃ v0, v0 = (valE S.es n).getD 0 := ⟨_, rfl⟩
  rw [← hv0]
  clear hb hv0 HH1 HK1 HW
  by_cases hr0 : r < 0
  · go_wp2_with fail
    go_ret
    exact ⟨rfl, HH2.out, HK2.out⟩
  · have hr1 : decide (r < 0) = false := by simp; omega
    rw [hr (by omega)]
    clear hr0 hr
    go_wp2_with fail
    go_ret
    exact ⟨rfl, HH2.out, HK2.out⟩
theorem code_cases {fv : Value} {cd : Int} (h : ErrCode a fv cd) : (cd = 0 ∧ fv = .nilIface) ∨ (cd ≠ 0 ∧ ∃ i, i < 18 ∧ fv = errV (a i) ∧ cd = 101 + (i : Int)) := by
  rcases h with ⟨h1, h2⟩ | ⟨i, h1, h2, h3⟩
  · exact .inl ⟨h2, h1⟩
  · exact .inr ⟨by omega, i, h1, h2, h3⟩
/-- New memory is made, and K names it. -/
theorem PoolOf.wide (h : PoolOf w K a P l d F N base most mb fo fc fs T S) (hb : Below w.heap.size w w') : PoolOf w' (wider K w.heap.size w'.heap.size) a P l d F N base most mb fo fc fs T S := by
  have h1 := h.below hb
  have hK : ∀ k, K k → wider K w.heap.size w'.heap.size k := fun k hk => .inl hk
  refine ⟨h1.head, h1.tab, h1.own, h1.pages, h1.ents, (h.log.widen hb).narrow (fun k hk => ?_) fun i hi => .inl (hK _ (h.errs i hi).1), fun hk => ?_, fun b e hk => ?_, fun g e hk => ?_, h1.errs.wide hK, ⟨hK _ h1.page.1, h1.page.2⟩⟩
  · rcases hk with (hk | hk) | hk
    · exact .inl (.inl hk)
    · exact .inr hk
    · exact .inl (.inr hk)
  · rcases hk with hk | hk
    · exact h.nP hk
    · have := h.lt; omega
  · rcases hk with hk | hk
    · exact h.nm b e hk
    · have := (h.tab.own b e).lt; omega
  · rcases hk with hk | hk
    · exact h.nf g e hk
    · have := (h.own.1.lt g e).2; omega
theorem PoolOf.narrow {L : Nat → Prop} (h : PoolOf w L a P l d F N base most mb fo fc fs T S) (hK : ∀ k, K k → L k) (he : (∀ i ∈ seven, K (gno i)) ∧ K (gno 6)) : PoolOf w K a P l d F N base most mb fo fc fs T S :=
  ⟨h.head, h.tab, h.own, h.pages, h.ents, h.log.narrow (fun k hk => by
    rcases hk with hk | hk
    · exact .inl (hK k hk)
    · exact .inr hk) fun i hi => .inl (he.1 i hi), fun hk => h.nP (hK _ hk), fun b e hk => h.nm b e (hK _ hk), fun g e hk => h.nf g e (hK _ hk), h.errs.narrow he.1, ⟨he.2, h.page.2⟩⟩
theorem PoolOf.named6 (h : PoolOf w K a P l d F N base most mb fo fc fs T S) : (∀ i ∈ seven, K (gno i)) ∧ K (gno 6) := ⟨fun i hi => (h.errs i hi).1, h.page.1⟩
/-- What is left of Flush once the log is ahead: the page is written, and is no more dirty. -/
def putPost (w0 : World) (K : Nat → Prop) (a : Nat → Addr) (P l d F N : Nat) (base most : Int) (mb : Option Nat) (fo : Option Addr) (fc : Nat) (fs : List Fr) (T : Nat) (S : PSt) (cd : Int) (e : Ending) (w' : World) : Prop :=
  ∃ fv, e = .returned fv ∧ ErrCode a fv cd ∧ PoolOf w' K a P l d F N base most mb fo fc fs T S ∧ Kept K w0 w'
theorem putPost_fail {w0 : World} {S' : PSt} {cd : Int} (h : PoolOf w K a P l d F N base most mb fo fc fs T S') (hk : Kept K w0 w) (i : Nat) (hi : i < 18) (hc : cd = 101 + (i : Int)) : putPost w0 K a P l d F N base most mb fo fc fs T S' cd (.returned (errV (a i))) w := ⟨_, rfl, .inr ⟨i, hi, rfl, hc⟩, h, hk⟩
set_option maxRecDepth 100000 in
set_option maxHeartbeats 8000000 in
theorem pflush_go {V : Nat} (h : PoolOf w K a P l d F N base most mb fo fc fs T S) (hok : S.Ok V) (hV1 : 1 ≤ V) (hV : V ≤ 990) (n : Int) (hn : (Lit.int .i64 n).wf = true) {k : Nat} {p : Pg} (hat : AtP S.ps n k p) (hd : hasE S.es n = true) :
    Calls Tryd.prog 29 #[.pointer (some ⟨P, 0, none⟩), .int .i64 n] w fun e w' => putPost w K a P l d F N base most mb fo fc fs T (S.go F base p) (S.goC F base p) e w' := by
  obtain ⟨m, hm⟩ : ∃ m, fs.length = m := ⟨_, rfl⟩
  obtain ⟨f, hf, hfp, hidx⟩ := idx_at h.pages hat
  have hfm : f ∈ fs := List.mem_of_getElem? hf
  have hkm : k < m := by rw [← hm]; exact (List.getElem?_eq_some_iff.1 hf).1
  have hm9 : m ≤ 1000 := by rw [← hm]; exact h.own.2
  obtain ⟨b, off, hfo, hlb, hc⟩ := h.own.row.2 (by omega)
  subst hfo
  obtain ⟨q1, q2, q3⟩ := hc k f hf
  obtain ⟨hpok, hp1, hp2⟩ := hok.page p (List.mem_of_getElem? hat.1)
  obtain ⟨s, hs⟩ : ∃ s : Nat, n = s := ⟨n.toNat, by have := hat.2.1; omega⟩
  have hps : p.n = (s : Int) := hat.2.1.trans hs
  have hsv : s < S.vss.length := by omega
  subst hs
  obtain ⟨lsn, hlsn⟩ : ∃ lsn, lsn = p.lsn := ⟨_, rfl⟩
  obtain ⟨es, hes⟩ : ∃ es, es = p.es := ⟨_, rfl⟩
  obtain ⟨ko, hko⟩ : ∃ ko, es.length = ko := ⟨_, rfl⟩
  rw [hfp, ← hlsn] at q2
  rw [hfp, ← hes, hko] at q3
  have hrow := (h.ents f hfm).row
  rw [hfp, ← hes] at hrow
  rw [← hlsn, ← hes] at hpok
  have hbd := h.log
  have HBD : Hid ((0 ≤ base ∧ base + (S.D : Int) ≤ 1073741824)) := by
    obtain ⟨ao, c, hl⟩ := hbd
    have := hl.bd
    show _ ∧ _
    omega
  have HLS := hide ((okP_iff _ _).1 hpok)
  have HH := hide h
  have HW := hide hn
  have HD := hide hd
  have HQ2 := hide q2
  have HQ3 := hide q3
  have HLB := hide hlb
  have HROW := hide hrow
  have HPOK := hide hpok
  have HKO := hide hko
  have HSV := hide hsv
  have HOK := hide hok
  have HM := hide hm
  have HIDX := hide hidx
  have HFM : Hid (f ∈ fs ∧ f.pg.es = es) := ⟨hfm, by rw [hfp, hes]⟩
  have HNM := hide h.named6
  have HGP : Hid ((S.go F base p = if base + S.D < lsn then (if S.lok F then (S.lf F).put p else S.lf F) else S.put p) ∧ (S.goC F base p = if base + S.D < lsn then (if S.lok F then wrC (S.lf F).off (S.lf F).fuse else 101) else wrC S.off S.fuse) ∧ ∀ R : PSt, R.put p = if wrC R.off R.fuse = 0 then ⟨(R.wr s (pageB lsn es)).vss, (R.wr s (pageB lsn es)).off, (R.wr s (pageB lsn es)).fuse, R.ep, R.rs, R.D, remE s R.es, R.ps⟩ else R.wr s (pageB lsn es)) := by
    refine ⟨by rw [hlsn]; rfl, by rw [hlsn]; rfl, fun R => ?_⟩
    unfold PSt.put
    rw [hps, ← hlsn, ← hes]
    rfl
  clear h hn hd q1 q2 q3 hc hlb hrow hpok hko hsv hok hm hidx hat hf hfp hfm hp1 hp2 hps hbd hlsn hes
  go_enter Tryd.func29, Tryd.ntmps29
  go_wp2_with fail
  refine (pfind_any P (some ⟨b, off, none⟩) m fc fs s k w (HH.out.c4 HM.out) HH.out.own.row HM.out HIDX.out).mono ?_
  rintro e w1 ⟨rfl, hb⟩
  have HH1 := hide (HH.out.below hb)
  have HB1 := hide hb
  clear hb HIDX
  go_wp2_with fail
  refine (tfrom_any HH1.out.tab s HW.out).mono ?_
  rintro e w2 ⟨rfl, hb⟩
  have HH2 := hide (HH1.out.below hb)
  have HB2 := hide (over HB1.out hb HB1.out.size)
  obtain ⟨v0, hv0⟩ : ∃ v0, v0 = (valE S.es s).getD 0 := ⟨_, rfl⟩
  rw [← hv0, HD.out]
  clear hb hv0 HH1 HB1 HD
  have hki : (k : Int) < (m : Int) := by omega
  have hk0 : decide ((k : Int) < 0) = false := by simp
  have c4 := HH2.out.c4 HM.out
  have q2 := (HB2.out.cell (p := ⟨b, off + k * 3 + 1, none⟩) HLB.out).trans HQ2.out
  have q3 := (HB2.out.cell (p := ⟨b, off + k * 3 + 2, none⟩) HLB.out).trans HQ3.out
  have hbx := below_box w2 (pageBlock lsn f.ao ko f.c)
  have hsx : w2.heap.size < (w2.alloc (pageBlock lsn f.ao ko f.c)).heap.size := by simp
  have HH3 := hide (HH2.out.wide hbx)
  have HB3 := hide (over HB2.out hbx HB2.out.size)
  have HP3 := hide (pblk_new w2 lsn f.ao ko f.c)
  have HIN : Hid (wider K w2.heap.size (w2.alloc (pageBlock lsn f.ao ko f.c)).heap.size w2.heap.size) := .inr ⟨Nat.le_refl _, hsx⟩
  unfold pageBlock at HH3 HB3 HP3 HIN
  clear hbx hsx HQ2 HQ3 HLB
  go_upto_region 6 with fail
  clear c4 q2 q3
  obtain ⟨X, hX⟩ : ∃ X, X = w2.alloc (.cells #[.int .i64 lsn, .slice f.ao ko f.c] 34) := ⟨_, rfl⟩
  rw [← hX] at HH3 HB3 HP3 HIN ⊢
  obtain ⟨B, hB⟩ : ∃ B, B = w2.heap.size := ⟨_, rfl⟩
  rw [← hB] at HP3 HH3 HIN ⊢
  clear hX hB HH2 HB2
  have HKX : Hid (Kept K w X) := Kept.of_below HB3.out HH.out.low
  have QD : Hid (∀ m, Calls Tryd.prog 17 #[.pointer (some ⟨l, 0, none⟩)] (X.drewN m) fun e w' => e = .returned (.int .i64 (base + S.D)) ∧ ∃ k, w' = (X.drewN m).drewN k) := fun m => wdone_any (HH3.out.log.drewN m)
  have c2 := HH3.out.c2
  have p0 := HP3.out.c0
  have hb0 := HBD.out.1
  have hb1 := HBD.out.2
  have hl0 := HLS.out.l0
  have hl1 := HLS.out.l1
  clear HB3 HH
  go_quiet (first | (go_at_call 17; exact Calls.quiet_of (QD.out _)))
  have HH4 : Hid (∀ q, PoolOf (X.drewN q) (wider K B X.heap.size) a P l d F N base most mb (some ⟨b, off, none⟩) fc fs T S) := fun q => HH3.out.drewN q
  have HK4 : Hid (∀ q, Kept K w (X.drewN q)) := fun q => HKX.out.drewN q
  have HP4 : Hid (∀ q, PBlk (X.drewN q) B lsn f.ao ko f.c) := fun q => HP3.out
  clear QD HH3 HKX HP3 p0
  by_cases hlt : base + (S.D : Int) < lsn
  · have HGC : Hid (S.go F base p = (if S.lok F then (S.lf F).put p else S.lf F) ∧ S.goC F base p = (if S.lok F then wrC (S.lf F).off (S.lf F).fuse else 101)) := by
      show _ ∧ _
      rw [HGP.out.1, HGP.out.2.1, if_pos hlt, if_pos hlt]
      exact ⟨rfl, rfl⟩
    go_wp2_with fail
    clear c2
    refine ((HH4.out _).lflush (HOK.out.vers.mono (by omega))).mono ?_
    rintro e w4 ⟨rfl, hp4, hk4⟩
    have HH5 := hide hp4
    have HK5 := hide ((HK4.out _).trans (hk4.mono fun k hk => .inl hk))
    have HP5 : Hid (PBlk w4 B lsn f.ao ko f.c) := (hk4.block B HIN.out).trans (HP4.out _)
    clear hp4 hk4 HH4 HK4 HP4
    cases hlk : S.lok F with
    | false =>
      rw [hlk] at HGC
      rw [show flE (a 0) false = errV (a 0) from rfl]
      have HH6 := hide (HH5.out.narrow (K := K) (fun k hk => .inl hk) HNM.out)
      clear hlk HH5
      unfold errV
      go_wp2_with fail
      go_ret
      refine ⟨_, rfl, .inr ⟨0, by omega, rfl, HGC.out.2⟩, ?_, HK5.out⟩
      rw [HGC.out.1]
      exact HH6.out
    | true =>
      rw [hlk] at HGC
      rw [show flE (a 0) true = .nilIface from rfl]
      replace HGC : Hid (S.go F base p = (S.lf F).put p ∧ S.goC F base p = wrC (S.lf F).off (S.lf F).fuse) := HGC
      clear hlk
      have p0 := HP5.out.c0
      have p1 := HP5.out.c1
      go_wp2_with fail
      clear p0 p1
      have hrow : EntRow w4 f.ao es := by have := (HH5.out.ents f HFM.out.1).row; rw [HFM.out.2] at this; exact this
      refine (pwrite_any HH5.out s (by first | exact HSV.out | (rw [length_lf]; exact HSV.out)) lsn f.ao ko f.c es hrow HKO.out HPOK.out (by first | exact HOK.out.wrv (by omega) s | exact Nat.le_trans (verBd_lf HOK.out.vers hV1 s) (by omega))).mono ?_
      rintro e w5 ⟨fv, rfl, hcd, hp5, hk5⟩
      have HH5 := hide hp5
      have HK5 := hide (HK5.out.trans (hk5.mono fun k hk => .inl (.inl hk)))
      clear hp5 hk5 hrow
      obtain ⟨cd, hcde⟩ : ∃ cd, cd = wrC (S.lf F).off (S.lf F).fuse := ⟨_, rfl⟩
      have HCE := hide hcde
      rw [← hcde] at hcd
      clear hcde
      rcases code_cases hcd with ⟨h0, rfl⟩ | ⟨h0, i, hi, rfl, hc⟩
      · have H0 := hide h0
        clear hcd h0
        go_wp2_with fail
        refine (HH5.out.dropped s HW.out).mono ?_
        rintro e w6 ⟨rfl, hp6, hk6⟩
        have HH6 := hide (hp6.narrow (K := K) (fun k hk => .inl hk) HNM.out)
        have HK6 := hide (HK5.out.trans (hk6.mono fun k hk => .inl hk))
        have HRP := hide (HGP.out.2.2 (S.lf F))
        obtain ⟨bv, hbv⟩ : ∃ bv, bv = hasE ((S.lf F).wr s (pageB lsn es)).es s := ⟨_, rfl⟩
        rw [← hbv]
        clear hp6 hk6 HH5 HK5 hbv
        go_wp2_with fail
        go_ret
        refine ⟨_, rfl, .inl ⟨rfl, HGC.out.2.trans (HCE.out.symm.trans H0.out)⟩, ?_, HK6.out⟩
        rw [HGC.out.1, HRP.out, if_pos (HCE.out.symm.trans H0.out)]
        exact HH6.out
      · have HIC : Hid (i < 18 ∧ cd = 101 + (i : Int)) := ⟨hi, hc⟩
        have H0 := hide h0
        clear hcd h0 hi hc
        have HRP := hide (HGP.out.2.2 (S.lf F))
        have HH6 := hide (HH5.out.narrow (K := K) (fun k hk => .inl hk) HNM.out)
        unfold errV
        go_wp2_with fail
        go_ret
        refine ⟨_, rfl, .inr ⟨i, HIC.out.1, rfl, HGC.out.2.trans (HCE.out.symm.trans HIC.out.2)⟩, ?_, HK5.out⟩
        rw [HGC.out.1, HRP.out, if_neg (fun h => H0.out (HCE.out.trans h))]
        exact HH6.out
  · have hlt' : decide (base + (S.D : Int) < lsn) = false := by simp; omega
    have HGC : Hid (S.go F base p = S.put p ∧ S.goC F base p = wrC S.off S.fuse) := by
      show _ ∧ _
      rw [HGP.out.1, HGP.out.2.1, if_neg hlt, if_neg hlt]
      exact ⟨rfl, rfl⟩
    clear c2
    have p0 : X.cell? ⟨B, 0, none⟩ = some (.int .i64 lsn) := (HP4.out 0).c0
    have p1 : X.cell? ⟨B, 1, none⟩ = some (.slice f.ao ko f.c) := (HP4.out 0).c1
    go_wp2_with fail
    clear p0 p1
    have hrow : EntRow (X.drewN nq) f.ao es := by have := ((HH4.out nq).ents f HFM.out.1).row; rw [HFM.out.2] at this; exact this
    refine (pwrite_any (HH4.out nq) s (by first | exact HSV.out | (rw [length_lf]; exact HSV.out)) lsn f.ao ko f.c es hrow HKO.out HPOK.out (by first | exact HOK.out.wrv (by omega) s | exact Nat.le_trans (verBd_lf HOK.out.vers hV1 s) (by omega))).mono ?_
    rintro e w5 ⟨fv, rfl, hcd, hp5, hk5⟩
    have HH5 := hide hp5
    have HK5 := hide ((HK4.out nq).trans (hk5.mono fun k hk => .inl (.inl hk)))
    clear hp5 hk5 hrow
    obtain ⟨cd, hcde⟩ : ∃ cd, cd = wrC (S).off (S).fuse := ⟨_, rfl⟩
    have HCE := hide hcde
    rw [← hcde] at hcd
    clear hcde
    rcases code_cases hcd with ⟨h0, rfl⟩ | ⟨h0, i, hi, rfl, hc⟩
    · have H0 := hide h0
      clear hcd h0
      go_wp2_with fail
      refine (HH5.out.dropped s HW.out).mono ?_
      rintro e w6 ⟨rfl, hp6, hk6⟩
      have HH6 := hide (hp6.narrow (K := K) (fun k hk => .inl hk) HNM.out)
      have HK6 := hide (HK5.out.trans (hk6.mono fun k hk => .inl hk))
      have HRP := hide (HGP.out.2.2 (S))
      obtain ⟨bv, hbv⟩ : ∃ bv, bv = hasE ((S).wr s (pageB lsn es)).es s := ⟨_, rfl⟩
      rw [← hbv]
      clear hp6 hk6 HH5 HK5 hbv
      go_wp2_with fail
      go_ret
      refine ⟨_, rfl, .inl ⟨rfl, HGC.out.2.trans (HCE.out.symm.trans H0.out)⟩, ?_, HK6.out⟩
      rw [HGC.out.1, HRP.out, if_pos (HCE.out.symm.trans H0.out)]
      exact HH6.out
    · have HIC : Hid (i < 18 ∧ cd = 101 + (i : Int)) := ⟨hi, hc⟩
      have H0 := hide h0
      clear hcd h0 hi hc
      have HRP := hide (HGP.out.2.2 (S))
      have HH6 := hide (HH5.out.narrow (K := K) (fun k hk => .inl hk) HNM.out)
      unfold errV
      go_wp2_with fail
      go_ret
      refine ⟨_, rfl, .inr ⟨i, HIC.out.1, rfl, HGC.out.2.trans (HCE.out.symm.trans HIC.out.2)⟩, ?_, HK5.out⟩
      rw [HGC.out.1, HRP.out, if_neg (fun h => H0.out (HCE.out.trans h))]
      exact HH6.out
end
end Go.Proofs.YtjacenhblclkaaaDoor

/- What a pool's Evict answers, and what it makes of a state. -/
namespace Go.Proofs.YtjacenhblclkaaaDoor
open Go.RowKit
set_option linter.unusedVariables false

section
variable {w w' w1 : World} {K : Nat → Prop} {a : Nat → Addr} {P l d F N : Nat} {base most : Int} {mb : Option Nat} {fo : Option Addr} {fc : Nat} {fs fs' : List Fr} {T : Nat} {S : PSt}
theorem length_wrV (vss : List (List (List Int))) (off : Bool) (s : Nat) (b : List Int) : (wrV vss off s b).length = vss.length := by
  unfold wrV
  split
  · rfl
  · exact length_addS _ _ _
theorem verBd_wrV {vss : List (List (List Int))} {V : Nat} (h : verBd vss V) (off : Bool) (s : Nat) (b : List Int) : verBd (wrV vss off s b) (V + 1) := by
  unfold wrV
  split
  · exact h.mono (by omega)
  · intro i
    refine Nat.le_trans (addS_len _ _ _ _) ?_
    have h1 := h i
    have h2 := h s
    split <;> omega
theorem put_ps (S : PSt) (p : Pg) : (S.put p).ps = S.ps ∧ (S.put p).vss = wrV S.vss S.off p.n.toNat (pageB p.lsn p.es) := by
  unfold PSt.put
  split <;> exact ⟨rfl, rfl⟩
theorem go_ps (S : PSt) (F : Nat) (base : Int) (p : Pg) : (S.go F base p).ps = S.ps ∧ (S.go F base p).vss.length = S.vss.length ∧ ∀ V, 1 ≤ V → verBd S.vss V → verBd (S.go F base p).vss (V + 2) := by
  unfold PSt.go
  split
  · split
    · refine ⟨(put_ps _ _).1, by rw [(put_ps _ _).2, length_wrV, length_lf], fun V h1 hV => ?_⟩
      rw [(put_ps _ _).2]
      exact verBd_wrV (verBd_lf hV h1) _ _ _
    · exact ⟨rfl, length_lf _ _, fun V h1 hV => (verBd_lf hV h1).mono (by omega)⟩
  · refine ⟨(put_ps _ _).1, by rw [(put_ps _ _).2, length_wrV], fun V h1 hV => ?_⟩
    rw [(put_ps _ _).2]
    exact (verBd_wrV hV _ _ _).mono (by omega)
theorem flush_ps (S : PSt) (F : Nat) (base n : Int) : (S.flush F base n).ps = S.ps ∧ (S.flush F base n).vss.length = S.vss.length ∧ ∀ V, 1 ≤ V → verBd S.vss V → verBd (S.flush F base n).vss (V + 2) := by
  unfold PSt.flush
  split
  · exact ⟨rfl, rfl, fun V h1 hV => hV.mono (by omega)⟩
  · split
    · exact go_ps S F base _
    · exact ⟨rfl, rfl, fun V h1 hV => hV.mono (by omega)⟩
theorem PSt.Ok.flush {V : Nat} (h : S.Ok V) (hV : 1 ≤ V) (F : Nat) (base n : Int) : (S.flush F base n).Ok (V + 2) := by
  obtain ⟨h1, h2, h3⟩ := flush_ps S F base n
  refine ⟨fun p hp => ?_, h3 V hV h.vers, by rw [h1]; exact h.few⟩
  rw [h1] at hp
  rw [h2]
  exact h.page p hp
/-- Flush, told in one. -/
theorem pflush_any {V : Nat} (h : PoolOf w K a P l d F N base most mb fo fc fs T S) (hok : S.Ok V) (hV1 : 1 ≤ V) (hV : V ≤ 990) (n : Int) (hn : (Lit.int .i64 n).wf = true) :
    Calls Tryd.prog 29 #[.pointer (some ⟨P, 0, none⟩), .int .i64 n] w fun e w' => putPost w K a P l d F N base most mb fo fc fs T (S.flush F base n) (S.flushC F base n) e w' := by
  rcases at_or_not S.ps n with h1 | ⟨k, p, hat⟩
  · have e1 : S.flush F base n = S := by unfold PSt.flush; rw [getP_none h1]
    have e2 : S.flushC F base n = 0 := by unfold PSt.flushC; rw [getP_none h1]
    rw [e1, e2]
    exact (pflush_none h n hn (.inl h1)).mono fun e w' hh => ⟨_, hh.1, .inl ⟨rfl, rfl⟩, hh.2.1, hh.2.2⟩
  · cases hd : hasE S.es n with
    | false =>
      have e1 : S.flush F base n = S := by unfold PSt.flush; rw [getP_at hat]; simp [hd]
      have e2 : S.flushC F base n = 0 := by unfold PSt.flushC; rw [getP_at hat]; simp [hd]
      rw [e1, e2]
      exact (pflush_none h n hn (.inr hd)).mono fun e w' hh => ⟨_, hh.1, .inl ⟨rfl, rfl⟩, hh.2.1, hh.2.2⟩
    | true =>
      have e1 : S.flush F base n = S.go F base p := by unfold PSt.flush; rw [getP_at hat]; simp [hd]
      have e2 : S.flushC F base n = S.goC F base p := by unfold PSt.flushC; rw [getP_at hat]; simp [hd]
      rw [e1, e2]
      exact pflush_go h hok hV1 hV n hn hat hd
/-- One page less is here. -/
def PSt.less (S : PSt) (k : Nat) : PSt := ⟨S.vss, S.off, S.fuse, S.ep, S.rs, S.D, S.es, S.ps.take k ++ S.ps.drop (k + 1)⟩
/-- The frame that a hint tells. -/
def hintK (hint : Int) (n : Nat) : Nat := ((max hint 0) % (n : Int)).toNat
/-- What Evict makes of a state; its code. -/
def PSt.evict (S : PSt) (F : Nat) (base hint : Int) : PSt := match S.ps[hintK hint S.ps.length]? with | none => S | some p => if S.flushC F base p.n = 0 then (S.flush F base p.n).less (hintK hint S.ps.length) else S.flush F base p.n
def PSt.evictC (S : PSt) (F : Nat) (base hint : Int) : Int := match S.ps[hintK hint S.ps.length]? with | none => 0 | some p => S.flushC F base p.n
theorem PSt.Ok.less {V : Nat} (h : S.Ok V) (k : Nat) : (S.less k).Ok V := by
  refine ⟨fun p hp => h.page p ?_, h.vers, ?_⟩
  · rcases List.mem_append.1 hp with h1 | h1
    · exact List.mem_of_mem_take h1
    · exact List.mem_of_mem_drop h1
  · have := h.few
    show (S.ps.take k ++ S.ps.drop (k + 1)).length ≤ 8
    rw [List.length_append, List.length_take, List.length_drop]
    omega
theorem PSt.Ok.evict {V : Nat} (h : S.Ok V) (hV : 1 ≤ V) (F : Nat) (base hint : Int) : (S.evict F base hint).Ok (V + 2) := by
  unfold PSt.evict
  split
  · exact ⟨h.page, h.vers.mono (by omega), h.few⟩
  · split
    · exact (h.flush hV F base _).less _
    · exact h.flush hV F base _
/-- A frame is taken out of the list. -/
theorem PoolOf.deleted {g m : Nat} {ps' : List Pg} (h : PoolOf w K a P l d F N base most mb (some ⟨g, 0, none⟩) fc fs T S) (hp : fs ≠ []) (hb : But g w w1) (hown : OwnF w1 0 (some ⟨g, 0, none⟩) fc fs') (hm : fs'.length = m) (hsub : ∀ f ∈ fs', f ∈ fs) (hps : fs'.map (·.pg) = ps') :
    PoolOf (w1.setCell ⟨P, 4, none⟩ (.slice (some ⟨g, 0, none⟩) m fc)) K a P l d F N base most mb (some ⟨g, 0, none⟩) fc fs' T ⟨S.vss, S.off, S.fuse, S.ep, S.rs, S.D, S.es, ps'⟩ ∧ Kept K w (w1.setCell ⟨P, 4, none⟩ (.slice (some ⟨g, 0, none⟩) m fc)) := by
  subst hm
  have hg : (Value.slice (some ⟨g, 0, none⟩) fs.length fc).ownBlock = some g := rfl
  obtain ⟨cur, hcur⟩ := owns_type h.own.1 hg
  have hgP : g ≠ P := by
    rintro rfl
    rw [h.head] at hcur
    simp at hcur
  have hP1 : w1.heap[P]? = some (.cells (poolCells mb d l most (.slice (some ⟨g, 0, none⟩) fs.length fc)) 86 (0, 0)) := by rw [hb.block P h.lt (Ne.symm hgP)]; exact h.head
  have hP2 := set_block hP1 4 (.slice (some ⟨g, 0, none⟩) fs'.length fc)
  have hold : ∀ k, k < w.heap.size → k ≠ P → k ≠ g → (w1.setCell ⟨P, 4, none⟩ (.slice (some ⟨g, 0, none⟩) fs'.length fc)).heap[k]? = w.heap[k]? := fun k hk h1 h2 => by
    rw [Below.heap_setCell _ _ _ _ h1]
    exact hb.block k hk h2
  refine h.stay (w' := w1.setCell ⟨P, 4, none⟩ (.slice (some ⟨g, 0, none⟩) fs'.length fc)) ⟨hb.os, hb.tape, hb.output⟩ (by simpa [World.setCell] using hb.size) (fun k hk h1 _ h3 => hold k hk h1 fun e => h3 (by rw [e, hg])) hP2 ⟨⟨_, _, hP2, rfl⟩, h.tab.up, h.tab.nil, fun b e => ownsMap_of (h.tab.own b e) (hold b (h.tab.own b e).lt ?_ ?_)⟩ (hown.of_block fun k hk => ?_) hps (fun f hf => (h.ents f (hsub f hf)).of_own fun k hk => ?_) (.inl rfl) (fun k hk => .inl hk) fun f hf k hk => .inl ⟨f, hsub f hf, hk⟩
  · exact h.tab.ne e
  · rintro rfl
    obtain ⟨es, clock, h1, _⟩ := h.tab.own _ e
    rw [h1] at hcur
    simp at hcur
  · have : k = g := by
      have h2 : some g = some k := hk
      simpa using h2.symm
    subst this
    exact Below.heap_setCell _ _ _ _ hgP
  · obtain ⟨a1, a2, a3⟩ := h.apart (hsub f hf) hk
    exact hold k ((h.ents f (hsub f hf)).1.lt k hk).2 a1 fun e => a3 (by rw [e, hg])
end
end Go.Proofs.YtjacenhblclkaaaDoor

/- What a pool's Evict answers: the walk. -/
namespace Go.Proofs.YtjacenhblclkaaaDoor
open Go.RowKit
set_option linter.unusedVariables false

section
variable {w w' w1 : World} {K : Nat → Prop} {a : Nat → Addr} {P l d F N : Nat} {base most : Int} {mb : Option Nat} {fo : Option Addr} {fc : Nat} {fs fs' : List Fr} {T : Nat} {S : PSt}
theorem hintK_lt (hint : Int) {n : Nat} (h : 0 < n) : hintK hint n < n := by
  have h1 := Int.emod_nonneg (max hint 0) (show (n : Int) ≠ 0 by omega)
  have h2 := Int.emod_lt_of_pos (max hint 0) (show (0 : Int) < (n : Int) by omega)
  unfold hintK
  omega
theorem hintK_cast (hint : Int) {n : Nat} (h : 0 < n) : ((hintK hint n : Nat) : Int) = max hint 0 % (n : Int) := by
  have h1 := Int.emod_nonneg (max hint 0) (show (n : Int) ≠ 0 by omega)
  unfold hintK
  omega
set_option maxRecDepth 100000 in
set_option maxHeartbeats 8000000 in
theorem pevict_any {V : Nat} (h : PoolOf w K a P l d F N base most mb fo fc fs T S) (hok : S.Ok V) (hV1 : 1 ≤ V) (hV : V ≤ 980) (hint : Int) :
    Calls Tryd.prog 33 #[.pointer (some ⟨P, 0, none⟩), .int .i64 hint] w fun e w' => ∃ fv fs', e = .returned fv ∧ ErrCode a fv (S.evictC F base hint) ∧ PoolOf w' K a P l d F N base most mb fo fc fs' T (S.evict F base hint) ∧ Kept K w w' := by
  obtain ⟨m, hm⟩ : ∃ m, fs.length = m := ⟨_, rfl⟩
  have hml : S.ps.length = m := by rw [← h.len, hm]
  have HH := hide h
  have HM := hide hm
  by_cases hm0 : m = 0
  · have e1 : S.evict F base hint = S := by unfold PSt.evict; rw [List.getElem?_eq_none (by omega)]
    have e2 : S.evictC F base hint = 0 := by unfold PSt.evictC; rw [List.getElem?_eq_none (by omega)]
    rw [e1, e2]
    have c4 := h.c4 hm
    subst hm0
    clear h hm hml e1 e2
    go_enter Tryd.func33, Tryd.ntmps33
    go_wp2_with fail
    go_ret
    exact ⟨_, fs, rfl, .inl ⟨rfl, rfl⟩, HH.out, Kept.refl _ _⟩
  · obtain ⟨i, hi⟩ : ∃ i, i = hintK hint m := ⟨_, rfl⟩
    have him : i < m := by rw [hi]; exact hintK_lt hint (by omega)
    have hic : max hint 0 % (m : Int) = (i : Int) := by rw [hi]; exact (hintK_cast hint (by omega)).symm
    obtain ⟨f, hf⟩ : ∃ f, fs[i]? = some f := ⟨fs[i]'(by omega), List.getElem?_eq_getElem _⟩
    have hp : S.ps[i]? = some f.pg := by rw [← h.pages, List.getElem?_map, hf]; rfl
    have HE : Hid (S.evict F base hint = (if S.flushC F base f.pg.n = 0 then (S.flush F base f.pg.n).less i else S.flush F base f.pg.n) ∧ S.evictC F base hint = S.flushC F base f.pg.n) := by
      refine ⟨?_, ?_⟩
      · unfold PSt.evict; rw [hml, ← hi, hp]
      · unfold PSt.evictC; rw [hml, ← hi, hp]
    have hpg := hok.page f.pg (List.mem_of_getElem? hp)
    have hmany := h.many
    obtain ⟨n, hn⟩ : ∃ n, n = f.pg.n := ⟨_, rfl⟩
    rw [← hn] at HE hpg
    have HW : Hid ((Lit.int .i64 n).wf = true) := wf_at hpg.2.1 hpg.2.2 (by omega)
    obtain ⟨b, off, hfo, hlb, hc⟩ := h.own.row.2 (by omega)
    obtain ⟨q1, q2, q3⟩ := hc i f hf
    obtain ⟨g, hg0⟩ : ∃ g, fo = some ⟨g, 0, none⟩ := by
      rcases h.own.1.2 with ⟨e, h0⟩ | ⟨g, c, cur, hv, _⟩
      · omega
      · simp only [Value.slice.injEq] at hv
        exact ⟨g, hv.1⟩
    subst hg0
    simp only [Option.some.injEq, Addr.mk.injEq] at hfo
    obtain ⟨rfl, rfl, _⟩ := hfo
    rw [← hn] at q1
    have c4 := h.c4 hm
    have HOK := hide hok
    have HF := hide hf
    have hmi : (0 : Int) < (m : Int) := by omega
    have hki : (i : Int) < (m : Int) := by omega
    have hm9 : m ≤ 8 := by have := hok.few; omega
    have HMI := hide hic
    clear h hm hok hi hf hp hn hpg hc q2 q3 hmany hml hlb hic
    rw [Nat.zero_add] at q1
    go_enter Tryd.func33, Tryd.ntmps33
    go_upto_region 4 with fail
    rw [HMI.out]
    clear HMI
    go_wp2_with fail
    clear c4 q1
    refine (pflush_any HH.out HOK.out hV1 (by omega) n HW.out).mono ?_
    rintro e w2 ⟨fv, rfl, hcd, hp2, hk2⟩
    have HH2 := hide hp2
    have HK2 := hide hk2
    clear hp2 hk2 HH
    obtain ⟨cd, hcde⟩ : ∃ cd, cd = S.flushC F base n := ⟨_, rfl⟩
    rw [← hcde] at HE hcd
    obtain ⟨S2, hS2⟩ : ∃ S2, S2 = S.flush F base n := ⟨_, rfl⟩
    rw [← hS2] at HE HH2
    clear hcde hS2
    rcases code_cases hcd with ⟨h0, rfl⟩ | ⟨h0, j, hj, rfl, hc⟩
    · subst h0
      rw [if_pos rfl] at HE
      obtain ⟨m', hm'⟩ : ∃ m', m = m' + 1 := ⟨m - 1, by omega⟩
      subst hm'
      have c4 := HH2.out.c4 HM.out
      obtain ⟨cur, hh, h4, h5, h6, h7⟩ : ∃ cur : Array Value, w2.heap[g]? = some (.cells cur 90 (0, 0)) ∧ m' + 1 ≤ fc ∧ fc ≤ maxLen ∧ cur.size = fc * 3 ∧ cur.toList.take ((m' + 1) * 3) = frCells fs := by
        rcases HH2.out.own.1.2 with ⟨e, h0⟩ | ⟨g', c', cur, hv, hg, hh, h4, h5, h6, h7⟩
        · rw [HM.out] at h0; omega
        · simp only [Value.slice.injEq, Option.some.injEq, Addr.mk.injEq] at hv
          obtain ⟨⟨rfl, _⟩, _, rfl⟩ := hv
          rw [HM.out] at h4 h7
          exact ⟨cur, hh, h4, h5, h6, h7⟩
      have HDEL := hide (delete_any 0 g m' fc fs i cur w2 HM.out (by omega) (by omega) (Nat.zero_le _) hh h4 h5 h6 h7)
      have HGP : Hid (g ≠ P) := by
        show g ≠ P
        rintro rfl
        rw [HH2.out.head] at hh
        simp at hh
      clear hcd hh h4 h5 h6 h7
      go_wp2_with fail
      clear c4
      refine HDEL.out.mono ?_
      rintro e w3 ⟨rfl, hown, hbut⟩
      have HO := hide hown
      have HBU := hide hbut
      have hP3 : w3.heap[P]? = some (.cells (poolCells mb d l most (.slice (some ⟨g, 0, none⟩) fs.length fc)) 86 (0, 0)) := by rw [hbut.block P HH2.out.lt (Ne.symm HGP.out)]; exact HH2.out.head
      have f4 := frozen_cells hP3 4
      have c4 : w3.cell? ⟨P, 4, none⟩ = some (.slice (some ⟨g, 0, none⟩) fs.length fc) := (cell_row hP3 4).trans rfl
      clear hown hbut hP3 HDEL
      go_wp2_with fail
      go_ret
      have hd := HH2.out.deleted (m := m') (ps' := S2.ps.take i ++ S2.ps.drop (i + 1)) (fun e => by have := HM.out; rw [e] at this; simp at this) HBU.out HO.out (by have := HM.out; rw [List.length_append, List.length_take, List.length_drop]; omega) (fun f hf => by
        rcases List.mem_append.1 hf with h1 | h1
        · exact List.mem_of_mem_take h1
        · exact List.mem_of_mem_drop h1) (by rw [List.map_append, List.map_take, List.map_drop, HH2.out.pages])
      exact ⟨_, _, rfl, .inl ⟨rfl, HE.out.2⟩, by rw [HE.out.1]; exact hd.1, HK2.out.trans hd.2⟩
    · rw [if_neg h0] at HE
      have HIC : Hid (j < 18 ∧ cd = 101 + (j : Int)) := ⟨hj, hc⟩
      clear hcd h0 hj hc
      unfold errV
      go_wp2_with fail
      go_ret
      exact ⟨_, fs, rfl, .inr ⟨j, HIC.out.1, rfl, HE.out.2.trans HIC.out.2⟩, by rw [HE.out.1]; exact HH2.out, HK2.out⟩
end
end Go.Proofs.YtjacenhblclkaaaDoor

/- What a pool's read answers. -/
namespace Go.Proofs.YtjacenhblclkaaaDoor
open Go.RowKit
set_option linter.unusedVariables false

/-- An error as a value: none, one of the document's, or one around a page. -/
def FaultOf (w : World) (a : Nat → Addr) (fv : Value) (cd : Int) (pl : Bool) (pos : Int) : Prop :=
  (ErrCode a fv cd ∧ pl = false ∧ pos = 0) ∨ (∃ b, fv = atV ⟨b, 0, none⟩ ∧ cd = 107 ∧ pl = true ∧ w.heap[b]? = some (.cells #[.int .i64 pos, errV (a 6)] 118 (0, 0)))
theorem FaultOf.below {w w' : World} {a : Nat → Addr} {fv : Value} {cd pos : Int} {pl : Bool} (h : FaultOf w a fv cd pl pos) (hb : Below w.heap.size w w') : FaultOf w' a fv cd pl pos := by
  rcases h with h | ⟨b, h1, h2, h3, h4⟩
  · exact .inl h
  · exact .inr ⟨b, h1, h2, h3, (hb.block b (lt_of_block h4)).trans h4⟩
theorem FaultOf.set {w : World} {a : Nat → Addr} {fv : Value} {cd pos : Int} {pl : Bool} (h : FaultOf w a fv cd pl pos) {Z : Nat} {c : Array Value} (hz : w.heap[Z]? = some (.cells c 34 (0, 0))) (i : Nat) (v : Value) : FaultOf (w.setCell ⟨Z, i, none⟩ v) a fv cd pl pos := by
  rcases h with h | ⟨b, h1, h2, h3, h4⟩
  · exact .inl h
  · refine .inr ⟨b, h1, h2, h3, ?_⟩
    rw [Below.heap_setCell _ _ _ _ (show b ≠ Z by rintro rfl; rw [hz] at h4; simp at h4)]
    exact h4
/-- What a sector reads as; the code, whether it is around a page, which. -/
def PSt.sec (S : PSt) (n : Int) : List Int := lastV (S.vss.getD n.toNat [])
def PSt.rdC (S : PSt) (n : Int) : Int := if S.off then 101 else if n < 0 ∨ (S.vss.length : Int) ≤ n then 102 else if isPage (S.sec n) then 0 else 107
def PSt.rdP (S : PSt) (n : Int) : Bool := decide (S.rdC n = 107)
def PSt.rdN (S : PSt) (n : Int) : Int := if S.rdC n = 107 then n else 0
def RdPost (w0 : World) (a : Nat → Addr) (S : PSt) (n : Int) (e : Ending) (w' : World) : Prop :=
  Below w0.heap.size w0 w' ∧ ((S.rdC n = 0 ∧ ∃ mo c, e = .returned (.tuple #[pageV (lsnOf (S.sec n)) mo (keysOf (S.sec n)) c, .nilIface]) ∧ OwnE w' w0.heap.size mo c (entsOf (S.sec n))) ∨
    (S.rdC n ≠ 0 ∧ ∃ fv, e = .returned (.tuple #[pageV 0 none 0 0, fv]) ∧ FaultOf w' a fv (S.rdC n) (S.rdP n) (S.rdN n) ∧ ∀ b, fv = atV ⟨b, 0, none⟩ → w0.heap.size ≤ b))
section
variable {w w' w1 : World} {K : Nat → Prop} {a : Nat → Addr} {P l d F N : Nat} {base most : Int} {mb : Option Nat} {fo : Option Addr} {fc : Nat} {fs fs' : List Fr} {T : Nat} {S : PSt}
theorem rdPost_err {w0 : World} {n : Int} {i : Nat} (hb : Below w0.heap.size w0 w) (hi : i < 18) (hc : S.rdC n = 101 + (i : Int)) (h6 : i ≠ 6) : RdPost w0 a S n (.returned (.tuple #[pageV 0 none 0 0, errV (a i)])) w := by
  refine ⟨hb, .inr ⟨by omega, _, rfl, .inl ⟨.inr ⟨i, hi, rfl, hc⟩, ?_, ?_⟩, fun b e => by simp [errV, atV] at e⟩⟩
  · unfold PSt.rdP; rw [hc]; simp; omega
  · unfold PSt.rdN; rw [if_neg (by omega)]
set_option maxRecDepth 100000 in
set_option maxHeartbeats 8000000 in
theorem poread_any (h : PoolOf w K a P l d F N base most mb fo fc fs T S) (n : Int) :
    Calls Tryd.prog 34 #[.pointer (some ⟨P, 0, none⟩), .int .i64 n] w fun e w' => RdPost w a S n e w' := by
  have hb1 := below_box w (pageBlock 0 none 0 0)
  have HH := hide (h.below hb1)
  have HB := hide hb1
  have HZ := hide (pblk_new w 0 none 0 0)
  have HN6 : Hid (¬ w.heap.size = 4 ∧ ¬ 4 = w.heap.size) := by have h6 : 4 < w.heap.size := World.block_lt_of_cell? w _ h.pg.page; show _ ∧ _; omega
  have HLO : Hid (w.heap.size ≤ w.heap.size) := Nat.le_refl _
  unfold pageBlock at HH HZ HB
  clear h hb1
  go_enter Tryd.func34, Tryd.ntmps34
  go_upto_region 1 with fail
  obtain ⟨X, hX⟩ : ∃ X, X = w.alloc (.cells #[.int .i64 0, .slice none 0 0] 34) := ⟨_, rfl⟩
  rw [← hX] at HH HZ HB ⊢
  obtain ⟨B, hB⟩ : ∃ B, B = w.heap.size := ⟨_, rfl⟩
  have HBL : Hid (w.heap.size ≤ B) := by show _ ≤ B; omega
  rw [← hB] at HZ HN6 ⊢
  clear hX hB HLO
  have c1 := HH.out.c1
  have hdk := HH.out.log.disk
  cases ho : S.off with
  | true =>
    rw [ho] at hdk
    have HD := hide hdk
    have HC : Hid (S.rdC n = 101) := by show S.rdC n = 101; unfold PSt.rdC; rw [ho]; rfl
    clear hdk ho
    go_wp2_with fail
    clear c1
    refine (read_off d n HD.out).mono ?_
    rintro e w2 ⟨rfl, hb⟩
    have HZ2 := hide (HZ.out.step hb)
    have HB2 := hide (over HB.out hb HB.out.size)
    clear hb HZ HB HD HH
    have z0 := HZ2.out.c0
    have z1 := HZ2.out.c1
    have g0 := HZ2.out.fz 0
    have g1 := HZ2.out.fz 1
    unfold errV
    go_wp2_with fail
    refine bodyPost_ret (v := .tuple #[.agg #[.int .i64 0, .slice none 0 0], .iface 168 (.pointer (some (a 0)))]) (by simp [results, Tryd.results34, go_sem, z0, z1]) rfl ?_
    exact rdPost_err ((HB2.out.setCell (p := ⟨B, 0, none⟩) HBL.out _).setCell (p := ⟨B, 1, none⟩) HBL.out _) (by omega) HC.out (by omega)
  | false =>
    rw [ho] at hdk
    by_cases hr : n < 0 ∨ (S.vss.length : Int) ≤ n
    · have HD := hide hdk
      have HC : Hid (S.rdC n = 102) := by show S.rdC n = 102; unfold PSt.rdC; rw [ho]; simp [hr]
      have HS : Hid (hasSec S.vss.length n = false) := by show _ = _; unfold hasSec; simp; omega
      clear hdk ho hr
      go_wp2_with fail
      clear c1
      refine (read_range d n HD.out HS.out).mono ?_
      rintro e w2 ⟨rfl, hb⟩
      have HZ2 := hide (HZ.out.step hb)
      have HB2 := hide (over HB.out hb HB.out.size)
      clear hb HZ HB HD HH
      have z0 := HZ2.out.c0
      have z1 := HZ2.out.c1
      have g0 := HZ2.out.fz 0
      have g1 := HZ2.out.fz 1
      unfold errV
      go_wp2_with fail
      refine bodyPost_ret (v := .tuple #[.agg #[.int .i64 0, .slice none 0 0], .iface 168 (.pointer (some (a 1)))]) (by simp [results, Tryd.results34, go_sem, z0, z1]) rfl ?_
      exact rdPost_err ((HB2.out.setCell (p := ⟨B, 0, none⟩) HBL.out _).setCell (p := ⟨B, 1, none⟩) HBL.out _) (by omega) HC.out (by omega)
    · obtain ⟨s, hs⟩ : ∃ s : Nat, n = s := ⟨n.toNat, by omega⟩
      subst hs
      have hsl : s < S.vss.length := by omega
      have hsec : S.sec s = lastV (S.vss.getD s []) := rfl
      have hrc : S.rdC s = if isPage (S.sec s) then 0 else 107 := by unfold PSt.rdC; rw [ho, if_neg (by simp), if_neg hr]
      have HD := hide hdk
      have HSL := hide hsl
      have HRC := hide hrc
      have HSEC := hide hsec
      clear hdk ho hr hsl hrc hsec
      go_wp2_with fail
      clear c1
      refine (dread_ok d s HD.out HSL.out).mono ?_
      rintro e w2 ⟨g, gc, rfl, hgl, hown, hlen, hb⟩
      rw [← HSEC.out] at hown hlen
      obtain ⟨bs, hbs⟩ : ∃ bs, bs = S.sec s := ⟨_, rfl⟩
      have HBS := hide hbs
      rw [← hbs] at hown hlen HRC
      have HO := hide hown.row
      have HLN := hide hlen
      have HZ2 := hide (HZ.out.step hb)
      have HB2 := hide (over HB.out hb HB.out.size)
      have HH2 := hide (HH.out.below hb)
      clear hb hown hlen hgl hbs HZ HB HD HH HSEC
      go_wp2_with fail
      cases hi : isPage bs with
      | true =>
        refine (pread_ok (some ⟨g, 0, none⟩) gc bs w2 HO.out HH2.out.pg.range HLN.out hi).mono ?_
        rintro e w3 ⟨mo, mc, rfl, hown, hb⟩
        rw [hi] at HRC
        have HOE := hide hown
        have HZ3 := hide (HZ2.out.step hb)
        have HB3 := hide (over HB2.out hb HB2.out.size)
        have HW2 := hide HB2.out.size
        clear hb hown hi HZ2 HB2 HH2 HO
        obtain ⟨L, hL⟩ : ∃ L, L = lsnOf bs := ⟨_, rfl⟩
        obtain ⟨kk, hkk⟩ : ∃ kk, kk = keysOf bs := ⟨_, rfl⟩
        have HL : Hid (lsnOf bs = L ∧ keysOf bs = kk) := ⟨hL.symm, hkk.symm⟩
        rw [← hL, ← hkk]
        clear hL hkk
        unfold pageV
        have hbx := below_box w3 (pageBlock L mo kk mc)
        have HZ4 := hide (HZ3.out.step hbx)
        have HP4 := hide (pblk_new w3 L mo kk mc)
        have HB4 := hide (over HB3.out hbx HB3.out.size)
        have HOE4 := hide ((HOE.out.mono HW2.out).step hbx)
        have HNE : Hid (¬ B = w3.heap.size) := by have := HZ3.out.lt; show ¬ _; omega
        unfold pageBlock at HZ4 HP4 HB4 HOE4
        clear hbx HZ3 HB3 HOE
        go_upto_region 5 with fail
        obtain ⟨X4, hX4⟩ : ∃ X4, X4 = w3.alloc (.cells #[.int .i64 L, .slice mo kk mc] 34) := ⟨_, rfl⟩
        rw [← hX4] at HZ4 HP4 HB4 HOE4 ⊢
        obtain ⟨B4, hB4⟩ : ∃ B4, B4 = w3.heap.size := ⟨_, rfl⟩
        rw [← hB4] at HP4 HNE ⊢
        clear hX4 hB4
        have k0 := HP4.out.c0
        have k1 := HP4.out.c1
        have z0 := HZ4.out.c0
        have z1 := HZ4.out.c1
        have g0 := HZ4.out.fz 0
        have g1 := HZ4.out.fz 1
        have hne : ¬ B = B4 := HNE.out
        have hne2 : ¬ B4 = B := fun e => HNE.out e.symm
        go_wp2_with fail
        refine bodyPost_ret (v := .tuple #[.agg #[.int .i64 L, .slice mo kk mc], .nilIface]) (by simp [results, Tryd.results34, go_sem, z0, z1]) rfl ?_
        refine ⟨(HB4.out.setCell (p := ⟨B, 0, none⟩) HBL.out _).setCell (p := ⟨B, 1, none⟩) HBL.out _, .inl ⟨HRC.out, mo, mc, ?_, ?_⟩⟩
        · rw [← HBS.out, HL.out.1, HL.out.2]
          rfl
        · rw [← HBS.out]
          exact (HOE4.out.setPage HZ4.out 0 _).setPage (set_block HZ4.out 0 _) 1 _
      | false =>
        refine (pread_bad (some ⟨g, 0, none⟩) gc bs w2 HO.out HH2.out.pg.range HH2.out.pg.page HLN.out hi).mono ?_
        rintro e w3 ⟨rfl, hb⟩
        rw [hi] at HRC
        have HZ3 := hide (HZ2.out.step hb)
        have HB3 := hide (over HB2.out hb HB2.out.size)
        have HE3 := hide (HH2.out.pg.step hb)
        clear hb hi HZ2 HB2 HH2 HO
        unfold pageV errV
        have hbx := below_box w3 (pageBlock 0 none 0 0)
        have HZ4 := hide (HZ3.out.step hbx)
        have HB4 := hide (over HB3.out hbx HB3.out.size)
        have HE4 := hide (HE3.out.step hbx)
        unfold pageBlock at HZ4 HB4 HE4
        clear hbx HZ3 HB3 HE3
        go_upto_region 6 with fail
        obtain ⟨X4, hX4⟩ : ∃ X4, X4 = w3.alloc (.cells #[.int .i64 0, .slice none 0 0] 34) := ⟨_, rfl⟩
        obtain ⟨B4, hB4⟩ : ∃ B4, B4 = w3.heap.size := ⟨_, rfl⟩
        rw [← hX4] at HZ4 HB4 HE4 ⊢
        rw [← hB4]
        clear hX4 hB4
        have e6 := HE4.out.page
        unfold errV at e6
        have z0 := HZ4.out.c0
        have z1 := HZ4.out.c1
        have g0 := HZ4.out.fz 0
        have g1 := HZ4.out.fz 1
        have hlt := HZ4.out.lt
        have hn6a : ¬ B = 4 := HN6.out.1
        have hn6b : ¬ 4 = B := HN6.out.2
        have hn6 := World.new_ne X4 ⟨4, 0, none⟩ e6
        have hF : FaultOf (((X4.setCell ⟨B, 0, none⟩ (.int .i64 0)).setCell ⟨B, 1, none⟩ (.slice none 0 0)).alloc (.cells #[.int .i64 s, errV (a 6)] 118)).drew a (atV ⟨X4.heap.size, 0, none⟩) (S.rdC s) (S.rdP s) (S.rdN s) := by
          have hsz : ((X4.setCell ⟨B, 0, none⟩ (.int .i64 0)).setCell ⟨B, 1, none⟩ (.slice none 0 0)).heap.size = X4.heap.size := by simp [World.setCell]
          have hnew := heap_alloc_new ((X4.setCell ⟨B, 0, none⟩ (.int .i64 0)).setCell ⟨B, 1, none⟩ (.slice none 0 0)) (.cells #[.int .i64 s, errV (a 6)] 118)
          rw [hsz] at hnew
          have hnd : (((X4.setCell ⟨B, 0, none⟩ (.int .i64 0)).setCell ⟨B, 1, none⟩ (.slice none 0 0)).alloc (.cells #[.int .i64 s, errV (a 6)] 118)).drew.heap[X4.heap.size]? = some (.cells #[.int .i64 s, errV (a 6)] 118 (0, 0)) := hnew
          refine .inr ⟨X4.heap.size, rfl, HRC.out, by unfold PSt.rdP; rw [HRC.out]; rfl, ?_⟩
          unfold PSt.rdN
          rw [HRC.out]
          exact hnd
        have HF := hide hF
        have HFB : Hid (Below w.heap.size w (((X4.setCell ⟨B, 0, none⟩ (.int .i64 0)).setCell ⟨B, 1, none⟩ (.slice none 0 0)).alloc (.cells #[.int .i64 s, errV (a 6)] 118)).drew) := by
          have h1 := (HB4.out.setCell (p := ⟨B, 0, none⟩) HBL.out (.int .i64 0)).setCell (p := ⟨B, 1, none⟩) HBL.out (.slice none 0 0)
          exact below_drew (over h1 (below_box _ _) h1.size)
        have hZF := (HZ4.out.put 0 none 0 0).step (below_drew (below_box ((X4.setCell ⟨B, 0, none⟩ (.int .i64 0)).setCell ⟨B, 1, none⟩ (.slice none 0 0)) (.cells #[.int .i64 s, errV (a 6)] 118)))
        unfold errV at hZF
        have HZF := hide hZF
        clear hF hZF
        go_region
        all_goals
          go_wp2_with fail
          have y0 := HZF.out.c0
          have y1 := HZF.out.c1
          refine bodyPost_ret (v := .tuple #[.agg #[.int .i64 0, .slice none 0 0], atV ⟨X4.heap.size, 0, none⟩]) (by simp [results, Tryd.results34, go_sem, y0, y1, atV]) rfl ?_
          refine ⟨HFB.out, .inr ⟨by rw [HRC.out]; decide, _, rfl, HF.out, fun b e => ?_⟩⟩
          have e2 : X4.heap.size = b := by simpa [atV] using e
          have h1 := HB4.out.size
          omega
end
end Go.Proofs.YtjacenhblclkaaaDoor

/- One frame more: what the builtin append makes of a pool. -/
namespace Go.Proofs.YtjacenhblclkaaaDoor
open Go.RowKit
set_option linter.unusedVariables false

theorem buildF {ops : Array Oper} {rest : List Oper} {a : Act} {w : World} {Q : Exit → Act → World → Prop} {d n : Tmp} {ty : TypeId} {pos : String} {af : Array Edge} (f : Fr)
    (hev : a.eval (.tmp n) = f.val)
    (h : wpList Tryd.prog ops Q rest (a.put (some d) (.slice (some ⟨w.heap.size, 0, none⟩) 1 1)) (w.alloc (frBlock f))) :
    wpList Tryd.prog ops Q ({ dst := some d, op := .buildSlice 84 1 #[(0, .tmp n)], type := ty, pos := pos, after := af, guard := none } :: rest) a w := by
  refine Go.Great.wpList_buildRows rfl 84 90 #[(0, .tmp n)] 3 [f.val] rfl (fun _ => n) w.heap.size rfl (some d) rfl Tryd.underlying84 Tryd.size90 Tryd.hasz90 (by omega) (by simp) (by simp) rfl (fun v hv => ?_) (fun i hi => ?_) h
  · simp at hv; subst hv; rfl
  · simp at hi; subst hi; exact hev
theorem fr_new (w : World) (f : Fr) : ∀ j u, (frCells [f])[j]? = some u → (w.alloc (frBlock f)).cell? ((⟨w.heap.size, 0, none⟩ : Addr).add j) = some u := by
  intro j u hj
  rw [Addr.add_lit, Nat.zero_add, cell_row (heap_alloc_new w (frBlock f))]
  simpa [frCells] using hj
/-- A page more is here. -/
def PSt.more (S : PSt) (p : Pg) : PSt := ⟨S.vss, S.off, S.fuse, S.ep, S.rs, S.D, S.es, S.ps ++ [p]⟩
section
variable {w w0 w' w1 : World} {K : Nat → Prop} {a : Nat → Addr} {P l d F N : Nat} {base most : Int} {mb : Option Nat} {fo : Option Addr} {fc : Nat} {fs fs' : List Fr} {T : Nat} {S : PSt}
theorem papp_run (h : PoolOf w0 K a P l d F N base most mb fo fc fs T S) (hb : Below w0.heap.size w0 w) (n : Nat) (hn : fs.length = n) (hn9 : n ≤ 900) (f : Fr) (hf : OwnE w w0.heap.size f.ao f.c f.pg.es) (ty : TypeId) :
    ∃ fo' fc' w1, (Builtin.append_ #[84, 84] ty #[.slice fo n fc, .slice (some ⟨w.heap.size, 0, none⟩) 1 1]).run Tryd.prog (w.alloc (frBlock f)) = .ok (.slice fo' (n + 1) fc') w1 ∧ w1.cell? ⟨P, 4, none⟩ = some (.slice fo n fc) ∧ w1.frozen? ⟨P, 4, none⟩ = false ∧
      PoolOf (w1.setCell ⟨P, 4, none⟩ (.slice fo' (n + 1) fc')) K a P l d F N base most mb fo' fc' (fs ++ [f]) T (S.more f.pg) ∧ Kept K w0 (w1.setCell ⟨P, 4, none⟩ (.slice fo' (n + 1) fc')) ∧ OwnE (w1.setCell ⟨P, 4, none⟩ (.slice fo' (n + 1) fc')) w0.heap.size f.ao f.c f.pg.es ∧ ∀ k, k < w.heap.size → w0.heap.size ≤ k → (w1.setCell ⟨P, 4, none⟩ (.slice fo' (n + 1) fc')).heap[k]? = w.heap[k]? := by
  subst hn
  obtain ⟨i0, hi, hz0, hz1, hz2⟩ := info_parts Tryd.info90
  have hbx := below_box w (frBlock f)
  have hb1 := over hb hbx hb.size
  have h1 := h.below hb1
  obtain ⟨v', w1, hr, ho, hg, _, hat⟩ := run_append_own_at (P := Tryd.prog) (w.alloc (frBlock f)) 0 84 ty 90 i0 _ 3 40 Tryd.underlying84 hi hz0 hz1 hz2 rfl (by decide) (.slice fo fs.length fc) fs.length (frCells fs) h1.own.1 ⟨w.heap.size, 0, none⟩ 1 1 (frCells [f]) (length_frCells _) (fr_new w f) (oneCell_frs _) (by unfold maxLen; omega) (by omega) (Nat.zero_le _)
  obtain ⟨fo', fc', rfl⟩ := own_shapeF ho
  have hle : (fs ++ [f]).length = fs.length + 1 := by simp
  have hP0 := h1.lt
  have hPf : some P ≠ (Value.slice fo fs.length fc).ownBlock := by
    intro e
    obtain ⟨cur, hc⟩ := owns_type h1.own.1 e.symm
    rw [h1.head] at hc
    simp at hc
  have hP1 : w1.heap[P]? = some (.cells (poolCells mb d l most (.slice fo fs.length fc)) 86 (0, 0)) := (hg.block P hP0 hPf).trans h1.head
  have hP2 := set_block hP1 4 (.slice fo' (fs.length + 1) fc')
  have hold : ∀ k, k < (w.alloc (frBlock f)).heap.size → k ≠ P → (Value.slice fo fs.length fc).ownBlock ≠ some k → (w1.setCell ⟨P, 4, none⟩ (.slice fo' (fs.length + 1) fc')).heap[k]? = (w.alloc (frBlock f)).heap[k]? := fun k hk h2 h3 => by
    rw [Below.heap_setCell _ _ _ _ h2]
    exact hg.block k hk (fun e => h3 e.symm)
  have hsz : (w.alloc (frBlock f)).heap.size ≤ (w1.setCell ⟨P, 4, none⟩ (.slice fo' (fs.length + 1) fc')).heap.size := by simpa [World.setCell] using hg.size
  have hown : OwnF w1 0 fo' fc' (fs ++ [f]) := ⟨by rw [hle, frCells_append]; exact ho, by rw [hle]; omega⟩
  have hfw : OwnE (w.alloc (frBlock f)) w0.heap.size f.ao f.c f.pg.es := hf.step hbx
  have hfz : OwnE (w1.setCell ⟨P, 4, none⟩ (.slice fo' (fs.length + 1) fc')) w0.heap.size f.ao f.c f.pg.es := hfw.of_own fun g hgo => by
    have h2 := hfw.1.lt g hgo
    obtain ⟨cur, hc⟩ := owns_type hfw.1 hgo
    refine hold g h2.2 ?_ ?_
    · rintro rfl
      rw [h1.head] at hc
      simp at hc
    · intro e
      obtain ⟨cur2, hc2⟩ := owns_type h1.own.1 e
      rw [hc2] at hc
      simp at hc
  have hres := h.stay (w' := w1.setCell ⟨P, 4, none⟩ (.slice fo' (fs.length + 1) fc')) (mb' := mb) (fo' := fo') (fc' := fc') (fs' := fs ++ [f]) (T' := T) (es' := S.es) (ps' := S.ps ++ [f.pg]) ⟨hg.os.trans hb1.os, hg.tape.trans hb1.tape, hg.output.trans hb1.output⟩ (Nat.le_trans hb1.size hsz)
    (fun k hk h2 h3 h4 => (hold k (Nat.lt_of_lt_of_le hk hb1.size) h2 h4).trans (hb1.block k hk)) (by rw [hle]; exact hP2) ⟨⟨_, _, hP2, rfl⟩, h.tab.up, h.tab.nil, fun b e => ?_⟩ (hown.of_block fun g hgo => ?_) (by rw [List.map_append, h.pages]; rfl) (fun x hx => ?_) (.inl rfl) (fun g hgo => ?_) (fun x hx g hgo => ?_)
  · refine ⟨fo', fc', w1, hr, (cell_row hP1 4).trans rfl, frozen_cells hP1 4, hres.1, hres.2, hfz, fun k hk h0 => ?_⟩
    rw [hold k (Nat.lt_of_lt_of_le hk hbx.size) (by have := h.lt; omega) (fun e => by have := (h.own.1.lt k e).2; omega)]
    exact hbx.block k hk
  · refine ownsMap_of (h1.tab.own b e) (hold b (h1.tab.own b e).lt (h1.tab.ne e) fun e2 => ?_)
    obtain ⟨es, clock, h2, _⟩ := h1.tab.own b e
    obtain ⟨cur, hc⟩ := owns_type h1.own.1 e2
    rw [h2] at hc
    simp at hc
  · refine Below.heap_setCell _ _ _ _ ?_
    rintro rfl
    obtain ⟨cur, hc⟩ := owns_type hown.1 hgo
    rw [hP1] at hc
    simp at hc
  · rcases List.mem_append.1 hx with h2 | h2
    · refine (h1.ents x h2).of_own fun g hgo => ?_
      obtain ⟨a1, a2, a3⟩ := h1.apart h2 hgo
      exact hold g ((h1.ents x h2).1.lt g hgo).2 a1 a3
    · simp only [List.mem_singleton] at h2
      subst h2
      exact hfz.mono (Nat.zero_le _)
  · rw [hle] at hgo
    rcases hat with e | e
    · exact .inl (e ▸ hgo)
    · rw [e] at hgo
      simp only [Option.some.injEq] at hgo
      exact .inr (by have := hb1.size; omega)
  · rcases List.mem_append.1 hx with h2 | h2
    · exact .inl ⟨x, h2, hgo⟩
    · simp only [List.mem_singleton] at h2
      subst h2
      exact .inr (hfw.1.lt g hgo).1
end
end Go.Proofs.YtjacenhblclkaaaDoor

/- What a pool's Get answers. -/
namespace Go.Proofs.YtjacenhblclkaaaDoor
open Go.RowKit
set_option linter.unusedVariables false

/-- What Get hands out, and what it makes of a state. -/
structure Got where
  st : PSt
  lsn : Int
  es : List (Int × Int)
  cd : Int
  pl : Bool
  pos : Int
/-- A frame is made free, where all are taken. -/
def PSt.room (S : PSt) (F : Nat) (base : Int) (most : Int) (hint : Int) : PSt := if most ≤ S.ps.length then S.evict F base hint else S
def PSt.roomC (S : PSt) (F : Nat) (base : Int) (most : Int) (hint : Int) : Int := if most ≤ S.ps.length then S.evictC F base hint else 0
/-- A page is read from its sector. -/
def PSt.fetch (S : PSt) (n : Int) : Got := if S.rdC n = 0 then ⟨S.more ⟨n, lsnOf (S.sec n), entsOf (S.sec n)⟩, lsnOf (S.sec n), entsOf (S.sec n), 0, false, 0⟩ else ⟨S, 0, [], S.rdC n, S.rdP n, S.rdN n⟩
def PSt.get (S : PSt) (F : Nat) (base most n hint : Int) : Got :=
  if n < 1 then ⟨S, 0, [], 102, false, 0⟩ else match getP S.ps n with
    | some p => ⟨S, p.lsn, p.es, 0, false, 0⟩
    | none => if S.roomC F base most hint = 0 then (S.room F base most hint).fetch n else ⟨S.room F base most hint, 0, [], S.roomC F base most hint, false, 0⟩
def GetPost (w0 : World) (K : Nat → Prop) (a : Nat → Addr) (P l d F N : Nat) (base most : Int) (mb : Option Nat) (T : Nat) (G : Got) (e : Ending) (w' : World) : Prop :=
  ∃ ao c fv fo fc fs, e = .returned (.tuple #[pageV G.lsn ao G.es.length c, fv]) ∧ OwnE w' w0.heap.size ao c G.es ∧ FaultOf w' a fv G.cd G.pl G.pos ∧ PoolOf w' K a P l d F N base most mb fo fc fs T G.st ∧ Kept K w0 w'
section
variable {w w0 w' w1 : World} {K : Nat → Prop} {a : Nat → Addr} {P l d F N : Nat} {base most : Int} {mb : Option Nat} {fo : Option Addr} {fc : Nat} {fs fs' : List Fr} {T : Nat} {S : PSt}
/-- A block of another's turns, that K names. -/
theorem PoolOf.setK (h : PoolOf w K a P l d F N base most mb fo fc fs T S) {Z : Nat} (hK : K Z) {c : Array Value} (hz : w.heap[Z]? = some (.cells c 34 (0, 0))) (he : (∀ i ∈ seven, gno i ≠ Z) ∧ gno 6 ≠ Z) (i : Nat) (v : Value) : PoolOf (w.setCell ⟨Z, i, none⟩ v) K a P l d F N base most mb fo fc fs T S := by
  obtain ⟨n1, n2, n3⟩ := h.named hK
  have hsz : (w.setCell ⟨Z, i, none⟩ v).heap.size = w.heap.size := by simp [World.setCell]
  have hold : ∀ k, k ≠ Z → (w.setCell ⟨Z, i, none⟩ v).heap[k]? = w.heap[k]? := fun k hk => Below.heap_setCell _ _ _ _ hk
  have hcell : ∀ b, b ≠ Z → (w.setCell ⟨Z, i, none⟩ v).cell? ⟨b, 0, none⟩ = w.cell? ⟨b, 0, none⟩ := fun b hb => World.cell?_of_block (w := w) (hold b hb)
  have hP : (w.setCell ⟨Z, i, none⟩ v).heap[P]? = w.heap[P]? := hold P (Ne.symm n1)
  have hE : ErrsK (w.setCell ⟨Z, i, none⟩ v) K a := fun j hj => ⟨(h.errs j hj).1, (hcell _ (he.1 j hj)).trans (h.errs j hj).2⟩
  refine ⟨hP.trans h.head, h.tab.of_blocks hP fun b e => hold b fun e2 => n2 (e2 ▸ e), h.own.of_block fun g hg => hold g fun e2 => n3 (e2 ▸ hg), h.pages, fun f hf => (h.ents f hf).of_own fun g hg => hold g ?_, h.log.stays (by rw [hsz]; exact Nat.le_refl _) (fun k _ hk => hold k fun e2 => hk (.inl (e2 ▸ hK))) (fun k hk => ⟨by rw [hsz]; exact h.log.low k hk, fun _ => hk⟩) (hE.wide fun k hk => .inl hk), h.nP, h.nm, h.nf, hE, ⟨h.page.1, (hcell _ he.2).trans h.page.2⟩⟩
  rintro rfl
  obtain ⟨cur, hc⟩ := owns_type (h.ents f hf).1 hg
  rw [hz] at hc
  simp at hc
theorem Kept.setNew {w0 w : World} {K : Nat → Prop} (h : Kept K w0 w) {Z : Nat} (hz : ¬ K Z) (i : Nat) (v : Value) : Kept K w0 (w.setCell ⟨Z, i, none⟩ v) :=
  ⟨h.os, h.tape, h.output, by simpa [World.setCell] using h.size, fun k hk => (Below.heap_setCell _ _ _ _ (show k ≠ Z from fun e => hz (e ▸ hk))).trans (h.block k hk)⟩
set_option maxRecDepth 100000 in
set_option maxHeartbeats 4000000 in
theorem pget_low (h : PoolOf w K a P l d F N base most mb fo fc fs T S) (n hint : Int) (hn : n < 1) :
    Calls Tryd.prog 12 #[.pointer (some ⟨P, 0, none⟩), .int .i64 n, .int .i64 hint] w fun e w' => GetPost w K a P l d F N base most mb T (S.get F base most n hint) e w' := by
  have he : S.get F base most n hint = ⟨S, 0, [], 102, false, 0⟩ := by unfold PSt.get; rw [if_pos hn]
  rw [he]
  have HH := hide h
  have hE := h.pg.range
  have hs := World.new_ne w ⟨0, 0, none⟩ hE
  have hE0 : ∀ X, (w.alloc X).cell? ⟨0, 0, none⟩ = some (errV (a 1)) := fun X => ((below_box w X).cell (World.block_lt_of_cell? w _ hE)).trans hE
  clear h he hE
  unfold errV at *
  go_enter Tryd.func12, Tryd.ntmps12
  go_wp2_with fail
  go_region
  all_goals
    go_wp2_with fail
    have hb := below_drew (below_box w (.cells #[.int .i64 0, .slice none 0 0] 34))
    exact bodyPost_ret (v := .tuple #[.agg #[.int .i64 0, .slice none 0 0], .iface 168 (.pointer (some (a 1)))]) (by simp [results, Tryd.results12, go_sem]) rfl ⟨none, 0, _, fo, fc, fs, rfl, ownE_nil _ _, .inl ⟨.inr ⟨1, by omega, rfl, rfl⟩, rfl, rfl⟩, HH.out.below hb, HH.out.kept hb⟩
set_option maxRecDepth 100000 in
set_option maxHeartbeats 8000000 in
theorem pget_here (h : PoolOf w K a P l d F N base most mb fo fc fs T S) (n hint : Int) (hn : 1 ≤ n) {k : Nat} {p : Pg} (hat : AtP S.ps n k p) :
    Calls Tryd.prog 12 #[.pointer (some ⟨P, 0, none⟩), .int .i64 n, .int .i64 hint] w fun e w' => GetPost w K a P l d F N base most mb T (S.get F base most n hint) e w' := by
  have he : S.get F base most n hint = ⟨S, p.lsn, p.es, 0, false, 0⟩ := by unfold PSt.get; rw [if_neg (by omega), getP_at hat]
  rw [he]
  obtain ⟨m, hm⟩ : ∃ m, fs.length = m := ⟨_, rfl⟩
  obtain ⟨f, hf, hfp, hidx⟩ := idx_at h.pages hat
  have hfm : f ∈ fs := List.mem_of_getElem? hf
  have hkm : k < m := by rw [← hm]; exact (List.getElem?_eq_some_iff.1 hf).1
  have hm9 : m ≤ 1000 := by rw [← hm]; exact h.own.2
  obtain ⟨b, off, hfo, hlb, hc⟩ := h.own.row.2 (by omega)
  subst hfo
  obtain ⟨q1, q2, q3⟩ := hc k f hf
  obtain ⟨lsn, hlsn⟩ : ∃ lsn, lsn = p.lsn := ⟨_, rfl⟩
  obtain ⟨es, hes⟩ : ∃ es, es = p.es := ⟨_, rfl⟩
  obtain ⟨ko, hko⟩ : ∃ ko, es.length = ko := ⟨_, rfl⟩
  rw [hfp, ← hlsn] at q2
  rw [hfp, ← hes, hko] at q3
  rw [← hlsn, ← hes]
  have hrow := (h.ents f hfm).row
  rw [hfp, ← hes] at hrow
  have hb0 := below_box w (pageBlock 0 none 0 0)
  have HZ := hide (pblk_new w 0 none 0 0)
  have HH := hide h
  have HB := hide hb0
  have HQ2 := hide q2
  have HQ3 := hide q3
  have HLB := hide hlb
  have HROW := hide hrow
  have HKO := hide hko
  have HM := hide hm
  have HIDX := hide hidx
  unfold pageBlock at HZ HB
  have hn1 : ¬ n < 1 := by omega
  clear h he hf hfp hfm hidx hat hc q1 q2 q3 hlb hrow hko hm hb0 hlsn hes
  go_enter Tryd.func12, Tryd.ntmps12
  go_upto_region 1 with fail
  obtain ⟨X, hX⟩ : ∃ X, X = w.alloc (.cells #[.int .i64 0, .slice none 0 0] 34) := ⟨_, rfl⟩
  rw [← hX] at HZ HB ⊢
  obtain ⟨B, hB⟩ : ∃ B, B = w.heap.size := ⟨_, rfl⟩
  have HBL : Hid (w.heap.size ≤ B) := by show _ ≤ B; omega
  rw [← hB] at HZ ⊢
  clear hX hB
  go_wp2_with fail
  refine (pfind_any P (some ⟨b, off, none⟩) m fc fs n k X ((HH.out.below HB.out).c4 HM.out) (HH.out.below HB.out).own.row HM.out HIDX.out).mono ?_
  rintro e w2 ⟨rfl, hb⟩
  have HB2 := hide (over HB.out hb HB.out.size)
  have HZ2 := hide (HZ.out.step hb)
  clear hb HB HZ HIDX
  have hki : (k : Int) < (m : Int) := by omega
  have c4 := (HH.out.below HB2.out).c4 HM.out
  have q2 := (HB2.out.cell (p := ⟨b, off + k * 3 + 1, none⟩) HLB.out).trans HQ2.out
  have q3 := (HB2.out.cell (p := ⟨b, off + k * 3 + 2, none⟩) HLB.out).trans HQ3.out
  clear HQ2 HQ3 HLB
  go_wp2_with fail
  clear c4 q2 q3
  refine (pown_any lsn f.ao ko f.c es w2 (HROW.out.step HB2.out) HKO.out).mono ?_
  rintro e w3 ⟨ao, c, rfl, hown, hb⟩
  have HB3 := hide (over HB2.out hb HB2.out.size)
  have HZ3 := hide (HZ2.out.step hb)
  have HO := hide (hown.mono HB2.out.size)
  clear hown hb HB2 HZ2 HROW
  have z0 := HZ3.out.c0
  have z1 := HZ3.out.c1
  have g0 := HZ3.out.fz 0
  have g1 := HZ3.out.fz 1
  unfold pageV
  go_wp2_with fail
  refine bodyPost_ret (v := .tuple #[.agg #[.int .i64 lsn, .slice ao ko c], .nilIface]) (by simp [results, Tryd.results12, go_sem, z0, z1]) rfl ?_
  have hb := (HB3.out.setCell (p := ⟨B, 0, none⟩) HBL.out (.int .i64 lsn)).setCell (p := ⟨B, 1, none⟩) HBL.out (.slice ao ko c)
  refine ⟨ao, c, _, some ⟨b, off, none⟩, fc, fs, ?_, (HO.out.setPage HZ3.out 0 _).setPage (set_block HZ3.out 0 _) 1 _, .inl ⟨.inl ⟨rfl, rfl⟩, rfl, rfl⟩, HH.out.below hb, HH.out.kept hb⟩
  rw [HKO.out]
  rfl
end
end Go.Proofs.YtjacenhblclkaaaDoor

/- What a pool's Get answers of a page that is not here: the walk. -/
namespace Go.Proofs.YtjacenhblclkaaaDoor
open Go.RowKit
set_option linter.unusedVariables false

section
variable {w w0 w' w1 : World} {K : Nat → Prop} {a : Nat → Addr} {P l d F N : Nat} {base most : Int} {mb : Option Nat} {fo : Option Addr} {fc : Nat} {fs fs' : List Fr} {T : Nat} {S : PSt}
set_option maxRecDepth 100000 in
set_option maxHeartbeats 16000000 in
theorem pget_new {V : Nat} (h : PoolOf w K a P l d F N base most mb fo fc fs T S) (hok : S.Ok V) (hV1 : 1 ≤ V) (hV : V ≤ 980) (n hint : Int) (hn : 1 ≤ n) (hno : ∀ p ∈ S.ps, p.n ≠ n) :
    Calls Tryd.prog 12 #[.pointer (some ⟨P, 0, none⟩), .int .i64 n, .int .i64 hint] w fun e w' => GetPost w K a P l d F N base most mb T (S.get F base most n hint) e w' := by
  have hge : S.get F base most n hint = if S.roomC F base most hint = 0 then (S.room F base most hint).fetch n else ⟨S.room F base most hint, 0, [], S.roomC F base most hint, false, 0⟩ := by unfold PSt.get; rw [if_neg (by omega), getP_none hno]
  obtain ⟨m, hm⟩ : ∃ m, fs.length = m := ⟨_, rfl⟩
  have hml : S.ps.length = m := by rw [← h.len, hm]
  have hm8 : m ≤ 8 := by have := hok.few; omega
  have hb0 := below_box w (pageBlock 0 none 0 0)
  have HX := hide (h.wide hb0)
  have HNM := hide h.named6
  have HZ := hide (pblk_new w 0 none 0 0)
  have HKX : Hid (Kept K w (w.alloc (pageBlock 0 none 0 0))) := h.kept hb0
  have HZK : Hid (wider K w.heap.size (w.alloc (pageBlock 0 none 0 0)).heap.size w.heap.size) := .inr ⟨Nat.le_refl _, by simp⟩
  have HZN : Hid (¬ K w.heap.size) := fun hk => absurd (h.low _ hk) (by omega)
  have HZG : Hid ((∀ i ∈ seven, gno i ≠ w.heap.size) ∧ gno 6 ≠ w.heap.size) := ⟨fun i hi => by have := h.low _ (h.errs i hi).1; omega, by have := h.low _ h.page.1; omega⟩
  have HGE := hide hge
  have HM := hide hm
  have HML := hide hml
  have HOK := hide hok
  have HIDX := hide (idx_none h.pages hno)
  have HBW : Hid (w.heap.size < (w.alloc (pageBlock 0 none 0 0)).heap.size) := by show _ < _; simp
  unfold pageBlock at HX HZ HKX HZK HBW
  have hn1 : ¬ n < 1 := by omega
  clear h hok hno hge hm hml hb0
  go_enter Tryd.func12, Tryd.ntmps12
  go_upto_region 1 with fail
  obtain ⟨X, hX⟩ : ∃ X, X = w.alloc (.cells #[.int .i64 0, .slice none 0 0] 34) := ⟨_, rfl⟩
  rw [← hX] at HX HZ HKX HZK HBW ⊢
  obtain ⟨Z, hZ⟩ : ∃ Z, Z = w.heap.size := ⟨_, rfl⟩
  have HWZ : Hid (w.heap.size ≤ Z) := by show _ ≤ Z; omega
  rw [← hZ] at HX HZ HZK HZN HZG HBW ⊢
  obtain ⟨K1, hK1⟩ : ∃ K1, K1 = wider K Z X.heap.size := ⟨_, rfl⟩
  have HKK : Hid (∀ k, K k → K1 k) := by show ∀ k, K k → K1 k; rw [hK1]; exact fun k hk => .inl hk
  rw [← hK1] at HX HZK
  clear hX hZ hK1
  go_wp2_with fail
  refine (pfind_any P fo m fc fs n (-1) X (HX.out.c4 HM.out) HX.out.own.row HM.out HIDX.out).mono ?_
  rintro e w2 ⟨rfl, hb⟩
  have HH2 := hide (HX.out.below hb)
  have HZ2 := hide (HZ.out.step hb)
  have HK2 := hide (HKX.out.trans ((HX.out.kept hb).mono HKK.out))
  clear hb HX HZ HKX HIDX HBW
  go_wp2_with fail
  have c3 := HH2.out.c3
  have c4 := HH2.out.c4 HM.out
  go_quiet (fail)
  clear c3 c4
  obtain ⟨Y, hY⟩ : ∃ Y, Y = w2.drewN nq := ⟨_, rfl⟩
  have HH3 : Hid (PoolOf Y K1 a P l d F N base most mb fo fc fs T S) := by show PoolOf Y _ _ _ _ _ _ _ _ _ _ _ _ _ _ _; rw [hY]; exact HH2.out.drewN nq
  have HZ3 : Hid (PBlk Y Z 0 none 0 0) := by show PBlk Y _ _ _ _ _; rw [hY]; exact HZ2.out
  have HK3 : Hid (Kept K w Y) := by show Kept K w Y; rw [hY]; exact HK2.out.drewN nq
  rw [← hY]
  clear hY HH2 HZ2 HK2
  by_cases hfull : most ≤ (m : Int)
  · have HRM : Hid (S.room F base most hint = S.evict F base hint ∧ S.roomC F base most hint = S.evictC F base hint) := by
      show _ ∧ _
      unfold PSt.room PSt.roomC
      rw [HML.out, if_pos hfull, if_pos hfull]
      exact ⟨rfl, rfl⟩
    go_wp2_with fail
    refine (pevict_any HH3.out HOK.out hV1 hV hint).mono ?_
    rintro e w4 ⟨fv, fs1, rfl, hcd, hp4, hk4⟩
    have HH4 := hide hp4
    have HK4 := hide (HK3.out.trans (hk4.mono HKK.out))
    have HZ4 : Hid (PBlk w4 Z 0 none 0 0) := (hk4.block Z HZK.out).trans HZ3.out
    obtain ⟨m1, hm1⟩ : ∃ m1, fs1.length = m1 := ⟨_, rfl⟩
    have HM1 := hide hm1
    have hm18 : m1 ≤ 8 := by
      have h1 := (HOK.out.evict hV1 F base hint).few
      rw [← hp4.len, hm1] at h1
      exact h1
    clear hp4 hk4 hm1 HH3 HK3 HZ3
    obtain ⟨cd, hcde⟩ : ∃ cd, cd = S.evictC F base hint := ⟨_, rfl⟩
    rw [← hcde] at HRM hcd
    obtain ⟨R, hR⟩ : ∃ R, R = S.evict F base hint := ⟨_, rfl⟩
    rw [← hR] at HRM HH4
    clear hcde hR
    rcases code_cases hcd with ⟨h0, rfl⟩ | ⟨h0, j, hj, rfl, hc⟩
    · have HGR : Hid (S.get F base most n hint = R.fetch n) := by show _ = _; rw [HGE.out, HRM.out.1, HRM.out.2, if_pos h0]
      clear hcd h0 HRM HGE
      go_wp2_with fail
      refine (poread_any HH4.out n).mono ?_
      rintro e w5 ⟨hb, ⟨hc0, mo, mc, rfl, hown⟩ | ⟨hc0, fv, rfl, hfo, _⟩⟩
      · have HFE : Hid ((R).fetch n = ⟨(R).more ⟨n, lsnOf ((R).sec n), entsOf ((R).sec n)⟩, lsnOf ((R).sec n), entsOf ((R).sec n), 0, false, 0⟩) := by show _ = _; unfold PSt.fetch; rw [if_pos hc0]
        have HP5 := hide (HH4.out.below hb)
        have HK5 := hide (HK4.out.trans ((HH4.out.kept hb).mono HKK.out))
        have HZ5 := hide (HZ4.out.step hb)
        have HO5 := hide hown
        have HB5 := hide hb
        obtain ⟨L, hL⟩ : ∃ L, L = lsnOf ((R).sec n) := ⟨_, rfl⟩
        obtain ⟨es, hes⟩ : ∃ es, es = entsOf ((R).sec n) := ⟨_, rfl⟩
        have hkk : es.length = keysOf ((R).sec n) := by rw [hes]; exact length_entsUp _ _
        obtain ⟨kk, hkk2⟩ : ∃ kk, kk = keysOf ((R).sec n) := ⟨_, rfl⟩
        rw [← hkk2] at hkk
        rw [← hL, ← hes] at HFE
        rw [← hes] at HO5
        rw [← hL, ← hkk2]
        have HKL := hide hkk
        clear hb hown hc0 hL hes hkk hkk2
        have hbx := below_box w5 (pageBlock L mo kk mc)
        have HP6 := hide (HP5.out.below hbx)
        have HK6 := hide (HK5.out.trans ((HP5.out.kept hbx).mono HKK.out))
        have HZ6 := hide (HZ5.out.step hbx)
        have HO6 := hide (HO5.out.step hbx)
        have HQ6 := hide (pblk_new w5 L mo kk mc)
        have HB6 := hide (over HB5.out hbx HB5.out.size)
        have HLQ : Hid ((w4).heap.size ≤ w5.heap.size) := HB5.out.size
        unfold pageBlock at HP6 HK6 HZ6 HO6 HQ6 HB6
        unfold pageV
        clear hbx HP5 HK5 HZ5 HO5 HB5
        go_upto_region 11 with fail
        obtain ⟨X6, hX6⟩ : ∃ X6, X6 = w5.alloc (.cells #[.int .i64 L, .slice mo kk mc] 34) := ⟨_, rfl⟩
        obtain ⟨Q, hQ⟩ : ∃ Q, Q = w5.heap.size := ⟨_, rfl⟩
        rw [← hX6] at HP6 HK6 HZ6 HO6 HQ6 HB6 ⊢
        rw [← hQ] at HQ6 HLQ ⊢
        clear hX6 hQ
        obtain ⟨f, hf⟩ : ∃ f : Fr, f = ⟨⟨n, L, es⟩, mo, mc⟩ := ⟨_, rfl⟩
        obtain ⟨fo', fc', w7, hrun, hc4, hf4, hpool, hkept, hown, hrest⟩ := papp_run (w := X6.drew) HH4.out (below_drew HB6.out) m1 HM1.out (by omega) f (by rw [hf]; exact HO6.out.step (below_drew (Below.refl _ _))) 84
        have HRUN : Hid ((Builtin.append_ #[84, 84] 84 #[.slice fo m1 fc, .slice (some ⟨X6.heap.size, 0, none⟩) 1 1]).run Tryd.prog (X6.alloc (.cells #[.int .i64 n, .int .i64 L, .slice mo kk mc] 90)).drew = .ok (.slice fo' (m1 + 1) fc') w7) := by
          show _ = _
          rw [← HKL.out]
          rw [hf] at hrun
          exact hrun
        have HP8 := hide hpool
        have HK8 := hide (HK4.out.trans (hkept.mono HKK.out))
        have HO8 : Hid (OwnE (w7.setCell ⟨P, 4, none⟩ (.slice fo' (m1 + 1) fc')) (w4).heap.size mo mc es) := by rw [hf] at hown; exact hown
        have HQ8 : Hid (PBlk (w7.setCell ⟨P, 4, none⟩ (.slice fo' (m1 + 1) fc')) Q L mo kk mc) := (hrest Q HQ6.out.lt HLQ.out).trans HQ6.out
        have HZ8 : Hid (PBlk (w7.setCell ⟨P, 4, none⟩ (.slice fo' (m1 + 1) fc')) Z 0 none 0 0) := (hkept.block Z HZK.out).trans HZ4.out
        have HPG : Hid ((R).more f.pg = (R).more ⟨n, L, es⟩) := by show _ = _; rw [hf]
        rw [HPG.out] at HP8
        have c4 := HP6.out.c4 HM1.out
        have hlt := HP6.out.lt
        have q0 := HQ6.out.c0
        have q1 := HQ6.out.c1
        have hqlt := HQ6.out.lt
        clear hrun hpool hkept hown hrest HK6 HZ6 HO6 HB6 HK4 HZ4 HPG
        go_wp2_with fail
        apply dup
        case k =>
          intro TAIL
          go_region_law (first
            | (refine step_append_f rfl (.tmp 61) (.tmp 65) 84 84 rfl _ _ (by first | rfl | (simp [Act.eval, Act.put]; done)) (by first | rfl | (simp [Act.eval, Act.put]; done)) HRUN.out ?_)
            | fail)
          all_goals exact TAIL.out
        case h =>
          clear c4 hlt q0 q1 hqlt hc4 hf4 HRUN
          obtain ⟨W8, hW8⟩ : ∃ W8, W8 = w7.setCell ⟨P, 4, none⟩ (.slice fo' (m1 + 1) fc') := ⟨_, rfl⟩
          rw [← hW8] at HP8 HK8 HO8 HQ8 HZ8 ⊢
          clear hW8
          have q0 := HQ8.out.c0
          have q1 := HQ8.out.c1
          go_wp2_with fail
          clear q0 q1
          refine (pown_any L mo kk mc es W8 HO8.out.row HKL.out).mono ?_
          rintro e w9 ⟨ao, c, rfl, hown, hb⟩
          have HP9 := hide (HP8.out.below hb)
          have HK9 := hide (HK8.out.trans ((HP8.out.kept hb).mono HKK.out))
          have HZ9 := hide (HZ8.out.step hb)
          have HO9 := hide (hown.mono HK8.out.size)
          clear hown hb HP8 HK8 HZ8 HO8 HQ8
          have z0 := HZ9.out.c0
          have z1 := HZ9.out.c1
          have g0 := HZ9.out.fz 0
          have g1 := HZ9.out.fz 1
          unfold pageV
          go_wp2_with fail
          refine bodyPost_ret (v := .tuple #[.agg #[.int .i64 L, .slice ao kk c], .nilIface]) (by simp [results, Tryd.results12, go_sem, z0, z1]) rfl ?_
          have hz1 := set_block HZ9.out 0 (.int .i64 L)
          rw [HGR.out, HFE.out]
          refine ⟨ao, c, _, fo', fc', _, ?_, (HO9.out.setPage HZ9.out 0 _).setPage hz1 1 _, .inl ⟨.inl ⟨rfl, rfl⟩, rfl, rfl⟩, ((HP9.out.setK HZK.out HZ9.out HZG.out 0 _).setK HZK.out hz1 HZG.out 1 _).narrow HKK.out HNM.out, (HK9.out.setNew HZN.out 0 _).setNew HZN.out 1 _⟩
          rw [HKL.out]
          rfl
      · have HFE : Hid ((R).fetch n = ⟨R, 0, [], (R).rdC n, (R).rdP n, (R).rdN n⟩) := by show _ = _; unfold PSt.fetch; rw [if_neg hc0]
        have HP5 := hide (HH4.out.below hb)
        have HK5 := hide (HK4.out.trans ((HH4.out.kept hb).mono HKK.out))
        have HZ5 := hide (HZ4.out.step hb)
        have HF5 := hide hfo
        have hfv : ∃ t u, fv = .iface t u := by
          rcases hfo with ⟨⟨h1, h2⟩ | ⟨i, _, h1, _⟩, _⟩ | ⟨b, h1, _⟩
          · exact absurd h2 hc0
          · rw [h1]; exact ⟨_, _, rfl⟩
          · rw [h1]; exact ⟨_, _, rfl⟩
        obtain ⟨t, u, rfl⟩ := hfv
        clear hb hfo hc0
        have hbx := below_box w5 (pageBlock 0 none 0 0)
        have HP6 := hide (HP5.out.below hbx)
        have HK6 := hide (HK5.out.trans ((HP5.out.kept hbx).mono HKK.out))
        have HZ6 := hide (HZ5.out.step hbx)
        have HF6 := hide (HF5.out.below hbx)
        unfold pageBlock at HP6 HK6 HZ6 HF6
        unfold pageV
        clear hbx HP5 HK5 HZ5 HF5 HK4 HZ4
        go_upto_region 11 with fail
        obtain ⟨X6, hX6⟩ : ∃ X6, X6 = w5.alloc (.cells #[.int .i64 0, .slice none 0 0] 34) := ⟨_, rfl⟩
        obtain ⟨Q, hQ⟩ : ∃ Q, Q = w5.heap.size := ⟨_, rfl⟩
        rw [← hX6] at HP6 HK6 HZ6 HF6 ⊢
        rw [← hQ]
        clear hX6 hQ
        have z0 := HZ6.out.c0
        have z1 := HZ6.out.c1
        have g0 := HZ6.out.fz 0
        have g1 := HZ6.out.fz 1
        go_wp2_with fail
        refine bodyPost_ret (v := .tuple #[.agg #[.int .i64 0, .slice none 0 0], .iface t u]) (by simp [results, Tryd.results12, go_sem, z0, z1]) rfl ?_
        have hz1 := set_block HZ6.out 0 (.int .i64 0)
        rw [HGR.out, HFE.out]
        exact ⟨none, 0, _, fo, fc, fs1, rfl, ownE_nil _ _, (HF6.out.set HZ6.out 0 _).set hz1 1 _, ((HP6.out.setK HZK.out HZ6.out HZG.out 0 _).setK HZK.out hz1 HZG.out 1 _).narrow HKK.out HNM.out, (HK6.out.setNew HZN.out 0 _).setNew HZN.out 1 _⟩
    · have HGR : Hid (S.get F base most n hint = ⟨R, 0, [], cd, false, 0⟩) := by show _ = _; rw [HGE.out, HRM.out.1, HRM.out.2, if_neg h0]
      have HIC : Hid (j < 18 ∧ cd = 101 + (j : Int)) := ⟨hj, hc⟩
      clear hcd h0 hj hc HRM HGE
      have z0 := HZ4.out.c0
      have z1 := HZ4.out.c1
      have g0 := HZ4.out.fz 0
      have g1 := HZ4.out.fz 1
      unfold errV
      go_wp2_with fail
      refine bodyPost_ret (v := .tuple #[.agg #[.int .i64 0, .slice none 0 0], .iface 168 (.pointer (some (a j)))]) (by simp [results, Tryd.results12, go_sem, z0, z1]) rfl ?_
      have hz1 := set_block HZ4.out 0 (.int .i64 0)
      rw [HGR.out]
      exact ⟨none, 0, _, fo, fc, fs1, rfl, ownE_nil _ _, .inl ⟨.inr ⟨j, HIC.out.1, rfl, HIC.out.2⟩, rfl, rfl⟩, ((HH4.out.setK HZK.out HZ4.out HZG.out 0 _).setK HZK.out hz1 HZG.out 1 _).narrow HKK.out HNM.out, (HK4.out.setNew HZN.out 0 _).setNew HZN.out 1 _⟩
  · have hfull' : decide (most ≤ (m : Int)) = false := by simp; omega
    have HGR : Hid (S.get F base most n hint = S.fetch n) := by
      show _ = _
      rw [HGE.out]
      unfold PSt.room PSt.roomC
      rw [HML.out, if_neg hfull, if_neg hfull, if_pos rfl]
    clear HGE
    go_wp2_with fail
    refine (poread_any HH3.out n).mono ?_
    rintro e w5 ⟨hb, ⟨hc0, mo, mc, rfl, hown⟩ | ⟨hc0, fv, rfl, hfo, _⟩⟩
    · have HFE : Hid ((S).fetch n = ⟨(S).more ⟨n, lsnOf ((S).sec n), entsOf ((S).sec n)⟩, lsnOf ((S).sec n), entsOf ((S).sec n), 0, false, 0⟩) := by show _ = _; unfold PSt.fetch; rw [if_pos hc0]
      have HP5 := hide (HH3.out.below hb)
      have HK5 := hide (HK3.out.trans ((HH3.out.kept hb).mono HKK.out))
      have HZ5 := hide (HZ3.out.step hb)
      have HO5 := hide hown
      have HB5 := hide hb
      obtain ⟨L, hL⟩ : ∃ L, L = lsnOf ((S).sec n) := ⟨_, rfl⟩
      obtain ⟨es, hes⟩ : ∃ es, es = entsOf ((S).sec n) := ⟨_, rfl⟩
      have hkk : es.length = keysOf ((S).sec n) := by rw [hes]; exact length_entsUp _ _
      obtain ⟨kk, hkk2⟩ : ∃ kk, kk = keysOf ((S).sec n) := ⟨_, rfl⟩
      rw [← hkk2] at hkk
      rw [← hL, ← hes] at HFE
      rw [← hes] at HO5
      rw [← hL, ← hkk2]
      have HKL := hide hkk
      clear hb hown hc0 hL hes hkk hkk2
      have hbx := below_box w5 (pageBlock L mo kk mc)
      have HP6 := hide (HP5.out.below hbx)
      have HK6 := hide (HK5.out.trans ((HP5.out.kept hbx).mono HKK.out))
      have HZ6 := hide (HZ5.out.step hbx)
      have HO6 := hide (HO5.out.step hbx)
      have HQ6 := hide (pblk_new w5 L mo kk mc)
      have HB6 := hide (over HB5.out hbx HB5.out.size)
      have HLQ : Hid ((Y).heap.size ≤ w5.heap.size) := HB5.out.size
      unfold pageBlock at HP6 HK6 HZ6 HO6 HQ6 HB6
      unfold pageV
      clear hbx HP5 HK5 HZ5 HO5 HB5
      go_upto_region 11 with fail
      obtain ⟨X6, hX6⟩ : ∃ X6, X6 = w5.alloc (.cells #[.int .i64 L, .slice mo kk mc] 34) := ⟨_, rfl⟩
      obtain ⟨Q, hQ⟩ : ∃ Q, Q = w5.heap.size := ⟨_, rfl⟩
      rw [← hX6] at HP6 HK6 HZ6 HO6 HQ6 HB6 ⊢
      rw [← hQ] at HQ6 HLQ ⊢
      clear hX6 hQ
      obtain ⟨f, hf⟩ : ∃ f : Fr, f = ⟨⟨n, L, es⟩, mo, mc⟩ := ⟨_, rfl⟩
      obtain ⟨fo', fc', w7, hrun, hc4, hf4, hpool, hkept, hown, hrest⟩ := papp_run (w := X6.drew) HH3.out (below_drew HB6.out) m HM.out (by omega) f (by rw [hf]; exact HO6.out.step (below_drew (Below.refl _ _))) 84
      have HRUN : Hid ((Builtin.append_ #[84, 84] 84 #[.slice fo m fc, .slice (some ⟨X6.heap.size, 0, none⟩) 1 1]).run Tryd.prog (X6.alloc (.cells #[.int .i64 n, .int .i64 L, .slice mo kk mc] 90)).drew = .ok (.slice fo' (m + 1) fc') w7) := by
        show _ = _
        rw [← HKL.out]
        rw [hf] at hrun
        exact hrun
      have HP8 := hide hpool
      have HK8 := hide (HK3.out.trans (hkept.mono HKK.out))
      have HO8 : Hid (OwnE (w7.setCell ⟨P, 4, none⟩ (.slice fo' (m + 1) fc')) (Y).heap.size mo mc es) := by rw [hf] at hown; exact hown
      have HQ8 : Hid (PBlk (w7.setCell ⟨P, 4, none⟩ (.slice fo' (m + 1) fc')) Q L mo kk mc) := (hrest Q HQ6.out.lt HLQ.out).trans HQ6.out
      have HZ8 : Hid (PBlk (w7.setCell ⟨P, 4, none⟩ (.slice fo' (m + 1) fc')) Z 0 none 0 0) := (hkept.block Z HZK.out).trans HZ3.out
      have HPG : Hid ((S).more f.pg = (S).more ⟨n, L, es⟩) := by show _ = _; rw [hf]
      rw [HPG.out] at HP8
      have c4 := HP6.out.c4 HM.out
      have hlt := HP6.out.lt
      have q0 := HQ6.out.c0
      have q1 := HQ6.out.c1
      have hqlt := HQ6.out.lt
      clear hrun hpool hkept hown hrest HK6 HZ6 HO6 HB6 HK3 HZ3 HPG
      go_wp2_with fail
      apply dup
      case k =>
        intro TAIL
        go_region_law (first
          | (refine step_append_f rfl (.tmp 61) (.tmp 65) 84 84 rfl _ _ (by first | rfl | (simp [Act.eval, Act.put]; done)) (by first | rfl | (simp [Act.eval, Act.put]; done)) HRUN.out ?_)
          | fail)
        all_goals exact TAIL.out
      case h =>
        clear c4 hlt q0 q1 hqlt hc4 hf4 HRUN
        obtain ⟨W8, hW8⟩ : ∃ W8, W8 = w7.setCell ⟨P, 4, none⟩ (.slice fo' (m + 1) fc') := ⟨_, rfl⟩
        rw [← hW8] at HP8 HK8 HO8 HQ8 HZ8 ⊢
        clear hW8
        have q0 := HQ8.out.c0
        have q1 := HQ8.out.c1
        go_wp2_with fail
        clear q0 q1
        refine (pown_any L mo kk mc es W8 HO8.out.row HKL.out).mono ?_
        rintro e w9 ⟨ao, c, rfl, hown, hb⟩
        have HP9 := hide (HP8.out.below hb)
        have HK9 := hide (HK8.out.trans ((HP8.out.kept hb).mono HKK.out))
        have HZ9 := hide (HZ8.out.step hb)
        have HO9 := hide (hown.mono HK8.out.size)
        clear hown hb HP8 HK8 HZ8 HO8 HQ8
        have z0 := HZ9.out.c0
        have z1 := HZ9.out.c1
        have g0 := HZ9.out.fz 0
        have g1 := HZ9.out.fz 1
        unfold pageV
        go_wp2_with fail
        refine bodyPost_ret (v := .tuple #[.agg #[.int .i64 L, .slice ao kk c], .nilIface]) (by simp [results, Tryd.results12, go_sem, z0, z1]) rfl ?_
        have hz1 := set_block HZ9.out 0 (.int .i64 L)
        rw [HGR.out, HFE.out]
        refine ⟨ao, c, _, fo', fc', _, ?_, (HO9.out.setPage HZ9.out 0 _).setPage hz1 1 _, .inl ⟨.inl ⟨rfl, rfl⟩, rfl, rfl⟩, ((HP9.out.setK HZK.out HZ9.out HZG.out 0 _).setK HZK.out hz1 HZG.out 1 _).narrow HKK.out HNM.out, (HK9.out.setNew HZN.out 0 _).setNew HZN.out 1 _⟩
        rw [HKL.out]
        rfl
    · have HFE : Hid ((S).fetch n = ⟨S, 0, [], (S).rdC n, (S).rdP n, (S).rdN n⟩) := by show _ = _; unfold PSt.fetch; rw [if_neg hc0]
      have HP5 := hide (HH3.out.below hb)
      have HK5 := hide (HK3.out.trans ((HH3.out.kept hb).mono HKK.out))
      have HZ5 := hide (HZ3.out.step hb)
      have HF5 := hide hfo
      have hfv : ∃ t u, fv = .iface t u := by
        rcases hfo with ⟨⟨h1, h2⟩ | ⟨i, _, h1, _⟩, _⟩ | ⟨b, h1, _⟩
        · exact absurd h2 hc0
        · rw [h1]; exact ⟨_, _, rfl⟩
        · rw [h1]; exact ⟨_, _, rfl⟩
      obtain ⟨t, u, rfl⟩ := hfv
      clear hb hfo hc0
      have hbx := below_box w5 (pageBlock 0 none 0 0)
      have HP6 := hide (HP5.out.below hbx)
      have HK6 := hide (HK5.out.trans ((HP5.out.kept hbx).mono HKK.out))
      have HZ6 := hide (HZ5.out.step hbx)
      have HF6 := hide (HF5.out.below hbx)
      unfold pageBlock at HP6 HK6 HZ6 HF6
      unfold pageV
      clear hbx HP5 HK5 HZ5 HF5 HK3 HZ3
      go_upto_region 11 with fail
      obtain ⟨X6, hX6⟩ : ∃ X6, X6 = w5.alloc (.cells #[.int .i64 0, .slice none 0 0] 34) := ⟨_, rfl⟩
      obtain ⟨Q, hQ⟩ : ∃ Q, Q = w5.heap.size := ⟨_, rfl⟩
      rw [← hX6] at HP6 HK6 HZ6 HF6 ⊢
      rw [← hQ]
      clear hX6 hQ
      have z0 := HZ6.out.c0
      have z1 := HZ6.out.c1
      have g0 := HZ6.out.fz 0
      have g1 := HZ6.out.fz 1
      go_wp2_with fail
      refine bodyPost_ret (v := .tuple #[.agg #[.int .i64 0, .slice none 0 0], .iface t u]) (by simp [results, Tryd.results12, go_sem, z0, z1]) rfl ?_
      have hz1 := set_block HZ6.out 0 (.int .i64 0)
      rw [HGR.out, HFE.out]
      exact ⟨none, 0, _, fo, fc, fs, rfl, ownE_nil _ _, (HF6.out.set HZ6.out 0 _).set hz1 1 _, ((HP6.out.setK HZK.out HZ6.out HZG.out 0 _).setK HZK.out hz1 HZG.out 1 _).narrow HKK.out HNM.out, (HK6.out.setNew HZN.out 0 _).setNew HZN.out 1 _⟩
/-- Get, told in one. -/
theorem pget_any {V : Nat} (h : PoolOf w K a P l d F N base most mb fo fc fs T S) (hok : S.Ok V) (hV1 : 1 ≤ V) (hV : V ≤ 980) (n hint : Int) :
    Calls Tryd.prog 12 #[.pointer (some ⟨P, 0, none⟩), .int .i64 n, .int .i64 hint] w fun e w' => GetPost w K a P l d F N base most mb T (S.get F base most n hint) e w' := by
  by_cases hn : n < 1
  · exact pget_low h n hint hn
  · rcases at_or_not S.ps n with h1 | ⟨k, p, hat⟩
    · exact pget_new h hok hV1 hV n hint (by omega) h1
    · exact pget_here h n hint (by omega) hat
end
end Go.Proofs.YtjacenhblclkaaaDoor

/- What a pool's Set makes of a pool: a frame's page put anew, the table's Add. -/
namespace Go.Proofs.YtjacenhblclkaaaDoor
open Go.RowKit
set_option linter.unusedVariables false

theorem frCells_set : ∀ (fs : List Fr) (i : Nat) (f : Fr), fs[i]? = some f → ∀ (lsn : Int) (es : List (Int × Int)) (ao : Option Addr) (c : Nat), frCells (fs.set i ⟨⟨f.pg.n, lsn, es⟩, ao, c⟩) = ((frCells fs).set (i * 3 + 1) (.int .i64 lsn)).set (i * 3 + 2) (.slice ao es.length c) := by
  intro fs
  induction fs with
  | nil => intro i f h; simp at h
  | cons q s ih =>
    intro i f h lsn es ao c
    cases i with
    | zero =>
      simp at h
      subst h
      simp [frCells]
    | succ i =>
      have h1 := ih i f (by simpa using h) lsn es ao c
      rw [List.set_cons_succ]
      simp only [frCells, List.flatMap_cons] at h1 ⊢
      rw [h1, show (i + 1) * 3 + 1 = (i * 3 + 1) + 3 by omega, show (i + 1) * 3 + 2 = (i * 3 + 2) + 3 by omega]
      simp
theorem OwnF.put {w : World} {B g c : Nat} {fs : List Fr} (h : OwnF w B (some ⟨g, 0, none⟩) c fs) {i : Nat} {f : Fr} (hf : fs[i]? = some f) (lsn : Int) (es : List (Int × Int)) (ao : Option Addr) (ec : Nat) :
    OwnF ((w.setCell ⟨g, i * 3 + 1, none⟩ (.int .i64 lsn)).setCell ⟨g, i * 3 + 2, none⟩ (.slice ao es.length ec)) B (some ⟨g, 0, none⟩) c (fs.set i ⟨⟨f.pg.n, lsn, es⟩, ao, ec⟩) := by
  have hi := (List.getElem?_eq_some_iff.1 hf).1
  obtain ⟨⟨h0, h1⟩, h2⟩ := h
  rcases h1 with ⟨e, _⟩ | ⟨g', c', cur, hv, hg, hh, h4, h5, h6, h7⟩
  · simp at e
  · simp only [Value.slice.injEq, Option.some.injEq, Addr.mk.injEq] at hv
    obtain ⟨⟨rfl, _⟩, _, rfl⟩ := hv
    have hl : (fs.set i ⟨⟨f.pg.n, lsn, es⟩, ao, ec⟩).length = fs.length := List.length_set
    refine ⟨⟨by rw [length_frCells, hl], .inr ⟨g, c, _, by rw [hl], hg, set_block (set_block hh _ _) _ _, by rw [hl]; exact h4, h5, by simpa using h6, ?_⟩⟩, by rw [hl]; exact h2⟩
    rw [hl, frCells_set fs i f hf]
    simp only [Array.toList_setIfInBounds, List.take_set]
    rw [h7]
section
variable {w w0 w' w1 : World} {K : Nat → Prop} {a : Nat → Addr} {P l d F N : Nat} {base most : Int} {mb : Option Nat} {fo : Option Addr} {fc : Nat} {fs fs' : List Fr} {T : Nat} {S : PSt}
theorem pages_set {fs : List Fr} {ps : List Pg} (hp : fs.map (·.pg) = ps) (i : Nat) (f : Fr) : (fs.set i f).map (·.pg) = ps.set i f.pg := by
  subst hp
  rw [List.map_set]
/-- A frame's page is put anew; its entries lie in new memory. -/
theorem PoolOf.putF {g : Nat} (h : PoolOf w0 K a P l d F N base most mb (some ⟨g, 0, none⟩) fc fs T S) (hb : Below w0.heap.size w0 w) {i : Nat} {f : Fr} (hf : fs[i]? = some f) (lsn : Int) (es : List (Int × Int)) (ao : Option Addr) (ec : Nat) (ho : OwnE w w0.heap.size ao ec es) :
    PoolOf ((w.setCell ⟨g, i * 3 + 1, none⟩ (.int .i64 lsn)).setCell ⟨g, i * 3 + 2, none⟩ (.slice ao es.length ec)) K a P l d F N base most mb (some ⟨g, 0, none⟩) fc (fs.set i ⟨⟨f.pg.n, lsn, es⟩, ao, ec⟩) T ⟨S.vss, S.off, S.fuse, S.ep, S.rs, S.D, S.es, S.ps.set i ⟨f.pg.n, lsn, es⟩⟩ ∧
      Kept K w0 ((w.setCell ⟨g, i * 3 + 1, none⟩ (.int .i64 lsn)).setCell ⟨g, i * 3 + 2, none⟩ (.slice ao es.length ec)) := by
  have h1 := h.below hb
  have hg : (Value.slice (some ⟨g, 0, none⟩) fs.length fc).ownBlock = some g := rfl
  obtain ⟨cur, hcur⟩ := owns_type h1.own.1 hg
  have hgP : P ≠ g := by
    rintro rfl
    rw [h1.head] at hcur
    simp at hcur
  have hold : ∀ k, k ≠ g → ((w.setCell ⟨g, i * 3 + 1, none⟩ (.int .i64 lsn)).setCell ⟨g, i * 3 + 2, none⟩ (.slice ao es.length ec)).heap[k]? = w.heap[k]? := fun k hk => by
    rw [Below.heap_setCell _ _ _ _ hk, Below.heap_setCell _ _ _ _ hk]
  have hl : (fs.set i ⟨⟨f.pg.n, lsn, es⟩, ao, ec⟩).length = fs.length := List.length_set
  have hent : ∀ {b : Nat} {cs : Array Value}, w.heap[b]? = some (.cells cs 114 (0, 0)) → b ≠ g := by
    rintro b cs hc rfl
    rw [hcur] at hc
    simp at hc
  refine h.stay (w' := (w.setCell ⟨g, i * 3 + 1, none⟩ (.int .i64 lsn)).setCell ⟨g, i * 3 + 2, none⟩ (.slice ao es.length ec)) ⟨hb.os, hb.tape, hb.output⟩ (by simpa [World.setCell] using hb.size) (fun k hk h2 h3 h4 => (hold k fun e => h4 (by rw [e, hg])).trans (hb.block k hk)) (by rw [hl]; exact (hold P hgP).trans h1.head)
    (h1.tab.of_blocks (hold P hgP) fun b e => hold b ?_) (h1.own.put hf lsn es ao ec) (pages_set h.pages _ _) (fun x hx => ?_) (.inl rfl) (fun k hk => .inl hk) (fun x hx k hk => ?_)
  · rintro rfl
    obtain ⟨es', clock, h2, _⟩ := h1.tab.own _ e
    rw [h2] at hcur
    simp at hcur
  · rcases List.mem_or_eq_of_mem_set hx with h2 | rfl
    · refine (h1.ents x h2).of_own fun k hk => ?_
      obtain ⟨cs, hc⟩ := owns_type (h1.ents x h2).1 hk
      exact hold k (hent hc)
    · refine (ho.of_own fun k hk => ?_).mono (Nat.zero_le _)
      obtain ⟨cs, hc⟩ := owns_type ho.1 hk
      exact hold k (hent hc)
  · rcases List.mem_or_eq_of_mem_set hx with h2 | rfl
    · exact .inl ⟨x, h2, hk⟩
    · exact .inr (ho.1.lt k hk).1
/-- A page is dirty from then on. -/
theorem PoolOf.added (h : PoolOf w K a P l d F N base most mb fo fc fs T S) (hT : T ≤ 1000) (n lsn : Int) (hn : (Lit.int .i64 n).wf = true) (hl : (Lit.int .i64 lsn).wf = true) :
    Calls Tryd.prog 39 #[.pointer (some ⟨P, 0, none⟩), .int .i64 n, .int .i64 lsn] w fun e w' => e = .returned (.tuple #[]) ∧ ∃ mb', PoolOf w' K a P l d F N base most mb' fo fc fs (T + 1) ⟨S.vss, S.off, S.fuse, S.ep, S.rs, S.D, addE n lsn S.es, S.ps⟩ ∧ Kept K w w' ∧ ∀ k, k < w.heap.size → k ≠ P → mb ≠ some k → w'.heap[k]? = w.heap[k]? := by
  refine (tadd_row h.tab hT n lsn hn hl).mono ?_
  rintro e w' ⟨rfl, hb, mb', ht, hm, hP⟩
  have hP1 := hP _ _ h.head
  have hf : ∀ g, (Value.slice fo fs.length fc).ownBlock = some g → w'.heap[g]? = w.heap[g]? := fun g hg => by
    refine hb.block g (h.own.1.lt g hg).2 ?_ ?_
    · rintro rfl
      obtain ⟨cur, hc⟩ := owns_type h.own.1 hg
      rw [h.head] at hc
      simp at hc
    · intro e
      obtain ⟨es, clock, h1, _⟩ := h.tab.own g e.symm
      obtain ⟨cur, hc⟩ := owns_type h.own.1 hg
      rw [h1] at hc
      simp at hc
  obtain ⟨h1, h2⟩ := h.stay (w' := w') (mb' := mb') (fo' := fo) (fc' := fc) (fs' := fs) (T' := T + 1) (es' := addE n lsn S.es) (ps' := S.ps) ⟨hb.os, hb.tape, hb.output⟩ hb.size (fun k hk hp hm _ => hb.block k hk hp (fun e => hm e.symm)) hP1 ht (h.own.of_block hf) h.pages
    (fun f hf => (h.ents f hf).of_own fun g hg => by
      obtain ⟨a1, a2, a3⟩ := h.apart hf hg
      exact hb.block g ((h.ents f hf).1.lt g hg).2 a1 (fun e => a2 e.symm)) hm (fun g hg => .inl hg) (fun f hf g hg => .inl ⟨f, hf, hg⟩)
  exact ⟨rfl, mb', h1, h2, fun k hk hp hm => hb.block k hk hp (fun e => hm e.symm)⟩
end
end Go.Proofs.YtjacenhblclkaaaDoor

/- What a pool's Set answers: the walk. -/
namespace Go.Proofs.YtjacenhblclkaaaDoor
open Go.RowKit
set_option linter.unusedVariables false

/-- Set of a page that is here makes of a state. -/
def PSt.setS (S : PSt) (k : Nat) (n lsn : Int) (es : List (Int × Int)) : PSt := ⟨S.vss, S.off, S.fuse, S.ep, S.rs, S.D, addE n lsn S.es, S.ps.set k ⟨n, lsn, es⟩⟩
section
variable {w w0 w' w1 : World} {K : Nat → Prop} {a : Nat → Addr} {P l d F N : Nat} {base most : Int} {mb : Option Nat} {fo : Option Addr} {fc : Nat} {fs fs' : List Fr} {T : Nat} {S : PSt}
theorem PSt.Ok.setS {V : Nat} (h : S.Ok V) {k : Nat} {p : Pg} (hk : S.ps[k]? = some p) {lsn : Int} {es : List (Int × Int)} (hok : okP lsn es = true) : (S.setS k p.n lsn es).Ok V := by
  refine ⟨fun q hq => ?_, h.vers, by show (S.ps.set k _).length ≤ 8; rw [List.length_set]; exact h.few⟩
  rcases List.mem_or_eq_of_mem_set hq with h1 | rfl
  · exact h.page q h1
  · exact ⟨hok, (h.page p (List.mem_of_getElem? hk)).2⟩
set_option maxRecDepth 100000 in
set_option maxHeartbeats 4000000 in
theorem pset_none (h : PoolOf w K a P l d F N base most mb fo fc fs T S) (n : Int) (hno : ∀ p ∈ S.ps, p.n ≠ n) (lsn : Int) (ao : Option Addr) (k c : Nat) :
    Calls Tryd.prog 14 #[.pointer (some ⟨P, 0, none⟩), .int .i64 n, pageV lsn ao k c] w fun e w' => e = .returned (errV (a 1)) ∧ PoolOf w' K a P l d F N base most mb fo fc fs T S ∧ Kept K w w' := by
  have hb := below_box w (pageBlock lsn ao k c)
  have HH := hide (h.below hb)
  have HK := hide (h.kept hb)
  have HIDX := hide (idx_none h.pages hno)
  unfold pageBlock at HH HK
  unfold pageV
  clear h hno hb
  go_enter Tryd.func14, Tryd.ntmps14
  go_upto_region 1 with fail
  obtain ⟨X, hX⟩ : ∃ X, X = w.alloc (.cells #[.int .i64 lsn, .slice ao k c] 34) := ⟨_, rfl⟩
  rw [← hX] at HH HK ⊢
  clear hX
  go_wp2_with fail
  refine (pfind_any P fo fs.length fc fs n (-1) X (HH.out.c4 rfl) HH.out.own.row rfl HIDX.out).mono ?_
  rintro e w2 ⟨rfl, hb⟩
  have HH2 := hide (HH.out.below hb)
  have HK2 := hide (HK.out.trans (HH.out.kept hb))
  have hE := HH2.out.pg.range
  unfold errV at hE
  clear hb HH HK
  go_wp2_with fail
  go_ret
  exact ⟨rfl, HH2.out, HK2.out⟩
set_option maxRecDepth 100000 in
set_option maxHeartbeats 8000000 in
theorem pset_bad (h : PoolOf w K a P l d F N base most mb fo fc fs T S) (n : Int) {i : Nat} {p : Pg} (hat : AtP S.ps n i p) (lsn : Int) (ao : Option Addr) (k c : Nat) (es : List (Int × Int)) (hr : EntRow w ao es) (hk : es.length = k) (hok : okP lsn es = false) :
    Calls Tryd.prog 14 #[.pointer (some ⟨P, 0, none⟩), .int .i64 n, pageV lsn ao k c] w fun e w' => e = .returned (errV (a 1)) ∧ PoolOf w' K a P l d F N base most mb fo fc fs T S ∧ Kept K w w' := by
  obtain ⟨f, hf, hfp, hidx⟩ := idx_at h.pages hat
  have hb := below_box w (pageBlock lsn ao k c)
  have HH := hide (h.below hb)
  have HK := hide (h.kept hb)
  have HQ := hide (pblk_new w lsn ao k c)
  have HR := hide (hr.step hb)
  have HIDX := hide hidx
  have HKO := hide hk
  have HCK : Hid (checkPV lsn es (a 1) = errV (a 1)) := by show _ = _; unfold checkPV; rw [hok]; rfl
  unfold pageBlock at HH HK HQ HR
  unfold pageV
  clear h hat hb hf hfp hidx hr hk hok
  go_enter Tryd.func14, Tryd.ntmps14
  go_upto_region 1 with fail
  obtain ⟨X, hX⟩ : ∃ X, X = w.alloc (.cells #[.int .i64 lsn, .slice ao k c] 34) := ⟨_, rfl⟩
  obtain ⟨Q, hQ⟩ : ∃ Q, Q = w.heap.size := ⟨_, rfl⟩
  rw [← hX] at HH HK HQ HR ⊢
  rw [← hQ] at HQ ⊢
  clear hX hQ
  go_wp2_with fail
  refine (pfind_any P fo fs.length fc fs n i X (HH.out.c4 rfl) HH.out.own.row rfl HIDX.out).mono ?_
  rintro e w2 ⟨rfl, hb⟩
  have HH2 := hide (HH.out.below hb)
  have HK2 := hide (HK.out.trans (HH.out.kept hb))
  have HQ2 := hide (HQ.out.step hb)
  have HR2 := hide (HR.out.step hb)
  clear hb HH HK HQ HR HIDX
  have q0 := HQ2.out.c0
  have q1 := HQ2.out.c1
  have hi0 : decide ((i : Int) < 0) = false := by simp
  go_wp2_with fail
  clear q0 q1
  refine (pcheck_any lsn ao k c es w2 (a 1) HH2.out.pg.range HR2.out HKO.out).mono ?_
  rintro e w3 ⟨rfl, hb⟩
  rw [HCK.out]
  have HH3 := hide (HH2.out.below hb)
  have HK3 := hide (HK2.out.trans (HH2.out.kept hb))
  clear hb HH2 HK2
  unfold errV
  go_wp2_with fail
  go_ret
  exact ⟨rfl, HH3.out, HK3.out⟩
set_option maxRecDepth 100000 in
set_option maxHeartbeats 16000000 in
theorem pset_ok (h : PoolOf w K a P l d F N base most mb fo fc fs T S) (hT : T ≤ 1000) (n : Int) (hn : (Lit.int .i64 n).wf = true) {i : Nat} {p : Pg} (hat : AtP S.ps n i p) (lsn : Int) (ao : Option Addr) (k c : Nat) (es : List (Int × Int)) (hr : EntRow w ao es) (hk : es.length = k) (hok : okP lsn es = true) :
    Calls Tryd.prog 14 #[.pointer (some ⟨P, 0, none⟩), .int .i64 n, pageV lsn ao k c] w fun e w' => ∃ mb' fs', e = .returned .nilIface ∧ PoolOf w' K a P l d F N base most mb' fo fc fs' (T + 1) (S.setS i n lsn es) ∧ Kept K w w' := by
  obtain ⟨m, hm⟩ : ∃ m, fs.length = m := ⟨_, rfl⟩
  obtain ⟨f, hf, hfp, hidx⟩ := idx_at h.pages hat
  have him : i < m := by rw [← hm]; exact (List.getElem?_eq_some_iff.1 hf).1
  have hm9 : m ≤ 1000 := by rw [← hm]; exact h.own.2
  obtain ⟨b, off, hfo, hlb, hc⟩ := h.own.row.2 (by omega)
  obtain ⟨g, hg0⟩ : ∃ g, fo = some ⟨g, 0, none⟩ := by
    rcases h.own.1.2 with ⟨e, h0⟩ | ⟨g, c, cur, hv, _⟩
    · omega
    · simp only [Value.slice.injEq] at hv
      exact ⟨g, hv.1⟩
  subst hg0
  simp only [Option.some.injEq, Addr.mk.injEq] at hfo
  obtain ⟨rfl, rfl, _⟩ := hfo
  obtain ⟨q1, q2, q3⟩ := hc i f hf
  rw [Nat.zero_add] at q1 q2 q3
  have hgh : ∃ cur : Array Value, w.heap[g]? = some (.cells cur 90 (0, 0)) := by
    obtain ⟨cur, hcur⟩ := owns_type h.own.1 (show (Value.slice (some ⟨g, 0, none⟩) fs.length fc).ownBlock = some g from rfl)
    exact ⟨cur, hcur⟩
  obtain ⟨cur, hcur⟩ := hgh
  have hl := (okP_iff _ _).1 hok
  have HWL : Hid ((Lit.int .i64 lsn).wf = true) := wf_small (by have := hl.l0; omega) (by have := hl.l1; omega)
  have hb := below_box w (pageBlock lsn ao k c)
  have HH := hide h
  have HB := hide hb
  have HQ := hide (pblk_new w lsn ao k c)
  have HR := hide (hr.step hb)
  have HIDX := hide hidx
  have HKO := hide hk
  have HM := hide hm
  have HCK : Hid (checkPV lsn es (a 1) = .nilIface) := by show _ = _; unfold checkPV; rw [hok]; rfl
  have HQ2 := hide q2
  have HQ3 := hide q3
  have HCU := hide hcur
  have HF := hide hf
  have HFP : Hid (f.pg.n = n) := by show f.pg.n = n; rw [hfp]; exact hat.2.1
  have HW := hide hn
  have HT := hide hT
  unfold pageBlock at HB HQ HR
  unfold pageV
  clear h hat hb hf hfp hidx hr hk hok hl q1 q2 q3 hcur hc hlb hm hn hT
  go_enter Tryd.func14, Tryd.ntmps14
  go_upto_region 1 with fail
  obtain ⟨X, hX⟩ : ∃ X, X = w.alloc (.cells #[.int .i64 lsn, .slice ao k c] 34) := ⟨_, rfl⟩
  obtain ⟨Q, hQ⟩ : ∃ Q, Q = w.heap.size := ⟨_, rfl⟩
  have HWQ : Hid (w.heap.size ≤ Q) := by show _ ≤ Q; omega
  rw [← hX] at HB HQ HR ⊢
  rw [← hQ] at HQ ⊢
  clear hX hQ
  go_wp2_with fail
  refine (pfind_any P (some ⟨g, 0, none⟩) m fc fs n i X ((HH.out.below HB.out).c4 HM.out) (HH.out.below HB.out).own.row HM.out HIDX.out).mono ?_
  rintro e w2 ⟨rfl, hb⟩
  have HB2 := hide (over HB.out hb HB.out.size)
  have HP2 := hide (HQ.out.step hb)
  have HR2 := hide (HR.out.step hb)
  clear hb HB HQ HR HIDX
  have q0 := HP2.out.c0
  have q1 := HP2.out.c1
  have hi0 : decide ((i : Int) < 0) = false := by simp
  go_wp2_with fail
  clear q0 q1
  refine (pcheck_any lsn ao k c es w2 (a 1) (HH.out.below HB2.out).pg.range HR2.out HKO.out).mono ?_
  rintro e w3 ⟨rfl, hb⟩
  rw [HCK.out]
  have HB3 := hide (over HB2.out hb HB2.out.size)
  have HP3 := hide (HP2.out.step hb)
  have HR3 := hide (HR2.out.step hb)
  clear hb HB2 HP2 HR2
  have hki : (i : Int) < (m : Int) := by omega
  have c4 := (HH.out.below HB3.out).c4 HM.out
  have q0 := HP3.out.c0
  have q1 := HP3.out.c1
  have HC : Hid (Calls Tryd.prog 32 #[.agg #[.int .i64 lsn, .slice ao k c]] w3.drew fun e w' => ∃ ao' c', e = .returned (pageV lsn ao' k c') ∧ OwnE w' w3.heap.size ao' c' es ∧ Below w3.heap.size w3 w') := (pown_any lsn ao k c es w3.drew HR3.out.drew HKO.out).mono fun e w' h => by
    obtain ⟨a, b, h1, h2, h3⟩ := h
    exact ⟨a, b, h1, h2, of_drew h3⟩
  go_wp2_with fail
  go_region_with (go_at_call 32; refine HC.out.mono ?_; rintro e w4 ⟨ao2, c2, rfl, hown, hb⟩; have HB4 := hide (over HB3.out hb HB3.out.size); have HP4 := hide (HP3.out.step hb); have HO4 := hide (hown.mono HB3.out.size); have hcu4 := (HB4.out.block g (lt_of_block HCU.out)).trans HCU.out; have f1 := frozen_cells hcu4 (i * 3 + 1); have f2 := frozen_cells hcu4 (i * 3 + 2); have r1 := (HB4.out.cell (p := ⟨g, i * 3 + 1, none⟩) (lt_of_block HCU.out)).trans HQ2.out; have r2 := (HB4.out.cell (p := ⟨g, i * 3 + 2, none⟩) (lt_of_block HCU.out)).trans HQ3.out; have c44 := (HH.out.below HB4.out).c4 HM.out; have q04 := HP4.out.c0; have q14 := HP4.out.c1; clear hown hb; unfold pageV)
  all_goals
    have hput := HH.out.putF HB4.out HF.out lsn es ao2 c2 HO4.out
    rw [HKO.out, HFP.out] at hput
    have HPU := hide hput
    have hQg : ¬ Q = g := by
      rintro rfl
      have h1 := HP4.out
      unfold PBlk at h1
      rw [hcu4] at h1
      simp at h1
    have HQ5 := hide ((HP4.out.far (Q := g) (fun e => hQg e.symm) (i * 3 + 1) (.int .i64 lsn)).far (Q := g) (fun e => hQg e.symm) (i * 3 + 2) (.slice ao2 k c2))
    clear hput r1 r2 f1 f2 c44 q04 q14 hcu4 hQg c4 q0 q1
    obtain ⟨W5, hW5⟩ : ∃ W5, W5 = (w4.setCell ⟨g, i * 3 + 1, none⟩ (.int .i64 lsn)).setCell ⟨g, i * 3 + 2, none⟩ (.slice ao2 k c2) := ⟨_, rfl⟩
    rw [← hW5] at HPU HQ5
    have HW5 := hide hW5
    rw [show i * 3 + 1 + 1 = i * 3 + 2 from rfl, ← hW5]
    clear hW5
    have q0 := HQ5.out.c0
    have hqlt := HQ5.out.lt
    have HADD : Hid (Calls Tryd.prog 39 #[.pointer (some ⟨P, 0, none⟩), .int .i64 n, .int .i64 lsn] W5.drew fun e w' => e = .returned (.tuple #[]) ∧ ∃ mb', PoolOf w' K a P l d F N base most mb' (some ⟨g, 0, none⟩) fc (fs.set i ⟨⟨f.pg.n, lsn, es⟩, ao2, c2⟩) (T + 1) (S.setS i n lsn es) ∧ Kept K W5 w' ∧ w'.cell? ⟨Q, 0, none⟩ = some (.int .i64 lsn)) := (((HPU.out.1.below (below_drew (Below.refl _ _))).added HT.out n lsn HW.out HWL.out).mono fun e w' h => by
      obtain ⟨h1, mb', h2, h3, h4⟩ := h
      refine ⟨h1, mb', ?_, h3.of_drew, (World.cell?_of_block (w := W5.drew) (h4 Q HQ5.out.lt (fun e => by have := HH.out.lt; have := HWQ.out; omega) (fun e => by have := (HH.out.tab.own Q e).lt; have := HWQ.out; omega))).trans HQ5.out.c0⟩
      rw [HFP.out]
      exact h2)
    go_wp2_with fail
    go_region_held3 (fun w' => w'.cell? ⟨Q, 0, none⟩ = some (.int .i64 lsn)) (first | go_keep | assumption)
      (first | (go_at_call 39; refine HADD.out.mono ?_; rintro e w6 ⟨rfl, mb', hp6, hk6, hq6⟩; have HP6 := hide hp6; have HK6 := hide (HPU.out.2.trans hk6); clear hp6 hk6))
    go_wp2_with fail
    go_ret
    exact ⟨_, _, rfl, HP6.out, HK6.out⟩
end
end Go.Proofs.YtjacenhblclkaaaDoor
