/- Lemmas and contracts that the law stands on, joined: PoHere, PoFirst, PoFirst2, PoMiss. -/
import Derived.Test.YtjacenhblclkaaaDoorJoin50
import Derived.Test.YtjacenhblclkaaaDoorJoin5
import Derived.Test.YtjacenhblclkaaaDoorJoin37
/- What a pool's Here, Dirty and New answer. -/
namespace Go.Proofs.YtjacenhblclkaaaDoor
open Go.RowKit
set_option linter.unusedVariables false

/-- The numbers of the pages that are here. -/
def hereL (ps : List Pg) : List Int := ps.map (·.n)
section
variable {w w0 w' w1 : World} {K : Nat → Prop} {a : Nat → Addr} {P l d F N : Nat} {base most : Int} {mb : Option Nat} {fo : Option Addr} {fc : Nat} {fs fs' : List Fr} {T : Nat} {S : PSt}
set_option maxRecDepth 100000 in
set_option maxHeartbeats 8000000 in
theorem phere_any (h : PoolOf w K a P l d F N base most mb fo fc fs T S) :
    Calls Tryd.prog 18 #[.pointer (some ⟨P, 0, none⟩)] w fun e w' => ∃ ao c, e = .returned (.slice ao (hereL S.ps).length c) ∧ OwnI w' w.heap.size ao (hereL S.ps).length c (hereL S.ps) ∧ Below w.heap.size w w' := by
  obtain ⟨m, hm⟩ : ∃ m, fs.length = m := ⟨_, rfl⟩
  have hl : (hereL S.ps).length = m := by unfold hereL; rw [List.length_map, ← h.len, hm]
  have hr := h.own.row
  have hm9 : m ≤ 1000 := by rw [← hm]; exact h.own.2
  have c4 := h.c4 hm
  have hps : hereL S.ps = fs.map (·.pg.n) := by unfold hereL; rw [← h.pages, List.map_map]; rfl
  rw [hl, hps]
  have HR := hide hr
  have HM := hide hm
  clear h hl hr hm hps
  go_enter Tryd.func18, Tryd.ntmps18
  go_wp2_with fail
  clear c4
  go_loopw [3, 11] (fun v i wr => ∃ (k : Nat) (ao : Option Addr) (c : Nat), k ≤ m ∧ i = .int .i64 k ∧ v = .slice ao k c ∧ OwnI wr w.heap.size ao k c ((fs.take k).map (·.pg.n)) ∧ Below w.heap.size w wr) (fun _ i _ => m - (intOf i).toNat)
  case atStart => exact ⟨0, none, 0, by omega, rfl, rfl, ownI_nil _ _, Below.refl _ _⟩
  case round =>
    obtain ⟨k, ao, c, hk, rfl, rfl, hown, hbel⟩ := hrel
    have HO := hide hown
    have HB := hide hbel
    clear hown hbel
    by_cases hlt : k < m
    · have hki : (k : Int) < (m : Int) := by omega
      obtain ⟨f, hf⟩ : ∃ f, fs[k]? = some f := ⟨fs[k]'(by rw [HM.out]; exact hlt), List.getElem?_eq_getElem _⟩
      obtain ⟨b, off, rfl, hlb, hc⟩ := HR.out.2 (by rw [HM.out]; omega)
      obtain ⟨c1, c2, c3⟩ := hc k f hf
      have k1 := (HB.out.cell (p := ⟨b, off + k * 3, none⟩) hlb).trans c1
      have k2 := (HB.out.cell (p := ⟨b, off + k * 3 + 1, none⟩) hlb).trans c2
      have k3 := (HB.out.cell (p := ⟨b, off + k * 3 + 2, none⟩) hlb).trans c3
      have hb1 := below_box wr (frBlock f)
      have hb2 := below_box (wr.alloc (frBlock f)) (.cells #[.int .i64 f.pg.n] 3)
      have hb3 := over hb1 hb2 hb1.size
      obtain ⟨ao2, c4, w2, hrun, hown2, hgr, hb4⟩ := run_appendI (m := 1) (yc := 1) (HO.out.step hb3) (ys := [f.pg.n]) rfl (by omega) (Nat.le_trans HB.out.size hb3.size) (cell_one_new (wr.alloc (frBlock f)) (.int .i64 f.pg.n) 3) 22
      have HTK : Hid ((fs.take (k + 1)).map (·.pg.n) = (fs.take k).map (·.pg.n) ++ [f.pg.n]) := by show _ = _; rw [takeF_succ hf, List.map_append]; rfl
      rw [← HTK.out] at hown2
      have hsz : (wr.alloc (frBlock f)).heap.size = wr.heap.size + 1 := by simp
      rw [hsz] at hrun
      have HRUN := hide hrun
      have HO2 := hide hown2
      have HB2 := hide ((HB.out.trans (hb3.mono HB.out.size)).trans hb4)
      unfold frBlock at HRUN
      clear hc c1 c2 c3 hf hb1 hb2 hb3 hrun hown2 hgr hb4 HO hlb hsz
      go_wp2_with (at_builtin; refine wpList_append_run (by rfl) (.tmp 15) (.tmp 18) 22 (by rfl) _ _ (by rfl) (by rfl) HRUN.out ?_)
      go_roundw
      case rel => exact ⟨k + 1, ao2, c4, by omega, by go_num, rfl, HO2.out, HB2.out⟩
      case measure => simp [intOf]; omega
    · have hki : decide ((k : Int) < (m : Int)) = false := by simp; omega
      obtain rfl : k = m := by omega
      have HT : Hid (fs.take k = fs) := List.take_of_length_le (by rw [HM.out]; exact Nat.le_refl _)
      rw [HT.out] at HO
      go_wp2_with fail
      go_ret
      exact ⟨ao, c, rfl, HO.out, HB.out⟩
theorem pdirty_any (h : PoolOf w K a P l d F N base most mb fo fc fs T S) (hes : S.es.length ≤ 500) :
    Calls Tryd.prog 21 #[.pointer (some ⟨P, 0, none⟩)] w fun e w' => ∃ ao c, e = .returned (.slice ao S.es.length c) ∧ OwnD w' w.heap.size ao c S.es ∧ Below w.heap.size w w' := by
  have HT := hide h.tab
  have HE := hide hes
  clear h hes
  go_enter Tryd.func21, Tryd.ntmps21
  go_wp2_with fail
  refine (all_any HT.out HE.out).mono ?_
  rintro e w2 ⟨ao, c, rfl, hown, hb⟩
  have HO := hide hown
  have HB := hide hb
  clear hown hb
  go_wp2_with fail
  go_ret
  exact ⟨ao, c, rfl, HO.out, HB.out⟩
theorem pnew_any (d l : Nat) (n : Int) (w : World) :
    Calls Tryd.prog 10 #[.pointer (some ⟨d, 0, none⟩), .pointer (some ⟨l, 0, none⟩), .int .i64 n] w fun e w' => e = .returned (.pointer (some ⟨w.heap.size, 0, none⟩)) ∧ w' = w.alloc (.cells (poolCells none d l (min (max n 1) 8) (.slice none 0 0)) 86) := by
  go_enter Tryd.func10, Tryd.ntmps10
  go_wp2_with fail
  go_ret
  exact ⟨rfl, rfl⟩
/-- A pool that was made over a log. -/
theorem pool_new {ep : Int} {rs : List R} {D : Nat} {vss : List (List (List Int))} {off : Bool} {fuse : Int} {L : Nat → Prop} (h : Log w L a l d vss off fuse F N base ep rs D) (hp : K (gno 6) ∧ w.cell? ⟨gno 6, 0, none⟩ = some (errV (a 6))) (hK : ∀ k, K k → L k) (he : ErrsK w K a) :
    PoolOf (w.alloc (.cells (poolCells none d l most (.slice none 0 0)) 86)) K a w.heap.size l d F N base most none none 0 [] 0 ⟨vss, off, fuse, ep, rs, D, [], []⟩ := by
  have hb := below_box w (.cells (poolCells none d l most (.slice none 0 0)) 86)
  have hlow : ∀ k, K k → k < w.heap.size := fun k hk => h.low k (hK k hk)
  have hkp : Kept K w (w.alloc (.cells (poolCells none d l most (.slice none 0 0)) 86)) := Kept.of_below hb hlow
  refine ⟨heap_alloc_new _ _, ⟨⟨_, _, heap_alloc_new _ _, rfl⟩, List.Pairwise.nil, fun _ => rfl, fun b e => by simp at e⟩, ownF_nil _ _, rfl, fun f hf => by simp at hf, ?_, fun hk => absurd (hlow _ hk) (by omega), fun b e => by simp at e, fun g e => by simp [Value.ownBlock] at e, he.kept hkp, ⟨hp.1, (hkp.cell hp.1).trans hp.2⟩⟩
  refine (h.widen hb).narrow (fun k hk => ?_) fun i hi => .inl (he i hi).1
  rcases hk with hk | hk | hk | hk | ⟨f, hf, _⟩
  · exact .inl (hK k hk)
  · exact .inr ⟨by omega, by rw [hk]; simp⟩
  · simp at hk
  · simp [Value.ownBlock] at hk
  · simp at hf
end
end Go.Proofs.YtjacenhblclkaaaDoor

/- A pool over a new disk; the chapter's examples on pools; what is read of new sectors. -/
namespace Go.Proofs.YtjacenhblclkaaaDoor
open Go.RowKit
set_option linter.unusedVariables false

/-- A disk of N new sectors, a new log, these pages here, as they are on disk. -/
def ZSt (N : Nat) (l : List Int) : PSt := ⟨List.replicate N [fillOf 0], false, -1, 1, [], 0, [], l.map fun n => ⟨n, 0, []⟩⟩
theorem zero_sec : isPage (fillOf 0) = true ∧ lsnOf (fillOf 0) = 0 ∧ entsOf (fillOf 0) = [] ∧ okP 0 [] = true := by decide +kernel
theorem st_ok {N : Nat} {l : List Int} (h8 : l.length ≤ 8) (hl : ∀ n ∈ l, 1 ≤ n ∧ n < N) : (ZSt N l).Ok 1 := by
  refine ⟨fun p hp => ?_, fun i => ?_, by show (l.map _).length ≤ 8; rw [List.length_map]; exact h8⟩
  · obtain ⟨n, hn, rfl⟩ := List.mem_map.1 hp
    obtain ⟨h1, h2⟩ := hl n hn
    exact ⟨zero_sec.2.2.2, h1, by show n < ((List.replicate N [fillOf 0]).length : Int); rw [List.length_replicate]; exact h2⟩
  · show ((List.replicate N [fillOf 0]).getD i []).length ≤ 1
    rw [List.getD_eq_getElem?_getD, List.getElem?_replicate]
    split <;> simp
theorem st_here (N : Nat) (l : List Int) : hereL (ZSt N l).ps = l := by
  show (l.map _).map _ = l
  rw [List.map_map]
  exact List.map_id l
theorem st_none {N : Nat} {l : List Int} {n : Int} (h : ¬ n ∈ l) : getP (ZSt N l).ps n = none := getP_none fun p hp e => by
  obtain ⟨x, hx, rfl⟩ := List.mem_map.1 hp
  have : x = n := e
  exact h (this ▸ hx)
theorem st_get {N : Nat} {l : List Int} {n : Int} (h : n ∈ l) : getP (ZSt N l).ps n = some ⟨n, 0, []⟩ := by
  show getP (l.map _) n = _
  induction l with
  | nil => simp at h
  | cons x s ih =>
    rw [List.map_cons, getP]
    by_cases hx : x = n
    · rw [if_pos hx, hx]
    · rw [if_neg hx]
      exact ih ((List.mem_cons.1 h).resolve_left fun e => hx e.symm)
theorem st_fetch {N : Nat} {l : List Int} {n : Int} (h1 : 1 ≤ n) (h2 : n < N) : (ZSt N l).fetch n = ⟨ZSt N (l ++ [n]), 0, [], 0, false, 0⟩ := by
  have hs : (ZSt N l).sec n = fillOf 0 := by
    show lastV ((List.replicate N [fillOf 0]).getD n.toNat []) = fillOf 0
    rw [List.getD_eq_getElem?_getD, List.getElem?_replicate, if_pos (by omega)]
    rfl
  have hc : (ZSt N l).rdC n = 0 := by
    unfold PSt.rdC
    rw [hs, zero_sec.1]
    show (if false = true then _ else if n < 0 ∨ ((List.replicate N [fillOf 0]).length : Int) ≤ n then _ else _) = _
    rw [if_neg (by simp), List.length_replicate, if_neg (by omega)]
    rfl
  unfold PSt.fetch
  rw [if_pos hc, hs, zero_sec.2.1, zero_sec.2.2.1]
  simp [PSt.more, ZSt]
theorem st_flush (N F : Nat) (l : List Int) (base n : Int) : (ZSt N l).flush F base n = ZSt N l ∧ (ZSt N l).flushC F base n = 0 := by
  unfold PSt.flush PSt.flushC
  split <;> exact ⟨rfl, rfl⟩
theorem st_evict {N F : Nat} {l : List Int} {base hint : Int} : (ZSt N l).evict F base hint = ZSt N (l.take (hintK hint l.length) ++ l.drop (hintK hint l.length + 1)) ∧ (ZSt N l).evictC F base hint = 0 := by
  have hl : (ZSt N l).ps.length = l.length := by show (l.map _).length = _; rw [List.length_map]
  unfold PSt.evict PSt.evictC
  rw [hl]
  cases hg : (ZSt N l).ps[hintK hint l.length]? with
  | none =>
    have h0 : l = [] := by
      cases l with
      | nil => rfl
      | cons x s =>
        rw [List.getElem?_eq_none_iff, hl] at hg
        have := hintK_lt hint (show 0 < (x :: s).length by simp)
        omega
    subst h0
    refine ⟨?_, rfl⟩
    show ZSt N [] = _
    simp
  | some p =>
    obtain ⟨h1, h2⟩ := st_flush N F l base p.n
    simp only [h1, h2, if_true]
    refine ⟨?_, trivial⟩
    show PSt.less _ _ = _
    simp [PSt.less, ZSt, List.map_take, List.map_drop]
/-- What Get makes of such a state. -/
theorem st_got {N F : Nat} {l : List Int} {base hint : Int} {most n : Int} (h1 : 1 ≤ n) (h2 : n < N) :
    (ZSt N l).get F base most n hint = ⟨ZSt N (if n ∈ l then l else if most ≤ l.length then l.take (hintK hint l.length) ++ l.drop (hintK hint l.length + 1) ++ [n] else l ++ [n]), 0, [], 0, false, 0⟩ := by
  have hl : (ZSt N l).ps.length = l.length := by show (l.map _).length = _; rw [List.length_map]
  unfold PSt.get
  rw [if_neg (by omega)]
  by_cases hm : n ∈ l
  · rw [st_get hm, if_pos hm]
  · rw [st_none hm, if_neg hm]
    unfold PSt.room PSt.roomC
    rw [hl]
    by_cases hf : most ≤ (l.length : Int)
    · rw [if_pos hf, if_pos hf, if_pos hf, (st_evict (F := F) (base := base)).2, if_pos rfl, (st_evict (F := F) (base := base)).1, st_fetch h1 h2]
    · rw [if_neg hf, if_neg hf, if_neg hf, if_pos rfl, st_fetch h1 h2]
section
variable {w w1 : World} {ks : List Nat} {a : Nat → Addr} {d n F N : Nat} {base ep most : Int}
theorem pool_made (he : ErrsOf w ks a) (hs : (∀ i ∈ seven, i ∈ ks) ∧ 6 ∈ ks) (hd : Disk w1 (fun b => b < w.heap.size) a d (List.replicate n [fillOf 0]) false (-1)) (hb : Below w.heap.size w w1) (h0 : 0 ≤ base ∧ base ≤ 1073741824) (hF : F + N ≤ n) (hN : N ≤ 100) :
    PoolOf ((w1.alloc (.cells (logCells d F N base 1 (.slice none 0 0) 0) 80)).alloc (.cells (poolCells none d w1.heap.size most (.slice none 0 0)) 86)) (ahead w.heap.size) a (w1.alloc (.cells (logCells d F N base 1 (.slice none 0 0) 0) 80)).heap.size w1.heap.size d F N base most none none 0 [] 0 (ZSt n []) ∧
      Below w.heap.size w ((w1.alloc (.cells (logCells d F N base 1 (.slice none 0 0) 0) 80)).alloc (.cells (poolCells none d w1.heap.size most (.slice none 0 0)) 86)) := by
  obtain ⟨h1, h2⟩ := log_made (F := F) (N := N) (base := base) (ep := 1) he hs.1 hd hb h0 (by omega) hF hN
  have hk : Kept (ahead w.heap.size) w (w1.alloc (.cells (logCells d F N base 1 (.slice none 0 0) 0) 80)) := Kept.of_below h2 fun k hk => hk
  have hc6 := he.cell 6 hs.2
  have hl6 : gno 6 < w.heap.size := World.block_lt_of_cell? w _ hc6
  exact ⟨pool_new h1 ⟨hl6, (hk.cell (p := ⟨gno 6, 0, none⟩) hl6).trans hc6⟩ (fun k hk => hk) ((errs_ahead he hs.1).kept hk), over h2 (below_box _ _) h2.size⟩
end
end Go.Proofs.YtjacenhblclkaaaDoor

/- The chapter's examples on pools, as the statements ask them first; a disk, a log, a pool that are made. -/
namespace Go.Proofs.YtjacenhblclkaaaDoor
open Go.RowKit
set_option linter.unusedVariables false

set_option maxRecDepth 100000 in
set_option maxHeartbeats 4000000 in
theorem pofirst_any (w : World) {ks : List Nat} {a : Nat → Addr} (he : ErrsOf w ks a) (hs : (∀ i ∈ seven, i ∈ ks) ∧ 6 ∈ ks) : Calls Tryd.prog 7 #[] w fun e w' => e = .returned (.bool true) ∧ Below w.heap.size w w' := by
  have HE := hide he
  have HS := hide hs
  clear he hs
  go_enter Tryd.func7, Tryd.ntmps7
  go_wp2_with fail
  refine (new_any 5 5 (.inr (.inl ⟨by omega, by omega, rfl⟩)) (errs_three HE.out HS.out.1)).mono ?_
  rintro e w1 ⟨d, rfl, hd, hdisk, hbel⟩
  have HM := hide (pool_made (F := 3) (N := 2) (base := 0) (most := 2) HE.out HS.out hdisk hbel (by omega) (by omega) (by omega))
  clear hdisk hbel hd
  go_wp2_with fail
  refine (wnew_any d 3 2 0 1 w1 (by omega)).mono ?_
  rintro e w2 ⟨rfl, hw2⟩
  rw [← hw2] at HM
  clear hw2
  go_wp2_with fail
  refine (pnew_any d w1.heap.size 2 w2).mono ?_
  rintro e w3 ⟨rfl, hw3⟩
  rw [show min (max (2 : Int) 1) 8 = 2 from rfl] at hw3
  rw [← hw3] at HM
  clear hw3
  obtain ⟨P, hP⟩ : ∃ P, P = w2.heap.size := ⟨_, rfl⟩
  rw [← hP] at HM ⊢
  clear hP
  go_wp2_with fail
  refine (phere_any HM.out.1).mono ?_
  rintro e w4 ⟨ao, c, rfl, _, hb⟩
  have HP4 := hide (HM.out.1.below hb)
  have HB4 := hide (over HM.out.2 hb HM.out.2.size)
  rw [show (hereL (ZSt 5 []).ps).length = 0 from rfl]
  clear hb HM
  go_wp2_with fail
  refine (pget_any HP4.out (st_ok (by simp) (by simp)) (by omega) (by omega) 1 0).mono ?_
  rintro e w5 ⟨bo, bc, fv, fo, fc, fs, rfl, hown, hf, hp, hk⟩
  rw [st_got (by omega) (by omega)] at hown hf hp ⊢
  have hfv : fv = .nilIface := by
    rcases hf with ⟨⟨h1, _⟩ | ⟨i, _, _, h3⟩, _⟩ | ⟨b, _, h3, _⟩
    · exact h1
    · have : (0 : Int) = 101 + (i : Int) := h3
      omega
    · have : (0 : Int) = 107 := h3
      omega
  subst hfv
  have HP5 : Hid (PoolOf w5 (ahead w.heap.size) a P w1.heap.size d 3 2 0 2 none fo fc fs 0 (ZSt 5 [1])) := hp
  have HB5 : Hid (Below w.heap.size w w5) := by have h1 := HB4.out; exact ⟨hk.os.trans h1.os, hk.tape.trans h1.tape, hk.output.trans h1.output, Nat.le_trans h1.size hk.size, fun k hk' => (hk.block k hk').trans (h1.block k hk')⟩
  clear hown hf hp hk HP4 HB4
  have hbx := below_box w5 (pageBlock 0 bo 0 bc)
  have HP6 := hide (HP5.out.below hbx)
  have HB6 := hide (over HB5.out hbx HB5.out.size)
  have HQ6 := hide (pblk_new w5 0 bo 0 bc)
  unfold pageBlock at HP6 HB6 HQ6
  unfold pageV
  clear hbx HP5 HB5
  go_upto_region 11 with fail
  obtain ⟨X6, hX6⟩ : ∃ X6, X6 = w5.alloc (.cells #[.int .i64 0, .slice bo 0 bc] 34) := ⟨_, rfl⟩
  obtain ⟨Q, hQ⟩ : ∃ Q, Q = w5.heap.size := ⟨_, rfl⟩
  rw [← hX6] at HP6 HB6 HQ6 ⊢
  rw [← hQ] at HQ6 ⊢
  clear hX6 hQ
  have q0 := HQ6.out.c0
  go_wp2_with fail
  refine (phere_any HP6.out).mono ?_
  rintro e w7 ⟨ao2, c2, rfl, _, hb⟩
  have HB7 := hide (over HB6.out hb HB6.out.size)
  rw [show (hereL (ZSt 5 [1]).ps).length = 1 from rfl]
  clear hb HP6 HB6
  go_wp2_with fail
  go_ret
  exact ⟨rfl, HB7.out⟩
set_option maxRecDepth 100000 in
set_option maxHeartbeats 4000000 in
theorem made_any (frames : Int) (w : World) {ks : List Nat} {a : Nat → Addr} (he : ErrsOf w ks a) (hs : (∀ i ∈ seven, i ∈ ks) ∧ 6 ∈ ks) : Calls Tryd.prog 22 #[.int .i64 frames] w fun e w' => ∃ d l P, e = .returned (.tuple #[.pointer (some ⟨d, 0, none⟩), .pointer (some ⟨l, 0, none⟩), .pointer (some ⟨P, 0, none⟩)]) ∧ PoolOf w' (ahead w.heap.size) a P l d 10 9 0 (min (max frames 1) 8) none none 0 [] 0 (ZSt 20 []) ∧ Below w.heap.size w w' := by
  have HE := hide he
  have HS := hide hs
  clear he hs
  go_enter Tryd.func22, Tryd.ntmps22
  go_wp2_with fail
  refine (new_any 20 20 (.inr (.inl ⟨by omega, by omega, rfl⟩)) (errs_three HE.out HS.out.1)).mono ?_
  rintro e w1 ⟨d, rfl, hd, hdisk, hbel⟩
  have HM := hide (pool_made (F := 10) (N := 9) (base := 0) (most := min (max frames 1) 8) HE.out HS.out hdisk hbel (by omega) (by omega) (by omega))
  clear hdisk hbel hd
  go_wp2_with fail
  refine (wnew_any d 10 9 0 1 w1 (by omega)).mono ?_
  rintro e w2 ⟨rfl, hw2⟩
  rw [← hw2] at HM
  clear hw2
  go_wp2_with fail
  refine (pnew_any d w1.heap.size frames w2).mono ?_
  rintro e w3 ⟨rfl, hw3⟩
  rw [← hw3] at HM
  clear hw3
  go_wp2_with fail
  go_ret3
  exact ⟨d, _, _, rfl, HM.out.1, HM.out.2⟩
/-- A call of a pool's: what it leaves of what was there. -/
theorem below_pool {w0 w w' : World} (h : Below w0.heap.size w0 w) (hk : Kept (ahead w0.heap.size) w w') : Below w0.heap.size w0 w' :=
  ⟨hk.os.trans h.os, hk.tape.trans h.tape, hk.output.trans h.output, Nat.le_trans h.size hk.size, fun k hk' => (hk.block k hk').trans (h.block k hk')⟩
/-- No error. -/
theorem faultOf_nil {w : World} {a : Nat → Addr} {fv : Value} {pl : Bool} {pos : Int} (h : FaultOf w a fv 0 pl pos) : fv = .nilIface := by
  rcases h with ⟨⟨h1, _⟩ | ⟨i, _, _, h3⟩, _⟩ | ⟨b, _, h3, _⟩
  · exact h1
  · omega
  · omega
theorem fault_bare {w : World} {a : Nat → Addr} {fv : Value} {cd : Int} {pos : Int} (h : FaultOf w a fv cd false pos) : ErrCode a fv cd := by
  rcases h with h | ⟨b, _, _, h3, _⟩
  · exact h.1
  · cases h3
theorem code_bare {a : Nat → Addr} {fv : Value} {i : Nat} (h : ErrCode a fv (101 + (i : Int))) : fv = errV (a i) := by
  rcases h with ⟨_, h2⟩ | ⟨j, _, h2, h3⟩
  · omega
  · obtain rfl : i = j := by omega
    exact h2
end Go.Proofs.YtjacenhblclkaaaDoor

/- Get of a page that is no page, where there is room: only new memory is made. -/
namespace Go.Proofs.YtjacenhblclkaaaDoor
open Go.RowKit
set_option linter.unusedVariables false

section
variable {w w0 w' w1 : World} {K : Nat → Prop} {a : Nat → Addr} {P l d F N : Nat} {base most : Int} {mb : Option Nat} {fo : Option Addr} {fc : Nat} {fs fs' : List Fr} {T : Nat} {S : PSt}
set_option maxRecDepth 100000 in
set_option maxHeartbeats 8000000 in
theorem pget_miss (h : PoolOf w K a P l d F N base most mb fo fc fs T S) (n hint : Int) (hn : 1 ≤ n) (hno : ∀ p ∈ S.ps, p.n ≠ n) (hroom : ¬ most ≤ (S.ps.length : Int)) (hc : S.rdC n ≠ 0) (hm8 : S.ps.length ≤ 8) :
    Calls Tryd.prog 12 #[.pointer (some ⟨P, 0, none⟩), .int .i64 n, .int .i64 hint] w fun e w' => ∃ fv, e = .returned (.tuple #[pageV 0 none 0 0, fv]) ∧ FaultOf w' a fv (S.rdC n) (S.rdP n) (S.rdN n) ∧ Below w.heap.size w w' ∧ ∀ b, fv = atV ⟨b, 0, none⟩ → w.heap.size ≤ b := by
  obtain ⟨m, hm⟩ : ∃ m, fs.length = m := ⟨_, rfl⟩
  have hml : S.ps.length = m := by rw [← h.len, hm]
  rw [hml] at hroom hm8
  have hb0 := below_box w (pageBlock 0 none 0 0)
  have HH := hide h
  have HB := hide hb0
  have HZ := hide (pblk_new w 0 none 0 0)
  have HM := hide hm
  have HC := hide hc
  have HIDX := hide (idx_none h.pages hno)
  unfold pageBlock at HB HZ
  have hn1 : ¬ n < 1 := by omega
  clear h hno hm hml hb0 hc
  go_enter Tryd.func12, Tryd.ntmps12
  go_upto_region 1 with fail
  obtain ⟨X, hX⟩ : ∃ X, X = w.alloc (.cells #[.int .i64 0, .slice none 0 0] 34) := ⟨_, rfl⟩
  rw [← hX] at HB HZ ⊢
  obtain ⟨Z, hZ⟩ : ∃ Z, Z = w.heap.size := ⟨_, rfl⟩
  have HWZ : Hid (w.heap.size ≤ Z) := by show _ ≤ Z; omega
  rw [← hZ] at HZ ⊢
  clear hX hZ
  go_wp2_with fail
  refine (pfind_any P fo m fc fs n (-1) X ((HH.out.below HB.out).c4 HM.out) (HH.out.below HB.out).own.row HM.out HIDX.out).mono ?_
  rintro e w2 ⟨rfl, hb⟩
  have HB2 := hide (over HB.out hb HB.out.size)
  have HZ2 := hide (HZ.out.step hb)
  clear hb HB HZ HIDX
  go_wp2_with fail
  have c3 := (HH.out.below HB2.out).c3
  have c4 := (HH.out.below HB2.out).c4 HM.out
  go_quiet (fail)
  clear c3 c4
  obtain ⟨Y, hY⟩ : ∃ Y, Y = w2.drewN nq := ⟨_, rfl⟩
  have HZ3 : Hid (PBlk Y Z 0 none 0 0) := by show PBlk Y _ _ _ _ _; rw [hY]; exact HZ2.out
  have HB3 : Hid (Below w.heap.size w Y) := by show Below _ w Y; rw [hY]; exact below_drewN HB2.out nq
  rw [← hY]
  clear hY HZ2 HB2
  have hfull' : decide (most ≤ (m : Int)) = false := by simp; omega
  go_wp2_with fail
  refine (poread_any (HH.out.below HB3.out) n).mono ?_
  rintro e w5 ⟨hb, ⟨hc0, _⟩ | ⟨hc0, fv, rfl, hfo, hat⟩⟩
  · exact absurd hc0 HC.out
  · have HB5 := hide (over HB3.out hb HB3.out.size)
    have HZ5 := hide (HZ3.out.step hb)
    have HF5 := hide hfo
    have HAT : Hid (∀ b, fv = atV ⟨b, 0, none⟩ → w.heap.size ≤ b) := fun b e => Nat.le_trans HB3.out.size (hat b e)
    have hfv : ∃ t u, fv = .iface t u := by
      rcases hfo with ⟨⟨h1, h2⟩ | ⟨i, _, h1, _⟩, _⟩ | ⟨b, h1, _⟩
      · exact absurd h2 hc0
      · rw [h1]; exact ⟨_, _, rfl⟩
      · rw [h1]; exact ⟨_, _, rfl⟩
    obtain ⟨t, u, rfl⟩ := hfv
    clear hb hfo hc0 hat
    have hbx := below_box w5 (pageBlock 0 none 0 0)
    have HB6 := hide (over HB5.out hbx HB5.out.size)
    have HZ6 := hide (HZ5.out.step hbx)
    have HF6 := hide (HF5.out.below hbx)
    unfold pageBlock at HB6 HZ6 HF6
    unfold pageV
    clear hbx HB5 HZ5 HF5 HB3 HZ3
    go_upto_region 11 with fail
    obtain ⟨X6, hX6⟩ : ∃ X6, X6 = w5.alloc (.cells #[.int .i64 0, .slice none 0 0] 34) := ⟨_, rfl⟩
    obtain ⟨Q, hQ⟩ : ∃ Q, Q = w5.heap.size := ⟨_, rfl⟩
    rw [← hX6] at HB6 HZ6 HF6 ⊢
    rw [← hQ]
    clear hX6 hQ
    have z0 := HZ6.out.c0
    have z1 := HZ6.out.c1
    have g0 := HZ6.out.fz 0
    have g1 := HZ6.out.fz 1
    go_wp2_with fail
    refine bodyPost_ret (v := .tuple #[.agg #[.int .i64 0, .slice none 0 0], .iface t u]) (by simp [results, Tryd.results12, go_sem, z0, z1]) rfl ?_
    have hz1 := set_block HZ6.out 0 (.int .i64 0)
    exact ⟨_, rfl, (HF6.out.set HZ6.out 0 _).set hz1 1 _, (HB6.out.setCell (p := ⟨Z, 0, none⟩) HWZ.out _).setCell (p := ⟨Z, 1, none⟩) HWZ.out _, HAT.out⟩
end
end Go.Proofs.YtjacenhblclkaaaDoor
