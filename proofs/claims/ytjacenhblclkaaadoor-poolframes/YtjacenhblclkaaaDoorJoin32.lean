/- Lemmas and contracts that the law stands on, joined: News, Fills, Images, Loads, DiskFirst. -/
import Derived.Test.YtjacenhblclkaaaDoorJoin31
import Derived.Deep.OwnRows
/- What disk.New answers, for every number of sectors. -/
namespace Go.Proofs.YtjacenhblclkaaaDoor
open Go.RowKit
set_option linter.unusedVariables false

/-- A sector's bytes, all the same. -/
def fillOf (x : Int) : List Int := List.replicate 256 x
theorem length_fillOf (x : Int) : (fillOf x).length = 256 := List.length_replicate ..
theorem bytes_fillOf {x : Int} (h0 : 0 ≤ x) (h1 : x ≤ 255) : Bytes (fillOf x) := fun y hy => by rw [(List.mem_replicate.1 hy).2]; exact ⟨h0, h1⟩
/-- A new block of a sector's zeros. -/
def zeroBlock : Obj := .cells (cellsOf (fillOf 0)).toArray 5
theorem make_sector (w : World) : (Instr.makeSlice 44 (.int .i64 256) (.int .i64 256)).run Tryd.prog w = .ok (.slice (some ⟨w.heap.size, 0, none⟩) 256 256) (w.alloc zeroBlock) := by
  have h := run_make_row' (P := Tryd.prog) 44 5 (.int .u8 0) 1 Tryd.underlying44 Tryd.info5 rfl .i64 .i64 256 (by decide) (by decide) w
  have e : madeCells #[Value.int .u8 0] 256 = (cellsOf (fillOf 0)).toArray := by
    apply Array.ext'
    rw [toList_madeCells_one]
    exact List.map_replicate.symm
  rw [e] at h
  exact h
theorem own_zeroBlock (w : World) : Own (w.alloc zeroBlock) w.heap.size (some ⟨w.heap.size, 0, none⟩) 256 (fillOf 0) := by
  have h := own_of_row (w := w.alloc zeroBlock) (B := w.heap.size) (xs := fillOf 0) (heap_alloc_new w _) (bytes_fillOf (by omega) (by omega)) (by rw [length_fillOf]; omega)
  rw [length_fillOf] at h
  exact h
theorem Tryd.info76 : (Tryd.prog.info? 76).map (fun i => (i.zero, i.size, i.bytes)) = some (some (.agg #[.slice none 0 0]), 1, 24) := by kernel_rfl

/-- A disk that is being made: k of its N sectors are there. -/
structure PreDisk (w0 w : World) (d s N k : Nat) (ss : List Sec) : Prop where
  head : w.heap[d]? = some (.cells #[.slice (some ⟨s, 0, none⟩) N N, .bool false, .int .i64 (-1)] 73 (0, 0))
  secs : w.heap[s]? = some (.cells (ss.map Sec.v ++ List.replicate (N - k) (Value.slice none 0 0)).toArray 76 (0, 0))
  len : ss.length = k
  each : ∀ x ∈ ss, x.isIn w (fun b => b < w0.heap.size) ∧ x.vs.map (·.xs) = [fillOf 0]
  apart : ∀ (i j : Nat) (x y : Sec), ss[i]? = some x → ss[j]? = some y → i ≠ j → x.v.ownBlock ≠ y.v.ownBlock
  hd : w0.heap.size ≤ d
  hs : w0.heap.size ≤ s
  bel : Below w0.heap.size w0 w
theorem Sec.isIn.of_block {w w' : World} {K : Nat → Prop} {x : Sec} (h : x.isIn w K) (hb : ∀ g, g < w.heap.size → (x.v.ownBlock = some g ∨ ∃ p ∈ x.vs, p.val.ownBlock = some g) → w'.heap[g]? = w.heap[g]?) : x.isIn w' K := by
  obtain ⟨h1, h2, h3, h4, h5⟩ := h
  refine ⟨owns_of_block h1 fun g hg hlt => hb g hlt (.inl hg), h2, h3, h4, fun p hp => ?_⟩
  obtain ⟨p1, p2, p3⟩ := h5 p hp
  exact ⟨p1.of_block fun g hg hlt => hb g hlt (.inr ⟨p, hp, hg⟩), p2, p3⟩
theorem PreDisk.below {w0 w w' : World} {d s N k : Nat} {ss : List Sec} (h : PreDisk w0 w d s N k ss) (hb : Below w.heap.size w w') : PreDisk w0 w' d s N k ss := by
  refine ⟨?_, ?_, h.len, fun x hx => ⟨(h.each x hx).1.of_block fun g hg _ => hb.block g hg, (h.each x hx).2⟩, h.apart, h.hd, h.hs, over h.bel hb h.bel.size⟩
  · rw [hb.block d (lt_of_block h.head)]; exact h.head
  · rw [hb.block s (lt_of_block h.secs)]; exact h.secs
theorem PreDisk.cell {w0 w : World} {d s N k : Nat} {ss : List Sec} (h : PreDisk w0 w d s N k ss) (hk : k < N) : w.cell? ⟨s, k, none⟩ = some (.slice none 0 0) := by
  rw [cell_row h.secs]
  simp only [List.getElem?_toArray]
  rw [List.getElem?_append_right (by simp [h.len]), List.length_map, h.len, Nat.sub_self, List.getElem?_replicate, if_pos (by omega)]
theorem PreDisk.step {w0 w w1 : World} {d s N k : Nat} {ss : List Sec} (h : PreDisk w0 w d s N k ss) (hk : k < N) (p : Part) (hp : Own w 0 p.ao p.cap p.xs) (hx : p.xs = fillOf 0) (hpk : ∀ g, p.val.ownBlock = some g → w0.heap.size ≤ g)
    {v' : Value} (ho : w1.ownsRow 0 44 1 v' (0 + 1) ([] ++ [p.val])) (hg : w.grownBy w1 none) (hat : ∃ g, v'.ownBlock = some g ∧ w.heap.size ≤ g) :
    PreDisk w0 (w1.setCell ⟨s, k, none⟩ v') d s N (k + 1) (ss ++ [⟨v', [p]⟩]) := by
  obtain ⟨g', hg', hge⟩ := hat
  have hsz := h.bel.size
  have hs := lt_of_block h.secs
  have hd := lt_of_block h.head
  have hds : d ≠ s := by
    intro e
    have h1 := h.head
    rw [e, h.secs] at h1
    simp at h1
  have hold : ∀ b, b < w.heap.size → b ≠ s → (w1.setCell ⟨s, k, none⟩ v').heap[b]? = w.heap[b]? := fun b h1 h2 => (Below.heap_setCell _ _ _ _ h2).trans (hg.block b h1 (by simp))
  refine ⟨?_, ?_, by simp [h.len], ?_, ?_, h.hd, h.hs, ⟨hg.os.trans h.bel.os, hg.tape.trans h.bel.tape, hg.output.trans h.bel.output, by have := hg.size; simp [World.setCell]; omega, fun b hb => (hold b (by omega) (by have := h.hs; omega)).trans (h.bel.block b hb)⟩⟩
  · rw [hold d hd hds]; exact h.head
  · have e : w1.heap[s]? = _ := (hg.block s hs (by simp)).trans h.secs
    rw [heap_set_same e]
    congr 2
    apply Array.ext'
    simp only [Array.toList_setIfInBounds, List.map_append, List.map_cons, List.map_nil]
    rw [List.set_append_right _ _ (by simp [h.len]), List.append_assoc]
    congr 1
    rw [show N - k = (N - (k + 1)) + 1 by omega, List.replicate_succ]
    simp [h.len]
  · intro x hxm
    rcases List.mem_append.1 hxm with h1 | h1
    · refine ⟨(h.each x h1).1.of_block fun g hlt hg2 => hold g hlt ?_, (h.each x h1).2⟩
      rcases hg2 with h2 | ⟨q, hq, h2⟩
      · obtain ⟨cur, hc⟩ := owns_type (h.each x h1).1.1 h2
        rintro rfl
        rw [h.secs] at hc
        simp at hc
      · obtain ⟨cur, hc⟩ := owns_type ((h.each x h1).1.2.2.2.2 q hq).1.1 h2
        rintro rfl
        rw [h.secs] at hc
        simp at hc
    · rw [List.mem_singleton.1 h1]
      refine ⟨⟨?_, by simp, by simp, ?_, ?_⟩, by simp [hx]⟩
      · refine owns_of_block ho fun g hg2 _ => Below.heap_setCell _ _ _ _ ?_
        rw [hg'] at hg2
        simp only [Option.some.injEq] at hg2
        show g ≠ s
        omega
      · intro g hg2 hlt
        rw [show (⟨v', [p]⟩ : Sec).v = v' from rfl, hg'] at hg2
        simp only [Option.some.injEq] at hg2
        have hlt' : g < w0.heap.size := hlt
        omega
      · intro q hq
        rw [List.mem_singleton.1 hq]
        refine ⟨hp.of_block fun g hg2 hlt => hold g hlt ?_, by rw [hx, length_fillOf], fun g hg2 hlt => ?_⟩
        · obtain ⟨cur, hc⟩ := owns_type hp.1 hg2
          rintro rfl
          rw [h.secs] at hc
          simp at hc
        · have := hpk g hg2
          have hlt' : g < w0.heap.size := hlt
          omega
  · have hnew : ∀ (j : Nat) (y : Sec), ss[j]? = some y → y.v.ownBlock ≠ v'.ownBlock := by
      intro j y hy e
      rw [hg'] at e
      obtain ⟨cur, hc⟩ := owns_type (h.each y (List.mem_of_getElem? hy)).1.1 e
      have := lt_of_block hc
      omega
    have hat2 : ∀ (j : Nat) (y : Sec), (ss ++ [(⟨v', [p]⟩ : Sec)])[j]? = some y → (j < k ∧ ss[j]? = some y) ∨ (j = k ∧ y = ⟨v', [p]⟩) := by
      intro j y hy
      by_cases e : j < k
      · rw [List.getElem?_append_left (by rw [h.len]; exact e)] at hy
        exact .inl ⟨e, hy⟩
      · rw [List.getElem?_append_right (by rw [h.len]; omega), h.len] at hy
        have hj : j - k = 0 := by
          have := (List.getElem?_eq_some_iff.1 hy).1
          simp at this
          omega
        rw [hj] at hy
        simp at hy
        exact .inr ⟨by omega, hy.symm⟩
    intro i j x y hx1 hy1 hij
    rcases hat2 i x hx1 with ⟨h1, h2⟩ | ⟨h1, h2⟩ <;> rcases hat2 j y hy1 with ⟨h3, h4⟩ | ⟨h3, h4⟩
    · exact h.apart i j x y h2 h4 hij
    · rw [h4]; exact hnew i x h2
    · rw [h2]; exact fun e => hnew j y h4 e.symm
    · omega
theorem PreDisk.done {w0 w : World} {d s N : Nat} {ss : List Sec} {a : Nat → Addr} (h : PreDisk w0 w d s N N ss) (hN : 1 ≤ N ∧ N ≤ 200) (he : Errs w0 (fun b => b < w0.heap.size) a) : Disk w (fun b => b < w0.heap.size) a d (List.replicate N [fillOf 0]) false (-1) := by
  have hl := h.len
  refine ⟨s, ss, ⟨by rw [hl]; exact h.head, by simpa using h.secs, fun x hx => (h.each x hx).1, h.apart, fun e => by have := h.hd; have e' : d < w0.heap.size := e; omega, fun e => by have := h.hs; have e' : s < w0.heap.size := e; omega, fun k hk => Nat.lt_of_lt_of_le hk h.bel.size, by omega, by omega, fun i hi => ⟨(he i hi).1, by rw [h.bel.cell (by exact (he i hi).1)]; exact (he i hi).2⟩⟩, ?_⟩
  unfold vers
  rw [← hl]
  exact List.map_eq_replicate_iff.2 fun x hx => (h.each x hx).2

theorem pre_start {w w1 : World} {N : Nat} (h : w1.ownsRow w.heap.size 76 1 (.slice (some ⟨w.heap.size, 0, none⟩) N N) N (madeCells (Value.agg #[.slice none 0 0]).cells (N * 1)).toList) (hg : w.grownBy w1 none) : PreDisk w (w1.alloc (.cells #[.slice (some ⟨w.heap.size, 0, none⟩) N N, .bool false, .int .i64 (-1)] 73)) w1.heap.size w.heap.size N 0 [] := by
  have hb : Below w.heap.size w w1 := (Below.refl _ _).grown hg (Nat.le_refl _) (by simp)
  rcases h.2 with ⟨e, _⟩ | ⟨g, c, cur, hv, hge, hh, h4, h5, h6, h7⟩
  · simp at e
  · simp only [Value.slice.injEq, Option.some.injEq, Addr.mk.injEq, and_true, true_and] at hv
    obtain ⟨rfl, rfl⟩ := hv
    have hlt := lt_of_block hh
    refine ⟨heap_alloc_new _ _, ?_, rfl, fun x hx => by simp at hx, fun i j x y hx => by simp at hx, hb.size, Nat.le_refl _, hb.alloc hb.size _⟩
    rw [Below.heap_alloc _ _ _ hlt, hh]
    congr 2
    apply Array.ext'
    rw [List.take_of_length_le (by simp; omega)] at h7
    rw [h7, show (Value.agg #[Value.slice none 0 0]).cells = #[Value.slice none 0 0] from rfl, toList_madeCells_one]
    simp
theorem pre_add {w wr w3 : World} {d s N k : Nat} {ss : List Sec} {v' : Value} (h : PreDisk w (wr.alloc zeroBlock) d s N k ss) (hw : Below w.heap.size w wr) (hk : k < N) (h3 : w3.ownsRow 0 44 1 v' (0 + 1) ([] ++ [.slice (some ⟨wr.heap.size, 0, none⟩) 256 256])) (h4 : (wr.alloc zeroBlock).drew.grownBy w3 (Value.slice none 0 0).ownBlock) (h5 : v'.ownBlock = (Value.slice none 0 0).ownBlock ∨ ∃ g, v'.ownBlock = some g ∧ (wr.alloc zeroBlock).drew.heap.size ≤ g) :
    PreDisk w (w3.setCell ⟨s, k, none⟩ v') d s N (k + 1) (ss ++ [⟨v', [⟨some ⟨wr.heap.size, 0, none⟩, 256, fillOf 0⟩]⟩]) := by
  have e : (⟨some ⟨wr.heap.size, 0, none⟩, 256, fillOf 0⟩ : Part).val = .slice (some ⟨wr.heap.size, 0, none⟩) 256 256 := by rw [Part.val, length_fillOf]
  refine h.step hk ⟨some ⟨wr.heap.size, 0, none⟩, 256, fillOf 0⟩ (own_zeroBlock wr).any rfl (fun g hg => ?_) (by rw [e]; exact h3) ⟨h4.os, h4.tape, h4.output, h4.size, h4.block⟩ ?_
  · rw [e] at hg
    simp only [Value.ownBlock, Option.some.injEq] at hg
    have := hw.size
    omega
  · rcases h5 with h6 | h6
    · obtain ⟨g, cap, hv, _⟩ := owns_first h3 (by omega)
      rw [hv] at h6
      simp [Value.ownBlock] at h6
    · exact h6
set_option maxRecDepth 100000 in
set_option maxHeartbeats 1000000 in
theorem new_any (n : Int) (N : Nat) {w : World} {a : Nat → Addr} (hN : (n < 1 ∧ N = 1) ∨ (1 ≤ n ∧ n ≤ 200 ∧ n = N) ∨ (200 < n ∧ N = 200)) (he : Errs w (fun b => b < w.heap.size) a) :
    Calls Tryd.prog 8 #[.int .i64 n] w fun e w' => ∃ d, e = .returned (.pointer (some ⟨d, 0, none⟩)) ∧ w.heap.size ≤ d ∧ Disk w' (fun b => b < w.heap.size) a d (List.replicate N [fillOf 0]) false (-1) ∧ Below w.heap.size w w' := by
  obtain ⟨i0, hi, hz0, hz1, hz2⟩ := info_parts Tryd.info76
  have HE := hide he
  have hmk := make_sector
  have hN1 : 1 ≤ N ∧ N ≤ 200 := by omega
  clear he
  obtain ⟨V, HN, hcase⟩ : ∃ V : Int, Hid (V = N) ∧ ((n < 1 ∧ V = 1) ∨ (1 ≤ n ∧ n ≤ 200 ∧ V = n) ∨ (200 < n ∧ V = 200)) := ⟨N, rfl, by omega⟩
  clear hN
  rcases hcase with ⟨h1, rfl⟩ | ⟨h1, h2, rfl⟩ | ⟨h1, rfl⟩
  all_goals
    go_enter Tryd.func8, Tryd.ntmps8
    go_wp2_with (at_make; refine wpList_make_full w rfl (.tmp 7) (.tmp 7) 71 rfl w.heap.size 76 i0 (.agg #[.slice none 0 0]) 1 Tryd.underlying71 hi hz0 hz1 .i64 .i64 _ _ N rfl rfl HN.out HN.out (by rw [hz2]; omega) (by unfold maxLen; omega) (Nat.le_refl _) ?_; intro w1 hown hgr; have HS := hide (pre_start hown hgr); clear hown hgr)
    go_loopw [16] (fun i wr => ∃ (k : Nat) (ss : List Sec), k ≤ N ∧ i = .int .i64 k ∧ PreDisk w wr w1.heap.size w.heap.size N k ss) (fun i _ => N - (intOf i).toNat)
    case atStart => exact ⟨0, [], by omega, rfl, HS.out⟩
    case round =>
      clear HS
      obtain ⟨k, ss, hk, rfl, hp⟩ := hrel
      have HP := hide hp
      have h0 : wr.cell? ⟨w1.heap.size, 0, none⟩ = some (.slice (some ⟨w.heap.size, 0, none⟩) N N) := by rw [cell_row hp.head]; rfl
      have hlt1 := lt_of_block hp.head
      have HP2 := hide (hp.below ((Below.refl _ _).alloc (Nat.le_refl _) zeroBlock))
      clear hp
      by_cases hlt : k < N
      · have hki : (k : Int) < (N : Int) := by omega
        have hne := World.new_ne wr ⟨w1.heap.size, 0, none⟩ h0
        have HC := hide (HP2.out.cell hlt)
        have HF := hide (frozen_row HP2.out.secs k)
        go_wp2_with fail
        go_region_held3 (fun w' => w'.cell? ⟨w1.heap.size, 0, none⟩ = some (.slice (some ⟨w.heap.size, 0, none⟩) N N)) (first | go_keep | assumption)
          ((go_at_call 30; refine (add_any w.heap.size k (.slice none 0 0) 0 [] (some ⟨wr.heap.size, 0, none⟩) 256 256 0 _ (by exact HC.out) (by exact HF.out) (by omega) (World.ownsRow_nil _ _ _ _) (Nat.zero_le _) (by simp [Value.ownBlock])).mono ?_; rintro e w2 ⟨rfl, w3, v', rfl, h3, h4, h5⟩; have h6 := pre_add HP2.out HP.out.bel hlt h3 h4 h5; have h7 : (w3.setCell ⟨w.heap.size, k, none⟩ v').cell? ⟨w1.heap.size, 0, none⟩ = some (.slice (some ⟨w.heap.size, 0, none⟩) N N) := (cell_row h6.head 0).trans rfl; have H6 := hide h6; clear h3 h4 h5 h6))
        go_wp2_with fail
        go_roundw
        case rel => exact ⟨k + 1, _, by omega, by go_num, H6.out⟩
        case measure => simp [intOf]; omega
      · go_wp2_with fail
        go_ret
        have hk' : k = N := by omega
        subst hk'
        exact ⟨w1.heap.size, rfl, HP.out.hd, HP.out.done hN1 HE.out, HP.out.bel⟩
end Go.Proofs.YtjacenhblclkaaaDoor

/- What the statements' own helper that fills a sector answers, and a disk's Image. -/
namespace Go.Proofs.YtjacenhblclkaaaDoor
open Go.RowKit
set_option linter.unusedVariables false

/-- A sector of which the first k bytes are x. -/
def partFill (x : Int) (k : Nat) : List Int := List.replicate k x ++ List.replicate (256 - k) 0
theorem length_partFill (x : Int) (k : Nat) (h : k ≤ 256) : (partFill x k).length = 256 := by
  rw [partFill, List.length_append, List.length_replicate, List.length_replicate]; omega
theorem partFill_succ (x : Int) (k : Nat) (h : k < 256) : (partFill x k).set k x = partFill x (k + 1) := by
  unfold partFill
  rw [List.set_append_right _ _ (by rw [List.length_replicate]; exact Nat.le_refl _), List.length_replicate, Nat.sub_self, show 256 - k = (256 - (k + 1)) + 1 by omega, List.replicate_succ, List.set_cons_zero, List.replicate_succ', List.append_assoc]
  rfl
theorem partFill_zero (x : Int) : partFill x 0 = fillOf 0 := by
  unfold partFill fillOf
  rw [List.replicate_zero, List.nil_append]
theorem partFill_all (x : Int) : partFill x 256 = fillOf x := by
  unfold partFill fillOf
  rw [Nat.sub_self, List.replicate_zero, List.append_nil]
/-- A new block of m zeros. -/
def zeroRow (m : Nat) : Obj := .cells (cellsOf (List.replicate m 0)).toArray 5
theorem make_zeros (m : Nat) (hm : m ≤ 4294967296) (w : World) : (Instr.makeSlice 44 (.int .i64 (m : Int)) (.int .i64 (m : Int))).run Tryd.prog w = .ok (.slice (some ⟨w.heap.size, 0, none⟩) m m) (w.alloc (zeroRow m)) := by
  have h := run_make_row' (P := Tryd.prog) 44 5 (.int .u8 0) 1 Tryd.underlying44 Tryd.info5 rfl .i64 .i64 m (by omega) (by omega) w
  have e : madeCells #[Value.int .u8 0] m = (cellsOf (List.replicate m 0)).toArray := by
    apply Array.ext'
    rw [toList_madeCells_one]
    exact List.map_replicate.symm
  rw [e] at h
  exact h
theorem own_zeroRow (m : Nat) (hm : m ≤ 4294967296) (w : World) : Own (w.alloc (zeroRow m)) w.heap.size (some ⟨w.heap.size, 0, none⟩) m (List.replicate m 0) := by
  have h := own_of_row (w := w.alloc (zeroRow m)) (B := w.heap.size) (xs := List.replicate m 0) (heap_alloc_new w _) (fun y hy => by rw [(List.mem_replicate.1 hy).2]; omega) (by rw [List.length_replicate]; exact hm)
  rw [List.length_replicate] at h
  exact h
theorem write_ok_len (d k n : Nat) (bo : Option Addr) (bc : Nat) (ys : List Int) {w : World} {K : Nat → Prop} {a : Nat → Addr} {vss : List (List (List Int))} {fuse : Int} (h : Disk w K a d vss false fuse) (kk : Int) (hkk : kk = k) (hk : k < vss.length) (hr : Row w bo ys) (hn : n = 256) (hl : ys.length = n) (hlen : (vss.getD k []).length + 1 ≤ 4294967296) (hf : fuse ≠ 0) :
    Calls Tryd.prog 25 #[.pointer (some ⟨d, 0, none⟩), .int .i64 kk, .slice bo n bc] w fun e w' => e = .returned .nilIface ∧ Disk w' K a d (vss.set k (vss.getD k [] ++ [ys])) false (burnt fuse) ∧ Kept K w w' := by subst hn hkk; exact write_ok d k bo bc ys h hk hr hl hlen hf
end Go.Proofs.YtjacenhblclkaaaDoor

/- What a disk's Image answers, at every disk. -/
namespace Go.Proofs.YtjacenhblclkaaaDoor
open Go.RowKit
set_option linter.unusedVariables false

/-- The fast version of a sector. -/
def firstV (vs : List (List Int)) : List Int := vs.getD 0 []
theorem Own.grown {w w' : World} {B C n : Nat} {ao : Option Addr} {cap : Nat} {xs : List Int} {v : Value} {cs : List Value} (h : Own w B ao cap xs) (ho : w.ownsRow C 44 1 v n cs) (hg : w.grownBy w' v.ownBlock) : Own w' B ao cap xs := by
  refine h.of_block fun g h1 h2 => hg.block g h2 fun e => ?_
  obtain ⟨cur, hc⟩ := owns_type h.1 h1
  obtain ⟨cur', hc'⟩ := owns_type ho e.symm
  rw [hc] at hc'
  simp at hc'
/-- A new list of lists of bytes: the slices are the call's own, and so are their bytes. -/
def OwnRows (w : World) (B : Nat) (ao : Option Addr) (cap : Nat) (ps : List Part) : Prop :=
  w.ownsRow B 44 1 (.slice ao ps.length cap) ps.length (ps.map Part.val) ∧ ∀ p ∈ ps, Own w B p.ao p.cap p.xs
theorem OwnRows.below {w w' : World} {B : Nat} {ao : Option Addr} {cap : Nat} {ps : List Part} (h : OwnRows w B ao cap ps) (hb : Below w.heap.size w w') : OwnRows w' B ao cap ps :=
  ⟨owns_of_block h.1 fun g _ hlt => hb.block g hlt, fun p hp => (h.2 p hp).below hb (Nat.le_refl _)⟩
theorem first_part {w : World} {K : Nat → Prop} {a : Nat → Addr} {d s : Nat} {ss : List Sec} {off : Bool} {fuse : Int} (h : DiskOf w K a d s ss off fuse) {k : Nat} (hk : k < ss.length) : ∃ (x : Sec) (g cap : Nat) (p : Part), ss[k]? = some x ∧ x.v = .slice (some ⟨g, 0, none⟩) x.vs.length cap ∧ 1 ≤ x.vs.length ∧ x.vs.length ≤ 4294967296 ∧ w.cell? ⟨g, 0, none⟩ = some (.slice p.ao 256 p.cap) ∧ Own w 0 p.ao p.cap p.xs ∧ p.xs.length = 256 ∧ (vers ss)[k]? = some (x.vs.map (·.xs)) ∧ firstV (x.vs.map (·.xs)) = p.xs := by
  obtain ⟨x, hx⟩ := sec_at hk
  obtain ⟨g, cap, hv, _, hc⟩ := h.sec hx
  obtain ⟨h1, h2, h3, h4, h5⟩ := h.each x (List.mem_of_getElem? hx)
  obtain ⟨p, hp⟩ : ∃ p, x.vs[0]? = some p := ⟨_, List.getElem?_eq_getElem (by omega)⟩
  obtain ⟨p1, p2, p3⟩ := h5 p (List.mem_of_getElem? hp)
  refine ⟨x, g, cap, p, hx, hv, h2, h3, ?_, p1, p2, by rw [vers_get, hx]; rfl, ?_⟩
  · rw [hc 0 p hp, Part.val, p2]
  · simp only [firstV, List.getD_eq_getElem?_getD, List.getElem?_map, hp]
    rfl
theorem take_snoc_any {α : Type} {l : List α} {k : Nat} {x : α} (h : l[k]? = some x) : l.take (k + 1) = l.take k ++ [x] := by
  obtain ⟨h1, h2⟩ := List.getElem?_eq_some_iff.1 h
  rw [List.take_succ_eq_append_getElem h1, h2]

end Go.Proofs.YtjacenhblclkaaaDoor

/- What a disk's Load answers, at every disk and every list of lists of bytes. -/
namespace Go.Proofs.YtjacenhblclkaaaDoor
open Go.RowKit
set_option linter.unusedVariables false

/-- What a disk has of the lists that were loaded, the first k of them. -/
theorem load_step {ss' : List Sec} {k : Nat} {ls : List Part} {vss : List (List (List Int))} {x : Sec} {v' : Value} {q : Part} {p : Part} (he : vers ss' = (ls.take k).map (fun p => [p.xs]) ++ vss.drop k) (hp : ls[k]? = some p) (hq : q.xs = p.xs) (hx : ss'[k]? = some x) : vers (ss'.set k ⟨v', [q]⟩) = (ls.take (k + 1)).map (fun p => [p.xs]) ++ vss.drop (k + 1) := by
  have hkl := (List.getElem?_eq_some_iff.1 hp).1
  have hks := (List.getElem?_eq_some_iff.1 hx).1
  have hkv : k < vss.length := by
    have := congrArg List.length he
    rw [length_vers] at this
    simp at this
    omega
  have e : vss.drop k = vss[k] :: vss.drop (k + 1) := List.drop_eq_getElem_cons hkv
  rw [vers_set, he, e, take_snoc_any hp, List.map_append, List.set_append_right _ _ (by simp; omega)]
  simp [hq, Nat.min_eq_left (Nat.le_of_lt hkl)]
  rw [e]
  rfl
theorem load_len {ss' : List Sec} {k : Nat} {ls : List Part} {vss : List (List (List Int))} (he : vers ss' = (ls.take k).map (fun p => [p.xs]) ++ vss.drop k) (hl : ls.length = vss.length) (hk : k ≤ ls.length) : ss'.length = vss.length := by
  have := congrArg List.length he
  rw [length_vers] at this
  simp at this
  omega
end Go.Proofs.YtjacenhblclkaaaDoor

/- The chapter's examples on disks, as the statements ask them first: they hold, and nothing that was there is written. -/
namespace Go.Proofs.YtjacenhblclkaaaDoor
open Go.RowKit
set_option linter.unusedVariables false

/-- All blocks that are there. -/
def allOf (w : World) (k : Nat) : Prop := k < w.heap.size
theorem errs_below {w w' : World} {a : Nat → Addr} (h : Errs w (fun b => b < w.heap.size) a) (hb : Below w.heap.size w w') : Errs w' (fun b => b < w'.heap.size) a :=
  fun i hi => ⟨Nat.lt_of_lt_of_le (h i hi).1 hb.size, (hb.cell (h i hi).1).trans (h i hi).2⟩
theorem lastV_one (x : List Int) : lastV [x] = x := rfl
theorem verOf_rep (N k : Nat) (x : List (List Int)) (h : k < N) : (List.replicate N x).getD k [] = x := by
  rw [List.getD_eq_getElem?_getD, List.getElem?_replicate, if_pos h]; rfl
end Go.Proofs.YtjacenhblclkaaaDoor
