/- Lemmas and contracts that the law stands on, joined: RNew. -/
import Derived.Test.YtjacenhblclkaaaGreatDoorJoin32
import Derived.Test.YtjacenhblclkaaaGreatDoorJoin20
/- The document's own disk: what NewDisk answers. -/
namespace Go.Proofs.YtjacenhblclkaaaGreatDoor
open Go.RowKit
set_option linter.unusedVariables false

theorem Tryz.info61 : (Tryz.prog.info? 61).map (fun i => (i.zero, i.size, i.bytes)) = some (some (.slice none 0 0), 1, 24) := by kernel_rfl
/-- One list of lists more, of our own. -/
theorem run_appendT {w : World} {B : Nat} {ao : Option Addr} {n c : Nat} {xs : List Value} {b yc : Nat} {u : Value} (hown : w.ownsRow B 61 1 (.slice ao n c) n xs) (hs : n ≤ 2000000) (hB : B ≤ w.heap.size) (hone : u.oneCell' = true) (h : w.cell? ⟨b, 0, none⟩ = some u) (ty : TypeId) :
    ∃ ao' c' w', (Builtin.append_ #[87, 87] ty #[.slice ao n c, .slice (some ⟨b, 0, none⟩) 1 yc]).run Tryz.prog w = .ok (.slice ao' (n + 1) c') w' ∧ w'.ownsRow B 61 1 (.slice ao' (n + 1) c') (n + 1) (xs ++ [u]) ∧ Below B w w' ∧ w.grownBy w' (Value.slice ao n c).ownBlock := by
  obtain ⟨i0, hi, hz0, hz1, hz2⟩ := info_parts Tryz.info61
  obtain ⟨v', w', hr, ho, hg, _, hat⟩ := run_append_own_at (P := Tryz.prog) w B 87 ty 61 i0 _ 1 24 Tryz.underlying87 hi hz0 hz1 hz2 rfl (by decide) (.slice ao n c) n xs hown ⟨b, 0, none⟩ 1 yc [u] rfl (fun j v hj => by cases j with | zero => (simp only [List.getElem?_cons_zero, Option.some.injEq] at hj; rw [← hj]; exact h) | succ j => simp at hj) (fun v hv => by rw [List.mem_singleton.1 hv]; exact hone) (by unfold maxLen; omega) (by omega) hB
  obtain ⟨ao', c', rfl⟩ : ∃ ao' c', v' = .slice ao' (n + 1) c' := by
    rcases ho.2 with ⟨h1, h2⟩ | ⟨g, cap, cur, h1, _⟩
    · exact ⟨none, 0, by rw [h1, h2]⟩
    · exact ⟨_, cap, h1⟩
  exact ⟨ao', c', w', hr, ho, (Below.refl B w).grown hg hB (fun j e => (hown.lt j e).1), hg⟩
/-- A disk that is being made: k of its sectors are there. -/
structure PreR (w0 w : World) (k : Nat) (so : Option Addr) (sc : Nat) (vals : List Value) : Prop where
  head : w.heap[w0.heap.size]? = some (.cells #[.slice so k sc, .int .i64 (-1), .bool false] 89 (0, 0))
  own : w.ownsRow (w0.heap.size + 1) 61 1 (.slice so k sc) k vals
  each : ∀ v ∈ vals, VRow w (fun g => w0.heap.size ≤ g ∧ g < w.heap.size) v [fillOf 0]
  bel : Below w0.heap.size w0 w
  lt : w0.heap.size < w.heap.size
theorem pre_new (w : World) : PreR w (w.alloc (.cells #[.slice none 0 0, .int .i64 (-1), .bool false] 89)) 0 none 0 [] :=
  ⟨heap_alloc_new _ _, World.ownsRow_nil _ _ _ _, fun v hv => by simp at hv, below_box _ _, by simp⟩
/-- A version of zeros in new memory. -/
theorem vrow_zero (w : World) (M : Nat → Prop) (hM : ∀ g, w.heap.size ≤ g → g ≤ w.heap.size + 1 → M g) : VRow ((w.alloc zeroBlock).alloc (.cells #[.slice (some ⟨w.heap.size, 0, none⟩) 256 256] 65)) M (.slice (some ⟨(w.alloc zeroBlock).heap.size, 0, none⟩) 1 1) [fillOf 0] := by
  have hz : (w.alloc zeroBlock).heap.size = w.heap.size + 1 := by simp
  have ho := own_zeroBlock w
  have hb := below_box (w.alloc zeroBlock) (.cells #[.slice (some ⟨w.heap.size, 0, none⟩) 256 256] 65)
  obtain ⟨cg, hcg⟩ := own_blkB ho (length_fillOf 0)
  have hgl := lt_of_block hcg
  refine ⟨by simp, _, 0, 1, rfl, Nat.le_refl _, ⟨_, heap_alloc_new _ _⟩, fun j xs hj => ?_, hM _ (by omega) (by omega)⟩
  cases j with
  | succ j => simp at hj
  | zero =>
    simp only [List.getElem?_cons_zero, Option.some.injEq] at hj
    subst hj
    refine ⟨length_fillOf 0, w.heap.size, 256, (cell_row (heap_alloc_new _ _) 0).trans rfl, ho.row.below hb (Nat.le_refl _), ⟨cg, (hb.block _ hgl).trans hcg⟩, hM _ (Nat.le_refl _) (by omega)⟩
theorem PreR.more {w0 w W : World} {k : Nat} {so : Option Addr} {sc : Nat} {vals : List Value} (h : PreR w0 w k so sc vals) {a4 : Option Addr} {c4 : Nat} {u : Value} {W3 : World} (hb3 : Below w.heap.size w W3) (hg : W3.grownBy W (Value.slice so k sc).ownBlock) (ho : W.ownsRow (w0.heap.size + 1) 61 1 (.slice a4 (k + 1) c4) (k + 1) (vals ++ [u])) (hu : VRow W3 (fun g => w.heap.size ≤ g ∧ g < W3.heap.size) u [fillOf 0]) :
    PreR w0 (W.setCell ⟨w0.heap.size, 0, none⟩ (.slice a4 (k + 1) c4)) (k + 1) a4 c4 (vals ++ [u]) := by
  have hlt := h.lt
  have hne0 : some w0.heap.size ≠ (Value.slice so k sc).ownBlock := fun e => by have := (h.own.lt _ e.symm).1; omega
  have hh : W.heap[w0.heap.size]? = some (.cells #[.slice so k sc, .int .i64 (-1), .bool false] 89 (0, 0)) := (hg.block _ (Nat.lt_of_lt_of_le hlt hb3.size) hne0).trans ((hb3.block _ hlt).trans h.head)
  have hsz : (W.setCell ⟨w0.heap.size, 0, none⟩ (.slice a4 (k + 1) c4)).heap.size = W.heap.size := by simp [World.setCell]
  have hs3 := hb3.size
  have hs4 := hg.size
  -- a block of bytes or of lists of bytes that lies in W3 lies in the last world
  have hkeep : ∀ (g : Nat) (cs : Array Value) (t : TypeId), (t = 65 ∨ t = 5) → W3.heap[g]? = some (.cells cs t (0, 0)) → (W.setCell ⟨w0.heap.size, 0, none⟩ (.slice a4 (k + 1) c4)).heap[g]? = W3.heap[g]? := fun g cs t ht hgc => by
    have hgl := lt_of_block hgc
    have h1 : g ≠ w0.heap.size := by
      rintro rfl
      rw [(hb3.block _ hlt).trans h.head] at hgc
      injection hgc with hgc
      injection hgc with _ hgc _
      rcases ht with rfl | rfl
      · exact absurd hgc (by decide)
      · exact absurd hgc (by decide)
    have h2 : some g ≠ (Value.slice so k sc).ownBlock := fun e => by
      obtain ⟨cur, hc⟩ := owns_type h.own e.symm
      have hgw := (h.own.lt g e.symm).2
      rw [hb3.block g hgw, hc] at hgc
      injection hgc with hgc
      injection hgc with _ hgc _
      rcases ht with rfl | rfl
      · exact absurd hgc (by decide)
      · exact absurd hgc (by decide)
    exact (Below.heap_setCell _ _ _ _ h1).trans (hg.block g hgl h2)
  refine ⟨?_, ?_, fun v hv => ?_, ?_, by rw [hsz]; omega⟩
  · exact set_block hh 0 _
  · exact owns_of_block ho fun g hgb _ => Below.heap_setCell _ _ _ _ (show g ≠ w0.heap.size from fun e => by have := (ho.lt g hgb).1; omega)
  · rcases List.mem_append.1 hv with hv | hv
    · refine VRow.kept ((h.each v hv).wide fun g hg => (⟨hg.1, by rw [hsz]; omega⟩ : w0.heap.size ≤ g ∧ g < _)) (by rw [hsz]; omega) fun g cs t ht _ hgc => ?_
      have hgl := lt_of_block hgc
      exact (hkeep g cs t ht ((hb3.block g hgl).trans hgc)).trans (hb3.block g hgl)
    · rw [List.mem_singleton.1 hv]
      exact VRow.kept (hu.wide fun g hg => (⟨by omega, by rw [hsz]; omega⟩ : w0.heap.size ≤ g ∧ g < _)) (by rw [hsz]; exact hs4) fun g cs t ht _ hgc => hkeep g cs t ht hgc
  · refine ⟨hg.os.trans (hb3.os.trans h.bel.os), hg.tape.trans (hb3.tape.trans h.bel.tape), hg.output.trans (hb3.output.trans h.bel.output), by rw [hsz]; have := h.bel.size; omega, fun g hgl => ?_⟩
    rw [Below.heap_setCell _ _ _ _ (show g ≠ w0.heap.size by omega), hg.block g (by omega) (fun e => by have := (h.own.lt g e.symm).1; omega), hb3.block g (by omega)]
    exact h.bel.block g hgl
/-- All its sectors are there. -/
theorem PreR.done {w0 w : World} {n : Nat} {so : Option Addr} {sc : Nat} {vals : List Value} (h : PreR w0 w n so sc vals) (hn : 0 < n) (hn2 : n ≤ 200) : ∃ s, so = some ⟨s, 0, none⟩ ∧ w0.heap.size < s ∧ RD w (fun g => w0.heap.size ≤ g ∧ g < w.heap.size) w0.heap.size s sc (List.replicate n [fillOf 0]) (-1) false := by
  have h' := h.own
  rcases h.own.2 with ⟨_, h2⟩ | ⟨g, cap, cur, hv, hg, hh, h4, h5, h6, h7⟩
  · omega
  · simp only [Value.slice.injEq] at hv
    obtain ⟨rfl, _, rfl⟩ := hv
    have hvl : vals.length = n := by have := h.own.1; omega
    refine ⟨g, rfl, by omega, by rw [List.length_replicate]; exact h.head, ⟨cur, hh, by omega, fun i vs hi => ?_⟩, by rw [List.length_replicate]; exact h4, by rw [List.length_replicate]; exact hn2, ⟨Nat.le_refl _, h.lt⟩, ⟨by omega, lt_of_block hh⟩⟩
    have hil := (List.getElem?_eq_some_iff.1 hi).1
    rw [List.length_replicate] at hil
    rw [List.getElem?_replicate, if_pos hil] at hi
    injection hi with hi
    subst hi
    have hc := h'.cellAt i (by omega)
    rw [cell_row hh] at hc
    refine ⟨vals[i]'(by omega), by rw [hc, List.getElem?_eq_getElem (by omega)], h.each _ (List.getElem_mem _)⟩
theorem exec_make256 {o : Oper} {a : Act} (ho : o.op = .makeSlice 65 (.const (.int .i64 256)) (.const (.int .i64 256))) (w : World) : (execOp a.eval o).run Tryz.prog w = .ok (.value (.slice (some ⟨w.heap.size, 0, none⟩) 256 256)) (w.alloc zeroBlock) := by
  have h := make_sector w
  have e : a.eval (.const (.int .i64 256)) = .int .i64 256 := rfl
  simp [execOp, ho, e, h]
set_option maxRecDepth 100000 in
set_option maxHeartbeats 8000000 in
theorem rnew_any (w : World) (n : Nat) (hn : 0 < n) (hn2 : n ≤ 200) :
    Calls Tryz.prog 8 #[.int .i64 n] w fun e w' => e = .returned (.pointer (some ⟨w.heap.size, 0, none⟩)) ∧ ∃ s sc, w.heap.size < s ∧ RD w' (fun g => w.heap.size ≤ g ∧ g < w'.heap.size) w.heap.size s sc (List.replicate n [fillOf 0]) (-1) false ∧ Below w.heap.size w w' := by
  have HP0 := hide (pre_new w)
  obtain ⟨y, hy⟩ : ∃ y, y = w.heap.size := ⟨_, rfl⟩
  go_enter Tryz.func8, Tryz.ntmps8
  have e1 : max (n : Int) 1 = n := by omega
  have e2 : min (n : Int) 200 = n := by omega
  go_wp2_with fail
  rw [← hy]
  go_loopw [4] (fun i wr => ∃ (k : Nat) (so : Option Addr) (sc : Nat) (vals : List Value), k ≤ n ∧ i = .int .i64 k ∧ PreR w wr k so sc vals) (fun i _ => n - (intOf i).toNat)
  case atStart => exact ⟨0, none, 0, [], by omega, rfl, HP0.out⟩
  case round =>
    clear HP0
    obtain ⟨k, so, sc, vals, hk, rfl, hp⟩ := hrel
    have HP := hide hp
    have c0 : wr.cell? ⟨y, 0, none⟩ = some (.slice so k sc) := by rw [hy]; exact (cell_row hp.head 0).trans rfl
    have f0 : wr.frozen? ⟨y, 0, none⟩ = false := by rw [hy]; simp [World.frozen?, hp.head]
    have hyl : y < wr.heap.size := by rw [hy]; exact hp.lt
    clear hp
    by_cases hlt : k < n
    · have hki : (k : Int) < (n : Int) := by omega
      go_wp2_with fail
      refine region_at (S := fun w' => True) (by kernel_rfl) 12 rfl trivial ?_
      have HS : Hid True := trivial
      obtain ⟨W0, hW0⟩ : ∃ W0, W0 = wr.drew := ⟨_, rfl⟩
      have hB0 : Below wr.heap.size wr W0 := by rw [hW0]; exact below_drew (Below.refl _ _)
      have hc0 : W0.cell? ⟨y, 0, none⟩ = some (.slice so k sc) := by rw [hW0]; exact c0
      rw [← hW0]
      have hb1 := below_box W0 zeroBlock
      have hb2 := below_box (W0.alloc zeroBlock) (.cells #[.slice (some ⟨W0.heap.size, 0, none⟩) 256 256] 65)
      have hb3 := below_box ((W0.alloc zeroBlock).alloc (.cells #[.slice (some ⟨W0.heap.size, 0, none⟩) 256 256] 65)) (.cells #[.slice (some ⟨(W0.alloc zeroBlock).heap.size, 0, none⟩) 1 1] 61)
      obtain ⟨W1, hW1⟩ : ∃ W1, W1 = W0.alloc zeroBlock := ⟨_, rfl⟩
      have hv := vrow_zero W0 (fun g => W0.heap.size ≤ g ∧ g ≤ W0.heap.size + 1) (fun g h1 h2 => ⟨h1, h2⟩)
      have hz1 : W1.heap.size = W0.heap.size + 1 := by rw [hW1]; simp
      rw [← hW1] at hb1 hb2 hb3 hv
      obtain ⟨W2, hW2⟩ : ∃ W2, W2 = W1.alloc (.cells #[.slice (some ⟨W0.heap.size, 0, none⟩) 256 256] 65) := ⟨_, rfl⟩
      have hz2 : W2.heap.size = W1.heap.size + 1 := by rw [hW2]; simp
      rw [← hW2] at hb2 hb3 hv
      obtain ⟨W3, hW3⟩ : ∃ W3, W3 = W2.alloc (.cells #[.slice (some ⟨W1.heap.size, 0, none⟩) 1 1] 61) := ⟨_, rfl⟩
      have hz3 : W3.heap.size = W2.heap.size + 1 := by rw [hW3]; simp
      have hcu : W3.cell? ⟨W2.heap.size, 0, none⟩ = some (.slice (some ⟨W1.heap.size, 0, none⟩) 1 1) := by rw [hW3]; exact (cell_row (heap_alloc_new _ _) 0).trans rfl
      rw [← hW3] at hb3
      have hB1 := over hB0 hb1 hB0.size
      have hB2 := over hB1 hb2 hB1.size
      have hB3 := over hB2 hb3 hB2.size
      have hc1 := (hB1.cell (p := ⟨y, 0, none⟩) hyl).trans c0
      have hc2 := (hB2.cell (p := ⟨y, 0, none⟩) hyl).trans c0
      have hc3 := (hB3.cell (p := ⟨y, 0, none⟩) hyl).trans c0
      have hu : VRow W3 (fun g => wr.heap.size ≤ g ∧ g < W3.heap.size) (.slice (some ⟨W1.heap.size, 0, none⟩) 1 1) [fillOf 0] := (hv.stays (.of_below hb3)).wide fun g hg => by have := hB0.size; omega
      have hown3 : W3.ownsRow (w.heap.size + 1) 61 1 (.slice so k sc) k vals := owns_of_block HP.out.own fun g _ h2 => hB3.block g h2
      obtain ⟨a4, c4, W4, hrun4, hown4, _, hgr4⟩ := run_appendT (yc := 1) hown3 (by omega) (by have := HP.out.lt; have := hB3.size; omega) rfl hcu 87
      have HMORE := hide (HP.out.more hB3 hgr4 hown4 hu)
      have hc4 : W4.cell? ⟨y, 0, none⟩ = some (.slice so k sc) := by
        rw [hy] at hyl c0 ⊢
        exact (World.cell?_of_block (w := W3) (hgr4.block _ (Nat.lt_of_lt_of_le hyl hB3.size) (fun e => by have := (HP.out.own.lt w.heap.size e.symm).1; omega))).trans ((hB3.cell (p := ⟨w.heap.size, 0, none⟩) hyl).trans c0)
      have hf4 : W4.frozen? ⟨y, 0, none⟩ = false := by
        have hh := HP.out.head
        rw [hy]
        have : W4.heap[w.heap.size]? = wr.heap[w.heap.size]? := (hgr4.block _ (Nat.lt_of_lt_of_le HP.out.lt hB3.size) (fun e => by have := (HP.out.own.lt w.heap.size e.symm).1; omega)).trans (hB3.block _ HP.out.lt)
        simp [World.frozen?, this, hh]
      have HRUN := hide hrun4
      have HY := hide hy
      have HW1 := hide hW1
      have HW2 := hide hW2
      have HW3 := hide hW3
      clear hu hv hown3 hown4 hgr4 hrun4 hy hW0 hW1 hW2 hW3
      refine at_take (i := 0) (v := .pointer (some ⟨y, 0, none⟩)) rfl rfl (by kernel_rfl) (by kernel_rfl) (by kernel_rfl) (fun c a d v w h => by cases d <;> exact h) rfl (by intro w hSw; go_simp) trivial ?_
      simp only [List.set]
      refine at_take (i := 1) (v := .pointer (some ⟨y, 0, none⟩)) rfl rfl (by kernel_rfl) (by kernel_rfl) (by kernel_rfl) (fun c a d v w h => by cases d <;> exact h) rfl (by intro w hSw; go_simp) trivial ?_
      simp only [List.set]
      refine at_take (i := 2) (v := .pointer (some ⟨y, 0, none⟩)) rfl rfl (by kernel_rfl) (by kernel_rfl) (by kernel_rfl) (fun c a d v w h => by cases d <;> exact h) rfl (by intro w hSw; go_simp) trivial ?_
      simp only [List.set]
      refine at_take (i := 3) (v := .pointer (some ⟨y, 0, none⟩)) rfl rfl (by kernel_rfl) (by kernel_rfl) (by kernel_rfl) (fun c a d v w h => by cases d <;> exact h) rfl (by intro w hSw; go_simp) trivial ?_
      simp only [List.set]
      refine at_two (i := 4) (j := 5) (by kernel_rfl) ?_ ?_
      · refine one_op (i := 4) (v := .slice so k sc) (w' := W0) rfl rfl rfl (by go_simp) trivial ?_
        simp only [List.set]
        refine at_one (i := 5) (by kernel_rfl) ?_
        refine one_op (i := 5) (v := .slice (some ⟨W0.heap.size, 0, none⟩) 256 256) (w' := W1) rfl rfl rfl (by rw [HW1.out]; exact exec_make256 rfl W0) trivial ?_
        simp only [List.set]
        refine at_one (i := 6) (by kernel_rfl) ?_
        refine one_op (i := 6) (v := .slice (some ⟨W1.heap.size, 0, none⟩) 1 1) (w' := W2) rfl rfl rfl (by rw [HW2.out]; go_simp) trivial ?_
        simp only [List.set]
        refine at_one (i := 7) (by kernel_rfl) ?_
        refine one_op (i := 7) (v := .slice (some ⟨W2.heap.size, 0, none⟩) 1 1) (w' := W3) rfl rfl rfl (by rw [HW3.out]; go_simp) trivial ?_
        simp only [List.set]
        refine at_one (i := 8) (by kernel_rfl) ?_
        refine one_op (i := 8) (v := .slice a4 (k + 1) c4) (w' := W4) rfl rfl rfl (exec_append rfl rfl rfl HRUN.out) trivial ?_
        simp only [List.set]
        refine at_take (i := 9) (v := .pointer (some ⟨y, 0, none⟩)) rfl rfl (by kernel_rfl) (by kernel_rfl) (by kernel_rfl) (fun c a d v w h => by cases d <;> exact h) rfl (by intro w hSw; go_simp) trivial ?_
        simp only [List.set]
        refine at_take (i := 10) (v := .pointer (some ⟨y, 0, none⟩)) rfl rfl (by kernel_rfl) (by kernel_rfl) (by kernel_rfl) (fun c a d v w h => by cases d <;> exact h) rfl (by intro w hSw; go_simp) trivial ?_
        simp only [List.set]
        refine at_one (i := 11) (by kernel_rfl) ?_
        refine one_store (i := 11) (w' := W4.setCell ⟨y, 0, none⟩ (.slice a4 (k + 1) c4)) rfl rfl rfl (by go_simp) trivial ?_
        refine at_done (by kernel_rfl) ?_
        go_wp2_with fail
        go_roundw
        case rel => exact ⟨k + 1, a4, c4, _, by omega, by go_num, by have := HMORE.out; rw [← HY.out] at this; exact this⟩
        case measure => simp [intOf]; omega
      · refine one_op (i := 5) (v := .slice (some ⟨W0.heap.size, 0, none⟩) 256 256) (w' := W1) rfl rfl rfl (by rw [HW1.out]; exact exec_make256 rfl W0) trivial ?_
        simp only [List.set]
        refine at_two (i := 4) (j := 6) (by kernel_rfl) ?_ ?_
        · refine one_op (i := 4) (v := .slice so k sc) (w' := W1) rfl rfl rfl (by go_simp) trivial ?_
          simp only [List.set]
          refine at_one (i := 6) (by kernel_rfl) ?_
          refine one_op (i := 6) (v := .slice (some ⟨W1.heap.size, 0, none⟩) 1 1) (w' := W2) rfl rfl rfl (by rw [HW2.out]; go_simp) trivial ?_
          simp only [List.set]
          refine at_one (i := 7) (by kernel_rfl) ?_
          refine one_op (i := 7) (v := .slice (some ⟨W2.heap.size, 0, none⟩) 1 1) (w' := W3) rfl rfl rfl (by rw [HW3.out]; go_simp) trivial ?_
          simp only [List.set]
          refine at_one (i := 8) (by kernel_rfl) ?_
          refine one_op (i := 8) (v := .slice a4 (k + 1) c4) (w' := W4) rfl rfl rfl (exec_append rfl rfl rfl HRUN.out) trivial ?_
          simp only [List.set]
          refine at_take (i := 9) (v := .pointer (some ⟨y, 0, none⟩)) rfl rfl (by kernel_rfl) (by kernel_rfl) (by kernel_rfl) (fun c a d v w h => by cases d <;> exact h) rfl (by intro w hSw; go_simp) trivial ?_
          simp only [List.set]
          refine at_take (i := 10) (v := .pointer (some ⟨y, 0, none⟩)) rfl rfl (by kernel_rfl) (by kernel_rfl) (by kernel_rfl) (fun c a d v w h => by cases d <;> exact h) rfl (by intro w hSw; go_simp) trivial ?_
          simp only [List.set]
          refine at_one (i := 11) (by kernel_rfl) ?_
          refine one_store (i := 11) (w' := W4.setCell ⟨y, 0, none⟩ (.slice a4 (k + 1) c4)) rfl rfl rfl (by go_simp) trivial ?_
          refine at_done (by kernel_rfl) ?_
          go_wp2_with fail
          go_roundw
          case rel => exact ⟨k + 1, a4, c4, _, by omega, by go_num, by have := HMORE.out; rw [← HY.out] at this; exact this⟩
          case measure => simp [intOf]; omega
        · refine one_op (i := 6) (v := .slice (some ⟨W1.heap.size, 0, none⟩) 1 1) (w' := W2) rfl rfl rfl (by rw [HW2.out]; go_simp) trivial ?_
          simp only [List.set]
          refine at_two (i := 4) (j := 7) (by kernel_rfl) ?_ ?_
          · refine one_op (i := 4) (v := .slice so k sc) (w' := W2) rfl rfl rfl (by go_simp) trivial ?_
            simp only [List.set]
            refine at_one (i := 7) (by kernel_rfl) ?_
            refine one_op (i := 7) (v := .slice (some ⟨W2.heap.size, 0, none⟩) 1 1) (w' := W3) rfl rfl rfl (by rw [HW3.out]; go_simp) trivial ?_
            simp only [List.set]
            refine at_one (i := 8) (by kernel_rfl) ?_
            refine one_op (i := 8) (v := .slice a4 (k + 1) c4) (w' := W4) rfl rfl rfl (exec_append rfl rfl rfl HRUN.out) trivial ?_
            simp only [List.set]
            refine at_take (i := 9) (v := .pointer (some ⟨y, 0, none⟩)) rfl rfl (by kernel_rfl) (by kernel_rfl) (by kernel_rfl) (fun c a d v w h => by cases d <;> exact h) rfl (by intro w hSw; go_simp) trivial ?_
            simp only [List.set]
            refine at_take (i := 10) (v := .pointer (some ⟨y, 0, none⟩)) rfl rfl (by kernel_rfl) (by kernel_rfl) (by kernel_rfl) (fun c a d v w h => by cases d <;> exact h) rfl (by intro w hSw; go_simp) trivial ?_
            simp only [List.set]
            refine at_one (i := 11) (by kernel_rfl) ?_
            refine one_store (i := 11) (w' := W4.setCell ⟨y, 0, none⟩ (.slice a4 (k + 1) c4)) rfl rfl rfl (by go_simp) trivial ?_
            refine at_done (by kernel_rfl) ?_
            go_wp2_with fail
            go_roundw
            case rel => exact ⟨k + 1, a4, c4, _, by omega, by go_num, by have := HMORE.out; rw [← HY.out] at this; exact this⟩
            case measure => simp [intOf]; omega
          · refine one_op (i := 7) (v := .slice (some ⟨W2.heap.size, 0, none⟩) 1 1) (w' := W3) rfl rfl rfl (by rw [HW3.out]; go_simp) trivial ?_
            simp only [List.set]
            refine at_one (i := 4) (by kernel_rfl) ?_
            refine one_op (i := 4) (v := .slice so k sc) (w' := W3) rfl rfl rfl (by go_simp) trivial ?_
            simp only [List.set]
            refine at_one (i := 8) (by kernel_rfl) ?_
            refine one_op (i := 8) (v := .slice a4 (k + 1) c4) (w' := W4) rfl rfl rfl (exec_append rfl rfl rfl HRUN.out) trivial ?_
            simp only [List.set]
            refine at_take (i := 9) (v := .pointer (some ⟨y, 0, none⟩)) rfl rfl (by kernel_rfl) (by kernel_rfl) (by kernel_rfl) (fun c a d v w h => by cases d <;> exact h) rfl (by intro w hSw; go_simp) trivial ?_
            simp only [List.set]
            refine at_take (i := 10) (v := .pointer (some ⟨y, 0, none⟩)) rfl rfl (by kernel_rfl) (by kernel_rfl) (by kernel_rfl) (fun c a d v w h => by cases d <;> exact h) rfl (by intro w hSw; go_simp) trivial ?_
            simp only [List.set]
            refine at_one (i := 11) (by kernel_rfl) ?_
            refine one_store (i := 11) (w' := W4.setCell ⟨y, 0, none⟩ (.slice a4 (k + 1) c4)) rfl rfl rfl (by go_simp) trivial ?_
            refine at_done (by kernel_rfl) ?_
            go_wp2_with fail
            go_roundw
            case rel => exact ⟨k + 1, a4, c4, _, by omega, by go_num, by have := HMORE.out; rw [← HY.out] at this; exact this⟩
            case measure => simp [intOf]; omega
    · have hki : decide ((k : Int) < (n : Int)) = false := by simp; omega
      have hkn : k = n := by omega
      subst hkn
      obtain ⟨s, rfl, hs, hrd⟩ := HP.out.done hn hn2
      have HRD := hide hrd
      have HBE := hide HP.out.bel
      clear hrd
      go_wp2_with fail
      go_ret
      exact ⟨by rw [← hy]; rfl, s, sc, hs, HRD.out, HBE.out⟩
end Go.Proofs.YtjacenhblclkaaaGreatDoor
