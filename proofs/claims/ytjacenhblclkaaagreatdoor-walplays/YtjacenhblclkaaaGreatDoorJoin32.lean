/- Lemmas and contracts that the law stands on, joined: RWrite. -/
import Derived.Test.YtjacenhblclkaaaGreatDoorJoin24
import Derived.Test.YtjacenhblclkaaaGreatDoorJoin5
import Derived.Test.YtjacenhblclkaaaGreatDoorJoin31
import Derived.Maps.AppendAt
import Derived.Deep.Slices
/- The document's own disk: what its Write does. -/
namespace Go.Proofs.YtjacenhblclkaaaGreatDoor
open Go.RowKit
set_option linter.unusedVariables false

theorem enters85 : Enters Tryz.prog 85 := enters Tryz.func85 (by kernel_rfl) (by kernel_rfl)
/-- What the builtin append does to a list of lists of our own. -/
theorem run_appendS {w : World} {B : Nat} {ao : Option Addr} {n c : Nat} {xs ys : List Value} {b off m yc : Nat} (hown : w.ownsRow B 65 1 (.slice ao n c) n xs) (hl : ys.length = m) (hs : n + m ≤ 2000000) (hB : B ≤ w.heap.size) (hone : ∀ u ∈ ys, u.oneCell' = true) (h : ∀ j u, ys[j]? = some u → w.cell? ⟨b, off + j, none⟩ = some u) (ty : TypeId) :
    ∃ ao' c' w', (Builtin.append_ #[61, 61] ty #[.slice ao n c, .slice (some ⟨b, off, none⟩) m yc]).run Tryz.prog w = .ok (.slice ao' (n + m) c') w' ∧ w'.ownsRow B 65 1 (.slice ao' (n + m) c') (n + m) (xs ++ ys) ∧ Below B w w' ∧ w.grownBy w' (Value.slice ao n c).ownBlock := by
  obtain ⟨i0, hi, hz0, hz1, hz2⟩ := info_parts Tryz.info65
  obtain ⟨v', w', hr, ho, hg, _, hat⟩ := run_append_own_at (P := Tryz.prog) w B 61 ty 65 i0 _ 1 24 Tryz.underlying61 hi hz0 hz1 hz2 rfl (by decide) (.slice ao n c) n xs hown ⟨b, off, none⟩ m yc ys (by omega) (fun j u hj => by rw [Addr.add_lit]; exact h j u hj) hone (by unfold maxLen; omega) (by omega) hB
  obtain ⟨ao', c', rfl⟩ : ∃ ao' c', v' = .slice ao' (n + m) c' := by
    rcases ho.2 with ⟨h1, h2⟩ | ⟨g, cap, cur, h1, _⟩
    · exact ⟨none, 0, by rw [h1, h2]⟩
    · exact ⟨_, cap, h1⟩
  exact ⟨ao', c', w', hr, ho, (Below.refl B w).grown hg hB (fun j e => (hown.lt j e).1), hg⟩
theorem own_blkB {w : World} {B : Nat} {g cap : Nat} {xs : List Int} (h : Own w B (some ⟨g, 0, none⟩) cap xs) (hx : xs.length = 256) : ∃ cg : Array Value, w.heap[g]? = some (.cells cg 5 (0, 0)) := by
  rcases h.1.2 with ⟨_, h2⟩ | ⟨g', cap', cur, hv, hg, hh, _⟩
  · omega
  · simp only [Value.slice.injEq, Option.some.injEq, Addr.mk.injEq] at hv
    rw [hv.1.1]
    exact ⟨cur, hh⟩
theorem own_ltB {w : World} {B : Nat} {g cap : Nat} {xs : List Int} (h : Own w B (some ⟨g, 0, none⟩) cap xs) (hx : xs.length = 256) : g < w.heap.size := by
  obtain ⟨cg, hg⟩ := own_blkB h hx
  exact lt_of_block hg
theorem vrow_more {w W : World} {M : Nat → Prop} {b o c : Nat} {vs : List (List Int)} {G : Nat → Nat × Nat} {a3 : Option Addr} {c3 g' : Nat} {xs : List Int} (h : VRow w M (.slice (some ⟨b, o, none⟩) vs.length c) vs) (hG : ∀ j, j < vs.length → w.cell? ⟨b, o + j, none⟩ = some (.slice (some ⟨(G j).1, 0, none⟩) 256 (G j).2)) (hb : Below w.heap.size w W)
    (hown : W.ownsRow w.heap.size 65 1 (.slice a3 (vs.length + 1) c3) (vs.length + 1) (((List.range vs.length).map fun j => Value.slice (some ⟨(G j).1, 0, none⟩) 256 (G j).2) ++ [.slice (some ⟨g', 0, none⟩) 256 256])) (hg' : w.heap.size ≤ g') (hrow : Row W (some ⟨g', 0, none⟩) xs) (hx : xs.length = 256) (hblk : ∃ cg : Array Value, W.heap[g']? = some (.cells cg 5 (0, 0))) :
    VRow W (fun g => M g ∨ (w.heap.size ≤ g ∧ g < W.heap.size)) (.slice a3 (vs.length + 1) c3) (vs ++ [xs]) := by
  obtain ⟨h0, b', o', c', e, hc, hbb, hel, hMb⟩ := h
  simp only [Value.slice.injEq, Option.some.injEq, Addr.mk.injEq] at e
  obtain ⟨⟨rfl, rfl, _⟩, _, rfl⟩ := e
  have hown' := hown
  rcases hown.2 with ⟨_, h2⟩ | ⟨g, cap, cur, hv, hg, hh, h4, h5, h6, h7⟩
  · omega
  · simp only [Value.slice.injEq] at hv
    obtain ⟨rfl, _, rfl⟩ := hv
    have hgl := lt_of_block hh
    refine ⟨by simp, g, 0, c3, by rw [List.length_append]; rfl, by rw [List.length_append]; exact h4, ⟨cur, hh⟩, fun j us hj => ?_, .inr ⟨hg, hgl⟩⟩
    have hjl := (List.getElem?_eq_some_iff.1 hj).1
    rw [List.length_append] at hjl
    simp only [List.length_cons, List.length_nil] at hjl
    rw [Nat.zero_add, hown'.cellAt j (by omega)]
    by_cases hlt : j < vs.length
    · rw [List.getElem?_append_left hlt] at hj
      obtain ⟨hl, q, gc, q1, q2, ⟨cg, q3⟩, q4⟩ := hel j us hj
      have e1 := hG j hlt
      rw [q1] at e1
      simp only [Option.some.injEq, Value.slice.injEq, Addr.mk.injEq, and_true, true_and] at e1
      refine ⟨hl, q, gc, ?_, q2.below hb (Nat.le_refl _), ⟨cg, (hb.block q (lt_of_block q3)).trans q3⟩, .inl q4⟩
      rw [List.getElem?_append_left (by simpa using hlt), List.getElem?_map, List.getElem?_range hlt]
      simp [← e1.1, ← e1.2]
    · have hjn : j = vs.length := by omega
      subst hjn
      rw [List.getElem?_append_right (Nat.le_refl _), Nat.sub_self] at hj
      simp only [List.getElem?_cons_zero, Option.some.injEq] at hj
      subst hj
      refine ⟨hx, g', 256, ?_, hrow, hblk, .inr ⟨hg', by obtain ⟨cg, h9⟩ := hblk; exact lt_of_block h9⟩⟩
      rw [List.getElem?_append_right (by simp)]
      simp
set_option maxRecDepth 100000 in
set_option maxHeartbeats 8000000 in
theorem rwrite_any {w : World} {M : Nat → Prop} {y s cap : Nat} {vss : List (List (List Int))} {left : Int} (h : RD w M y s cap vss left false) (i : Nat) (hi : i < vss.length) (hl : -1 ≤ left) (hl2 : left ≤ 9223372036854775807) (hbig : ∀ vs ∈ vss, vs.length ≤ 1000000) (xo : Option Addr) (xc : Nat) (xs : List Int) (hrow : Row w xo xs) (hx : xs.length = 256) :
    Calls Tryz.prog 32 #[.pointer (some ⟨y, 0, none⟩), .int .i64 i, .slice xo 256 xc] w fun e w' => e = .returned (.int .i64 (if left = 0 then 101 else 0)) ∧ RD w' (fun g => M g ∨ (w.heap.size ≤ g ∧ g < w'.heap.size)) y s cap (addS vss i xs) (if left = 0 then 0 else burnt left) (decide (left = 0)) ∧ Only2 y s w w' := by
  have c0 := h.c0
  have c2 := h.c2
  have hlt1 := h.lt
  have hmany := h.many
  have hcap := h.fits
  have H := hide h
  have HR := hide hrow
  have HX := hide hx
  obtain ⟨cs, t1, t2, t3⟩ := h.tab
  have hls : s < w.heap.size := lt_of_block t1
  obtain ⟨vs, hvs⟩ : ∃ vs, vss[i]? = some vs := ⟨_, List.getElem?_eq_getElem hi⟩
  obtain ⟨v, h4, h0, b, o, c, rfl, hc, ⟨cb, hb⟩, hel, hMb⟩ := t3 i vs hvs
  have s0 : w.cell? ⟨s, i, none⟩ = some (.slice (some ⟨b, o, none⟩) vs.length c) := (cell_row t1 i).trans h4
  have hfz := h.fzS i
  have hvb := hbig vs (List.mem_of_getElem? hvs)
  have hlb := lt_of_block hb
  obtain ⟨G, hG⟩ := Go.Deep.choose_lt (α := Nat × Nat) (p := fun j q => w.cell? ⟨b, o + j, none⟩ = some (.slice (some ⟨q.1, 0, none⟩) 256 q.2)) (fun j hj => by
    obtain ⟨_, g, gc, hh, _⟩ := hel j (vs[j]'hj) (List.getElem?_eq_getElem hj)
    exact ⟨(g, gc), hh⟩)
  have HEL := hide hel
  have HG := hide hG
  have HADD : Hid (addS vss i xs = vss.set i (vs ++ [xs])) := by
    show _ = _
    unfold addS
    rw [List.getD_eq_getElem?_getD, hvs]; rfl
  have HVR : Hid (VRow w M (.slice (some ⟨b, o, none⟩) vs.length c) vs) := ⟨h0, b, o, c, rfl, hc, ⟨cb, hb⟩, hel, hMb⟩
  obtain ⟨n, hn⟩ : ∃ n, n = vs.length := ⟨_, rfl⟩
  have HN := hide hn
  rw [← hn] at s0 hvb h0 hc
  clear h hrow hx hvs h4 hel hG hMb hn t3 hbig
  go_enter Tryz.func32, Tryz.ntmps32
  have hii : (i : Int) < (vss.length : Int) := by omega
  go_wp2_with fail
  refine region_at (S := fun w' => w'.cell? ⟨y, 0, none⟩ = some (.slice (some ⟨s, 0, none⟩) vss.length cap) ∧ s < w'.heap.size) (by kernel_rfl) 20 rfl ⟨c0, hls⟩ ?_
  have HS : Hid (w.drew.cell? ⟨y, 0, none⟩ = some (.slice (some ⟨s, 0, none⟩) vss.length cap) ∧ s < w.drew.heap.size) := ⟨c0, hls⟩
  refine at_take (i := 0) (v := .pointer (some ⟨y, 0, none⟩)) rfl rfl (by kernel_rfl) (by kernel_rfl) (by kernel_rfl) (fun c a d v w h => by cases d <;> exact h) rfl (by intro w hSw; (try dsimp only at hSw); obtain ⟨s1, s2⟩ := hSw; go_simp) HS.out ?_
  simp only [List.set]
  refine at_take (i := 1) (v := .pointer (some ⟨y, 0, none⟩)) rfl rfl (by kernel_rfl) (by kernel_rfl) (by kernel_rfl) (fun c a d v w h => by cases d <;> exact h) rfl (by intro w hSw; (try dsimp only at hSw); obtain ⟨s1, s2⟩ := hSw; go_simp) HS.out ?_
  simp only [List.set]
  refine at_take (i := 2) (v := .pointer (some ⟨y, 0, none⟩)) rfl rfl (by kernel_rfl) (by kernel_rfl) (by kernel_rfl) (fun c a d v w h => by cases d <;> exact h) rfl (by intro w hSw; (try dsimp only at hSw); obtain ⟨s1, s2⟩ := hSw; go_simp) HS.out ?_
  simp only [List.set]
  refine at_take (i := 3) (v := .slice (some ⟨s, 0, none⟩) vss.length cap) rfl rfl (by kernel_rfl) (by kernel_rfl) (by kernel_rfl) (fun c a d v w h => by cases d <;> exact h) rfl (by intro w hSw; (try dsimp only at hSw); obtain ⟨s1, s2⟩ := hSw; go_simp) HS.out ?_
  simp only [List.set]
  refine at_take (i := 4) (v := .int .i64 i) rfl rfl (by kernel_rfl) (by kernel_rfl) (by kernel_rfl) (fun c a d v w h => by cases d <;> exact h) rfl (by intro w hSw; (try dsimp only at hSw); obtain ⟨s1, s2⟩ := hSw; go_simp) HS.out ?_
  simp only [List.set]
  refine at_take (i := 6) (v := .pointer (some ⟨y, 0, none⟩)) rfl rfl (by kernel_rfl) (by kernel_rfl) (by kernel_rfl) (fun c a d v w h => by cases d <;> exact h) rfl (by intro w hSw; (try dsimp only at hSw); obtain ⟨s1, s2⟩ := hSw; go_simp) HS.out ?_
  simp only [List.set]
  refine at_take (i := 7) (v := .pointer (some ⟨y, 0, none⟩)) rfl rfl (by kernel_rfl) (by kernel_rfl) (by kernel_rfl) (fun c a d v w h => by cases d <;> exact h) rfl (by intro w hSw; (try dsimp only at hSw); obtain ⟨s1, s2⟩ := hSw; go_simp) HS.out ?_
  simp only [List.set]
  refine at_take (i := 8) (v := .pointer (some ⟨y, 0, none⟩)) rfl rfl (by kernel_rfl) (by kernel_rfl) (by kernel_rfl) (fun c a d v w h => by cases d <;> exact h) rfl (by intro w hSw; (try dsimp only at hSw); obtain ⟨s1, s2⟩ := hSw; go_simp) HS.out ?_
  simp only [List.set]
  refine at_take (i := 9) (v := .slice (some ⟨s, 0, none⟩) vss.length cap) rfl rfl (by kernel_rfl) (by kernel_rfl) (by kernel_rfl) (fun c a d v w h => by cases d <;> exact h) rfl (by intro w hSw; (try dsimp only at hSw); obtain ⟨s1, s2⟩ := hSw; go_simp) HS.out ?_
  simp only [List.set]
  refine at_take (i := 10) (v := .int .i64 i) rfl rfl (by kernel_rfl) (by kernel_rfl) (by kernel_rfl) (fun c a d v w h => by cases d <;> exact h) rfl (by intro w hSw; (try dsimp only at hSw); obtain ⟨s1, s2⟩ := hSw; go_simp) HS.out ?_
  simp only [List.set]
  refine at_take (i := 11) (v := .pointer (some ⟨s, i, none⟩)) rfl rfl (by kernel_rfl) (by kernel_rfl) (by kernel_rfl) (fun c a d v w h => by cases d <;> exact h) rfl (by intro w hSw; (try dsimp only at hSw); obtain ⟨s1, s2⟩ := hSw; go_simp) HS.out ?_
  simp only [List.set]
  refine at_take (i := 14) (v := .slice xo 256 xc) rfl rfl (by kernel_rfl) (by kernel_rfl) (by kernel_rfl) (fun c a d v w h => by cases d <;> exact h) rfl (by intro w hSw; (try dsimp only at hSw); obtain ⟨s1, s2⟩ := hSw; go_simp) HS.out ?_
  simp only [List.set]
  have hbx0 := below_box w.drew (.cells #[] 65)
  have HS1 : Hid ((w.drew.alloc (.cells #[] 65)).cell? ⟨y, 0, none⟩ = some (.slice (some ⟨s, 0, none⟩) vss.length cap) ∧ s < (w.drew.alloc (.cells #[] 65)).heap.size) := ⟨(hbx0.cell (p := ⟨y, 0, none⟩) hlt1).trans c0, Nat.lt_of_lt_of_le hls hbx0.size⟩
  have hs0 : w.drew.cell? ⟨s, i, none⟩ = some (.slice (some ⟨b, o, none⟩) n c) := s0
  have hs1 : (w.drew.alloc (.cells #[] 65)).cell? ⟨s, i, none⟩ = some (.slice (some ⟨b, o, none⟩) n c) := (hbx0.cell (p := ⟨s, i, none⟩) hls).trans s0
  refine at_two (i := 5) (j := 12) (by kernel_rfl) ?_ ?_
  · refine one_op (i := 5) (v := .slice (some ⟨w.drew.heap.size, 0, none⟩) 0 0) (w' := w.drew.alloc (.cells #[] 65)) rfl rfl rfl (by go_simp) HS1.out ?_
    simp only [List.set]
    refine at_one (i := 12) (by kernel_rfl) ?_
    refine one_op (i := 12) (v := .slice (some ⟨b, o, none⟩) n c) (w' := w.drew.alloc (.cells #[] 65)) rfl rfl rfl (by go_simp) HS1.out ?_
    simp only [List.set]
    obtain ⟨W1, hW1⟩ : ∃ W1, W1 = w.drew.alloc (.cells #[] 65) := ⟨_, rfl⟩
    rw [← hW1]
    have hB1 : Below w.heap.size w W1 := by rw [hW1]; exact over (below_drew (Below.refl w.heap.size w)) hbx0 (Nat.le_refl _)
    have hown0 : W1.ownsRow w.heap.size 65 1 (.slice (some ⟨w.drew.heap.size, 0, none⟩) 0 0) 0 [] := ⟨rfl, .inr ⟨w.heap.size, 0, #[], rfl, Nat.le_refl _, by rw [hW1]; exact heap_alloc_new _ _, Nat.le_refl _, by decide, rfl, rfl⟩⟩
    obtain ⟨ys, hys⟩ : ∃ ys, ys = (List.range vs.length).map fun j => Value.slice (some ⟨(G j).1, 0, none⟩) 256 (G j).2 := ⟨_, rfl⟩
    have hyl : ys.length = n := by rw [hys, HN.out]; simp
    have hone : ∀ u ∈ ys, u.oneCell' = true := by rw [hys]; intro u hu; obtain ⟨j, _, rfl⟩ := List.mem_map.1 hu; rfl
    have hcell : ∀ j u, ys[j]? = some u → W1.cell? ⟨b, o + j, none⟩ = some u := fun j u hj => by
      have hjl := (List.getElem?_eq_some_iff.1 hj).1
      have hNN := HN.out
      rw [hys, List.getElem?_map, List.getElem?_range (by omega)] at hj
      simp only [Option.map_some, Option.some.injEq] at hj
      rw [← hj]
      exact (hB1.cell (p := ⟨b, o + j, none⟩) hlb).trans (HG.out j (by have := HN.out; omega))
    obtain ⟨a2, c2', W2, hrun2, hown2, hb2, _⟩ := run_appendS (yc := c) hown0 hyl (by omega) hB1.size hone hcell 65
    rw [Nat.zero_add] at hrun2 hown2
    have hB2 : Below w.heap.size w W2 := hB1.trans hb2
    have HS2 : Hid (W2.cell? ⟨y, 0, none⟩ = some (.slice (some ⟨s, 0, none⟩) vss.length cap) ∧ s < W2.heap.size) := ⟨(hB2.cell (p := ⟨y, 0, none⟩) hlt1).trans c0, Nat.lt_of_lt_of_le hls hB2.size⟩
    refine at_one (i := 13) (by kernel_rfl) ?_
    refine one_op (i := 13) (v := .slice a2 n c2') (w' := W2) rfl rfl rfl (exec_append rfl rfl rfl hrun2) HS2.out ?_
    simp only [List.set]
    refine at_one (i := 15) (by kernel_rfl) ?_
    refine one_call (i := 15) rfl rfl rfl rfl enters85 ((copy_len xo 256 xc xs W2 (HR.out.below hB2 (Nat.le_refl _)) HX.out).mono ?_)
    rintro e9 W3 ⟨g', rfl, hg', hown', hb3⟩
    have hB3 : Below w.heap.size w W3 := hB2.trans (hb3.mono hB2.size)
    have HS3 : Hid (W3.cell? ⟨y, 0, none⟩ = some (.slice (some ⟨s, 0, none⟩) vss.length cap) ∧ s < W3.heap.size) := ⟨(hB3.cell (p := ⟨y, 0, none⟩) hlt1).trans c0, Nat.lt_of_lt_of_le hls hB3.size⟩
    refine ⟨_, rfl, HS3.out, ?_⟩
    simp only [List.set]
    have hbx4 := below_box W3 (.cells #[.slice (some ⟨g', 0, none⟩) 256 256] 65)
    have hB4 := over hB3 hbx4 hB3.size
    have HS4 : Hid ((W3.alloc (.cells #[.slice (some ⟨g', 0, none⟩) 256 256] 65)).cell? ⟨y, 0, none⟩ = some (.slice (some ⟨s, 0, none⟩) vss.length cap) ∧ s < (W3.alloc (.cells #[.slice (some ⟨g', 0, none⟩) 256 256] 65)).heap.size) := ⟨(hB4.cell (p := ⟨y, 0, none⟩) hlt1).trans c0, Nat.lt_of_lt_of_le hls hB4.size⟩
    refine at_one (i := 16) (by kernel_rfl) ?_
    refine one_op (i := 16) (v := .slice (some ⟨W3.heap.size, 0, none⟩) 1 1) (w' := W3.alloc (.cells #[.slice (some ⟨g', 0, none⟩) 256 256] 65)) rfl rfl rfl (by go_simp) HS4.out ?_
    simp only [List.set]
    have hown4 : (W3.alloc (.cells #[.slice (some ⟨g', 0, none⟩) 256 256] 65)).ownsRow w.heap.size 65 1 (.slice a2 n c2') n ([] ++ ys) := owns_of_block hown2 fun q _ h2 => (hbx4.block q (Nat.lt_of_lt_of_le h2 hb3.size)).trans (hb3.block q h2)
    obtain ⟨a5, c5, W5, hrun5, hown5, hb5, hgr5⟩ := run_appendS (yc := 1) (b := W3.heap.size) (off := 0) hown4 (show [Value.slice (some ⟨g', 0, none⟩) 256 256].length = 1 from rfl) (by omega) hB4.size (by intro u hu; rw [List.mem_singleton.1 hu]; rfl) (fun j u hj => by cases j with | zero => (simp only [List.getElem?_cons_zero, Option.some.injEq] at hj; rw [← hj]; exact (cell_row (heap_alloc_new _ _) 0).trans rfl) | succ j => simp at hj) 65
    have hB5 : Below w.heap.size w W5 := hB4.trans hb5
    have HS5 : Hid (W5.cell? ⟨y, 0, none⟩ = some (.slice (some ⟨s, 0, none⟩) vss.length cap) ∧ s < W5.heap.size) := ⟨(hB5.cell (p := ⟨y, 0, none⟩) hlt1).trans c0, Nat.lt_of_lt_of_le hls hB5.size⟩
    refine at_one (i := 17) (by kernel_rfl) ?_
    refine one_op (i := 17) (v := .slice a5 (n + 1) c5) (w' := W5) rfl rfl rfl (exec_append rfl rfl rfl hrun5) HS5.out ?_
    simp only [List.set]
    refine at_take (i := 18) (v := .pointer (some ⟨s, i, none⟩)) rfl rfl (by kernel_rfl) (by kernel_rfl) (by kernel_rfl) (fun c a d v w h => by cases d <;> exact h) rfl (by intro w hSw; (try dsimp only at hSw); obtain ⟨s1, s2⟩ := hSw; go_simp) HS5.out ?_
    simp only [List.set]
    have hs5 : W5.cell? ⟨s, i, none⟩ = some (.slice (some ⟨b, o, none⟩) n c) := (hB5.cell (p := ⟨s, i, none⟩) hls).trans s0
    have hf5 : W5.frozen? ⟨s, i, none⟩ = false := by have := (H.out.step hB5).fzS i; exact this
    have HS6 : Hid ((W5.setCell ⟨s, i, none⟩ (.slice a5 (n + 1) c5)).cell? ⟨y, 0, none⟩ = some (.slice (some ⟨s, 0, none⟩) vss.length cap) ∧ s < (W5.setCell ⟨s, i, none⟩ (.slice a5 (n + 1) c5)).heap.size) := ⟨(World.cell?_of_block (w := W5) (Below.heap_setCell _ _ _ _ (show y ≠ s from H.out.ne))).trans HS5.out.1, by simpa [World.setCell] using HS5.out.2⟩
    refine at_one (i := 19) (by kernel_rfl) ?_
    refine one_store (i := 19) (w' := W5.setCell ⟨s, i, none⟩ (.slice a5 (n + 1) c5)) rfl rfl rfl (by go_simp) HS6.out ?_
    refine at_done (by kernel_rfl) ?_
    have hV : VRow W5 (fun q => M q ∨ (w.heap.size ≤ q ∧ q < W5.heap.size)) (.slice a5 (n + 1) c5) (vs ++ [xs]) := by
      have hgl : g' < W3.heap.size := own_ltB hown' HX.out
      have hne : some g' ≠ (Value.slice a2 n c2').ownBlock := fun e => by have := (hown2.lt g' e.symm).2; omega
      have hk : W5.heap[g']? = W3.heap[g']? := (hgr5.block g' (Nat.lt_of_lt_of_le hgl hbx4.size) hne).trans (hbx4.block g' hgl)
      have hown6 : Own W5 g' (some ⟨g', 0, none⟩) 256 xs := ⟨owns_of_block hown'.1 fun q hq _ => by simp only [Value.ownBlock, Option.some.injEq] at hq; rw [← hq]; exact hk, hown'.2⟩
      rw [List.nil_append, hys] at hown5
      have := vrow_more (xs := xs) (G := G) (g' := g') (a3 := a5) (c3 := c5) (b := b) (o := o) (c := c) (vs := vs) (w := w) (W := W5) (M := M) HVR.out HG.out hB5 (by rw [HN.out] at hown5; exact hown5) (Nat.le_trans hB2.size hg') hown6.row HX.out (own_blkB hown6 HX.out)
      rw [← HN.out] at this
      exact this
    have HD := hide (((H.out.step hB5).wide (L := fun q => M q ∨ (w.heap.size ≤ q ∧ q < W5.heap.size)) (fun q hq => .inl hq)).put (i := i) hi hV)
    rw [← HADD.out] at HD
    have HB5 := hide hB5
    have HSZ : Hid ((W5.setCell ⟨s, i, none⟩ (.slice a5 (n + 1) c5)).heap.size = W5.heap.size) := by show _ = _; simp [World.setCell]
    go_wp2_with fail
    refine (rburn_any HD.out hl hl2).mono ?_
    rintro e9 W7 ⟨rfl, hd, ho⟩
    have hsz7 : W5.heap.size ≤ W7.heap.size := by rw [← HSZ.out]; exact ho.size
    have HO7 := hide (((Only2.of_below HB5.out).setS (y := y) (s := s) i _).trans ho)
    have HD7 := hide (hd.wide (L := fun q => M q ∨ (w.heap.size ≤ q ∧ q < W7.heap.size)) (fun q hq => hq.imp id fun h => ⟨h.1, Nat.lt_of_lt_of_le h.2 hsz7⟩))
    clear hd ho
    by_cases hl0 : left = 0
    · subst hl0
      rw [show decide ((0 : Int) ≠ 0) = false by decide]
      go_wp2_with fail
      go_ret
      exact ⟨rfl, HD7.out, HO7.out⟩
    · rw [show decide (left ≠ 0) = true from decide_eq_true hl0]
      have HD8 : Hid (RD W7 (fun q => M q ∨ (w.heap.size ≤ q ∧ q < W7.heap.size)) y s cap (addS vss i xs) (burnt left) false) := by have := HD7.out; rw [Bool.false_or, decide_eq_false hl0] at this; exact this
      go_wp2_with fail
      go_ret
      exact ⟨rfl, HD8.out, HO7.out⟩
  · refine one_op (i := 12) (v := .slice (some ⟨b, o, none⟩) n c) (w' := w.drew) rfl rfl rfl (by go_simp) HS.out ?_
    simp only [List.set]
    refine at_one (i := 5) (by kernel_rfl) ?_
    refine one_op (i := 5) (v := .slice (some ⟨w.drew.heap.size, 0, none⟩) 0 0) (w' := w.drew.alloc (.cells #[] 65)) rfl rfl rfl (by go_simp) HS1.out ?_
    simp only [List.set]
    obtain ⟨W1, hW1⟩ : ∃ W1, W1 = w.drew.alloc (.cells #[] 65) := ⟨_, rfl⟩
    rw [← hW1]
    have hB1 : Below w.heap.size w W1 := by rw [hW1]; exact over (below_drew (Below.refl w.heap.size w)) hbx0 (Nat.le_refl _)
    have hown0 : W1.ownsRow w.heap.size 65 1 (.slice (some ⟨w.drew.heap.size, 0, none⟩) 0 0) 0 [] := ⟨rfl, .inr ⟨w.heap.size, 0, #[], rfl, Nat.le_refl _, by rw [hW1]; exact heap_alloc_new _ _, Nat.le_refl _, by decide, rfl, rfl⟩⟩
    obtain ⟨ys, hys⟩ : ∃ ys, ys = (List.range vs.length).map fun j => Value.slice (some ⟨(G j).1, 0, none⟩) 256 (G j).2 := ⟨_, rfl⟩
    have hyl : ys.length = n := by rw [hys, HN.out]; simp
    have hone : ∀ u ∈ ys, u.oneCell' = true := by rw [hys]; intro u hu; obtain ⟨j, _, rfl⟩ := List.mem_map.1 hu; rfl
    have hcell : ∀ j u, ys[j]? = some u → W1.cell? ⟨b, o + j, none⟩ = some u := fun j u hj => by
      have hjl := (List.getElem?_eq_some_iff.1 hj).1
      have hNN := HN.out
      rw [hys, List.getElem?_map, List.getElem?_range (by omega)] at hj
      simp only [Option.map_some, Option.some.injEq] at hj
      rw [← hj]
      exact (hB1.cell (p := ⟨b, o + j, none⟩) hlb).trans (HG.out j (by have := HN.out; omega))
    obtain ⟨a2, c2', W2, hrun2, hown2, hb2, _⟩ := run_appendS (yc := c) hown0 hyl (by omega) hB1.size hone hcell 65
    rw [Nat.zero_add] at hrun2 hown2
    have hB2 : Below w.heap.size w W2 := hB1.trans hb2
    have HS2 : Hid (W2.cell? ⟨y, 0, none⟩ = some (.slice (some ⟨s, 0, none⟩) vss.length cap) ∧ s < W2.heap.size) := ⟨(hB2.cell (p := ⟨y, 0, none⟩) hlt1).trans c0, Nat.lt_of_lt_of_le hls hB2.size⟩
    refine at_one (i := 13) (by kernel_rfl) ?_
    refine one_op (i := 13) (v := .slice a2 n c2') (w' := W2) rfl rfl rfl (exec_append rfl rfl rfl hrun2) HS2.out ?_
    simp only [List.set]
    refine at_one (i := 15) (by kernel_rfl) ?_
    refine one_call (i := 15) rfl rfl rfl rfl enters85 ((copy_len xo 256 xc xs W2 (HR.out.below hB2 (Nat.le_refl _)) HX.out).mono ?_)
    rintro e9 W3 ⟨g', rfl, hg', hown', hb3⟩
    have hB3 : Below w.heap.size w W3 := hB2.trans (hb3.mono hB2.size)
    have HS3 : Hid (W3.cell? ⟨y, 0, none⟩ = some (.slice (some ⟨s, 0, none⟩) vss.length cap) ∧ s < W3.heap.size) := ⟨(hB3.cell (p := ⟨y, 0, none⟩) hlt1).trans c0, Nat.lt_of_lt_of_le hls hB3.size⟩
    refine ⟨_, rfl, HS3.out, ?_⟩
    simp only [List.set]
    have hbx4 := below_box W3 (.cells #[.slice (some ⟨g', 0, none⟩) 256 256] 65)
    have hB4 := over hB3 hbx4 hB3.size
    have HS4 : Hid ((W3.alloc (.cells #[.slice (some ⟨g', 0, none⟩) 256 256] 65)).cell? ⟨y, 0, none⟩ = some (.slice (some ⟨s, 0, none⟩) vss.length cap) ∧ s < (W3.alloc (.cells #[.slice (some ⟨g', 0, none⟩) 256 256] 65)).heap.size) := ⟨(hB4.cell (p := ⟨y, 0, none⟩) hlt1).trans c0, Nat.lt_of_lt_of_le hls hB4.size⟩
    refine at_one (i := 16) (by kernel_rfl) ?_
    refine one_op (i := 16) (v := .slice (some ⟨W3.heap.size, 0, none⟩) 1 1) (w' := W3.alloc (.cells #[.slice (some ⟨g', 0, none⟩) 256 256] 65)) rfl rfl rfl (by go_simp) HS4.out ?_
    simp only [List.set]
    have hown4 : (W3.alloc (.cells #[.slice (some ⟨g', 0, none⟩) 256 256] 65)).ownsRow w.heap.size 65 1 (.slice a2 n c2') n ([] ++ ys) := owns_of_block hown2 fun q _ h2 => (hbx4.block q (Nat.lt_of_lt_of_le h2 hb3.size)).trans (hb3.block q h2)
    obtain ⟨a5, c5, W5, hrun5, hown5, hb5, hgr5⟩ := run_appendS (yc := 1) (b := W3.heap.size) (off := 0) hown4 (show [Value.slice (some ⟨g', 0, none⟩) 256 256].length = 1 from rfl) (by omega) hB4.size (by intro u hu; rw [List.mem_singleton.1 hu]; rfl) (fun j u hj => by cases j with | zero => (simp only [List.getElem?_cons_zero, Option.some.injEq] at hj; rw [← hj]; exact (cell_row (heap_alloc_new _ _) 0).trans rfl) | succ j => simp at hj) 65
    have hB5 : Below w.heap.size w W5 := hB4.trans hb5
    have HS5 : Hid (W5.cell? ⟨y, 0, none⟩ = some (.slice (some ⟨s, 0, none⟩) vss.length cap) ∧ s < W5.heap.size) := ⟨(hB5.cell (p := ⟨y, 0, none⟩) hlt1).trans c0, Nat.lt_of_lt_of_le hls hB5.size⟩
    refine at_one (i := 17) (by kernel_rfl) ?_
    refine one_op (i := 17) (v := .slice a5 (n + 1) c5) (w' := W5) rfl rfl rfl (exec_append rfl rfl rfl hrun5) HS5.out ?_
    simp only [List.set]
    refine at_take (i := 18) (v := .pointer (some ⟨s, i, none⟩)) rfl rfl (by kernel_rfl) (by kernel_rfl) (by kernel_rfl) (fun c a d v w h => by cases d <;> exact h) rfl (by intro w hSw; (try dsimp only at hSw); obtain ⟨s1, s2⟩ := hSw; go_simp) HS5.out ?_
    simp only [List.set]
    have hs5 : W5.cell? ⟨s, i, none⟩ = some (.slice (some ⟨b, o, none⟩) n c) := (hB5.cell (p := ⟨s, i, none⟩) hls).trans s0
    have hf5 : W5.frozen? ⟨s, i, none⟩ = false := by have := (H.out.step hB5).fzS i; exact this
    have HS6 : Hid ((W5.setCell ⟨s, i, none⟩ (.slice a5 (n + 1) c5)).cell? ⟨y, 0, none⟩ = some (.slice (some ⟨s, 0, none⟩) vss.length cap) ∧ s < (W5.setCell ⟨s, i, none⟩ (.slice a5 (n + 1) c5)).heap.size) := ⟨(World.cell?_of_block (w := W5) (Below.heap_setCell _ _ _ _ (show y ≠ s from H.out.ne))).trans HS5.out.1, by simpa [World.setCell] using HS5.out.2⟩
    refine at_one (i := 19) (by kernel_rfl) ?_
    refine one_store (i := 19) (w' := W5.setCell ⟨s, i, none⟩ (.slice a5 (n + 1) c5)) rfl rfl rfl (by go_simp) HS6.out ?_
    refine at_done (by kernel_rfl) ?_
    have hV : VRow W5 (fun q => M q ∨ (w.heap.size ≤ q ∧ q < W5.heap.size)) (.slice a5 (n + 1) c5) (vs ++ [xs]) := by
      have hgl : g' < W3.heap.size := own_ltB hown' HX.out
      have hne : some g' ≠ (Value.slice a2 n c2').ownBlock := fun e => by have := (hown2.lt g' e.symm).2; omega
      have hk : W5.heap[g']? = W3.heap[g']? := (hgr5.block g' (Nat.lt_of_lt_of_le hgl hbx4.size) hne).trans (hbx4.block g' hgl)
      have hown6 : Own W5 g' (some ⟨g', 0, none⟩) 256 xs := ⟨owns_of_block hown'.1 fun q hq _ => by simp only [Value.ownBlock, Option.some.injEq] at hq; rw [← hq]; exact hk, hown'.2⟩
      rw [List.nil_append, hys] at hown5
      have := vrow_more (xs := xs) (G := G) (g' := g') (a3 := a5) (c3 := c5) (b := b) (o := o) (c := c) (vs := vs) (w := w) (W := W5) (M := M) HVR.out HG.out hB5 (by rw [HN.out] at hown5; exact hown5) (Nat.le_trans hB2.size hg') hown6.row HX.out (own_blkB hown6 HX.out)
      rw [← HN.out] at this
      exact this
    have HD := hide (((H.out.step hB5).wide (L := fun q => M q ∨ (w.heap.size ≤ q ∧ q < W5.heap.size)) (fun q hq => .inl hq)).put (i := i) hi hV)
    rw [← HADD.out] at HD
    have HB5 := hide hB5
    have HSZ : Hid ((W5.setCell ⟨s, i, none⟩ (.slice a5 (n + 1) c5)).heap.size = W5.heap.size) := by show _ = _; simp [World.setCell]
    go_wp2_with fail
    refine (rburn_any HD.out hl hl2).mono ?_
    rintro e9 W7 ⟨rfl, hd, ho⟩
    have hsz7 : W5.heap.size ≤ W7.heap.size := by rw [← HSZ.out]; exact ho.size
    have HO7 := hide (((Only2.of_below HB5.out).setS (y := y) (s := s) i _).trans ho)
    have HD7 := hide (hd.wide (L := fun q => M q ∨ (w.heap.size ≤ q ∧ q < W7.heap.size)) (fun q hq => hq.imp id fun h => ⟨h.1, Nat.lt_of_lt_of_le h.2 hsz7⟩))
    clear hd ho
    by_cases hl0 : left = 0
    · subst hl0
      rw [show decide ((0 : Int) ≠ 0) = false by decide]
      go_wp2_with fail
      go_ret
      exact ⟨rfl, HD7.out, HO7.out⟩
    · rw [show decide (left ≠ 0) = true from decide_eq_true hl0]
      have HD8 : Hid (RD W7 (fun q => M q ∨ (w.heap.size ≤ q ∧ q < W7.heap.size)) y s cap (addS vss i xs) (burnt left) false) := by have := HD7.out; rw [Bool.false_or, decide_eq_false hl0] at this; exact this
      go_wp2_with fail
      go_ret
      exact ⟨rfl, HD8.out, HO7.out⟩
end Go.Proofs.YtjacenhblclkaaaGreatDoor
