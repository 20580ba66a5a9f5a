/- Lemmas and contracts that the law stands on, joined: RAppend, RLogRec, RLogRec2. -/
import Derived.Test.YtjacenhblclkaaaGreatDoorJoin22
import Derived.Test.YtjacenhblclkaaaGreatDoorJoin32
import Derived.Test.YtjacenhblclkaaaGreatDoorJoin10
import Derived.Test.YtjacenhblclkaaaGreatDoorJoin11
import Derived.Test.YtjacenhblclkaaaGreatDoorJoin9
import Derived.BigRegion
/- The document's own log: what its Append answers. -/
namespace Go.Proofs.YtjacenhblclkaaaGreatDoor
open Go.RowKit
set_option linter.unusedVariables false

theorem enters64 : Enters Tryz.prog 64 := enters Tryz.func64 (by kernel_rfl) (by kernel_rfl)
theorem rrun_ld10 {B : Nat} {w : World} {r : R} (h : Cells10 w B r) : (Instr.loadAt 37 (.pointer (some ⟨B, 0, none⟩))).run Tryz.prog w = .ok r.val w := by
  obtain ⟨k0, k1, k2, k3, k4, k5, k6, k7, k8, k9, kl⟩ := h
  unfold R.val
  go_simp
theorem exec_ld10 {B : Nat} {r : R} {o : Oper} {a : Act} {x : Operand} (hop : o.op = .load 37 x) (ha : a.eval x = .pointer (some ⟨B, 0, none⟩)) {w : World} (h : Cells10 w B r) : (execOp a.eval o).run Tryz.prog w = .ok (.value r.val) w := by
  simp [execOp, hop, ha, rrun_ld10 h]
/-- The document's disk and log stay but for what they write. -/
def Only1 (z : Nat) (w w' : World) : Prop := Only2 z z w w'
theorem cells10_of_below {w w' : World} {B : Nat} {r : R} (h : Cells10 w B r) {C : Nat} (hb : Below C w w') (hC : B < C) : Cells10 w' B r := by
  obtain ⟨k0, k1, k2, k3, k4, k5, k6, k7, k8, k9, kl⟩ := h
  have e := hb.block B hC
  exact ⟨(World.cell?_of_block (w := w) e).trans k0, (World.cell?_of_block (w := w) e).trans k1, (World.cell?_of_block (w := w) e).trans k2, (World.cell?_of_block (w := w) e).trans k3, (World.cell?_of_block (w := w) e).trans k4, (World.cell?_of_block (w := w) e).trans k5, (World.cell?_of_block (w := w) e).trans k6, (World.cell?_of_block (w := w) e).trans k7, (World.cell?_of_block (w := w) e).trans k8, (World.cell?_of_block (w := w) e).trans k9, Nat.lt_of_lt_of_le kl hb.size⟩
theorem from_one {w : World} {B : Nat} {r : R} (h : Cells10 w B r) : ∀ i x, [r][i]? = some x → CellsFrom w B (0 + i * 10) x := by
  intro i x hi
  cases i with
  | zero =>
    simp only [List.getElem?_cons_zero, Option.some.injEq] at hi
    subst hi
    exact ⟨h.c0, h.c1, h.c2, h.c3, h.c4, h.c5, h.c6, h.c7, h.c8, h.c9, h.lt⟩
  | succ i => simp at hi
theorem cells10_set {w : World} {B z : Nat} {r : R} (h : Cells10 w B r) (hne : B ≠ z) (o : Nat) (v : Value) : Cells10 (w.setCell ⟨z, o, none⟩ v) B r := by
  obtain ⟨k0, k1, k2, k3, k4, k5, k6, k7, k8, k9, kl⟩ := h
  have e : (w.setCell ⟨z, o, none⟩ v).heap[B]? = w.heap[B]? := Below.heap_setCell _ _ _ _ hne
  exact ⟨(World.cell?_of_block (w := w) e).trans k0, (World.cell?_of_block (w := w) e).trans k1, (World.cell?_of_block (w := w) e).trans k2, (World.cell?_of_block (w := w) e).trans k3, (World.cell?_of_block (w := w) e).trans k4, (World.cell?_of_block (w := w) e).trans k5, (World.cell?_of_block (w := w) e).trans k6, (World.cell?_of_block (w := w) e).trans k7, (World.cell?_of_block (w := w) e).trans k8, (World.cell?_of_block (w := w) e).trans k9, by simpa [World.setCell] using kl⟩
set_option maxRecDepth 100000 in
set_option maxHeartbeats 4000000 in
theorem rappend_bad {w : World} {M : Nat → Prop} {z y F N : Nat} {base ep : Int} {ao : Option Addr} {c : Nat} {rs : List R} {D : Nat} (h : RL w M z y F N base ep ao c rs D) (r : R) (hg : goodB r = false) :
    Calls Tryz.prog 14 #[.pointer (some ⟨z, 0, none⟩), r.val] w fun e w' => e = .returned (.tuple #[.int .i64 0, .int .i64 102]) ∧ Below w.heap.size w w' := by
  have HB := hide (below_box w (recCells r))
  have HC := hide (cells10_new w r)
  have HG := hide (fun w => goodRec_any r w)
  obtain ⟨k0, k1, k2, k3, k4, k5, k6, k7, k8, k9, kl⟩ := HC.out
  clear h HC kl
  unfold recCells at *
  unfold R.val
  go_enter Tryz.func14, Tryz.ntmps14
  go_wp2_with fail
  refine (goodRec_any r _).mono ?_
  rintro e w1 ⟨rfl, hb⟩
  rw [hg]
  have HB1 := hide (over HB.out hb HB.out.size)
  clear hb HB
  go_wp2_with fail
  go_ret2
  exact ⟨rfl, HB1.out⟩
set_option maxRecDepth 100000 in
set_option maxHeartbeats 4000000 in
theorem rappend_full {w : World} {M : Nat → Prop} {z y F N : Nat} {base ep : Int} {ao : Option Addr} {c : Nat} {rs : List R} {D : Nat} (h : RL w M z y F N base ep ao c rs D) (r : R) (hg : goodB r = true) (n : Nat) (hn : rs.length = n) (hb : 0 ≤ base ∧ base ≤ 1073741824) (hn2 : n ≤ 700) (hN : N ≤ 100) (hr : roomR N n base = 0) :
    Calls Tryz.prog 14 #[.pointer (some ⟨z, 0, none⟩), r.val] w fun e w' => e = .returned (.tuple #[.int .i64 0, .int .i64 109]) ∧ Below w.heap.size w w' := by
  have HB := hide (below_box w (recCells r))
  have HC := hide (cells10_new w r)
  have H := hide h
  have HN := hide hn
  obtain ⟨k0, k1, k2, k3, k4, k5, k6, k7, k8, k9, kl⟩ := HC.out
  clear h HC kl hn
  unfold recCells at *
  unfold R.val
  go_enter Tryz.func14, Tryz.ntmps14
  go_wp2_with fail
  refine (goodRec_any r _).mono ?_
  rintro e w1 ⟨rfl, hb1⟩
  rw [hg]
  have HB1 := hide (over HB.out hb1 HB.out.size)
  clear hb1 HB k0 k1 k2 k3 k4 k5 k6 k7 k8 k9
  go_wp2_with fail
  refine (rroom_cells z N base ao n c w1 (H.out.step HB1.out).c2 (H.out.step HB1.out).c3 ((H.out.step HB1.out).c5 HN.out) hb (by omega) (by omega)).mono ?_
  rintro e w2 ⟨rfl, q, rfl⟩
  rw [hr]
  go_wp2_with fail
  go_ret2
  exact ⟨rfl, below_drewN HB1.out _⟩
set_option maxRecDepth 100000 in
set_option maxHeartbeats 8000000 in
theorem rappend_ok {w : World} {M : Nat → Prop} {z y F N : Nat} {base ep : Int} {ao : Option Addr} {c : Nat} {rs : List R} {D : Nat} (h : RL w M z y F N base ep ao c rs D) (r : R) (hg : goodB r = true) (n : Nat) (hn : rs.length = n) (hb : 0 ≤ base ∧ base ≤ 1073741824) (hn2 : n ≤ 700) (hN : N ≤ 100) (hr : 0 < roomR N n base) :
    Calls Tryz.prog 14 #[.pointer (some ⟨z, 0, none⟩), r.val] w fun e w' => e = .returned (.tuple #[.int .i64 (base + n + 1), .int .i64 0]) ∧ (∃ ao' c', RL w' (fun g => M g ∨ (w.heap.size ≤ g ∧ g < w'.heap.size)) z y F N base ep ao' c' (rs ++ [r]) D) ∧ Only2 z z w w' := by
  have HB := hide (below_box w (recCells r))
  have HC := hide (cells10_new w r)
  have H := hide h
  have HN := hide hn
  have hlz := h.lt
  obtain ⟨k0, k1, k2, k3, k4, k5, k6, k7, k8, k9, kl⟩ := HC.out
  clear h hn kl
  unfold recCells at HB k0 k1 k2 k3 k4 k5 k6 k7 k8 k9
  unfold recCells at HC
  unfold R.val
  go_enter Tryz.func14, Tryz.ntmps14
  go_wp2_with fail
  refine (goodRec_any r _).mono ?_
  rintro e w1 ⟨rfl, hb1⟩
  rw [hg]
  have HC1 := hide (cells10_of_below HC.out hb1 (by simp))
  have HB1 := hide (over HB.out hb1 HB.out.size)
  clear hb1 HB k0 k1 k2 k3 k4 k5 k6 k7 k8 k9 HC
  go_wp2_with fail
  refine (rroom_cells z N base ao n c w1 (H.out.step HB1.out).c2 (H.out.step HB1.out).c3 ((H.out.step HB1.out).c5 HN.out) hb (by omega) (by omega)).mono ?_
  rintro e w2 ⟨rfl, q, rfl⟩
  have hr1 : decide (roomR N n base < 1) = false := by simp; omega
  obtain ⟨X, hX⟩ : ∃ X, X = w.heap.size := ⟨_, rfl⟩
  have hXw : X < w1.heap.size := by have := HC1.out.lt; omega
  rw [← hX] at HC1
  go_wp2_with fail
  rw [← hX]
  refine region_at (S := fun w' => Cells10 w' X r) (by kernel_rfl) 12 rfl (cells10_of_below HC1.out (below_drew (below_drewN (Below.refl _ _) q)) hXw) ?_
  obtain ⟨W0, hW0⟩ : ∃ W0, W0 = (w1.drewN q).drew := ⟨_, rfl⟩
  have hB0 : Below w.heap.size w W0 := by rw [hW0]; exact below_drew (below_drewN HB1.out q)
  have hC0 : Cells10 W0 X r := by rw [hW0]; exact cells10_of_below HC1.out (below_drew (below_drewN (Below.refl _ _) q)) hXw
  have hsz0 : X < W0.heap.size := hC0.lt
  rw [← hW0]
  have HB0 := hide hB0
  have HS := hide hC0
  have HX := hide hX
  clear hW0 hX hB0 hC0
  refine at_take (i := 0) (v := .pointer (some ⟨z, 0, none⟩)) rfl rfl (by kernel_rfl) (by kernel_rfl) (by kernel_rfl) (fun c a d v w h => by cases d <;> exact h) rfl (by intro w hSw; go_simp) HS.out ?_
  simp only [List.set]
  refine at_take (i := 1) (v := .pointer (some ⟨z, 0, none⟩)) rfl rfl (by kernel_rfl) (by kernel_rfl) (by kernel_rfl) (fun c a d v w h => by cases d <;> exact h) rfl (by intro w hSw; go_simp) HS.out ?_
  simp only [List.set]
  refine at_take (i := 2) (v := .pointer (some ⟨z, 0, none⟩)) rfl rfl (by kernel_rfl) (by kernel_rfl) (by kernel_rfl) (fun c a d v w h => by cases d <;> exact h) rfl (by intro w hSw; go_simp) HS.out ?_
  simp only [List.set]
  refine at_take (i := 3) (v := .pointer (some ⟨z, 5, none⟩)) rfl rfl (by kernel_rfl) (by kernel_rfl) (by kernel_rfl) (fun c a d v w h => by cases d <;> exact h) rfl (by intro w hSw; go_simp) HS.out ?_
  simp only [List.set]
  refine at_take (i := 6) (v := r.val) rfl rfl (by kernel_rfl) (by kernel_rfl) (by kernel_rfl) (fun c a d v w h => by cases d <;> exact h) rfl (fun w hSw => exec_ld10 rfl rfl hSw) HS.out ?_
  simp only [List.set]
  refine at_two (i := 4) (j := 7) (by kernel_rfl) ?_ ?_
  · refine one_op (i := 4) (v := .slice ao n c) (w' := W0) rfl rfl rfl (by have k5 := (H.out.step HB0.out).c5 HN.out; go_simp) HS.out ?_
    simp only [List.set]
    refine at_two (i := 5) (j := 7) (by kernel_rfl) ?_ ?_
    · refine one_call (i := 5) rfl rfl rfl rfl enters64 ((rrecs_any ao n c rs W0 (H.out.step HB0.out).row HN.out (by omega)).mono ?_)
      rintro e9 W1 ⟨a3, c3, rfl, ho, hb3⟩
      have hB1 := HB0.out.trans (hb3.mono (HB0.out).size)
      have hC1 := cells10_of_below HS.out hb3 (HS.out).lt
      refine ⟨_, rfl, hC1, ?_⟩
      simp only [List.set]
      refine at_one (i := 7) (by kernel_rfl) ?_
      have hbx2 := below_box W1 (recCells r)
      have hN2 := cells10_new W1 r
      obtain ⟨W2, hW2⟩ : ∃ V, V = W1.alloc (recCells r) := ⟨_, rfl⟩
      rw [← hW2] at hbx2 hN2
      have HW2 := hide hW2
      clear hW2
      have hB2 := hB1.trans (hbx2.mono (hB1).size)
      have hC2 := cells10_of_below hC1 hbx2 (hC1).lt
      refine one_op (i := 7) (v := .slice (some ⟨W1.heap.size, 0, none⟩) 1 1) (w' := W2) rfl rfl rfl (by rw [HW2.out]; unfold R.val recCells; go_simp) hC2 ?_
      simp only [List.set]
      obtain ⟨a4, c4, W4, hrun, hown4, _, hb4, _⟩ := run_appendR (yc := 1) (B := W0.heap.size) (ho.of_blocks fun q _ hq => hbx2.block q hq) HN.out (show [r].length = 1 from rfl) (by omega) (Nat.le_trans hb3.size hbx2.size) (from_one hN2) 103
      have hB4 := hB2.trans (hb4.mono HB0.out.size)
      have hC4 : Cells10 W4 X r := cells10_of_below hC2 hb4 hsz0
      refine at_one (i := 8) (by kernel_rfl) ?_
      refine one_op (i := 8) (v := .slice a4 (n + 1) c4) (w' := W4) rfl rfl rfl (exec_append rfl rfl rfl hrun) hC4 ?_
      simp only [List.set]
      refine at_take (i := 9) (v := .pointer (some ⟨z, 0, none⟩)) rfl rfl (by kernel_rfl) (by kernel_rfl) (by kernel_rfl) (fun c a d v w h => by cases d <;> exact h) rfl (by intro w hSw; go_simp) hC4 ?_
      simp only [List.set]
      refine at_take (i := 10) (v := .pointer (some ⟨z, 5, none⟩)) rfl rfl (by kernel_rfl) (by kernel_rfl) (by kernel_rfl) (fun c a d v w h => by cases d <;> exact h) rfl (by intro w hSw; go_simp) hC4 ?_
      simp only [List.set]
      have hRL := H.out.step hB4
      have k5 := hRL.c5 HN.out
      have kf := hRL.fz 5
      have hput := hRL.put hown4 (show _ = n + 1 by rw [List.length_append, HN.out]; rfl) (Nat.lt_of_lt_of_le hlz HB0.out.size)
      have hC5 : Cells10 (W4.setCell ⟨z, 5, none⟩ (.slice a4 (n + 1) c4)) X r := cells10_set hC4 (show X ≠ z by have := HX.out; omega) _ _
      refine at_one (i := 11) (by kernel_rfl) ?_
      refine one_store (i := 11) (w' := W4.setCell ⟨z, 5, none⟩ (.slice a4 (n + 1) c4)) rfl rfl rfl (by go_simp) hC5 ?_
      refine at_done (by kernel_rfl) ?_
      have HPUT := hide hput
      have HO4 : Hid (Only2 z z w (W4.setCell ⟨z, 5, none⟩ (.slice a4 (n + 1) c4))) := (Only2.of_below hB4).setY 5 _
      obtain ⟨W6, hW6⟩ : ∃ W6, W6 = W4.setCell ⟨z, 5, none⟩ (.slice a4 (n + 1) c4) := ⟨_, rfl⟩
      have hsz6 : W6.heap.size = W4.heap.size := by rw [hW6]; simp [World.setCell]
      rw [← hW6] at HPUT HO4 ⊢
      have HSZ := hide hsz6
      have hlen : Hid ((rs ++ [r]).length = n + 1) := by show _ = _; rw [List.length_append, HN.out]; rfl
      clear k5 kf hput hrun hown4 hb4 hRL hW6 hsz6
      go_wp2_with fail
      refine (rlast_cells z base a4 (n + 1) c4 W6 HPUT.out.c3 (HPUT.out.c5 hlen.out) hb (by omega)).mono ?_
      rintro e w9 ⟨rfl, q9, rfl⟩
      go_wp2_with fail
      go_ret2
      refine ⟨(by first | exact congrArg (fun x => Ending.returned (.tuple #[.int .i64 x, .int .i64 0])) (show base + ((n : Int) + 1) = base + n + 1 by omega) | exact congrArg (fun x => Ending.returned (.tuple #[.int .i64 x, .int .i64 0])) (show base + ((n + 1 : Nat) : Int) = base + n + 1 by omega)), ⟨a4, c4, (HPUT.out.wide fun q hq => hq.imp id fun h => ⟨Nat.le_trans HB0.out.size h.1, by have := HSZ.out; have : (W6.drewN q9).heap.size = W6.heap.size := rfl; omega⟩).step (below_drewN (Below.refl _ _) q9)⟩, HO4.out.trans (.of_below (below_drewN (Below.refl _ _) q9))⟩
    · have hbx1 := below_box W0 (recCells r)
      have hN1 := cells10_new W0 r
      obtain ⟨W1, hW1⟩ : ∃ V, V = W0.alloc (recCells r) := ⟨_, rfl⟩
      rw [← hW1] at hbx1 hN1
      have HW1 := hide hW1
      clear hW1
      have hB1 := HB0.out.trans (hbx1.mono (HB0.out).size)
      have hC1 := cells10_of_below HS.out hbx1 (HS.out).lt
      refine one_op (i := 7) (v := .slice (some ⟨W0.heap.size, 0, none⟩) 1 1) (w' := W1) rfl rfl rfl (by rw [HW1.out]; unfold R.val recCells; go_simp) hC1 ?_
      simp only [List.set]
      refine at_one (i := 5) (by kernel_rfl) ?_
      refine one_call (i := 5) rfl rfl rfl rfl enters64 ((rrecs_any ao n c rs W1 (H.out.step hB1).row HN.out (by omega)).mono ?_)
      rintro e9 W2 ⟨a3, c3, rfl, ho, hb3⟩
      have hB2 := hB1.trans (hb3.mono (hB1).size)
      have hC2 := cells10_of_below hC1 hb3 (hC1).lt
      refine ⟨_, rfl, hC2, ?_⟩
      simp only [List.set]
      obtain ⟨a4, c4, W4, hrun, hown4, _, hb4, _⟩ := run_appendR (yc := 1) (B := W0.heap.size) (ho.mono hbx1.size) HN.out (show [r].length = 1 from rfl) (by omega) (Nat.le_trans hbx1.size hb3.size) (from_one (cells10_of_below hN1 hb3 hN1.lt)) 103
      have hB4 := hB2.trans (hb4.mono HB0.out.size)
      have hC4 : Cells10 W4 X r := cells10_of_below hC2 hb4 hsz0
      refine at_one (i := 8) (by kernel_rfl) ?_
      refine one_op (i := 8) (v := .slice a4 (n + 1) c4) (w' := W4) rfl rfl rfl (exec_append rfl rfl rfl hrun) hC4 ?_
      simp only [List.set]
      refine at_take (i := 9) (v := .pointer (some ⟨z, 0, none⟩)) rfl rfl (by kernel_rfl) (by kernel_rfl) (by kernel_rfl) (fun c a d v w h => by cases d <;> exact h) rfl (by intro w hSw; go_simp) hC4 ?_
      simp only [List.set]
      refine at_take (i := 10) (v := .pointer (some ⟨z, 5, none⟩)) rfl rfl (by kernel_rfl) (by kernel_rfl) (by kernel_rfl) (fun c a d v w h => by cases d <;> exact h) rfl (by intro w hSw; go_simp) hC4 ?_
      simp only [List.set]
      have hRL := H.out.step hB4
      have k5 := hRL.c5 HN.out
      have kf := hRL.fz 5
      have hput := hRL.put hown4 (show _ = n + 1 by rw [List.length_append, HN.out]; rfl) (Nat.lt_of_lt_of_le hlz HB0.out.size)
      have hC5 : Cells10 (W4.setCell ⟨z, 5, none⟩ (.slice a4 (n + 1) c4)) X r := cells10_set hC4 (show X ≠ z by have := HX.out; omega) _ _
      refine at_one (i := 11) (by kernel_rfl) ?_
      refine one_store (i := 11) (w' := W4.setCell ⟨z, 5, none⟩ (.slice a4 (n + 1) c4)) rfl rfl rfl (by go_simp) hC5 ?_
      refine at_done (by kernel_rfl) ?_
      have HPUT := hide hput
      have HO4 : Hid (Only2 z z w (W4.setCell ⟨z, 5, none⟩ (.slice a4 (n + 1) c4))) := (Only2.of_below hB4).setY 5 _
      obtain ⟨W6, hW6⟩ : ∃ W6, W6 = W4.setCell ⟨z, 5, none⟩ (.slice a4 (n + 1) c4) := ⟨_, rfl⟩
      have hsz6 : W6.heap.size = W4.heap.size := by rw [hW6]; simp [World.setCell]
      rw [← hW6] at HPUT HO4 ⊢
      have HSZ := hide hsz6
      have hlen : Hid ((rs ++ [r]).length = n + 1) := by show _ = _; rw [List.length_append, HN.out]; rfl
      clear k5 kf hput hrun hown4 hb4 hRL hW6 hsz6
      go_wp2_with fail
      refine (rlast_cells z base a4 (n + 1) c4 W6 HPUT.out.c3 (HPUT.out.c5 hlen.out) hb (by omega)).mono ?_
      rintro e w9 ⟨rfl, q9, rfl⟩
      go_wp2_with fail
      go_ret2
      refine ⟨(by first | exact congrArg (fun x => Ending.returned (.tuple #[.int .i64 x, .int .i64 0])) (show base + ((n : Int) + 1) = base + n + 1 by omega) | exact congrArg (fun x => Ending.returned (.tuple #[.int .i64 x, .int .i64 0])) (show base + ((n + 1 : Nat) : Int) = base + n + 1 by omega)), ⟨a4, c4, (HPUT.out.wide fun q hq => hq.imp id fun h => ⟨Nat.le_trans HB0.out.size h.1, by have := HSZ.out; have : (W6.drewN q9).heap.size = W6.heap.size := rfl; omega⟩).step (below_drewN (Below.refl _ _) q9)⟩, HO4.out.trans (.of_below (below_drewN (Below.refl _ _) q9))⟩
  · have hbx1 := below_box W0 (recCells r)
    have hN1 := cells10_new W0 r
    obtain ⟨W1, hW1⟩ : ∃ V, V = W0.alloc (recCells r) := ⟨_, rfl⟩
    rw [← hW1] at hbx1 hN1
    have HW1 := hide hW1
    clear hW1
    have hB1 := HB0.out.trans (hbx1.mono (HB0.out).size)
    have hC1 := cells10_of_below HS.out hbx1 (HS.out).lt
    refine one_op (i := 7) (v := .slice (some ⟨W0.heap.size, 0, none⟩) 1 1) (w' := W1) rfl rfl rfl (by rw [HW1.out]; unfold R.val recCells; go_simp) hC1 ?_
    simp only [List.set]
    refine at_one (i := 4) (by kernel_rfl) ?_
    refine one_op (i := 4) (v := .slice ao n c) (w' := W1) rfl rfl rfl (by have k5 := (H.out.step hB1).c5 HN.out; go_simp) hC1 ?_
    simp only [List.set]
    refine at_one (i := 5) (by kernel_rfl) ?_
    refine one_call (i := 5) rfl rfl rfl rfl enters64 ((rrecs_any ao n c rs W1 (H.out.step hB1).row HN.out (by omega)).mono ?_)
    rintro e9 W2 ⟨a3, c3, rfl, ho, hb3⟩
    have hB2 := hB1.trans (hb3.mono (hB1).size)
    have hC2 := cells10_of_below hC1 hb3 (hC1).lt
    refine ⟨_, rfl, hC2, ?_⟩
    simp only [List.set]
    obtain ⟨a4, c4, W4, hrun, hown4, _, hb4, _⟩ := run_appendR (yc := 1) (B := W0.heap.size) (ho.mono hbx1.size) HN.out (show [r].length = 1 from rfl) (by omega) (Nat.le_trans hbx1.size hb3.size) (from_one (cells10_of_below hN1 hb3 hN1.lt)) 103
    have hB4 := hB2.trans (hb4.mono HB0.out.size)
    have hC4 : Cells10 W4 X r := cells10_of_below hC2 hb4 hsz0
    refine at_one (i := 8) (by kernel_rfl) ?_
    refine one_op (i := 8) (v := .slice a4 (n + 1) c4) (w' := W4) rfl rfl rfl (exec_append rfl rfl rfl hrun) hC4 ?_
    simp only [List.set]
    refine at_take (i := 9) (v := .pointer (some ⟨z, 0, none⟩)) rfl rfl (by kernel_rfl) (by kernel_rfl) (by kernel_rfl) (fun c a d v w h => by cases d <;> exact h) rfl (by intro w hSw; go_simp) hC4 ?_
    simp only [List.set]
    refine at_take (i := 10) (v := .pointer (some ⟨z, 5, none⟩)) rfl rfl (by kernel_rfl) (by kernel_rfl) (by kernel_rfl) (fun c a d v w h => by cases d <;> exact h) rfl (by intro w hSw; go_simp) hC4 ?_
    simp only [List.set]
    have hRL := H.out.step hB4
    have k5 := hRL.c5 HN.out
    have kf := hRL.fz 5
    have hput := hRL.put hown4 (show _ = n + 1 by rw [List.length_append, HN.out]; rfl) (Nat.lt_of_lt_of_le hlz HB0.out.size)
    have hC5 : Cells10 (W4.setCell ⟨z, 5, none⟩ (.slice a4 (n + 1) c4)) X r := cells10_set hC4 (show X ≠ z by have := HX.out; omega) _ _
    refine at_one (i := 11) (by kernel_rfl) ?_
    refine one_store (i := 11) (w' := W4.setCell ⟨z, 5, none⟩ (.slice a4 (n + 1) c4)) rfl rfl rfl (by go_simp) hC5 ?_
    refine at_done (by kernel_rfl) ?_
    have HPUT := hide hput
    have HO4 : Hid (Only2 z z w (W4.setCell ⟨z, 5, none⟩ (.slice a4 (n + 1) c4))) := (Only2.of_below hB4).setY 5 _
    obtain ⟨W6, hW6⟩ : ∃ W6, W6 = W4.setCell ⟨z, 5, none⟩ (.slice a4 (n + 1) c4) := ⟨_, rfl⟩
    have hsz6 : W6.heap.size = W4.heap.size := by rw [hW6]; simp [World.setCell]
    rw [← hW6] at HPUT HO4 ⊢
    have HSZ := hide hsz6
    have hlen : Hid ((rs ++ [r]).length = n + 1) := by show _ = _; rw [List.length_append, HN.out]; rfl
    clear k5 kf hput hrun hown4 hb4 hRL hW6 hsz6
    go_wp2_with fail
    refine (rlast_cells z base a4 (n + 1) c4 W6 HPUT.out.c3 (HPUT.out.c5 hlen.out) hb (by omega)).mono ?_
    rintro e w9 ⟨rfl, q9, rfl⟩
    go_wp2_with fail
    go_ret2
    refine ⟨(by first | exact congrArg (fun x => Ending.returned (.tuple #[.int .i64 x, .int .i64 0])) (show base + ((n : Int) + 1) = base + n + 1 by omega) | exact congrArg (fun x => Ending.returned (.tuple #[.int .i64 x, .int .i64 0])) (show base + ((n + 1 : Nat) : Int) = base + n + 1 by omega)), ⟨a4, c4, (HPUT.out.wide fun q hq => hq.imp id fun h => ⟨Nat.le_trans HB0.out.size h.1, by have := HSZ.out; have : (W6.drewN q9).heap.size = W6.heap.size := rfl; omega⟩).step (below_drewN (Below.refl _ _) q9)⟩, HO4.out.trans (.of_below (below_drewN (Below.refl _ _) q9))⟩
end Go.Proofs.YtjacenhblclkaaaGreatDoor

/- The document's own log: what its Rec answers. -/
namespace Go.Proofs.YtjacenhblclkaaaGreatDoor
open Go.RowKit
set_option linter.unusedVariables false

set_option maxRecDepth 100000 in
set_option maxHeartbeats 2000000 in
theorem rrec_none (z : Nat) (base lsn : Int) (ao : Option Addr) (n c : Nat) (w : World) (h3 : w.cell? ⟨z, 3, none⟩ = some (.int .i64 base)) (h5 : w.cell? ⟨z, 5, none⟩ = some (.slice ao n c)) (hb : 0 ≤ base ∧ base ≤ 1073741824) (hn : n ≤ 1200) (hl : lsn ≤ base ∨ base + n < lsn) :
    Calls Tryz.prog 81 #[.pointer (some ⟨z, 0, none⟩), .int .i64 lsn] w fun e w' => e = .returned (.tuple #[noRec.val, .bool false]) ∧ Below w.heap.size w w' := by
  have hlt := World.block_lt_of_cell? w _ h3
  have hbx := below_box w (recCells noRec)
  have h3' := (hbx.cell (p := ⟨z, 3, none⟩) hlt).trans h3
  have h5' := (hbx.cell (p := ⟨z, 5, none⟩) hlt).trans h5
  have HB := hide hbx
  have HL := hide (rlast_cells z base ao n c (w.alloc (recCells noRec)) h3' h5' hb hn)
  unfold recCells noRec at HB HL
  simp only at hlt
  rw [noRec_val]
  clear hbx h3' h5'
  go_enter Tryz.func81, Tryz.ntmps81
  by_cases h0 : lsn ≤ base
  · go_wp2_with fail
    exact bodyPost_ret (v := .tuple #[.agg #[.int .i64 0, .int .i64 0, .int .i64 0, .int .i64 0, .int .i64 0, .int .i64 0, .bool false, .bool false, .int .i64 0, .int .i64 0], .bool false]) (by simp [results, Tryz.results81, go_sem]) rfl ⟨rfl, below_box _ _⟩
  · have h1 : decide (lsn ≤ base) = false := by simp; omega
    have h2 : base + n < lsn := by omega
    go_wp2_with fail
    refine HL.out.mono ?_
    rintro e w1 ⟨rfl, q, rfl⟩
    have HC := hide (cells10_of_below (cells10_new w noRec) (below_drewN (Below.refl (w.alloc (recCells noRec)).heap.size _) q) (by simp))
    have hfz : ∀ o, ((w.alloc (recCells noRec)).drewN q).frozen? ⟨w.heap.size, o, none⟩ = false := fun o => by
      have hh : (w.alloc (recCells noRec)).heap[w.heap.size]? = some (recCells noRec) := heap_alloc_new w _
      show (w.alloc (recCells noRec)).frozen? ⟨w.heap.size, o, none⟩ = false
      unfold World.frozen?
      rw [hh]
      unfold recCells
      simp
    unfold recCells noRec at HC hfz
    have HB2 := hide (below_drewN HB.out q)
    obtain ⟨X, hX⟩ : ∃ X, X = w.heap.size := ⟨_, rfl⟩
    have HX := hide hX
    rw [← hX] at HC hfz ⊢
    obtain ⟨V, hV⟩ : ∃ V, V = (w.alloc (.cells #[.int .i64 0, .int .i64 0, .int .i64 0, .int .i64 0, .int .i64 0, .int .i64 0, .bool false, .bool false, .int .i64 0, .int .i64 0] 37)).drewN q := ⟨_, rfl⟩
    rw [← hV] at HC hfz HB2 ⊢
    obtain ⟨k0, k1, k2, k3, k4, k5, k6, k7, k8, k9, kl⟩ := HC.out
    have f0 := hfz 0
    have f1 := hfz 1
    have f2 := hfz 2
    have f3 := hfz 3
    have f4 := hfz 4
    have f5 := hfz 5
    have f6 := hfz 6
    have f7 := hfz 7
    have f8 := hfz 8
    have f9 := hfz 9
    simp only at k0 k1 k2 k3 k4 k5 k6 k7 k8 k9
    clear hV hX hfz HC kl
    go_wp2_with fail
    refine bodyPost_ret (v := .tuple #[.agg #[.int .i64 0, .int .i64 0, .int .i64 0, .int .i64 0, .int .i64 0, .int .i64 0, .bool false, .bool false, .int .i64 0, .int .i64 0], .bool false]) (by simp [results, Tryz.results81, go_sem, k0, k1, k2, k3, k4, k5, k6, k7, k8, k9]) rfl ⟨rfl, ?_⟩
    have hX : w.heap.size ≤ X := by have := HX.out; omega
    exact (((((((((HB2.out.setCell (p := ⟨X, 0, none⟩) hX _).setCell (p := ⟨X, 1, none⟩) hX _).setCell (p := ⟨X, 2, none⟩) hX _).setCell (p := ⟨X, 3, none⟩) hX _).setCell (p := ⟨X, 4, none⟩) hX _).setCell (p := ⟨X, 5, none⟩) hX _).setCell (p := ⟨X, 6, none⟩) hX _).setCell (p := ⟨X, 7, none⟩) hX _).setCell (p := ⟨X, 8, none⟩) hX _).setCell (p := ⟨X, 9, none⟩) hX _
end Go.Proofs.YtjacenhblclkaaaGreatDoor

/- The document's own log: what its Rec answers of a record that is there. -/
namespace Go.Proofs.YtjacenhblclkaaaGreatDoor
open Go.RowKit
set_option linter.unusedVariables false

theorem rrun_ldF {B o : Nat} {w : World} {r : R} (h : CellsFrom w B o r) : (Instr.loadAt 37 (.pointer (some ⟨B, o, none⟩))).run Tryz.prog w = .ok r.val w := by
  obtain ⟨k0, k1, k2, k3, k4, k5, k6, k7, k8, k9, kl⟩ := h
  unfold R.val
  go_simp
theorem exec_ldF {B k : Nat} {r : R} {o : Oper} {a : Act} {x : Operand} (hop : o.op = .load 37 x) (ha : a.eval x = .pointer (some ⟨B, k, none⟩)) {w : World} (h : CellsFrom w B k r) : (execOp a.eval o).run Tryz.prog w = .ok (.value r.val) w := by
  simp [execOp, hop, ha, rrun_ldF h]
/-- Ten cells of a block, written one behind the other. -/
def set10 (w : World) (X : Nat) (r : R) : World :=
  (((((((((w.setCell ⟨X, 0, none⟩ (.int .i64 r.kind)).setCell ⟨X, 1, none⟩ (.int .i64 r.txn)).setCell ⟨X, 2, none⟩ (.int .i64 r.page)).setCell ⟨X, 3, none⟩ (.int .i64 r.prev)).setCell ⟨X, 4, none⟩ (.int .i64 r.next)).setCell ⟨X, 5, none⟩ (.int .i64 r.key)).setCell ⟨X, 6, none⟩ (.bool r.had)).setCell ⟨X, 7, none⟩ (.bool r.has)).setCell ⟨X, 8, none⟩ (.int .i64 r.old)).setCell ⟨X, 9, none⟩ (.int .i64 r.new)
theorem below_set10 {B X : Nat} {w w' : World} (h : Below B w w') (hX : B ≤ X) (r : R) : Below B w (set10 w' X r) := by
  unfold set10
  exact (((((((((h.setCell (p := ⟨X, 0, none⟩) hX _).setCell (p := ⟨X, 1, none⟩) hX _).setCell (p := ⟨X, 2, none⟩) hX _).setCell (p := ⟨X, 3, none⟩) hX _).setCell (p := ⟨X, 4, none⟩) hX _).setCell (p := ⟨X, 5, none⟩) hX _).setCell (p := ⟨X, 6, none⟩) hX _).setCell (p := ⟨X, 7, none⟩) hX _).setCell (p := ⟨X, 8, none⟩) hX _).setCell (p := ⟨X, 9, none⟩) hX _
set_option maxRecDepth 100000 in
set_option maxHeartbeats 2000000 in
theorem rrun_st10 {X : Nat} {w : World} {r0 r : R} (h : Cells10 w X r0) (hf : ∀ o, w.frozen? ⟨X, o, none⟩ = false) : (Instr.storeAt 37 (.pointer (some ⟨X, 0, none⟩)) r.val).run Tryz.prog w = .ok () (set10 w X r) := by
  obtain ⟨k0, k1, k2, k3, k4, k5, k6, k7, k8, k9, kl⟩ := h
  have f0 := hf 0
  have f1 := hf 1
  have f2 := hf 2
  have f3 := hf 3
  have f4 := hf 4
  have f5 := hf 5
  have f6 := hf 6
  have f7 := hf 7
  have f8 := hf 8
  have f9 := hf 9
  clear hf
  unfold R.val set10
  go_simp
theorem exec_st10 {X : Nat} {r0 r : R} {o : Oper} {a : Act} {x y : Operand} (hop : o.op = .store 37 x y) (ha : a.eval x = .pointer (some ⟨X, 0, none⟩)) (hy : a.eval y = r.val) {w : World} (h : Cells10 w X r0) (hf : ∀ o, w.frozen? ⟨X, o, none⟩ = false) : (execOp a.eval o).run Tryz.prog w = .ok .skip (set10 w X r) := by
  simp [execOp, hop, ha, hy, rrun_st10 h hf]
theorem cells10_set10 {X : Nat} {w : World} {r0 r : R} (h : Cells10 w X r0) : Cells10 (set10 w X r) X r := by
  obtain ⟨k0, k1, k2, k3, k4, k5, k6, k7, k8, k9, kl⟩ := h
  unfold set10
  constructor
  all_goals go_simp
set_option maxRecDepth 100000 in
set_option maxHeartbeats 2000000 in
theorem rrec_cells (z : Nat) (base lsn : Int) (b off n c k : Nat) (r : R) (w : World) (h3 : w.cell? ⟨z, 3, none⟩ = some (.int .i64 base)) (h5 : w.cell? ⟨z, 5, none⟩ = some (.slice (some ⟨b, off, none⟩) n c)) (hr : CellsFrom w b (off + k * 10) r) (hb : 0 ≤ base ∧ base ≤ 1073741824) (hn : n ≤ 1200) (hk : k < n) (hl : lsn = base + 1 + k) :
    Calls Tryz.prog 81 #[.pointer (some ⟨z, 0, none⟩), .int .i64 lsn] w fun e w' => e = .returned (.tuple #[r.val, .bool true]) ∧ Below w.heap.size w w' := by
  have hlt := World.block_lt_of_cell? w _ h3
  have hbx := below_box w (recCells noRec)
  have h3' := (hbx.cell (p := ⟨z, 3, none⟩) hlt).trans h3
  have h5' := (hbx.cell (p := ⟨z, 5, none⟩) hlt).trans h5
  have H3 : Hid (∀ w', Below w.heap.size w w' → w'.cell? ⟨z, 3, none⟩ = some (.int .i64 base)) := fun w' h => (h.cell (p := ⟨z, 3, none⟩) hlt).trans h3
  have H5 : Hid (∀ w', Below w.heap.size w w' → w'.cell? ⟨z, 5, none⟩ = some (.slice (some ⟨b, off, none⟩) n c)) := fun w' h => (h.cell (p := ⟨z, 5, none⟩) hlt).trans h5
  have HR : Hid (∀ w', Below w.heap.size w w' → CellsFrom w' b (off + k * 10) r) := fun w' h => hr.of_block (h.block b hr.lt) h.size
  have HE1 : Hid (IntKind.i64.wrap (lsn - base) = lsn - base) := by show _ = _; rw [IntKind.wrap_i64]; omega
  have HE2 : Hid (IntKind.i64.wrap (lsn - base - 1) = (k : Int)) := by show _ = _; rw [IntKind.wrap_i64]; omega
  have HK := hide hk
  have HB := hide hbx
  have HL := hide (rlast_cells z base (some ⟨b, off, none⟩) n c (w.alloc (recCells noRec)) h3' h5' hb hn)
  unfold recCells noRec at HB HL
  simp only at hlt
  have h0 : decide (lsn ≤ base) = false := by simp; omega
  have h1 : decide (base + (n : Int) < lsn) = false := by simp; omega
  clear hbx h3' h5' hr hk
  clear hl hb hn
  go_enter Tryz.func81, Tryz.ntmps81
  go_wp2_with fail
  refine HL.out.mono ?_
  rintro e w1 ⟨rfl, q, rfl⟩
  have HC := hide (cells10_of_below (cells10_new w noRec) (below_drewN (Below.refl (w.alloc (recCells noRec)).heap.size _) q) (by simp))
  have hfz : ∀ o, ((w.alloc (recCells noRec)).drewN q).frozen? ⟨w.heap.size, o, none⟩ = false := fun o => by
    have hh : (w.alloc (recCells noRec)).heap[w.heap.size]? = some (recCells noRec) := heap_alloc_new w _
    show (w.alloc (recCells noRec)).frozen? ⟨w.heap.size, o, none⟩ = false
    unfold World.frozen?
    rw [hh]
    unfold recCells
    simp
  have HF := hide hfz
  unfold recCells noRec at HF
  unfold recCells at HC
  rw [show noRec = (⟨0, 0, 0, 0, 0, 0, false, false, 0, 0⟩ : R) from rfl] at HC
  have HB2 := hide (below_drewN HB.out q)
  clear hfz
  obtain ⟨X, hX⟩ : ∃ X, X = w.heap.size := ⟨_, rfl⟩
  have HX := hide hX
  rw [← hX] at HC HF ⊢
  clear hX
  go_wp2_with fail
  refine region_at (S := fun w' => Below w.heap.size w w') (by kernel_rfl) 15 rfl (below_drew HB2.out) ?_
  have HC0 := hide (cells10_of_below HC.out (below_drew (Below.refl _ _)) HC.out.lt)
  obtain ⟨W0, hW0⟩ : ∃ W0, W0 = ((w.alloc (.cells #[.int .i64 0, .int .i64 0, .int .i64 0, .int .i64 0, .int .i64 0, .int .i64 0, .bool false, .bool false, .int .i64 0, .int .i64 0] 37)).drewN q).drew := ⟨_, rfl⟩
  have HB3 := hide (below_drew HB2.out)
  have HF3 : Hid (∀ o, W0.frozen? ⟨X, o, none⟩ = false) := by rw [hW0]; exact HF.out
  rw [← hW0] at HC0 HB3 ⊢
  clear hW0 h3 h5 h0 h1 HC HF HB HB2 HL
  refine at_take (i := 0) (v := .pointer (some ⟨z, 0, none⟩)) rfl rfl (by kernel_rfl) (by kernel_rfl) (by kernel_rfl) (fun c a d v w h => by cases d <;> exact h) rfl (by intro w hSw; go_simp) HB3.out ?_
  simp only [List.set]
  refine at_take (i := 1) (v := .pointer (some ⟨z, 0, none⟩)) rfl rfl (by kernel_rfl) (by kernel_rfl) (by kernel_rfl) (fun c a d v w h => by cases d <;> exact h) rfl (by intro w hSw; go_simp) HB3.out ?_
  simp only [List.set]
  refine at_take (i := 2) (v := .pointer (some ⟨z, 5, none⟩)) rfl rfl (by kernel_rfl) (by kernel_rfl) (by kernel_rfl) (fun c a d v w h => by cases d <;> exact h) rfl (by intro w hSw; go_simp) HB3.out ?_
  simp only [List.set]
  refine at_take (i := 3) (v := .slice (some ⟨b, off, none⟩) n c) rfl rfl (by kernel_rfl) (by kernel_rfl) (by kernel_rfl) (fun c a d v w h => by cases d <;> exact h) rfl (by intro w hSw; have k5 := H5.out w hSw; go_simp) HB3.out ?_
  simp only [List.set]
  refine at_take (i := 4) (v := .int .i64 lsn) rfl rfl (by kernel_rfl) (by kernel_rfl) (by kernel_rfl) (fun c a d v w h => by cases d <;> exact h) rfl (by intro w hSw; go_simp) HB3.out ?_
  simp only [List.set]
  refine at_take (i := 5) (v := .pointer (some ⟨z, 0, none⟩)) rfl rfl (by kernel_rfl) (by kernel_rfl) (by kernel_rfl) (fun c a d v w h => by cases d <;> exact h) rfl (by intro w hSw; go_simp) HB3.out ?_
  simp only [List.set]
  refine at_take (i := 6) (v := .pointer (some ⟨z, 0, none⟩)) rfl rfl (by kernel_rfl) (by kernel_rfl) (by kernel_rfl) (fun c a d v w h => by cases d <;> exact h) rfl (by intro w hSw; go_simp) HB3.out ?_
  simp only [List.set]
  refine at_take (i := 7) (v := .pointer (some ⟨z, 3, none⟩)) rfl rfl (by kernel_rfl) (by kernel_rfl) (by kernel_rfl) (fun c a d v w h => by cases d <;> exact h) rfl (by intro w hSw; go_simp) HB3.out ?_
  simp only [List.set]
  refine at_take (i := 8) (v := .int .i64 base) rfl rfl (by kernel_rfl) (by kernel_rfl) (by kernel_rfl) (fun c a d v w h => by cases d <;> exact h) rfl (by intro w hSw; have k3 := H3.out w hSw; go_simp) HB3.out ?_
  simp only [List.set]
  refine at_take (i := 9) (v := .int .i64 (lsn - base)) rfl rfl (by kernel_rfl) (by kernel_rfl) (by kernel_rfl) (fun c a d v w h => by cases d <;> exact h) rfl (by intro w hSw; have e := HE1.out; go_simp) HB3.out ?_
  simp only [List.set]
  refine at_take (i := 10) (v := .int .i64 k) rfl rfl (by kernel_rfl) (by kernel_rfl) (by kernel_rfl) (fun c a d v w h => by cases d <;> exact h) rfl (by intro w hSw; have e := HE2.out; go_simp) HB3.out ?_
  simp only [List.set]
  refine at_take (i := 11) (v := .pointer (some ⟨b, off + k * 10, none⟩)) rfl rfl (by kernel_rfl) (by kernel_rfl) (by kernel_rfl) (fun c a d v w h => by cases d <;> exact h) rfl (fun w hSw => by
    have e3 : decide ((k : Int) < 0) = false := by simp
    have hk := HK.out
    have e4 : (k : Int) < (n : Int) := by omega
    have e5 : decide ((n : Int) ≤ (k : Int)) = false := by simp; omega
    go_simp) HB3.out ?_
  simp only [List.set]
  refine at_take (i := 12) (v := r.val) rfl rfl (by kernel_rfl) (by kernel_rfl) (by kernel_rfl) (fun c a d v w h => by cases d <;> exact h) rfl (fun w hSw => exec_ldF rfl rfl (HR.out w hSw)) HB3.out ?_
  simp only [List.set]
  have hX := HX.out
  have HB4 := hide (below_set10 HB3.out (show w.heap.size ≤ X by omega) r)
  have HC4 := hide (cells10_set10 (r := r) HC0.out)
  refine at_one (i := 13) (by kernel_rfl) ?_
  refine one_store (i := 13) (w' := set10 W0 X r) rfl rfl rfl (exec_st10 rfl rfl rfl HC0.out HF3.out) HB4.out ?_
  refine at_take (i := 14) (v := .bool true) rfl rfl (by kernel_rfl) (by kernel_rfl) (by kernel_rfl) (fun c a d v w h => by cases d <;> exact h) rfl (by intro w hSw; go_simp) HB4.out ?_
  simp only [List.set]
  refine at_done (by kernel_rfl) ?_
  obtain ⟨W1, hW1⟩ : ∃ V, V = set10 W0 X r := ⟨_, rfl⟩
  rw [← hW1] at HB4 HC4 ⊢
  clear hW1 hX
  obtain ⟨k0, k1, k2, k3, k4, k5, k6, k7, k8, k9, kl⟩ := HC4.out
  clear HC4
  unfold R.val
  go_wp2_with fail
  exact bodyPost_ret (v := .tuple #[.agg #[.int .i64 r.kind, .int .i64 r.txn, .int .i64 r.page, .int .i64 r.prev, .int .i64 r.next, .int .i64 r.key, .bool r.had, .bool r.has, .int .i64 r.old, .int .i64 r.new], .bool true]) (by simp [results, Tryz.results81, go_sem, k0, k1, k2, k3, k4, k5, k6, k7, k8, k9]) rfl ⟨rfl, HB4.out⟩
end Go.Proofs.YtjacenhblclkaaaGreatDoor
