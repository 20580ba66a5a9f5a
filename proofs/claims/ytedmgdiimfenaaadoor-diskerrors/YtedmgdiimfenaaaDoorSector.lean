
/- What the methods of a disk's sector, and bytes.Clone, do to memory, at every sector and every list of bytes. -/
import Derived.Test.YtedmgdiimfenaaaDoorCopy
import Derived.Maps.AppendAt
import Derived.Lib.SliceRun
import Derived.Deep.RegionHeld3
namespace Go.Proofs.YtedmgdiimfenaaaDoor
open Go.RowKit
set_option linter.unusedVariables false

theorem Tryd.info27 : (Tryd.prog.info? 27).map (fun i => (i.zero, i.size, i.bytes)) = some (some (.slice none 0 0), 1, 24) := by kernel_rfl

set_option maxHeartbeats 400000 in
theorem loose_any (b o : Nat) (ao : Option Addr) (n cap : Nat) (w : World) (hc : w.cell? ⟨b, o, none⟩ = some (.slice ao n cap)) (hn : n ≤ 4294967296) :
    Calls Tryd.prog 28 #[.pointer (some ⟨b, o, none⟩)] w fun e w' => e = .returned (.int .i64 ((n : Int) - 1)) ∧ w' = w := by
  go_enter Tryd.func28, Tryd.ntmps28
  go_wp2_with fail
  go_ret
  exact ⟨rfl, rfl⟩

set_option maxHeartbeats 400000 in
theorem last_any (b o g off : Nat) (n cap : Nat) (v : Value) (w : World) (hc : w.cell? ⟨b, o, none⟩ = some (.slice (some ⟨g, off, none⟩) (n + 1) cap)) (hn : n + 1 ≤ 4294967296) (hv : w.cell? ⟨g, off + n, none⟩ = some v) :
    Calls Tryd.prog 33 #[.pointer (some ⟨b, o, none⟩)] w fun e w' => e = .returned v ∧ ∃ m, w' = w.drewN m := by
  go_enter Tryd.func33, Tryd.ntmps33
  go_wp2_with fail
  have h1 : (0 : Int) ≤ ((n + 1 : Nat) : Int) - 1 := by omega
  have h2 : ((n + 1 : Nat) : Int) - 1 < ((n + 1 : Nat) : Int) := by omega
  have h3 : (((n + 1 : Nat) : Int) - 1).toNat = n := by omega
  go_quiet ((go_at_call 28; exact Calls.quiet_of_same (loose_any _ _ _ _ _ _ (by assumption) (by omega))))
  go_wp2_with fail
  go_ret
  exact ⟨rfl, _, rfl⟩

set_option maxHeartbeats 400000 in
theorem keep_any (b o g off : Nat) (n cap k : Nat) (xo : Option Addr) (xl xc : Nat) (w : World) (hc : w.cell? ⟨b, o, none⟩ = some (.slice (some ⟨g, off, none⟩) n cap)) (hf : w.frozen? ⟨b, o, none⟩ = false) (hn : n ≤ 4294967296) (hk : k < n) (hv : w.cell? ⟨g, off + k, none⟩ = some (.slice xo xl xc)) :
    Calls Tryd.prog 27 #[.pointer (some ⟨b, o, none⟩), .int .i64 k] w fun e w' => e = .returned (.tuple #[]) ∧ w' = (w.setCell ⟨b, o, none⟩ (.slice (some ⟨w.heap.size, 0, none⟩) 1 1)).alloc (.cells #[.slice xo xl xc] 27) := by
  have hb := World.block_lt_of_cell? w _ hc
  simp only at hb
  have h1 : (k : Int) < (n : Int) := by omega
  go_enter Tryd.func27, Tryd.ntmps27
  go_wp2_with fail
  go_end0
  exact ⟨rfl, rfl⟩

set_option maxHeartbeats 400000 in
theorem clone_any (ao : Option Addr) (cap : Nat) (xs : List Int) (w : World) (h : Row w ao xs) (hp : 0 < xs.length) :
    Calls Tryd.prog 30 #[.slice ao xs.length cap] w fun e w' => ∃ g c, e = .returned (.slice (some ⟨g, 0, none⟩) xs.length c) ∧ w.heap.size ≤ g ∧ Own w' w.heap.size (some ⟨g, 0, none⟩) c xs ∧ Below w.heap.size w w' := by
  obtain ⟨i0, hi, hz0, hz1, hz2⟩ := info_parts Tryd.info5
  have HR := hide h
  obtain ⟨h0, h1, h2⟩ := h
  obtain ⟨b, off, rfl, hb, hc⟩ := h2 hp
  have HC := hide hc
  clear hc h2
  have hE := fun w' => Lib.run_eql_slice_nil (P := Tryd.prog) w' 27 5 (some ⟨b, off, none⟩) xs.length cap 0 0 Tryd.underlying27
  have hsrc : ∀ j u, (cellsOf xs)[j]? = some u → (w.alloc (.cells #[] 5)).cell? ((⟨b, off, none⟩ : Addr).add j) = some u := by
    intro j u hj
    obtain ⟨hlt, rfl⟩ := cellsOf_at hj
    rw [Addr.add_lit, ((Below.refl w.heap.size w).alloc (Nat.le_refl _) _).cell (by exact hb)]
    exact HC.out j hlt
  have HS := hide hsrc
  clear hsrc
  have hown : (w.alloc (.cells #[] 5)).ownsRow w.heap.size 5 1 (.slice (some ⟨w.heap.size, 0, none⟩) 0 0) 0 [] := World.ownsRow_made w #[] 0 (Nat.le_refl _) (by decide) (by simp)
  have HW := hide hown
  clear hown
  go_enter Tryd.func30, Tryd.ntmps30
  go_wp2_with (at_builtin; refine wpList_append_own_at _ rfl (.tmp 5) (.tmp 6) 27 rfl w.heap.size 5 i0 (.int .u8 0) 1 1 Tryd.underlying27 hi hz0 hz1 hz2 rfl (by decide) _ 0 [] rfl HW.out ⟨b, off, none⟩ xs.length cap (cellsOf xs) rfl (by rw [length_cellsOf, Nat.mul_one]) HS.out (oneCell_cellsOf xs) (by unfold maxLen; omega) (by omega) (by simp) ?_; intro v' w2 hown2 hgr2 _ _; have HO2 := hide hown2; have HG2 := hide hgr2; clear hown2 hgr2)
  go_ret
  have h3 := HO2.out
  rw [Nat.zero_add, List.nil_append] at h3
  obtain ⟨ao', c', rfl⟩ := own_shape h3
  have h4 : Own w2 w.heap.size ao' c' xs := ⟨h3, h1, h0⟩
  rcases h3.2 with ⟨e, h5⟩ | ⟨g, c, cur, hv, hg, _⟩
  · omega
  · simp only [Value.slice.injEq, true_and] at hv
    obtain ⟨rfl, rfl⟩ := hv
    exact ⟨g, _, rfl, hg, h4, ((Below.refl _ _).alloc (Nat.le_refl _) _).grown HG2.out (by simp) (fun j e => by cases e; exact Nat.le_refl _)⟩

theorem grown_alloc_at {w w2 : World} {x : Obj} {r : Option Nat} (h : (w.alloc x).grownBy w2 r) {b : Nat} (hb : b < w.heap.size) (hne : r ≠ some b) : w2.heap[b]? = w.heap[b]? :=
  (h.block b (Nat.lt_of_lt_of_le hb (by simp)) (fun e => hne e.symm)).trans (Below.heap_alloc _ _ _ hb)
set_option maxHeartbeats 400000 in
theorem add_any (b o : Nat) (v : Value) (n : Nat) (xs : List Value) (xo : Option Addr) (xl xc : Nat) (B : Nat) (w : World) (hc : w.cell? ⟨b, o, none⟩ = some v) (hf : w.frozen? ⟨b, o, none⟩ = false) (hn : n + 1 ≤ 4294967296) (ho : w.ownsRow B 27 1 v n xs) (hB : B ≤ w.heap.size) (hne : v.ownBlock ≠ some b) :
    Calls Tryd.prog 25 #[.pointer (some ⟨b, o, none⟩), .slice xo xl xc] w fun e w' => e = .returned (.tuple #[]) ∧ ∃ w1 v', w' = w1.setCell ⟨b, o, none⟩ v' ∧ w1.ownsRow B 27 1 v' (n + 1) (xs ++ [.slice xo xl xc]) ∧ w.grownBy w1 v.ownBlock ∧ (v'.ownBlock = v.ownBlock ∨ ∃ g, v'.ownBlock = some g ∧ w.heap.size ≤ g) := by
  obtain ⟨i0, hi, hz0, hz1, hz2⟩ := info_parts Tryd.info27
  obtain ⟨ao, cap, rfl⟩ := own_shape ho
  have HO := hide ho
  clear ho
  have hb := World.block_lt_of_cell? w _ hc
  simp only at hb
  go_enter Tryd.func25, Tryd.ntmps25
  go_wp2_with (at_builtin; refine wpList_append_own_at _ rfl (.tmp 8) (.tmp 10) 50 rfl B 27 i0 (.slice none 0 0) 1 24 Tryd.underlying50 hi hz0 hz1 hz2 rfl (by decide) (.slice ao n cap) n xs rfl (HO.out.alloc _) ⟨w.heap.size, 0, none⟩ 1 1 [.slice xo xl xc] rfl rfl (cell_one_new _ _ _) (by simp [Value.oneCell']) (by unfold maxLen; omega) (by omega) (by simp; omega) ?_; intro v' w2 hown2 hgr2 _ hat2; obtain ⟨ao', c', rfl⟩ := own_shape hown2; have hc2 : w2.cell? ⟨b, o, none⟩ = some (.slice ao n cap) := (World.cell?_of_block (w := w) (grown_alloc_at hgr2 hb hne)).trans hc; have hf2 : w2.frozen? ⟨b, o, none⟩ = false := (World.frozen?_of_block (w := w) (grown_alloc_at hgr2 hb hne)).trans hf; have HO2 := hide hown2; have HG2 := hide hgr2; have HA2 := hide hat2; clear hown2 hgr2 hat2)
  go_end0
  refine ⟨rfl, w2, _, rfl, HO2.out, ?_, ?_⟩
  · exact ⟨HG2.out.os, HG2.out.tape, HG2.out.output, by have := HG2.out.size; simp at this; omega, fun k hk e => (HG2.out.block k (by simp; omega) e).trans (Below.heap_alloc _ _ _ hk)⟩
  · rcases HA2.out with h | h
    · exact .inl h
    · exact .inr ⟨_, h, by simp⟩
end Go.Proofs.YtedmgdiimfenaaaDoor
