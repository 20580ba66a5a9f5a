
/- What a disk's small methods answer: Size, Off, Fuse, has, spend, powerOn, at every disk. -/
import Derived.Test.YtedmgdiimfenaaaDoorDisk
namespace Go.Proofs.YtedmgdiimfenaaaDoor
open Go.RowKit
set_option linter.unusedVariables false

theorem heap_set_same {w : World} {d : Nat} {c : Array Value} {e : TypeId} (h : w.heap[d]? = some (.cells c e (0, 0))) (o : Nat) (v : Value) : (w.setCell ⟨d, o, none⟩ v).heap[d]? = some (.cells (c.setIfInBounds o v) e (0, 0)) := by
  simp [World.setCell, Array.getElem?_modify, h]
theorem frozen_row {w : World} {d : Nat} {c : Array Value} {e : TypeId} (h : w.heap[d]? = some (.cells c e (0, 0))) (o : Nat) : w.frozen? ⟨d, o, none⟩ = false := by
  simp [World.frozen?, h]
theorem cell_row {w : World} {d : Nat} {c : Array Value} {e : TypeId} (h : w.heap[d]? = some (.cells c e (0, 0))) (o : Nat) : w.cell? ⟨d, o, none⟩ = c[o]? := by
  simp [World.cell?, h]
theorem DiskOf.c0 {w : World} {K : Nat → Prop} {a : Nat → Addr} {d s : Nat} {ss : List Sec} {off : Bool} {fuse : Int} (h : DiskOf w K a d s ss off fuse) : w.cell? ⟨d, 0, none⟩ = some (.slice (some ⟨s, 0, none⟩) ss.length ss.length) := by rw [cell_row h.head]; rfl
theorem DiskOf.c1 {w : World} {K : Nat → Prop} {a : Nat → Addr} {d s : Nat} {ss : List Sec} {off : Bool} {fuse : Int} (h : DiskOf w K a d s ss off fuse) : w.cell? ⟨d, 1, none⟩ = some (.bool off) := by rw [cell_row h.head]; rfl
theorem DiskOf.c2 {w : World} {K : Nat → Prop} {a : Nat → Addr} {d s : Nat} {ss : List Sec} {off : Bool} {fuse : Int} (h : DiskOf w K a d s ss off fuse) : w.cell? ⟨d, 2, none⟩ = some (.int .i64 fuse) := by rw [cell_row h.head]; rfl
theorem DiskOf.fz {w : World} {K : Nat → Prop} {a : Nat → Addr} {d s : Nat} {ss : List Sec} {off : Bool} {fuse : Int} (h : DiskOf w K a d s ss off fuse) (o : Nat) : w.frozen? ⟨d, o, none⟩ = false := frozen_row h.head o
theorem DiskOf.cs {w : World} {K : Nat → Prop} {a : Nat → Addr} {d s : Nat} {ss : List Sec} {off : Bool} {fuse : Int} (h : DiskOf w K a d s ss off fuse) {i : Nat} {x : Sec} (hx : ss[i]? = some x) : w.cell? ⟨s, i, none⟩ = some x.v := by rw [cell_row h.secs]; simp [hx]
theorem DiskOf.fs {w : World} {K : Nat → Prop} {a : Nat → Addr} {d s : Nat} {ss : List Sec} {off : Bool} {fuse : Int} (h : DiskOf w K a d s ss off fuse) (o : Nat) : w.frozen? ⟨s, o, none⟩ = false := frozen_row h.secs o
theorem DiskOf.e {w : World} {K : Nat → Prop} {a : Nat → Addr} {d s : Nat} {ss : List Sec} {off : Bool} {fuse : Int} (h : DiskOf w K a d s ss off fuse) (i : Nat) (hi : i < 3) : w.cell? ⟨i, 0, none⟩ = some (.iface 79 (.pointer (some (a i)))) := (h.errs i hi).2

set_option maxHeartbeats 400000 in
theorem size_any (d : Nat) {w : World} {K : Nat → Prop} {a : Nat → Addr} {vss : List (List (List Int))} {off : Bool} {fuse : Int} (h : Disk w K a d vss off fuse) :
    Calls Tryd.prog 22 #[.pointer (some ⟨d, 0, none⟩)] w fun e w' => e = .returned (.int .i64 vss.length) ∧ w' = w := by
  obtain ⟨s, ss, h, rfl⟩ := h
  rw [length_vers]
  have h0 := h.c0
  clear h
  go_enter Tryd.func22, Tryd.ntmps22
  go_wp2_with fail
  go_ret
  exact ⟨rfl, rfl⟩
set_option maxHeartbeats 400000 in
theorem off_any (d : Nat) {w : World} {K : Nat → Prop} {a : Nat → Addr} {vss : List (List (List Int))} {off : Bool} {fuse : Int} (h : Disk w K a d vss off fuse) :
    Calls Tryd.prog 19 #[.pointer (some ⟨d, 0, none⟩)] w fun e w' => e = .returned (.bool off) ∧ w' = w := by
  obtain ⟨s, ss, h, rfl⟩ := h
  have h0 := h.c1
  clear h
  go_enter Tryd.func19, Tryd.ntmps19
  go_wp2_with fail
  go_ret
  exact ⟨rfl, rfl⟩
/-- Is there a sector i? -/
def hasSec (n : Nat) (i : Int) : Bool := decide (0 ≤ i ∧ i < n)
set_option maxHeartbeats 400000 in
theorem hasSec_any (d s n : Nat) (i : Int) (w : World) (h0 : w.cell? ⟨d, 0, none⟩ = some (.slice (some ⟨s, 0, none⟩) n n)) :
    Calls Tryd.prog 29 #[.pointer (some ⟨d, 0, none⟩), .int .i64 i] w fun e w' => e = .returned (.bool (hasSec n i)) ∧ w' = w := by
  by_cases h1 : 0 ≤ i
  · go_enter Tryd.func29, Tryd.ntmps29
    go_wp2_with fail
    go_ret
    exact ⟨ret_bool (by simp [hasSec, h1]), rfl⟩
  · have h2 : decide (0 ≤ i) = false := by simpa using h1
    go_enter Tryd.func29, Tryd.ntmps29
    go_wp2_with fail
    go_ret
    exact ⟨ret_bool (by simp [hasSec]; omega), rfl⟩

theorem DiskOf.set1 {w : World} {K : Nat → Prop} {a : Nat → Addr} {d s : Nat} {ss : List Sec} {off : Bool} {fuse : Int} (h : DiskOf w K a d s ss off fuse) (off' : Bool) : DiskOf (w.setCell ⟨d, 1, none⟩ (.bool off')) K a d s ss off' fuse ∧ Kept K w (w.setCell ⟨d, 1, none⟩ (.bool off')) :=
  h.power rfl rfl rfl (by simp [World.setCell]) (fun k hk => Below.heap_setCell _ _ _ _ hk) (heap_set_same h.head 1 _) h.fuseBd
theorem DiskOf.set2 {w : World} {K : Nat → Prop} {a : Nat → Addr} {d s : Nat} {ss : List Sec} {off : Bool} {fuse : Int} (h : DiskOf w K a d s ss off fuse) (fuse' : Int) (hf : -1 ≤ fuse' ∧ fuse' ≤ 9223372036854775807) : DiskOf (w.setCell ⟨d, 2, none⟩ (.int .i64 fuse')) K a d s ss off fuse' ∧ Kept K w (w.setCell ⟨d, 2, none⟩ (.int .i64 fuse')) :=
  h.power rfl rfl rfl (by simp [World.setCell]) (fun k hk => Below.heap_setCell _ _ _ _ hk) (heap_set_same h.head 2 _) hf

set_option maxHeartbeats 400000 in
theorem fuse_any (d : Nat) (n : Int) {w : World} {K : Nat → Prop} {a : Nat → Addr} {vss : List (List (List Int))} {off : Bool} {fuse : Int} (h : Disk w K a d vss off fuse) (hn : n ≤ 9223372036854775807) :
    Calls Tryd.prog 20 #[.pointer (some ⟨d, 0, none⟩), .int .i64 n] w fun e w' => e = .returned (.tuple #[]) ∧ Disk w' K a d vss off (max n (-1)) ∧ Kept K w w' := by
  obtain ⟨s, ss, h, rfl⟩ := h
  have h0 := h.c2
  have h1 := h.fz 2
  have H := hide h
  clear h
  go_enter Tryd.func20, Tryd.ntmps20
  go_wp2_with fail
  · go_end0
    rw [show max n (-1) = -1 by omega]
    exact ⟨rfl, ⟨s, ss, (H.out.set2 (-1) (by omega)).1, rfl⟩, (H.out.set2 (-1) (by omega)).2⟩
  · go_end0
    rw [show max n (-1) = n by omega]
    exact ⟨rfl, ⟨s, ss, (H.out.set2 n (by omega)).1, rfl⟩, (H.out.set2 n (by omega)).2⟩
set_option maxHeartbeats 400000 in
theorem powerOn_any (d s : Nat) (ss : List Sec) {w : World} {K : Nat → Prop} {a : Nat → Addr} {off : Bool} {fuse : Int} (h : DiskOf w K a d s ss off fuse) :
    Calls Tryd.prog 32 #[.pointer (some ⟨d, 0, none⟩)] w fun e w' => e = .returned (.tuple #[]) ∧ DiskOf w' K a d s ss false (-1) ∧ Kept K w w' := by
  have h0 := h.c2
  have h1 := h.fz 2
  have h2 := h.c1
  have h3 := h.fz 1
  have H := hide h
  clear h
  go_enter Tryd.func32, Tryd.ntmps32
  go_wp2_with fail
  go_end0
  have h4 := H.out.set1 false
  have h5 := h4.1.set2 (-1) (by omega)
  exact ⟨rfl, h5.1, h4.2.trans h5.2⟩
/-- What a fuse is behind one more that goes through. -/
def burnt (fuse : Int) : Int := if 0 < fuse then fuse - 1 else fuse
set_option maxHeartbeats 400000 in
theorem spend_ok (d s : Nat) (ss : List Sec) {w : World} {K : Nat → Prop} {a : Nat → Addr} {off : Bool} {fuse : Int} (h : DiskOf w K a d s ss off fuse) (hf : fuse ≠ 0) :
    Calls Tryd.prog 26 #[.pointer (some ⟨d, 0, none⟩)] w fun e w' => e = .returned .nilIface ∧ DiskOf w' K a d s ss off (burnt fuse) ∧ Kept K w w' := by
  have h0 := h.c2
  have h1 := h.fz 2
  have hb := h.fuseBd
  have H := hide h
  clear h
  have hz : (fuse == 0) = false := by simp [hf]
  unfold burnt
  by_cases hp : 0 < fuse
  · rw [if_pos hp]
    go_enter Tryd.func26, Tryd.ntmps26
    go_wp2_with fail
    go_ret
    have h4 := H.out.set2 (fuse - 1) (by omega)
    exact ⟨rfl, h4.1, h4.2⟩
  · rw [if_neg hp]
    have hd : decide (0 < fuse) = false := by simpa using hp
    go_enter Tryd.func26, Tryd.ntmps26
    go_wp2_with fail
    go_ret
    exact ⟨rfl, H.out, Kept.refl _ _⟩
set_option maxHeartbeats 400000 in
theorem spend_burn (d s : Nat) (ss : List Sec) {w : World} {K : Nat → Prop} {a : Nat → Addr} {off : Bool} (h : DiskOf w K a d s ss off 0) :
    Calls Tryd.prog 26 #[.pointer (some ⟨d, 0, none⟩)] w fun e w' => e = .returned (errV (a 0)) ∧ DiskOf w' K a d s ss true 0 ∧ Kept K w w' := by
  have h0 := h.c2
  have h1 := h.c1
  have h2 := h.fz 1
  have h4 := h.set1 true
  have he := h4.1.e 0 (by omega)
  have H4 := hide h4
  clear h h4
  go_enter Tryd.func26, Tryd.ntmps26
  go_wp2_with fail
  go_ret
  exact ⟨rfl, H4.out.1, H4.out.2⟩
end Go.Proofs.YtedmgdiimfenaaaDoor
