
/- What the statements' own helper that fills a sector answers, and a disk's Image. -/
import Derived.Test.YtedmgdiimfenaaaDoorNews
namespace Go.Proofs.YtedmgdiimfenaaaDoor
open Go.RowKit
set_option linter.unusedVariables false

/-- A sector of which the first k bytes are x. -/
def partFill (x : Int) (k : Nat) : List Int := List.replicate k x ++ List.replicate (256 - k) 0
theorem length_partFill (x : Int) (k : Nat) (h : k ≤ 256) : (partFill x k).length = 256 := by
  rw [partFill, List.length_append, List.length_replicate, List.length_replicate]; omega
theorem partFill_succ (x : Int) (k : Nat) (h : k < 256) : (partFill x k).set k x = partFill x (k + 1) := by
  unfold partFill
  rw [List.set_append_right _ _ (by rw [List.length_replicate]; exact Nat.le_refl _), List.length_replicate, Nat.sub_self, show 256 - k = (256 - (k + 1)) + 1 by omega, List.replicate_succ, List.set_cons_zero, List.replicate_succ', List.append_assoc]
  rfl
theorem partFill_zero (x : Int) : partFill x 0 = fillOf 0 := by
  unfold partFill fillOf
  rw [List.replicate_zero, List.nil_append]
theorem partFill_all (x : Int) : partFill x 256 = fillOf x := by
  unfold partFill fillOf
  rw [Nat.sub_self, List.replicate_zero, List.append_nil]
set_option maxHeartbeats 1000000 in
theorem filled_any (n : Int) (w : World) :
    Calls Tryd.prog 14 #[.int .i64 n] w fun e w' => e = .returned (.slice (some ⟨w.heap.size, 0, none⟩) 256 256) ∧ Own w' w.heap.size (some ⟨w.heap.size, 0, none⟩) 256 (fillOf (n % 256)) ∧ Below w.heap.size w w' := by
  have hmk := make_sector
  have HO := hide (own_zeroBlock w)
  have HB : Hid (Below w.heap.size w (w.alloc zeroBlock)) := (Below.refl _ _).alloc (Nat.le_refl _) _
  go_enter Tryd.func14, Tryd.ntmps14
  go_wp2_with fail
  go_loopw [4] (fun i wr => ∃ k : Nat, k ≤ 256 ∧ i = .int .i64 k ∧ Own wr w.heap.size (some ⟨w.heap.size, 0, none⟩) 256 (partFill (n % 256) k) ∧ Below w.heap.size w wr) (fun i _ => 256 - (intOf i).toNat)
  case atStart => exact ⟨0, by omega, rfl, by rw [partFill_zero]; exact HO.out, HB.out⟩
  case round =>
    clear HO HB
    obtain ⟨k, hk, rfl, hown, hbel⟩ := hrel
    have HO := hide hown
    have HB := hide hbel
    by_cases hlt : k < 256
    · have hcell := hown.cell k (by rw [length_partFill _ _ hk]; exact hlt)
      have hfr := hown.frozen k
      obtain ⟨y, hy⟩ : ∃ y, y = (partFill (n % 256) k).getD k 0 := ⟨_, rfl⟩
      rw [← hy] at hcell
      clear hown hbel hy
      have hki : (k : Int) < 256 := by omega
      go_wp2_with fail
      have h1 := HO.out.stored k (n % 256) (by omega) (by omega)
      rw [partFill_succ _ _ hlt] at h1
      have h2 := HB.out.setCell (p := ⟨w.heap.size, k, none⟩) (Nat.le_refl _) (.int .u8 (n % 256))
      refine ⟨?_, ?_⟩
      · exact ⟨k + 1, hlt, by go_num, h1, h2⟩
      · simp only [intOf]
        omega
    · clear hown hbel
      have hk' : k = 256 := by omega
      have HK := hide hk'
      have hki : decide ((k : Int) < 256) = false := by simp; omega
      clear hk hlt hk'
      go_wp2_with fail
      go_ret
      have hk' := HK.out
      subst hk'
      have h1 := HO.out
      rw [partFill_all] at h1
      exact ⟨rfl, h1, HB.out⟩
/-- A new block of m zeros. -/
def zeroRow (m : Nat) : Obj := .cells (cellsOf (List.replicate m 0)).toArray 5
theorem make_zeros (m : Nat) (hm : m ≤ 4294967296) (w : World) : (Instr.makeSlice 27 (.int .i64 (m : Int)) (.int .i64 (m : Int))).run Tryd.prog w = .ok (.slice (some ⟨w.heap.size, 0, none⟩) m m) (w.alloc (zeroRow m)) := by
  have h := run_make_row' (P := Tryd.prog) 27 5 (.int .u8 0) 1 Tryd.underlying27 Tryd.info5 rfl .i64 .i64 m (by omega) (by omega) w
  have e : madeCells #[Value.int .u8 0] m = (cellsOf (List.replicate m 0)).toArray := by
    apply Array.ext'
    rw [toList_madeCells_one]
    exact List.map_replicate.symm
  rw [e] at h
  exact h
theorem own_zeroRow (m : Nat) (hm : m ≤ 4294967296) (w : World) : Own (w.alloc (zeroRow m)) w.heap.size (some ⟨w.heap.size, 0, none⟩) m (List.replicate m 0) := by
  have h := own_of_row (w := w.alloc (zeroRow m)) (B := w.heap.size) (xs := List.replicate m 0) (heap_alloc_new w _) (fun y hy => by rw [(List.mem_replicate.1 hy).2]; omega) (by rw [List.length_replicate]; exact hm)
  rw [List.length_replicate] at h
  exact h
theorem write_ok_len (d k n : Nat) (bo : Option Addr) (bc : Nat) (ys : List Int) {w : World} {K : Nat → Prop} {a : Nat → Addr} {vss : List (List (List Int))} {fuse : Int} (h : Disk w K a d vss false fuse) (kk : Int) (hkk : kk = k) (hk : k < vss.length) (hr : Row w bo ys) (hn : n = 256) (hl : ys.length = n) (hlen : (vss.getD k []).length + 1 ≤ 4294967296) (hf : fuse ≠ 0) :
    Calls Tryd.prog 13 #[.pointer (some ⟨d, 0, none⟩), .int .i64 kk, .slice bo n bc] w fun e w' => e = .returned .nilIface ∧ Disk w' K a d (vss.set k (vss.getD k [] ++ [ys])) false (burnt fuse) ∧ Kept K w w' := by subst hn hkk; exact write_ok d k bo bc ys h hk hr hl hlen hf
end Go.Proofs.YtedmgdiimfenaaaDoor
