
/- What phoenixsee.Is answers of the errors of package api. -/
import Derived.Test.YtedmgdiimfenaaaDoorDiskFirst
import Derived.LaidEql
namespace Go.Proofs.YtedmgdiimfenaaaDoor
open Go.RowKit
set_option linter.unusedVariables false

/-- The variables of package api hold errors that lie in memory of their own; the first three are three. -/
structure AllErrs (w : World) (a : Nat → Addr) : Prop where
  cell : ∀ i, i < 18 → w.cell? ⟨i, 0, none⟩ = some (errV (a i))
  row : ∀ i, i < 18 → ∃ c t, w.heap[(a i).block]? = some (.cells c t (0, 0))
  ne : a 1 ≠ a 0 ∧ a 2 ≠ a 0 ∧ a 2 ≠ a 1
  many : 18 ≤ w.heap.size
theorem AllErrs.below {w w' : World} {a : Nat → Addr} (h : AllErrs w a) (hb : Below w.heap.size w w') : AllErrs w' a := by
  refine ⟨fun i hi => ?_, fun i hi => ?_, h.ne, Nat.le_trans h.many hb.size⟩
  · rw [hb.cell (show i < w.heap.size by have := h.many; omega)]; exact h.cell i hi
  · obtain ⟨c, t, hr⟩ := h.row i hi
    exact ⟨c, t, by rw [hb.block _ (lt_of_block hr)]; exact hr⟩
theorem AllErrs.drew {w : World} {a : Nat → Addr} (h : AllErrs w a) : AllErrs w.drew a := ⟨h.cell, h.row, h.ne, h.many⟩
theorem AllErrs.errs {w : World} {a : Nat → Addr} (h : AllErrs w a) : Errs w (fun b => b < w.heap.size) a :=
  fun i hi => ⟨by have := h.many; show i < w.heap.size; omega, h.cell i (by omega)⟩

set_option maxHeartbeats 400000 in
theorem bare_any (c : Int) (w : World) : Calls Tryd.prog 35 #[.int .i64 c] w fun e w' => e = .returned (.agg #[.int .i64 c, .bool false, .int .i64 0]) ∧ w' = w.alloc (.cells #[.int .i64 c, .bool false, .int .i64 0] 64) := by
  go_enter Tryd.func35, Tryd.ntmps35
  go_wp2_with fail
  exact bodyPost_ret (v := .agg #[.int .i64 c, .bool false, .int .i64 0]) (by simp [results, Tryd.results35, go_sem]) rfl ⟨rfl, rfl⟩
set_option maxHeartbeats 400000 in
theorem sameFault_any (c : Int) (w : World) : Calls Tryd.prog 36 #[.agg #[.int .i64 c, .bool false, .int .i64 0], .agg #[.int .i64 c, .bool false, .int .i64 0]] w fun e w' => e = .returned (.bool true) ∧ Below w.heap.size w w' := by
  go_enter Tryd.func36, Tryd.ntmps36
  go_wp2_with fail
  go_ret
  exact ⟨rfl, ((Below.refl _ _).alloc (Nat.le_refl _) _).alloc (by simp) _⟩
theorem Tryd.cmp79 : (Tryd.prog.info? 79).map (·.comparable) = some true := by kernel_rfl
theorem Tryd.sz96 : (Tryd.prog.info? 96).map (·.size) = some 1 := by kernel_rfl
theorem eql_same (x : Addr) (w : World) : (binOp .eql 30 (.iface 79 (.pointer (some x))) (.iface 79 (.pointer (some x)))).run Tryd.prog w = .ok (.bool true) w := by
  obtain ⟨i, hi, hc⟩ := Option.map_eq_some_iff.1 Tryd.cmp79
  obtain ⟨j, hj, _⟩ := Option.map_eq_some_iff.1 Tryd.sz96
  exact run_eql_iface_ptr_same w x Tryd.underlying30 Tryd.underlying79 hi hc hj
theorem eql_other {x y : Addr} {w : World} {c c' : Array Value} {t t' : TypeId} (hne : x ≠ y) (hx : w.heap[x.block]? = some (.cells c t (0, 0))) (hy : w.heap[y.block]? = some (.cells c' t' (0, 0))) : (binOp .eql 30 (.iface 79 (.pointer (some x))) (.iface 79 (.pointer (some y)))).run Tryd.prog w = .ok (.bool false) w := by
  obtain ⟨i, hi, hc⟩ := Option.map_eq_some_iff.1 Tryd.cmp79
  obtain ⟨j, hj, hs⟩ := Option.map_eq_some_iff.1 Tryd.sz96
  exact run_eql_iface_ptr_other w Tryd.underlying30 Tryd.underlying79 hi hc hj (by rw [hs]; decide) hne hx hy
set_option maxHeartbeats 400000 in
theorem alike_same (x : Addr) (w : World) : Calls Tryd.prog 42 #[errV x, errV x] w fun e w' => e = .returned (.bool true) ∧ w' = w := by
  unfold errV
  have he := eql_same x w
  go_enter Tryd.func42, Tryd.ntmps42
  go_wp2_with fail
  go_ret
  exact ⟨rfl, rfl⟩
set_option maxHeartbeats 400000 in
theorem alike_other (x y : Addr) (w : World) {c c' : Array Value} {t t' : TypeId} (hne : x ≠ y) (hx : w.heap[x.block]? = some (.cells c t (0, 0))) (hy : w.heap[y.block]? = some (.cells c' t' (0, 0))) : Calls Tryd.prog 42 #[errV x, errV y] w fun e w' => e = .returned (.bool false) ∧ w' = w := by
  unfold errV
  have he := eql_other hne hx hy
  clear hne hx hy
  go_enter Tryd.func42, Tryd.ntmps42
  go_wp2_with fail
  go_ret
  exact ⟨rfl, rfl⟩
/-- The list of all errors, as a block. -/
def errBlock (a : Nat → Addr) : Obj := .cells #[errV (a 0), errV (a 1), errV (a 2), errV (a 3), errV (a 4), errV (a 5), errV (a 6), errV (a 7), errV (a 8), errV (a 9), errV (a 10), errV (a 11), errV (a 12), errV (a 13), errV (a 14), errV (a 15), errV (a 16), errV (a 17)] 30
set_option maxHeartbeats 400000 in
theorem sentinels_any (w : World) (a : Nat → Addr) (h : AllErrs w a) : Calls Tryd.prog 41 #[] w fun e w' => e = .returned (.slice (some ⟨w.heap.size, 0, none⟩) 18 18) ∧ w' = w.alloc (errBlock a) := by
  have h0 := h.cell 0 (by omega); have h1 := h.cell 1 (by omega); have h2 := h.cell 2 (by omega); have h3 := h.cell 3 (by omega); have h4 := h.cell 4 (by omega); have h5 := h.cell 5 (by omega)
  have h6 := h.cell 6 (by omega); have h7 := h.cell 7 (by omega); have h8 := h.cell 8 (by omega); have h9 := h.cell 9 (by omega); have h10 := h.cell 10 (by omega); have h11 := h.cell 11 (by omega)
  have h12 := h.cell 12 (by omega); have h13 := h.cell 13 (by omega); have h14 := h.cell 14 (by omega); have h15 := h.cell 15 (by omega); have h16 := h.cell 16 (by omega); have h17 := h.cell 17 (by omega)
  clear h
  unfold errBlock
  unfold errV at *
  go_enter Tryd.func41, Tryd.ntmps41
  go_wp2_with fail
  go_ret
  exact ⟨rfl, rfl⟩
theorem err_at {w : World} {a : Nat → Addr} (i : Nat) (hi : i < 3) : (w.alloc (errBlock a)).cell? ⟨w.heap.size, i, none⟩ = some (errV (a i)) := by
  rw [cell_row (heap_alloc_new w (errBlock a))]
  match i, hi with
  | 0, _ => rfl
  | 1, _ => rfl
  | 2, _ => rfl
set_option maxHeartbeats 1000000 in
theorem sentinel_any (w : World) (a : Nat → Addr) (i : Nat) (hi : i < 3) (h : AllErrs w a) : Calls Tryd.prog 39 #[errV (a i)] w fun e w' => e = .returned (.int .i64 (101 + (i : Int))) ∧ w' = w.alloc (errBlock a) := by
  have HE := hide h
  have H2 := hide (h.below ((Below.refl _ _).alloc (Nat.le_refl _) (errBlock a)))
  clear h
  go_enter Tryd.func39, Tryd.ntmps39
  go_wp2_with fail
  refine (sentinels_any w a HE.out).mono ?_
  rintro e w1 ⟨rfl, rfl⟩
  go_wp2_with fail
  go_loop [4] (fun v => ∃ k : Nat, k ≤ i ∧ v = .int .i64 k) (fun v => 18 - (intOf v).toNat)
  case atStart => exact ⟨0, by omega, rfl⟩
  case round =>
    obtain ⟨k, hk, rfl⟩ := hrel
    have hc := err_at (w := w) (a := a) k (by omega)
    have hki : (k : Int) < 18 := by omega
    by_cases e : k = i
    · subst e
      go_wp2_with fail
      refine (alike_same _ _).mono ?_
      rintro e w1 ⟨rfl, rfl⟩
      go_wp2_with fail
      go_ret
      exact ⟨rfl, rfl⟩
    · have hne : a i ≠ a k := by
        obtain ⟨e1, e2, e3⟩ := HE.out.ne
        have hc3 : (i = 1 ∧ k = 0) ∨ (i = 2 ∧ k = 0) ∨ (i = 2 ∧ k = 1) := by omega
        rcases hc3 with ⟨f1, f2⟩ | ⟨f1, f2⟩ | ⟨f1, f2⟩ <;> (rw [f1, f2]; assumption)
      obtain ⟨c, t, hr⟩ := H2.out.row i (by omega)
      obtain ⟨c', t', hr'⟩ := H2.out.row k (by omega)
      have HR := hide hr
      have HR' := hide hr'
      have HN := hide hne
      clear hr hr' hne
      go_wp2_with fail
      refine (alike_other _ _ _ HN.out HR.out HR'.out).mono ?_
      rintro e w1 ⟨rfl, rfl⟩
      go_wp2_with fail
      go_round
      case rel => exact ⟨k + 1, by omega, by go_num⟩
      case measure => simp [intOf]; omega
theorem Tryd.zero70 : (Tryd.prog.info? 70).map (·.zero) = some (some (.pointer none)) := by kernel_rfl
theorem assert_other (v : Value) (w : World) : (Instr.typeAssert (.iface 79 v) 30 70 true).run Tryd.prog w = .ok (.tuple #[.pointer none, .bool false]) w := by
  obtain ⟨j, hj, hz⟩ := Option.map_eq_some_iff.1 Tryd.zero70
  simp [Instr.typeAssert, run_underlying Tryd.underlying70, zeroValue, typeInfo, hj, hz]
set_option maxHeartbeats 1000000 in
theorem fault_err (w : World) (a : Nat → Addr) (i : Nat) (hi : i < 3) (h : AllErrs w a) : Calls Tryd.prog 37 #[errV (a i)] w fun e w' => e = .returned (.agg #[.int .i64 (101 + (i : Int)), .bool false, .int .i64 0]) ∧ Below w.heap.size w w' := by
  have HE2 := hide (h.below ((Below.refl _ _).alloc (Nat.le_refl _) (.cells #[.int .i64 0, .bool false, .int .i64 0] 64)))
  clear h
  have hta := assert_other
  show Calls Tryd.prog 37 #[.iface 79 (.pointer (some (a i)))] w _
  go_enter Tryd.func37, Tryd.ntmps37
  go_wp2_with fail
  refine (sentinel_any _ a i hi HE2.out).mono ?_
  rintro e w1 ⟨rfl, rfl⟩
  go_wp2_with fail
  refine (bare_any _ _).mono ?_
  rintro e w1 ⟨rfl, rfl⟩
  go_wp2_with fail
  exact bodyPost_ret (v := .agg #[.int .i64 (101 + (i : Int)), .bool false, .int .i64 0]) (by simp [results, Tryd.results37, go_sem]) rfl ⟨rfl, (((Below.refl _ _).alloc (Nat.le_refl _) _).alloc (by simp) _).alloc (by simp; omega) _⟩
set_option maxHeartbeats 1000000 in
theorem same_err (w : World) (a : Nat → Addr) (i : Nat) (hi : i < 3) (h : AllErrs w a) : Calls Tryd.prog 34 #[errV (a i), .agg #[.int .i64 (101 + (i : Int)), .bool false, .int .i64 0]] w fun e w' => e = .returned (.bool true) ∧ Below w.heap.size w w' := by
  obtain ⟨c, hc⟩ : ∃ c, c = 101 + (i : Int) := ⟨_, rfl⟩
  have HC := hide hc
  rw [← hc]
  obtain ⟨W, hW⟩ : ∃ W, W = w.alloc (.cells #[.int .i64 c, .bool false, .int .i64 0] 64) := ⟨_, rfl⟩
  have hWr : W.heap[w.heap.size]? = some (.cells #[.int .i64 c, .bool false, .int .i64 0] 64 (0, 0)) := by rw [hW]; exact heap_alloc_new _ _
  have HB : Hid (Below w.heap.size w W) := by show Below _ _ _; rw [hW]; exact (Below.refl _ _).alloc (Nat.le_refl _) _
  have HE := hide (h.below HB.out)
  have HWR := hide hWr
  have h0 : W.cell? ⟨w.heap.size, 0, none⟩ = some (.int .i64 c) := by rw [cell_row hWr]; rfl
  have h1 : W.cell? ⟨w.heap.size, 1, none⟩ = some (.bool false) := by rw [cell_row hWr]; rfl
  have h2 : W.cell? ⟨w.heap.size, 2, none⟩ = some (.int .i64 0) := by rw [cell_row hWr]; rfl
  have hlt := lt_of_block hWr
  have HL0 : Hid ((⟨w.heap.size, 0, none⟩ : Addr).block < W.drew.heap.size) := hlt
  have HL1 : Hid ((⟨w.heap.size, 1, none⟩ : Addr).block < W.drew.heap.size) := hlt
  have HL2 : Hid ((⟨w.heap.size, 2, none⟩ : Addr).block < W.drew.heap.size) := hlt
  have HW := hide hW
  clear h hc hWr hW hlt
  go_enter Tryd.func34, Tryd.ntmps34
  go_wp2_with fail
  rw [← HW.out]
  go_region_held3 (fun w' => w'.cell? ⟨w.heap.size, 0, none⟩ = some (.int .i64 c) ∧ w'.cell? ⟨w.heap.size, 1, none⟩ = some (.bool false) ∧ w'.cell? ⟨w.heap.size, 2, none⟩ = some (.int .i64 0)) (first | go_keep | (refine ⟨?_, ?_, ?_⟩ <;> assumption))
    (first
      | (go_at_call 37; refine (fault_err _ a i hi HE.out.drew).mono ?_; rintro e w2 ⟨rfl, hb2⟩; rw [← HC.out]; have hb2 := of_drew hb2; have k0 := (hb2.cell HL0.out).trans h0; have k1 := (hb2.cell HL1.out).trans h1; have k2 := (hb2.cell HL2.out).trans h2; have hs2 := hb2.size; have HB2 := hide hb2; clear hb2)
      | (go_at_call 36; refine (sameFault_any c _).mono ?_; rintro e w3 ⟨rfl, hb3⟩; have m0 := (hb3.cell (p := ⟨w.heap.size, 0, none⟩) (Nat.lt_of_lt_of_le HL0.out HB2.out.size)).trans k0; have m1 := (hb3.cell (p := ⟨w.heap.size, 1, none⟩) (Nat.lt_of_lt_of_le HL0.out HB2.out.size)).trans k1; have m2 := (hb3.cell (p := ⟨w.heap.size, 2, none⟩) (Nat.lt_of_lt_of_le HL0.out HB2.out.size)).trans k2; have HB3 := hide hb3; clear hb3))
  go_wp2_with fail
  go_ret
  exact ⟨rfl, over (over HB.out HB2.out HB.out.size) HB3.out (Nat.le_trans HB.out.size HB2.out.size)⟩
set_option maxHeartbeats 400000 in
theorem is_err (w : World) (a : Nat → Addr) (i : Nat) (hi : i < 3) (c : Int) (hc : c = 101 + (i : Int)) (h : AllErrs w a) : Calls Tryd.prog 21 #[errV (a i), .int .i64 c] w fun e w' => e = .returned (.bool true) ∧ Below w.heap.size w w' := by
  have HE := hide (h.below ((Below.refl _ _).alloc (Nat.le_refl _) (.cells #[.int .i64 c, .bool false, .int .i64 0] 64)))
  have HC := hide hc
  clear h hc
  go_enter Tryd.func21, Tryd.ntmps21
  go_wp2_with fail
  refine (bare_any _ _).mono ?_
  rintro e w1 ⟨rfl, rfl⟩
  go_wp2_with fail
  rw [HC.out] at HE ⊢
  refine (same_err _ a i hi HE.out).mono ?_
  rintro e w2 ⟨rfl, hb⟩
  have HB := hide hb
  clear hb
  go_wp2_with fail
  go_ret
  exact ⟨rfl, over ((Below.refl _ _).alloc (Nat.le_refl _) _) HB.out (by simp)⟩
end Go.Proofs.YtedmgdiimfenaaaDoor
