
/- What phoenixsee.Is answers of no error and of the errors of package api. -/
import Derived.Test.YtjdfmpdkfbhdkaaDoorBase
import Derived.LaidEql
namespace Go.Proofs.YtjdfmpdkfbhdkaaDoor
open Go.RowKit
set_option linter.unusedVariables false

/-- All eighteen, by their places in the document's list. -/
def all18 : List Nat := [0, 1, 2, 3, 4, 5, 6, 7, 8, 9, 10, 11, 12, 13, 14, 15, 16, 17]
theorem mem18 {i : Nat} (h : i < 18) : i ∈ all18 := by
  unfold all18
  simp only [List.mem_cons, List.not_mem_nil, or_false]
  omega
set_option maxHeartbeats 400000 in
theorem bare_any (c : Int) (w : World) : Calls Tryd.prog 26 #[.int .i64 c] w fun e w' => e = .returned (.agg #[.int .i64 c, .bool false, .int .i64 0]) ∧ w' = w.alloc (.cells #[.int .i64 c, .bool false, .int .i64 0] 56) := by
  go_enter Tryd.func26, Tryd.ntmps26
  go_wp2_with fail
  exact bodyPost_ret (v := .agg #[.int .i64 c, .bool false, .int .i64 0]) (by simp [results, Tryd.results26, go_sem]) rfl ⟨rfl, rfl⟩
set_option maxHeartbeats 400000 in
theorem sameFault_any (c : Int) (w : World) : Calls Tryd.prog 35 #[.agg #[.int .i64 c, .bool false, .int .i64 0], .agg #[.int .i64 c, .bool false, .int .i64 0]] w fun e w' => e = .returned (.bool true) ∧ Below w.heap.size w w' := by
  go_enter Tryd.func35, Tryd.ntmps35
  go_wp2_with fail
  go_ret
  exact ⟨rfl, ((Below.refl _ _).alloc (Nat.le_refl _) _).alloc (by simp) _⟩
theorem Tryd.cmp75 : (Tryd.prog.info? 75).map (·.comparable) = some true := by kernel_rfl
theorem Tryd.sz93 : (Tryd.prog.info? 93).map (·.size) = some 1 := by kernel_rfl
theorem eql_same (x : Addr) (w : World) : (binOp .eql 28 (.iface 75 (.pointer (some x))) (.iface 75 (.pointer (some x)))).run Tryd.prog w = .ok (.bool true) w := by
  obtain ⟨i, hi, hc⟩ := Option.map_eq_some_iff.1 Tryd.cmp75
  obtain ⟨j, hj, _⟩ := Option.map_eq_some_iff.1 Tryd.sz93
  exact run_eql_iface_ptr_same w x Tryd.underlying28 Tryd.underlying75 hi hc hj
theorem eql_other {x y : Addr} {w : World} {c c' : Array Value} {t t' : TypeId} (hne : x ≠ y) (hx : w.heap[x.block]? = some (.cells c t (0, 0))) (hy : w.heap[y.block]? = some (.cells c' t' (0, 0))) : (binOp .eql 28 (.iface 75 (.pointer (some x))) (.iface 75 (.pointer (some y)))).run Tryd.prog w = .ok (.bool false) w := by
  obtain ⟨i, hi, hc⟩ := Option.map_eq_some_iff.1 Tryd.cmp75
  obtain ⟨j, hj, hs⟩ := Option.map_eq_some_iff.1 Tryd.sz93
  exact run_eql_iface_ptr_other w Tryd.underlying28 Tryd.underlying75 hi hc hj (by rw [hs]; decide) hne hx hy
set_option maxHeartbeats 400000 in
theorem alike_same (x : Addr) (w : World) : Calls Tryd.prog 43 #[errV x, errV x] w fun e w' => e = .returned (.bool true) ∧ w' = w := by
  unfold errV
  have he := eql_same x w
  go_enter Tryd.func43, Tryd.ntmps43
  go_wp2_with fail
  go_ret
  exact ⟨rfl, rfl⟩
set_option maxHeartbeats 400000 in
theorem alike_other (x y : Addr) (w : World) {c c' : Array Value} {t t' : TypeId} (hne : x ≠ y) (hx : w.heap[x.block]? = some (.cells c t (0, 0))) (hy : w.heap[y.block]? = some (.cells c' t' (0, 0))) : Calls Tryd.prog 43 #[errV x, errV y] w fun e w' => e = .returned (.bool false) ∧ w' = w := by
  unfold errV
  have he := eql_other hne hx hy
  clear hne hx hy
  go_enter Tryd.func43, Tryd.ntmps43
  go_wp2_with fail
  go_ret
  exact ⟨rfl, rfl⟩
/-- The list of all errors, as a block. -/
def errBlock (a : Nat → Addr) : Obj := .cells #[errV (a 0), errV (a 1), errV (a 2), errV (a 3), errV (a 4), errV (a 5), errV (a 6), errV (a 7), errV (a 8), errV (a 9), errV (a 10), errV (a 11), errV (a 12), errV (a 13), errV (a 14), errV (a 15), errV (a 16), errV (a 17)] 28
set_option maxHeartbeats 400000 in
theorem sentinels_any (w : World) (a : Nat → Addr) (h : ErrsOf w all18 a) : Calls Tryd.prog 42 #[] w fun e w' => e = .returned (.slice (some ⟨w.heap.size, 0, none⟩) 18 18) ∧ w' = w.alloc (errBlock a) := by
  have h0 := h.var 0 (g := 3) (mem18 (by omega)) rfl; have h1 := h.var 1 (g := 0) (mem18 (by omega)) rfl; have h2 := h.var 2 (g := 1) (mem18 (by omega)) rfl; have h3 := h.var 3 (g := 4) (mem18 (by omega)) rfl; have h4 := h.var 4 (g := 5) (mem18 (by omega)) rfl; have h5 := h.var 5 (g := 2) (mem18 (by omega)) rfl
  have h6 := h.var 6 (g := 6) (mem18 (by omega)) rfl; have h7 := h.var 7 (g := 7) (mem18 (by omega)) rfl; have h8 := h.var 8 (g := 8) (mem18 (by omega)) rfl; have h9 := h.var 9 (g := 9) (mem18 (by omega)) rfl; have h10 := h.var 10 (g := 10) (mem18 (by omega)) rfl; have h11 := h.var 11 (g := 11) (mem18 (by omega)) rfl
  have h12 := h.var 12 (g := 12) (mem18 (by omega)) rfl; have h13 := h.var 13 (g := 13) (mem18 (by omega)) rfl; have h14 := h.var 14 (g := 14) (mem18 (by omega)) rfl; have h15 := h.var 15 (g := 15) (mem18 (by omega)) rfl; have h16 := h.var 16 (g := 16) (mem18 (by omega)) rfl; have h17 := h.var 17 (g := 17) (mem18 (by omega)) rfl
  clear h
  unfold errBlock
  unfold errV at *
  go_enter Tryd.func42, Tryd.ntmps42
  go_wp2_with fail
  go_ret
  exact ⟨rfl, rfl⟩
theorem err_at {w : World} {a : Nat → Addr} (i : Nat) (hi : i < 18) : (w.alloc (errBlock a)).cell? ⟨w.heap.size, i, none⟩ = some (errV (a i)) := by
  rw [cell_row (heap_alloc_new w (errBlock a))]
  rcases (show i = 0 ∨ i = 1 ∨ i = 2 ∨ i = 3 ∨ i = 4 ∨ i = 5 ∨ i = 6 ∨ i = 7 ∨ i = 8 ∨ i = 9 ∨ i = 10 ∨ i = 11 ∨ i = 12 ∨ i = 13 ∨ i = 14 ∨ i = 15 ∨ i = 16 ∨ i = 17 by omega) with rfl | rfl | rfl | rfl | rfl | rfl | rfl | rfl | rfl | rfl | rfl | rfl | rfl | rfl | rfl | rfl | rfl | rfl <;> rfl
set_option maxHeartbeats 1000000 in
theorem sentinel_any (w : World) (a : Nat → Addr) (i : Nat) (hi : i < 18) (h : ErrsOf w all18 a) : Calls Tryd.prog 40 #[errV (a i)] w fun e w' => e = .returned (.int .i64 (101 + (i : Int))) ∧ w' = w.alloc (errBlock a) := by
  have HE := hide h
  have H2 := hide (h.step ((Below.refl _ _).alloc (Nat.le_refl _) (errBlock a)))
  clear h
  go_enter Tryd.func40, Tryd.ntmps40
  go_wp2_with fail
  refine (sentinels_any w a HE.out).mono ?_
  rintro e w1 ⟨rfl, rfl⟩
  go_wp2_with fail
  go_loop [4] (fun v => ∃ k : Nat, k ≤ i ∧ v = .int .i64 k) (fun v => 18 - (intOf v).toNat)
  case atStart => exact ⟨0, by omega, rfl⟩
  case round =>
    obtain ⟨k, hk, rfl⟩ := hrel
    have hc := err_at (w := w) (a := a) k (by omega)
    have hki : (k : Int) < 18 := by omega
    by_cases e : k = i
    · subst e
      go_wp2_with fail
      refine (alike_same _ _).mono ?_
      rintro e w1 ⟨rfl, rfl⟩
      go_wp2_with fail
      go_ret
      exact ⟨rfl, rfl⟩
    · have hne : a i ≠ a k := by
        exact HE.out.ne i (mem18 (by omega)) k (mem18 (by omega)) (fun h => e h.symm)
      obtain ⟨c, t, hr⟩ := H2.out.row i (mem18 (by omega))
      obtain ⟨c', t', hr'⟩ := H2.out.row k (mem18 (by omega))
      have HR := hide hr
      have HR' := hide hr'
      have HN := hide hne
      clear hr hr' hne
      go_wp2_with fail
      refine (alike_other _ _ _ HN.out HR.out HR'.out).mono ?_
      rintro e w1 ⟨rfl, rfl⟩
      go_wp2_with fail
      go_round
      case rel => exact ⟨k + 1, by omega, by go_num⟩
      case measure => simp [intOf]; omega
theorem Tryd.zero66 : (Tryd.prog.info? 66).map (·.zero) = some (some (.pointer none)) := by kernel_rfl
theorem assert_other (v : Value) (w : World) : (Instr.typeAssert (.iface 75 v) 28 66 true).run Tryd.prog w = .ok (.tuple #[.pointer none, .bool false]) w := by
  obtain ⟨j, hj, hz⟩ := Option.map_eq_some_iff.1 Tryd.zero66
  simp [Instr.typeAssert, run_underlying Tryd.underlying66, zeroValue, typeInfo, hj, hz]
set_option maxHeartbeats 1000000 in
theorem fault_err (w : World) (a : Nat → Addr) (i : Nat) (hi : i < 18) (h : ErrsOf w all18 a) : Calls Tryd.prog 36 #[errV (a i)] w fun e w' => e = .returned (.agg #[.int .i64 (101 + (i : Int)), .bool false, .int .i64 0]) ∧ Below w.heap.size w w' := by
  have HE2 := hide (h.step ((Below.refl _ _).alloc (Nat.le_refl _) (.cells #[.int .i64 0, .bool false, .int .i64 0] 56)))
  clear h
  have hta := assert_other
  show Calls Tryd.prog 36 #[.iface 75 (.pointer (some (a i)))] w _
  go_enter Tryd.func36, Tryd.ntmps36
  go_wp2_with fail
  refine (sentinel_any _ a i hi HE2.out).mono ?_
  rintro e w1 ⟨rfl, rfl⟩
  go_wp2_with fail
  refine (bare_any _ _).mono ?_
  rintro e w1 ⟨rfl, rfl⟩
  go_wp2_with fail
  exact bodyPost_ret (v := .agg #[.int .i64 (101 + (i : Int)), .bool false, .int .i64 0]) (by simp [results, Tryd.results36, go_sem]) rfl ⟨rfl, (((Below.refl _ _).alloc (Nat.le_refl _) _).alloc (by simp) _).alloc (by simp; omega) _⟩
set_option maxHeartbeats 1000000 in
theorem same_err (w : World) (a : Nat → Addr) (i : Nat) (hi : i < 18) (h : ErrsOf w all18 a) : Calls Tryd.prog 25 #[errV (a i), .agg #[.int .i64 (101 + (i : Int)), .bool false, .int .i64 0]] w fun e w' => e = .returned (.bool true) ∧ Below w.heap.size w w' := by
  obtain ⟨c, hc⟩ : ∃ c, c = 101 + (i : Int) := ⟨_, rfl⟩
  have HC := hide hc
  rw [← hc]
  obtain ⟨W, hW⟩ : ∃ W, W = w.alloc (.cells #[.int .i64 c, .bool false, .int .i64 0] 56) := ⟨_, rfl⟩
  have hWr : W.heap[w.heap.size]? = some (.cells #[.int .i64 c, .bool false, .int .i64 0] 56 (0, 0)) := by rw [hW]; exact heap_alloc_new _ _
  have HB : Hid (Below w.heap.size w W) := by show Below _ _ _; rw [hW]; exact (Below.refl _ _).alloc (Nat.le_refl _) _
  have HE := hide (h.step HB.out)
  have HWR := hide hWr
  have h0 : W.cell? ⟨w.heap.size, 0, none⟩ = some (.int .i64 c) := by rw [cell_row hWr]; rfl
  have h1 : W.cell? ⟨w.heap.size, 1, none⟩ = some (.bool false) := by rw [cell_row hWr]; rfl
  have h2 : W.cell? ⟨w.heap.size, 2, none⟩ = some (.int .i64 0) := by rw [cell_row hWr]; rfl
  have hlt := lt_of_block hWr
  have HL0 : Hid ((⟨w.heap.size, 0, none⟩ : Addr).block < W.drew.heap.size) := hlt
  have HL1 : Hid ((⟨w.heap.size, 1, none⟩ : Addr).block < W.drew.heap.size) := hlt
  have HL2 : Hid ((⟨w.heap.size, 2, none⟩ : Addr).block < W.drew.heap.size) := hlt
  have HW := hide hW
  clear h hc hWr hW hlt
  go_enter Tryd.func25, Tryd.ntmps25
  go_wp2_with fail
  rw [← HW.out]
  go_region_held3 (fun w' => w'.cell? ⟨w.heap.size, 0, none⟩ = some (.int .i64 c) ∧ w'.cell? ⟨w.heap.size, 1, none⟩ = some (.bool false) ∧ w'.cell? ⟨w.heap.size, 2, none⟩ = some (.int .i64 0)) (first | go_keep | (refine ⟨?_, ?_, ?_⟩ <;> assumption))
    (first
      | (go_at_call 36; refine (fault_err _ a i hi HE.out.drew).mono ?_; rintro e w2 ⟨rfl, hb2⟩; rw [← HC.out]; have hb2 := of_drew hb2; have k0 := (hb2.cell HL0.out).trans h0; have k1 := (hb2.cell HL1.out).trans h1; have k2 := (hb2.cell HL2.out).trans h2; have hs2 := hb2.size; have HB2 := hide hb2; clear hb2)
      | (go_at_call 35; refine (sameFault_any c _).mono ?_; rintro e w3 ⟨rfl, hb3⟩; have m0 := (hb3.cell (p := ⟨w.heap.size, 0, none⟩) (Nat.lt_of_lt_of_le HL0.out HB2.out.size)).trans k0; have m1 := (hb3.cell (p := ⟨w.heap.size, 1, none⟩) (Nat.lt_of_lt_of_le HL0.out HB2.out.size)).trans k1; have m2 := (hb3.cell (p := ⟨w.heap.size, 2, none⟩) (Nat.lt_of_lt_of_le HL0.out HB2.out.size)).trans k2; have HB3 := hide hb3; clear hb3))
  go_wp2_with fail
  go_ret
  exact ⟨rfl, over (over HB.out HB2.out HB.out.size) HB3.out (Nat.le_trans HB.out.size HB2.out.size)⟩
set_option maxHeartbeats 400000 in
theorem is_err (w : World) (a : Nat → Addr) (i : Nat) (hi : i < 18) (c : Int) (hc : c = 101 + (i : Int)) (h : ErrsOf w all18 a) : Calls Tryd.prog 10 #[errV (a i), .int .i64 c] w fun e w' => e = .returned (.bool true) ∧ Below w.heap.size w w' := by
  have HE := hide (h.step ((Below.refl _ _).alloc (Nat.le_refl _) (.cells #[.int .i64 c, .bool false, .int .i64 0] 56)))
  have HC := hide hc
  clear h hc
  go_enter Tryd.func10, Tryd.ntmps10
  go_wp2_with fail
  refine (bare_any _ _).mono ?_
  rintro e w1 ⟨rfl, rfl⟩
  go_wp2_with fail
  rw [HC.out] at HE ⊢
  refine (same_err _ a i hi HE.out).mono ?_
  rintro e w2 ⟨rfl, hb⟩
  have HB := hide hb
  clear hb
  go_wp2_with fail
  go_ret
  exact ⟨rfl, over ((Below.refl _ _).alloc (Nat.le_refl _) _) HB.out (by simp)⟩
set_option maxHeartbeats 400000 in
theorem none_any (w : World) : Calls Tryd.prog 39 #[] w fun e w' => e = .returned (.agg #[.int .i64 0, .bool false, .int .i64 0]) ∧ w' = w.alloc (.cells #[.int .i64 0, .bool false, .int .i64 0] 56) := by
  go_enter Tryd.func39, Tryd.ntmps39
  go_wp2_with fail
  exact bodyPost_ret (v := .agg #[.int .i64 0, .bool false, .int .i64 0]) (by simp [results, Tryd.results39, go_sem]) rfl ⟨rfl, rfl⟩
set_option maxHeartbeats 400000 in
theorem fault_nil (w : World) : Calls Tryd.prog 36 #[.nilIface] w fun e w' => e = .returned (.agg #[.int .i64 0, .bool false, .int .i64 0]) ∧ Below w.heap.size w w' := by
  go_enter Tryd.func36, Tryd.ntmps36
  go_wp2_with fail
  refine (none_any _).mono ?_
  rintro e w1 ⟨rfl, rfl⟩
  go_wp2_with fail
  exact bodyPost_ret (v := .agg #[.int .i64 0, .bool false, .int .i64 0]) (by simp [results, Tryd.results36, go_sem]) rfl ⟨rfl, ((Below.refl _ _).alloc (Nat.le_refl _) _).alloc (by simp) _⟩
set_option maxHeartbeats 1000000 in
theorem same_nil (w : World) : Calls Tryd.prog 25 #[.nilIface, .agg #[.int .i64 0, .bool false, .int .i64 0]] w fun e w' => e = .returned (.bool true) ∧ Below w.heap.size w w' := by
  obtain ⟨W, hW⟩ : ∃ W, W = w.alloc (.cells #[.int .i64 0, .bool false, .int .i64 0] 56) := ⟨_, rfl⟩
  have hWr : W.heap[w.heap.size]? = some (.cells #[.int .i64 0, .bool false, .int .i64 0] 56 (0, 0)) := by rw [hW]; exact heap_alloc_new _ _
  have HB : Hid (Below w.heap.size w W) := by show Below _ _ _; rw [hW]; exact (Below.refl _ _).alloc (Nat.le_refl _) _
  have HWR := hide hWr
  have h0 : W.cell? ⟨w.heap.size, 0, none⟩ = some (.int .i64 0) := by rw [cell_row hWr]; rfl
  have h1 : W.cell? ⟨w.heap.size, 1, none⟩ = some (.bool false) := by rw [cell_row hWr]; rfl
  have h2 : W.cell? ⟨w.heap.size, 2, none⟩ = some (.int .i64 0) := by rw [cell_row hWr]; rfl
  have hlt := lt_of_block hWr
  have HL0 : Hid ((⟨w.heap.size, 0, none⟩ : Addr).block < W.drew.heap.size) := hlt
  have HL1 : Hid ((⟨w.heap.size, 1, none⟩ : Addr).block < W.drew.heap.size) := hlt
  have HL2 : Hid ((⟨w.heap.size, 2, none⟩ : Addr).block < W.drew.heap.size) := hlt
  have HW := hide hW
  clear hWr hW hlt
  go_enter Tryd.func25, Tryd.ntmps25
  go_wp2_with fail
  rw [← HW.out]
  go_region_held3 (fun w' => w'.cell? ⟨w.heap.size, 0, none⟩ = some (.int .i64 0) ∧ w'.cell? ⟨w.heap.size, 1, none⟩ = some (.bool false) ∧ w'.cell? ⟨w.heap.size, 2, none⟩ = some (.int .i64 0)) (first | go_keep | (refine ⟨?_, ?_, ?_⟩ <;> assumption))
    (first
      | (go_at_call 36; refine (fault_nil _).mono ?_; rintro e w2 ⟨rfl, hb2⟩; have hb2 := of_drew hb2; have k0 := (hb2.cell HL0.out).trans h0; have k1 := (hb2.cell HL1.out).trans h1; have k2 := (hb2.cell HL2.out).trans h2; have hs2 := hb2.size; have HB2 := hide hb2; clear hb2)
      | (go_at_call 35; refine (sameFault_any 0 _).mono ?_; rintro e w3 ⟨rfl, hb3⟩; have m0 := (hb3.cell (p := ⟨w.heap.size, 0, none⟩) (Nat.lt_of_lt_of_le HL0.out HB2.out.size)).trans k0; have m1 := (hb3.cell (p := ⟨w.heap.size, 1, none⟩) (Nat.lt_of_lt_of_le HL0.out HB2.out.size)).trans k1; have m2 := (hb3.cell (p := ⟨w.heap.size, 2, none⟩) (Nat.lt_of_lt_of_le HL0.out HB2.out.size)).trans k2; have HB3 := hide hb3; clear hb3))
  go_wp2_with fail
  go_ret
  exact ⟨rfl, over (over HB.out HB2.out HB.out.size) HB3.out (Nat.le_trans HB.out.size HB2.out.size)⟩
set_option maxHeartbeats 400000 in
theorem is_ok (w : World) : Calls Tryd.prog 10 #[.nilIface, .int .i64 0] w fun e w' => e = .returned (.bool true) ∧ Below w.heap.size w w' := by
  go_enter Tryd.func10, Tryd.ntmps10
  go_wp2_with fail
  refine (bare_any _ _).mono ?_
  rintro e w1 ⟨rfl, rfl⟩
  go_wp2_with fail
  refine (same_nil _).mono ?_
  rintro e w2 ⟨rfl, hb⟩
  have HB := hide hb
  clear hb
  go_wp2_with fail
  go_ret
  exact ⟨rfl, over ((Below.refl _ _).alloc (Nat.le_refl _) _) HB.out (by simp)⟩
end Go.Proofs.YtjdfmpdkfbhdkaaDoor
