
/- What master.Check, the document's own GoodMaster and SameMaster answer; nothing that was there is written. -/
import Derived.Test.YtjdfmpdkfbhdkaaDoorMasterMath
import Derived.Test.YtjdfmpdkfbhdkaaDoorRecGood
namespace Go.Proofs.YtjdfmpdkfbhdkaaDoor
open Go.RowKit
set_option linter.unusedVariables false

set_option maxHeartbeats 400000 in
theorem within_any (n lo hi : Int) (b : Bool) (w : World) (h : holdsB lo hi n = b) : Calls Tryd.prog 27 #[.int .i64 n, .int .i64 lo, .int .i64 hi] w fun e w' => e = .returned (.bool b) ∧ w' = w := by
  subst h
  go_enter Tryd.func27, Tryd.ntmps27
  go_wp2
  all_goals
    go_ret
    refine ⟨ret_bool ?_, rfl⟩
    unfold holdsB
    simp
    omega
/-- What master.Check answers. -/
def checkMV (m : M) (x : Addr) : Value := if okM m then .nilIface else errV x
theorem checkMV_ok {m : M} (h : okM m = true) (x : Addr) : checkMV m x = .nilIface := by unfold checkMV; rw [h]; rfl
theorem checkMV_no {m : M} (h : okM m = false) (x : Addr) : checkMV m x = errV x := by unfold checkMV; rw [h]; rfl
theorem checkMV_is (m : M) (x : Addr) (b : Bool) (h : okM m = b) : checkMV m x = if b then .nilIface else errV x := by rw [← h]; rfl
set_option maxRecDepth 100000 in
set_option maxHeartbeats 4000000 in
theorem mcheck_any (m : M) (w : World) (x : Addr) (hE : w.cell? ⟨0, 0, none⟩ = some (errV x)) :
    Calls Tryd.prog 11 #[m.val] w fun e w' => e = .returned (checkMV m x) ∧ Below w.heap.size w w' := by
  have hE0 : ∀ X, (w.alloc X).cell? ⟨0, 0, none⟩ = some (errV x) := fun X => ((below_box w X).cell (World.block_lt_of_cell? w _ hE)).trans hE
  clear hE
  have HV := hide (checkMV_is m x)
  obtain ⟨V, hV⟩ : ∃ V, V = checkMV m x := ⟨_, rfl⟩
  rw [← hV] at HV ⊢
  clear hV
  have HO : Hid (okM m = (holdsB 1 1073741824 m.e && (holdsB 0 1073741824 m.b && (holdsB 1 m.e m.r && (((m.c == 0) || (decide (m.b < m.c) && decide (m.c ≤ 1073741824))) && (holdsB 1 32 m.p && (holdsB 1 64 m.k && holdsB 1 8 m.f))))))) := rfl
  unfold M.val
  unfold errV at *
  go_enter Tryd.func11, Tryd.ntmps11
  go_wp2_with (go_at_call 27; refine (within_any _ _ _ _ _ rfl).mono ?_; rintro e w2 ⟨rfl, rfl⟩)
  all_goals
    go_ret
    refine ⟨?_, below_box _ _⟩
    first | (rw [HV.out true (by rw [HO.out]; simp_all)]; rfl) | (rw [HV.out false (by rw [HO.out]; simp_all <;> (intros; omega))]; rfl)
set_option maxRecDepth 100000 in
set_option maxHeartbeats 4000000 in
theorem goodMaster_any (m : M) (w : World) :
    Calls Tryd.prog 8 #[m.val] w fun e w' => e = .returned (.bool (okM m)) ∧ Below w.heap.size w w' := by
  obtain ⟨V, hV⟩ : ∃ V, V = okM m := ⟨_, rfl⟩
  have HO : Hid (V = (holdsB 1 1073741824 m.e && (holdsB 0 1073741824 m.b && (holdsB 1 m.e m.r && (((m.c == 0) || (decide (m.b < m.c) && decide (m.c ≤ 1073741824))) && (holdsB 1 32 m.p && (holdsB 1 64 m.k && holdsB 1 8 m.f))))))) := hV
  rw [← hV]
  clear hV
  by_cases hb : 0 ≤ m.b ∧ m.b ≤ 1073741824
  · obtain ⟨hb0, hb1⟩ := hb
    have HC : Hid ((decide (m.b < m.c) && decide (m.c ≤ 1073741824)) = holdsB (m.b + 1) 1073741824 m.c) := by
      show (decide (m.b < m.c) && decide (m.c ≤ 1073741824)) = holdsB (m.b + 1) 1073741824 m.c
      unfold holdsB
      rw [show decide (m.b < m.c) = decide (m.b + 1 ≤ m.c) from decide_eq_decide.2 (by omega)]
    unfold M.val
    go_enter Tryd.func8, Tryd.ntmps8
    go_wp2_with (go_at_call 21; refine (from_any _ _ _ _ _ rfl).mono ?_; rintro e w2 ⟨rfl, rfl⟩)
    all_goals
      go_ret
      refine ⟨ret_bool ?_, below_box _ _⟩
      rw [HO.out, HC.out]
      simp_all
  · have HB : holdsB 0 1073741824 m.b = false := by
      cases h : holdsB 0 1073741824 m.b with
      | false => rfl
      | true => exact absurd ((holdsB_iff _ _ _).1 h) hb
    clear hb
    unfold M.val
    go_enter Tryd.func8, Tryd.ntmps8
    go_wp2_with (go_at_call 21; refine (from_any _ _ _ _ _ rfl).mono ?_; rintro e w2 ⟨rfl, rfl⟩)
    all_goals
      go_ret
      refine ⟨ret_bool ?_, below_box _ _⟩
      rw [HO.out]
      simp_all
set_option maxRecDepth 100000 in
set_option maxHeartbeats 4000000 in
theorem sameMaster_any (a b : M) (w : World) :
    Calls Tryd.prog 20 #[a.val, b.val] w fun e w' => e = .returned (.bool (sameM a b)) ∧ Below w.heap.size w w' := by
  obtain ⟨V, hV⟩ : ∃ V, V = sameM a b := ⟨_, rfl⟩
  have HO : Hid (V = ((a.e == b.e) && ((a.b == b.b) && ((a.r == b.r) && ((a.c == b.c) && ((a.p == b.p) && ((a.k == b.k) && (a.f == b.f)))))))) := hV
  rw [← hV]
  clear hV
  unfold M.val
  go_enter Tryd.func20, Tryd.ntmps20
  go_wp2_with fail
  all_goals
    go_ret
    refine ⟨ret_bool ?_, (below_box w _).alloc (by simp) _⟩
    rw [HO.out]
    simp_all
end Go.Proofs.YtjdfmpdkfbhdkaaDoor
