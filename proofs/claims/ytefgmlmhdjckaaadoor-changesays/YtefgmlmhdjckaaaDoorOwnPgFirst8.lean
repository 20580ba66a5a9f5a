
/- The chapter's examples on changes, as the statements ask them first: they hold, and nothing that was there is written. -/
import Derived.Test.YtefgmlmhdjckaaaDoorOwnPgRedo2
import Derived.Test.YtefgmlmhdjckaaaDoorOwnPgUndo
namespace Go.Proofs.YtefgmlmhdjckaaaDoor
open Go.RowKit
set_option linter.unusedVariables false

set_option maxRecDepth 100000 in
set_option maxHeartbeats 4000000 in
theorem cfirst_any (w : World) : Calls Tryd.prog 30 #[] w fun e w' => e = .returned (.bool true) ∧ Below w.heap.size w w' := by
  have HU := hide (undo_any ⟨1, 1, 0, 0, 0, 0, false, false, 0, 0⟩ 5 5 0 w (by omega))
  rw [undoR_no (by decide)] at HU
  unfold R.val at HU
  simp only at HU
  go_enter Tryd.func30, Tryd.ntmps30
  go_wp2_with fail
  refine HU.out.mono ?_
  rintro e x1 ⟨rfl, hb⟩
  rw [show decide ((1 : Int) = 2) = false from rfl]
  have HB := hide hb
  clear hb HU
  obtain ⟨X, hX⟩ : ∃ X, X = (x1.alloc (.cells #[.int .i64 0, .int .i64 0, .int .i64 0, .int .i64 0, .int .i64 0, .int .i64 0, .bool false, .bool false, .int .i64 0, .int .i64 0] 66)).alloc (.cells #[.int .i64 2, .int .i64 1, .int .i64 1, .int .i64 0, .int .i64 0, .int .i64 3, .bool false, .bool true, .int .i64 0, .int .i64 9] 66) := ⟨_, rfl⟩
  have HBX : Hid (Below w.heap.size w X) := by
    show Below w.heap.size w X
    rw [hX]
    exact (HB.out.alloc HB.out.size _).alloc (by have := HB.out.size; simp; omega) _
  have hc := cells10_new (x1.alloc (.cells #[.int .i64 0, .int .i64 0, .int .i64 0, .int .i64 0, .int .i64 0, .int .i64 0, .bool false, .bool false, .int .i64 0, .int .i64 0] 66)) ⟨2, 1, 1, 0, 0, 3, false, true, 0, 9⟩
  rw [show (x1.alloc (.cells #[.int .i64 0, .int .i64 0, .int .i64 0, .int .i64 0, .int .i64 0, .int .i64 0, .bool false, .bool false, .int .i64 0, .int .i64 0] 66)).alloc (recCells ⟨2, 1, 1, 0, 0, 3, false, true, 0, 9⟩) = X from hX.symm, show (x1.alloc (.cells #[.int .i64 0, .int .i64 0, .int .i64 0, .int .i64 0, .int .i64 0, .int .i64 0, .bool false, .bool false, .int .i64 0, .int .i64 0] 66)).heap.size = x1.heap.size + 1 by simp] at hc
  have HC := hide hc
  have HX := hide hX
  clear hc hX
  go_upto_region 3 with fail
  rw [← HX.out]
  clear HX HB
  obtain ⟨r0, r1, r2, r3, r4, r5, r6, r7, r8, r9, rl⟩ := HC.out
  simp only at r0 r1 r2 r3 r4 r5 r6 r7 r8 r9
  clear rl
  have HR := hide (redo_yes 4 5 none 0 0 [] ⟨2, 1, 1, 0, 0, 3, false, true, 0, 9⟩ X (entRow_nil _ _) List.Pairwise.nil rfl (by decide) (by omega) (by decide))
  unfold R.val pageV at HR
  simp only at HR
  go_wp2_with fail
  refine HR.out.mono ?_
  rintro e x2 ⟨a, m, c, rfl, hm, ho, hb⟩
  have hm1 : m = 1 := hm.symm.trans (by decide)
  subst hm1
  have hbx := below_box x2 (pageBlock 5 a 1 c)
  have HB2 := hide (over (over HBX.out hb HBX.out.size) hbx (over HBX.out hb HBX.out.size).size)
  unfold pageBlock at HB2
  clear hm ho hb hbx HR r0 r1 r2 r3 r4 r5 r6 r7 r8 r9
  go_wp2_with fail
  go_ret
  exact ⟨rfl, HB2.out⟩
end Go.Proofs.YtefgmlmhdjckaaaDoor
