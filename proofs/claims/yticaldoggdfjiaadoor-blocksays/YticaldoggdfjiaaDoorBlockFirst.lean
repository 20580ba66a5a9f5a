
/- The chapter's examples on blocks, as the statements ask them first: they hold, and nothing that was there is written. -/
import Derived.Test.YticaldoggdfjiaaDoorBlockRead2
import Derived.Test.YticaldoggdfjiaaDoorRecFirst
namespace Go.Proofs.YticaldoggdfjiaaDoor
open Go.RowKit
set_option linter.unusedVariables false

theorem ok_first : okB 3 [⟨7, 0, 0, 0, 0, 0, false, false, 0, 0⟩] = true := by decide
set_option maxRecDepth 100000 in
set_option maxHeartbeats 1000000 in
theorem bfirst_any (w : World) {x y z t : Addr} (he : BlkErrs w x y z t) : Calls Tryd.prog 23 #[] w fun e w' => e = .returned (.bool true) ∧ Below w.heap.size w w' := by
  obtain ⟨i0, hi, hz0, hz1, hz2⟩ := info_parts Tryd.info5
  have HE := hide he
  clear he
  go_enter Tryd.func23, Tryd.ntmps23
  go_wp2_with (at_make; refine wpList_make_full w rfl (.const (.int .i64 256)) (.const (.int .i64 256)) 24 rfl w.heap.size 5 i0 (.int .u8 0) 1 Tryd.underlying24 hi hz0 hz1 .i64 .i64 256 256 256 rfl rfl rfl rfl (by rw [hz2]; omega) (by unfold maxLen; omega) (Nat.le_refl _) ?_; intro w1 hown hgr; have HB : Hid (Below w.heap.size w w1) := (Below.refl _ _).grown hgr (Nat.le_refl _) (by simp); have HO := hide (own_made hown (by omega)); clear hown hgr)
  refine (bread_zero _ _ (List.replicate 256 0) _ HO.out.row (List.length_replicate ..) (zero_rep 256)).mono ?_
  rintro e w2 ⟨rfl, hb⟩
  replace HB := hide (over HB.out hb HB.out.size)
  clear hb HO
  have HB1 := hide (over HB.out (below_box w2 (recCells ⟨7, 0, 0, 0, 0, 0, false, false, 0, 0⟩)) HB.out.size)
  have HR := hide (RecRow.one (cells10_new w2 ⟨7, 0, 0, 0, 0, 0, false, false, 0, 0⟩))
  go_wp2_with (refine build1 ⟨7, 0, 0, 0, 0, 0, false, false, 0, 0⟩ rfl ?_)
  refine (bb_ok (x := x) (e := 3) (HE.out.step HB1.out).rd.range HR.out rfl ok_first).mono ?_
  rintro e w3 ⟨g, rfl, hg, hown, hb⟩
  replace HB := hide (over HB1.out hb HB1.out.size)
  clear hg hown hb HR HB1
  go_wp2_with fail
  go_ret
  exact ⟨rfl, HB.out⟩
end Go.Proofs.YticaldoggdfjiaaDoor
