
/- The chapter's examples on disks, as the statements ask them first: they hold, and nothing that was there is written. -/
import Derived.Test.YtedmgdiimfenaaaDoorLoads
namespace Go.Proofs.YtedmgdiimfenaaaDoor
open Go.RowKit
set_option linter.unusedVariables false

/-- All blocks that are there. -/
def allOf (w : World) (k : Nat) : Prop := k < w.heap.size
theorem errs_below {w w' : World} {a : Nat → Addr} (h : Errs w (fun b => b < w.heap.size) a) (hb : Below w.heap.size w w') : Errs w' (fun b => b < w'.heap.size) a :=
  fun i hi => ⟨Nat.lt_of_lt_of_le (h i hi).1 hb.size, (hb.cell (h i hi).1).trans (h i hi).2⟩
theorem lastV_one (x : List Int) : lastV [x] = x := rfl
theorem verOf_rep (N k : Nat) (x : List (List Int)) (h : k < N) : (List.replicate N x).getD k [] = x := by
  rw [List.getD_eq_getElem?_getD, List.getElem?_replicate, if_pos h]; rfl
set_option maxHeartbeats 1000000 in
theorem dfirst_any (w : World) {a : Nat → Addr} (he : Errs w (fun b => b < w.heap.size) a) : Calls Tryd.prog 8 #[] w fun e w' => e = .returned (.bool true) ∧ Below w.heap.size w w' := by
  have HE := hide he
  clear he
  go_enter Tryd.func8, Tryd.ntmps8
  go_wp2_with fail
  refine (new_any 2 2 (.inr (.inl ⟨by omega, by omega, rfl⟩)) HE.out).mono ?_
  rintro e w1 ⟨d, rfl, hd, hdisk, hbel⟩
  have HD := hide hdisk
  have HB := hide hbel
  clear hdisk hbel hd
  go_wp2_with fail
  refine (read_ok d 0 HD.out (by simp)).mono ?_
  rintro e w2 ⟨g, c, rfl, hg, hown, hlen, hbel⟩
  rw [verOf_rep 2 0 _ (by omega), lastV_one] at hown
  have hc0 := hown.cell 0 (by rw [length_fillOf]; omega)
  rw [show (fillOf 0).getD 0 0 = 0 from rfl] at hc0
  have HD2 := hide (HD.out.below hbel)
  have HB2 := hide (over HB.out hbel HB.out.size)
  clear hown hlen hbel hg
  go_wp2_with fail
  refine (size_any d HD2.out).mono ?_
  rintro e w3 ⟨rfl, rfl⟩
  rw [List.length_replicate]
  go_wp2_with fail
  refine (image_any d HD2.out).mono ?_
  rintro e w4 ⟨ao, c4, ps, rfl, _, _, hbel⟩
  rw [List.length_replicate]
  have HB4 := hide (over HB2.out hbel HB2.out.size)
  clear hbel
  go_wp2_with fail
  go_ret
  exact ⟨rfl, HB4.out⟩
end Go.Proofs.YtedmgdiimfenaaaDoor
