/- Lemmas and contracts that the law stands on, joined: RBad. -/
import Derived.Test.YtjacenhblclkaaaGreatDoorJoin41
import Derived.Test.YtjacenhblclkaaaGreatDoorJoin40
import Derived.Test.YtjacenhblclkaaaGreatDoorJoin42
import Derived.Test.YtjacenhblclkaaaGreatDoorJoin24
/- Fault.Bad; what a state of both logs is in the walk of WalPlays. -/
namespace Go.Proofs.YtjacenhblclkaaaGreatDoor
open Go.RowKit
set_option linter.unusedVariables false

set_option maxHeartbeats 400000 in
theorem bad_no (p : Bool) (n : Int) (w : World) : Calls Tryz.prog 25 #[faultV 0 p n] w fun e w' => e = .returned (.bool false) ∧ Below w.heap.size w w' := by
  unfold faultV
  go_enter Tryz.func25, Tryz.ntmps25
  go_wp2_with fail
  go_ret
  exact ⟨rfl, (Below.refl _ _).alloc (Nat.le_refl _) _⟩
set_option maxHeartbeats 400000 in
theorem bad_yes (c : Int) (hc : c ≠ 0) (p : Bool) (n : Int) (w : World) : Calls Tryz.prog 25 #[faultV c p n] w fun e w' => e = .returned (.bool true) ∧ Below w.heap.size w w' := by
  have hc1 : (c != 0) = true := by simpa using hc
  unfold faultV
  go_enter Tryz.func25, Tryz.ntmps25
  go_wp2_with fail
  go_ret
  exact ⟨rfl, (Below.refl _ _).alloc (Nat.le_refl _) _⟩
end Go.Proofs.YtjacenhblclkaaaGreatDoor
