/- Lemmas and contracts that the law stands on, joined: Small. -/
import Derived.Test.YtjacenhblclkaaaDoorRows
import Derived.WalkKit
import Derived.WalkSpells
import Derived.WalkLawsBesides
/- The small functions that only reckon: what phoenixworld.Number, cell.width, cell.has and the document's own width answer, at all arguments that fit their kinds. -/
namespace Go.Proofs.YtjacenhblclkaaaDoor
open Go.RowKit
set_option linter.unusedVariables false

theorem ret_int {k : IntKind} {a b : Int} (h : a = b) : Ending.returned (.int k a) = .returned (.int k b) := by rw [h]
theorem ret_bool {a b : Bool} (h : a = b) : Ending.returned (.bool a) = .returned (.bool b) := by rw [h]

def widthB (s : Int) : Int := min (max s 1) 8
theorem widthB_bd (s : Int) : 1 ≤ widthB s ∧ widthB s ≤ 8 := by unfold widthB; omega

set_option maxHeartbeats 400000 in
theorem width_any (s : Int) (w : World) : Calls Tryd.prog 83 #[.int .i64 s] w fun e w' => e = .returned (.int .i64 (widthB s)) ∧ w' = w := by
  go_enter Tryd.func83, Tryd.ntmps83
  go_wp2
  all_goals
    go_ret
    refine ⟨ret_int ?_, rfl⟩
    unfold widthB
    omega

/-- phoenixworld.Number: the rest, brought from 0 on. -/
def numberB (n m : Int) : Int := n % m
theorem numberB_bd (n m : Int) (h : 0 < m) : 0 ≤ numberB n m ∧ numberB n m < m := ⟨Int.emod_nonneg _ (by omega), Int.emod_lt_of_pos _ h⟩

theorem tmod_cases (n m : Int) (h : 0 < m) : (n.tmod m < 0 → n.tmod m + m = n % m) ∧ (0 ≤ n.tmod m → n.tmod m = n % m) ∧ -m < n.tmod m ∧ n.tmod m < m := by
  have e := Int.mul_tdiv_add_tmod n m
  have l1 : n.tmod m < m := Int.tmod_lt_of_pos n h
  have l2 : -m < n.tmod m := by
    have := Int.lt_tmod_of_pos n h
    omega
  have key : ∀ r q : Int, m * q + r = n → 0 ≤ r → r < m → r = n % m := by
    intro r q h1 h2 h3
    rw [← h1, Int.add_comm, Int.add_mul_emod_self_left, Int.emod_eq_of_lt h2 h3]
  refine ⟨fun hn => ?_, fun hp => ?_, l2, l1⟩
  · refine key _ (n.tdiv m - 1) ?_ (by omega) (by omega)
    rw [Int.mul_sub]; omega
  · exact key _ _ e hp l1

set_option maxHeartbeats 400000 in
theorem number_any (n m : Int) (w : World) (h0 : 0 < m) (h1 : m ≤ 100000) : Calls Tryd.prog 11 #[.int .i64 n, .int .i64 m] w fun e w' => e = .returned (.int .i64 (numberB n m)) ∧ w' = w := by
  obtain ⟨t1, t2, t3, t4⟩ := tmod_cases n m h0
  have hne : (m == 0) = false := by simp; omega
  have hm1 : m ≠ 0 := by omega
  go_enter Tryd.func11, Tryd.ntmps11
  go_wp2
  all_goals
    go_ret
  · exact ⟨ret_int rfl, rfl⟩
  · exact ⟨ret_int (t2 (by assumption)), rfl⟩
def hasB (len : Nat) (at_ i : Int) : Bool := decide (-i ≤ at_ ∧ at_ < (len : Int) - i)
set_option maxHeartbeats 400000 in
theorem has_any (ao : Option Addr) (len cap : Nat) (a i : Int) (w : World) (hl : len ≤ 4294967296) (h0 : 0 ≤ i) (h1 : i ≤ 8) (ha : -9223372036854775808 ≤ a) (ha' : a ≤ 9223372036854775807) :
    Calls Tryd.prog 84 #[.slice ao len cap, .int .i64 a, .int .i64 i] w fun e w' => e = .returned (.bool (hasB len a i)) ∧ w' = w := by
  go_enter Tryd.func84, Tryd.ntmps84
  go_wp2
  all_goals
    go_ret
    refine ⟨ret_bool ?_, rfl⟩
    unfold hasB
    simp
    omega
end Go.Proofs.YtjacenhblclkaaaDoor
