
/- Lists of which the first so many have turned; which versions a crash keeps of them. -/
import Derived.Test.YtedmgdiimfenaaaDoorLooseMath
namespace Go.Proofs.YtedmgdiimfenaaaDoor
set_option linter.unusedVariables false

/-- N times y, of which the first k are x. -/
def partRep {α : Type} (x y : α) (N k : Nat) : List α := List.replicate k x ++ List.replicate (N - k) y
theorem length_partRep {α : Type} (x y : α) (N k : Nat) (h : k ≤ N) : (partRep x y N k).length = N := by
  rw [partRep, List.length_append, List.length_replicate, List.length_replicate]; omega
theorem partRep_zero {α : Type} (x y : α) (N : Nat) : partRep x y N 0 = List.replicate N y := by
  unfold partRep
  rw [List.replicate_zero, List.nil_append, Nat.sub_zero]
theorem partRep_succ {α : Type} (x y : α) (N k : Nat) (h : k < N) : (partRep x y N k).set k x = partRep x y N (k + 1) := by
  unfold partRep
  rw [List.set_append_right _ _ (by rw [List.length_replicate]; exact Nat.le_refl _), List.length_replicate, Nat.sub_self, show N - k = (N - (k + 1)) + 1 by omega, List.replicate_succ, List.set_cons_zero, List.replicate_succ', List.append_assoc]
  rfl
theorem partRep_get {α : Type} (x y : α) (N k j : Nat) (h : j < N) (hk : k ≤ N) : (partRep x y N k)[j]? = some (if j < k then x else y) := by
  unfold partRep
  by_cases e : j < k
  · rw [List.getElem?_append_left (by rw [List.length_replicate]; exact e), List.getElem?_replicate, if_pos e, if_pos e]
  · rw [List.getElem?_append_right (by rw [List.length_replicate]; omega), List.length_replicate, List.getElem?_replicate, if_pos (by omega), if_neg e]
theorem verOf_partRep (x y : List (List Int)) (N k j : Nat) (h : j < N) (hk : k ≤ N) : verOf (partRep x y N k) j = if j < k then x else y := by
  rw [verOf, List.getD_eq_getElem?_getD, partRep_get x y N k j h hk]; rfl
theorem looseUp_partRep (x y : List (List Int)) (N n : Nat) (hn : n ≤ N) (hx : 1 < x.length) (hy : y.length = 1) : ∀ k, k ≤ N → (looseUp (partRep x y N n) k).length = min k n := by
  intro k
  induction k with
  | zero => intro _; simp [looseUp]
  | succ k ih =>
    intro hk
    have h1 := ih (by omega)
    have h2 := verOf_partRep x y N n k (by omega) hn
    by_cases e : k < n
    · rw [if_pos e] at h2
      rw [looseUp_yes (by rw [h2]; exact hx), List.length_append, h1]
      simp only [List.length_cons, List.length_nil]
      omega
    · rw [if_neg e] at h2
      rw [looseUp_no (by rw [h2]; omega), h1]
      omega
theorem looseL_partRep (x y : List (List Int)) (N n : Nat) (hn : n ≤ N) (hx : 1 < x.length) (hy : y.length = 1) : (looseL (partRep x y N n)).length = n := by
  rw [looseL, length_partRep x y N n hn, looseUp_partRep x y N n hn hx hy N (Nat.le_refl _)]; omega
theorem choice_one (M r : Nat) (h : r < M) : choiceB (List.replicate M 1) r 2 = 1 := by
  have e : (List.replicate M (1 : Int)).getD r 0 = 1 := by rw [List.getD_eq_getElem?_getD, List.getElem?_replicate, if_pos h]; rfl
  unfold choiceB
  rw [e, if_neg (by rw [List.length_replicate]; omega)]
  decide
/-- A sector that has no loose version keeps what it has. -/
theorem crashed_same {zs : List Int} {vss : List (List (List Int))} {k : Nat} {z : List Int} (hk : k < vss.length) (h : verOf vss k = [z]) : verOf (crashed zs vss) k = [z] := by
  rw [verOf_crashed hk, crashedSec, h, if_neg (by simp)]
/-- Of two versions that of number 1 is kept where 1 is asked for. -/
theorem crashed_two {vss : List (List (List Int))} {k M : Nat} {y z : List Int} (hk : k < vss.length) (hM : vss.length ≤ M) (h : verOf vss k = [y, z]) : verOf (crashed (List.replicate M 1) vss) k = [z] := by
  have hr : (looseUp vss k).length < M := Nat.lt_of_le_of_lt (looseUp_le vss k) (by omega)
  rw [verOf_crashed hk, crashedSec, h, if_pos (by simp)]
  show [[y, z].getD (choiceB (List.replicate M 1) (looseUp vss k).length 2) []] = [z]
  rw [choice_one M _ hr]
  rfl
theorem verOf_set (vss : List (List (List Int))) (k : Nat) (x : List (List Int)) (h : k < vss.length) : verOf (vss.set k x) k = x := by
  rw [verOf, List.getD_eq_getElem?_getD, List.getElem?_set, if_pos rfl, if_pos h]; rfl
end Go.Proofs.YtedmgdiimfenaaaDoor
