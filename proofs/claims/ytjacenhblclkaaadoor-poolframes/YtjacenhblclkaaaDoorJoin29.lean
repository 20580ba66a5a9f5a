/- Lemmas and contracts that the law stands on, joined: LooseMath, FuseMath. -/
import Derived.Test.YtjacenhblclkaaaDoorRows
/- Which sectors have loose versions, and which version each keeps in a crash: plain lists and numbers. -/
namespace Go.Proofs.YtjacenhblclkaaaDoor
set_option linter.unusedVariables false

/-- The versions of sector i. -/
def verOf (vss : List (List (List Int))) (i : Nat) : List (List Int) := vss.getD i []
/-- Of the first k sectors those that have loose versions, and how many. -/
def looseUp (vss : List (List (List Int))) : Nat → List (Nat × Nat)
  | 0 => []
  | k + 1 => if 1 < (verOf vss k).length then looseUp vss k ++ [(k, (verOf vss k).length - 1)] else looseUp vss k
def looseL (vss : List (List (List Int))) : List (Nat × Nat) := looseUp vss vss.length
theorem looseUp_yes {vss : List (List (List Int))} {k : Nat} (h : 1 < (verOf vss k).length) : looseUp vss (k + 1) = looseUp vss k ++ [(k, (verOf vss k).length - 1)] := by rw [looseUp, if_pos h]
theorem looseUp_no {vss : List (List (List Int))} {k : Nat} (h : ¬ 1 < (verOf vss k).length) : looseUp vss (k + 1) = looseUp vss k := by rw [looseUp, if_neg h]
theorem looseUp_le (vss : List (List (List Int))) (k : Nat) : (looseUp vss k).length ≤ k := by
  induction k with
  | zero => simp [looseUp]
  | succ k ih => rw [looseUp]; split <;> (try simp only [List.length_append, List.length_cons, List.length_nil]) <;> omega
theorem looseUp_mono (vss : List (List (List Int))) (k m : Nat) : (looseUp vss k).length ≤ (looseUp vss (k + m)).length := by
  induction m with
  | zero => exact Nat.le_refl _
  | succ m ih => rw [← Nat.add_assoc, looseUp]; split <;> (try simp only [List.length_append, List.length_cons, List.length_nil]) <;> omega
theorem looseUp_at (vss : List (List (List Int))) (i : Nat) (hi : 1 < (verOf vss i).length) : ∀ N, i < N → (looseUp vss N)[(looseUp vss i).length]? = some (i, (verOf vss i).length - 1) := by
  intro N
  induction N with
  | zero => intro h; omega
  | succ N ih =>
    intro h
    by_cases e : i = N
    · subst e
      rw [looseUp_yes hi]
      simp
    · have h1 := ih (by omega)
      rw [looseUp]
      split
      · rw [List.getElem?_append_left (List.getElem?_eq_some_iff.1 h1).1]
        exact h1
      · exact h1
theorem looseUp_of (vss : List (List (List Int))) : ∀ N t, t < (looseUp vss N).length → ∃ i, i < N ∧ 1 < (verOf vss i).length ∧ (looseUp vss i).length = t := by
  intro N
  induction N with
  | zero => intro t h; simp [looseUp] at h
  | succ N ih =>
    intro t h
    by_cases hN : 1 < (verOf vss N).length
    · rw [looseUp_yes hN] at h
      simp only [List.length_append, List.length_cons, List.length_nil] at h
      by_cases e : t < (looseUp vss N).length
      · obtain ⟨i, h1, h2, h3⟩ := ih t e
        exact ⟨i, by omega, h2, h3⟩
      · exact ⟨N, by omega, hN, by omega⟩
    · rw [looseUp_no hN] at h
      obtain ⟨i, h1, h2, h3⟩ := ih t h
      exact ⟨i, by omega, h2, h3⟩
theorem looseL_at {vss : List (List (List Int))} {t : Nat} {q : Nat × Nat} (h : (looseL vss)[t]? = some q) : q.1 < vss.length ∧ 1 < (verOf vss q.1).length ∧ q.2 + 1 = (verOf vss q.1).length ∧ (looseUp vss q.1).length = t := by
  have ht := (List.getElem?_eq_some_iff.1 h).1
  obtain ⟨i, h1, h2, h3⟩ := looseUp_of vss vss.length t ht
  have h4 := looseUp_at vss i h2 vss.length h1
  rw [h3] at h4
  rw [show (looseL vss)[t]? = (looseUp vss vss.length)[t]? from rfl, h4] at h
  cases h
  exact ⟨h1, h2, by simp only; omega, h3⟩
theorem looseL_uniq {vss : List (List (List Int))} {t k : Nat} {q : Nat × Nat} (h : (looseL vss)[t]? = some q) (hk : k < vss.length) (hl : 1 < (verOf vss k).length) (hr : (looseUp vss k).length = t) : k = q.1 := by
  have h1 := looseUp_at vss k hl vss.length hk
  rw [hr] at h1
  rw [show (looseL vss)[t]? = (looseUp vss vss.length)[t]? from rfl, h1] at h
  cases h
  rfl
theorem looseL_le (vss : List (List (List Int))) : (looseL vss).length ≤ vss.length := looseUp_le _ _
theorem looseUp_nil {vss : List (List (List Int))} (h : ∀ k, k < vss.length → (verOf vss k).length ≤ 1) : ∀ N, N ≤ vss.length → looseUp vss N = [] := by
  intro N
  induction N with
  | zero => intro _; rfl
  | succ N ih => intro hN; rw [looseUp_no (by have := h N (by omega); omega)]; exact ih (by omega)
theorem looseL_nil {vss : List (List (List Int))} (h : ∀ k, k < vss.length → (verOf vss k).length ≤ 1) : looseL vss = [] := looseUp_nil h _ (Nat.le_refl _)

/-- Which of n versions the one of rank i keeps. -/
def choiceB (zs : List Int) (i n : Nat) : Nat := if zs.length ≤ i ∨ zs.getD i 0 < 0 then 0 else (zs.getD i 0 % n).toNat
theorem choiceB_lt (zs : List Int) (i n : Nat) (h : 0 < n) : choiceB zs i n < n := by
  unfold choiceB
  split
  · exact h
  · have h1 := Int.emod_nonneg (zs.getD i 0) (show (n : Int) ≠ 0 by omega)
    have h2 := Int.emod_lt_of_pos (zs.getD i 0) (show (0 : Int) < n by omega)
    omega
/-- What sector k has behind a crash. -/
def crashedSec (zs : List Int) (vss : List (List (List Int))) (k : Nat) : List (List Int) :=
  if 1 < (verOf vss k).length then [(verOf vss k).getD (choiceB zs (looseUp vss k).length (verOf vss k).length) []] else verOf vss k
/-- What all sectors have, the first t loose ones crashed. -/
def crashUp (zs : List Int) (vss : List (List (List Int))) (t : Nat) : List (List (List Int)) :=
  (List.range vss.length).map fun k => if (looseUp vss k).length < t then crashedSec zs vss k else verOf vss k
def crashed (zs : List Int) (vss : List (List (List Int))) : List (List (List Int)) := (List.range vss.length).map (crashedSec zs vss)
theorem length_crashUp (zs : List Int) (vss : List (List (List Int))) (t : Nat) : (crashUp zs vss t).length = vss.length := by simp [crashUp]
theorem length_crashed (zs : List Int) (vss : List (List (List Int))) : (crashed zs vss).length = vss.length := by simp [crashed]
theorem range_self (vss : List (List (List Int))) : (List.range vss.length).map (verOf vss) = vss := by
  apply List.ext_getElem
  · simp
  · intro i h1 h2
    simp [verOf, List.getD_eq_getElem?_getD, List.getElem?_eq_getElem h2]
theorem crashUp_zero (zs : List Int) (vss : List (List (List Int))) : crashUp zs vss 0 = vss := by
  unfold crashUp
  simp only [Nat.not_lt_zero, if_false]
  exact range_self vss
theorem crashUp_get {zs : List Int} {vss : List (List (List Int))} {t k : Nat} (hk : k < vss.length) : (crashUp zs vss t)[k]? = some (if (looseUp vss k).length < t then crashedSec zs vss k else verOf vss k) := by
  unfold crashUp
  rw [List.getElem?_map, List.getElem?_range hk]
  rfl
theorem crashUp_at {zs : List Int} {vss : List (List (List Int))} {t : Nat} {q : Nat × Nat} (h : (looseL vss)[t]? = some q) : (crashUp zs vss t)[q.1]? = some (verOf vss q.1) := by
  obtain ⟨h1, h2, h3, h4⟩ := looseL_at h
  rw [crashUp_get h1, if_neg (by omega)]
theorem crashUp_succ {zs : List Int} {vss : List (List (List Int))} {t : Nat} {q : Nat × Nat} (h : (looseL vss)[t]? = some q) : (crashUp zs vss t).set q.1 [(verOf vss q.1).getD (choiceB zs t (q.2 + 1)) []] = crashUp zs vss (t + 1) := by
  obtain ⟨h1, h2, h3, h4⟩ := looseL_at h
  apply List.ext_getElem?
  intro k
  by_cases k2 : k < vss.length
  · rw [List.getElem?_set]
    by_cases e : q.1 = k
    · rw [if_pos e, if_pos (by rw [length_crashUp]; exact h1)]
      subst e
      rw [crashUp_get k2, if_pos (by omega), crashedSec, if_pos h2, h4, h3]
    · rw [if_neg e, crashUp_get k2, crashUp_get k2]
      by_cases e1 : (looseUp vss k).length < t
      · rw [if_pos e1, if_pos (by omega)]
      · rw [if_neg e1]
        by_cases e2 : (looseUp vss k).length < t + 1
        · rw [if_pos e2, crashedSec]
          by_cases e3 : 1 < (verOf vss k).length
          · exact absurd (looseL_uniq h k2 e3 (by omega)).symm e
          · rw [if_neg e3]
        · rw [if_neg e2]
  · rw [List.getElem?_eq_none (by rw [List.length_set, length_crashUp]; omega), List.getElem?_eq_none (by rw [length_crashUp]; omega)]
theorem crashUp_all (zs : List Int) (vss : List (List (List Int))) : crashUp zs vss (looseL vss).length = crashed zs vss := by
  unfold crashUp crashed
  apply List.map_congr_left
  intro k hk
  have hk' : k < vss.length := by simpa using hk
  by_cases e : (looseUp vss k).length < (looseL vss).length
  · rw [if_pos e]
  · rw [if_neg e, crashedSec]
    by_cases e3 : 1 < (verOf vss k).length
    · have := looseUp_at vss k e3 vss.length hk'
      exact absurd (List.getElem?_eq_some_iff.1 this).1 e
    · rw [if_neg e3]
theorem verOf_crashed {zs : List Int} {vss : List (List (List Int))} {k : Nat} (hk : k < vss.length) : verOf (crashed zs vss) k = crashedSec zs vss k := by
  simp [verOf, crashed, List.getD_eq_getElem?_getD, List.getElem?_range hk]
theorem crashedSec_one {zs : List Int} {vss : List (List (List Int))} {k : Nat} (h : 1 ≤ (verOf vss k).length) : (crashedSec zs vss k).length = 1 := by
  unfold crashedSec
  split
  · rfl
  · omega
/-- What a sector has behind a crash is one of its versions. -/
theorem crashedSec_mem {zs : List Int} {vss : List (List (List Int))} {k : Nat} (h : 1 ≤ (verOf vss k).length) : ∃ v ∈ verOf vss k, crashedSec zs vss k = [v] := by
  unfold crashedSec
  split
  · rename_i h1
    have h2 := choiceB_lt zs (looseUp vss k).length (verOf vss k).length (by omega)
    refine ⟨(verOf vss k)[choiceB zs (looseUp vss k).length (verOf vss k).length], List.getElem_mem h2, ?_⟩
    rw [List.getD_eq_getElem?_getD, List.getElem?_eq_getElem h2]
    rfl
  · have h1 : (verOf vss k).length = 1 := by omega
    obtain ⟨v, hv⟩ := List.length_eq_one_iff.1 h1
    exact ⟨v, by rw [hv]; simp, hv⟩
end Go.Proofs.YtjacenhblclkaaaDoor

/- Lists of which the first so many have turned; which versions a crash keeps of them. -/
namespace Go.Proofs.YtjacenhblclkaaaDoor
set_option linter.unusedVariables false

/-- N times y, of which the first k are x. -/
def partRep {α : Type} (x y : α) (N k : Nat) : List α := List.replicate k x ++ List.replicate (N - k) y
theorem length_partRep {α : Type} (x y : α) (N k : Nat) (h : k ≤ N) : (partRep x y N k).length = N := by
  rw [partRep, List.length_append, List.length_replicate, List.length_replicate]; omega
theorem partRep_zero {α : Type} (x y : α) (N : Nat) : partRep x y N 0 = List.replicate N y := by
  unfold partRep
  rw [List.replicate_zero, List.nil_append, Nat.sub_zero]
theorem partRep_succ {α : Type} (x y : α) (N k : Nat) (h : k < N) : (partRep x y N k).set k x = partRep x y N (k + 1) := by
  unfold partRep
  rw [List.set_append_right _ _ (by rw [List.length_replicate]; exact Nat.le_refl _), List.length_replicate, Nat.sub_self, show N - k = (N - (k + 1)) + 1 by omega, List.replicate_succ, List.set_cons_zero, List.replicate_succ', List.append_assoc]
  rfl
theorem partRep_get {α : Type} (x y : α) (N k j : Nat) (h : j < N) (hk : k ≤ N) : (partRep x y N k)[j]? = some (if j < k then x else y) := by
  unfold partRep
  by_cases e : j < k
  · rw [List.getElem?_append_left (by rw [List.length_replicate]; exact e), List.getElem?_replicate, if_pos e, if_pos e]
  · rw [List.getElem?_append_right (by rw [List.length_replicate]; omega), List.length_replicate, List.getElem?_replicate, if_pos (by omega), if_neg e]
theorem verOf_partRep (x y : List (List Int)) (N k j : Nat) (h : j < N) (hk : k ≤ N) : verOf (partRep x y N k) j = if j < k then x else y := by
  rw [verOf, List.getD_eq_getElem?_getD, partRep_get x y N k j h hk]; rfl
theorem looseUp_partRep (x y : List (List Int)) (N n : Nat) (hn : n ≤ N) (hx : 1 < x.length) (hy : y.length = 1) : ∀ k, k ≤ N → (looseUp (partRep x y N n) k).length = min k n := by
  intro k
  induction k with
  | zero => intro _; simp [looseUp]
  | succ k ih =>
    intro hk
    have h1 := ih (by omega)
    have h2 := verOf_partRep x y N n k (by omega) hn
    by_cases e : k < n
    · rw [if_pos e] at h2
      rw [looseUp_yes (by rw [h2]; exact hx), List.length_append, h1]
      simp only [List.length_cons, List.length_nil]
      omega
    · rw [if_neg e] at h2
      rw [looseUp_no (by rw [h2]; omega), h1]
      omega
theorem looseL_partRep (x y : List (List Int)) (N n : Nat) (hn : n ≤ N) (hx : 1 < x.length) (hy : y.length = 1) : (looseL (partRep x y N n)).length = n := by
  rw [looseL, length_partRep x y N n hn, looseUp_partRep x y N n hn hx hy N (Nat.le_refl _)]; omega
theorem choice_one (M r : Nat) (h : r < M) : choiceB (List.replicate M 1) r 2 = 1 := by
  have e : (List.replicate M (1 : Int)).getD r 0 = 1 := by rw [List.getD_eq_getElem?_getD, List.getElem?_replicate, if_pos h]; rfl
  unfold choiceB
  rw [e, if_neg (by rw [List.length_replicate]; omega)]
  decide
/-- A sector that has no loose version keeps what it has. -/
theorem crashed_same {zs : List Int} {vss : List (List (List Int))} {k : Nat} {z : List Int} (hk : k < vss.length) (h : verOf vss k = [z]) : verOf (crashed zs vss) k = [z] := by
  rw [verOf_crashed hk, crashedSec, h, if_neg (by simp)]
/-- Of two versions that of number 1 is kept where 1 is asked for. -/
theorem crashed_two {vss : List (List (List Int))} {k M : Nat} {y z : List Int} (hk : k < vss.length) (hM : vss.length ≤ M) (h : verOf vss k = [y, z]) : verOf (crashed (List.replicate M 1) vss) k = [z] := by
  have hr : (looseUp vss k).length < M := Nat.lt_of_le_of_lt (looseUp_le vss k) (by omega)
  rw [verOf_crashed hk, crashedSec, h, if_pos (by simp)]
  show [[y, z].getD (choiceB (List.replicate M 1) (looseUp vss k).length 2) []] = [z]
  rw [choice_one M _ hr]
  rfl
theorem verOf_set (vss : List (List (List Int))) (k : Nat) (x : List (List Int)) (h : k < vss.length) : verOf (vss.set k x) k = x := by
  rw [verOf, List.getD_eq_getElem?_getD, List.getElem?_set, if_pos rfl, if_pos h]; rfl
end Go.Proofs.YtjacenhblclkaaaDoor
