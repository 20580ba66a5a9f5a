
/- Plain lemmas on masters: which may be, their bytes, what bytes say; no Go text here. -/
import Derived.Test.YtjdfmpdkfbhdkaaDoorBlockMath
import Derived.Test.YtjdfmpdkfbhdkaaDoorMakeSeq
namespace Go.Proofs.YtjdfmpdkfbhdkaaDoor
open Go.RowKit
set_option linter.unusedVariables false

/-- A master as plain data: epoch, base, reset, ckpt, pages, blocks, frames. -/
structure M where
  e : Int
  b : Int
  r : Int
  c : Int
  p : Int
  k : Int
  f : Int
/-- A master as a value. -/
def M.val (m : M) : Value := .agg #[.int .i64 m.e, .int .i64 m.b, .int .i64 m.r, .int .i64 m.c, .int .i64 m.p, .int .i64 m.k, .int .i64 m.f]
/-- Its numbers, in their order. -/
def M.nth (m : M) (i : Nat) : Int := [m.e, m.b, m.r, m.c, m.p, m.k, m.f].getD i 0
theorem M.ext7 {x y : M} (h0 : x.e = y.e) (h1 : x.b = y.b) (h2 : x.r = y.r) (h3 : x.c = y.c) (h4 : x.p = y.p) (h5 : x.k = y.k) (h6 : x.f = y.f) : x = y := by
  obtain ⟨a0, a1, a2, a3, a4, a5, a6⟩ := x
  obtain ⟨b0, b1, b2, b3, b4, b5, b6⟩ := y
  simp only at h0 h1 h2 h3 h4 h5 h6
  subst h0; subst h1; subst h2; subst h3; subst h4; subst h5; subst h6
  rfl
def ckM (m : M) : Bool := (m.c == 0) || (decide (m.b < m.c) && decide (m.c ≤ 1073741824))
/-- A master that may be. -/
def okM (m : M) : Bool := holdsB 1 1073741824 m.e && (holdsB 0 1073741824 m.b && (holdsB 1 m.e m.r && (ckM m && (holdsB 1 32 m.p && (holdsB 1 64 m.k && holdsB 1 8 m.f)))))
structure M.Ok (m : M) : Prop where
  e : 1 ≤ m.e ∧ m.e ≤ 1073741824
  b : 0 ≤ m.b ∧ m.b ≤ 1073741824
  r : 1 ≤ m.r ∧ m.r ≤ m.e
  c : m.c = 0 ∨ (m.b < m.c ∧ m.c ≤ 1073741824)
  p : 1 ≤ m.p ∧ m.p ≤ 32
  k : 1 ≤ m.k ∧ m.k ≤ 64
  f : 1 ≤ m.f ∧ m.f ≤ 8
theorem ckM_iff (m : M) : ckM m = true ↔ m.c = 0 ∨ (m.b < m.c ∧ m.c ≤ 1073741824) := by simp [ckM]
theorem okM_iff (m : M) : okM m = true ↔ m.Ok := by
  simp only [okM, Bool.and_eq_true, holdsB_iff, ckM_iff]
  exact ⟨fun ⟨a, b, c, d, e, f, g⟩ => ⟨a, b, c, d, e, f, g⟩, fun ⟨a, b, c, d, e, f, g⟩ => ⟨a, b, c, d, e, f, g⟩⟩
theorem M.Ok.nth {m : M} (h : m.Ok) (i : Nat) : 0 ≤ m.nth i ∧ m.nth i ≤ 1073741824 := by
  obtain ⟨h0, h1, h2, h3, h4, h5, h6⟩ := h
  match i with
  | 0 => show 0 ≤ m.e ∧ m.e ≤ _; omega
  | 1 => show 0 ≤ m.b ∧ m.b ≤ _; omega
  | 2 => show 0 ≤ m.r ∧ m.r ≤ _; omega
  | 3 => show 0 ≤ m.c ∧ m.c ≤ _; omega
  | 4 => show 0 ≤ m.p ∧ m.p ≤ _; omega
  | 5 => show 0 ≤ m.k ∧ m.k ≤ _; omega
  | 6 => show 0 ≤ m.f ∧ m.f ≤ _; omega
  | n + 7 => show (0 : Int) ≤ 0 ∧ (0 : Int) ≤ _; omega
/-- A master's bytes with its first k numbers put. -/
def mastUp (m : M) : Nat → List Int
  | 0 => fillB [80, 72, 88, 77] 256
  | k + 1 => putB (mastUp m k) (4 + (k : Int) * 4) (m.nth k) 4
/-- A master's bytes. -/
def mastB (m : M) : List Int := mastUp m 7
theorem length_mastUp (m : M) (k : Nat) : (mastUp m k).length = 256 := by
  induction k with
  | zero => rw [mastUp, length_fillB]; rfl
  | succ k ih => rw [mastUp, length_putB, ih]
theorem length_mastB (m : M) : (mastB m).length = 256 := length_mastUp m 7
theorem bytes_mast0 : Bytes [80, 72, 88, 77] := by
  intro x hx
  simp at hx
  omega
theorem bytes_mastUp (m : M) (k : Nat) : Bytes (mastUp m k) := by
  induction k with
  | zero => exact bytes_mast0.grownB _
  | succ k ih => exact ih.putB _ _ _
theorem bytes_mastB (m : M) : Bytes (mastB m) := bytes_mastUp m 7
theorem byteAt_mastUp_hi (m : M) (k : Nat) (p : Int) (h : 4 + (k : Int) * 4 ≤ p) : byteAt (mastUp m k) p = byteAt [80, 72, 88, 77] p := by
  induction k with
  | zero => rw [mastUp, byteAt_fillB]
  | succ k ih => rw [mastUp, byteAt_putB, if_neg (by omega), ih (by omega)]
theorem byteAt_mastUp_lo (m : M) (k : Nat) (p : Int) (h : p < 4) : byteAt (mastUp m k) p = byteAt [80, 72, 88, 77] p := by
  induction k with
  | zero => rw [mastUp, byteAt_fillB]
  | succ k ih => rw [mastUp, byteAt_putB, if_neg (by omega), ih]
theorem mastB_out (m : M) (p : Int) (h : 32 ≤ p) : byteAt (mastB m) p = 0 := by
  rw [mastB, byteAt_mastUp_hi m 7 p (by omega), byteAt_out]
  simp only [List.length_cons, List.length_nil]
  omega
theorem mastB_mark (m : M) (p : Int) (h : p < 4) : byteAt (mastB m) p = byteAt [80, 72, 88, 77] p := byteAt_mastUp_lo m 7 p h
theorem get_mastUp (m : M) (h : ∀ i, 0 ≤ m.nth i ∧ m.nth i ≤ 1073741824) (k j : Nat) (hj : j < k) (hk : k ≤ 7) : getB (mastUp m k) (4 + (j : Int) * 4) 4 = m.nth j := by
  induction k with
  | zero => omega
  | succ k ih =>
    by_cases hjk : j = k
    · subst hjk
      rw [mastUp, get_put_same _ _ _ _ (by omega) (by rw [length_mastUp]; omega)]
      exact mod_lt (h j).1 (by have := (h j).2; omega)
    · rw [mastUp, get_put_other _ _ _ _ _ _ (by omega)]
      exact ih (by omega) (by omega)
/-- What bytes say, be it a master or not. -/
def saidM (xs : List Int) : M := ⟨getB xs 4 4, getB xs 8 4, getB xs 12 4, getB xs 16 4, getB xs 20 4, getB xs 24 4, getB xs 28 4⟩
theorem said_nth (xs : List Int) (i : Nat) (h : i < 7) : (saidM xs).nth i = getB xs (4 + (i : Int) * 4) 4 := by
  rcases (show i = 0 ∨ i = 1 ∨ i = 2 ∨ i = 3 ∨ i = 4 ∨ i = 5 ∨ i = 6 by omega) with rfl | rfl | rfl | rfl | rfl | rfl | rfl <;> rfl
theorem said_mastB {m : M} (h : m.Ok) : saidM (mastB m) = m := by
  have g := fun j hj => get_mastUp m h.nth 7 j hj (Nat.le_refl _)
  exact M.ext7 (g 0 (by omega)) (g 1 (by omega)) (g 2 (by omega)) (g 3 (by omega)) (g 4 (by omega)) (g 5 (by omega)) (g 6 (by omega))
/-- The bytes are a master's. -/
def isMast (xs : List Int) : Bool := okM (saidM xs) && decide (mastB (saidM xs) = xs)
theorem isMast_mastB {m : M} (h : okM m = true) : isMast (mastB m) = true := by
  unfold isMast
  rw [said_mastB ((okM_iff m).1 h), h]
  simp
theorem mastB_inj {a b : M} (ha : okM a = true) (hb : okM b = true) (h : mastB a = mastB b) : a = b := by
  rw [← said_mastB ((okM_iff a).1 ha), ← said_mastB ((okM_iff b).1 hb), h]
def noM : M := ⟨0, 0, 0, 0, 0, 0, 0⟩
/-- The same in each number. -/
def sameM (a b : M) : Bool := (a.e == b.e) && ((a.b == b.b) && ((a.r == b.r) && ((a.c == b.c) && ((a.p == b.p) && ((a.k == b.k) && (a.f == b.f))))))
theorem sameM_iff (a b : M) : sameM a b = true ↔ a = b := by
  constructor
  · intro h
    simp only [sameM, Bool.and_eq_true, beq_iff_eq] at h
    obtain ⟨h0, h1, h2, h3, h4, h5, h6⟩ := h
    exact M.ext7 h0 h1 h2 h3 h4 h5 h6
  · intro h
    subst h
    simp [sameM]
theorem sameM_refl (a : M) : sameM a a = true := (sameM_iff a a).2 rfl
/-- Where the mark or a zero is another byte there is no master. -/
theorem isMast_mark {xs : List Int} (p : Int) (h : p < 4 ∨ 32 ≤ p) (hx : byteAt xs p ≠ (if p < 4 then byteAt [80, 72, 88, 77] p else 0)) : isMast xs = false := by
  unfold isMast
  rw [Bool.and_eq_false_iff]
  refine .inr (decide_eq_false fun e => hx ?_)
  rw [← e]
  split
  · rename_i h4; exact mastB_mark _ p h4
  · rename_i h4; exact mastB_out _ p (by omega)
/-- A byte turned in the mark, or behind the numbers: no master. -/
theorem turned_mast {m : M} {k : Nat} (hk : k < 256) (hh : k < 4 ∨ 32 ≤ k) {v : Int} (hv : v ≠ (mastB m).getD k 0) : isMast ((mastB m).set k v) = false := by
  refine isMast_mark (k : Int) (by omega) ?_
  rw [byteAt_set _ _ _ (by rw [length_mastB]; exact hk)]
  intro e
  apply hv
  rw [e, ← byteAt_nat]
  split
  · rename_i h4; exact (mastB_mark m k h4).symm
  · rename_i h4; exact (mastB_out m k (by omega)).symm
/-- A byte turned anywhere: another master, or none. -/
theorem turned_mastO {m : M} (hm : okM m = true) {k : Nat} (hk : k < 256) {v : Int} (hv : v ≠ (mastB m).getD k 0) (hi : isMast ((mastB m).set k v) = true) : sameM (saidM ((mastB m).set k v)) m = false := by
  cases hs : sameM (saidM ((mastB m).set k v)) m with
  | false => rfl
  | true =>
    have h1 := (sameM_iff _ _).1 hs
    unfold isMast at hi
    rw [h1, hm] at hi
    simp only [Bool.true_and, decide_eq_true_eq] at hi
    exfalso
    apply hv
    have h2 : ((mastB m).set k v).getD k 0 = (mastB m).getD k 0 := by rw [← hi]
    rw [← byteAt_nat, byteAt_set _ _ _ (by rw [length_mastB]; exact hk)] at h2
    exact h2
/-- A sector of zeros is no master. -/
theorem zeros_mast : isMast (List.replicate 256 0) = false := by
  refine isMast_mark 0 (by omega) ?_
  decide +kernel
/-- Numbers cut to what may be. -/
def goodM (m : M) : M :=
  let e := numberB m.e 1073741824 + 1
  let b := numberB m.b 1073741824
  ⟨e, b, numberB m.r e + 1, if m.c = 0 then 0 else b + 1 + numberB m.c (1073741824 - b), numberB m.p 32 + 1, numberB m.k 64 + 1, numberB m.f 8 + 1⟩
theorem goodM_ok (m : M) : okM (goodM m) = true := by
  have h0 := numberB_bd m.e 1073741824 (by omega)
  have h1 := numberB_bd m.b 1073741824 (by omega)
  have h2 := numberB_bd m.r (numberB m.e 1073741824 + 1) (by omega)
  have h3 := numberB_bd m.c (1073741824 - numberB m.b 1073741824) (by omega)
  have h4 := numberB_bd m.p 32 (by omega)
  have h5 := numberB_bd m.k 64 (by omega)
  have h6 := numberB_bd m.f 8 (by omega)
  refine (okM_iff _).2 ⟨?_, ?_, ?_, ?_, ?_, ?_, ?_⟩
  · show 1 ≤ numberB m.e 1073741824 + 1 ∧ numberB m.e 1073741824 + 1 ≤ _; omega
  · show 0 ≤ numberB m.b 1073741824 ∧ numberB m.b 1073741824 ≤ _; omega
  · show 1 ≤ numberB m.r (numberB m.e 1073741824 + 1) + 1 ∧ numberB m.r (numberB m.e 1073741824 + 1) + 1 ≤ numberB m.e 1073741824 + 1; omega
  · show (if m.c = 0 then 0 else numberB m.b 1073741824 + 1 + numberB m.c (1073741824 - numberB m.b 1073741824)) = 0 ∨ (numberB m.b 1073741824 < (if m.c = 0 then 0 else numberB m.b 1073741824 + 1 + numberB m.c (1073741824 - numberB m.b 1073741824)) ∧ (if m.c = 0 then 0 else numberB m.b 1073741824 + 1 + numberB m.c (1073741824 - numberB m.b 1073741824)) ≤ 1073741824)
    split <;> omega
  · show 1 ≤ numberB m.p 32 + 1 ∧ numberB m.p 32 + 1 ≤ 32; omega
  · show 1 ≤ numberB m.k 64 + 1 ∧ numberB m.k 64 + 1 ≤ 64; omega
  · show 1 ≤ numberB m.f 8 + 1 ∧ numberB m.f 8 + 1 ≤ 8; omega
end Go.Proofs.YtjdfmpdkfbhdkaaDoor
