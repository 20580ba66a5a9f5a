/- Lemmas and contracts that the law stands on, joined: RecReadRef. -/
import Derived.Test.YtjacenhblclkaaaDoorJoin7
import Derived.Test.YtjacenhblclkaaaDoorJoin15
/- What the document's own ReadRec answers: the same as rec.Read, the error as a number. -/
namespace Go.Proofs.YtjacenhblclkaaaDoor
open Go.RowKit
set_option linter.unusedVariables false

theorem and_one8 (m : Int) (h0 : 0 ≤ m) (h1 : m ≤ 255) : (bits .and .u8 m 1 == 1) = decide (m % 2 = 1) := by
  have hk : ∀ n : Fin 256, (bits .and .u8 ((n : Nat) : Int) 1 == 1) = decide (((n : Nat) : Int) % 2 = 1) := by decide +kernel
  have := hk ⟨m.toNat, by omega⟩
  rwa [show (((⟨m.toNat, by omega⟩ : Fin 256) : Nat) : Int) = m by simp; omega] at this
theorem and_two8 (m : Int) (h0 : 0 ≤ m) (h1 : m ≤ 255) : (bits .and .u8 m 2 == 2) = decide (m / 2 % 2 = 1) := by
  have hk : ∀ n : Fin 256, (bits .and .u8 ((n : Nat) : Int) 2 == 2) = decide (((n : Nat) : Int) / 2 % 2 = 1) := by decide +kernel
  have := hk ⟨m.toNat, by omega⟩
  rwa [show (((⟨m.toNat, by omega⟩ : Fin 256) : Nat) : Int) = m by simp; omega] at this
theorem getB_one (xs : List Int) (i : Nat) : getB xs i 1 = xs.getD i 0 := by
  rw [← byteAt_nat]
  unfold getB
  simp [num]
/-- A fact that is handed on, and not looked at. -/
structure Later (P : Prop) : Prop where
  out : P
theorem dup {P Q : Prop} (h : P) (k : Later P → Q) : Q := k ⟨h⟩
theorem wrap_in (n : Int) (h : 0 ≤ n ∧ n ≤ 9223372036854775807) : IntKind.i64.wrap n = n := by rw [IntWalk.i64_left]; exact IntWalk.wrap64_in n ⟨by omega, h.2⟩
theorem i64_left2 (n : Int) : IntKind.i64.wrap n = wrap64 n := IntWalk.i64_left n
theorem val_inj {r : R} {a b c d e f : Int} {g h : Bool} {i j : Int} (hv : r.val = .agg #[.int .i64 a, .int .i64 b, .int .i64 c, .int .i64 d, .int .i64 e, .int .i64 f, .bool g, .bool h, .int .i64 i, .int .i64 j]) : r = ⟨a, b, c, d, e, f, g, h, i, j⟩ := by
  obtain ⟨a1, b1, c1, d1, e1, f1, g1, h1, i1, j1⟩ := r
  simp [R.val] at hv
  obtain ⟨rfl, rfl, rfl, rfl, rfl, rfl, rfl, rfl, rfl, rfl⟩ := hv
  rfl
end Go.Proofs.YtjacenhblclkaaaDoor
