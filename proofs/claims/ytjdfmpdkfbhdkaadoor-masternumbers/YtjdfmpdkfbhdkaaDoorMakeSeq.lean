
/- How a list of numbers that came in is handed to phoenixmake.Rec, and small facts on a byte that is turned. -/
import Derived.Test.YtjdfmpdkfbhdkaaDoorRecMake
import Derived.Test.YtjdfmpdkfbhdkaaDoorRecFirst
import Derived.Test.YtjdfmpdkfbhdkaaDoorRecRead
import Derived.Test.YtjdfmpdkfbhdkaaDoorFrame
namespace Go.Proofs.YtjdfmpdkfbhdkaaDoor
open Go.RowKit
set_option linter.unusedVariables false

theorem copy_len (ao : Option Addr) (n cap : Nat) (xs : List Int) (w : World) (h : Row w ao xs) (hn : xs.length = n) :
    Calls Tryd.prog 15 #[.slice ao n cap] w fun e w' => ∃ g, e = .returned (.slice (some ⟨g, 0, none⟩) n n) ∧ w.heap.size ≤ g ∧ Own w' g (some ⟨g, 0, none⟩) n xs ∧ Below w.heap.size w w' := by
  subst hn
  exact (bytes_any ao cap xs w h).mono fun e w' h => ⟨w.heap.size, h.1, Nat.le_refl _, h.2.1, h.2.2⟩
theorem noRec_val : noRec.val = .agg #[.int .i64 0, .int .i64 0, .int .i64 0, .int .i64 0, .int .i64 0, .int .i64 0, .bool false, .bool false, .int .i64 0, .int .i64 0] := rfl
theorem xor_zero (b : Int) (h0 : 0 ≤ b) (h1 : b ≤ 255) : bits .xor .u8 0 b = b := by
  have hk : ∀ n : Fin 256, bits .xor .u8 0 ((n : Nat) : Int) = ((n : Nat) : Int) := by decide +kernel
  have := hk ⟨b.toNat, by omega⟩
  rwa [show (((⟨b.toNat, by omega⟩ : Fin 256) : Nat) : Int) = b by simp; omega] at this
theorem or_four (b : Int) (h0 : 0 ≤ b) (h1 : b ≤ 3) : bits .or .u8 b 4 = b + 4 := by
  have hk : ∀ n : Fin 4, bits .or .u8 ((n : Nat) : Int) 4 = ((n : Nat) : Int) + 4 := by decide +kernel
  have := hk ⟨b.toNat, by omega⟩
  rwa [show (((⟨b.toNat, by omega⟩ : Fin 4) : Nat) : Int) = b by simp; omega] at this
theorem byteAt_set (xs : List Int) (p : Nat) (v : Int) (h : p < xs.length) : byteAt (xs.set p v) p = v := by
  rw [byteAt_nat, List.getD_eq_getElem?_getD, List.getElem?_set, if_pos rfl, if_pos h]
  rfl
theorem set_getD (xs : List Int) (p : Nat) (v u : Int) (h : p < xs.length) (hu : xs.getD p 0 = u) : (xs.set p v).set p u = xs := by
  rw [List.set_set]
  refine List.ext_getElem (by simp) fun i h1 h2 => ?_
  rw [List.getElem_set]
  split
  · rename_i e
    subst e
    rw [List.getD_eq_getElem?_getD, List.getElem?_eq_getElem h2] at hu
    exact hu.symm
  · rfl
theorem rec_getD (r : R) (p : Nat) (h : p = 6 ∨ p = 7 ∨ p = 20 ∨ p = 21 ∨ p = 22 ∨ p = 23) : (recB r).getD p 0 = 0 := by
  rw [← byteAt_nat]
  exact recB_zero r p (by omega)
theorem rec_mark (r : R) : (recB r).getD 1 0 = markB r := by
  rw [← byteAt_nat]
  exact recB_mark r
theorem errs_read {w : World} {ks : List Nat} {a : Nat → Addr} (h : ErrsOf w ks a) (h1 : 1 ∈ ks) (h2 : 2 ∈ ks) (h3 : 3 ∈ ks) : ReadErrs w (a 1) (a 2) (a 3) := ⟨h.cell 1 h1, h.cell 2 h2, h.cell 3 h3⟩
end Go.Proofs.YtjdfmpdkfbhdkaaDoor
