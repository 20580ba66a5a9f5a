/- Lemmas and contracts that the law stands on, joined: BlockTools. -/
import Derived.Test.YtjacenhblclkaaaDoorJoin23
import Derived.Test.YtjacenhblclkaaaDoorJoin24
import Derived.Test.YtjacenhblclkaaaDoorJoin25
import Derived.Test.YtjacenhblclkaaaDoorJoin5
/- Small facts for the walks over blocks: a byte that is turned by another, what a block's own list is. -/
namespace Go.Proofs.YtjacenhblclkaaaDoor
open Go.RowKit
set_option linter.unusedVariables false

theorem xor_nat (a b : Nat) (ha : a < 256) (hb : b < 256) : bits .xor .u8 (a : Int) (b : Int) = ((a ^^^ b : Nat) : Int) := by
  have hx : a ^^^ b < 2 ^ 8 := Nat.xor_lt_two_pow (by omega) (by omega)
  have h1 : (BitVec.ofInt 8 (a : Int)).toNat = a := by
    rw [BitVec.ofInt_natCast, BitVec.toNat_ofNat]; exact Nat.mod_eq_of_lt (by omega)
  have h2 : (BitVec.ofInt 8 (b : Int)).toNat = b := by
    rw [BitVec.ofInt_natCast, BitVec.toNat_ofNat]; exact Nat.mod_eq_of_lt (by omega)
  show IntKind.u8.wrap ((BitVec.ofInt 8 (a : Int) ^^^ BitVec.ofInt 8 (b : Int)).toNat : Int) = _
  rw [BitVec.toNat_xor, h1, h2]
  simp [IntKind.wrap, IntKind.bits, IntKind.signed]
  omega
theorem xor_bd (x y : Int) : 0 ≤ bits .xor .u8 x y ∧ bits .xor .u8 x y ≤ 255 := wf_u8 (wf_bits .xor .u8 x y)
theorem xor_ne (x y : Int) (hx : 0 ≤ x ∧ x ≤ 255) (hy : 0 ≤ y ∧ y ≤ 255) (h : y ≠ 0) : bits .xor .u8 x y ≠ x := by
  obtain ⟨a, rfl⟩ : ∃ a : Nat, x = a := ⟨x.toNat, by omega⟩
  obtain ⟨b, rfl⟩ : ∃ b : Nat, y = b := ⟨y.toNat, by omega⟩
  rw [xor_nat a b (by omega) (by omega)]
  intro e
  have e2 : a ^^^ b = a := by omega
  have e3 : a ^^^ (a ^^^ b) = b := by rw [← Nat.xor_assoc, Nat.xor_self, Nat.zero_xor]
  rw [e2, Nat.xor_self] at e3
  omega
theorem snoc_all {rs : List R} {r : R} (h : ∀ x ∈ rs, goodB x = true ∧ x.fits) (hr : goodB r = true ∧ r.fits) : ∀ x ∈ rs ++ [r], goodB x = true ∧ x.fits := by
  intro x hx
  rcases List.mem_append.1 hx with h1 | h1
  · exact h x h1
  · simp at h1; subst h1; exact hr
theorem ok_all {e : Int} {rs : List R} (h0 : 1 ≤ e) (h1 : e ≤ 1073741824) (h2 : 1 ≤ rs.length) (h3 : rs.length ≤ 6) (h : ∀ x ∈ rs, goodB x = true ∧ x.fits) : okB e rs = true := (okB_iff e rs).2 ⟨⟨h0, h1, h2, h3⟩, fun r hr => (h r hr).1⟩
/-- One byte of a block turned: it is not all zeros; if it is a block, it is another. -/
theorem turned_not (e : Int) (rs : List R) (h : rs.length ≤ 6) (k : Nat) (v : Int) : zeroB ((blockB e rs).set k v) = false :=
  blockB_not_zero e rs h _ (by rw [List.length_set]; exact length_blockB e rs h) k (fun i hi => getD_set_ne _ _ _ _ hi)
theorem turned_other {e : Int} {rs : List R} (h : rs.length ≤ 6) {k : Nat} (hk : k < 256) {v : Int} (hv : v ≠ (blockB e rs).getD k 0) (hb : isBlock ((blockB e rs).set k v) = true) (he : epochOf ((blockB e rs).set k v) = e) : sameRs (recsOf ((blockB e rs).set k v)) rs = false := by
  cases hs : sameRs (recsOf ((blockB e rs).set k v)) rs with
  | false => rfl
  | true =>
    have h1 := (sameRs_iff _ _).1 hs
    have h2 := (isBlock_parts hb).2.2
    rw [h1, he] at h2
    have h3 := getD_set_eq (blockB e rs) k v (by rw [length_blockB e rs h]; exact hk)
    rw [← h2] at h3
    exact absurd h3.symm hv
end Go.Proofs.YtjacenhblclkaaaDoor
