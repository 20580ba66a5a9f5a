/- Lemmas and contracts that the law stands on, joined: BlockSame. -/
import Derived.Test.YtjacenhblclkaaaDoorJoin11
import Derived.Test.YtjacenhblclkaaaDoorJoin7
import Derived.Deep.Cut
/- What the document's own SameRecs answers of any two lists of records: whether they are the same. -/
namespace Go.Proofs.YtjacenhblclkaaaDoor
open Go.RowKit
set_option linter.unusedVariables false

theorem sameR_iff (a b : R) : sameR a b = true ↔ a = b := by
  constructor
  · intro h; exact eq_of_parts (by simpa [sameR] using h)
  · rintro rfl; simp [sameR]
/-- Two lists of records are the same. -/
def sameRs (rs ss : List R) : Bool := decide (rs.length = ss.length) && (List.range rs.length).all fun i => match rs[i]?, ss[i]? with | some a, some b => sameR a b | _, _ => false
theorem sameRs_iff (rs ss : List R) : sameRs rs ss = true ↔ rs = ss := by
  unfold sameRs
  rw [Bool.and_eq_true, decide_eq_true_eq, List.all_eq_true]
  constructor
  · rintro ⟨hl, h⟩
    refine List.ext_getElem hl fun i h1 h2 => ?_
    have := h i (List.mem_range.2 h1)
    rw [List.getElem?_eq_getElem h1, List.getElem?_eq_getElem h2] at this
    exact (sameR_iff _ _).1 this
  · rintro rfl
    refine ⟨rfl, fun i hi => ?_⟩
    rw [List.getElem?_eq_getElem (List.mem_range.1 hi)]
    exact (sameR_iff _ _).2 rfl
theorem sameRs_len {rs ss : List R} (h : rs.length ≠ ss.length) : sameRs rs ss = false := by
  cases hs : sameRs rs ss with
  | false => rfl
  | true => rw [(sameRs_iff rs ss).1 hs] at h; exact absurd rfl h
theorem sameRs_no {rs ss : List R} {k : Nat} {a b : R} (ha : rs[k]? = some a) (hb : ss[k]? = some b) (h : sameR a b = false) : sameRs rs ss = false := by
  cases hs : sameRs rs ss with
  | false => rfl
  | true =>
    rw [(sameRs_iff rs ss).1 hs, hb] at ha
    simp at ha
    rw [(sameR_iff a b).2 ha.symm] at h
    cases h
theorem sameRs_up {rs ss : List R} {k : Nat} {a b : R} (ha : rs[k]? = some a) (hb : ss[k]? = some b) (h : sameR a b = true) (hk : rs.take k = ss.take k) : rs.take (k + 1) = ss.take (k + 1) := by
  rw [List.take_add_one, List.take_add_one, ha, hb, hk, (sameR_iff a b).1 h]
end Go.Proofs.YtjacenhblclkaaaDoor
