/- Lemmas and contracts that the law stands on, joined: PgReadR. -/
import Derived.Test.YtjacenhblclkaaaDoorJoin17
import Derived.Test.YtjacenhblclkaaaDoorJoin18
/- What the document's own Read (phoenixref7) says of a sector's bytes. -/
namespace Go.Proofs.YtjacenhblclkaaaDoor
open Go.RowKit
set_option linter.unusedVariables false

theorem getB_count (lsn : Int) (es : List (Int × Int)) (h : es.length ≤ 20) : getB (pageB lsn es) 4 2 = es.length := by
  unfold pageB
  rw [entUp_head _ _ _ _ _ (by omega), page2, get_put_same _ _ _ _ (by omega) (by rw [length_page1]; omega), show (256 : Int) ^ 2 = 65536 by decide]
  omega
/-- So many entries the document reads, and what it makes of them. -/
def keysR (xs : List Int) : Nat := min (getB xs 4 2).toNat 21
theorem isPage_doc {xs : List Int} (h0 : 0 ≤ getB xs 4 2) : isPage xs = (okP (lsnOf xs) (entsUp xs (keysR xs)) && decide (pageB (lsnOf xs) (entsUp xs (keysR xs)) = xs)) := by
  by_cases hm : getB xs 4 2 ≤ 20
  · have e : keysR xs = keysOf xs := by unfold keysR keysOf; omega
    rw [e]; rfl
  · have e1 : okP (lsnOf xs) (entsUp xs (keysR xs)) = false := by
      cases e : okP (lsnOf xs) (entsUp xs (keysR xs)) with
      | false => rfl
      | true =>
        have ho := ((okP_iff _ _).1 e).many
        rw [length_entsUp] at ho
        unfold keysR at ho
        omega
    rw [e1, Bool.false_and]
    cases e : isPage xs with
    | false => rfl
    | true =>
      unfold isPage at e
      simp only [Bool.and_eq_true, decide_eq_true_eq] at e
      have hk : (entsOf xs).length = 20 := by
        show (entsUp xs (keysOf xs)).length = 20
        rw [length_entsUp]; unfold keysOf; omega
      have hc := getB_count (lsnOf xs) (entsOf xs) (by omega)
      rw [e.2, hk] at hc
      omega
end Go.Proofs.YtjacenhblclkaaaDoor
