
/- What the document's own GoodRec answers: the same as rec.Check. -/
import Derived.Test.YticaldoggdfjiaaDoorRecGood2
namespace Go.Proofs.YticaldoggdfjiaaDoor
open Go.RowKit
set_option linter.unusedVariables false

theorem good8 (txn page prev next key : Int) (had has : Bool) (old new : Int) : goodB ⟨8, txn, page, prev, next, key, had, has, old, new⟩ = (holdsB 1 60000 txn && (holdsB 0 0 page && (holdsB 0 1073741824 prev && (holdsB 0 1073741824 next && (holdsB 0 2 key && ((!had && (old == 0)) && ((!has && (new == 0)) && true))))))) := rfl
set_option maxRecDepth 100000 in
set_option maxHeartbeats 4000000 in
theorem goodRec8 (txn page prev next key : Int) (had has : Bool) (old new : Int) (w : World) : Calls Tryd.prog 15 #[(R.mk 8 txn page prev next key had has old new).val] w fun e w' => e = .returned (.bool (goodB ⟨8, txn, page, prev, next, key, had, has, old, new⟩)) ∧ Below w.heap.size w w' := by
  rw [good8]
  unfold R.val
  simp only
  go_enter Tryd.func15, Tryd.ntmps15
  go_wp2_with (go_at_call 36; refine (from_any _ _ _ _ _ rfl).mono ?_; rintro e w2 ⟨rfl, rfl⟩)
  all_goals
    go_ret
    refine ⟨ret_bool ?_, below_box _ _⟩
    simp_all [holds00]
theorem good9 (txn page prev next key : Int) (had has : Bool) (old new : Int) : goodB ⟨9, txn, page, prev, next, key, had, has, old, new⟩ = (holdsB 0 0 txn && (holdsB 1 32 page && (holdsB 1 1073741824 prev && (holdsB 0 0 next && (holdsB 0 0 key && ((!had && (old == 0)) && ((!has && (new == 0)) && true))))))) := rfl
set_option maxRecDepth 100000 in
set_option maxHeartbeats 4000000 in
theorem goodRec9 (txn page prev next key : Int) (had has : Bool) (old new : Int) (w : World) : Calls Tryd.prog 15 #[(R.mk 9 txn page prev next key had has old new).val] w fun e w' => e = .returned (.bool (goodB ⟨9, txn, page, prev, next, key, had, has, old, new⟩)) ∧ Below w.heap.size w w' := by
  rw [good9]
  unfold R.val
  simp only
  go_enter Tryd.func15, Tryd.ntmps15
  go_wp2_with (go_at_call 36; refine (from_any _ _ _ _ _ rfl).mono ?_; rintro e w2 ⟨rfl, rfl⟩)
  all_goals
    go_ret
    refine ⟨ret_bool ?_, below_box _ _⟩
    simp_all [holds00]
theorem good10 (txn page prev next key : Int) (had has : Bool) (old new : Int) : goodB ⟨10, txn, page, prev, next, key, had, has, old, new⟩ = (holdsB 0 0 txn && (holdsB 0 0 page && (holdsB 0 0 prev && (holdsB 0 60000 next && (holdsB 0 0 key && ((!had && (old == 0)) && ((!has && (new == 0)) && true))))))) := rfl
set_option maxRecDepth 100000 in
set_option maxHeartbeats 4000000 in
theorem goodRec10 (txn page prev next key : Int) (had has : Bool) (old new : Int) (w : World) : Calls Tryd.prog 15 #[(R.mk 10 txn page prev next key had has old new).val] w fun e w' => e = .returned (.bool (goodB ⟨10, txn, page, prev, next, key, had, has, old, new⟩)) ∧ Below w.heap.size w w' := by
  rw [good10]
  unfold R.val
  simp only
  go_enter Tryd.func15, Tryd.ntmps15
  go_wp2_with (go_at_call 36; refine (from_any _ _ _ _ _ rfl).mono ?_; rintro e w2 ⟨rfl, rfl⟩)
  all_goals
    go_ret
    refine ⟨ret_bool ?_, below_box _ _⟩
    simp_all [holds00]
set_option maxRecDepth 100000 in
set_option maxHeartbeats 4000000 in
theorem goodRec_out (kind txn page prev next key : Int) (had has : Bool) (old new : Int) (h : holdsB 1 10 kind = false) (w : World) : Calls Tryd.prog 15 #[(R.mk kind txn page prev next key had has old new).val] w fun e w' => e = .returned (.bool (goodB ⟨kind, txn, page, prev, next, key, had, has, old, new⟩)) ∧ Below w.heap.size w w' := by
  have hg : goodB ⟨kind, txn, page, prev, next, key, had, has, old, new⟩ = false := by unfold goodB; rw [h]; rfl
  rw [hg]
  have hn : ¬ (1 ≤ kind ∧ kind ≤ 10) := by rw [← holdsB_iff, h]; simp
  have h6 : holdsB 1 6 kind = false := by
    cases e : holdsB 1 6 kind with
    | false => rfl
    | true => rw [holdsB_iff] at e; omega
  have q2 : (kind == 2) = false := by simp; omega
  have q3 : (kind == 3) = false := by simp; omega
  have q8 : (kind == 8) = false := by simp; omega
  have q9 : (kind == 9) = false := by simp; omega
  clear hg hn
  unfold R.val
  simp only
  go_enter Tryd.func15, Tryd.ntmps15
  go_wp2_with fail
  refine (from_any _ _ _ _ _ h6).mono ?_
  rintro e w2 ⟨rfl, rfl⟩
  go_wp2_with fail
  refine (from_any _ _ _ _ _ h).mono ?_
  rintro e w2 ⟨rfl, rfl⟩
  go_wp2_with fail
  go_ret
  exact ⟨rfl, below_box _ _⟩
theorem goodRec_any (r : R) (w : World) : Calls Tryd.prog 15 #[r.val] w fun e w' => e = .returned (.bool (goodB r)) ∧ Below w.heap.size w w' := by
  obtain ⟨kind, txn, page, prev, next, key, had, has, old, new⟩ := r
  cases h : holdsB 1 10 kind with
  | false => exact goodRec_out kind txn page prev next key had has old new h w
  | true =>
    rw [holdsB_iff] at h
    have hk : kind = 1 ∨ kind = 2 ∨ kind = 3 ∨ kind = 4 ∨ kind = 5 ∨ kind = 6 ∨ kind = 7 ∨ kind = 8 ∨ kind = 9 ∨ kind = 10 := by omega
    rcases hk with rfl | rfl | rfl | rfl | rfl | rfl | rfl | rfl | rfl | rfl
    · exact goodRec1 txn page prev next key had has old new w
    · exact goodRec2 txn page prev next key had has old new w
    · exact goodRec3 txn page prev next key had has old new w
    · exact goodRec4 txn page prev next key had has old new w
    · exact goodRec5 txn page prev next key had has old new w
    · exact goodRec6 txn page prev next key had has old new w
    · exact goodRec7 txn page prev next key had has old new w
    · exact goodRec8 txn page prev next key had has old new w
    · exact goodRec9 txn page prev next key had has old new w
    · exact goodRec10 txn page prev next key had has old new w
end Go.Proofs.YticaldoggdfjiaaDoor
