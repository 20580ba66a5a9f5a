
/- What the document's own SameRec answers of any two records: whether they are the same in each part. -/
import Derived.Test.YticaldoggdfjiaaDoorRecSame
namespace Go.Proofs.YticaldoggdfjiaaDoor
open Go.RowKit
set_option linter.unusedVariables false

set_option maxHeartbeats 4000000 in
theorem sameRec_any (a b : R) (w : World) : Calls Tryd.prog 21 #[a.val, b.val] w fun e w' => e = .returned (.bool (sameR a b)) ∧ Below w.heap.size w w' := by
  obtain ⟨a0, b0, c0, d0, e0, f0, g0, h0, i0, j0⟩ := a
  obtain ⟨a1, b1, c1, d1, e1, f1, g1, h1, i1, j1⟩ := b
  unfold R.val
  simp only
  by_cases q0 : a0 = a1
  case neg =>
    have HR : Hid (sameR ⟨a0, b0, c0, d0, e0, f0, g0, h0, i0, j0⟩ ⟨a1, b1, c1, d1, e1, f1, g1, h1, i1, j1⟩ = false) := hide (by simp [sameR, q0])
    have qq : (a0 == a1) = false := by simpa using q0
    clear q0
    go_enter Tryd.func21, Tryd.ntmps21
    go_wp2_with fail
    go_ret
    exact ⟨ret_bool (HR.out).symm, (below_box w _).alloc (by simp) _⟩
  subst q0
  by_cases q1 : b0 = b1
  case neg =>
    have HR : Hid (sameR ⟨a0, b0, c0, d0, e0, f0, g0, h0, i0, j0⟩ ⟨a0, b1, c1, d1, e1, f1, g1, h1, i1, j1⟩ = false) := hide (by simp [sameR, q1])
    have qq : (b0 == b1) = false := by simpa using q1
    clear q1
    go_enter Tryd.func21, Tryd.ntmps21
    go_wp2_with fail
    go_ret
    exact ⟨ret_bool (HR.out).symm, (below_box w _).alloc (by simp) _⟩
  subst q1
  by_cases q2 : c0 = c1
  case neg =>
    have HR : Hid (sameR ⟨a0, b0, c0, d0, e0, f0, g0, h0, i0, j0⟩ ⟨a0, b0, c1, d1, e1, f1, g1, h1, i1, j1⟩ = false) := hide (by simp [sameR, q2])
    have qq : (c0 == c1) = false := by simpa using q2
    clear q2
    go_enter Tryd.func21, Tryd.ntmps21
    go_wp2_with fail
    go_ret
    exact ⟨ret_bool (HR.out).symm, (below_box w _).alloc (by simp) _⟩
  subst q2
  by_cases q3 : d0 = d1
  case neg =>
    have HR : Hid (sameR ⟨a0, b0, c0, d0, e0, f0, g0, h0, i0, j0⟩ ⟨a0, b0, c0, d1, e1, f1, g1, h1, i1, j1⟩ = false) := hide (by simp [sameR, q3])
    have qq : (d0 == d1) = false := by simpa using q3
    clear q3
    go_enter Tryd.func21, Tryd.ntmps21
    go_wp2_with fail
    go_ret
    exact ⟨ret_bool (HR.out).symm, (below_box w _).alloc (by simp) _⟩
  subst q3
  by_cases q4 : e0 = e1
  case neg =>
    have HR : Hid (sameR ⟨a0, b0, c0, d0, e0, f0, g0, h0, i0, j0⟩ ⟨a0, b0, c0, d0, e1, f1, g1, h1, i1, j1⟩ = false) := hide (by simp [sameR, q4])
    have qq : (e0 == e1) = false := by simpa using q4
    clear q4
    go_enter Tryd.func21, Tryd.ntmps21
    go_wp2_with fail
    go_ret
    exact ⟨ret_bool (HR.out).symm, (below_box w _).alloc (by simp) _⟩
  subst q4
  by_cases q5 : f0 = f1
  case neg =>
    have HR : Hid (sameR ⟨a0, b0, c0, d0, e0, f0, g0, h0, i0, j0⟩ ⟨a0, b0, c0, d0, e0, f1, g1, h1, i1, j1⟩ = false) := hide (by simp [sameR, q5])
    have qq : (f0 == f1) = false := by simpa using q5
    clear q5
    go_enter Tryd.func21, Tryd.ntmps21
    go_wp2_with fail
    go_ret
    exact ⟨ret_bool (HR.out).symm, (below_box w _).alloc (by simp) _⟩
  subst q5
  by_cases q6 : g0 = g1
  case neg =>
    have HR : Hid (sameR ⟨a0, b0, c0, d0, e0, f0, g0, h0, i0, j0⟩ ⟨a0, b0, c0, d0, e0, f0, g1, h1, i1, j1⟩ = false) := hide (by simp [sameR, q6])
    have qq : (g0 == g1) = false := by simpa using q6
    clear q6
    go_enter Tryd.func21, Tryd.ntmps21
    go_wp2_with fail
    go_ret
    exact ⟨ret_bool (HR.out).symm, (below_box w _).alloc (by simp) _⟩
  subst q6
  by_cases q7 : h0 = h1
  case neg =>
    have HR : Hid (sameR ⟨a0, b0, c0, d0, e0, f0, g0, h0, i0, j0⟩ ⟨a0, b0, c0, d0, e0, f0, g0, h1, i1, j1⟩ = false) := hide (by simp [sameR, q7])
    have qq : (h0 == h1) = false := by simpa using q7
    clear q7
    go_enter Tryd.func21, Tryd.ntmps21
    go_wp2_with fail
    go_ret
    exact ⟨ret_bool (HR.out).symm, (below_box w _).alloc (by simp) _⟩
  subst q7
  by_cases q8 : i0 = i1
  case neg =>
    have HR : Hid (sameR ⟨a0, b0, c0, d0, e0, f0, g0, h0, i0, j0⟩ ⟨a0, b0, c0, d0, e0, f0, g0, h0, i1, j1⟩ = false) := hide (by simp [sameR, q8])
    have qq : (i0 == i1) = false := by simpa using q8
    clear q8
    go_enter Tryd.func21, Tryd.ntmps21
    go_wp2_with fail
    go_ret
    exact ⟨ret_bool (HR.out).symm, (below_box w _).alloc (by simp) _⟩
  subst q8
  by_cases q9 : j0 = j1
  case neg =>
    have HR : Hid (sameR ⟨a0, b0, c0, d0, e0, f0, g0, h0, i0, j0⟩ ⟨a0, b0, c0, d0, e0, f0, g0, h0, i0, j1⟩ = false) := hide (by simp [sameR, q9])
    have qq : (j0 == j1) = false := by simpa using q9
    clear q9
    go_enter Tryd.func21, Tryd.ntmps21
    go_wp2_with fail
    go_ret
    exact ⟨ret_bool (HR.out).symm, (below_box w _).alloc (by simp) _⟩
  subst q9
  have HR : Hid (sameR ⟨a0, b0, c0, d0, e0, f0, g0, h0, i0, j0⟩ ⟨a0, b0, c0, d0, e0, f0, g0, h0, i0, j0⟩ = true) := hide (by simp [sameR])
  go_enter Tryd.func21, Tryd.ntmps21
  go_wp2_with fail
  go_ret
  exact ⟨ret_bool (HR.out).symm, (below_box w _).alloc (by simp) _⟩
end Go.Proofs.YticaldoggdfjiaaDoor
