
/- The statement PlaceSame holds: for all numbers the law returns true, and its arguments read afterwards as before. No condition. -/
import Derived.Test.YtdijgpkcolpfoaaJoin5
import Derived.Test.YtdijgpkcolpfoaaJoin6
import Derived.ProofKit
import Derived.OpenShut
import Derived.ShutString
namespace Go.Proofs.Ytdijgpkcolpfoaa.placeSame
open Go.ChangeShapes Go.WideShapes Go.ChangeAt Go.RowKit
set_option linter.unusedVariables false

theorem own : ownKnob Try.prog.godebug = none := by kernel_rfl
theorem laidOut : laidOutB Try.prog = true := by kernel_rfl

set_option maxHeartbeats 2000000 in
theorem walk (a0 a1 a2 : Int) (w : World) (w0 : (Lit.int .i64 a0).wf = true) (w1 : (Lit.int .i64 a1).wf = true) (w2 : (Lit.int .i64 a2).wf = true) :
    Calls Try.prog 3 #[.int .i64 a0, .int .i64 a1, .int .i64 a2] w fun e w' => e = .returned (.bool true) ∧ Below w.heap.size w w' := by
  clear w0 w1 w2
  go_enter Try.func3, Try.ntmps3
  go_wp2_with fail
  refine (pfirst9_any _).mono ?_
  rintro e w' ⟨rfl, rfl⟩
  go_wp2_with fail
  refine (number_far _ _ _ (by omega) (by omega)).mono ?_
  rintro e w' ⟨rfl, rfl⟩
  obtain ⟨k, hk⟩ : ∃ k, k = numberB a0 1048576 := ⟨_, rfl⟩
  have hk1 := numberB_bd a0 1048576 (by omega)
  rw [← hk] at hk1 ⊢
  clear hk
  go_wp2_with fail
  refine (number_any _ _ _ (by omega) (by omega)).mono ?_
  rintro e w' ⟨rfl, rfl⟩
  obtain ⟨p, hp⟩ : ∃ p, p = numberB a1 32 := ⟨_, rfl⟩
  have hp1 := numberB_bd a1 32 (by omega)
  rw [← hp] at hp1 ⊢
  clear hp
  go_wp2_with fail
  refine (number_any _ _ _ (by omega) (by omega)).mono ?_
  rintro e w' ⟨rfl, rfl⟩
  obtain ⟨n, hn⟩ : ∃ n, n = numberB a2 1000 := ⟨_, rfl⟩
  have hn1 := numberB_bd a2 1000 (by omega)
  rw [← hn] at hn1 ⊢
  clear hn
  obtain ⟨y, hy⟩ : ∃ y, y = pageI k (p + 1) := ⟨_, rfl⟩
  obtain ⟨t1, t2⟩ := pageI_turn k (p + 1)
  rw [← hy] at t1 t2
  have C1 : Hid (∀ W, Calls Try.prog 8 #[.int .i64 k, .int .i64 (p + 1)] W fun e w' => e = .returned (.int .i64 y) ∧ w' = W) := fun W => by
    have := page_any k (p + 1) W
    rwa [← hy] at this
  have C2 : Hid (∀ W, Calls Try.prog 8 #[.int .i64 (k + 4294967296), .int .i64 (p + 1)] W fun e w' => e = .returned (.int .i64 y) ∧ w' = W) := fun W => by
    have := page_any (k + 4294967296) (p + 1) W
    rwa [t1] at this
  have C3 : Hid (∀ W, Calls Try.prog 8 #[.int .i64 (k - 4294967296), .int .i64 (p + 1)] W fun e w' => e = .returned (.int .i64 y) ∧ w' = W) := fun W => by
    have := page_any (k - 4294967296) (p + 1) W
    rwa [t2] at this
  have C4 : Hid (∀ W, Calls Try.prog 8 #[.int .i64 k, .int .i64 (-n)] W fun e w' => e = .returned (.int .i64 1) ∧ w' = W) := fun W => by
    have := page_any k (-n) W
    rwa [pageI_none k (-n) (by omega)] at this
  have C5 : Hid (keysP (p + 1 + 1 + n) (p + 1) 3 = []) := keysP_nil (.inr (.inr (by omega)))
  clear hy t1 t2
  go_wp2_with (first | (go_at_call 8; first | (with_reducible refine (C1.out _).mono ?_; rintro e z ⟨rfl, rfl⟩) | (with_reducible refine (C2.out _).mono ?_; rintro e z ⟨rfl, rfl⟩) | (with_reducible refine (C3.out _).mono ?_; rintro e z ⟨rfl, rfl⟩) | (with_reducible refine (C4.out _).mono ?_; rintro e z ⟨rfl, rfl⟩)) | (go_at_call 9; refine (keys_any _ _ _ _ (by omega) (by omega)).mono ?_; rintro e z ⟨ao, m, c, rfl, ho, hb⟩; rw [C5.out] at ho; obtain rfl : m = 0 := ho.2; have HB := hide hb; clear ho hb))
  go_ret
  exact ⟨rfl, HB.out⟩

set_option maxRecDepth 100000 in
theorem lifted (os : Os) (started : os.Started) (H : Type) (enc : TypeId × Value → H) :
    ReturnsInHanded {} Try.checked os 3 .any (Rows.placeSameSpec.pre6 enc Try.prog Try.f3 Rows.placeSameRow.domain false) (Rows.placeSameSpec.post enc Try.prog Try.f3 false true false false) := by
  refine returnsInHanded_of_change (C := Try.checked) own started (by kernel_rfl) Try.func3
    (ChangeSpec.witness6 (enc := enc) (C := Try.checked) false ⟨#[], #[.int .i64 0, .int .i64 0, .int .i64 0], []⟩ 8 (by kernel_rfl) (by kernel_rfl) (by kernel_rfl) (by kernel_rfl)) ?_
  intro W base args ds gs before hval0 hW hcnd _
  have hval : ∀ (j : Nat) t v, Try.f3.params[j]? = some t → args[j]? = some v → Value.okWide Try.prog W .any base t v := hval0
  have hW' := hW
  obtain ⟨p, q, hA0, hV, rfl, hfz, hnd⟩ := hW
  have hA : DataW.TrodAll enc Try.prog W 0 (fun _ => true) true Try.f3.params.toList args.toList ds p := hA0
  rw [Try.params3] at hA hval
  obtain ⟨v0, vs0, d0, ds0, p0, q0, hargs, rfl, rfl, h0, r0⟩ := trodAll_cons hA
  obtain ⟨v1, vs1, d1, ds1, p1, q1, rfl, rfl, rfl, h1, r1⟩ := trodAll_cons r0
  obtain ⟨v2, vs2, d2, ds2, p2, q2, rfl, rfl, rfl, h2, r2⟩ := trodAll_cons r1
  obtain ⟨rfl, rfl, rfl⟩ := trodAll_nil r2
  obtain rfl : args = #[v0, v1, v2] := by cases args; simp_all
  obtain ⟨rfl, rfl⟩ := trodVars_none hV
  obtain ⟨a0, rfl, rfl, rfl, w0⟩ := open_int Try.underlying3 (hval 0 3 v0 rfl rfl) h0
  obtain ⟨a1, rfl, rfl, rfl, w1⟩ := open_int Try.underlying3 (hval 1 3 v1 rfl rfl) h1
  obtain ⟨a2, rfl, rfl, rfl, w2⟩ := open_int Try.underlying3 (hval 2 3 v2 rfl rfl) h2
  clear hA0 hval0
  simp only [List.append_nil] at hW'
  refine (walk a0 a1 a2 W w0 w1 w2).mono fun e W' ⟨he, bel⟩ => ?_
  subst he
  exact ⟨_, rfl, _, _, _, [], _, [], hW', trodAll_mk1 (shut_bool Try.underlying4 _), (trodAll_cons_mk (shut_int Try.underlying3 w0) (trodAll_cons_mk (shut_int Try.underlying3 w1) (trodAll_cons_mk (shut_int Try.underlying3 w2) trodAll_mk0))), rfl, bel.frame _, fun h => by cases h⟩

theorem over : Rows.placeSameRow.holds Try.pinned (OpenSpec.ofChange Rows.placeSameSpec) :=
  OpenClaim.holds_of_wide 3 Try.f3 rfl rfl rfl rfl rfl rfl rfl ⟨rfl, rfl, rfl, rfl, rfl⟩ rfl rfl rfl rfl rfl (by kernel_rfl) Try.func3 (by kernel_rfl)
    (of_decide_eq_true (by kernel_rfl)) (by unfold Func.isWrapper; first | (rw [if_pos (by decide +kernel)]; kernel_rfl) | (rw [if_neg (by decide +kernel)]; exact ⟨rfl, rfl⟩))
    (fun os started H enc _ => lifted os started H enc)

/-- The given statement. -/
theorem proved : Rows.PlaceSameSaid :=
  over
#print axioms proved
end Go.Proofs.Ytdijgpkcolpfoaa.placeSame
namespace Go.Proofs.Ytdijgpkcolpfoaa
theorem placeSame_holds : Rows.PlaceSameSaid := placeSame.proved
end Go.Proofs.Ytdijgpkcolpfoaa
