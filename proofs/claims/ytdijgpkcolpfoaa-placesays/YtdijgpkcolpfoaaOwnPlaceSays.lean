
/- The statement PlaceSays holds: for all numbers the law returns true, and its arguments read afterwards as before. No condition. -/
import Derived.Test.YtdijgpkcolpfoaaJoin5
import Derived.Test.YtdijgpkcolpfoaaJoin6
import Derived.ProofKit
import Derived.OpenShut
import Derived.ShutString
namespace Go.Proofs.Ytdijgpkcolpfoaa.placeSays
open Go.ChangeShapes Go.WideShapes Go.ChangeAt Go.RowKit
set_option linter.unusedVariables false

theorem own : ownKnob Try.prog.godebug = none := by kernel_rfl
theorem laidOut : laidOutB Try.prog = true := by kernel_rfl

set_option maxHeartbeats 2000000 in
theorem walk (a0 a1 a2 a3 a4 : Int) (w : World) (w0 : (Lit.int .i64 a0).wf = true) (w1 : (Lit.int .i64 a1).wf = true) (w2 : (Lit.int .i64 a2).wf = true) (w3 : (Lit.int .i64 a3).wf = true) (w4 : (Lit.int .i64 a4).wf = true) :
    Calls Try.prog 4 #[.int .i64 a0, .int .i64 a1, .int .i64 a2, .int .i64 a3, .int .i64 a4] w fun e w' => e = .returned (.bool true) ∧ Below w.heap.size w w' := by
  clear w0 w1 w2 w3 w4
  go_enter Try.func4, Try.ntmps4
  go_wp2_with fail
  refine (pfirst9_any _).mono ?_
  rintro e w' ⟨rfl, rfl⟩
  go_wp2_with fail
  refine (number_any _ _ _ (by omega) (by omega)).mono ?_
  rintro e w' ⟨rfl, rfl⟩
  obtain ⟨p, hp⟩ : ∃ p, p = numberB a1 40 := ⟨_, rfl⟩
  have hp1 := numberB_bd a1 40 (by omega)
  rw [← hp] at hp1 ⊢
  clear hp
  go_wp2_with fail
  refine (number_any _ _ _ (by omega) (by omega)).mono ?_
  rintro e w' ⟨rfl, rfl⟩
  obtain ⟨b, hb⟩ : ∃ b, b = numberB a2 100 := ⟨_, rfl⟩
  have hb1 := numberB_bd a2 100 (by omega)
  rw [← hb] at hb1 ⊢
  clear hb
  go_wp2_with fail
  refine (number_any _ _ _ (by omega) (by omega)).mono ?_
  rintro e w' ⟨rfl, rfl⟩
  obtain ⟨n, hn⟩ : ∃ n, n = numberB a4 40 := ⟨_, rfl⟩
  have hn1 := numberB_bd a4 40 (by omega)
  rw [← hn] at hn1 ⊢
  clear hn
  go_wp2_with fail
  refine (number_any _ _ _ (by omega) (by omega)).mono ?_
  rintro e w' ⟨rfl, rfl⟩
  obtain ⟨g, hg⟩ : ∃ g, g = numberB a3 42 := ⟨_, rfl⟩
  have hg1 := numberB_bd a3 42 (by omega)
  rw [← hg] at hg1 ⊢
  clear hg
  obtain ⟨y, hy⟩ : ∃ y, y = pageI a0 a1 := ⟨_, rfl⟩
  have HY := hide hy
  clear hy
  have hs : 1 + p + b = p + 1 + b := by omega
  obtain ⟨m, hm⟩ : ∃ m, m = max p 1 := ⟨_, rfl⟩
  have hm1 : 1 ≤ m ∧ m ≤ 40 := by omega
  by_cases h1 : 1 ≤ p
  all_goals
    go_wp2_with (first | (go_at_call 8; refine (page_any _ _ _).mono ?_; rintro e z ⟨rfl, rfl⟩; rw [← HY.out]) | (go_at_call 10; refine (rplace_any _ _ _).mono ?_; rintro e z ⟨rfl, rfl⟩; rw [← HY.out]) | (go_at_call 11; refine (log_any _ _ (by omega) (by omega)).mono ?_; rintro e z ⟨rfl, rfl⟩) | (go_at_call 12; refine (sectors_any _ _ _ (by omega) (by omega) (by omega) (by omega)).mono ?_; rintro e z ⟨rfl, rfl⟩) | (go_at_call 9; refine (keys_any _ _ _ _ (by omega) (by omega)).mono ?_; rintro e z1 ⟨ao, m1, c, rfl, ho, hb⟩; have HB := hide hb; have HO := hide ho; clear ho hb) | (go_at_call 14; refine (rkeys_any _ _ _ _ (by omega) (by omega)).mono ?_; rintro e z2 ⟨ao2, m2, c2, rfl, ho2, hb2⟩; have HB2 := hide hb2; have HO2 := hide ho2; clear ho2 hb2) | (go_at_call 13; refine (sameInts_keys HO.out HB2.out HO2.out).mono ?_; rintro e z3 ⟨rfl, q, hq⟩; have HQ := hide hq; clear hq))
    go_ret
    exact ⟨rfl, by rw [HQ.out]; exact below_drewN (over HB.out HB2.out HB.out.size) _⟩

set_option maxRecDepth 100000 in
theorem lifted (os : Os) (started : os.Started) (H : Type) (enc : TypeId × Value → H) :
    ReturnsInHanded {} Try.checked os 4 .any (Rows.placeSaysSpec.pre6 enc Try.prog Try.f4 Rows.placeSaysRow.domain false) (Rows.placeSaysSpec.post enc Try.prog Try.f4 false true false false) := by
  refine returnsInHanded_of_change (C := Try.checked) own started (by kernel_rfl) Try.func4
    (ChangeSpec.witness6 (enc := enc) (C := Try.checked) false ⟨#[], #[.int .i64 0, .int .i64 0, .int .i64 0, .int .i64 0, .int .i64 0], []⟩ 8 (by kernel_rfl) (by kernel_rfl) (by kernel_rfl) (by kernel_rfl)) ?_
  intro W base args ds gs before hval0 hW hcnd _
  have hval : ∀ (j : Nat) t v, Try.f4.params[j]? = some t → args[j]? = some v → Value.okWide Try.prog W .any base t v := hval0
  have hW' := hW
  obtain ⟨p, q, hA0, hV, rfl, hfz, hnd⟩ := hW
  have hA : DataW.TrodAll enc Try.prog W 0 (fun _ => true) true Try.f4.params.toList args.toList ds p := hA0
  rw [Try.params4] at hA hval
  obtain ⟨v0, vs0, d0, ds0, p0, q0, hargs, rfl, rfl, h0, r0⟩ := trodAll_cons hA
  obtain ⟨v1, vs1, d1, ds1, p1, q1, rfl, rfl, rfl, h1, r1⟩ := trodAll_cons r0
  obtain ⟨v2, vs2, d2, ds2, p2, q2, rfl, rfl, rfl, h2, r2⟩ := trodAll_cons r1
  obtain ⟨v3, vs3, d3, ds3, p3, q3, rfl, rfl, rfl, h3, r3⟩ := trodAll_cons r2
  obtain ⟨v4, vs4, d4, ds4, p4, q4, rfl, rfl, rfl, h4, r4⟩ := trodAll_cons r3
  obtain ⟨rfl, rfl, rfl⟩ := trodAll_nil r4
  obtain rfl : args = #[v0, v1, v2, v3, v4] := by cases args; simp_all
  obtain ⟨rfl, rfl⟩ := trodVars_none hV
  obtain ⟨a0, rfl, rfl, rfl, w0⟩ := open_int Try.underlying3 (hval 0 3 v0 rfl rfl) h0
  obtain ⟨a1, rfl, rfl, rfl, w1⟩ := open_int Try.underlying3 (hval 1 3 v1 rfl rfl) h1
  obtain ⟨a2, rfl, rfl, rfl, w2⟩ := open_int Try.underlying3 (hval 2 3 v2 rfl rfl) h2
  obtain ⟨a3, rfl, rfl, rfl, w3⟩ := open_int Try.underlying3 (hval 3 3 v3 rfl rfl) h3
  obtain ⟨a4, rfl, rfl, rfl, w4⟩ := open_int Try.underlying3 (hval 4 3 v4 rfl rfl) h4
  clear hA0 hval0
  simp only [List.append_nil] at hW'
  refine (walk a0 a1 a2 a3 a4 W w0 w1 w2 w3 w4).mono fun e W' ⟨he, bel⟩ => ?_
  subst he
  exact ⟨_, rfl, _, _, _, [], _, [], hW', trodAll_mk1 (shut_bool Try.underlying4 _), (trodAll_cons_mk (shut_int Try.underlying3 w0) (trodAll_cons_mk (shut_int Try.underlying3 w1) (trodAll_cons_mk (shut_int Try.underlying3 w2) (trodAll_cons_mk (shut_int Try.underlying3 w3) (trodAll_cons_mk (shut_int Try.underlying3 w4) trodAll_mk0))))), rfl, bel.frame _, fun h => by cases h⟩

theorem over : Rows.placeSaysRow.holds Try.pinned (OpenSpec.ofChange Rows.placeSaysSpec) :=
  OpenClaim.holds_of_wide 4 Try.f4 rfl rfl rfl rfl rfl rfl rfl ⟨rfl, rfl, rfl, rfl, rfl⟩ rfl rfl rfl rfl rfl (by kernel_rfl) Try.func4 (by kernel_rfl)
    (of_decide_eq_true (by kernel_rfl)) (by unfold Func.isWrapper; first | (rw [if_pos (by decide +kernel)]; kernel_rfl) | (rw [if_neg (by decide +kernel)]; exact ⟨rfl, rfl⟩))
    (fun os started H enc _ => lifted os started H enc)

/-- The given statement. -/
theorem proved : Rows.PlaceSaysSaid :=
  over
#print axioms proved
end Go.Proofs.Ytdijgpkcolpfoaa.placeSays
namespace Go.Proofs.Ytdijgpkcolpfoaa
theorem placeSays_holds : Rows.PlaceSaysSaid := placeSays.proved
end Go.Proofs.Ytdijgpkcolpfoaa
