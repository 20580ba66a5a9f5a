
/- The statement PlaceRoom holds: for all numbers the law returns true, and its arguments read afterwards as before. No condition. -/
import Derived.Test.YtdijgpkcolpfoabJoin5
import Derived.Test.YtdijgpkcolpfoabJoin6
import Derived.ProofKit
import Derived.OpenShut
import Derived.ShutString
namespace Go.Proofs.Ytdijgpkcolpfoab.placeRoom
open Go.ChangeShapes Go.WideShapes Go.ChangeAt Go.RowKit
set_option linter.unusedVariables false

theorem own : ownKnob Try.prog.godebug = none := by kernel_rfl
theorem laidOut : laidOutB Try.prog = true := by kernel_rfl

set_option maxRecDepth 100000 in
set_option maxHeartbeats 2000000 in
theorem walk (a0 a1 : Int) (w : World) (w0 : (Lit.int .i64 a0).wf = true) (w1 : (Lit.int .i64 a1).wf = true) :
    Calls Try.prog 4 #[.int .i64 a0, .int .i64 a1] w fun e w' => e = .returned (.bool true) ∧ Below w.heap.size w w' := by
  clear w0 w1
  go_enter Try.func4, Try.ntmps4
  go_wp2_with fail
  refine (pfirst9_any _).mono ?_
  rintro e w' ⟨rfl, rfl⟩
  go_wp2_with fail
  refine (number_any _ _ _ (by omega) (by omega)).mono ?_
  rintro e w' ⟨rfl, rfl⟩
  have hp1 := numberB_bd a0 32 (by omega)
  obtain ⟨P, hP⟩ : ∃ P : Nat, (P : Int) = numberB a0 32 + 1 := ⟨(numberB a0 32 + 1).toNat, by omega⟩
  rw [show numberB a0 32 = (P : Int) - 1 by omega] at hp1 ⊢
  clear hP
  go_wp2_with fail
  refine (number_any _ _ _ (by omega) (by omega)).mono ?_
  rintro e w' ⟨rfl, rfl⟩
  have hb1 := numberB_bd a1 64 (by omega)
  obtain ⟨B, hB⟩ : ∃ B : Nat, (B : Int) = numberB a1 64 + 1 := ⟨(numberB a1 64 + 1).toNat, by omega⟩
  rw [show numberB a1 64 = (B : Int) - 1 by omega] at hb1 ⊢
  clear hB
  have hPB : 1 ≤ P ∧ P ≤ 32 ∧ 1 ≤ B ∧ B ≤ 64 := by omega
  clear hp1 hb1
  go_wp2_with fail
  go_loop [6, 7] (fun a i => ∃ j : Nat, 1 ≤ j ∧ j ≤ P + 1 ∧ i = .int .i64 j ∧ a = .int .i64 j) (fun _ i => P + 1 - (intOf i).toNat)
  case atStart => exact ⟨1, by omega, by omega, rfl, rfl⟩
  case round =>
    obtain ⟨j, hj1, hj, rfl, rfl⟩ := hrel
    by_cases hle : j ≤ P
    · have hji : (j : Int) ≤ P := by omega
      have hjl : ¬ ((P : Int) + 1 ≤ j) := by omega
      go_wp2_with (go_at_call 8; refine (log_any _ _ (by omega) (by omega)).mono ?_; rintro e z ⟨rfl, rfl⟩)
      go_round
      case rel => exact ⟨j + 1, by omega, by omega, by go_num, by go_num⟩
      case measure => simp [intOf]; omega
    · obtain rfl : j = P + 1 := by omega
      have hji : ¬ ((P : Int) + 1 ≤ P) := by omega
      go_wp2_with fail
      go_loop [6, 8] (fun a i => ∃ j t : Nat, j ≤ B ∧ t = P + 1 + j ∧ i = .int .i64 j ∧ a = .int .i64 (t : Int)) (fun _ i => B - (intOf i).toNat)
      case atStart => exact ⟨0, P + 1, by omega, rfl, rfl, by go_num⟩
      case round =>
        obtain ⟨j, t, hj, ht, rfl, rfl⟩ := hrel
        by_cases hlt : j < B
        · have hji : (j : Int) < B := by omega
          have h1 : ¬ ((P : Int) + 1 + j < t) := by omega
          have h2 : ¬ ((P : Int) + 1 + B ≤ (P : Int) + 1 + j) := by omega
          have h3 : t ≤ 1000 := by omega
          have HT := hide ht
          clear ht
          go_wp2_with (first | (go_at_call 8; refine (log_any _ _ (by omega) (by omega)).mono ?_; rintro e z ⟨rfl, rfl⟩) | (go_at_call 9; refine (sectors_any _ _ _ (by omega) (by omega) (by omega) (by omega)).mono ?_; rintro e z ⟨rfl, rfl⟩))
          go_round
          case rel => exact ⟨j + 1, t + 1, by omega, by rw [HT.out]; omega, by go_num, by go_num⟩
          case measure => simp [intOf]; omega
        · have hji : ¬ (j : Int) < B := by omega
          have h1 : (t : Int) = (P : Int) + 1 + B := by omega
          rw [h1]
          clear h1 ht
          go_wp2_with (go_at_call 9; refine (sectors_any _ _ _ (by omega) (by omega) (by omega) (by omega)).mono ?_; rintro e z ⟨rfl, rfl⟩)
          go_ret
          exact ⟨rfl, Below.refl _ _⟩

set_option maxRecDepth 100000 in
theorem lifted (os : Os) (started : os.Started) (H : Type) (enc : TypeId × Value → H) :
    ReturnsInHanded {} Try.checked os 4 .any (Rows.placeRoomSpec.pre6 enc Try.prog Try.f4 Rows.placeRoomRow.domain false) (Rows.placeRoomSpec.post enc Try.prog Try.f4 false true false false) := by
  refine returnsInHanded_of_change (C := Try.checked) own started (by kernel_rfl) Try.func4
    (ChangeSpec.witness6 (enc := enc) (C := Try.checked) false ⟨#[], #[.int .i64 0, .int .i64 0], []⟩ 8 (by kernel_rfl) (by kernel_rfl) (by kernel_rfl) (by kernel_rfl)) ?_
  intro W base args ds gs before hval0 hW hcnd _
  have hval : ∀ (j : Nat) t v, Try.f4.params[j]? = some t → args[j]? = some v → Value.okWide Try.prog W .any base t v := hval0
  have hW' := hW
  obtain ⟨p, q, hA0, hV, rfl, hfz, hnd⟩ := hW
  have hA : DataW.TrodAll enc Try.prog W 0 (fun _ => true) true Try.f4.params.toList args.toList ds p := hA0
  rw [Try.params4] at hA hval
  obtain ⟨v0, vs0, d0, ds0, p0, q0, hargs, rfl, rfl, h0, r0⟩ := trodAll_cons hA
  obtain ⟨v1, vs1, d1, ds1, p1, q1, rfl, rfl, rfl, h1, r1⟩ := trodAll_cons r0
  obtain ⟨rfl, rfl, rfl⟩ := trodAll_nil r1
  obtain rfl : args = #[v0, v1] := by cases args; simp_all
  obtain ⟨rfl, rfl⟩ := trodVars_none hV
  obtain ⟨a0, rfl, rfl, rfl, w0⟩ := open_int Try.underlying3 (hval 0 3 v0 rfl rfl) h0
  obtain ⟨a1, rfl, rfl, rfl, w1⟩ := open_int Try.underlying3 (hval 1 3 v1 rfl rfl) h1
  clear hA0 hval0
  simp only [List.append_nil] at hW'
  refine (walk a0 a1 W w0 w1).mono fun e W' ⟨he, bel⟩ => ?_
  subst he
  exact ⟨_, rfl, _, _, _, [], _, [], hW', trodAll_mk1 (shut_bool Try.underlying4 _), (trodAll_cons_mk (shut_int Try.underlying3 w0) (trodAll_cons_mk (shut_int Try.underlying3 w1) trodAll_mk0)), rfl, bel.frame _, fun h => by cases h⟩

theorem over : Rows.placeRoomRow.holds Try.pinned (OpenSpec.ofChange Rows.placeRoomSpec) :=
  OpenClaim.holds_of_wide 4 Try.f4 rfl rfl rfl rfl rfl rfl rfl ⟨rfl, rfl, rfl, rfl, rfl⟩ rfl rfl rfl rfl rfl (by kernel_rfl) Try.func4 (by kernel_rfl)
    (of_decide_eq_true (by kernel_rfl)) (by unfold Func.isWrapper; first | (rw [if_pos (by decide +kernel)]; kernel_rfl) | (rw [if_neg (by decide +kernel)]; exact ⟨rfl, rfl⟩))
    (fun os started H enc _ => lifted os started H enc)

/-- The given statement. -/
theorem proved : Rows.PlaceRoomSaid :=
  over
#print axioms proved
end Go.Proofs.Ytdijgpkcolpfoab.placeRoom
namespace Go.Proofs.Ytdijgpkcolpfoab
theorem placeRoom_holds : Rows.PlaceRoomSaid := placeRoom.proved
end Go.Proofs.Ytdijgpkcolpfoab
