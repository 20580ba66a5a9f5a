
/- The statement PlaceKeys holds: for all numbers the law returns true, and its arguments read afterwards as before. No condition. -/
import Derived.Test.YtdijgpkcolpfoaaJoin5
import Derived.Test.YtdijgpkcolpfoaaOwnPlFew
import Derived.Test.YtdijgpkcolpfoaaJoin6
import Derived.ProofKit
import Derived.OpenShut
import Derived.ShutString
namespace Go.Proofs.Ytdijgpkcolpfoaa.placeKeys
open Go.ChangeShapes Go.WideShapes Go.ChangeAt Go.RowKit
set_option linter.unusedVariables false

theorem own : ownKnob Try.prog.godebug = none := by kernel_rfl
theorem laidOut : laidOutB Try.prog = true := by kernel_rfl

set_option maxRecDepth 100000 in
set_option maxHeartbeats 2000000 in
theorem walk (a0 a1 a2 : Int) (w : World) (w0 : (Lit.int .i64 a0).wf = true) (w1 : (Lit.int .i64 a1).wf = true) (w2 : (Lit.int .i64 a2).wf = true) :
    Calls Try.prog 5 #[.int .i64 a0, .int .i64 a1, .int .i64 a2] w fun e w' => e = .returned (.bool true) ∧ Below w.heap.size w w' := by
  clear w0 w1 w2
  go_enter Try.func5, Try.ntmps5
  go_wp2_with fail
  refine (pfirst9_any _).mono ?_
  rintro e w' ⟨rfl, rfl⟩
  go_wp2_with fail
  refine (number_far _ _ _ (by omega) (by omega)).mono ?_
  rintro e w' ⟨rfl, rfl⟩
  obtain ⟨K, hK⟩ : ∃ K, K = numberB a0 1048576 := ⟨_, rfl⟩
  have hK1 := numberB_bd a0 1048576 (by omega)
  rw [← hK] at hK1 ⊢
  clear hK
  go_wp2_with fail
  refine (number_any _ _ _ (by omega) (by omega)).mono ?_
  rintro e w' ⟨rfl, rfl⟩
  have hp1 := numberB_bd a1 32 (by omega)
  obtain ⟨P, hP⟩ : ∃ P : Nat, (P : Int) = numberB a1 32 + 1 := ⟨(numberB a1 32 + 1).toNat, by omega⟩
  rw [show numberB a1 32 = (P : Int) - 1 by omega] at hp1 ⊢
  clear hP
  have hP1 : 1 ≤ P ∧ P ≤ 32 := by omega
  clear hp1
  go_wp2_with fail
  refine (number_any _ _ _ (by omega) (by omega)).mono ?_
  rintro e w' ⟨rfl, rfl⟩
  have hn1 := numberB_bd a2 30 (by omega)
  obtain ⟨n, hn⟩ : ∃ n : Nat, (n : Int) = numberB a2 30 + 1 := ⟨(numberB a2 30 + 1).toNat, by omega⟩
  rw [show numberB a2 30 = (n : Int) - 1 by omega] at hn1 ⊢
  clear hn
  have hn2 : 1 ≤ n ∧ n ≤ 30 := by omega
  clear hn1
  go_wp2_with fail
  refine (page_any _ _ _).mono ?_
  rintro e w' ⟨rfl, rfl⟩
  have hp2 := pageI_bd K P
  obtain ⟨p, hp⟩ : ∃ p : Nat, (p : Int) = pageI K P := ⟨(pageI K P).toNat, by omega⟩
  rw [← hp] at hp2 ⊢
  clear hp
  have hp3 : 1 ≤ p ∧ p ≤ P := by omega
  clear hp2
  have hlen := keysP_full hp3.1 hp3.2 hP1.2 hn2.2
  obtain ⟨z, hz, hzb, hzl, hat⟩ := keysP_last (page := p) (pages := P) hn2.1 hlen
  have HL := hide hlen
  have HZ := hide hz
  have HZL := hide hzl
  have HAT := hide hat
  clear hlen hz hzl hat
  have hpP1 : ¬ (P : Int) < p := by omega
  have hpP2 : ¬ (p : Int) < 1 := by omega
  go_wp2_with fail
  refine (keys_any _ _ _ _ (by omega) (by omega)).mono ?_
  rintro e w1 ⟨ao, m, c, rfl, hown, hbel⟩
  have HB := hide hbel
  have HROW := hide hown.row
  obtain rfl : m = n := hown.2.trans HL.out
  clear hbel hown
  obtain ⟨b, off, rfl, hb, hc⟩ := HROW.out (by rw [HL.out]; omega)
  have hcl := hc (m - 1) (by rw [HL.out]; omega)
  rw [HZ.out] at hcl
  have HC := hide hc
  clear hc
  have hm1 : ((m : Int) - 1).toNat = m - 1 := by omega
  have hm0 : 0 ≤ (m : Int) - 1 := by omega
  have hm3 : (m : Int) - 1 < m := by omega
  go_wp2_with fail
  go_loopw [10, 11] (fun t i wr => ∃ k : Nat, k ≤ z + 1 ∧ i = .int .i64 k ∧ t = .int .i64 ((kUp p P k).length : Nat) ∧ ∃ q, wr = w1.drewN q) (fun _ i _ => z + 1 - (intOf i).toNat)
  case atStart => exact ⟨0, by omega, rfl, rfl, 0, rfl⟩
  case round =>
    obtain ⟨k, hk, rfl, rfl, q, rfl⟩ := hrel
    obtain ⟨t, ht⟩ : ∃ t, t = (kUp p P k).length := ⟨_, rfl⟩
    rw [← ht]
    have HT := hide ht
    clear ht
    by_cases hle : k ≤ z
    · have hkz : (k : Int) ≤ (z : Int) := by omega
      by_cases hpg : pageI k P = p
      · obtain ⟨h1, h2⟩ := HAT.out k hle hpg
        rw [← HT.out] at h1 h2
        have hck := HC.out t (by rw [HL.out]; exact h1)
        rw [h2] at hck
        have HS := hide (kUp_yes hpg)
        have HPG := hide hpg
        clear h2 hpg
        go_wp2_with (first | (go_at_call 8; refine (page_any _ _ _).mono ?_; rintro e w2 ⟨rfl, rfl⟩; rw [HPG.out]) | fail)
        go_roundw
        case rel => exact ⟨k + 1, by omega, by go_num, by rw [HS.out, List.length_append, ← HT.out]; rfl, _, rfl⟩
        case measure => simp [intOf]; omega
      · have HS := hide (kUp_no hpg)
        obtain ⟨y, hy⟩ : ∃ y, y = pageI k P := ⟨_, rfl⟩
        rw [← hy] at hpg
        have hpd : (y == (p : Int)) = false := by simp [hpg]
        have HY := hide hy
        clear hy
        go_wp2_with (go_at_call 8; refine (page_any _ _ _).mono ?_; rintro e w2 ⟨rfl, rfl⟩; rw [← HY.out])
        go_roundw
        case rel => exact ⟨k + 1, by omega, by go_num, by rw [HS.out, ← HT.out], _, rfl⟩
        case measure => simp [intOf]; omega
    · obtain rfl : k = z + 1 := by omega
      obtain rfl : t = m := HT.out.trans HZL.out
      have hkz : ¬ ((z : Int) + 1 ≤ z) := by omega
      have C5 : Hid (keysP p P 0 = []) := keysP_nil (.inl (by omega))
      have C6 : Hid (keysP 0 P 5 = []) := keysP_nil (.inr (.inl (by omega)))
      have C7 : Hid (pageI K 1 = 1) := pageI_none _ 1 (by omega)
      go_wp2_with (first | (go_at_call 8; refine (page_any _ _ _).mono ?_; rintro e x ⟨rfl, rfl⟩; rw [C7.out]) | (go_at_call 9; first | ((with_reducible refine (keys_any p P 0 _ (by omega) (by omega)).mono ?_); rintro e x1 ⟨ao1, m1, c1, rfl, ho, hb1⟩; rw [C5.out] at ho; obtain rfl : m1 = 0 := ho.2; have HB1 := hide hb1; clear ho hb1) | ((with_reducible refine (keys_any 0 P 5 _ (by omega) (by omega)).mono ?_); rintro e x2 ⟨ao2, m2, c2, rfl, ho, hb2⟩; rw [C6.out] at ho; obtain rfl : m2 = 0 := ho.2; have HB2 := hide hb2; clear ho hb2)))
      go_ret
      exact ⟨rfl, over (over (below_drewN HB.out _) HB1.out HB.out.size) HB2.out (Nat.le_trans HB.out.size HB1.out.size)⟩

set_option maxRecDepth 100000 in
theorem lifted (os : Os) (started : os.Started) (H : Type) (enc : TypeId × Value → H) :
    ReturnsInHanded {} Try.checked os 5 .any (Rows.placeKeysSpec.pre6 enc Try.prog Try.f5 Rows.placeKeysRow.domain false) (Rows.placeKeysSpec.post enc Try.prog Try.f5 false true false false) := by
  refine returnsInHanded_of_change (C := Try.checked) own started (by kernel_rfl) Try.func5
    (ChangeSpec.witness6 (enc := enc) (C := Try.checked) false ⟨#[], #[.int .i64 0, .int .i64 0, .int .i64 0], []⟩ 8 (by kernel_rfl) (by kernel_rfl) (by kernel_rfl) (by kernel_rfl)) ?_
  intro W base args ds gs before hval0 hW hcnd _
  have hval : ∀ (j : Nat) t v, Try.f5.params[j]? = some t → args[j]? = some v → Value.okWide Try.prog W .any base t v := hval0
  have hW' := hW
  obtain ⟨p, q, hA0, hV, rfl, hfz, hnd⟩ := hW
  have hA : DataW.TrodAll enc Try.prog W 0 (fun _ => true) true Try.f5.params.toList args.toList ds p := hA0
  rw [Try.params5] at hA hval
  obtain ⟨v0, vs0, d0, ds0, p0, q0, hargs, rfl, rfl, h0, r0⟩ := trodAll_cons hA
  obtain ⟨v1, vs1, d1, ds1, p1, q1, rfl, rfl, rfl, h1, r1⟩ := trodAll_cons r0
  obtain ⟨v2, vs2, d2, ds2, p2, q2, rfl, rfl, rfl, h2, r2⟩ := trodAll_cons r1
  obtain ⟨rfl, rfl, rfl⟩ := trodAll_nil r2
  obtain rfl : args = #[v0, v1, v2] := by cases args; simp_all
  obtain ⟨rfl, rfl⟩ := trodVars_none hV
  obtain ⟨a0, rfl, rfl, rfl, w0⟩ := open_int Try.underlying3 (hval 0 3 v0 rfl rfl) h0
  obtain ⟨a1, rfl, rfl, rfl, w1⟩ := open_int Try.underlying3 (hval 1 3 v1 rfl rfl) h1
  obtain ⟨a2, rfl, rfl, rfl, w2⟩ := open_int Try.underlying3 (hval 2 3 v2 rfl rfl) h2
  clear hA0 hval0
  simp only [List.append_nil] at hW'
  refine (walk a0 a1 a2 W w0 w1 w2).mono fun e W' ⟨he, bel⟩ => ?_
  subst he
  exact ⟨_, rfl, _, _, _, [], _, [], hW', trodAll_mk1 (shut_bool Try.underlying4 _), (trodAll_cons_mk (shut_int Try.underlying3 w0) (trodAll_cons_mk (shut_int Try.underlying3 w1) (trodAll_cons_mk (shut_int Try.underlying3 w2) trodAll_mk0))), rfl, bel.frame _, fun h => by cases h⟩

theorem over : Rows.placeKeysRow.holds Try.pinned (OpenSpec.ofChange Rows.placeKeysSpec) :=
  OpenClaim.holds_of_wide 5 Try.f5 rfl rfl rfl rfl rfl rfl rfl ⟨rfl, rfl, rfl, rfl, rfl⟩ rfl rfl rfl rfl rfl (by kernel_rfl) Try.func5 (by kernel_rfl)
    (of_decide_eq_true (by kernel_rfl)) (by unfold Func.isWrapper; first | (rw [if_pos (by decide +kernel)]; kernel_rfl) | (rw [if_neg (by decide +kernel)]; exact ⟨rfl, rfl⟩))
    (fun os started H enc _ => lifted os started H enc)

/-- The given statement. -/
theorem proved : Rows.PlaceKeysSaid :=
  over
#print axioms proved
end Go.Proofs.Ytdijgpkcolpfoaa.placeKeys
namespace Go.Proofs.Ytdijgpkcolpfoaa
theorem placeKeys_holds : Rows.PlaceKeysSaid := placeKeys.proved
end Go.Proofs.Ytdijgpkcolpfoaa
