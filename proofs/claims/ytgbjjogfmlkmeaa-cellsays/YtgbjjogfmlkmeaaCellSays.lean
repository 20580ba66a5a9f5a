/- The statement CellSays, the stage's theorem, holds: for every two lists of bytes, place, size and number the law returns true, and its arguments read afterwards as before. No condition. -/
import Derived.Test.YtgbjjogfmlkmeaaFrame
import Derived.Test.YtgbjjogfmlkmeaaRef
import Derived.Test.YtgbjjogfmlkmeaaRows
import Derived.WalkKit
import Derived.ProofKit
import Derived.OpenShut
import Derived.ShutString
import Derived.ChangeOld
import Derived.Below
namespace Go.Proofs.Ytgbjjogfmlkmeaa.cellSays
open Go.ChangeShapes Go.WideShapes Go.ChangeAt Go.RowKit
open Go.ChangeMaps (open_string shut_string)
set_option linter.unusedVariables false

theorem own : ownKnob Try.prog.godebug = none := by kernel_rfl
theorem laidOut : laidOutB Try.prog = true := by kernel_rfl

theorem rows_of_four {w : World} {a b c d : Part} (hb : b.isIn w) (hc : c.isIn w) (ha : a.isIn w) (hd : d.isIn w) : Rows2 (w.alloc (.cells #[a.val, b.val, c.val, d.val] 22)) (some ⟨w.heap.size, 0, none⟩) [a, b, c, d] := by
  have up : ∀ p : Part, p.isIn w → p.isIn (w.alloc (.cells #[a.val, b.val, c.val, d.val] 22)) := fun p hp => ⟨hp.1.below ((Below.refl w.heap.size w).alloc (Nat.le_refl _) _) (Nat.le_refl _), hp.2⟩
  refine ⟨by simp, fun p hp => ?_, fun _ => ⟨w.heap.size, 0, rfl, by simp, fun i hi => ?_⟩⟩
  · simp at hp
    rcases hp with rfl | rfl | rfl | rfl
    · exact up _ ha
    · exact up _ hb
    · exact up _ hc
    · exact up _ hd
  · match i, hi with
    | 0, _ => simp
    | 1, _ => simp
    | 2, _ => simp
    | 3, _ => simp

set_option maxHeartbeats 4000000 in
theorem walk (a0 : Option Addr) (len0 cap0 : Nat) (z0 : List Int) (a1 : Option Addr) (len1 cap1 : Nat) (z1 : List Int) (a2 : Int) (a3 : Int) (a4 : Int) (w : World) (w0 : IsRow .u8 w a0 len0 cap0 z0) (w1 : IsRow .u8 w a1 len1 cap1 z1) (w2 : (Lit.int .i64 a2).wf = true) (w3 : (Lit.int .i64 a3).wf = true) (w4 : (Lit.int .u64 a4).wf = true) :
    Calls Try.prog 3 #[.slice a0 len0 cap0, .slice a1 len1 cap1, .int .i64 a2, .int .i64 a3, .int .u64 a4] w fun e w' => e = .returned (.bool true) ∧ Below w.heap.size w w' := by
  by_cases hl : len0 ≤ 60 ∧ len1 ≤ 60
  · obtain ⟨hl1, hl2⟩ := hl
    obtain ⟨xs, rfl, hrow, hnil⟩ := w0.part (by omega)
    obtain ⟨ys, rfl, hrow', hnil'⟩ := w1.part (by omega)
    have HR := hide hrow
    have HR' := hide hrow'
    have HN := hide hnil
    have HN' := hide hnil'
    obtain ⟨p1, p2⟩ := wf_i64 w2
    obtain ⟨p3, p4⟩ := wf_u64 w4
    have hd1 : decide ((60 : Int) < (xs.length : Int)) = false := by simp; omega
    have hd2 : decide ((60 : Int) < (ys.length : Int)) = false := by simp; omega
    clear hrow w0 w1 w2 w3 w4 hrow' hnil hnil'
    go_enter Try.func3, Try.ntmps3
    go_wp2_with fail
    refine (first_any _).mono ?_
    rintro e w1 ⟨rfl, hb⟩
    have HS := hide ((St.refl HR.out).step hb)
    have HS' := hide ((St.refl HR'.out).step hb)
    clear hb
    go_wp2_with fail
    refine (number_any _ _ _ (by omega) (by omega)).mono ?_
    rintro e w' ⟨rfl, rfl⟩
    have hn1 := numberB_bd a3 100 (by omega)
    obtain ⟨f, hf⟩ : ∃ f, f = numberB a3 100 := ⟨_, rfl⟩
    rw [← hf] at hn1 ⊢
    clear hf
    go_wp2_with fail
    refine (put_any _ _ xs _ _ _ _ HS.out.1 (by omega) (by omega) (by omega) (by omega)).mono ?_
    rintro e w2 ⟨rfl, hown, hbel⟩
    have HP := hide hown.row
    have HS2 := hide (HS.out.step hbel)
    have HS2' := hide (HS'.out.step hbel)
    clear hown hbel
    go_wp2_with fail
    refine (refPut_any _ _ xs _ _ _ _ HS2.out.1 (by omega) (by omega) (by omega) (by omega)).mono ?_
    rintro e w3 ⟨rfl, hown, hbel⟩
    have HP3 := hide (HP.out.below hbel (Nat.le_refl _))
    have HQ3 := hide hown.row
    have HS3 := hide (HS2.out.step hbel)
    have HS3' := hide (HS2'.out.step hbel)
    clear hown hbel
    go_wp2_with fail
    refine (same_len _ _ _ _ _ _ _ _ _ HP3.out HQ3.out (length_putB _ _ _ _) (length_putB _ _ _ _)).mono ?_
    rintro e w4 ⟨rfl, nq, rfl⟩
    rw [sameB_true rfl]
    have HS4 := hide (HS3.out.drewN nq)
    have HS4' := hide (HS3'.out.drewN nq)
    clear HP HP3 HQ3 HS2 HS2' HS HS'
    go_wp2_with fail
    refine (get_any _ _ xs _ _ _ HS4.out.1 (by omega) (by omega)).mono ?_
    rintro e w5 ⟨rfl, rfl⟩
    go_wp2_with fail
    refine (refGet_any _ _ xs _ _ _ HS4.out.1 (by omega) (by omega)).mono ?_
    rintro e w5 ⟨rfl, rfl⟩
    go_wp2_with fail
    refine (zero_any _ _ xs _ HS4.out.1).mono ?_
    rintro e w5 ⟨rfl, rfl⟩
    go_wp2_with fail
    refine (refZero_any _ _ xs _ HS4.out.1).mono ?_
    rintro e w5 ⟨rfl, rfl⟩
    go_wp2_with fail
    have hrows : Rows2 ((w3.drewN nq).alloc (.cells #[.slice a0 xs.length cap0, .slice none 0 0, .slice a1 ys.length cap1, .slice a0 xs.length cap0] 22)) (some ⟨w3.heap.size, 0, none⟩) [⟨a0, cap0, xs⟩, ⟨none, 0, []⟩, ⟨a1, cap1, ys⟩, ⟨a0, cap0, xs⟩] :=
      rows_of_four (a := ⟨a0, cap0, xs⟩) (b := ⟨none, 0, []⟩) (c := ⟨a1, cap1, ys⟩) (d := ⟨a0, cap0, xs⟩) ⟨row_nil _, fun _ => ⟨rfl, rfl⟩⟩ ⟨HS4'.out.1, HN'.out⟩ ⟨HS4.out.1, HN.out⟩ ⟨HS4.out.1, HN.out⟩
    have hjoin : joinB [⟨a0, cap0, xs⟩, ⟨none, 0, []⟩, ⟨a1, cap1, ys⟩, ⟨a0, cap0, xs⟩] = xs ++ ys ++ xs := by simp [joinB]
    obtain ⟨Z1, hZ1⟩ : ∃ Z, Z = xs ++ ys := ⟨_, rfl⟩
    obtain ⟨Z2, hZ2⟩ : ∃ Z, Z = Z1 ++ xs := ⟨_, rfl⟩
    rw [← hZ1, ← hZ2] at hjoin
    have hlz1 : Z1.length ≤ 120 := by rw [hZ1]; simp; omega
    have hlz2 : Z2.length ≤ 180 := by rw [hZ2]; simp; omega
    have HZ1 := hide hZ1
    have HZ2 := hide hZ2
    have HJ := hide hjoin
    clear hZ1 hZ2
    have HRS := hide hrows
    have HS5 := hide (HS4.out.step ((Below.refl (w3.drewN nq).heap.size _).alloc (Nat.le_refl _) (.cells #[.slice a0 xs.length cap0, .slice none 0 0, .slice a1 ys.length cap1, .slice a0 xs.length cap0] 22)))
    have HS5' := hide (HS4'.out.step ((Below.refl (w3.drewN nq).heap.size _).alloc (Nat.le_refl _) (.cells #[.slice a0 xs.length cap0, .slice none 0 0, .slice a1 ys.length cap1, .slice a0 xs.length cap0] 22)))
    clear hrows hjoin
    refine (join_any _ _ _ _ HRS.out (by rw [HJ.out]; omega)).mono ?_
    rintro e w6 ⟨jo, jc, rfl, hown, hbel⟩
    rw [HJ.out] at hown ⊢
    have HJR := hide hown.row
    have HS6 := hide (HS5.out.step hbel)
    have HS6' := hide (HS5'.out.step hbel)
    clear hown hbel HS5 HS5' HRS
    go_wp2_with fail
    refine (bytes_any _ _ xs _ HS6.out.1).mono ?_
    rintro e w7 ⟨rfl, hown, hbel⟩
    have HO7 := hide hown
    have HB7 := hide hbel
    clear hown hbel
    go_wp2_with (first | (refine wpList_append_bytes (by first | rfl | simp [Region.wanted, yielded]) (.tmp 66) (.tmp 67) rfl w6.heap.size _ _ xs rfl HO7.out a1 cap1 ys rfl (HS6'.out.step HB7.out).1 HN'.out (by omega) HB7.out.size Z1 HZ1.out ?_; intro ao8 c8 w8 hO8 hb8 _; have HO8 := hide hO8; have HB8 := hide (HB7.out.trans hb8); clear hO8 hb8) | (refine wpList_append_bytes (by first | rfl | simp [Region.wanted, yielded]) (.tmp 68) (.tmp 69) rfl w6.heap.size ao8 c8 Z1 rfl HO8.out a0 cap0 xs rfl (HS6.out.step HB8.out).1 HN.out (by omega) HB8.out.size Z2 HZ2.out ?_; intro ao9 c9 w9 hO9 hb9 _; have HO9 := hide hO9; have HB9 := hide (HB8.out.trans hb9); clear hO9 hb9))
    have HS9 := hide (HS6.out.step HB9.out)
    have HJ9 := hide (HJR.out.below HB9.out (Nat.le_refl _))
    refine (same_any _ _ Z2 _ _ Z2 _ HJ9.out HO9.out.row).mono ?_
    rintro e w10 ⟨rfl, nq2, rfl⟩
    rw [sameB_true rfl]
    have HS10 := hide (HS9.out.drewN nq2)
    clear HS9 HJ9 HO9 HB9 HO8 HB8 HO7 HB7 HJR HS6 HS6' HS4 HS4'
    go_wp2_with fail
    refine (fill_any _ _ xs _ _ HS10.out.1 (by omega)).mono ?_
    rintro e w11 ⟨rfl, hown, hbel⟩
    have HF := hide hown.row
    have HS11 := hide (HS10.out.step hbel)
    clear hown hbel
    obtain ⟨F, hF⟩ : ∃ F, F = fillB xs f := ⟨_, rfl⟩
    have HFE := hide hF
    rw [← hF] at HF ⊢
    clear hF
    go_wp2_with fail
    refine (refFill_any _ _ xs _ _ HS11.out.1 (by omega)).mono ?_
    rintro e w12 ⟨bo, bc, rfl, hown, hbel⟩
    rw [← HFE.out] at hown ⊢
    have HF12 := hide (HF.out.below hbel (Nat.le_refl _))
    have HG12 := hide hown.row
    have HS12 := hide (HS11.out.step hbel)
    clear hown hbel
    go_wp2_with fail
    refine (same_any _ _ F _ _ F _ HF12.out HG12.out).mono ?_
    rintro e w13 ⟨rfl, nq3, rfl⟩
    rw [sameB_true rfl]
    go_wp2_with fail
    go_ret
    exact ⟨rfl, below_drewN HS12.out.2 _⟩
  · have hd1 : decide ((60 : Int) < (len0 : Int)) = true ∨ decide ((60 : Int) < (len0 : Int)) = false ∧ decide ((60 : Int) < (len1 : Int)) = true := by simp; omega
    clear w0 w1 w2 w3 w4
    rcases hd1 with hd1 | ⟨hd1, hd2⟩
    all_goals
      go_enter Try.func3, Try.ntmps3
      go_wp2_with fail
      refine (first_any _).mono ?_
      rintro e w1 ⟨rfl, hb⟩
      have HB := hide hb
      clear hb
      go_wp2_with fail
      go_ret
      exact ⟨rfl, HB.out⟩

set_option maxRecDepth 100000 in
theorem lifted (os : Os) (started : os.Started) (H : Type) (enc : TypeId × Value → H) :
    ReturnsInHanded {} Try.checked os 3 .any (Rows.cellSaysSpec.pre6 enc Try.prog Try.f3 Rows.cellSaysRow.domain false) (Rows.cellSaysSpec.post enc Try.prog Try.f3 false true false false) := by
  refine returnsInHanded_of_change (C := Try.checked) own started (by kernel_rfl) Try.func3
    (ChangeSpec.witness6 (enc := enc) (C := Try.checked) false ⟨#[], #[.slice none 0 0, .slice none 0 0, .int .i64 0, .int .i64 0, .int .u64 0], []⟩ 8 (by kernel_rfl) (by kernel_rfl) (by kernel_rfl) (by kernel_rfl)) ?_
  intro W base args ds gs before hval0 hW hcnd _
  have hval : ∀ (j : Nat) t v, Try.f3.params[j]? = some t → args[j]? = some v → Value.okWide Try.prog W .any base t v := hval0
  have hW' := hW
  obtain ⟨p, q, hA0, hV, rfl, hfz, hnd⟩ := hW
  have hA : DataW.TrodAll enc Try.prog W 0 (fun _ => true) true Try.f3.params.toList args.toList ds p := hA0
  rw [Try.params3] at hA hval
  obtain ⟨v0, vs0, d0, ds0, p0, q0, hargs, rfl, rfl, h0, r0⟩ := trodAll_cons hA
  obtain ⟨v1, vs1, d1, ds1, p1, q1, rfl, rfl, rfl, h1, r1⟩ := trodAll_cons r0
  obtain ⟨v2, vs2, d2, ds2, p2, q2, rfl, rfl, rfl, h2, r2⟩ := trodAll_cons r1
  obtain ⟨v3, vs3, d3, ds3, p3, q3, rfl, rfl, rfl, h3, r3⟩ := trodAll_cons r2
  obtain ⟨v4, vs4, d4, ds4, p4, q4, rfl, rfl, rfl, h4, r4⟩ := trodAll_cons r3
  obtain ⟨rfl, rfl, rfl⟩ := trodAll_nil r4
  obtain rfl : args = #[v0, v1, v2, v3, v4] := by cases args; simp_all
  obtain ⟨rfl, rfl⟩ := trodVars_none hV
  obtain ⟨a0, len0, cap0, rfl⟩ := okWide_slice Try.underlying22 (hval 0 22 v0 rfl rfl)
  have k0 := h0
  have lt0 : ∀ x ∈ p0, x.block < W.heap.size := by obtain ⟨m, hm⟩ := k0; exact DataW.trod_lt m _ _ _ hm
  obtain ⟨z0, w0⟩ : ∃ zs, IsRow .u8 W a0 len0 cap0 zs := by
    obtain ⟨fuel, hf⟩ := h0
    rcases open_ints Try.underlying22 Try.underlying5 (by kernel_rfl) hf with ⟨hcs, _⟩ | ⟨x, l, c, zs, hcs, _, hl, hm, hz, _, hcell, hwz⟩
    · simp [Value.cells] at hcs
      obtain ⟨rfl, rfl, rfl⟩ := hcs
      exact ⟨[], .inl ⟨rfl, rfl, rfl, rfl⟩⟩
    · simp [Value.cells] at hcs
      obtain ⟨rfl, rfl, rfl⟩ := hcs
      exact ⟨zs, .inr ⟨_, rfl, hl, hm, by simpa using hz, hcell, hwz⟩⟩
  obtain ⟨a1, len1, cap1, rfl⟩ := okWide_slice Try.underlying22 (hval 1 22 v1 rfl rfl)
  have k1 := h1
  have lt1 : ∀ x ∈ p1, x.block < W.heap.size := by obtain ⟨m, hm⟩ := k1; exact DataW.trod_lt m _ _ _ hm
  obtain ⟨z1, w1⟩ : ∃ zs, IsRow .u8 W a1 len1 cap1 zs := by
    obtain ⟨fuel, hf⟩ := h1
    rcases open_ints Try.underlying22 Try.underlying5 (by kernel_rfl) hf with ⟨hcs, _⟩ | ⟨x, l, c, zs, hcs, _, hl, hm, hz, _, hcell, hwz⟩
    · simp [Value.cells] at hcs
      obtain ⟨rfl, rfl, rfl⟩ := hcs
      exact ⟨[], .inl ⟨rfl, rfl, rfl, rfl⟩⟩
    · simp [Value.cells] at hcs
      obtain ⟨rfl, rfl, rfl⟩ := hcs
      exact ⟨zs, .inr ⟨_, rfl, hl, hm, by simpa using hz, hcell, hwz⟩⟩
  obtain ⟨a2, rfl, rfl, rfl, w2⟩ := open_int Try.underlying3 (hval 2 3 v2 rfl rfl) h2
  obtain ⟨a3, rfl, rfl, rfl, w3⟩ := open_int Try.underlying3 (hval 3 3 v3 rfl rfl) h3
  obtain ⟨a4, rfl, rfl, rfl, w4⟩ := open_int Try.underlying23 (hval 4 23 v4 rfl rfl) h4
  clear hA0 hval0
  refine (walk a0 len0 cap0 z0 a1 len1 cap1 z1 a2 a3 a4 W w0 w1 w2 w3 w4).mono fun e W' ⟨he, bel⟩ => ?_
  subst he
  exact ⟨_, rfl, _, _, _, [], _, [], hW', trodAll_mk1 (shut_bool Try.underlying4 _), (trodAll_cons_mk (Below.trod laidOut (by kernel_rfl) (of_decide_eq_true (by kernel_rfl)) k0 bel lt0) (trodAll_cons_mk (Below.trod laidOut (by kernel_rfl) (of_decide_eq_true (by kernel_rfl)) k1 bel lt1) (trodAll_cons_mk (shut_int Try.underlying3 w2) (trodAll_cons_mk (shut_int Try.underlying3 w3) (trodAll_cons_mk (shut_int Try.underlying23 w4) trodAll_mk0))))), rfl, bel.frame _, fun h => by cases h⟩

theorem over : Rows.cellSaysRow.holds Try.pinned (OpenSpec.ofChange Rows.cellSaysSpec) :=
  OpenClaim.holds_of_wide 3 Try.f3 rfl rfl rfl rfl rfl rfl rfl ⟨rfl, rfl, rfl, rfl, rfl⟩ rfl rfl rfl rfl rfl (by kernel_rfl) Try.func3 (by kernel_rfl)
    (of_decide_eq_true (by kernel_rfl)) (by unfold Func.isWrapper; first | (rw [if_pos (by decide +kernel)]; kernel_rfl) | (rw [if_neg (by decide +kernel)]; exact ⟨rfl, rfl⟩))
    (fun os started H enc _ => lifted os started H enc)

/-- The given statement. -/
theorem proved : Rows.CellSaysSaid := over
#print axioms proved
end Go.Proofs.Ytgbjjogfmlkmeaa.cellSays
namespace Go.Proofs.Ytgbjjogfmlkmeaa
theorem cellSays_holds : Rows.CellSaysSaid := cellSays.proved
end Go.Proofs.Ytgbjjogfmlkmeaa
