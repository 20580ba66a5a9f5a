
/- What the statement DiskErrors asks comes out true, at all numbers, where package api's variables hold errors of their own; nothing that was there is written. -/
import Derived.Test.YtedmgdiimfenaaaDoorLaid
import Derived.Test.YtedmgdiimfenaaaDoorFrame
namespace Go.Proofs.YtedmgdiimfenaaaDoor.diskErrors
open Go.RowKit
set_option linter.unusedVariables false

theorem below_drew1 {B : Nat} {a w : World} (h : Below B a w) : Below B a w.drew := h.trans ⟨rfl, rfl, rfl, Nat.le_refl _, fun _ _ => rfl⟩
theorem below_of_eq {B : Nat} {a w w' : World} (e : w' = w) (h : Below B a w) : Below B a w' := by rw [e]; exact h
set_option maxHeartbeats 2000000 in
theorem walk (a0 a1 a2 : Int) (w : World) (w0 : (Lit.int .i64 a0).wf = true) (w1 : (Lit.int .i64 a1).wf = true) (w2 : (Lit.int .i64 a2).wf = true) {a : Nat → Addr} (he : SomeErrs w 18 a) :
    Calls Tryd.prog 6 #[.int .i64 a0, .int .i64 a1, .int .i64 a2] w fun e w' => e = .returned (.bool true) ∧ Below w.heap.size w w' := by
  have HE := hide he.all
  have hn := numberB_bd a0 20 (by omega)
  have ha := numberB_bd a1 100 (by omega)
  have hs := numberB_bd a2 300 (by omega)
  obtain ⟨n, hn'⟩ : ∃ n : Nat, numberB a0 20 = n := ⟨(numberB a0 20).toNat, by omega⟩
  obtain ⟨t, ht'⟩ : ∃ t : Nat, numberB a1 100 = t := ⟨(numberB a1 100).toNat, by omega⟩
  obtain ⟨m, hm'⟩ : ∃ m : Nat, numberB a2 300 = m := ⟨(numberB a2 300).toNat, by omega⟩
  rw [hn'] at hn
  rw [ht'] at ha
  rw [hm'] at hs
  have HN := hide hn'
  have HT := hide ht'
  have HM := hide hm'
  clear hn' ht' hm' w0 w1 w2 he
  have hmk := make_zeros m (by omega)
  go_enter Tryd.func6, Tryd.ntmps6
  go_wp2_with fail
  refine (dfirst_any _ HE.out.errs).mono ?_
  rintro e x1 ⟨rfl, hb1⟩
  have HB1 := hide hb1
  clear hb1
  go_wp2_with fail
  refine (number_any _ _ _ (by omega) (by omega)).mono ?_
  rintro e x2 ⟨rfl, rfl⟩
  rw [HN.out]
  go_wp2_with fail
  refine (number_any _ _ _ (by omega) (by omega)).mono ?_
  rintro e x3 ⟨rfl, rfl⟩
  rw [HT.out]
  go_wp2_with fail
  refine (number_any _ _ _ (by omega) (by omega)).mono ?_
  rintro e x4 ⟨rfl, rfl⟩
  rw [HM.out]
  go_wp2_with fail
  refine (new_any _ (n + 1) (.inr (.inl ⟨by omega, by omega, by omega⟩)) (HE.out.below HB1.out).errs).mono ?_
  rintro e x5 ⟨d, rfl, hd, hdisk, hb5⟩
  have HD := hide hdisk
  have HB5 := hide (over HB1.out hb5 HB1.out.size)
  clear hdisk hb5 hd
  have hne : ((n : Int) + 1 != (n : Int) + 1) = false := by simp
  go_wp2_with fail
  refine (size_any d HD.out).mono ?_
  rintro e x6 ⟨rfl, rfl⟩
  rw [List.length_replicate]
  go_wp2_with fail
  refine (read_range d _ HD.out (by rw [List.length_replicate]; simp [hasSec]; omega)).mono ?_
  rintro e x7 ⟨rfl, hb7⟩
  have HD7 := hide (HD.out.below hb7)
  have HB7 := hide (over HB5.out hb7 HB5.out.size)
  clear hb7
  go_wp2_with fail
  refine (read_range d _ HD7.out (by rw [List.length_replicate]; simp [hasSec]; omega)).mono ?_
  rintro e x8 ⟨rfl, hb8⟩
  have HD8 := hide (HD7.out.below hb8)
  have HB8 := hide (over HB7.out hb8 HB7.out.size)
  clear hb8
  go_wp2_with fail
  refine (filled_any _ _).mono ?_
  rintro e x9 ⟨rfl, _, hb9⟩
  have HD9 := hide (HD8.out.below hb9)
  have HB9 := hide (over HB8.out hb9 HB8.out.size)
  clear hb9
  go_wp2_with fail
  refine (write_range d _ _ HD9.out (by rw [List.length_replicate]; simp [hasSec]; omega)).mono ?_
  rintro e x10 ⟨rfl, rfl⟩
  have hbA : Below x10.heap.size x10 (x10.alloc (zeroRow m)) := (Below.refl _ _).alloc (Nat.le_refl _) _
  have HDA := hide (HD9.out.below hbA)
  have HBA := hide (over HB9.out hbA HB9.out.size)
  clear hbA
  go_wp2_with fail
  refine (write_range d _ _ HDA.out (by rw [List.length_replicate]; simp [hasSec]; omega)).mono ?_
  rintro e x11 ⟨rfl, rfl⟩
  obtain ⟨X, hX⟩ : ∃ X, X = x10.alloc (zeroRow m) := ⟨_, rfl⟩
  rw [← hX] at HDA HBA ⊢
  clear hX
  go_wp2_with fail
  have hn0 : ((n : Int) + 1 == 0) = false := by simp; omega
  have hn1 : (n : Int) + 1 ≠ 0 := by omega
  have hbZ : Below X.heap.size X (X.alloc (zeroRow m)) := (Below.refl _ _).alloc (Nat.le_refl _) _
  have HZ := hide hbZ
  have HDZ := hide (HDA.out.below hbZ)
  have HBZ := hide (over HBA.out hbZ HBA.out.size)
  have HOZ := hide (own_zeroRow m (by omega) X)
  obtain ⟨r, hr, hr1⟩ : ∃ r : Nat, (t : Int).tmod ((n : Int) + 1) = r ∧ r < n + 1 := by
    have h1 := Int.tmod_nonneg ((n : Int) + 1) (show (0 : Int) ≤ (t : Int) by omega)
    have h2 := Int.tmod_lt_of_pos (t : Int) (show (0 : Int) < (n : Int) + 1 by omega)
    exact ⟨((t : Int).tmod ((n : Int) + 1)).toNat, by omega, by omega⟩
  have HR := hide hr
  clear hr
  have hX0 := (HE.out.below HBA.out).cell 0 (by omega)
  have hXn := World.new_ne X ⟨0, 0, none⟩ hX0
  have hZ0 := (HE.out.below HBZ.out).cell 0 (by omega)
  clear hbZ
  by_cases hm : m = 256
  · have HM2 := hide hm
    have hmi : ((m : Int) == 256) = true := by simp; omega
    clear hm
    go_region_held3 (fun w' => w'.cell? ⟨0, 0, none⟩ = some (errV (a 0))) (first | go_keep | assumption)
      ((go_at_call 13; refine (write_ok_len d r m _ m _ HDZ.out.drew _ HR.out (by rw [List.length_replicate]; exact hr1) (by exact HOZ.out.row) HM2.out (List.length_replicate ..) (by rw [verOf_rep _ _ _ hr1]; decide) (by omega)).mono ?_; rintro e Y ⟨rfl, _, hk⟩; have HBY : Hid (Below w.heap.size w Y) := HBZ.out.trans (hk.of_drew.below fun b hb => Nat.lt_of_lt_of_le hb HB1.out.size); have hY0 := (HE.out.below HBY.out).cell 0 (by omega); clear hk))
    clear hY0 hZ0 hX0 hXn
    go_wp2_with fail
    refine (new_any _ 200 (.inr (.inr ⟨by omega, rfl⟩)) (HE.out.below HBY.out).errs).mono ?_
    rintro e y1 ⟨d1, rfl, _, hd1, hb1⟩
    have HD1 := hide hd1
    have HBY1 := hide (over HBY.out hb1 HBY.out.size)
    clear hd1 hb1
    go_wp2_with fail
    refine (new_any _ 1 (.inl ⟨by omega, rfl⟩) (HE.out.below HBY1.out).errs).mono ?_
    rintro e y2 ⟨d2, rfl, _, hd2, hb2⟩
    have HD2 := hide hd2
    have HD1b := hide (HD1.out.below hb2)
    have HBY2 := hide (over HBY1.out hb2 HBY1.out.size)
    clear hd2 hb2 HD1
    go_wp2_with fail
    refine (is_err _ a 1 (by omega) _ (by omega) (HE.out.below HBY2.out)).mono ?_
    rintro e y3 ⟨rfl, hb3⟩
    have HD13 := hide (HD1b.out.below hb3)
    have HD23 := hide (HD2.out.below hb3)
    have HBY3 := hide (over HBY2.out hb3 HBY2.out.size)
    clear hb3 HD1b HD2
    go_wp2_with fail
    refine (is_err _ a 1 (by omega) _ (by omega) (HE.out.below HBY3.out)).mono ?_
    rintro e y4 ⟨rfl, hb4⟩
    have HD14 := hide (HD13.out.below hb4)
    have HD24 := hide (HD23.out.below hb4)
    have HBY4 := hide (over HBY3.out hb4 HBY3.out.size)
    clear hb4 HD13 HD23
    go_wp2_with fail
    refine (is_err _ a 1 (by omega) _ (by omega) (HE.out.below HBY4.out)).mono ?_
    rintro e y5 ⟨rfl, hb5⟩
    have HD15 := hide (HD14.out.below hb5)
    have HD25 := hide (HD24.out.below hb5)
    have HBY5 := hide (over HBY4.out hb5 HBY4.out.size)
    clear hb5 HD14 HD24
    go_wp2_with fail
    refine (is_err _ a 1 (by omega) _ (by omega) (HE.out.below HBY5.out)).mono ?_
    rintro e y6 ⟨rfl, hb6⟩
    have HD16 := hide (HD15.out.below hb6)
    have HD26 := hide (HD25.out.below hb6)
    have HBY6 := hide (over HBY5.out hb6 HBY5.out.size)
    clear hb6 HD15 HD25
    go_wp2_with fail
    refine (size_any d1 HD16.out).mono ?_
    rintro e y7 ⟨rfl, rfl⟩
    rw [List.length_replicate]
    go_wp2_with fail
    refine (size_any d2 HD26.out).mono ?_
    rintro e y8 ⟨rfl, rfl⟩
    rw [List.length_replicate]
    go_wp2_with fail
    go_ret
    exact ⟨rfl, HBY6.out⟩
  · have hmi : ((m : Int) == 256) = false := by simp; omega
    go_region_held3 (fun w' => w'.cell? ⟨0, 0, none⟩ = some (errV (a 0))) (first | go_keep | assumption)
      ((go_at_call 13; refine (write_short d _ _ m m HDZ.out.drew (by rw [List.length_replicate, HR.out]; simp only [hasSec, decide_eq_true_eq]; omega) hm).mono ?_; rintro e Y ⟨rfl, hY⟩; have HBY := hide (below_of_eq hY (below_drew1 HBZ.out)); have hY0 := (HE.out.below HBY.out).cell 0 (by omega); clear hY))
    clear hY0 hZ0 hX0 hXn hm
    go_wp2_with fail
    refine (new_any _ 200 (.inr (.inr ⟨by omega, rfl⟩)) (HE.out.below HBY.out).errs).mono ?_
    rintro e y1 ⟨d1, rfl, _, hd1, hb1⟩
    have HD1 := hide hd1
    have HBY1 := hide (over HBY.out hb1 HBY.out.size)
    clear hd1 hb1
    go_wp2_with fail
    refine (new_any _ 1 (.inl ⟨by omega, rfl⟩) (HE.out.below HBY1.out).errs).mono ?_
    rintro e y2 ⟨d2, rfl, _, hd2, hb2⟩
    have HD2 := hide hd2
    have HD1b := hide (HD1.out.below hb2)
    have HBY2 := hide (over HBY1.out hb2 HBY1.out.size)
    clear hd2 hb2 HD1
    go_wp2_with fail
    refine (is_err _ a 1 (by omega) _ (by omega) (HE.out.below HBY2.out)).mono ?_
    rintro e y3 ⟨rfl, hb3⟩
    have HD13 := hide (HD1b.out.below hb3)
    have HD23 := hide (HD2.out.below hb3)
    have HBY3 := hide (over HBY2.out hb3 HBY2.out.size)
    clear hb3 HD1b HD2
    go_wp2_with fail
    refine (is_err _ a 1 (by omega) _ (by omega) (HE.out.below HBY3.out)).mono ?_
    rintro e y4 ⟨rfl, hb4⟩
    have HD14 := hide (HD13.out.below hb4)
    have HD24 := hide (HD23.out.below hb4)
    have HBY4 := hide (over HBY3.out hb4 HBY3.out.size)
    clear hb4 HD13 HD23
    go_wp2_with fail
    refine (is_err _ a 1 (by omega) _ (by omega) (HE.out.below HBY4.out)).mono ?_
    rintro e y5 ⟨rfl, hb5⟩
    have HD15 := hide (HD14.out.below hb5)
    have HD25 := hide (HD24.out.below hb5)
    have HBY5 := hide (over HBY4.out hb5 HBY4.out.size)
    clear hb5 HD14 HD24
    go_wp2_with fail
    refine (is_err _ a 1 (by omega) _ (by omega) (HE.out.below HBY5.out)).mono ?_
    rintro e y6 ⟨rfl, hb6⟩
    have HD16 := hide (HD15.out.below hb6)
    have HD26 := hide (HD25.out.below hb6)
    have HBY6 := hide (over HBY5.out hb6 HBY5.out.size)
    clear hb6 HD15 HD25
    unfold errV
    go_wp2_with fail
    refine (is_err _ a 2 (by omega) _ (by omega) (HE.out.below HBY6.out)).mono ?_
    rintro e y7 ⟨rfl, hb7⟩
    have HD17 := hide (HD16.out.below hb7)
    have HD27 := hide (HD26.out.below hb7)
    have HBY7 := hide (over HBY6.out hb7 HBY6.out.size)
    clear hb7 HD16 HD26
    go_wp2_with fail
    refine (size_any d1 HD17.out).mono ?_
    rintro e y8 ⟨rfl, rfl⟩
    rw [List.length_replicate]
    go_wp2_with fail
    refine (size_any d2 HD27.out).mono ?_
    rintro e y9 ⟨rfl, rfl⟩
    rw [List.length_replicate]
    go_wp2_with fail
    go_ret
    exact ⟨rfl, HBY7.out⟩
end Go.Proofs.YtedmgdiimfenaaaDoor.diskErrors
