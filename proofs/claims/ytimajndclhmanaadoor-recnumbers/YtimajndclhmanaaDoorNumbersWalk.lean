
/- What the statement RecNumbers asks comes out true, at all numbers; nothing that was there is written. -/
import Derived.Test.YtimajndclhmanaaDoorRecFirst
import Derived.Test.YtimajndclhmanaaDoorRecSame
import Derived.Test.YtimajndclhmanaaDoorLay
import Derived.Test.YtimajndclhmanaaDoorFrame
namespace Go.Proofs.YtimajndclhmanaaDoor.recNumbers
open Go.RowKit
set_option linter.unusedVariables false

theorem errs_read {w : World} {ks : List Nat} {a : Nat → Addr} (h : ErrsOf w ks a) (h1 : 1 ∈ ks) (h2 : 2 ∈ ks) (h3 : 3 ∈ ks) : ReadErrs w (a 1) (a 2) (a 3) := ⟨h.cell 1 h1, h.cell 2 h2, h.cell 3 h3⟩
theorem unlike (x y : R) (h : x.kind ≠ y.kind) : sameR x y = false := by
  unfold sameR
  exact decide_eq_false fun e => h e.1
set_option maxHeartbeats 4000000 in
theorem walk (a0 a1 : Int) (a2 : Bool) (w : World) (w0 : (Lit.int .i64 a0).wf = true) (w1 : (Lit.int .i64 a1).wf = true) {a : Nat → Addr} (he : ErrsOf w [1, 2, 3] a) :
    Calls Tryd.prog 8 #[.int .i64 a0, .int .i64 a1, .bool a2] w fun e w' => e = .returned (.bool true) ∧ Below w.heap.size w w' := by
  obtain ⟨p0, p1⟩ := wf_i64 w0
  obtain ⟨p2, p3⟩ := wf_i64 w1
  have HE := hide (errs_read he (by simp) (by simp) (by simp))
  clear he w0 w1
  obtain ⟨n, hn⟩ : ∃ n : Int, n = if a2 then 1073741824 else 0 := ⟨_, rfl⟩
  have hnb : 0 ≤ n ∧ n ≤ 1073741824 := by rw [hn]; split <;> omega
  have hga : goodB ⟨2, 60000, 32, n, 0, 1048575, true, true, a0, a1⟩ = true := by
    have : holdsB 0 1073741824 n = true := by simp [holdsB]; omega
    show (holdsB 1 10 2 && (holdsB 1 60000 60000 && (holdsB 1 32 32 && (holdsB 0 1073741824 n && true)))) = true
    rw [this]; rfl
  have hgb : goodB ⟨3, 1, 1, n, n, 0, true, true, 1073741824, a1⟩ = true := by
    have : holdsB 0 1073741824 n = true := by simp [holdsB]; omega
    show (holdsB 1 10 3 && (holdsB 1 60000 1 && (holdsB 1 32 1 && (holdsB 0 1073741824 n && (holdsB 0 1073741824 n && true))))) = true
    rw [this]; rfl
  obtain ⟨ra, hra⟩ : ∃ r : R, r = ⟨2, 60000, 32, n, 0, 1048575, true, true, a0, a1⟩ := ⟨_, rfl⟩
  obtain ⟨rb, hrb⟩ : ∃ r : R, r = ⟨3, 1, 1, n, n, 0, true, true, 1073741824, a1⟩ := ⟨_, rfl⟩
  have va : ra.val = .agg #[.int .i64 2, .int .i64 60000, .int .i64 32, .int .i64 n, .int .i64 0, .int .i64 1048575, .bool true, .bool true, .int .i64 a0, .int .i64 a1] := by rw [hra]; rfl
  have vb : rb.val = .agg #[.int .i64 3, .int .i64 1, .int .i64 1, .int .i64 n, .int .i64 n, .int .i64 0, .bool true, .bool true, .int .i64 1073741824, .int .i64 a1] := by rw [hrb]; rfl
  have VA := hide va
  have VB := hide vb
  have CA : Hid (recCells ra = .cells #[.int .i64 2, .int .i64 60000, .int .i64 32, .int .i64 n, .int .i64 0, .int .i64 1048575, .bool true, .bool true, .int .i64 a0, .int .i64 a1] 23) := hide (by rw [hra]; rfl)
  have CB : Hid (recCells rb = .cells #[.int .i64 3, .int .i64 1, .int .i64 1, .int .i64 n, .int .i64 n, .int .i64 0, .bool true, .bool true, .int .i64 1073741824, .int .i64 a1] 23) := hide (by rw [hrb]; rfl)
  have hfa : ra.fits := by rw [hra]; exact ⟨⟨p0, p1⟩, ⟨p2, p3⟩⟩
  have hfb : rb.fits := by rw [hrb]; exact ⟨⟨by simp, by simp⟩, ⟨p2, p3⟩⟩
  rw [← hra] at hga
  rw [← hrb] at hgb
  have hne : sameR ra rb = false := unlike _ _ (by rw [hra, hrb]; simp)
  have GA := hide hga
  have GB := hide hgb
  have PA := hide (parts_recB ra hga hfa)
  have PB := hide (parts_recB rb hgb hfb)
  have IA := hide (isRec_recB ra hga hfa)
  have IB := hide (isRec_recB rb hgb hfb)
  have NE := hide hne
  clear va vb hra hrb hga hgb hfa hfb hne hnb p0 p1 p2 p3
  cases a2
  all_goals
    simp only [Bool.false_eq_true, if_false, if_true] at hn
    subst hn
    go_enter Tryd.func8, Tryd.ntmps8
    go_wp2_with fail
    refine (rfirst_any _ _ HE.out.range).mono ?_
    rintro e w1 ⟨rfl, hb⟩
    replace HE := hide (HE.out.step hb)
    have HB := hide hb
    clear hb
    go_wp2_with fail
    rw [← CA.out, ← CB.out, ← VA.out]
    have HA := hide ((cells10_new w1 ra).below (below_box (w1.alloc (recCells ra)) (recCells rb)) (Nat.le_refl _))
    have HC := hide (cells10_new (w1.alloc (recCells ra)) rb)
    rw [show (w1.alloc (recCells ra)).heap.size = w1.heap.size + 1 by simp] at HC
    have hb : Below w1.heap.size w1 ((w1.alloc (recCells ra)).alloc (recCells rb)) := ((Below.refl _ _).alloc (Nat.le_refl _) _).alloc (by simp) _
    replace HE := hide (HE.out.step hb)
    replace HB := hide (over HB.out hb HB.out.size)
    clear hb
    obtain ⟨W, hW⟩ : ∃ W, W = (w1.alloc (recCells ra)).alloc (recCells rb) := ⟨_, rfl⟩
    rw [← hW] at HA HC HE HB ⊢
    clear hW
    refine (recBytes_good ra _ _ HE.out.range GA.out).mono ?_
    rintro e w2 ⟨g, rfl, hg, hown, hb⟩
    have HX := hide hown.row
    replace HE := hide (HE.out.step hb)
    replace HA := hide (HA.out.below hb (Nat.le_refl _))
    replace HC := hide (HC.out.below hb (Nat.le_refl _))
    replace HB := hide (over HB.out hb HB.out.size)
    clear hb hown hg
    obtain ⟨k0, k1, k2, k3, k4, k5, k6, k7, k8, k9, kl⟩ := HA.out
    obtain ⟨m0, m1, m2, m3, m4, m5, m6, m7, m8, m9, ml⟩ := HC.out
    go_wp2_with fail
    clear k0 k1 k2 k3 k4 k5 k6 k7 k8 k9 kl m0 m1 m2 m3 m4 m5 m6 m7 m8 m9 ml
    refine (recBytes_good rb _ _ HE.out.range GB.out).mono ?_
    rintro e w3 ⟨g', rfl, hg, hown, hb⟩
    have HY := hide hown.row
    replace HX := hide (HX.out.below hb (Nat.le_refl _))
    replace HE := hide (HE.out.step hb)
    replace HA := hide (HA.out.below hb (Nat.le_refl _))
    replace HC := hide (HC.out.below hb (Nat.le_refl _))
    replace HB := hide (over HB.out hb HB.out.size)
    clear hb hown hg
    go_wp2_with fail
    refine (read_ok _ _ (recB ra) _ HX.out HE.out (length_recB ra) IA.out).mono ?_
    rintro e w4 ⟨rfl, hb⟩
    rw [PA.out]
    replace HY := hide (HY.out.below hb (Nat.le_refl _))
    replace HE := hide (HE.out.step hb)
    replace HA := hide (HA.out.below hb (Nat.le_refl _))
    replace HC := hide (HC.out.below hb (Nat.le_refl _))
    replace HB := hide (over HB.out hb HB.out.size)
    have hb4 := below_box w4 (recCells ra)
    replace HE := hide (HE.out.step hb4)
    replace HA := hide (HA.out.below hb4 (Nat.le_refl _))
    replace HC := hide (HC.out.below hb4 (Nat.le_refl _))
    replace HY := hide (HY.out.below hb4 (Nat.le_refl _))
    have HD := hide (cells10_new w4 ra)
    have HS4 := hide (over HB.out hb4 HB.out.size)
    clear hb hb4 HX HB
    unfold recCells at HE HA HC HY HD HS4
    unfold R.val
    go_wp2_with fail
    refine (read_ok _ _ (recB rb) _ HY.out HE.out (length_recB rb) IB.out).mono ?_
    rintro e w5 ⟨rfl, hb⟩
    rw [PB.out]
    replace HA := hide (HA.out.below hb (Nat.le_refl _))
    replace HC := hide (HC.out.below hb (Nat.le_refl _))
    replace HD := hide (HD.out.below hb (Nat.le_refl _))
    have HB := hide (over HS4.out hb HS4.out.size)
    have hb5 := below_box w5 (recCells rb)
    replace HA := hide (HA.out.below hb5 (Nat.le_refl _))
    replace HC := hide (HC.out.below hb5 (Nat.le_refl _))
    replace HD := hide (HD.out.below hb5 (Nat.le_refl _))
    have HF := hide (cells10_new w5 rb)
    replace HB := hide (over HB.out hb5 HB.out.size)
    clear hb hb5 HE HY HS4
    unfold recCells at HA HC HD HB HF
    unfold R.val
    obtain ⟨k0, k1, k2, k3, k4, k5, k6, k7, k8, k9, kl⟩ := HA.out
    obtain ⟨m0, m1, m2, m3, m4, m5, m6, m7, m8, m9, ml⟩ := HC.out
    obtain ⟨d0, d1, d2, d3, d4, d5, d6, d7, d8, d9, dl⟩ := HD.out
    obtain ⟨f0, f1, f2, f3, f4, f5, f6, f7, f8, f9, fl⟩ := HF.out
    go_wp2_with fail
    clear k0 k1 k2 k3 k4 k5 k6 k7 k8 k9 kl m0 m1 m2 m3 m4 m5 m6 m7 m8 m9 ml
    clear d0 d1 d2 d3 d4 d5 d6 d7 d8 d9 dl f0 f1 f2 f3 f4 f5 f6 f7 f8 f9 fl
    refine (sameRec_same ra _).mono ?_
    rintro e w6 ⟨rfl, hb⟩
    replace HA := hide (HA.out.below hb (Nat.le_refl _))
    replace HC := hide (HC.out.below hb (Nat.le_refl _))
    replace HF := hide (HF.out.below hb (Nat.le_refl _))
    replace HB := hide (over HB.out hb HB.out.size)
    clear hb
    obtain ⟨k0, k1, k2, k3, k4, k5, k6, k7, k8, k9, kl⟩ := HA.out
    obtain ⟨m0, m1, m2, m3, m4, m5, m6, m7, m8, m9, ml⟩ := HC.out
    obtain ⟨f0, f1, f2, f3, f4, f5, f6, f7, f8, f9, fl⟩ := HF.out
    go_wp2_with fail
    clear k0 k1 k2 k3 k4 k5 k6 k7 k8 k9 kl m0 m1 m2 m3 m4 m5 m6 m7 m8 m9 ml
    clear f0 f1 f2 f3 f4 f5 f6 f7 f8 f9 fl
    refine (sameRec_same rb _).mono ?_
    rintro e w7 ⟨rfl, hb⟩
    replace HA := hide (HA.out.below hb (Nat.le_refl _))
    replace HC := hide (HC.out.below hb (Nat.le_refl _))
    replace HB := hide (over HB.out hb HB.out.size)
    clear hb
    obtain ⟨k0, k1, k2, k3, k4, k5, k6, k7, k8, k9, kl⟩ := HA.out
    obtain ⟨m0, m1, m2, m3, m4, m5, m6, m7, m8, m9, ml⟩ := HC.out
    go_wp2_with fail
    refine (recSame_any ra rb _).mono ?_
    rintro e w8 ⟨rfl, hb⟩
    rw [NE.out]
    replace HB := hide (over HB.out hb HB.out.size)
    clear hb
    go_wp2_with fail
    go_ret
    exact ⟨rfl, HB.out⟩
end Go.Proofs.YtimajndclhmanaaDoor.recNumbers
