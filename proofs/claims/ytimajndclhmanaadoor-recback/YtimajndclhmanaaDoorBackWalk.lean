
/- What the statement RecBack asks comes out true, at every list of numbers, list of bytes, Old and New; nothing that was there is written. -/
import Derived.Test.YtimajndclhmanaaDoorMakeSeq
import Derived.Test.YtimajndclhmanaaDoorRecSame
import Derived.Test.YtimajndclhmanaaDoorRef
import Derived.Test.YtimajndclhmanaaDoorSee
import Derived.Test.YtimajndclhmanaaDoorLay
namespace Go.Proofs.YtimajndclhmanaaDoor.recBack
open Go.RowKit
set_option linter.unusedVariables false

theorem same_true (ao : Option Addr) (n cap : Nat) (xs : List Int) (bo : Option Addr) (n' cap' : Nat) (ys : List Int) (w : World) (h : Row w ao xs) (h' : Row w bo ys) (hn : xs.length = n) (hn' : ys.length = n') (hb : xs = ys) :
    Calls Tryd.prog 18 #[.slice ao n cap, .slice bo n' cap'] w fun e w' => e = .returned (.bool true) ∧ Below w.heap.size w w' := by
  subst hn; subst hn'
  refine (same_any ao cap xs bo cap' ys w h h').mono ?_
  rintro e w' ⟨rfl, n, rfl⟩
  rw [sameB_true hb]
  exact ⟨rfl, below_drewN (Below.refl _ _) n⟩
theorem append_one {w : World} {ops : Array Oper} {rest : List Oper} {o : Oper} {a : Act} {Q : Exit → Act → World → Prop}
    (hw : Region.wanted o (yielded ops a.tmps) = true) (s x : Operand)
    (ho : o.op = .call { callee := .builtin .append, args := #[s, x], argTypes := #[24, 24] })
    (B : Nat) (ao : Option Addr) (n cap : Nat) (xs : List Int) (hn : xs.length = n) (hs : a.eval s = .slice ao n cap) (hO : Own w B ao cap xs)
    (bo : Option Addr) (c : Nat) (hx : a.eval x = .slice bo 1 c) (hr : Row w bo [0]) (hnil : bo ≠ none)
    (hlen : n ≤ 1000) (hB : B ≤ w.heap.size)
    (h : ∀ ao' c' w', Below B w w' → wpList Tryd.prog ops Q rest (a.put o.dst (.slice ao' (n + 1) c')) w') : wpList Tryd.prog ops Q (o :: rest) a w := by
  subst hn
  refine wpList_append_bytes hw s x ho B ao cap xs hs hO bo c [0] hx hr (fun e => absurd e hnil) (by simp; omega) hB (xs ++ [0]) rfl ?_
  intro ao' c' w' _ hb _
  have := h ao' c' w' hb
  rw [List.length_append]
  exact this
theorem row_one (w : World) : Row (w.alloc (.cells #[.int .u8 0] 5)) (some ⟨w.heap.size, 0, none⟩) [0] := by
  refine ⟨by simp, fun x hx => by simp at hx; omega, fun _ => ⟨w.heap.size, 0, rfl, by simp, fun i hi => ?_⟩⟩
  match i, hi with
  | 0, _ => simp
theorem good_same {k t p v n y : Int} {g h : Bool} {o o' m m' : Int} (hg : goodB ⟨k, t, p, v, n, y, g, h, o, m⟩ = true) (ho : oldB ⟨k, t, p, v, n, y, g, h, o', m'⟩ = true) (hn : newB ⟨k, t, p, v, n, y, g, h, o', m'⟩ = true) : goodB ⟨k, t, p, v, n, y, g, h, o', m'⟩ = true := by
  unfold goodB at *
  simp only [Bool.and_eq_true] at *
  obtain ⟨h1, h2, h3, h4, h5, h6, h7, h8, h9⟩ := hg
  exact ⟨h1, h2, h3, h4, h5, h6, ho, hn, h9⟩
theorem good_old {r : R} (hg : goodB r = true) : oldB r = true := by
  unfold goodB at hg
  simp only [Bool.and_eq_true] at hg
  exact hg.2.2.2.2.2.2.1
theorem good_new {r : R} (hg : goodB r = true) : newB r = true := by
  unfold goodB at hg
  simp only [Bool.and_eq_true] at hg
  exact hg.2.2.2.2.2.2.2.1
theorem good_chg {r : R} (hg : goodB r = true) : chgB r = true := by
  unfold goodB at hg
  simp only [Bool.and_eq_true] at hg
  exact hg.2.2.2.2.2.2.2.2
set_option maxHeartbeats 8000000 in
theorem walk (a0 : Option Addr) (len0 cap0 : Nat) (z0 : List Int) (a1 : Option Addr) (len1 cap1 : Nat) (z1 : List Int) (a2 a3 : Int) (w : World) (w0 : IsRow .i64 w a0 len0 cap0 z0) (w1 : IsRow .u8 w a1 len1 cap1 z1) (w2 : (Lit.int .i64 a2).wf = true) (w3 : (Lit.int .i64 a3).wf = true) {a : Nat → Addr} (he : ErrsOf w all18 a) :
    Calls Tryd.prog 4 #[.slice a0 len0 cap0, .slice a1 len1 cap1, .int .i64 a2, .int .i64 a3] w fun e w' => e = .returned (.bool true) ∧ Below w.heap.size w w' := by
  have HW := hide he
  have HE : Hid (∀ x, Below w.heap.size w x → ReadErrs x (a 1) (a 2) (a 3)) := fun x hb => errs_read (HW.out.step hb) (mem18 (by omega)) (mem18 (by omega)) (mem18 (by omega))
  have H0 := hide w0
  have p2 := wf_i64 w2
  have p3 := wf_i64 w3
  clear he w0 w2 w3
  by_cases hl : len0 ≤ 60 ∧ len1 ≤ 60
  · obtain ⟨hl1, hl2⟩ := hl
    obtain ⟨xs, rfl, hrow, _⟩ := w1.part (by omega)
    have HR := hide hrow
    have HL2 := hide hl2
    have hd1 : decide ((60 : Int) < (len0 : Int)) = false := by simp; omega
    have hd2 : decide ((60 : Int) < (xs.length : Int)) = false := by simp; omega
    obtain ⟨N, hN⟩ : ∃ N, N = xs.length := ⟨_, rfl⟩
    have HNx := hide hN.symm
    rw [← hN] at hd2 hl2 ⊢
    have HL1 := hide hl1
    clear hl1 w1 hrow hN hl2
    go_enter Tryd.func4, Tryd.ntmps4
    go_wp2_with fail
    refine (rfirst_any _ _ (HE.out _ (Below.refl _ _)).range).mono ?_
    rintro e x1 ⟨rfl, hb⟩
    have HB := hide hb
    clear hb
    go_wp2_with fail
    refine (make_new H0.out HL1.out HB.out).mono ?_
    rintro e x2 ⟨r, rfl, hg, hf, hb⟩
    replace HB := hide (over HB.out hb HB.out.size)
    clear hb
    have hf1 := hf.1
    have hf2 := hf.2
    clear hf
    obtain ⟨kind, txn, page, prev, next, key, had, has, old, new⟩ := r
    simp only at hf1 hf2
    unfold R.val
    simp only
    have HF2 := hide p2
    have HF3 := hide p3
    have HFo := hide hf1
    have HFn := hide hf2
    have HG := hide hg
    clear p2 p3 hf1 hf2
    have hcase : (kind = 2 ∧ had = true ∧ has = true) ∨ (kind = 2 ∧ had = true ∧ has = false) ∨ (kind = 2 ∧ had = false ∧ has = true) ∨ (kind = 3 ∧ has = true) ∨ (kind = 3 ∧ has = false) ∨ (kind ≠ 2 ∧ kind ≠ 3) := by
      have hch := good_chg hg
      by_cases k2 : kind = 2
      · subst k2
        cases had <;> cases has <;> simp_all [chgB]
      · by_cases k3 : kind = 3
        · subst k3
          cases has <;> simp
        · simp [k2, k3]
    rcases hcase with ⟨rfl, rfl, rfl⟩ | ⟨rfl, rfl, rfl⟩ | ⟨rfl, rfl, rfl⟩ | ⟨rfl, rfl⟩ | ⟨rfl, rfl⟩ | ⟨hk2, hk3⟩
    case' inl =>
      obtain ⟨rt, hrt⟩ : ∃ rt : R, rt = ⟨2, txn, page, prev, next, key, true, true, a2, a3⟩ := ⟨_, rfl⟩
      have VT : Hid (rt.val = .agg #[.int .i64 2, .int .i64 txn, .int .i64 page, .int .i64 prev, .int .i64 next, .int .i64 key, .bool true, .bool true, .int .i64 a2, .int .i64 a3]) := hide (by rw [hrt]; rfl)
      have CT : Hid (recCells rt = .cells #[.int .i64 2, .int .i64 txn, .int .i64 page, .int .i64 prev, .int .i64 next, .int .i64 key, .bool true, .bool true, .int .i64 a2, .int .i64 a3] 23) := hide (by rw [hrt]; rfl)
      have GT : Hid (goodB rt = true) := hide (by rw [hrt]; exact good_same HG.out (rfl) (rfl))
      have FT : Hid rt.fits := hide (by rw [hrt]; exact ⟨HF2.out, HF3.out⟩)
      clear hrt hg HG HFo HFn HF2 HF3
      go_wp2_with fail
      rw [← CT.out, ← VT.out]
      clear CT VT
    case' inr.inl =>
      obtain ⟨rt, hrt⟩ : ∃ rt : R, rt = ⟨2, txn, page, prev, next, key, true, false, a2, new⟩ := ⟨_, rfl⟩
      have VT : Hid (rt.val = .agg #[.int .i64 2, .int .i64 txn, .int .i64 page, .int .i64 prev, .int .i64 next, .int .i64 key, .bool true, .bool false, .int .i64 a2, .int .i64 new]) := hide (by rw [hrt]; rfl)
      have CT : Hid (recCells rt = .cells #[.int .i64 2, .int .i64 txn, .int .i64 page, .int .i64 prev, .int .i64 next, .int .i64 key, .bool true, .bool false, .int .i64 a2, .int .i64 new] 23) := hide (by rw [hrt]; rfl)
      have GT : Hid (goodB rt = true) := hide (by rw [hrt]; exact good_same HG.out (rfl) (by have := good_new HG.out; exact this))
      have FT : Hid rt.fits := hide (by rw [hrt]; exact ⟨HF2.out, HFn.out⟩)
      clear hrt hg HG HFo HFn HF2 HF3
      go_wp2_with fail
      rw [← CT.out, ← VT.out]
      clear CT VT
    case' inr.inr.inl =>
      obtain ⟨rt, hrt⟩ : ∃ rt : R, rt = ⟨2, txn, page, prev, next, key, false, true, old, a3⟩ := ⟨_, rfl⟩
      have VT : Hid (rt.val = .agg #[.int .i64 2, .int .i64 txn, .int .i64 page, .int .i64 prev, .int .i64 next, .int .i64 key, .bool false, .bool true, .int .i64 old, .int .i64 a3]) := hide (by rw [hrt]; rfl)
      have CT : Hid (recCells rt = .cells #[.int .i64 2, .int .i64 txn, .int .i64 page, .int .i64 prev, .int .i64 next, .int .i64 key, .bool false, .bool true, .int .i64 old, .int .i64 a3] 23) := hide (by rw [hrt]; rfl)
      have GT : Hid (goodB rt = true) := hide (by rw [hrt]; exact good_same HG.out (by have := good_old HG.out; exact this) (rfl))
      have FT : Hid rt.fits := hide (by rw [hrt]; exact ⟨HFo.out, HF3.out⟩)
      clear hrt hg HG HFo HFn HF2 HF3
      go_wp2_with fail
      rw [← CT.out, ← VT.out]
      clear CT VT
    case' inr.inr.inr.inl =>
      obtain ⟨rt, hrt⟩ : ∃ rt : R, rt = ⟨3, txn, page, prev, next, key, had, true, old, a3⟩ := ⟨_, rfl⟩
      have VT : Hid (rt.val = .agg #[.int .i64 3, .int .i64 txn, .int .i64 page, .int .i64 prev, .int .i64 next, .int .i64 key, .bool had, .bool true, .int .i64 old, .int .i64 a3]) := hide (by rw [hrt]; rfl)
      have CT : Hid (recCells rt = .cells #[.int .i64 3, .int .i64 txn, .int .i64 page, .int .i64 prev, .int .i64 next, .int .i64 key, .bool had, .bool true, .int .i64 old, .int .i64 a3] 23) := hide (by rw [hrt]; rfl)
      have GT : Hid (goodB rt = true) := hide (by rw [hrt]; exact good_same HG.out (by have := good_old HG.out; exact this) (rfl))
      have FT : Hid rt.fits := hide (by rw [hrt]; exact ⟨HFo.out, HF3.out⟩)
      clear hrt hg HG HFo HFn HF2 HF3
      go_wp2_with fail
      rw [← CT.out, ← VT.out]
      clear CT VT
    case' inr.inr.inr.inr.inl =>
      obtain ⟨rt, hrt⟩ : ∃ rt : R, rt = ⟨3, txn, page, prev, next, key, had, false, old, new⟩ := ⟨_, rfl⟩
      have VT : Hid (rt.val = .agg #[.int .i64 3, .int .i64 txn, .int .i64 page, .int .i64 prev, .int .i64 next, .int .i64 key, .bool had, .bool false, .int .i64 old, .int .i64 new]) := hide (by rw [hrt]; rfl)
      have CT : Hid (recCells rt = .cells #[.int .i64 3, .int .i64 txn, .int .i64 page, .int .i64 prev, .int .i64 next, .int .i64 key, .bool had, .bool false, .int .i64 old, .int .i64 new] 23) := hide (by rw [hrt]; rfl)
      have GT : Hid (goodB rt = true) := hide (by rw [hrt]; exact HG.out)
      have FT : Hid rt.fits := hide (by rw [hrt]; exact ⟨HFo.out, HFn.out⟩)
      clear hrt hg HG HFo HFn HF2 HF3
      go_wp2_with fail
      rw [← CT.out, ← VT.out]
      clear CT VT
    case' inr.inr.inr.inr.inr =>
      obtain ⟨rt, hrt⟩ : ∃ rt : R, rt = ⟨kind, txn, page, prev, next, key, had, has, old, new⟩ := ⟨_, rfl⟩
      have VT : Hid (rt.val = .agg #[.int .i64 kind, .int .i64 txn, .int .i64 page, .int .i64 prev, .int .i64 next, .int .i64 key, .bool had, .bool has, .int .i64 old, .int .i64 new]) := hide (by rw [hrt]; rfl)
      have CT : Hid (recCells rt = .cells #[.int .i64 kind, .int .i64 txn, .int .i64 page, .int .i64 prev, .int .i64 next, .int .i64 key, .bool had, .bool has, .int .i64 old, .int .i64 new] 23) := hide (by rw [hrt]; rfl)
      have GT : Hid (goodB rt = true) := hide (by rw [hrt]; exact HG.out)
      have FT : Hid rt.fits := hide (by rw [hrt]; exact ⟨HFo.out, HFn.out⟩)
      clear hrt hg HG HFo HFn HF2 HF3
      have hk2b : (kind == 2) = false := by simpa using hk2
      have hk3b : (kind == 3) = false := by simpa using hk3
      clear hk2 hk3
      go_wp2_with fail
      rw [← CT.out, ← VT.out]
      clear CT VT
    all_goals
      have HA := hide (cells10_new x2 rt)
      replace HB := hide (over HB.out (below_box x2 (recCells rt)) HB.out.size)
      obtain ⟨X, hX⟩ : ∃ X, X = x2.alloc (recCells rt) := ⟨_, rfl⟩
      rw [← hX] at HA HB ⊢
      clear hX
      obtain ⟨BT, hBT⟩ : ∃ n, n = x2.heap.size := ⟨_, rfl⟩
      rw [← hBT] at HA ⊢
      clear hBT
      refine (recBytes_good rt _ _ (HE.out _ HB.out).range GT.out).mono ?_
      rintro e x3 ⟨g, rfl, hgg, hown, hb⟩
      have HX := hide hown
      have HS := hide (Nat.le_trans HB.out.size hgg)
      replace HA := hide (HA.out.below hb (Nat.le_refl _))
      replace HB := hide (over HB.out hb HB.out.size)
      clear hb hgg hown
      go_wp2_with fail
      refine (read_ok _ _ (recB rt) _ HX.out.row (HE.out _ HB.out) (length_recB rt) (isRec_recB rt GT.out FT.out)).mono ?_
      rintro e x4 ⟨rfl, hb⟩
      rw [parts_recB rt GT.out FT.out]
      replace HA := hide ((HA.out.below hb (Nat.le_refl _)).below (below_box x4 (recCells rt)) (Nat.le_refl _))
      replace HX := hide ((HX.out.below hb (Nat.le_refl _)).below (below_box x4 (recCells rt)) (Nat.le_refl _))
      replace HB := hide (over HB.out hb HB.out.size)
      replace HB := hide (over HB.out (below_box x4 (recCells rt)) HB.out.size)
      have HD := hide (cells10_new x4 rt)
      clear hb
      unfold recCells at HA HX HB HD
      unfold R.val
      obtain ⟨k0, k1, k2, k3, k4, k5, k6, k7, k8, k9, kl⟩ := HA.out
      obtain ⟨m0, m1, m2, m3, m4, m5, m6, m7, m8, m9, ml⟩ := HD.out
      go_wp2_with fail
      clear k0 k1 k2 k3 k4 k5 k6 k7 k8 k9 kl m0 m1 m2 m3 m4 m5 m6 m7 m8 m9 ml
      refine (sameRec_same rt _).mono ?_
      rintro e x5 ⟨rfl, hb⟩
      replace HX := hide (HX.out.below hb (Nat.le_refl _))
      replace HB := hide (over HB.out hb HB.out.size)
      clear hb HA HD
      go_wp2_with fail
      refine (read_short _ 39 _ _ (HE.out _ HB.out) (by omega)).mono ?_
      rintro e x6 ⟨rfl, hb⟩
      rw [noRec_val]
      replace HX := hide ((HX.out.below hb (Nat.le_refl _)).below (below_box x6 (.cells #[.int .i64 0, .int .i64 0, .int .i64 0, .int .i64 0, .int .i64 0, .int .i64 0, .bool false, .bool false, .int .i64 0, .int .i64 0] 23)) (Nat.le_refl _))
      replace HB := hide (over HB.out hb HB.out.size)
      replace HB := hide (over HB.out (below_box x6 (.cells #[.int .i64 0, .int .i64 0, .int .i64 0, .int .i64 0, .int .i64 0, .int .i64 0, .bool false, .bool false, .int .i64 0, .int .i64 0] 23)) HB.out.size)
      clear hb
      go_wp2_with fail
      refine (copy_len _ _ _ (recB rt) _ HX.out.row (length_recB rt)).mono ?_
      rintro e x7 ⟨g3, rfl, hgg, hown, hb⟩
      have HO3 := hide (hown.below (below_box x7 (.cells #[.int .u8 0] 5)) (Nat.le_refl _))
      have HS3 := hide (Nat.le_trans HB.out.size hgg)
      have HG3 : Hid (g3 ≤ (x7.alloc (.cells #[.int .u8 0] 5)).heap.size) := by
        have h1 := World.block_lt_of_cell? x7 _ (hown.cell 0 (by rw [length_recB]; omega))
        show g3 ≤ _
        simp at h1 ⊢
        omega
      replace HB := hide (over HB.out hb HB.out.size)
      replace HB := hide (over HB.out (below_box x7 (.cells #[.int .u8 0] 5)) HB.out.size)
      clear hb hgg hown HX
      go_wp2_with (refine append_one rfl (.tmp 100) (.tmp 101) rfl g3 _ 40 40 (recB rt) (length_recB rt) rfl HO3.out _ _ rfl (row_one x7) (by simp) (by omega) HG3.out ?_; intro ao8 c8 x8 hb8; have HB8 := hide (HB.out.trans (hb8.mono HS3.out)); clear hb8)
      replace HB := HB8
      clear HB8 HO3 HG3
      refine (read_short _ _ _ _ (HE.out _ HB.out) (by omega)).mono ?_
      rintro e x9 ⟨rfl, hb⟩
      rw [noRec_val]
      replace HB := hide (over HB.out hb HB.out.size)
      replace HB := hide (over HB.out (below_box x9 (.cells #[.int .i64 0, .int .i64 0, .int .i64 0, .int .i64 0, .int .i64 0, .int .i64 0, .bool false, .bool false, .int .i64 0, .int .i64 0] 23)) HB.out.size)
      clear hb
      go_wp2_with fail
      refine (read_any _ _ xs _ _ (HR.out.below HB.out (Nat.le_refl _)) (HE.out _ HB.out) HNx.out).mono ?_
      rintro e x10 ⟨hc, hb⟩
      replace HB := hide (over HB.out hb HB.out.size)
      clear hb
      rcases hc with ⟨_, rfl⟩ | ⟨_, _, rfl⟩ | ⟨h40, hi, rfl⟩
      case inr.inr =>
        have hgz : goodB (partsR xs) = true := by unfold isRec at hi; simp only [Bool.and_eq_true] at hi; exact hi.1
        have hxz : recB (partsR xs) = xs := by unfold isRec at hi; simp only [Bool.and_eq_true, decide_eq_true_eq] at hi; exact hi.2
        obtain ⟨rz, hrz⟩ : ∃ r, r = partsR xs := ⟨_, rfl⟩
        rw [← hrz] at hgz hxz ⊢
        have HGZ := hide hgz
        have HXZ := hide hxz
        clear hi hgz hxz hrz h40
        replace HB := hide (over HB.out (below_box x10 (recCells rz)) HB.out.size)
        unfold recCells at HB
        unfold R.val
        go_wp2_with fail
        refine (recBytes_good rz _ _ (HE.out _ HB.out).range HGZ.out).mono ?_
        rintro e x11 ⟨g4, rfl, _, hown, hb⟩
        have HO4 := hide hown.row
        replace HB := hide (over HB.out hb HB.out.size)
        clear hb hown
        go_wp2_with fail
        refine (same_true _ _ _ xs _ _ _ (recB rz) _ (HR.out.below HB.out (Nat.le_refl _)) HO4.out HNx.out (length_recB rz) HXZ.out.symm).mono ?_
        rintro e x12 ⟨rfl, hb⟩
        replace HB := hide (over HB.out hb HB.out.size)
        clear hb
        go_wp2_with fail
        refine (is_err _ a 2 (by omega) _ (by omega) (HW.out.step HB.out)).mono ?_
        rintro e x13 ⟨rfl, hb⟩
        replace HB := hide (over HB.out hb HB.out.size)
        clear hb
        go_wp2_with fail
        refine (is_err _ a 2 (by omega) _ (by omega) (HW.out.step HB.out)).mono ?_
        rintro e x14 ⟨rfl, hb⟩
        replace HB := hide (over HB.out hb HB.out.size)
        clear hb
        go_wp2_with fail
        go_ret
        exact ⟨rfl, HB.out⟩
      all_goals
        rw [noRec_val]
        replace HB := hide (over HB.out (below_box x10 (.cells #[.int .i64 0, .int .i64 0, .int .i64 0, .int .i64 0, .int .i64 0, .int .i64 0, .bool false, .bool false, .int .i64 0, .int .i64 0] 23)) HB.out.size)
        unfold errV
        go_wp2_with fail
        show Calls Tryd.prog 16 #[errV (a 2), .int .i64 103] _ _
        refine (is_err _ a 2 (by omega) _ (by omega) (HW.out.step HB.out)).mono ?_
        rintro e x13 ⟨rfl, hb⟩
        replace HB := hide (over HB.out hb HB.out.size)
        clear hb
        go_wp2_with fail
        show Calls Tryd.prog 16 #[errV (a 2), .int .i64 103] _ _
        refine (is_err _ a 2 (by omega) _ (by omega) (HW.out.step HB.out)).mono ?_
        rintro e x14 ⟨rfl, hb⟩
        replace HB := hide (over HB.out hb HB.out.size)
        clear hb
        go_wp2_with fail
        go_ret
        exact ⟨rfl, HB.out⟩
  · have hd1 : decide ((60 : Int) < (len0 : Int)) = true ∨ decide ((60 : Int) < (len0 : Int)) = false ∧ decide ((60 : Int) < (len1 : Int)) = true := by simp; omega
    rcases hd1 with hd1 | ⟨hd1, hd2⟩
    all_goals
      clear hl w1
      go_enter Tryd.func4, Tryd.ntmps4
      go_wp2_with fail
      refine (rfirst_any _ _ (HE.out _ (Below.refl _ _)).range).mono ?_
      rintro e x1 ⟨rfl, hb⟩
      have HB := hide hb
      clear hb
      go_wp2_with fail
      go_ret
      exact ⟨rfl, HB.out⟩
end Go.Proofs.YtimajndclhmanaaDoor.recBack
