
/- What the statement BlockWrong asks comes out true, at all numbers; nothing that was there is written. -/
import Derived.Test.YticaldoggdfjiaaDoorBlockTools
import Derived.Test.YticaldoggdfjiaaDoorLay
namespace Go.Proofs.YticaldoggdfjiaaDoor.blockWrong
open Go.RowKit
set_option linter.unusedVariables false

def ck : R := ⟨7, 0, 0, 0, 0, 0, false, false, 0, 0⟩
theorem ok_out (e : Int) (rs : List R) (h : ¬ (1 ≤ e ∧ e ≤ 1073741824 ∧ 1 ≤ rs.length ∧ rs.length ≤ 6)) : okB e rs = false := by unfold okB; rw [Bool.and_eq_false_iff]; exact .inl (decide_eq_false h)
theorem set_kind : ∀ (rs : List R) (i : Nat) (r : R) (v : Int), rs[i]? = some r → (cellsOfRs rs).set (i * 10) (.int .i64 v) = cellsOfRs (rs.set i ⟨v, r.txn, r.page, r.prev, r.next, r.key, r.had, r.has, r.old, r.new⟩) := by
  intro rs
  induction rs with
  | nil => intro i r v h; simp at h
  | cons x rs ih =>
    intro i r v h
    have hl : x.val.cells.toList.length = 10 := rfl
    have hc : cellsOfRs (x :: rs) = x.val.cells.toList ++ cellsOfRs rs := rfl
    cases i with
    | zero =>
      simp at h
      subst h
      rw [Nat.zero_mul, hc]
      rfl
    | succ i =>
      have h2 := ih i r v (by simpa using h)
      rw [hc, List.set_append_right _ _ (by rw [hl]; omega), hl, show (i + 1) * 10 - 10 = i * 10 by omega, h2]
      rfl
theorem OwnR.setKind {w : World} {B g c : Nat} {rs : List R} (h : OwnR w B (some ⟨g, 0, none⟩) c rs) {i : Nat} {r : R} (hi : rs[i]? = some r) (v : Int) : OwnR (w.setCell ⟨g, i * 10, none⟩ (.int .i64 v)) B (some ⟨g, 0, none⟩) c (rs.set i ⟨v, r.txn, r.page, r.prev, r.next, r.key, r.had, r.has, r.old, r.new⟩) := by
  obtain ⟨h1, h2⟩ := h
  have e := (h1.stored (i * 10) (.int .i64 v)).1
  rw [set_kind rs i r v hi] at e
  refine ⟨?_, by rw [List.length_set]; exact h2⟩
  rw [List.length_set]
  exact e
theorem OwnR.some_of {w : World} {B c : Nat} {ao : Option Addr} {rs : List R} (h : OwnR w B ao c rs) (hp : 0 < rs.length) : ∃ g, ao = some ⟨g, 0, none⟩ ∧ B ≤ g := by
  rcases h.1.2 with ⟨_, h0⟩ | ⟨g, c', cur, hv, hg, _⟩
  · omega
  · simp only [Value.slice.injEq] at hv
    exact ⟨g, hv.1, hg⟩
theorem ck_bad (n k : Nat) (h : k < n) : okB 1 ((List.replicate n ck).set k ⟨77, 0, 0, 0, 0, 0, false, false, 0, 0⟩) = false := by
  refine okB_no (k := k) (r := ⟨77, 0, 0, 0, 0, 0, false, false, 0, 0⟩) ?_ (by decide)
  rw [List.getElem?_set_self (by simpa using h)]
set_option maxRecDepth 100000 in
set_option maxHeartbeats 8000000 in
theorem walk (a0 a1 : Int) (w : World) (w0 : (Lit.int .i64 a0).wf = true) (w1 : (Lit.int .i64 a1).wf = true) {a : Nat → Addr} (he : ErrsOf w all18 a) :
    Calls Tryd.prog 8 #[.int .i64 a0, .int .i64 a1] w fun e w' => e = .returned (.bool true) ∧ Below w.heap.size w w' := by
  obtain ⟨i0, hi, hz0, hz1, hz2⟩ := info_parts Tryd.info5
  have HE := hide (errs_blk he (mem18 (by omega)) (mem18 (by omega)) (mem18 (by omega)) (mem18 (by omega)))
  have HW := hide he
  clear he w0 w1
  go_enter Tryd.func8, Tryd.ntmps8
  go_wp2_with fail
  refine (bfirst_any _ HE.out).mono ?_
  rintro e x1 ⟨rfl, hb⟩
  have HB := hide hb
  clear hb
  go_wp2_with fail
  refine (number_any _ _ _ (by omega) (by omega)).mono ?_
  rintro e x2 ⟨rfl, rfl⟩
  have hn := numberB_bd a1 5 (by omega)
  obtain ⟨n, hn'⟩ : ∃ n : Nat, numberB a1 5 = n := ⟨(numberB a1 5).toNat, by omega⟩
  rw [hn'] at hn ⊢
  have hn5 : n < 5 := by omega
  clear hn hn'
  have HC := hide (cells10_new x2 ck)
  have HX := hide (over HB.out (below_box x2 (recCells ck)) HB.out.size)
  have HSX := hide HB.out.size
  obtain ⟨X, hX⟩ : ∃ X, X = x2.alloc (recCells ck) := ⟨_, rfl⟩
  have HXE : Hid (x2.alloc (.cells #[.int .i64 7, .int .i64 0, .int .i64 0, .int .i64 0, .int .i64 0, .int .i64 0, .bool false, .bool false, .int .i64 0, .int .i64 0] 23) = X) := hX.symm
  rw [← hX] at HC HX
  clear hX HB
  go_wp2_with fail
  rw [HXE.out]
  go_loopw [7, 8] (fun v i wr => ∃ k : Nat, k ≤ n + 1 ∧ i = .int .i64 k ∧ ∃ ao c, v = .slice ao k c ∧ OwnR wr X.heap.size ao c (List.replicate k ck) ∧ Below X.heap.size X wr) (fun _ i _ => n + 1 - (intOf i).toNat)
  case atStart => exact ⟨0, by omega, rfl, none, 0, rfl, ownR_nil _ _, Below.refl _ _⟩
  case round =>
    obtain ⟨k, hk, rfl, ao, c, rfl, hown, hb⟩ := hrel
    have HO := hide hown
    have HB := hide hb
    have hcc := HC.out.below hb (Nat.le_refl _)
    obtain ⟨c0, c1, c2, c3, c4, c5, c6, c7, c8, c9, cl⟩ := hcc
    clear hown hb cl
    by_cases hlt : k < n + 1
    · have hki : (k : Int) < (n : Int) + 1 := by omega
      go_wp2_with (first | (refine build1 ck rfl ?_) | (at_builtin; refine append1 X.heap.size ao k c (List.replicate k ck) ck rfl (List.length_replicate ..) HO.out (by omega) (by first | rfl | (simp; rfl)) HB.out.size ?_; intro ao3 c3 x4 hown3 hb3; have HO3 := hide hown3; have HB3 := hide hb3; clear hown3 hb3))
      go_roundw
      case rel => exact ⟨k + 1, by omega, by go_num, ao3, c3, rfl, by rw [List.replicate_succ']; exact HO3.out, HB.out.trans HB3.out⟩
      case measure => simp [intOf]; omega
    · have hki : decide ((k : Int) < (n : Int) + 1) = false := by simp; omega
      have hkn : k = n + 1 := by omega
      subst hkn
      clear hlt hk
      go_wp2_with fail
      refine (number_any _ _ _ (by omega) (by omega)).mono ?_
      rintro e wq ⟨rfl, rfl⟩
      have hq := numberB_bd a0 5 (by omega)
      have hq5 : numberB a0 5 = 0 ∨ numberB a0 5 = 1 ∨ numberB a0 5 = 2 ∨ numberB a0 5 = 3 ∨ numberB a0 5 = 4 := by omega
      have HWR := hide (over HX.out HB.out HX.out.size)
      clear hq
      rcases hq5 with hq | hq | hq | hq | hq
      all_goals rw [hq]; clear hq
      · go_wp2_with fail
        go_loopw [7] (fun v wr => ∃ k : Nat, n + 1 ≤ k ∧ k ≤ 7 ∧ ∃ ao c, v = .slice ao k c ∧ OwnR wr X.heap.size ao c (List.replicate k ck) ∧ Below X.heap.size X wr) (fun v _ => 7 - sliceLen v)
        case atStart => exact ⟨n + 1, by omega, by omega, ao, c, rfl, HO.out, HB.out⟩
        case round =>
          clear HO HB HWR c0 c1 c2 c3 c4 c5 c6 c7 c8 c9
          obtain ⟨k, hk1, hk7, ao, c, rfl, hown, hb⟩ := hrel
          have HO := hide hown
          have HB := hide hb
          have hcc := HC.out.below hb (Nat.le_refl _)
          obtain ⟨c0, c1, c2, c3, c4, c5, c6, c7, c8, c9, cl⟩ := hcc
          clear hown hb cl
          by_cases hlt : k ≤ 6
          · have hki : (k : Int) ≤ 6 := by omega
            go_wp2_with (first | (refine build1 ck rfl ?_) | (at_builtin; refine append1 X.heap.size ao k c (List.replicate k ck) ck rfl (List.length_replicate ..) HO.out (by omega) (by first | rfl | (simp; rfl)) HB.out.size ?_; intro ao3 c3 x4 hown3 hb3; have HO3 := hide hown3; have HB3 := hide hb3; clear hown3 hb3))
            go_roundw
            case rel => exact ⟨k + 1, by omega, by omega, ao3, c3, rfl, by rw [List.replicate_succ']; exact HO3.out, HB.out.trans HB3.out⟩
            case measure => simp [sliceLen]; omega
          · have hki : decide ((k : Int) ≤ 6) = false := by simp; omega
            have HWR := hide (over HX.out HB.out HX.out.size)
            go_wp2_with fail
            refine (bb_no (x := a 1) (HE.out.step HWR.out).rd.range HO.out.row (List.length_replicate ..) (ok_out _ _ (by rw [List.length_replicate]; omega))).mono ?_
            rintro e y1 ⟨rfl, hb⟩
            have HY := hide (over HWR.out hb HWR.out.size)
            clear hb HWR
            have hS : (256 : Int) - ((n : Int) + 1) = ((255 - n : Nat) : Int) := by omega
            have HS := hide hS
            clear hS
            go_wp2_with (at_make; refine wpList_make_full y1 rfl (.tmp 68) (.tmp 68) 24 rfl y1.heap.size 5 i0 (.int .u8 0) 1 Tryd.underlying24 hi hz0 hz1 .i64 .i64 _ _ (255 - n) rfl rfl HS.out HS.out (by rw [hz2]; omega) (by unfold maxLen; omega) (Nat.le_refl _) ?_; intro y2 hown hgr; have HB2 : Hid (Below y1.heap.size y1 y2) := (Below.refl _ _).grown hgr (Nat.le_refl _) (by simp); clear hown hgr)
            replace HY := hide (over HY.out HB2.out HY.out.size)
            refine (bread_short _ (255 - n) _ _ (HE.out.step HY.out) (by omega)).mono ?_
            rintro e y3 ⟨rfl, hb⟩
            replace HY := hide (over HY.out hb HY.out.size)
            clear hb HB2
            go_wp2_with (first | (at_make; refine wpList_make_full y3 rfl (.const (.int .i64 256)) (.const (.int .i64 256)) 24 rfl y3.heap.size 5 i0 (.int .u8 0) 1 Tryd.underlying24 hi hz0 hz1 .i64 .i64 256 256 256 rfl rfl rfl rfl (by rw [hz2]; omega) (by unfold maxLen; omega) (Nat.le_refl _) ?_; intro y4 hown hgr; have HB4 : Hid (Below y3.heap.size y3 y4) := (Below.refl _ _).grown hgr (Nat.le_refl _) (by simp); have HO4 := hide (own_made hown (by omega)); clear hown hgr) | (at_builtin; refine wpList_append_own _ rfl (.tmp 75) (.tmp 76) 24 rfl y3.heap.size 5 i0 (.int .u8 0) 1 1 Tryd.underlying24 hi hz0 hz1 hz2 rfl (by decide) _ 256 (cellsOf (List.replicate 256 0)) rfl (HO4.out.1.alloc _) ⟨y4.heap.size, 0, none⟩ 1 1 [.int .u8 0] rfl rfl (cell_one_new _ _ _) (oneCell_cellsOf [0]) (by unfold maxLen; omega) (by omega) (by have := HB4.out.size; simp; omega) ?_; intro v' y5 hown2 hgr2 _; have HB5 := hide ((HB4.out.alloc HB4.out.size _).grown hgr2 (by have := HB4.out.size; simp; omega) (fun j e => (HO4.out.1.lt j e).1)); obtain ⟨ao5, c5, rfl⟩ := own_shape hown2; clear hown2 hgr2))
            replace HY := hide (over HY.out HB5.out HY.out.size)
            refine (bread_short _ 257 _ _ (HE.out.step HY.out) (by omega)).mono ?_
            rintro e y6 ⟨rfl, hb⟩
            replace HY := hide (over HY.out hb HY.out.size)
            clear hb HB5 HO4 HB4
            go_wp2_with fail
            refine (is_err _ a 1 (by omega) _ (by omega) (HW.out.step HY.out)).mono ?_
            rintro e y7 ⟨rfl, hb⟩
            replace HY := hide (over HY.out hb HY.out.size)
            clear hb
            go_wp2_with fail
            refine (is_err _ a 2 (by omega) _ (by omega) (HW.out.step HY.out)).mono ?_
            rintro e y8 ⟨rfl, hb⟩
            replace HY := hide (over HY.out hb HY.out.size)
            clear hb
            go_wp2_with fail
            refine (is_err _ a 2 (by omega) _ (by omega) (HW.out.step HY.out)).mono ?_
            rintro e y9 ⟨rfl, hb⟩
            replace HY := hide (over HY.out hb HY.out.size)
            clear hb
            go_wp2_with fail
            go_ret
            exact ⟨rfl, HY.out⟩
      · obtain ⟨g, rfl, hg⟩ := OwnR.some_of HO.out (by rw [List.length_replicate]; omega)
        have hcr := HO.out.row.2 (by rw [List.length_replicate]; omega)
        obtain ⟨b', off', hbo, hcr⟩ := hcr
        simp only [Option.some.injEq, Addr.mk.injEq, and_true] at hbo
        obtain ⟨rfl, rfl⟩ := hbo
        have hrp : (List.replicate (n + 1) ck)[n]? = some ck := by rw [List.getElem?_replicate, if_pos (by omega)]
        have hkc := (hcr n ck hrp).c0
        rw [Nat.zero_add] at hkc
        have hfz : wq.frozen? ⟨g, n * 10, none⟩ = false := HO.out.1.frozenAt (n * 10)
        have HOB := hide (OwnR.setKind HO.out hrp 77)
        have HWS := hide (HWR.out.setCell (p := ⟨g, n * 10, none⟩) (Nat.le_trans HX.out.size hg) (.int .i64 77))
        clear hcr hrp hg
        go_wp2_with fail
        clear hkc hfz
        replace HWR := HWS
        refine (bb_no (x := a 1) (HE.out.step HWR.out).rd.range HOB.out.row (by rw [List.length_set, List.length_replicate]) (ck_bad (n + 1) n (by omega))).mono ?_
        rintro e y1 ⟨rfl, hb⟩
        have HY := hide (over HWR.out hb HWR.out.size)
        clear hb HWR
        have hS : (256 : Int) - ((n : Int) + 1) = ((255 - n : Nat) : Int) := by omega
        have HS := hide hS
        clear hS
        go_wp2_with (at_make; refine wpList_make_full y1 rfl (.tmp 68) (.tmp 68) 24 rfl y1.heap.size 5 i0 (.int .u8 0) 1 Tryd.underlying24 hi hz0 hz1 .i64 .i64 _ _ (255 - n) rfl rfl HS.out HS.out (by rw [hz2]; omega) (by unfold maxLen; omega) (Nat.le_refl _) ?_; intro y2 hown hgr; have HB2 : Hid (Below y1.heap.size y1 y2) := (Below.refl _ _).grown hgr (Nat.le_refl _) (by simp); clear hown hgr)
        replace HY := hide (over HY.out HB2.out HY.out.size)
        refine (bread_short _ (255 - n) _ _ (HE.out.step HY.out) (by omega)).mono ?_
        rintro e y3 ⟨rfl, hb⟩
        replace HY := hide (over HY.out hb HY.out.size)
        clear hb HB2
        go_wp2_with (first | (at_make; refine wpList_make_full y3 rfl (.const (.int .i64 256)) (.const (.int .i64 256)) 24 rfl y3.heap.size 5 i0 (.int .u8 0) 1 Tryd.underlying24 hi hz0 hz1 .i64 .i64 256 256 256 rfl rfl rfl rfl (by rw [hz2]; omega) (by unfold maxLen; omega) (Nat.le_refl _) ?_; intro y4 hown hgr; have HB4 : Hid (Below y3.heap.size y3 y4) := (Below.refl _ _).grown hgr (Nat.le_refl _) (by simp); have HO4 := hide (own_made hown (by omega)); clear hown hgr) | (at_builtin; refine wpList_append_own _ rfl (.tmp 75) (.tmp 76) 24 rfl y3.heap.size 5 i0 (.int .u8 0) 1 1 Tryd.underlying24 hi hz0 hz1 hz2 rfl (by decide) _ 256 (cellsOf (List.replicate 256 0)) rfl (HO4.out.1.alloc _) ⟨y4.heap.size, 0, none⟩ 1 1 [.int .u8 0] rfl rfl (cell_one_new _ _ _) (oneCell_cellsOf [0]) (by unfold maxLen; omega) (by omega) (by have := HB4.out.size; simp; omega) ?_; intro v' y5 hown2 hgr2 _; have HB5 := hide ((HB4.out.alloc HB4.out.size _).grown hgr2 (by have := HB4.out.size; simp; omega) (fun j e => (HO4.out.1.lt j e).1)); obtain ⟨ao5, c5, rfl⟩ := own_shape hown2; clear hown2 hgr2))
        replace HY := hide (over HY.out HB5.out HY.out.size)
        refine (bread_short _ 257 _ _ (HE.out.step HY.out) (by omega)).mono ?_
        rintro e y6 ⟨rfl, hb⟩
        replace HY := hide (over HY.out hb HY.out.size)
        clear hb HB5 HO4 HB4
        go_wp2_with fail
        refine (is_err _ a 1 (by omega) _ (by omega) (HW.out.step HY.out)).mono ?_
        rintro e y7 ⟨rfl, hb⟩
        replace HY := hide (over HY.out hb HY.out.size)
        clear hb
        go_wp2_with fail
        refine (is_err _ a 2 (by omega) _ (by omega) (HW.out.step HY.out)).mono ?_
        rintro e y8 ⟨rfl, hb⟩
        replace HY := hide (over HY.out hb HY.out.size)
        clear hb
        go_wp2_with fail
        refine (is_err _ a 2 (by omega) _ (by omega) (HW.out.step HY.out)).mono ?_
        rintro e y9 ⟨rfl, hb⟩
        replace HY := hide (over HY.out hb HY.out.size)
        clear hb
        go_wp2_with fail
        go_ret
        exact ⟨rfl, HY.out⟩
      · go_wp2_with fail
        refine (bb_no (x := a 1) (HE.out.step HWR.out).rd.range HO.out.row (List.length_replicate ..) (ok_out _ _ (by omega))).mono ?_
        rintro e y1 ⟨rfl, hb⟩
        have HY := hide (over HWR.out hb HWR.out.size)
        clear hb HWR
        have hS : (256 : Int) - ((n : Int) + 1) = ((255 - n : Nat) : Int) := by omega
        have HS := hide hS
        clear hS
        go_wp2_with (at_make; refine wpList_make_full y1 rfl (.tmp 68) (.tmp 68) 24 rfl y1.heap.size 5 i0 (.int .u8 0) 1 Tryd.underlying24 hi hz0 hz1 .i64 .i64 _ _ (255 - n) rfl rfl HS.out HS.out (by rw [hz2]; omega) (by unfold maxLen; omega) (Nat.le_refl _) ?_; intro y2 hown hgr; have HB2 : Hid (Below y1.heap.size y1 y2) := (Below.refl _ _).grown hgr (Nat.le_refl _) (by simp); clear hown hgr)
        replace HY := hide (over HY.out HB2.out HY.out.size)
        refine (bread_short _ (255 - n) _ _ (HE.out.step HY.out) (by omega)).mono ?_
        rintro e y3 ⟨rfl, hb⟩
        replace HY := hide (over HY.out hb HY.out.size)
        clear hb HB2
        go_wp2_with (first | (at_make; refine wpList_make_full y3 rfl (.const (.int .i64 256)) (.const (.int .i64 256)) 24 rfl y3.heap.size 5 i0 (.int .u8 0) 1 Tryd.underlying24 hi hz0 hz1 .i64 .i64 256 256 256 rfl rfl rfl rfl (by rw [hz2]; omega) (by unfold maxLen; omega) (Nat.le_refl _) ?_; intro y4 hown hgr; have HB4 : Hid (Below y3.heap.size y3 y4) := (Below.refl _ _).grown hgr (Nat.le_refl _) (by simp); have HO4 := hide (own_made hown (by omega)); clear hown hgr) | (at_builtin; refine wpList_append_own _ rfl (.tmp 75) (.tmp 76) 24 rfl y3.heap.size 5 i0 (.int .u8 0) 1 1 Tryd.underlying24 hi hz0 hz1 hz2 rfl (by decide) _ 256 (cellsOf (List.replicate 256 0)) rfl (HO4.out.1.alloc _) ⟨y4.heap.size, 0, none⟩ 1 1 [.int .u8 0] rfl rfl (cell_one_new _ _ _) (oneCell_cellsOf [0]) (by unfold maxLen; omega) (by omega) (by have := HB4.out.size; simp; omega) ?_; intro v' y5 hown2 hgr2 _; have HB5 := hide ((HB4.out.alloc HB4.out.size _).grown hgr2 (by have := HB4.out.size; simp; omega) (fun j e => (HO4.out.1.lt j e).1)); obtain ⟨ao5, c5, rfl⟩ := own_shape hown2; clear hown2 hgr2))
        replace HY := hide (over HY.out HB5.out HY.out.size)
        refine (bread_short _ 257 _ _ (HE.out.step HY.out) (by omega)).mono ?_
        rintro e y6 ⟨rfl, hb⟩
        replace HY := hide (over HY.out hb HY.out.size)
        clear hb HB5 HO4 HB4
        go_wp2_with fail
        refine (is_err _ a 1 (by omega) _ (by omega) (HW.out.step HY.out)).mono ?_
        rintro e y7 ⟨rfl, hb⟩
        replace HY := hide (over HY.out hb HY.out.size)
        clear hb
        go_wp2_with fail
        refine (is_err _ a 2 (by omega) _ (by omega) (HW.out.step HY.out)).mono ?_
        rintro e y8 ⟨rfl, hb⟩
        replace HY := hide (over HY.out hb HY.out.size)
        clear hb
        go_wp2_with fail
        refine (is_err _ a 2 (by omega) _ (by omega) (HW.out.step HY.out)).mono ?_
        rintro e y9 ⟨rfl, hb⟩
        replace HY := hide (over HY.out hb HY.out.size)
        clear hb
        go_wp2_with fail
        go_ret
        exact ⟨rfl, HY.out⟩
      · go_wp2_with fail
        refine (bb_no (x := a 1) (HE.out.step HWR.out).rd.range HO.out.row (List.length_replicate ..) (ok_out _ _ (by omega))).mono ?_
        rintro e y1 ⟨rfl, hb⟩
        have HY := hide (over HWR.out hb HWR.out.size)
        clear hb HWR
        have hS : (256 : Int) - ((n : Int) + 1) = ((255 - n : Nat) : Int) := by omega
        have HS := hide hS
        clear hS
        go_wp2_with (at_make; refine wpList_make_full y1 rfl (.tmp 68) (.tmp 68) 24 rfl y1.heap.size 5 i0 (.int .u8 0) 1 Tryd.underlying24 hi hz0 hz1 .i64 .i64 _ _ (255 - n) rfl rfl HS.out HS.out (by rw [hz2]; omega) (by unfold maxLen; omega) (Nat.le_refl _) ?_; intro y2 hown hgr; have HB2 : Hid (Below y1.heap.size y1 y2) := (Below.refl _ _).grown hgr (Nat.le_refl _) (by simp); clear hown hgr)
        replace HY := hide (over HY.out HB2.out HY.out.size)
        refine (bread_short _ (255 - n) _ _ (HE.out.step HY.out) (by omega)).mono ?_
        rintro e y3 ⟨rfl, hb⟩
        replace HY := hide (over HY.out hb HY.out.size)
        clear hb HB2
        go_wp2_with (first | (at_make; refine wpList_make_full y3 rfl (.const (.int .i64 256)) (.const (.int .i64 256)) 24 rfl y3.heap.size 5 i0 (.int .u8 0) 1 Tryd.underlying24 hi hz0 hz1 .i64 .i64 256 256 256 rfl rfl rfl rfl (by rw [hz2]; omega) (by unfold maxLen; omega) (Nat.le_refl _) ?_; intro y4 hown hgr; have HB4 : Hid (Below y3.heap.size y3 y4) := (Below.refl _ _).grown hgr (Nat.le_refl _) (by simp); have HO4 := hide (own_made hown (by omega)); clear hown hgr) | (at_builtin; refine wpList_append_own _ rfl (.tmp 75) (.tmp 76) 24 rfl y3.heap.size 5 i0 (.int .u8 0) 1 1 Tryd.underlying24 hi hz0 hz1 hz2 rfl (by decide) _ 256 (cellsOf (List.replicate 256 0)) rfl (HO4.out.1.alloc _) ⟨y4.heap.size, 0, none⟩ 1 1 [.int .u8 0] rfl rfl (cell_one_new _ _ _) (oneCell_cellsOf [0]) (by unfold maxLen; omega) (by omega) (by have := HB4.out.size; simp; omega) ?_; intro v' y5 hown2 hgr2 _; have HB5 := hide ((HB4.out.alloc HB4.out.size _).grown hgr2 (by have := HB4.out.size; simp; omega) (fun j e => (HO4.out.1.lt j e).1)); obtain ⟨ao5, c5, rfl⟩ := own_shape hown2; clear hown2 hgr2))
        replace HY := hide (over HY.out HB5.out HY.out.size)
        refine (bread_short _ 257 _ _ (HE.out.step HY.out) (by omega)).mono ?_
        rintro e y6 ⟨rfl, hb⟩
        replace HY := hide (over HY.out hb HY.out.size)
        clear hb HB5 HO4 HB4
        go_wp2_with fail
        refine (is_err _ a 1 (by omega) _ (by omega) (HW.out.step HY.out)).mono ?_
        rintro e y7 ⟨rfl, hb⟩
        replace HY := hide (over HY.out hb HY.out.size)
        clear hb
        go_wp2_with fail
        refine (is_err _ a 2 (by omega) _ (by omega) (HW.out.step HY.out)).mono ?_
        rintro e y8 ⟨rfl, hb⟩
        replace HY := hide (over HY.out hb HY.out.size)
        clear hb
        go_wp2_with fail
        refine (is_err _ a 2 (by omega) _ (by omega) (HW.out.step HY.out)).mono ?_
        rintro e y9 ⟨rfl, hb⟩
        replace HY := hide (over HY.out hb HY.out.size)
        clear hb
        go_wp2_with fail
        go_ret
        exact ⟨rfl, HY.out⟩
      · go_wp2_with fail
        refine (bb_no (x := a 1) (HE.out.step HWR.out).rd.range (recRow_nil _) rfl (ok_out _ _ (by simp))).mono ?_
        rintro e y1 ⟨rfl, hb⟩
        have HY := hide (over HWR.out hb HWR.out.size)
        clear hb HWR
        have hS : (256 : Int) - ((n : Int) + 1) = ((255 - n : Nat) : Int) := by omega
        have HS := hide hS
        clear hS
        go_wp2_with (at_make; refine wpList_make_full y1 rfl (.tmp 68) (.tmp 68) 24 rfl y1.heap.size 5 i0 (.int .u8 0) 1 Tryd.underlying24 hi hz0 hz1 .i64 .i64 _ _ (255 - n) rfl rfl HS.out HS.out (by rw [hz2]; omega) (by unfold maxLen; omega) (Nat.le_refl _) ?_; intro y2 hown hgr; have HB2 : Hid (Below y1.heap.size y1 y2) := (Below.refl _ _).grown hgr (Nat.le_refl _) (by simp); clear hown hgr)
        replace HY := hide (over HY.out HB2.out HY.out.size)
        refine (bread_short _ (255 - n) _ _ (HE.out.step HY.out) (by omega)).mono ?_
        rintro e y3 ⟨rfl, hb⟩
        replace HY := hide (over HY.out hb HY.out.size)
        clear hb HB2
        go_wp2_with (first | (at_make; refine wpList_make_full y3 rfl (.const (.int .i64 256)) (.const (.int .i64 256)) 24 rfl y3.heap.size 5 i0 (.int .u8 0) 1 Tryd.underlying24 hi hz0 hz1 .i64 .i64 256 256 256 rfl rfl rfl rfl (by rw [hz2]; omega) (by unfold maxLen; omega) (Nat.le_refl _) ?_; intro y4 hown hgr; have HB4 : Hid (Below y3.heap.size y3 y4) := (Below.refl _ _).grown hgr (Nat.le_refl _) (by simp); have HO4 := hide (own_made hown (by omega)); clear hown hgr) | (at_builtin; refine wpList_append_own _ rfl (.tmp 75) (.tmp 76) 24 rfl y3.heap.size 5 i0 (.int .u8 0) 1 1 Tryd.underlying24 hi hz0 hz1 hz2 rfl (by decide) _ 256 (cellsOf (List.replicate 256 0)) rfl (HO4.out.1.alloc _) ⟨y4.heap.size, 0, none⟩ 1 1 [.int .u8 0] rfl rfl (cell_one_new _ _ _) (oneCell_cellsOf [0]) (by unfold maxLen; omega) (by omega) (by have := HB4.out.size; simp; omega) ?_; intro v' y5 hown2 hgr2 _; have HB5 := hide ((HB4.out.alloc HB4.out.size _).grown hgr2 (by have := HB4.out.size; simp; omega) (fun j e => (HO4.out.1.lt j e).1)); obtain ⟨ao5, c5, rfl⟩ := own_shape hown2; clear hown2 hgr2))
        replace HY := hide (over HY.out HB5.out HY.out.size)
        refine (bread_short _ 257 _ _ (HE.out.step HY.out) (by omega)).mono ?_
        rintro e y6 ⟨rfl, hb⟩
        replace HY := hide (over HY.out hb HY.out.size)
        clear hb HB5 HO4 HB4
        go_wp2_with fail
        refine (is_err _ a 1 (by omega) _ (by omega) (HW.out.step HY.out)).mono ?_
        rintro e y7 ⟨rfl, hb⟩
        replace HY := hide (over HY.out hb HY.out.size)
        clear hb
        go_wp2_with fail
        refine (is_err _ a 2 (by omega) _ (by omega) (HW.out.step HY.out)).mono ?_
        rintro e y8 ⟨rfl, hb⟩
        replace HY := hide (over HY.out hb HY.out.size)
        clear hb
        go_wp2_with fail
        refine (is_err _ a 2 (by omega) _ (by omega) (HW.out.step HY.out)).mono ?_
        rintro e y9 ⟨rfl, hb⟩
        replace HY := hide (over HY.out hb HY.out.size)
        clear hb
        go_wp2_with fail
        go_ret
        exact ⟨rfl, HY.out⟩
end Go.Proofs.YticaldoggdfjiaaDoor.blockWrong
