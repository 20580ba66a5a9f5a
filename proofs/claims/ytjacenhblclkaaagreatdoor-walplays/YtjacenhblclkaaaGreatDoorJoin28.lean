/- Lemmas and contracts that the law stands on, joined: BlockRef2. -/
import Derived.Test.YtjacenhblclkaaaGreatDoorJoin27
import Derived.Test.YtjacenhblclkaaaGreatDoorJoin13
/- What the document's own ReadBlock (phoenixref1) answers, at all bytes: the same as block.Read, the error as a number. -/
namespace Go.Proofs.YtjacenhblclkaaaGreatDoor
open Go.RowKit
set_option linter.unusedVariables false

set_option maxRecDepth 100000 in
set_option maxHeartbeats 1000000 in
theorem rread_short (ao : Option Addr) (n cap : Nat) (w : World) (hn : n ≠ 256) :
    Calls Tryz.prog 75 #[.slice ao n cap] w fun e w' => e = .returned (.tuple #[.int .i64 0, .slice none 0 0, .int .i64 103]) ∧ Below w.heap.size w w' := by
  have hne : ((n : Int) != 256) = true := by simp; omega
  clear hn
  go_enter Tryz.func75, Tryz.ntmps75
  go_wp2_with fail
  exact bodyPost_ret (v := .tuple #[.int .i64 0, .slice none 0 0, .int .i64 103]) (by simp [results, Tryz.results75, go_sem]) rfl ⟨rfl, Below.refl _ _⟩
theorem refZero_len (ao : Option Addr) (n cap : Nat) (xs : List Int) (w : World) (h : Row w ao xs) (hn : xs.length = n) :
    Calls Tryz.prog 126 #[.slice ao n cap] w fun e w' => e = .returned (.bool (zeroB xs)) ∧ w' = w := by subst hn; exact refZero_any ao cap xs w h
set_option maxRecDepth 100000 in
set_option maxHeartbeats 1000000 in
theorem rread_zero (ao : Option Addr) (cap : Nat) (xs : List Int) (w : World) (h : Row w ao xs) (hn : xs.length = 256) (hz : zeroB xs = true) :
    Calls Tryz.prog 75 #[.slice ao 256 cap] w fun e w' => e = .returned (.tuple #[.int .i64 0, .slice none 0 0, .int .i64 0]) ∧ Below w.heap.size w w' := by
  have HR := hide h
  have HN := hide hn
  clear h hn
  go_enter Tryz.func75, Tryz.ntmps75
  go_wp2_with fail
  refine (refZero_len _ _ _ xs _ HR.out HN.out).mono ?_
  rintro e w1 ⟨rfl, rfl⟩
  rw [hz]
  go_wp2_with fail
  exact bodyPost_ret (v := .tuple #[.int .i64 0, .slice none 0 0, .int .i64 0]) (by simp [results, Tryz.results75, go_sem]) rfl ⟨rfl, Below.refl _ _⟩
theorem Row.at41 {w : World} {b off : Nat} {xs : List Int} (h : Row w (some ⟨b, off, none⟩) xs) (hl : xs.length = 256) (i : Nat) (hi : i < 6) : Row w (some ⟨b, off + (16 + 40 * i), none⟩) (partAt xs i) :=
  h.cut (by rw [length_partAt xs i hl hi]; rfl)
/-- What ReadBlock answers of a sector that is not all zeros. -/
def rrPost (xs : List Int) (w : World) (r : Ending) (w' : World) : Prop :=
  ((isBlock xs = true ∧ ∃ ao c, r = .returned (.tuple #[.int .i64 (epochOf xs), .slice ao (manyOf xs) c, .int .i64 0]) ∧ OwnR w' w.heap.size ao c (recsOf xs)) ∨ (isBlock xs = false ∧ r = .returned (.tuple #[.int .i64 0, .slice none 0 0, .int .i64 105]))) ∧ Below w.heap.size w w'
theorem readRec_n {w : World} {ao : Option Addr} {n cap : Nat} {xs : List Int} (h : Row w ao xs) (hn : xs.length = n) (h40 : n = 40) :
    Calls Tryz.prog 128 #[.slice ao n cap] w fun e w' => ((isRec xs = true ∧ e = .returned (.tuple #[(partsR xs).val, .int .i64 0])) ∨ (isRec xs = false ∧ e = .returned (.tuple #[noRec.val, .int .i64 104]))) ∧ Below w.heap.size w w' := by
  subst h40
  exact readRec_40 ao cap xs w h hn
set_option maxRecDepth 100000 in
set_option maxHeartbeats 8000000 in
theorem rread_any (ao : Option Addr) (cap : Nat) (xs : List Int) (w : World) (h : Row w ao xs) (hn : xs.length = 256) (hcap : 256 ≤ cap) (hz : zeroB xs = false) :
    Calls Tryz.prog 75 #[.slice ao 256 cap] w (rrPost xs w) := by
  obtain ⟨b, off, rfl, _, _⟩ := h.2.2 (by omega)
  have hc := getB_lt xs h.2.1 4 4
  obtain ⟨ep, hep⟩ : ∃ ep, ep = epochOf xs := ⟨_, rfl⟩
  have HEP : Hid (getB xs 4 (widthB 4).toNat = ep) := hep.symm
  have HEQ : Hid (epochOf xs = ep) := hep.symm
  rw [show getB xs 4 4 = ep from hep.symm] at hc
  obtain ⟨hc0, hc1⟩ := hc
  rw [show (256 : Int) ^ 4 = 4294967296 by decide] at hc1
  have hd := getB_lt xs h.2.1 8 2
  obtain ⟨cn, hcn⟩ : ∃ cn, cn = countOf xs := ⟨_, rfl⟩
  have HCN : Hid (getB xs 8 (widthB 2).toNat = cn) := hcn.symm
  have HQ : Hid (manyOf xs = min cn.toNat 6) := by show manyOf xs = _; rw [hcn]; rfl
  rw [show getB xs 8 2 = cn from hcn.symm] at hd
  obtain ⟨hd0, hd1⟩ := hd
  rw [show (256 : Int) ^ 2 = 65536 by decide] at hd1
  have HR := hide h
  have HN := hide hn
  clear h hn hep hcn
  go_enter Tryz.func75, Tryz.ntmps75
  go_wp2_with fail
  refine (refZero_len _ _ _ xs _ HR.out HN.out).mono ?_
  rintro e w1 ⟨rfl, rfl⟩
  rw [hz]
  go_wp2_with fail
  refine (refGet_at _ _ _ xs _ _ 0 _ _ HR.out HN.out (by omega) (by omega) HEP.out).mono ?_
  rintro r w2 ⟨rfl, rfl⟩
  go_wp2_with fail
  refine (refGet_at _ _ _ xs _ _ 0 _ _ HR.out HN.out (by omega) (by omega) HCN.out).mono ?_
  rintro r w3 ⟨rfl, rfl⟩
  go_wp2_with fail
  obtain ⟨q, hq⟩ : ∃ q, q = manyOf xs := ⟨_, rfl⟩
  have hq6 := manyOf_le xs
  have hqi : min cn 6 = (q : Int) := by rw [hq, HQ.out]; omega
  rw [← hq] at hq6
  have HQ2 : Hid (manyOf xs = q) := hq.symm
  have HL : Hid ((recsUp xs q).length = q) := length_recsUp xs q
  clear hq HQ
  go_loopw [7, 8] (fun v i wr => ∃ k : Nat, k ≤ q ∧ i = .int .i64 k ∧ ∃ ao c, v = .slice ao k c ∧ OwnR wr w3.heap.size ao c (recsUp xs k) ∧ Below w3.heap.size w3 wr ∧ ∀ i, i < k → isRec (partAt xs i) = true) (fun _ i _ => q - (intOf i).toNat)
  case atStart => exact ⟨0, by omega, rfl, none, 0, rfl, ownR_nil _ _, Below.refl _ _, fun i hi => by omega⟩
  case round =>
    obtain ⟨k, hk, rfl, ao, c, rfl, hown, hbel, hgood⟩ := hrel
    have HO := hide hown
    have HB := hide hbel
    have HG := hide hgood
    clear hown hbel hgood
    by_cases hlt : k < q
    · have hki : (k : Int) < min cn 6 := by omega
      have HRow := hide ((HR.out.below HB.out (Nat.le_refl _)).at41 HN.out k (by omega))
      have HLen := hide (length_partAt xs k HN.out (by omega))
      go_wp2_with fail
      refine (readRec_n HRow.out (by rw [HLen.out]; omega) (by omega)).mono ?_
      rintro r w4 ⟨hcase, hb4⟩
      replace HB := hide (over HB.out hb4 HB.out.size)
      replace HO := hide (HO.out.below hb4 (Nat.le_refl _))
      clear hb4
      rcases hcase with ⟨hir, rfl⟩ | ⟨hir, rfl⟩
      · have HS : Hid (recsUp xs (k + 1) = recsUp xs k ++ [partsR (partAt xs k)]) := recsUp_succ xs k
        have HG2 : Hid (∀ i, i < k + 1 → isRec (partAt xs i) = true) := by
          intro i hi
          by_cases e : i = k
          · rw [e]; exact hir
          · exact HG.out i (by omega)
        obtain ⟨r0, hr0⟩ : ∃ r0, r0 = partsR (partAt xs k) := ⟨_, rfl⟩
        rw [← hr0] at HS ⊢
        have HB1 := hide (below_box w4 (recCells r0))
        have HO1 := hide (HO.out.below HB1.out (Nat.le_refl _))
        have HB3 := hide (over HB.out HB1.out HB.out.size)
        clear hr0 HB1
        unfold R.val
        unfold recCells at HO1 HB3
        go_wp2_with (first | (refine build1 r0 rfl ?_) | (at_builtin; refine append1 w3.heap.size ao k c (recsUp xs k) r0 rfl (length_recsUp xs k) HO1.out (by omega) (by simp; rfl) HB3.out.size ?_; intro ao4 c4 w5 hown4 hb4; have HO4 := hide hown4; have HB4 := hide (HB3.out.trans hb4); clear hown4 hb4))
        go_roundw
        case rel => exact ⟨k + 1, by omega, by go_num, ao4, c4, rfl, by rw [HS.out]; exact HO4.out, HB4.out, HG2.out⟩
        case measure => simp [intOf]; omega
      · have HB3 := hide (over HB.out (below_box w4 (recCells noRec)) HB.out.size)
        unfold R.val
        unfold noRec
        unfold recCells noRec at HB3
        go_wp2_with fail
        exact bodyPost_ret (v := .tuple #[.int .i64 0, .slice none 0 0, .int .i64 105]) (by simp [results, Tryz.results75, go_sem]) rfl ⟨.inr ⟨isBlock_no1 (partsOk_no (by rw [HQ2.out]; exact hlt) hir), rfl⟩, HB3.out⟩
    · have hki : decide ((k : Int) < min cn 6) = false := by simp; omega
      have hkq : k = q := by omega
      subst hkq
      have HRO : Hid (recsOf xs = recsUp xs k) := by show recsUp xs (manyOf xs) = _; rw [HQ2.out]
      have HP : Hid (partsOk xs (manyOf xs) = true) := (partsOk_iff _ _).2 (by rw [HQ2.out]; exact HG.out)
      have HR4 := hide (HR.out.below HB.out (Nat.le_refl _))
      clear hlt hk hqi
      go_wp2_with fail
      refine (rb_any ep _ _ _ (recsUp xs k) _ HO.out.row HL.out).mono ?_
      rintro r w4 ⟨hcase, hb4⟩
      replace HB := hide (over HB.out hb4 HB.out.size)
      replace HO := hide (HO.out.below hb4 (Nat.le_refl _))
      replace HR4 := hide (HR4.out.below hb4 (Nat.le_refl _))
      clear hb4
      rw [← HRO.out] at hcase HO
      rcases hcase with ⟨hok, g, gc, rfl, hg, hown⟩ | ⟨hok, rfl⟩
      · have HOK := hide hok
        have HO4 := hide hown
        clear hok hg hown
        have HLB : Hid ((blockB ep (recsOf xs)).length = 256) := length_blockB _ _ (by rw [HRO.out, HL.out]; exact hq6)
        go_wp2_with fail
        refine (same_len _ _ _ xs _ _ _ (blockB ep (recsOf xs)) _ HR4.out HO4.out.row HN.out HLB.out).mono ?_
        rintro r w5 ⟨rfl, nd, rfl⟩
        cases hsm : sameB xs (blockB ep (recsOf xs)) with
        | true =>
          go_wp2_with fail
          refine bodyPost_ret (v := .tuple #[.int .i64 ep, .slice ao k c, .int .i64 0]) (by simp [results, Tryz.results75, go_sem]) rfl ⟨.inl ⟨isBlock_yes HP.out (by rw [HEQ.out]; exact HOK.out) (by rw [HEQ.out]; unfold sameB at hsm ⊢; simp only [decide_eq_true_eq] at hsm ⊢; exact hsm.symm), ao, c, by rw [HEQ.out, HQ2.out], HO.out⟩, below_drewN HB.out _⟩
        | false =>
          go_wp2_with fail
          refine bodyPost_ret (v := .tuple #[.int .i64 0, .slice none 0 0, .int .i64 105]) (by simp [results, Tryz.results75, go_sem]) rfl ⟨.inr ⟨isBlock_no3 (by rw [HEQ.out]; unfold sameB at hsm ⊢; simp only [decide_eq_false_iff_not] at hsm ⊢; exact fun e => hsm e.symm), rfl⟩, below_drewN HB.out _⟩
      · have HOK := hide hok
        clear hok
        go_wp2_with fail
        refine bodyPost_ret (v := .tuple #[.int .i64 0, .slice none 0 0, .int .i64 105]) (by simp [results, Tryz.results75, go_sem]) rfl ⟨.inr ⟨isBlock_no2 (by rw [HEQ.out]; exact HOK.out), rfl⟩, HB.out⟩
end Go.Proofs.YtjacenhblclkaaaGreatDoor
