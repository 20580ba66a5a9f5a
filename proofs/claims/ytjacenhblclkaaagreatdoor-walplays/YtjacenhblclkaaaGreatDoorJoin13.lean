/- Lemmas and contracts that the law stands on, joined: BlockRead, BlockRead2. -/
import Derived.Test.YtjacenhblclkaaaGreatDoorJoin12
import Derived.Test.YtjacenhblclkaaaGreatDoorJoin7
/- What block.Read answers: the records of a block, or why there are none; nothing that was there is written. -/
namespace Go.Proofs.YtjacenhblclkaaaGreatDoor
open Go.RowKit
set_option linter.unusedVariables false

theorem Row.cut {w : World} {b off m : Nat} {J X : List Int} (h : Row w (some ⟨b, off, none⟩) J) (hX : (J.drop m).take X.length = X) : Row w (some ⟨b, off + m, none⟩) X := by
  obtain ⟨h0, h1, h2⟩ := h
  have hlen : X.length ≤ J.length - m := by
    have := congrArg List.length hX
    simp at this
    omega
  refine ⟨by omega, fun x hx => h1 x ?_, fun hp => ?_⟩
  · rw [← hX] at hx
    exact List.mem_of_mem_drop (List.mem_of_mem_take hx)
  · obtain ⟨b', off', e, hb, hc⟩ := h2 (by omega)
    simp only [Option.some.injEq, Addr.mk.injEq, and_true] at e
    obtain ⟨rfl, rfl⟩ := e
    refine ⟨b, off + m, rfl, hb, fun i hi => ?_⟩
    have := hc (m + i) (by omega)
    rw [← Nat.add_assoc] at this
    rw [this]
    congr 2
    conv => rhs; rw [← hX]
    rw [List.getD_eq_getElem?_getD, List.getD_eq_getElem?_getD, List.getElem?_take, if_pos hi, List.getElem?_drop]
theorem Row.at40 {w : World} {b off : Nat} {xs : List Int} (h : Row w (some ⟨b, off, none⟩) xs) (hl : xs.length = 256) (i : Nat) (hi : i < 6) : Row w (some ⟨b, off + (16 + i * 40), none⟩) (partAt xs i) := by
  rw [Nat.mul_comm]
  exact h.cut (by rw [length_partAt xs i hl hi]; rfl)
/-- What block.records answers. -/
def recsPost (xs : List Int) (z : Addr) (w : World) (r : Ending) (w' : World) : Prop :=
  ((partsOk xs (manyOf xs) = true ∧ ∃ ao c, r = .returned (.tuple #[.slice ao (manyOf xs) c, .nilIface]) ∧ OwnR w' w.heap.size ao c (recsOf xs)) ∨ (partsOk xs (manyOf xs) = false ∧ r = .returned (.tuple #[.slice none 0 0, errV z]))) ∧ Below w.heap.size w w'
set_option maxRecDepth 100000 in
set_option maxHeartbeats 4000000 in
theorem records_any (b off cap : Nat) (xs : List Int) (w : World) {x y z : Addr} (he : ReadErrs w x y z) (h : Row w (some ⟨b, off, none⟩) xs) (hn : xs.length = 256) (hcap : 256 ≤ cap) :
    Calls Tryz.prog 149 #[.slice (some ⟨b, off, none⟩) 256 cap] w (recsPost xs z w) := by
  have hc := getB_lt xs h.2.1 8 2
  obtain ⟨cn, hcn⟩ : ∃ cn, cn = countOf xs := ⟨_, rfl⟩
  have HCN : Hid (getB xs 8 (widthB 2).toNat = cn) := hcn.symm
  have HQ : Hid (manyOf xs = min cn.toNat 6) := by show manyOf xs = _; rw [hcn]; rfl
  rw [show getB xs 8 2 = cn from hcn.symm] at hc
  obtain ⟨hc0, hc1⟩ := hc
  rw [show (256 : Int) ^ 2 = 65536 by decide] at hc1
  have HE := hide he
  have HR := hide h
  have HN := hide hn
  clear he h hn hcn
  go_enter Tryz.func149, Tryz.ntmps149
  go_wp2_with fail
  refine (get_at _ _ _ xs _ _ _ HR.out HN.out (by omega) (by omega)).mono ?_
  rintro r w1 ⟨rfl, rfl⟩
  rw [HCN.out]
  go_wp2_with fail
  obtain ⟨q, hq⟩ : ∃ q, q = manyOf xs := ⟨_, rfl⟩
  have hq6 := manyOf_le xs
  have hqi : min cn 6 = (q : Int) := by rw [hq, HQ.out]; omega
  rw [← hq] at hq6
  have HQ2 : Hid (manyOf xs = q) := hq.symm
  rw [hqi]
  clear hq hqi HQ HCN hc0 hc1
  go_loopw [4, 13] (fun v i wr => ∃ k : Nat, k ≤ q ∧ i = .int .i64 k ∧ ∃ ao c, v = .slice ao k c ∧ OwnR wr w1.heap.size ao c (recsUp xs k) ∧ Below w1.heap.size w1 wr ∧ ∀ i, i < k → isRec (partAt xs i) = true) (fun _ i _ => q - (intOf i).toNat)
  case atStart => exact ⟨0, by omega, rfl, none, 0, rfl, ownR_nil _ _, Below.refl _ _, fun i hi => by omega⟩
  case round =>
    obtain ⟨k, hk, rfl, ao, c, rfl, hown, hbel, hgood⟩ := hrel
    have HO := hide hown
    have HB := hide hbel
    have HG := hide hgood
    clear hown hbel hgood
    by_cases hlt : k < q
    · have hki : (k : Int) < (q : Int) := by omega
      have HRow := hide ((HR.out.below HB.out (Nat.le_refl _)).at40 HN.out k (by omega))
      have HLen := hide (length_partAt xs k HN.out (by omega))
      have HE1 := hide (HE.out.step HB.out)
      cases hir : isRec (partAt xs k) with
      | true =>
        go_wp2_with fail
        refine (read_ok _ _ (partAt xs k) _ HRow.out HE1.out HLen.out hir).mono ?_
        rintro r w2 ⟨rfl, hb2⟩
        have HS : Hid (recsUp xs (k + 1) = recsUp xs k ++ [partsR (partAt xs k)]) := recsUp_succ xs k
        have HG2 : Hid (∀ i, i < k + 1 → isRec (partAt xs i) = true) := by
          intro i hi
          by_cases e : i = k
          · rw [e]; exact hir
          · exact HG.out i (by omega)
        obtain ⟨r0, hr0⟩ : ∃ r0, r0 = partsR (partAt xs k) := ⟨_, rfl⟩
        rw [← hr0] at HS ⊢
        have HB1 := hide (below_box w2 (recCells r0))
        have HBw := hide (over HB.out hb2 HB.out.size)
        have HO1 := hide ((HO.out.below hb2 (Nat.le_refl _)).below HB1.out (Nat.le_refl _))
        have HB3 := hide (over HBw.out HB1.out HBw.out.size)
        clear hb2 hr0 HBw HB1
        unfold R.val
        unfold recCells at HO1 HB3
        go_wp2_with (first | (refine build1 r0 rfl ?_) | (at_builtin; refine append1 w1.heap.size ao k c (recsUp xs k) r0 rfl (length_recsUp xs k) HO1.out (by omega) (by simp; rfl) HB3.out.size ?_; intro ao4 c4 w4 hown4 hb4; have HO4 := hide hown4; have HB4 := hide (HB3.out.trans hb4); clear hown4 hb4))
        go_roundw
        case rel => exact ⟨k + 1, by omega, by go_num, ao4, c4, rfl, by rw [HS.out]; exact HO4.out, HB4.out, HG2.out⟩
        case measure => simp [intOf]; omega
      | false =>
        go_wp2_with fail
        refine (read_bad _ _ (partAt xs k) _ HRow.out HE1.out HLen.out hir).mono ?_
        rintro r w2 ⟨rfl, hb2⟩
        have HBw := hide (over HB.out hb2 HB.out.size)
        have HB3 := hide (over HBw.out (below_box w2 (recCells noRec)) HBw.out.size)
        clear hb2 HBw
        unfold errV
        unfold R.val
        unfold noRec
        unfold recCells noRec at HB3
        go_wp2_with fail
        go_ret2
        exact ⟨.inr ⟨partsOk_no (by rw [HQ2.out]; exact hlt) hir, rfl⟩, HB3.out⟩
    · have hki : decide ((k : Int) < (q : Int)) = false := by simp; omega
      go_wp2_with fail
      go_ret2
      have hkq : k = q := by omega
      have hO := HO.out
      rw [hkq, ← HQ2.out] at hO
      exact ⟨.inl ⟨(partsOk_iff _ _).2 (by rw [HQ2.out, ← hkq]; exact HG.out), ao, c, by rw [HQ2.out, hkq]; rfl, hO⟩, HB.out⟩
end Go.Proofs.YtjacenhblclkaaaGreatDoor

/- What block.Read answers, at all bytes: ErrShort, nothing, ErrBlock, or a block's epoch and records; nothing that was there is written. -/
namespace Go.Proofs.YtjacenhblclkaaaGreatDoor
open Go.RowKit
set_option linter.unusedVariables false

/-- The errors that block.Read can meet: their variables. -/
structure BlkErrs (w : World) (x y z t : Addr) : Prop where
  rd : ReadErrs w x y z
  blk : w.cell? ⟨6, 0, none⟩ = some (errV t)
theorem BlkErrs.step {w w' : World} {x y z t : Addr} (h : BlkErrs w x y z t) (hb : Below w.heap.size w w') : BlkErrs w' x y z t := ⟨h.rd.step hb, (hb.cell (World.block_lt_of_cell? w _ h.blk)).trans h.blk⟩
theorem BlkErrs.over {B : Nat} {w w' : World} {x y z t : Addr} (h : BlkErrs w x y z t) (hb : Below B w w') (hB : w.heap.size ≤ B) : BlkErrs w' x y z t := h.step (hb.mono hB)
theorem errs_blk {w : World} {ks : List Nat} {a : Nat → Addr} (h : ErrsOf w ks a) (h1 : 1 ∈ ks) (h2 : 2 ∈ ks) (h3 : 3 ∈ ks) (h4 : 4 ∈ ks) : BlkErrs w (a 1) (a 2) (a 3) (a 4) := ⟨⟨h.cell 1 h1, h.cell 2 h2, h.cell 3 h3⟩, h.cell 4 h4⟩
set_option maxRecDepth 100000 in
set_option maxHeartbeats 1000000 in
theorem bread_short (ao : Option Addr) (n cap : Nat) (w : World) {x y z t : Addr} (he : BlkErrs w x y z t) (hn : n ≠ 256) :
    Calls Tryz.prog 125 #[.slice ao n cap] w fun e w' => e = .returned (.tuple #[.int .i64 0, .slice none 0 0, errV y]) ∧ Below w.heap.size w w' := by
  have hne : ((n : Int) != 256) = true := by simp; omega
  have hE0 := he.rd.short
  clear he hn
  unfold errV at *
  go_enter Tryz.func125, Tryz.ntmps125
  go_wp2_with fail
  go_quiet (fail)
  go_wp2_with fail
  exact bodyPost_ret (v := .tuple #[.int .i64 0, .slice none 0 0, .iface 237 (.pointer (some y))]) (by simp [results, Tryz.results125, go_sem]) rfl ⟨rfl, below_drewN (Below.refl _ _) _⟩
set_option maxRecDepth 100000 in
set_option maxHeartbeats 1000000 in
theorem bread_zero (ao : Option Addr) (cap : Nat) (xs : List Int) (w : World) (h : Row w ao xs) (hn : xs.length = 256) (hz : zeroB xs = true) :
    Calls Tryz.prog 125 #[.slice ao 256 cap] w fun e w' => e = .returned (.tuple #[.int .i64 0, .slice none 0 0, .nilIface]) ∧ Below w.heap.size w w' := by
  have HR := hide h
  have HN := hide hn
  clear h hn
  go_enter Tryz.func125, Tryz.ntmps125
  go_wp2_with fail
  refine (zero_len _ _ _ xs _ HR.out HN.out).mono ?_
  rintro e w1 ⟨rfl, rfl⟩
  rw [hz]
  go_wp2_with fail
  exact bodyPost_ret (v := .tuple #[.int .i64 0, .slice none 0 0, .nilIface]) (by simp [results, Tryz.results125, go_sem]) rfl ⟨rfl, Below.refl _ _⟩
/-- What block.Read answers of a sector that is not all zeros. -/
def brPost (xs : List Int) (t : Addr) (w : World) (r : Ending) (w' : World) : Prop :=
  ((isBlock xs = true ∧ ∃ ao c, r = .returned (.tuple #[.int .i64 (epochOf xs), .slice ao (manyOf xs) c, .nilIface]) ∧ OwnR w' w.heap.size ao c (recsOf xs)) ∨ (isBlock xs = false ∧ r = .returned (.tuple #[.int .i64 0, .slice none 0 0, errV t]))) ∧ Below w.heap.size w w'
theorem isBlock_no1 {xs : List Int} (h : partsOk xs (manyOf xs) = false) : isBlock xs = false := by unfold isBlock; rw [h]; rfl
theorem isBlock_no2 {xs : List Int} (h : okB (epochOf xs) (recsOf xs) = false) : isBlock xs = false := by unfold isBlock; rw [h]; simp
theorem isBlock_no3 {xs : List Int} (h : sameB (blockB (epochOf xs) (recsOf xs)) xs = false) : isBlock xs = false := by
  unfold sameB at h
  unfold isBlock
  rw [h]
  simp
theorem isBlock_yes {xs : List Int} (h1 : partsOk xs (manyOf xs) = true) (h2 : okB (epochOf xs) (recsOf xs) = true) (h : sameB (blockB (epochOf xs) (recsOf xs)) xs = true) : isBlock xs = true := by
  unfold sameB at h
  unfold isBlock
  rw [h1, h2, h]
  rfl
set_option maxRecDepth 100000 in
set_option maxHeartbeats 4000000 in
theorem bread_any (ao : Option Addr) (cap : Nat) (xs : List Int) (w : World) {x y z t : Addr} (he : BlkErrs w x y z t) (h : Row w ao xs) (hn : xs.length = 256) (hcap : 256 ≤ cap) (hz : zeroB xs = false) :
    Calls Tryz.prog 125 #[.slice ao 256 cap] w (brPost xs t w) := by
  obtain ⟨b, off, rfl, _, _⟩ := h.2.2 (by omega)
  have hc := getB_lt xs h.2.1 4 4
  obtain ⟨ep, hep⟩ : ∃ ep, ep = epochOf xs := ⟨_, rfl⟩
  have HEP : Hid (getB xs 4 (widthB 4).toNat = ep) := hep.symm
  have HEQ : Hid (epochOf xs = ep) := hep.symm
  rw [show getB xs 4 4 = ep from hep.symm] at hc
  obtain ⟨hc0, hc1⟩ := hc
  rw [show (256 : Int) ^ 4 = 4294967296 by decide] at hc1
  have HE := hide he
  have HR := hide h
  have HN := hide hn
  clear he h hn hep
  go_enter Tryz.func125, Tryz.ntmps125
  go_wp2_with fail
  refine (zero_len _ _ _ xs _ HR.out HN.out).mono ?_
  rintro e w1 ⟨rfl, rfl⟩
  rw [hz]
  go_wp2_with fail
  refine (records_any b off cap xs _ HE.out.rd HR.out HN.out hcap).mono ?_
  rintro r w2 ⟨hcase, hb⟩
  have HB := hide hb
  have HR2 := hide (HR.out.below hb (Nat.le_refl _))
  have HE2 := hide (HE.out.step hb)
  clear hb
  rcases hcase with ⟨hp, lo, c, rfl, hown⟩ | ⟨hp, rfl⟩
  · have HO := hide hown
    have HP := hide hp
    obtain ⟨q, hq⟩ : ∃ q, q = manyOf xs := ⟨_, rfl⟩
    have HQ : Hid (manyOf xs = q) := hq.symm
    have hq6 := manyOf_le xs
    rw [← hq] at hq6 ⊢
    have HL : Hid ((recsOf xs).length = q) := by show (recsOf xs).length = q; rw [length_recsOf, hq]
    clear hown hp hq
    go_wp2_with fail
    refine (get_at _ _ _ xs _ _ _ HR2.out HN.out (by omega) (by omega)).mono ?_
    rintro r w3 ⟨rfl, rfl⟩
    rw [HEP.out]
    go_wp2_with fail
    refine (bb_any ep _ _ _ (recsOf xs) _ x HE2.out.rd.range HO.out.row HL.out).mono ?_
    rintro r w4 ⟨hcase, hb⟩
    replace HB := hide (over HB.out hb HB.out.size)
    have HR3 := hide (HR2.out.below hb (Nat.le_refl _))
    have HE3 := hide (HE2.out.step hb)
    have HO3 := hide (HO.out.below hb (Nat.le_refl _))
    clear hb
    rcases hcase with ⟨hok, g, rfl, hg, hown⟩ | ⟨hok, rfl⟩
    · have HOK := hide hok
      have HO4 := hide hown
      clear hok hown hg
      have HLB : Hid ((blockB ep (recsOf xs)).length = 256) := length_blockB _ _ (by rw [HL.out]; exact hq6)
      go_wp2_with fail
      refine (equal_any _ _ _ (blockB ep (recsOf xs)) _ _ _ xs _ HO4.out.row HR3.out HLB.out HN.out (by omega) (by omega)).mono ?_
      rintro r w5 ⟨rfl, rfl⟩
      cases hsm : sameB (blockB ep (recsOf xs)) xs with
      | true =>
        go_wp2_with fail
        refine bodyPost_ret (v := .tuple #[.int .i64 ep, .slice lo q c, .nilIface]) (by simp [results, Tryz.results125, go_sem]) rfl ⟨.inl ⟨isBlock_yes HP.out (by rw [HEQ.out]; exact HOK.out) (by rw [HEQ.out]; exact hsm), lo, c, by rw [HEQ.out, HQ.out], HO3.out⟩, HB.out⟩
      | false =>
        have hE0 := HE3.out.blk
        unfold errV at hE0
        go_wp2_with fail
        go_quiet (fail)
        go_wp2_with fail
        refine bodyPost_ret (v := .tuple #[.int .i64 0, .slice none 0 0, .iface 237 (.pointer (some t))]) (by simp [results, Tryz.results125, go_sem]) rfl ⟨.inr ⟨isBlock_no3 (by rw [HEQ.out]; exact hsm), rfl⟩, below_drewN HB.out _⟩
    · have hE0 := HE3.out.blk
      have HOK := hide hok
      clear hok
      unfold errV at hE0 ⊢
      go_wp2_with fail
      go_quiet (fail)
      go_wp2_with fail
      refine bodyPost_ret (v := .tuple #[.int .i64 0, .slice none 0 0, .iface 237 (.pointer (some t))]) (by simp [results, Tryz.results125, go_sem]) rfl ⟨.inr ⟨isBlock_no2 (by rw [HEQ.out]; exact HOK.out), rfl⟩, below_drewN HB.out _⟩
  · have hE0 := HE2.out.blk
    have HP := hide hp
    clear hp
    unfold errV at hE0 ⊢
    go_wp2_with fail
    go_quiet (fail)
    go_wp2_with fail
    refine bodyPost_ret (v := .tuple #[.int .i64 0, .slice none 0 0, .iface 237 (.pointer (some t))]) (by simp [results, Tryz.results125, go_sem]) rfl ⟨.inr ⟨isBlock_no1 HP.out, rfl⟩, below_drewN HB.out _⟩
end Go.Proofs.YtjacenhblclkaaaGreatDoor
