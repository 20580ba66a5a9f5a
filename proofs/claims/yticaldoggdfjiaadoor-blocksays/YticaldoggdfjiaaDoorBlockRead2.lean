
/- What block.Read answers, at all bytes: ErrShort, nothing, ErrBlock, or a block's epoch and records; nothing that was there is written. -/
import Derived.Test.YticaldoggdfjiaaDoorBlockRead
namespace Go.Proofs.YticaldoggdfjiaaDoor
open Go.RowKit
set_option linter.unusedVariables false

/-- The errors that block.Read can meet: their variables. -/
structure BlkErrs (w : World) (x y z t : Addr) : Prop where
  rd : ReadErrs w x y z
  blk : w.cell? ⟨3, 0, none⟩ = some (errV t)
theorem BlkErrs.step {w w' : World} {x y z t : Addr} (h : BlkErrs w x y z t) (hb : Below w.heap.size w w') : BlkErrs w' x y z t := ⟨h.rd.step hb, (hb.cell (World.block_lt_of_cell? w _ h.blk)).trans h.blk⟩
theorem BlkErrs.over {B : Nat} {w w' : World} {x y z t : Addr} (h : BlkErrs w x y z t) (hb : Below B w w') (hB : w.heap.size ≤ B) : BlkErrs w' x y z t := h.step (hb.mono hB)
theorem errs_blk {w : World} {ks : List Nat} {a : Nat → Addr} (h : ErrsOf w ks a) (h1 : 1 ∈ ks) (h2 : 2 ∈ ks) (h3 : 3 ∈ ks) (h4 : 4 ∈ ks) : BlkErrs w (a 1) (a 2) (a 3) (a 4) := ⟨⟨h.cell 1 h1, h.cell 2 h2, h.cell 3 h3⟩, h.cell 4 h4⟩
set_option maxRecDepth 100000 in
set_option maxHeartbeats 1000000 in
theorem bread_short (ao : Option Addr) (n cap : Nat) (w : World) {x y z t : Addr} (he : BlkErrs w x y z t) (hn : n ≠ 256) :
    Calls Tryd.prog 26 #[.slice ao n cap] w fun e w' => e = .returned (.tuple #[.int .i64 0, .slice none 0 0, errV y]) ∧ Below w.heap.size w w' := by
  have hne : ((n : Int) != 256) = true := by simp; omega
  have hE0 := he.rd.short
  clear he hn
  unfold errV at *
  go_enter Tryd.func26, Tryd.ntmps26
  go_wp2_with fail
  go_quiet (fail)
  go_wp2_with fail
  exact bodyPost_ret (v := .tuple #[.int .i64 0, .slice none 0 0, .iface 99 (.pointer (some y))]) (by simp [results, Tryd.results26, go_sem]) rfl ⟨rfl, below_drewN (Below.refl _ _) _⟩
set_option maxRecDepth 100000 in
set_option maxHeartbeats 1000000 in
theorem bread_zero (ao : Option Addr) (cap : Nat) (xs : List Int) (w : World) (h : Row w ao xs) (hn : xs.length = 256) (hz : zeroB xs = true) :
    Calls Tryd.prog 26 #[.slice ao 256 cap] w fun e w' => e = .returned (.tuple #[.int .i64 0, .slice none 0 0, .nilIface]) ∧ Below w.heap.size w w' := by
  have HR := hide h
  have HN := hide hn
  clear h hn
  go_enter Tryd.func26, Tryd.ntmps26
  go_wp2_with fail
  refine (zero_len _ _ _ xs _ HR.out HN.out).mono ?_
  rintro e w1 ⟨rfl, rfl⟩
  rw [hz]
  go_wp2_with fail
  exact bodyPost_ret (v := .tuple #[.int .i64 0, .slice none 0 0, .nilIface]) (by simp [results, Tryd.results26, go_sem]) rfl ⟨rfl, Below.refl _ _⟩
/-- What block.Read answers of a sector that is not all zeros. -/
def brPost (xs : List Int) (t : Addr) (w : World) (r : Ending) (w' : World) : Prop :=
  ((isBlock xs = true ∧ ∃ ao c, r = .returned (.tuple #[.int .i64 (epochOf xs), .slice ao (manyOf xs) c, .nilIface]) ∧ OwnR w' w.heap.size ao c (recsOf xs)) ∨ (isBlock xs = false ∧ r = .returned (.tuple #[.int .i64 0, .slice none 0 0, errV t]))) ∧ Below w.heap.size w w'
theorem isBlock_no1 {xs : List Int} (h : partsOk xs (manyOf xs) = false) : isBlock xs = false := by unfold isBlock; rw [h]; rfl
theorem isBlock_no2 {xs : List Int} (h : okB (epochOf xs) (recsOf xs) = false) : isBlock xs = false := by unfold isBlock; rw [h]; simp
theorem isBlock_no3 {xs : List Int} (h : sameB (blockB (epochOf xs) (recsOf xs)) xs = false) : isBlock xs = false := by
  unfold sameB at h
  unfold isBlock
  rw [h]
  simp
theorem isBlock_yes {xs : List Int} (h1 : partsOk xs (manyOf xs) = true) (h2 : okB (epochOf xs) (recsOf xs) = true) (h : sameB (blockB (epochOf xs) (recsOf xs)) xs = true) : isBlock xs = true := by
  unfold sameB at h
  unfold isBlock
  rw [h1, h2, h]
  rfl
set_option maxRecDepth 100000 in
set_option maxHeartbeats 4000000 in
theorem bread_any (ao : Option Addr) (cap : Nat) (xs : List Int) (w : World) {x y z t : Addr} (he : BlkErrs w x y z t) (h : Row w ao xs) (hn : xs.length = 256) (hcap : 256 ≤ cap) (hz : zeroB xs = false) :
    Calls Tryd.prog 26 #[.slice ao 256 cap] w (brPost xs t w) := by
  obtain ⟨b, off, rfl, _, _⟩ := h.2.2 (by omega)
  have hc := getB_lt xs h.2.1 4 4
  obtain ⟨ep, hep⟩ : ∃ ep, ep = epochOf xs := ⟨_, rfl⟩
  have HEP : Hid (getB xs 4 (widthB 4).toNat = ep) := hep.symm
  have HEQ : Hid (epochOf xs = ep) := hep.symm
  rw [show getB xs 4 4 = ep from hep.symm] at hc
  obtain ⟨hc0, hc1⟩ := hc
  rw [show (256 : Int) ^ 4 = 4294967296 by decide] at hc1
  have HE := hide he
  have HR := hide h
  have HN := hide hn
  clear he h hn hep
  go_enter Tryd.func26, Tryd.ntmps26
  go_wp2_with fail
  refine (zero_len _ _ _ xs _ HR.out HN.out).mono ?_
  rintro e w1 ⟨rfl, rfl⟩
  rw [hz]
  go_wp2_with fail
  refine (records_any b off cap xs _ HE.out.rd HR.out HN.out hcap).mono ?_
  rintro r w2 ⟨hcase, hb⟩
  have HB := hide hb
  have HR2 := hide (HR.out.below hb (Nat.le_refl _))
  have HE2 := hide (HE.out.step hb)
  clear hb
  rcases hcase with ⟨hp, lo, c, rfl, hown⟩ | ⟨hp, rfl⟩
  · have HO := hide hown
    have HP := hide hp
    obtain ⟨q, hq⟩ : ∃ q, q = manyOf xs := ⟨_, rfl⟩
    have HQ : Hid (manyOf xs = q) := hq.symm
    have hq6 := manyOf_le xs
    rw [← hq] at hq6 ⊢
    have HL : Hid ((recsOf xs).length = q) := by show (recsOf xs).length = q; rw [length_recsOf, hq]
    clear hown hp hq
    go_wp2_with fail
    refine (get_at _ _ _ xs _ _ _ HR2.out HN.out (by omega) (by omega)).mono ?_
    rintro r w3 ⟨rfl, rfl⟩
    rw [HEP.out]
    go_wp2_with fail
    refine (bb_any ep _ _ _ (recsOf xs) _ x HE2.out.rd.range HO.out.row HL.out).mono ?_
    rintro r w4 ⟨hcase, hb⟩
    replace HB := hide (over HB.out hb HB.out.size)
    have HR3 := hide (HR2.out.below hb (Nat.le_refl _))
    have HE3 := hide (HE2.out.step hb)
    have HO3 := hide (HO.out.below hb (Nat.le_refl _))
    clear hb
    rcases hcase with ⟨hok, g, rfl, hg, hown⟩ | ⟨hok, rfl⟩
    · have HOK := hide hok
      have HO4 := hide hown
      clear hok hown hg
      have HLB : Hid ((blockB ep (recsOf xs)).length = 256) := length_blockB _ _ (by rw [HL.out]; exact hq6)
      go_wp2_with fail
      refine (equal_any _ _ _ (blockB ep (recsOf xs)) _ _ _ xs _ HO4.out.row HR3.out HLB.out HN.out (by omega) (by omega)).mono ?_
      rintro r w5 ⟨rfl, rfl⟩
      cases hsm : sameB (blockB ep (recsOf xs)) xs with
      | true =>
        go_wp2_with fail
        refine bodyPost_ret (v := .tuple #[.int .i64 ep, .slice lo q c, .nilIface]) (by simp [results, Tryd.results26, go_sem]) rfl ⟨.inl ⟨isBlock_yes HP.out (by rw [HEQ.out]; exact HOK.out) (by rw [HEQ.out]; exact hsm), lo, c, by rw [HEQ.out, HQ.out], HO3.out⟩, HB.out⟩
      | false =>
        have hE0 := HE3.out.blk
        unfold errV at hE0
        go_wp2_with fail
        go_quiet (fail)
        go_wp2_with fail
        refine bodyPost_ret (v := .tuple #[.int .i64 0, .slice none 0 0, .iface 99 (.pointer (some t))]) (by simp [results, Tryd.results26, go_sem]) rfl ⟨.inr ⟨isBlock_no3 (by rw [HEQ.out]; exact hsm), rfl⟩, below_drewN HB.out _⟩
    · have hE0 := HE3.out.blk
      have HOK := hide hok
      clear hok
      unfold errV at hE0 ⊢
      go_wp2_with fail
      go_quiet (fail)
      go_wp2_with fail
      refine bodyPost_ret (v := .tuple #[.int .i64 0, .slice none 0 0, .iface 99 (.pointer (some t))]) (by simp [results, Tryd.results26, go_sem]) rfl ⟨.inr ⟨isBlock_no2 (by rw [HEQ.out]; exact HOK.out), rfl⟩, below_drewN HB.out _⟩
  · have hE0 := HE2.out.blk
    have HP := hide hp
    clear hp
    unfold errV at hE0 ⊢
    go_wp2_with fail
    go_quiet (fail)
    go_wp2_with fail
    refine bodyPost_ret (v := .tuple #[.int .i64 0, .slice none 0 0, .iface 99 (.pointer (some t))]) (by simp [results, Tryd.results26, go_sem]) rfl ⟨.inr ⟨isBlock_no1 HP.out, rfl⟩, below_drewN HB.out _⟩
end Go.Proofs.YticaldoggdfjiaaDoor
