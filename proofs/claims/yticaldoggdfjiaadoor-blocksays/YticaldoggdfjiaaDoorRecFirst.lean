
/- The chapter's examples on records, as the statements ask them first: they hold, and nothing that was there is written. -/
import Derived.Test.YticaldoggdfjiaaDoorRecBytes
namespace Go.Proofs.YticaldoggdfjiaaDoor
open Go.RowKit
set_option linter.unusedVariables false

def ckBegin : R := ⟨7, 0, 0, 0, 0, 0, false, false, 0, 0⟩
def emptyRec : R := ⟨0, 0, 0, 0, 0, 0, false, false, 0, 0⟩
theorem ck_good : goodB ckBegin = true := by decide
theorem empty_bad : goodB emptyRec = false := by decide
theorem ck_first : (recB ckBegin).getD 0 0 = 7 := by decide +kernel
set_option maxHeartbeats 1000000 in
theorem rfirst_any (w : World) (x : Addr) (hE : w.cell? ⟨0, 0, none⟩ = some (errV x)) : Calls Tryd.prog 9 #[] w fun e w' => e = .returned (.bool true) ∧ Below w.heap.size w w' := by
  have HE := hide hE
  have HL : Hid (0 < w.heap.size) := World.block_lt_of_cell? w _ hE
  clear hE
  go_enter Tryd.func9, Tryd.ntmps9
  go_wp2_with fail
  refine (recBytes_good ckBegin _ x HE.out ck_good).mono ?_
  rintro e w2 ⟨g, rfl, hg, hown, hb⟩
  have HE2 : Hid (w2.cell? ⟨0, 0, none⟩ = some (errV x)) := (hb.cell HL.out).trans HE.out
  have HO := hide hown
  have HB := hide hb
  clear hg hown hb
  go_wp2_with fail
  refine (check_any emptyRec _ x HE2.out).mono ?_
  rintro e w3 ⟨rfl, hb⟩
  rw [checkV_bad empty_bad]
  have hc := (HO.out.below hb (Nat.le_refl _)).cell 0 (by rw [length_recB]; omega)
  rw [ck_first] at hc
  have HB3 := hide (over HB.out hb HB.out.size)
  clear hb
  unfold errV
  go_wp2_with fail
  go_ret
  exact ⟨rfl, HB3.out⟩
end Go.Proofs.YticaldoggdfjiaaDoor
