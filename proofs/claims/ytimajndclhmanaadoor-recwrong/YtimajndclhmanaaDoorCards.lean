/-
  DERIVED. GIVEN WITH THE SEED: THE CARDS: each row of YtimajndclhmanaaDoorRows.lean that lists a variable, with what it lists TIED to the program's text (the seventh form; the later family's looks); each row that meets fmt, with fmt's text TOLD by the authors' own Lean function (tested against real Go, not proved from fmt's source: count such statements apart). THE CARD IS WHAT COUNTS. Prove the row's statement (the work); the ties are given (YtimajndclhmanaaDoorTie.lean); close each card by the builder's one call (the guide's Derived/Test/ToyasCard.lean, 'card_holds'). Laid BY PROGRAM, IN A SANDBOX (cutbox-door.mjs). By AI agents, Wed Nov 11 2026. No macro, syntax, notation, axiom, sorry.
-/
import Derived.Test.YtimajndclhmanaaDoorRows
import GoSem.ClaimSeven
namespace Go.Proofs.YtimajndclhmanaaDoor
namespace Rows

/-- THE TIED CARD OF 'phoenixlaw3.RecSays'. -/
def recSaysCard : Claim7 := { stood := { row := recSaysRow, standIns := [], harness := (true, "7efa0165043f9669101ca675aab794851d0897093fc7a4ec4601c9d774c901d7"), looks := true }, kinds := [], alts := [], laidByText := true, laidKinds := [.sentinel, .sentinel, .sentinel, .sentinel, .sentinel, .sentinel, .sentinel, .sentinel, .sentinel, .sentinel, .sentinel, .sentinel, .sentinel, .sentinel, .sentinel, .sentinel, .sentinel, .sentinel], laidTests := true, laidLooks := .later }
def RecSaysCardSaid : Prop := Claim7.holds Tryd.pinned (.plain (OpenSpec.ofChange recSaysSpec)) recSaysCard

/-- THE TIED CARD OF 'phoenixlaw3.RecBack'. -/
def recBackCard : Claim7 := { stood := { row := recBackRow, standIns := [], harness := (true, "7efa0165043f9669101ca675aab794851d0897093fc7a4ec4601c9d774c901d7"), looks := true }, kinds := [], alts := [], laidByText := true, laidKinds := [.sentinel, .sentinel, .sentinel, .sentinel, .sentinel, .sentinel, .sentinel, .sentinel, .sentinel, .sentinel, .sentinel, .sentinel, .sentinel, .sentinel, .sentinel, .sentinel, .sentinel, .sentinel], laidTests := true, laidLooks := .later }
def RecBackCardSaid : Prop := Claim7.holds Tryd.pinned (.plain (OpenSpec.ofChange recBackSpec)) recBackCard

/-- THE TIED CARD OF 'phoenixlaw3.RecWrong'. -/
def recWrongCard : Claim7 := { stood := { row := recWrongRow, standIns := [], harness := (true, "7efa0165043f9669101ca675aab794851d0897093fc7a4ec4601c9d774c901d7"), looks := true }, kinds := [], alts := [], laidByText := true, laidKinds := [.sentinel, .sentinel, .sentinel, .sentinel, .sentinel, .sentinel, .sentinel, .sentinel, .sentinel, .sentinel, .sentinel, .sentinel, .sentinel, .sentinel, .sentinel, .sentinel, .sentinel, .sentinel], laidTests := true, laidLooks := .later }
def RecWrongCardSaid : Prop := Claim7.holds Tryd.pinned (.plain (OpenSpec.ofChange recWrongSpec)) recWrongCard

/-- THE TIED CARD OF 'phoenixlaw3.RecUnlike'. -/
def recUnlikeCard : Claim7 := { stood := { row := recUnlikeRow, standIns := [], harness := (true, "7efa0165043f9669101ca675aab794851d0897093fc7a4ec4601c9d774c901d7"), looks := true }, kinds := [], alts := [], laidByText := true, laidKinds := [.sentinel], laidTests := true, laidLooks := .later }
def RecUnlikeCardSaid : Prop := Claim7.holds Tryd.pinned (.plain (OpenSpec.ofChange recUnlikeSpec)) recUnlikeCard

/-- THE TIED CARD OF 'phoenixlaw3.RecZeros'. -/
def recZerosCard : Claim7 := { stood := { row := recZerosRow, standIns := [], harness := (true, "7efa0165043f9669101ca675aab794851d0897093fc7a4ec4601c9d774c901d7"), looks := true }, kinds := [], alts := [], laidByText := true, laidKinds := [.sentinel, .sentinel, .sentinel], laidTests := true, laidLooks := .later }
def RecZerosCardSaid : Prop := Claim7.holds Tryd.pinned (.plain (OpenSpec.ofChange recZerosSpec)) recZerosCard

/-- THE TIED CARD OF 'phoenixlaw3.RecNumbers'. -/
def recNumbersCard : Claim7 := { stood := { row := recNumbersRow, standIns := [], harness := (true, "7efa0165043f9669101ca675aab794851d0897093fc7a4ec4601c9d774c901d7"), looks := true }, kinds := [], alts := [], laidByText := true, laidKinds := [.sentinel, .sentinel, .sentinel], laidTests := true, laidLooks := .later }
def RecNumbersCardSaid : Prop := Claim7.holds Tryd.pinned (.plain (OpenSpec.ofChange recNumbersSpec)) recNumbersCard

/-- THE SECOND FORM's CARD OF 'phoenixlaw3.RecSays'. -/
def recSaysUptoCard : Claim7 := { stood := { row := recSaysUptoRow, standIns := [], harness := (true, "7efa0165043f9669101ca675aab794851d0897093fc7a4ec4601c9d774c901d7"), looks := true }, kinds := [], alts := [], laidByText := true, laidKinds := [.sentinel, .sentinel, .sentinel, .sentinel, .sentinel, .sentinel, .sentinel, .sentinel, .sentinel, .sentinel, .sentinel, .sentinel, .sentinel, .sentinel, .sentinel, .sentinel, .sentinel, .sentinel], laidTests := true, laidLooks := .later }
def RecSaysUptoCardSaid : Prop := Claim7.holds Tryd.pinned (.plain (OpenSpec.upto recSaysSpec)) recSaysUptoCard

/-- THE SECOND FORM's CARD OF 'phoenixlaw3.RecBack'. -/
def recBackUptoCard : Claim7 := { stood := { row := recBackUptoRow, standIns := [], harness := (true, "7efa0165043f9669101ca675aab794851d0897093fc7a4ec4601c9d774c901d7"), looks := true }, kinds := [], alts := [], laidByText := true, laidKinds := [.sentinel, .sentinel, .sentinel, .sentinel, .sentinel, .sentinel, .sentinel, .sentinel, .sentinel, .sentinel, .sentinel, .sentinel, .sentinel, .sentinel, .sentinel, .sentinel, .sentinel, .sentinel], laidTests := true, laidLooks := .later }
def RecBackUptoCardSaid : Prop := Claim7.holds Tryd.pinned (.plain (OpenSpec.upto recBackSpec)) recBackUptoCard

/-- THE SECOND FORM's CARD OF 'phoenixlaw3.RecWrong'. -/
def recWrongUptoCard : Claim7 := { stood := { row := recWrongUptoRow, standIns := [], harness := (true, "7efa0165043f9669101ca675aab794851d0897093fc7a4ec4601c9d774c901d7"), looks := true }, kinds := [], alts := [], laidByText := true, laidKinds := [.sentinel, .sentinel, .sentinel, .sentinel, .sentinel, .sentinel, .sentinel, .sentinel, .sentinel, .sentinel, .sentinel, .sentinel, .sentinel, .sentinel, .sentinel, .sentinel, .sentinel, .sentinel], laidTests := true, laidLooks := .later }
def RecWrongUptoCardSaid : Prop := Claim7.holds Tryd.pinned (.plain (OpenSpec.upto recWrongSpec)) recWrongUptoCard

/-- THE SECOND FORM's CARD OF 'phoenixlaw3.RecUnlike'. -/
def recUnlikeUptoCard : Claim7 := { stood := { row := recUnlikeUptoRow, standIns := [], harness := (true, "7efa0165043f9669101ca675aab794851d0897093fc7a4ec4601c9d774c901d7"), looks := true }, kinds := [], alts := [], laidByText := true, laidKinds := [.sentinel], laidTests := true, laidLooks := .later }
def RecUnlikeUptoCardSaid : Prop := Claim7.holds Tryd.pinned (.plain (OpenSpec.upto recUnlikeSpec)) recUnlikeUptoCard

/-- THE SECOND FORM's CARD OF 'phoenixlaw3.RecZeros'. -/
def recZerosUptoCard : Claim7 := { stood := { row := recZerosUptoRow, standIns := [], harness := (true, "7efa0165043f9669101ca675aab794851d0897093fc7a4ec4601c9d774c901d7"), looks := true }, kinds := [], alts := [], laidByText := true, laidKinds := [.sentinel, .sentinel, .sentinel], laidTests := true, laidLooks := .later }
def RecZerosUptoCardSaid : Prop := Claim7.holds Tryd.pinned (.plain (OpenSpec.upto recZerosSpec)) recZerosUptoCard

/-- THE SECOND FORM's CARD OF 'phoenixlaw3.RecNumbers'. -/
def recNumbersUptoCard : Claim7 := { stood := { row := recNumbersUptoRow, standIns := [], harness := (true, "7efa0165043f9669101ca675aab794851d0897093fc7a4ec4601c9d774c901d7"), looks := true }, kinds := [], alts := [], laidByText := true, laidKinds := [.sentinel, .sentinel, .sentinel], laidTests := true, laidLooks := .later }
def RecNumbersUptoCardSaid : Prop := Claim7.holds Tryd.pinned (.plain (OpenSpec.upto recNumbersSpec)) recNumbersUptoCard
end Rows
end Go.Proofs.YtimajndclhmanaaDoor
