/-
  DERIVED. GIVEN WITH THE SEED: THE CARDS: each row of YtjdfmpdkfbhdkaaDoorRows.lean that lists a variable, with what it lists TIED to the program's text (the seventh form; the later family's looks); each row that meets fmt, with fmt's text TOLD by the authors' own Lean function (tested against real Go, not proved from fmt's source: count such statements apart). THE CARD IS WHAT COUNTS. Prove the row's statement (the work); the ties are given (YtjdfmpdkfbhdkaaDoorTie.lean); close each card by the builder's one call (the guide's Derived/Test/ToyasCard.lean, 'card_holds'). Laid BY PROGRAM, IN A SANDBOX (cutbox-door.mjs). By AI agents, Wed Nov 11 2026. No macro, syntax, notation, axiom, sorry.
-/
import Derived.Test.YtjdfmpdkfbhdkaaDoorRows
import GoSem.ClaimSeven
namespace Go.Proofs.YtjdfmpdkfbhdkaaDoor
namespace Rows

/-- THE TIED CARD OF 'phoenixlaw5.MasterSays'. -/
def masterSaysCard : Claim7 := { stood := { row := masterSaysRow, standIns := [], harness := (true, "d2540cd1530febce627a2c69572d914038c7deb49f0ba7eb117eaa5bd6f00949"), looks := true }, kinds := [], alts := [], laidByText := true, laidKinds := [.sentinel, .sentinel, .sentinel, .sentinel, .sentinel, .sentinel, .sentinel, .sentinel, .sentinel, .sentinel, .sentinel, .sentinel, .sentinel, .sentinel, .sentinel, .sentinel, .sentinel, .sentinel], laidTests := true, laidLooks := .later }
def MasterSaysCardSaid : Prop := Claim7.holds Tryd.pinned (.plain (OpenSpec.ofChange masterSaysSpec)) masterSaysCard

/-- THE TIED CARD OF 'phoenixlaw5.MasterBack'. -/
def masterBackCard : Claim7 := { stood := { row := masterBackRow, standIns := [], harness := (true, "d2540cd1530febce627a2c69572d914038c7deb49f0ba7eb117eaa5bd6f00949"), looks := true }, kinds := [], alts := [], laidByText := true, laidKinds := [.sentinel, .sentinel, .sentinel, .sentinel, .sentinel, .sentinel, .sentinel, .sentinel, .sentinel, .sentinel, .sentinel, .sentinel, .sentinel, .sentinel, .sentinel, .sentinel, .sentinel, .sentinel], laidTests := true, laidLooks := .later }
def MasterBackCardSaid : Prop := Claim7.holds Tryd.pinned (.plain (OpenSpec.ofChange masterBackSpec)) masterBackCard

/-- THE TIED CARD OF 'phoenixlaw5.MasterUnlike'. -/
def masterUnlikeCard : Claim7 := { stood := { row := masterUnlikeRow, standIns := [], harness := (true, "d2540cd1530febce627a2c69572d914038c7deb49f0ba7eb117eaa5bd6f00949"), looks := true }, kinds := [], alts := [], laidByText := true, laidKinds := [.sentinel, .sentinel, .sentinel, .sentinel, .sentinel, .sentinel, .sentinel, .sentinel, .sentinel, .sentinel, .sentinel, .sentinel, .sentinel, .sentinel, .sentinel, .sentinel, .sentinel, .sentinel], laidTests := true, laidLooks := .later }
def MasterUnlikeCardSaid : Prop := Claim7.holds Tryd.pinned (.plain (OpenSpec.ofChange masterUnlikeSpec)) masterUnlikeCard

/-- THE TIED CARD OF 'phoenixlaw5.MasterNumbers'. -/
def masterNumbersCard : Claim7 := { stood := { row := masterNumbersRow, standIns := [], harness := (true, "d2540cd1530febce627a2c69572d914038c7deb49f0ba7eb117eaa5bd6f00949"), looks := true }, kinds := [], alts := [], laidByText := true, laidKinds := [.sentinel, .sentinel, .sentinel, .sentinel, .sentinel, .sentinel, .sentinel, .sentinel, .sentinel, .sentinel, .sentinel, .sentinel, .sentinel, .sentinel, .sentinel, .sentinel, .sentinel, .sentinel], laidTests := true, laidLooks := .later }
def MasterNumbersCardSaid : Prop := Claim7.holds Tryd.pinned (.plain (OpenSpec.ofChange masterNumbersSpec)) masterNumbersCard

/-- THE SECOND FORM's CARD OF 'phoenixlaw5.MasterSays'. -/
def masterSaysUptoCard : Claim7 := { stood := { row := masterSaysUptoRow, standIns := [], harness := (true, "d2540cd1530febce627a2c69572d914038c7deb49f0ba7eb117eaa5bd6f00949"), looks := true }, kinds := [], alts := [], laidByText := true, laidKinds := [.sentinel, .sentinel, .sentinel, .sentinel, .sentinel, .sentinel, .sentinel, .sentinel, .sentinel, .sentinel, .sentinel, .sentinel, .sentinel, .sentinel, .sentinel, .sentinel, .sentinel, .sentinel], laidTests := true, laidLooks := .later }
def MasterSaysUptoCardSaid : Prop := Claim7.holds Tryd.pinned (.plain (OpenSpec.upto masterSaysSpec)) masterSaysUptoCard

/-- THE SECOND FORM's CARD OF 'phoenixlaw5.MasterBack'. -/
def masterBackUptoCard : Claim7 := { stood := { row := masterBackUptoRow, standIns := [], harness := (true, "d2540cd1530febce627a2c69572d914038c7deb49f0ba7eb117eaa5bd6f00949"), looks := true }, kinds := [], alts := [], laidByText := true, laidKinds := [.sentinel, .sentinel, .sentinel, .sentinel, .sentinel, .sentinel, .sentinel, .sentinel, .sentinel, .sentinel, .sentinel, .sentinel, .sentinel, .sentinel, .sentinel, .sentinel, .sentinel, .sentinel], laidTests := true, laidLooks := .later }
def MasterBackUptoCardSaid : Prop := Claim7.holds Tryd.pinned (.plain (OpenSpec.upto masterBackSpec)) masterBackUptoCard

/-- THE SECOND FORM's CARD OF 'phoenixlaw5.MasterUnlike'. -/
def masterUnlikeUptoCard : Claim7 := { stood := { row := masterUnlikeUptoRow, standIns := [], harness := (true, "d2540cd1530febce627a2c69572d914038c7deb49f0ba7eb117eaa5bd6f00949"), looks := true }, kinds := [], alts := [], laidByText := true, laidKinds := [.sentinel, .sentinel, .sentinel, .sentinel, .sentinel, .sentinel, .sentinel, .sentinel, .sentinel, .sentinel, .sentinel, .sentinel, .sentinel, .sentinel, .sentinel, .sentinel, .sentinel, .sentinel], laidTests := true, laidLooks := .later }
def MasterUnlikeUptoCardSaid : Prop := Claim7.holds Tryd.pinned (.plain (OpenSpec.upto masterUnlikeSpec)) masterUnlikeUptoCard

/-- THE SECOND FORM's CARD OF 'phoenixlaw5.MasterNumbers'. -/
def masterNumbersUptoCard : Claim7 := { stood := { row := masterNumbersUptoRow, standIns := [], harness := (true, "d2540cd1530febce627a2c69572d914038c7deb49f0ba7eb117eaa5bd6f00949"), looks := true }, kinds := [], alts := [], laidByText := true, laidKinds := [.sentinel, .sentinel, .sentinel, .sentinel, .sentinel, .sentinel, .sentinel, .sentinel, .sentinel, .sentinel, .sentinel, .sentinel, .sentinel, .sentinel, .sentinel, .sentinel, .sentinel, .sentinel], laidTests := true, laidLooks := .later }
def MasterNumbersUptoCardSaid : Prop := Claim7.holds Tryd.pinned (.plain (OpenSpec.upto masterNumbersSpec)) masterNumbersUptoCard
end Rows
end Go.Proofs.YtjdfmpdkfbhdkaaDoor
