/-
  DERIVED. GIVEN WITH THE SEED: THE CARDS: each row of YtefgmlmhdjckaabDoorRows.lean that lists a variable, with what it lists TIED to the program's text (the seventh form; the later family's looks); each row that meets fmt, with fmt's text TOLD by the authors' own Lean function (tested against real Go, not proved from fmt's source: count such statements apart). THE CARD IS WHAT COUNTS. Prove the row's statement (the work); the ties are given (YtefgmlmhdjckaabDoorTie.lean); close each card by the builder's one call (the guide's Derived/Test/ToyasCard.lean, 'card_holds'). Laid BY PROGRAM, IN A SANDBOX (cutbox-door.mjs). By AI agents, Wed Nov 11 2026. No macro, syntax, notation, axiom, sorry.
-/
import Derived.Test.YtefgmlmhdjckaabDoorRows
import GoSem.ClaimSeven
namespace Go.Proofs.YtefgmlmhdjckaabDoor
namespace Rows

/-- THE TIED CARD OF 'phoenixlaw8.ChangeBack'. -/
def changeBackCard : Claim7 := { stood := { row := changeBackRow, standIns := [], harness := (true, "975a781bd7218419e05889a903711479b9ac5eeb55c693af09de0cdef02ae178"), looks := true }, kinds := [], alts := [], laidByText := true, laidKinds := [.sentinel], laidTests := true, laidLooks := .later }
def ChangeBackCardSaid : Prop := Claim7.holds Tryd.pinned (.plain (OpenSpec.ofChange changeBackSpec)) changeBackCard

/-- THE TIED CARD OF 'phoenixlaw8.ChangeRows'. -/
def changeRowsCard : Claim7 := { stood := { row := changeRowsRow, standIns := [], harness := (true, "975a781bd7218419e05889a903711479b9ac5eeb55c693af09de0cdef02ae178"), looks := true }, kinds := [], alts := [], laidByText := true, laidKinds := [.sentinel], laidTests := true, laidLooks := .later }
def ChangeRowsCardSaid : Prop := Claim7.holds Tryd.pinned (.plain (OpenSpec.ofChange changeRowsSpec)) changeRowsCard

/-- THE TIED CARD OF 'phoenixlaw8.ChangeFull'. -/
def changeFullCard : Claim7 := { stood := { row := changeFullRow, standIns := [], harness := (true, "975a781bd7218419e05889a903711479b9ac5eeb55c693af09de0cdef02ae178"), looks := true }, kinds := [], alts := [], laidByText := true, laidKinds := [.sentinel, .sentinel, .sentinel, .sentinel, .sentinel, .sentinel, .sentinel, .sentinel, .sentinel, .sentinel, .sentinel, .sentinel, .sentinel, .sentinel, .sentinel, .sentinel, .sentinel, .sentinel], laidTests := true, laidLooks := .later }
def ChangeFullCardSaid : Prop := Claim7.holds Tryd.pinned (.plain (OpenSpec.ofChange changeFullSpec)) changeFullCard

/-- THE TIED CARD OF 'phoenixlaw8.ChangeApart'. -/
def changeApartCard : Claim7 := { stood := { row := changeApartRow, standIns := [], harness := (true, "975a781bd7218419e05889a903711479b9ac5eeb55c693af09de0cdef02ae178"), looks := true }, kinds := [], alts := [], laidByText := true, laidKinds := [.sentinel], laidTests := true, laidLooks := .later }
def ChangeApartCardSaid : Prop := Claim7.holds Tryd.pinned (.plain (OpenSpec.ofChange changeApartSpec)) changeApartCard

/-- THE TIED CARD OF 'phoenixlaw8.ChangeKinds'. -/
def changeKindsCard : Claim7 := { stood := { row := changeKindsRow, standIns := [], harness := (true, "975a781bd7218419e05889a903711479b9ac5eeb55c693af09de0cdef02ae178"), looks := true }, kinds := [], alts := [], laidByText := true, laidKinds := [.sentinel], laidTests := true, laidLooks := .later }
def ChangeKindsCardSaid : Prop := Claim7.holds Tryd.pinned (.plain (OpenSpec.ofChange changeKindsSpec)) changeKindsCard

/-- THE SECOND FORM's CARD OF 'phoenixlaw8.ChangeBack'. -/
def changeBackUptoCard : Claim7 := { stood := { row := changeBackUptoRow, standIns := [], harness := (true, "975a781bd7218419e05889a903711479b9ac5eeb55c693af09de0cdef02ae178"), looks := true }, kinds := [], alts := [], laidByText := true, laidKinds := [.sentinel], laidTests := true, laidLooks := .later }
def ChangeBackUptoCardSaid : Prop := Claim7.holds Tryd.pinned (.plain (OpenSpec.upto changeBackSpec)) changeBackUptoCard

/-- THE SECOND FORM's CARD OF 'phoenixlaw8.ChangeRows'. -/
def changeRowsUptoCard : Claim7 := { stood := { row := changeRowsUptoRow, standIns := [], harness := (true, "975a781bd7218419e05889a903711479b9ac5eeb55c693af09de0cdef02ae178"), looks := true }, kinds := [], alts := [], laidByText := true, laidKinds := [.sentinel], laidTests := true, laidLooks := .later }
def ChangeRowsUptoCardSaid : Prop := Claim7.holds Tryd.pinned (.plain (OpenSpec.upto changeRowsSpec)) changeRowsUptoCard

/-- THE SECOND FORM's CARD OF 'phoenixlaw8.ChangeFull'. -/
def changeFullUptoCard : Claim7 := { stood := { row := changeFullUptoRow, standIns := [], harness := (true, "975a781bd7218419e05889a903711479b9ac5eeb55c693af09de0cdef02ae178"), looks := true }, kinds := [], alts := [], laidByText := true, laidKinds := [.sentinel, .sentinel, .sentinel, .sentinel, .sentinel, .sentinel, .sentinel, .sentinel, .sentinel, .sentinel, .sentinel, .sentinel, .sentinel, .sentinel, .sentinel, .sentinel, .sentinel, .sentinel], laidTests := true, laidLooks := .later }
def ChangeFullUptoCardSaid : Prop := Claim7.holds Tryd.pinned (.plain (OpenSpec.upto changeFullSpec)) changeFullUptoCard

/-- THE SECOND FORM's CARD OF 'phoenixlaw8.ChangeApart'. -/
def changeApartUptoCard : Claim7 := { stood := { row := changeApartUptoRow, standIns := [], harness := (true, "975a781bd7218419e05889a903711479b9ac5eeb55c693af09de0cdef02ae178"), looks := true }, kinds := [], alts := [], laidByText := true, laidKinds := [.sentinel], laidTests := true, laidLooks := .later }
def ChangeApartUptoCardSaid : Prop := Claim7.holds Tryd.pinned (.plain (OpenSpec.upto changeApartSpec)) changeApartUptoCard

/-- THE SECOND FORM's CARD OF 'phoenixlaw8.ChangeKinds'. -/
def changeKindsUptoCard : Claim7 := { stood := { row := changeKindsUptoRow, standIns := [], harness := (true, "975a781bd7218419e05889a903711479b9ac5eeb55c693af09de0cdef02ae178"), looks := true }, kinds := [], alts := [], laidByText := true, laidKinds := [.sentinel], laidTests := true, laidLooks := .later }
def ChangeKindsUptoCardSaid : Prop := Claim7.holds Tryd.pinned (.plain (OpenSpec.upto changeKindsSpec)) changeKindsUptoCard
end Rows
end Go.Proofs.YtefgmlmhdjckaabDoor
