/-
  DERIVED. GIVEN WITH THE SEED: THE CARDS: each row of YtdijgpkcolpfoaaDoorRows.lean that lists a variable, with what it lists TIED to the program's text (the seventh form; the later family's looks); each row that meets fmt, with fmt's text TOLD by the authors' own Lean function (tested against real Go, not proved from fmt's source: count such statements apart). THE CARD IS WHAT COUNTS. Prove the row's statement (the work); the ties are given (YtdijgpkcolpfoaaDoorTie.lean); close each card by the builder's one call (the guide's Derived/Test/ToyasCard.lean, 'card_holds'). Laid BY PROGRAM, IN A SANDBOX (cutbox-door.mjs). By AI agents, Wed Nov 11 2026. No macro, syntax, notation, axiom, sorry.
-/
import Derived.Test.YtdijgpkcolpfoaaDoorRows
import GoSem.ClaimSeven
namespace Go.Proofs.YtdijgpkcolpfoaaDoor
namespace Rows

/-- THE TIED CARD OF 'phoenixlaw7.PageSays'. -/
def pageSaysCard : Claim7 := { stood := { row := pageSaysRow, standIns := [], harness := (true, "29459e550515ff79eaf22db581d760dfa7a4cc087b2275e88ef9398f058b1aa8"), looks := true }, kinds := [], alts := [], laidByText := true, laidKinds := [.sentinel, .sentinel, .sentinel, .sentinel, .sentinel, .sentinel, .sentinel, .sentinel, .sentinel, .sentinel, .sentinel, .sentinel, .sentinel, .sentinel, .sentinel, .sentinel, .sentinel, .sentinel], laidTests := true, laidLooks := .later }
def PageSaysCardSaid : Prop := Claim7.holds Tryd.pinned (.plain (OpenSpec.ofChange pageSaysSpec)) pageSaysCard

/-- THE TIED CARD OF 'phoenixlaw8.ChangeRows'. -/
def changeRowsCard : Claim7 := { stood := { row := changeRowsRow, standIns := [], harness := (true, "29459e550515ff79eaf22db581d760dfa7a4cc087b2275e88ef9398f058b1aa8"), looks := true }, kinds := [], alts := [], laidByText := true, laidKinds := [.sentinel], laidTests := true, laidLooks := .later }
def ChangeRowsCardSaid : Prop := Claim7.holds Tryd.pinned (.plain (OpenSpec.ofChange changeRowsSpec)) changeRowsCard

/-- THE SECOND FORM's CARD OF 'phoenixlaw7.PageSays'. -/
def pageSaysUptoCard : Claim7 := { stood := { row := pageSaysUptoRow, standIns := [], harness := (true, "29459e550515ff79eaf22db581d760dfa7a4cc087b2275e88ef9398f058b1aa8"), looks := true }, kinds := [], alts := [], laidByText := true, laidKinds := [.sentinel, .sentinel, .sentinel, .sentinel, .sentinel, .sentinel, .sentinel, .sentinel, .sentinel, .sentinel, .sentinel, .sentinel, .sentinel, .sentinel, .sentinel, .sentinel, .sentinel, .sentinel], laidTests := true, laidLooks := .later }
def PageSaysUptoCardSaid : Prop := Claim7.holds Tryd.pinned (.plain (OpenSpec.upto pageSaysSpec)) pageSaysUptoCard

/-- THE SECOND FORM's CARD OF 'phoenixlaw8.ChangeRows'. -/
def changeRowsUptoCard : Claim7 := { stood := { row := changeRowsUptoRow, standIns := [], harness := (true, "29459e550515ff79eaf22db581d760dfa7a4cc087b2275e88ef9398f058b1aa8"), looks := true }, kinds := [], alts := [], laidByText := true, laidKinds := [.sentinel], laidTests := true, laidLooks := .later }
def ChangeRowsUptoCardSaid : Prop := Claim7.holds Tryd.pinned (.plain (OpenSpec.upto changeRowsSpec)) changeRowsUptoCard
end Rows
end Go.Proofs.YtdijgpkcolpfoaaDoor
