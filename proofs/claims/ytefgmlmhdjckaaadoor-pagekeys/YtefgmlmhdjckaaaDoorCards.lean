/-
  DERIVED. GIVEN WITH THE SEED: THE CARDS: each row of YtefgmlmhdjckaaaDoorRows.lean that lists a variable, with what it lists TIED to the program's text (the seventh form; the later family's looks); each row that meets fmt, with fmt's text TOLD by the authors' own Lean function (tested against real Go, not proved from fmt's source: count such statements apart). THE CARD IS WHAT COUNTS. Prove the row's statement (the work); the ties are given (YtefgmlmhdjckaaaDoorTie.lean); close each card by the builder's one call (the guide's Derived/Test/ToyasCard.lean, 'card_holds'). Laid BY PROGRAM, IN A SANDBOX (cutbox-door.mjs). By AI agents, Wed Nov 11 2026. No macro, syntax, notation, axiom, sorry.
-/
import Derived.Test.YtefgmlmhdjckaaaDoorRows
import GoSem.ClaimSeven
namespace Go.Proofs.YtefgmlmhdjckaaaDoor
namespace Rows

/-- THE TIED CARD OF 'phoenixlaw7.PageSays'. -/
def pageSaysCard : Claim7 := { stood := { row := pageSaysRow, standIns := [], harness := (true, "23526ad7e0f7af4a33f1974b6960cbe802f077d050b51fb969a894920234c848"), looks := true }, kinds := [], alts := [], laidByText := true, laidKinds := [.sentinel, .sentinel, .sentinel, .sentinel, .sentinel, .sentinel, .sentinel, .sentinel, .sentinel, .sentinel, .sentinel, .sentinel, .sentinel, .sentinel, .sentinel, .sentinel, .sentinel, .sentinel], laidTests := true, laidLooks := .later }
def PageSaysCardSaid : Prop := Claim7.holds Tryd.pinned (.plain (OpenSpec.ofChange pageSaysSpec)) pageSaysCard

/-- THE TIED CARD OF 'phoenixlaw7.PageKeys'. -/
def pageKeysCard : Claim7 := { stood := { row := pageKeysRow, standIns := [], harness := (true, "23526ad7e0f7af4a33f1974b6960cbe802f077d050b51fb969a894920234c848"), looks := true }, kinds := [], alts := [], laidByText := true, laidKinds := [.sentinel, .sentinel, .sentinel], laidTests := true, laidLooks := .later }
def PageKeysCardSaid : Prop := Claim7.holds Tryd.pinned (.plain (OpenSpec.ofChange pageKeysSpec)) pageKeysCard

/-- THE TIED CARD OF 'phoenixlaw7.PageBounds'. -/
def pageBoundsCard : Claim7 := { stood := { row := pageBoundsRow, standIns := [], harness := (true, "23526ad7e0f7af4a33f1974b6960cbe802f077d050b51fb969a894920234c848"), looks := true }, kinds := [], alts := [], laidByText := true, laidKinds := [.sentinel, .sentinel, .sentinel, .sentinel, .sentinel, .sentinel, .sentinel, .sentinel, .sentinel, .sentinel, .sentinel, .sentinel, .sentinel, .sentinel, .sentinel, .sentinel, .sentinel, .sentinel], laidTests := true, laidLooks := .later }
def PageBoundsCardSaid : Prop := Claim7.holds Tryd.pinned (.plain (OpenSpec.ofChange pageBoundsSpec)) pageBoundsCard

/-- THE TIED CARD OF 'phoenixlaw7.PageOwn'. -/
def pageOwnCard : Claim7 := { stood := { row := pageOwnRow, standIns := [], harness := (true, "23526ad7e0f7af4a33f1974b6960cbe802f077d050b51fb969a894920234c848"), looks := true }, kinds := [], alts := [], laidByText := true, laidKinds := [.sentinel, .sentinel, .sentinel], laidTests := true, laidLooks := .later }
def PageOwnCardSaid : Prop := Claim7.holds Tryd.pinned (.plain (OpenSpec.ofChange pageOwnSpec)) pageOwnCard

/-- THE TIED CARD OF 'phoenixlaw7.PageUnlike'. -/
def pageUnlikeCard : Claim7 := { stood := { row := pageUnlikeRow, standIns := [], harness := (true, "23526ad7e0f7af4a33f1974b6960cbe802f077d050b51fb969a894920234c848"), looks := true }, kinds := [], alts := [], laidByText := true, laidKinds := [.sentinel, .sentinel, .sentinel, .sentinel, .sentinel, .sentinel, .sentinel, .sentinel, .sentinel, .sentinel, .sentinel, .sentinel, .sentinel, .sentinel, .sentinel, .sentinel, .sentinel, .sentinel], laidTests := true, laidLooks := .later }
def PageUnlikeCardSaid : Prop := Claim7.holds Tryd.pinned (.plain (OpenSpec.ofChange pageUnlikeSpec)) pageUnlikeCard

/-- THE TIED CARD OF 'phoenixlaw8.ChangeSays'. -/
def changeSaysCard : Claim7 := { stood := { row := changeSaysRow, standIns := [], harness := (true, "23526ad7e0f7af4a33f1974b6960cbe802f077d050b51fb969a894920234c848"), looks := true }, kinds := [], alts := [], laidByText := true, laidKinds := [.sentinel, .sentinel, .sentinel, .sentinel, .sentinel, .sentinel, .sentinel, .sentinel, .sentinel, .sentinel, .sentinel, .sentinel, .sentinel, .sentinel, .sentinel, .sentinel, .sentinel, .sentinel], laidTests := true, laidLooks := .later }
def ChangeSaysCardSaid : Prop := Claim7.holds Tryd.pinned (.plain (OpenSpec.ofChange changeSaysSpec)) changeSaysCard

/-- THE SECOND FORM's CARD OF 'phoenixlaw7.PageSays'. -/
def pageSaysUptoCard : Claim7 := { stood := { row := pageSaysUptoRow, standIns := [], harness := (true, "23526ad7e0f7af4a33f1974b6960cbe802f077d050b51fb969a894920234c848"), looks := true }, kinds := [], alts := [], laidByText := true, laidKinds := [.sentinel, .sentinel, .sentinel, .sentinel, .sentinel, .sentinel, .sentinel, .sentinel, .sentinel, .sentinel, .sentinel, .sentinel, .sentinel, .sentinel, .sentinel, .sentinel, .sentinel, .sentinel], laidTests := true, laidLooks := .later }
def PageSaysUptoCardSaid : Prop := Claim7.holds Tryd.pinned (.plain (OpenSpec.upto pageSaysSpec)) pageSaysUptoCard

/-- THE SECOND FORM's CARD OF 'phoenixlaw7.PageKeys'. -/
def pageKeysUptoCard : Claim7 := { stood := { row := pageKeysUptoRow, standIns := [], harness := (true, "23526ad7e0f7af4a33f1974b6960cbe802f077d050b51fb969a894920234c848"), looks := true }, kinds := [], alts := [], laidByText := true, laidKinds := [.sentinel, .sentinel, .sentinel], laidTests := true, laidLooks := .later }
def PageKeysUptoCardSaid : Prop := Claim7.holds Tryd.pinned (.plain (OpenSpec.upto pageKeysSpec)) pageKeysUptoCard

/-- THE SECOND FORM's CARD OF 'phoenixlaw7.PageBounds'. -/
def pageBoundsUptoCard : Claim7 := { stood := { row := pageBoundsUptoRow, standIns := [], harness := (true, "23526ad7e0f7af4a33f1974b6960cbe802f077d050b51fb969a894920234c848"), looks := true }, kinds := [], alts := [], laidByText := true, laidKinds := [.sentinel, .sentinel, .sentinel, .sentinel, .sentinel, .sentinel, .sentinel, .sentinel, .sentinel, .sentinel, .sentinel, .sentinel, .sentinel, .sentinel, .sentinel, .sentinel, .sentinel, .sentinel], laidTests := true, laidLooks := .later }
def PageBoundsUptoCardSaid : Prop := Claim7.holds Tryd.pinned (.plain (OpenSpec.upto pageBoundsSpec)) pageBoundsUptoCard

/-- THE SECOND FORM's CARD OF 'phoenixlaw7.PageOwn'. -/
def pageOwnUptoCard : Claim7 := { stood := { row := pageOwnUptoRow, standIns := [], harness := (true, "23526ad7e0f7af4a33f1974b6960cbe802f077d050b51fb969a894920234c848"), looks := true }, kinds := [], alts := [], laidByText := true, laidKinds := [.sentinel, .sentinel, .sentinel], laidTests := true, laidLooks := .later }
def PageOwnUptoCardSaid : Prop := Claim7.holds Tryd.pinned (.plain (OpenSpec.upto pageOwnSpec)) pageOwnUptoCard

/-- THE SECOND FORM's CARD OF 'phoenixlaw7.PageUnlike'. -/
def pageUnlikeUptoCard : Claim7 := { stood := { row := pageUnlikeUptoRow, standIns := [], harness := (true, "23526ad7e0f7af4a33f1974b6960cbe802f077d050b51fb969a894920234c848"), looks := true }, kinds := [], alts := [], laidByText := true, laidKinds := [.sentinel, .sentinel, .sentinel, .sentinel, .sentinel, .sentinel, .sentinel, .sentinel, .sentinel, .sentinel, .sentinel, .sentinel, .sentinel, .sentinel, .sentinel, .sentinel, .sentinel, .sentinel], laidTests := true, laidLooks := .later }
def PageUnlikeUptoCardSaid : Prop := Claim7.holds Tryd.pinned (.plain (OpenSpec.upto pageUnlikeSpec)) pageUnlikeUptoCard

/-- THE SECOND FORM's CARD OF 'phoenixlaw8.ChangeSays'. -/
def changeSaysUptoCard : Claim7 := { stood := { row := changeSaysUptoRow, standIns := [], harness := (true, "23526ad7e0f7af4a33f1974b6960cbe802f077d050b51fb969a894920234c848"), looks := true }, kinds := [], alts := [], laidByText := true, laidKinds := [.sentinel, .sentinel, .sentinel, .sentinel, .sentinel, .sentinel, .sentinel, .sentinel, .sentinel, .sentinel, .sentinel, .sentinel, .sentinel, .sentinel, .sentinel, .sentinel, .sentinel, .sentinel], laidTests := true, laidLooks := .later }
def ChangeSaysUptoCardSaid : Prop := Claim7.holds Tryd.pinned (.plain (OpenSpec.upto changeSaysSpec)) changeSaysUptoCard
end Rows
end Go.Proofs.YtefgmlmhdjckaaaDoor
