/-
  DERIVED. GIVEN WITH THE SEED: THE CARDS: each row of YtgjhnkadfdcafabDoorRows.lean that lists a variable, with what it lists TIED to the program's text (the seventh form; the later family's looks); each row that meets fmt, with fmt's text TOLD by the authors' own Lean function (tested against real Go, not proved from fmt's source: count such statements apart). THE CARD IS WHAT COUNTS. Prove the row's statement (the work); the ties are given (YtgjhnkadfdcafabDoorTie.lean); close each card by the builder's one call (the guide's Derived/Test/ToyasCard.lean, 'card_holds'). Laid BY PROGRAM, IN A SANDBOX (cutbox-door.mjs). By AI agents, Wed Nov 11 2026. No macro, syntax, notation, axiom, sorry.
-/
import Derived.Test.YtgjhnkadfdcafabDoorRows
import GoSem.ClaimSeven
namespace Go.Proofs.YtgjhnkadfdcafabDoor
namespace Rows

/-- THE TIED CARD OF 'phoenixlaw6.WalFlushes'. -/
def walFlushesCard : Claim7 := { stood := { row := walFlushesRow, standIns := [], harness := (true, "2246c4053b491d2cb45f81a7ad046ffcaf45d3adbc739e787f59a6fccda47177"), looks := false }, kinds := [], alts := [], laidByText := true, laidKinds := [.sentinel, .sentinel, .sentinel, .sentinel, .sentinel, .sentinel, .sentinel], laidTests := true, laidLooks := .later }
def WalFlushesCardSaid : Prop := Claim7.holds Tryd.pinned (.plain (OpenSpec.ofChange walFlushesSpec)) walFlushesCard

/-- THE SECOND FORM's CARD OF 'phoenixlaw6.WalFlushes'. -/
def walFlushesUptoCard : Claim7 := { stood := { row := walFlushesUptoRow, standIns := [], harness := (true, "2246c4053b491d2cb45f81a7ad046ffcaf45d3adbc739e787f59a6fccda47177"), looks := false }, kinds := [], alts := [], laidByText := true, laidKinds := [.sentinel, .sentinel, .sentinel, .sentinel, .sentinel, .sentinel, .sentinel], laidTests := true, laidLooks := .later }
def WalFlushesUptoCardSaid : Prop := Claim7.holds Tryd.pinned (.plain (OpenSpec.upto walFlushesSpec)) walFlushesUptoCard
end Rows
end Go.Proofs.YtgjhnkadfdcafabDoor
