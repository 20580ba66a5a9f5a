/-
  DERIVED. GIVEN WITH THE SEED: THE CARDS: each row of YtgjhnkadfdcafaaDoorRows.lean that lists a variable, with what it lists TIED to the program's text (the seventh form; the later family's looks); each row that meets fmt, with fmt's text TOLD by the authors' own Lean function (tested against real Go, not proved from fmt's source: count such statements apart). THE CARD IS WHAT COUNTS. Prove the row's statement (the work); the ties are given (YtgjhnkadfdcafaaDoorTie.lean); close each card by the builder's one call (the guide's Derived/Test/ToyasCard.lean, 'card_holds'). Laid BY PROGRAM, IN A SANDBOX (cutbox-door.mjs). By AI agents, Wed Nov 11 2026. No macro, syntax, notation, axiom, sorry.
-/
import Derived.Test.YtgjhnkadfdcafaaDoorRows
import GoSem.ClaimSeven
namespace Go.Proofs.YtgjhnkadfdcafaaDoor
namespace Rows

/-- THE TIED CARD OF 'phoenixlaw6.WalBoots'. -/
def walBootsCard : Claim7 := { stood := { row := walBootsRow, standIns := [], harness := (true, "4d558b24f0f295ec418a9192c219f5b37f715c45d5cf470ca450acb374865c5b"), looks := true }, kinds := [], alts := [], laidByText := true, laidKinds := [.sentinel, .sentinel, .sentinel, .sentinel, .sentinel, .sentinel, .sentinel], laidTests := true, laidLooks := .later }
def WalBootsCardSaid : Prop := Claim7.holds Tryd.pinned (.plain (OpenSpec.ofChange walBootsSpec)) walBootsCard

/-- THE TIED CARD OF 'phoenixlaw6.WalKeeps'. -/
def walKeepsCard : Claim7 := { stood := { row := walKeepsRow, standIns := [], harness := (true, "4d558b24f0f295ec418a9192c219f5b37f715c45d5cf470ca450acb374865c5b"), looks := true }, kinds := [], alts := [], laidByText := true, laidKinds := [.sentinel, .sentinel, .sentinel, .sentinel, .sentinel, .sentinel, .sentinel], laidTests := true, laidLooks := .later }
def WalKeepsCardSaid : Prop := Claim7.holds Tryd.pinned (.plain (OpenSpec.ofChange walKeepsSpec)) walKeepsCard

/-- THE TIED CARD OF 'phoenixlaw6.WalStale'. -/
def walStaleCard : Claim7 := { stood := { row := walStaleRow, standIns := [], harness := (true, "4d558b24f0f295ec418a9192c219f5b37f715c45d5cf470ca450acb374865c5b"), looks := true }, kinds := [], alts := [], laidByText := true, laidKinds := [.sentinel, .sentinel, .sentinel, .sentinel, .sentinel, .sentinel, .sentinel, .sentinel, .sentinel, .sentinel, .sentinel, .sentinel, .sentinel, .sentinel, .sentinel, .sentinel, .sentinel, .sentinel], laidTests := true, laidLooks := .later }
def WalStaleCardSaid : Prop := Claim7.holds Tryd.pinned (.plain (OpenSpec.ofChange walStaleSpec)) walStaleCard

/-- THE TIED CARD OF 'phoenixlaw6.WalNumbers'. -/
def walNumbersCard : Claim7 := { stood := { row := walNumbersRow, standIns := [], harness := (true, "4d558b24f0f295ec418a9192c219f5b37f715c45d5cf470ca450acb374865c5b"), looks := true }, kinds := [], alts := [], laidByText := true, laidKinds := [.sentinel, .sentinel, .sentinel, .sentinel, .sentinel, .sentinel, .sentinel, .sentinel, .sentinel, .sentinel, .sentinel, .sentinel, .sentinel, .sentinel, .sentinel, .sentinel, .sentinel, .sentinel], laidTests := true, laidLooks := .later }
def WalNumbersCardSaid : Prop := Claim7.holds Tryd.pinned (.plain (OpenSpec.ofChange walNumbersSpec)) walNumbersCard

/-- THE TIED CARD OF 'phoenixlaw6.WalEnds'. -/
def walEndsCard : Claim7 := { stood := { row := walEndsRow, standIns := [], harness := (true, "4d558b24f0f295ec418a9192c219f5b37f715c45d5cf470ca450acb374865c5b"), looks := true }, kinds := [], alts := [], laidByText := true, laidKinds := [.sentinel, .sentinel, .sentinel, .sentinel, .sentinel, .sentinel, .sentinel, .sentinel, .sentinel, .sentinel, .sentinel, .sentinel, .sentinel, .sentinel, .sentinel, .sentinel, .sentinel, .sentinel], laidTests := true, laidLooks := .later }
def WalEndsCardSaid : Prop := Claim7.holds Tryd.pinned (.plain (OpenSpec.ofChange walEndsSpec)) walEndsCard

/-- THE SECOND FORM's CARD OF 'phoenixlaw6.WalBoots'. -/
def walBootsUptoCard : Claim7 := { stood := { row := walBootsUptoRow, standIns := [], harness := (true, "4d558b24f0f295ec418a9192c219f5b37f715c45d5cf470ca450acb374865c5b"), looks := true }, kinds := [], alts := [], laidByText := true, laidKinds := [.sentinel, .sentinel, .sentinel, .sentinel, .sentinel, .sentinel, .sentinel], laidTests := true, laidLooks := .later }
def WalBootsUptoCardSaid : Prop := Claim7.holds Tryd.pinned (.plain (OpenSpec.upto walBootsSpec)) walBootsUptoCard

/-- THE SECOND FORM's CARD OF 'phoenixlaw6.WalKeeps'. -/
def walKeepsUptoCard : Claim7 := { stood := { row := walKeepsUptoRow, standIns := [], harness := (true, "4d558b24f0f295ec418a9192c219f5b37f715c45d5cf470ca450acb374865c5b"), looks := true }, kinds := [], alts := [], laidByText := true, laidKinds := [.sentinel, .sentinel, .sentinel, .sentinel, .sentinel, .sentinel, .sentinel], laidTests := true, laidLooks := .later }
def WalKeepsUptoCardSaid : Prop := Claim7.holds Tryd.pinned (.plain (OpenSpec.upto walKeepsSpec)) walKeepsUptoCard

/-- THE SECOND FORM's CARD OF 'phoenixlaw6.WalStale'. -/
def walStaleUptoCard : Claim7 := { stood := { row := walStaleUptoRow, standIns := [], harness := (true, "4d558b24f0f295ec418a9192c219f5b37f715c45d5cf470ca450acb374865c5b"), looks := true }, kinds := [], alts := [], laidByText := true, laidKinds := [.sentinel, .sentinel, .sentinel, .sentinel, .sentinel, .sentinel, .sentinel, .sentinel, .sentinel, .sentinel, .sentinel, .sentinel, .sentinel, .sentinel, .sentinel, .sentinel, .sentinel, .sentinel], laidTests := true, laidLooks := .later }
def WalStaleUptoCardSaid : Prop := Claim7.holds Tryd.pinned (.plain (OpenSpec.upto walStaleSpec)) walStaleUptoCard

/-- THE SECOND FORM's CARD OF 'phoenixlaw6.WalNumbers'. -/
def walNumbersUptoCard : Claim7 := { stood := { row := walNumbersUptoRow, standIns := [], harness := (true, "4d558b24f0f295ec418a9192c219f5b37f715c45d5cf470ca450acb374865c5b"), looks := true }, kinds := [], alts := [], laidByText := true, laidKinds := [.sentinel, .sentinel, .sentinel, .sentinel, .sentinel, .sentinel, .sentinel, .sentinel, .sentinel, .sentinel, .sentinel, .sentinel, .sentinel, .sentinel, .sentinel, .sentinel, .sentinel, .sentinel], laidTests := true, laidLooks := .later }
def WalNumbersUptoCardSaid : Prop := Claim7.holds Tryd.pinned (.plain (OpenSpec.upto walNumbersSpec)) walNumbersUptoCard

/-- THE SECOND FORM's CARD OF 'phoenixlaw6.WalEnds'. -/
def walEndsUptoCard : Claim7 := { stood := { row := walEndsUptoRow, standIns := [], harness := (true, "4d558b24f0f295ec418a9192c219f5b37f715c45d5cf470ca450acb374865c5b"), looks := true }, kinds := [], alts := [], laidByText := true, laidKinds := [.sentinel, .sentinel, .sentinel, .sentinel, .sentinel, .sentinel, .sentinel, .sentinel, .sentinel, .sentinel, .sentinel, .sentinel, .sentinel, .sentinel, .sentinel, .sentinel, .sentinel, .sentinel], laidTests := true, laidLooks := .later }
def WalEndsUptoCardSaid : Prop := Claim7.holds Tryd.pinned (.plain (OpenSpec.upto walEndsSpec)) walEndsUptoCard
end Rows
end Go.Proofs.YtgjhnkadfdcafaaDoor
