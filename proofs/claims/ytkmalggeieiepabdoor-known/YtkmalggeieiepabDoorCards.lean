/-
  DERIVED. GIVEN WITH THE SEED: THE CARDS: each row of YtkmalggeieiepabDoorRows.lean that lists a variable, with what it lists TIED to the program's text (the seventh form; the later family's looks); each row that meets fmt, with fmt's text TOLD by the authors' own Lean function (tested against real Go, not proved from fmt's source: count such statements apart). THE CARD IS WHAT COUNTS. Prove the row's statement (the work); the ties are given (YtkmalggeieiepabDoorTie.lean); close each card by the builder's one call (the guide's Derived/Test/ToyasCard.lean, 'card_holds'). Laid BY PROGRAM, IN A SANDBOX (cutbox-door.mjs). By AI agents, Wed Nov 11 2026. No macro, syntax, notation, axiom, sorry.
-/
import Derived.Test.YtkmalggeieiepabDoorRows
import GoSem.ClaimSeven
namespace Go.Proofs.YtkmalggeieiepabDoor
namespace Rows

/-- THE TIED CARD OF 'compactkeep.Vectors'. -/
def vectorsCard : Claim7 := { stood := { row := vectorsRow, standIns := [], harness := (true, "e8ac42be4eed9db2f7db34a32db6832eb4af478ae2136edc085e1ae391810e0f"), looks := true }, kinds := [], alts := [], laidByText := true, laidKinds := [.data], laidTests := true, laidLooks := .later }
def VectorsCardSaid : Prop := Claim7.holds Tryd.pinned (.plain (OpenSpec.ofChange vectorsSpec)) vectorsCard

/-- THE TIED CARD OF 'compactkeep.Pools'. -/
def poolsCard : Claim7 := { stood := { row := poolsRow, standIns := [], harness := (true, "e8ac42be4eed9db2f7db34a32db6832eb4af478ae2136edc085e1ae391810e0f"), looks := true }, kinds := [], alts := [], laidByText := true, laidKinds := [.data], laidTests := true, laidLooks := .later }
def PoolsCardSaid : Prop := Claim7.holds Tryd.pinned (.plain (OpenSpec.ofChange poolsSpec)) poolsCard

/-- THE TIED CARD OF 'compactkeep.Extended'. -/
def extendedCard : Claim7 := { stood := { row := extendedRow, standIns := [], harness := (true, "e8ac42be4eed9db2f7db34a32db6832eb4af478ae2136edc085e1ae391810e0f"), looks := true }, kinds := [], alts := [], laidByText := true, laidKinds := [.data], laidTests := true, laidLooks := .later }
def ExtendedCardSaid : Prop := Claim7.holds Tryd.pinned (.plain (OpenSpec.ofChange extendedSpec)) extendedCard

/-- THE TIED CARD OF 'compactkeep.Known'. -/
def knownCard : Claim7 := { stood := { row := knownRow, standIns := [], harness := (true, "e8ac42be4eed9db2f7db34a32db6832eb4af478ae2136edc085e1ae391810e0f"), looks := true }, kinds := [], alts := [], laidByText := true, laidKinds := [.data], laidTests := true, laidLooks := .later }
def KnownCardSaid : Prop := Claim7.holds Tryd.pinned (.plain (OpenSpec.ofChange knownSpec)) knownCard

/-- THE SECOND FORM's CARD OF 'compactkeep.Vectors'. -/
def vectorsUptoCard : Claim7 := { stood := { row := vectorsUptoRow, standIns := [], harness := (true, "e8ac42be4eed9db2f7db34a32db6832eb4af478ae2136edc085e1ae391810e0f"), looks := true }, kinds := [], alts := [], laidByText := true, laidKinds := [.data], laidTests := true, laidLooks := .later }
def VectorsUptoCardSaid : Prop := Claim7.holds Tryd.pinned (.plain (OpenSpec.upto vectorsSpec)) vectorsUptoCard

/-- THE SECOND FORM's CARD OF 'compactkeep.Pools'. -/
def poolsUptoCard : Claim7 := { stood := { row := poolsUptoRow, standIns := [], harness := (true, "e8ac42be4eed9db2f7db34a32db6832eb4af478ae2136edc085e1ae391810e0f"), looks := true }, kinds := [], alts := [], laidByText := true, laidKinds := [.data], laidTests := true, laidLooks := .later }
def PoolsUptoCardSaid : Prop := Claim7.holds Tryd.pinned (.plain (OpenSpec.upto poolsSpec)) poolsUptoCard

/-- THE SECOND FORM's CARD OF 'compactkeep.Extended'. -/
def extendedUptoCard : Claim7 := { stood := { row := extendedUptoRow, standIns := [], harness := (true, "e8ac42be4eed9db2f7db34a32db6832eb4af478ae2136edc085e1ae391810e0f"), looks := true }, kinds := [], alts := [], laidByText := true, laidKinds := [.data], laidTests := true, laidLooks := .later }
def ExtendedUptoCardSaid : Prop := Claim7.holds Tryd.pinned (.plain (OpenSpec.upto extendedSpec)) extendedUptoCard

/-- THE SECOND FORM's CARD OF 'compactkeep.Known'. -/
def knownUptoCard : Claim7 := { stood := { row := knownUptoRow, standIns := [], harness := (true, "e8ac42be4eed9db2f7db34a32db6832eb4af478ae2136edc085e1ae391810e0f"), looks := true }, kinds := [], alts := [], laidByText := true, laidKinds := [.data], laidTests := true, laidLooks := .later }
def KnownUptoCardSaid : Prop := Claim7.holds Tryd.pinned (.plain (OpenSpec.upto knownSpec)) knownUptoCard
end Rows
end Go.Proofs.YtkmalggeieiepabDoor
