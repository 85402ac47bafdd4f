/-
  DERIVED. GIVEN WITH THE SEED: THE CARDS: each row of YtkmalggeieiepaaDoorRows.lean that lists a variable, with what it lists TIED to the program's text (the seventh form; the later family's looks); each row that meets fmt, with fmt's text TOLD by the authors' own Lean function (tested against real Go, not proved from fmt's source: count such statements apart). THE CARD IS WHAT COUNTS. Prove the row's statement (the work); the ties are given (YtkmalggeieiepaaDoorTie.lean); close each card by the builder's one call (the guide's Derived/Test/ToyasCard.lean, 'card_holds'). Laid BY PROGRAM, IN A SANDBOX (cutbox-door.mjs). By AI agents, Wed Nov 11 2026. No macro, syntax, notation, axiom, sorry.
-/
import Derived.Test.YtkmalggeieiepaaDoorRows
import GoSem.ClaimSeven
namespace Go.Proofs.YtkmalggeieiepaaDoor
namespace Rows

/-- THE TIED CARD OF 'compactlaw.Sums'. -/
def sumsCard : Claim7 := { stood := { row := sumsRow, standIns := [], harness := (true, "8a1de491eee9a4b40e66d105beb6efc39ad3cf50abd8bb4be3c4276f306346c4"), looks := true }, kinds := [], alts := [], laidByText := true, laidKinds := [.data], laidTests := true, laidLooks := .later }
def SumsCardSaid : Prop := Claim7.holds Tryd.pinned (.plain (OpenSpec.ofChange sumsSpec)) sumsCard

/-- THE TIED CARD OF 'compactlaw.Txids'. -/
def txidsCard : Claim7 := { stood := { row := txidsRow, standIns := [], harness := (true, "8a1de491eee9a4b40e66d105beb6efc39ad3cf50abd8bb4be3c4276f306346c4"), looks := true }, kinds := [], alts := [], laidByText := true, laidKinds := [.data], laidTests := true, laidLooks := .later }
def TxidsCardSaid : Prop := Claim7.holds Tryd.pinned (.plain (OpenSpec.ofChange txidsSpec)) txidsCard

/-- THE TIED CARD OF 'compactlaw.Roots'. -/
def rootsCard : Claim7 := { stood := { row := rootsRow, standIns := [], harness := (true, "8a1de491eee9a4b40e66d105beb6efc39ad3cf50abd8bb4be3c4276f306346c4"), looks := true }, kinds := [], alts := [], laidByText := true, laidKinds := [.data], laidTests := true, laidLooks := .later }
def RootsCardSaid : Prop := Claim7.holds Tryd.pinned (.plain (OpenSpec.ofChange rootsSpec)) rootsCard

/-- THE TIED CARD OF 'compactlaw.Encodes'. -/
def encodesCard : Claim7 := { stood := { row := encodesRow, standIns := [], harness := (true, "8a1de491eee9a4b40e66d105beb6efc39ad3cf50abd8bb4be3c4276f306346c4"), looks := true }, kinds := [], alts := [], laidByText := true, laidKinds := [.data], laidTests := true, laidLooks := .later }
def EncodesCardSaid : Prop := Claim7.holds Tryd.pinned (.plain (OpenSpec.ofChange encodesSpec)) encodesCard

/-- THE TIED CARD OF 'compactlaw.Serves'. -/
def servesCard : Claim7 := { stood := { row := servesRow, standIns := [], harness := (true, "8a1de491eee9a4b40e66d105beb6efc39ad3cf50abd8bb4be3c4276f306346c4"), looks := true }, kinds := [], alts := [], laidByText := true, laidKinds := [.data], laidTests := true, laidLooks := .later }
def ServesCardSaid : Prop := Claim7.holds Tryd.pinned (.plain (OpenSpec.ofChange servesSpec)) servesCard

/-- THE SECOND FORM's CARD OF 'compactlaw.Sums'. -/
def sumsUptoCard : Claim7 := { stood := { row := sumsUptoRow, standIns := [], harness := (true, "8a1de491eee9a4b40e66d105beb6efc39ad3cf50abd8bb4be3c4276f306346c4"), looks := true }, kinds := [], alts := [], laidByText := true, laidKinds := [.data], laidTests := true, laidLooks := .later }
def SumsUptoCardSaid : Prop := Claim7.holds Tryd.pinned (.plain (OpenSpec.upto sumsSpec)) sumsUptoCard

/-- THE SECOND FORM's CARD OF 'compactlaw.Txids'. -/
def txidsUptoCard : Claim7 := { stood := { row := txidsUptoRow, standIns := [], harness := (true, "8a1de491eee9a4b40e66d105beb6efc39ad3cf50abd8bb4be3c4276f306346c4"), looks := true }, kinds := [], alts := [], laidByText := true, laidKinds := [.data], laidTests := true, laidLooks := .later }
def TxidsUptoCardSaid : Prop := Claim7.holds Tryd.pinned (.plain (OpenSpec.upto txidsSpec)) txidsUptoCard

/-- THE SECOND FORM's CARD OF 'compactlaw.Roots'. -/
def rootsUptoCard : Claim7 := { stood := { row := rootsUptoRow, standIns := [], harness := (true, "8a1de491eee9a4b40e66d105beb6efc39ad3cf50abd8bb4be3c4276f306346c4"), looks := true }, kinds := [], alts := [], laidByText := true, laidKinds := [.data], laidTests := true, laidLooks := .later }
def RootsUptoCardSaid : Prop := Claim7.holds Tryd.pinned (.plain (OpenSpec.upto rootsSpec)) rootsUptoCard

/-- THE SECOND FORM's CARD OF 'compactlaw.Encodes'. -/
def encodesUptoCard : Claim7 := { stood := { row := encodesUptoRow, standIns := [], harness := (true, "8a1de491eee9a4b40e66d105beb6efc39ad3cf50abd8bb4be3c4276f306346c4"), looks := true }, kinds := [], alts := [], laidByText := true, laidKinds := [.data], laidTests := true, laidLooks := .later }
def EncodesUptoCardSaid : Prop := Claim7.holds Tryd.pinned (.plain (OpenSpec.upto encodesSpec)) encodesUptoCard

/-- THE SECOND FORM's CARD OF 'compactlaw.Serves'. -/
def servesUptoCard : Claim7 := { stood := { row := servesUptoRow, standIns := [], harness := (true, "8a1de491eee9a4b40e66d105beb6efc39ad3cf50abd8bb4be3c4276f306346c4"), looks := true }, kinds := [], alts := [], laidByText := true, laidKinds := [.data], laidTests := true, laidLooks := .later }
def ServesUptoCardSaid : Prop := Claim7.holds Tryd.pinned (.plain (OpenSpec.upto servesSpec)) servesUptoCard
end Rows
end Go.Proofs.YtkmalggeieiepaaDoor
