/-
  DERIVED. GIVEN WITH THE SEED: THE CARDS: each row of YtegddfgnnagdpabDoorRows.lean that lists a variable, with what it lists TIED to the program's text (the seventh form; the later family's looks); each row that meets fmt, with fmt's text TOLD by the authors' own Lean function (tested against real Go, not proved from fmt's source: count such statements apart). THE CARD IS WHAT COUNTS. Prove the row's statement (the work); the ties are given (YtegddfgnnagdpabDoorTie.lean); close each card by the builder's one call (the guide's Derived/Test/ToyasCard.lean, 'card_holds'). Laid BY PROGRAM, IN A SANDBOX (cutbox-door.mjs). By AI agents, Wed Nov 11 2026. No macro, syntax, notation, axiom, sorry.
-/
import Derived.Test.YtegddfgnnagdpabDoorRows
import GoSem.ClaimSeven
namespace Go.Proofs.YtegddfgnnagdpabDoor
namespace Rows

/-- THE TIED CARD OF 'compactkeep.Vectors'. -/
def vectorsCard : Claim7 := { stood := { row := vectorsRow, standIns := [], harness := (true, "6709c90034cd8f79f62e5c66b99f2d134f6f7bed30351d5296eb17053e1d9dae"), looks := true }, kinds := [], alts := [], laidByText := true, laidKinds := [.data], laidTests := true, laidLooks := .later }
def VectorsCardSaid : Prop := Claim7.holds Tryd.pinned (.plain (OpenSpec.ofChange vectorsSpec)) vectorsCard

/-- THE TIED CARD OF 'compactkeep.Sound'. -/
def soundCard : Claim7 := { stood := { row := soundRow, standIns := [], harness := (true, "6709c90034cd8f79f62e5c66b99f2d134f6f7bed30351d5296eb17053e1d9dae"), looks := true }, kinds := [], alts := [], laidByText := true, laidKinds := [.data], laidTests := true, laidLooks := .later }
def SoundCardSaid : Prop := Claim7.holds Tryd.pinned (.plain (OpenSpec.ofChange soundSpec)) soundCard

/-- THE TIED CARD OF 'compactkeep.Extended'. -/
def extendedCard : Claim7 := { stood := { row := extendedRow, standIns := [], harness := (true, "6709c90034cd8f79f62e5c66b99f2d134f6f7bed30351d5296eb17053e1d9dae"), looks := true }, kinds := [], alts := [], laidByText := true, laidKinds := [.data], laidTests := true, laidLooks := .later }
def ExtendedCardSaid : Prop := Claim7.holds Tryd.pinned (.plain (OpenSpec.ofChange extendedSpec)) extendedCard

/-- THE SECOND FORM's CARD OF 'compactkeep.Vectors'. -/
def vectorsUptoCard : Claim7 := { stood := { row := vectorsUptoRow, standIns := [], harness := (true, "6709c90034cd8f79f62e5c66b99f2d134f6f7bed30351d5296eb17053e1d9dae"), looks := true }, kinds := [], alts := [], laidByText := true, laidKinds := [.data], laidTests := true, laidLooks := .later }
def VectorsUptoCardSaid : Prop := Claim7.holds Tryd.pinned (.plain (OpenSpec.upto vectorsSpec)) vectorsUptoCard

/-- THE SECOND FORM's CARD OF 'compactkeep.Sound'. -/
def soundUptoCard : Claim7 := { stood := { row := soundUptoRow, standIns := [], harness := (true, "6709c90034cd8f79f62e5c66b99f2d134f6f7bed30351d5296eb17053e1d9dae"), looks := true }, kinds := [], alts := [], laidByText := true, laidKinds := [.data], laidTests := true, laidLooks := .later }
def SoundUptoCardSaid : Prop := Claim7.holds Tryd.pinned (.plain (OpenSpec.upto soundSpec)) soundUptoCard

/-- THE SECOND FORM's CARD OF 'compactkeep.Extended'. -/
def extendedUptoCard : Claim7 := { stood := { row := extendedUptoRow, standIns := [], harness := (true, "6709c90034cd8f79f62e5c66b99f2d134f6f7bed30351d5296eb17053e1d9dae"), looks := true }, kinds := [], alts := [], laidByText := true, laidKinds := [.data], laidTests := true, laidLooks := .later }
def ExtendedUptoCardSaid : Prop := Claim7.holds Tryd.pinned (.plain (OpenSpec.upto extendedSpec)) extendedUptoCard
end Rows
end Go.Proofs.YtegddfgnnagdpabDoor
