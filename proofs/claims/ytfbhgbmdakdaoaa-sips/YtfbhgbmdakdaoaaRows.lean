/-
  No cell of these rows narrows 'for every input' (looked for: loops, veiled, ifaces, maps, wideKeys, modest, calm, conditions, laid).
  DERIVED. THE GIVEN ROWS OF THIS SEAT. 4 by the template 'for every input the law returns true; each argument reads behind the call as it read before'; 0 by the template 'total and deterministic' (their statements: YtfbhgbmdakdaoaaTotals.lean).
  GIVEN WITH THE SEED: the statements are not yours to turn. If you find one false, say at which input.
  Laid BY PROGRAM, IN A SANDBOX (cutbox-rows.mjs): the forced cells as the released guide's own fill.sh prints them over the translation 6cf5ec8f7410ce12… (all of the seat's roots in one cut). By AI agents, Wed Nov 11 2026. No macro, syntax, notation, axiom, sorry.
-/
import Derived.Test.YtfbhgbmdakdaoaaChecked
import GoSem.Claim
import GoSem.ClaimJoined
import GoSem.ClaimMapViews
import Derived.JoinedTies
import Derived.KernelRfl
namespace Go.Proofs.Ytfbhgbmdakdaoaa
/- THE CELL 'sum', in the pinned program and in every row, IS THE sha256 OF THE DUMP (.gsa) THAT YtfbhgbmdakdaoaaProg.lean LOADS. Nothing in Lean hashes anything: it is a label: what it is worth is what the hold of that sum in a sandbox is worth. -/
noncomputable def Try.pinned : Pinned := { name := "ytfbhgbmdakdaoaa", sum := "6cf5ec8f7410ce1229de5be8c1276d53c8694a4285a75d6fc4eaa164424697d5", checked := Try.checked }
namespace Rows
def none {H : Type} : Left H := { results := [], args := [] }

/-- 'compactlaw.Sips': WHATEVER THE INPUT: true; the input reads as it did. -/
def sipsSpec : ChangeSpec := { name := "sips", fn := fun _ => fun
  | [d1, d2, d3] => { results := [.lit (.bool true)], args := [d1, d2, d3] }
  | _ => none }
def sipsRow : OpenClaim := { program := "ytfbhgbmdakdaoaa", sum := "6cf5ec8f7410ce1229de5be8c1276d53c8694a4285a75d6fc4eaa164424697d5", func := "compact/compactlaw.Sips", spec := "sips", apart := false }
def SipsSaid : Prop := sipsRow.holds Try.pinned (OpenSpec.ofChange sipsSpec)

/-- ITS FALSE NEIGHBOUR: 'it returns false'. Refute it at one input. -/
def sipsWrong : ChangeSpec := { name := "sips", fn := fun _ => fun
  | [d1, d2, d3] => { results := [.lit (.bool false)], args := [d1, d2, d3] }
  | _ => none }
def SipsWrongFalsely : Prop := sipsRow.holds Try.pinned (OpenSpec.ofChange sipsWrong)

/-- 'compactlaw.Drops': WHATEVER THE INPUT: true; the input reads as it did. -/
def dropsSpec : ChangeSpec := { name := "drops", fn := fun _ => fun
  | [d] => { results := [.lit (.bool true)], args := [d] }
  | _ => none }
def dropsRow : OpenClaim := { program := "ytfbhgbmdakdaoaa", sum := "6cf5ec8f7410ce1229de5be8c1276d53c8694a4285a75d6fc4eaa164424697d5", func := "compact/compactlaw.Drops", spec := "drops", apart := false }
def DropsSaid : Prop := dropsRow.holds Try.pinned (OpenSpec.ofChange dropsSpec)

/-- ITS FALSE NEIGHBOUR: 'it returns false'. Refute it at one input. -/
def dropsWrong : ChangeSpec := { name := "drops", fn := fun _ => fun
  | [d] => { results := [.lit (.bool false)], args := [d] }
  | _ => none }
def DropsWrongFalsely : Prop := dropsRow.holds Try.pinned (OpenSpec.ofChange dropsWrong)

/-- 'compactlaw.IDs': WHATEVER THE INPUT: true; the input reads as it did. -/
def iDsSpec : ChangeSpec := { name := "iDs", fn := fun _ => fun
  | [d] => { results := [.lit (.bool true)], args := [d] }
  | _ => none }
def iDsRow : OpenClaim := { program := "ytfbhgbmdakdaoaa", sum := "6cf5ec8f7410ce1229de5be8c1276d53c8694a4285a75d6fc4eaa164424697d5", func := "compact/compactlaw.IDs", spec := "iDs", apart := false }
def IDsSaid : Prop := iDsRow.holds Try.pinned (OpenSpec.ofChange iDsSpec)

/-- ITS FALSE NEIGHBOUR: 'it returns false'. Refute it at one input. -/
def iDsWrong : ChangeSpec := { name := "iDs", fn := fun _ => fun
  | [d] => { results := [.lit (.bool false)], args := [d] }
  | _ => none }
def IDsWrongFalsely : Prop := iDsRow.holds Try.pinned (OpenSpec.ofChange iDsWrong)

/-- 'compactlaw.Owned': WHATEVER THE INPUT: true; the input reads as it did. -/
def ownedSpec : ChangeSpec := { name := "owned", fn := fun _ => fun
  | [d] => { results := [.lit (.bool true)], args := [d] }
  | _ => none }
def ownedRow : OpenClaim := { program := "ytfbhgbmdakdaoaa", sum := "6cf5ec8f7410ce1229de5be8c1276d53c8694a4285a75d6fc4eaa164424697d5", func := "compact/compactlaw.Owned", spec := "owned", apart := false }
def OwnedSaid : Prop := ownedRow.holds Try.pinned (OpenSpec.ofChange ownedSpec)

/-- ITS FALSE NEIGHBOUR: 'it returns false'. Refute it at one input. -/
def ownedWrong : ChangeSpec := { name := "owned", fn := fun _ => fun
  | [d] => { results := [.lit (.bool false)], args := [d] }
  | _ => none }
def OwnedWrongFalsely : Prop := ownedRow.holds Try.pinned (OpenSpec.ofChange ownedWrong)

/- THE SECOND FORM. 'bulk': how many values and letters a reading holds, each counted each time it is reached (what is shared counts as often as it is met; a slice's spare places count too). A statement '..UptoSaid' is the law's where the arguments, and the package variables that the reading takes, are together of bulk at most 1048576: NARROWER than '..Said'. Prove '..Said' where nothing that the law and all that it calls make is longer than what came in: it says more and counts as full. Else prove '..UptoSaid'. A law counts once. -/
mutual
def uptoBulk {H : Type} : DataW H → Nat
  | .lit (.string bytes) => bytes.length + 1
  | .lit _ => 1
  | .nil => 1
  | .ptr d => uptoBulk d + 1
  | .slice elems spare => uptoBulkAll elems + uptoBulkAll spare + 1
  | .agg parts => uptoBulkAll parts + 1
  | .iface _ d => uptoBulk d + 1
  | .map entries => uptoBulkEntries entries + 1
  | .held _ => 1
def uptoBulkAll {H : Type} : List (DataW H) → Nat
  | [] => 0
  | d :: r => uptoBulk d + uptoBulkAll r
def uptoBulkEntries {H : Type} : List (Lit × DataW H) → Nat
  | [] => 0
  | x :: r => uptoBulkEntry x + uptoBulkEntries r
def uptoBulkEntry {H : Type} : Lit × DataW H → Nat
  | (.string bytes, d) => bytes.length + uptoBulk d + 1
  | (_, d) => uptoBulk d + 1
 end
def uptoSmall : (H : Type) → List (DataW H) → Bool := fun _ ds => decide (uptoBulkAll ds ≤ 1048576)
def OpenSpec.upto (s : _root_.Go.ChangeSpec) : _root_.Go.OpenSpec := { _root_.Go.OpenSpec.ofChange s with cond := some uptoSmall }

/-- 'compactlaw.Sips', WHERE WHAT IT READS IS OF BULK AT MOST 1048576: true; the input reads as it did. -/
def sipsUptoRow : OpenClaim := { program := "ytfbhgbmdakdaoaa", sum := "6cf5ec8f7410ce1229de5be8c1276d53c8694a4285a75d6fc4eaa164424697d5", func := "compact/compactlaw.Sips", spec := "sips", apart := false, narrowed := true }
def SipsUptoSaid : Prop := sipsUptoRow.holds Try.pinned (OpenSpec.upto sipsSpec)

/-- 'compactlaw.Drops', WHERE WHAT IT READS IS OF BULK AT MOST 1048576: true; the input reads as it did. -/
def dropsUptoRow : OpenClaim := { program := "ytfbhgbmdakdaoaa", sum := "6cf5ec8f7410ce1229de5be8c1276d53c8694a4285a75d6fc4eaa164424697d5", func := "compact/compactlaw.Drops", spec := "drops", apart := false, narrowed := true }
def DropsUptoSaid : Prop := dropsUptoRow.holds Try.pinned (OpenSpec.upto dropsSpec)

/-- 'compactlaw.IDs', WHERE WHAT IT READS IS OF BULK AT MOST 1048576: true; the input reads as it did. -/
def iDsUptoRow : OpenClaim := { program := "ytfbhgbmdakdaoaa", sum := "6cf5ec8f7410ce1229de5be8c1276d53c8694a4285a75d6fc4eaa164424697d5", func := "compact/compactlaw.IDs", spec := "iDs", apart := false, narrowed := true }
def IDsUptoSaid : Prop := iDsUptoRow.holds Try.pinned (OpenSpec.upto iDsSpec)

/-- 'compactlaw.Owned', WHERE WHAT IT READS IS OF BULK AT MOST 1048576: true; the input reads as it did. -/
def ownedUptoRow : OpenClaim := { program := "ytfbhgbmdakdaoaa", sum := "6cf5ec8f7410ce1229de5be8c1276d53c8694a4285a75d6fc4eaa164424697d5", func := "compact/compactlaw.Owned", spec := "owned", apart := false, narrowed := true }
def OwnedUptoSaid : Prop := ownedUptoRow.holds Try.pinned (OpenSpec.upto ownedSpec)

end Rows
end Go.Proofs.Ytfbhgbmdakdaoaa
