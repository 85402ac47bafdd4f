import Derived.Test.YtkmalggeieiepabDoorSipA
import Derived.WalkKit
import Derived.WalkSpells
import Derived.WalkLawsBesides
import Derived.Deep.QuietTactic
import Derived.BigQuiet
namespace Go.Proofs.YtkmalggeieiepabDoor
open Go.RowKit

/-- a world in which four numbers lie from an address on. -/
def At4 (w : World) (b : Nat) (v : St) : Prop :=
  w.cell? ⟨b, 0, none⟩ = some (.int .u64 v.a) ∧ w.cell? ⟨b, 1, none⟩ = some (.int .u64 v.b) ∧ w.cell? ⟨b, 2, none⟩ = some (.int .u64 v.c) ∧ w.cell? ⟨b, 3, none⟩ = some (.int .u64 v.d)

/-- four cells that may be written. -/
def Free4 (w : World) (b : Nat) : Prop := w.frozen? ⟨b, 0, none⟩ = false ∧ w.frozen? ⟨b, 1, none⟩ = false ∧ w.frozen? ⟨b, 2, none⟩ = false ∧ w.frozen? ⟨b, 3, none⟩ = false
theorem free4_new (w : World) (v : St) (T : Nat) : Free4 (w.alloc (.cells #[.int .u64 v.a, .int .u64 v.b, .int .u64 v.c, .int .u64 v.d] T)) w.heap.size := by
  simp [Free4, go_sem]
theorem at4_new (w : World) (v : St) (T : Nat) : At4 (w.alloc (.cells #[.int .u64 v.a, .int .u64 v.b, .int .u64 v.c, .int .u64 v.d] T)) w.heap.size v := by
  simp [At4, go_sem]

end Go.Proofs.YtkmalggeieiepabDoor
