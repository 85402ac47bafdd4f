import Derived.Test.YtkmalggeieiepaaDoorRows
import Derived.Test.YtkmalggeieiepaaDoorShaM
import Derived.WalkKit
import Derived.WalkSpells
import Derived.WalkLawsBesides
import Derived.Below
namespace Go.Proofs.YtkmalggeieiepaaDoor
open Go.RowKit

/-- twice, where once is known. -/
theorem twice_of (gt : Nat) (dg : ByteArray → ByteArray) (hdg : ∀ s, (dg s).size ≤ 1048576) (s : ByteArray) (w : World) (hs : s.size ≤ 1048576)
    (HS : Hid (∀ (s : ByteArray) (W : World), s.size ≤ 1048576 → Below w.heap.size w W → Calls Tryd.prog 10 #[.pointer (some ⟨gt, 0, none⟩), .string s] W fun e w' => e = .returned (.string (dg s)) ∧ Below W.heap.size W w')) :
    Calls Tryd.prog 13 #[.pointer (some ⟨gt, 0, none⟩), .string s] w fun e w' => e = .returned (.string (dg (dg s))) ∧ Below w.heap.size w w' := by
  have H1 : Hid (Calls Tryd.prog 10 #[.pointer (some ⟨gt, 0, none⟩), .string s] w fun e w' => e = .returned (.string (dg s)) ∧ Below w.heap.size w w') := HS.out s w hs (Below.refl _ _)
  have H2 : Hid (∀ W : World, Below w.heap.size w W → Calls Tryd.prog 10 #[.pointer (some ⟨gt, 0, none⟩), .string (dg s)] W fun e w' => e = .returned (.string (dg (dg s))) ∧ Below W.heap.size W w') := fun W hW => HS.out (dg s) W (hdg s) hW
  clear hdg HS
  generalize dg (dg s) = r2 at H2
  generalize dg s = r1 at H1 H2
  go_enter Tryd.func13, Tryd.ntmps13
  go_wp2_with (first
    | (go_at_call 10; refine H1.out.mono ?_; rintro e w1 ⟨rfl, hb1⟩; have HB1 : Hid (Below w.heap.size w w1) := hb1; clear hb1 H1)
    | (go_at_call 10; go_must (refine (H2.out _ HB1.out).mono ?_); rintro e w2 ⟨rfl, hb2⟩; have HB2 := (show Hid (Below w1.heap.size w1 w2) from hb2); clear hb2))
  go_ret
  exact ⟨rfl, HB1.out.trans (HB2.out.mono HB1.out.size)⟩
end Go.Proofs.YtkmalggeieiepaaDoor
