import Derived.Test.YtkmalggeieiepabDoorRows
import Derived.Test.YtkmalggeieiepabDoorSipM
import Derived.WalkKit
import Derived.WalkSpells
import Derived.WalkLawsBesides
import Derived.Deep.QuietTactic
import Derived.BigQuiet
namespace Go.Proofs.YtkmalggeieiepabDoor
open Go.RowKit

set_option maxHeartbeats 400000 in
theorem rotl_any (k : Int) (x : Int) (w : World) (hk : k = 13 ∨ k = 16 ∨ k = 17 ∨ k = 21 ∨ k = 32) (hx : IsU x) :
    Calls Tryd.prog 75 #[.int .u64 x, .int .i64 k] w fun e w' => e = .returned (.int .u64 (rot k x)) ∧ w' = w := by
  obtain ⟨h0, h1⟩ := hx
  have b13 : bits .and .u64 13 63 = 13 := and63 13 (by omega)
  have b16 : bits .and .u64 16 63 = 16 := and63 16 (by omega)
  have b17 : bits .and .u64 17 63 = 17 := and63 17 (by omega)
  have b21 : bits .and .u64 21 63 = 21 := and63 21 (by omega)
  have b32 : bits .and .u64 32 63 = 32 := and63 32 (by omega)
  rcases hk with rfl | rfl | rfl | rfl | rfl
  all_goals
    go_enter Tryd.func75, Tryd.ntmps75
    go_wp2
    go_ret
    exact ⟨rfl, rfl⟩

end Go.Proofs.YtkmalggeieiepabDoor
