import Derived.Test.YtkmalggeieiepaaRows
import Derived.Test.YtkmalggeieiepaaSipM
import Derived.WalkKit
import Derived.WalkSpells
import Derived.WalkLawsBesides
import Derived.Deep.QuietTactic
import Derived.BigQuiet
namespace Go.Proofs.Ytkmalggeieiepaa
open Go.RowKit

set_option maxHeartbeats 400000 in
theorem left_any (k : Int) (x : Int) (w : World) (hk : k = 13 ∨ k = 16 ∨ k = 17 ∨ k = 21 ∨ k = 32) (hx : IsU x) :
    Calls Try.prog 12 #[.int .u64 x, .int .i64 k] w fun e w' => e = .returned (.int .u64 (rot k x)) ∧ ∃ n, w' = w.drewN n := by
  obtain ⟨h0, h1⟩ := hx
  rcases hk with rfl | rfl | rfl | rfl | rfl
  all_goals
    go_enter Try.func12, Try.ntmps12
    go_wp2
    go_quiet (fail)
    go_wp2
    go_ret
    exact ⟨rfl, _, rfl⟩
end Go.Proofs.Ytkmalggeieiepaa
