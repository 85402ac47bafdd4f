import Derived.Test.YtkmalggeieiepaaSipB
import Derived.Test.YtkmalggeieiepaaSipAr
import Derived.WalkKit
import Derived.WalkSpells
import Derived.WalkLawsBesides
import Derived.Deep.QuietTactic
import Derived.BigQuiet
namespace Go.Proofs.Ytkmalggeieiepaa
open Go.RowKit

set_option maxHeartbeats 1000000 in
theorem refRounds_any (b : Nat) (v : St) (n : Nat) (w : World) (hn : n ≤ 100) (hv : v.ok)
    (h0 : w.cell? ⟨b, 0, none⟩ = some (.int .u64 v.a)) (h1 : w.cell? ⟨b, 1, none⟩ = some (.int .u64 v.b)) (h2 : w.cell? ⟨b, 2, none⟩ = some (.int .u64 v.c)) (h3 : w.cell? ⟨b, 3, none⟩ = some (.int .u64 v.d)) :
    Calls Try.prog 8 #[.slice (some ⟨b, 0, none⟩) 4 4, .int .i64 n] w fun e w' => ∃ g, e = .returned (.slice (some ⟨g, 0, none⟩) 4 4) ∧ w.heap.size ≤ g ∧ At4 w' g (rnds n v) ∧ Free4 w' g ∧ Below w.heap.size w w' := by
  go_enter Try.func8, Try.ntmps8
  go_wp2
  go_loopw [1, 5, 6, 7, 8] (fun m a b c d w' => ∃ k : Nat, ∃ u : St, k ≤ n ∧ m = .int .i64 k ∧ u.ok ∧ rnds k u = rnds n v ∧ a = .int .u64 u.a ∧ b = .int .u64 u.b ∧ c = .int .u64 u.c ∧ d = .int .u64 u.d ∧ ∃ j, w' = w.drewN j) (fun m _ _ _ _ _ => (intOf m).toNat)
  case atStart => exact ⟨n, v, Nat.le_refl _, rfl, hv, rfl, rfl, rfl, rfl, rfl, 0, rfl⟩
  case round =>
    obtain ⟨k, u, hk, rfl, hu, hr, rfl, rfl, rfl, rfl, j, rfl⟩ := hrel
    have HR : Hid (rnds k u = rnds n v) := hr
    clear hr
    by_cases hlt : 0 < k
    · go_wp2_with (go_at_call 12; go_must (refine (left_any _ _ _ (by omega) ?_).mono ?_); (first | exact isU_wrap _ | exact isU_bits _ _ _ | exact isU_rot _ _ | exact hu.1 | exact hu.2.1 | exact hu.2.2.1 | exact hu.2.2.2); rintro e w' ⟨rfl, n', rfl⟩)
      go_roundw
      case rel => exact ⟨k - 1, rnd u, by omega, by go_num, rnd_ok u, by have h := HR.out; obtain ⟨m, rfl⟩ : ∃ m, k = m + 1 := ⟨k - 1, by omega⟩; exact h, rfl, rfl, rfl, rfl, _, rfl⟩
      case measure => simp [intOf]; omega
    · obtain rfl : k = 0 := by omega
      go_wp2
      go_ret
      have hr := HR.out
      refine ⟨w.heap.size, rfl, Nat.le_refl _, ?_, free4_new (w.drewN j) u _, ?_⟩
      · rw [← hr]; exact at4_new (w.drewN j) u _
      · exact (below_drewN (Below.refl _ _) j).alloc (Nat.le_refl _) _
end Go.Proofs.Ytkmalggeieiepaa
