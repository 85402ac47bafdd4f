import Derived.Test.YtkmalggeieiepabDoorRows
import Derived.Test.YtkmalggeieiepabDoorShaM
import Derived.WalkKit
import Derived.WalkSpells
import Derived.WalkLawsBesides
import Derived.Deep.QuietTactic
import Derived.BigQuiet
namespace Go.Proofs.YtkmalggeieiepabDoor
open Go.RowKit

theorem and31 (k n : Int) (h : k = 18446744073709551616 - n) (h0 : 0 < n) (h1 : n < 32) : bits .and .u64 k 31 = 32 - n := by
  have e := bits_and_u64_nat k.toNat 31 (by omega) (by omega)
  rw [show ((31 : Nat) : Int) = 31 from rfl, show ((k.toNat : Nat) : Int) = k by omega] at e
  rw [e, Nat.and_two_pow_sub_one_eq_mod _ 5]
  omega
theorem and31_2 : bits .and .u64 (IntKind.u64.wrap (-2)) 31 = 30 := and31 _ 2 (by rw [IntKind.wrap_u64]; omega) (by omega) (by omega)
theorem and31_6 : bits .and .u64 (IntKind.u64.wrap (-6)) 31 = 26 := and31 _ 6 (by rw [IntKind.wrap_u64]; omega) (by omega) (by omega)
theorem and31_7 : bits .and .u64 (IntKind.u64.wrap (-7)) 31 = 25 := and31 _ 7 (by rw [IntKind.wrap_u64]; omega) (by omega) (by omega)
theorem and31_11 : bits .and .u64 (IntKind.u64.wrap (-11)) 31 = 21 := and31 _ 11 (by rw [IntKind.wrap_u64]; omega) (by omega) (by omega)
theorem and31_13 : bits .and .u64 (IntKind.u64.wrap (-13)) 31 = 19 := and31 _ 13 (by rw [IntKind.wrap_u64]; omega) (by omega) (by omega)
theorem and31_17 : bits .and .u64 (IntKind.u64.wrap (-17)) 31 = 15 := and31 _ 17 (by rw [IntKind.wrap_u64]; omega) (by omega) (by omega)
theorem and31_18 : bits .and .u64 (IntKind.u64.wrap (-18)) 31 = 14 := and31 _ 18 (by rw [IntKind.wrap_u64]; omega) (by omega) (by omega)
theorem and31_19 : bits .and .u64 (IntKind.u64.wrap (-19)) 31 = 13 := and31 _ 19 (by rw [IntKind.wrap_u64]; omega) (by omega) (by omega)
theorem and31_22 : bits .and .u64 (IntKind.u64.wrap (-22)) 31 = 10 := and31 _ 22 (by rw [IntKind.wrap_u64]; omega) (by omega) (by omega)
theorem and31_25 : bits .and .u64 (IntKind.u64.wrap (-25)) 31 = 7 := and31 _ 25 (by rw [IntKind.wrap_u64]; omega) (by omega) (by omega)

set_option maxHeartbeats 1000000 in
theorem rotl32_any (k : Int) (x : Int) (w : World) (hk : k = -2 ∨ k = -6 ∨ k = -7 ∨ k = -11 ∨ k = -13 ∨ k = -17 ∨ k = -18 ∨ k = -19 ∨ k = -22 ∨ k = -25) (hx : IsW x) :
    Calls Tryd.prog 74 #[.int .u32 x, .int .i64 k] w fun e w' => e = .returned (.int .u32 (rr (-k) x)) ∧ w' = w := by
  obtain ⟨h0, h1⟩ := hx
  have a2 := and31_2
  have a6 := and31_6
  have a7 := and31_7
  have a11 := and31_11
  have a13 := and31_13
  have a17 := and31_17
  have a18 := and31_18
  have a19 := and31_19
  have a22 := and31_22
  have a25 := and31_25
  rcases hk with rfl | rfl | rfl | rfl | rfl | rfl | rfl | rfl | rfl | rfl
  all_goals
    go_enter Tryd.func74, Tryd.ntmps74
    go_wp2
    go_ret
    exact ⟨rfl, rfl⟩
end Go.Proofs.YtkmalggeieiepabDoor
