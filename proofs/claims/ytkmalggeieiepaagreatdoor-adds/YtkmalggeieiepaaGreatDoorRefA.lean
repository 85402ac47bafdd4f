import Derived.Test.YtkmalggeieiepaaGreatDoorRows
import Derived.Test.YtkmalggeieiepaaGreatDoorShaM
import Derived.WalkKit
import Derived.WalkSpells
import Derived.WalkLawsBesides
import Derived.Deep.QuietTactic
import Derived.BigQuiet
namespace Go.Proofs.YtkmalggeieiepaaGreatDoor
open Go.RowKit

theorem wraps_i63 (n : Int) (h0 : 0 ≤ n) (h1 : n < 2 ^ 63) : IntKind.i64.wrap n = n := by rw [IntKind.wrap_i64]; omega
theorem i64_and_nat (a b : Nat) (ha : a < 2 ^ 63) (hb : b < 2 ^ 63) : bits .and .i64 (a : Int) (b : Int) = ((a &&& b : Nat) : Int) := (bits_nat .i64 63 (by decide) wraps_i63 a b ha hb).1
theorem i64_or_nat (a b : Nat) (ha : a < 2 ^ 63) (hb : b < 2 ^ 63) : bits .or .i64 (a : Int) (b : Int) = ((a ||| b : Nat) : Int) := (bits_nat .i64 63 (by decide) wraps_i63 a b ha hb).2
/-- the reference's turn is the program's. -/
theorem turn_eq (x p q : Int) (hx : IsW x) (hp : 0 < q) (hq : q ≤ 4294967296) (_hp : 0 ≤ p) :
    bits .or .i64 (x / q) (bits .and .i64 (x * p % 4294967296) 4294967295) = bits .or .u32 (IntKind.u32.wrap (x * p)) (x / q) := by
  obtain ⟨h0, h1⟩ := hx
  have b0 : 0 ≤ x * p % 4294967296 := by omega
  have b1 : x * p % 4294967296 < 4294967296 := by omega
  have a0 : 0 ≤ x / q := Int.ediv_nonneg h0 (by omega)
  have a1 : x / q < 4294967296 := Int.lt_of_le_of_lt (Int.ediv_le_self _ h0) h1
  rw [IntKind.wrap_u32]
  generalize x * p % 4294967296 = B at b0 b1
  generalize x / q = A at a0 a1
  obtain ⟨a, rfl⟩ := Int.eq_ofNat_of_zero_le a0
  obtain ⟨b, rfl⟩ := Int.eq_ofNat_of_zero_le b0
  have e1 : bits .and .i64 (b : Int) 4294967295 = (b : Int) := by
    have h := i64_and_nat b 4294967295 (by omega) (by omega)
    rw [show ((4294967295 : Nat) : Int) = 4294967295 from rfl] at h
    rw [h, show (4294967295 : Nat) = 2 ^ 32 - 1 by decide, Nat.and_two_pow_sub_one_eq_mod, Nat.mod_eq_of_lt (by omega)]
  rw [e1, i64_or_nat a b (by omega) (by omega), u32_or_nat b a (by omega) (by omega), Nat.or_comm]

set_option maxHeartbeats 1000000 in
theorem turn_any (n : Int) (x : Int) (w : World) (hk : n = 2 ∨ n = 6 ∨ n = 7 ∨ n = 11 ∨ n = 13 ∨ n = 17 ∨ n = 18 ∨ n = 19 ∨ n = 22 ∨ n = 25) (hx : IsW x) :
    Calls Tryz.prog 104 #[.int .i64 x, .int .i64 n] w fun e w' => e = .returned (.int .i64 (rr n x)) ∧ ∃ m, w' = w.drewN m := by
  have HX : Hid (IsW x) := hx
  obtain ⟨h0, h1⟩ := hx
  rcases hk with rfl | rfl | rfl | rfl | rfl | rfl | rfl | rfl | rfl | rfl
  all_goals
    go_enter Tryz.func104, Tryz.ntmps104
    go_wp2
    go_quiet (fail)
    go_wp2
    go_ret
    refine ⟨?_, _, rfl⟩
    rw [turn_eq x _ _ HX.out (by omega) (by omega) (by omega)]
    rfl
end Go.Proofs.YtkmalggeieiepaaGreatDoor
