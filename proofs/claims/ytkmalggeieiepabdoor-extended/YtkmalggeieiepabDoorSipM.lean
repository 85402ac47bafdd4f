import Derived.WalkKit
import Derived.WalkSpells
namespace Go.Proofs.YtkmalggeieiepabDoor
open Go.RowKit

/-- a 64-bit number turned left by k. -/
def rot (k : Int) (x : Int) : Int := bits .or .u64 (IntKind.u64.wrap (x * 2 ^ k.toNat)) (x / 2 ^ (64 - k).toNat)
def IsU (x : Int) : Prop := 0 ≤ x ∧ x ≤ 18446744073709551615
theorem isU_wrap (x : Int) : IsU (IntKind.u64.wrap x) := by
  unfold IsU; rw [IntKind.wrap_u64]; omega
theorem isU_bits (o : BinOp) (x y : Int) : IsU (bits o .u64 x y) := isU_wrap _
theorem isU_rot (k : Int) (x : Int) : IsU (rot k x) := isU_wrap _
theorem and63 (k : Nat) (h : k < 64) : bits .and .u64 (k : Int) 63 = k := by
  have := bits_and_u64_nat k 63 (by omega) (by omega)
  rw [show ((63 : Nat) : Int) = 63 from rfl] at this
  rw [this, Nat.and_two_pow_sub_one_eq_mod k 6, Nat.mod_eq_of_lt (by omega)]
/-- four numbers. -/
structure St where
  a : Int
  b : Int
  c : Int
  d : Int
def St.ok (v : St) : Prop := IsU v.a ∧ IsU v.b ∧ IsU v.c ∧ IsU v.d
/-- one round, in two halves. -/
def half1 (v : St) : St :=
  let a1 := IntKind.u64.wrap (v.a + v.b)
  let c1 := IntKind.u64.wrap (v.c + v.d)
  ⟨a1, bits .xor .u64 (rot 13 v.b) a1, c1, bits .xor .u64 (rot 16 v.d) c1⟩
def half2 (v : St) : St :=
  let c2 := IntKind.u64.wrap (v.c + v.b)
  let a3 := IntKind.u64.wrap (rot 32 v.a + v.d)
  ⟨a3, bits .xor .u64 (rot 17 v.b) c2, rot 32 c2, bits .xor .u64 (rot 21 v.d) a3⟩
theorem half1_ok (v : St) : (half1 v).ok := ⟨isU_wrap _, isU_bits .xor _ _, isU_wrap _, isU_bits .xor _ _⟩
def rnd (v : St) : St := half2 (half1 v)
theorem rnd_ok (v : St) : (rnd v).ok := ⟨isU_wrap _, isU_bits .xor _ _, isU_rot _ _, isU_bits .xor _ _⟩
def rnds : Nat → St → St
  | 0, v => v
  | n + 1, v => rnds n (rnd v)
theorem rnds_ok (n : Nat) (v : St) (h : v.ok) : (rnds n v).ok := by
  induction n generalizing v with
  | zero => exact h
  | succ n ih => exact ih _ (rnd_ok _)
theorem rnds_succ (n : Nat) (v : St) : rnds (n + 1) v = rnd (rnds n v) := by
  induction n generalizing v with
  | zero => rfl
  | succ n ih => show rnds (n + 1) (rnd v) = _; rw [ih]; rfl
def vals (v : St) : Array Value := #[.int .u64 v.a, .int .u64 v.b, .int .u64 v.c, .int .u64 v.d]
/-- one word worked in. -/
def wrd (v : St) (m : Int) : St :=
  let u := rnds 2 ⟨v.a, v.b, v.c, bits .xor .u64 v.d m⟩
  ⟨bits .xor .u64 u.a m, u.b, u.c, u.d⟩
theorem wrd_ok (v : St) (m : Int) (_h : v.ok) : (wrd v m).ok := by
  have h2 := rnd_ok (rnd ⟨v.a, v.b, v.c, bits .xor .u64 v.d m⟩)
  exact ⟨isU_bits .xor _ _, h2.2.1, h2.2.2.1, h2.2.2.2⟩
/-- the end. -/
def fin (v : St) : Int :=
  let u := rnds 4 ⟨v.a, v.b, bits .xor .u64 v.c 255, v.d⟩
  bits .xor .u64 (bits .xor .u64 (bits .xor .u64 u.a u.b) u.c) u.d
/-- bytes, the lowest first. -/
def num : List UInt8 → Nat
  | [] => 0
  | b :: l => num l * 256 + b.toNat
theorem num_lt (l : List UInt8) : num l < 256 ^ l.length := by
  induction l with
  | nil => simp [num]
  | cons b l ih => have := b.toNat_lt; simp only [num, List.length_cons, Nat.pow_succ]; omega
theorem num_append (l m : List UInt8) : num (l ++ m) = num l + 256 ^ l.length * num m := by
  induction l with
  | nil => simp [num]
  | cons b l ih =>
    simp only [List.cons_append, num, ih, List.length_cons, Nat.pow_succ]
    rw [Nat.add_mul]
    have : 256 ^ l.length * num m * 256 = 256 ^ l.length * 256 * num m := by rw [Nat.mul_assoc, Nat.mul_comm (num m) 256, ← Nat.mul_assoc]
    rw [this, Nat.add_right_comm]
end Go.Proofs.YtkmalggeieiepabDoor
