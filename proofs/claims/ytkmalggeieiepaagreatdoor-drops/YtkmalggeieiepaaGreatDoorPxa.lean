import Derived.WalkKit
import Derived.WalkSpells
import Derived.Test.YtkmalggeieiepaaGreatDoorRows
import Derived.WalkLawsBesides
import Derived.Lib.Strings
import Derived.Below
import Derived.Deep.LoopGhost
import Derived.Deep.DeepCutAuto
import Derived.Test.YtkmalggeieiepaaGreatDoorShaM
import Derived.Deep.QuietTactic
import Derived.BigQuiet
import Derived.Deep.RegionLaw
import Derived.Deep.AppendLies
import Derived.RegionTactic
import Derived.Orders
import Derived.Test.YtkmalggeieiepaaGreatDoorTxtA
import Derived.Deep.MidRow
import Derived.Lib.LazyBuf
import Derived.Stop.BytesEq
import Derived.OwnWalk
import Derived.Maps.RangeWalk
import Derived.Maps.OwnSet
import Derived.DeepKeys4
import Derived.Lib.Walk
import Derived.Lib.BufferWrite
import Derived.Lib.UnsafeStr
import Derived.Laws.MakeOwn
namespace Go.Proofs.YtkmalggeieiepaaGreatDoor
open Go.RowKit

/-- a 64-bit number turned left by k. -/
def rot (k : Int) (x : Int) : Int := bits .or .u64 (IntKind.u64.wrap (x * 2 ^ k.toNat)) (x / 2 ^ (64 - k).toNat)
def IsU (x : Int) : Prop := 0 ≤ x ∧ x ≤ 18446744073709551615
theorem isU_wrap (x : Int) : IsU (IntKind.u64.wrap x) := by
  unfold IsU; rw [IntKind.wrap_u64]; omega
theorem isU_bits (o : BinOp) (x y : Int) : IsU (bits o .u64 x y) := isU_wrap _
theorem isU_rot (k : Int) (x : Int) : IsU (rot k x) := isU_wrap _
theorem and63 (k : Nat) (h : k < 64) : bits .and .u64 (k : Int) 63 = k := by
  have := bits_and_u64_nat k 63 (by omega) (by omega)
  rw [show ((63 : Nat) : Int) = 63 from rfl] at this
  rw [this, Nat.and_two_pow_sub_one_eq_mod k 6, Nat.mod_eq_of_lt (by omega)]
/-- four numbers. -/
structure St where
  a : Int
  b : Int
  c : Int
  d : Int
def St.ok (v : St) : Prop := IsU v.a ∧ IsU v.b ∧ IsU v.c ∧ IsU v.d
/-- one round, in two halves. -/
def half1 (v : St) : St :=
  let a1 := IntKind.u64.wrap (v.a + v.b)
  let c1 := IntKind.u64.wrap (v.c + v.d)
  ⟨a1, bits .xor .u64 (rot 13 v.b) a1, c1, bits .xor .u64 (rot 16 v.d) c1⟩
def half2 (v : St) : St :=
  let c2 := IntKind.u64.wrap (v.c + v.b)
  let a3 := IntKind.u64.wrap (rot 32 v.a + v.d)
  ⟨a3, bits .xor .u64 (rot 17 v.b) c2, rot 32 c2, bits .xor .u64 (rot 21 v.d) a3⟩
theorem half1_ok (v : St) : (half1 v).ok := ⟨isU_wrap _, isU_bits .xor _ _, isU_wrap _, isU_bits .xor _ _⟩
def rnd (v : St) : St := half2 (half1 v)
theorem rnd_ok (v : St) : (rnd v).ok := ⟨isU_wrap _, isU_bits .xor _ _, isU_rot _ _, isU_bits .xor _ _⟩
def rnds : Nat → St → St
  | 0, v => v
  | n + 1, v => rnds n (rnd v)
theorem rnds_ok (n : Nat) (v : St) (h : v.ok) : (rnds n v).ok := by
  induction n generalizing v with
  | zero => exact h
  | succ n ih => exact ih _ (rnd_ok _)
theorem rnds_succ (n : Nat) (v : St) : rnds (n + 1) v = rnd (rnds n v) := by
  induction n generalizing v with
  | zero => rfl
  | succ n ih => show rnds (n + 1) (rnd v) = _; rw [ih]; rfl
def vals (v : St) : Array Value := #[.int .u64 v.a, .int .u64 v.b, .int .u64 v.c, .int .u64 v.d]
/-- one word worked in. -/
def wrd (v : St) (m : Int) : St :=
  let u := rnds 2 ⟨v.a, v.b, v.c, bits .xor .u64 v.d m⟩
  ⟨bits .xor .u64 u.a m, u.b, u.c, u.d⟩
theorem wrd_ok (v : St) (m : Int) (_h : v.ok) : (wrd v m).ok := by
  have h2 := rnd_ok (rnd ⟨v.a, v.b, v.c, bits .xor .u64 v.d m⟩)
  exact ⟨isU_bits .xor _ _, h2.2.1, h2.2.2.1, h2.2.2.2⟩
/-- the end. -/
def fin (v : St) : Int :=
  let u := rnds 4 ⟨v.a, v.b, bits .xor .u64 v.c 255, v.d⟩
  bits .xor .u64 (bits .xor .u64 (bits .xor .u64 u.a u.b) u.c) u.d
/-- bytes, the lowest first. -/
def num : List UInt8 → Nat
  | [] => 0
  | b :: l => num l * 256 + b.toNat
theorem num_lt (l : List UInt8) : num l < 256 ^ l.length := by
  induction l with
  | nil => simp [num]
  | cons b l ih => have := b.toNat_lt; simp only [num, List.length_cons, Nat.pow_succ]; omega
theorem num_append (l m : List UInt8) : num (l ++ m) = num l + 256 ^ l.length * num m := by
  induction l with
  | nil => simp [num]
  | cons b l ih =>
    simp only [List.cons_append, num, ih, List.length_cons, Nat.pow_succ]
    rw [Nat.add_mul]
    have : 256 ^ l.length * num m * 256 = 256 ^ l.length * 256 * num m := by rw [Nat.mul_assoc, Nat.mul_comm (num m) 256, ← Nat.mul_assoc]
    rw [this, Nat.add_right_comm]
end Go.Proofs.YtkmalggeieiepaaGreatDoor
namespace Go.Proofs.YtkmalggeieiepaaGreatDoor
open Go.RowKit

theorem num_drop (l : List UInt8) (k : Nat) (h : k < l.length) : num (l.drop k) = num (l.drop (k + 1)) * 256 + l[k].toNat := by
  rw [List.drop_eq_getElem_cons h]; rfl
theorem num_step (l : List UInt8) (k : Nat) (h : k < l.length) (h8 : l.length ≤ 8) : num (l.drop (k + 1)) * 256 + 255 ≤ 18446744073709551615 := by
  have h1 := num_lt (l.drop (k + 1))
  rw [List.length_drop] at h1
  have h2 : 256 ^ (l.length - (k + 1)) ≤ 256 ^ 7 := Nat.pow_le_pow_right (by omega) (by omega)
  have h3 : 256 ^ 7 = 72057594037927936 := by decide
  omega

theorem or_add (N b : Int) (h0 : 0 ≤ N) (h1 : N * 256 + 255 ≤ 18446744073709551615) (hb0 : 0 ≤ b) (hb : b ≤ 255) : bits .or .u64 (N * 256) b = N * 256 + b :=
  bits_join .u64 64 (by decide) (fun n h h' => by rw [IntKind.wrap_u64]; omega) 8 (N * 256) b (by omega) (by omega) (by omega) hb0 (by omega) (by omega)

set_option maxHeartbeats 400000 in
theorem lowest_any (s : ByteArray) (w : World) (hs : s.size ≤ 8) :
    Calls Tryz.prog 73 #[.string s] w fun e w' => e = .returned (.int .u64 (num s.data.toList)) ∧ w' = w := by
  have hl : s.data.toList.length = s.size := rfl
  go_enter Tryz.func73, Tryz.ntmps73
  go_wp2
  go_loop [3, 4] (fun n i => ∃ k : Nat, k ≤ s.size ∧ i = .int .i64 ((k : Int) - 1) ∧ n = .int .u64 (num (s.data.toList.drop k))) (fun _ i => (intOf i + 1).toNat)
  case atStart => exact ⟨s.size, Nat.le_refl _, rfl, by rw [List.drop_of_length_le (Nat.le_of_eq hl)]; rfl⟩
  case round =>
    obtain ⟨k, hk, rfl, rfl⟩ := hrel
    by_cases h0 : k = 0
    · subst h0
      go_wp2
      go_ret
      exact ⟨rfl, rfl⟩
    · obtain ⟨j, rfl⟩ : ∃ j, k = j + 1 := ⟨k - 1, by omega⟩
      have hj : j < s.size := by omega
      have hst := num_step s.data.toList j (by omega) (by omega)
      have HD : Hid (num (s.data.toList.drop j) = num (s.data.toList.drop (j + 1)) * 256 + s[j].toNat) := num_drop s.data.toList j (by omega)
      generalize num (s.data.toList.drop (j + 1)) = N at hst HD
      have hst' : (N : Int) * 256 + 255 ≤ 18446744073709551615 := by omega
      clear hst
      have hN : 0 ≤ (N : Int) := by omega
      have hb0 : 0 ≤ (s[j].toNat : Int) := by omega
      have hb : (s[j].toNat : Int) ≤ 255 := by have := s[j].toNat_lt; omega
      have ej : (((j + 1 : Nat) : Int) - 1) = (j : Int) := by omega
      rw [ej]
      clear ej
      go_wp2
      go_round
      case rel => exact ⟨j, by omega, rfl, by rw [HD.out]; (rw [or_add _ _ hN hst' hb0 hb]; go_num)⟩
      case measure => simp [intOf]
end Go.Proofs.YtkmalggeieiepaaGreatDoor
namespace Go.Proofs.YtkmalggeieiepaaGreatDoor
open Go.RowKit

set_option maxHeartbeats 400000 in
theorem number_any (s : ByteArray) (w : World) (hs : s.size ≤ 8) :
    Calls Tryz.prog 128 #[.string s] w fun e w' => e = .returned (.int .u64 (num s.data.toList)) ∧ w' = w := by
  have hl : s.data.toList.length = s.size := rfl
  go_enter Tryz.func128, Tryz.ntmps128
  go_wp2
  go_loop [3, 4] (fun n i => ∃ k : Nat, k ≤ s.size ∧ i = .int .i64 ((k : Int) - 1) ∧ n = .int .u64 (num (s.data.toList.drop k))) (fun _ i => (intOf i + 1).toNat)
  case atStart => exact ⟨s.size, Nat.le_refl _, rfl, by rw [List.drop_of_length_le (Nat.le_of_eq hl)]; rfl⟩
  case round =>
    obtain ⟨k, hk, rfl, rfl⟩ := hrel
    by_cases h0 : k = 0
    · subst h0
      go_wp2
      go_ret
      exact ⟨rfl, rfl⟩
    · obtain ⟨j, rfl⟩ : ∃ j, k = j + 1 := ⟨k - 1, by omega⟩
      have hj : j < s.size := by omega
      have hst := num_step s.data.toList j (by omega) (by omega)
      have HD : Hid (num (s.data.toList.drop j) = num (s.data.toList.drop (j + 1)) * 256 + s[j].toNat) := num_drop s.data.toList j (by omega)
      generalize num (s.data.toList.drop (j + 1)) = N at hst HD
      have hst' : (N : Int) * 256 + 255 ≤ 18446744073709551615 := by omega
      clear hst
      have hN : 0 ≤ (N : Int) := by omega
      have hb0 : 0 ≤ (s[j].toNat : Int) := by omega
      have hb : (s[j].toNat : Int) ≤ 255 := by have := s[j].toNat_lt; omega
      have ej : (((j + 1 : Nat) : Int) - 1) = (j : Int) := by omega
      rw [ej]
      clear ej
      go_wp2
      go_round
      case rel => exact ⟨j, by omega, rfl, by rw [HD.out]; go_num⟩
      case measure => simp [intOf]

end Go.Proofs.YtkmalggeieiepaaGreatDoor
namespace Go.Proofs.YtkmalggeieiepaaGreatDoor
open Go.RowKit

/-- a text of these bytes. -/
def ofL (l : List UInt8) : ByteArray := ⟨l.toArray⟩
theorem ofL_data (l : List UInt8) : (ofL l).data.toList = l := rfl
theorem ofL_size (l : List UInt8) : (ofL l).size = l.length := by simp [ofL, ByteArray.size]
theorem ofL_of (s : ByteArray) : ofL s.data.toList = s := by apply ByteArray.ext; simp [ofL]
theorem ofL_inj {a b : List UInt8} (h : ofL a = ofL b) : a = b := by rw [← ofL_data a, ← ofL_data b, h]
theorem ofL_append (a b : List UInt8) : ofL a ++ ofL b = ofL (a ++ b) := by
  apply ByteArray.ext; rw [ByteArray.data_append]; simp [ofL]
theorem ofL_extract (l : List UInt8) (a b : Nat) : (ofL l).extract a b = ofL ((l.drop a).take (b - a)) := by
  have h := Lib.extract_data (ofL l) a b
  rw [← ofL_of ((ofL l).extract a b), h, ofL_data]
theorem ofL_get (l : List UInt8) (j : Nat) (h : j < l.length) : (ofL l)[j]'(by rw [ofL_size]; exact h) = l[j] := by
  show l.toArray[j] = l[j]
  simp

/-- as it was but for one block, and new ones. -/
structure Mov (g : Nat) (w w' : World) : Prop where
  os : w'.os = w.os
  tape : w'.tape = w.tape
  output : w'.output = w.output
  size : w.heap.size ≤ w'.heap.size
  block : ∀ k, k < w.heap.size → k ≠ g → w'.heap[k]? = w.heap[k]?
theorem Mov.refl (g : Nat) (w : World) : Mov g w w := ⟨rfl, rfl, rfl, Nat.le_refl _, fun _ _ _ => rfl⟩
theorem Mov.trans {g : Nat} {a b c : World} (h : Mov g a b) (k : Mov g b c) : Mov g a c :=
  ⟨k.os.trans h.os, k.tape.trans h.tape, k.output.trans h.output, Nat.le_trans h.size k.size, fun i hi hg => (k.block i (Nat.lt_of_lt_of_le hi h.size) hg).trans (h.block i hi hg)⟩
theorem Mov.below {g : Nat} {w w' : World} (h : Mov g w w') {B : Nat} (hB : B ≤ g) (hs : B ≤ w.heap.size) : Below B w w' :=
  ⟨h.os, h.tape, h.output, h.size, fun k hk => h.block k (by omega) (by omega)⟩
theorem Below.mov {w w' : World} (h : Below w.heap.size w w') (g : Nat) : Mov g w w' := ⟨h.os, h.tape, h.output, h.size, fun k hk _ => h.block k hk⟩
theorem Mov.set {g : Nat} {a w : World} (h : Mov g a w) (i : Nat) (u : Value) : Mov g a (w.setCell ⟨g, i, none⟩ u) :=
  ⟨h.os, h.tape, h.output, by simpa using h.size, fun k hk hg => (Below.heap_setCell w ⟨g, i, none⟩ u k hg).trans (h.block k hk hg)⟩

/-- a reader lies in block g. -/
structure Rd (w : World) (g : Nat) (l : List UInt8) (e : Int) : Prop where
  s : w.cell? ⟨g, 0, none⟩ = some (.string (ofL l))
  sf : w.frozen? ⟨g, 0, none⟩ = false
  e : w.cell? ⟨g, 1, none⟩ = some (.int .i64 e)
  ef : w.frozen? ⟨g, 1, none⟩ = false
theorem Rd.lt {w : World} {g : Nat} {l : List UInt8} {e : Int} (h : Rd w g l e) : g < w.heap.size := World.block_lt_of_cell? w _ h.s
theorem Rd.later {w w' : World} {g : Nat} {l : List UInt8} {e : Int} (h : Rd w g l e) (hb : Below w.heap.size w w') : Rd w' g l e := by
  have hl := h.lt
  exact ⟨by rw [hb.cell (p := ⟨g, 0, none⟩) hl]; exact h.s, by rw [hb.frozen (p := ⟨g, 0, none⟩) hl]; exact h.sf, by rw [hb.cell (p := ⟨g, 1, none⟩) hl]; exact h.e, by rw [hb.frozen (p := ⟨g, 1, none⟩) hl]; exact h.ef⟩
theorem Rd.setE {w : World} {g : Nat} {l : List UInt8} {e : Int} (h : Rd w g l e) (c : Int) : Rd (w.setCell ⟨g, 1, none⟩ (.int .i64 c)) g l c := by
  refine ⟨?_, ?_, ?_, ?_⟩
  · rw [World.cell?_setCell_other _ _ _ _ (by simp)]; exact h.s
  · simp only [World.frozen?_setCell]; exact h.sf
  · exact World.cell?_setCell_same _ _ _ h.e
  · simp only [World.frozen?_setCell]; exact h.ef
theorem Rd.setS {w : World} {g : Nat} {l : List UInt8} {e : Int} (h : Rd w g l e) (m : List UInt8) : Rd (w.setCell ⟨g, 0, none⟩ (.string (ofL m))) g m e := by
  refine ⟨?_, ?_, ?_, ?_⟩
  · exact World.cell?_setCell_same _ _ _ h.s
  · simp only [World.frozen?_setCell]; exact h.sf
  · rw [World.cell?_setCell_other _ _ _ _ (by simp)]; exact h.e
  · simp only [World.frozen?_setCell]; exact h.ef

/-- what is left to be read, and what was wrong. -/
def rWrong (c : Int) (r : List UInt8 × Int) : List UInt8 × Int := if r.2 = 0 then (r.1, c) else r
def rTake (n : Nat) (r : List UInt8 × Int) : List UInt8 × (List UInt8 × Int) :=
  if r.2 ≠ 0 then ([], r) else if r.1.length < n then ([], (r.1, 1)) else (r.1.take n, (r.1.drop n, r.2))

theorem wrong_any (g : Nat) (c : Int) (l : List UInt8) (e : Int) (w : World) (h : Rd w g l e) :
    Calls Tryz.prog 89 #[.pointer (some ⟨g, 0, none⟩), .int .i64 c] w fun x w' => x = .returned (.tuple #[]) ∧ Rd w' g (rWrong c (l, e)).1 (rWrong c (l, e)).2 ∧ Mov g w w' := by
  have HR : Hid (Rd w g l e) := h
  have h1 := h.e
  have h2 := h.ef
  clear h
  by_cases he : e = 0
  · go_enter Tryz.func89, Tryz.ntmps89
    go_wp2
    go_end0
    refine ⟨rfl, ?_, (Mov.refl g w).set 1 _⟩
    have e2 : rWrong c (l, e) = (l, c) := by simp [rWrong, he]
    rw [e2]; exact HR.out.setE c
  · go_enter Tryz.func89, Tryz.ntmps89
    go_wp2
    go_end0
    refine ⟨rfl, ?_, Mov.refl g w⟩
    have e2 : rWrong c (l, e) = (l, e) := by simp [rWrong, he]
    rw [e2]; exact HR.out

theorem take_any (g n : Nat) (l : List UInt8) (e : Int) (w : World) (h : Rd w g l e) :
    Calls Tryz.prog 87 #[.pointer (some ⟨g, 0, none⟩), .int .i64 (n : Int)] w fun x w' => x = .returned (.string (ofL (rTake n (l, e)).1)) ∧ Rd w' g (rTake n (l, e)).2.1 (rTake n (l, e)).2.2 ∧ Mov g w w' := by
  have HR : Hid (Rd w g l e) := h
  have h1 := h.e
  have h2 := h.s
  have h3 := h.sf
  have hsz := ofL_size l
  clear h
  by_cases he : e = 0
  · subst he
    by_cases hlt : l.length < n
    · have hw := wrong_any g 1 l 0 w HR.out
      have e2 : rWrong 1 (l, 0) = (l, 1) := by simp [rWrong]
      have e3 : rTake n (l, 0) = ([], (l, 1)) := by simp [rTake, hlt]
      rw [e2] at hw
      rw [e3]
      have hgt : (l.length : Int) < (n : Int) := by omega
      go_enter Tryz.func87, Tryz.ntmps87
      go_wp2_with (go_at_call 89; go_must (refine hw.mono ?_); rintro x w1 ⟨rfl, hr1, hm1⟩)
      go_ret
      exact ⟨rfl, hr1, hm1⟩
    · have e3 : rTake n (l, 0) = (l.take n, (l.drop n, 0)) := by simp [rTake, hlt]
      rw [e3]
      have x1 : (ofL l).extract 0 n = ofL (l.take n) := by rw [ofL_extract]; simp
      have x2 : (ofL l).extract n l.length = ofL (l.drop n) := by rw [ofL_extract, List.take_of_length_le (by simp)]
      have hle : (n : Int) ≤ (l.length : Int) := by omega
      have hng : ¬ ((l.length : Int) < (n : Int)) := by omega
      go_enter Tryz.func87, Tryz.ntmps87
      go_wp2
      go_ret
      exact ⟨rfl, HR.out.setS _, (Mov.refl g w).set 0 _⟩
  · have e3 : rTake n (l, e) = ([], (l, e)) := by simp [rTake, he]
    rw [e3]
    go_enter Tryz.func87, Tryz.ntmps87
    go_wp2
    go_ret
    exact ⟨rfl, HR.out, Mov.refl g w⟩
end Go.Proofs.YtkmalggeieiepaaGreatDoor
namespace Go.Proofs.YtkmalggeieiepaaGreatDoor
open Go.RowKit

/-- a number in so many bytes, the lowest first. -/
def le (n : Nat) : Nat → List UInt8
  | 0 => []
  | k + 1 => UInt8.ofNat n :: le (n / 256) k
theorem le_length (n k : Nat) : (le n k).length = k := by
  induction k generalizing n with
  | zero => rfl
  | succ k ih => simp [le, ih]
/-- a size as bytes. -/
def sizeL (n : Nat) : List UInt8 :=
  if n < 253 then le n 1 else if n < 65536 then 253 :: le n 2 else if n < 4294967296 then 254 :: le n 4 else 255 :: le n 8
theorem str1L (W : World) (x : Int) (h0 : 0 ≤ x) (h1 : x < 256) : (convert 120 9 (.slice (some ⟨W.heap.size, 0, none⟩) 1 1)).run Tryz.prog (W.alloc (.cells #[.int .u8 x] 5)) = .ok (.string (ofL [UInt8.ofNat x.toNat])) (W.alloc (.cells #[.int .u8 x] 5)) := by
  have e : ((UInt8.ofNat x.toNat).toNat : Int) = x := by simp; omega
  have := run_convert_bytes_back (P := Tryz.prog) (W.alloc (.cells #[.int .u8 x] 5)) 120 9 5 ⟨W.heap.size, 0, none⟩ 1 [UInt8.ofNat x.toNat] Tryz.underlying120 Tryz.underlying5 Tryz.underlying9
  refine this (fun j hj => ?_)
  obtain rfl : j = 0 := by simpa using hj
  simp only [List.getElem_cons_zero, e]
  simp [Addr.add, go_sem]

/-- a number that a uint64 holds. -/
def U64 (q : Nat) : Prop := q < 18446744073709551616
set_option maxRecDepth 10000 in
set_option maxHeartbeats 1000000 in
theorem bytes_any (n m : Nat) (w : World) (hn : U64 n) (hm : m ≤ 8) :
    Calls Tryz.prog 92 #[.int .u64 (n : Int), .int .i64 (m : Int)] w fun x w' => x = .returned (.string (ofL (le n m))) ∧ Below w.heap.size w w' := by
  go_enter Tryz.func92, Tryz.ntmps92
  go_upto_region 2 with fail
  go_loopg [0, 1, 5] m (fun g nv mv sv wx => ∃ q : Nat, ∃ acc : List UInt8, nv = .int .u64 (q : Int) ∧ mv = .int .i64 (g : Int) ∧ sv = .string (ofL acc) ∧ g ≤ 8 ∧ acc.length + g ≤ 8 ∧ U64 q ∧ acc ++ le q g = le n m ∧ Below w.heap.size w wx)
  case atStart => exact ⟨n, [], rfl, rfl, rfl, hm, by simpa using hm, hn, rfl, Below.refl _ _⟩
  case round =>
    obtain ⟨q, acc, rfl, rfl, rfl, hg, hal, hq, hacc, hb⟩ := hrel
    clear hn
    have HB : Hid (Below w.heap.size w wr) := hb
    have HA : Hid (acc ++ le q gk = le n m) := hacc
    have hsz := ofL_size acc
    clear hb hacc
    by_cases h0 : gk = 0
    · subst h0
      go_wp2
      go_ret
      refine ⟨?_, HB.out⟩
      rw [← HA.out]; simp [le]
    · obtain ⟨k, rfl⟩ : ∃ k, gk = k + 1 := ⟨gk - 1, by omega⟩
      have hk : (0 : Int) < ((k + 1 : Nat) : Int) := by omega
      obtain ⟨Q, hQ⟩ : ∃ Q : Int, Q = (q : Int) := ⟨_, rfl⟩
      have HQ : Hid (Q = (q : Int)) := hQ
      have HQB : Hid (U64 q) := hq
      unfold U64 at hq
      have q0 : 0 ≤ Q := by omega
      have q1 : Q ≤ 18446744073709551615 := by omega
      have hstr := str1L wr (Q % 256) (by omega) (by omega)
      have h1z : (ofL [UInt8.ofNat (Q % 256).toNat]).size = 1 := rfl
      rw [← hQ]
      clear hQ hq
      go_wp2
      go_roundg k
      case measure => omega
      case rel =>
        have hQ := HQ.out
        have hqb := HQB.out
        unfold U64 at hqb
        refine ⟨q / 256, acc ++ [UInt8.ofNat q], by rw [hQ]; rfl, by go_num, ?_, by omega, by simp; omega, by unfold U64; omega, ?_, HB.out.alloc HB.out.size _⟩
        · rw [← ofL_append]
          have e : UInt8.ofNat (Q % 256).toNat = UInt8.ofNat q := by
            rw [hQ, show ((q : Int) % 256).toNat = q % 256 by omega, ← UInt8.toNat_inj]; simp
          rw [e]
        · rw [← HA.out, List.append_assoc]; rfl

set_option maxHeartbeats 1000000 in
theorem Size_any (n : Nat) (w : World) (hn : U64 n) :
    Calls Tryz.prog 54 #[.int .u64 (n : Int)] w fun x w' => x = .returned (.string (ofL (sizeL n))) ∧ Below w.heap.size w w' := by
  by_cases h1 : n < 253
  · have hc := bytes_any n 1 w hn (by omega)
    have e : sizeL n = le n 1 := by simp [sizeL, h1]
    rw [e]
    have i1 : (n : Int) < 253 := by omega
    go_enter Tryz.func54, Tryz.ntmps54
    go_wp2_with (go_at_call 92; go_must (refine hc.mono ?_); rintro x w1 ⟨rfl, hb⟩)
    go_ret
    exact ⟨rfl, hb⟩
  · have i1 : ¬ ((n : Int) < 253) := by omega
    by_cases h2 : n < 65536
    · have hc := bytes_any n 2 w hn (by omega)
      have e : sizeL n = 253 :: le n 2 := by simp [sizeL, h1, h2]
      have hl := ofL_size (le n 2)
      have hl2 := le_length n 2
      rw [hl2] at hl
      have ha := ofL_append [253] (le n 2)
      rw [e]
      have i2 : (n : Int) < 65536 := by omega
      go_enter Tryz.func54, Tryz.ntmps54
      go_wp2_with (go_at_call 92; go_must (refine hc.mono ?_); rintro x w1 ⟨rfl, hb⟩)
      go_ret
      exact ⟨by show _ = Ending.returned (Value.string (ofL ([253] ++ le n 2))); rw [← ha]; rfl, hb⟩
    · have i2 : ¬ ((n : Int) < 65536) := by omega
      by_cases h3 : n < 4294967296
      · have hc := bytes_any n 4 w hn (by omega)
        have e : sizeL n = 254 :: le n 4 := by simp [sizeL, h1, h2, h3]
        have hl := ofL_size (le n 4)
        have hl2 := le_length n 4
        rw [hl2] at hl
        have ha := ofL_append [254] (le n 4)
        rw [e]
        have i3 : (n : Int) < 4294967296 := by omega
        go_enter Tryz.func54, Tryz.ntmps54
        go_wp2_with (go_at_call 92; go_must (refine hc.mono ?_); rintro x w1 ⟨rfl, hb⟩)
        go_ret
        exact ⟨by show _ = Ending.returned (Value.string (ofL ([254] ++ le n 4))); rw [← ha]; rfl, hb⟩
      · have i3 : ¬ ((n : Int) < 4294967296) := by omega
        have hc := bytes_any n 8 w hn (by omega)
        have e : sizeL n = 255 :: le n 8 := by simp [sizeL, h1, h2, h3]
        have hl := ofL_size (le n 8)
        have hl2 := le_length n 8
        rw [hl2] at hl
        have ha := ofL_append [255] (le n 8)
        rw [e]
        go_enter Tryz.func54, Tryz.ntmps54
        go_wp2_with (go_at_call 92; go_must (refine hc.mono ?_); rintro x w1 ⟨rfl, hb⟩)
        go_ret
        exact ⟨by show _ = Ending.returned (Value.string (ofL ([255] ++ le n 8))); rw [← ha]; rfl, hb⟩
end Go.Proofs.YtkmalggeieiepaaGreatDoor
namespace Go.Proofs.YtkmalggeieiepaaGreatDoor
open Go.RowKit

def strV (l : List ByteArray) : List Value := l.map Value.string
/-- two that stand side by side are the same. -/
def twinL : List ByteArray → Bool
  | a :: b :: r => (a.toList == b.toList) || twinL r
  | _ => false
/-- the last one once more, where they are odd. -/
def evL (l : List ByteArray) : List ByteArray := if l.length % 2 = 1 then l ++ [l.getD (l.length - 1) ByteArray.empty] else l
/-- the next height. -/
def upL (dd : ByteArray → ByteArray) : List ByteArray → List ByteArray
  | a :: b :: r => dd (a ++ b) :: upL dd r
  | _ => []
def rootL (dd : ByteArray → ByteArray) : Nat → List ByteArray → Bool → ByteArray × Bool
  | 0, l, t => (l.getD 0 ByteArray.empty, t)
  | n + 1, l, t => if 1 < l.length then rootL dd n (upL dd (evL l)) (t || twinL l) else (l.getD 0 ByteArray.empty, t)
theorem upL_length (dd : ByteArray → ByteArray) : ∀ l : List ByteArray, (upL dd l).length = l.length / 2
  | [] => rfl
  | [_] => by simp [upL]
  | a :: b :: r => by simp only [upL, List.length_cons, upL_length dd r]; omega
theorem evL_length (l : List ByteArray) : (evL l).length = l.length + l.length % 2 := by
  unfold evL
  split
  · rename_i h; simp [h]
  · omega
theorem up_lt (dd : ByteArray → ByteArray) (l : List ByteArray) (h : 1 < l.length) : (upL dd (evL l)).length < l.length ∧ 0 < (upL dd (evL l)).length := by
  rw [upL_length, evL_length]; omega
theorem rootL_fuel (dd : ByteArray → ByteArray) : ∀ (n m : Nat) (l : List ByteArray) (t : Bool), l.length ≤ n + 1 → l.length ≤ m + 1 → rootL dd n l t = rootL dd m l t := by
  intro n
  induction n with
  | zero =>
    intro m l t h1 _
    cases m with
    | zero => rfl
    | succ m => show _ = if 1 < l.length then _ else _; rw [if_neg (by omega)]; rfl
  | succ n ih =>
    intro m l t h1 h2
    show (if 1 < l.length then _ else _) = _
    by_cases h : 1 < l.length
    · rw [if_pos h]
      cases m with
      | zero => omega
      | succ m =>
        show _ = if 1 < l.length then _ else _
        rw [if_pos h]
        have := (up_lt dd l h).1
        exact ih m _ _ (by omega) (by omega)
    · rw [if_neg h]
      cases m with
      | zero => rfl
      | succ m => show _ = if 1 < l.length then _ else _; rw [if_neg h]
/-- the root, and whether there are twins. -/
def rootF (dd : ByteArray → ByteArray) (l : List ByteArray) (t : Bool) : ByteArray × Bool := rootL dd l.length l t
theorem rootF_one (dd : ByteArray → ByteArray) (l : List ByteArray) (t : Bool) (h : l.length = 1) : rootF dd l t = (l.getD 0 ByteArray.empty, t) := by
  unfold rootF; rw [h]; show (if 1 < l.length then _ else _) = _; rw [if_neg (by omega)]
theorem rootF_up (dd : ByteArray → ByteArray) (l : List ByteArray) (t : Bool) (h : 1 < l.length) : rootF dd l t = rootF dd (upL dd (evL l)) (t || twinL l) := by
  unfold rootF
  obtain ⟨n, hn⟩ : ∃ n, l.length = n + 1 := ⟨l.length - 1, by omega⟩
  rw [hn]
  show (if 1 < l.length then _ else _) = _
  rw [if_pos h]
  have := (up_lt dd l h).1
  exact rootL_fuel dd _ _ _ _ (by omega) (by omega)
theorem twinL_drop (l : List ByteArray) (i : Nat) (h : i + 1 < l.length) : twinL (l.drop i) = ((l[i].toList == l[i + 1].toList) || twinL (l.drop (i + 2))) := by
  rw [List.drop_eq_getElem_cons (by omega), List.drop_eq_getElem_cons (i := i + 1) (by omega)]; rfl
theorem twinL_end (l : List ByteArray) (i : Nat) (h : l.length ≤ i + 1) : twinL (l.drop i) = false := by
  have hl : (l.drop i).length ≤ 1 := by rw [List.length_drop]; omega
  match l.drop i, hl with
  | [], _ => rfl
  | [_], _ => rfl
theorem upL_drop (dd : ByteArray → ByteArray) (l : List ByteArray) (i : Nat) (h : i + 1 < l.length) : upL dd (l.drop i) = dd (l[i] ++ l[i + 1]) :: upL dd (l.drop (i + 2)) := by
  rw [List.drop_eq_getElem_cons (by omega), List.drop_eq_getElem_cons (i := i + 1) (by omega)]; rfl
/-- texts lie in a row. -/
def SRow (w : World) (b o : Nat) (l : List ByteArray) : Prop := ∀ j (h : j < l.length), w.cell? ⟨b, o + j, none⟩ = some (.string l[j])
theorem SRow.later {w w' : World} {b o : Nat} {l : List ByteArray} {B : Nat} (h : SRow w b o l) (hb : Below B w w') (hB : b < B) : SRow w' b o l := fun j hj => by
  rw [hb.cell (p := ⟨b, o + j, none⟩) hB]; exact h j hj
theorem SRow.lt {w : World} {b o : Nat} {l : List ByteArray} (h : SRow w b o l) (hn : 0 < l.length) : b < w.heap.size := World.block_lt_of_cell? w _ (h 0 hn)
theorem infoStr : (Tryz.prog.info? 9).map (fun i => (i.zero, i.size, i.bytes)) = some (some (.string ByteArray.empty), 1, 16) := by kernel_rfl
theorem str_one (l : List ByteArray) : ∀ u ∈ strV l, u.oneCell' = true := by
  intro u hu; obtain ⟨s, _, rfl⟩ := List.mem_map.1 hu; rfl
theorem own_srow {w : World} {base e g cap n : Nat} {l : List ByteArray} (hn : l.length = n) (h : w.ownsRow base e 1 (.slice (some ⟨g, 0, none⟩) n cap) n (strV l)) : SRow w g 0 l := by
  obtain ⟨_, h2⟩ := h
  rcases h2 with ⟨hv, _⟩ | ⟨g', cap', cur, hv, _, hg, _, _, _, ht⟩
  · cases hv
  · injection hv with e1 e2 e3
    injection e1 with e4
    injection e4 with e5
    subst e5
    intro j hj
    rw [Nat.zero_add, cell_of_row w g j cur _ _ hg]
    have h3 : (cur.toList.take (n * 1))[j]? = (strV l)[j]? := by rw [ht]
    rw [List.getElem?_take, if_pos (by omega)] at h3
    rw [← Array.getElem?_toList, h3]
    simp [strV, hj]
theorem srow_news {w : World} {b o : Nat} {l : List ByteArray} (h : SRow w b o l) : ∀ j u, (strV l)[j]? = some u → w.cell? ((⟨b, o, none⟩ : Addr).add j) = some u := by
  intro j u hu
  have hj : j < l.length := by have := (List.getElem?_eq_some_iff.1 hu).1; simpa [strV] using this
  rw [Addr.add_mid, h j hj]
  simpa [strV, hj] using hu
end Go.Proofs.YtkmalggeieiepaaGreatDoor
namespace Go.Proofs.YtkmalggeieiepaaGreatDoor
open Go.RowKit

/-- a slice of these texts. -/
def SVal (w : World) (v : Value) (l : List ByteArray) : Prop := ∃ (a : Option Addr) (cap : Nat), v = .slice a l.length cap ∧ l.length ≤ cap ∧ (0 < l.length → ∃ b o, a = some ⟨b, o, none⟩ ∧ SRow w b o l)
theorem SVal.later {w w' : World} {v : Value} {l : List ByteArray} (h : SVal w v l) (hb : Below w.heap.size w w') : SVal w' v l := by
  obtain ⟨a, cap, hv, hc, hr⟩ := h
  refine ⟨a, cap, hv, hc, fun h0 => ?_⟩
  obtain ⟨b, o, ha, hs⟩ := hr h0
  exact ⟨b, o, ha, hs.later hb (hs.lt h0)⟩
theorem own_sval {w : World} {base e : Nat} {v : Value} {l : List ByteArray} (h : w.ownsRow base e 1 v l.length (strV l)) : SVal w v l := by
  have h' := h
  rcases h.2 with ⟨hv, h0⟩ | ⟨g, cap, cur, hv, _, _, hle, _⟩
  · exact ⟨none, 0, by rw [hv, h0], by omega, fun h1 => by omega⟩
  · subst hv
    exact ⟨_, cap, rfl, hle, fun _ => ⟨g, 0, rfl, own_srow rfl h'⟩⟩

end Go.Proofs.YtkmalggeieiepaaGreatDoor
namespace Go.Proofs.YtkmalggeieiepaaGreatDoor
open Go.RowKit

/-- a frame under one name. -/
theorem q_frame {C : Code} {P : Program} {Q : Exit → Act → World → Prop} {a : Act} {w : World} (h : ∀ A, Hid (A = a) → C.wp P Q A w) : C.wp P Q a w := h a rfl
theorem q_same (a : Act) (d : Nat) (v : Value) (h : d < a.tmps.size) : (a.put (some d) v).eval (.tmp d) = v := by simp [Act.put, Act.eval, h]
theorem q_ne (a : Act) (d e : Nat) (v : Value) (h : d ≠ e) : (a.put (some d) v).eval (.tmp e) = a.eval (.tmp e) := by simp [Act.put, Act.eval, h]
theorem q_sz (a : Act) (d : Nat) (v : Value) : (a.put (some d) v).tmps.size = a.tmps.size := by simp [Act.put]
theorem q_run1 {P : Program} {o : Oper} {a : Act} {W W' : World} {r : Next} (s : Nat) (us : Value) (hs : a.eval (.tmp s) = us)
    (h : ∀ ρ : Operand → Value, (∀ c, ρ (.const c) = c) → (∀ n, ρ (.func n) = .func (.func n) #[] #[]) → ρ (.tmp s) = us → (execOp ρ o).run P W = .ok r W') : (execOp a.eval o).run P W = .ok r W' := h a.eval (fun _ => rfl) (fun _ => rfl) hs
theorem q_run2 {P : Program} {o : Oper} {a : Act} {W W' : World} {r : Next} (s t : Nat) (us ut : Value) (hs : a.eval (.tmp s) = us) (ht : a.eval (.tmp t) = ut)
    (h : ∀ ρ : Operand → Value, (∀ c, ρ (.const c) = c) → (∀ n, ρ (.func n) = .func (.func n) #[] #[]) → ρ (.tmp s) = us → ρ (.tmp t) = ut → (execOp ρ o).run P W = .ok r W') : (execOp a.eval o).run P W = .ok r W' := h a.eval (fun _ => rfl) (fun _ => rfl) hs ht
/-- the one operation that may come up yields a value. -/
theorem q_one {P : Program} {md : Region.Mode} {ops : Array Oper} {Q : Exit → Act → World → Prop} {fuel : Nat} {listed : Array Bool} {a : Act} {w : World} (i : Nat) {o : Oper} (v : Value) (w' : World) (hr : Region.ready md ops listed = [i]) (hi : ops[i]? = some o) (hg : o.guard = none)
    (h : (execOp a.eval o).run P w = .ok (.value v) w') (hk : wpAny P md ops Q fuel (listed.setIfInBounds i true) (a.put o.dst v) w') : wpAny P md ops Q (fuel + 1) listed a w := by
  refine wpAny_ready hr (by simp) (AllReady.cons hi (fun K hK => ?_) AllReady.nil)
  have hw : Region.wanted o (yielded ops a.tmps) = true := by simp [Region.wanted, hg]
  rw [if_pos hw]
  unfold Oper.wp; rw [h]; exact hK _ _ hk
/-- the one operation that may come up is a call. -/
theorem q_call {P : Program} {md : Region.Mode} {ops : Array Oper} {Q : Exit → Act → World → Prop} {fuel : Nat} {listed : Array Bool} {a : Act} {w : World} (i : Nat) {o : Oper} (f : FuncId) (args : Array Value) (R : Ending → World → Prop) (hr : Region.ready md ops listed = [i]) (hi : ops[i]? = some o) (hg : o.guard = none)
    (h : (execOp a.eval o).run P w = .ok (.enter f args) w) (hc : Calls P f args w R)
    (hk : ∀ v w', R (.returned v) w' → wpAny P md ops Q fuel (listed.setIfInBounds i true) (a.put o.dst v) w') (hp : ∀ ch w', R (.panicked ch) w' → Q (.panic ch) a w') (ho : ∀ w', R .outgrown w' → False) : wpAny P md ops Q (fuel + 1) listed a w := by
  refine wpAny_ready hr (by simp) (AllReady.cons hi (fun K hK => ?_) AllReady.nil)
  have hw : Region.wanted o (yielded ops a.tmps) = true := by simp [Region.wanted, hg]
  rw [if_pos hw]
  unfold Oper.wp; rw [h]
  show Calls _ _ _ _ _
  refine hc.mono fun x w' hx => ?_
  cases x with
  | returned v => exact hK _ _ (hk v w' hx)
  | panicked ch => exact hp ch w' hx
  | outgrown => exact (ho w' hx).elim
theorem q_def (a : Act) (d : Option Nat) (v : Value) : (a.put d v).defers = a.defers := by cases d <;> rfl
theorem q_panic {P : Program} {fn : Func} {R : Ending → World → Prop} {ch : List PanicEntry} {a : Act} {w : World} (hd : a.defers = []) (h : R (.panicked ch) w) : bodyPost P fn R (.panic ch) a w := ⟨hd, h⟩
theorem q_done0 {P : Program} {fn : Func} {R : Ending → World → Prop} {a : Act} {w : World} (hr : fn.results = #[]) (hd : a.defers = []) (h : R (.returned (.tuple #[])) w) : bodyPost P fn R .normal a w := ⟨hd, .tuple #[], results_none hr _ _ _, h⟩
end Go.Proofs.YtkmalggeieiepaaGreatDoor
namespace Go.Proofs.YtkmalggeieiepaaGreatDoor
open Go.RowKit

/-- which of n. -/
def pkL (c : Int) (n : Nat) : Nat := ((if c < 0 then -(c + 1) else c) % (n : Int)).toNat
theorem pkL_lt (c : Int) (n : Nat) (h : 0 < n) : pkL c n < n := by
  unfold pkL
  have := Int.emod_lt_of_pos (if c < 0 then -(c + 1) else c) (show (0 : Int) < (n : Int) by omega)
  have := Int.emod_nonneg (if c < 0 then -(c + 1) else c) (show (n : Int) ≠ 0 by omega)
  omega

set_option maxRecDepth 10000 in
theorem pickL_any (c : Int) (n : Nat) (w : World) (h1 : -9223372036854775808 ≤ c) (h2 : c ≤ 9223372036854775807) (hn : 0 < n) (hn2 : n ≤ 1048576) :
    Calls Tryz.prog 17 #[.int .i64 c, .int .i64 (n : Int)] w fun e w' => e = .returned (.int .i64 (pkL c n : Int)) ∧ w = w' := by
  have hni : ¬ ((n : Int) = 0) := by omega
  have hnb : ((n : Int) == 0) = false := by rw [beq_eq_false_iff_ne]; exact hni
  have hp := pkL_lt c n hn
  by_cases h : c < 0
  · have hw1 : wrap64 (c + 1) = c + 1 := by unfold wrap64; omega
    have hw2 : wrap64 (-(c + 1)) = -(c + 1) := by unfold wrap64; omega
    have e1 : (-(c + 1)).tmod (n : Int) = (pkL c n : Int) := by
      unfold pkL; rw [if_pos h, Int.tmod_eq_emod_of_nonneg (by omega), Int.toNat_of_nonneg (Int.emod_nonneg _ hni)]
    have e2 : wrap64 (pkL c n : Int) = (pkL c n : Int) := by unfold wrap64; omega
    have e3 : -(c + 1).tmod (n : Int) = (pkL c n : Int) := by rw [← Int.neg_tmod]; exact e1
    go_enter Tryz.func17, Tryz.ntmps17
    go_wp2
    go_ret
    exact ⟨rfl, rfl⟩
  · have e1 : c.tmod (n : Int) = (pkL c n : Int) := by
      unfold pkL; rw [if_neg h, Int.tmod_eq_emod_of_nonneg (by omega), Int.toNat_of_nonneg (Int.emod_nonneg _ hni)]
    have e2 : wrap64 (pkL c n : Int) = (pkL c n : Int) := by unfold wrap64; omega
    go_enter Tryz.func17, Tryz.ntmps17
    go_wp2
    go_ret
    exact ⟨rfl, rfl⟩

/-- the mark of the k-th list. -/
def mkB (k : Nat) : ByteArray := ⟨#[109, 105, 110, 101]⟩ ++ ofL [UInt8.ofNat (k % 256), UInt8.ofNat (k / 256 % 256), UInt8.ofNat (k / 65536 % 256)]
theorem three_str (W : World) (x y z : Nat) (hx : x < 256) (hy : y < 256) (hz : z < 256) :
    (convert 120 9 (.slice (some ⟨W.heap.size, 0, none⟩) 3 3)).run Tryz.prog (W.alloc (.cells #[.int .u8 (x : Int), .int .u8 (y : Int), .int .u8 (z : Int)] 5)) = .ok (.string (ofL [UInt8.ofNat x, UInt8.ofNat y, UInt8.ofNat z])) (W.alloc (.cells #[.int .u8 (x : Int), .int .u8 (y : Int), .int .u8 (z : Int)] 5)) := by
  refine run_convert_bytes_back (P := Tryz.prog) _ 120 9 5 ⟨W.heap.size, 0, none⟩ 3 [UInt8.ofNat x, UInt8.ofNat y, UInt8.ofNat z] Tryz.underlying120 Tryz.underlying5 Tryz.underlying9 (fun j hj => ?_)
  rw [Addr.add_mid, cell_of_row _ W.heap.size _ _ _ _ (heap_alloc_new W _)]
  have hj3 : j < 3 := by simpa using hj
  match j, hj3 with
  | 0, _ => simp; omega
  | 1, _ => simp; omega
  | 2, _ => simp; omega

set_option maxRecDepth 10000 in
theorem mark_any (k : Nat) (w : World) (hk : k ≤ 1048576) :
    Calls Tryz.prog 30 #[.int .i64 (k : Int)] w fun e w' => e = .returned (.string (mkB k)) ∧ Below w.heap.size w w' := by
  have hcv := three_str w (k % 256) (k / 256 % 256) (k / 65536 % 256) (by omega) (by omega) (by omega)
  have HE : Hid (mkB k = (⟨#[109, 105, 110, 101]⟩ : ByteArray) ++ ofL [UInt8.ofNat (k % 256), UInt8.ofNat (k / 256 % 256), UInt8.ofNat (k / 65536 % 256)]) := rfl
  have hss : (ofL [UInt8.ofNat (k % 256), UInt8.ofNat (k / 256 % 256), UInt8.ofNat (k / 65536 % 256)]).size = 3 := by rw [ofL_size]; rfl
  generalize ofL [UInt8.ofNat (k % 256), UInt8.ofNat (k / 256 % 256), UInt8.ofNat (k / 65536 % 256)] = S at hcv HE hss
  have q1 : (k : Int).tdiv 256 = ((k / 256 : Nat) : Int) := by rw [Int.tdiv_eq_ediv_of_nonneg (by omega)]; omega
  have q2 : (k : Int).tdiv 65536 = ((k / 65536 : Nat) : Int) := by rw [Int.tdiv_eq_ediv_of_nonneg (by omega)]; omega
  have w1 : wrap64 ((k / 256 : Nat) : Int) = ((k / 256 : Nat) : Int) := by unfold wrap64; omega
  have w2 : wrap64 ((k / 65536 : Nat) : Int) = ((k / 65536 : Nat) : Int) := by unfold wrap64; omega
  have m0 : IntKind.u8.wrap (k : Int) = ((k % 256 : Nat) : Int) := by simp [IntKind.wrap, IntKind.bits, IntKind.signed]
  have m1 : IntKind.u8.wrap ((k / 256 : Nat) : Int) = ((k / 256 % 256 : Nat) : Int) := by simp [IntKind.wrap, IntKind.bits, IntKind.signed]
  have m2 : IntKind.u8.wrap ((k / 65536 : Nat) : Int) = ((k / 65536 % 256 : Nat) : Int) := by simp [IntKind.wrap, IntKind.bits, IntKind.signed]
  generalize ((k % 256 : Nat) : Int) = X0 at hcv m0
  generalize ((k / 256 % 256 : Nat) : Int) = X1 at hcv m1
  generalize ((k / 65536 % 256 : Nat) : Int) = X2 at hcv m2
  generalize ((k / 256 : Nat) : Int) = Y1 at q1 w1 m1
  generalize ((k / 65536 : Nat) : Int) = Y2 at q2 w2 m2
  generalize (k : Int) = K at q1 q2 m0 ⊢
  go_enter Tryz.func30, Tryz.ntmps30
  go_wp2
  go_ret
  exact ⟨by rw [HE.out]; rfl, (Below.refl _ _).alloc (Nat.le_refl _) _⟩

set_option maxRecDepth 10000 in
set_option maxHeartbeats 1000000 in
theorem same_any (l : List ByteArray) (b o c b2 o2 c2 : Nat) (a1 a2 : Option Addr) (w : World) (h1 : 0 < l.length → a1 = some ⟨b, o, none⟩ ∧ SRow w b o l) (h2 : 0 < l.length → a2 = some ⟨b2, o2, none⟩ ∧ SRow w b2 o2 l) (hl : l.length ≤ 1048576) :
    Calls Tryz.prog 23 #[.slice a1 l.length c, .slice a2 l.length c2] w fun e w' => e = .returned (.bool true) ∧ ∃ q, w' = w.drewN q := by
  have H1 : Hid (0 < l.length → a1 = some ⟨b, o, none⟩ ∧ SRow w b o l) := h1
  have H2 : Hid (0 < l.length → a2 = some ⟨b2, o2, none⟩ ∧ SRow w b2 o2 l) := h2
  clear h1 h2
  go_enter Tryz.func23, Tryz.ntmps23
  go_upto_region 4 with fail
  go_loopg [13, 5] l.length (fun g i _ wx => ∃ j : Nat, j + g = l.length ∧ i = .int .i64 (j : Int) ∧ ∃ q, wx = w.drewN q)
  case atStart => exact ⟨0, by omega, rfl, 0, rfl⟩
  case round =>
    obtain ⟨j, hjg, rfl, q, hq⟩ := hrel
    have HQ : Hid (wr = w.drewN q) := hq
    by_cases hlt : j < l.length
    · obtain ⟨rfl, r1⟩ := H1.out (by omega)
      obtain ⟨rfl, r2⟩ := H2.out (by omega)
      have d1 : wr.cell? ⟨b, o + j, none⟩ = some (.string l[j]) := by rw [hq]; exact r1 j hlt
      have d2 : wr.cell? ⟨b2, o2 + j, none⟩ = some (.string l[j]) := by rw [hq]; exact r2 j hlt
      have hji : (j : Int) < (l.length : Int) := by omega
      have HJ : Hid (j + gk = l.length) := hjg
      clear hq hjg r1 r2
      have hbb : (l[j].toList == l[j].toList) = true := by simp
      generalize l[j] = t at d1 d2 hbb
      go_upto_region 6 with fail
      go_quiet (fail)
      go_wp2
      go_roundg (gk - 1)
      case measure => have := HJ.out; omega
      case rel =>
        have := HJ.out
        exact ⟨j + 1, by omega, by go_num, q + nq, by rw [HQ.out, World.drewN_drewN]⟩
    · have hji : ¬ ((j : Int) < (l.length : Int)) := by omega
      clear hq hjg
      go_wp2
      go_ret
      exact ⟨rfl, q, HQ.out⟩
end Go.Proofs.YtkmalggeieiepaaGreatDoor
namespace Go.Proofs.YtkmalggeieiepaaGreatDoor
open Go.RowKit

/-- the double digest's bytes. -/
def dbl (Kc : Nat → Int) (l : List UInt8) : Nat → Int := shaF Kc (strOf (shaF Kc l) 32).data.toList
theorem strOf_size (f : Nat → Int) (n : Nat) : (strOf f n).size = n := by simp [strOf, lsOf, ByteArray.size]
theorem shaF_lt (Kc : Nat → Int) (l : List UInt8) (j : Nat) : 0 ≤ shaF Kc l j ∧ shaF Kc l j < 256 := dgF_lt _ j
theorem sum_one (Kc : Nat → Int) (s : ByteArray) (w : World) (hkt : KT Kc w) (hpos : 0 < w.heap.size) (hs : s.size ≤ 1099511627776) :
    Calls Tryz.prog 64 #[.slice (some ⟨w.heap.size, 0, none⟩) 1 1] (w.alloc (.cells #[.string s] 9)) fun e w' => e = .returned (.agg (wl .u8 (shaF Kc s.data.toList) 32).toArray) ∧ Below w.heap.size w w' := by
  have hT : Texts (w.alloc (.cells #[.string s] 9)) w.heap.size [s] := by
    intro j hj
    obtain rfl : j = 0 := by simp at hj; exact hj
    simp [go_sem]
  have hc : cat [s] = s.data.toList := by simp [cat]
  have hl : s.data.toList.length = s.size := rfl
  have hcall := sum_any Kc [s] w.heap.size (w.alloc (.cells #[.string s] 9)) hT (by simp) (hkt.later ((Below.refl _ _).alloc (Nat.le_refl _) _) hpos) (by rw [hc, hl]; exact hs) (by simp)
  rw [hc] at hcall
  refine hcall.mono fun e w' ⟨h1, h2⟩ => ⟨h1, ?_⟩
  exact ((Below.refl _ _).alloc (Nat.le_refl _) _).trans (h2.mono (by simp))

set_option maxRecDepth 10000 in
set_option maxHeartbeats 1000000 in
theorem double_any (Kc : Nat → Int) (ts : List ByteArray) (gT : Nat) (w : World) (hT : Texts w gT ts) (hlt : gT < w.heap.size) (hkt : KT Kc w) (hn : (cat ts).length ≤ 1099511627776) (hn2 : ts.length ≤ 1099511627776) :
    Calls Tryz.prog 35 #[.slice (some ⟨gT, 0, none⟩) ts.length ts.length] w fun e w' => e = .returned (.agg (wl .u8 (dbl Kc (cat ts)) 32).toArray) ∧ Below w.heap.size w w' := by
  have hpos : 0 < w.heap.size := World.block_lt_of_cell? w _ (hkt 0 (by omega))
  go_enter Tryz.func35, Tryz.ntmps35
  go_upto_region 1 with fail
  obtain ⟨W1, hW1⟩ : ∃ W, W = w.alloc (.cells (Array.replicate 32 (.int .u8 0)) 76) := ⟨_, rfl⟩
  have HA : Hid (Arr .u8 W1 w.heap.size (fun _ => 0) 32) := by show Arr _ _ _ _ _; rw [hW1]; exact Arr.new _ _ 32 _ _ (by rfl)
  have HB1 : Hid (Below w.heap.size w W1) := by show Below _ _ _; rw [hW1]; exact (Below.refl _ _).alloc (Nat.le_refl _) _
  have hz1 : W1.heap.size = w.heap.size + 1 := by rw [hW1]; simp
  have H1 : Hid (Calls Tryz.prog 64 #[.slice (some ⟨gT, 0, none⟩) ts.length ts.length] W1 fun e w' => e = .returned (.agg (wl .u8 (shaF Kc (cat ts)) 32).toArray) ∧ Below W1.heap.size W1 w') :=
    sum_any Kc ts gT W1 (fun j hj => by rw [HB1.out.cell (p := ⟨gT, j, none⟩) hlt]; exact hT j hj) (by omega) (hkt.later HB1.out hpos) hn hn2
  have HTX : Hid (∀ W, Calls Tryz.prog 41 #[.agg (wl .u8 (shaF Kc (cat ts)) 32).toArray] W fun e w' => e = .returned (.string (strOf (shaF Kc (cat ts)) 32)) ∧ Below W.heap.size W w') := fun W => text_any (shaF Kc (cat ts)) (shaF_lt Kc _) _ rfl W
  have H2 : Hid (∀ W, Below w.heap.size w W → Calls Tryz.prog 64 #[.slice (some ⟨W.heap.size, 0, none⟩) 1 1] (W.alloc (.cells #[.string (strOf (shaF Kc (cat ts)) 32)] 9)) fun e w' => e = .returned (.agg (wl .u8 (dbl Kc (cat ts)) 32).toArray) ∧ Below W.heap.size W w') :=
    fun W hW => sum_one Kc _ W (hkt.later hW hpos) (Nat.lt_of_lt_of_le hpos hW.size) (by rw [strOf_size]; omega)
  have HR : Hid (∀ W, Below W1.heap.size W1 W → Arr .u8 W w.heap.size (fun _ => 0) 32) := fun W hW => HA.out.later hW (by omega)
  have hW1' : w.alloc (.cells #[.int .u8 0, .int .u8 0, .int .u8 0, .int .u8 0, .int .u8 0, .int .u8 0, .int .u8 0, .int .u8 0, .int .u8 0, .int .u8 0, .int .u8 0, .int .u8 0, .int .u8 0, .int .u8 0, .int .u8 0, .int .u8 0, .int .u8 0, .int .u8 0, .int .u8 0, .int .u8 0, .int .u8 0, .int .u8 0, .int .u8 0, .int .u8 0, .int .u8 0, .int .u8 0, .int .u8 0, .int .u8 0, .int .u8 0, .int .u8 0, .int .u8 0, .int .u8 0] 76) = W1 := by rw [hW1]; rfl
  rw [hW1']
  have HZ1 : Hid (W1.heap.size = w.heap.size + 1) := hz1
  clear hW1 hW1' HA hkt hT hn hn2 hlt hpos hz1
  generalize (wl .u8 (shaF Kc (cat ts)) 32).toArray = S1 at H1 HTX
  generalize strOf (shaF Kc (cat ts)) 32 = t1 at HTX H2
  go_wp2_with (first
    | (go_at_call 64; refine H1.out.mono ?_; rintro e w2 ⟨rfl, hb2⟩; have HB2 := (show Hid (Below W1.heap.size W1 w2) from hb2); clear hb2 H1)
    | (go_at_call 41; go_must (refine (HTX.out _).mono ?_); rintro e w3 ⟨rfl, hb3⟩; have HB3 := (show Hid (Below W1.heap.size W1 w3) from HB2.out.trans (hb3.mono HB2.out.size)); clear hb3)
    | (go_at_call 64; go_must (refine (H2.out _ (HB1.out.trans (HB3.out.mono (by have := HZ1.out; omega)))).mono ?_); rintro e w4 ⟨rfl, hb4⟩; have HB4 := (show Hid (Below W1.heap.size W1 w4) from HB3.out.trans (hb4.mono HB3.out.size)); clear hb4)
    | (refine wpList_store_arr rfl 76 _ _ rfl w.heap.size .u8 (fun _ => 0) (dbl Kc (cat ts)) 32 rfl rfl ?_ (by kernel_rfl) ?_; exact HR.out _ HB4.out))
  refine bodyPost_ret (v := .agg (wl .u8 (dbl Kc (cat ts)) 32).toArray) (results_arr Tryz.results35 _ _ w.heap.size .u8 (dbl Kc (cat ts)) 32 _ rfl ((HR.out _ HB4.out).all _) Tryz.underlying76 rfl (by kernel_rfl)) rfl ⟨rfl, ?_⟩
  exact below_setCells (HB1.out.trans (HB4.out.mono (by have := HZ1.out; omega))) _ (Nat.le_refl _) _ _

/-- of one text. -/
theorem double_one (Kc : Nat → Int) (s : ByteArray) (w : World) (hkt : KT Kc w) (hs : s.size ≤ 1099511627776) :
    Calls Tryz.prog 35 #[.slice (some ⟨w.heap.size, 0, none⟩) 1 1] (w.alloc (.cells #[.string s] 9)) fun e w' => e = .returned (.agg (wl .u8 (dbl Kc s.data.toList) 32).toArray) ∧ Below w.heap.size w w' := by
  have hT : Texts (w.alloc (.cells #[.string s] 9)) w.heap.size [s] := by
    intro j hj
    obtain rfl : j = 0 := by simp at hj; exact hj
    simp [go_sem]
  have hc : cat [s] = s.data.toList := by simp [cat]
  have hl : s.data.toList.length = s.size := rfl
  have hpos : 0 < w.heap.size := World.block_lt_of_cell? w _ (hkt 0 (by omega))
  have hcall := double_any Kc [s] w.heap.size (w.alloc (.cells #[.string s] 9)) hT (by simp) (hkt.later ((Below.refl _ _).alloc (Nat.le_refl _) _) hpos) (by rw [hc, hl]; exact hs) (by simp)
  rw [hc] at hcall
  refine hcall.mono fun e w' ⟨h1, h2⟩ => ⟨h1, ?_⟩
  exact ((Below.refl _ _).alloc (Nat.le_refl _) _).trans (h2.mono (by simp))
end Go.Proofs.YtkmalggeieiepaaGreatDoor
namespace Go.Proofs.YtkmalggeieiepaaGreatDoor
open Go.RowKit

/-- a text's bytes in memory. -/
def bc (d : ByteArray) : List Value := d.data.toList.map fun x => Value.int .u8 (x.toNat : Int)
theorem bc_length (d : ByteArray) : (bc d).length = d.size := by simp [bc]
theorem bc_one (d : ByteArray) : ∀ u ∈ bc d, u.oneCell' = true := by
  intro u hu; simp [bc] at hu; obtain ⟨x, _, rfl⟩ := hu; rfl
def byF (d : ByteArray) : Nat → Int := fun j => ((d.data.toList.getD j 0).toNat : Int)
theorem byF_lt (d : ByteArray) (j : Nat) : 0 ≤ byF d j ∧ byF d j < 256 := by
  have := (d.data.toList.getD j 0).toNat_lt
  unfold byF; omega
theorem lsz (d : ByteArray) : d.data.toList.length = d.size := rfl
theorem bc_wl (d : ByteArray) (n : Nat) (h : d.size = n) : bc d = wl .u8 (byF d) n := by
  apply List.ext_getElem
  · rw [bc_length, wl_length, h]
  · intro j h1 h2
    rw [bc_length] at h1
    have hj : j < d.data.toList.length := h1
    simp [bc, wl, byF, h1]
theorem strOf_byF (d : ByteArray) (n : Nat) (h : d.size = n) : strOf (byF d) n = d := by
  apply ByteArray.ext
  apply Array.ext'
  show lsOf (byF d) n = d.data.toList
  apply List.ext_getElem
  · simp [lsOf]; exact h.symm
  · intro j h1 h2
    have h3 : j < d.data.size := h2
    simp only [lsOf, byF, List.getD, List.getElem_map, List.getElem_range, List.getElem?_eq_getElem h2, Option.getD_some]
    simp
theorem bc_strOf (f : Nat → Int) (n : Nat) (hf : ∀ j, 0 ≤ f j ∧ f j < 256) : bc (strOf f n) = wl .u8 f n := by
  have e : (strOf f n).data.toList = lsOf f n := rfl
  unfold bc
  rw [e]
  unfold lsOf wl
  rw [List.map_map]
  apply List.map_congr_left
  intro j _
  have := hf j
  simp; omega
/-- a digest as a value. -/
def aggD (d : ByteArray) : Value := .agg (bc d).toArray
/-- the double digest, as a text. -/
def dd (Kc : Nat → Int) (t : ByteArray) : ByteArray := strOf (dbl Kc t.data.toList) 32
theorem dd_size (Kc : Nat → Int) (t : ByteArray) : (dd Kc t).size = 32 := strOf_size _ _

theorem text_d (d : ByteArray) (hd : d.size = 32) (w : World) :
    Calls Tryz.prog 41 #[aggD d] w fun e w' => e = .returned (.string d) ∧ Below w.heap.size w w' := by
  have h := text_any (byF d) (byF_lt d) (bc d).toArray (by show _ = _; rw [bc_wl d 32 hd]) w
  rw [strOf_byF d 32 hd] at h
  exact h
theorem double_two (Kc : Nat → Int) (a b : ByteArray) (w : World) (hkt : KT Kc w) (hs : (a ++ b).size ≤ 1099511627776) :
    Calls Tryz.prog 35 #[.slice (some ⟨w.heap.size, 0, none⟩) 2 2] (w.alloc (.cells #[.string a, .string b] 9)) fun e w' => e = .returned (aggD (dd Kc (a ++ b))) ∧ Below w.heap.size w w' := by
  have hT : Texts (w.alloc (.cells #[.string a, .string b] 9)) w.heap.size [a, b] := by
    intro j hj
    have hj' : j = 0 ∨ j = 1 := by simp at hj; omega
    rcases hj' with rfl | rfl
    · simp [go_sem]
    · simp [go_sem]
  have hc : cat [a, b] = (a ++ b).data.toList := by simp [cat, ByteArray.data_append]
  have hl : (a ++ b).data.toList.length = (a ++ b).size := rfl
  have hpos : 0 < w.heap.size := World.block_lt_of_cell? w _ (hkt 0 (by omega))
  have hcall := double_any Kc [a, b] w.heap.size (w.alloc (.cells #[.string a, .string b] 9)) hT (by simp) (hkt.later ((Below.refl _ _).alloc (Nat.le_refl _) _) hpos) (by rw [hc, hl]; exact hs) (by simp)
  rw [hc] at hcall
  refine hcall.mono fun e w' ⟨h1, h2⟩ => ⟨?_, ?_⟩
  · rw [h1]; unfold aggD dd; rw [bc_strOf (dbl Kc (a ++ b).data.toList) 32 (fun j => shaF_lt Kc _ j)]
  · exact ((Below.refl _ _).alloc (Nat.le_refl _) _).trans (h2.mono (by simp))
theorem sz8 : ∀ w : World, (Go.sizeOf 5).run Tryz.prog w = .ok 1 w := fun _ => by kernel_rfl
theorem eql_d (a b : ByteArray) (ha : a.size = 32) (hb : b.size = 32) (w : World) : (binOp .eql 76 (aggD a) (aggD b)).run Tryz.prog w = .ok (.bool (a.data.toList == b.data.toList)) w :=
  run_eql_bytes w 76 5 32 Tryz.underlying76 Tryz.underlying5 sz8 a.data.toList b.data.toList ha hb

/-- digests in a row. -/
def DRow (w : World) (b o : Nat) (ds : List ByteArray) : Prop := ∀ i (h : i < ds.length), w.rangeAt b (o + 32 * i) (bc ds[i])
theorem DRow.lt {w : World} {b o : Nat} {ds : List ByteArray} (h : DRow w b o ds) (hn : 0 < ds.length) (h32 : ∀ s ∈ ds, s.size = 32) : b < w.heap.size := by
  have hs : (ds[0]).size = 32 := h32 _ (List.getElem_mem hn)
  have hl : 0 < (bc ds[0]).length := by rw [bc_length, hs]; omega
  exact World.block_lt_of_cell? w _ (h 0 hn 0 _ (List.getElem?_eq_getElem hl))
theorem range_later {w w' : World} {b o : Nat} {cs : List Value} {B : Nat} (h : w.rangeAt b o cs) (hb : Below B w w') (hB : b < B) : w'.rangeAt b o cs := fun j v hv => by
  rw [hb.cell (p := ⟨b, o + j, none⟩) hB]; exact h j v hv
theorem DRow.later {w w' : World} {b o : Nat} {ds : List ByteArray} {B : Nat} (h : DRow w b o ds) (hb : Below B w w') (hB : b < B) : DRow w' b o ds := fun i hi => range_later (h i hi) hb hB
theorem DRow.drop {w : World} {b o : Nat} {x y : ByteArray} {ds : List ByteArray} (h : DRow w b o (x :: y :: ds)) : DRow w b (o + 64) ds := fun i hi => by
  have := h (i + 2) (by simp; omega)
  simp only [List.getElem_cons_succ] at this
  rw [show o + 64 + 32 * i = o + 32 * (i + 2) by omega]; exact this
def flatD (ds : List ByteArray) : List Value := (ds.map bc).flatten
theorem flatD_snoc (ds : List ByteArray) (d : ByteArray) : flatD (ds ++ [d]) = flatD ds ++ bc d := by simp [flatD]
theorem flatD_length (ds : List ByteArray) (h32 : ∀ s ∈ ds, s.size = 32) : (flatD ds).length = ds.length * 32 := by
  induction ds with
  | nil => rfl
  | cons d ds ih =>
    have h1 := ih (fun s hs => h32 s (List.mem_cons_of_mem _ hs))
    have h2 : (bc d).length = 32 := by rw [bc_length]; exact h32 d List.mem_cons_self
    show (bc d ++ flatD ds).length = _
    rw [List.length_append, h1, h2, List.length_cons]; omega
theorem flatD_get (ds : List ByteArray) (h32 : ∀ s ∈ ds, s.size = 32) : ∀ i (h : i < ds.length) j v, (bc ds[i])[j]? = some v → (flatD ds)[32 * i + j]? = some v := by
  induction ds with
  | nil => intro i h; simp at h
  | cons d ds ih =>
    intro i h j v hv
    have h2 : (bc d).length = 32 := by rw [bc_length]; exact h32 d List.mem_cons_self
    show (bc d ++ flatD ds)[32 * i + j]? = some v
    cases i with
    | zero =>
      have hj := (List.getElem?_eq_some_iff.1 hv).1
      simp only [List.getElem_cons_zero] at hv hj
      rw [Nat.mul_zero, Nat.zero_add, List.getElem?_append_left hj]; exact hv
    | succ i =>
      simp only [List.getElem_cons_succ] at hv
      rw [List.getElem?_append_right (by omega), h2, show 32 * (i + 1) + j - 32 = 32 * i + j by omega]
      exact ih (fun s hs => h32 s (List.mem_cons_of_mem _ hs)) i (by simpa using h) j v hv
theorem own_drow {w : World} {base e g cap n : Nat} {ds : List ByteArray} (hn : ds.length = n) (h32 : ∀ s ∈ ds, s.size = 32) (h : w.ownsRow base e 32 (.slice (some ⟨g, 0, none⟩) n cap) n (flatD ds)) : DRow w g 0 ds := by
  obtain ⟨_, h2⟩ := h
  rcases h2 with ⟨hv, _⟩ | ⟨g', cap', cur, hv, _, hg, _, _, _, ht⟩
  · cases hv
  · injection hv with e1 e2 e3
    injection e1 with e4
    injection e4 with e5
    subst e5
    intro i hi j v hvv
    rw [cell_of_row w g (0 + 32 * i + j) cur _ _ hg]
    have h4 := flatD_get ds h32 i hi j v hvv
    have h5 := (List.getElem?_eq_some_iff.1 h4).1
    rw [flatD_length ds h32] at h5
    have h3 : (cur.toList.take (n * 32))[32 * i + j]? = (flatD ds)[32 * i + j]? := by rw [ht]
    rw [List.getElem?_take, if_pos (by omega), h4] at h3
    rw [← Array.getElem?_toList, Nat.zero_add]
    exact h3
theorem own_after {w w' : World} {base e size n : Nat} {v : Value} {xs : List Value} (h : w.ownsRow base e size v n xs) (hb : Below w.heap.size w w') : w'.ownsRow base e size v n xs := by
  refine ⟨h.1, ?_⟩
  rcases h.2 with hn | ⟨g, cap, cur, hv, hbg, hg, rest⟩
  · exact .inl hn
  · have hlt : g < w.heap.size := by
      rcases Nat.lt_or_ge g w.heap.size with h1 | h1
      · exact h1
      · rw [Array.getElem?_eq_none h1] at hg; cases hg
    exact .inr ⟨g, cap, cur, hv, hbg, by rw [hb.block g hlt]; exact hg, rest⟩
theorem ownB_ge {w : World} {base e size n : Nat} {v : Value} {xs : List Value} (h : w.ownsRow base e size v n xs) : ∀ k, v.ownBlock = some k → base ≤ k := by
  intro k hk
  rcases h.2 with ⟨rfl, _⟩ | ⟨g, cap, cur, rfl, hb, _⟩
  · simp [Value.ownBlock] at hk
  · simp [Value.ownBlock] at hk; omega
theorem infoDig : (Tryz.prog.info? 76).map (fun i => (i.zero, i.size, i.bytes)) = some (some (.agg (wl .u8 (fun _ => 0) 32).toArray), 32, 32) := by kernel_rfl
theorem sizeDig : (Tryz.prog.info? 76).map (·.size) = some 32 := by kernel_rfl
theorem news_d {w : World} {g : Nat} {d : ByteArray} {T : Nat} (h : w.heap[g]? = some (.cells (bc d).toArray T (0, 0))) : ∀ j u, (bc d)[j]? = some u → w.cell? ((⟨g, 0, none⟩ : Addr).add j) = some u := fun j u hu => World.news_of_block h j u (by simpa using hu)
end Go.Proofs.YtkmalggeieiepaaGreatDoor
namespace Go.Proofs.YtkmalggeieiepaaGreatDoor
open Go.RowKit

theorem results_arr2 {P : Program} {fn : Func} {p t : Tmp} {ty : TypeId} (h : fn.results = #[.cell p ty, .tmp t]) (tmps : Array Value) (w : World) (g : Nat) (K : IntKind) (f : Nat → Int) (n : Nat) (d : TypeDesc) (u : Value)
    (hp : tmps.getD p undef = .pointer (some ⟨g, 0, none⟩)) (ht : tmps.getD t undef = u) (hg : Arr K w g f n) (hu : P.underlying ty = some d) (hd : d.isRow = true) (hi : (P.info? ty).map (·.size) = some n) :
    (results fn tmps).run P w = .ok (.tuple #[.agg (wl K f n).toArray, u]) w := by
  have hp' : tmps[p]?.getD undef = .pointer (some ⟨g, 0, none⟩) := by simpa using hp
  have ht' : tmps[t]?.getD undef = u := by simpa using ht
  simp [results, h, hp', ht', asAddr, run_loadVar_mid w g 0 ty (wl K f n) d hg.range hu hd (by rw [wl_length]; exact hi)]

set_option maxRecDepth 10000 in
set_option maxHeartbeats 1000000 in
theorem digestOf_no (s : ByteArray) (w : World) (h : s.size ≠ 32) :
    Calls Tryz.prog 40 #[.string s] w fun e w' => e = .returned (.tuple #[.agg (wl .u8 (fun _ => 0) 32).toArray, .bool false]) ∧ Below w.heap.size w w' := by
  have hi : ¬ ((s.size : Int) = 32) := by omega
  go_enter Tryz.func40, Tryz.ntmps40
  go_upto_region 2 with fail
  obtain ⟨W0, hW0⟩ : ∃ W, W = (w.alloc (.cells #[.int .u8 0, .int .u8 0, .int .u8 0, .int .u8 0, .int .u8 0, .int .u8 0, .int .u8 0, .int .u8 0, .int .u8 0, .int .u8 0, .int .u8 0, .int .u8 0, .int .u8 0, .int .u8 0, .int .u8 0, .int .u8 0, .int .u8 0, .int .u8 0, .int .u8 0, .int .u8 0, .int .u8 0, .int .u8 0, .int .u8 0, .int .u8 0, .int .u8 0, .int .u8 0, .int .u8 0, .int .u8 0, .int .u8 0, .int .u8 0, .int .u8 0, .int .u8 0] 76)).alloc (.cells #[.int .u8 0, .int .u8 0, .int .u8 0, .int .u8 0, .int .u8 0, .int .u8 0, .int .u8 0, .int .u8 0, .int .u8 0, .int .u8 0, .int .u8 0, .int .u8 0, .int .u8 0, .int .u8 0, .int .u8 0, .int .u8 0, .int .u8 0, .int .u8 0, .int .u8 0, .int .u8 0, .int .u8 0, .int .u8 0, .int .u8 0, .int .u8 0, .int .u8 0, .int .u8 0, .int .u8 0, .int .u8 0, .int .u8 0, .int .u8 0, .int .u8 0, .int .u8 0] 76) := ⟨_, rfl⟩
  have HA : Hid (Arr .u8 W0 w.heap.size (fun _ => 0) 32) := by show Arr _ _ _ _ _; rw [hW0]; exact (Arr.new w _ 32 _ _ (by rfl)).alloc (by omega) _
  have HA2 : Hid (Arr .u8 W0 (w.heap.size + 1) (fun _ => 0) 32) := by show Arr _ _ _ _ _; rw [hW0]; exact Arr.newAt _ _ 32 _ _ _ (by rfl) (by simp)
  have HB : Hid (Below w.heap.size w W0) := by show Below _ _ _; rw [hW0]; exact ((Below.refl _ _).alloc (Nat.le_refl _) _).alloc (by simp) _
  rw [← hW0]
  clear hW0
  go_wp2_with (first
    | (refine wpList_load_arr rfl 76 _ rfl (w.heap.size + 1) rfl .u8 (fun _ => 0) 32 _ ?_ Tryz.underlying76 rfl sizeDig ?_; exact HA2.out)
    | (refine wpList_store_arr rfl 76 _ _ rfl w.heap.size .u8 (fun _ => 0) (fun _ => 0) 32 rfl rfl ?_ sizeDig ?_; exact HA.out))
  refine bodyPost_ret (results_arr2 Tryz.results40 _ _ w.heap.size .u8 (fun _ => 0) 32 _ _ rfl rfl (HA.out.all _) Tryz.underlying76 rfl sizeDig) rfl ⟨rfl, ?_⟩
  exact below_setCells HB.out _ (Nat.le_refl _) _ _

set_option maxRecDepth 10000 in
set_option maxHeartbeats 1000000 in
theorem digestOf_ok (s : ByteArray) (w : World) (h : s.size = 32) :
    Calls Tryz.prog 40 #[.string s] w fun e w' => e = .returned (.tuple #[aggD s, .bool true]) ∧ Below w.heap.size w w' := by
  have hi : ((s.size : Int) = 32) := by omega
  have HE : Hid (aggD s = .agg (wl .u8 (byF s) 32).toArray) := by show _ = _; unfold aggD; rw [bc_wl s 32 h]
  rw [HE.out]
  clear HE
  go_enter Tryz.func40, Tryz.ntmps40
  go_upto_region 2 with fail
  obtain ⟨W0, hW0⟩ : ∃ W, W = (w.alloc (.cells #[.int .u8 0, .int .u8 0, .int .u8 0, .int .u8 0, .int .u8 0, .int .u8 0, .int .u8 0, .int .u8 0, .int .u8 0, .int .u8 0, .int .u8 0, .int .u8 0, .int .u8 0, .int .u8 0, .int .u8 0, .int .u8 0, .int .u8 0, .int .u8 0, .int .u8 0, .int .u8 0, .int .u8 0, .int .u8 0, .int .u8 0, .int .u8 0, .int .u8 0, .int .u8 0, .int .u8 0, .int .u8 0, .int .u8 0, .int .u8 0, .int .u8 0, .int .u8 0] 76)).alloc (.cells #[.int .u8 0, .int .u8 0, .int .u8 0, .int .u8 0, .int .u8 0, .int .u8 0, .int .u8 0, .int .u8 0, .int .u8 0, .int .u8 0, .int .u8 0, .int .u8 0, .int .u8 0, .int .u8 0, .int .u8 0, .int .u8 0, .int .u8 0, .int .u8 0, .int .u8 0, .int .u8 0, .int .u8 0, .int .u8 0, .int .u8 0, .int .u8 0, .int .u8 0, .int .u8 0, .int .u8 0, .int .u8 0, .int .u8 0, .int .u8 0, .int .u8 0, .int .u8 0] 76) := ⟨_, rfl⟩
  have HA : Hid (Arr .u8 W0 w.heap.size (fun _ => 0) 32) := by show Arr _ _ _ _ _; rw [hW0]; exact (Arr.new w _ 32 _ _ (by rfl)).alloc (by omega) _
  have HA2 : Hid (Arr .u8 W0 (w.heap.size + 1) (fun _ => 0) 32) := by show Arr _ _ _ _ _; rw [hW0]; exact Arr.newAt _ _ 32 _ _ _ (by rfl) (by simp)
  have HB : Hid (Below w.heap.size w W0) := by show Below _ _ _; rw [hW0]; exact ((Below.refl _ _).alloc (Nat.le_refl _) _).alloc (by simp) _
  rw [← hW0]
  clear hW0
  have HA3 : Hid (Arr .u8 (W0.setCells (w.heap.size + 1) 0 (bc s)) (w.heap.size + 1) (byF s) 32) := by
    show Arr _ _ _ _ _; rw [bc_wl s 32 h]; exact HA2.out.all _
  have HA4 : Hid (Arr .u8 (W0.setCells (w.heap.size + 1) 0 (bc s)) w.heap.size (fun _ => 0) 32) := HA.out.setsFar _ _ (by omega)
  have HB2 : Hid (Below w.heap.size w (W0.setCells (w.heap.size + 1) 0 (bc s))) := below_setCells HB.out _ (by omega) _ _
  have HC : Hid (∀ j, j < s.size → (W0.cell? ⟨w.heap.size + 1, 0 + j, none⟩).isSome = true) := fun j hj => by rw [Nat.zero_add, (HA2.out j (by omega)).1]; rfl
  have HF : Hid (∀ j, j < s.size → W0.frozen? ⟨w.heap.size + 1, 0 + j, none⟩ = false) := fun j hj => by rw [Nat.zero_add]; exact (HA2.out j (by omega)).2
  have hcp : (Builtin.copy_ #[120, 9] 3 #[.slice (some ⟨w.heap.size + 1, 0, none⟩) 32 32, .string s]).run Tryz.prog W0 = .ok (.int .i64 32) (W0.setCells (w.heap.size + 1) 0 (bc s)) := by
    rw [run_copy_string W0 120 9 3 5 (w.heap.size + 1) 0 32 32 s Tryz.underlying120 sz8 (by omega) HC.out HF.out, h]; rfl
  generalize W0.setCells (w.heap.size + 1) 0 (bc s) = W1 at HA3 HA4 HB2 hcp
  clear HA HA2 HB HC HF
  go_upto_region 4 with fail
  go_wp2_with (first
    | (refine wpList_load_arr rfl 76 _ rfl (w.heap.size + 1) rfl .u8 (byF s) 32 _ ?_ Tryz.underlying76 rfl sizeDig ?_; exact HA3.out)
    | (refine wpList_store_arr rfl 76 _ _ rfl w.heap.size .u8 (fun _ => 0) (byF s) 32 rfl rfl ?_ sizeDig ?_; exact HA4.out))
  refine bodyPost_ret (results_arr2 Tryz.results40 _ _ w.heap.size .u8 (byF s) 32 _ _ rfl rfl (HA4.out.all _) Tryz.underlying76 rfl sizeDig) rfl ⟨rfl, ?_⟩
  exact below_setCells HB2.out _ (Nat.le_refl _) _ _
end Go.Proofs.YtkmalggeieiepaaGreatDoor
namespace Go.Proofs.YtkmalggeieiepaaGreatDoor
open Go.RowKit Go.WideMaps

set_option maxRecDepth 10000
theorem kLaidOut : laidOutB Tryz.prog = true := by kernel_rfl
theorem kRow : (76 : TypeId) < Tryz.prog.types.size := of_decide_eq_true (by kernel_rfl)
theorem kWide : (match Tryz.prog.underlying 76 with | some (.array _ _) | some (.struct _) => true | _ => false) = true := by rw [Tryz.underlying76]
theorem kLaw : Go.Maps.Keyed Tryz.prog 76 := Go.Maps.Keyed.of_law (deep_law_laid kLaidOut (m := 2) (by omega) kRow (by kernel_rfl) kWide)
theorem kType : Tryz.prog.keyType 76 = true := by kernel_rfl
theorem kCells : Tryz.prog.cellsOf 76 = 32 := by kernel_rfl
theorem kCell : Tryz.prog.cellsOf 5 = 1 := by kernel_rfl

theorem mapM_some {α β : Type} (f : α → Option β) (g : α → β) : ∀ l : List α, (∀ x ∈ l, f x = some (g x)) → l.mapM f = some (l.map g)
  | [], _ => rfl
  | a :: l, h => by
    rw [List.mapM_cons, h a (by simp), mapM_some f g l (fun x hx => h x (by simp [hx]))]; rfl
theorem mapM_each {α β : Type} (f : α → Option β) : ∀ (l : List α) (r : List β), l.mapM f = some r → ∀ x ∈ l, ∃ y, f x = some y
  | [], _, _, x, hx => by simp at hx
  | a :: l, r, h, x, hx => by
    rw [List.mapM_cons] at h
    cases ha : f a with
    | none => rw [ha] at h; cases h
    | some b =>
      rcases List.mem_cons.1 hx with rfl | hx
      · exact ⟨b, ha⟩
      · rw [ha] at h
        cases hl : l.mapM f with
        | none => simp [hl] at h
        | some r' => exact mapM_each f l r' hl x hx

theorem keyOf_dig (v : Value) : keyOf Tryz.prog 76 v = if v.formed Tryz.prog 76 then (Tryz.prog.keyLits (Tryz.prog.types.size + 1) 76 v.cells.toList).map fun ls => .string (keyBytes ls) else none := by
  unfold keyOf
  rw [Tryz.underlying76, kType]
  simp
theorem formed_agg (cs : Array Value) : (Value.agg cs).formed Tryz.prog 76 = (cs.size == 32) := by
  simp [Value.formed, Tryz.underlying76, kCells]
theorem keyLits_dig (d : Nat) (cs : List Value) : Tryz.prog.keyLits (d + 1) 76 cs = if cs.length = 32 then ((List.range 32).mapM fun i => Tryz.prog.keyLits d 5 ((cs.drop (i * 1)).take 1)).map List.flatten else none := by
  rw [Program.keyLits.eq_def]
  simp only [Tryz.underlying76, kCells, kCell]
theorem keyLits_byte (d : Nat) (cs : List Value) : Tryz.prog.keyLits (d + 1) 5 cs = match cs with | [.int q n] => if q = .u8 ∧ (Lit.int .u8 n).wf = true then some [.int .u8 n] else none | _ => none := by
  rw [Program.keyLits.eq_def]
  simp only [Tryz.underlying5]
  rcases cs with _ | ⟨u, _ | ⟨u2, cs⟩⟩
  · rfl
  · cases u <;> rfl
  · cases u <;> rfl
theorem bytes_wf (x : UInt8) : (Lit.int .u8 (x.toNat : Int)).wf = true := by
  have := x.toNat_lt
  have e1 : IntKind.u8.min = 0 := by decide
  have e2 : IntKind.u8.max = 255 := by decide
  simp [Lit.wf, e1, e2]; omega

/-- a digest as a key. -/
noncomputable def kd (d : ByteArray) : Lit := (keyOf Tryz.prog 76 (aggD d)).getD (.bool false)
theorem kd_of (d : ByteArray) (h : d.size = 32) : keyOf Tryz.prog 76 (aggD d) = some (kd d) := by
  have hn : ∃ n, Tryz.prog.types.size = n + 1 := ⟨Tryz.prog.types.size - 1, (Nat.sub_add_cancel (Nat.lt_of_le_of_lt (Nat.zero_le _) kRow)).symm⟩
  obtain ⟨n, hn⟩ := hn
  have hs : ∃ l, keyOf Tryz.prog 76 (aggD d) = some l := by
    have hl : (bc d).length = 32 := by rw [bc_length, h]
    have hm : ((List.range 32).mapM fun i => Tryz.prog.keyLits (n + 1) 5 (((bc d).drop (i * 1)).take 1)) = some ((List.range 32).map fun i => [Lit.int .u8 ((d.data.toList.getD i 0).toNat : Int)]) := by
      refine mapM_some _ (fun i => [Lit.int .u8 ((d.data.toList.getD i 0).toNat : Int)]) _ (fun i hi => ?_)
      have hi2 : i < 32 := by simpa using hi
      have hi3 : i < d.data.toList.length := by rw [lsz, h]; exact hi2
      have e : ((bc d).drop (i * 1)).take 1 = [Value.int .u8 ((d.data.toList.getD i 0).toNat : Int)] := by
        rw [Nat.mul_one, List.drop_eq_getElem_cons (by omega)]
        have hi4 : i < d.data.size := hi3
        simp [bc]
        rw [Array.getElem?_eq_getElem hi4]; rfl
      rw [keyLits_byte, e]
      simp only [true_and]
      rw [if_pos (bytes_wf _)]
    rw [keyOf_dig, aggD, formed_agg, hn]
    refine ⟨Lit.string (keyBytes ((List.range 32).map fun i => [Lit.int .u8 ((d.data.toList.getD i 0).toNat : Int)]).flatten), ?_⟩
    rw [if_pos (by simp [hl])]
    show Option.map _ (Tryz.prog.keyLits (n + 1 + 1) 76 (bc d).toArray.toList) = _
    rw [keyLits_dig, if_pos (by simpa using hl)]
    rw [List.toList_toArray, hm]
    rfl
  obtain ⟨l, hl⟩ := hs
  unfold kd
  rw [hl]; rfl
theorem map_inj {α β : Type} (f : α → β) (hf : ∀ x y, f x = f y → x = y) : ∀ a b : List α, a.map f = b.map f → a = b
  | [], [], _ => rfl
  | [], _ :: _, h => by simp at h
  | _ :: _, [], h => by simp at h
  | x :: a, y :: b, h => by
    simp only [List.map_cons, List.cons.injEq] at h
    rw [hf x y h.1, map_inj f hf a b h.2]
theorem aggD_inj {a b : ByteArray} (h : aggD a = aggD b) : a = b := by
  unfold aggD at h
  injection h with h
  have h2 : bc a = bc b := by simpa using congrArg Array.toList h
  unfold bc at h2
  have h3 : a.data.toList = b.data.toList := map_inj _ (fun x y hxy => by
    simp only [Value.int.injEq, true_and] at hxy
    exact UInt8.toNat_inj.1 (by omega)) _ _ h2
  apply ByteArray.ext
  exact Array.ext' h3
theorem kd_inj {a b : ByteArray} (ha : a.size = 32) (hb : b.size = 32) (h : kd a = kd b) : a = b :=
  aggD_inj (kLaw.inj (kd_of a ha) (h ▸ kd_of b hb))
theorem kd_key {a : ByteArray} (ha : a.size = 32) : WideAt.IsKeyLit (kd a) := kLaw.key (kd_of a ha)
def byteAt (cs : List Value) (i : Nat) : UInt8 := match cs[i]? with
  | some (Value.int _ z) => UInt8.ofNat z.toNat
  | _ => 0
/-- what reads as a key is a digest. -/
theorem key_inv {v : Value} {l : Lit} (h : keyOf Tryz.prog 76 v = some l) : ∃ d : ByteArray, d.size = 32 ∧ v = aggD d ∧ l = kd d := by
  have hn : ∃ n, Tryz.prog.types.size = n + 1 := ⟨Tryz.prog.types.size - 1, (Nat.sub_add_cancel (Nat.lt_of_le_of_lt (Nat.zero_le _) kRow)).symm⟩
  obtain ⟨n, hn⟩ := hn
  have h0 := h
  rw [keyOf_dig] at h
  by_cases hf : v.formed Tryz.prog 76 = true
  · rw [if_pos hf] at h
    obtain ⟨cs, rfl⟩ : ∃ cs, v = .agg cs := by
      cases v <;> simp [Value.formed, Tryz.underlying76] at hf
      exact ⟨_, rfl⟩
    rw [formed_agg] at hf
    have hl : cs.size = 32 := by simpa using hf
    rw [hn] at h
    have h' : Option.map (fun ls => Lit.string (keyBytes ls)) (Tryz.prog.keyLits (n + 1 + 1) 76 cs.toList) = some l := h
    rw [keyLits_dig, if_pos (by simpa using hl)] at h'
    cases hm : ((List.range 32).mapM fun i => Tryz.prog.keyLits (n + 1) 5 ((cs.toList.drop (i * 1)).take 1)) with
    | none => rw [hm] at h'; cases h'
    | some r =>
      have hc : ∀ i, (hi : i < 32) → ∃ x : UInt8, cs.toList[i]'(by simpa [hl] using hi) = .int .u8 (x.toNat : Int) := by
        intro i hi
        obtain ⟨y, hy⟩ := mapM_each _ _ _ hm i (by simpa using hi)
        have hi3 : i < cs.toList.length := by simpa [hl] using hi
        rw [keyLits_byte, Nat.mul_one, List.drop_eq_getElem_cons hi3] at hy
        simp only [List.take_succ_cons, List.take_zero] at hy
        generalize cs.toList[i] = u at hy ⊢
        cases u with
        | int q z =>
          simp only at hy
          by_cases hq : q = .u8 ∧ (Lit.int .u8 z).wf = true
          · obtain ⟨rfl, hw⟩ := hq
            have e1 : IntKind.u8.min = 0 := by decide
            have e2 : IntKind.u8.max = 255 := by decide
            simp [Lit.wf, e1, e2] at hw
            refine ⟨UInt8.ofNat z.toNat, ?_⟩
            simp; omega
          · rw [if_neg hq] at hy; cases hy
        | _ => simp at hy
      refine ⟨⟨((List.range 32).map fun i => byteAt cs.toList i).toArray⟩, by simp [ByteArray.size], ?_, ?_⟩
      · unfold aggD
        congr 1
        apply Array.ext'
        rw [List.toList_toArray]
        apply List.ext_getElem
        · simp [bc, hl]
        · intro i h1 h2
          have hi : i < 32 := by simpa [hl] using h1
          obtain ⟨x, hx⟩ := hc i hi
          have hi3 : i < cs.toList.length := by simpa [hl] using hi
          simp only [bc, List.getElem_map, List.getElem_range, hx, byteAt, List.getElem?_eq_getElem hi3]
          simp
      · have e : aggD (⟨((List.range 32).map fun i => byteAt cs.toList i).toArray⟩ : ByteArray) = .agg cs := by
          unfold aggD
          congr 1
          apply Array.ext'
          rw [List.toList_toArray]
          apply List.ext_getElem
          · simp [bc, hl]
          · intro i h1 h2
            have hi : i < 32 := by simpa [hl] using h2
            obtain ⟨x, hx⟩ := hc i hi
            have hi3 : i < cs.toList.length := by simpa [hl] using hi
            simp only [bc, List.getElem_map, List.getElem_range, hx, byteAt, List.getElem?_eq_getElem hi3]
            simp
        unfold kd
        rw [e, h0]; rfl
  · rw [if_neg hf] at h; cases h
end Go.Proofs.YtkmalggeieiepaaGreatDoor
namespace Go.Proofs.YtkmalggeieiepaaGreatDoor
open Go.RowKit

theorem infoU8 : (Tryz.prog.info? 5).map (fun i => (i.zero, i.size, i.bytes)) = some (some (.int .u8 0), 1, 1) := by kernel_rfl

set_option maxHeartbeats 4000000 in
set_option maxRecDepth 100000 in
theorem sclone_any (s : ByteArray) (w : World) (hlim : s.size ≤ 281474976710656) :
    Calls Tryz.prog 65 #[.string s] w fun e w' => e = .returned (.string s) ∧ Below w.heap.size w w' := by
  by_cases h0 : s.size = 0
  · have hs : s = ⟨#[]⟩ := by
      apply ByteArray.ext
      exact Array.eq_empty_of_size_eq_zero h0
    subst hs
    go_enter Tryz.func65, Tryz.ntmps65
    go_wp2
    go_ret
    exact ⟨rfl, Below.refl _ _⟩
  · obtain ⟨i0, hi, hz0, hz1, hz2⟩ := info_parts infoU8
    have hinfo : (Tryz.prog.info? 5).map (·.size) = some 1 := by rw [hi]; simp [hz1]
    have hco : Tryz.prog.cellsOf 5 = 1 := kCell
    obtain ⟨M, hM⟩ : ∃ M, M = madeCells (Value.int .u8 0).cells (((s.size : Nat) : Int).toNat * i0.size) := ⟨_, rfl⟩
    have hMs : M.size = s.size := by rw [hM, size_madeCells, hz1]; simp
    have hmk : ∀ W : World, (Instr.makeSlice 120 (.int .i64 (s.size : Int)) (.int .i64 (s.size : Int))).run Tryz.prog W = .ok (.slice (some ⟨W.heap.size, 0, none⟩) s.size s.size) (W.alloc (.cells M 5)) := fun W => by
      have h := run_make (P := Tryz.prog) W 120 5 i0 (.int .u8 0) Tryz.underlying120 hi hz0 .i64 .i64 (s.size : Int) (s.size : Int) (by omega) (by omega) (by rw [hz2]; omega) (by omega)
      rw [← hM] at h
      simpa using h
    clear hM
    have hcp := Lib.run_copy_row_string (P := Tryz.prog) (w.alloc (.cells M 5)) 120 9 3 5 w.heap.size 0 s.size s.size s M 5 Tryz.underlying120 hinfo (heap_alloc_new w _) (Nat.le_refl _) (by omega)
    obtain ⟨Y, hY⟩ : ∃ Y, Y = (M.toList.take 0 ++ Lib.byteCells s.data.toList ++ M.toList.drop (0 + s.size)).toArray := ⟨_, rfl⟩
    rw [← hY] at hcp
    have hYl : Y.toList = Lib.byteCells s.data.toList := by
      rw [hY, List.toList_toArray, List.take_zero, List.nil_append, List.drop_of_length_le (by rw [Array.length_toList]; omega), List.append_nil]
    have hYs : Y.size = s.size := by rw [← Array.length_toList, hYl, Lib.byteCells_length, ← Lib.size_eq]
    have hgY : ((w.alloc (.cells M 5)).setRow w.heap.size Y).heap[w.heap.size]? = some (.cells Y 5 (0, 0)) := setRow_heap _ _ M _ 5 (0, 0) (heap_alloc_new w _)
    have hne : s.data.toList ≠ [] := fun e => h0 (by rw [Lib.size_eq, e]; rfl)
    have hUS := Lib.run_unsafeString_row (P := Tryz.prog) ((w.alloc (.cells M 5)).setRow w.heap.size Y) 173 3 9 5 Tryz.underlying173 hco w.heap.size Y.size (by unfold World.shape?; rw [hgY]) s.data.toList hne (by rw [← Lib.size_eq]; omega) (by rw [← Lib.size_eq]; omega)
      (fun j x hx => Lib.cells_of_row hgY Y.size j _ (by rw [List.take_of_length_le (by rw [Array.length_toList]; exact Nat.le_refl _), hYl]; simp [Lib.byteCells, hx]))
    rw [← Lib.size_eq] at hUS
    clear hY
    go_enter Tryz.func65, Tryz.ntmps65
    go_wp2
    go_ret
    have hb1 : Below w.heap.size w (w.alloc (.cells M 5)) := (Below.refl _ w).alloc (Nat.le_refl _) _
    have hb2 : Below w.heap.size (w.alloc (.cells M 5)) ((w.alloc (.cells M 5)).setRow w.heap.size Y) := ⟨rfl, rfl, rfl, by simp, fun k hk => setRow_other _ _ _ _ (by omega)⟩
    exact ⟨rfl, Lib.below_freeze (hb1.trans hb2) (p := ⟨w.heap.size, 0, none⟩) (Nat.le_refl _) _⟩

theorem clone_any (s : ByteArray) (w : World) (hlim : s.size ≤ 281474976710656) :
    Calls Tryz.prog 36 #[.string s] w fun e w' => e = .returned (.string s) ∧ Below w.heap.size w w' := by
  have h1 := sclone_any s w hlim
  go_enter Tryz.func36, Tryz.ntmps36
  go_wp2_with (go_at_call 65; go_must (refine h1.mono ?_); rintro x w1 ⟨rfl, hb1⟩)
  go_ret
  exact ⟨rfl, hb1⟩
end Go.Proofs.YtkmalggeieiepaaGreatDoor
