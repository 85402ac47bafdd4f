import Derived.Test.YtkmalggeieiepaaDoorRows
import Derived.Test.YtkmalggeieiepaaDoorShaM
import Derived.WalkKit
import Derived.WalkSpells
import Derived.WalkLawsBesides
import Derived.Below
import Derived.Lib.Strings
import Derived.Deep.LoopGhost
import Derived.Deep.DeepCutAuto
import Derived.Deep.QuietTactic
import Derived.BigQuiet
import Derived.Deep.RegionLaw
import Derived.Deep.AppendLies
namespace Go.Proofs.YtkmalggeieiepaaDoor
open Go.RowKit

/-- twice, where once is known. -/
theorem twice_of (gt : Nat) (dg : ByteArray → ByteArray) (hdg : ∀ s, (dg s).size ≤ 1048576) (s : ByteArray) (w : World) (hs : s.size ≤ 1048576)
    (HS : Hid (∀ (s : ByteArray) (W : World), s.size ≤ 1048576 → Below w.heap.size w W → Calls Tryd.prog 10 #[.pointer (some ⟨gt, 0, none⟩), .string s] W fun e w' => e = .returned (.string (dg s)) ∧ Below W.heap.size W w')) :
    Calls Tryd.prog 13 #[.pointer (some ⟨gt, 0, none⟩), .string s] w fun e w' => e = .returned (.string (dg (dg s))) ∧ Below w.heap.size w w' := by
  have H1 : Hid (Calls Tryd.prog 10 #[.pointer (some ⟨gt, 0, none⟩), .string s] w fun e w' => e = .returned (.string (dg s)) ∧ Below w.heap.size w w') := HS.out s w hs (Below.refl _ _)
  have H2 : Hid (∀ W : World, Below w.heap.size w W → Calls Tryd.prog 10 #[.pointer (some ⟨gt, 0, none⟩), .string (dg s)] W fun e w' => e = .returned (.string (dg (dg s))) ∧ Below W.heap.size W w') := fun W hW => HS.out (dg s) W (hdg s) hW
  clear hdg HS
  generalize dg (dg s) = r2 at H2
  generalize dg s = r1 at H1 H2
  go_enter Tryd.func13, Tryd.ntmps13
  go_wp2_with (first
    | (go_at_call 10; refine H1.out.mono ?_; rintro e w1 ⟨rfl, hb1⟩; have HB1 : Hid (Below w.heap.size w w1) := hb1; clear hb1 H1)
    | (go_at_call 10; go_must (refine (H2.out _ HB1.out).mono ?_); rintro e w2 ⟨rfl, hb2⟩; have HB2 := (show Hid (Below w1.heap.size w1 w2) from hb2); clear hb2))
  go_ret
  exact ⟨rfl, HB1.out.trans (HB2.out.mono HB1.out.size)⟩
end Go.Proofs.YtkmalggeieiepaaDoor
namespace Go.Proofs.YtkmalggeieiepaaDoor
open Go.RowKit

/-- a 64-bit number turned left by k. -/
def rot (k : Int) (x : Int) : Int := bits .or .u64 (IntKind.u64.wrap (x * 2 ^ k.toNat)) (x / 2 ^ (64 - k).toNat)
def IsU (x : Int) : Prop := 0 ≤ x ∧ x ≤ 18446744073709551615
theorem isU_wrap (x : Int) : IsU (IntKind.u64.wrap x) := by
  unfold IsU; rw [IntKind.wrap_u64]; omega
theorem isU_bits (o : BinOp) (x y : Int) : IsU (bits o .u64 x y) := isU_wrap _
theorem isU_rot (k : Int) (x : Int) : IsU (rot k x) := isU_wrap _
theorem and63 (k : Nat) (h : k < 64) : bits .and .u64 (k : Int) 63 = k := by
  have := bits_and_u64_nat k 63 (by omega) (by omega)
  rw [show ((63 : Nat) : Int) = 63 from rfl] at this
  rw [this, Nat.and_two_pow_sub_one_eq_mod k 6, Nat.mod_eq_of_lt (by omega)]
/-- four numbers. -/
structure St where
  a : Int
  b : Int
  c : Int
  d : Int
def St.ok (v : St) : Prop := IsU v.a ∧ IsU v.b ∧ IsU v.c ∧ IsU v.d
/-- one round, in two halves. -/
def half1 (v : St) : St :=
  let a1 := IntKind.u64.wrap (v.a + v.b)
  let c1 := IntKind.u64.wrap (v.c + v.d)
  ⟨a1, bits .xor .u64 (rot 13 v.b) a1, c1, bits .xor .u64 (rot 16 v.d) c1⟩
def half2 (v : St) : St :=
  let c2 := IntKind.u64.wrap (v.c + v.b)
  let a3 := IntKind.u64.wrap (rot 32 v.a + v.d)
  ⟨a3, bits .xor .u64 (rot 17 v.b) c2, rot 32 c2, bits .xor .u64 (rot 21 v.d) a3⟩
theorem half1_ok (v : St) : (half1 v).ok := ⟨isU_wrap _, isU_bits .xor _ _, isU_wrap _, isU_bits .xor _ _⟩
def rnd (v : St) : St := half2 (half1 v)
theorem rnd_ok (v : St) : (rnd v).ok := ⟨isU_wrap _, isU_bits .xor _ _, isU_rot _ _, isU_bits .xor _ _⟩
def rnds : Nat → St → St
  | 0, v => v
  | n + 1, v => rnds n (rnd v)
theorem rnds_ok (n : Nat) (v : St) (h : v.ok) : (rnds n v).ok := by
  induction n generalizing v with
  | zero => exact h
  | succ n ih => exact ih _ (rnd_ok _)
theorem rnds_succ (n : Nat) (v : St) : rnds (n + 1) v = rnd (rnds n v) := by
  induction n generalizing v with
  | zero => rfl
  | succ n ih => show rnds (n + 1) (rnd v) = _; rw [ih]; rfl
def vals (v : St) : Array Value := #[.int .u64 v.a, .int .u64 v.b, .int .u64 v.c, .int .u64 v.d]
/-- one word worked in. -/
def wrd (v : St) (m : Int) : St :=
  let u := rnds 2 ⟨v.a, v.b, v.c, bits .xor .u64 v.d m⟩
  ⟨bits .xor .u64 u.a m, u.b, u.c, u.d⟩
theorem wrd_ok (v : St) (m : Int) (_h : v.ok) : (wrd v m).ok := by
  have h2 := rnd_ok (rnd ⟨v.a, v.b, v.c, bits .xor .u64 v.d m⟩)
  exact ⟨isU_bits .xor _ _, h2.2.1, h2.2.2.1, h2.2.2.2⟩
/-- the end. -/
def fin (v : St) : Int :=
  let u := rnds 4 ⟨v.a, v.b, bits .xor .u64 v.c 255, v.d⟩
  bits .xor .u64 (bits .xor .u64 (bits .xor .u64 u.a u.b) u.c) u.d
/-- bytes, the lowest first. -/
def num : List UInt8 → Nat
  | [] => 0
  | b :: l => num l * 256 + b.toNat
theorem num_lt (l : List UInt8) : num l < 256 ^ l.length := by
  induction l with
  | nil => simp [num]
  | cons b l ih => have := b.toNat_lt; simp only [num, List.length_cons, Nat.pow_succ]; omega
theorem num_append (l m : List UInt8) : num (l ++ m) = num l + 256 ^ l.length * num m := by
  induction l with
  | nil => simp [num]
  | cons b l ih =>
    simp only [List.cons_append, num, ih, List.length_cons, Nat.pow_succ]
    rw [Nat.add_mul]
    have : 256 ^ l.length * num m * 256 = 256 ^ l.length * 256 * num m := by rw [Nat.mul_assoc, Nat.mul_comm (num m) 256, ← Nat.mul_assoc]
    rw [this, Nat.add_right_comm]
end Go.Proofs.YtkmalggeieiepaaDoor
namespace Go.Proofs.YtkmalggeieiepaaDoor
open Go.RowKit

theorem num_drop (l : List UInt8) (k : Nat) (h : k < l.length) : num (l.drop k) = num (l.drop (k + 1)) * 256 + l[k].toNat := by
  rw [List.drop_eq_getElem_cons h]; rfl
theorem num_step (l : List UInt8) (k : Nat) (h : k < l.length) (h8 : l.length ≤ 8) : num (l.drop (k + 1)) * 256 + 255 ≤ 18446744073709551615 := by
  have h1 := num_lt (l.drop (k + 1))
  rw [List.length_drop] at h1
  have h2 : 256 ^ (l.length - (k + 1)) ≤ 256 ^ 7 := Nat.pow_le_pow_right (by omega) (by omega)
  have h3 : 256 ^ 7 = 72057594037927936 := by decide
  omega

theorem or_add (N b : Int) (h0 : 0 ≤ N) (h1 : N * 256 + 255 ≤ 18446744073709551615) (hb0 : 0 ≤ b) (hb : b ≤ 255) : bits .or .u64 (N * 256) b = N * 256 + b :=
  bits_join .u64 64 (by decide) (fun n h h' => by rw [IntKind.wrap_u64]; omega) 8 (N * 256) b (by omega) (by omega) (by omega) hb0 (by omega) (by omega)

set_option maxHeartbeats 400000 in
theorem lowest_any (s : ByteArray) (w : World) (hs : s.size ≤ 8) :
    Calls Tryd.prog 89 #[.string s] w fun e w' => e = .returned (.int .u64 (num s.data.toList)) ∧ w' = w := by
  have hl : s.data.toList.length = s.size := rfl
  go_enter Tryd.func89, Tryd.ntmps89
  go_wp2
  go_loop [3, 4] (fun n i => ∃ k : Nat, k ≤ s.size ∧ i = .int .i64 ((k : Int) - 1) ∧ n = .int .u64 (num (s.data.toList.drop k))) (fun _ i => (intOf i + 1).toNat)
  case atStart => exact ⟨s.size, Nat.le_refl _, rfl, by rw [List.drop_of_length_le (Nat.le_of_eq hl)]; rfl⟩
  case round =>
    obtain ⟨k, hk, rfl, rfl⟩ := hrel
    by_cases h0 : k = 0
    · subst h0
      go_wp2
      go_ret
      exact ⟨rfl, rfl⟩
    · obtain ⟨j, rfl⟩ : ∃ j, k = j + 1 := ⟨k - 1, by omega⟩
      have hj : j < s.size := by omega
      have hst := num_step s.data.toList j (by omega) (by omega)
      have HD : Hid (num (s.data.toList.drop j) = num (s.data.toList.drop (j + 1)) * 256 + s[j].toNat) := num_drop s.data.toList j (by omega)
      generalize num (s.data.toList.drop (j + 1)) = N at hst HD
      have hst' : (N : Int) * 256 + 255 ≤ 18446744073709551615 := by omega
      clear hst
      have hN : 0 ≤ (N : Int) := by omega
      have hb0 : 0 ≤ (s[j].toNat : Int) := by omega
      have hb : (s[j].toNat : Int) ≤ 255 := by have := s[j].toNat_lt; omega
      have ej : (((j + 1 : Nat) : Int) - 1) = (j : Int) := by omega
      rw [ej]
      clear ej
      go_wp2
      go_round
      case rel => exact ⟨j, by omega, rfl, by rw [HD.out]; (rw [or_add _ _ hN hst' hb0 hb]; go_num)⟩
      case measure => simp [intOf]
end Go.Proofs.YtkmalggeieiepaaDoor
namespace Go.Proofs.YtkmalggeieiepaaDoor
open Go.RowKit

set_option maxHeartbeats 400000 in
theorem number_any (s : ByteArray) (w : World) (hs : s.size ≤ 8) :
    Calls Tryd.prog 93 #[.string s] w fun e w' => e = .returned (.int .u64 (num s.data.toList)) ∧ w' = w := by
  have hl : s.data.toList.length = s.size := rfl
  go_enter Tryd.func93, Tryd.ntmps93
  go_wp2
  go_loop [3, 4] (fun n i => ∃ k : Nat, k ≤ s.size ∧ i = .int .i64 ((k : Int) - 1) ∧ n = .int .u64 (num (s.data.toList.drop k))) (fun _ i => (intOf i + 1).toNat)
  case atStart => exact ⟨s.size, Nat.le_refl _, rfl, by rw [List.drop_of_length_le (Nat.le_of_eq hl)]; rfl⟩
  case round =>
    obtain ⟨k, hk, rfl, rfl⟩ := hrel
    by_cases h0 : k = 0
    · subst h0
      go_wp2
      go_ret
      exact ⟨rfl, rfl⟩
    · obtain ⟨j, rfl⟩ : ∃ j, k = j + 1 := ⟨k - 1, by omega⟩
      have hj : j < s.size := by omega
      have hst := num_step s.data.toList j (by omega) (by omega)
      have HD : Hid (num (s.data.toList.drop j) = num (s.data.toList.drop (j + 1)) * 256 + s[j].toNat) := num_drop s.data.toList j (by omega)
      generalize num (s.data.toList.drop (j + 1)) = N at hst HD
      have hst' : (N : Int) * 256 + 255 ≤ 18446744073709551615 := by omega
      clear hst
      have hN : 0 ≤ (N : Int) := by omega
      have hb0 : 0 ≤ (s[j].toNat : Int) := by omega
      have hb : (s[j].toNat : Int) ≤ 255 := by have := s[j].toNat_lt; omega
      have ej : (((j + 1 : Nat) : Int) - 1) = (j : Int) := by omega
      rw [ej]
      clear ej
      go_wp2
      go_round
      case rel => exact ⟨j, by omega, rfl, by rw [HD.out]; go_num⟩
      case measure => simp [intOf]

end Go.Proofs.YtkmalggeieiepaaDoor
namespace Go.Proofs.YtkmalggeieiepaaDoor
open Go.RowKit

/-- a text of these bytes. -/
def ofL (l : List UInt8) : ByteArray := ⟨l.toArray⟩
theorem ofL_data (l : List UInt8) : (ofL l).data.toList = l := rfl
theorem ofL_size (l : List UInt8) : (ofL l).size = l.length := by simp [ofL, ByteArray.size]
theorem ofL_of (s : ByteArray) : ofL s.data.toList = s := by apply ByteArray.ext; simp [ofL]
theorem ofL_inj {a b : List UInt8} (h : ofL a = ofL b) : a = b := by rw [← ofL_data a, ← ofL_data b, h]
theorem ofL_append (a b : List UInt8) : ofL a ++ ofL b = ofL (a ++ b) := by
  apply ByteArray.ext; rw [ByteArray.data_append]; simp [ofL]
theorem ofL_extract (l : List UInt8) (a b : Nat) : (ofL l).extract a b = ofL ((l.drop a).take (b - a)) := by
  have h := Lib.extract_data (ofL l) a b
  rw [← ofL_of ((ofL l).extract a b), h, ofL_data]
theorem ofL_get (l : List UInt8) (j : Nat) (h : j < l.length) : (ofL l)[j]'(by rw [ofL_size]; exact h) = l[j] := by
  show l.toArray[j] = l[j]
  simp

/-- as it was but for one block, and new ones. -/
structure Mov (g : Nat) (w w' : World) : Prop where
  os : w'.os = w.os
  tape : w'.tape = w.tape
  output : w'.output = w.output
  size : w.heap.size ≤ w'.heap.size
  block : ∀ k, k < w.heap.size → k ≠ g → w'.heap[k]? = w.heap[k]?
theorem Mov.refl (g : Nat) (w : World) : Mov g w w := ⟨rfl, rfl, rfl, Nat.le_refl _, fun _ _ _ => rfl⟩
theorem Mov.trans {g : Nat} {a b c : World} (h : Mov g a b) (k : Mov g b c) : Mov g a c :=
  ⟨k.os.trans h.os, k.tape.trans h.tape, k.output.trans h.output, Nat.le_trans h.size k.size, fun i hi hg => (k.block i (Nat.lt_of_lt_of_le hi h.size) hg).trans (h.block i hi hg)⟩
theorem Mov.below {g : Nat} {w w' : World} (h : Mov g w w') {B : Nat} (hB : B ≤ g) (hs : B ≤ w.heap.size) : Below B w w' :=
  ⟨h.os, h.tape, h.output, h.size, fun k hk => h.block k (by omega) (by omega)⟩
theorem Below.mov {w w' : World} (h : Below w.heap.size w w') (g : Nat) : Mov g w w' := ⟨h.os, h.tape, h.output, h.size, fun k hk _ => h.block k hk⟩
theorem Mov.set {g : Nat} {a w : World} (h : Mov g a w) (i : Nat) (u : Value) : Mov g a (w.setCell ⟨g, i, none⟩ u) :=
  ⟨h.os, h.tape, h.output, by simpa using h.size, fun k hk hg => (Below.heap_setCell w ⟨g, i, none⟩ u k hg).trans (h.block k hk hg)⟩

/-- a reader lies in block g. -/
structure Rd (w : World) (g : Nat) (l : List UInt8) (e : Int) : Prop where
  s : w.cell? ⟨g, 0, none⟩ = some (.string (ofL l))
  sf : w.frozen? ⟨g, 0, none⟩ = false
  e : w.cell? ⟨g, 1, none⟩ = some (.int .i64 e)
  ef : w.frozen? ⟨g, 1, none⟩ = false
theorem Rd.lt {w : World} {g : Nat} {l : List UInt8} {e : Int} (h : Rd w g l e) : g < w.heap.size := World.block_lt_of_cell? w _ h.s
theorem Rd.later {w w' : World} {g : Nat} {l : List UInt8} {e : Int} (h : Rd w g l e) (hb : Below w.heap.size w w') : Rd w' g l e := by
  have hl := h.lt
  exact ⟨by rw [hb.cell (p := ⟨g, 0, none⟩) hl]; exact h.s, by rw [hb.frozen (p := ⟨g, 0, none⟩) hl]; exact h.sf, by rw [hb.cell (p := ⟨g, 1, none⟩) hl]; exact h.e, by rw [hb.frozen (p := ⟨g, 1, none⟩) hl]; exact h.ef⟩
theorem Rd.setE {w : World} {g : Nat} {l : List UInt8} {e : Int} (h : Rd w g l e) (c : Int) : Rd (w.setCell ⟨g, 1, none⟩ (.int .i64 c)) g l c := by
  refine ⟨?_, ?_, ?_, ?_⟩
  · rw [World.cell?_setCell_other _ _ _ _ (by simp)]; exact h.s
  · simp only [World.frozen?_setCell]; exact h.sf
  · exact World.cell?_setCell_same _ _ _ h.e
  · simp only [World.frozen?_setCell]; exact h.ef
theorem Rd.setS {w : World} {g : Nat} {l : List UInt8} {e : Int} (h : Rd w g l e) (m : List UInt8) : Rd (w.setCell ⟨g, 0, none⟩ (.string (ofL m))) g m e := by
  refine ⟨?_, ?_, ?_, ?_⟩
  · exact World.cell?_setCell_same _ _ _ h.s
  · simp only [World.frozen?_setCell]; exact h.sf
  · rw [World.cell?_setCell_other _ _ _ _ (by simp)]; exact h.e
  · simp only [World.frozen?_setCell]; exact h.ef

/-- what is left to be read, and what was wrong. -/
def rWrong (c : Int) (r : List UInt8 × Int) : List UInt8 × Int := if r.2 = 0 then (r.1, c) else r
def rTake (n : Nat) (r : List UInt8 × Int) : List UInt8 × (List UInt8 × Int) :=
  if r.2 ≠ 0 then ([], r) else if r.1.length < n then ([], (r.1, 1)) else (r.1.take n, (r.1.drop n, r.2))

theorem wrong_any (g : Nat) (c : Int) (l : List UInt8) (e : Int) (w : World) (h : Rd w g l e) :
    Calls Tryd.prog 60 #[.pointer (some ⟨g, 0, none⟩), .int .i64 c] w fun x w' => x = .returned (.tuple #[]) ∧ Rd w' g (rWrong c (l, e)).1 (rWrong c (l, e)).2 ∧ Mov g w w' := by
  have HR : Hid (Rd w g l e) := h
  have h1 := h.e
  have h2 := h.ef
  clear h
  by_cases he : e = 0
  · go_enter Tryd.func60, Tryd.ntmps60
    go_wp2
    go_end0
    refine ⟨rfl, ?_, (Mov.refl g w).set 1 _⟩
    have e2 : rWrong c (l, e) = (l, c) := by simp [rWrong, he]
    rw [e2]; exact HR.out.setE c
  · go_enter Tryd.func60, Tryd.ntmps60
    go_wp2
    go_end0
    refine ⟨rfl, ?_, Mov.refl g w⟩
    have e2 : rWrong c (l, e) = (l, e) := by simp [rWrong, he]
    rw [e2]; exact HR.out

theorem take_any (g n : Nat) (l : List UInt8) (e : Int) (w : World) (h : Rd w g l e) :
    Calls Tryd.prog 58 #[.pointer (some ⟨g, 0, none⟩), .int .i64 (n : Int)] w fun x w' => x = .returned (.string (ofL (rTake n (l, e)).1)) ∧ Rd w' g (rTake n (l, e)).2.1 (rTake n (l, e)).2.2 ∧ Mov g w w' := by
  have HR : Hid (Rd w g l e) := h
  have h1 := h.e
  have h2 := h.s
  have h3 := h.sf
  have hsz := ofL_size l
  clear h
  by_cases he : e = 0
  · subst he
    by_cases hlt : l.length < n
    · have hw := wrong_any g 1 l 0 w HR.out
      have e2 : rWrong 1 (l, 0) = (l, 1) := by simp [rWrong]
      have e3 : rTake n (l, 0) = ([], (l, 1)) := by simp [rTake, hlt]
      rw [e2] at hw
      rw [e3]
      have hgt : (l.length : Int) < (n : Int) := by omega
      go_enter Tryd.func58, Tryd.ntmps58
      go_wp2_with (go_at_call 60; go_must (refine hw.mono ?_); rintro x w1 ⟨rfl, hr1, hm1⟩)
      go_ret
      exact ⟨rfl, hr1, hm1⟩
    · have e3 : rTake n (l, 0) = (l.take n, (l.drop n, 0)) := by simp [rTake, hlt]
      rw [e3]
      have x1 : (ofL l).extract 0 n = ofL (l.take n) := by rw [ofL_extract]; simp
      have x2 : (ofL l).extract n l.length = ofL (l.drop n) := by rw [ofL_extract, List.take_of_length_le (by simp)]
      have hle : (n : Int) ≤ (l.length : Int) := by omega
      have hng : ¬ ((l.length : Int) < (n : Int)) := by omega
      go_enter Tryd.func58, Tryd.ntmps58
      go_wp2
      go_ret
      exact ⟨rfl, HR.out.setS _, (Mov.refl g w).set 0 _⟩
  · have e3 : rTake n (l, e) = ([], (l, e)) := by simp [rTake, he]
    rw [e3]
    go_enter Tryd.func58, Tryd.ntmps58
    go_wp2
    go_ret
    exact ⟨rfl, HR.out, Mov.refl g w⟩
end Go.Proofs.YtkmalggeieiepaaDoor
namespace Go.Proofs.YtkmalggeieiepaaDoor
open Go.RowKit

/-- a number in so many bytes, the lowest first. -/
def le (n : Nat) : Nat → List UInt8
  | 0 => []
  | k + 1 => UInt8.ofNat n :: le (n / 256) k
theorem le_length (n k : Nat) : (le n k).length = k := by
  induction k generalizing n with
  | zero => rfl
  | succ k ih => simp [le, ih]
/-- a size as bytes. -/
def sizeL (n : Nat) : List UInt8 :=
  if n < 253 then le n 1 else if n < 65536 then 253 :: le n 2 else if n < 4294967296 then 254 :: le n 4 else 255 :: le n 8
theorem str1L (W : World) (x : Int) (h0 : 0 ≤ x) (h1 : x < 256) : (convert 50 9 (.slice (some ⟨W.heap.size, 0, none⟩) 1 1)).run Tryd.prog (W.alloc (.cells #[.int .u8 x] 5)) = .ok (.string (ofL [UInt8.ofNat x.toNat])) (W.alloc (.cells #[.int .u8 x] 5)) := by
  have e : ((UInt8.ofNat x.toNat).toNat : Int) = x := by simp; omega
  have := run_convert_bytes_back (P := Tryd.prog) (W.alloc (.cells #[.int .u8 x] 5)) 50 9 5 ⟨W.heap.size, 0, none⟩ 1 [UInt8.ofNat x.toNat] Tryd.underlying50 Tryd.underlying5 Tryd.underlying9
  refine this (fun j hj => ?_)
  obtain rfl : j = 0 := by simpa using hj
  simp only [List.getElem_cons_zero, e]
  simp [Addr.add, go_sem]

/-- a number that a uint64 holds. -/
def U64 (q : Nat) : Prop := q < 18446744073709551616
set_option maxRecDepth 10000 in
set_option maxHeartbeats 1000000 in
theorem bytes_any (n m : Nat) (w : World) (hn : U64 n) (hm : m ≤ 8) :
    Calls Tryd.prog 38 #[.int .u64 (n : Int), .int .i64 (m : Int)] w fun x w' => x = .returned (.string (ofL (le n m))) ∧ Below w.heap.size w w' := by
  go_enter Tryd.func38, Tryd.ntmps38
  go_upto_region 2 with fail
  go_loopg [0, 1, 5] m (fun g nv mv sv wx => ∃ q : Nat, ∃ acc : List UInt8, nv = .int .u64 (q : Int) ∧ mv = .int .i64 (g : Int) ∧ sv = .string (ofL acc) ∧ g ≤ 8 ∧ acc.length + g ≤ 8 ∧ U64 q ∧ acc ++ le q g = le n m ∧ Below w.heap.size w wx)
  case atStart => exact ⟨n, [], rfl, rfl, rfl, hm, by simpa using hm, hn, rfl, Below.refl _ _⟩
  case round =>
    obtain ⟨q, acc, rfl, rfl, rfl, hg, hal, hq, hacc, hb⟩ := hrel
    clear hn
    have HB : Hid (Below w.heap.size w wr) := hb
    have HA : Hid (acc ++ le q gk = le n m) := hacc
    have hsz := ofL_size acc
    clear hb hacc
    by_cases h0 : gk = 0
    · subst h0
      go_wp2
      go_ret
      refine ⟨?_, HB.out⟩
      rw [← HA.out]; simp [le]
    · obtain ⟨k, rfl⟩ : ∃ k, gk = k + 1 := ⟨gk - 1, by omega⟩
      have hk : (0 : Int) < ((k + 1 : Nat) : Int) := by omega
      obtain ⟨Q, hQ⟩ : ∃ Q : Int, Q = (q : Int) := ⟨_, rfl⟩
      have HQ : Hid (Q = (q : Int)) := hQ
      have HQB : Hid (U64 q) := hq
      unfold U64 at hq
      have q0 : 0 ≤ Q := by omega
      have q1 : Q ≤ 18446744073709551615 := by omega
      have hstr := str1L wr (Q % 256) (by omega) (by omega)
      have h1z : (ofL [UInt8.ofNat (Q % 256).toNat]).size = 1 := rfl
      rw [← hQ]
      clear hQ hq
      go_wp2
      go_roundg k
      case measure => omega
      case rel =>
        have hQ := HQ.out
        have hqb := HQB.out
        unfold U64 at hqb
        refine ⟨q / 256, acc ++ [UInt8.ofNat q], by rw [hQ]; rfl, by go_num, ?_, by omega, by simp; omega, by unfold U64; omega, ?_, HB.out.alloc HB.out.size _⟩
        · rw [← ofL_append]
          have e : UInt8.ofNat (Q % 256).toNat = UInt8.ofNat q := by
            rw [hQ, show ((q : Int) % 256).toNat = q % 256 by omega, ← UInt8.toNat_inj]; simp
          rw [e]
        · rw [← HA.out, List.append_assoc]; rfl

set_option maxHeartbeats 1000000 in
theorem Size_any (n : Nat) (w : World) (hn : U64 n) :
    Calls Tryd.prog 39 #[.int .u64 (n : Int)] w fun x w' => x = .returned (.string (ofL (sizeL n))) ∧ Below w.heap.size w w' := by
  by_cases h1 : n < 253
  · have hc := bytes_any n 1 w hn (by omega)
    have e : sizeL n = le n 1 := by simp [sizeL, h1]
    rw [e]
    have i1 : (n : Int) < 253 := by omega
    go_enter Tryd.func39, Tryd.ntmps39
    go_wp2_with (go_at_call 38; go_must (refine hc.mono ?_); rintro x w1 ⟨rfl, hb⟩)
    go_ret
    exact ⟨rfl, hb⟩
  · have i1 : ¬ ((n : Int) < 253) := by omega
    by_cases h2 : n < 65536
    · have hc := bytes_any n 2 w hn (by omega)
      have e : sizeL n = 253 :: le n 2 := by simp [sizeL, h1, h2]
      have hl := ofL_size (le n 2)
      have hl2 := le_length n 2
      rw [hl2] at hl
      have ha := ofL_append [253] (le n 2)
      rw [e]
      have i2 : (n : Int) < 65536 := by omega
      go_enter Tryd.func39, Tryd.ntmps39
      go_wp2_with (go_at_call 38; go_must (refine hc.mono ?_); rintro x w1 ⟨rfl, hb⟩)
      go_ret
      exact ⟨by show _ = Ending.returned (Value.string (ofL ([253] ++ le n 2))); rw [← ha]; rfl, hb⟩
    · have i2 : ¬ ((n : Int) < 65536) := by omega
      by_cases h3 : n < 4294967296
      · have hc := bytes_any n 4 w hn (by omega)
        have e : sizeL n = 254 :: le n 4 := by simp [sizeL, h1, h2, h3]
        have hl := ofL_size (le n 4)
        have hl2 := le_length n 4
        rw [hl2] at hl
        have ha := ofL_append [254] (le n 4)
        rw [e]
        have i3 : (n : Int) < 4294967296 := by omega
        go_enter Tryd.func39, Tryd.ntmps39
        go_wp2_with (go_at_call 38; go_must (refine hc.mono ?_); rintro x w1 ⟨rfl, hb⟩)
        go_ret
        exact ⟨by show _ = Ending.returned (Value.string (ofL ([254] ++ le n 4))); rw [← ha]; rfl, hb⟩
      · have i3 : ¬ ((n : Int) < 4294967296) := by omega
        have hc := bytes_any n 8 w hn (by omega)
        have e : sizeL n = 255 :: le n 8 := by simp [sizeL, h1, h2, h3]
        have hl := ofL_size (le n 8)
        have hl2 := le_length n 8
        rw [hl2] at hl
        have ha := ofL_append [255] (le n 8)
        rw [e]
        go_enter Tryd.func39, Tryd.ntmps39
        go_wp2_with (go_at_call 38; go_must (refine hc.mono ?_); rintro x w1 ⟨rfl, hb⟩)
        go_ret
        exact ⟨by show _ = Ending.returned (Value.string (ofL ([255] ++ le n 8))); rw [← ha]; rfl, hb⟩
end Go.Proofs.YtkmalggeieiepaaDoor
namespace Go.Proofs.YtkmalggeieiepaaDoor
open Go.RowKit

/-- so many bytes follow a size's first. -/
def manyOf (c : UInt8) : Nat := if c = 253 then 2 else if c = 254 then 4 else if c = 255 then 8 else 0
def rSize (r : List UInt8 × Int) : Nat × (List UInt8 × Int) :=
  if r.2 ≠ 0 then (0, r)
  else match r.1 with
    | [] => (0, ([], 1))
    | c :: l =>
      if manyOf c = 0 then (c.toNat, (l, 0))
      else if l.length < manyOf c then (0, (l, 1))
      else (num (l.take (manyOf c)), (l.drop (manyOf c), if sizeL (num (l.take (manyOf c))) = c :: l.take (manyOf c) then 0 else 2))
theorem idx_one (c : UInt8) (W : World) : (Instr.index 9 (.string (ofL [c])) (.int .i64 0)).run Tryd.prog W = .ok (.int .u8 (c.toNat : Int)) W := by
  rw [run_index_string W 9 (ofL [c]) .i64 _ Tryd.underlying9, dif_pos ⟨by omega, by rw [ofL_size]; simp⟩]
  rfl

theorem text_ne {a b : ByteArray} (h : ¬ a = b) : (a.toList == b.toList) = false := by
  have k : ∀ s : ByteArray, s.toList = s.data.toList := fun s => by obtain ⟨⟨l⟩⟩ := s; simp
  rw [k, k, beq_eq_false_iff_ne]
  exact fun e => h (by rw [← ofL_of a, ← ofL_of b, e])
set_option maxRecDepth 10000 in
set_option maxHeartbeats 1000000 in
theorem size_any (g : Nat) (l : List UInt8) (e : Int) (w : World) (h : Rd w g l e) :
    Calls Tryd.prog 86 #[.pointer (some ⟨g, 0, none⟩)] w fun x w' => x = .returned (.int .u64 ((rSize (l, e)).1 : Int)) ∧ Rd w' g (rSize (l, e)).2.1 (rSize (l, e)).2.2 ∧ Mov g w w' := by
  have HR : Hid (Rd w g l e) := h
  clear h
  have hT := take_any g 1 l e w HR.out
  by_cases he : e = 0
  · subst he
    cases l with
    | nil =>
      have e1 : rTake 1 ([], 0) = ([], ([], 1)) := by simp [rTake]
      have e2 : rSize ([], 0) = (0, ([], 1)) := by simp [rSize]
      rw [e1] at hT
      rw [e2]
      go_enter Tryd.func86, Tryd.ntmps86
      go_upto_region 2 with (go_at_call 58; go_must (refine hT.mono ?_); rintro x w1 ⟨rfl, hr1, hm1⟩; have HR1 := (show Hid (Rd w1 g _ _) from hr1); have HM1 := (show Hid (Mov g w w1) from hm1); clear hr1 hm1)
      have d1 := HR1.out.e
      go_wp2
      go_ret
      exact ⟨rfl, HR1.out, HM1.out⟩
    | cons c l =>
      have e1 : rTake 1 (c :: l, 0) = ([c], (l, 0)) := by simp [rTake]
      rw [e1] at hT
      have hix := idx_one c
      by_cases hm : manyOf c = 0
      · have e2 : rSize (c :: l, 0) = (c.toNat, (l, 0)) := by simp [rSize, hm]
        rw [e2]
        have n1 : ¬ ((c.toNat : Int) = 253) := fun h => by
          have : c = 253 := by rw [← UInt8.toNat_inj]; simp; omega
          subst this; simp [manyOf] at hm
        have n2 : ¬ ((c.toNat : Int) = 254) := fun h => by
          have : c = 254 := by rw [← UInt8.toNat_inj]; simp; omega
          subst this; simp [manyOf] at hm
        have n3 : ¬ ((c.toNat : Int) = 255) := fun h => by
          have : c = 255 := by rw [← UInt8.toNat_inj]; simp; omega
          subst this; simp [manyOf] at hm
        have c0 : 0 ≤ (c.toNat : Int) := by omega
        have c1 : (c.toNat : Int) ≤ 255 := by have := c.toNat_lt; omega
        clear hm
        generalize (c.toNat : Int) = C at hix n1 n2 n3 c0 c1
        go_enter Tryd.func86, Tryd.ntmps86
        go_upto_region 2 with (go_at_call 58; go_must (refine hT.mono ?_); rintro x w1 ⟨rfl, hr1, hm1⟩; have HR1 := (show Hid (Rd w1 g _ _) from hr1); have HM1 := (show Hid (Mov g w w1) from hm1); clear hr1 hm1)
        have d1 := HR1.out.e
        go_wp2
        go_ret
        exact ⟨rfl, HR1.out, HM1.out⟩
      · have hc : (c = 253 ∧ manyOf c = 2) ∨ (c = 254 ∧ manyOf c = 4) ∨ (c = 255 ∧ manyOf c = 8) := by
          unfold manyOf at hm ⊢
          by_cases h1 : c = 253
          · simp [h1]
          · by_cases h2 : c = 254
            · simp [h2]
            · by_cases h3 : c = 255
              · simp [h3]
              · simp [h1, h2, h3] at hm
        have hm8 : manyOf c ≤ 8 := by omega
        have HT2 : Hid (∀ W : World, Rd W g l 0 → Calls Tryd.prog 58 #[.pointer (some ⟨g, 0, none⟩), .int .i64 (manyOf c : Int)] W fun x w' => x = .returned (.string (ofL (rTake (manyOf c) (l, 0)).1)) ∧ Rd w' g (rTake (manyOf c) (l, 0)).2.1 (rTake (manyOf c) (l, 0)).2.2 ∧ Mov g W w') := fun W hW => take_any g (manyOf c) l 0 W hW
        by_cases hlt : l.length < manyOf c
        · have e2 : rSize (c :: l, 0) = (0, (l, 1)) := by simp [rSize, hm, hlt]
          have e3 : rTake (manyOf c) (l, 0) = ([], (l, 1)) := by simp [rTake, hlt]
          have HN : Hid (∀ W : World, Calls Tryd.prog 93 #[.string (ofL [])] W fun x w' => x = .returned (.int .u64 0) ∧ w' = W) := fun W => number_any (ofL []) W (by simp [ofL_size])
          rw [e2]
          rw [e3] at HT2
          clear hlt hm hm8 e1 e2 e3
          rcases hc with ⟨rfl, hmm⟩ | ⟨rfl, hmm⟩ | ⟨rfl, hmm⟩
          all_goals
            rw [hmm] at HT2
            clear hmm
            go_enter Tryd.func86, Tryd.ntmps86
            go_upto_region 2 with (go_at_call 58; go_must (refine hT.mono ?_); rintro x w1 ⟨rfl, hr1, hm1⟩; have HR1 := (show Hid (Rd w1 g _ _) from hr1); have HM1 := (show Hid (Mov g w w1) from hm1); clear hr1 hm1)
            have d1 := HR1.out.e
            go_upto_region 14 with (go_at_call 58; go_must (refine (HT2.out _ HR1.out).mono ?_); rintro x w2 ⟨rfl, hr2, hm2⟩; have HR2 := (show Hid (Rd w2 g _ _) from hr2); have HM2 := (show Hid (Mov g w1 w2) from hm2); clear hr2 hm2 d1)
            have d2 := HR2.out.e
            go_wp2_with (go_at_call 93; go_must (refine (HN.out _).mono ?_); rintro x w3 ⟨rfl, rfl⟩)
            go_ret
            exact ⟨rfl, HR2.out, HM1.out.trans HM2.out⟩
        · have e3 : rTake (manyOf c) (l, 0) = (l.take (manyOf c), (l.drop (manyOf c), 0)) := by simp [rTake, hlt]
          have hul : (l.take (manyOf c)).length = manyOf c := by rw [List.length_take]; omega
          have HE : Hid (rSize (c :: l, 0) = (num (l.take (manyOf c)), (l.drop (manyOf c), if sizeL (num (l.take (manyOf c))) = c :: l.take (manyOf c) then 0 else 2))) := by show _ = _; simp [rSize, hm, hlt]
          rw [e3] at HT2
          generalize l.drop (manyOf c) = r at HT2 HE
          generalize l.take (manyOf c) = u at HT2 HE hul
          have hu8 : u.length ≤ 8 := by omega
          have hU : U64 (num u) := by
            have h1 := num_lt u
            have h2 : 256 ^ u.length ≤ 256 ^ 8 := Nat.pow_le_pow_right (by omega) hu8
            unfold U64; omega
          have HN : Hid (∀ W : World, Calls Tryd.prog 93 #[.string (ofL u)] W fun x w' => x = .returned (.int .u64 (num u : Int)) ∧ w' = W) := fun W => number_any (ofL u) W (by rw [ofL_size]; exact hu8)
          have HZ : Hid (∀ W : World, Calls Tryd.prog 39 #[.int .u64 (num u : Int)] W fun x w' => x = .returned (.string (ofL (sizeL (num u)))) ∧ Below W.heap.size W w') := fun W => Size_any (num u) W hU
          have hz1 : (ofL [c]).size = 1 := rfl
          have hz2 : (ofL u).size ≤ 8 := by rw [ofL_size]; exact hu8
          have hap := ofL_append [c] u
          obtain ⟨X, hX⟩ : ∃ X : Int, X = (num u : Int) := ⟨_, rfl⟩
          rw [← hX] at HN HZ
          have HX : Hid (X = (num u : Int)) := hX
          obtain ⟨Z, hZ⟩ : ∃ Z, Z = ofL (sizeL (num u)) := ⟨_, rfl⟩
          rw [← hZ] at HZ
          by_cases hsame : sizeL (num u) = c :: u
          · have hq : Z = ofL [c] ++ ofL u := by rw [hZ, hsame, hap]; rfl
            have e2 := HE.out
            rw [if_pos hsame] at e2
            rw [e2, ← hX]
            clear hlt hm hm8 e1 e2 e3 HE hX hZ hsame hap hul hu8 hU
            subst hq
            rcases hc with ⟨rfl, hmm⟩ | ⟨rfl, hmm⟩ | ⟨rfl, hmm⟩
            all_goals
              rw [hmm] at HT2
              clear hmm
              go_enter Tryd.func86, Tryd.ntmps86
              go_upto_region 2 with (go_at_call 58; go_must (refine hT.mono ?_); rintro x w1 ⟨rfl, hr1, hm1⟩; have HR1 := (show Hid (Rd w1 g _ _) from hr1); have HM1 := (show Hid (Mov g w w1) from hm1); clear hr1 hm1)
              have d1 := HR1.out.e
              go_upto_region 14 with (go_at_call 58; go_must (refine (HT2.out _ HR1.out).mono ?_); rintro x w2 ⟨rfl, hr2, hm2⟩; have HR2 := (show Hid (Rd w2 g _ _) from hr2); have HM2 := (show Hid (Mov g w1 w2) from hm2); clear hr2 hm2 d1)
              have d2 := HR2.out.e
              go_wp2_with (first | (go_at_call 93; go_must (refine (HN.out _).mono ?_); rintro x w3 ⟨rfl, rfl⟩) | (go_at_call 39; go_must (refine (HZ.out _).mono ?_); rintro x w3 ⟨rfl, hb3⟩; have HR3 := (show Hid (Rd w3 g _ _) from HR2.out.later hb3); have HM3 := (show Hid (Mov g _ w3) from Below.mov hb3 g); clear hb3 d2; have d3 := HR3.out.e))
              go_ret
              exact ⟨rfl, HR3.out, HM1.out.trans (HM2.out.trans HM3.out)⟩
          · have hq : (Z.toList == (ofL [c] ++ ofL u).toList) = false := text_ne (fun h => hsame (ofL_inj (by rw [← hZ, h, hap]; rfl)))
            have e2 := HE.out
            rw [if_neg hsame] at e2
            rw [e2, ← hX]
            clear hlt hm hm8 e1 e2 e3 HE hX hZ hsame hap hul hu8 hU
            have HW : Hid (∀ W : World, Rd W g r 0 → Calls Tryd.prog 60 #[.pointer (some ⟨g, 0, none⟩), .int .i64 2] W fun x w' => x = .returned (.tuple #[]) ∧ Rd w' g r 2 ∧ Mov g W w') := fun W hW => wrong_any g 2 r 0 W hW
            rcases hc with ⟨rfl, hmm⟩ | ⟨rfl, hmm⟩ | ⟨rfl, hmm⟩
            all_goals
              rw [hmm] at HT2
              clear hmm
              go_enter Tryd.func86, Tryd.ntmps86
              go_upto_region 2 with (go_at_call 58; go_must (refine hT.mono ?_); rintro x w1 ⟨rfl, hr1, hm1⟩; have HR1 := (show Hid (Rd w1 g _ _) from hr1); have HM1 := (show Hid (Mov g w w1) from hm1); clear hr1 hm1)
              have d1 := HR1.out.e
              go_upto_region 14 with (go_at_call 58; go_must (refine (HT2.out _ HR1.out).mono ?_); rintro x w2 ⟨rfl, hr2, hm2⟩; have HR2 := (show Hid (Rd w2 g _ _) from hr2); have HM2 := (show Hid (Mov g w1 w2) from hm2); clear hr2 hm2 d1)
              have d2 := HR2.out.e
              go_wp2_with (first | (go_at_call 93; go_must (refine (HN.out _).mono ?_); rintro x w3 ⟨rfl, rfl⟩) | (go_at_call 39; go_must (refine (HZ.out _).mono ?_); rintro x w3 ⟨rfl, hb3⟩; have HR3 := (show Hid (Rd w3 g _ _) from HR2.out.later hb3); have HM3 := (show Hid (Mov g _ w3) from Below.mov hb3 g); clear hb3 d2; have d3 := HR3.out.e) | (go_at_call 60; go_must (refine (HW.out _ HR3.out).mono ?_); rintro x w4 ⟨rfl, hr4, hm4⟩; have HR4 := (show Hid (Rd w4 g _ _) from hr4); have HM4 := (show Hid (Mov g w3 w4) from hm4); clear hr4 hm4))
              go_ret
              exact ⟨rfl, HR4.out, HM1.out.trans (HM2.out.trans (HM3.out.trans HM4.out))⟩
  · have e1 : rTake 1 (l, e) = ([], (l, e)) := by simp [rTake, he]
    have e2 : rSize (l, e) = (0, (l, e)) := by simp [rSize, he]
    rw [e1] at hT
    rw [e2]
    go_enter Tryd.func86, Tryd.ntmps86
    go_upto_region 2 with (go_at_call 58; go_must (refine hT.mono ?_); rintro x w1 ⟨rfl, hr1, hm1⟩; have HR1 := (show Hid (Rd w1 g _ _) from hr1); have HM1 := (show Hid (Mov g w w1) from hm1); clear hr1 hm1)
    have d1 := HR1.out.e
    go_wp2
    go_ret
    exact ⟨rfl, HR1.out, HM1.out⟩
end Go.Proofs.YtkmalggeieiepaaDoor
namespace Go.Proofs.YtkmalggeieiepaaDoor
open Go.RowKit

def rWithin (lo hi : Nat) (r : List UInt8 × Int) : Nat × (List UInt8 × Int) :=
  if (rSize r).2.2 ≠ 0 then (0, (rSize r).2) else if (rSize r).1 < lo ∨ hi < (rSize r).1 then (0, ((rSize r).2.1, 3)) else rSize r
def rDone (r : List UInt8 × Int) : List UInt8 × Int := if r.2 = 0 ∧ r.1 ≠ [] then (r.1, 5) else r

theorem rTake_le (n : Nat) (r : List UInt8 × Int) : (rTake n r).2.1.length ≤ r.1.length := by
  unfold rTake
  split
  · exact Nat.le_refl _
  · split
    · exact Nat.le_refl _
    · simp
theorem rSize_le (r : List UInt8 × Int) : (rSize r).2.1.length ≤ r.1.length := by
  obtain ⟨l, e⟩ := r
  unfold rSize
  split
  · exact Nat.le_refl _
  · cases l with
    | nil => exact Nat.le_refl _
    | cons c l =>
      show (if manyOf c = 0 then _ else _ : Nat × (List UInt8 × Int)).2.1.length ≤ _
      split
      · simp
      · split
        · simp
        · simp; omega
theorem rWithin_le (lo hi : Nat) (r : List UInt8 × Int) : (rWithin lo hi r).2.1.length ≤ r.1.length := by
  have h := rSize_le r
  unfold rWithin
  split
  · exact h
  · split
    · exact h
    · exact h
theorem rWithin_hi (lo hi : Nat) (r : List UInt8 × Int) : (rWithin lo hi r).1 ≤ hi := by
  unfold rWithin
  split
  · exact Nat.zero_le _
  · split
    · exact Nat.zero_le _
    · omega

set_option maxRecDepth 10000 in
set_option maxHeartbeats 1000000 in
theorem within_any (g lo hi : Nat) (l : List UInt8) (e : Int) (w : World) (h : Rd w g l e) (hlo : lo ≤ 1048576) (hhi : hi ≤ 1048576) :
    Calls Tryd.prog 59 #[.pointer (some ⟨g, 0, none⟩), .int .i64 (lo : Int), .int .i64 (hi : Int)] w fun x w' => x = .returned (.int .i64 ((rWithin lo hi (l, e)).1 : Int)) ∧ Rd w' g (rWithin lo hi (l, e)).2.1 (rWithin lo hi (l, e)).2.2 ∧ Mov g w w' := by
  have hS := size_any g l e w h
  have HE : Hid (rWithin lo hi (l, e) = if (rSize (l, e)).2.2 ≠ 0 then (0, (rSize (l, e)).2) else if (rSize (l, e)).1 < lo ∨ hi < (rSize (l, e)).1 then (0, ((rSize (l, e)).2.1, 3)) else rSize (l, e)) := rfl
  clear h
  generalize rSize (l, e) = p at hS HE
  obtain ⟨x, m, c⟩ := p
  obtain ⟨X, hX⟩ : ∃ X : Int, X = (x : Int) := ⟨_, rfl⟩
  have HX : Hid (X = (x : Int)) := hX
  have L0 : (0 : Int) ≤ (lo : Int) := by omega
  have L1 : (lo : Int) ≤ 1048576 := by omega
  have M0 : (0 : Int) ≤ (hi : Int) := by omega
  have M1 : (hi : Int) ≤ 1048576 := by omega
  have X0 : 0 ≤ X := by omega
  have HS : Hid (Calls Tryd.prog 86 #[.pointer (some ⟨g, 0, none⟩)] w fun x w' => x = .returned (.int .u64 X) ∧ Rd w' g m c ∧ Mov g w w') := by rw [hX]; exact hS
  clear hS
  by_cases hc : c = 0
  · subst hc
    have HW : Hid (∀ W : World, Rd W g m 0 → Calls Tryd.prog 60 #[.pointer (some ⟨g, 0, none⟩), .int .i64 3] W fun x w' => x = .returned (.tuple #[]) ∧ Rd w' g m 3 ∧ Mov g W w') := fun W hW => wrong_any g 3 m 0 W hW
    by_cases h1 : x < lo
    · have e2 : rWithin lo hi (l, e) = (0, (m, 3)) := by rw [HE.out]; simp [h1]
      rw [e2]
      have i1 : X < (lo : Int) := by omega
      clear h1 e2 HE hX
      generalize (lo : Int) = LO at *
      generalize (hi : Int) = HI at *
      go_enter Tryd.func59, Tryd.ntmps59
      go_upto_region 2 with (go_at_call 86; go_must (refine HS.out.mono ?_); rintro x w1 ⟨rfl, hr1, hm1⟩; have HR1 := (show Hid (Rd w1 g _ _) from hr1); have HM1 := (show Hid (Mov g w w1) from hm1); clear hr1 hm1)
      have d1 := HR1.out.e
      go_upto_region 4 with (go_at_call 60; go_must (refine (HW.out _ HR1.out).mono ?_); rintro x w4 ⟨rfl, hr4, hm4⟩; have HR4 := (show Hid (Rd w4 g _ _) from hr4); have HM4 := (show Hid (Mov g w1 w4) from hm4); clear hr4 hm4)
      have d4 := HR4.out.e
      go_wp2
      go_ret
      exact ⟨rfl, HR4.out, HM1.out.trans HM4.out⟩
    · by_cases h2 : hi < x
      · have e2 : rWithin lo hi (l, e) = (0, (m, 3)) := by rw [HE.out]; simp [h2]
        rw [e2]
        have i1 : (lo : Int) ≤ X := by omega
        have i2 : (hi : Int) < X := by omega
        clear h1 h2 e2 HE hX
        generalize (lo : Int) = LO at *
        generalize (hi : Int) = HI at *
        go_enter Tryd.func59, Tryd.ntmps59
        go_upto_region 2 with (go_at_call 86; go_must (refine HS.out.mono ?_); rintro x w1 ⟨rfl, hr1, hm1⟩; have HR1 := (show Hid (Rd w1 g _ _) from hr1); have HM1 := (show Hid (Mov g w w1) from hm1); clear hr1 hm1)
        have d1 := HR1.out.e
        go_upto_region 4 with (go_at_call 60; go_must (refine (HW.out _ HR1.out).mono ?_); rintro x w4 ⟨rfl, hr4, hm4⟩; have HR4 := (show Hid (Rd w4 g _ _) from hr4); have HM4 := (show Hid (Mov g w1 w4) from hm4); clear hr4 hm4)
        have d4 := HR4.out.e
        go_wp2
        go_ret
        exact ⟨rfl, HR4.out, HM1.out.trans HM4.out⟩
      · have e2 : rWithin lo hi (l, e) = (x, (m, 0)) := by rw [HE.out]; simp [h1, h2]
        rw [e2, ← hX]
        have i1 : (lo : Int) ≤ X := by omega
        have i2 : X ≤ (hi : Int) := by omega
        clear h1 h2 e2 HE hX
        generalize (lo : Int) = LO at *
        generalize (hi : Int) = HI at *
        go_enter Tryd.func59, Tryd.ntmps59
        go_upto_region 2 with (go_at_call 86; go_must (refine HS.out.mono ?_); rintro x w1 ⟨rfl, hr1, hm1⟩; have HR1 := (show Hid (Rd w1 g _ _) from hr1); have HM1 := (show Hid (Mov g w w1) from hm1); clear hr1 hm1)
        have d1 := HR1.out.e
        go_wp2
        go_ret
        exact ⟨rfl, HR1.out, HM1.out⟩
  · have e2 : rWithin lo hi (l, e) = (0, (m, c)) := by rw [HE.out]; simp [hc]
    rw [e2]
    clear e2 HE hX
    go_enter Tryd.func59, Tryd.ntmps59
    go_upto_region 2 with (go_at_call 86; go_must (refine HS.out.mono ?_); rintro x w1 ⟨rfl, hr1, hm1⟩; have HR1 := (show Hid (Rd w1 g _ _) from hr1); have HM1 := (show Hid (Mov g w w1) from hm1); clear hr1 hm1)
    have d1 := HR1.out.e
    go_wp2
    go_ret
    exact ⟨rfl, HR1.out, HM1.out⟩

set_option maxHeartbeats 1000000 in
theorem done_any (g : Nat) (l : List UInt8) (e : Int) (w : World) (h : Rd w g l e) :
    Calls Tryd.prog 29 #[.pointer (some ⟨g, 0, none⟩)] w fun x w' => x = .returned (.int .i64 (rDone (l, e)).2) ∧ Rd w' g (rDone (l, e)).1 (rDone (l, e)).2 ∧ Mov g w w' := by
  have HR : Hid (Rd w g l e) := h
  have d0 := h.e
  have d1 := h.s
  clear h
  by_cases he : e = 0
  · subst he
    cases l with
    | nil =>
      have e2 : rDone ([], 0) = ([], 0) := by simp [rDone]
      rw [e2]
      have hn : (ofL []).toList = [] := by
        have k : ∀ s : ByteArray, s.toList = s.data.toList := fun s => by obtain ⟨⟨l⟩⟩ := s; simp
        rw [k]; rfl
      go_enter Tryd.func29, Tryd.ntmps29
      go_wp2
      go_ret
      exact ⟨rfl, HR.out, Mov.refl g w⟩
    | cons c l =>
      have e2 : rDone (c :: l, 0) = (c :: l, 5) := by simp [rDone]
      rw [e2]
      have hn : ((ofL (c :: l)).toList.isEmpty) = false := by
        have k : ∀ s : ByteArray, s.toList = s.data.toList := fun s => by obtain ⟨⟨l⟩⟩ := s; simp
        rw [k]; rfl
      have hn2 : ((ofL (c :: l)).toList == (⟨#[]⟩ : ByteArray).toList) = false := text_ne (fun h => by have := congrArg ByteArray.size h; rw [ofL_size] at this; simp at this; exact absurd this (by simp [ByteArray.size]))
      have HW : Hid (Calls Tryd.prog 60 #[.pointer (some ⟨g, 0, none⟩), .int .i64 5] w fun x w' => x = .returned (.tuple #[]) ∧ Rd w' g (c :: l) 5 ∧ Mov g w w') := wrong_any g 5 (c :: l) 0 w HR.out
      go_enter Tryd.func29, Tryd.ntmps29
      go_upto_region 3 with (go_at_call 60; go_must (refine HW.out.mono ?_); rintro x w4 ⟨rfl, hr4, hm4⟩; have HR4 := (show Hid (Rd w4 g _ _) from hr4); have HM4 := (show Hid (Mov g w w4) from hm4); clear hr4 hm4)
      have d4 := HR4.out.e
      go_wp2
      go_ret
      exact ⟨rfl, HR4.out, HM4.out⟩
  · have e2 : rDone (l, e) = (l, e) := by simp [rDone, he]
    rw [e2]
    go_enter Tryd.func29, Tryd.ntmps29
    go_wp2
    go_ret
    exact ⟨rfl, HR.out, Mov.refl g w⟩
end Go.Proofs.YtkmalggeieiepaaDoor
namespace Go.Proofs.YtkmalggeieiepaaDoor
open Go.RowKit

/-- a script, whose size is told ahead. -/
def rScript (r : List UInt8 × Int) : List UInt8 × Int := (rTake (rWithin 0 40 r).1 (rWithin 0 40 r).2).2
def rIn (r : List UInt8 × Int) : List UInt8 × Int := (rTake 4 (rScript (rTake 36 r).2)).2
def rOut (r : List UInt8 × Int) : List UInt8 × Int := rScript (rTake 8 r).2
def rep (f : List UInt8 × Int → List UInt8 × Int) : Nat → List UInt8 × Int → List UInt8 × Int
  | 0, r => r
  | n + 1, r => rep f n (f r)
def rIns (r : List UInt8 × Int) : List UInt8 × Int := rep rIn (rWithin 1 4 r).1 (rWithin 1 4 r).2
def rOuts (r : List UInt8 × Int) : List UInt8 × Int := rep rOut (rWithin 1 4 r).1 (rWithin 1 4 r).2
def rTx (r : List UInt8 × Int) : List UInt8 × Int := (rTake 4 (rOuts (rIns (rTake 4 r).2))).2
theorem rScript_le (r : List UInt8 × Int) : (rScript r).1.length ≤ r.1.length := Nat.le_trans (rTake_le _ _) (rWithin_le _ _ _)
theorem rIn_le (r : List UInt8 × Int) : (rIn r).1.length ≤ r.1.length := Nat.le_trans (rTake_le _ _) (Nat.le_trans (rScript_le _) (rTake_le _ _))
theorem rOut_le (r : List UInt8 × Int) : (rOut r).1.length ≤ r.1.length := Nat.le_trans (rScript_le _) (rTake_le _ _)
theorem rep_le (f : List UInt8 × Int → List UInt8 × Int) (hf : ∀ r, (f r).1.length ≤ r.1.length) (n : Nat) : ∀ r, (rep f n r).1.length ≤ r.1.length := by
  induction n with
  | zero => intro r; exact Nat.le_refl _
  | succ n ih => intro r; exact Nat.le_trans (ih _) (hf r)
theorem rTx_le (r : List UInt8 × Int) : (rTx r).1.length ≤ r.1.length :=
  Nat.le_trans (rTake_le _ _) (Nat.le_trans (rep_le rOut rOut_le _ _) (Nat.le_trans (rWithin_le _ _ _) (Nat.le_trans (rep_le rIn rIn_le _ _) (Nat.le_trans (rWithin_le _ _ _) (rTake_le _ _)))))

theorem take_p (g n : Nat) (r : List UInt8 × Int) (w : World) (h : Rd w g r.1 r.2) :
    Calls Tryd.prog 58 #[.pointer (some ⟨g, 0, none⟩), .int .i64 (n : Int)] w fun x w' => x = .returned (.string (ofL (rTake n r).1)) ∧ Rd w' g (rTake n r).2.1 (rTake n r).2.2 ∧ Mov g w w' := take_any g n r.1 r.2 w h
theorem within_p (g lo hi : Nat) (r : List UInt8 × Int) (w : World) (h : Rd w g r.1 r.2) (hlo : lo ≤ 1048576) (hhi : hi ≤ 1048576) :
    Calls Tryd.prog 59 #[.pointer (some ⟨g, 0, none⟩), .int .i64 (lo : Int), .int .i64 (hi : Int)] w fun x w' => x = .returned (.int .i64 ((rWithin lo hi r).1 : Int)) ∧ Rd w' g (rWithin lo hi r).2.1 (rWithin lo hi r).2.2 ∧ Mov g w w' := within_any g lo hi r.1 r.2 w h hlo hhi

set_option maxRecDepth 10000 in
set_option maxHeartbeats 2000000 in
theorem tx_any (g : Nat) (l : List UInt8) (e : Int) (w : World) (h : Rd w g l e) (hl : l.length ≤ maxLen) :
    Calls Tryd.prog 28 #[.pointer (some ⟨g, 0, none⟩)] w fun x w' => x = .returned (.string (ofL (l.take (l.length - (rTx (l, e)).1.length)))) ∧ Rd w' g (rTx (l, e)).1 (rTx (l, e)).2 ∧ Mov g w w' := by
  have HR : Hid (Rd w g l e) := h
  have d0 := h.s
  clear h
  go_enter Tryd.func28, Tryd.ntmps28
  go_upto_region 3 with (go_at_call 58; go_must (refine (take_p g 4 (l, e) _ HR.out).mono ?_); rintro x w1 ⟨rfl, hr1, hm1⟩; have HR1 := (show Hid (Rd w1 g (rTake 4 (l, e)).2.1 (rTake 4 (l, e)).2.2) from hr1); have HM1 := (show Hid (Mov g w w1) from hm1); clear hr1 hm1)
  obtain ⟨r1, E1⟩ : ∃ r, Hid (r = (rTake 4 (l, e)).2) := ⟨_, rfl⟩
  rw [← E1.out] at HR1
  go_upto_region 4 with (go_at_call 59; go_must (refine (within_p g 1 4 r1 _ HR1.out (by omega) (by omega)).mono ?_); rintro x w2 ⟨rfl, hr2, hm2⟩; have HR2 := (show Hid (Rd w2 g (rWithin 1 4 r1).2.1 (rWithin 1 4 r1).2.2) from hr2); have HM2 := (show Hid (Mov g w1 w2) from hm2); clear hr2 hm2)
  have HM12 : Hid (Mov g w w2) := HM1.out.trans HM2.out
  obtain ⟨R2, E2⟩ : ∃ R, Hid (R = rIns r1) := ⟨_, rfl⟩
  have EP : Hid (rep rIn (rWithin 1 4 r1).1 (rWithin 1 4 r1).2 = R2) := E2.out.symm
  have hn4 := rWithin_hi 1 4 r1
  clear HM1 HM2 HR1 HR
  generalize rWithin 1 4 r1 = p1 at HR2 EP hn4
  obtain ⟨n1, r2⟩ := p1
  have hn4' : n1 ≤ 4 := hn4
  clear hn4
  go_loopg [4] n1 (fun g' nv wx => ∃ r : List UInt8 × Int, nv = .int .i64 (g' : Int) ∧ g' ≤ 4 ∧ rep rIn g' r = R2 ∧ Rd wx g r.1 r.2 ∧ Mov g w wx)
  case atStart => exact ⟨r2, rfl, hn4', EP.out, HR2.out, HM12.out⟩
  case round =>
    clear HM12 HR2 EP hn4'
    obtain ⟨r, rfl, hg4, hrep, hrd, hmv⟩ := hrel
    have HRr : Hid (Rd wr g r.1 r.2) := hrd
    have HMr : Hid (Mov g w wr) := hmv
    have HRE : Hid (rep rIn gk r = R2) := hrep
    clear hrd hmv hrep
    by_cases h0 : gk = 0
    · subst h0
      go_upto_region 10 with (go_at_call 59; go_must (refine (within_p g 1 4 r _ HRr.out (by omega) (by omega)).mono ?_); rintro x w3 ⟨rfl, hr, hm⟩; have HR3 := (show Hid (Rd w3 g (rWithin 1 4 r).2.1 (rWithin 1 4 r).2.2) from hr); have HM3 := (show Hid (Mov g wr w3) from hm); clear hr hm)
      have HM13 : Hid (Mov g w w3) := HMr.out.trans HM3.out
      have hr2 : Hid (r = R2) := HRE.out
      rw [hr2.out] at HR3
      rw [hr2.out]
      obtain ⟨R3, E3⟩ : ∃ R, Hid (R = rOuts R2) := ⟨_, rfl⟩
      have EP : Hid (rep rOut (rWithin 1 4 R2).1 (rWithin 1 4 R2).2 = R3) := E3.out.symm
      have hn4 := rWithin_hi 1 4 R2
      clear HMr HM3 HRr HRE hr2
      generalize rWithin 1 4 R2 = p2 at HR3 EP hn4
      obtain ⟨n2, r3⟩ := p2
      have hn4' : n2 ≤ 4 := hn4
      clear hn4
      go_loopg [5] n2 (fun g' nv wx => ∃ r : List UInt8 × Int, nv = .int .i64 (g' : Int) ∧ g' ≤ 4 ∧ rep rOut g' r = R3 ∧ Rd wx g r.1 r.2 ∧ Mov g w wx)
      case atStart => exact ⟨r3, rfl, hn4', EP.out, HR3.out, HM13.out⟩
      case round =>
        clear HM13 HR3 EP hn4'
        obtain ⟨r, rfl, hg4, hrep, hrd, hmv⟩ := hrel
        have HRr : Hid (Rd wr g r.1 r.2) := hrd
        have HMr : Hid (Mov g w wr) := hmv
        have HRE : Hid (rep rOut gk r = R3) := hrep
        clear hrd hmv hrep
        by_cases h0 : gk = 0
        · subst h0
          have hr3 : Hid (r = R3) := HRE.out
          rw [hr3.out] at HRr
          go_upto_region 15 with (go_at_call 58; go_must (refine (take_p g 4 R3 _ HRr.out).mono ?_); rintro x w5 ⟨rfl, hr, hm⟩; have HR5 := (show Hid (Rd w5 g (rTake 4 R3).2.1 (rTake 4 R3).2.2) from hr); have HM5 := (show Hid (Mov g wr w5) from hm); clear hr hm)
          have HTX : Hid (rTx (l, e) = (rTake 4 R3).2) := by show _ = _; rw [E3.out, E2.out, E1.out]; rfl
          have hle := rTx_le (l, e)
          rw [HTX.out] at hle
          generalize (rTake 4 R3).2 = f at HR5 hle HTX
          obtain ⟨m, c⟩ := f
          have hle' : m.length ≤ l.length := hle
          have d5 : w5.cell? ⟨g, 0, none⟩ = some (.string (ofL m)) := HR5.out.s
          have z1 := ofL_size l
          have z2 := ofL_size m
          obtain ⟨D, hD⟩ : ∃ D, D = l.length - m.length := ⟨_, rfl⟩
          have hDi : (l.length : Int) - (m.length : Int) = (D : Int) := by omega
          have hw64 : wrap64 (D : Int) = (D : Int) := by unfold wrap64; unfold maxLen at hl; omega
          have x1 : (ofL l).extract 0 D = ofL (l.take D) := by rw [ofL_extract]; simp
          have hDl : (D : Int) ≤ (l.length : Int) := by omega
          have HFIN : Hid (Mov g w w5) := HMr.out.trans HM5.out
          have HD : Hid (D = l.length - m.length) := hD
          clear hle hle' HMr HM5 HRr HRE hr3 hD
          go_wp2
          go_ret
          rw [HTX.out]
          refine ⟨?_, HR5.out, HFIN.out⟩
          show _ = Ending.returned (.string (ofL (l.take (l.length - m.length))))
          rw [← HD.out]; rfl
        · obtain ⟨k, rfl⟩ : ∃ k, gk = k + 1 := ⟨gk - 1, by omega⟩
          have hk : (0 : Int) < ((k + 1 : Nat) : Int) := by omega
          go_upto_region 13 with (go_at_call 58; go_must (refine (take_p g 8 r _ HRr.out).mono ?_); rintro x wa ⟨rfl, hr, hm⟩; have HRa := (show Hid (Rd wa g (rTake 8 r).2.1 (rTake 8 r).2.2) from hr); have HMa := (show Hid (Mov g wr wa) from hm); clear hr hm)
          obtain ⟨ra, EA⟩ : ∃ R, Hid (R = (rTake 8 r).2) := ⟨_, rfl⟩
          rw [← EA.out] at HRa
          go_upto_region 11 with (first | (go_at_call 59; go_must (refine (within_p g 0 40 ra _ HRa.out (by omega) (by omega)).mono ?_); rintro x wb ⟨rfl, hr, hm⟩; have HRb := (show Hid (Rd wb g (rWithin 0 40 ra).2.1 (rWithin 0 40 ra).2.2) from hr); have HMb := (show Hid (Mov g wa wb) from hm); clear hr hm) | (go_at_call 58; go_must (refine (take_p g (rWithin 0 40 ra).1 (rWithin 0 40 ra).2 _ HRb.out).mono ?_); rintro x wd ⟨rfl, hr, hm⟩; have HRd := (show Hid (Rd wd g (rTake (rWithin 0 40 ra).1 (rWithin 0 40 ra).2).2.1 (rTake (rWithin 0 40 ra).1 (rWithin 0 40 ra).2).2.2) from hr); have HMd := (show Hid (Mov g wb wd) from hm); clear hr hm))
          go_wp2
          go_roundg k
          case measure => omega
          case rel =>
            refine ⟨rOut r, by go_num, by omega, HRE.out, ?_, HMr.out.trans (HMa.out.trans (HMb.out.trans HMd.out))⟩
            have e : rOut r = rScript ra := by rw [EA.out]; rfl
            rw [e]; exact HRd.out
    · obtain ⟨k, rfl⟩ : ∃ k, gk = k + 1 := ⟨gk - 1, by omega⟩
      have hk : (0 : Int) < ((k + 1 : Nat) : Int) := by omega
      go_upto_region 7 with (go_at_call 58; go_must (refine (take_p g 36 r _ HRr.out).mono ?_); rintro x wa ⟨rfl, hr, hm⟩; have HRa := (show Hid (Rd wa g (rTake 36 r).2.1 (rTake 36 r).2.2) from hr); have HMa := (show Hid (Mov g wr wa) from hm); clear hr hm)
      obtain ⟨ra, EA⟩ : ∃ R, Hid (R = (rTake 36 r).2) := ⟨_, rfl⟩
      rw [← EA.out] at HRa
      obtain ⟨pb, EB⟩ : ∃ R, Hid (R = rWithin 0 40 ra) := ⟨_, rfl⟩
      go_upto_region 8 with (first | (go_at_call 59; go_must (refine (within_p g 0 40 ra _ HRa.out (by omega) (by omega)).mono ?_); rintro x wb ⟨rfl, hr, hm⟩; have HRb := (show Hid (Rd wb g (rWithin 0 40 ra).2.1 (rWithin 0 40 ra).2.2) from hr); have HMb := (show Hid (Mov g wa wb) from hm); clear hr hm) | (go_at_call 58; go_must (refine (take_p g (rWithin 0 40 ra).1 (rWithin 0 40 ra).2 _ HRb.out).mono ?_); rintro x wd ⟨rfl, hr, hm⟩; have HRd := (show Hid (Rd wd g (rTake (rWithin 0 40 ra).1 (rWithin 0 40 ra).2).2.1 (rTake (rWithin 0 40 ra).1 (rWithin 0 40 ra).2).2.2) from hr); have HMd := (show Hid (Mov g wb wd) from hm); clear hr hm))
      obtain ⟨rd, ED⟩ : ∃ R, Hid (R = rScript ra) := ⟨_, rfl⟩
      have HRd2 : Hid (Rd wd g rd.1 rd.2) := by rw [ED.out]; exact HRd.out
      go_upto_region 5 with (go_at_call 58; go_must (refine (take_p g 4 rd _ HRd2.out).mono ?_); rintro x wf ⟨rfl, hr, hm⟩; have HRf := (show Hid (Rd wf g (rTake 4 rd).2.1 (rTake 4 rd).2.2) from hr); have HMf := (show Hid (Mov g wd wf) from hm); clear hr hm)
      go_wp2
      go_roundg k
      case measure => omega
      case rel =>
        refine ⟨rIn r, by go_num, by omega, HRE.out, ?_, HMr.out.trans (HMa.out.trans (HMb.out.trans (HMd.out.trans HMf.out)))⟩
        have e : rIn r = (rTake 4 rd).2 := by rw [ED.out, EA.out]; rfl
        rw [e]; exact HRf.out
end Go.Proofs.YtkmalggeieiepaaDoor
namespace Go.Proofs.YtkmalggeieiepaaDoor
open Go.RowKit

/-- what is wrong with these bytes, as a transaction. -/
def txErr (l : List UInt8) : Int := (rDone (rTx (l, 0))).2
theorem Rd.new (w : World) (s : ByteArray) (T : Nat) : Rd (w.alloc (.cells #[.string s, .int .i64 0] T)) w.heap.size s.data.toList 0 := by
  refine ⟨?_, ?_, ?_, ?_⟩
  · rw [ofL_of]; simp [go_sem]
  · simp [go_sem]
  · simp [go_sem]
  · simp [go_sem]

set_option maxHeartbeats 1000000 in
theorem Tx_any (s : ByteArray) (w : World) (hl : s.size ≤ maxLen) :
    Calls Tryd.prog 12 #[.string s] w fun x w' => x = .returned (.int .i64 (txErr s.data.toList)) ∧ Below w.heap.size w w' := by
  obtain ⟨W0, hW0⟩ : ∃ W, W = w.alloc (.cells #[.string s, .int .i64 0] 57) := ⟨_, rfl⟩
  have HR0 : Hid (Rd W0 w.heap.size s.data.toList 0) := by show Rd _ _ _ _; rw [hW0]; exact Rd.new w s _
  have HT : Hid (Calls Tryd.prog 28 #[.pointer (some ⟨w.heap.size, 0, none⟩)] W0 fun x w' => x = .returned (.string (ofL (s.data.toList.take (s.data.toList.length - (rTx (s.data.toList, 0)).1.length)))) ∧ Rd w' w.heap.size (rTx (s.data.toList, 0)).1 (rTx (s.data.toList, 0)).2 ∧ Mov w.heap.size W0 w') := tx_any w.heap.size s.data.toList 0 W0 HR0.out hl
  have HB0 : Hid (Below w.heap.size w W0) := by show Below _ _ _; rw [hW0]; exact (Below.refl _ _).alloc (Nat.le_refl _) _
  have HE : Hid (txErr s.data.toList = (rDone (rTx (s.data.toList, 0))).2) := rfl
  generalize ofL (s.data.toList.take (s.data.toList.length - (rTx (s.data.toList, 0)).1.length)) = t0 at HT
  generalize rTx (s.data.toList, 0) = p at HT HE
  obtain ⟨m, c⟩ := p
  go_enter Tryd.func12, Tryd.ntmps12
  go_upto_region 2 with fail
  rw [← hW0]
  clear hW0
  go_upto_region 3 with (go_at_call 28; go_must (refine HT.out.mono ?_); rintro x w1 ⟨rfl, hr1, hm1⟩; have HR1 := (show Hid (Rd w1 w.heap.size m c) from hr1); have HM1 := (show Hid (Mov w.heap.size W0 w1) from hm1); clear hr1 hm1)
  go_wp2_with (go_at_call 29; go_must (refine (done_any w.heap.size m c _ HR1.out).mono ?_); rintro x w2 ⟨rfl, hr2, hm2⟩; have HM2 := (show Hid (Mov w.heap.size w1 w2) from hm2); clear hr2 hm2)
  go_ret
  refine ⟨by rw [HE.out]; rfl, HB0.out.trans ?_⟩
  exact (HM1.out.trans HM2.out).below (Nat.le_refl _) HB0.out.size
end Go.Proofs.YtkmalggeieiepaaDoor
namespace Go.Proofs.YtkmalggeieiepaaDoor
open Go.RowKit

/-- what ends well has begun well, and has eaten no more than so many bytes. -/
def Eats (n : Nat) (f : List UInt8 × Int → List UInt8 × Int) : Prop := ∀ r, (f r).2 = 0 → r.2 = 0 ∧ r.1.length ≤ (f r).1.length + n
theorem Eats.mono {n m : Nat} {f : List UInt8 × Int → List UInt8 × Int} (h : Eats n f) (hm : n ≤ m) : Eats m f := fun r hr => ⟨(h r hr).1, by have := (h r hr).2; omega⟩
theorem Eats.comp {n m : Nat} {f g : List UInt8 × Int → List UInt8 × Int} (hf : Eats n f) (hg : Eats m g) : Eats (n + m) (fun r => g (f r)) := fun r hr => by
  obtain ⟨h1, h2⟩ := hg (f r) hr
  obtain ⟨h3, h4⟩ := hf r h1
  exact ⟨h3, by show r.1.length ≤ (g (f r)).1.length + _; omega⟩
theorem eats_take (n : Nat) : Eats n (fun r => (rTake n r).2) := by
  intro r hr
  unfold rTake at hr ⊢
  by_cases h : r.2 = 0
  · simp only [h, ne_eq, not_true_eq_false, if_false] at hr ⊢
    by_cases h2 : r.1.length < n
    · simp [h2] at hr
    · simp only [h2, if_false] at hr ⊢
      refine ⟨trivial, ?_⟩
      simp; omega
  · simp [h] at hr
theorem eats_size : Eats 9 (fun r => (rSize r).2) := by
  rintro ⟨l, e⟩ hr
  unfold rSize at hr ⊢
  by_cases h : e = 0
  · simp only [h, ne_eq, not_true_eq_false, if_false] at hr ⊢
    cases l with
    | nil => simp at hr
    | cons c l =>
      have hm : manyOf c ≤ 8 := by unfold manyOf; split; · omega
                                   split; · omega
                                   split <;> omega
      by_cases h1 : manyOf c = 0
      · simp only [h1, if_true] at hr ⊢
        exact ⟨trivial, by simp⟩
      · simp only [h1, if_false] at hr ⊢
        by_cases h2 : l.length < manyOf c
        · simp [h2] at hr
        · simp only [h2, if_false] at hr ⊢
          refine ⟨trivial, ?_⟩
          simp; omega
  · simp [h] at hr
theorem eats_within (lo hi : Nat) : Eats 9 (fun r => (rWithin lo hi r).2) := by
  intro r hr
  have hs := eats_size r
  unfold rWithin at hr ⊢
  by_cases h : (rSize r).2.2 = 0
  · simp only [h, ne_eq, not_true_eq_false, if_false] at hr ⊢
    by_cases h2 : (rSize r).1 < lo ∨ hi < (rSize r).1
    · simp [h2] at hr
    · simp only [h2, if_false] at hr ⊢
      exact hs h
  · simp [h] at hr
theorem eats_script : Eats 49 rScript := by
  intro r hr
  have h0 := rWithin_hi 0 40 r
  obtain ⟨h1, h2⟩ := eats_take (rWithin 0 40 r).1 (rWithin 0 40 r).2 hr
  obtain ⟨h3, h4⟩ := eats_within 0 40 r h1
  refine ⟨h3, ?_⟩
  show r.1.length ≤ (rTake (rWithin 0 40 r).1 (rWithin 0 40 r).2).2.1.length + 49
  have h2' : (rWithin 0 40 r).2.1.length ≤ (rTake (rWithin 0 40 r).1 (rWithin 0 40 r).2).2.1.length + (rWithin 0 40 r).1 := h2
  have h4' : r.1.length ≤ (rWithin 0 40 r).2.1.length + 9 := h4
  omega
theorem eats_in : Eats 89 rIn := ((eats_take 36).comp eats_script).comp (eats_take 4)
theorem eats_out : Eats 57 rOut := (eats_take 8).comp eats_script
theorem eats_rep {n : Nat} {f : List UInt8 × Int → List UInt8 × Int} (hf : Eats n f) : ∀ k, Eats (k * n) (rep f k)
  | 0 => fun r hr => ⟨hr, by show r.1.length ≤ r.1.length + _; omega⟩
  | k + 1 => by
    have h := hf.comp (eats_rep hf k)
    exact h.mono (by rw [Nat.succ_mul]; omega)
theorem eats_reps {n : Nat} {f : List UInt8 × Int → List UInt8 × Int} (hf : Eats n f) : Eats (9 + 4 * n) (fun r => rep f (rWithin 1 4 r).1 (rWithin 1 4 r).2) := by
  intro r hr
  have h0 := rWithin_hi 1 4 r
  obtain ⟨h1, h2⟩ := eats_rep hf (rWithin 1 4 r).1 (rWithin 1 4 r).2 hr
  obtain ⟨h3, h4⟩ := eats_within 1 4 r h1
  refine ⟨h3, ?_⟩
  have h4' : r.1.length ≤ (rWithin 1 4 r).2.1.length + 9 := h4
  have h5 : (rWithin 1 4 r).1 * n ≤ 4 * n := Nat.mul_le_mul_right n h0
  show r.1.length ≤ (rep f (rWithin 1 4 r).1 (rWithin 1 4 r).2).1.length + (9 + 4 * n)
  omega
theorem eats_tx : Eats 610 rTx := (((eats_take 4).comp (eats_reps eats_in)).comp (eats_reps eats_out)).comp (eats_take 4) |>.mono (by omega)
/-- a transaction is not long. -/
theorem txErr_len (l : List UInt8) (h : txErr l = 0) : l.length ≤ 610 := by
  unfold txErr rDone at h
  by_cases h1 : (rTx (l, 0)).2 = 0 ∧ (rTx (l, 0)).1 ≠ []
  · rw [if_pos h1] at h; cases h
  · rw [if_neg h1] at h
    obtain ⟨_, h2⟩ := eats_tx (l, 0) h
    have h3 : (rTx (l, 0)).1 = [] := by
      rcases Decidable.em ((rTx (l, 0)).1 = []) with e | e
      · exact e
      · exact absurd ⟨h, e⟩ h1
    rw [h3] at h2
    simpa using h2
end Go.Proofs.YtkmalggeieiepaaDoor
namespace Go.Proofs.YtkmalggeieiepaaDoor
open Go.RowKit

def strV (l : List ByteArray) : List Value := l.map Value.string
/-- two that stand side by side are the same. -/
def twinL : List ByteArray → Bool
  | a :: b :: r => (a.toList == b.toList) || twinL r
  | _ => false
/-- the last one once more, where they are odd. -/
def evL (l : List ByteArray) : List ByteArray := if l.length % 2 = 1 then l ++ [l.getD (l.length - 1) ByteArray.empty] else l
/-- the next height. -/
def upL (dd : ByteArray → ByteArray) : List ByteArray → List ByteArray
  | a :: b :: r => dd (a ++ b) :: upL dd r
  | _ => []
def rootL (dd : ByteArray → ByteArray) : Nat → List ByteArray → Bool → ByteArray × Bool
  | 0, l, t => (l.getD 0 ByteArray.empty, t)
  | n + 1, l, t => if 1 < l.length then rootL dd n (upL dd (evL l)) (t || twinL l) else (l.getD 0 ByteArray.empty, t)
theorem upL_length (dd : ByteArray → ByteArray) : ∀ l : List ByteArray, (upL dd l).length = l.length / 2
  | [] => rfl
  | [_] => by simp [upL]
  | a :: b :: r => by simp only [upL, List.length_cons, upL_length dd r]; omega
theorem evL_length (l : List ByteArray) : (evL l).length = l.length + l.length % 2 := by
  unfold evL
  split
  · rename_i h; simp [h]
  · omega
theorem up_lt (dd : ByteArray → ByteArray) (l : List ByteArray) (h : 1 < l.length) : (upL dd (evL l)).length < l.length ∧ 0 < (upL dd (evL l)).length := by
  rw [upL_length, evL_length]; omega
theorem rootL_fuel (dd : ByteArray → ByteArray) : ∀ (n m : Nat) (l : List ByteArray) (t : Bool), l.length ≤ n + 1 → l.length ≤ m + 1 → rootL dd n l t = rootL dd m l t := by
  intro n
  induction n with
  | zero =>
    intro m l t h1 _
    cases m with
    | zero => rfl
    | succ m => show _ = if 1 < l.length then _ else _; rw [if_neg (by omega)]; rfl
  | succ n ih =>
    intro m l t h1 h2
    show (if 1 < l.length then _ else _) = _
    by_cases h : 1 < l.length
    · rw [if_pos h]
      cases m with
      | zero => omega
      | succ m =>
        show _ = if 1 < l.length then _ else _
        rw [if_pos h]
        have := (up_lt dd l h).1
        exact ih m _ _ (by omega) (by omega)
    · rw [if_neg h]
      cases m with
      | zero => rfl
      | succ m => show _ = if 1 < l.length then _ else _; rw [if_neg h]
/-- the root, and whether there are twins. -/
def rootF (dd : ByteArray → ByteArray) (l : List ByteArray) (t : Bool) : ByteArray × Bool := rootL dd l.length l t
theorem rootF_one (dd : ByteArray → ByteArray) (l : List ByteArray) (t : Bool) (h : l.length = 1) : rootF dd l t = (l.getD 0 ByteArray.empty, t) := by
  unfold rootF; rw [h]; show (if 1 < l.length then _ else _) = _; rw [if_neg (by omega)]
theorem rootF_up (dd : ByteArray → ByteArray) (l : List ByteArray) (t : Bool) (h : 1 < l.length) : rootF dd l t = rootF dd (upL dd (evL l)) (t || twinL l) := by
  unfold rootF
  obtain ⟨n, hn⟩ : ∃ n, l.length = n + 1 := ⟨l.length - 1, by omega⟩
  rw [hn]
  show (if 1 < l.length then _ else _) = _
  rw [if_pos h]
  have := (up_lt dd l h).1
  exact rootL_fuel dd _ _ _ _ (by omega) (by omega)
theorem twinL_drop (l : List ByteArray) (i : Nat) (h : i + 1 < l.length) : twinL (l.drop i) = ((l[i].toList == l[i + 1].toList) || twinL (l.drop (i + 2))) := by
  rw [List.drop_eq_getElem_cons (by omega), List.drop_eq_getElem_cons (i := i + 1) (by omega)]; rfl
theorem twinL_end (l : List ByteArray) (i : Nat) (h : l.length ≤ i + 1) : twinL (l.drop i) = false := by
  have hl : (l.drop i).length ≤ 1 := by rw [List.length_drop]; omega
  match l.drop i, hl with
  | [], _ => rfl
  | [_], _ => rfl
theorem upL_drop (dd : ByteArray → ByteArray) (l : List ByteArray) (i : Nat) (h : i + 1 < l.length) : upL dd (l.drop i) = dd (l[i] ++ l[i + 1]) :: upL dd (l.drop (i + 2)) := by
  rw [List.drop_eq_getElem_cons (by omega), List.drop_eq_getElem_cons (i := i + 1) (by omega)]; rfl
/-- texts lie in a row. -/
def SRow (w : World) (b o : Nat) (l : List ByteArray) : Prop := ∀ j (h : j < l.length), w.cell? ⟨b, o + j, none⟩ = some (.string l[j])
theorem SRow.later {w w' : World} {b o : Nat} {l : List ByteArray} {B : Nat} (h : SRow w b o l) (hb : Below B w w') (hB : b < B) : SRow w' b o l := fun j hj => by
  rw [hb.cell (p := ⟨b, o + j, none⟩) hB]; exact h j hj
theorem SRow.lt {w : World} {b o : Nat} {l : List ByteArray} (h : SRow w b o l) (hn : 0 < l.length) : b < w.heap.size := World.block_lt_of_cell? w _ (h 0 hn)
theorem infoStr : (Tryd.prog.info? 9).map (fun i => (i.zero, i.size, i.bytes)) = some (some (.string ByteArray.empty), 1, 16) := by kernel_rfl
theorem str_one (l : List ByteArray) : ∀ u ∈ strV l, u.oneCell' = true := by
  intro u hu; obtain ⟨s, _, rfl⟩ := List.mem_map.1 hu; rfl
theorem own_srow {w : World} {base e g cap n : Nat} {l : List ByteArray} (hn : l.length = n) (h : w.ownsRow base e 1 (.slice (some ⟨g, 0, none⟩) n cap) n (strV l)) : SRow w g 0 l := by
  obtain ⟨_, h2⟩ := h
  rcases h2 with ⟨hv, _⟩ | ⟨g', cap', cur, hv, _, hg, _, _, _, ht⟩
  · cases hv
  · injection hv with e1 e2 e3
    injection e1 with e4
    injection e4 with e5
    subst e5
    intro j hj
    rw [Nat.zero_add, cell_of_row w g j cur _ _ hg]
    have h3 : (cur.toList.take (n * 1))[j]? = (strV l)[j]? := by rw [ht]
    rw [List.getElem?_take, if_pos (by omega)] at h3
    rw [← Array.getElem?_toList, h3]
    simp [strV, hj]
theorem srow_news {w : World} {b o : Nat} {l : List ByteArray} (h : SRow w b o l) : ∀ j u, (strV l)[j]? = some u → w.cell? ((⟨b, o, none⟩ : Addr).add j) = some u := by
  intro j u hu
  have hj : j < l.length := by have := (List.getElem?_eq_some_iff.1 hu).1; simpa [strV] using this
  rw [Addr.add_mid, h j hj]
  simpa [strV, hj] using hu
end Go.Proofs.YtkmalggeieiepaaDoor
