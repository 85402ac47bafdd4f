import Derived.WalkKit
import Derived.WalkSpells
import Derived.Test.YtkmalggeieiepabDoorRows
import Derived.WalkLawsBesides
import Derived.Lib.Strings
import Derived.Below
import Derived.Deep.LoopGhost
import Derived.Deep.DeepCutAuto
import Derived.Test.YtkmalggeieiepabDoorShaM
namespace Go.Proofs.YtkmalggeieiepabDoor
open Go.RowKit

/-- a 64-bit number turned left by k. -/
def rot (k : Int) (x : Int) : Int := bits .or .u64 (IntKind.u64.wrap (x * 2 ^ k.toNat)) (x / 2 ^ (64 - k).toNat)
def IsU (x : Int) : Prop := 0 ≤ x ∧ x ≤ 18446744073709551615
theorem isU_wrap (x : Int) : IsU (IntKind.u64.wrap x) := by
  unfold IsU; rw [IntKind.wrap_u64]; omega
theorem isU_bits (o : BinOp) (x y : Int) : IsU (bits o .u64 x y) := isU_wrap _
theorem isU_rot (k : Int) (x : Int) : IsU (rot k x) := isU_wrap _
theorem and63 (k : Nat) (h : k < 64) : bits .and .u64 (k : Int) 63 = k := by
  have := bits_and_u64_nat k 63 (by omega) (by omega)
  rw [show ((63 : Nat) : Int) = 63 from rfl] at this
  rw [this, Nat.and_two_pow_sub_one_eq_mod k 6, Nat.mod_eq_of_lt (by omega)]
/-- four numbers. -/
structure St where
  a : Int
  b : Int
  c : Int
  d : Int
def St.ok (v : St) : Prop := IsU v.a ∧ IsU v.b ∧ IsU v.c ∧ IsU v.d
/-- one round, in two halves. -/
def half1 (v : St) : St :=
  let a1 := IntKind.u64.wrap (v.a + v.b)
  let c1 := IntKind.u64.wrap (v.c + v.d)
  ⟨a1, bits .xor .u64 (rot 13 v.b) a1, c1, bits .xor .u64 (rot 16 v.d) c1⟩
def half2 (v : St) : St :=
  let c2 := IntKind.u64.wrap (v.c + v.b)
  let a3 := IntKind.u64.wrap (rot 32 v.a + v.d)
  ⟨a3, bits .xor .u64 (rot 17 v.b) c2, rot 32 c2, bits .xor .u64 (rot 21 v.d) a3⟩
theorem half1_ok (v : St) : (half1 v).ok := ⟨isU_wrap _, isU_bits .xor _ _, isU_wrap _, isU_bits .xor _ _⟩
def rnd (v : St) : St := half2 (half1 v)
theorem rnd_ok (v : St) : (rnd v).ok := ⟨isU_wrap _, isU_bits .xor _ _, isU_rot _ _, isU_bits .xor _ _⟩
def rnds : Nat → St → St
  | 0, v => v
  | n + 1, v => rnds n (rnd v)
theorem rnds_ok (n : Nat) (v : St) (h : v.ok) : (rnds n v).ok := by
  induction n generalizing v with
  | zero => exact h
  | succ n ih => exact ih _ (rnd_ok _)
theorem rnds_succ (n : Nat) (v : St) : rnds (n + 1) v = rnd (rnds n v) := by
  induction n generalizing v with
  | zero => rfl
  | succ n ih => show rnds (n + 1) (rnd v) = _; rw [ih]; rfl
def vals (v : St) : Array Value := #[.int .u64 v.a, .int .u64 v.b, .int .u64 v.c, .int .u64 v.d]
/-- one word worked in. -/
def wrd (v : St) (m : Int) : St :=
  let u := rnds 2 ⟨v.a, v.b, v.c, bits .xor .u64 v.d m⟩
  ⟨bits .xor .u64 u.a m, u.b, u.c, u.d⟩
theorem wrd_ok (v : St) (m : Int) (_h : v.ok) : (wrd v m).ok := by
  have h2 := rnd_ok (rnd ⟨v.a, v.b, v.c, bits .xor .u64 v.d m⟩)
  exact ⟨isU_bits .xor _ _, h2.2.1, h2.2.2.1, h2.2.2.2⟩
/-- the end. -/
def fin (v : St) : Int :=
  let u := rnds 4 ⟨v.a, v.b, bits .xor .u64 v.c 255, v.d⟩
  bits .xor .u64 (bits .xor .u64 (bits .xor .u64 u.a u.b) u.c) u.d
/-- bytes, the lowest first. -/
def num : List UInt8 → Nat
  | [] => 0
  | b :: l => num l * 256 + b.toNat
theorem num_lt (l : List UInt8) : num l < 256 ^ l.length := by
  induction l with
  | nil => simp [num]
  | cons b l ih => have := b.toNat_lt; simp only [num, List.length_cons, Nat.pow_succ]; omega
theorem num_append (l m : List UInt8) : num (l ++ m) = num l + 256 ^ l.length * num m := by
  induction l with
  | nil => simp [num]
  | cons b l ih =>
    simp only [List.cons_append, num, ih, List.length_cons, Nat.pow_succ]
    rw [Nat.add_mul]
    have : 256 ^ l.length * num m * 256 = 256 ^ l.length * 256 * num m := by rw [Nat.mul_assoc, Nat.mul_comm (num m) 256, ← Nat.mul_assoc]
    rw [this, Nat.add_right_comm]
end Go.Proofs.YtkmalggeieiepabDoor
namespace Go.Proofs.YtkmalggeieiepabDoor
open Go.RowKit

theorem num_drop (l : List UInt8) (k : Nat) (h : k < l.length) : num (l.drop k) = num (l.drop (k + 1)) * 256 + l[k].toNat := by
  rw [List.drop_eq_getElem_cons h]; rfl
theorem num_step (l : List UInt8) (k : Nat) (h : k < l.length) (h8 : l.length ≤ 8) : num (l.drop (k + 1)) * 256 + 255 ≤ 18446744073709551615 := by
  have h1 := num_lt (l.drop (k + 1))
  rw [List.length_drop] at h1
  have h2 : 256 ^ (l.length - (k + 1)) ≤ 256 ^ 7 := Nat.pow_le_pow_right (by omega) (by omega)
  have h3 : 256 ^ 7 = 72057594037927936 := by decide
  omega

theorem or_add (N b : Int) (h0 : 0 ≤ N) (h1 : N * 256 + 255 ≤ 18446744073709551615) (hb0 : 0 ≤ b) (hb : b ≤ 255) : bits .or .u64 (N * 256) b = N * 256 + b :=
  bits_join .u64 64 (by decide) (fun n h h' => by rw [IntKind.wrap_u64]; omega) 8 (N * 256) b (by omega) (by omega) (by omega) hb0 (by omega) (by omega)

set_option maxHeartbeats 400000 in
theorem lowest_any (s : ByteArray) (w : World) (hs : s.size ≤ 8) :
    Calls Tryd.prog 45 #[.string s] w fun e w' => e = .returned (.int .u64 (num s.data.toList)) ∧ w' = w := by
  have hl : s.data.toList.length = s.size := rfl
  go_enter Tryd.func45, Tryd.ntmps45
  go_wp2
  go_loop [3, 4] (fun n i => ∃ k : Nat, k ≤ s.size ∧ i = .int .i64 ((k : Int) - 1) ∧ n = .int .u64 (num (s.data.toList.drop k))) (fun _ i => (intOf i + 1).toNat)
  case atStart => exact ⟨s.size, Nat.le_refl _, rfl, by rw [List.drop_of_length_le (Nat.le_of_eq hl)]; rfl⟩
  case round =>
    obtain ⟨k, hk, rfl, rfl⟩ := hrel
    by_cases h0 : k = 0
    · subst h0
      go_wp2
      go_ret
      exact ⟨rfl, rfl⟩
    · obtain ⟨j, rfl⟩ : ∃ j, k = j + 1 := ⟨k - 1, by omega⟩
      have hj : j < s.size := by omega
      have hst := num_step s.data.toList j (by omega) (by omega)
      have HD : Hid (num (s.data.toList.drop j) = num (s.data.toList.drop (j + 1)) * 256 + s[j].toNat) := num_drop s.data.toList j (by omega)
      generalize num (s.data.toList.drop (j + 1)) = N at hst HD
      have hst' : (N : Int) * 256 + 255 ≤ 18446744073709551615 := by omega
      clear hst
      have hN : 0 ≤ (N : Int) := by omega
      have hb0 : 0 ≤ (s[j].toNat : Int) := by omega
      have hb : (s[j].toNat : Int) ≤ 255 := by have := s[j].toNat_lt; omega
      have ej : (((j + 1 : Nat) : Int) - 1) = (j : Int) := by omega
      rw [ej]
      clear ej
      go_wp2
      go_round
      case rel => exact ⟨j, by omega, rfl, by rw [HD.out]; (rw [or_add _ _ hN hst' hb0 hb]; go_num)⟩
      case measure => simp [intOf]
end Go.Proofs.YtkmalggeieiepabDoor
namespace Go.Proofs.YtkmalggeieiepabDoor
open Go.RowKit

end Go.Proofs.YtkmalggeieiepabDoor
namespace Go.Proofs.YtkmalggeieiepabDoor
open Go.RowKit

/-- a text of these bytes. -/
def ofL (l : List UInt8) : ByteArray := ⟨l.toArray⟩
theorem ofL_data (l : List UInt8) : (ofL l).data.toList = l := rfl
theorem ofL_size (l : List UInt8) : (ofL l).size = l.length := by simp [ofL, ByteArray.size]
theorem ofL_of (s : ByteArray) : ofL s.data.toList = s := by apply ByteArray.ext; simp [ofL]
theorem ofL_inj {a b : List UInt8} (h : ofL a = ofL b) : a = b := by rw [← ofL_data a, ← ofL_data b, h]
theorem ofL_append (a b : List UInt8) : ofL a ++ ofL b = ofL (a ++ b) := by
  apply ByteArray.ext; rw [ByteArray.data_append]; simp [ofL]
theorem ofL_extract (l : List UInt8) (a b : Nat) : (ofL l).extract a b = ofL ((l.drop a).take (b - a)) := by
  have h := Lib.extract_data (ofL l) a b
  rw [← ofL_of ((ofL l).extract a b), h, ofL_data]
theorem ofL_get (l : List UInt8) (j : Nat) (h : j < l.length) : (ofL l)[j]'(by rw [ofL_size]; exact h) = l[j] := by
  show l.toArray[j] = l[j]
  simp

/-- as it was but for one block, and new ones. -/
structure Mov (g : Nat) (w w' : World) : Prop where
  os : w'.os = w.os
  tape : w'.tape = w.tape
  output : w'.output = w.output
  size : w.heap.size ≤ w'.heap.size
  block : ∀ k, k < w.heap.size → k ≠ g → w'.heap[k]? = w.heap[k]?
theorem Mov.refl (g : Nat) (w : World) : Mov g w w := ⟨rfl, rfl, rfl, Nat.le_refl _, fun _ _ _ => rfl⟩
theorem Mov.trans {g : Nat} {a b c : World} (h : Mov g a b) (k : Mov g b c) : Mov g a c :=
  ⟨k.os.trans h.os, k.tape.trans h.tape, k.output.trans h.output, Nat.le_trans h.size k.size, fun i hi hg => (k.block i (Nat.lt_of_lt_of_le hi h.size) hg).trans (h.block i hi hg)⟩
theorem Mov.below {g : Nat} {w w' : World} (h : Mov g w w') {B : Nat} (hB : B ≤ g) (hs : B ≤ w.heap.size) : Below B w w' :=
  ⟨h.os, h.tape, h.output, h.size, fun k hk => h.block k (by omega) (by omega)⟩
theorem Below.mov {w w' : World} (h : Below w.heap.size w w') (g : Nat) : Mov g w w' := ⟨h.os, h.tape, h.output, h.size, fun k hk _ => h.block k hk⟩
theorem Mov.set {g : Nat} {a w : World} (h : Mov g a w) (i : Nat) (u : Value) : Mov g a (w.setCell ⟨g, i, none⟩ u) :=
  ⟨h.os, h.tape, h.output, by simpa using h.size, fun k hk hg => (Below.heap_setCell w ⟨g, i, none⟩ u k hg).trans (h.block k hk hg)⟩

/-- a reader lies in block g. -/
structure Rd (w : World) (g : Nat) (l : List UInt8) (e : Int) : Prop where
  s : w.cell? ⟨g, 0, none⟩ = some (.string (ofL l))
  sf : w.frozen? ⟨g, 0, none⟩ = false
  e : w.cell? ⟨g, 1, none⟩ = some (.int .i64 e)
  ef : w.frozen? ⟨g, 1, none⟩ = false
theorem Rd.lt {w : World} {g : Nat} {l : List UInt8} {e : Int} (h : Rd w g l e) : g < w.heap.size := World.block_lt_of_cell? w _ h.s
theorem Rd.later {w w' : World} {g : Nat} {l : List UInt8} {e : Int} (h : Rd w g l e) (hb : Below w.heap.size w w') : Rd w' g l e := by
  have hl := h.lt
  exact ⟨by rw [hb.cell (p := ⟨g, 0, none⟩) hl]; exact h.s, by rw [hb.frozen (p := ⟨g, 0, none⟩) hl]; exact h.sf, by rw [hb.cell (p := ⟨g, 1, none⟩) hl]; exact h.e, by rw [hb.frozen (p := ⟨g, 1, none⟩) hl]; exact h.ef⟩
theorem Rd.setE {w : World} {g : Nat} {l : List UInt8} {e : Int} (h : Rd w g l e) (c : Int) : Rd (w.setCell ⟨g, 1, none⟩ (.int .i64 c)) g l c := by
  refine ⟨?_, ?_, ?_, ?_⟩
  · rw [World.cell?_setCell_other _ _ _ _ (by simp)]; exact h.s
  · simp only [World.frozen?_setCell]; exact h.sf
  · exact World.cell?_setCell_same _ _ _ h.e
  · simp only [World.frozen?_setCell]; exact h.ef
theorem Rd.setS {w : World} {g : Nat} {l : List UInt8} {e : Int} (h : Rd w g l e) (m : List UInt8) : Rd (w.setCell ⟨g, 0, none⟩ (.string (ofL m))) g m e := by
  refine ⟨?_, ?_, ?_, ?_⟩
  · exact World.cell?_setCell_same _ _ _ h.s
  · simp only [World.frozen?_setCell]; exact h.sf
  · rw [World.cell?_setCell_other _ _ _ _ (by simp)]; exact h.e
  · simp only [World.frozen?_setCell]; exact h.ef

/-- what is left to be read, and what was wrong. -/
def rWrong (c : Int) (r : List UInt8 × Int) : List UInt8 × Int := if r.2 = 0 then (r.1, c) else r
def rTake (n : Nat) (r : List UInt8 × Int) : List UInt8 × (List UInt8 × Int) :=
  if r.2 ≠ 0 then ([], r) else if r.1.length < n then ([], (r.1, 1)) else (r.1.take n, (r.1.drop n, r.2))

end Go.Proofs.YtkmalggeieiepabDoor
namespace Go.Proofs.YtkmalggeieiepabDoor
open Go.RowKit

/-- a number in so many bytes, the lowest first. -/
def le (n : Nat) : Nat → List UInt8
  | 0 => []
  | k + 1 => UInt8.ofNat n :: le (n / 256) k
theorem le_length (n k : Nat) : (le n k).length = k := by
  induction k generalizing n with
  | zero => rfl
  | succ k ih => simp [le, ih]
/-- a size as bytes. -/
def sizeL (n : Nat) : List UInt8 :=
  if n < 253 then le n 1 else if n < 65536 then 253 :: le n 2 else if n < 4294967296 then 254 :: le n 4 else 255 :: le n 8
theorem str1L (W : World) (x : Int) (h0 : 0 ≤ x) (h1 : x < 256) : (convert 23 9 (.slice (some ⟨W.heap.size, 0, none⟩) 1 1)).run Tryd.prog (W.alloc (.cells #[.int .u8 x] 5)) = .ok (.string (ofL [UInt8.ofNat x.toNat])) (W.alloc (.cells #[.int .u8 x] 5)) := by
  have e : ((UInt8.ofNat x.toNat).toNat : Int) = x := by simp; omega
  have := run_convert_bytes_back (P := Tryd.prog) (W.alloc (.cells #[.int .u8 x] 5)) 23 9 5 ⟨W.heap.size, 0, none⟩ 1 [UInt8.ofNat x.toNat] Tryd.underlying23 Tryd.underlying5 Tryd.underlying9
  refine this (fun j hj => ?_)
  obtain rfl : j = 0 := by simpa using hj
  simp only [List.getElem_cons_zero, e]
  simp [Addr.add, go_sem]

/-- a number that a uint64 holds. -/
def U64 (q : Nat) : Prop := q < 18446744073709551616
end Go.Proofs.YtkmalggeieiepabDoor
namespace Go.Proofs.YtkmalggeieiepabDoor
open Go.RowKit

/-- so many bytes follow a size's first. -/
def manyOf (c : UInt8) : Nat := if c = 253 then 2 else if c = 254 then 4 else if c = 255 then 8 else 0
def rSize (r : List UInt8 × Int) : Nat × (List UInt8 × Int) :=
  if r.2 ≠ 0 then (0, r)
  else match r.1 with
    | [] => (0, ([], 1))
    | c :: l =>
      if manyOf c = 0 then (c.toNat, (l, 0))
      else if l.length < manyOf c then (0, (l, 1))
      else (num (l.take (manyOf c)), (l.drop (manyOf c), if sizeL (num (l.take (manyOf c))) = c :: l.take (manyOf c) then 0 else 2))
theorem idx_one (c : UInt8) (W : World) : (Instr.index 9 (.string (ofL [c])) (.int .i64 0)).run Tryd.prog W = .ok (.int .u8 (c.toNat : Int)) W := by
  rw [run_index_string W 9 (ofL [c]) .i64 _ Tryd.underlying9, dif_pos ⟨by omega, by rw [ofL_size]; simp⟩]
  rfl

theorem text_ne {a b : ByteArray} (h : ¬ a = b) : (a.toList == b.toList) = false := by
  have k : ∀ s : ByteArray, s.toList = s.data.toList := fun s => by obtain ⟨⟨l⟩⟩ := s; simp
  rw [k, k, beq_eq_false_iff_ne]
  exact fun e => h (by rw [← ofL_of a, ← ofL_of b, e])
end Go.Proofs.YtkmalggeieiepabDoor
namespace Go.Proofs.YtkmalggeieiepabDoor
open Go.RowKit

def rWithin (lo hi : Nat) (r : List UInt8 × Int) : Nat × (List UInt8 × Int) :=
  if (rSize r).2.2 ≠ 0 then (0, (rSize r).2) else if (rSize r).1 < lo ∨ hi < (rSize r).1 then (0, ((rSize r).2.1, 3)) else rSize r
def rDone (r : List UInt8 × Int) : List UInt8 × Int := if r.2 = 0 ∧ r.1 ≠ [] then (r.1, 5) else r

theorem rTake_le (n : Nat) (r : List UInt8 × Int) : (rTake n r).2.1.length ≤ r.1.length := by
  unfold rTake
  split
  · exact Nat.le_refl _
  · split
    · exact Nat.le_refl _
    · simp
theorem rSize_le (r : List UInt8 × Int) : (rSize r).2.1.length ≤ r.1.length := by
  obtain ⟨l, e⟩ := r
  unfold rSize
  split
  · exact Nat.le_refl _
  · cases l with
    | nil => exact Nat.le_refl _
    | cons c l =>
      show (if manyOf c = 0 then _ else _ : Nat × (List UInt8 × Int)).2.1.length ≤ _
      split
      · simp
      · split
        · simp
        · simp; omega
theorem rWithin_le (lo hi : Nat) (r : List UInt8 × Int) : (rWithin lo hi r).2.1.length ≤ r.1.length := by
  have h := rSize_le r
  unfold rWithin
  split
  · exact h
  · split
    · exact h
    · exact h
theorem rWithin_hi (lo hi : Nat) (r : List UInt8 × Int) : (rWithin lo hi r).1 ≤ hi := by
  unfold rWithin
  split
  · exact Nat.zero_le _
  · split
    · exact Nat.zero_le _
    · omega

end Go.Proofs.YtkmalggeieiepabDoor
namespace Go.Proofs.YtkmalggeieiepabDoor
open Go.RowKit

/-- a script, whose size is told ahead. -/
def rScript (r : List UInt8 × Int) : List UInt8 × Int := (rTake (rWithin 0 40 r).1 (rWithin 0 40 r).2).2
def rIn (r : List UInt8 × Int) : List UInt8 × Int := (rTake 4 (rScript (rTake 36 r).2)).2
def rOut (r : List UInt8 × Int) : List UInt8 × Int := rScript (rTake 8 r).2
def rep (f : List UInt8 × Int → List UInt8 × Int) : Nat → List UInt8 × Int → List UInt8 × Int
  | 0, r => r
  | n + 1, r => rep f n (f r)
def rIns (r : List UInt8 × Int) : List UInt8 × Int := rep rIn (rWithin 1 4 r).1 (rWithin 1 4 r).2
def rOuts (r : List UInt8 × Int) : List UInt8 × Int := rep rOut (rWithin 1 4 r).1 (rWithin 1 4 r).2
def rTx (r : List UInt8 × Int) : List UInt8 × Int := (rTake 4 (rOuts (rIns (rTake 4 r).2))).2
theorem rScript_le (r : List UInt8 × Int) : (rScript r).1.length ≤ r.1.length := Nat.le_trans (rTake_le _ _) (rWithin_le _ _ _)
theorem rIn_le (r : List UInt8 × Int) : (rIn r).1.length ≤ r.1.length := Nat.le_trans (rTake_le _ _) (Nat.le_trans (rScript_le _) (rTake_le _ _))
theorem rOut_le (r : List UInt8 × Int) : (rOut r).1.length ≤ r.1.length := Nat.le_trans (rScript_le _) (rTake_le _ _)
theorem rep_le (f : List UInt8 × Int → List UInt8 × Int) (hf : ∀ r, (f r).1.length ≤ r.1.length) (n : Nat) : ∀ r, (rep f n r).1.length ≤ r.1.length := by
  induction n with
  | zero => intro r; exact Nat.le_refl _
  | succ n ih => intro r; exact Nat.le_trans (ih _) (hf r)
theorem rTx_le (r : List UInt8 × Int) : (rTx r).1.length ≤ r.1.length :=
  Nat.le_trans (rTake_le _ _) (Nat.le_trans (rep_le rOut rOut_le _ _) (Nat.le_trans (rWithin_le _ _ _) (Nat.le_trans (rep_le rIn rIn_le _ _) (Nat.le_trans (rWithin_le _ _ _) (rTake_le _ _)))))

end Go.Proofs.YtkmalggeieiepabDoor
namespace Go.Proofs.YtkmalggeieiepabDoor
open Go.RowKit

/-- what is wrong with these bytes, as a transaction. -/
def txErr (l : List UInt8) : Int := (rDone (rTx (l, 0))).2
theorem Rd.new (w : World) (s : ByteArray) (T : Nat) : Rd (w.alloc (.cells #[.string s, .int .i64 0] T)) w.heap.size s.data.toList 0 := by
  refine ⟨?_, ?_, ?_, ?_⟩
  · rw [ofL_of]; simp [go_sem]
  · simp [go_sem]
  · simp [go_sem]
  · simp [go_sem]

end Go.Proofs.YtkmalggeieiepabDoor
namespace Go.Proofs.YtkmalggeieiepabDoor
open Go.RowKit

/-- what ends well has begun well, and has eaten no more than so many bytes. -/
def Eats (n : Nat) (f : List UInt8 × Int → List UInt8 × Int) : Prop := ∀ r, (f r).2 = 0 → r.2 = 0 ∧ r.1.length ≤ (f r).1.length + n
theorem Eats.mono {n m : Nat} {f : List UInt8 × Int → List UInt8 × Int} (h : Eats n f) (hm : n ≤ m) : Eats m f := fun r hr => ⟨(h r hr).1, by have := (h r hr).2; omega⟩
theorem Eats.comp {n m : Nat} {f g : List UInt8 × Int → List UInt8 × Int} (hf : Eats n f) (hg : Eats m g) : Eats (n + m) (fun r => g (f r)) := fun r hr => by
  obtain ⟨h1, h2⟩ := hg (f r) hr
  obtain ⟨h3, h4⟩ := hf r h1
  exact ⟨h3, by show r.1.length ≤ (g (f r)).1.length + _; omega⟩
theorem eats_take (n : Nat) : Eats n (fun r => (rTake n r).2) := by
  intro r hr
  unfold rTake at hr ⊢
  by_cases h : r.2 = 0
  · simp only [h, ne_eq, not_true_eq_false, if_false] at hr ⊢
    by_cases h2 : r.1.length < n
    · simp [h2] at hr
    · simp only [h2, if_false] at hr ⊢
      refine ⟨trivial, ?_⟩
      simp; omega
  · simp [h] at hr
theorem eats_size : Eats 9 (fun r => (rSize r).2) := by
  rintro ⟨l, e⟩ hr
  unfold rSize at hr ⊢
  by_cases h : e = 0
  · simp only [h, ne_eq, not_true_eq_false, if_false] at hr ⊢
    cases l with
    | nil => simp at hr
    | cons c l =>
      have hm : manyOf c ≤ 8 := by unfold manyOf; split; · omega
                                   split; · omega
                                   split <;> omega
      by_cases h1 : manyOf c = 0
      · simp only [h1, if_true] at hr ⊢
        exact ⟨trivial, by simp⟩
      · simp only [h1, if_false] at hr ⊢
        by_cases h2 : l.length < manyOf c
        · simp [h2] at hr
        · simp only [h2, if_false] at hr ⊢
          refine ⟨trivial, ?_⟩
          simp; omega
  · simp [h] at hr
theorem eats_within (lo hi : Nat) : Eats 9 (fun r => (rWithin lo hi r).2) := by
  intro r hr
  have hs := eats_size r
  unfold rWithin at hr ⊢
  by_cases h : (rSize r).2.2 = 0
  · simp only [h, ne_eq, not_true_eq_false, if_false] at hr ⊢
    by_cases h2 : (rSize r).1 < lo ∨ hi < (rSize r).1
    · simp [h2] at hr
    · simp only [h2, if_false] at hr ⊢
      exact hs h
  · simp [h] at hr
theorem eats_script : Eats 49 rScript := by
  intro r hr
  have h0 := rWithin_hi 0 40 r
  obtain ⟨h1, h2⟩ := eats_take (rWithin 0 40 r).1 (rWithin 0 40 r).2 hr
  obtain ⟨h3, h4⟩ := eats_within 0 40 r h1
  refine ⟨h3, ?_⟩
  show r.1.length ≤ (rTake (rWithin 0 40 r).1 (rWithin 0 40 r).2).2.1.length + 49
  have h2' : (rWithin 0 40 r).2.1.length ≤ (rTake (rWithin 0 40 r).1 (rWithin 0 40 r).2).2.1.length + (rWithin 0 40 r).1 := h2
  have h4' : r.1.length ≤ (rWithin 0 40 r).2.1.length + 9 := h4
  omega
theorem eats_in : Eats 89 rIn := ((eats_take 36).comp eats_script).comp (eats_take 4)
theorem eats_out : Eats 57 rOut := (eats_take 8).comp eats_script
theorem eats_rep {n : Nat} {f : List UInt8 × Int → List UInt8 × Int} (hf : Eats n f) : ∀ k, Eats (k * n) (rep f k)
  | 0 => fun r hr => ⟨hr, by show r.1.length ≤ r.1.length + _; omega⟩
  | k + 1 => by
    have h := hf.comp (eats_rep hf k)
    exact h.mono (by rw [Nat.succ_mul]; omega)
theorem eats_reps {n : Nat} {f : List UInt8 × Int → List UInt8 × Int} (hf : Eats n f) : Eats (9 + 4 * n) (fun r => rep f (rWithin 1 4 r).1 (rWithin 1 4 r).2) := by
  intro r hr
  have h0 := rWithin_hi 1 4 r
  obtain ⟨h1, h2⟩ := eats_rep hf (rWithin 1 4 r).1 (rWithin 1 4 r).2 hr
  obtain ⟨h3, h4⟩ := eats_within 1 4 r h1
  refine ⟨h3, ?_⟩
  have h4' : r.1.length ≤ (rWithin 1 4 r).2.1.length + 9 := h4
  have h5 : (rWithin 1 4 r).1 * n ≤ 4 * n := Nat.mul_le_mul_right n h0
  show r.1.length ≤ (rep f (rWithin 1 4 r).1 (rWithin 1 4 r).2).1.length + (9 + 4 * n)
  omega
theorem eats_tx : Eats 610 rTx := (((eats_take 4).comp (eats_reps eats_in)).comp (eats_reps eats_out)).comp (eats_take 4) |>.mono (by omega)
/-- a transaction is not long. -/
theorem txErr_len (l : List UInt8) (h : txErr l = 0) : l.length ≤ 610 := by
  unfold txErr rDone at h
  by_cases h1 : (rTx (l, 0)).2 = 0 ∧ (rTx (l, 0)).1 ≠ []
  · rw [if_pos h1] at h; cases h
  · rw [if_neg h1] at h
    obtain ⟨_, h2⟩ := eats_tx (l, 0) h
    have h3 : (rTx (l, 0)).1 = [] := by
      rcases Decidable.em ((rTx (l, 0)).1 = []) with e | e
      · exact e
      · exact absurd ⟨h, e⟩ h1
    rw [h3] at h2
    simpa using h2
end Go.Proofs.YtkmalggeieiepabDoor
namespace Go.Proofs.YtkmalggeieiepabDoor
open Go.RowKit

def pw : Nat → Int
  | 0 => 1
  | n + 1 => pw n * 65536
theorem pw_add (i j : Nat) : pw (i + j) = pw i * pw j := by
  induction j with
  | zero => simp [pw]
  | succ j ih => show pw (i + j) * 65536 = pw i * (pw j * 65536); rw [ih, Int.mul_assoc]
theorem pw_pos (n : Nat) : 0 < pw n := by
  induction n with
  | zero => simp [pw]
  | succ n ih => simp only [pw]; omega
/-- a number out of digits of base 65536, the lowest first. -/
def vV (f : Nat → Int) : Nat → Int
  | 0 => 0
  | n + 1 => vV f n + f n * pw n
def Dig (f : Nat → Int) (n : Nat) : Prop := ∀ j, j < n → 0 ≤ f j ∧ f j < 65536
theorem vV_congr (f g : Nat → Int) (n : Nat) (h : ∀ j, j < n → f j = g j) : vV f n = vV g n := by
  induction n with
  | zero => rfl
  | succ n ih => simp only [vV]; rw [ih (fun j hj => h j (by omega)), h n (by omega)]
theorem vV_upd (f : Nat → Int) (i n : Nat) (x : Int) (h : i < n) : vV (upd f i x) n = vV f n + (x - f i) * pw i := by
  induction n with
  | zero => omega
  | succ n ih =>
    simp only [vV]
    by_cases e : i = n
    · subst e
      rw [vV_congr (upd f i x) f i (fun j hj => upd_other f i j x (by omega)), upd_same]
      grind
    · rw [ih (by omega), upd_other f i n x (by omega)]
      omega
theorem Dig.upd {f : Nat → Int} {n : Nat} (h : Dig f n) (i : Nat) (x : Int) (h0 : 0 ≤ x) (h1 : x < 65536) : Dig (upd f i x) n := by
  intro j hj
  by_cases e : j = i
  · subst e; rw [upd_same]; exact ⟨h0, h1⟩
  · rw [upd_other f i j x e]; exact h j hj
/-- one step of the inner loop. -/
theorem inner_step (o fb : Nat → Int) (N i j : Nat) (x c A : Int) (hij : i + j < N) (h : vV o N + c * pw (i + j) = A + x * vV fb j * pw i) :
    vV (upd o (i + j) ((o (i + j) + x * fb j + c) % 65536)) N + (o (i + j) + x * fb j + c) / 65536 * pw (i + (j + 1)) = A + x * vV fb (j + 1) * pw i := by
  rw [vV_upd o (i + j) N _ hij, show i + (j + 1) = (i + j) + 1 from rfl]
  simp only [pw, vV]
  have e := Int.mul_ediv_add_emod (o (i + j) + x * fb j + c) 65536
  have e2 := pw_add i j
  generalize (o (i + j) + x * fb j + c) / 65536 = q at e
  generalize (o (i + j) + x * fb j + c) % 65536 = r at e
  generalize o (i + j) = y at e
  grind
theorem outer_step (o : Nat → Int) (fa fb : Nat → Int) (N i lb : Nat) (c : Int) (hij : i + lb < N) (hz : o (i + lb) = 0) (h : vV o N + c * pw (i + lb) = vV fa i * vV fb lb + fa i * vV fb lb * pw i) :
    vV (upd o (i + lb) (o (i + lb) + c)) N = vV fa (i + 1) * vV fb lb := by
  rw [vV_upd o (i + lb) N _ hij, hz]
  simp only [vV]
  grind
theorem carry_le (y x z c : Int) (h1 : 0 ≤ y) (h2 : y < 65536) (h3 : 0 ≤ x) (h4 : x < 65536) (h5 : 0 ≤ z) (h6 : z < 65536) (h7 : 0 ≤ c) (h8 : c ≤ 65535) : 0 ≤ x * z ∧ x * z ≤ 4294836225 ∧ (y + x * z + c) / 65536 ≤ 65535 := by
  have hp : 0 ≤ x * z := Int.mul_nonneg h3 h5
  have hq : x * z ≤ 65535 * 65535 := Int.mul_le_mul (by omega) (by omega) h5 (by omega)
  omega
theorem vV_bd (f : Nat → Int) (n : Nat) (h : Dig f n) : 0 ≤ vV f n ∧ vV f n < pw n := by
  induction n with
  | zero => simp [vV, pw]
  | succ n ih =>
    obtain ⟨h0, h1⟩ := ih (fun j hj => h j (by omega))
    obtain ⟨d0, d1⟩ := h n (by omega)
    have hp := pw_pos n
    simp only [vV, pw]
    have e1 : 0 ≤ f n * pw n := Int.mul_nonneg d0 (by omega)
    have e2 : f n * pw n ≤ 65535 * pw n := Int.mul_le_mul_of_nonneg_right (by omega) (by omega)
    omega
theorem vV_top (f g : Nat → Int) (k n : Nat) (hk : k < n) (h : ∀ j, k < j → j < n → f j = g j) : vV f n - vV g n = (vV f k - vV g k) + (f k - g k) * pw k := by
  induction n with
  | zero => omega
  | succ n ih =>
    simp only [vV]
    by_cases e : k = n
    · subst e; grind
    · have h1 := ih (by omega) (fun j hj hjn => h j hj (by omega))
      have h2 := h n (by omega) (by omega)
      rw [h2]; omega
theorem vV_cmp (f g : Nat → Int) (k n : Nat) (hk : k < n) (h : ∀ j, k < j → j < n → f j = g j) (hf : Dig f n) (hg : Dig g n) (hne : f k ≠ g k) : (vV g n < vV f n ↔ g k < f k) := by
  have e := vV_top f g k n hk h
  have b1 := vV_bd f k (fun j hj => hf j (by omega))
  have b2 := vV_bd g k (fun j hj => hg j (by omega))
  have hp := pw_pos k
  constructor
  · intro hlt
    rcases Int.lt_or_gt_of_ne hne with h1 | h1
    · have : (f k - g k) * pw k ≤ (-1) * pw k := Int.mul_le_mul_of_nonneg_right (by omega) (by omega)
      omega
    · exact h1
  · intro h1
    have : 1 * pw k ≤ (f k - g k) * pw k := Int.mul_le_mul_of_nonneg_right (by omega) (by omega)
    omega
theorem vV_pad (f : Nat → Int) (lb n : Nat) (h : lb ≤ n) : vV (fun j => if j < lb then f j else 0) n = vV f lb := by
  induction n with
  | zero => obtain rfl : lb = 0 := by omega
            rfl
  | succ n ih =>
    by_cases e : lb = n + 1
    · subst e; exact vV_congr _ _ _ (fun j hj => by simp [hj])
    · simp only [vV]
      rw [ih (by omega)]
      have : ¬ n < lb := by omega
      simp [this]
end Go.Proofs.YtkmalggeieiepabDoor
namespace Go.Proofs.YtkmalggeieiepabDoor
open Go.RowKit

end Go.Proofs.YtkmalggeieiepabDoor
namespace Go.Proofs.YtkmalggeieiepabDoor
open Go.RowKit

end Go.Proofs.YtkmalggeieiepabDoor
