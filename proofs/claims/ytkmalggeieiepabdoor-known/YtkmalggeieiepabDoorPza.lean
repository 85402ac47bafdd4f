import Derived.Test.YtkmalggeieiepabDoorTxtA
import Derived.WalkKit
import Derived.WalkSpells
import Derived.WalkLawsBesides
import Derived.Deep.MidRow
import Derived.Deep.DeepCutAuto
import Derived.Test.YtkmalggeieiepabDoorRows
import Derived.Deep.QuietTactic
import Derived.BigQuiet
import Derived.Deep.RegionWith
import Derived.Deep.LoopGhost
import Derived.Lib.Strings
import Derived.Test.YtkmalggeieiepabDoorShaE
import Derived.KernelRfl
import Derived.Below
namespace Go.Proofs.YtkmalggeieiepabDoor
open Go.RowKit

set_option maxRecDepth 10000 in
set_option maxHeartbeats 400000 in
theorem relaySum_any (Kc : Nat → Int) (s : ByteArray) (w : World) (hkt : KT Kc w) (hpos : 0 < w.heap.size) (hs : s.size ≤ 1099511627776) :
    Calls Tryd.prog 7 #[.string s] w fun e w' => e = .returned (.string (strOf (shaF Kc s.data.toList) 32)) ∧ Below w.heap.size w w' := by
  have hT : Texts (w.alloc (.cells #[.string s] 9)) w.heap.size [s] := by
    intro j hj
    obtain rfl : j = 0 := by simp at hj; exact hj
    simp [go_sem]
  have hc : cat [s] = s.data.toList := by simp [cat]
  have hl : s.data.toList.length = s.size := rfl
  have hcall := sum_any Kc [s] w.heap.size (w.alloc (.cells #[.string s] 9)) hT (by simp) (hkt.later ((Below.refl _ _).alloc (Nat.le_refl _) _) hpos) (by rw [hc, hl]; exact hs) (by simp)
  rw [hc] at hcall
  clear hT hc hl hkt
  have htx := text_any (shaF Kc s.data.toList) (fun j => dgF_lt _ j) _ rfl
  go_enter Tryd.func7, Tryd.ntmps7
  go_wp2_with (first
      | (go_at_call 22; go_must (refine hcall.mono ?_); rintro e w1 ⟨rfl, hb1⟩; have HB1 : Hid (Below (w.alloc (.cells #[.string s] 9)).heap.size (w.alloc (.cells #[.string s] 9)) w1) := hb1; clear hb1)
      | (go_at_call 23; go_must (refine (htx _).mono ?_); rintro e w2 ⟨rfl, hb2⟩; have HB2 : Hid (Below w1.heap.size w1 w2) := hb2; clear hb2))
  go_ret
  have hz := HB1.out.size
  simp at hz
  refine ⟨rfl, ?_⟩
  exact ((((Below.refl _ _).alloc (Nat.le_refl _) _).trans (HB1.out.mono (by simp))).trans (HB2.out.mono (by omega)))
end Go.Proofs.YtkmalggeieiepabDoor
namespace Go.Proofs.YtkmalggeieiepabDoor
open Go.RowKit

/-- a 64-bit number turned left by k. -/
def rot (k : Int) (x : Int) : Int := bits .or .u64 (IntKind.u64.wrap (x * 2 ^ k.toNat)) (x / 2 ^ (64 - k).toNat)
def IsU (x : Int) : Prop := 0 ≤ x ∧ x ≤ 18446744073709551615
theorem isU_wrap (x : Int) : IsU (IntKind.u64.wrap x) := by
  unfold IsU; rw [IntKind.wrap_u64]; omega
theorem isU_bits (o : BinOp) (x y : Int) : IsU (bits o .u64 x y) := isU_wrap _
theorem isU_rot (k : Int) (x : Int) : IsU (rot k x) := isU_wrap _
theorem and63 (k : Nat) (h : k < 64) : bits .and .u64 (k : Int) 63 = k := by
  have := bits_and_u64_nat k 63 (by omega) (by omega)
  rw [show ((63 : Nat) : Int) = 63 from rfl] at this
  rw [this, Nat.and_two_pow_sub_one_eq_mod k 6, Nat.mod_eq_of_lt (by omega)]
/-- four numbers. -/
structure St where
  a : Int
  b : Int
  c : Int
  d : Int
def St.ok (v : St) : Prop := IsU v.a ∧ IsU v.b ∧ IsU v.c ∧ IsU v.d
/-- one round, in two halves. -/
def half1 (v : St) : St :=
  let a1 := IntKind.u64.wrap (v.a + v.b)
  let c1 := IntKind.u64.wrap (v.c + v.d)
  ⟨a1, bits .xor .u64 (rot 13 v.b) a1, c1, bits .xor .u64 (rot 16 v.d) c1⟩
def half2 (v : St) : St :=
  let c2 := IntKind.u64.wrap (v.c + v.b)
  let a3 := IntKind.u64.wrap (rot 32 v.a + v.d)
  ⟨a3, bits .xor .u64 (rot 17 v.b) c2, rot 32 c2, bits .xor .u64 (rot 21 v.d) a3⟩
theorem half1_ok (v : St) : (half1 v).ok := ⟨isU_wrap _, isU_bits .xor _ _, isU_wrap _, isU_bits .xor _ _⟩
def rnd (v : St) : St := half2 (half1 v)
theorem rnd_ok (v : St) : (rnd v).ok := ⟨isU_wrap _, isU_bits .xor _ _, isU_rot _ _, isU_bits .xor _ _⟩
def rnds : Nat → St → St
  | 0, v => v
  | n + 1, v => rnds n (rnd v)
theorem rnds_ok (n : Nat) (v : St) (h : v.ok) : (rnds n v).ok := by
  induction n generalizing v with
  | zero => exact h
  | succ n ih => exact ih _ (rnd_ok _)
theorem rnds_succ (n : Nat) (v : St) : rnds (n + 1) v = rnd (rnds n v) := by
  induction n generalizing v with
  | zero => rfl
  | succ n ih => show rnds (n + 1) (rnd v) = _; rw [ih]; rfl
def vals (v : St) : Array Value := #[.int .u64 v.a, .int .u64 v.b, .int .u64 v.c, .int .u64 v.d]
/-- one word worked in. -/
def wrd (v : St) (m : Int) : St :=
  let u := rnds 2 ⟨v.a, v.b, v.c, bits .xor .u64 v.d m⟩
  ⟨bits .xor .u64 u.a m, u.b, u.c, u.d⟩
theorem wrd_ok (v : St) (m : Int) (_h : v.ok) : (wrd v m).ok := by
  have h2 := rnd_ok (rnd ⟨v.a, v.b, v.c, bits .xor .u64 v.d m⟩)
  exact ⟨isU_bits .xor _ _, h2.2.1, h2.2.2.1, h2.2.2.2⟩
/-- the end. -/
def fin (v : St) : Int :=
  let u := rnds 4 ⟨v.a, v.b, bits .xor .u64 v.c 255, v.d⟩
  bits .xor .u64 (bits .xor .u64 (bits .xor .u64 u.a u.b) u.c) u.d
/-- bytes, the lowest first. -/
def num : List UInt8 → Nat
  | [] => 0
  | b :: l => num l * 256 + b.toNat
theorem num_lt (l : List UInt8) : num l < 256 ^ l.length := by
  induction l with
  | nil => simp [num]
  | cons b l ih => have := b.toNat_lt; simp only [num, List.length_cons, Nat.pow_succ]; omega
theorem num_append (l m : List UInt8) : num (l ++ m) = num l + 256 ^ l.length * num m := by
  induction l with
  | nil => simp [num]
  | cons b l ih =>
    simp only [List.cons_append, num, ih, List.length_cons, Nat.pow_succ]
    rw [Nat.add_mul]
    have : 256 ^ l.length * num m * 256 = 256 ^ l.length * 256 * num m := by rw [Nat.mul_assoc, Nat.mul_comm (num m) 256, ← Nat.mul_assoc]
    rw [this, Nat.add_right_comm]
end Go.Proofs.YtkmalggeieiepabDoor
namespace Go.Proofs.YtkmalggeieiepabDoor
open Go.RowKit

set_option maxHeartbeats 400000 in
theorem rotl_any (k : Int) (x : Int) (w : World) (hk : k = 13 ∨ k = 16 ∨ k = 17 ∨ k = 21 ∨ k = 32) (hx : IsU x) :
    Calls Tryd.prog 75 #[.int .u64 x, .int .i64 k] w fun e w' => e = .returned (.int .u64 (rot k x)) ∧ w' = w := by
  obtain ⟨h0, h1⟩ := hx
  have b13 : bits .and .u64 13 63 = 13 := and63 13 (by omega)
  have b16 : bits .and .u64 16 63 = 16 := and63 16 (by omega)
  have b17 : bits .and .u64 17 63 = 17 := and63 17 (by omega)
  have b21 : bits .and .u64 21 63 = 21 := and63 21 (by omega)
  have b32 : bits .and .u64 32 63 = 32 := and63 32 (by omega)
  rcases hk with rfl | rfl | rfl | rfl | rfl
  all_goals
    go_enter Tryd.func75, Tryd.ntmps75
    go_wp2
    go_ret
    exact ⟨rfl, rfl⟩

end Go.Proofs.YtkmalggeieiepabDoor
namespace Go.Proofs.YtkmalggeieiepabDoor
open Go.RowKit

/-- a world in which four numbers lie from an address on. -/
def At4 (w : World) (b : Nat) (v : St) : Prop :=
  w.cell? ⟨b, 0, none⟩ = some (.int .u64 v.a) ∧ w.cell? ⟨b, 1, none⟩ = some (.int .u64 v.b) ∧ w.cell? ⟨b, 2, none⟩ = some (.int .u64 v.c) ∧ w.cell? ⟨b, 3, none⟩ = some (.int .u64 v.d)

/-- four cells that may be written. -/
def Free4 (w : World) (b : Nat) : Prop := w.frozen? ⟨b, 0, none⟩ = false ∧ w.frozen? ⟨b, 1, none⟩ = false ∧ w.frozen? ⟨b, 2, none⟩ = false ∧ w.frozen? ⟨b, 3, none⟩ = false
theorem free4_new (w : World) (v : St) (T : Nat) : Free4 (w.alloc (.cells #[.int .u64 v.a, .int .u64 v.b, .int .u64 v.c, .int .u64 v.d] T)) w.heap.size := by
  simp [Free4, go_sem]
theorem at4_new (w : World) (v : St) (T : Nat) : At4 (w.alloc (.cells #[.int .u64 v.a, .int .u64 v.b, .int .u64 v.c, .int .u64 v.d] T)) w.heap.size v := by
  simp [At4, go_sem]

end Go.Proofs.YtkmalggeieiepabDoor
namespace Go.Proofs.YtkmalggeieiepabDoor
open Go.RowKit

def Room4 (w : World) (b : Nat) : Prop := (w.cell? ⟨b, 0, none⟩).isSome = true ∧ (w.cell? ⟨b, 1, none⟩).isSome = true ∧ (w.cell? ⟨b, 2, none⟩).isSome = true ∧ (w.cell? ⟨b, 3, none⟩).isSome = true ∧ Free4 w b

theorem sc_same (w : World) (a : Addr) (v : Value) (h : (w.cell? a).isSome = true) : (w.setCell a v).cell? a = some v := by
  obtain ⟨u, hu⟩ := Option.isSome_iff_exists.1 h
  exact World.cell?_setCell_same _ _ _ hu

/-- The box of four numbers at the first block behind w, a second block behind it that may be written, and all that was there as it was. -/
structure Box (w w' : World) (u : St) : Prop where
  at4 : At4 w' w.heap.size u
  free : Free4 w' w.heap.size
  room : Room4 w' (w.heap.size + 1)
  below : Below w.heap.size w w'
theorem Box.drew {w w' : World} {u : St} (h : Box w w' u) : Box w w'.drew u := ⟨h.at4, h.free, h.room, h.below.drew⟩
theorem Box.set0 {w w' : World} {a b c d : Int} (h : Box w w' ⟨a, b, c, d⟩) (x : Int) : Box w (w'.setCell ⟨w.heap.size, 0, none⟩ (.int .u64 x)) ⟨x, b, c, d⟩ := by
  obtain ⟨⟨h0, h1, h2, h3⟩, hf, hr, hb⟩ := h
  refine ⟨?_, ?_, ?_, hb.setCell (Nat.le_refl _) _⟩
  · simp only at h0 h1 h2 h3; simp [At4, sc_same, World.cell?_setCell_other, h0, h1, h2, h3]
  · simpa [Free4] using hf
  · simpa [Room4, Free4, World.cell?_setCell_other] using hr
theorem Box.set1 {w w' : World} {a b c d : Int} (h : Box w w' ⟨a, b, c, d⟩) (x : Int) : Box w (w'.setCell ⟨w.heap.size, 1, none⟩ (.int .u64 x)) ⟨a, x, c, d⟩ := by
  obtain ⟨⟨h0, h1, h2, h3⟩, hf, hr, hb⟩ := h
  refine ⟨?_, ?_, ?_, hb.setCell (Nat.le_refl _) _⟩
  · simp only at h0 h1 h2 h3; simp [At4, sc_same, World.cell?_setCell_other, h0, h1, h2, h3]
  · simpa [Free4] using hf
  · simpa [Room4, Free4, World.cell?_setCell_other] using hr
theorem Box.set2 {w w' : World} {a b c d : Int} (h : Box w w' ⟨a, b, c, d⟩) (x : Int) : Box w (w'.setCell ⟨w.heap.size, 2, none⟩ (.int .u64 x)) ⟨a, b, x, d⟩ := by
  obtain ⟨⟨h0, h1, h2, h3⟩, hf, hr, hb⟩ := h
  refine ⟨?_, ?_, ?_, hb.setCell (Nat.le_refl _) _⟩
  · simp only at h0 h1 h2 h3; simp [At4, sc_same, World.cell?_setCell_other, h0, h1, h2, h3]
  · simpa [Free4] using hf
  · simpa [Room4, Free4, World.cell?_setCell_other] using hr
theorem Box.set3 {w w' : World} {a b c d : Int} (h : Box w w' ⟨a, b, c, d⟩) (x : Int) : Box w (w'.setCell ⟨w.heap.size, 3, none⟩ (.int .u64 x)) ⟨a, b, c, x⟩ := by
  obtain ⟨⟨h0, h1, h2, h3⟩, hf, hr, hb⟩ := h
  refine ⟨?_, ?_, ?_, hb.setCell (Nat.le_refl _) _⟩
  · simp only at h0 h1 h2 h3; simp [At4, sc_same, World.cell?_setCell_other, h0, h1, h2, h3]
  · simpa [Free4] using hf
  · simpa [Room4, Free4, World.cell?_setCell_other] using hr


set_option maxHeartbeats 2000000 in
theorem rounds_any (v : St) (n : Nat) (w : World) (hn : n ≤ 100) (hv : v.ok) :
    Calls Tryd.prog 46 #[.agg #[.int .u64 v.a, .int .u64 v.b, .int .u64 v.c, .int .u64 v.d], .int .i64 n] w fun e w' => e = .returned (.agg #[.int .u64 (rnds n v).a, .int .u64 (rnds n v).b, .int .u64 (rnds n v).c, .int .u64 (rnds n v).d]) ∧ Below w.heap.size w w' := by
  go_enter Tryd.func46, Tryd.ntmps46
  go_wp2
  go_loopg [6] n (fun g i w' => ∃ k : Nat, ∃ u : St, k + g = n ∧ i = .int .i64 k ∧ u.ok ∧ u = rnds k v ∧ Box w w' u)
  case atStart => exact ⟨0, v, Nat.zero_add _, rfl, hv, rfl, by simp [At4, go_sem], by simp [Free4, go_sem], by simp [Room4, Free4, go_sem], ((Below.refl _ _).alloc (Nat.le_refl _) _).alloc (by simp) _⟩
  case round =>
    obtain ⟨k, u, hk, rfl, hu, hr, hbox⟩ := hrel
    have HR : Hid (u = rnds k v) := hr
    have HB : Hid (Box w wr u) := hbox
    have HK : Hid (k + gk = n) := hk
    obtain ⟨⟨c0, c1, c2, c3⟩, ⟨f0, f1, f2, f3⟩, hroom, _⟩ := hbox
    by_cases hlt : k < n
    · clear hr hroom
      go_upto_region 5 with fail
      go_cut [] (fun wx => Box w wx ⟨IntKind.u64.wrap (u.a + u.b), bits .xor .u64 (rot 13 u.b) (IntKind.u64.wrap (u.a + u.b)), IntKind.u64.wrap (u.c + u.d), u.d⟩)
      case first =>
        go_region_with (go_at_call 75; refine (rotl_any _ _ _ (by omega) ?_).mono ?_; (exact hu.2.1); rintro e w' ⟨rfl, rfl⟩)
        all_goals (go_wp2_with fail; go_meet)
        all_goals exact (Box.set1 (Box.set2 (Box.set0 (show Box w _ ⟨u.a, u.b, u.c, u.d⟩ from HB.out) _) _) _).drew
      case rest =>
      clear HB c0 c1 c2 c3 f0 f1 f2 f3
      have HB : Hid (Box w wc _) := hcut
      obtain ⟨⟨c0, c1, c2, c3⟩, ⟨f0, f1, f2, f3⟩, _, _⟩ := hcut
      dsimp only at c0 c1 c2 c3
      go_upto_region 6 with fail
      go_cut [] (fun wx => Box w wx (half1 u))
      case first =>
        go_region_with (go_at_call 75; refine (rotl_any _ _ _ (by omega) ?_).mono ?_; (exact hu.2.2.2); rintro e w' ⟨rfl, rfl⟩)
        all_goals (go_wp2_with fail; go_meet)
        all_goals exact (Box.set3 HB.out _).drew
      case rest =>
      clear HB c0 c1 c2 c3 f0 f1 f2 f3
      have hx := half1_ok u
      have HX : Hid (rnd u = half2 (half1 u)) := rfl
      generalize half1 u = x at hx HX hcut
      have HB : Hid (Box w wc x) := hcut
      obtain ⟨⟨c0, c1, c2, c3⟩, ⟨f0, f1, f2, f3⟩, _, _⟩ := hcut
      go_upto_region 9 with (go_at_call 75; refine (rotl_any _ _ _ (by omega) ?_).mono ?_; (exact hx.1); rintro e w' ⟨rfl, rfl⟩)
      go_cut [] (fun wx => Box w wx ⟨IntKind.u64.wrap (rot 32 x.a + x.d), x.b, IntKind.u64.wrap (x.c + x.b), x.d⟩)
      case first =>
        go_wp2
        go_meet
        exact Box.set0 (Box.set2 (Box.set0 (show Box w _ ⟨x.a, x.b, x.c, x.d⟩ from HB.out) _) _) _
      case rest =>
      clear HB c0 c1 c2 c3 f0 f1 f2 f3
      have HB : Hid (Box w wc _) := hcut
      obtain ⟨⟨c0, c1, c2, c3⟩, ⟨f0, f1, f2, f3⟩, _, _⟩ := hcut
      dsimp only at c0 c1 c2 c3
      go_upto_region 10 with fail
      go_cut [] (fun wx => Box w wx ⟨IntKind.u64.wrap (rot 32 x.a + x.d), bits .xor .u64 (rot 17 x.b) (IntKind.u64.wrap (x.c + x.b)), IntKind.u64.wrap (x.c + x.b), x.d⟩)
      case first =>
        go_region_with (go_at_call 75; refine (rotl_any _ _ _ (by omega) ?_).mono ?_; (exact hx.2.1); rintro e w' ⟨rfl, rfl⟩)
        all_goals (go_wp2_with fail; go_meet)
        all_goals exact (Box.set1 HB.out _).drew
      case rest =>
      clear HB c0 c1 c2 c3 f0 f1 f2 f3
      have HB : Hid (Box w wc _) := hcut
      obtain ⟨⟨c0, c1, c2, c3⟩, ⟨f0, f1, f2, f3⟩, _, _⟩ := hcut
      dsimp only at c0 c1 c2 c3
      go_upto_region 11 with fail
      go_cut [] (fun wx => Box w wx ⟨IntKind.u64.wrap (rot 32 x.a + x.d), bits .xor .u64 (rot 17 x.b) (IntKind.u64.wrap (x.c + x.b)), IntKind.u64.wrap (x.c + x.b), bits .xor .u64 (rot 21 x.d) (IntKind.u64.wrap (rot 32 x.a + x.d))⟩)
      case first =>
        go_region_with (go_at_call 75; refine (rotl_any _ _ _ (by omega) ?_).mono ?_; (exact hx.2.2.2); rintro e w' ⟨rfl, rfl⟩)
        all_goals (go_wp2_with fail; go_meet)
        all_goals exact (Box.set3 HB.out _).drew
      case rest =>
      clear HB c0 c1 c2 c3 f0 f1 f2 f3
      have HB : Hid (Box w wc _) := hcut
      obtain ⟨⟨c0, c1, c2, c3⟩, ⟨f0, f1, f2, f3⟩, _, _⟩ := hcut
      dsimp only at c0 c1 c2 c3
      go_wp2_with (go_at_call 75; refine (rotl_any _ _ _ (by omega) ?_).mono ?_; (exact isU_wrap _); rintro e w' ⟨rfl, rfl⟩)
      go_roundg (gk - 1)
      case measure => omega
      case rel =>
        refine ⟨k + 1, rnd u, by omega, by go_num, rnd_ok u, ?_, ?_⟩
        · rw [rnds_succ, ← HR.out]
        · rw [HX.out]; exact Box.set2 HB.out _
    · obtain ⟨r0, r1, r2, r3, g0, g1, g2, g3⟩ := hroom
      obtain ⟨x0, e0⟩ := Option.isSome_iff_exists.1 r0
      obtain ⟨x1, e1⟩ := Option.isSome_iff_exists.1 r1
      obtain ⟨x2, e2⟩ := Option.isSome_iff_exists.1 r2
      obtain ⟨x3, e3⟩ := Option.isSome_iff_exists.1 r3
      clear r0 r1 r2 r3 hr
      go_wp2
      obtain rfl : k = n := by omega
      have hr := HR.out
      subst hr
      refine bodyPost_ret (v := .agg #[.int .u64 (rnds k v).a, .int .u64 (rnds k v).b, .int .u64 (rnds k v).c, .int .u64 (rnds k v).d]) (by simp [results, Tryd.results46, go_sem, *]) rfl ⟨rfl, ?_⟩
      exact ((((HB.out.below.setCell (by simp) _).setCell (by simp) _).setCell (by simp) _).setCell (by simp) _)
end Go.Proofs.YtkmalggeieiepabDoor
namespace Go.Proofs.YtkmalggeieiepabDoor
open Go.RowKit

theorem box_new (w : World) (v : St) (T : Nat) : Box w ((w.alloc (.cells #[.int .u64 v.a, .int .u64 v.b, .int .u64 v.c, .int .u64 v.d] T)).alloc (.cells #[.int .u64 0, .int .u64 0, .int .u64 0, .int .u64 0] T)) v :=
  ⟨by simp [At4, go_sem], by simp [Free4, go_sem], by simp [Room4, Free4, go_sem], ((Below.refl _ _).alloc (Nat.le_refl _) _).alloc (by simp) _⟩
theorem Box.later {w W w' : World} {u : St} (h : Box w W u) (hb : Below W.heap.size W w') : Box w w' u := by
  obtain ⟨⟨h0, h1, h2, h3⟩, ⟨f0, f1, f2, f3⟩, ⟨r0, r1, r2, r3, g0, g1, g2, g3⟩, hB⟩ := h
  obtain ⟨x0, e0⟩ := Option.isSome_iff_exists.1 r0
  have l0 := World.block_lt_of_cell? W _ h0
  have l1 := World.block_lt_of_cell? W _ e0
  have c := fun b o (hh : b < W.heap.size) => hb.cell (p := ⟨b, o, none⟩) hh
  have f := fun b o (hh : b < W.heap.size) => hb.frozen (p := ⟨b, o, none⟩) hh
  simp only at l0 l1
  refine ⟨⟨?_, ?_, ?_, ?_⟩, ⟨?_, ?_, ?_, ?_⟩, ⟨?_, ?_, ?_, ?_, ?_, ?_, ?_, ?_⟩, hB.trans (hb.mono (Nat.le_of_lt l0))⟩
  all_goals first | (rw [c _ _ l0]; assumption) | (rw [f _ _ l0]; assumption) | (rw [c _ _ l1]; assumption) | (rw [f _ _ l1]; assumption)
theorem Room4.out {w : World} {b : Nat} (h : Room4 w b) : ∃ x0 x1 x2 x3, w.cell? ⟨b, 0, none⟩ = some x0 ∧ w.cell? ⟨b, 1, none⟩ = some x1 ∧ w.cell? ⟨b, 2, none⟩ = some x2 ∧ w.cell? ⟨b, 3, none⟩ = some x3 ∧ Free4 w b := by
  obtain ⟨r0, r1, r2, r3, g⟩ := h
  obtain ⟨x0, e0⟩ := Option.isSome_iff_exists.1 r0
  obtain ⟨x1, e1⟩ := Option.isSome_iff_exists.1 r1
  obtain ⟨x2, e2⟩ := Option.isSome_iff_exists.1 r2
  obtain ⟨x3, e3⟩ := Option.isSome_iff_exists.1 r3
  exact ⟨x0, x1, x2, x3, e0, e1, e2, e3, g⟩

set_option maxHeartbeats 400000 in
theorem word_any (v : St) (m : Int) (w : World) (hv : v.ok) :
    Calls Tryd.prog 44 #[.agg #[.int .u64 v.a, .int .u64 v.b, .int .u64 v.c, .int .u64 v.d], .int .u64 m] w fun e w' => e = .returned (.agg #[.int .u64 (wrd v m).a, .int .u64 (wrd v m).b, .int .u64 (wrd v m).c, .int .u64 (wrd v m).d]) ∧ Below w.heap.size w w' := by
  have ok2 : St.ok ⟨v.a, v.b, v.c, bits .xor .u64 v.d m⟩ := ⟨hv.1, hv.2.1, hv.2.2.1, isU_bits .xor _ _⟩
  have hcall := fun W : World => rounds_any ⟨v.a, v.b, v.c, bits .xor .u64 v.d m⟩ 2 W (by omega) ok2
  have HW : Hid (wrd v m = ⟨bits .xor .u64 (rnds 2 ⟨v.a, v.b, v.c, bits .xor .u64 v.d m⟩).a m, (rnds 2 ⟨v.a, v.b, v.c, bits .xor .u64 v.d m⟩).b, (rnds 2 ⟨v.a, v.b, v.c, bits .xor .u64 v.d m⟩).c, (rnds 2 ⟨v.a, v.b, v.c, bits .xor .u64 v.d m⟩).d⟩) := rfl
  generalize rnds 2 ⟨v.a, v.b, v.c, bits .xor .u64 v.d m⟩ = x at hcall HW
  have bn := box_new w ⟨v.a, v.b, v.c, bits .xor .u64 v.d m⟩ 105
  have HBN : Hid (Box w ((w.alloc (.cells #[.int .u64 v.a, .int .u64 v.b, .int .u64 v.c, .int .u64 (bits .xor .u64 v.d m)] 105)).alloc (.cells #[.int .u64 0, .int .u64 0, .int .u64 0, .int .u64 0] 105)) ⟨v.a, v.b, v.c, bits .xor .u64 v.d m⟩) := bn
  clear bn
  go_enter Tryd.func44, Tryd.ntmps44
  go_wp2_with (go_at_call 46; go_must (refine (hcall _).mono ?_); rintro e w' ⟨rfl, hb⟩; have HB : Hid (Box w w' _) := HBN.out.later hb; clear hb; obtain ⟨⟨c0, c1, c2, c3⟩, ⟨f0, f1, f2, f3⟩, hroom, _⟩ := HB.out; obtain ⟨x0, x1, x2, x3, e0, e1, e2, e3, g0, g1, g2, g3⟩ := hroom.out; clear hroom; dsimp only at c0 c1 c2 c3)
  have hw := HW.out
  rw [hw]
  refine bodyPost_ret (v := .agg #[.int .u64 (bits .xor .u64 x.a m), .int .u64 x.b, .int .u64 x.c, .int .u64 x.d]) (by simp [results, Tryd.results44, go_sem, *]) rfl ⟨rfl, ?_⟩
  have hB := HB.out.below
  iterate 9 refine Below.setCell ?_ (by simp) _
  exact hB
end Go.Proofs.YtkmalggeieiepabDoor
namespace Go.Proofs.YtkmalggeieiepabDoor
open Go.RowKit

theorem num_drop (l : List UInt8) (k : Nat) (h : k < l.length) : num (l.drop k) = num (l.drop (k + 1)) * 256 + l[k].toNat := by
  rw [List.drop_eq_getElem_cons h]; rfl
theorem num_step (l : List UInt8) (k : Nat) (h : k < l.length) (h8 : l.length ≤ 8) : num (l.drop (k + 1)) * 256 + 255 ≤ 18446744073709551615 := by
  have h1 := num_lt (l.drop (k + 1))
  rw [List.length_drop] at h1
  have h2 : 256 ^ (l.length - (k + 1)) ≤ 256 ^ 7 := Nat.pow_le_pow_right (by omega) (by omega)
  have h3 : 256 ^ 7 = 72057594037927936 := by decide
  omega

theorem or_add (N b : Int) (h0 : 0 ≤ N) (h1 : N * 256 + 255 ≤ 18446744073709551615) (hb0 : 0 ≤ b) (hb : b ≤ 255) : bits .or .u64 (N * 256) b = N * 256 + b :=
  bits_join .u64 64 (by decide) (fun n h h' => by rw [IntKind.wrap_u64]; omega) 8 (N * 256) b (by omega) (by omega) (by omega) hb0 (by omega) (by omega)

set_option maxHeartbeats 400000 in
theorem lowest_any (s : ByteArray) (w : World) (hs : s.size ≤ 8) :
    Calls Tryd.prog 45 #[.string s] w fun e w' => e = .returned (.int .u64 (num s.data.toList)) ∧ w' = w := by
  have hl : s.data.toList.length = s.size := rfl
  go_enter Tryd.func45, Tryd.ntmps45
  go_wp2
  go_loop [3, 4] (fun n i => ∃ k : Nat, k ≤ s.size ∧ i = .int .i64 ((k : Int) - 1) ∧ n = .int .u64 (num (s.data.toList.drop k))) (fun _ i => (intOf i + 1).toNat)
  case atStart => exact ⟨s.size, Nat.le_refl _, rfl, by rw [List.drop_of_length_le (Nat.le_of_eq hl)]; rfl⟩
  case round =>
    obtain ⟨k, hk, rfl, rfl⟩ := hrel
    by_cases h0 : k = 0
    · subst h0
      go_wp2
      go_ret
      exact ⟨rfl, rfl⟩
    · obtain ⟨j, rfl⟩ : ∃ j, k = j + 1 := ⟨k - 1, by omega⟩
      have hj : j < s.size := by omega
      have hst := num_step s.data.toList j (by omega) (by omega)
      have HD : Hid (num (s.data.toList.drop j) = num (s.data.toList.drop (j + 1)) * 256 + s[j].toNat) := num_drop s.data.toList j (by omega)
      generalize num (s.data.toList.drop (j + 1)) = N at hst HD
      have hst' : (N : Int) * 256 + 255 ≤ 18446744073709551615 := by omega
      clear hst
      have hN : 0 ≤ (N : Int) := by omega
      have hb0 : 0 ≤ (s[j].toNat : Int) := by omega
      have hb : (s[j].toNat : Int) ≤ 255 := by have := s[j].toNat_lt; omega
      have ej : (((j + 1 : Nat) : Int) - 1) = (j : Int) := by omega
      rw [ej]
      clear ej
      go_wp2
      go_round
      case rel => exact ⟨j, by omega, rfl, by rw [HD.out]; (rw [or_add _ _ hN hst' hb0 hb]; go_num)⟩
      case measure => simp [intOf]
end Go.Proofs.YtkmalggeieiepabDoor
namespace Go.Proofs.YtkmalggeieiepabDoor
open Go.RowKit

/-- the last word. -/
def lastW (n : Nat) (l : List UInt8) : Int := bits .or .u64 (IntKind.u64.wrap (IntKind.u64.wrap (n : Int) * 72057594037927936)) (num l)
def absorb (n : Nat) (v : St) (l : List UInt8) : St :=
  if _h : 8 ≤ l.length then absorb n (wrd v (num (l.take 8))) (l.drop 8) else wrd v (lastW n l)
  termination_by l.length
  decreasing_by simp; omega
theorem absorb_word (n : Nat) (v : St) (l : List UInt8) (h : 8 ≤ l.length) : absorb n v l = absorb n (wrd v (num (l.take 8))) (l.drop 8) := by
  rw [absorb]; simp [h]
theorem absorb_last (n : Nat) (v : St) (l : List UInt8) (h : ¬ 8 ≤ l.length) : absorb n v l = wrd v (lastW n l) := by
  rw [absorb]; simp [h]
/-- what Sip begins with. -/
def ini (k l : Int) : St := ⟨bits .xor .u64 k 8317987319222330741, bits .xor .u64 l 7237128888997146477, bits .xor .u64 k 7816392313619706465, bits .xor .u64 l 8387220255154660723⟩
theorem ini_ok (k l : Int) : (ini k l).ok := ⟨isU_bits .xor _ _, isU_bits .xor _ _, isU_bits .xor _ _, isU_bits .xor _ _⟩

/-- The box of four numbers at the first block behind w. -/
structure Box1 (w w' : World) (u : St) : Prop where
  at4 : At4 w' w.heap.size u
  free : Free4 w' w.heap.size
  below : Below w.heap.size w w'
theorem box1_new (w : World) (v : St) (T : Nat) : Box1 w (w.alloc (.cells #[.int .u64 v.a, .int .u64 v.b, .int .u64 v.c, .int .u64 v.d] T)) v :=
  ⟨by simp [At4, go_sem], by simp [Free4, go_sem], (Below.refl _ _).alloc (Nat.le_refl _) _⟩
theorem Box1.drew {w w' : World} {u : St} (h : Box1 w w' u) : Box1 w w'.drew u := ⟨h.at4, h.free, h.below.drew⟩
theorem Box1.later {w W w' : World} {u : St} (h : Box1 w W u) (hb : Below W.heap.size W w') : Box1 w w' u := by
  obtain ⟨⟨h0, h1, h2, h3⟩, ⟨f0, f1, f2, f3⟩, hB⟩ := h
  have l0 := World.block_lt_of_cell? W _ h0
  have c := fun b o (hh : b < W.heap.size) => hb.cell (p := ⟨b, o, none⟩) hh
  have f := fun b o (hh : b < W.heap.size) => hb.frozen (p := ⟨b, o, none⟩) hh
  simp only at l0
  refine ⟨⟨?_, ?_, ?_, ?_⟩, ⟨?_, ?_, ?_, ?_⟩, hB.trans (hb.mono (Nat.le_of_lt l0))⟩
  all_goals first | (rw [c _ _ l0]; assumption) | (rw [f _ _ l0]; assumption)
theorem Box1.set2 {w w' : World} {a b c d : Int} (h : Box1 w w' ⟨a, b, c, d⟩) (x : Int) : Box1 w (w'.setCell ⟨w.heap.size, 2, none⟩ (.int .u64 x)) ⟨a, b, x, d⟩ := by
  obtain ⟨⟨h0, h1, h2, h3⟩, hf, hb⟩ := h
  refine ⟨?_, ?_, hb.setCell (Nat.le_refl _) _⟩
  · simp only at h0 h1 h2 h3; simp [At4, sc_same, World.cell?_setCell_other, h0, h1, h2, h3]
  · simpa [Free4] using hf
/-- all four written. -/
theorem Box1.all {w w' : World} {u : St} (h : Box1 w w' u) (a b c d : Int) : Box1 w ((((w'.setCell ⟨w.heap.size, 0, none⟩ (.int .u64 a)).setCell ⟨w.heap.size, 1, none⟩ (.int .u64 b)).setCell ⟨w.heap.size, 2, none⟩ (.int .u64 c)).setCell ⟨w.heap.size, 3, none⟩ (.int .u64 d)) ⟨a, b, c, d⟩ := by
  obtain ⟨⟨h0, h1, h2, h3⟩, hf, hb⟩ := h
  refine ⟨?_, ?_, (((hb.setCell (Nat.le_refl _) _).setCell (Nat.le_refl _) _).setCell (Nat.le_refl _) _).setCell (Nat.le_refl _) _⟩
  · simp [At4, sc_same, World.cell?_setCell_other, h0, h1, h2, h3]
  · simpa [Free4] using hf

theorem Box1.all' {w w' : World} {u : St} (h : Box1 w w' u) (x : St) : Box1 w ((((w'.setCell ⟨w.heap.size, 0, none⟩ (.int .u64 x.a)).setCell ⟨w.heap.size, 1, none⟩ (.int .u64 x.b)).setCell ⟨w.heap.size, 2, none⟩ (.int .u64 x.c)).setCell ⟨w.heap.size, 3, none⟩ (.int .u64 x.d)) x := h.all _ _ _ _

set_option maxHeartbeats 1000000 in
theorem sip_any (k l : Int) (s : ByteArray) (w : World) (hs : s.size ≤ 1048576) :
    Calls Tryd.prog 24 #[.int .u64 k, .int .u64 l, .string s] w fun e w' => e = .returned (.int .u64 (fin (absorb s.size (ini k l) s.data.toList))) ∧ Below w.heap.size w w' := by
  go_enter Tryd.func24, Tryd.ntmps24
  go_wp2
  go_loopg [8] s.size (fun g r wr => ∃ t : ByteArray, ∃ u : St, r = .string t ∧ t.size ≤ g ∧ t.size ≤ s.size ∧ u.ok ∧ absorb s.size u t.data.toList = absorb s.size (ini k l) s.data.toList ∧ Box1 w wr u)
  case atStart => exact ⟨s, ini k l, rfl, Nat.le_refl _, Nat.le_refl _, ini_ok k l, rfl, box1_new w (ini k l) _⟩
  case round =>
    obtain ⟨t, u, rfl, htg, hts, hu, ha, hbox⟩ := hrel
    have HA : Hid (absorb s.size u t.data.toList = absorb s.size (ini k l) s.data.toList) := ha
    have HB : Hid (Box1 w wr u) := hbox
    obtain ⟨⟨c0, c1, c2, c3⟩, ⟨f0, f1, f2, f3⟩, _⟩ := hbox
    clear ha
    by_cases h8 : 8 ≤ t.size
    · go_upto_region 4 with fail
      go_cut [] (fun wx => Box1 w wx (wrd u (num (t.data.toList.take 8))))
      case first =>
        go_region_with (first | (go_at_call 45; refine (lowest_any _ _ ?_).mono ?_; (simp; omega); rintro e w' ⟨rfl, rfl⟩) | (go_at_call 44; refine (word_any u _ _ hu).mono ?_; rintro e w' ⟨rfl, hb⟩; have HB2 : Hid (Box1 w w' u) := HB.out.drew.later hb; clear hb; obtain ⟨⟨c0, c1, c2, c3⟩, ⟨f0, f1, f2, f3⟩, _⟩ := HB2.out))
        all_goals (go_wp2_with fail; go_meet; exact (HB2.out.all' (wrd u (num (t.data.toList.take 8)))))
      case rest =>
      have HB2 : Hid (Box1 w wc (wrd u (num (t.data.toList.take 8)))) := hcut
      clear HB c0 c1 c2 c3 f0 f1 f2 f3 hcut
      go_wp2
      go_roundg (gk - 8)
      case measure => omega
      case rel =>
        have hl : t.data.toList.length = t.size := rfl
        have e2 : (t.extract 8 t.size).data.toList = t.data.toList.drop 8 := by rw [Lib.extract_data]; exact List.take_of_length_le (Nat.le_of_eq (by rw [List.length_drop, hl]))
        refine ⟨t.extract 8 t.size, _, rfl, by simp; omega, by simp; omega, wrd_ok u _ hu, ?_, HB2.out⟩
        rw [e2, ← absorb_word _ _ _ (by omega)]; exact HA.out
    · go_upto_region 6 with fail
      go_cut [] (fun wx => Box1 w wx (wrd u (lastW s.size t.data.toList)))
      case first =>
        go_region_with (first | (go_at_call 45; refine (lowest_any _ _ ?_).mono ?_; (omega); rintro e w' ⟨rfl, rfl⟩) | (go_at_call 44; refine (word_any u _ _ hu).mono ?_; rintro e w' ⟨rfl, hb⟩; have HB2 : Hid (Box1 w w' u) := HB.out.drew.later hb; clear hb; obtain ⟨⟨c0, c1, c2, c3⟩, ⟨f0, f1, f2, f3⟩, _⟩ := HB2.out))
        all_goals (go_wp2_with fail; go_meet; exact (HB2.out.all' (wrd u (lastW s.size t.data.toList))))
      case rest =>
      have hx := wrd_ok u (lastW s.size t.data.toList) hu
      have HX : Hid (wrd u (lastW s.size t.data.toList) = absorb s.size (ini k l) s.data.toList) := (absorb_last _ _ _ h8).symm.trans HA.out
      clear HB c0 c1 c2 c3 f0 f1 f2 f3 HA
      generalize wrd u (lastW s.size t.data.toList) = x at hx HX hcut
      have hx2 : St.ok ⟨x.a, x.b, bits .xor .u64 x.c 255, x.d⟩ := ⟨hx.1, hx.2.1, isU_bits .xor _ _, hx.2.2.2⟩
      have HF : Hid (fin x = bits .xor .u64 (bits .xor .u64 (bits .xor .u64 (rnds 4 ⟨x.a, x.b, bits .xor .u64 x.c 255, x.d⟩).a (rnds 4 ⟨x.a, x.b, bits .xor .u64 x.c 255, x.d⟩).b) (rnds 4 ⟨x.a, x.b, bits .xor .u64 x.c 255, x.d⟩).c) (rnds 4 ⟨x.a, x.b, bits .xor .u64 x.c 255, x.d⟩).d) := rfl
      have hcall := fun W : World => rounds_any ⟨x.a, x.b, bits .xor .u64 x.c 255, x.d⟩ 4 W (by omega) hx2
      generalize rnds 4 ⟨x.a, x.b, bits .xor .u64 x.c 255, x.d⟩ = y at HF hcall
      have HB : Hid (Box1 w wc ⟨x.a, x.b, x.c, x.d⟩) := hcut
      obtain ⟨⟨c0, c1, c2, c3⟩, ⟨f0, f1, f2, f3⟩, _⟩ := hcut
      go_wp2_with (go_at_call 46; go_must (refine (hcall _).mono ?_); rintro e w' ⟨rfl, hb⟩; have HB2 : Hid (Box1 w w' ⟨x.a, x.b, bits .xor .u64 x.c 255, x.d⟩) := (HB.out.set2 _).later hb; clear hb; obtain ⟨⟨c0, c1, c2, c3⟩, ⟨f0, f1, f2, f3⟩, _⟩ := HB2.out; dsimp only at c0 c1 c2 c3)
      go_ret
      rw [← HX.out, HF.out]
      exact ⟨rfl, (HB2.out.all _ _ _ _).below⟩

end Go.Proofs.YtkmalggeieiepabDoor
namespace Go.Proofs.YtkmalggeieiepabDoor
open Go.RowKit

theorem relaySip_any (k l : Int) (s : ByteArray) (w : World) (hs : s.size ≤ 1048576) :
    Calls Tryd.prog 9 #[.int .u64 k, .int .u64 l, .string s] w fun e w' => e = .returned (.int .u64 (fin (absorb s.size (ini k l) s.data.toList))) ∧ Below w.heap.size w w' := by
  go_enter Tryd.func9, Tryd.ntmps9
  go_wp2_with (go_at_call 24; go_must (refine (sip_any k l s _ hs).mono ?_); rintro e w' ⟨rfl, hb⟩)
  go_ret
  exact ⟨rfl, hb⟩

end Go.Proofs.YtkmalggeieiepabDoor
namespace Go.Proofs.YtkmalggeieiepabDoor
open Go.RowKit
set_option maxRecDepth 100000

def ktab : List Int := [1116352408, 1899447441, 3049323471, 3921009573, 961987163, 1508970993, 2453635748, 2870763221, 3624381080, 310598401, 607225278, 1426881987, 1925078388, 2162078206, 2614888103, 3248222580, 3835390401, 4022224774, 264347078, 604807628, 770255983, 1249150122, 1555081692, 1996064986, 2554220882, 2821834349, 2952996808, 3210313671, 3336571891, 3584528711, 113926993, 338241895, 666307205, 773529912, 1294757372, 1396182291, 1695183700, 1986661051, 2177026350, 2456956037, 2730485921, 2820302411, 3259730800, 3345764771, 3516065817, 3600352804, 4094571909, 275423344, 430227734, 506948616, 659060556, 883997877, 958139571, 1322822218, 1537002063, 1747873779, 1955562222, 2024104815, 2227730452, 2361852424, 2428436474, 2756734187, 3204031479, 3329325298]
def kcT (i : Nat) : Int := ktab.getD i 0
def w16 (b : Nat → Nat) : List Int := (List.range 16).reverse.map fun t => (pt b t 4 : Int)
def nextW (l : List Int) : Int := (l.getD 15 0 + sg0 (l.getD 14 0) + l.getD 6 0 + sg1 (l.getD 1 0)) % 4294967296
def wrev (b : Nat → Nat) : Nat → List Int
  | 0 => w16 b
  | n + 1 => nextW (wrev b n) :: wrev b n
theorem wrev_get (b : Nat → Nat) (n : Nat) : ∀ i, i ≤ 15 + n → (wrev b n).getD i 0 = Wd b (15 + n - i) := by
  induction n with
  | zero =>
    intro i hi
    have h : i = 0 ∨ i = 1 ∨ i = 2 ∨ i = 3 ∨ i = 4 ∨ i = 5 ∨ i = 6 ∨ i = 7 ∨ i = 8 ∨ i = 9 ∨ i = 10 ∨ i = 11 ∨ i = 12 ∨ i = 13 ∨ i = 14 ∨ i = 15 := by omega
    rcases h with rfl | rfl | rfl | rfl | rfl | rfl | rfl | rfl | rfl | rfl | rfl | rfl | rfl | rfl | rfl | rfl
    all_goals (rw [Wd_lo _ _ (by omega)]; rfl)
  | succ n ih =>
    intro i hi
    match i with
    | 0 =>
      show nextW (wrev b n) = Wd b (15 + (n + 1) - 0)
      unfold nextW
      rw [ih 15 (by omega), ih 14 (by omega), ih 6 (by omega), ih 1 (by omega), Wd_hi b (15 + (n + 1) - 0) (by omega)]
      rw [show 15 + (n + 1) - 0 - 16 = 15 + n - 15 by omega, show 15 + (n + 1) - 0 - 15 = 15 + n - 14 by omega, show 15 + (n + 1) - 0 - 7 = 15 + n - 6 by omega, show 15 + (n + 1) - 0 - 2 = 15 + n - 1 by omega]
    | j + 1 =>
      show (wrev b n).getD j 0 = _
      rw [ih j (by omega), show 15 + (n + 1) - (j + 1) = 15 + n - j by omega]
def rlist (s : Nat → Int) (l : List (Int × Int)) : Nat → Int := l.foldl (fun v p => rndF p.1 p.2 v) s
theorem itF_list (Kc : Nat → Int) (b : Nat → Nat) (s : Nat → Int) (k : Nat) : itF Kc b s k = rlist s ((List.range k).map fun t => (Kc t, Wd b t)) := by
  induction k with
  | zero => rfl
  | succ k ih => unfold rlist at *; rw [List.range_succ, List.map_append, List.foldl_append, ← ih]; rfl
theorem pairs_of (b : Nat → Nat) (L : List Int) (h : wrev b 48 = L) : ((List.range 64).map fun t => (kcT t, Wd b t)) = (List.range 64).map fun t => (kcT t, L.getD (63 - t) 0) := by
  apply List.map_congr_left
  intro t ht
  have ht' : t < 64 := by simpa using ht
  rw [← h, wrev_get b 48 (63 - t) (by omega), show 15 + 48 - (63 - t) = t by omega]
theorem mix_val (b : Nat → Nat) (L : List Int) (s v r : Nat → Int) (h : wrev b 48 = L) (hv : rlist s ((List.range 64).map fun t => (kcT t, L.getD (63 - t) 0)) = v) (hr : ∀ j, (s j + v j) % 4294967296 = r j) : mixF kcT b s = r := by
  funext j
  unfold mixF
  rw [itF_list, pairs_of b L h, hv, hr]
theorem feed_small (Kc : Nat → Int) (s : Nat → Int) (l : List UInt8) : ∀ buf : List UInt8, buf.length + l.length < 64 → feed Kc (s, buf) l = (s, buf ++ l) := by
  induction l with
  | nil => intro buf h; simp [feed]
  | cons c l ih =>
    intro buf h
    simp at h
    show feed Kc (putF Kc (s, buf) c) l = _
    have e : putF Kc (s, buf) c = (s, buf ++ [c]) := by unfold putF; rw [if_neg (by show ¬ buf.length = 63; omega)]
    rw [e, ih _ (by simp; omega)]; simp
theorem feed_chunk (Kc : Nat → Int) (s : Nat → Int) (c r : List UInt8) (h : c.length = 64) : feed Kc (s, []) (c ++ r) = feed Kc (mixF Kc (bfn c) s, []) r := by
  rw [feed_append]
  have hd : c = c.take 63 ++ [c[63]'(by omega)] := by
    rw [← List.take_succ_eq_append_getElem (by omega), List.take_of_length_le (by omega)]
  have e : feed Kc (s, []) c = (mixF Kc (bfn c) s, []) := by
    rw [hd, feed_snoc, feed_small _ _ _ _ (by simp; omega)]
    unfold putF
    rw [if_pos (by simp; omega), List.nil_append]
  rw [e]
def blk_abc0 : List UInt8 := [97, 98, 99, 128, 0, 0, 0, 0, 0, 0, 0, 0, 0, 0, 0, 0, 0, 0, 0, 0, 0, 0, 0, 0, 0, 0, 0, 0, 0, 0, 0, 0, 0, 0, 0, 0, 0, 0, 0, 0, 0, 0, 0, 0, 0, 0, 0, 0, 0, 0, 0, 0, 0, 0, 0, 0, 0, 0, 0, 0, 0, 0, 0, 24]
theorem mix_abc0 : mixF kcT (bfn blk_abc0) (ini8) = mk8 3128432319 2399260650 1094795486 1571693091 2953011619 2518121116 3021012833 4060091821 :=
  mix_val _ [313650667, 4004225740, 1720397816, 2755645205, 2025622859, 2682456414, 3957764664, 4015503821, 2987358873, 344409900, 3256115900, 2226839261, 2845390439, 3118885940, 3430291419, 4215179723, 106709978, 2049510749, 2215296807, 206005234, 657669027, 1042573945, 4037431130, 2672279444, 610538786, 2483675966, 1924104970, 176896406, 4043988066, 2952069057, 996719219, 2482346367, 3552024379, 1881225380, 3968280267, 2636160359, 845560923, 3854317833, 3073800610, 3357629466, 3806512014, 316456923, 25426944, 1050508152, 1610613702, 2108187653, 983040, 1633837952, 24, 0, 0, 0, 0, 0, 0, 0, 0, 0, 0, 0, 0, 0, 0, 1633837952] _ (mk8 1349398616 3550093669 80891244 3093179625 1593118500 4212265488 2492278198 2518632596) _ (by kernel_rfl) (by kernel_rfl) (fun j => by
    match j with
    | 0 => rfl
    | 1 => rfl
    | 2 => rfl
    | 3 => rfl
    | 4 => rfl
    | 5 => rfl
    | 6 => rfl
    | n + 7 => rfl)
theorem sha_abc : strOf (shaF kcT [97, 98, 99]) 32 = ⟨#[186, 120, 22, 191, 143, 1, 207, 234, 65, 65, 64, 222, 93, 174, 34, 35, 176, 3, 97, 163, 150, 23, 122, 156, 180, 16, 255, 97, 242, 0, 21, 173]⟩ := by
  have e : padF [97, 98, 99] = blk_abc0 ++ [] := by kernel_rfl
  have f : feed kcT (ini8, []) (padF [97, 98, 99]) = (mk8 3128432319 2399260650 1094795486 1571693091 2953011619 2518121116 3021012833 4060091821, []) := by rw [e, feed_chunk _ _ _ _ (by kernel_rfl), mix_abc0]; rfl
  have g : shaF kcT [97, 98, 99] = dgF (mk8 3128432319 2399260650 1094795486 1571693091 2953011619 2518121116 3021012833 4060091821) := by unfold shaF; rw [f]
  have h : strOf (dgF (mk8 3128432319 2399260650 1094795486 1571693091 2953011619 2518121116 3021012833 4060091821)) 32 = ⟨#[186, 120, 22, 191, 143, 1, 207, 234, 65, 65, 64, 222, 93, 174, 34, 35, 176, 3, 97, 163, 150, 23, 122, 156, 180, 16, 255, 97, 242, 0, 21, 173]⟩ := by kernel_rfl
  rw [g]; exact h
def blk_nil0 : List UInt8 := [128, 0, 0, 0, 0, 0, 0, 0, 0, 0, 0, 0, 0, 0, 0, 0, 0, 0, 0, 0, 0, 0, 0, 0, 0, 0, 0, 0, 0, 0, 0, 0, 0, 0, 0, 0, 0, 0, 0, 0, 0, 0, 0, 0, 0, 0, 0, 0, 0, 0, 0, 0, 0, 0, 0, 0, 0, 0, 0, 0, 0, 0, 0, 0]
theorem mix_nil0 : mixF kcT (bfn blk_nil0) (ini8) = mk8 3820012610 2566659092 2600203464 2574235940 665731556 1687917388 2761267483 2018687061 :=
  mix_val _ [996066459, 1153231965, 1581412744, 3704256008, 4161330627, 133517113, 1967544444, 43741191, 3526495142, 907775968, 195877528, 369937616, 30329261, 1008022316, 748767245, 3741240933, 1575308336, 3297584367, 614207615, 3286092305, 2975250741, 1562224585, 62000258, 2561075048, 2165675682, 2813755136, 4274181962, 1904000662, 2742808854, 109604294, 676112230, 3287351444, 3374850048, 3594910044, 337794312, 3592562048, 1711282176, 1451269, 4235264, 1476919296, 2147483648, 84448578, 0, 570427392, 0, 2117632, 0, 2147483648, 0, 0, 0, 0, 0, 0, 0, 0, 0, 0, 0, 0, 0, 0, 0, 2147483648] _ (mk8 2040978907 3717492111 1586299222 4095722474 3600805733 3382061760 2232532848 477227836) _ (by kernel_rfl) (by kernel_rfl) (fun j => by
    match j with
    | 0 => rfl
    | 1 => rfl
    | 2 => rfl
    | 3 => rfl
    | 4 => rfl
    | 5 => rfl
    | 6 => rfl
    | n + 7 => rfl)
theorem sha_nil : strOf (shaF kcT []) 32 = ⟨#[227, 176, 196, 66, 152, 252, 28, 20, 154, 251, 244, 200, 153, 111, 185, 36, 39, 174, 65, 228, 100, 155, 147, 76, 164, 149, 153, 27, 120, 82, 184, 85]⟩ := by
  have e : padF [] = blk_nil0 ++ [] := by kernel_rfl
  have f : feed kcT (ini8, []) (padF []) = (mk8 3820012610 2566659092 2600203464 2574235940 665731556 1687917388 2761267483 2018687061, []) := by rw [e, feed_chunk _ _ _ _ (by kernel_rfl), mix_nil0]; rfl
  have g : shaF kcT [] = dgF (mk8 3820012610 2566659092 2600203464 2574235940 665731556 1687917388 2761267483 2018687061) := by unfold shaF; rw [f]
  have h : strOf (dgF (mk8 3820012610 2566659092 2600203464 2574235940 665731556 1687917388 2761267483 2018687061)) 32 = ⟨#[227, 176, 196, 66, 152, 252, 28, 20, 154, 251, 244, 200, 153, 111, 185, 36, 39, 174, 65, 228, 100, 155, 147, 76, 164, 149, 153, 27, 120, 82, 184, 85]⟩ := by kernel_rfl
  rw [g]; exact h
def blk_long0 : List UInt8 := [97, 98, 99, 100, 98, 99, 100, 101, 99, 100, 101, 102, 100, 101, 102, 103, 101, 102, 103, 104, 102, 103, 104, 105, 103, 104, 105, 106, 104, 105, 106, 107, 105, 106, 107, 108, 106, 107, 108, 109, 107, 108, 109, 110, 108, 109, 110, 111, 109, 110, 111, 112, 110, 111, 112, 113, 128, 0, 0, 0, 0, 0, 0, 0]
theorem mix_long0 : mixF kcT (bfn blk_long0) (ini8) = mk8 2246464982 1098520469 862140266 1649204828 1994429833 3401971729 3427480257 4061025082 :=
  mix_val _ [1789266489, 2849992546, 440258711, 1073851889, 2356030570, 4251869823, 2336727811, 2328375502, 4142358812, 2027968605, 3586894366, 2123600585, 3121765433, 1345344745, 395514570, 191915395, 1868941719, 2118769763, 261420131, 1911633104, 70081519, 2626269012, 218755085, 3829498855, 2537811576, 905935492, 559366661, 1863844298, 3281505646, 3605092697, 503268393, 2822103402, 3998860489, 720483034, 4115443864, 1791803628, 3914979741, 2526859336, 4083517172, 3723171094, 2994776011, 2652241974, 3628590942, 2460557828, 3124946755, 1994996642, 2814619282, 3951039149, 0, 2147483648, 1852797041, 1835954032, 1819111023, 1802268014, 1785425005, 1768581996, 1751738987, 1734895978, 1718052969, 1701209960, 1684366951, 1667523942, 1650680933, 1633837924] _ (mk8 467431279 2249353488 4143203320 3170691362 634536714 801148805 2898745622 2519565857) _ (by kernel_rfl) (by kernel_rfl) (fun j => by
    match j with
    | 0 => rfl
    | 1 => rfl
    | 2 => rfl
    | 3 => rfl
    | 4 => rfl
    | 5 => rfl
    | 6 => rfl
    | n + 7 => rfl)
def blk_long1 : List UInt8 := [0, 0, 0, 0, 0, 0, 0, 0, 0, 0, 0, 0, 0, 0, 0, 0, 0, 0, 0, 0, 0, 0, 0, 0, 0, 0, 0, 0, 0, 0, 0, 0, 0, 0, 0, 0, 0, 0, 0, 0, 0, 0, 0, 0, 0, 0, 0, 0, 0, 0, 0, 0, 0, 0, 0, 0, 0, 0, 0, 0, 0, 0, 1, 192]
theorem mix_long1 : mixF kcT (bfn blk_long1) (mk8 2246464982 1098520469 862140266 1649204828 1994429833 3401971729 3427480257 4061025082) = mk8 613247585 3523623096 3854575251 205414457 2738676825 1694441831 4142722516 433784513 :=
  mix_val _ [3103886162, 3928959610, 2185205730, 3410979526, 167996573, 3644702171, 1973917769, 3367516024, 2111974812, 124913566, 3760382523, 1090919095, 2534651358, 2666246732, 3801151379, 728075709, 2596701352, 821826205, 1712633185, 2658453874, 3307044164, 1448087714, 957015190, 275994870, 3976663423, 2020172421, 2774061449, 4163189838, 3316936525, 3380328177, 3797353322, 1576317124, 253339849, 1282750922, 151697171, 1674805301, 393222119, 41829, 571116948, 28311552, 469782556, 448, 502620173, 0, 13943, 0, 14155776, 0, 448, 0, 0, 0, 0, 0, 0, 0, 0, 0, 0, 0, 0, 0, 0, 0] _ (mk8 2661749899 2425102627 2992434985 2851176925 744246992 2587437398 715242259 667726727) _ (by kernel_rfl) (by kernel_rfl) (fun j => by
    match j with
    | 0 => rfl
    | 1 => rfl
    | 2 => rfl
    | 3 => rfl
    | 4 => rfl
    | 5 => rfl
    | 6 => rfl
    | n + 7 => rfl)
theorem sha_long : strOf (shaF kcT [97, 98, 99, 100, 98, 99, 100, 101, 99, 100, 101, 102, 100, 101, 102, 103, 101, 102, 103, 104, 102, 103, 104, 105, 103, 104, 105, 106, 104, 105, 106, 107, 105, 106, 107, 108, 106, 107, 108, 109, 107, 108, 109, 110, 108, 109, 110, 111, 109, 110, 111, 112, 110, 111, 112, 113]) 32 = ⟨#[36, 141, 106, 97, 210, 6, 56, 184, 229, 192, 38, 147, 12, 62, 96, 57, 163, 60, 228, 89, 100, 255, 33, 103, 246, 236, 237, 212, 25, 219, 6, 193]⟩ := by
  have e : padF [97, 98, 99, 100, 98, 99, 100, 101, 99, 100, 101, 102, 100, 101, 102, 103, 101, 102, 103, 104, 102, 103, 104, 105, 103, 104, 105, 106, 104, 105, 106, 107, 105, 106, 107, 108, 106, 107, 108, 109, 107, 108, 109, 110, 108, 109, 110, 111, 109, 110, 111, 112, 110, 111, 112, 113] = blk_long0 ++ (blk_long1 ++ []) := by kernel_rfl
  have f : feed kcT (ini8, []) (padF [97, 98, 99, 100, 98, 99, 100, 101, 99, 100, 101, 102, 100, 101, 102, 103, 101, 102, 103, 104, 102, 103, 104, 105, 103, 104, 105, 106, 104, 105, 106, 107, 105, 106, 107, 108, 106, 107, 108, 109, 107, 108, 109, 110, 108, 109, 110, 111, 109, 110, 111, 112, 110, 111, 112, 113]) = (mk8 613247585 3523623096 3854575251 205414457 2738676825 1694441831 4142722516 433784513, []) := by rw [e, feed_chunk _ _ _ _ (by kernel_rfl), mix_long0, feed_chunk _ _ _ _ (by kernel_rfl), mix_long1]; rfl
  have g : shaF kcT [97, 98, 99, 100, 98, 99, 100, 101, 99, 100, 101, 102, 100, 101, 102, 103, 101, 102, 103, 104, 102, 103, 104, 105, 103, 104, 105, 106, 104, 105, 106, 107, 105, 106, 107, 108, 106, 107, 108, 109, 107, 108, 109, 110, 108, 109, 110, 111, 109, 110, 111, 112, 110, 111, 112, 113] = dgF (mk8 613247585 3523623096 3854575251 205414457 2738676825 1694441831 4142722516 433784513) := by unfold shaF; rw [f]
  have h : strOf (dgF (mk8 613247585 3523623096 3854575251 205414457 2738676825 1694441831 4142722516 433784513)) 32 = ⟨#[36, 141, 106, 97, 210, 6, 56, 184, 229, 192, 38, 147, 12, 62, 96, 57, 163, 60, 228, 89, 100, 255, 33, 103, 246, 236, 237, 212, 25, 219, 6, 193]⟩ := by kernel_rfl
  rw [g]; exact h
theorem sip_key : fin (absorb 15 (ini 506097522914230528 1084818905618843912) [0, 1, 2, 3, 4, 5, 6, 7, 8, 9, 10, 11, 12, 13, 14]) = 11613035633349379557 := by
  rw [absorb_word _ _ _ (by decide), absorb_last _ _ _ (by decide)]
  kernel_rfl
theorem sip_nil : fin (absorb 0 (ini 506097522914230528 1084818905618843912) []) = 8246050544436514353 := by
  rw [absorb_last _ _ _ (by decide)]
  kernel_rfl
end Go.Proofs.YtkmalggeieiepabDoor
namespace Go.Proofs.YtkmalggeieiepabDoor
open Go.RowKit

end Go.Proofs.YtkmalggeieiepabDoor
namespace Go.Proofs.YtkmalggeieiepabDoor
open Go.RowKit

/-- a text of these bytes. -/
def ofL (l : List UInt8) : ByteArray := ⟨l.toArray⟩
theorem ofL_data (l : List UInt8) : (ofL l).data.toList = l := rfl
theorem ofL_size (l : List UInt8) : (ofL l).size = l.length := by simp [ofL, ByteArray.size]
theorem ofL_of (s : ByteArray) : ofL s.data.toList = s := by apply ByteArray.ext; simp [ofL]
theorem ofL_inj {a b : List UInt8} (h : ofL a = ofL b) : a = b := by rw [← ofL_data a, ← ofL_data b, h]
theorem ofL_append (a b : List UInt8) : ofL a ++ ofL b = ofL (a ++ b) := by
  apply ByteArray.ext; rw [ByteArray.data_append]; simp [ofL]
theorem ofL_extract (l : List UInt8) (a b : Nat) : (ofL l).extract a b = ofL ((l.drop a).take (b - a)) := by
  have h := Lib.extract_data (ofL l) a b
  rw [← ofL_of ((ofL l).extract a b), h, ofL_data]
theorem ofL_get (l : List UInt8) (j : Nat) (h : j < l.length) : (ofL l)[j]'(by rw [ofL_size]; exact h) = l[j] := by
  show l.toArray[j] = l[j]
  simp

/-- as it was but for one block, and new ones. -/
structure Mov (g : Nat) (w w' : World) : Prop where
  os : w'.os = w.os
  tape : w'.tape = w.tape
  output : w'.output = w.output
  size : w.heap.size ≤ w'.heap.size
  block : ∀ k, k < w.heap.size → k ≠ g → w'.heap[k]? = w.heap[k]?
theorem Mov.refl (g : Nat) (w : World) : Mov g w w := ⟨rfl, rfl, rfl, Nat.le_refl _, fun _ _ _ => rfl⟩
theorem Mov.trans {g : Nat} {a b c : World} (h : Mov g a b) (k : Mov g b c) : Mov g a c :=
  ⟨k.os.trans h.os, k.tape.trans h.tape, k.output.trans h.output, Nat.le_trans h.size k.size, fun i hi hg => (k.block i (Nat.lt_of_lt_of_le hi h.size) hg).trans (h.block i hi hg)⟩
theorem Mov.below {g : Nat} {w w' : World} (h : Mov g w w') {B : Nat} (hB : B ≤ g) (hs : B ≤ w.heap.size) : Below B w w' :=
  ⟨h.os, h.tape, h.output, h.size, fun k hk => h.block k (by omega) (by omega)⟩
theorem Below.mov {w w' : World} (h : Below w.heap.size w w') (g : Nat) : Mov g w w' := ⟨h.os, h.tape, h.output, h.size, fun k hk _ => h.block k hk⟩
theorem Mov.set {g : Nat} {a w : World} (h : Mov g a w) (i : Nat) (u : Value) : Mov g a (w.setCell ⟨g, i, none⟩ u) :=
  ⟨h.os, h.tape, h.output, by simpa using h.size, fun k hk hg => (Below.heap_setCell w ⟨g, i, none⟩ u k hg).trans (h.block k hk hg)⟩

/-- a reader lies in block g. -/
structure Rd (w : World) (g : Nat) (l : List UInt8) (e : Int) : Prop where
  s : w.cell? ⟨g, 0, none⟩ = some (.string (ofL l))
  sf : w.frozen? ⟨g, 0, none⟩ = false
  e : w.cell? ⟨g, 1, none⟩ = some (.int .i64 e)
  ef : w.frozen? ⟨g, 1, none⟩ = false
theorem Rd.lt {w : World} {g : Nat} {l : List UInt8} {e : Int} (h : Rd w g l e) : g < w.heap.size := World.block_lt_of_cell? w _ h.s
theorem Rd.later {w w' : World} {g : Nat} {l : List UInt8} {e : Int} (h : Rd w g l e) (hb : Below w.heap.size w w') : Rd w' g l e := by
  have hl := h.lt
  exact ⟨by rw [hb.cell (p := ⟨g, 0, none⟩) hl]; exact h.s, by rw [hb.frozen (p := ⟨g, 0, none⟩) hl]; exact h.sf, by rw [hb.cell (p := ⟨g, 1, none⟩) hl]; exact h.e, by rw [hb.frozen (p := ⟨g, 1, none⟩) hl]; exact h.ef⟩
theorem Rd.setE {w : World} {g : Nat} {l : List UInt8} {e : Int} (h : Rd w g l e) (c : Int) : Rd (w.setCell ⟨g, 1, none⟩ (.int .i64 c)) g l c := by
  refine ⟨?_, ?_, ?_, ?_⟩
  · rw [World.cell?_setCell_other _ _ _ _ (by simp)]; exact h.s
  · simp only [World.frozen?_setCell]; exact h.sf
  · exact World.cell?_setCell_same _ _ _ h.e
  · simp only [World.frozen?_setCell]; exact h.ef
theorem Rd.setS {w : World} {g : Nat} {l : List UInt8} {e : Int} (h : Rd w g l e) (m : List UInt8) : Rd (w.setCell ⟨g, 0, none⟩ (.string (ofL m))) g m e := by
  refine ⟨?_, ?_, ?_, ?_⟩
  · exact World.cell?_setCell_same _ _ _ h.s
  · simp only [World.frozen?_setCell]; exact h.sf
  · rw [World.cell?_setCell_other _ _ _ _ (by simp)]; exact h.e
  · simp only [World.frozen?_setCell]; exact h.ef

/-- what is left to be read, and what was wrong. -/
def rWrong (c : Int) (r : List UInt8 × Int) : List UInt8 × Int := if r.2 = 0 then (r.1, c) else r
def rTake (n : Nat) (r : List UInt8 × Int) : List UInt8 × (List UInt8 × Int) :=
  if r.2 ≠ 0 then ([], r) else if r.1.length < n then ([], (r.1, 1)) else (r.1.take n, (r.1.drop n, r.2))

end Go.Proofs.YtkmalggeieiepabDoor
namespace Go.Proofs.YtkmalggeieiepabDoor
open Go.RowKit

/-- a number in so many bytes, the lowest first. -/
def le (n : Nat) : Nat → List UInt8
  | 0 => []
  | k + 1 => UInt8.ofNat n :: le (n / 256) k
theorem le_length (n k : Nat) : (le n k).length = k := by
  induction k generalizing n with
  | zero => rfl
  | succ k ih => simp [le, ih]
/-- a size as bytes. -/
def sizeL (n : Nat) : List UInt8 :=
  if n < 253 then le n 1 else if n < 65536 then 253 :: le n 2 else if n < 4294967296 then 254 :: le n 4 else 255 :: le n 8
theorem str1L (W : World) (x : Int) (h0 : 0 ≤ x) (h1 : x < 256) : (convert 23 9 (.slice (some ⟨W.heap.size, 0, none⟩) 1 1)).run Tryd.prog (W.alloc (.cells #[.int .u8 x] 5)) = .ok (.string (ofL [UInt8.ofNat x.toNat])) (W.alloc (.cells #[.int .u8 x] 5)) := by
  have e : ((UInt8.ofNat x.toNat).toNat : Int) = x := by simp; omega
  have := run_convert_bytes_back (P := Tryd.prog) (W.alloc (.cells #[.int .u8 x] 5)) 23 9 5 ⟨W.heap.size, 0, none⟩ 1 [UInt8.ofNat x.toNat] Tryd.underlying23 Tryd.underlying5 Tryd.underlying9
  refine this (fun j hj => ?_)
  obtain rfl : j = 0 := by simpa using hj
  simp only [List.getElem_cons_zero, e]
  simp [Addr.add, go_sem]

/-- a number that a uint64 holds. -/
def U64 (q : Nat) : Prop := q < 18446744073709551616
end Go.Proofs.YtkmalggeieiepabDoor
namespace Go.Proofs.YtkmalggeieiepabDoor
open Go.RowKit

/-- so many bytes follow a size's first. -/
def manyOf (c : UInt8) : Nat := if c = 253 then 2 else if c = 254 then 4 else if c = 255 then 8 else 0
def rSize (r : List UInt8 × Int) : Nat × (List UInt8 × Int) :=
  if r.2 ≠ 0 then (0, r)
  else match r.1 with
    | [] => (0, ([], 1))
    | c :: l =>
      if manyOf c = 0 then (c.toNat, (l, 0))
      else if l.length < manyOf c then (0, (l, 1))
      else (num (l.take (manyOf c)), (l.drop (manyOf c), if sizeL (num (l.take (manyOf c))) = c :: l.take (manyOf c) then 0 else 2))
theorem idx_one (c : UInt8) (W : World) : (Instr.index 9 (.string (ofL [c])) (.int .i64 0)).run Tryd.prog W = .ok (.int .u8 (c.toNat : Int)) W := by
  rw [run_index_string W 9 (ofL [c]) .i64 _ Tryd.underlying9, dif_pos ⟨by omega, by rw [ofL_size]; simp⟩]
  rfl

theorem text_ne {a b : ByteArray} (h : ¬ a = b) : (a.toList == b.toList) = false := by
  have k : ∀ s : ByteArray, s.toList = s.data.toList := fun s => by obtain ⟨⟨l⟩⟩ := s; simp
  rw [k, k, beq_eq_false_iff_ne]
  exact fun e => h (by rw [← ofL_of a, ← ofL_of b, e])
end Go.Proofs.YtkmalggeieiepabDoor
namespace Go.Proofs.YtkmalggeieiepabDoor
open Go.RowKit

def rWithin (lo hi : Nat) (r : List UInt8 × Int) : Nat × (List UInt8 × Int) :=
  if (rSize r).2.2 ≠ 0 then (0, (rSize r).2) else if (rSize r).1 < lo ∨ hi < (rSize r).1 then (0, ((rSize r).2.1, 3)) else rSize r
def rDone (r : List UInt8 × Int) : List UInt8 × Int := if r.2 = 0 ∧ r.1 ≠ [] then (r.1, 5) else r

theorem rTake_le (n : Nat) (r : List UInt8 × Int) : (rTake n r).2.1.length ≤ r.1.length := by
  unfold rTake
  split
  · exact Nat.le_refl _
  · split
    · exact Nat.le_refl _
    · simp
theorem rSize_le (r : List UInt8 × Int) : (rSize r).2.1.length ≤ r.1.length := by
  obtain ⟨l, e⟩ := r
  unfold rSize
  split
  · exact Nat.le_refl _
  · cases l with
    | nil => exact Nat.le_refl _
    | cons c l =>
      show (if manyOf c = 0 then _ else _ : Nat × (List UInt8 × Int)).2.1.length ≤ _
      split
      · simp
      · split
        · simp
        · simp; omega
theorem rWithin_le (lo hi : Nat) (r : List UInt8 × Int) : (rWithin lo hi r).2.1.length ≤ r.1.length := by
  have h := rSize_le r
  unfold rWithin
  split
  · exact h
  · split
    · exact h
    · exact h
theorem rWithin_hi (lo hi : Nat) (r : List UInt8 × Int) : (rWithin lo hi r).1 ≤ hi := by
  unfold rWithin
  split
  · exact Nat.zero_le _
  · split
    · exact Nat.zero_le _
    · omega

end Go.Proofs.YtkmalggeieiepabDoor
