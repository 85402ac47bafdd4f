import Derived.Test.YtkmalggeieiepabDoorSipC
import Derived.WalkKit
import Derived.WalkSpells
import Derived.WalkLawsBesides
import Derived.Deep.QuietTactic
import Derived.BigQuiet
namespace Go.Proofs.YtkmalggeieiepabDoor
open Go.RowKit

theorem box_new (w : World) (v : St) (T : Nat) : Box w ((w.alloc (.cells #[.int .u64 v.a, .int .u64 v.b, .int .u64 v.c, .int .u64 v.d] T)).alloc (.cells #[.int .u64 0, .int .u64 0, .int .u64 0, .int .u64 0] T)) v :=
  ⟨by simp [At4, go_sem], by simp [Free4, go_sem], by simp [Room4, Free4, go_sem], ((Below.refl _ _).alloc (Nat.le_refl _) _).alloc (by simp) _⟩
theorem Box.later {w W w' : World} {u : St} (h : Box w W u) (hb : Below W.heap.size W w') : Box w w' u := by
  obtain ⟨⟨h0, h1, h2, h3⟩, ⟨f0, f1, f2, f3⟩, ⟨r0, r1, r2, r3, g0, g1, g2, g3⟩, hB⟩ := h
  obtain ⟨x0, e0⟩ := Option.isSome_iff_exists.1 r0
  have l0 := World.block_lt_of_cell? W _ h0
  have l1 := World.block_lt_of_cell? W _ e0
  have c := fun b o (hh : b < W.heap.size) => hb.cell (p := ⟨b, o, none⟩) hh
  have f := fun b o (hh : b < W.heap.size) => hb.frozen (p := ⟨b, o, none⟩) hh
  simp only at l0 l1
  refine ⟨⟨?_, ?_, ?_, ?_⟩, ⟨?_, ?_, ?_, ?_⟩, ⟨?_, ?_, ?_, ?_, ?_, ?_, ?_, ?_⟩, hB.trans (hb.mono (Nat.le_of_lt l0))⟩
  all_goals first | (rw [c _ _ l0]; assumption) | (rw [f _ _ l0]; assumption) | (rw [c _ _ l1]; assumption) | (rw [f _ _ l1]; assumption)
theorem Room4.out {w : World} {b : Nat} (h : Room4 w b) : ∃ x0 x1 x2 x3, w.cell? ⟨b, 0, none⟩ = some x0 ∧ w.cell? ⟨b, 1, none⟩ = some x1 ∧ w.cell? ⟨b, 2, none⟩ = some x2 ∧ w.cell? ⟨b, 3, none⟩ = some x3 ∧ Free4 w b := by
  obtain ⟨r0, r1, r2, r3, g⟩ := h
  obtain ⟨x0, e0⟩ := Option.isSome_iff_exists.1 r0
  obtain ⟨x1, e1⟩ := Option.isSome_iff_exists.1 r1
  obtain ⟨x2, e2⟩ := Option.isSome_iff_exists.1 r2
  obtain ⟨x3, e3⟩ := Option.isSome_iff_exists.1 r3
  exact ⟨x0, x1, x2, x3, e0, e1, e2, e3, g⟩

set_option maxHeartbeats 400000 in
theorem word_any (v : St) (m : Int) (w : World) (hv : v.ok) :
    Calls Tryd.prog 44 #[.agg #[.int .u64 v.a, .int .u64 v.b, .int .u64 v.c, .int .u64 v.d], .int .u64 m] w fun e w' => e = .returned (.agg #[.int .u64 (wrd v m).a, .int .u64 (wrd v m).b, .int .u64 (wrd v m).c, .int .u64 (wrd v m).d]) ∧ Below w.heap.size w w' := by
  have ok2 : St.ok ⟨v.a, v.b, v.c, bits .xor .u64 v.d m⟩ := ⟨hv.1, hv.2.1, hv.2.2.1, isU_bits .xor _ _⟩
  have hcall := fun W : World => rounds_any ⟨v.a, v.b, v.c, bits .xor .u64 v.d m⟩ 2 W (by omega) ok2
  have HW : Hid (wrd v m = ⟨bits .xor .u64 (rnds 2 ⟨v.a, v.b, v.c, bits .xor .u64 v.d m⟩).a m, (rnds 2 ⟨v.a, v.b, v.c, bits .xor .u64 v.d m⟩).b, (rnds 2 ⟨v.a, v.b, v.c, bits .xor .u64 v.d m⟩).c, (rnds 2 ⟨v.a, v.b, v.c, bits .xor .u64 v.d m⟩).d⟩) := rfl
  generalize rnds 2 ⟨v.a, v.b, v.c, bits .xor .u64 v.d m⟩ = x at hcall HW
  have bn := box_new w ⟨v.a, v.b, v.c, bits .xor .u64 v.d m⟩ 105
  have HBN : Hid (Box w ((w.alloc (.cells #[.int .u64 v.a, .int .u64 v.b, .int .u64 v.c, .int .u64 (bits .xor .u64 v.d m)] 105)).alloc (.cells #[.int .u64 0, .int .u64 0, .int .u64 0, .int .u64 0] 105)) ⟨v.a, v.b, v.c, bits .xor .u64 v.d m⟩) := bn
  clear bn
  go_enter Tryd.func44, Tryd.ntmps44
  go_wp2_with (go_at_call 46; go_must (refine (hcall _).mono ?_); rintro e w' ⟨rfl, hb⟩; have HB : Hid (Box w w' _) := HBN.out.later hb; clear hb; obtain ⟨⟨c0, c1, c2, c3⟩, ⟨f0, f1, f2, f3⟩, hroom, _⟩ := HB.out; obtain ⟨x0, x1, x2, x3, e0, e1, e2, e3, g0, g1, g2, g3⟩ := hroom.out; clear hroom; dsimp only at c0 c1 c2 c3)
  have hw := HW.out
  rw [hw]
  refine bodyPost_ret (v := .agg #[.int .u64 (bits .xor .u64 x.a m), .int .u64 x.b, .int .u64 x.c, .int .u64 x.d]) (by simp [results, Tryd.results44, go_sem, *]) rfl ⟨rfl, ?_⟩
  have hB := HB.out.below
  iterate 9 refine Below.setCell ?_ (by simp) _
  exact hB
end Go.Proofs.YtkmalggeieiepabDoor
