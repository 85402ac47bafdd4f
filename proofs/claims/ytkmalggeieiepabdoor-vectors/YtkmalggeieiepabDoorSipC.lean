import Derived.Test.YtkmalggeieiepabDoorSipB
import Derived.WalkKit
import Derived.WalkSpells
import Derived.WalkLawsBesides
import Derived.Deep.QuietTactic
import Derived.BigQuiet
import Derived.Deep.RegionWith
import Derived.Deep.DeepCutAuto
import Derived.Deep.LoopGhost
namespace Go.Proofs.YtkmalggeieiepabDoor
open Go.RowKit

def Room4 (w : World) (b : Nat) : Prop := (w.cell? ⟨b, 0, none⟩).isSome = true ∧ (w.cell? ⟨b, 1, none⟩).isSome = true ∧ (w.cell? ⟨b, 2, none⟩).isSome = true ∧ (w.cell? ⟨b, 3, none⟩).isSome = true ∧ Free4 w b

theorem sc_same (w : World) (a : Addr) (v : Value) (h : (w.cell? a).isSome = true) : (w.setCell a v).cell? a = some v := by
  obtain ⟨u, hu⟩ := Option.isSome_iff_exists.1 h
  exact World.cell?_setCell_same _ _ _ hu

/-- The box of four numbers at the first block behind w, a second block behind it that may be written, and all that was there as it was. -/
structure Box (w w' : World) (u : St) : Prop where
  at4 : At4 w' w.heap.size u
  free : Free4 w' w.heap.size
  room : Room4 w' (w.heap.size + 1)
  below : Below w.heap.size w w'
theorem Box.drew {w w' : World} {u : St} (h : Box w w' u) : Box w w'.drew u := ⟨h.at4, h.free, h.room, h.below.drew⟩
theorem Box.set0 {w w' : World} {a b c d : Int} (h : Box w w' ⟨a, b, c, d⟩) (x : Int) : Box w (w'.setCell ⟨w.heap.size, 0, none⟩ (.int .u64 x)) ⟨x, b, c, d⟩ := by
  obtain ⟨⟨h0, h1, h2, h3⟩, hf, hr, hb⟩ := h
  refine ⟨?_, ?_, ?_, hb.setCell (Nat.le_refl _) _⟩
  · simp only at h0 h1 h2 h3; simp [At4, sc_same, World.cell?_setCell_other, h0, h1, h2, h3]
  · simpa [Free4] using hf
  · simpa [Room4, Free4, World.cell?_setCell_other] using hr
theorem Box.set1 {w w' : World} {a b c d : Int} (h : Box w w' ⟨a, b, c, d⟩) (x : Int) : Box w (w'.setCell ⟨w.heap.size, 1, none⟩ (.int .u64 x)) ⟨a, x, c, d⟩ := by
  obtain ⟨⟨h0, h1, h2, h3⟩, hf, hr, hb⟩ := h
  refine ⟨?_, ?_, ?_, hb.setCell (Nat.le_refl _) _⟩
  · simp only at h0 h1 h2 h3; simp [At4, sc_same, World.cell?_setCell_other, h0, h1, h2, h3]
  · simpa [Free4] using hf
  · simpa [Room4, Free4, World.cell?_setCell_other] using hr
theorem Box.set2 {w w' : World} {a b c d : Int} (h : Box w w' ⟨a, b, c, d⟩) (x : Int) : Box w (w'.setCell ⟨w.heap.size, 2, none⟩ (.int .u64 x)) ⟨a, b, x, d⟩ := by
  obtain ⟨⟨h0, h1, h2, h3⟩, hf, hr, hb⟩ := h
  refine ⟨?_, ?_, ?_, hb.setCell (Nat.le_refl _) _⟩
  · simp only at h0 h1 h2 h3; simp [At4, sc_same, World.cell?_setCell_other, h0, h1, h2, h3]
  · simpa [Free4] using hf
  · simpa [Room4, Free4, World.cell?_setCell_other] using hr
theorem Box.set3 {w w' : World} {a b c d : Int} (h : Box w w' ⟨a, b, c, d⟩) (x : Int) : Box w (w'.setCell ⟨w.heap.size, 3, none⟩ (.int .u64 x)) ⟨a, b, c, x⟩ := by
  obtain ⟨⟨h0, h1, h2, h3⟩, hf, hr, hb⟩ := h
  refine ⟨?_, ?_, ?_, hb.setCell (Nat.le_refl _) _⟩
  · simp only at h0 h1 h2 h3; simp [At4, sc_same, World.cell?_setCell_other, h0, h1, h2, h3]
  · simpa [Free4] using hf
  · simpa [Room4, Free4, World.cell?_setCell_other] using hr


set_option maxHeartbeats 2000000 in
theorem rounds_any (v : St) (n : Nat) (w : World) (hn : n ≤ 100) (hv : v.ok) :
    Calls Tryd.prog 46 #[.agg #[.int .u64 v.a, .int .u64 v.b, .int .u64 v.c, .int .u64 v.d], .int .i64 n] w fun e w' => e = .returned (.agg #[.int .u64 (rnds n v).a, .int .u64 (rnds n v).b, .int .u64 (rnds n v).c, .int .u64 (rnds n v).d]) ∧ Below w.heap.size w w' := by
  go_enter Tryd.func46, Tryd.ntmps46
  go_wp2
  go_loopg [6] n (fun g i w' => ∃ k : Nat, ∃ u : St, k + g = n ∧ i = .int .i64 k ∧ u.ok ∧ u = rnds k v ∧ Box w w' u)
  case atStart => exact ⟨0, v, Nat.zero_add _, rfl, hv, rfl, by simp [At4, go_sem], by simp [Free4, go_sem], by simp [Room4, Free4, go_sem], ((Below.refl _ _).alloc (Nat.le_refl _) _).alloc (by simp) _⟩
  case round =>
    obtain ⟨k, u, hk, rfl, hu, hr, hbox⟩ := hrel
    have HR : Hid (u = rnds k v) := hr
    have HB : Hid (Box w wr u) := hbox
    have HK : Hid (k + gk = n) := hk
    obtain ⟨⟨c0, c1, c2, c3⟩, ⟨f0, f1, f2, f3⟩, hroom, _⟩ := hbox
    by_cases hlt : k < n
    · clear hr hroom
      go_upto_region 5 with fail
      go_cut [] (fun wx => Box w wx ⟨IntKind.u64.wrap (u.a + u.b), bits .xor .u64 (rot 13 u.b) (IntKind.u64.wrap (u.a + u.b)), IntKind.u64.wrap (u.c + u.d), u.d⟩)
      case first =>
        go_region_with (go_at_call 75; refine (rotl_any _ _ _ (by omega) ?_).mono ?_; (exact hu.2.1); rintro e w' ⟨rfl, rfl⟩)
        all_goals (go_wp2_with fail; go_meet)
        all_goals exact (Box.set1 (Box.set2 (Box.set0 (show Box w _ ⟨u.a, u.b, u.c, u.d⟩ from HB.out) _) _) _).drew
      case rest =>
      clear HB c0 c1 c2 c3 f0 f1 f2 f3
      have HB : Hid (Box w wc _) := hcut
      obtain ⟨⟨c0, c1, c2, c3⟩, ⟨f0, f1, f2, f3⟩, _, _⟩ := hcut
      dsimp only at c0 c1 c2 c3
      go_upto_region 6 with fail
      go_cut [] (fun wx => Box w wx (half1 u))
      case first =>
        go_region_with (go_at_call 75; refine (rotl_any _ _ _ (by omega) ?_).mono ?_; (exact hu.2.2.2); rintro e w' ⟨rfl, rfl⟩)
        all_goals (go_wp2_with fail; go_meet)
        all_goals exact (Box.set3 HB.out _).drew
      case rest =>
      clear HB c0 c1 c2 c3 f0 f1 f2 f3
      have hx := half1_ok u
      have HX : Hid (rnd u = half2 (half1 u)) := rfl
      generalize half1 u = x at hx HX hcut
      have HB : Hid (Box w wc x) := hcut
      obtain ⟨⟨c0, c1, c2, c3⟩, ⟨f0, f1, f2, f3⟩, _, _⟩ := hcut
      go_upto_region 9 with (go_at_call 75; refine (rotl_any _ _ _ (by omega) ?_).mono ?_; (exact hx.1); rintro e w' ⟨rfl, rfl⟩)
      go_cut [] (fun wx => Box w wx ⟨IntKind.u64.wrap (rot 32 x.a + x.d), x.b, IntKind.u64.wrap (x.c + x.b), x.d⟩)
      case first =>
        go_wp2
        go_meet
        exact Box.set0 (Box.set2 (Box.set0 (show Box w _ ⟨x.a, x.b, x.c, x.d⟩ from HB.out) _) _) _
      case rest =>
      clear HB c0 c1 c2 c3 f0 f1 f2 f3
      have HB : Hid (Box w wc _) := hcut
      obtain ⟨⟨c0, c1, c2, c3⟩, ⟨f0, f1, f2, f3⟩, _, _⟩ := hcut
      dsimp only at c0 c1 c2 c3
      go_upto_region 10 with fail
      go_cut [] (fun wx => Box w wx ⟨IntKind.u64.wrap (rot 32 x.a + x.d), bits .xor .u64 (rot 17 x.b) (IntKind.u64.wrap (x.c + x.b)), IntKind.u64.wrap (x.c + x.b), x.d⟩)
      case first =>
        go_region_with (go_at_call 75; refine (rotl_any _ _ _ (by omega) ?_).mono ?_; (exact hx.2.1); rintro e w' ⟨rfl, rfl⟩)
        all_goals (go_wp2_with fail; go_meet)
        all_goals exact (Box.set1 HB.out _).drew
      case rest =>
      clear HB c0 c1 c2 c3 f0 f1 f2 f3
      have HB : Hid (Box w wc _) := hcut
      obtain ⟨⟨c0, c1, c2, c3⟩, ⟨f0, f1, f2, f3⟩, _, _⟩ := hcut
      dsimp only at c0 c1 c2 c3
      go_upto_region 11 with fail
      go_cut [] (fun wx => Box w wx ⟨IntKind.u64.wrap (rot 32 x.a + x.d), bits .xor .u64 (rot 17 x.b) (IntKind.u64.wrap (x.c + x.b)), IntKind.u64.wrap (x.c + x.b), bits .xor .u64 (rot 21 x.d) (IntKind.u64.wrap (rot 32 x.a + x.d))⟩)
      case first =>
        go_region_with (go_at_call 75; refine (rotl_any _ _ _ (by omega) ?_).mono ?_; (exact hx.2.2.2); rintro e w' ⟨rfl, rfl⟩)
        all_goals (go_wp2_with fail; go_meet)
        all_goals exact (Box.set3 HB.out _).drew
      case rest =>
      clear HB c0 c1 c2 c3 f0 f1 f2 f3
      have HB : Hid (Box w wc _) := hcut
      obtain ⟨⟨c0, c1, c2, c3⟩, ⟨f0, f1, f2, f3⟩, _, _⟩ := hcut
      dsimp only at c0 c1 c2 c3
      go_wp2_with (go_at_call 75; refine (rotl_any _ _ _ (by omega) ?_).mono ?_; (exact isU_wrap _); rintro e w' ⟨rfl, rfl⟩)
      go_roundg (gk - 1)
      case measure => omega
      case rel =>
        refine ⟨k + 1, rnd u, by omega, by go_num, rnd_ok u, ?_, ?_⟩
        · rw [rnds_succ, ← HR.out]
        · rw [HX.out]; exact Box.set2 HB.out _
    · obtain ⟨r0, r1, r2, r3, g0, g1, g2, g3⟩ := hroom
      obtain ⟨x0, e0⟩ := Option.isSome_iff_exists.1 r0
      obtain ⟨x1, e1⟩ := Option.isSome_iff_exists.1 r1
      obtain ⟨x2, e2⟩ := Option.isSome_iff_exists.1 r2
      obtain ⟨x3, e3⟩ := Option.isSome_iff_exists.1 r3
      clear r0 r1 r2 r3 hr
      go_wp2
      obtain rfl : k = n := by omega
      have hr := HR.out
      subst hr
      refine bodyPost_ret (v := .agg #[.int .u64 (rnds k v).a, .int .u64 (rnds k v).b, .int .u64 (rnds k v).c, .int .u64 (rnds k v).d]) (by simp [results, Tryd.results46, go_sem, *]) rfl ⟨rfl, ?_⟩
      exact ((((HB.out.below.setCell (by simp) _).setCell (by simp) _).setCell (by simp) _).setCell (by simp) _)
end Go.Proofs.YtkmalggeieiepabDoor
