import Derived.Test.YtkmalggeieiepabDoorSipD
import Derived.Test.YtkmalggeieiepabDoorSipE
import Derived.WalkKit
import Derived.WalkSpells
import Derived.WalkLawsBesides
import Derived.Lib.Strings
import Derived.Deep.RegionWith
import Derived.Deep.DeepCutAuto
import Derived.Deep.LoopGhost
namespace Go.Proofs.YtkmalggeieiepabDoor
open Go.RowKit

/-- the last word. -/
def lastW (n : Nat) (l : List UInt8) : Int := bits .or .u64 (IntKind.u64.wrap (IntKind.u64.wrap (n : Int) * 72057594037927936)) (num l)
def absorb (n : Nat) (v : St) (l : List UInt8) : St :=
  if _h : 8 ≤ l.length then absorb n (wrd v (num (l.take 8))) (l.drop 8) else wrd v (lastW n l)
  termination_by l.length
  decreasing_by simp; omega
theorem absorb_word (n : Nat) (v : St) (l : List UInt8) (h : 8 ≤ l.length) : absorb n v l = absorb n (wrd v (num (l.take 8))) (l.drop 8) := by
  rw [absorb]; simp [h]
theorem absorb_last (n : Nat) (v : St) (l : List UInt8) (h : ¬ 8 ≤ l.length) : absorb n v l = wrd v (lastW n l) := by
  rw [absorb]; simp [h]
/-- what Sip begins with. -/
def ini (k l : Int) : St := ⟨bits .xor .u64 k 8317987319222330741, bits .xor .u64 l 7237128888997146477, bits .xor .u64 k 7816392313619706465, bits .xor .u64 l 8387220255154660723⟩
theorem ini_ok (k l : Int) : (ini k l).ok := ⟨isU_bits .xor _ _, isU_bits .xor _ _, isU_bits .xor _ _, isU_bits .xor _ _⟩

/-- The box of four numbers at the first block behind w. -/
structure Box1 (w w' : World) (u : St) : Prop where
  at4 : At4 w' w.heap.size u
  free : Free4 w' w.heap.size
  below : Below w.heap.size w w'
theorem box1_new (w : World) (v : St) (T : Nat) : Box1 w (w.alloc (.cells #[.int .u64 v.a, .int .u64 v.b, .int .u64 v.c, .int .u64 v.d] T)) v :=
  ⟨by simp [At4, go_sem], by simp [Free4, go_sem], (Below.refl _ _).alloc (Nat.le_refl _) _⟩
theorem Box1.drew {w w' : World} {u : St} (h : Box1 w w' u) : Box1 w w'.drew u := ⟨h.at4, h.free, h.below.drew⟩
theorem Box1.later {w W w' : World} {u : St} (h : Box1 w W u) (hb : Below W.heap.size W w') : Box1 w w' u := by
  obtain ⟨⟨h0, h1, h2, h3⟩, ⟨f0, f1, f2, f3⟩, hB⟩ := h
  have l0 := World.block_lt_of_cell? W _ h0
  have c := fun b o (hh : b < W.heap.size) => hb.cell (p := ⟨b, o, none⟩) hh
  have f := fun b o (hh : b < W.heap.size) => hb.frozen (p := ⟨b, o, none⟩) hh
  simp only at l0
  refine ⟨⟨?_, ?_, ?_, ?_⟩, ⟨?_, ?_, ?_, ?_⟩, hB.trans (hb.mono (Nat.le_of_lt l0))⟩
  all_goals first | (rw [c _ _ l0]; assumption) | (rw [f _ _ l0]; assumption)
theorem Box1.set2 {w w' : World} {a b c d : Int} (h : Box1 w w' ⟨a, b, c, d⟩) (x : Int) : Box1 w (w'.setCell ⟨w.heap.size, 2, none⟩ (.int .u64 x)) ⟨a, b, x, d⟩ := by
  obtain ⟨⟨h0, h1, h2, h3⟩, hf, hb⟩ := h
  refine ⟨?_, ?_, hb.setCell (Nat.le_refl _) _⟩
  · simp only at h0 h1 h2 h3; simp [At4, sc_same, World.cell?_setCell_other, h0, h1, h2, h3]
  · simpa [Free4] using hf
/-- all four written. -/
theorem Box1.all {w w' : World} {u : St} (h : Box1 w w' u) (a b c d : Int) : Box1 w ((((w'.setCell ⟨w.heap.size, 0, none⟩ (.int .u64 a)).setCell ⟨w.heap.size, 1, none⟩ (.int .u64 b)).setCell ⟨w.heap.size, 2, none⟩ (.int .u64 c)).setCell ⟨w.heap.size, 3, none⟩ (.int .u64 d)) ⟨a, b, c, d⟩ := by
  obtain ⟨⟨h0, h1, h2, h3⟩, hf, hb⟩ := h
  refine ⟨?_, ?_, (((hb.setCell (Nat.le_refl _) _).setCell (Nat.le_refl _) _).setCell (Nat.le_refl _) _).setCell (Nat.le_refl _) _⟩
  · simp [At4, sc_same, World.cell?_setCell_other, h0, h1, h2, h3]
  · simpa [Free4] using hf

theorem Box1.all' {w w' : World} {u : St} (h : Box1 w w' u) (x : St) : Box1 w ((((w'.setCell ⟨w.heap.size, 0, none⟩ (.int .u64 x.a)).setCell ⟨w.heap.size, 1, none⟩ (.int .u64 x.b)).setCell ⟨w.heap.size, 2, none⟩ (.int .u64 x.c)).setCell ⟨w.heap.size, 3, none⟩ (.int .u64 x.d)) x := h.all _ _ _ _

set_option maxHeartbeats 1000000 in
theorem sip_any (k l : Int) (s : ByteArray) (w : World) (hs : s.size ≤ 1048576) :
    Calls Tryd.prog 24 #[.int .u64 k, .int .u64 l, .string s] w fun e w' => e = .returned (.int .u64 (fin (absorb s.size (ini k l) s.data.toList))) ∧ Below w.heap.size w w' := by
  go_enter Tryd.func24, Tryd.ntmps24
  go_wp2
  go_loopg [8] s.size (fun g r wr => ∃ t : ByteArray, ∃ u : St, r = .string t ∧ t.size ≤ g ∧ t.size ≤ s.size ∧ u.ok ∧ absorb s.size u t.data.toList = absorb s.size (ini k l) s.data.toList ∧ Box1 w wr u)
  case atStart => exact ⟨s, ini k l, rfl, Nat.le_refl _, Nat.le_refl _, ini_ok k l, rfl, box1_new w (ini k l) _⟩
  case round =>
    obtain ⟨t, u, rfl, htg, hts, hu, ha, hbox⟩ := hrel
    have HA : Hid (absorb s.size u t.data.toList = absorb s.size (ini k l) s.data.toList) := ha
    have HB : Hid (Box1 w wr u) := hbox
    obtain ⟨⟨c0, c1, c2, c3⟩, ⟨f0, f1, f2, f3⟩, _⟩ := hbox
    clear ha
    by_cases h8 : 8 ≤ t.size
    · go_upto_region 4 with fail
      go_cut [] (fun wx => Box1 w wx (wrd u (num (t.data.toList.take 8))))
      case first =>
        go_region_with (first | (go_at_call 45; refine (lowest_any _ _ ?_).mono ?_; (simp; omega); rintro e w' ⟨rfl, rfl⟩) | (go_at_call 44; refine (word_any u _ _ hu).mono ?_; rintro e w' ⟨rfl, hb⟩; have HB2 : Hid (Box1 w w' u) := HB.out.drew.later hb; clear hb; obtain ⟨⟨c0, c1, c2, c3⟩, ⟨f0, f1, f2, f3⟩, _⟩ := HB2.out))
        all_goals (go_wp2_with fail; go_meet; exact (HB2.out.all' (wrd u (num (t.data.toList.take 8)))))
      case rest =>
      have HB2 : Hid (Box1 w wc (wrd u (num (t.data.toList.take 8)))) := hcut
      clear HB c0 c1 c2 c3 f0 f1 f2 f3 hcut
      go_wp2
      go_roundg (gk - 8)
      case measure => omega
      case rel =>
        have hl : t.data.toList.length = t.size := rfl
        have e2 : (t.extract 8 t.size).data.toList = t.data.toList.drop 8 := by rw [Lib.extract_data]; exact List.take_of_length_le (Nat.le_of_eq (by rw [List.length_drop, hl]))
        refine ⟨t.extract 8 t.size, _, rfl, by simp; omega, by simp; omega, wrd_ok u _ hu, ?_, HB2.out⟩
        rw [e2, ← absorb_word _ _ _ (by omega)]; exact HA.out
    · go_upto_region 6 with fail
      go_cut [] (fun wx => Box1 w wx (wrd u (lastW s.size t.data.toList)))
      case first =>
        go_region_with (first | (go_at_call 45; refine (lowest_any _ _ ?_).mono ?_; (omega); rintro e w' ⟨rfl, rfl⟩) | (go_at_call 44; refine (word_any u _ _ hu).mono ?_; rintro e w' ⟨rfl, hb⟩; have HB2 : Hid (Box1 w w' u) := HB.out.drew.later hb; clear hb; obtain ⟨⟨c0, c1, c2, c3⟩, ⟨f0, f1, f2, f3⟩, _⟩ := HB2.out))
        all_goals (go_wp2_with fail; go_meet; exact (HB2.out.all' (wrd u (lastW s.size t.data.toList))))
      case rest =>
      have hx := wrd_ok u (lastW s.size t.data.toList) hu
      have HX : Hid (wrd u (lastW s.size t.data.toList) = absorb s.size (ini k l) s.data.toList) := (absorb_last _ _ _ h8).symm.trans HA.out
      clear HB c0 c1 c2 c3 f0 f1 f2 f3 HA
      generalize wrd u (lastW s.size t.data.toList) = x at hx HX hcut
      have hx2 : St.ok ⟨x.a, x.b, bits .xor .u64 x.c 255, x.d⟩ := ⟨hx.1, hx.2.1, isU_bits .xor _ _, hx.2.2.2⟩
      have HF : Hid (fin x = bits .xor .u64 (bits .xor .u64 (bits .xor .u64 (rnds 4 ⟨x.a, x.b, bits .xor .u64 x.c 255, x.d⟩).a (rnds 4 ⟨x.a, x.b, bits .xor .u64 x.c 255, x.d⟩).b) (rnds 4 ⟨x.a, x.b, bits .xor .u64 x.c 255, x.d⟩).c) (rnds 4 ⟨x.a, x.b, bits .xor .u64 x.c 255, x.d⟩).d) := rfl
      have hcall := fun W : World => rounds_any ⟨x.a, x.b, bits .xor .u64 x.c 255, x.d⟩ 4 W (by omega) hx2
      generalize rnds 4 ⟨x.a, x.b, bits .xor .u64 x.c 255, x.d⟩ = y at HF hcall
      have HB : Hid (Box1 w wc ⟨x.a, x.b, x.c, x.d⟩) := hcut
      obtain ⟨⟨c0, c1, c2, c3⟩, ⟨f0, f1, f2, f3⟩, _⟩ := hcut
      go_wp2_with (go_at_call 46; go_must (refine (hcall _).mono ?_); rintro e w' ⟨rfl, hb⟩; have HB2 : Hid (Box1 w w' ⟨x.a, x.b, bits .xor .u64 x.c 255, x.d⟩) := (HB.out.set2 _).later hb; clear hb; obtain ⟨⟨c0, c1, c2, c3⟩, ⟨f0, f1, f2, f3⟩, _⟩ := HB2.out; dsimp only at c0 c1 c2 c3)
      go_ret
      rw [← HX.out, HF.out]
      exact ⟨rfl, (HB2.out.all _ _ _ _).below⟩

end Go.Proofs.YtkmalggeieiepabDoor
