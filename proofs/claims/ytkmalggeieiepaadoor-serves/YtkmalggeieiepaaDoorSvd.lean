import Derived.Test.YtkmalggeieiepaaDoorSvc
import Derived.Test.YtkmalggeieiepaaDoorSva
import Derived.WalkKit
import Derived.WalkSpells
import Derived.WalkLawsBesides
import Derived.Lib.Strings
import Derived.Deep.RegionWith
import Derived.Deep.DeepCutAuto
import Derived.Deep.LoopGhost
import Derived.Deep.QuietTactic
import Derived.BigQuiet
import Derived.Test.YtkmalggeieiepaaDoorRows
import Derived.Test.YtkmalggeieiepaaDoorSvb
import Derived.Deep.MidRow
import Derived.Great.BuildSlice
import Derived.OrdersHeld
import Derived.Deep.AppendLies
import Derived.Deep.RegionHeld3
import Derived.Lib.AppendStr
import Derived.OwnWalk
namespace Go.Proofs.YtkmalggeieiepaaDoor
open Go.RowKit

/-- the last word. -/
def lastW (n : Nat) (l : List UInt8) : Int := bits .or .u64 (IntKind.u64.wrap (IntKind.u64.wrap (n : Int) * 72057594037927936)) (num l)
def absorb (n : Nat) (v : St) (l : List UInt8) : St :=
  if _h : 8 ≤ l.length then absorb n (wrd v (num (l.take 8))) (l.drop 8) else wrd v (lastW n l)
  termination_by l.length
  decreasing_by simp; omega
theorem absorb_word (n : Nat) (v : St) (l : List UInt8) (h : 8 ≤ l.length) : absorb n v l = absorb n (wrd v (num (l.take 8))) (l.drop 8) := by
  rw [absorb]; simp [h]
theorem absorb_last (n : Nat) (v : St) (l : List UInt8) (h : ¬ 8 ≤ l.length) : absorb n v l = wrd v (lastW n l) := by
  rw [absorb]; simp [h]
/-- what Sip begins with. -/
def ini (k l : Int) : St := ⟨bits .xor .u64 k 8317987319222330741, bits .xor .u64 l 7237128888997146477, bits .xor .u64 k 7816392313619706465, bits .xor .u64 l 8387220255154660723⟩
theorem ini_ok (k l : Int) : (ini k l).ok := ⟨isU_bits .xor _ _, isU_bits .xor _ _, isU_bits .xor _ _, isU_bits .xor _ _⟩

/-- The box of four numbers at the first block behind w. -/
structure Box1 (w w' : World) (u : St) : Prop where
  at4 : At4 w' w.heap.size u
  free : Free4 w' w.heap.size
  below : Below w.heap.size w w'
theorem box1_new (w : World) (v : St) (T : Nat) : Box1 w (w.alloc (.cells #[.int .u64 v.a, .int .u64 v.b, .int .u64 v.c, .int .u64 v.d] T)) v :=
  ⟨by simp [At4, go_sem], by simp [Free4, go_sem], (Below.refl _ _).alloc (Nat.le_refl _) _⟩
theorem Box1.drew {w w' : World} {u : St} (h : Box1 w w' u) : Box1 w w'.drew u := ⟨h.at4, h.free, h.below.drew⟩
theorem Box1.later {w W w' : World} {u : St} (h : Box1 w W u) (hb : Below W.heap.size W w') : Box1 w w' u := by
  obtain ⟨⟨h0, h1, h2, h3⟩, ⟨f0, f1, f2, f3⟩, hB⟩ := h
  have l0 := World.block_lt_of_cell? W _ h0
  have c := fun b o (hh : b < W.heap.size) => hb.cell (p := ⟨b, o, none⟩) hh
  have f := fun b o (hh : b < W.heap.size) => hb.frozen (p := ⟨b, o, none⟩) hh
  simp only at l0
  refine ⟨⟨?_, ?_, ?_, ?_⟩, ⟨?_, ?_, ?_, ?_⟩, hB.trans (hb.mono (Nat.le_of_lt l0))⟩
  all_goals first | (rw [c _ _ l0]; assumption) | (rw [f _ _ l0]; assumption)
theorem Box1.set2 {w w' : World} {a b c d : Int} (h : Box1 w w' ⟨a, b, c, d⟩) (x : Int) : Box1 w (w'.setCell ⟨w.heap.size, 2, none⟩ (.int .u64 x)) ⟨a, b, x, d⟩ := by
  obtain ⟨⟨h0, h1, h2, h3⟩, hf, hb⟩ := h
  refine ⟨?_, ?_, hb.setCell (Nat.le_refl _) _⟩
  · simp only at h0 h1 h2 h3; simp [At4, sc_same, World.cell?_setCell_other, h0, h1, h2, h3]
  · simpa [Free4] using hf
/-- all four written. -/
theorem Box1.all {w w' : World} {u : St} (h : Box1 w w' u) (a b c d : Int) : Box1 w ((((w'.setCell ⟨w.heap.size, 0, none⟩ (.int .u64 a)).setCell ⟨w.heap.size, 1, none⟩ (.int .u64 b)).setCell ⟨w.heap.size, 2, none⟩ (.int .u64 c)).setCell ⟨w.heap.size, 3, none⟩ (.int .u64 d)) ⟨a, b, c, d⟩ := by
  obtain ⟨⟨h0, h1, h2, h3⟩, hf, hb⟩ := h
  refine ⟨?_, ?_, (((hb.setCell (Nat.le_refl _) _).setCell (Nat.le_refl _) _).setCell (Nat.le_refl _) _).setCell (Nat.le_refl _) _⟩
  · simp [At4, sc_same, World.cell?_setCell_other, h0, h1, h2, h3]
  · simpa [Free4] using hf

theorem Box1.all' {w w' : World} {u : St} (h : Box1 w w' u) (x : St) : Box1 w ((((w'.setCell ⟨w.heap.size, 0, none⟩ (.int .u64 x.a)).setCell ⟨w.heap.size, 1, none⟩ (.int .u64 x.b)).setCell ⟨w.heap.size, 2, none⟩ (.int .u64 x.c)).setCell ⟨w.heap.size, 3, none⟩ (.int .u64 x.d)) x := h.all _ _ _ _

set_option maxHeartbeats 1000000 in
theorem sip_any (k l : Int) (s : ByteArray) (w : World) (hs : s.size ≤ 1048576) :
    Calls Tryd.prog 91 #[.int .u64 k, .int .u64 l, .string s] w fun e w' => e = .returned (.int .u64 (fin (absorb s.size (ini k l) s.data.toList))) ∧ Below w.heap.size w w' := by
  go_enter Tryd.func91, Tryd.ntmps91
  go_wp2
  go_loopg [8] s.size (fun g r wr => ∃ t : ByteArray, ∃ u : St, r = .string t ∧ t.size ≤ g ∧ t.size ≤ s.size ∧ u.ok ∧ absorb s.size u t.data.toList = absorb s.size (ini k l) s.data.toList ∧ Box1 w wr u)
  case atStart => exact ⟨s, ini k l, rfl, Nat.le_refl _, Nat.le_refl _, ini_ok k l, rfl, box1_new w (ini k l) _⟩
  case round =>
    obtain ⟨t, u, rfl, htg, hts, hu, ha, hbox⟩ := hrel
    have HA : Hid (absorb s.size u t.data.toList = absorb s.size (ini k l) s.data.toList) := ha
    have HB : Hid (Box1 w wr u) := hbox
    obtain ⟨⟨c0, c1, c2, c3⟩, ⟨f0, f1, f2, f3⟩, _⟩ := hbox
    clear ha
    by_cases h8 : 8 ≤ t.size
    · go_upto_region 4 with fail
      go_cut [] (fun wx => Box1 w wx (wrd u (num (t.data.toList.take 8))))
      case first =>
        go_region_with (first | (go_at_call 89; refine (lowest_any _ _ ?_).mono ?_; (simp; omega); rintro e w' ⟨rfl, rfl⟩) | (go_at_call 96; refine (word_any u _ _ hu).mono ?_; rintro e w' ⟨rfl, hb⟩; have HB2 : Hid (Box1 w w' u) := HB.out.drew.later hb; clear hb; obtain ⟨⟨c0, c1, c2, c3⟩, ⟨f0, f1, f2, f3⟩, _⟩ := HB2.out))
        all_goals (go_wp2_with fail; go_meet; exact (HB2.out.all' (wrd u (num (t.data.toList.take 8)))))
      case rest =>
      have HB2 : Hid (Box1 w wc (wrd u (num (t.data.toList.take 8)))) := hcut
      clear HB c0 c1 c2 c3 f0 f1 f2 f3 hcut
      go_wp2
      go_roundg (gk - 8)
      case measure => omega
      case rel =>
        have hl : t.data.toList.length = t.size := rfl
        have e2 : (t.extract 8 t.size).data.toList = t.data.toList.drop 8 := by rw [Lib.extract_data]; exact List.take_of_length_le (Nat.le_of_eq (by rw [List.length_drop, hl]))
        refine ⟨t.extract 8 t.size, _, rfl, by simp; omega, by simp; omega, wrd_ok u _ hu, ?_, HB2.out⟩
        rw [e2, ← absorb_word _ _ _ (by omega)]; exact HA.out
    · go_upto_region 6 with fail
      go_cut [] (fun wx => Box1 w wx (wrd u (lastW s.size t.data.toList)))
      case first =>
        go_region_with (first | (go_at_call 89; refine (lowest_any _ _ ?_).mono ?_; (omega); rintro e w' ⟨rfl, rfl⟩) | (go_at_call 96; refine (word_any u _ _ hu).mono ?_; rintro e w' ⟨rfl, hb⟩; have HB2 : Hid (Box1 w w' u) := HB.out.drew.later hb; clear hb; obtain ⟨⟨c0, c1, c2, c3⟩, ⟨f0, f1, f2, f3⟩, _⟩ := HB2.out))
        all_goals (go_wp2_with fail; go_meet; exact (HB2.out.all' (wrd u (lastW s.size t.data.toList))))
      case rest =>
      have hx := wrd_ok u (lastW s.size t.data.toList) hu
      have HX : Hid (wrd u (lastW s.size t.data.toList) = absorb s.size (ini k l) s.data.toList) := (absorb_last _ _ _ h8).symm.trans HA.out
      clear HB c0 c1 c2 c3 f0 f1 f2 f3 HA
      generalize wrd u (lastW s.size t.data.toList) = x at hx HX hcut
      have hx2 : St.ok ⟨x.a, x.b, bits .xor .u64 x.c 255, x.d⟩ := ⟨hx.1, hx.2.1, isU_bits .xor _ _, hx.2.2.2⟩
      have HF : Hid (fin x = bits .xor .u64 (bits .xor .u64 (bits .xor .u64 (rnds 4 ⟨x.a, x.b, bits .xor .u64 x.c 255, x.d⟩).a (rnds 4 ⟨x.a, x.b, bits .xor .u64 x.c 255, x.d⟩).b) (rnds 4 ⟨x.a, x.b, bits .xor .u64 x.c 255, x.d⟩).c) (rnds 4 ⟨x.a, x.b, bits .xor .u64 x.c 255, x.d⟩).d) := rfl
      have hcall := fun W : World => rounds_any ⟨x.a, x.b, bits .xor .u64 x.c 255, x.d⟩ 4 W (by omega) hx2
      generalize rnds 4 ⟨x.a, x.b, bits .xor .u64 x.c 255, x.d⟩ = y at HF hcall
      have HB : Hid (Box1 w wc ⟨x.a, x.b, x.c, x.d⟩) := hcut
      obtain ⟨⟨c0, c1, c2, c3⟩, ⟨f0, f1, f2, f3⟩, _⟩ := hcut
      go_wp2_with (go_at_call 97; go_must (refine (hcall _).mono ?_); rintro e w' ⟨rfl, hb⟩; have HB2 : Hid (Box1 w w' ⟨x.a, x.b, bits .xor .u64 x.c 255, x.d⟩) := (HB.out.set2 _).later hb; clear hb; obtain ⟨⟨c0, c1, c2, c3⟩, ⟨f0, f1, f2, f3⟩, _⟩ := HB2.out; dsimp only at c0 c1 c2 c3)
      go_ret
      rw [← HX.out, HF.out]
      exact ⟨rfl, (HB2.out.all _ _ _ _).below⟩

end Go.Proofs.YtkmalggeieiepaaDoor
namespace Go.Proofs.YtkmalggeieiepaaDoor
open Go.RowKit

/-- words worked in till nothing is left. -/
def absR (v : St) (l : List UInt8) : St :=
  if _h : 8 ≤ l.length then absR (wrd v (num (l.take 8))) (l.drop 8) else v
  termination_by l.length
  decreasing_by simp; omega
theorem absR_word (v : St) (l : List UInt8) (h : 8 ≤ l.length) : absR v l = absR (wrd v (num (l.take 8))) (l.drop 8) := by
  rw [absR]; simp [h]
theorem absR_nil (v : St) : absR v [] = v := by rw [absR]; simp
theorem num_zeros (j : Nat) : num (List.replicate j 0) = 0 := by
  induction j with
  | zero => rfl
  | succ j ih => simp [List.replicate_succ, num, ih]
theorem num_last (l : List UInt8) (j : Nat) (b : UInt8) (h : l.length + j = 7) : num (l ++ List.replicate j 0 ++ [b]) = num l + 72057594037927936 * b.toNat := by
  rw [num_append, num_append, num_zeros]
  have e : (l ++ List.replicate j 0).length = 7 := by simp [h]
  rw [e]; simp [num]
theorem lastW_eq (n : Nat) (l : List UInt8) (h : l.length ≤ 7) : lastW n l = ((num l + 72057594037927936 * (UInt8.ofNat n).toNat : Nat) : Int) := by
  have h1 := num_lt l
  have h2 : 256 ^ l.length ≤ 256 ^ 7 := Nat.pow_le_pow_right (by omega) h
  have h3 : 256 ^ 7 = 72057594037927936 := by decide
  have h4 : (UInt8.ofNat n).toNat = n % 256 := by simp
  unfold lastW
  rw [h4, IntKind.wrap_u64, IntKind.wrap_u64]
  have h5 : (↑n % 18446744073709551616 * 72057594037927936 : Int) % 18446744073709551616 = ((n % 256 * 72057594037927936 : Nat) : Int) := by omega
  rw [h5]
  rw [bits_join .u64 64 (by decide) (fun n h h' => by rw [IntKind.wrap_u64]; omega) 56 _ _ (by omega) (by omega) (by omega) (by omega) (by omega) (by omega)]
  omega
theorem absR_pad (n : Nat) (j : Nat) : ∀ (m : Nat) (v : St) (l : List UInt8), l.length = m → (l.length + j + 1) % 8 = 0 → j < 8 → absR v (l ++ List.replicate j 0 ++ [UInt8.ofNat n]) = absorb n v l := by
  intro m
  induction m using Nat.strongRecOn with
  | ind m ih =>
    intro v l hl hm hj
    by_cases h8 : 8 ≤ l.length
    · rw [absorb_word n v l h8, absR_word _ _ (by simp; omega)]
      have e1 : (l ++ List.replicate j 0 ++ [UInt8.ofNat n]).take 8 = l.take 8 := by rw [List.append_assoc, List.take_append_of_le_length h8]
      have e2 : (l ++ List.replicate j 0 ++ [UInt8.ofNat n]).drop 8 = l.drop 8 ++ List.replicate j 0 ++ [UInt8.ofNat n] := by rw [List.append_assoc, List.drop_append_of_le_length h8, List.append_assoc]
      rw [e1, e2]
      exact ih (l.drop 8).length (by simp; omega) _ _ rfl (by simp; omega) hj
    · have e : (l ++ List.replicate j 0 ++ [UInt8.ofNat n]).length = 8 := by simp; omega
      rw [absorb_last n v l h8, absR_word _ _ (by omega)]
      rw [List.take_of_length_le (by omega), List.drop_of_length_le (by omega), absR_nil, lastW_eq n l (by omega), num_last l j _ (by omega)]

theorem sapp_toList (t : ByteArray) (b : UInt8) : (t ++ ⟨#[b]⟩ : ByteArray).data.toList = t.data.toList ++ [b] := by
  rw [ByteArray.data_append]; simp
theorem sapp_size (t : ByteArray) (b : UInt8) : (t ++ ⟨#[b]⟩ : ByteArray).size = t.size + 1 := by
  rw [ByteArray.size_append]; rfl
theorem stoList_eq (s : ByteArray) : s.toList = s.data.toList := by
  obtain ⟨⟨l⟩⟩ := s
  simp
theorem ssome_left (t : ByteArray) (h : 8 ≤ t.size) : t.toList.isEmpty = false := by
  rw [stoList_eq]
  have hl : t.data.toList.length = t.size := rfl
  cases e : t.data.toList with
  | nil => rw [e] at hl; simp at hl; omega
  | cons a l => rfl
theorem snone_left (t : ByteArray) (h : t.size = 0) : t.toList.isEmpty = true := by
  rw [stoList_eq]
  have hl : t.data.toList.length = t.size := rfl
  cases e : t.data.toList with
  | nil => rfl
  | cons a l => rw [e] at hl; simp at hl; omega
theorem At4.set0 {w : World} {b : Nat} {v : St} (h : At4 w b v) (x : Int) : At4 (w.setCell ⟨b, 0, none⟩ (.int .u64 x)) b ⟨x, v.b, v.c, v.d⟩ := by
  obtain ⟨h0, h1, h2, h3⟩ := h
  simp [At4, sc_same, World.cell?_setCell_other, h0, h1, h2, h3]
theorem At4.set2 {w : World} {b : Nat} {v : St} (h : At4 w b v) (x : Int) : At4 (w.setCell ⟨b, 2, none⟩ (.int .u64 x)) b ⟨v.a, v.b, x, v.d⟩ := by
  obtain ⟨h0, h1, h2, h3⟩ := h
  simp [At4, sc_same, World.cell?_setCell_other, h0, h1, h2, h3]
theorem At4.set3 {w : World} {b : Nat} {v : St} (h : At4 w b v) (x : Int) : At4 (w.setCell ⟨b, 3, none⟩ (.int .u64 x)) b ⟨v.a, v.b, v.c, x⟩ := by
  obtain ⟨h0, h1, h2, h3⟩ := h
  simp [At4, sc_same, World.cell?_setCell_other, h0, h1, h2, h3]
theorem Free4.set {w : World} {b : Nat} (h : Free4 w b) (a : Addr) (v : Value) : Free4 (w.setCell a v) b := by
  simpa [Free4] using h
theorem n_uesp : num [117, 101, 115, 112, 101, 109, 111, 115] = 8317987319222330741 := by decide
theorem n_modn : num [109, 111, 100, 110, 97, 114, 111, 100] = 7237128888997146477 := by decide
theorem n_aren : num [97, 114, 101, 110, 101, 103, 121, 108] = 7816392313619706465 := by decide
theorem n_sety : num [115, 101, 116, 121, 98, 100, 101, 116] = 8387220255154660723 := by decide
end Go.Proofs.YtkmalggeieiepaaDoor
namespace Go.Proofs.YtkmalggeieiepaaDoor
open Go.RowKit

set_option maxHeartbeats 400000 in
theorem left_any (k : Int) (x : Int) (w : World) (hk : k = 13 ∨ k = 16 ∨ k = 17 ∨ k = 21 ∨ k = 32) (hx : IsU x) :
    Calls Tryd.prog 98 #[.int .u64 x, .int .i64 k] w fun e w' => e = .returned (.int .u64 (rot k x)) ∧ ∃ n, w' = w.drewN n := by
  obtain ⟨h0, h1⟩ := hx
  rcases hk with rfl | rfl | rfl | rfl | rfl
  all_goals
    go_enter Tryd.func98, Tryd.ntmps98
    go_wp2
    go_quiet (fail)
    go_wp2
    go_ret
    exact ⟨rfl, _, rfl⟩
end Go.Proofs.YtkmalggeieiepaaDoor
namespace Go.Proofs.YtkmalggeieiepaaDoor
open Go.RowKit

set_option maxHeartbeats 1000000 in
theorem refRounds_any (b : Nat) (v : St) (n : Nat) (w : World) (hn : n ≤ 100) (hv : v.ok)
    (h0 : w.cell? ⟨b, 0, none⟩ = some (.int .u64 v.a)) (h1 : w.cell? ⟨b, 1, none⟩ = some (.int .u64 v.b)) (h2 : w.cell? ⟨b, 2, none⟩ = some (.int .u64 v.c)) (h3 : w.cell? ⟨b, 3, none⟩ = some (.int .u64 v.d)) :
    Calls Tryd.prog 94 #[.slice (some ⟨b, 0, none⟩) 4 4, .int .i64 n] w fun e w' => ∃ g, e = .returned (.slice (some ⟨g, 0, none⟩) 4 4) ∧ w.heap.size ≤ g ∧ At4 w' g (rnds n v) ∧ Free4 w' g ∧ Below w.heap.size w w' := by
  go_enter Tryd.func94, Tryd.ntmps94
  go_wp2
  go_loopw [1, 5, 6, 7, 8] (fun m a b c d w' => ∃ k : Nat, ∃ u : St, k ≤ n ∧ m = .int .i64 k ∧ u.ok ∧ rnds k u = rnds n v ∧ a = .int .u64 u.a ∧ b = .int .u64 u.b ∧ c = .int .u64 u.c ∧ d = .int .u64 u.d ∧ ∃ j, w' = w.drewN j) (fun m _ _ _ _ _ => (intOf m).toNat)
  case atStart => exact ⟨n, v, Nat.le_refl _, rfl, hv, rfl, rfl, rfl, rfl, rfl, 0, rfl⟩
  case round =>
    obtain ⟨k, u, hk, rfl, hu, hr, rfl, rfl, rfl, rfl, j, rfl⟩ := hrel
    have HR : Hid (rnds k u = rnds n v) := hr
    clear hr
    by_cases hlt : 0 < k
    · go_wp2_with (go_at_call 98; go_must (refine (left_any _ _ _ (by omega) ?_).mono ?_); (first | exact isU_wrap _ | exact isU_bits _ _ _ | exact isU_rot _ _ | exact hu.1 | exact hu.2.1 | exact hu.2.2.1 | exact hu.2.2.2); rintro e w' ⟨rfl, n', rfl⟩)
      go_roundw
      case rel => exact ⟨k - 1, rnd u, by omega, by go_num, rnd_ok u, by have h := HR.out; obtain ⟨m, rfl⟩ : ∃ m, k = m + 1 := ⟨k - 1, by omega⟩; exact h, rfl, rfl, rfl, rfl, _, rfl⟩
      case measure => simp [intOf]; omega
    · obtain rfl : k = 0 := by omega
      go_wp2
      go_ret
      have hr := HR.out
      refine ⟨w.heap.size, rfl, Nat.le_refl _, ?_, free4_new (w.drewN j) u _, ?_⟩
      · rw [← hr]; exact at4_new (w.drewN j) u _
      · exact (below_drewN (Below.refl _ _) j).alloc (Nat.le_refl _) _
end Go.Proofs.YtkmalggeieiepaaDoor
namespace Go.Proofs.YtkmalggeieiepaaDoor
open Go.RowKit

/-- one byte, as a string. -/
theorem sstr1 (W : World) (x : Int) (h0 : 0 ≤ x) (h1 : x < 256) : (convert 50 9 (.slice (some ⟨W.heap.size, 0, none⟩) 1 1)).run Tryd.prog (W.alloc (.cells #[.int .u8 x] 5)) = .ok (.string ⟨#[UInt8.ofNat x.toNat]⟩) (W.alloc (.cells #[.int .u8 x] 5)) := by
  have e : ((UInt8.ofNat x.toNat).toNat : Int) = x := by simp; omega
  have := run_convert_bytes_back (P := Tryd.prog) (W.alloc (.cells #[.int .u8 x] 5)) 50 9 5 ⟨W.heap.size, 0, none⟩ 1 [UInt8.ofNat x.toNat] Tryd.underlying50 Tryd.underlying5 Tryd.underlying9
  refine this (fun j hj => ?_)
  obtain rfl : j = 0 := by simpa using hj
  simp only [List.getElem_cons_zero, e]
  simp [Addr.add, go_sem]

set_option maxHeartbeats 1000000 in
theorem refSip_any (k l : Int) (s : ByteArray) (w : World) (hs : s.size ≤ 1048576) :
    Calls Tryd.prog 74 #[.int .u64 k, .int .u64 l, .string s] w fun e w' => e = .returned (.int .u64 (fin (absorb s.size (ini k l) s.data.toList))) ∧ Below w.heap.size w w' := by
  have n1 := n_uesp
  have n2 := n_modn
  have n3 := n_aren
  have n4 := n_sety
  go_enter Tryd.func74, Tryd.ntmps74
  go_wp2_with (go_at_call 93; go_must (refine (number_any _ _ (by decide)).mono ?_); rintro e w' ⟨rfl, hw⟩; obtain rfl := hw.symm)
  clear n1 n2 n3 n4
  have bx := box1_new w (ini k l) 36
  generalize hW : w.alloc (Obj.cells #[Value.int IntKind.u64 (bits BinOp.xor IntKind.u64 k 8317987319222330741), Value.int IntKind.u64 (bits BinOp.xor IntKind.u64 l 7237128888997146477), Value.int IntKind.u64 (bits BinOp.xor IntKind.u64 k 7816392313619706465), Value.int IntKind.u64 (bits BinOp.xor IntKind.u64 l 8387220255154660723)] 36) = W0
  have HB : Hid (Box1 w W0 (ini k l)) := by rw [← hW]; exact bx
  clear bx hW
  go_loopg [2] ((15 - s.size % 8) % 8) (fun g r wr => ∃ t : ByteArray, ∃ j : Nat, r = .string t ∧ t.data.toList = s.data.toList ++ List.replicate j 0 ∧ t.size = s.size + j ∧ j + g = (15 - s.size % 8) % 8 ∧ wr = W0)
  case atStart => exact ⟨s, 0, rfl, by simp, rfl, by omega, rfl⟩
  case round =>
    obtain ⟨t, j, rfl, ht, hts, hj, rfl⟩ := hrel
    have HT : Hid (t.data.toList = s.data.toList ++ List.replicate j 0) := ht
    have HTS : Hid (t.size = s.size + j) := hts
    have HJ : Hid (j + gk = (15 - s.size % 8) % 8) := hj
    have htb : t.size ≤ 1048584 := by omega
    by_cases hlt : t.size % 8 = 7
    · have hlb : (((t.size : Int) % 8) != 7) = false := by simp; omega
      have HL : Hid (t.size % 8 = 7) := hlt
      clear ht hts hj hlt
      generalize hm : (s.size : Int) % 256 = L
      have hL0 : 0 ≤ L := by omega
      have hL1 : L < 256 := by omega
      have HM : Hid ((s.size : Int) % 256 = L) := hm
      clear hm
      have hstr := sstr1 wr L hL0 hL1
      go_upto_region 6 with fail
      have HP : Hid (absR (ini k l) (t ++ ⟨#[UInt8.ofNat L.toNat]⟩ : ByteArray).data.toList = absorb s.size (ini k l) s.data.toList) := by
        have e0 : (t ++ ⟨#[UInt8.ofNat L.toNat]⟩ : ByteArray).data.toList = t.data.toList ++ [UInt8.ofNat L.toNat] := sapp_toList _ _
        have e1 : UInt8.ofNat L.toNat = UInt8.ofNat s.size := by
          rw [← HM.out, ← UInt8.toNat_inj]; simp; omega
        have h1 := HTS.out; have h2 := HL.out; have h3 := HJ.out
        rw [e0, HT.out, e1]
        exact absR_pad s.size j _ _ _ rfl (by show (s.size + j + 1) % 8 = 0; omega) (by omega)
      have hz1 : (t ++ ⟨#[UInt8.ofNat L.toNat]⟩ : ByteArray).size = t.size + 1 := sapp_size _ _
      have hz2 := HL.out
      generalize (t ++ ⟨#[UInt8.ofNat L.toNat]⟩ : ByteArray) = t2 at HP hz1
      clear HT HTS HJ HL HM
      have hbx := (HB.out.later ((Below.refl _ _).alloc (Nat.le_refl _) (.cells #[.int .u8 L] 5)))
      go_loopg [2, 7] t2.size (fun g r v wr => ∃ t' : ByteArray, ∃ u : St, ∃ b : Nat, r = .string t' ∧ v = .slice (some ⟨b, 0, none⟩) 4 4 ∧ t'.size ≤ g ∧ t'.size % 8 = 0 ∧ t'.size ≤ 1048600 ∧ u.ok ∧ absR u t'.data.toList = absorb s.size (ini k l) s.data.toList ∧ w.heap.size ≤ b ∧ At4 wr b u ∧ Free4 wr b ∧ Below w.heap.size w wr)
      case atStart => exact ⟨t2, ini k l, w.heap.size, rfl, rfl, Nat.le_refl _, by omega, by omega, ini_ok k l, HP.out, Nat.le_refl _, hbx.at4, hbx.free, hbx.below⟩
      case round =>
        clear hbx HP hz1 hz2 hstr
        obtain ⟨t', u, b, rfl, rfl, htg, ht8, htb2, hu, ha, hwb, ⟨c0, c1, c2, c3⟩, ⟨f0, f1, f2, f3⟩, hbel⟩ := hrel
        have HA : Hid (absR u t'.data.toList = absorb s.size (ini k l) s.data.toList) := ha
        have HBL : Hid (Below w.heap.size w wr) := hbel
        have H8 : Hid (t'.size % 8 = 0) := ht8
        clear ha hbel
        by_cases h8 : 8 ≤ t'.size
        · have hne : t'.toList.isEmpty = false := ssome_left t' h8
          clear ht8
          have m4 := At4.set3 (v := u) ⟨c0, c1, c2, c3⟩ (bits .xor .u64 u.d (num (t'.data.toList.take 8)))
          have hcall := refRounds_any b ⟨u.a, u.b, u.c, bits .xor .u64 u.d (num (t'.data.toList.take 8))⟩ 2 (wr.setCell ⟨b, 3, none⟩ (.int .u64 (bits .xor .u64 u.d (num (t'.data.toList.take 8))))) (by omega) ⟨hu.1, hu.2.1, hu.2.2.1, isU_bits .xor _ _⟩ m4.1 m4.2.1 m4.2.2.1 m4.2.2.2
          have HW : Hid (wrd u (num (t'.data.toList.take 8)) = ⟨bits .xor .u64 (rnds 2 ⟨u.a, u.b, u.c, bits .xor .u64 u.d (num (t'.data.toList.take 8))⟩).a (num (t'.data.toList.take 8)), (rnds 2 ⟨u.a, u.b, u.c, bits .xor .u64 u.d (num (t'.data.toList.take 8))⟩).b, (rnds 2 ⟨u.a, u.b, u.c, bits .xor .u64 u.d (num (t'.data.toList.take 8))⟩).c, (rnds 2 ⟨u.a, u.b, u.c, bits .xor .u64 u.d (num (t'.data.toList.take 8))⟩).d⟩) := rfl
          have HN : Hid (absR (wrd u (num (t'.data.toList.take 8))) (t'.extract 8 t'.size).data.toList = absorb s.size (ini k l) s.data.toList) := by
            have hl : t'.data.toList.length = t'.size := rfl
            have e2 : (t'.extract 8 t'.size).data.toList = t'.data.toList.drop 8 := by rw [Lib.extract_data]; exact List.take_of_length_le (Nat.le_of_eq (by rw [List.length_drop, hl]))
            rw [e2, ← absR_word _ _ (by omega)]; exact HA.out
          have HO : Hid ((wrd u (num (t'.data.toList.take 8))).ok) := wrd_ok u _ hu
          clear HA m4
          generalize rnds 2 ⟨u.a, u.b, u.c, bits .xor .u64 u.d (num (t'.data.toList.take 8))⟩ = x at hcall HW
          go_wp2_with (first | (go_at_call 93; go_must (refine (number_any _ _ ?_).mono ?_); (simp; omega); rintro e w' ⟨rfl, hw⟩; obtain rfl := hw.symm) | (go_at_call 94; go_must (refine hcall.mono ?_); rintro e w' ⟨g, rfl, hg, ⟨d0, d1, d2, d3⟩, ⟨e0, e1, e2, e3⟩, hb⟩; have HC : Hid (At4 w' g x ∧ Free4 w' g ∧ (wr.setCell ⟨b, 3, none⟩ (.int .u64 (bits .xor .u64 u.d (num (t'.data.toList.take 8))))).heap.size ≤ g ∧ Below (wr.setCell ⟨b, 3, none⟩ (.int .u64 (bits .xor .u64 u.d (num (t'.data.toList.take 8))))).heap.size (wr.setCell ⟨b, 3, none⟩ (.int .u64 (bits .xor .u64 u.d (num (t'.data.toList.take 8))))) w') := ⟨⟨d0, d1, d2, d3⟩, ⟨e0, e1, e2, e3⟩, hg, hb⟩; clear hb hg))
          go_roundg (gk - 8)
          case measure => omega
          case rel =>
            obtain ⟨q1, q2, q3, q4⟩ := HC.out
            have h8' := H8.out
            have hsz := HBL.out.size
            have hset : (wr.setCell ⟨b, 3, none⟩ (.int .u64 (bits .xor .u64 u.d (num (t'.data.toList.take 8))))).heap.size = wr.heap.size := by simp
            refine ⟨t'.extract 8 t'.size, wrd u (num (t'.data.toList.take 8)), g, rfl, rfl, by simp; omega, by simp; omega, by simp; omega, HO.out, HN.out, by omega, ?_, q2.set _ _, ?_⟩
            · rw [HW.out]; exact q1.set0 _
            · exact ((HBL.out.setCell hwb _).trans (q4.mono (by omega))).setCell (by show w.heap.size ≤ g; omega) _
        · have hne : t'.toList.isEmpty = true := snone_left t' (by omega)
          clear ht8
          have m4 := At4.set2 (v := u) ⟨c0, c1, c2, c3⟩ (bits .xor .u64 u.c 255)
          have hcall := refRounds_any b ⟨u.a, u.b, bits .xor .u64 u.c 255, u.d⟩ 4 (wr.setCell ⟨b, 2, none⟩ (.int .u64 (bits .xor .u64 u.c 255))) (by omega) ⟨hu.1, hu.2.1, isU_bits .xor _ _, hu.2.2.2⟩ m4.1 m4.2.1 m4.2.2.1 m4.2.2.2
          have HF : Hid (fin u = bits .xor .u64 (bits .xor .u64 (bits .xor .u64 (rnds 4 ⟨u.a, u.b, bits .xor .u64 u.c 255, u.d⟩).a (rnds 4 ⟨u.a, u.b, bits .xor .u64 u.c 255, u.d⟩).b) (rnds 4 ⟨u.a, u.b, bits .xor .u64 u.c 255, u.d⟩).c) (rnds 4 ⟨u.a, u.b, bits .xor .u64 u.c 255, u.d⟩).d) := rfl
          have HX : Hid (u = absorb s.size (ini k l) s.data.toList) := by
            have h8' := H8.out
            have hl : t'.data.toList.length = t'.size := rfl
            have e : t'.data.toList = [] := List.eq_nil_of_length_eq_zero (by omega)
            have := HA.out
            rw [e, absR_nil] at this
            exact this
          clear HA m4
          generalize rnds 4 ⟨u.a, u.b, bits .xor .u64 u.c 255, u.d⟩ = y at hcall HF
          go_wp2_with (go_at_call 94; go_must (refine hcall.mono ?_); rintro e w' ⟨g, rfl, hg, ⟨d0, d1, d2, d3⟩, ⟨e0, e1, e2, e3⟩, hb⟩; have HC : Hid (Below (wr.setCell ⟨b, 2, none⟩ (.int .u64 (bits .xor .u64 u.c 255))).heap.size (wr.setCell ⟨b, 2, none⟩ (.int .u64 (bits .xor .u64 u.c 255))) w') := hb; clear hb hg)
          go_quiet (fail)
          go_wp2
          go_ret
          rw [← HX.out, HF.out]
          have hset : (wr.setCell ⟨b, 2, none⟩ (.int .u64 (bits .xor .u64 u.c 255))).heap.size = wr.heap.size := by simp
          have hsz := HBL.out.size
          exact ⟨rfl, below_drewN ((HBL.out.setCell hwb _).trans (HC.out.mono (by omega))) _⟩
    · have hg : 0 < gk := by omega
      clear ht hts hj
      go_wp2
      go_roundg (gk - 1)
      case measure => omega
      case rel =>
        have h1 := HTS.out; have h3 := HJ.out
        exact ⟨_, j + 1, rfl, by rw [sapp_toList, HT.out, List.replicate_succ', List.append_assoc], by rw [sapp_size]; omega, by omega, rfl⟩
end Go.Proofs.YtkmalggeieiepaaDoor
namespace Go.Proofs.YtkmalggeieiepaaDoor
open Go.RowKit

/-- the two halves of a key. -/
def key1 (d : ByteArray) : Nat := num (d.extract 0 8).data.toList
def key2 (d : ByteArray) : Nat := num (d.extract 8 16).data.toList

set_option maxRecDepth 10000 in
set_option maxHeartbeats 1000000 in
theorem key_of (gt : Nat) (dg : ByteArray → ByteArray) (hdg : ∀ s, (dg s).size = 32) (h n : ByteArray) (w : World) (hh : h.size ≤ 1000) (hn : n.size ≤ 1000)
    (HS : Hid (∀ (s : ByteArray) (W : World), s.size ≤ 1048576 → Below w.heap.size w W → Calls Tryd.prog 10 #[.pointer (some ⟨gt, 0, none⟩), .string s] W fun e w' => e = .returned (.string (dg s)) ∧ Below W.heap.size W w')) :
    Calls Tryd.prog 73 #[.pointer (some ⟨gt, 0, none⟩), .string h, .string n] w fun e w' => e = .returned (.tuple #[.int .u64 (key1 (dg (h ++ n)) : Int), .int .u64 (key2 (dg (h ++ n)) : Int)]) ∧ Below w.heap.size w w' := by
  have H1 : Hid (Calls Tryd.prog 10 #[.pointer (some ⟨gt, 0, none⟩), .string (h ++ n)] w fun e w' => e = .returned (.string (dg (h ++ n))) ∧ Below w.heap.size w w') := HS.out (h ++ n) w (by rw [ByteArray.size_append]; omega) (Below.refl _ _)
  have hd := hdg (h ++ n)
  clear HS hdg
  generalize dg (h ++ n) = d at H1 hd
  have HK1 : Hid (key1 d = num (d.extract 0 8).data.toList) := rfl
  have HK2 : Hid (key2 d = num (d.extract 8 16).data.toList) := rfl
  obtain ⟨a1, x1⟩ : ∃ a, d.extract 0 8 = a := ⟨_, rfl⟩
  obtain ⟨a2, x2⟩ : ∃ a, d.extract 8 16 = a := ⟨_, rfl⟩
  have z1 : a1.size ≤ 8 := by rw [← x1, ByteArray.size_extract]; omega
  have z2 : a2.size ≤ 8 := by rw [← x2, ByteArray.size_extract]; omega
  rw [x1] at HK1
  rw [x2] at HK2
  obtain ⟨nm, hnm⟩ : ∃ nm : ByteArray → Int, nm = fun s => (num s.data.toList : Int) := ⟨_, rfl⟩
  have HN : Hid (∀ (s : ByteArray) (W : World), s.size ≤ 8 → Calls Tryd.prog 93 #[.string s] W fun e w' => e = .returned (.int .u64 (nm s)) ∧ w' = W) := fun s W hs => by rw [hnm]; exact number_any s W hs
  have HE1 : Hid (nm a1 = (key1 d : Int)) := by show _ = _; rw [HK1.out, hnm]
  have HE2 : Hid (nm a2 = (key2 d : Int)) := by show _ = _; rw [HK2.out, hnm]
  clear hnm HK1 HK2
  have hdi : (d.size : Int) = 32 := by omega
  go_enter Tryd.func73, Tryd.ntmps73
  go_upto_region 2 with (go_at_call 10; go_must (refine H1.out.mono ?_); rintro e w1 ⟨rfl, hb1⟩; have HB1 : Hid (Below w.heap.size w w1) := hb1; clear hb1)
  clear H1
  go_quiet (((go_at_call 93; exact Calls.quiet_of_same (HN.out _ _ (by first | exact z1 | exact z2)))))
  go_wp2
  go_ret2
  refine ⟨by rw [← HE1.out, ← HE2.out]; rfl, below_drewN HB1.out _⟩
theorem fin_ok (v : St) : 0 ≤ fin v ∧ fin v < 18446744073709551616 := by
  have h : ∀ (o : BinOp) (x y : Int), 0 ≤ bits o .u64 x y ∧ bits o .u64 x y < 18446744073709551616 := fun o x y => by
    have : ∀ z : Int, 0 ≤ IntKind.u64.wrap z ∧ IntKind.u64.wrap z < 18446744073709551616 := fun z => by rw [IntKind.wrap_u64]; omega
    exact this _
  unfold fin
  generalize rnds 4 _ = u
  exact h _ _ _
/-- SipHash of a text, by a key. -/
def sipN (k l : Nat) (s : ByteArray) : Nat := (fin (absorb s.size (ini (k : Int) (l : Int)) s.data.toList)).toNat
theorem sipN_ok (k l : Nat) (s : ByteArray) : U64 (sipN k l s) := by
  have := fin_ok (absorb s.size (ini (k : Int) (l : Int)) s.data.toList)
  unfold U64 sipN; omega
theorem sipN_int (k l : Nat) (s : ByteArray) : (sipN k l s : Int) = fin (absorb s.size (ini (k : Int) (l : Int)) s.data.toList) := by
  have := fin_ok (absorb s.size (ini (k : Int) (l : Int)) s.data.toList)
  unfold sipN; omega
/-- a short id. -/
def shortL (dg : ByteArray → ByteArray) (h n tx : ByteArray) : List UInt8 := le (sipN (key1 (dg (h ++ n))) (key2 (dg (h ++ n))) (dg (dg tx))) 6

set_option maxRecDepth 10000 in
set_option maxHeartbeats 1000000 in
theorem short_of (gt : Nat) (dg : ByteArray → ByteArray) (hdg : ∀ s, (dg s).size = 32) (h n tx : ByteArray) (w : World) (hh : h.size ≤ 1000) (hn : n.size ≤ 1000) (htx : tx.size ≤ 1048576)
    (HS : Hid (∀ (s : ByteArray) (W : World), s.size ≤ 1048576 → Below w.heap.size w W → Calls Tryd.prog 10 #[.pointer (some ⟨gt, 0, none⟩), .string s] W fun e w' => e = .returned (.string (dg s)) ∧ Below W.heap.size W w')) :
    Calls Tryd.prog 40 #[.pointer (some ⟨gt, 0, none⟩), .string h, .string n, .string tx] w fun e w' => e = .returned (.string (ofL (shortL dg h n tx))) ∧ Below w.heap.size w w' := by
  have HK : Hid (Calls Tryd.prog 73 #[.pointer (some ⟨gt, 0, none⟩), .string h, .string n] w fun e w' => e = .returned (.tuple #[.int .u64 (key1 (dg (h ++ n)) : Int), .int .u64 (key2 (dg (h ++ n)) : Int)]) ∧ Below w.heap.size w w') := key_of gt dg hdg h n w hh hn HS
  have HT : Hid (∀ W : World, Below w.heap.size w W → Calls Tryd.prog 13 #[.pointer (some ⟨gt, 0, none⟩), .string tx] W fun e w' => e = .returned (.string (dg (dg tx))) ∧ Below W.heap.size W w') := fun W hW =>
    twice_of gt dg (fun s => by rw [hdg]; omega) tx W htx (fun s W' hs hW' => HS.out s W' hs (hW.trans (hW'.mono hW.size)))
  have HP : Hid (∀ W : World, Calls Tryd.prog 74 #[.int .u64 (key1 (dg (h ++ n)) : Int), .int .u64 (key2 (dg (h ++ n)) : Int), .string (dg (dg tx))] W fun e w' => e = .returned (.int .u64 (sipN (key1 (dg (h ++ n))) (key2 (dg (h ++ n))) (dg (dg tx)) : Int)) ∧ Below W.heap.size W w') := fun W => by
    rw [sipN_int]; exact refSip_any _ _ _ W (by rw [hdg]; omega)
  have HY : Hid (∀ W : World, Calls Tryd.prog 38 #[.int .u64 (sipN (key1 (dg (h ++ n))) (key2 (dg (h ++ n))) (dg (dg tx)) : Int), .int .i64 6] W fun e w' => e = .returned (.string (ofL (shortL dg h n tx))) ∧ Below W.heap.size W w') := fun W => bytes_any _ 6 W (sipN_ok _ _ _) (by omega)
  clear HS hdg
  generalize (sipN (key1 (dg (h ++ n))) (key2 (dg (h ++ n))) (dg (dg tx)) : Int) = V at HP HY
  generalize (key1 (dg (h ++ n)) : Int) = k1 at HK HP
  generalize (key2 (dg (h ++ n)) : Int) = k2 at HK HP
  generalize dg (dg tx) = d2 at HT HP
  generalize shortL dg h n tx = r at HY
  go_enter Tryd.func40, Tryd.ntmps40
  go_upto_region 2 with (go_at_call 73; go_must (refine HK.out.mono ?_); rintro e w1 ⟨rfl, hb1⟩; have HB1 : Hid (Below w.heap.size w w1) := hb1; clear hb1)
  go_wp2_with (first
    | (go_at_call 13; go_must (refine (HT.out _ HB1.out).mono ?_); rintro e w2 ⟨rfl, hb2⟩; have HB2 : Hid (Below w1.heap.size w1 w2) := hb2; clear hb2)
    | (go_at_call 74; go_must (refine (HP.out _).mono ?_); rintro e w3 ⟨rfl, hb3⟩; have HB3 := (show Hid (Below _ _ w3) from hb3); clear hb3)
    | (go_at_call 38; go_must (refine (HY.out _).mono ?_); rintro e w4 ⟨rfl, hb4⟩; have HB4 := (show Hid (Below _ _ w4) from hb4); clear hb4))
  go_ret
  have e1 := HB1.out.size
  have e2 := HB2.out.size
  have e3 := HB3.out.size
  exact ⟨rfl, HB1.out.trans ((HB2.out.mono e1).trans ((HB3.out.mono (by omega)).trans (HB4.out.mono (by omega))))⟩
end Go.Proofs.YtkmalggeieiepaaDoor
set_option linter.unusedSimpArgs false
namespace Go.Proofs.YtkmalggeieiepaaDoor
open Go.RowKit

/-- the digest as a text. -/
def sg (Kc : Nat → Int) (t : ByteArray) : ByteArray := strOf (shaF Kc t.data.toList) 32
theorem sg_size (Kc : Nat → Int) (t : ByteArray) : (sg Kc t).size = 32 := strOf_size _ _
theorem dd_sg (Kc : Nat → Int) (t : ByteArray) : dd Kc t = sg Kc (sg Kc t) := rfl

set_option maxRecDepth 10000 in
set_option maxHeartbeats 1000000 in
theorem hdName_any (Kc : Nat → Int) (h : ByteArray) (w : World) (hkt : KT Kc w) (hs : h.size ≤ 1099511627776) :
    Calls Tryd.prog 79 #[.string h] w fun e w' => e = .returned (aggD (dd Kc h)) ∧ Below w.heap.size w w' := by
  have hpos : 0 < w.heap.size := World.block_lt_of_cell? w _ (hkt 0 (by omega))
  have HE : Hid (aggD (dd Kc h) = .agg (wl .u8 (dbl Kc h.data.toList) 32).toArray) := by show _ = _; unfold aggD dd; rw [bc_strOf (dbl Kc h.data.toList) 32 (shaF_lt Kc _)]
  rw [HE.out]
  obtain ⟨W1, hW1⟩ : ∃ W, W = w.alloc (.cells #[.int .u8 0, .int .u8 0, .int .u8 0, .int .u8 0, .int .u8 0, .int .u8 0, .int .u8 0, .int .u8 0, .int .u8 0, .int .u8 0, .int .u8 0, .int .u8 0, .int .u8 0, .int .u8 0, .int .u8 0, .int .u8 0, .int .u8 0, .int .u8 0, .int .u8 0, .int .u8 0, .int .u8 0, .int .u8 0, .int .u8 0, .int .u8 0, .int .u8 0, .int .u8 0, .int .u8 0, .int .u8 0, .int .u8 0, .int .u8 0, .int .u8 0, .int .u8 0] 43) := ⟨_, rfl⟩
  have HA : Hid (Arr .u8 W1 w.heap.size (fun _ => 0) 32) := by show Arr _ _ _ _ _; rw [hW1]; exact Arr.new _ _ 32 _ _ (by rfl)
  have HB1 : Hid (Below w.heap.size w W1) := by show Below _ _ _; rw [hW1]; exact (Below.refl _ _).alloc (Nat.le_refl _) _
  have HZ1 : Hid (W1.heap.size = w.heap.size + 1) := by show _ = _; rw [hW1]; simp
  have hd := double_one Kc h W1 (hkt.later HB1.out hpos) hs
  clear hkt hs HE
  generalize dbl Kc h.data.toList = f at hd
  go_enter Tryd.func79, Tryd.ntmps79
  go_upto_region 1 with fail
  rw [← hW1]
  clear hW1
  go_wp2_with (first
    | (go_at_call 27; go_must (refine hd.mono ?_); rintro e w2 ⟨rfl, hb2⟩; have HB2 := (show Hid (Below W1.heap.size W1 w2) from hb2); have HA2 := (show Hid (Arr .u8 w2 w.heap.size (fun _ => 0) 32) from HA.out.later hb2 (by have := HZ1.out; omega)); clear hb2)
    | (refine wpList_store_arr rfl 43 _ _ rfl w.heap.size .u8 (fun _ => 0) f 32 rfl rfl ?_ (by kernel_rfl) ?_; exact HA2.out))
  refine bodyPost_ret (results_arr Tryd.results79 _ _ w.heap.size .u8 f 32 _ rfl (HA2.out.all _) Tryd.underlying43 rfl (by kernel_rfl)) rfl ⟨rfl, ?_⟩
  exact below_setCells (HB1.out.trans (HB2.out.mono (by have := HZ1.out; omega))) _ (Nat.le_refl _) _ _
/-- a digest of two texts. -/
theorem sum_two (Kc : Nat → Int) (s t : ByteArray) (w : World) (hkt : KT Kc w) (hs : (s ++ t).size ≤ 1099511627776) :
    Calls Tryd.prog 20 #[.slice (some ⟨w.heap.size, 0, none⟩) 2 2] (w.alloc (.cells #[.string s, .string t] 9)) fun e w' => e = .returned (aggD (sg Kc (s ++ t))) ∧ Below w.heap.size w w' := by
  have hpos : 0 < w.heap.size := World.block_lt_of_cell? w _ (hkt 0 (by omega))
  have hT : Texts (w.alloc (.cells #[.string s, .string t] 9)) w.heap.size [s, t] := by
    intro j hj
    have : j = 0 ∨ j = 1 := by simp at hj; omega
    rcases this with rfl | rfl <;> simp [go_sem]
  have hc : cat [s, t] = (s ++ t).data.toList := by simp [cat, ByteArray.data_append]
  have hl : (s ++ t).data.toList.length = (s ++ t).size := rfl
  have hcall := sum_any Kc [s, t] w.heap.size (w.alloc (.cells #[.string s, .string t] 9)) hT (by simp) (hkt.later ((Below.refl _ _).alloc (Nat.le_refl _) _) hpos) (by rw [hc, hl]; exact hs) (by simp)
  rw [hc] at hcall
  refine hcall.mono fun e w' ⟨h1, h2⟩ => ⟨?_, ?_⟩
  · rw [h1]; unfold aggD sg; rw [bc_strOf _ _ (shaF_lt Kc _)]
  · exact ((Below.refl _ _).alloc (Nat.le_refl _) _).trans (h2.mono (by simp))

theorem run_store_cells {P : Program} {w : World} {ρ : Operand → Value} {o : Oper} (ty : TypeId) (x y : Operand) (ho : o.op = .store ty x y) (g off : Nat) (cs : List Value) (hx : ρ x = .pointer (some ⟨g, off, none⟩)) (hy : ρ y = .agg cs.toArray)
    (ht : w.there g off cs.length) (hi : (P.info? ty).map (·.size) = some cs.length) (h1 : ∀ v ∈ cs, v.oneCell' = true) : (execOp ρ o).run P w = .ok .skip (w.setCells g off cs) := by
  have h := run_storeVar_mid (P := P) w g off ty cs.toArray (by simpa using ht) (by simpa using hi) (all_oneCell_toArray h1)
  unfold execOp
  simp only [ho, hx, hy, Instr.storeAt, Instr.sureAddr, Sem.run_bind, Sem.run_pure, Result.andThen_ok, h]
theorem returned_inj {v u : Value} (h : Ending.returned v = .returned u) : v = u := by injection h

set_option maxRecDepth 10000 in
set_option maxHeartbeats 2000000 in
theorem shortKey_any (Kc : Nat → Int) (h : ByteArray) (n : Nat) (w : World) (hkt : KT Kc w) (hh : h.size ≤ 1000) (hn : U64 n) :
    Calls Tryd.prog 65 #[.string h, .int .u64 (n : Int)] w fun e w' => e = .returned (.agg #[.int .u64 (key1 (sg Kc (h ++ ofL (le n 8))) : Int), .int .u64 (key2 (sg Kc (h ++ ofL (le n 8))) : Int)]) ∧ Below w.heap.size w w' := by
  have hpos : 0 < w.heap.size := World.block_lt_of_cell? w _ (hkt 0 (by omega))
  obtain ⟨W1, hW1⟩ : ∃ W, W = w.alloc (.cells #[.int .u64 0, .int .u64 0] 117) := ⟨_, rfl⟩
  have HB1 : Hid (Below w.heap.size w W1) := by show Below _ _ _; rw [hW1]; exact (Below.refl _ _).alloc (Nat.le_refl _) _
  have hz1 : W1.heap.size = w.heap.size + 1 := by rw [hW1]; simp
  have hN := inBytes_any n 8 W1 hn (by omega) (by omega)
  have hz8 : (ofL (le n 8)).size = 8 := by rw [ofL_size, le_length]
  have HS : Hid (∀ W, Below w.heap.size w W → Calls Tryd.prog 20 #[.slice (some ⟨W.heap.size, 0, none⟩) 2 2] (W.alloc (.cells #[.string h, .string (ofL (le n 8))] 9)) fun e w' => e = .returned (aggD (sg Kc (h ++ ofL (le n 8)))) ∧ Below W.heap.size W w') := fun W hW => sum_two Kc h _ W (hkt.later hW hpos) (by rw [ByteArray.size_append]; omega)
  have HTX : Hid (∀ W, Calls Tryd.prog 21 #[aggD (sg Kc (h ++ ofL (le n 8)))] W fun e w' => e = .returned (.string (sg Kc (h ++ ofL (le n 8)))) ∧ Below W.heap.size W w') := fun W => text_d _ (sg_size _ _) W
  have hd := sg_size Kc (h ++ ofL (le n 8))
  have HC : Hid (∀ W, Below W1.heap.size W1 W → W.cell? ⟨w.heap.size, 0, none⟩ = some (.int .u64 0) ∧ W.cell? ⟨w.heap.size, 1, none⟩ = some (.int .u64 0) ∧ W.frozen? ⟨w.heap.size, 0, none⟩ = false ∧ W.frozen? ⟨w.heap.size, 1, none⟩ = false) := fun W hW =>
    ⟨by rw [hW.cell (p := ⟨w.heap.size, 0, none⟩) (by show w.heap.size < _; omega), hW1]; simp [go_sem], by rw [hW.cell (p := ⟨w.heap.size, 1, none⟩) (by show w.heap.size < _; omega), hW1]; simp [go_sem], by rw [hW.frozen (p := ⟨w.heap.size, 0, none⟩) (by show w.heap.size < _; omega), hW1]; simp [go_sem], by rw [hW.frozen (p := ⟨w.heap.size, 1, none⟩) (by show w.heap.size < _; omega), hW1]; simp [go_sem]⟩
  clear hkt hh hn hz8
  generalize sg Kc (h ++ ofL (le n 8)) = d at HS HTX hd
  generalize ofL (le n 8) = nb at hN HS
  have HK1 : Hid (key1 d = num (d.extract 0 8).data.toList) := rfl
  have HK2 : Hid (key2 d = num (d.extract 8 16).data.toList) := rfl
  obtain ⟨a1, x1⟩ : ∃ a, d.extract 0 8 = a := ⟨_, rfl⟩
  obtain ⟨a2, x2⟩ : ∃ a, d.extract 8 16 = a := ⟨_, rfl⟩
  have z1 : a1.size ≤ 8 := by rw [← x1, ByteArray.size_extract]; omega
  have z2 : a2.size ≤ 8 := by rw [← x2, ByteArray.size_extract]; omega
  rw [x1] at HK1
  rw [x2] at HK2
  obtain ⟨nmf, hnm⟩ : ∃ nm : ByteArray → Int, nm = fun s => (num s.data.toList : Int) := ⟨_, rfl⟩
  have HN : Hid (∀ (s : ByteArray) (W : World), s.size ≤ 8 → Calls Tryd.prog 89 #[.string s] W fun e w' => e = .returned (.int .u64 (nmf s)) ∧ w' = W) := fun s W hs => by rw [hnm]; exact lowest_any s W hs
  have HE1 : Hid (nmf a1 = (key1 d : Int)) := by show _ = _; rw [HK1.out, hnm]
  have HE2 : Hid (nmf a2 = (key2 d : Int)) := by show _ = _; rw [HK2.out, hnm]
  clear hnm HK1 HK2
  have hdi : (d.size : Int) = 32 := by omega
  go_enter Tryd.func65, Tryd.ntmps65
  go_upto_region 1 with fail
  rw [← hW1]
  clear hW1
  go_upto_region 2 with (first
    | (go_at_call 88; go_must (refine hN.mono ?_); rintro e w2 ⟨rfl, hb2⟩; have HB2 := (show Hid (Below W1.heap.size W1 w2) from hb2); clear hb2)
    | (go_at_call 20; go_must (refine (HS.out _ (HB1.out.trans (HB2.out.mono (by omega)))).mono ?_); rintro e w3 ⟨rfl, hb3⟩; have HB3 := (show Hid (Below W1.heap.size W1 w3) from HB2.out.trans (hb3.mono HB2.out.size)); clear hb3)
    | (go_at_call 21; go_must (refine (HTX.out _).mono ?_); rintro e w4 ⟨rfl, hb4⟩; have HB4 := (show Hid (Below W1.heap.size W1 w4) from HB3.out.trans (hb4.mono HB3.out.size)); clear hb4))
  obtain ⟨c0, c1, f0, f1⟩ := HC.out w4 HB4.out
  clear HS HTX HC hN
  refine q_frame (fun A HFR => ?_)
  have hsz : A.tmps.size = 19 := by rw [HFR.out]; rfl
  have h4 : A.eval (.tmp 4) = .pointer (some ⟨w.heap.size, 0, none⟩) := by rw [HFR.out]; rfl
  have h5 : A.eval (.tmp 5) = .string d := by rw [HFR.out]; rfl
  refine wp_region_T (k := 7) (S := fun _ => True) (by kernel_rfl) trivial (fun hS => ?_)
  refine wpAnyT_take (i := 0) (v := (.string d)) rfl (by kernel_rfl) (by kernel_rfl) (by kernel_rfl) (by kernel_rfl) (fun _ _ _ h => h) (Or.inl ⟨by rfl, fun W _ => q_run1 5 (.string d) (by simp only [q_same, q_ne, q_sz, hsz, h4, h5, ne_eq, Nat.reduceEqDiff, not_false_eq_true, Nat.reduceLT]) (fun ρ hc hf e1 => by simp [go_sem, hc, hf, e1])⟩) hS ?_
  change wpAnyT _ _ _ _ _ _ _ _ (Act.put _ (some 12) _) _
  refine wpAnyT_take (i := 3) (v := (.string d)) rfl (by kernel_rfl) (by kernel_rfl) (by kernel_rfl) (by kernel_rfl) (fun _ _ _ h => h) (Or.inl ⟨by rfl, fun W _ => q_run1 5 (.string d) (by simp only [q_same, q_ne, q_sz, hsz, h4, h5, ne_eq, Nat.reduceEqDiff, not_false_eq_true, Nat.reduceLT]) (fun ρ hc hf e1 => by simp [go_sem, hc, hf, e1])⟩) hS ?_
  change wpAnyT _ _ _ _ _ _ _ _ (Act.put _ (some 15) _) _
  refine wpAnyT_take (i := 1) (v := (.string a1)) rfl (by kernel_rfl) (by kernel_rfl) (by kernel_rfl) (by kernel_rfl) (fun _ _ _ h => h) (Or.inl ⟨by rfl, fun W _ => q_run1 12 (.string d) (by simp only [q_same, q_ne, q_sz, hsz, h4, h5, ne_eq, Nat.reduceEqDiff, not_false_eq_true, Nat.reduceLT]) (fun ρ hc hf e1 => by simp [go_sem, hc, hf, e1, hdi, x1])⟩) hS ?_
  change wpAnyT _ _ _ _ _ _ _ _ (Act.put _ (some 13) _) _
  refine wpAnyT_take (i := 4) (v := (.string a2)) rfl (by kernel_rfl) (by kernel_rfl) (by kernel_rfl) (by kernel_rfl) (fun _ _ _ h => h) (Or.inl ⟨by rfl, fun W _ => q_run1 15 (.string d) (by simp only [q_same, q_ne, q_sz, hsz, h4, h5, ne_eq, Nat.reduceEqDiff, not_false_eq_true, Nat.reduceLT]) (fun ρ hc hf e1 => by simp [go_sem, hc, hf, e1, hdi, x2])⟩) hS ?_
  change wpAnyT _ _ _ _ _ _ _ _ (Act.put _ (some 16) _) _
  refine qT_call 2 89 #[.string a1] _ (by kernel_rfl) rfl rfl (q_run1 13 (.string a1) (by simp only [q_same, q_ne, q_sz, hsz, h4, h5, ne_eq, Nat.reduceEqDiff, not_false_eq_true, Nat.reduceLT]) (fun ρ hc hf e1 => by simp [go_sem, hc, hf, e1])) (HN.out a1 _ z1) ?_ (fun ch w' h => by cases h.1) (fun w' h => by cases h.1)
  rintro _ _ ⟨hv, rfl⟩
  obtain rfl := returned_inj hv
  refine ⟨fun _ => trivial, ?_⟩
  change wpAnyT _ _ _ _ _ _ _ _ (Act.put _ (some 14) _) _
  refine qT_call 5 89 #[.string a2] _ (by kernel_rfl) rfl rfl (q_run1 16 (.string a2) (by simp only [q_same, q_ne, q_sz, hsz, h4, h5, ne_eq, Nat.reduceEqDiff, not_false_eq_true, Nat.reduceLT]) (fun ρ hc hf e1 => by simp [go_sem, hc, hf, e1])) (HN.out a2 _ z2) ?_ (fun ch w' h => by cases h.1) (fun w' h => by cases h.1)
  rintro _ _ ⟨hv, rfl⟩
  obtain rfl := returned_inj hv
  refine ⟨fun _ => trivial, ?_⟩
  change wpAnyT _ _ _ _ _ _ _ _ (Act.put _ (some 17) _) _
  refine qT_one 6 (.agg #[.int .u64 (nmf a1), .int .u64 (nmf a2)]) w4.drew (by kernel_rfl) rfl rfl (q_run2 14 17 (.int .u64 (nmf a1)) (.int .u64 (nmf a2)) (by simp only [q_same, q_ne, q_sz, hsz, h4, h5, ne_eq, Nat.reduceEqDiff, not_false_eq_true, Nat.reduceLT]) (by simp only [q_same, q_ne, q_sz, hsz, h4, h5, ne_eq, Nat.reduceEqDiff, not_false_eq_true, Nat.reduceLT]) (fun ρ hc hf e1 e2 => by simp [go_sem, hc, hf, e1, e2])) (fun _ => trivial) ?_
  change wpAnyT _ _ _ _ _ _ _ _ (Act.put _ (some 18) _) _
  have ht : w4.drew.there w.heap.size 0 2 := fun j hj => by
    have : j = 0 ∨ j = 1 := by omega
    rcases this with rfl | rfl
    · exact ⟨by rw [Nat.zero_add]; show (w4.cell? _).isSome = true; rw [c0]; rfl, by rw [Nat.zero_add]; exact f0⟩
    · exact ⟨by rw [Nat.zero_add]; show (w4.cell? _).isSome = true; rw [c1]; rfl, by rw [Nat.zero_add]; exact f1⟩
  refine qT_skip 7 (w4.drew.setCells w.heap.size 0 [.int .u64 (nmf a1), .int .u64 (nmf a2)]) (by kernel_rfl) rfl rfl (run_store_cells 117 (.tmp 4) (.tmp 18) rfl w.heap.size 0 [.int .u64 (nmf a1), .int .u64 (nmf a2)] (by simp only [q_same, q_ne, q_sz, hsz, h4, h5, ne_eq, Nat.reduceEqDiff, not_false_eq_true, Nat.reduceLT]) (by simp only [q_same, q_ne, q_sz, hsz, h4, h5, ne_eq, Nat.reduceEqDiff, not_false_eq_true, Nat.reduceLT]) ht (by kernel_rfl) (by intro v hv; simp at hv; rcases hv with rfl | rfl <;> rfl)) (fun h => absurd rfl h) ?_
  refine wpAnyT_done (by kernel_rfl) ?_ _
  have HRG : Hid ((w4.drew.setCells w.heap.size 0 [.int .u64 (nmf a1), .int .u64 (nmf a2)]).rangeAt w.heap.size 0 [.int .u64 (nmf a1), .int .u64 (nmf a2)]) := World.rangeAt_setCells_same _ _ _ _ ht
  have HBF : Hid (Below w.heap.size w (w4.drew.setCells w.heap.size 0 [.int .u64 (nmf a1), .int .u64 (nmf a2)])) := below_setCells ((HB1.out.trans (HB4.out.mono (by omega))).drew) _ (Nat.le_refl _) _ _
  have hfr := HFR.out
  clear HFR hsz h4 h5 ht c0 c1 f0 f1
  subst hfr
  simp only [Act.put, List.setIfInBounds_toArray, List.set_cons_zero, List.set_cons_succ]
  generalize w4.drew.setCells w.heap.size 0 [.int .u64 (nmf a1), .int .u64 (nmf a2)] = WF at HRG HBF
  go_wp2
  refine bodyPost_ret (results_mid Tryd.results65 _ _ w.heap.size [.int .u64 (nmf a1), .int .u64 (nmf a2)] _ rfl HRG.out Tryd.underlying117 rfl (by kernel_rfl)) rfl ⟨?_, HBF.out⟩
  rw [← HE1.out, ← HE2.out]
end Go.Proofs.YtkmalggeieiepaaDoor
namespace Go.Proofs.YtkmalggeieiepaaDoor
open Go.RowKit

theorem fold_set : ∀ (l pre post : List Value), post.length = l.length → List.foldl (fun (cs : Array Value) (x : Value × Nat) => cs.setIfInBounds x.2 x.1) (pre ++ post).toArray (l.zipIdx pre.length) = (pre ++ l).toArray := by
  intro l
  induction l with
  | nil => intro pre post h; cases post with
    | nil => rfl
    | cons _ _ => simp at h
  | cons v l ih =>
    intro pre post h
    cases post with
    | nil => simp at h
    | cons u post =>
      have h2 := ih (pre ++ [v]) post (by simpa using h)
      rw [List.length_append, List.length_singleton] at h2
      rw [List.zipIdx_cons, List.foldl_cons]
      have e : (pre ++ u :: post).toArray.setIfInBounds pre.length v = (pre ++ [v] ++ post).toArray := by simp
      rw [e, h2]; simp
theorem build_d (d : ByteArray) (hd : d.size = 32) (w : World) : (Instr.buildSlice 59 1 #[(0, aggD d)]).run Tryd.prog w = .ok (.slice (some ⟨w.heap.size, 0, none⟩) 1 1) (w.alloc (.cells (bc d).toArray 43)) := by
  obtain ⟨i0, hi, hz0, hz1, hz2⟩ := info_parts infoDig
  have hl : (bc d).length = 32 := by rw [bc_length, hd]
  refine run_buildSlice w 59 43 1 _ _ i0 _ Tryd.underlying59 hi hz0 (by rw [hz1]; omega) (by rw [hz1]; omega) ?_
  rw [hz1]
  have h := fold_set (bc d) [] (wl .u8 (fun _ => 0) 32) (by rw [hl, wl_length])
  have e1 : (aggD d).cells = (bc d).toArray := rfl
  have e2 : ((Array.range (1 * 32)).map fun x => (Value.agg (wl IntKind.u8 (fun _ => 0) 32).toArray).cells[x % (Value.agg (wl IntKind.u8 (fun _ => 0) 32).toArray).cells.size]!) = (wl .u8 (fun _ => 0) 32).toArray := by kernel_rfl
  simp only [e2]
  simp [Instr.fill, e1, hl]
  exact ⟨by rw [wl_length]; omega, by simpa using h⟩

theorem run_build_d {ρ : Operand → Value} {o : Oper} {k : Nat} (d : ByteArray) (hd : d.size = 32) (W : World) (ho : o.op = .buildSlice 59 1 #[(0, .tmp k)]) (e1 : ρ (.tmp k) = aggD d) :
    (execOp ρ o).run Tryd.prog W = .ok (.value (.slice (some ⟨W.heap.size, 0, none⟩) 1 1)) (W.alloc (.cells (bc d).toArray 43)) := by
  unfold execOp
  simp only [ho, Sem.run_bind, List.map_toArray, List.map_cons, List.map_nil, e1, build_d d hd W, Result.andThen_ok]
  rfl
theorem q_wanted {o : Oper} {ops : Array Oper} {A : Act} (j d : Nat) (b : Bool) (hg : o.guard = some (j, b)) (hd : (ops[j]?).bind (·.dst) = some d) (hlt : d < A.tmps.size) (hv : A.eval (.tmp d) = .bool b) : Region.wanted o (yielded ops A.tmps) = true := by
  have h2 : A.tmps[d]? = some (.bool b) := by
    simp [Act.eval] at hv
    rw [Array.getElem?_eq_getElem hlt] at hv ⊢
    simpa using hv
  simp [Region.wanted, hg, yielded, hd, h2]
/-- the one operation that may come up yields a value: S held. -/
theorem qH_one {P : Program} {md : Region.Mode} {ops : Array Oper} {Q : Exit → Act → World → Prop} {S : World → Prop} {fuel : Nat} {listed : Array Bool} {a : Act} {w : World} (i : Nat) {o : Oper} (v : Value) (w' : World) (hr : Region.ready md ops listed = [i]) (hi : ops[i]? = some o) (hg : o.guard = none)
    (h : (execOp a.eval o).run P w = .ok (.value v) w') (hS : S w') (hk : wpAnyH P md ops Q S fuel (listed.setIfInBounds i true) (a.put o.dst v) w') : wpAnyH P md ops Q S (fuel + 1) listed a w := by
  refine wpAnyH_ready hr (by simp) (AllReadyH.cons hi (fun K hK => ?_) AllReadyH.nil)
  have hw : Region.wanted o (yielded ops a.tmps) = true := by simp [Region.wanted, hg]
  rw [if_pos hw]
  unfold Oper.wp; rw [h]; exact hK.out _ _ hS (fun _ => hk)
theorem qH_step {P : Program} {ops : Array Oper} {o : Oper} {a : Act} {w : World} {K : Act → World → Prop} {Q : Exit → Act → World → Prop} {E : Prop} (f : FuncId) (args : Array Value) (R : Value → World → Prop) (hg : o.guard = none)
    (h : (execOp a.eval o).run P w = .ok (.enter f args) w) (hc : Calls P f args w fun e w' => ∃ v, e = .returned v ∧ R v w') (hk : ∀ v w', R v w' → K (a.put o.dst v) w') :
    if Region.wanted o (yielded ops a.tmps) = true then Oper.wp P o a w K Q else E := by
  have hw : Region.wanted o (yielded ops a.tmps) = true := by simp [Region.wanted, hg]
  rw [if_pos hw]
  unfold Oper.wp; rw [h]
  show Calls _ _ _ _ _
  refine hc.mono fun x w' hx => ?_
  obtain ⟨v, rfl, hR⟩ := hx
  exact hk v w' hR
/-- .. a call. -/
theorem qH_call {P : Program} {md : Region.Mode} {ops : Array Oper} {Q : Exit → Act → World → Prop} {S : World → Prop} {fuel : Nat} {listed : Array Bool} {a : Act} {w : World} (i : Nat) {o : Oper} (f : FuncId) (args : Array Value) (R : Value → World → Prop) (hr : Region.ready md ops listed = [i]) (hi : ops[i]? = some o) (hg : o.guard = none)
    (h : (execOp a.eval o).run P w = .ok (.enter f args) w) (hc : Calls P f args w fun e w' => ∃ v, e = .returned v ∧ R v w')
    (hk : ∀ v w', R v w' → S w' ∧ wpAnyH P md ops Q S fuel (listed.setIfInBounds i true) (a.put o.dst v) w') : wpAnyH P md ops Q S (fuel + 1) listed a w := by
  refine wpAnyH_ready hr (by simp) (AllReadyH.cons hi (fun K hK => ?_) AllReadyH.nil)
  exact qH_step f args R hg h hc (fun v w' hR => hK.out _ _ (hk v w' hR).1 (fun _ => (hk v w' hR).2))
/-- two calls, either first. -/
theorem qH_calls {P : Program} {md : Region.Mode} {ops : Array Oper} {Q : Exit → Act → World → Prop} {S : World → Prop} {fuel : Nat} {listed : Array Bool} {a : Act} {w : World} (i j : Nat) {o p : Oper} (f f' : FuncId) (args args' : Array Value) (R R' : Value → World → Prop) (hr : Region.ready md ops listed = [i, j]) (hi : ops[i]? = some o) (hg : o.guard = none) (hj : ops[j]? = some p) (hgj : p.guard = none)
    (h : (execOp a.eval o).run P w = .ok (.enter f args) w) (h' : (execOp a.eval p).run P w = .ok (.enter f' args') w)
    (hc : Calls P f args w fun e w' => ∃ v, e = .returned v ∧ R v w') (hc' : Calls P f' args' w fun e w' => ∃ v, e = .returned v ∧ R' v w')
    (hk : ∀ v w', R v w' → S w' ∧ wpAnyH P md ops Q S fuel (listed.setIfInBounds i true) (a.put o.dst v) w')
    (hk' : ∀ v w', R' v w' → S w' ∧ wpAnyH P md ops Q S fuel (listed.setIfInBounds j true) (a.put p.dst v) w') : wpAnyH P md ops Q S (fuel + 1) listed a w := by
  refine wpAnyH_ready hr (by simp) (AllReadyH.cons hi (fun K hK => ?_) (AllReadyH.cons hj (fun K hK => ?_) AllReadyH.nil))
  · exact qH_step f args R hg h hc (fun v w' hR => hK.out _ _ (hk v w' hR).1 (fun _ => (hk v w' hR).2))
  · exact qH_step f' args' R' hgj h' hc' (fun v w' hR => hK.out _ _ (hk' v w' hR).1 (fun _ => (hk' v w' hR).2))
set_option linter.unusedVariables false in
theorem calls_val {P : Program} {f : FuncId} {args : Array Value} {w : World} {v : Value} {R : World → Prop} (h : Calls P f args w fun e w' => e = .returned v ∧ R w') : Calls P f args w fun e w' => ∃ u, e = .returned u ∧ u = v ∧ R w' := h.mono fun e w' ⟨h1, h2⟩ => ⟨v, h1, rfl, h2⟩
theorem sizes_append (a b : ByteArray) (ha : a.size = 32) (hb : b.size = 32) : (a ++ b).size = 64 := by rw [ByteArray.size_append]; omega
theorem evL_cons2 (a b : ByteArray) (r : List ByteArray) : evL (a :: b :: r) = a :: b :: evL r := by
  unfold evL
  by_cases h : r.length % 2 = 1
  · rw [if_pos (by simp; omega), if_pos h]
    have h0 : 0 < r.length := by omega
    have e : (a :: b :: r).getD ((a :: b :: r).length - 1) ByteArray.empty = r.getD (r.length - 1) ByteArray.empty := by
      rw [show (a :: b :: r).length - 1 = (r.length - 1) + 1 + 1 by simp; omega]
      rfl
    rw [e]; rfl
  · rw [if_neg (by simp; omega), if_neg h]
theorem upev_cons2 (d : ByteArray → ByteArray) (a b : ByteArray) (r : List ByteArray) : upL d (evL (a :: b :: r)) = d (a ++ b) :: upL d (evL r) := by rw [evL_cons2]; rfl
theorem upev_one (d : ByteArray → ByteArray) (a : ByteArray) : upL d (evL [a]) = [d (a ++ a)] := rfl
theorem upev_nil (d : ByteArray → ByteArray) : upL d (evL []) = [] := rfl
theorem toL (s : ByteArray) : s.toList = s.data.toList := by obtain ⟨⟨l⟩⟩ := s; simp
end Go.Proofs.YtkmalggeieiepaaDoor
namespace Go.Proofs.YtkmalggeieiepaaDoor
open Go.RowKit

/-- block k is a row of bytes. -/
def IsB (w : World) (k : Nat) : Prop := ∃ C fz, w.heap[k]? = some (.cells C 5 fz)
/-- as it was but for block g, rows of bytes behind it, and new blocks. -/
structure Fr (g : Nat) (w w' : World) : Prop where
  os : w'.os = w.os
  tape : w'.tape = w.tape
  output : w'.output = w.output
  size : w.heap.size ≤ w'.heap.size
  block : ∀ k, k < w.heap.size → k ≠ g → (k < g ∨ ¬ IsB w k) → w'.heap[k]? = w.heap[k]?
theorem Fr.refl (g : Nat) (w : World) : Fr g w w := ⟨rfl, rfl, rfl, Nat.le_refl _, fun _ _ _ _ => rfl⟩
theorem Fr.trans {g : Nat} {a b c : World} (h : Fr g a b) (k : Fr g b c) : Fr g a c :=
  ⟨k.os.trans h.os, k.tape.trans h.tape, k.output.trans h.output, Nat.le_trans h.size k.size, fun i hi hg hB => by
    have h1 := h.block i hi hg hB
    exact (k.block i (Nat.lt_of_lt_of_le hi h.size) hg (hB.imp id (fun hn hb => hn (by obtain ⟨C, fz, e⟩ := hb; exact ⟨C, fz, by rw [← h1]; exact e⟩)))).trans h1⟩
theorem Fr.later {g : Nat} {a b c : World} (h : Fr g a b) (k : Below a.heap.size b c) : Fr g a c :=
  ⟨k.os.trans h.os, k.tape.trans h.tape, k.output.trans h.output, Nat.le_trans h.size k.size, fun i hi hg hB => (k.block i hi).trans (h.block i hi hg hB)⟩
theorem Fr.below {g : Nat} {w w' : World} (h : Fr g w w') (hg : g ≤ w.heap.size) {B : Nat} (hB : B ≤ g) : Below B w w' :=
  ⟨h.os, h.tape, h.output, h.size, fun k hk => h.block k (by omega) (by omega) (.inl (by omega))⟩
/-- a writer that has told these bytes lies in block g. -/
def Wr (w : World) (g : Nat) (l : List UInt8) : Prop := ∃ v, w.cell? ⟨g, 0, none⟩ = some v ∧ w.frozen? ⟨g, 0, none⟩ = false ∧ w.ownsRow (g + 1) 5 1 v l.length (Lib.strCells (ofL l))
theorem Wr.lt {w : World} {g : Nat} {l : List UInt8} (h : Wr w g l) : g < w.heap.size := by
  obtain ⟨v, h1, _⟩ := h
  exact World.block_lt_of_cell? w _ h1
theorem own_lt {w : World} {base e size n : Nat} {v : Value} {xs : List Value} (h : w.ownsRow base e size v n xs) : ∀ k, v.ownBlock = some k → base ≤ k ∧ k < w.heap.size ∧ ∃ C, w.heap[k]? = some (.cells C e (0, 0)) := by
  intro k hk
  rcases h.2 with ⟨rfl, _⟩ | ⟨g, cap, cur, rfl, hb, hg, _⟩
  · cases hk
  · injection hk with hk
    have hk' : g = k := hk
    subst hk'
    refine ⟨hb, ?_, cur, hg⟩
    rcases Nat.lt_or_ge g w.heap.size with h | h
    · exact h
    · rw [Array.getElem?_eq_none h] at hg; cases hg
theorem Wr.later {w w' : World} {g : Nat} {l : List UInt8} (h : Wr w g l) (hb : Below w.heap.size w w') : Wr w' g l := by
  have hl := h.lt
  obtain ⟨v, h1, h2, h3⟩ := h
  exact ⟨v, by rw [hb.cell (p := ⟨g, 0, none⟩) hl]; exact h1, by rw [hb.frozen (p := ⟨g, 0, none⟩) hl]; exact h2, own_later h3 hb⟩
theorem strCells_append (a b : List UInt8) : Lib.strCells (ofL (a ++ b)) = Lib.strCells (ofL a) ++ Lib.strCells (ofL b) := by
  unfold Lib.strCells; rw [ofL_data, ofL_data, ofL_data, List.map_append]
theorem infoByte : (Tryd.prog.info? 5).map (fun i => (i.zero, i.size, i.bytes)) = some (some (.int .u8 0), 1, 1) := by kernel_rfl

set_option maxRecDepth 10000 in
set_option maxHeartbeats 1000000 in
theorem wText_any (g : Nat) (l : List UInt8) (s : ByteArray) (w : World) (h : Wr w g l) (hn : l.length ≤ 1048576000) (hs : s.size ≤ 1048576000) :
    Calls Tryd.prog 68 #[.pointer (some ⟨g, 0, none⟩), .string s] w fun x w' => x = .returned (.tuple #[]) ∧ Wr w' g (l ++ s.data.toList) ∧ Fr g w w' := by
  obtain ⟨i0, hi, hz0, hz1, hz2⟩ := info_parts infoByte
  obtain ⟨v, c0, f0, ho⟩ := h
  have HO : Hid (w.ownsRow (g + 1) 5 1 v l.length (Lib.strCells (ofL l))) := ho
  have hg := World.block_lt_of_cell? w _ c0
  have hgl : g < w.heap.size := hg
  have HFB : Hid (∀ k, v.ownBlock = some k → g + 1 ≤ k ∧ k < w.heap.size ∧ ∃ C, w.heap[k]? = some (.cells C 5 (0, 0))) := own_lt ho
  clear hg
  obtain ⟨va, vn, vc, rfl⟩ := own_slice ho
  clear ho
  go_enter Tryd.func68, Tryd.ntmps68
  have HNE : Hid (some g ≠ (Value.slice va vn vc).ownBlock) := fun e => by have := (HFB.out g e.symm).1; omega
  go_wp2_with (at_builtin; go_must (refine Lib.wpList_append_own_string w rfl _ _ 50 9 rfl (g + 1) 5 i0 Tryd.underlying50 Tryd.underlying9 hi hz0 hz1 hz2 (.slice va vn vc) l.length (Lib.strCells (ofL l)) rfl HO.out s rfl (by unfold maxLen; omega) (by omega) (by omega) ?_); intro v' w' ho' hgr hnil; clear hnil; obtain ⟨va', vn', vc', rfl⟩ := own_slice ho'; have HO' := (show Hid (w'.ownsRow (g + 1) 5 1 (.slice va' vn' vc') (l.length + s.size) (Lib.strCells (ofL l) ++ Lib.strCells s)) from ho'); have HGR := (show Hid (w.grownBy w' (Value.slice va vn vc).ownBlock) from hgr); have c1 : w'.cell? ⟨g, 0, none⟩ = some (.slice va vn vc) := hgr.cell c0 HNE.out; have f1 : w'.frozen? ⟨g, 0, none⟩ = false := (by rw [World.frozen?_of_block (hgr.block g hgl HNE.out)]; exact f0); clear ho' hgr)
  go_end0
  refine ⟨rfl, ⟨.slice va' vn' vc', World.cell?_setCell_same _ _ _ c1, by simp only [World.frozen?_setCell]; exact f1, ?_⟩, ?_⟩
  · have h2 : Lib.strCells (ofL (l ++ s.data.toList)) = Lib.strCells (ofL l) ++ Lib.strCells s := by rw [strCells_append, ofL_of]
    rw [h2, List.length_append, show s.data.toList.length = s.size from rfl]
    exact own_mov HO'.out ((Mov.refl g w').set 0 _) (Nat.lt_succ_self _)
  · have hG := HGR.out
    refine ⟨hG.os, hG.tape, hG.output, by simpa using hG.size, fun k hk hkg hB => ?_⟩
    rw [Below.heap_setCell w' ⟨g, 0, none⟩ _ k hkg]
    refine hG.block k hk (fun e => ?_)
    obtain ⟨h1, _, C, h3⟩ := HFB.out k e.symm
    rcases hB with hB | hB
    · omega
    · exact hB ⟨C, _, h3⟩

set_option maxHeartbeats 1000000 in
theorem wNumber_any (g n k : Nat) (l : List UInt8) (w : World) (h : Wr w g l) (hl : l.length ≤ 1048576000) (hn : U64 n) (hk : 0 < k) (hk8 : k ≤ 8) :
    Calls Tryd.prog 69 #[.pointer (some ⟨g, 0, none⟩), .int .u64 (n : Int), .int .i64 (k : Int)] w fun x w' => x = .returned (.tuple #[]) ∧ Wr w' g (l ++ le n k) ∧ Fr g w w' := by
  have h1 := inBytes_any n k w hn hk hk8
  have HT : Hid (∀ W, Below w.heap.size w W → Calls Tryd.prog 68 #[.pointer (some ⟨g, 0, none⟩), .string (ofL (le n k))] W fun x w' => x = .returned (.tuple #[]) ∧ Wr w' g (l ++ le n k) ∧ Fr g w w') := fun W hW =>
    (wText_any g l (ofL (le n k)) W (h.later hW) hl (by rw [ofL_size, le_length]; omega)).mono fun x w' ⟨h1, h2, h3⟩ => ⟨h1, by rw [ofL_data] at h2; exact h2, ((Fr.refl g w).later hW).trans h3⟩
  clear h
  go_enter Tryd.func69, Tryd.ntmps69
  go_wp2_with (first
    | (go_at_call 88; go_must (refine h1.mono ?_); rintro x w1 ⟨rfl, hb1⟩; have HB1 := (show Hid (Below w.heap.size w w1) from hb1); clear hb1)
    | (go_at_call 68; go_must (refine (HT.out _ HB1.out).mono ?_); rintro x w2 ⟨rfl, hw2, hf2⟩))
  go_end0
  exact ⟨rfl, hw2, hf2⟩

set_option maxHeartbeats 1000000 in
theorem wSize_small (g n : Nat) (l : List UInt8) (w : World) (h : Wr w g l) (hl : l.length ≤ 1048576000) (hn : n < 253) :
    Calls Tryd.prog 92 #[.pointer (some ⟨g, 0, none⟩), .int .u64 (n : Int)] w fun x w' => x = .returned (.tuple #[]) ∧ Wr w' g (l ++ sizeL n) ∧ Fr g w w' := by
  have h1 := wNumber_any g n 1 l w h hl (by unfold U64; omega) (by omega) (by omega)
  have e : sizeL n = le n 1 := by simp [sizeL, hn]
  have hi : (n : Int) < 253 := by omega
  rw [e]
  clear h e
  go_enter Tryd.func92, Tryd.ntmps92
  go_wp2_with (go_at_call 69; go_must (refine h1.mono ?_); rintro x w2 ⟨rfl, hw2, hf2⟩)
  go_end0
  exact ⟨rfl, hw2, hf2⟩
theorem wCount_small (g n : Nat) (l : List UInt8) (w : World) (h : Wr w g l) (hl : l.length ≤ 1048576000) (hn : n < 253) :
    Calls Tryd.prog 70 #[.pointer (some ⟨g, 0, none⟩), .int .i64 (n : Int)] w fun x w' => x = .returned (.tuple #[]) ∧ Wr w' g (l ++ sizeL n) ∧ Fr g w w' := by
  have h1 := wSize_small g n l w h hl hn
  have hi : (n : Int) < 253 := by omega
  have hw : IntKind.u64.wrap (n : Int) = (n : Int) := by rw [IntKind.wrap_u64]; omega
  clear h
  go_enter Tryd.func70, Tryd.ntmps70
  go_wp2_with (go_at_call 92; go_must (refine h1.mono ?_); rintro x w2 ⟨rfl, hw2, hf2⟩)
  go_end0
  exact ⟨rfl, hw2, hf2⟩
/-- what was told, as a text. -/
theorem Wr.text {w : World} {g : Nat} {l : List UInt8} (h : Wr w g l) (h0 : 0 < l.length) : ∃ b c, w.cell? ⟨g, 0, none⟩ = some (.slice (some ⟨b, 0, none⟩) l.length c) ∧ (convert 50 9 (.slice (some ⟨b, 0, none⟩) l.length c)).run Tryd.prog w = .ok (.string (ofL l)) w := by
  obtain ⟨v, h1, _, h3⟩ := h
  have h3' := h3
  rcases h3.2 with ⟨_, hz⟩ | ⟨b, cap, cur, hv, _, _, _⟩
  · omega
  · subst hv
    refine ⟨b, cap, h1, ?_⟩
    have hr := own_vrow (by rw [Lib.strCells_length, ofL_size]) h3'
    have := run_convert_bytes_back (P := Tryd.prog) w 50 9 5 ⟨b, 0, none⟩ cap l Tryd.underlying50 Tryd.underlying5 Tryd.underlying9 (fun j hj => by
      have := hr j (by rw [Lib.strCells_length, ofL_size]; exact hj)
      rw [Addr.add_mid, this]
      simp [Lib.strCells, ofL])
    exact this
/-- a new writer. -/
theorem Wr.new (w : World) (T : Nat) (g : Nat) (hg : g = w.heap.size) : Wr (w.alloc (.cells #[.slice none 0 0] T)) g [] := by
  subst hg
  exact ⟨.slice none 0 0, by simp [go_sem], by simp [go_sem], World.ownsRow_nil _ _ _ _⟩
end Go.Proofs.YtkmalggeieiepaaDoor
namespace Go.Proofs.YtkmalggeieiepaaDoor
open Go.RowKit

theorem range_app {w : World} {g : Nat} {a b : List Value} (h : w.rangeAt g 0 (a ++ b)) : w.rangeAt g 0 a ∧ w.rangeAt g a.length b := by
  refine ⟨fun j v hv => h j v ?_, fun j v hv => ?_⟩
  · have hj := (List.getElem?_eq_some_iff.1 hv).1
    rw [List.getElem?_append_left hj]; exact hv
  · have := h (a.length + j) v (by rw [List.getElem?_append_right (by omega)]; simpa using hv)
    rw [Nat.zero_add] at this; exact this
theorem range_new (w : World) (cs : List Value) (T : Nat) (SR : Array Value) (hs : SR = cs.toArray) : (w.alloc (.cells SR T)).rangeAt w.heap.size 0 cs := by
  have h := World.rangeAt_of_block (heap_alloc_new w (.cells SR T)) 0 cs.length
  subst hs
  simpa using h
theorem flat_snoc (T : List (List UInt8)) (j : Nat) (h : j < T.length) : (T.take (j + 1)).flatten = (T.take j).flatten ++ T[j] := by
  rw [List.take_succ_eq_append_getElem h, List.flatten_append]; simp
theorem flat_le (T : List (List UInt8)) (N : Nat) (h : ∀ x ∈ T, x.length ≤ N) : T.flatten.length ≤ T.length * N := by
  induction T with
  | nil => simp
  | cons a T ih =>
    have h1 := h a (by simp)
    have h2 := ih (fun x hx => h x (by simp [hx]))
    simp only [List.flatten_cons, List.length_append, List.length_cons, Nat.succ_mul]; omega

set_option maxRecDepth 10000 in
set_option maxHeartbeats 2000000 in
theorem wSev_any (g : Nat) (T : List (List UInt8)) (va : Option Addr) (vc : Nat) (p0 : List UInt8) (w : World) (hW : Wr w g p0) (hrow : 0 < T.length → ∃ b o, va = some ⟨b, o, none⟩ ∧ SRow w b o (T.map ofL) ∧ b < g) (hn : T.length ≤ 16) (hN : ∀ x ∈ T, x.length ≤ 610) (hp0 : p0.length ≤ 100000) :
    Calls Tryd.prog 80 #[.pointer (some ⟨g, 0, none⟩), .slice va T.length vc] w fun x w' => x = .returned (.tuple #[]) ∧ Wr w' g (p0 ++ sizeL T.length ++ T.flatten) ∧ Fr g w w' := by
  have HRW : Hid (0 < T.length → ∃ b o, va = some ⟨b, o, none⟩ ∧ SRow w b o (T.map ofL) ∧ b < g) := hrow
  have hglt := hW.lt
  have HC : Hid (Calls Tryd.prog 70 #[.pointer (some ⟨g, 0, none⟩), .int .i64 (T.length : Int)] w fun x w' => x = .returned (.tuple #[]) ∧ Wr w' g (p0 ++ sizeL T.length) ∧ Fr g w w') := wCount_small _ T.length _ w hW (by omega) (by omega)
  have HPL : Hid ((p0 ++ sizeL T.length).length ≤ 100009) := by
    show _ ≤ _
    have h1 := sizeL_le T.length
    rw [List.length_append]; omega
  have HND : Hid (∀ j, ((T.take j).flatten).length ≤ 16 * 610) := fun j => by
    have := flat_le (T.take j) 610 (fun x hx => hN x (List.mem_of_mem_take hx))
    rw [List.length_take] at this
    have h3 : min j T.length * 610 ≤ 16 * 610 := Nat.mul_le_mul_right _ (by omega)
    omega
  have HN : Hid (∀ x ∈ T, x.length ≤ 610) := hN
  generalize p0 ++ sizeL T.length = p at HC HPL ⊢
  clear hrow hW hN hp0
  go_enter Tryd.func80, Tryd.ntmps80
  go_upto_region 1 with (go_at_call 70; go_must (refine HC.out.mono ?_); rintro e w4 ⟨rfl, hw4, hf4⟩; have HW4 := (show Hid (Wr w4 g p) from hw4); have HF4 := (show Hid (Fr g w w4) from hf4); clear hw4 hf4)
  clear HC
  go_upto_region 2 with fail
  go_loopg [12] T.length (fun g' i wx => ∃ j : Nat, j + g' = T.length ∧ i = .int .i64 (j : Int) ∧ Wr wx g (p ++ (T.take j).flatten) ∧ Fr g w wx)
  case atStart => exact ⟨0, by omega, rfl, by simpa using HW4.out, HF4.out⟩
  case round =>
    clear HW4 HF4
    obtain ⟨j, hjg, rfl, hw, hf⟩ := hrel
    have HW : Hid (Wr wr g (p ++ (T.take j).flatten)) := hw
    have HF : Hid (Fr g w wr) := hf
    have HJ : Hid (j + gk = T.length) := hjg
    clear hw
    by_cases hlt : j < T.length
    · obtain ⟨b, o, rfl, hrow, hbg⟩ := HRW.out (by omega)
      have cj : wr.cell? ⟨b, o + j, none⟩ = some (.string (ofL T[j])) := by
        have := (hrow.later (hf.below (Nat.le_of_lt hglt) (Nat.le_refl _)) hbg) j (by simp; omega)
        rw [this]; simp
      have hji : (j : Int) < (T.length : Int) := by omega
      have HC2 : Hid (Calls Tryd.prog 68 #[.pointer (some ⟨g, 0, none⟩), .string (ofL T[j])] wr fun x w' => x = .returned (.tuple #[]) ∧ Wr w' g (p ++ (T.take (j + 1)).flatten) ∧ Fr g wr w') := by
        have h1 := HPL.out
        have h2 := HND.out j
        have h3 := HN.out _ (List.getElem_mem hlt)
        rw [flat_snoc T j hlt, ← List.append_assoc]
        exact wText_any _ _ (ofL T[j]) wr HW.out (by rw [List.length_append]; omega) (by rw [ofL_size]; omega)
      generalize ofL T[j] = tx at cj HC2
      clear hf hjg hrow
      go_wp2_with (go_at_call 68; go_must (refine HC2.out.mono ?_); rintro e w5 ⟨rfl, hw5, hf5⟩; have HW5 := (show Hid (Wr w5 g (p ++ (T.take (j + 1)).flatten)) from hw5); have HF5 := (show Hid (Fr g w w5) from HF.out.trans hf5); clear hw5 hf5)
      go_roundg (gk - 1)
      case measure => have := HJ.out; omega
      case rel =>
        have h1 := HJ.out
        exact ⟨j + 1, by omega, by go_num, HW5.out, HF5.out⟩
    · obtain rfl : j = T.length := by omega
      rw [List.take_length] at HW
      clear hf hjg
      have hji : ¬ ((T.length : Int) < (T.length : Int)) := by omega
      go_wp2
      go_end0
      exact ⟨rfl, HW.out, HF.out⟩

set_option maxRecDepth 10000 in
set_option maxHeartbeats 2000000 in
theorem rpText_any (nm : ByteArray) (hnm : nm.size = 32) (T : List (List UInt8)) (v : Value) (SR : Array Value) (HSR : Hid (SR = (bc nm ++ [v]).toArray)) (w : World) (hv : SVal w v (T.map ofL)) (hn : T.length ≤ 16) (hN : ∀ x ∈ T, x.length ≤ 610) :
    Calls Tryd.prog 45 #[.agg SR] w fun x w' => x = .returned (.string (ofL (nm.data.toList ++ sizeL T.length ++ T.flatten))) ∧ Below w.heap.size w w' := by
  go_enter Tryd.func45, Tryd.ntmps45
  go_upto_region 2 with fail
  obtain ⟨W1, hW1⟩ : ∃ W, W = (w.alloc (.cells SR 89)).alloc (.cells #[.slice none 0 0] 124) := ⟨_, rfl⟩
  have hrg : (w.alloc (.cells SR 89)).rangeAt w.heap.size 0 (bc nm ++ [v]) := range_new w _ _ SR HSR.out
  have HB1 : Hid (Below w.heap.size w W1) := by show Below _ _ _; rw [hW1]; exact ((Below.refl _ _).alloc (Nat.le_refl _) _).alloc (by simp) _
  have hr1 : W1.rangeAt w.heap.size 0 (bc nm ++ [v]) := by rw [hW1]; exact World.rangeAt_alloc hrg _
  have hW : Wr W1 (w.heap.size + 1) [] := by rw [hW1]; exact Wr.new _ _ _ (by simp)
  have hz1 : W1.heap.size = w.heap.size + 2 := by rw [hW1]; simp
  rw [← hW1]
  clear hW1 hrg HSR
  obtain ⟨hra, hrb⟩ := range_app hr1
  rw [bc_length, hnm] at hrb
  have HRA : Hid (W1.rangeAt w.heap.size 0 (bc nm)) := hra
  have HCB : Hid (∀ W, Below (w.heap.size + 1) W1 W → W.cell? ⟨w.heap.size, 32, none⟩ = some v) := fun W hW => by
    rw [hW.cell (p := ⟨w.heap.size, 32, none⟩) (Nat.lt_succ_self _)]; exact hrb 0 v rfl
  have HTX : Hid (∀ W, Calls Tryd.prog 21 #[.agg (bc nm).toArray] W fun e w' => e = .returned (.string nm) ∧ Below W.heap.size W w') := fun W => text_d nm hnm W
  have HWR : Hid (Wr W1 (w.heap.size + 1) []) := hW
  clear hr1 hra hrb hW
  obtain ⟨va, vc, rfl, _, hrow⟩ := hv
  have hTl : (T.map ofL).length = T.length := by simp
  rw [hTl] at hrow HCB
  have HRW : Hid (0 < T.length → ∃ b o, va = some ⟨b, o, none⟩ ∧ SRow w b o (T.map ofL)) := hrow
  clear hrow hTl
  have hbl := bc_length nm
  go_upto_region 3 with (first
    | (refine wpList_load_mid rfl 43 _ rfl w.heap.size 0 rfl (bc nm) _ ?_ Tryd.underlying43 rfl ?_ ?_; exact HRA.out; rw [bc_length, hnm]; kernel_rfl)
    | (go_at_call 21; go_must (refine (HTX.out _).mono ?_); rintro e w2 ⟨rfl, hb2⟩; have HB2 := (show Hid (Below W1.heap.size W1 w2) from hb2); have HW2 := (show Hid (Wr w2 (w.heap.size + 1) []) from HWR.out.later hb2); clear hb2)
    | (go_at_call 68; go_must (refine (wText_any (w.heap.size + 1) [] nm _ HW2.out (by simp) (by omega)).mono ?_); rintro e w3 ⟨rfl, hw3, hf3⟩; have HW3 := (show Hid (Wr w3 (w.heap.size + 1) nm.data.toList) from hw3); have HB3 := (show Hid (Below (w.heap.size + 1) W1 w3) from (HB2.out.mono (by omega)).trans (hf3.below (Nat.le_of_lt HW2.out.lt) (Nat.le_refl _))); clear hw3 hf3))
  clear HWR HRA HTX hbl
  have hnl : nm.data.toList.length = 32 := hnm
  have HC : Hid (Calls Tryd.prog 80 #[.pointer (some ⟨w.heap.size + 1, 0, none⟩), .slice va T.length vc] w3 fun x w' => x = .returned (.tuple #[]) ∧ Wr w' (w.heap.size + 1) (nm.data.toList ++ sizeL T.length ++ T.flatten) ∧ Fr (w.heap.size + 1) w3 w') := wSev_any _ T va vc nm.data.toList w3 HW3.out (fun h0 => by
    obtain ⟨b, o, ha, hr⟩ := HRW.out h0
    have hbw := hr.lt (by simpa using h0)
    exact ⟨b, o, ha, (hr.later HB1.out hbw).later HB3.out (Nat.lt_succ_of_lt hbw), Nat.lt_succ_of_lt hbw⟩) hn hN (by omega)
  have d3 := HCB.out w3 HB3.out
  go_upto_region 4 with (go_at_call 80; go_must (refine HC.out.mono ?_); rintro e w4 ⟨rfl, hw4, hf4⟩; have HW4 := (show Hid (Wr w4 (w.heap.size + 1) (nm.data.toList ++ sizeL T.length ++ T.flatten)) from hw4); have HB4 := (show Hid (Below (w.heap.size + 1) W1 w4) from HB3.out.trans (hf4.below (Nat.le_of_lt HW3.out.lt) (Nat.le_refl _))); clear hw4 hf4)
  clear d3 HC HW3 HB3
  obtain ⟨b, c, d0, hcv⟩ := HW4.out.text (by rw [List.length_append, List.length_append]; omega)
  have HBW : Hid (Below w.heap.size w w4) := HB1.out.trans (HB4.out.mono (Nat.le_succ _))
  generalize hS : ofL (nm.data.toList ++ sizeL T.length ++ T.flatten) = S at hcv
  have HL : Hid (ofL (nm.data.toList ++ sizeL T.length ++ T.flatten) = S) := hS
  clear hS
  generalize (nm.data.toList ++ sizeL T.length ++ T.flatten).length = LN at d0 hcv
  clear hnl
  go_wp2
  go_ret
  exact ⟨by rw [HL.out]; rfl, HBW.out⟩
end Go.Proofs.YtkmalggeieiepaaDoor
