import Derived.Test.YtkmalggeieiepabDoorPzk
import Derived.WalkKit
import Derived.WalkSpells
import Derived.WalkLawsBesides
import Derived.Deep.MidRow
import Derived.Deep.LoopGhost
import Derived.Deep.DeepCutAuto
import Derived.Test.YtkmalggeieiepabDoorPzj
import Derived.Laws.Tables
import Derived.Test.YtkmalggeieiepabDoorPzg
import Derived.Defers
import Derived.Recover
set_option linter.unusedSimpArgs false
namespace Go.Proofs.YtkmalggeieiepabDoor
open Go.RowKit

theorem nxt_mono : ∀ (l : List (Nat × List UInt8)) (i : Nat), nxt i l ≤ nxt (i + 1) l
  | [], i => Nat.le_succ i
  | _ :: _, _ => Nat.le_refl _
theorem plc_nxt (al : List Int) : ∀ (l : List (List UInt8)) (i j : Nat) (h : j < (plc al i l).length), nxt i ((plc al i l).take j) ≤ (plc al i l)[j].1
  | [], _, j, h => by simp [plc] at h
  | x :: l, i, j, h => by
    have ih := plc_nxt al l (i + 1)
    by_cases hm : (i : Int) ∈ al
    · have e : plc al i (x :: l) = (i, x) :: plc al (i + 1) l := by simp [plc, hm]
      simp only [e] at h ⊢
      cases j with
      | zero => simp [nxt]
      | succ j => simpa [nxt] using ih j (by simpa using h)
    · have e : plc al i (x :: l) = plc al (i + 1) l := by simp [plc, hm]
      simp only [e] at h ⊢
      exact Nat.le_trans (nxt_mono _ i) (ih j h)
theorem own_row2 {w : World} {base e n : Nat} {v : Value} {xs : List Value} (h : w.ownsRow base e 2 v n xs) : ∃ a c, v = .slice a n c ∧ (0 < n → ∃ b, a = some ⟨b, 0, none⟩ ∧ VRow w b 0 xs) := by
  have hl := h.1
  rcases h.2 with ⟨hv, h0⟩ | ⟨g, cap, cur, hv, _, hg, _, _, _, ht⟩
  · exact ⟨none, 0, by rw [hv, h0], fun h1 => by omega⟩
  · refine ⟨_, cap, hv, fun _ => ⟨g, rfl, ?_⟩⟩
    intro j hj
    rw [Nat.zero_add, cell_of_row w g j cur _ _ hg]
    have h3 : (cur.toList.take (n * 2))[j]? = xs[j]? := by rw [ht]
    rw [List.getElem?_take, if_pos (by omega)] at h3
    rw [← Array.getElem?_toList, h3, List.getElem?_eq_getElem hj]
theorem plV_length (l : List (Nat × List UInt8)) : (plV l).length = 2 * l.length := by
  induction l with
  | nil => rfl
  | cons p l ih => simp only [plV, List.flatMap_cons, List.length_append, List.length_cons, List.length_nil] at *; omega
theorem plV_get : ∀ (l : List (Nat × List UInt8)) (j : Nat) (h : j < l.length), (plV l)[2 * j]? = some (.int .i64 (l[j].1 : Int)) ∧ (plV l)[2 * j + 1]? = some (.string (ofL l[j].2))
  | p :: l, 0, _ => ⟨rfl, rfl⟩
  | p :: l, j + 1, h => by
    have ih := plV_get l j (by simpa using h)
    have e : plV (p :: l) = Value.int .i64 (p.1 : Int) :: .string (ofL p.2) :: plV l := rfl
    rw [e, show 2 * (j + 1) = 2 * j + 1 + 1 by omega, show 2 * j + 1 + 1 + 1 = (2 * j + 1) + 1 + 1 by omega]
    simpa using ih
theorem wrt_snoc (l : List (Nat × List UInt8)) (j : Nat) (h : j < l.length) : wrt 0 (l.take (j + 1)) = wrt 0 (l.take j) ++ (sizeL (l[j].1 - nxt 0 (l.take j)) ++ l[j].2) := by
  rw [List.take_succ_eq_append_getElem h, wrt_append]; simp [wrt]
theorem nxt_snoc (l : List (Nat × List UInt8)) (j : Nat) (h : j < l.length) : nxt 0 (l.take (j + 1)) = l[j].1 + 1 := by
  rw [List.take_succ_eq_append_getElem h, nxt_append]; simp [nxt]
theorem ids_snoc (l : List Nat) (j : Nat) (h : j < l.length) : ((l.take (j + 1)).map fun x => le x 6).flatten = ((l.take j).map fun x => le x 6).flatten ++ le l[j] 6 := by
  rw [List.take_succ_eq_append_getElem h, List.map_append, List.flatten_append]; simp
theorem ids_len (l : List Nat) : ((l.map fun x => le x 6).flatten).length = 6 * l.length := by
  induction l with
  | nil => rfl
  | cons x l ih => simp only [List.map_cons, List.flatten_cons, List.length_append, le_length, List.length_cons, ih]; omega
/-- a block of another kind stays. -/
theorem Fr.other {g : Nat} {w w' : World} (h : Fr g w w') (k : Nat) (hk : k < w.heap.size) (hg : k ≠ g) (C : Array Value) (t : Nat) (fz : Nat × Nat) (hb : w.heap[k]? = some (.cells C t fz)) (ht : t ≠ 5) : w'.heap[k]? = some (.cells C t fz) := by
  rw [h.block k hk hg (.inr (fun ⟨C', fz', h'⟩ => by rw [hb] at h'; injection h' with h'; injection h' with _ e _; exact ht e))]
  exact hb

set_option maxRecDepth 10000 in
set_option maxHeartbeats 1000000 in
theorem wIndex_any (g nx x : Nat) (l : List UInt8) (w : World) (h : Wr w g l) (hl : l.length ≤ 1048576000) (h1 : nx ≤ x) (h2 : x < 16) :
    Calls Tryd.prog 66 #[.pointer (some ⟨g, 0, none⟩), .int .i64 (nx : Int), .int .i64 (x : Int)] w fun e w' => e = .returned (.int .i64 ((x + 1 : Nat) : Int)) ∧ Wr w' g (l ++ sizeL (x - nx)) ∧ Fr g w w' := by
  have hsub : wrap64 ((x : Int) - (nx : Int)) = ((x - nx : Nat) : Int) := by unfold wrap64; omega
  have HCN := wCount_small g (x - nx) l w h hl (by omega)
  have ec : ((x - nx : Nat) : Int) = (x : Int) - (nx : Int) := by omega
  rw [ec] at HCN
  have e1 : ((x + 1 : Nat) : Int) = (x : Int) + 1 := by omega
  rw [e1]
  have hxi : (x : Int) < 16 := by omega
  have hx0 : (0 : Int) ≤ x := by omega
  have hn0 : (0 : Int) ≤ nx := by omega
  have hnx : (nx : Int) ≤ x := by omega
  clear ec hsub e1 h
  have HC : Hid (Calls Tryd.prog 65 #[.pointer (some ⟨g, 0, none⟩), .int .i64 ((x : Int) - (nx : Int))] w fun e w' => e = .returned (.tuple #[]) ∧ Wr w' g (l ++ sizeL (x - nx)) ∧ Fr g w w') := HCN
  clear HCN
  generalize sizeL (x - nx) = sz at HC ⊢
  generalize (x : Int) = X at *
  generalize (nx : Int) = Y at *
  go_enter Tryd.func66, Tryd.ntmps66
  go_wp2_with (go_at_call 65; go_must (refine HC.out.mono ?_); rintro e w7 ⟨rfl, hw7, hf7⟩; have HW7 := (show Hid (Wr w7 g (l ++ sz)) from hw7); have HF7 := (show Hid (Fr g w w7) from hf7); clear hw7 hf7)
  go_ret
  exact ⟨by first | rfl | go_num, HW7.out, HF7.out⟩

/-- a short block in bytes. -/
def sbL (h : List UInt8) (n : Nat) (ids : List Nat) (ps : List (Nat × List UInt8)) : List UInt8 :=
  h ++ le n 8 ++ sizeL ids.length ++ (ids.map fun x => le x 6).flatten ++ sizeL ps.length ++ wrt 0 ps

set_option maxRecDepth 10000 in
set_option maxHeartbeats 4000000 in
theorem sbText_any (h : ByteArray) (n : Nat) (ids : List Nat) (ps : List (Nat × List UInt8)) (v3 v4 : Value) (w : World) (base : Nat) (h3 : w.ownsRow base 24 1 v3 ids.length (idV ids)) (h4 : w.ownsRow base 127 2 v4 ps.length (plV ps))
    (hh : h.size ≤ 1000) (hh0 : 0 < h.size) (hn : U64 n) (hi : ids.length ≤ 16) (hiu : ∀ x ∈ ids, U64 x) (hp : ps.length ≤ 16) (hps : ∀ j (h : j < ps.length), nxt 0 (ps.take j) ≤ ps[j].1 ∧ ps[j].1 < 16 ∧ ps[j].2.length ≤ 610) :
    Calls Tryd.prog 36 #[.agg #[.string h, .int .u64 (n : Int), v3, v4]] w fun x w' => x = .returned (.string (ofL (sbL h.data.toList n ids ps))) ∧ Below w.heap.size w w' := by
  have hidl : (idV ids).length = ids.length := by simp [idV]
  obtain ⟨a3, c3, hv3, _, hr3⟩ := own_vval (l := idV ids) (by rw [hidl]; exact h3)
  rw [hidl] at hv3 hr3
  obtain ⟨a4, c4, hv4, hr4⟩ := own_row2 h4
  subst hv3 hv4
  have HR3 : Hid (0 < ids.length → ∃ b o, a3 = some ⟨b, o, none⟩ ∧ VRow w b o (idV ids)) := hr3
  have HR4 : Hid (0 < ps.length → ∃ b, a4 = some ⟨b, 0, none⟩ ∧ VRow w b 0 (plV ps)) := hr4
  have HPS : Hid (∀ j (h : j < ps.length), nxt 0 (ps.take j) ≤ ps[j].1 ∧ ps[j].1 < 16 ∧ ps[j].2.length ≤ 610) := hps
  have HIU : Hid (∀ x ∈ ids, U64 x) := hiu
  have HNU : Hid (U64 n) := hn
  clear h3 h4 hr3 hr4 hps hiu hidl hn
  obtain ⟨W1, hW1⟩ : ∃ W, W = (w.alloc (.cells #[.string h, .int .u64 (n : Int), .slice a3 ids.length c3, .slice a4 ps.length c4] 85)).alloc (.cells #[.slice none 0 0] 130) := ⟨_, rfl⟩
  have HB1 : Hid (Below w.heap.size w W1) := by show Below _ _ _; rw [hW1]; exact ((Below.refl _ _).alloc (Nat.le_refl _) _).alloc (by simp) _
  have hW : Wr W1 (w.heap.size + 1) [] := by rw [hW1]; exact Wr.new _ _ _ (by simp)
  have hz1 : W1.heap.size = w.heap.size + 2 := by rw [hW1]; simp
  have b0 : W1.cell? ⟨w.heap.size, 0, none⟩ = some (.string h) := by rw [hW1]; simp [go_sem]
  have b1 : W1.cell? ⟨w.heap.size, 1, none⟩ = some (.int .u64 (n : Int)) := by rw [hW1]; simp [go_sem]
  have b2 : W1.cell? ⟨w.heap.size, 2, none⟩ = some (.slice a3 ids.length c3) := by rw [hW1]; simp [go_sem]
  have b3 : W1.cell? ⟨w.heap.size, 3, none⟩ = some (.slice a4 ps.length c4) := by rw [hW1]; simp [go_sem]
  have HC : Hid (∀ W, Below (w.heap.size + 1) W1 W → W.cell? ⟨w.heap.size, 1, none⟩ = some (.int .u64 (n : Int)) ∧ W.cell? ⟨w.heap.size, 2, none⟩ = some (.slice a3 ids.length c3) ∧ W.cell? ⟨w.heap.size, 3, none⟩ = some (.slice a4 ps.length c4)) := fun W hW =>
    ⟨by rw [hW.cell (p := ⟨w.heap.size, 1, none⟩) (Nat.lt_succ_self _)]; exact b1, by rw [hW.cell (p := ⟨w.heap.size, 2, none⟩) (Nat.lt_succ_self _)]; exact b2, by rw [hW.cell (p := ⟨w.heap.size, 3, none⟩) (Nat.lt_succ_self _)]; exact b3⟩
  have HWR : Hid (Wr W1 (w.heap.size + 1) []) := hW
  have hhl : h.data.toList.length = h.size := rfl
  have hb0 := b0
  clear b1 b2 b3 hW b0
  have H1 : Hid (Calls Tryd.prog 63 #[.pointer (some ⟨w.heap.size + 1, 0, none⟩), .string h] W1 fun x w' => x = .returned (.tuple #[]) ∧ Wr w' (w.heap.size + 1) h.data.toList ∧ Fr (w.heap.size + 1) W1 w') := wText_any (w.heap.size + 1) [] h W1 HWR.out (by simp) (by omega)
  have H2 : Hid (∀ W, Wr W (w.heap.size + 1) h.data.toList → Calls Tryd.prog 64 #[.pointer (some ⟨w.heap.size + 1, 0, none⟩), .int .u64 (n : Int), .int .i64 8] W fun x w' => x = .returned (.tuple #[]) ∧ Wr w' (w.heap.size + 1) (h.data.toList ++ le n 8) ∧ Fr (w.heap.size + 1) W w') := fun W hW => wNumber_any (w.heap.size + 1) n 8 _ W hW (by omega) HNU.out (by omega) (by omega)
  obtain ⟨L2, hL2⟩ : ∃ L, L = h.data.toList ++ le n 8 := ⟨_, rfl⟩
  have hl2 : L2.length ≤ 1008 := by rw [hL2, List.length_append, le_length]; omega
  have hl20 : 0 < L2.length := by rw [hL2, List.length_append]; omega
  rw [← hL2] at H2
  have H3 : Hid (∀ W, Wr W (w.heap.size + 1) L2 → Calls Tryd.prog 65 #[.pointer (some ⟨w.heap.size + 1, 0, none⟩), .int .i64 (ids.length : Int)] W fun x w' => x = .returned (.tuple #[]) ∧ Wr w' (w.heap.size + 1) (L2 ++ sizeL ids.length) ∧ Fr (w.heap.size + 1) W w') := fun W hW => wCount_small (w.heap.size + 1) ids.length _ W hW (by omega) (by omega)
  obtain ⟨L3, hL3⟩ : ∃ L, L = L2 ++ sizeL ids.length := ⟨_, rfl⟩
  have hl3 : L3.length ≤ 1017 := by rw [hL3, List.length_append]; have := sizeL_le ids.length; omega
  rw [← hL3] at H3
  have H5 : Hid (∀ W, Wr W (w.heap.size + 1) (L3 ++ (ids.map fun x => le x 6).flatten) → Calls Tryd.prog 65 #[.pointer (some ⟨w.heap.size + 1, 0, none⟩), .int .i64 (ps.length : Int)] W fun x w' => x = .returned (.tuple #[]) ∧ Wr w' (w.heap.size + 1) (L3 ++ (ids.map fun x => le x 6).flatten ++ sizeL ps.length) ∧ Fr (w.heap.size + 1) W w') := fun W hW => wCount_small (w.heap.size + 1) ps.length _ W hW (by rw [List.length_append, ids_len]; omega) (by omega)
  obtain ⟨L5, hL5⟩ : ∃ L, L = L3 ++ (ids.map fun x => le x 6).flatten ++ sizeL ps.length := ⟨_, rfl⟩
  have hl5 : L5.length ≤ 1130 := by rw [hL5, List.length_append, List.length_append, ids_len]; have := sizeL_le ps.length; omega
  have HL50 : Hid (0 < L5.length) := by show 0 < _; rw [hL5, hL3, List.length_append, List.length_append, List.length_append]; omega
  rw [← hL5] at H5
  have HEQ : Hid (sbL h.data.toList n ids ps = L5 ++ wrt 0 ps) := by show _ = _; rw [hL5, hL3, hL2]; rfl
  have HL3B : Hid (L3.length ≤ 1017) := hl3
  have HL5B : Hid (L5.length ≤ 1130) := hl5
  obtain ⟨NI, hNI⟩ : ∃ NI : Int, NI = (n : Int) := ⟨_, rfl⟩
  rw [← hNI] at H2 HC hW1 ⊢
  clear hL2 hL3 hL5 hl2 hl3 hl5 hl20 hhl hNI
  go_enter Tryd.func36, Tryd.ntmps36
  go_upto_region 2 with fail
  rw [← hW1]
  clear hW1
  go_upto_region 3 with (go_at_call 63; go_must (refine H1.out.mono ?_); rintro e w2 ⟨rfl, hw2, hf2⟩; have HW2 := (show Hid (Wr w2 (w.heap.size + 1) h.data.toList) from hw2); have HB2 := (show Hid (Below (w.heap.size + 1) W1 w2) from hf2.below (by omega) (Nat.le_refl _)); clear hw2 hf2)
  clear hb0 H1 HWR
  have d2 := (HC.out w2 HB2.out).1
  go_upto_region 4 with (go_at_call 64; go_must (refine (H2.out _ HW2.out).mono ?_); rintro e w3 ⟨rfl, hw3, hf3⟩; have HW3 := (show Hid (Wr w3 (w.heap.size + 1) L2) from hw3); have HB3 := (show Hid (Below (w.heap.size + 1) W1 w3) from HB2.out.trans (hf3.below (Nat.le_of_lt HW2.out.lt) (Nat.le_refl _))); clear hw3 hf3)
  clear d2 H2 HW2 HB2
  have d3 := (HC.out w3 HB3.out).2.1
  go_upto_region 5 with (go_at_call 65; go_must (refine (H3.out _ HW3.out).mono ?_); rintro e w4 ⟨rfl, hw4, hf4⟩; have HW4 := (show Hid (Wr w4 (w.heap.size + 1) L3) from hw4); have HB4 := (show Hid (Below (w.heap.size + 1) W1 w4) from HB3.out.trans (hf4.below (Nat.le_of_lt HW3.out.lt) (Nat.le_refl _))); clear hw4 hf4)
  clear d3 H3 HW3 HB3
  have d4 := (HC.out w4 HB4.out).2.1
  go_upto_region 6 with fail
  clear d4
  go_loopg [22] ids.length (fun g i wx => ∃ j : Nat, j + g = ids.length ∧ i = .int .i64 (j : Int) ∧ Wr wx (w.heap.size + 1) (L3 ++ ((ids.take j).map fun x => le x 6).flatten) ∧ Below (w.heap.size + 1) W1 wx)
  case atStart => exact ⟨0, by omega, rfl, by simpa using HW4.out, HB4.out⟩
  case round =>
    clear HW4 HB4
    obtain ⟨j, hjg, rfl, hw, hb⟩ := hrel
    have HW : Hid (Wr wr (w.heap.size + 1) (L3 ++ ((ids.take j).map fun x => le x 6).flatten)) := hw
    have HB : Hid (Below (w.heap.size + 1) W1 wr) := hb
    have HJ : Hid (j + gk = ids.length) := hjg
    clear hw
    by_cases hlt : j < ids.length
    · obtain ⟨b, o, rfl, hrow⟩ := HR3.out (by omega)
      have hbw := hrow.lt (by simp [idV]; omega)
      have cj : wr.cell? ⟨b, o + j, none⟩ = some (.int .u64 (ids[j] : Int)) := by
        have := ((hrow.later HB1.out hbw).later hb (Nat.lt_succ_of_lt hbw)) j (by simp [idV]; omega)
        rw [this]; simp [idV]
      have hji : (j : Int) < (ids.length : Int) := by omega
      have HN6 : Hid (Calls Tryd.prog 64 #[.pointer (some ⟨w.heap.size + 1, 0, none⟩), .int .u64 (ids[j] : Int), .int .i64 6] wr fun x w' => x = .returned (.tuple #[]) ∧ Wr w' (w.heap.size + 1) (L3 ++ ((ids.take (j + 1)).map fun x => le x 6).flatten) ∧ Fr (w.heap.size + 1) wr w') := by
        rw [ids_snoc ids j hlt, ← List.append_assoc]
        exact wNumber_any _ _ 6 _ wr HW.out (by rw [List.length_append, ids_len, List.length_take]; have := HL3B.out; omega) (HIU.out _ (List.getElem_mem hlt)) (by omega) (by omega)
      generalize (ids[j] : Int) = x at cj HN6
      clear hb hjg hrow
      go_wp2_with (go_at_call 64; go_must (refine HN6.out.mono ?_); rintro e w5 ⟨rfl, hw5, hf5⟩; have HW5 := (show Hid (Wr w5 (w.heap.size + 1) (L3 ++ ((ids.take (j + 1)).map fun x => le x 6).flatten)) from hw5); have HB5 := (show Hid (Below (w.heap.size + 1) W1 w5) from HB.out.trans (hf5.below (Nat.le_of_lt HW.out.lt) (Nat.le_refl _))); clear hw5 hf5)
      go_roundg (gk - 1)
      case measure => have := HJ.out; omega
      case rel =>
        have h1 := HJ.out
        exact ⟨j + 1, by omega, by go_num, HW5.out, HB5.out⟩
    · obtain rfl : j = ids.length := by omega
      rw [List.take_length] at HW
      clear hb hjg
      have hji : ¬ ((ids.length : Int) < (ids.length : Int)) := by omega
      have d6 := (HC.out wr HB.out).2.2
      go_upto_region 11 with (go_at_call 65; go_must (refine (H5.out _ HW.out).mono ?_); rintro e w6 ⟨rfl, hw6, hf6⟩; have HW6 := (show Hid (Wr w6 (w.heap.size + 1) L5) from hw6); have HB6 := (show Hid (Below (w.heap.size + 1) W1 w6) from HB.out.trans (hf6.below (Nat.le_of_lt HW.out.lt) (Nat.le_refl _))); clear hw6 hf6)
      clear d6 H5 HW HB HJ
      have d7 := (HC.out w6 HB6.out).2.2
      go_upto_region 13 with fail
      clear d7
      go_loopg [6, 36] ps.length (fun g nx i wx => ∃ j : Nat, j + g = ps.length ∧ nx = .int .i64 (nxt 0 (ps.take j) : Int) ∧ i = .int .i64 (j : Int) ∧ Wr wx (w.heap.size + 1) (L5 ++ wrt 0 (ps.take j)) ∧ Below (w.heap.size + 1) W1 wx)
      case atStart => exact ⟨0, by omega, rfl, rfl, by simpa [wrt] using HW6.out, HB6.out⟩
      case round =>
        clear HW6 HB6
        obtain ⟨j, hjg, rfl, rfl, hw, hb⟩ := hrel
        have HW : Hid (Wr wr (w.heap.size + 1) (L5 ++ wrt 0 (ps.take j))) := hw
        have HB : Hid (Below (w.heap.size + 1) W1 wr) := hb
        have HJ : Hid (j + gk = ps.length) := hjg
        clear hw
        by_cases hlt : j < ps.length
        · obtain ⟨b, rfl, hrow⟩ := HR4.out (by omega)
          have hpl := plV_length ps
          have hbw := hrow.lt (by omega)
          have hrw := (hrow.later HB1.out hbw).later hb (Nat.lt_succ_of_lt hbw)
          obtain ⟨g0, g1⟩ := plV_get ps j hlt
          have e0 : wr.cell? ⟨b, j * 2, none⟩ = some (.int .i64 (ps[j].1 : Int)) := by
            have := hrw (2 * j) (by omega)
            rw [Nat.zero_add] at this
            rw [Nat.mul_comm j 2, this]
            have h2 : 2 * j < (plV ps).length := by omega
            rw [List.getElem?_eq_getElem h2] at g0
            simpa using g0
          have e1 : wr.cell? ⟨b, j * 2 + 1, none⟩ = some (.string (ofL ps[j].2)) := by
            have := hrw (2 * j + 1) (by omega)
            rw [Nat.zero_add] at this
            rw [Nat.mul_comm j 2, this]
            have h2 : 2 * j + 1 < (plV ps).length := by omega
            rw [List.getElem?_eq_getElem h2] at g1
            simpa using g1
          have hji : (j : Int) < (ps.length : Int) := by omega
          obtain ⟨hx1, hx2, hx3⟩ := HPS.out j hlt
          have HWS := (show Hid (wrt 0 (ps.take (j + 1)) = wrt 0 (ps.take j) ++ (sizeL (ps[j].1 - nxt 0 (ps.take j)) ++ ps[j].2)) from wrt_snoc ps j hlt)
          have HNS := (show Hid ((nxt 0 (ps.take (j + 1)) : Int) = ((ps[j].1 + 1 : Nat) : Int)) from by show _ = _; rw [nxt_snoc ps j hlt])
          have HWL : Hid ((wrt 0 (ps.take j)).length ≤ 16 * 700) := by
            show _ ≤ _
            have := wrt_le 691 (ps.take j) 0 (fun p hp => by
              obtain ⟨i, hi2, rfl⟩ := List.getElem_of_mem (List.mem_of_mem_take hp)
              have := (HPS.out i hi2).2.2; omega)
            rw [List.length_take] at this
            have h3 : min j ps.length * (691 + 9) ≤ 16 * 700 := Nat.mul_le_mul_right _ (by omega)
            omega
          generalize ps[j].1 = x at e0 hx1 hx2 HWS HNS
          generalize ps[j].2 = tx at e1 hx3 HWS
          generalize nxt 0 (ps.take j) = nx at hx1 HWS ⊢
          clear g0 g1 hrw hrow hb hjg
          go_upto_region 15 with fail
          obtain ⟨W6, hW6⟩ : ∃ W, W = wr.alloc (.cells #[.int .i64 (x : Int), .string (ofL tx)] 127) := ⟨_, rfl⟩
          have hbk6 : W6.heap[wr.heap.size]? = some (.cells #[.int .i64 (x : Int), .string (ofL tx)] 127 (0, 0)) := by rw [hW6]; exact heap_alloc_new wr _
          have hb6 : Below wr.heap.size wr W6 := by rw [hW6]; exact (Below.refl _ _).alloc (Nat.le_refl _) _
          have hz6 : W6.heap.size = wr.heap.size + 1 := by rw [hW6]; simp
          have y0 : W6.cell? ⟨wr.heap.size, 0, none⟩ = some (.int .i64 (x : Int)) := by rw [hW6]; simp [go_sem]
          have hgl := HW.out.lt
          have HWR6 : Hid (Wr W6 (w.heap.size + 1) (L5 ++ wrt 0 (ps.take j))) := HW.out.later hb6
          have HB6 : Hid (Below (w.heap.size + 1) W1 W6) := HB.out.trans (hb6.mono (by omega))
          have HCN : Hid (Calls Tryd.prog 66 #[.pointer (some ⟨w.heap.size + 1, 0, none⟩), .int .i64 (nx : Int), .int .i64 (x : Int)] W6 fun x' w' => x' = .returned (.int .i64 ((x + 1 : Nat) : Int)) ∧ Wr w' (w.heap.size + 1) (L5 ++ wrt 0 (ps.take j) ++ sizeL (x - nx)) ∧ Fr (w.heap.size + 1) W6 w') := wIndex_any _ nx x _ W6 HWR6.out (by rw [List.length_append]; have := HWL.out; have := HL5B.out; omega) hx1 hx2
          have HXT : Hid (∀ W, Wr W (w.heap.size + 1) (L5 ++ wrt 0 (ps.take j) ++ sizeL (x - nx)) → Calls Tryd.prog 63 #[.pointer (some ⟨w.heap.size + 1, 0, none⟩), .string (ofL tx)] W fun x' w' => x' = .returned (.tuple #[]) ∧ Wr w' (w.heap.size + 1) (L5 ++ wrt 0 (ps.take (j + 1))) ∧ Fr (w.heap.size + 1) W w') := fun W hW => by
            have := wText_any (w.heap.size + 1) _ (ofL tx) W hW (by rw [List.length_append, List.length_append]; have := HWL.out; have := HL5B.out; have := sizeL_le (x - nx); omega) (by rw [ofL_size]; omega)
            rw [HWS.out, ← List.append_assoc, ← List.append_assoc]
            rw [ofL_data] at this
            exact this
          have HK7 : Hid (∀ w', Fr (w.heap.size + 1) W6 w' → w'.heap[wr.heap.size]? = some (.cells #[.int .i64 (x : Int), .string (ofL tx)] 127 (0, 0))) := fun w' hf => hf.other wr.heap.size (by omega) (by omega) _ _ _ hbk6 (by decide)
          rw [← hW6]
          clear hW6 hbk6 hb6 e0 e1
          generalize ((x + 1 : Nat) : Int) = NX at HCN HNS
          go_upto_region 16 with (go_at_call 66; go_must (refine HCN.out.mono ?_); rintro e w7 ⟨rfl, hw7, hf7⟩; have HW7 := (show Hid (Wr w7 (w.heap.size + 1) (L5 ++ wrt 0 (ps.take j) ++ sizeL (x - nx))) from hw7); have HF7 := (show Hid (Fr (w.heap.size + 1) W6 w7) from hf7); clear hw7 hf7)
          have y7 : w7.cell? ⟨wr.heap.size, 1, none⟩ = some (.string (ofL tx)) := by rw [cell_of_row w7 wr.heap.size 1 _ _ _ (HK7.out w7 HF7.out)]; rfl
          clear y0 HCN
          go_upto_region 17 with (go_at_call 63; go_must (refine (HXT.out _ HW7.out).mono ?_); rintro e w8 ⟨rfl, hw8, hf8⟩; have HW8 := (show Hid (Wr w8 (w.heap.size + 1) (L5 ++ wrt 0 (ps.take (j + 1)))) from hw8); have HF8 := (show Hid (Fr (w.heap.size + 1) W6 w8) from HF7.out.trans hf8); clear hw8 hf8)
          have HB8 : Hid (Below (w.heap.size + 1) W1 w8) := HB6.out.trans (HF8.out.below (by omega) (Nat.le_refl _))
          clear y7 HXT HK7
          go_wp2
          go_roundg (gk - 1)
          case measure => have := HJ.out; omega
          case rel =>
            have h1 := HJ.out
            exact ⟨j + 1, by omega, by rw [HNS.out], by go_num, HW8.out, HB8.out⟩
        · obtain rfl : j = ps.length := by omega
          rw [List.take_length] at HW
          obtain ⟨b, c, d0, hcv⟩ := HW.out.text (by rw [List.length_append]; have := HL50.out; omega)
          have HBW : Hid (Below w.heap.size w wr) := HB1.out.trans (hb.mono (Nat.le_succ _))
          have HLF : Hid (ofL (sbL h.data.toList n ids ps) = ofL (L5 ++ wrt 0 ps)) := by show _ = _; rw [HEQ.out]
          generalize ofL (L5 ++ wrt 0 ps) = S at hcv HLF
          generalize (L5 ++ wrt 0 ps).length = LN at d0 hcv
          clear hb hjg
          go_wp2
          go_ret
          exact ⟨by rw [HLF.out]; rfl, HBW.out⟩
end Go.Proofs.YtkmalggeieiepabDoor
set_option linter.unusedSimpArgs false
namespace Go.Proofs.YtkmalggeieiepabDoor
open Go.RowKit

theorem neq_d (a b : ByteArray) (ha : a.size = 32) (hb : b.size = 32) (w : World) : (binOp .neq 59 (aggD a) (aggD b)).run Tryd.prog w = .ok (.bool (!(a.data.toList == b.data.toList))) w := by
  have h : (Op.equalIn 10000 59 (.agg (bc a).toArray) (.agg (bc b).toArray)).run Tryd.prog w = .ok (a.data.toList == b.data.toList) w := run_equalIn_bytes (P := Tryd.prog) w 9998 59 5 32 Tryd.underlying59 Tryd.underlying5 sz8 a.data.toList b.data.toList ha hb
  show (binOp .neq 59 (.agg (bc a).toArray) (.agg (bc b).toArray)).run _ _ = _
  rw [run_neq_struct, h]
  rfl
theorem built_rp (cs : List Value) (h : cs.length = 32) : Tryd.prog.built 94 [(0, .agg cs.toArray)] = some (cs ++ [Value.slice none 0 0]).toArray := by
  match cs, h with
  | [a0, a1, a2, a3, a4, a5, a6, a7, a8, a9, a10, a11, a12, a13, a14, a15, a16, a17, a18, a19, a20, a21, a22, a23, a24, a25, a26, a27, a28, a29, a30, a31], _ => exact (show (_ : Option (Array Value)) = _ by kernel_rfl)
theorem built_rp0 : Tryd.prog.built 94 [] = some #[.int .u8 0, .int .u8 0, .int .u8 0, .int .u8 0, .int .u8 0, .int .u8 0, .int .u8 0, .int .u8 0, .int .u8 0, .int .u8 0, .int .u8 0, .int .u8 0, .int .u8 0, .int .u8 0, .int .u8 0, .int .u8 0, .int .u8 0, .int .u8 0, .int .u8 0, .int .u8 0, .int .u8 0, .int .u8 0, .int .u8 0, .int .u8 0, .int .u8 0, .int .u8 0, .int .u8 0, .int .u8 0, .int .u8 0, .int .u8 0, .int .u8 0, .int .u8 0, .slice none 0 0] := by kernel_rfl
theorem results_midt {P : Program} {fn : Func} {p t : Tmp} {ty : TypeId} (h : fn.results = #[.cell p ty, .tmp t]) (tmps : Array Value) (w : World) (g : Nat) (cs : List Value) (d : TypeDesc) (u : Value)
    (hp : tmps.getD p undef = .pointer (some ⟨g, 0, none⟩)) (ht : tmps.getD t undef = u) (hc : w.rangeAt g 0 cs) (hu : P.underlying ty = some d) (hd : d.isRow = true) (hi : (P.info? ty).map (·.size) = some cs.length) :
    (results fn tmps).run P w = .ok (.tuple #[.agg cs.toArray, u]) w := by
  have hp' : tmps[p]?.getD undef = .pointer (some ⟨g, 0, none⟩) := by simpa using hp
  have ht' : tmps[t]?.getD undef = u := by simpa using ht
  simp [results, h, hp', ht', asAddr, run_loadVar_mid w g 0 ty cs d hc hu hd hi]
def zR : List Value := (#[.int .u8 0, .int .u8 0, .int .u8 0, .int .u8 0, .int .u8 0, .int .u8 0, .int .u8 0, .int .u8 0, .int .u8 0, .int .u8 0, .int .u8 0, .int .u8 0, .int .u8 0, .int .u8 0, .int .u8 0, .int .u8 0, .int .u8 0, .int .u8 0, .int .u8 0, .int .u8 0, .int .u8 0, .int .u8 0, .int .u8 0, .int .u8 0, .int .u8 0, .int .u8 0, .int .u8 0, .int .u8 0, .int .u8 0, .int .u8 0, .int .u8 0, .int .u8 0, .slice none 0 0] : Array Value).toList
theorem zR_one : ∀ v ∈ zR, v.oneCell' = true := by
  intro v hv
  simp only [zR, List.mem_cons, List.not_mem_nil, or_false] at hv
  rcases hv with h | h | h | h | h | h | h | h | h | h | h | h | h | h | h | h | h | h | h | h | h | h | h | h | h | h | h | h | h | h | h | h | h <;> (subst h; rfl)
set_option maxRecDepth 10000 in
set_option maxHeartbeats 2000000 in
theorem answer_other (Kc : Nat → Int) (h nm : ByteArray) (T : List (List UInt8)) (q : List Nat) (a1 a2 : Option Addr) (c1 c2 : Nat) (SQ : Array Value) (HSQ : Hid (SQ = (bc nm ++ [Value.slice a2 q.length c2]).toArray)) (w : World) (hkt : KT Kc w) (hnm : nm.size = 32) (hh : h.size ≤ 1000) (hx : ¬ nm = dd Kc h) :
    Calls Tryd.prog 39 #[.agg #[.string h, .slice a1 T.length c1], .agg SQ] w fun x w' => x = .returned (.tuple #[.agg zR.toArray, .int .i64 6]) ∧ Below w.heap.size w w' := by
  obtain ⟨W1, hW1⟩ : ∃ W, W = ((w.alloc (.cells #[.string h, .slice a1 T.length c1] 76)).alloc (.cells SQ 88)).alloc (.cells #[.int .u8 0, .int .u8 0, .int .u8 0, .int .u8 0, .int .u8 0, .int .u8 0, .int .u8 0, .int .u8 0, .int .u8 0, .int .u8 0, .int .u8 0, .int .u8 0, .int .u8 0, .int .u8 0, .int .u8 0, .int .u8 0, .int .u8 0, .int .u8 0, .int .u8 0, .int .u8 0, .int .u8 0, .int .u8 0, .int .u8 0, .int .u8 0, .int .u8 0, .int .u8 0, .int .u8 0, .int .u8 0, .int .u8 0, .int .u8 0, .int .u8 0, .int .u8 0, .slice none 0 0] 94) := ⟨_, rfl⟩
  have HB1 : Hid (Below w.heap.size w W1) := by show Below _ _ _; rw [hW1]; exact (((Below.refl _ _).alloc (Nat.le_refl _) _).alloc (by simp) _).alloc (by simp; omega) _
  have hz1 : W1.heap.size = w.heap.size + 3 := by rw [hW1]; simp
  have c0 : W1.cell? ⟨w.heap.size, 0, none⟩ = some (.string h) := by rw [hW1]; simp [go_sem]
  have c1' : W1.cell? ⟨w.heap.size, 1, none⟩ = some (.slice a1 T.length c1) := by rw [hW1]; simp [go_sem]
  have hrq : W1.rangeAt (w.heap.size + 1) 0 (bc nm ++ [.slice a2 q.length c2]) := by
    have := range_new (w.alloc (.cells #[.string h, .slice a1 T.length c1] 76)) (bc nm ++ [.slice a2 q.length c2]) 88 SQ HSQ.out
    rw [hW1]; exact World.rangeAt_alloc (by simpa using this) _
  have htr : W1.there (w.heap.size + 2) 0 33 := by
    have := there_new ((w.alloc (.cells #[.string h, .slice a1 T.length c1] 76)).alloc (.cells SQ 88)) 94 (#[.int .u8 0, .int .u8 0, .int .u8 0, .int .u8 0, .int .u8 0, .int .u8 0, .int .u8 0, .int .u8 0, .int .u8 0, .int .u8 0, .int .u8 0, .int .u8 0, .int .u8 0, .int .u8 0, .int .u8 0, .int .u8 0, .int .u8 0, .int .u8 0, .int .u8 0, .int .u8 0, .int .u8 0, .int .u8 0, .int .u8 0, .int .u8 0, .int .u8 0, .int .u8 0, .int .u8 0, .int .u8 0, .int .u8 0, .int .u8 0, .int .u8 0, .int .u8 0, .slice none 0 0] : Array Value).toList
    rw [hW1]; simpa using this
  obtain ⟨hqa, hqb⟩ := range_app hrq
  rw [bc_length, hnm] at hqb
  have hq32 : W1.cell? ⟨w.heap.size + 1, 32, none⟩ = some (.slice a2 q.length c2) := hqb 0 _ rfl
  have HF : Hid (∀ W, Below (w.heap.size + 2) W1 W → W.cell? ⟨w.heap.size, 0, none⟩ = some (.string h) ∧ W.cell? ⟨w.heap.size, 1, none⟩ = some (.slice a1 T.length c1) ∧ W.rangeAt (w.heap.size + 1) 0 (bc nm) ∧ W.cell? ⟨w.heap.size + 1, 32, none⟩ = some (.slice a2 q.length c2)) := fun W hW =>
    ⟨by rw [hW.cell (p := ⟨w.heap.size, 0, none⟩) (by show w.heap.size < _; omega)]; exact c0, by rw [hW.cell (p := ⟨w.heap.size, 1, none⟩) (by show w.heap.size < _; omega)]; exact c1', range_later hqa hW (by omega), by rw [hW.cell (p := ⟨w.heap.size + 1, 32, none⟩) (by show w.heap.size + 1 < _; omega)]; exact hq32⟩
  have HTR : Hid (∀ W, Below W1.heap.size W1 W → W.there (w.heap.size + 2) 0 33) := fun W hW => there_block htr (hW.block _ (by omega))
  have hpos : 0 < w.heap.size := World.block_lt_of_cell? w _ (hkt 0 (by omega))
  have HNM : Hid (∀ W, Below W1.heap.size W1 W → Calls Tryd.prog 71 #[.string h] W fun e w' => e = .returned (aggD (dd Kc h)) ∧ Below W.heap.size W w') := fun W hW => hdName_any Kc h W (hkt.later (HB1.out.trans (hW.mono (by omega))) hpos) (by omega)
  have hb0 : ∀ W, (Instr.build 94 #[]).run Tryd.prog W = .ok (.agg #[.int .u8 0, .int .u8 0, .int .u8 0, .int .u8 0, .int .u8 0, .int .u8 0, .int .u8 0, .int .u8 0, .int .u8 0, .int .u8 0, .int .u8 0, .int .u8 0, .int .u8 0, .int .u8 0, .int .u8 0, .int .u8 0, .int .u8 0, .int .u8 0, .int .u8 0, .int .u8 0, .int .u8 0, .int .u8 0, .int .u8 0, .int .u8 0, .int .u8 0, .int .u8 0, .int .u8 0, .int .u8 0, .int .u8 0, .int .u8 0, .int .u8 0, .int .u8 0, .slice none 0 0]) W := fun W => run_build W _ _ _ built_rp0
  have hbl : (bc nm).length = 32 := by rw [bc_length, hnm]
  have hb1 : ∀ W, (Instr.build 94 #[(0, aggD nm)]).run Tryd.prog W = .ok (.agg (bc nm ++ [Value.slice none 0 0]).toArray) W := fun W => run_build W _ _ _ (built_rp (bc nm) hbl)
  have HB0 : Below W1.heap.size W1 W1.drew := ⟨rfl, rfl, rfl, Nat.le_refl _, fun _ _ => rfl⟩
  clear c0 c1' hrq htr hqa hqb hq32 hkt
  have hEQ : (!(nm.data.toList == (dd Kc h).data.toList)) = true := by
    have : (nm.data.toList == (dd Kc h).data.toList) = false := by
      rw [beq_eq_false_iff_ne]
      intro e; exact hx (by rw [← ofL_of nm, ← ofL_of (dd Kc h), e])
    rw [this]; rfl
  have heq : ∀ W : World, (binOp .neq 59 (.agg (bc nm).toArray) (.agg (bc (dd Kc h)).toArray)).run Tryd.prog W = .ok (.bool true) W := fun W => by have := neq_d nm (dd Kc h) hnm (dd_size Kc h) W; rw [hEQ] at this; exact this
  clear hEQ
  go_enter Tryd.func39, Tryd.ntmps39
  go_upto_region 1 with fail
  rw [← hW1]
  clear hW1
  refine q_frame (fun A HFR => ?_)
  have hsz : A.tmps.size = 44 := by rw [HFR.out]; rfl
  have h2 : A.eval (.tmp 2) = .pointer (some ⟨w.heap.size, 0, none⟩) := by rw [HFR.out]; rfl
  have h3 : A.eval (.tmp 3) = .pointer (some ⟨w.heap.size + 1, 0, none⟩) := by rw [HFR.out]; rfl
  refine wp_region_held_drew (S := fun W => W.cell? ⟨w.heap.size, 0, none⟩ = some (.string h) ∧ W.rangeAt (w.heap.size + 1) 0 (bc nm)) (by kernel_rfl) ⟨(HF.out _ (HB0.mono (by omega))).1, (HF.out _ (HB0.mono (by omega))).2.2.1⟩ (fun hS => ?_)
  refine wpAnyH_take (i := 0) (v := (.pointer (some ⟨w.heap.size + 1, 0, none⟩))) rfl (by kernel_rfl) (by kernel_rfl) (by kernel_rfl) (fun _ _ _ h => h) (Or.inl ⟨by rfl, fun W _ => q_run1 3 (.pointer (some ⟨w.heap.size + 1, 0, none⟩)) (by simp only [q_same, q_ne, q_sz, hsz, h2, h3, ne_eq, Nat.reduceEqDiff, not_false_eq_true, Nat.reduceLT]) (fun ρ hc hf e1 => by simp [go_sem, hc, hf, e1])⟩) hS ?_
  change wpAnyH _ _ _ _ _ _ _ (Act.put _ (some 9) _) _
  refine wpAnyH_take (i := 1) (v := aggD nm) rfl (by kernel_rfl) (by kernel_rfl) (by kernel_rfl) (fun _ _ _ h => h) (yieldsIf_load_mid (by rfl) 59 _ rfl (w.heap.size + 1) 0 (by simp only [q_same, q_ne, q_sz, hsz, h2, h3, ne_eq, Nat.reduceEqDiff, not_false_eq_true, Nat.reduceLT]) (bc nm) _ (fun W hW => hW.2) Tryd.underlying59 rfl (by rw [hbl]; kernel_rfl)) hS ?_
  change wpAnyH _ _ _ _ _ _ _ (Act.put _ (some 10) _) _
  refine wpAnyH_take (i := 2) (v := (.pointer (some ⟨w.heap.size, 0, none⟩))) rfl (by kernel_rfl) (by kernel_rfl) (by kernel_rfl) (fun _ _ _ h => h) (Or.inl ⟨by rfl, fun W _ => q_run1 2 (.pointer (some ⟨w.heap.size, 0, none⟩)) (by simp only [q_same, q_ne, q_sz, hsz, h2, h3, ne_eq, Nat.reduceEqDiff, not_false_eq_true, Nat.reduceLT]) (fun ρ hc hf e1 => by simp [go_sem, hc, hf, e1])⟩) hS ?_
  change wpAnyH _ _ _ _ _ _ _ (Act.put _ (some 11) _) _
  refine wpAnyH_take (i := 3) (v := (.string h)) rfl (by kernel_rfl) (by kernel_rfl) (by kernel_rfl) (fun _ _ _ h => h) (Or.inl ⟨by rfl, fun W hW => q_run1 11 (.pointer (some ⟨w.heap.size, 0, none⟩)) (by simp only [q_same, q_ne, q_sz, hsz, h2, h3, ne_eq, Nat.reduceEqDiff, not_false_eq_true, Nat.reduceLT]) (fun ρ hc hf e1 => by simp [go_sem, hc, hf, e1, hW.1])⟩) hS ?_
  change wpAnyH _ _ _ _ _ _ _ (Act.put _ (some 12) _) _
  refine qH_call 4 71 #[.string h] _ (by kernel_rfl) rfl rfl (q_run1 12 (.string h) (by simp only [q_same, q_ne, q_sz, hsz, h2, h3, ne_eq, Nat.reduceEqDiff, not_false_eq_true, Nat.reduceLT]) (fun ρ hc hf e1 => by simp [go_sem, hc, hf, e1])) (calls_val (HNM.out _ HB0)) ?_
  rintro _ w2 ⟨rfl, hb2⟩
  have HB2 : Below W1.heap.size W1 w2 := HB0.trans hb2
  have hS2 : w2.cell? ⟨w.heap.size, 0, none⟩ = some (.string h) ∧ w2.rangeAt (w.heap.size + 1) 0 (bc nm) := ⟨(HF.out _ (HB2.mono (by omega))).1, (HF.out _ (HB2.mono (by omega))).2.2.1⟩
  refine ⟨hS2, ?_⟩
  change wpAnyH _ _ _ _ _ _ _ (Act.put _ (some 13) _) _
  refine qH_one 5 (.bool true) w2 (by kernel_rfl) rfl rfl (q_run2 10 13 (.agg (bc nm).toArray) (.agg (bc (dd Kc h)).toArray) (by simp only [q_same, q_ne, q_sz, hsz, h2, h3, aggD, ne_eq, Nat.reduceEqDiff, not_false_eq_true, Nat.reduceLT]) (by simp only [q_same, q_ne, q_sz, hsz, h2, h3, aggD, ne_eq, Nat.reduceEqDiff, not_false_eq_true, Nat.reduceLT]) (fun ρ hc hf e1 e2 => by simp [go_sem, hc, e1, e2, heq])) hS2 ?_
  change wpAnyH _ _ _ _ _ _ _ (Act.put _ (some 14) _) _
  refine wpAnyH_done (by kernel_rfl) ?_ _
  have HB2' : Hid (Below W1.heap.size W1 w2) := HB2
  have hfr := HFR.out
  clear HFR hsz h2 h3 hS hS2 HB0 HB2 hb2 HNM heq
  subst hfr
  simp only [Act.put, List.setIfInBounds_toArray, List.set_cons_zero, List.set_cons_succ]
  have HT2 : Hid (w2.there (w.heap.size + 2) 0 33) := HTR.out _ HB2'.out
  go_wp2_with (refine wpList_store_list rfl 94 _ _ rfl (w.heap.size + 2) 0 zR rfl rfl ?_ (by kernel_rfl) zR_one ?_; exact HT2.out)
  refine bodyPost_ret (results_midt Tryd.results39 _ _ (w.heap.size + 2) zR _ _ rfl rfl (World.rangeAt_setCells_same _ _ _ _ HT2.out) Tryd.underlying94 rfl (by kernel_rfl)) rfl ⟨rfl, ?_⟩
  exact below_setCells (HB1.out.trans (HB2'.out.mono (by omega))) _ (by omega) _ _
end Go.Proofs.YtkmalggeieiepabDoor
set_option linter.unusedSimpArgs false
namespace Go.Proofs.YtkmalggeieiepabDoor
open Go.RowKit

/-- each place is one of the block. -/
def allB (T : List (List UInt8)) (q : List Nat) : Bool := q.all (fun i => decide (i < T.length))
theorem wpList_build1 {P : Program} {ops : Array Oper} {rest : List Oper} {op : Oper} {a : Act} {w : World} {Q : Exit → Act → World → Prop} (hgd : op.guard = none) (ty : TypeId) (k : Nat) (ho : op.op = .build ty #[(0, .tmp k)]) (u : Value) (hu : a.eval (.tmp k) = u)
    (cells : Array Value) (hb : ∀ W, (Instr.build ty #[(0, u)]).run P W = .ok (.agg cells) W) (h : wpList P ops Q rest (a.put op.dst (.agg cells)) w) : wpList P ops Q (op :: rest) a w :=
  wpList_plain hgd fun K hK => by
    unfold Oper.wp execOp
    simp only [ho, List.map_toArray, List.map_cons, List.map_nil, hu, Sem.run_bind, hb, Result.andThen_ok]
    exact hK _ _ h

set_option maxRecDepth 10000 in
set_option maxHeartbeats 2000000 in
theorem answer_same (Kc : Nat → Int) (h nm : ByteArray) (T : List (List UInt8)) (q : List Nat) (a1 a2 : Option Addr) (c1 c2 : Nat) (SQ : Array Value) (HSQ : Hid (SQ = (bc nm ++ [Value.slice a2 q.length c2]).toArray)) (w : World) (hkt : KT Kc w) (hnm : nm.size = 32) (hh : h.size ≤ 1000) (hx : nm = dd Kc h) (hr1 : 0 < T.length → ∃ b o, a1 = some ⟨b, o, none⟩ ∧ SRow w b o (T.map ofL)) (hr2 : 0 < q.length → ∃ b o, a2 = some ⟨b, o, none⟩ ∧ VRow w b o (natV q)) (hq16 : q.length ≤ 16) :
    Calls Tryd.prog 39 #[.agg #[.string h, .slice a1 T.length c1], .agg SQ] w fun x w' => (allB T q = true ∧ ∃ v, x = .returned (.tuple #[.agg (bc nm ++ [v]).toArray, .int .i64 0]) ∧ w'.ownsRow w.heap.size 9 1 v q.length (strB (outL T q)) ∧ Below w.heap.size w w') ∨ (allB T q = false ∧ x = .returned (.tuple #[.agg zR.toArray, .int .i64 4]) ∧ Below w.heap.size w w') := by
  obtain ⟨W1, hW1⟩ : ∃ W, W = ((w.alloc (.cells #[.string h, .slice a1 T.length c1] 76)).alloc (.cells SQ 88)).alloc (.cells #[.int .u8 0, .int .u8 0, .int .u8 0, .int .u8 0, .int .u8 0, .int .u8 0, .int .u8 0, .int .u8 0, .int .u8 0, .int .u8 0, .int .u8 0, .int .u8 0, .int .u8 0, .int .u8 0, .int .u8 0, .int .u8 0, .int .u8 0, .int .u8 0, .int .u8 0, .int .u8 0, .int .u8 0, .int .u8 0, .int .u8 0, .int .u8 0, .int .u8 0, .int .u8 0, .int .u8 0, .int .u8 0, .int .u8 0, .int .u8 0, .int .u8 0, .int .u8 0, .slice none 0 0] 94) := ⟨_, rfl⟩
  have HB1 : Hid (Below w.heap.size w W1) := by show Below _ _ _; rw [hW1]; exact (((Below.refl _ _).alloc (Nat.le_refl _) _).alloc (by simp) _).alloc (by simp; omega) _
  have hz1 : W1.heap.size = w.heap.size + 3 := by rw [hW1]; simp
  have c0 : W1.cell? ⟨w.heap.size, 0, none⟩ = some (.string h) := by rw [hW1]; simp [go_sem]
  have c1' : W1.cell? ⟨w.heap.size, 1, none⟩ = some (.slice a1 T.length c1) := by rw [hW1]; simp [go_sem]
  have hrq : W1.rangeAt (w.heap.size + 1) 0 (bc nm ++ [.slice a2 q.length c2]) := by
    have := range_new (w.alloc (.cells #[.string h, .slice a1 T.length c1] 76)) (bc nm ++ [.slice a2 q.length c2]) 88 SQ HSQ.out
    rw [hW1]; exact World.rangeAt_alloc (by simpa using this) _
  have htr : W1.there (w.heap.size + 2) 0 33 := by
    have := there_new ((w.alloc (.cells #[.string h, .slice a1 T.length c1] 76)).alloc (.cells SQ 88)) 94 (#[.int .u8 0, .int .u8 0, .int .u8 0, .int .u8 0, .int .u8 0, .int .u8 0, .int .u8 0, .int .u8 0, .int .u8 0, .int .u8 0, .int .u8 0, .int .u8 0, .int .u8 0, .int .u8 0, .int .u8 0, .int .u8 0, .int .u8 0, .int .u8 0, .int .u8 0, .int .u8 0, .int .u8 0, .int .u8 0, .int .u8 0, .int .u8 0, .int .u8 0, .int .u8 0, .int .u8 0, .int .u8 0, .int .u8 0, .int .u8 0, .int .u8 0, .int .u8 0, .slice none 0 0] : Array Value).toList
    rw [hW1]; simpa using this
  obtain ⟨hqa, hqb⟩ := range_app hrq
  rw [bc_length, hnm] at hqb
  have hq32 : W1.cell? ⟨w.heap.size + 1, 32, none⟩ = some (.slice a2 q.length c2) := hqb 0 _ rfl
  have HF : Hid (∀ W, Below (w.heap.size + 2) W1 W → W.cell? ⟨w.heap.size, 0, none⟩ = some (.string h) ∧ W.cell? ⟨w.heap.size, 1, none⟩ = some (.slice a1 T.length c1) ∧ W.rangeAt (w.heap.size + 1) 0 (bc nm) ∧ W.cell? ⟨w.heap.size + 1, 32, none⟩ = some (.slice a2 q.length c2)) := fun W hW =>
    ⟨by rw [hW.cell (p := ⟨w.heap.size, 0, none⟩) (by show w.heap.size < _; omega)]; exact c0, by rw [hW.cell (p := ⟨w.heap.size, 1, none⟩) (by show w.heap.size < _; omega)]; exact c1', range_later hqa hW (by omega), by rw [hW.cell (p := ⟨w.heap.size + 1, 32, none⟩) (by show w.heap.size + 1 < _; omega)]; exact hq32⟩
  have HTR : Hid (∀ W, Below W1.heap.size W1 W → W.there (w.heap.size + 2) 0 33) := fun W hW => there_block htr (hW.block _ (by omega))
  have hpos : 0 < w.heap.size := World.block_lt_of_cell? w _ (hkt 0 (by omega))
  have HNM : Hid (∀ W, Below W1.heap.size W1 W → Calls Tryd.prog 71 #[.string h] W fun e w' => e = .returned (aggD (dd Kc h)) ∧ Below W.heap.size W w') := fun W hW => hdName_any Kc h W (hkt.later (HB1.out.trans (hW.mono (by omega))) hpos) (by omega)
  have hb0 : ∀ W, (Instr.build 94 #[]).run Tryd.prog W = .ok (.agg #[.int .u8 0, .int .u8 0, .int .u8 0, .int .u8 0, .int .u8 0, .int .u8 0, .int .u8 0, .int .u8 0, .int .u8 0, .int .u8 0, .int .u8 0, .int .u8 0, .int .u8 0, .int .u8 0, .int .u8 0, .int .u8 0, .int .u8 0, .int .u8 0, .int .u8 0, .int .u8 0, .int .u8 0, .int .u8 0, .int .u8 0, .int .u8 0, .int .u8 0, .int .u8 0, .int .u8 0, .int .u8 0, .int .u8 0, .int .u8 0, .int .u8 0, .int .u8 0, .slice none 0 0]) W := fun W => run_build W _ _ _ built_rp0
  have hbl : (bc nm).length = 32 := by rw [bc_length, hnm]
  have hb1 : ∀ W, (Instr.build 94 #[(0, .agg (bc nm).toArray)]).run Tryd.prog W = .ok (.agg (bc nm ++ [Value.slice none 0 0]).toArray) W := fun W => run_build W _ _ _ (built_rp (bc nm) hbl)
  have HB0 : Below W1.heap.size W1 W1.drew := ⟨rfl, rfl, rfl, Nat.le_refl _, fun _ _ => rfl⟩
  clear c0 c1' hrq htr hqa hqb hq32 hkt
  obtain ⟨i0, hi, hz0, hzz1, hzz2⟩ := info_parts infoStr
  have hEQ : (!(nm.data.toList == (dd Kc h).data.toList)) = false := by rw [← hx]; simp
  have heq : ∀ W : World, (binOp .neq 59 (.agg (bc nm).toArray) (.agg (bc (dd Kc h)).toArray)).run Tryd.prog W = .ok (.bool false) W := fun W => by have := neq_d nm (dd Kc h) hnm (dd_size Kc h) W; rw [hEQ] at this; exact this
  have HR1 : Hid (0 < T.length → ∃ b o, a1 = some ⟨b, o, none⟩ ∧ SRow w b o (T.map ofL)) := hr1
  have HR2 : Hid (0 < q.length → ∃ b o, a2 = some ⟨b, o, none⟩ ∧ VRow w b o (natV q)) := hr2
  clear hEQ hr1 hr2 hx
  go_enter Tryd.func39, Tryd.ntmps39
  go_upto_region 1 with fail
  rw [← hW1]
  clear hW1
  refine q_frame (fun A HFR => ?_)
  have hsz : A.tmps.size = 44 := by rw [HFR.out]; rfl
  have h2 : A.eval (.tmp 2) = .pointer (some ⟨w.heap.size, 0, none⟩) := by rw [HFR.out]; rfl
  have h3 : A.eval (.tmp 3) = .pointer (some ⟨w.heap.size + 1, 0, none⟩) := by rw [HFR.out]; rfl
  refine wp_region_held_drew (S := fun W => W.cell? ⟨w.heap.size, 0, none⟩ = some (.string h) ∧ W.rangeAt (w.heap.size + 1) 0 (bc nm)) (by kernel_rfl) ⟨(HF.out _ (HB0.mono (by omega))).1, (HF.out _ (HB0.mono (by omega))).2.2.1⟩ (fun hS => ?_)
  refine wpAnyH_take (i := 0) (v := (.pointer (some ⟨w.heap.size + 1, 0, none⟩))) rfl (by kernel_rfl) (by kernel_rfl) (by kernel_rfl) (fun _ _ _ h => h) (Or.inl ⟨by rfl, fun W _ => q_run1 3 (.pointer (some ⟨w.heap.size + 1, 0, none⟩)) (by simp only [q_same, q_ne, q_sz, hsz, h2, h3, ne_eq, Nat.reduceEqDiff, not_false_eq_true, Nat.reduceLT]) (fun ρ hc hf e1 => by simp [go_sem, hc, hf, e1])⟩) hS ?_
  change wpAnyH _ _ _ _ _ _ _ (Act.put _ (some 9) _) _
  refine wpAnyH_take (i := 1) (v := aggD nm) rfl (by kernel_rfl) (by kernel_rfl) (by kernel_rfl) (fun _ _ _ h => h) (yieldsIf_load_mid (by rfl) 59 _ rfl (w.heap.size + 1) 0 (by simp only [q_same, q_ne, q_sz, hsz, h2, h3, ne_eq, Nat.reduceEqDiff, not_false_eq_true, Nat.reduceLT]) (bc nm) _ (fun W hW => hW.2) Tryd.underlying59 rfl (by rw [hbl]; kernel_rfl)) hS ?_
  change wpAnyH _ _ _ _ _ _ _ (Act.put _ (some 10) _) _
  refine wpAnyH_take (i := 2) (v := (.pointer (some ⟨w.heap.size, 0, none⟩))) rfl (by kernel_rfl) (by kernel_rfl) (by kernel_rfl) (fun _ _ _ h => h) (Or.inl ⟨by rfl, fun W _ => q_run1 2 (.pointer (some ⟨w.heap.size, 0, none⟩)) (by simp only [q_same, q_ne, q_sz, hsz, h2, h3, ne_eq, Nat.reduceEqDiff, not_false_eq_true, Nat.reduceLT]) (fun ρ hc hf e1 => by simp [go_sem, hc, hf, e1])⟩) hS ?_
  change wpAnyH _ _ _ _ _ _ _ (Act.put _ (some 11) _) _
  refine wpAnyH_take (i := 3) (v := (.string h)) rfl (by kernel_rfl) (by kernel_rfl) (by kernel_rfl) (fun _ _ _ h => h) (Or.inl ⟨by rfl, fun W hW => q_run1 11 (.pointer (some ⟨w.heap.size, 0, none⟩)) (by simp only [q_same, q_ne, q_sz, hsz, h2, h3, ne_eq, Nat.reduceEqDiff, not_false_eq_true, Nat.reduceLT]) (fun ρ hc hf e1 => by simp [go_sem, hc, hf, e1, hW.1])⟩) hS ?_
  change wpAnyH _ _ _ _ _ _ _ (Act.put _ (some 12) _) _
  refine qH_call 4 71 #[.string h] _ (by kernel_rfl) rfl rfl (q_run1 12 (.string h) (by simp only [q_same, q_ne, q_sz, hsz, h2, h3, ne_eq, Nat.reduceEqDiff, not_false_eq_true, Nat.reduceLT]) (fun ρ hc hf e1 => by simp [go_sem, hc, hf, e1])) (calls_val (HNM.out _ HB0)) ?_
  rintro _ w2 ⟨rfl, hb2⟩
  have HB2 : Below W1.heap.size W1 w2 := HB0.trans hb2
  have hS2 : w2.cell? ⟨w.heap.size, 0, none⟩ = some (.string h) ∧ w2.rangeAt (w.heap.size + 1) 0 (bc nm) := ⟨(HF.out _ (HB2.mono (by omega))).1, (HF.out _ (HB2.mono (by omega))).2.2.1⟩
  refine ⟨hS2, ?_⟩
  change wpAnyH _ _ _ _ _ _ _ (Act.put _ (some 13) _) _
  refine qH_one 5 (.bool false) w2 (by kernel_rfl) rfl rfl (q_run2 10 13 (.agg (bc nm).toArray) (.agg (bc (dd Kc h)).toArray) (by simp only [q_same, q_ne, q_sz, hsz, h2, h3, aggD, ne_eq, Nat.reduceEqDiff, not_false_eq_true, Nat.reduceLT]) (by simp only [q_same, q_ne, q_sz, hsz, h2, h3, aggD, ne_eq, Nat.reduceEqDiff, not_false_eq_true, Nat.reduceLT]) (fun ρ hc hf e1 e2 => by simp [go_sem, hc, e1, e2, heq])) hS2 ?_
  change wpAnyH _ _ _ _ _ _ _ (Act.put _ (some 14) _) _
  refine wpAnyH_done (by kernel_rfl) ?_ _
  have HB2' : Hid (Below W1.heap.size W1 w2) := HB2
  have hfr := HFR.out
  clear HFR hsz h2 h3 hS hS2 HB0 HB2 hb2 HNM heq
  subst hfr
  simp only [Act.put, List.setIfInBounds_toArray, List.set_cons_zero, List.set_cons_succ]
  have hs2 := HB2'.out.size
  have HRQ : Hid (w2.rangeAt (w.heap.size + 1) 0 (bc nm)) := (HF.out _ (HB2'.out.mono (by omega))).2.2.1
  have HL33 : Hid ((bc nm ++ [Value.slice none 0 0]).length = 33) := by show _ = _; rw [List.length_append, hbl]; rfl
  have HB1B : Hid (∀ W, (Instr.build 94 #[(0, .agg (bc nm).toArray)]).run Tryd.prog W = .ok (.agg (bc nm ++ [Value.slice none 0 0]).toArray) W) := hb1
  clear hb1
  go_upto_region 4 with (first
    | (refine wpList_build1 rfl 94 17 rfl (.agg (bc nm).toArray) rfl _ HB1B.out ?_)
    | (refine wpList_load_mid rfl 59 _ rfl (w.heap.size + 1) 0 rfl (bc nm) _ ?_ Tryd.underlying59 rfl ?_ ?_; exact HRQ.out; rw [hbl]; kernel_rfl)
    | (refine wpList_store_list rfl 94 _ _ rfl w2.heap.size 0 (bc nm ++ [Value.slice none 0 0]) rfl rfl ?_ ?_ (bc_slice_one nm none 0 0) ?_; rw [HL33.out]; exact there_new w2 94 (#[.int .u8 0, .int .u8 0, .int .u8 0, .int .u8 0, .int .u8 0, .int .u8 0, .int .u8 0, .int .u8 0, .int .u8 0, .int .u8 0, .int .u8 0, .int .u8 0, .int .u8 0, .int .u8 0, .int .u8 0, .int .u8 0, .int .u8 0, .int .u8 0, .int .u8 0, .int .u8 0, .int .u8 0, .int .u8 0, .int .u8 0, .int .u8 0, .int .u8 0, .int .u8 0, .int .u8 0, .int .u8 0, .int .u8 0, .int .u8 0, .int .u8 0, .int .u8 0, .slice none 0 0] : Array Value).toList; rw [HL33.out]; kernel_rfl))
  obtain ⟨W4, hW4⟩ : ∃ W, W = (w2.alloc (.cells #[.int .u8 0, .int .u8 0, .int .u8 0, .int .u8 0, .int .u8 0, .int .u8 0, .int .u8 0, .int .u8 0, .int .u8 0, .int .u8 0, .int .u8 0, .int .u8 0, .int .u8 0, .int .u8 0, .int .u8 0, .int .u8 0, .int .u8 0, .int .u8 0, .int .u8 0, .int .u8 0, .int .u8 0, .int .u8 0, .int .u8 0, .int .u8 0, .int .u8 0, .int .u8 0, .int .u8 0, .int .u8 0, .int .u8 0, .int .u8 0, .int .u8 0, .int .u8 0, .slice none 0 0] 94)).setCells w2.heap.size 0 (bc nm ++ [Value.slice none 0 0]) := ⟨_, rfl⟩
  have ht4 : (w2.alloc (.cells #[.int .u8 0, .int .u8 0, .int .u8 0, .int .u8 0, .int .u8 0, .int .u8 0, .int .u8 0, .int .u8 0, .int .u8 0, .int .u8 0, .int .u8 0, .int .u8 0, .int .u8 0, .int .u8 0, .int .u8 0, .int .u8 0, .int .u8 0, .int .u8 0, .int .u8 0, .int .u8 0, .int .u8 0, .int .u8 0, .int .u8 0, .int .u8 0, .int .u8 0, .int .u8 0, .int .u8 0, .int .u8 0, .int .u8 0, .int .u8 0, .int .u8 0, .int .u8 0, .slice none 0 0] 94)).there w2.heap.size 0 33 := there_new w2 94 (#[.int .u8 0, .int .u8 0, .int .u8 0, .int .u8 0, .int .u8 0, .int .u8 0, .int .u8 0, .int .u8 0, .int .u8 0, .int .u8 0, .int .u8 0, .int .u8 0, .int .u8 0, .int .u8 0, .int .u8 0, .int .u8 0, .int .u8 0, .int .u8 0, .int .u8 0, .int .u8 0, .int .u8 0, .int .u8 0, .int .u8 0, .int .u8 0, .int .u8 0, .int .u8 0, .int .u8 0, .int .u8 0, .int .u8 0, .int .u8 0, .int .u8 0, .int .u8 0, .slice none 0 0] : Array Value).toList
  have hr4 : W4.rangeAt w2.heap.size 0 (bc nm ++ [Value.slice none 0 0]) := by rw [hW4]; exact World.rangeAt_setCells_same _ _ _ _ (by rw [HL33.out]; exact ht4)
  have ht4' : W4.there w2.heap.size 0 33 := by rw [hW4]; exact World.there_setCells ht4 _ _ _
  have hb4 : Below w2.heap.size w2 W4 := by rw [hW4]; exact below_setCells ((Below.refl _ _).alloc (Nat.le_refl _) _) _ (Nat.le_refl _) _ _
  obtain ⟨hra, hrb⟩ := range_app hr4
  rw [hbl] at hrb
  have HCA : Hid (W4.rangeAt w2.heap.size 0 (bc nm)) := hra
  have HCB : Hid (W4.cell? ⟨w2.heap.size, 32, none⟩ = some (.slice none 0 0)) := hrb 0 _ rfl
  have HCF : Hid (W4.frozen? ⟨w2.heap.size, 32, none⟩ = false) := by have := (ht4' 32 (by omega)).2; rw [Nat.zero_add] at this; exact this
  have HB4 : Hid (Below W1.heap.size W1 W4) := HB2'.out.trans (hb4.mono hs2)
  rw [← hW4]
  clear hW4 ht4 ht4' hr4 hb4 hra hrb HRQ
  have hq32 := (HF.out W4 (HB4.out.mono (by omega))).2.2.2
  have hz4 := HB4.out.size
  have HZ2 : Hid (W1.heap.size ≤ w2.heap.size) := hs2
  go_upto_region 5 with fail
  clear hq32
  go_loopg [22] q.length (fun g i wx => ∃ j : Nat, ∃ v : Value, j + g = q.length ∧ i = .int .i64 (j : Int) ∧ (∀ (k : Nat) (hk : k < q.length), k < j → q[k] < T.length) ∧ wx.cell? ⟨w2.heap.size, 32, none⟩ = some v ∧ wx.frozen? ⟨w2.heap.size, 32, none⟩ = false ∧ wx.rangeAt w2.heap.size 0 (bc nm) ∧ wx.ownsRow (w2.heap.size + 1) 9 1 v j (strB (outL T (q.take j))) ∧ Below w2.heap.size W4 wx)
  case atStart => exact ⟨0, .slice none 0 0, by omega, rfl, fun _ _ h => by omega, HCB.out, HCF.out, HCA.out, World.ownsRow_nil _ _ _ _, Below.refl _ _⟩
  case round =>
    clear HCB HCF HCA
    obtain ⟨j, v, hjg, rfl, hall, hcv, hfv, hrn, hown, hb⟩ := hrel
    have HALL : Hid (∀ (k : Nat) (hk : k < q.length), k < j → q[k] < T.length) := hall
    have HO : Hid (wr.ownsRow (w2.heap.size + 1) 9 1 v j (strB (outL T (q.take j)))) := hown
    have HBB : Hid (Below w2.heap.size W4 wr) := hb
    have HB14 : Hid (Below W1.heap.size W1 wr) := HB4.out.trans (hb.mono HZ2.out)
    have HJ : Hid (j + gk = q.length) := hjg
    have HRN : Hid (wr.rangeAt w2.heap.size 0 (bc nm)) := hrn
    have hkw : w2.heap.size < wr.heap.size := World.block_lt_of_cell? wr _ hcv
    obtain ⟨va, vn, vc, rfl⟩ := own_slice hown
    have HCV : Hid (wr.cell? ⟨w2.heap.size, 32, none⟩ = some (.slice va vn vc)) := hcv
    have HFV : Hid (wr.frozen? ⟨w2.heap.size, 32, none⟩ = false) := hfv
    clear hall hown hb hrn hcv hfv
    obtain ⟨_, hp1, _, _⟩ := HF.out wr (HB14.out.mono (by omega))
    have HTW : Hid (wr.there (w.heap.size + 2) 0 33) := HTR.out _ HB14.out
    have HWW : Hid (Below w.heap.size w wr) := HB1.out.trans (HB14.out.mono (by omega))
    by_cases hlt : j < q.length
    · obtain ⟨b2, o2, rfl, hrow2⟩ := HR2.out (by omega)
      have hb2w := hrow2.lt (by simp [natV]; omega)
      have cj : wr.cell? ⟨b2, o2 + j, none⟩ = some (.int .i64 (q[j] : Int)) := by
        have := (hrow2.later HWW.out hb2w) j (by simp [natV]; omega)
        rw [this]; simp [natV]
      have hji : (j : Int) < (q.length : Int) := by omega
      have HSN := (show Hid (outL T (q.take (j + 1)) = outL T (q.take j) ++ [T.getD q[j] []]) from outL_snoc T q j hlt)
      have HSTEP := (show Hid (q[j] < T.length → ∀ (k : Nat) (hk : k < q.length), k < j + 1 → q[k] < T.length) from fun h k hk hk2 => by
        rcases Nat.lt_or_ge k j with h3 | h3
        · exact HALL.out k hk h3
        · obtain rfl : k = j := by omega
          exact h)
      have HBAD := (show Hid (T.length ≤ q[j] → ¬ q.all (fun i => decide (i < T.length)) = true) from all_not q T.length j hlt)
      generalize q[j] = x at cj HSN HSTEP HBAD
      clear hrow2
      by_cases hx : x < T.length
      · obtain ⟨b1, o1, rfl, hrow1⟩ := HR1.out (by omega)
        have hb1w := hrow1.lt (by simp; omega)
        have cx : ∀ W, Below w.heap.size w W → W.cell? ⟨b1, o1 + x, none⟩ = some (.string (ofL (T.getD x []))) := fun W hW => by
          have := (hrow1.later hW hb1w) x (by simp; omega)
          rw [this]; simp [List.getD, hx]
        have HCX : Hid (∀ W, Below w.heap.size w W → W.cell? ⟨b1, o1 + x, none⟩ = some (.string (ofL (T.getD x [])))) := cx
        have hxi : (x : Int) < (T.length : Int) := by omega
        have hxn : ¬ ((T.length : Int) ≤ (x : Int)) := by omega
        generalize T.getD x [] = tx at HCX HSN
        clear cx hrow1 HBAD HALL
        go_upto_region 9 with fail
        clear hp1 cj
        have HB0 : Below wr.heap.size wr wr.drew := ⟨rfl, rfl, rfl, Nat.le_refl _, fun _ _ => rfl⟩
        refine q_frame (fun A HFR => ?_)
        have hsz : A.tmps.size = 44 := by rw [HFR.out]; rfl
        have h2 : A.eval (.tmp 2) = .pointer (some ⟨w.heap.size, 0, none⟩) := by rw [HFR.out]; rfl
        have h6 : A.eval (.tmp 6) = .pointer (some ⟨w2.heap.size, 0, none⟩) := by rw [HFR.out]; rfl
        have h8 : A.eval (.tmp 8) = .int .i64 (x : Int) := by rw [HFR.out]; rfl
        have HS0 : ∀ W, Below w2.heap.size W4 W → W.cell? ⟨w2.heap.size, 32, none⟩ = some (.slice va vn vc) → (W.cell? ⟨w2.heap.size, 32, none⟩ = some (.slice va vn vc) ∧ W.cell? ⟨w.heap.size, 1, none⟩ = some (.slice (some ⟨b1, o1, none⟩) T.length c1) ∧ W.cell? ⟨b1, o1 + x, none⟩ = some (.string (ofL tx))) := fun W hW hc => by
          have hW1 : Below W1.heap.size W1 W := HB4.out.trans (hW.mono HZ2.out)
          exact ⟨hc, (HF.out W (hW1.mono (by omega))).2.1, HCX.out W (HB1.out.trans (hW1.mono (by omega)))⟩
        refine wp_region_T (k := 10) (S := fun W => W.cell? ⟨w2.heap.size, 32, none⟩ = some (.slice va vn vc) ∧ W.cell? ⟨w.heap.size, 1, none⟩ = some (.slice (some ⟨b1, o1, none⟩) T.length c1) ∧ W.cell? ⟨b1, o1 + x, none⟩ = some (.string (ofL tx))) (by kernel_rfl) (HS0 _ (HBB.out.trans (HB0.mono (Nat.le_of_lt hkw))) HCV.out) (fun hS => ?_)
        have kix : wr.heap.size = wr.heap.size := rfl
        refine wpAnyT_take (i := 0) (v := (.pointer (some ⟨w2.heap.size, 32, none⟩))) rfl (by kernel_rfl) (by kernel_rfl) (by kernel_rfl) (by kernel_rfl) (fun _ _ _ h => h) (Or.inl ⟨by rfl, fun W _ => q_run1 6 (.pointer (some ⟨w2.heap.size, 0, none⟩)) (by simp only [q_same, q_ne, q_sz, hsz, h2, h6, h8, ne_eq, Nat.reduceEqDiff, not_false_eq_true, Nat.reduceLT]) (fun ρ hc hf e1 => by simp [go_sem, hc, hf, e1])⟩) hS ?_
        change wpAnyT _ _ _ _ _ _ _ _ (Act.put _ (some 32) _) _
        refine wpAnyT_take (i := 1) (v := (.slice va vn vc)) rfl (by kernel_rfl) (by kernel_rfl) (by kernel_rfl) (by kernel_rfl) (fun _ _ _ h => h) (Or.inl ⟨by rfl, fun W hW => q_run1 32 (.pointer (some ⟨w2.heap.size, 32, none⟩)) (by simp only [q_same, q_ne, q_sz, hsz, h2, h6, h8, ne_eq, Nat.reduceEqDiff, not_false_eq_true, Nat.reduceLT]) (fun ρ hc hf e1 => by simp [go_sem, hc, hf, e1, hW.1])⟩) hS ?_
        change wpAnyT _ _ _ _ _ _ _ _ (Act.put _ (some 33) _) _
        refine wpAnyT_take (i := 2) (v := (.pointer (some ⟨w.heap.size, 1, none⟩))) rfl (by kernel_rfl) (by kernel_rfl) (by kernel_rfl) (by kernel_rfl) (fun _ _ _ h => h) (Or.inl ⟨by rfl, fun W _ => q_run1 2 (.pointer (some ⟨w.heap.size, 0, none⟩)) (by simp only [q_same, q_ne, q_sz, hsz, h2, h6, h8, ne_eq, Nat.reduceEqDiff, not_false_eq_true, Nat.reduceLT]) (fun ρ hc hf e1 => by simp [go_sem, hc, hf, e1])⟩) hS ?_
        change wpAnyT _ _ _ _ _ _ _ _ (Act.put _ (some 34) _) _
        refine wpAnyT_take (i := 3) (v := (.slice (some ⟨b1, o1, none⟩) T.length c1)) rfl (by kernel_rfl) (by kernel_rfl) (by kernel_rfl) (by kernel_rfl) (fun _ _ _ h => h) (Or.inl ⟨by rfl, fun W hW => q_run1 34 (.pointer (some ⟨w.heap.size, 1, none⟩)) (by simp only [q_same, q_ne, q_sz, hsz, h2, h6, h8, ne_eq, Nat.reduceEqDiff, not_false_eq_true, Nat.reduceLT]) (fun ρ hc hf e1 => by simp [go_sem, hc, hf, e1, hW.2.1])⟩) hS ?_
        change wpAnyT _ _ _ _ _ _ _ _ (Act.put _ (some 35) _) _
        refine wpAnyT_take (i := 4) (v := (.int .i64 (x : Int))) rfl (by kernel_rfl) (by kernel_rfl) (by kernel_rfl) (by kernel_rfl) (fun _ _ _ h => h) (Or.inl ⟨by rfl, fun W _ => q_run1 8 (.int .i64 (x : Int)) (by simp only [q_same, q_ne, q_sz, hsz, h2, h6, h8, ne_eq, Nat.reduceEqDiff, not_false_eq_true, Nat.reduceLT]) (fun ρ hc hf e1 => by simp [go_sem, hc, hf, e1])⟩) hS ?_
        change wpAnyT _ _ _ _ _ _ _ _ (Act.put _ (some 36) _) _
        refine wpAnyT_take (i := 5) (v := (.pointer (some ⟨b1, o1 + x, none⟩))) rfl (by kernel_rfl) (by kernel_rfl) (by kernel_rfl) (by kernel_rfl) (fun _ _ _ h => h) (Or.inl ⟨by rfl, fun W _ => q_run2 35 36 (.slice (some ⟨b1, o1, none⟩) T.length c1) (.int .i64 (x : Int)) (by simp only [q_same, q_ne, q_sz, hsz, h2, h6, h8, ne_eq, Nat.reduceEqDiff, not_false_eq_true, Nat.reduceLT]) (by simp only [q_same, q_ne, q_sz, hsz, h2, h6, h8, ne_eq, Nat.reduceEqDiff, not_false_eq_true, Nat.reduceLT]) (fun ρ hc hf e1 e2 => by simp [go_sem, hc, hf, e1, e2, hxi])⟩) hS ?_
        change wpAnyT _ _ _ _ _ _ _ _ (Act.put _ (some 37) _) _
        refine wpAnyT_take (i := 6) (v := (.string (ofL tx))) rfl (by kernel_rfl) (by kernel_rfl) (by kernel_rfl) (by kernel_rfl) (fun _ _ _ h => h) (Or.inl ⟨by rfl, fun W hW => q_run1 37 (.pointer (some ⟨b1, o1 + x, none⟩)) (by simp only [q_same, q_ne, q_sz, hsz, h2, h6, h8, ne_eq, Nat.reduceEqDiff, not_false_eq_true, Nat.reduceLT]) (fun ρ hc hf e1 => by simp [go_sem, hc, hf, e1, hW.2.2])⟩) hS ?_
        change wpAnyT _ _ _ _ _ _ _ _ (Act.put _ (some 38) _) _
        have HBA : Below wr.heap.size wr (wr.drew.alloc (.cells #[.string (ofL tx)] 9)) := HB0.alloc (Nat.le_refl _) _
        have hSA := HS0 _ (HBB.out.trans (HBA.mono (Nat.le_of_lt hkw))) (by rw [HBA.cell (p := ⟨w2.heap.size, 32, none⟩) hkw]; exact HCV.out)
        refine qT_one 7 (.slice (some ⟨wr.heap.size, 0, none⟩) 1 1) (wr.drew.alloc (.cells #[.string (ofL tx)] 9)) (by kernel_rfl) rfl rfl (q_run1 38 (.string (ofL tx)) (by simp only [q_same, q_ne, q_sz, hsz, h2, h6, h8, ne_eq, Nat.reduceEqDiff, not_false_eq_true, Nat.reduceLT]) (fun ρ hc hf e1 => by simp [go_sem, hc, hf, e1])) (fun _ => hSA) ?_
        change wpAnyT _ _ _ _ _ _ _ _ (Act.put _ (some 39) _) _
        refine qT_step 8 (by kernel_rfl) rfl (fun K hK => ?_)
        refine step_append_lies _ rfl (.tmp 33) (.tmp 39) 30 rfl (w2.heap.size + 1) 9 i0 (.string ByteArray.empty) 1 16 Tryd.underlying30 hi hz0 hzz1 hzz2 rfl (by decide) (.slice va vn vc) j (strB (outL T (q.take j))) (by simp only [q_same, q_ne, q_sz, hsz, h2, h6, h8, ne_eq, Nat.reduceEqDiff, not_false_eq_true, Nat.reduceLT]) (World.ownsRow.alloc (w := wr.drew) HO.out _) ⟨wr.heap.size, 0, none⟩ 1 1 [.string (ofL tx)] (by simp only [q_same, q_ne, q_sz, hsz, h2, h6, h8, ne_eq, Nat.reduceEqDiff, not_false_eq_true, Nat.reduceLT]) rfl (one_new wr.drew _ _) (one_str _) (by omega) (by unfold maxLen; omega) (by omega) (by simp; omega) _ rfl ?_
        intro g6 c6 w6 ho6 hgr6 _ _
        have HB6 : Below (w2.heap.size + 1) wr w6 := (HBA.mono (by omega)).grown hgr6 (by simp; omega) (ownBlock_ge HO.out)
        have hc6 : w6.cell? ⟨w2.heap.size, 32, none⟩ = some (.slice va vn vc) := by rw [HB6.cell (p := ⟨w2.heap.size, 32, none⟩) (Nat.lt_succ_self _)]; exact HCV.out
        have hf6 : w6.frozen? ⟨w2.heap.size, 32, none⟩ = false := by rw [HB6.frozen (p := ⟨w2.heap.size, 32, none⟩) (Nat.lt_succ_self _)]; exact HFV.out
        have hS6 := HS0 w6 (HBB.out.trans (HB6.mono (Nat.le_succ _))) hc6
        refine hK.out _ _ (fun _ => hS6) ?_
        change wpAnyT _ _ _ _ _ _ _ _ (Act.put _ (some 40) _) _
        refine qT_one 9 (.pointer (some ⟨w2.heap.size, 32, none⟩)) w6 (by kernel_rfl) rfl rfl (q_run1 6 (.pointer (some ⟨w2.heap.size, 0, none⟩)) (by simp only [q_same, q_ne, q_sz, hsz, h2, h6, h8, ne_eq, Nat.reduceEqDiff, not_false_eq_true, Nat.reduceLT]) (fun ρ hc hf e1 => by simp [go_sem, hc, hf, e1])) (fun _ => hS6) ?_
        change wpAnyT _ _ _ _ _ _ _ _ (Act.put _ (some 41) _) _
        refine qT_skip 10 (w6.setCell ⟨w2.heap.size, 32, none⟩ (.slice (some ⟨g6, 0, none⟩) (j + 1) c6)) (by kernel_rfl) rfl rfl (q_run2 41 40 (.pointer (some ⟨w2.heap.size, 32, none⟩)) (.slice (some ⟨g6, 0, none⟩) (j + 1) c6) (by simp only [q_same, q_ne, q_sz, hsz, h2, h6, h8, ne_eq, Nat.reduceEqDiff, not_false_eq_true, Nat.reduceLT]) (by simp only [q_same, q_ne, q_sz, hsz, h2, h6, h8, ne_eq, Nat.reduceEqDiff, not_false_eq_true, Nat.reduceLT]) (fun ρ hc hf e1 e2 => by simp [go_sem, hc, hf, e1, e2, hc6, hf6])) (fun h => absurd rfl h) ?_
        refine wpAnyT_done (by kernel_rfl) ?_ _
        have HM7 : Mov w2.heap.size w6 (w6.setCell ⟨w2.heap.size, 32, none⟩ (.slice (some ⟨g6, 0, none⟩) (j + 1) c6)) := (Mov.refl w2.heap.size w6).set 32 _
        have HX1 : Hid ((w6.setCell ⟨w2.heap.size, 32, none⟩ (.slice (some ⟨g6, 0, none⟩) (j + 1) c6)).cell? ⟨w2.heap.size, 32, none⟩ = some (.slice (some ⟨g6, 0, none⟩) (j + 1) c6)) := World.cell?_setCell_same _ _ _ hc6
        have HX2 : Hid ((w6.setCell ⟨w2.heap.size, 32, none⟩ (.slice (some ⟨g6, 0, none⟩) (j + 1) c6)).frozen? ⟨w2.heap.size, 32, none⟩ = false) := by show _ = _; simp only [World.frozen?_setCell]; exact hf6
        have HX3 : Hid ((w6.setCell ⟨w2.heap.size, 32, none⟩ (.slice (some ⟨g6, 0, none⟩) (j + 1) c6)).rangeAt w2.heap.size 0 (bc nm)) := fun i u hu => by
          have hi2 : i < 32 := by have := (List.getElem?_eq_some_iff.1 hu).1; rw [hbl] at this; exact this
          rw [World.cell?_setCell_other _ _ _ _ (by intro h; injection h with _ h2; omega)]
          exact (range_later HRN.out HB6 (Nat.lt_succ_self _)) i u hu
        have HX4 : Hid ((w6.setCell ⟨w2.heap.size, 32, none⟩ (.slice (some ⟨g6, 0, none⟩) (j + 1) c6)).ownsRow (w2.heap.size + 1) 9 1 (.slice (some ⟨g6, 0, none⟩) (j + 1) c6) (j + 1) (strB (outL T (q.take (j + 1))))) := by
          show World.ownsRow _ _ _ _ _ _ _
          rw [HSN.out, strB_snoc]; exact own_mov ho6 HM7 (Nat.lt_succ_self _)
        have HX5 : Hid (Below w2.heap.size W4 (w6.setCell ⟨w2.heap.size, 32, none⟩ (.slice (some ⟨g6, 0, none⟩) (j + 1) c6))) := (HBB.out.trans (HB6.mono (Nat.le_succ _))).setCell (Nat.le_refl _) _
        have hfr := HFR.out
        clear HFR hsz h2 h6 h8 hS hSA hS6 HS0 HB0 HBA HB6 HM7 hc6 hf6 ho6 hgr6 HCX kix
        generalize w6.setCell ⟨w2.heap.size, 32, none⟩ (.slice (some ⟨g6, 0, none⟩) (j + 1) c6) = W7 at HX1 HX2 HX3 HX4 HX5
        subst hfr
        simp only [Act.put, List.setIfInBounds_toArray, List.set_cons_zero, List.set_cons_succ]
        go_wp2
        go_roundg (gk - 1)
        case measure => have := HJ.out; omega
        case rel =>
          have h1 := HJ.out
          exact ⟨j + 1, .slice (some ⟨g6, 0, none⟩) (j + 1) c6, by omega, by go_num, HSTEP.out hx, HX1.out, HX2.out, HX3.out, HX4.out, HX5.out⟩
      · have hxi : ¬ ((x : Int) < (T.length : Int)) := by omega
        have hxj : (T.length : Int) ≤ (x : Int) := by omega
        have HNA : Hid (allB T q = false) := Bool.eq_false_iff.2 (HBAD.out (by omega))
        clear hjg HALL HSN HBAD HSTEP
        go_wp2_with (refine wpList_store_list rfl 94 _ _ rfl (w.heap.size + 2) 0 zR rfl rfl ?_ (by kernel_rfl) zR_one ?_; exact HTW.out)
        refine bodyPost_ret (results_midt Tryd.results39 _ _ (w.heap.size + 2) zR _ _ rfl rfl (World.rangeAt_setCells_same _ _ _ _ HTW.out) Tryd.underlying94 rfl (by kernel_rfl)) rfl (.inr ⟨HNA.out, rfl, ?_⟩)
        exact below_setCells HWW.out _ (by omega) _ _
    · obtain rfl : j = q.length := by omega
      have hok : q.all (fun i => decide (i < T.length)) = true := all_take q T.length (fun k hk => HALL.out k hk hk)
      have HOK : Hid (allB T q = true) := hok
      rw [List.take_length] at HO
      have HRJ : Hid (wr.rangeAt w2.heap.size 0 (bc nm ++ [Value.slice va vn vc])) := range_join HRN.out (by rw [hbl]; exact HCV.out)
      have HL2 : Hid ((bc nm ++ [Value.slice va vn vc]).length = 33) := by show _ = _; rw [List.length_append, hbl]; rfl
      clear hok hjg HALL hp1
      go_wp2_with (first
        | (refine wpList_load_mid rfl 94 _ rfl w2.heap.size 0 rfl (bc nm ++ [Value.slice va vn vc]) _ ?_ Tryd.underlying94 rfl ?_ ?_; exact HRJ.out; rw [HL2.out]; kernel_rfl)
        | (refine wpList_store_list rfl 94 _ _ rfl (w.heap.size + 2) 0 (bc nm ++ [Value.slice va vn vc]) rfl rfl ?_ ?_ (bc_slice_one nm va vn vc) ?_; rw [HL2.out]; exact HTW.out; rw [HL2.out]; kernel_rfl))
      have hM7 : Mov (w.heap.size + 2) wr (wr.setCells (w.heap.size + 2) 0 (bc nm ++ [Value.slice va vn vc])) := mov_cells _ _ _ _
      refine bodyPost_ret (results_midt Tryd.results39 _ _ (w.heap.size + 2) (bc nm ++ [Value.slice va vn vc]) _ _ rfl rfl (World.rangeAt_setCells_same _ _ _ _ (by rw [HL2.out]; exact HTW.out)) Tryd.underlying94 rfl (by rw [HL2.out]; kernel_rfl)) rfl (.inl ⟨HOK.out, .slice va vn vc, rfl, own_base (own_mov HO.out hM7 (by have := HZ2.out; omega)) (by have := HZ2.out; omega), below_setCells HWW.out _ (by omega) _ _⟩)
end Go.Proofs.YtkmalggeieiepabDoor
namespace Go.Proofs.YtkmalggeieiepabDoor
open Go.RowKit

set_option maxRecDepth 10000 in
set_option maxHeartbeats 1000000 in
theorem catchB_panicking (p : Addr) (x c : Int) (w : World) (hc : w.cell? p = some (.int .i64 x)) (hz : w.frozen? p = false) :
    CallsD Tryd.prog 57 #[.pointer (some p)] (.panicking [{ v := .iface 32 (.int .i64 c), recovered := false }]) w fun e u' w' =>
      e = .returned (.tuple #[]) ∧ u' = .panicking [{ v := .iface 32 (.int .i64 c), recovered := true }] ∧ w' = w.setCell p (.int .i64 c) := by
  have hta : ∀ w : World, (Instr.typeAssert (.iface 32 (.int .i64 c)) 20 32 true).run Tryd.prog w = .ok (.tuple #[.int .i64 c, .bool true]) w := fun _ => by kernel_rfl
  refine callsD_of_wpS Tryd.func57 rfl fun c₀ cs hu => ?_
  apply wpS_seq
  apply wpS_region
  simp [wpOpsS, go_sem, recoverD, hu, Tryd.ntmps57, Exit.thenS, Array.replicate, List.replicate]
  refine wpS_of_wp ?_
  go_wp2
  exact ⟨rfl, _, rfl, _, results_none rfl _ _ _, rfl, rfl, rfl⟩

set_option maxRecDepth 10000 in
set_option maxHeartbeats 1000000 in
theorem catchB_idle (p : Addr) (w : World) :
    CallsD Tryd.prog 57 #[.pointer (some p)] .returning w fun e u' w' => e = .returned (.tuple #[]) ∧ u' = .returning ∧ w' = w := by
  refine callsD_of_wpS Tryd.func57 rfl fun c₀ cs hu => ?_
  apply wpS_seq
  apply wpS_region
  simp [wpOpsS, go_sem, recoverD, hu, Tryd.ntmps57, Exit.thenS, Array.replicate, List.replicate]
  refine wpS_of_wp ?_
  go_wp2
  refine ⟨rfl, .returning, ?_, _, results_none rfl _ _ _, rfl, rfl, rfl⟩
  cases c₀
  simp_all

set_option maxRecDepth 10000 in
set_option maxHeartbeats 1000000 in
theorem catchR_panicking (p : Addr) (x c : Int) (w : World) (hc : w.cell? p = some (.int .i64 x)) (hz : w.frozen? p = false) :
    CallsD Tryd.prog 67 #[.pointer (some p)] (.panicking [{ v := .iface 32 (.int .i64 c), recovered := false }]) w fun e u' w' =>
      e = .returned (.tuple #[]) ∧ u' = .panicking [{ v := .iface 32 (.int .i64 c), recovered := true }] ∧ w' = w.setCell p (.int .i64 c) := by
  have hta : ∀ w : World, (Instr.typeAssert (.iface 32 (.int .i64 c)) 20 32 true).run Tryd.prog w = .ok (.tuple #[.int .i64 c, .bool true]) w := fun _ => by kernel_rfl
  refine callsD_of_wpS Tryd.func67 rfl fun c₀ cs hu => ?_
  apply wpS_seq
  apply wpS_region
  simp [wpOpsS, go_sem, recoverD, hu, Tryd.ntmps67, Exit.thenS, Array.replicate, List.replicate]
  refine wpS_of_wp ?_
  go_wp2
  exact ⟨rfl, _, rfl, _, results_none rfl _ _ _, rfl, rfl, rfl⟩

set_option maxRecDepth 10000 in
set_option maxHeartbeats 1000000 in
theorem catchR_idle (p : Addr) (w : World) :
    CallsD Tryd.prog 67 #[.pointer (some p)] .returning w fun e u' w' => e = .returned (.tuple #[]) ∧ u' = .returning ∧ w' = w := by
  refine callsD_of_wpS Tryd.func67 rfl fun c₀ cs hu => ?_
  apply wpS_seq
  apply wpS_region
  simp [wpOpsS, go_sem, recoverD, hu, Tryd.ntmps67, Exit.thenS, Array.replicate, List.replicate]
  refine wpS_of_wp ?_
  go_wp2
  refine ⟨rfl, .returning, ?_, _, results_none rfl _ _ _, rfl, rfl, rfl⟩
  cases c₀
  simp_all

theorem results_mid2 {P : Program} {fn : Func} {p q : Tmp} {ty ty2 : TypeId} (h : fn.results = #[.cell p ty, .cell q ty2]) (tmps : Array Value) (w : World) (g e : Nat) (cs : List Value) (u : Value) (d : TypeDesc)
    (hp : tmps.getD p undef = .pointer (some ⟨g, 0, none⟩)) (hq : tmps.getD q undef = .pointer (some ⟨e, 0, none⟩)) (hc : w.rangeAt g 0 cs) (hu : P.underlying ty = some d) (hd : d.isRow = true) (hi : (P.info? ty).map (·.size) = some cs.length)
    (hl : (loadVar ty2 ⟨e, 0, none⟩).run P w = .ok u w) :
    (results fn tmps).run P w = .ok (.tuple #[.agg cs.toArray, u]) w := by
  have hp' : tmps[p]?.getD undef = .pointer (some ⟨g, 0, none⟩) := by simpa using hp
  have hq' : tmps[q]?.getD undef = .pointer (some ⟨e, 0, none⟩) := by simpa using hq
  simp [results, h, hp', hq', asAddr, run_loadVar_mid w g 0 ty cs d hc hu hd hi, hl]

set_option maxRecDepth 10000 in
set_option maxHeartbeats 2000000 in
theorem readB_any (s : ByteArray) (w : World) (hl : s.size ≤ maxLen) :
    Calls Tryd.prog 32 #[.string s, .func (.func 33) #[] #[]] w fun x w' =>
      if (rMsg 80 s.data.toList).2.2 = 0 then ∃ v, x = .returned (.tuple #[.agg #[.string (ofL (rMsg 80 s.data.toList).1), v], .int .i64 0]) ∧ w'.ownsRow w.heap.size 9 1 v (rMsg 80 s.data.toList).2.1.length (strB (rMsg 80 s.data.toList).2.1) ∧ Below w.heap.size w w'
      else x = .returned (.tuple #[.agg #[.string ⟨#[]⟩, .slice none 0 0], .int .i64 (rMsg 80 s.data.toList).2.2]) ∧ Below w.heap.size w w' := by
  obtain ⟨W0, hW0⟩ : ∃ W, W = ((w.alloc (.cells #[.string ⟨#[]⟩, .slice none 0 0] 76)).alloc (.cells #[.int .i64 0] 32)).alloc (.cells #[.string s, .int .i64 0] 114) := ⟨_, rfl⟩
  have hCu : Cu W0 (w.heap.size + 2) s.data.toList s.data.toList := by rw [hW0]; exact Cu.new _ s _ _ (by simp)
  have HB0 : Hid (Below w.heap.size w W0) := by show Below _ _ _; rw [hW0]; exact (((Below.refl _ _).alloc (Nat.le_refl _) _).alloc (by simp) _).alloc (by simp; omega) _
  have hz0 : w.heap.size + 3 = W0.heap.size := by rw [hW0]; simp
  have hv0 : W0.cell? ⟨w.heap.size + 1, 0, none⟩ = some (.int .i64 0) := by rw [hW0]; simp [go_sem]
  have hf0 : W0.frozen? ⟨w.heap.size + 1, 0, none⟩ = false := by rw [hW0]; simp [go_sem]
  have t0 : W0.there w.heap.size 0 2 := by
    have := there_new w 76 [.string ⟨#[]⟩, .slice none 0 0]
    rw [hW0]; exact World.there_alloc (World.there_alloc this _) _
  have r0 : W0.rangeAt w.heap.size 0 [.string ⟨#[]⟩, .slice none 0 0] := by
    have := range_new w [.string ⟨#[]⟩, .slice none 0 0] 76 _ rfl
    rw [hW0]; exact World.rangeAt_alloc (World.rangeAt_alloc this _) _
  have HK : Hid (∀ w1, Below (w.heap.size + 2) W0 w1 → w1.cell? ⟨w.heap.size + 1, 0, none⟩ = some (.int .i64 0) ∧ w1.frozen? ⟨w.heap.size + 1, 0, none⟩ = false ∧ w1.there w.heap.size 0 2 ∧ w1.rangeAt w.heap.size 0 [.string ⟨#[]⟩, .slice none 0 0] ∧ Below w.heap.size w w1) := by
    intro w1 hb
    have hb0 : w1.heap[w.heap.size]? = W0.heap[w.heap.size]? := hb.block _ (by omega)
    exact ⟨by rw [hb.cell (p := ⟨w.heap.size + 1, 0, none⟩) (Nat.lt_succ_self _)]; exact hv0, by rw [hb.frozen (p := ⟨w.heap.size + 1, 0, none⟩) (Nat.lt_succ_self _)]; exact hf0, there_block t0 hb0, range_block r0 hb0, HB0.out.trans (hb.mono (by omega))⟩
  have ht := cuBlock_any (w.heap.size + 2) s.data.toList s.data.toList W0 hCu hl
  have hmf : ∀ (fn : Fn) (first cap : Array Value) (w : World), (Instr.makeFunc fn first cap).run Tryd.prog w = .ok (.func fn first cap) w := fun _ _ _ _ => rfl
  have HE : Hid (rMsg 80 s.data.toList = ((rBlk s.data.toList).1, ((rBlk s.data.toList).2.1, (rDone (rBlk s.data.toList).2.2).2))) := rMsg_blk _
  generalize rMsg 80 s.data.toList = M at HE
  clear hCu hl hv0 hf0 t0 r0
  generalize rBlk s.data.toList = p at ht HE
  obtain ⟨t, T, m, c⟩ := p
  by_cases hr : c = 0
  · subst hr
    have h1 := ht.mono (R' := fun x w' => ∃ v, x = .returned (.agg #[.string (ofL t), v]) ∧ Cu w' (w.heap.size + 2) s.data.toList m ∧ w'.ownsRow W0.heap.size 9 1 v T.length (strB T) ∧ Below (w.heap.size + 2) W0 w') (fun x w' hx => by rw [if_pos rfl] at hx; exact hx)
    have he := fun (W : World) (hc : Cu W (w.heap.size + 2) s.data.toList m) => cuEnd_any (w.heap.size + 2) s.data.toList m W hc
    clear ht
    by_cases hm : m = []
    · subst hm
      have e5 : rDone ([], 0) = ([], 0) := by simp [rDone]
      rw [e5] at he
      have hM : M = (t, T, 0) := by rw [HE.out]; show (t, T, (rDone ([], 0)).2) = _; rw [e5]
      subst hM
      have h2 := fun (W : World) (hc : Cu W (w.heap.size + 2) s.data.toList []) => calls_ok (he W hc) rfl
      clear he e5 HE
      have hmain : Calls Tryd.prog 32 #[.string s, .func (.func 33) #[] #[]] w fun x w' => ∃ v, x = .returned (.tuple #[.agg #[.string (ofL t), v], .int .i64 0]) ∧ w'.ownsRow w.heap.size 9 1 v T.length (strB T) ∧ Below w.heap.size w w' := by
        go_enter_defers Tryd.func32, Tryd.ntmps32
        go_upto_region 3 with fail
        rw [← hW0]
        clear hW0
        go_upto_region 4 with (go_at_call 33; go_must (refine h1.mono ?_); rintro x w1 ⟨v, rfl, hc1, ho1, hb1⟩; obtain ⟨va, vn, vc, rfl⟩ := own_slice ho1; have HC1 := (show Hid (Cu w1 (w.heap.size + 2) _ []) from hc1); have HO1 := (show Hid (w1.ownsRow W0.heap.size 9 1 (.slice va vn vc) T.length (strB T)) from ho1); have HBL1 := (show Hid (Below (w.heap.size + 2) W0 w1) from hb1); clear hc1 ho1 hb1)
        obtain ⟨W2, hW2⟩ : ∃ W, W = w1.alloc (.cells #[.string (ofL t), .slice va vn vc] 76) := ⟨_, rfl⟩
        have hb2 : Below w1.heap.size w1 W2 := by rw [hW2]; exact (Below.refl _ _).alloc (Nat.le_refl _) _
        have hz2 : W2.heap.size = w1.heap.size + 1 := by rw [hW2]; simp
        have hrg : W2.rangeAt w1.heap.size 0 [.string (ofL t), .slice va vn vc] := by rw [hW2]; exact range_new w1 _ _ _ rfl
        have hs1 := HBL1.out.size
        have HC2 : Hid (Cu W2 (w.heap.size + 2) s.data.toList []) := HC1.out.later hb2
        have HO2 : Hid (W2.ownsRow W0.heap.size 9 1 (.slice va vn vc) T.length (strB T)) := own_later HO1.out hb2
        have HBL2 : Hid (Below (w.heap.size + 2) W0 W2) := HBL1.out.trans (hb2.mono (by omega))
        have HRG : Hid (W2.rangeAt w1.heap.size 0 [.string (ofL t), .slice va vn vc]) := hrg
        rw [← hW2]
        clear hW2 hb2 hrg HC1 HO1 HBL1 h1
        go_upto_region 5 with (go_at_call 48; go_must (refine (h2 _ HC2.out).mono ?_); rintro x w3 ⟨rfl, hc3, hm3⟩; have HM3 := (show Hid (Mov (w.heap.size + 2) W2 w3) from hm3); clear hc3 hm3)
        have hrg3 : w3.rangeAt w1.heap.size 0 [.string (ofL t), .slice va vn vc] := range_block HRG.out (HM3.out.block _ (by omega) (by omega))
        have HBL3 : Hid (Below (w.heap.size + 2) W0 w3) := HBL2.out.trans (HM3.out.below (Nat.le_refl _) (by omega))
        have HO3 : Hid (w3.ownsRow W0.heap.size 9 1 (.slice va vn vc) T.length (strB T)) := own_mov HO2.out HM3.out (by omega)
        obtain ⟨k1, k2, k3, k4, k5⟩ := HK.out w3 HBL3.out
        have x0 := hrg3 0 _ rfl
        have x1 := hrg3 1 _ rfl
        have y0 := k4 0 _ rfl
        have y1 := k4 1 _ rfl
        have z0 := (k3 0 (by omega)).2
        have z1 := (k3 1 (by omega)).2
        rw [Nat.zero_add] at x0 x1 y0 y1 z0 z1
        have HB5 := (show Hid (Below w.heap.size w w3) from k5)
        clear k3 k4 k5 hrg3 HC2 HO2 HBL2 HRG HM3 h2
        go_wp2
        refine leaves_cons (f := 57) (args := #[.pointer (some ⟨w.heap.size + 1, 0, none⟩)]) (by simp) (by simp [go_sem]) ?_
        refine (catchB_idle ⟨w.heap.size + 1, 0, none⟩ _).mono ?_
        rintro e u' w'' ⟨rfl, rfl, rfl⟩
        simp [Leaves, settle, results, Tryd.results32, go_sem, k1, y0, y1]
        refine ⟨?_, ((HB5.out.setCell (Nat.le_refl _) _).setCell (Nat.le_refl _) _).setCell (Nat.le_succ _) _⟩
        exact own_base (own_mov (own_mov HO3.out (((Mov.refl w.heap.size w3).set 0 _).set 1 _) (by omega)) ((Mov.refl (w.heap.size + 1) _).set 0 _) (by omega)) (by omega)
      exact hmain.mono fun x w' hx => by rw [if_pos rfl]; exact hx
    · have e5 : rDone (m, 0) = (m, 5) := by simp [rDone, hm]
      rw [e5] at he
      have hM : M.2.2 = 5 := by rw [HE.out]; show (rDone (m, 0)).2 = 5; rw [e5]
      rw [hM]
      have h2 := fun (W : World) (hc : Cu W (w.heap.size + 2) s.data.toList m) => calls_no (he W hc) (by simp)
      clear he e5 HE hM
      have hmain : Calls Tryd.prog 32 #[.string s, .func (.func 33) #[] #[]] w fun x w' => x = .returned (.tuple #[.agg #[.string ⟨#[]⟩, .slice none 0 0], .int .i64 5]) ∧ Below w.heap.size w w' := by
        go_enter_defers Tryd.func32, Tryd.ntmps32
        go_upto_region 3 with fail
        rw [← hW0]
        clear hW0
        go_upto_region 4 with (go_at_call 33; go_must (refine h1.mono ?_); rintro x w1 ⟨v, rfl, hc1, ho1, hb1⟩; obtain ⟨va, vn, vc, rfl⟩ := own_slice ho1; have HC1 := (show Hid (Cu w1 (w.heap.size + 2) _ m) from hc1); have HBL1 := (show Hid (Below (w.heap.size + 2) W0 w1) from hb1); clear hc1 ho1 hb1)
        obtain ⟨W2, hW2⟩ : ∃ W, W = w1.alloc (.cells #[.string (ofL t), .slice va vn vc] 76) := ⟨_, rfl⟩
        have hb2 : Below w1.heap.size w1 W2 := by rw [hW2]; exact (Below.refl _ _).alloc (Nat.le_refl _) _
        have hs1 := HBL1.out.size
        have HC2 : Hid (Cu W2 (w.heap.size + 2) s.data.toList m) := HC1.out.later hb2
        have HBL2 : Hid (Below (w.heap.size + 2) W0 W2) := HBL1.out.trans (hb2.mono (by omega))
        have hz2 := hb2.size
        rw [← hW2]
        clear hW2 hb2 HC1 HBL1 h1
        go_wp2_with (go_at_call 48; go_must (refine (h2 _ HC2.out).mono ?_); rintro x w3 ⟨rfl, hm3⟩; have HBL3 := (show Hid (Below (w.heap.size + 2) W0 w3) from HBL2.out.trans (hm3.below (Nat.le_refl _) (by omega))); clear hm3)
        obtain ⟨k1, k2, k3, k4, k5⟩ := HK.out _ HBL3.out
        have y0 := k4 0 _ rfl
        have y1 := k4 1 _ rfl
        rw [Nat.zero_add] at y0 y1
        refine leaves_cons (f := 57) (args := #[.pointer (some ⟨w.heap.size + 1, 0, none⟩)]) (by simp) (by simp [go_sem]) ?_
        refine (catchB_panicking ⟨w.heap.size + 1, 0, none⟩ 0 5 _ k1 k2).mono ?_
        rintro e u' w'' ⟨rfl, rfl, rfl⟩
        simp [Leaves, settle, results, Tryd.results32, go_sem, k1, y0, y1]
        exact k5.setCell (Nat.le_succ _) _
      exact hmain.mono fun x w' hx => by rw [if_neg (by omega)]; exact hx
  · have h1 := ht.mono (R' := fun x w' => x = .panicked [{ v := .iface 32 (.int .i64 c), recovered := false }] ∧ Below (w.heap.size + 2) W0 w') (fun x w' hx => by rw [if_neg hr] at hx; exact hx)
    have hM : M.2.2 = c := by rw [HE.out]; exact stick_done (m, c) hr
    rw [hM]
    clear ht HE hM
    have hmain : Calls Tryd.prog 32 #[.string s, .func (.func 33) #[] #[]] w fun x w' => x = .returned (.tuple #[.agg #[.string ⟨#[]⟩, .slice none 0 0], .int .i64 c]) ∧ Below w.heap.size w w' := by
      go_enter_defers Tryd.func32, Tryd.ntmps32
      go_upto_region 3 with fail
      rw [← hW0]
      clear hW0
      go_wp2_with (go_at_call 33; go_must (refine h1.mono ?_); rintro x w1 ⟨rfl, hb1⟩; have HBL3 := (show Hid (Below (w.heap.size + 2) W0 w1) from hb1); clear hb1)
      obtain ⟨k1, k2, k3, k4, k5⟩ := HK.out _ HBL3.out
      have y0 := k4 0 _ rfl
      have y1 := k4 1 _ rfl
      rw [Nat.zero_add] at y0 y1
      refine leaves_cons (f := 57) (args := #[.pointer (some ⟨w.heap.size + 1, 0, none⟩)]) (by simp) (by simp [go_sem]) ?_
      refine (catchB_panicking ⟨w.heap.size + 1, 0, none⟩ 0 c _ k1 k2).mono ?_
      rintro e u' w'' ⟨rfl, rfl, rfl⟩
      simp [Leaves, settle, results, Tryd.results32, go_sem, k1, y0, y1]
      exact k5.setCell (Nat.le_succ _) _
    exact hmain.mono fun x w' hx => by rw [if_neg hr]; exact hx
end Go.Proofs.YtkmalggeieiepabDoor
