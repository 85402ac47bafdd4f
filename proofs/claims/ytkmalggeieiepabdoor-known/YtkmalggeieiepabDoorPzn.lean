import Derived.Test.YtkmalggeieiepabDoorPzm
import Derived.WalkKit
import Derived.WalkSpells
import Derived.WalkLawsBesides
import Derived.Deep.LoopGhost
import Derived.Deep.DeepCutAuto
import Derived.OrdersHeld
import Derived.Deep.RegionHeld3
import Derived.Test.YtkmalggeieiepabDoorRows
import Derived.Test.YtkmalggeieiepabDoorTie
import Derived.Test.YtkmalggeieiepabDoorCards
import Derived.ProofKit
import Derived.OpenShut
import Derived.LaidMore
import Derived.Lib.LaidTab
import Derived.ChangeOld
import Derived.Below
import Derived.SevenTiedAt
set_option linter.unusedSimpArgs false
set_option linter.unusedVariables false
namespace Go.Proofs.YtkmalggeieiepabDoor
open Go.RowKit

/-- Known's first table, laid. -/
def tabW (W : World) : World := (((((((((W.alloc (.cells #[.int .i64 1] 3)).alloc (.cells #[.int .i64 0, .int .i64 0] 3)).alloc (.cells #[.int .i64 0, .int .i64 2, .int .i64 1] 3)).alloc (.cells #[.int .i64 3] 3)).alloc (.cells #[.int .i64 0, .int .i64 (-1)] 3)).alloc (.cells #[.int .i64 1, .int .i64 3] 3)).alloc (.cells #[.int .i64 0, .int .i64 2] 3)).alloc (.cells #[.int .i64 0, .int .i64 1, .int .i64 2] 3)).alloc (.cells #[.slice none 0 0, .int .i64 11, .slice (some ⟨W.heap.size, 0, none⟩) 1 1, .int .i64 11, .slice (some ⟨W.heap.size + 1, 0, none⟩) 2 2, .int .i64 11, .slice (some ⟨W.heap.size + 1 + 1, 0, none⟩) 3 3, .int .i64 11, .slice (some ⟨W.heap.size + 1 + 1 + 1, 0, none⟩) 1 1, .int .i64 4, .slice (some ⟨W.heap.size + 1 + 1 + 1 + 1, 0, none⟩) 2 2, .int .i64 4, .slice (some ⟨W.heap.size + 1 + 1 + 1 + 1 + 1, 0, none⟩) 2 2, .int .i64 4, .slice (some ⟨W.heap.size + 1 + 1 + 1 + 1 + 1 + 1, 0, none⟩) 2 2, .int .i64 0, .slice (some ⟨W.heap.size + 1 + 1 + 1 + 1 + 1 + 1 + 1, 0, none⟩) 3 3, .int .i64 0] 52))
theorem tabW_bel (W : World) : Below W.heap.size W (tabW W) := by
  unfold tabW
  exact (((((((((Below.refl _ _).alloc (Nat.le_refl _) _).alloc (by simp) _).alloc (by simp; omega) _).alloc (by simp; omega) _).alloc (by simp; omega) _).alloc (by simp; omega) _).alloc (by simp; omega) _).alloc (by simp; omega) _).alloc (by simp; omega) _
theorem tabW_row (W : World) (j : Nat) (al : List Int) (e : Int) (h : knA[j]? = some (al, e)) : ∃ v, (tabW W).cell? ⟨W.heap.size + 1 + 1 + 1 + 1 + 1 + 1 + 1 + 1, j * 2, none⟩ = some v ∧ (tabW W).cell? ⟨W.heap.size + 1 + 1 + 1 + 1 + 1 + 1 + 1 + 1, j * 2 + 1, none⟩ = some (.int .i64 e) ∧ VVal (tabW W) v (intV al) ∧ al.length ≤ 3 := by
  have hj : j < 9 := (List.getElem?_eq_some_iff.1 h).1
  match j, hj with
  | 0, _ =>
    cases h
    exact ⟨.slice none 0 0, by unfold tabW; simp [go_sem], by unfold tabW; simp [go_sem], ⟨none, 0, rfl, by simp [intV], fun h => by simp [intV] at h⟩, by decide⟩
  | 1, _ =>
    cases h
    refine ⟨.slice (some ⟨W.heap.size, 0, none⟩) 1 1, by unfold tabW; simp [go_sem], by unfold tabW; simp [go_sem], ⟨some ⟨W.heap.size, 0, none⟩, 1, rfl, by simp [intV], fun _ => ⟨W.heap.size, 0, rfl, fun q hq => ?_⟩⟩, by decide⟩
    have hq2 : q < 1 := by simpa [intV] using hq
    match q, hq2 with
      | 0, _ => unfold tabW; simp [go_sem, intV]
  | 2, _ =>
    cases h
    refine ⟨.slice (some ⟨W.heap.size + 1, 0, none⟩) 2 2, by unfold tabW; simp [go_sem], by unfold tabW; simp [go_sem], ⟨some ⟨W.heap.size + 1, 0, none⟩, 2, rfl, by simp [intV], fun _ => ⟨W.heap.size + 1, 0, rfl, fun q hq => ?_⟩⟩, by decide⟩
    have hq2 : q < 2 := by simpa [intV] using hq
    match q, hq2 with
      | 0, _ => unfold tabW; simp [go_sem, intV]
      | 1, _ => unfold tabW; simp [go_sem, intV]
  | 3, _ =>
    cases h
    refine ⟨.slice (some ⟨W.heap.size + 1 + 1, 0, none⟩) 3 3, by unfold tabW; simp [go_sem], by unfold tabW; simp [go_sem], ⟨some ⟨W.heap.size + 1 + 1, 0, none⟩, 3, rfl, by simp [intV], fun _ => ⟨W.heap.size + 1 + 1, 0, rfl, fun q hq => ?_⟩⟩, by decide⟩
    have hq2 : q < 3 := by simpa [intV] using hq
    match q, hq2 with
      | 0, _ => unfold tabW; simp [go_sem, intV]
      | 1, _ => unfold tabW; simp [go_sem, intV]
      | 2, _ => unfold tabW; simp [go_sem, intV]
  | 4, _ =>
    cases h
    refine ⟨.slice (some ⟨W.heap.size + 1 + 1 + 1, 0, none⟩) 1 1, by unfold tabW; simp [go_sem], by unfold tabW; simp [go_sem], ⟨some ⟨W.heap.size + 1 + 1 + 1, 0, none⟩, 1, rfl, by simp [intV], fun _ => ⟨W.heap.size + 1 + 1 + 1, 0, rfl, fun q hq => ?_⟩⟩, by decide⟩
    have hq2 : q < 1 := by simpa [intV] using hq
    match q, hq2 with
      | 0, _ => unfold tabW; simp [go_sem, intV]
  | 5, _ =>
    cases h
    refine ⟨.slice (some ⟨W.heap.size + 1 + 1 + 1 + 1, 0, none⟩) 2 2, by unfold tabW; simp [go_sem], by unfold tabW; simp [go_sem], ⟨some ⟨W.heap.size + 1 + 1 + 1 + 1, 0, none⟩, 2, rfl, by simp [intV], fun _ => ⟨W.heap.size + 1 + 1 + 1 + 1, 0, rfl, fun q hq => ?_⟩⟩, by decide⟩
    have hq2 : q < 2 := by simpa [intV] using hq
    match q, hq2 with
      | 0, _ => unfold tabW; simp [go_sem, intV]
      | 1, _ => unfold tabW; simp [go_sem, intV]
  | 6, _ =>
    cases h
    refine ⟨.slice (some ⟨W.heap.size + 1 + 1 + 1 + 1 + 1, 0, none⟩) 2 2, by unfold tabW; simp [go_sem], by unfold tabW; simp [go_sem], ⟨some ⟨W.heap.size + 1 + 1 + 1 + 1 + 1, 0, none⟩, 2, rfl, by simp [intV], fun _ => ⟨W.heap.size + 1 + 1 + 1 + 1 + 1, 0, rfl, fun q hq => ?_⟩⟩, by decide⟩
    have hq2 : q < 2 := by simpa [intV] using hq
    match q, hq2 with
      | 0, _ => unfold tabW; simp [go_sem, intV]
      | 1, _ => unfold tabW; simp [go_sem, intV]
  | 7, _ =>
    cases h
    refine ⟨.slice (some ⟨W.heap.size + 1 + 1 + 1 + 1 + 1 + 1, 0, none⟩) 2 2, by unfold tabW; simp [go_sem], by unfold tabW; simp [go_sem], ⟨some ⟨W.heap.size + 1 + 1 + 1 + 1 + 1 + 1, 0, none⟩, 2, rfl, by simp [intV], fun _ => ⟨W.heap.size + 1 + 1 + 1 + 1 + 1 + 1, 0, rfl, fun q hq => ?_⟩⟩, by decide⟩
    have hq2 : q < 2 := by simpa [intV] using hq
    match q, hq2 with
      | 0, _ => unfold tabW; simp [go_sem, intV]
      | 1, _ => unfold tabW; simp [go_sem, intV]
  | 8, _ =>
    cases h
    refine ⟨.slice (some ⟨W.heap.size + 1 + 1 + 1 + 1 + 1 + 1 + 1, 0, none⟩) 3 3, by unfold tabW; simp [go_sem], by unfold tabW; simp [go_sem], ⟨some ⟨W.heap.size + 1 + 1 + 1 + 1 + 1 + 1 + 1, 0, none⟩, 3, rfl, by simp [intV], fun _ => ⟨W.heap.size + 1 + 1 + 1 + 1 + 1 + 1 + 1, 0, rfl, fun q hq => ?_⟩⟩, by decide⟩
    have hq2 : q < 3 := by simpa [intV] using hq
    match q, hq2 with
      | 0, _ => unfold tabW; simp [go_sem, intV]
      | 1, _ => unfold tabW; simp [go_sem, intV]
      | 2, _ => unfold tabW; simp [go_sem, intV]

/-- Known's second table, laid. -/
def tabQ (W : World) : World := W.alloc (.cells #[.string (ofL (knN ++ [1, 0])), .int .i64 0, .string (ofL (knN ++ [1, 2])), .int .i64 0, .string (ofL (knN ++ [3, 0, 0, 0])), .int .i64 0, .string (ofL (knN ++ [1, 3])), .int .i64 4, .string (ofL (knN ++ [1, 16])), .int .i64 4, .string (ofL (knN ++ [0])), .int .i64 3, .string (ofL (knN ++ [1])), .int .i64 1, .string (ofL (knN ++ [1, 0, 0])), .int .i64 5, .string (ofL (knN2 ++ [120, 1, 0])), .int .i64 6, .string (ofL (knN2 ++ [120, 1, 3])), .int .i64 6, .string (ofL (knN2 ++ [120, 1, 16])), .int .i64 4, .string (ofL (knN ++ [17])), .int .i64 3] 55)
theorem tabQ_row (W : World) (j : Nat) (t : List UInt8) (e : Int) (h : knQ[j]? = some (t, e)) : (tabQ W).cell? ⟨W.heap.size, j * 2, none⟩ = some (.string (ofL t)) ∧ (tabQ W).cell? ⟨W.heap.size, j * 2 + 1, none⟩ = some (.int .i64 e) ∧ t.length ≤ 40 := by
  have hj : j < 12 := (List.getElem?_eq_some_iff.1 h).1
  match j, hj with
  | 0, _ => cases h; exact ⟨by unfold tabQ; simp [go_sem], by unfold tabQ; simp [go_sem], by decide⟩
  | 1, _ => cases h; exact ⟨by unfold tabQ; simp [go_sem], by unfold tabQ; simp [go_sem], by decide⟩
  | 2, _ => cases h; exact ⟨by unfold tabQ; simp [go_sem], by unfold tabQ; simp [go_sem], by decide⟩
  | 3, _ => cases h; exact ⟨by unfold tabQ; simp [go_sem], by unfold tabQ; simp [go_sem], by decide⟩
  | 4, _ => cases h; exact ⟨by unfold tabQ; simp [go_sem], by unfold tabQ; simp [go_sem], by decide⟩
  | 5, _ => cases h; exact ⟨by unfold tabQ; simp [go_sem], by unfold tabQ; simp [go_sem], by decide⟩
  | 6, _ => cases h; exact ⟨by unfold tabQ; simp [go_sem], by unfold tabQ; simp [go_sem], by decide⟩
  | 7, _ => cases h; exact ⟨by unfold tabQ; simp [go_sem], by unfold tabQ; simp [go_sem], by decide⟩
  | 8, _ => cases h; exact ⟨by unfold tabQ; simp [go_sem], by unfold tabQ; simp [go_sem], by decide⟩
  | 9, _ => cases h; exact ⟨by unfold tabQ; simp [go_sem], by unfold tabQ; simp [go_sem], by decide⟩
  | 10, _ => cases h; exact ⟨by unfold tabQ; simp [go_sem], by unfold tabQ; simp [go_sem], by decide⟩
  | 11, _ => cases h; exact ⟨by unfold tabQ; simp [go_sem], by unfold tabQ; simp [go_sem], by decide⟩
theorem q_run12 {P : Program} {o : Oper} {a : Act} {W W' : World} {r : Next} {k0 : Nat} {x0 : Value} (e0 : a.eval (.tmp k0) = x0) {k1 : Nat} {x1 : Value} (e1 : a.eval (.tmp k1) = x1) {k2 : Nat} {x2 : Value} (e2 : a.eval (.tmp k2) = x2) {k3 : Nat} {x3 : Value} (e3 : a.eval (.tmp k3) = x3) {k4 : Nat} {x4 : Value} (e4 : a.eval (.tmp k4) = x4) {k5 : Nat} {x5 : Value} (e5 : a.eval (.tmp k5) = x5) {k6 : Nat} {x6 : Value} (e6 : a.eval (.tmp k6) = x6) {k7 : Nat} {x7 : Value} (e7 : a.eval (.tmp k7) = x7) {k8 : Nat} {x8 : Value} (e8 : a.eval (.tmp k8) = x8) {k9 : Nat} {x9 : Value} (e9 : a.eval (.tmp k9) = x9) {k10 : Nat} {x10 : Value} (e10 : a.eval (.tmp k10) = x10) {k11 : Nat} {x11 : Value} (e11 : a.eval (.tmp k11) = x11)
    (h : ∀ ρ : Operand → Value, (∀ c, ρ (.const c) = c) → ρ (.tmp k0) = x0 → ρ (.tmp k1) = x1 → ρ (.tmp k2) = x2 → ρ (.tmp k3) = x3 → ρ (.tmp k4) = x4 → ρ (.tmp k5) = x5 → ρ (.tmp k6) = x6 → ρ (.tmp k7) = x7 → ρ (.tmp k8) = x8 → ρ (.tmp k9) = x9 → ρ (.tmp k10) = x10 → ρ (.tmp k11) = x11 → (execOp ρ o).run P W = .ok r W') : (execOp a.eval o).run P W = .ok r W' := h a.eval (fun _ => rfl) e0 e1 e2 e3 e4 e5 e6 e7 e8 e9 e10 e11

set_option maxRecDepth 10000 in
set_option maxHeartbeats 8000000 in
theorem known_walk (w : World) (hkt : KT kcT w) :
    Calls Tryd.prog 6 #[] w fun e w' => e = .returned (.bool true) ∧ Below w.heap.size w w' := by
  have hpos : 0 < w.heap.size := World.block_lt_of_cell? w _ (hkt 0 (by omega))
  have HKT : Hid (∀ V, Below w.heap.size w V → KT kcT V) := fun V hV => hkt.later hV hpos
  obtain ⟨t1, ht1⟩ : ∃ t, t = ofL (txL 1) := ⟨_, rfl⟩
  obtain ⟨t2, ht2⟩ : ∃ t, t = ofL (txL 2) := ⟨_, rfl⟩
  obtain ⟨t3, ht3⟩ : ∃ t, t = ofL (txL 3) := ⟨_, rfl⟩
  obtain ⟨B, hB⟩ : ∃ t, t = ofL knB := ⟨_, rfl⟩
  have HT1 : Hid (∀ V, Calls Tryd.prog 11 #[.int .i64 1] V fun e w' => e = .returned (.string t1) ∧ Below V.heap.size V w') := fun V => by rw [ht1]; exact txK_any 1 V (by decide) (by decide)
  have HT2 : Hid (∀ V, Calls Tryd.prog 11 #[.int .i64 2] V fun e w' => e = .returned (.string t2) ∧ Below V.heap.size V w') := fun V => by rw [ht2]; exact txK_any 2 V (by decide) (by decide)
  have HT3 : Hid (∀ V, Calls Tryd.prog 11 #[.int .i64 3] V fun e w' => e = .returned (.string t3) ∧ Below V.heap.size V w') := fun V => by rw [ht3]; exact txK_any 3 V (by decide) (by decide)
  have HBK : Hid (∀ V, Below w.heap.size w V → Calls Tryd.prog 19 #[.slice (some ⟨V.heap.size, 0, none⟩) 3 3, .int .i64 4] (V.alloc (.cells #[.string t1, .string t2, .string t3] 9)) fun e w' => (∃ v, e = .returned (.tuple #[.string B, v, .bool false, .bool true])) ∧ Below V.heap.size V w') := fun V hV => by
    have ha : Below V.heap.size V (V.alloc (.cells #[.string t1, .string t2, .string t3] 9)) := (Below.refl _ _).alloc (Nat.le_refl _) _
    have h := block_any kcT [ofL (txL 1), ofL (txL 2), ofL (txL 3)] 4 V.heap.size 0 3 (V.alloc (.cells #[.string t1, .string t2, .string t3] 9)) (HKT.out _ (hV.trans (ha.mono hV.size))) (fun j hj => by
      rw [ht1, ht2, ht3]
      match j, hj with
      | 0, _ => simp [go_sem]
      | 1, _ => simp [go_sem]
      | 2, _ => simp [go_sem]) (by decide) (by decide) (fun t ht => by
      simp only [List.mem_cons, List.not_mem_nil, or_false] at ht
      rcases ht with rfl | rfl | rfl
      · rw [ofL_data]; exact txL_ok 1
      · rw [ofL_data]; exact txL_ok 2
      · rw [ofL_data]; exact txL_ok 3) (by decide) (by decide)
    rw [kn_blk, kn_twin, ← hB] at h
    exact h.mono fun e w' ⟨h1, h2⟩ => ⟨h1, ha.trans (h2.mono ha.size)⟩
  have HBS : Hid (B.data.toList = knB) := by rw [hB]; exact ofL_data _
  have hBz : B.size = 643 := by rw [hB, ofL_size]; exact knB_len
  have M1 : Hid True := trivial
  have M2 : Hid True := trivial
  clear ht1 ht2 ht3 hB hkt
  go_enter Tryd.func6, Tryd.ntmps6
  go_upto_region 4 with (first
    | (go_at_call 11; have _m := M1; go_must (refine (HT1.out _).mono ?_); rintro e w1 ⟨rfl, hb1⟩; have HB1 := (show Hid (Below w.heap.size w w1) from hb1); clear hb1 M1 _m)
    | (go_at_call 11; have _m := M2; go_must (refine (HT2.out _).mono ?_); rintro e w2 ⟨rfl, hb2⟩; have HB2 := (show Hid (Below w.heap.size w w2) from HB1.out.trans (hb2.mono HB1.out.size)); clear hb2 M2 _m)
    | (go_at_call 11; go_must (refine (HT3.out _).mono ?_); rintro e w3 ⟨rfl, hb3⟩; have HB3 := (show Hid (Below w.heap.size w w3) from HB2.out.trans (hb3.mono HB2.out.size)); clear hb3)
    | (go_at_call 19; go_must (refine (HBK.out _ HB3.out).mono ?_); rintro e w4 ⟨⟨v4, rfl⟩, hb4⟩; have HB4 := (show Hid (Below w.heap.size w w4) from HB3.out.trans (hb4.mono HB3.out.size)); clear hb4))
  clear HT1 HT2 HT3 HBK HB1 HB2 HB3
  go_upto_region 5 with fail
  obtain ⟨W5, hW5⟩ : ∃ V, V = (((((((((w4.alloc (.cells #[.int .i64 1] 3)).alloc (.cells #[.int .i64 0, .int .i64 0] 3)).alloc (.cells #[.int .i64 0, .int .i64 2, .int .i64 1] 3)).alloc (.cells #[.int .i64 3] 3)).alloc (.cells #[.int .i64 0, .int .i64 (-1)] 3)).alloc (.cells #[.int .i64 1, .int .i64 3] 3)).alloc (.cells #[.int .i64 0, .int .i64 2] 3)).alloc (.cells #[.int .i64 0, .int .i64 1, .int .i64 2] 3)).alloc (.cells #[.slice none 0 0, .int .i64 11, .slice (some ⟨w4.heap.size, 0, none⟩) 1 1, .int .i64 11, .slice (some ⟨w4.heap.size + 1, 0, none⟩) 2 2, .int .i64 11, .slice (some ⟨w4.heap.size + 1 + 1, 0, none⟩) 3 3, .int .i64 11, .slice (some ⟨w4.heap.size + 1 + 1 + 1, 0, none⟩) 1 1, .int .i64 4, .slice (some ⟨w4.heap.size + 1 + 1 + 1 + 1, 0, none⟩) 2 2, .int .i64 4, .slice (some ⟨w4.heap.size + 1 + 1 + 1 + 1 + 1, 0, none⟩) 2 2, .int .i64 4, .slice (some ⟨w4.heap.size + 1 + 1 + 1 + 1 + 1 + 1, 0, none⟩) 2 2, .int .i64 0, .slice (some ⟨w4.heap.size + 1 + 1 + 1 + 1 + 1 + 1 + 1, 0, none⟩) 3 3, .int .i64 0] 52)) := ⟨_, rfl⟩
  have hW5t : W5 = tabW w4 := hW5
  have HB5 : Hid (Below w.heap.size w W5) := by rw [hW5t]; exact HB4.out.trans ((tabW_bel w4).mono HB4.out.size)
  have HTB : Hid (∀ j al e, knA[j]? = some (al, e) → ∃ v, W5.cell? ⟨w4.heap.size + 1 + 1 + 1 + 1 + 1 + 1 + 1 + 1, j * 2, none⟩ = some v ∧ W5.cell? ⟨w4.heap.size + 1 + 1 + 1 + 1 + 1 + 1 + 1 + 1, j * 2 + 1, none⟩ = some (.int .i64 e) ∧ VVal W5 v (intV al) ∧ al.length ≤ 3) := by
    rw [hW5t]; exact fun j al e h => tabW_row w4 j al e h
  rw [← hW5]
  clear hW5 hW5t
  generalize w4.heap.size + 1 + 1 + 1 + 1 + 1 + 1 + 1 + 1 = g9 at HTB ⊢
  go_loopg [58] 9 (fun g iv wx => ∃ j : Nat, j + g = 9 ∧ iv = .int .i64 (j : Int) ∧ Below W5.heap.size W5 wx)
  case atStart => exact ⟨0, by omega, rfl, Below.refl _ _⟩
  case round =>
    obtain ⟨j, hjg, rfl, hb⟩ := hrel
    have HB : Hid (Below W5.heap.size W5 wr) := hb
    have HBW : Hid (Below w.heap.size w wr) := HB5.out.trans (hb.mono HB5.out.size)
    have HJ : Hid (j + gk = 9) := hjg
    by_cases hlt : j < 9
    · have hji : (j : Int) < 9 := by omega
      obtain ⟨⟨al, ee⟩, hal⟩ : ∃ x, knA[j]? = some x := ⟨_, List.getElem?_eq_getElem hlt⟩
      obtain ⟨v, d0, d1, hv, hl3⟩ := HTB.out j al ee hal
      have hg9 : g9 < W5.heap.size := World.block_lt_of_cell? W5 _ d0
      rw [← hb.cell (p := ⟨g9, j * 2, none⟩) hg9] at d0
      rw [← hb.cell (p := ⟨g9, j * 2 + 1, none⟩) hg9] at d1
      obtain ⟨W6, hW6⟩ : ∃ V, V = wr.alloc (.cells #[v, .int .i64 ee] 52) := ⟨_, rfl⟩
      have hb6 : Below wr.heap.size wr W6 := by rw [hW6]; exact (Below.refl _ _).alloc (Nat.le_refl _) _
      have hv6 : VVal W6 v (intV al) := (hv.later hb).later hb6
      have ht := told_all 9223372036854775808 j al ee hal
      have hen := encode_any kcT B 9223372036854775808 al v W6 (HKT.out W6 (HBW.out.trans (hb6.mono HBW.out.size))) (by rw [hBz]; decide) (by unfold U64; decide) hv6 (by omega)
      rw [HBS.out] at hen
      generalize encR (sg kcT) (rMsg 80 knB) 9223372036854775808 al = ER at hen ht
      obtain ⟨m0, e0⟩ := ER
      obtain ⟨he0, hme⟩ := ht
      have he0' : e0 = ee := he0
      subst he0'
      obtain ⟨va, vc, hvv, hvl, _⟩ := hv
      obtain ⟨m, hm⟩ : ∃ m, m = ofL m0 := ⟨_, rfl⟩
      have HEN : Hid (Calls Tryd.prog 20 #[.string B, .int .u64 9223372036854775808, .slice va (intV al).length vc] W6 fun x w' => x = .returned (.tuple #[.string m, .int .i64 e0]) ∧ Below W6.heap.size W6 w') := by rw [hm, ← hvv]; exact hen
      have y0 : W6.cell? ⟨wr.heap.size, 0, none⟩ = some (.slice va (intV al).length vc) := by rw [hW6, hvv]; simp [go_sem]
      have y1 : W6.cell? ⟨wr.heap.size, 1, none⟩ = some (.int .i64 e0) := by rw [hW6]; simp [go_sem]
      have HY1 : Hid (∀ V, Below W6.heap.size W6 V → V.cell? ⟨wr.heap.size, 1, none⟩ = some (.int .i64 e0)) := fun V hV => by
        rw [hV.cell (p := ⟨wr.heap.size, 1, none⟩) (World.block_lt_of_cell? W6 _ y1)]; exact y1
      have HB6 : Hid (Below wr.heap.size wr W6) := hb6
      rw [hvv] at d0 hW6
      generalize (intV al).length = nal at d0 hW6 HEN y0
      clear hal hv6 hen hvv hvl hjg hb hb6 y1 hl3
      go_upto_region 7 with fail
      rw [← hW6]
      clear hW6 d0 d1
      rcases hme with ⟨hz, hne⟩ | ⟨hz, hnil⟩
      · subst hz
        have hmt : m.toList.isEmpty = false := by
          rw [hm, toL, ofL_data, List.isEmpty_eq_false_iff]; exact hne
        clear hm
        go_upto_region 8 with (go_at_call 20; go_must (refine HEN.out.mono ?_); rintro e w7 ⟨rfl, hb7⟩; have HB7 := (show Hid (Below W6.heap.size W6 w7) from hb7); clear hb7)
        have y1 := HY1.out w7 HB7.out
        go_wp2
        go_roundg (gk - 1)
        case measure => have := HJ.out; omega
        case rel =>
          have := HJ.out
          exact ⟨j + 1, by omega, by go_num, HB.out.trans ((HB6.out.trans (HB7.out.mono HB6.out.size)).mono HB.out.size)⟩
      · have hm2 : m = ⟨#[]⟩ := by rw [hm, show m0 = [] from hnil]; rfl
        subst hm2
        have hzb : (e0 == 0) = false := by rw [beq_eq_false_iff_ne]; exact hz
        clear hm
        go_upto_region 8 with (go_at_call 20; go_must (refine HEN.out.mono ?_); rintro e w7 ⟨rfl, hb7⟩; have HB7 := (show Hid (Below W6.heap.size W6 w7) from hb7); clear hb7)
        have y1 := HY1.out w7 HB7.out
        go_wp2
        go_roundg (gk - 1)
        case measure => have := HJ.out; omega
        case rel =>
          have := HJ.out
          exact ⟨j + 1, by omega, by go_num, HB.out.trans ((HB6.out.trans (HB7.out.mono HB6.out.size)).mono HB.out.size)⟩
    · have hji : ¬ ((j : Int) < 9) := by omega
      clear hjg hb HTB HJ HB HB5
      have HBW0 : Hid True := trivial
      go_upto_region 11 with fail
      have hlt80 : (80 : Nat) ≤ B.size := by omega
      have HEX : Hid (∀ V, Below w.heap.size w V → Calls Tryd.prog 20 #[.string (B ++ ⟨#[120]⟩), .int .u64 0, .slice (some ⟨V.heap.size, 0, none⟩) 1 1] (V.alloc (.cells #[.int .i64 9] 3)) fun e w' => e = .returned (.tuple #[.string ⟨#[]⟩, .int .i64 5]) ∧ Below V.heap.size V w') := fun V hV => by
        have ha : Below V.heap.size V (V.alloc (.cells #[.int .i64 9] 3)) := (Below.refl _ _).alloc (Nat.le_refl _) _
        have hz : (B ++ ⟨#[120]⟩).size = 644 := by rw [ByteArray.size_append, hBz]; rfl
        have h := encode_any kcT (B ++ ⟨#[120]⟩) 0 [9] (.slice (some ⟨V.heap.size, 0, none⟩) 1 1) (V.alloc (.cells #[.int .i64 9] 3)) (HKT.out _ (hV.trans (ha.mono hV.size))) (by rw [hz]; decide) (by unfold U64; decide) ⟨some ⟨V.heap.size, 0, none⟩, 1, rfl, by simp [intV], fun _ => ⟨V.heap.size, 0, rfl, fun q hq => by
          have hq2 : q < 1 := by simpa [intV] using hq
          match q, hq2 with
          | 0, _ => simp [go_sem, intV]⟩⟩ (by decide)
        rw [show (B ++ ⟨#[120]⟩ : ByteArray).data.toList = knB ++ [120] by rw [ByteArray.data_append, Array.toList_append, HBS.out], kn_encx] at h
        exact h.mono fun e w' ⟨h1, h2⟩ => ⟨h1, ha.trans (h2.mono ha.size)⟩
      obtain ⟨N1, hN1⟩ : ∃ t, t = sg kcT (ofL knH) := ⟨_, rfl⟩
      obtain ⟨NM, hNM⟩ : ∃ t, t = ofL knN := ⟨_, rfl⟩
      have hex : B.extract 0 80 = ofL knH := by
        have hB : B = ofL knB := by rw [← HBS.out, ofL_of]
        rw [hB, ofL_extract, List.drop_zero, knH_take]
      have hHz : (ofL knH).size ≤ 1099511627776 := by rw [← hex]; simp; omega
      have HS1 : Hid (∀ V, Below w.heap.size w V → Calls Tryd.prog 7 #[.string (B.extract 0 80)] V fun e w' => e = .returned (.string N1) ∧ Below V.heap.size V w') := fun V hV => by
        rw [hN1, hex]
        exact relaySum_any kcT (ofL knH) V (HKT.out V hV) (Nat.lt_of_lt_of_le hpos hV.size) hHz
      have HS2 : Hid (∀ V, Below w.heap.size w V → Calls Tryd.prog 7 #[.string N1] V fun e w' => e = .returned (.string NM) ∧ Below V.heap.size V w') := fun V hV => by
        have h := relaySum_any kcT N1 V (HKT.out V hV) (Nat.lt_of_lt_of_le hpos hV.size) (by rw [hN1, sg_size]; decide)
        have e1 : strOf (shaF kcT N1.data.toList) 32 = NM := by
          have e2 : dd kcT (ofL knH) = ofL knN := kn_name
          rw [hN1, hNM, ← e2]; rfl
        rw [e1] at h; exact h
      have hNz : NM.size = 32 := by rw [hNM]; rfl
      have HNM : Hid (NM = ofL knN) := hNM
      have M3 : Hid True := trivial
      clear hN1 hNM hex hHz HBW0
      go_upto_region 14 with (go_at_call 20; go_must (refine (HEX.out _ HBW.out).mono ?_); rintro e w7 ⟨rfl, hb7⟩; have HB7 := (show Hid (Below w.heap.size w w7) from HBW.out.trans (hb7.mono HBW.out.size)); clear hb7)
      go_upto_region 17 with (first
        | (go_at_call 7; have _m := M3; go_must (refine (HS1.out _ HB7.out).mono ?_); rintro e w8 ⟨rfl, hb8⟩; have HB8 := (show Hid (Below w.heap.size w w8) from HB7.out.trans (hb8.mono HB7.out.size)); clear hb8 M3 _m)
        | (go_at_call 7; go_must (refine (HS2.out _ HB8.out).mono ?_); rintro e w9 ⟨rfl, hb9⟩; have HB9 := (show Hid (Below w.heap.size w w9) from HB8.out.trans (hb9.mono HB8.out.size)); clear hb9))
      clear HEX HS1 HS2 HB7 HB8 HBW
      obtain ⟨NP, hNP⟩ : ∃ t, t = ofL knN2 := ⟨_, rfl⟩
      have hNPa : NM.extract 1 32 = NP := by rw [HNM.out, hNP, ofL_extract]; rfl
      have hNPb : NM.extract 1 NM.size = NP := by rw [hNz]; exact hNPa
      have hNPz : NP.size = 31 := by rw [hNP]; rfl
      obtain ⟨s0, hs0⟩ : ∃ t, NM ++ (⟨#[1, 0]⟩ : ByteArray) = t := ⟨_, rfl⟩
      have es0 : s0 = ofL (knN ++ [1, 0]) := by rw [← hs0, HNM.out, ← ofL_append]; rfl
      obtain ⟨s1, hs1⟩ : ∃ t, NM ++ (⟨#[1, 2]⟩ : ByteArray) = t := ⟨_, rfl⟩
      have es1 : s1 = ofL (knN ++ [1, 2]) := by rw [← hs1, HNM.out, ← ofL_append]; rfl
      obtain ⟨s2, hs2⟩ : ∃ t, NM ++ (⟨#[3, 0, 0, 0]⟩ : ByteArray) = t := ⟨_, rfl⟩
      have es2 : s2 = ofL (knN ++ [3, 0, 0, 0]) := by rw [← hs2, HNM.out, ← ofL_append]; rfl
      obtain ⟨s3, hs3⟩ : ∃ t, NM ++ (⟨#[1, 3]⟩ : ByteArray) = t := ⟨_, rfl⟩
      have es3 : s3 = ofL (knN ++ [1, 3]) := by rw [← hs3, HNM.out, ← ofL_append]; rfl
      obtain ⟨s4, hs4⟩ : ∃ t, NM ++ (⟨#[1, 16]⟩ : ByteArray) = t := ⟨_, rfl⟩
      have es4 : s4 = ofL (knN ++ [1, 16]) := by rw [← hs4, HNM.out, ← ofL_append]; rfl
      obtain ⟨s5, hs5⟩ : ∃ t, NM ++ (⟨#[0]⟩ : ByteArray) = t := ⟨_, rfl⟩
      have es5 : s5 = ofL (knN ++ [0]) := by rw [← hs5, HNM.out, ← ofL_append]; rfl
      obtain ⟨s6, hs6⟩ : ∃ t, NM ++ (⟨#[1]⟩ : ByteArray) = t := ⟨_, rfl⟩
      have es6 : s6 = ofL (knN ++ [1]) := by rw [← hs6, HNM.out, ← ofL_append]; rfl
      obtain ⟨s7, hs7⟩ : ∃ t, NM ++ (⟨#[1, 0, 0]⟩ : ByteArray) = t := ⟨_, rfl⟩
      have es7 : s7 = ofL (knN ++ [1, 0, 0]) := by rw [← hs7, HNM.out, ← ofL_append]; rfl
      obtain ⟨s8, hs8⟩ : ∃ t, NP ++ (⟨#[120, 1, 0]⟩ : ByteArray) = t := ⟨_, rfl⟩
      have es8 : s8 = ofL (knN2 ++ [120, 1, 0]) := by rw [← hs8, hNP, ← ofL_append]; rfl
      obtain ⟨s9, hs9⟩ : ∃ t, NP ++ (⟨#[120, 1, 3]⟩ : ByteArray) = t := ⟨_, rfl⟩
      have es9 : s9 = ofL (knN2 ++ [120, 1, 3]) := by rw [← hs9, hNP, ← ofL_append]; rfl
      obtain ⟨s10, hs10⟩ : ∃ t, NP ++ (⟨#[120, 1, 16]⟩ : ByteArray) = t := ⟨_, rfl⟩
      have es10 : s10 = ofL (knN2 ++ [120, 1, 16]) := by rw [← hs10, hNP, ← ofL_append]; rfl
      obtain ⟨s11, hs11⟩ : ∃ t, NM ++ (⟨#[17]⟩ : ByteArray) = t := ⟨_, rfl⟩
      have es11 : s11 = ofL (knN ++ [17]) := by rw [← hs11, HNM.out, ← ofL_append]; rfl
      obtain ⟨W8, hW8⟩ : ∃ V, V = w9.drew.alloc (.cells #[.string s0, .int .i64 0, .string s1, .int .i64 0, .string s2, .int .i64 0, .string s3, .int .i64 4, .string s4, .int .i64 4, .string s5, .int .i64 3, .string s6, .int .i64 1, .string s7, .int .i64 5, .string s8, .int .i64 6, .string s9, .int .i64 6, .string s10, .int .i64 4, .string s11, .int .i64 3] 55) := ⟨_, rfl⟩
      have hW8t : W8 = tabQ w9.drew := by rw [hW8]; unfold tabQ; rw [es0, es1, es2, es3, es4, es5, es6, es7, es8, es9, es10, es11]
      have HB10 : Hid (Below w.heap.size w W8) := by
        have h1 : Below w9.heap.size w9 W8 := by
          rw [hW8]
          exact (show Below w9.heap.size w9 w9.drew from ⟨rfl, rfl, rfl, Nat.le_refl _, fun _ _ => rfl⟩).alloc (Nat.le_refl _) _
        exact HB9.out.trans (h1.mono HB9.out.size)
      have HTQ : Hid (∀ j t e, knQ[j]? = some (t, e) → W8.cell? ⟨w9.heap.size, j * 2, none⟩ = some (.string (ofL t)) ∧ W8.cell? ⟨w9.heap.size, j * 2 + 1, none⟩ = some (.int .i64 e) ∧ t.length ≤ 40) := by
        rw [hW8t]; exact fun j t e h => tabQ_row w9.drew j t e h
      clear hW8t es0 es1 es2 es3 es4 es5 es6 es7 es8 es9 es10 es11 hNP
      refine q_frame (fun A HFR => ?_)
      have hsz : A.tmps.size = 192 := by rw [HFR.out]; rfl
      have h11 : A.eval (.tmp 11) = .string NM := by rw [HFR.out]; rfl
      refine wp_region_any (by kernel_rfl) ?_
      refine wpAny_take (i := 0) (v := (.string NM)) rfl (by kernel_rfl) (by kernel_rfl) (by kernel_rfl) (fun _ _ _ h => h) (Or.inl ⟨by rfl, fun W => q_run1 11 (.string NM) (by simp only [q_same, q_ne, q_sz, hsz, h11, ne_eq, Nat.reduceEqDiff, not_false_eq_true, Nat.reduceLT]) (fun ρ hc hf e1 => by simp [go_sem, hc, hf, e1])⟩) ?_
      change wpAny _ _ _ _ _ _ (Act.put _ (some 97) _) _
      refine wpAny_take (i := 1) (v := (.string s0)) rfl (by kernel_rfl) (by kernel_rfl) (by kernel_rfl) (fun _ _ _ h => h) (Or.inl ⟨by rfl, fun W => q_run1 97 (.string NM) (by simp only [q_same, q_ne, q_sz, hsz, h11, ne_eq, Nat.reduceEqDiff, not_false_eq_true, Nat.reduceLT]) (fun ρ hc hf e1 => by simp [go_sem, hc, hf, e1, hNz, hs0])⟩) ?_
      change wpAny _ _ _ _ _ _ (Act.put _ (some 98) _) _
      refine wpAny_take (i := 2) (v := (.agg #[.string s0, .int .i64 0])) rfl (by kernel_rfl) (by kernel_rfl) (by kernel_rfl) (fun _ _ _ h => h) (Or.inl ⟨by rfl, fun W => q_run1 98 (.string s0) (by simp only [q_same, q_ne, q_sz, hsz, h11, ne_eq, Nat.reduceEqDiff, not_false_eq_true, Nat.reduceLT]) (fun ρ hc hf e1 => by simp [go_sem, hc, hf, e1])⟩) ?_
      change wpAny _ _ _ _ _ _ (Act.put _ (some 99) _) _
      refine wpAny_take (i := 3) (v := (.string NM)) rfl (by kernel_rfl) (by kernel_rfl) (by kernel_rfl) (fun _ _ _ h => h) (Or.inl ⟨by rfl, fun W => q_run1 11 (.string NM) (by simp only [q_same, q_ne, q_sz, hsz, h11, ne_eq, Nat.reduceEqDiff, not_false_eq_true, Nat.reduceLT]) (fun ρ hc hf e1 => by simp [go_sem, hc, hf, e1])⟩) ?_
      change wpAny _ _ _ _ _ _ (Act.put _ (some 100) _) _
      refine wpAny_take (i := 4) (v := (.string s1)) rfl (by kernel_rfl) (by kernel_rfl) (by kernel_rfl) (fun _ _ _ h => h) (Or.inl ⟨by rfl, fun W => q_run1 100 (.string NM) (by simp only [q_same, q_ne, q_sz, hsz, h11, ne_eq, Nat.reduceEqDiff, not_false_eq_true, Nat.reduceLT]) (fun ρ hc hf e1 => by simp [go_sem, hc, hf, e1, hNz, hs1])⟩) ?_
      change wpAny _ _ _ _ _ _ (Act.put _ (some 101) _) _
      refine wpAny_take (i := 5) (v := (.agg #[.string s1, .int .i64 0])) rfl (by kernel_rfl) (by kernel_rfl) (by kernel_rfl) (fun _ _ _ h => h) (Or.inl ⟨by rfl, fun W => q_run1 101 (.string s1) (by simp only [q_same, q_ne, q_sz, hsz, h11, ne_eq, Nat.reduceEqDiff, not_false_eq_true, Nat.reduceLT]) (fun ρ hc hf e1 => by simp [go_sem, hc, hf, e1])⟩) ?_
      change wpAny _ _ _ _ _ _ (Act.put _ (some 102) _) _
      refine wpAny_take (i := 6) (v := (.string NM)) rfl (by kernel_rfl) (by kernel_rfl) (by kernel_rfl) (fun _ _ _ h => h) (Or.inl ⟨by rfl, fun W => q_run1 11 (.string NM) (by simp only [q_same, q_ne, q_sz, hsz, h11, ne_eq, Nat.reduceEqDiff, not_false_eq_true, Nat.reduceLT]) (fun ρ hc hf e1 => by simp [go_sem, hc, hf, e1])⟩) ?_
      change wpAny _ _ _ _ _ _ (Act.put _ (some 103) _) _
      refine wpAny_take (i := 7) (v := (.string s2)) rfl (by kernel_rfl) (by kernel_rfl) (by kernel_rfl) (fun _ _ _ h => h) (Or.inl ⟨by rfl, fun W => q_run1 103 (.string NM) (by simp only [q_same, q_ne, q_sz, hsz, h11, ne_eq, Nat.reduceEqDiff, not_false_eq_true, Nat.reduceLT]) (fun ρ hc hf e1 => by simp [go_sem, hc, hf, e1, hNz, hs2])⟩) ?_
      change wpAny _ _ _ _ _ _ (Act.put _ (some 104) _) _
      refine wpAny_take (i := 8) (v := (.agg #[.string s2, .int .i64 0])) rfl (by kernel_rfl) (by kernel_rfl) (by kernel_rfl) (fun _ _ _ h => h) (Or.inl ⟨by rfl, fun W => q_run1 104 (.string s2) (by simp only [q_same, q_ne, q_sz, hsz, h11, ne_eq, Nat.reduceEqDiff, not_false_eq_true, Nat.reduceLT]) (fun ρ hc hf e1 => by simp [go_sem, hc, hf, e1])⟩) ?_
      change wpAny _ _ _ _ _ _ (Act.put _ (some 105) _) _
      refine wpAny_take (i := 9) (v := (.string NM)) rfl (by kernel_rfl) (by kernel_rfl) (by kernel_rfl) (fun _ _ _ h => h) (Or.inl ⟨by rfl, fun W => q_run1 11 (.string NM) (by simp only [q_same, q_ne, q_sz, hsz, h11, ne_eq, Nat.reduceEqDiff, not_false_eq_true, Nat.reduceLT]) (fun ρ hc hf e1 => by simp [go_sem, hc, hf, e1])⟩) ?_
      change wpAny _ _ _ _ _ _ (Act.put _ (some 106) _) _
      refine wpAny_take (i := 10) (v := (.string s3)) rfl (by kernel_rfl) (by kernel_rfl) (by kernel_rfl) (fun _ _ _ h => h) (Or.inl ⟨by rfl, fun W => q_run1 106 (.string NM) (by simp only [q_same, q_ne, q_sz, hsz, h11, ne_eq, Nat.reduceEqDiff, not_false_eq_true, Nat.reduceLT]) (fun ρ hc hf e1 => by simp [go_sem, hc, hf, e1, hNz, hs3])⟩) ?_
      change wpAny _ _ _ _ _ _ (Act.put _ (some 107) _) _
      refine wpAny_take (i := 11) (v := (.agg #[.string s3, .int .i64 4])) rfl (by kernel_rfl) (by kernel_rfl) (by kernel_rfl) (fun _ _ _ h => h) (Or.inl ⟨by rfl, fun W => q_run1 107 (.string s3) (by simp only [q_same, q_ne, q_sz, hsz, h11, ne_eq, Nat.reduceEqDiff, not_false_eq_true, Nat.reduceLT]) (fun ρ hc hf e1 => by simp [go_sem, hc, hf, e1])⟩) ?_
      change wpAny _ _ _ _ _ _ (Act.put _ (some 108) _) _
      refine wpAny_take (i := 12) (v := (.string NM)) rfl (by kernel_rfl) (by kernel_rfl) (by kernel_rfl) (fun _ _ _ h => h) (Or.inl ⟨by rfl, fun W => q_run1 11 (.string NM) (by simp only [q_same, q_ne, q_sz, hsz, h11, ne_eq, Nat.reduceEqDiff, not_false_eq_true, Nat.reduceLT]) (fun ρ hc hf e1 => by simp [go_sem, hc, hf, e1])⟩) ?_
      change wpAny _ _ _ _ _ _ (Act.put _ (some 109) _) _
      refine wpAny_take (i := 13) (v := (.string s4)) rfl (by kernel_rfl) (by kernel_rfl) (by kernel_rfl) (fun _ _ _ h => h) (Or.inl ⟨by rfl, fun W => q_run1 109 (.string NM) (by simp only [q_same, q_ne, q_sz, hsz, h11, ne_eq, Nat.reduceEqDiff, not_false_eq_true, Nat.reduceLT]) (fun ρ hc hf e1 => by simp [go_sem, hc, hf, e1, hNz, hs4])⟩) ?_
      change wpAny _ _ _ _ _ _ (Act.put _ (some 110) _) _
      refine wpAny_take (i := 14) (v := (.agg #[.string s4, .int .i64 4])) rfl (by kernel_rfl) (by kernel_rfl) (by kernel_rfl) (fun _ _ _ h => h) (Or.inl ⟨by rfl, fun W => q_run1 110 (.string s4) (by simp only [q_same, q_ne, q_sz, hsz, h11, ne_eq, Nat.reduceEqDiff, not_false_eq_true, Nat.reduceLT]) (fun ρ hc hf e1 => by simp [go_sem, hc, hf, e1])⟩) ?_
      change wpAny _ _ _ _ _ _ (Act.put _ (some 111) _) _
      refine wpAny_take (i := 15) (v := (.string NM)) rfl (by kernel_rfl) (by kernel_rfl) (by kernel_rfl) (fun _ _ _ h => h) (Or.inl ⟨by rfl, fun W => q_run1 11 (.string NM) (by simp only [q_same, q_ne, q_sz, hsz, h11, ne_eq, Nat.reduceEqDiff, not_false_eq_true, Nat.reduceLT]) (fun ρ hc hf e1 => by simp [go_sem, hc, hf, e1])⟩) ?_
      change wpAny _ _ _ _ _ _ (Act.put _ (some 112) _) _
      refine wpAny_take (i := 16) (v := (.string s5)) rfl (by kernel_rfl) (by kernel_rfl) (by kernel_rfl) (fun _ _ _ h => h) (Or.inl ⟨by rfl, fun W => q_run1 112 (.string NM) (by simp only [q_same, q_ne, q_sz, hsz, h11, ne_eq, Nat.reduceEqDiff, not_false_eq_true, Nat.reduceLT]) (fun ρ hc hf e1 => by simp [go_sem, hc, hf, e1, hNz, hs5])⟩) ?_
      change wpAny _ _ _ _ _ _ (Act.put _ (some 113) _) _
      refine wpAny_take (i := 17) (v := (.agg #[.string s5, .int .i64 3])) rfl (by kernel_rfl) (by kernel_rfl) (by kernel_rfl) (fun _ _ _ h => h) (Or.inl ⟨by rfl, fun W => q_run1 113 (.string s5) (by simp only [q_same, q_ne, q_sz, hsz, h11, ne_eq, Nat.reduceEqDiff, not_false_eq_true, Nat.reduceLT]) (fun ρ hc hf e1 => by simp [go_sem, hc, hf, e1])⟩) ?_
      change wpAny _ _ _ _ _ _ (Act.put _ (some 114) _) _
      refine wpAny_take (i := 18) (v := (.string NM)) rfl (by kernel_rfl) (by kernel_rfl) (by kernel_rfl) (fun _ _ _ h => h) (Or.inl ⟨by rfl, fun W => q_run1 11 (.string NM) (by simp only [q_same, q_ne, q_sz, hsz, h11, ne_eq, Nat.reduceEqDiff, not_false_eq_true, Nat.reduceLT]) (fun ρ hc hf e1 => by simp [go_sem, hc, hf, e1])⟩) ?_
      change wpAny _ _ _ _ _ _ (Act.put _ (some 115) _) _
      refine wpAny_take (i := 19) (v := (.string s6)) rfl (by kernel_rfl) (by kernel_rfl) (by kernel_rfl) (fun _ _ _ h => h) (Or.inl ⟨by rfl, fun W => q_run1 115 (.string NM) (by simp only [q_same, q_ne, q_sz, hsz, h11, ne_eq, Nat.reduceEqDiff, not_false_eq_true, Nat.reduceLT]) (fun ρ hc hf e1 => by simp [go_sem, hc, hf, e1, hNz, hs6])⟩) ?_
      change wpAny _ _ _ _ _ _ (Act.put _ (some 116) _) _
      refine wpAny_take (i := 20) (v := (.agg #[.string s6, .int .i64 1])) rfl (by kernel_rfl) (by kernel_rfl) (by kernel_rfl) (fun _ _ _ h => h) (Or.inl ⟨by rfl, fun W => q_run1 116 (.string s6) (by simp only [q_same, q_ne, q_sz, hsz, h11, ne_eq, Nat.reduceEqDiff, not_false_eq_true, Nat.reduceLT]) (fun ρ hc hf e1 => by simp [go_sem, hc, hf, e1])⟩) ?_
      change wpAny _ _ _ _ _ _ (Act.put _ (some 117) _) _
      refine wpAny_take (i := 21) (v := (.string NM)) rfl (by kernel_rfl) (by kernel_rfl) (by kernel_rfl) (fun _ _ _ h => h) (Or.inl ⟨by rfl, fun W => q_run1 11 (.string NM) (by simp only [q_same, q_ne, q_sz, hsz, h11, ne_eq, Nat.reduceEqDiff, not_false_eq_true, Nat.reduceLT]) (fun ρ hc hf e1 => by simp [go_sem, hc, hf, e1])⟩) ?_
      change wpAny _ _ _ _ _ _ (Act.put _ (some 118) _) _
      refine wpAny_take (i := 22) (v := (.string s7)) rfl (by kernel_rfl) (by kernel_rfl) (by kernel_rfl) (fun _ _ _ h => h) (Or.inl ⟨by rfl, fun W => q_run1 118 (.string NM) (by simp only [q_same, q_ne, q_sz, hsz, h11, ne_eq, Nat.reduceEqDiff, not_false_eq_true, Nat.reduceLT]) (fun ρ hc hf e1 => by simp [go_sem, hc, hf, e1, hNz, hs7])⟩) ?_
      change wpAny _ _ _ _ _ _ (Act.put _ (some 119) _) _
      refine wpAny_take (i := 23) (v := (.agg #[.string s7, .int .i64 5])) rfl (by kernel_rfl) (by kernel_rfl) (by kernel_rfl) (fun _ _ _ h => h) (Or.inl ⟨by rfl, fun W => q_run1 119 (.string s7) (by simp only [q_same, q_ne, q_sz, hsz, h11, ne_eq, Nat.reduceEqDiff, not_false_eq_true, Nat.reduceLT]) (fun ρ hc hf e1 => by simp [go_sem, hc, hf, e1])⟩) ?_
      change wpAny _ _ _ _ _ _ (Act.put _ (some 120) _) _
      refine wpAny_take (i := 24) (v := (.string NM)) rfl (by kernel_rfl) (by kernel_rfl) (by kernel_rfl) (fun _ _ _ h => h) (Or.inl ⟨by rfl, fun W => q_run1 11 (.string NM) (by simp only [q_same, q_ne, q_sz, hsz, h11, ne_eq, Nat.reduceEqDiff, not_false_eq_true, Nat.reduceLT]) (fun ρ hc hf e1 => by simp [go_sem, hc, hf, e1])⟩) ?_
      change wpAny _ _ _ _ _ _ (Act.put _ (some 121) _) _
      refine wpAny_take (i := 25) (v := (.string NP)) rfl (by kernel_rfl) (by kernel_rfl) (by kernel_rfl) (fun _ _ _ h => h) (Or.inl ⟨by rfl, fun W => q_run1 121 (.string NM) (by simp only [q_same, q_ne, q_sz, hsz, h11, ne_eq, Nat.reduceEqDiff, not_false_eq_true, Nat.reduceLT]) (fun ρ hc hf e1 => by simp [go_sem, hc, hf, e1, hNz, hNPa, hNPb])⟩) ?_
      change wpAny _ _ _ _ _ _ (Act.put _ (some 122) _) _
      refine wpAny_take (i := 26) (v := (.string s8)) rfl (by kernel_rfl) (by kernel_rfl) (by kernel_rfl) (fun _ _ _ h => h) (Or.inl ⟨by rfl, fun W => q_run1 122 (.string NP) (by simp only [q_same, q_ne, q_sz, hsz, h11, ne_eq, Nat.reduceEqDiff, not_false_eq_true, Nat.reduceLT]) (fun ρ hc hf e1 => by simp [go_sem, hc, hf, e1, hNPz, hs8])⟩) ?_
      change wpAny _ _ _ _ _ _ (Act.put _ (some 123) _) _
      refine wpAny_take (i := 27) (v := (.agg #[.string s8, .int .i64 6])) rfl (by kernel_rfl) (by kernel_rfl) (by kernel_rfl) (fun _ _ _ h => h) (Or.inl ⟨by rfl, fun W => q_run1 123 (.string s8) (by simp only [q_same, q_ne, q_sz, hsz, h11, ne_eq, Nat.reduceEqDiff, not_false_eq_true, Nat.reduceLT]) (fun ρ hc hf e1 => by simp [go_sem, hc, hf, e1])⟩) ?_
      change wpAny _ _ _ _ _ _ (Act.put _ (some 124) _) _
      refine wpAny_take (i := 28) (v := (.string NM)) rfl (by kernel_rfl) (by kernel_rfl) (by kernel_rfl) (fun _ _ _ h => h) (Or.inl ⟨by rfl, fun W => q_run1 11 (.string NM) (by simp only [q_same, q_ne, q_sz, hsz, h11, ne_eq, Nat.reduceEqDiff, not_false_eq_true, Nat.reduceLT]) (fun ρ hc hf e1 => by simp [go_sem, hc, hf, e1])⟩) ?_
      change wpAny _ _ _ _ _ _ (Act.put _ (some 125) _) _
      refine wpAny_take (i := 29) (v := (.string NP)) rfl (by kernel_rfl) (by kernel_rfl) (by kernel_rfl) (fun _ _ _ h => h) (Or.inl ⟨by rfl, fun W => q_run1 125 (.string NM) (by simp only [q_same, q_ne, q_sz, hsz, h11, ne_eq, Nat.reduceEqDiff, not_false_eq_true, Nat.reduceLT]) (fun ρ hc hf e1 => by simp [go_sem, hc, hf, e1, hNz, hNPa, hNPb])⟩) ?_
      change wpAny _ _ _ _ _ _ (Act.put _ (some 126) _) _
      refine wpAny_take (i := 30) (v := (.string s9)) rfl (by kernel_rfl) (by kernel_rfl) (by kernel_rfl) (fun _ _ _ h => h) (Or.inl ⟨by rfl, fun W => q_run1 126 (.string NP) (by simp only [q_same, q_ne, q_sz, hsz, h11, ne_eq, Nat.reduceEqDiff, not_false_eq_true, Nat.reduceLT]) (fun ρ hc hf e1 => by simp [go_sem, hc, hf, e1, hNPz, hs9])⟩) ?_
      change wpAny _ _ _ _ _ _ (Act.put _ (some 127) _) _
      refine wpAny_take (i := 31) (v := (.agg #[.string s9, .int .i64 6])) rfl (by kernel_rfl) (by kernel_rfl) (by kernel_rfl) (fun _ _ _ h => h) (Or.inl ⟨by rfl, fun W => q_run1 127 (.string s9) (by simp only [q_same, q_ne, q_sz, hsz, h11, ne_eq, Nat.reduceEqDiff, not_false_eq_true, Nat.reduceLT]) (fun ρ hc hf e1 => by simp [go_sem, hc, hf, e1])⟩) ?_
      change wpAny _ _ _ _ _ _ (Act.put _ (some 128) _) _
      refine wpAny_take (i := 32) (v := (.string NM)) rfl (by kernel_rfl) (by kernel_rfl) (by kernel_rfl) (fun _ _ _ h => h) (Or.inl ⟨by rfl, fun W => q_run1 11 (.string NM) (by simp only [q_same, q_ne, q_sz, hsz, h11, ne_eq, Nat.reduceEqDiff, not_false_eq_true, Nat.reduceLT]) (fun ρ hc hf e1 => by simp [go_sem, hc, hf, e1])⟩) ?_
      change wpAny _ _ _ _ _ _ (Act.put _ (some 129) _) _
      refine wpAny_take (i := 33) (v := (.string NP)) rfl (by kernel_rfl) (by kernel_rfl) (by kernel_rfl) (fun _ _ _ h => h) (Or.inl ⟨by rfl, fun W => q_run1 129 (.string NM) (by simp only [q_same, q_ne, q_sz, hsz, h11, ne_eq, Nat.reduceEqDiff, not_false_eq_true, Nat.reduceLT]) (fun ρ hc hf e1 => by simp [go_sem, hc, hf, e1, hNz, hNPa, hNPb])⟩) ?_
      change wpAny _ _ _ _ _ _ (Act.put _ (some 130) _) _
      refine wpAny_take (i := 34) (v := (.string s10)) rfl (by kernel_rfl) (by kernel_rfl) (by kernel_rfl) (fun _ _ _ h => h) (Or.inl ⟨by rfl, fun W => q_run1 130 (.string NP) (by simp only [q_same, q_ne, q_sz, hsz, h11, ne_eq, Nat.reduceEqDiff, not_false_eq_true, Nat.reduceLT]) (fun ρ hc hf e1 => by simp [go_sem, hc, hf, e1, hNPz, hs10])⟩) ?_
      change wpAny _ _ _ _ _ _ (Act.put _ (some 131) _) _
      refine wpAny_take (i := 35) (v := (.agg #[.string s10, .int .i64 4])) rfl (by kernel_rfl) (by kernel_rfl) (by kernel_rfl) (fun _ _ _ h => h) (Or.inl ⟨by rfl, fun W => q_run1 131 (.string s10) (by simp only [q_same, q_ne, q_sz, hsz, h11, ne_eq, Nat.reduceEqDiff, not_false_eq_true, Nat.reduceLT]) (fun ρ hc hf e1 => by simp [go_sem, hc, hf, e1])⟩) ?_
      change wpAny _ _ _ _ _ _ (Act.put _ (some 132) _) _
      refine wpAny_take (i := 36) (v := (.string NM)) rfl (by kernel_rfl) (by kernel_rfl) (by kernel_rfl) (fun _ _ _ h => h) (Or.inl ⟨by rfl, fun W => q_run1 11 (.string NM) (by simp only [q_same, q_ne, q_sz, hsz, h11, ne_eq, Nat.reduceEqDiff, not_false_eq_true, Nat.reduceLT]) (fun ρ hc hf e1 => by simp [go_sem, hc, hf, e1])⟩) ?_
      change wpAny _ _ _ _ _ _ (Act.put _ (some 133) _) _
      refine wpAny_take (i := 37) (v := (.string s11)) rfl (by kernel_rfl) (by kernel_rfl) (by kernel_rfl) (fun _ _ _ h => h) (Or.inl ⟨by rfl, fun W => q_run1 133 (.string NM) (by simp only [q_same, q_ne, q_sz, hsz, h11, ne_eq, Nat.reduceEqDiff, not_false_eq_true, Nat.reduceLT]) (fun ρ hc hf e1 => by simp [go_sem, hc, hf, e1, hNz, hs11])⟩) ?_
      change wpAny _ _ _ _ _ _ (Act.put _ (some 134) _) _
      refine wpAny_take (i := 38) (v := (.agg #[.string s11, .int .i64 3])) rfl (by kernel_rfl) (by kernel_rfl) (by kernel_rfl) (fun _ _ _ h => h) (Or.inl ⟨by rfl, fun W => q_run1 134 (.string s11) (by simp only [q_same, q_ne, q_sz, hsz, h11, ne_eq, Nat.reduceEqDiff, not_false_eq_true, Nat.reduceLT]) (fun ρ hc hf e1 => by simp [go_sem, hc, hf, e1])⟩) ?_
      change wpAny _ _ _ _ _ _ (Act.put _ (some 135) _) _
      refine wpAny_take (i := 41) (v := (.int .i64 0)) rfl (by kernel_rfl) (by kernel_rfl) (by kernel_rfl) (fun _ _ _ h => h) (Or.inl ⟨by rfl, fun W => q_run1 11 (.string NM) (by simp only [q_same, q_ne, q_sz, hsz, h11, ne_eq, Nat.reduceEqDiff, not_false_eq_true, Nat.reduceLT]) (fun ρ hc hf e1 => by simp [go_sem, hc, hf, e1])⟩) ?_
      change wpAny _ _ _ _ _ _ (Act.put _ (some 138) _) _
      refine wpAny_ready (rs := [39]) (by kernel_rfl) (by simp) (AllReady.cons rfl (fun K hK => ?_) AllReady.nil)
      refine q_valv (.slice (some ⟨w9.heap.size, 0, none⟩) 12 12) W8 rfl (q_run12 (k0 := 99) (x0 := .agg #[.string s0, .int .i64 0]) (by simp only [q_same, q_ne, q_sz, hsz, h11, ne_eq, Nat.reduceEqDiff, not_false_eq_true, Nat.reduceLT]) (k1 := 102) (x1 := .agg #[.string s1, .int .i64 0]) (by simp only [q_same, q_ne, q_sz, hsz, h11, ne_eq, Nat.reduceEqDiff, not_false_eq_true, Nat.reduceLT]) (k2 := 105) (x2 := .agg #[.string s2, .int .i64 0]) (by simp only [q_same, q_ne, q_sz, hsz, h11, ne_eq, Nat.reduceEqDiff, not_false_eq_true, Nat.reduceLT]) (k3 := 108) (x3 := .agg #[.string s3, .int .i64 4]) (by simp only [q_same, q_ne, q_sz, hsz, h11, ne_eq, Nat.reduceEqDiff, not_false_eq_true, Nat.reduceLT]) (k4 := 111) (x4 := .agg #[.string s4, .int .i64 4]) (by simp only [q_same, q_ne, q_sz, hsz, h11, ne_eq, Nat.reduceEqDiff, not_false_eq_true, Nat.reduceLT]) (k5 := 114) (x5 := .agg #[.string s5, .int .i64 3]) (by simp only [q_same, q_ne, q_sz, hsz, h11, ne_eq, Nat.reduceEqDiff, not_false_eq_true, Nat.reduceLT]) (k6 := 117) (x6 := .agg #[.string s6, .int .i64 1]) (by simp only [q_same, q_ne, q_sz, hsz, h11, ne_eq, Nat.reduceEqDiff, not_false_eq_true, Nat.reduceLT]) (k7 := 120) (x7 := .agg #[.string s7, .int .i64 5]) (by simp only [q_same, q_ne, q_sz, hsz, h11, ne_eq, Nat.reduceEqDiff, not_false_eq_true, Nat.reduceLT]) (k8 := 124) (x8 := .agg #[.string s8, .int .i64 6]) (by simp only [q_same, q_ne, q_sz, hsz, h11, ne_eq, Nat.reduceEqDiff, not_false_eq_true, Nat.reduceLT]) (k9 := 128) (x9 := .agg #[.string s9, .int .i64 6]) (by simp only [q_same, q_ne, q_sz, hsz, h11, ne_eq, Nat.reduceEqDiff, not_false_eq_true, Nat.reduceLT]) (k10 := 132) (x10 := .agg #[.string s10, .int .i64 4]) (by simp only [q_same, q_ne, q_sz, hsz, h11, ne_eq, Nat.reduceEqDiff, not_false_eq_true, Nat.reduceLT]) (k11 := 135) (x11 := .agg #[.string s11, .int .i64 3]) (by simp only [q_same, q_ne, q_sz, hsz, h11, ne_eq, Nat.reduceEqDiff, not_false_eq_true, Nat.reduceLT]) (fun ρ hc e0 e1 e2 e3 e4 e5 e6 e7 e8 e9 e10 e11 => by rw [hW8]; simp [go_sem, hc, e0, e1, e2, e3, e4, e5, e6, e7, e8, e9, e10, e11])) ?_
      refine hK _ _ ?_
      change wpAny _ _ _ _ _ _ (Act.put _ (some 136) _) _
      refine wpAny_take (i := 40) (v := (.int .i64 12)) rfl (by kernel_rfl) (by kernel_rfl) (by kernel_rfl) (fun _ _ _ h => h) (Or.inl ⟨by rfl, fun W => q_run1 136 (.slice (some ⟨w9.heap.size, 0, none⟩) 12 12) (by simp only [q_same, q_ne, q_sz, hsz, h11, ne_eq, Nat.reduceEqDiff, not_false_eq_true, Nat.reduceLT]) (fun ρ hc hf e1 => by simp [go_sem, hc, hf, e1])⟩) ?_
      change wpAny _ _ _ _ _ _ (Act.put _ (some 137) _) _
      refine wpAny_done (by kernel_rfl) ?_ _
      have hfr := HFR.out
      clear HFR hsz h11 hW8
      subst hfr
      simp only [Act.put, List.setIfInBounds_toArray, List.set_cons_zero, List.set_cons_succ]
      clear hs0 hs1 hs2 hs3 hs4 hs5 hs6 hs7 hs8 hs9 hs10 hs11
      generalize w9.heap.size = g12 at HTQ ⊢
      go_upto_region 18 with fail
      go_loopg [138] 12 (fun g iv wx => ∃ j : Nat, j + g = 12 ∧ iv = .int .i64 (j : Int) ∧ Below W8.heap.size W8 wx)
      case atStart => exact ⟨0, by omega, rfl, Below.refl _ _⟩
      case round =>
        obtain ⟨j, hjg, rfl, hb⟩ := hrel
        have HB : Hid (Below W8.heap.size W8 wr) := hb
        have HBW : Hid (Below w.heap.size w wr) := HB10.out.trans (hb.mono HB10.out.size)
        have HJ : Hid (j + gk = 12) := hjg
        by_cases hlt : j < 12
        · have hji : (j : Int) < 12 := by omega
          obtain ⟨⟨t, ee⟩, hal⟩ : ∃ x, knQ[j]? = some x := ⟨_, List.getElem?_eq_getElem hlt⟩
          obtain ⟨d0, d1, hl3⟩ := HTQ.out j t ee hal
          have hg12 : g12 < W8.heap.size := World.block_lt_of_cell? W8 _ d0
          rw [← hb.cell (p := ⟨g12, j * 2, none⟩) hg12] at d0
          rw [← hb.cell (p := ⟨g12, j * 2 + 1, none⟩) hg12] at d1
          obtain ⟨s, hs⟩ : ∃ s, s = ofL t := ⟨_, rfl⟩
          rw [← hs] at d0
          obtain ⟨W6, hW6⟩ : ∃ V, V = wr.alloc (.cells #[.string s, .int .i64 ee] 55) := ⟨_, rfl⟩
          have hb6 : Below wr.heap.size wr W6 := by rw [hW6]; exact (Below.refl _ _).alloc (Nat.le_refl _) _
          have ht := told_srv j t ee hal
          have hen := serve_any kcT B s W6 (HKT.out W6 (HBW.out.trans (hb6.mono HBW.out.size))) (by rw [hBz]; decide) (by rw [hs, ofL_size]; exact Nat.le_trans hl3 (by decide))
          rw [HBS.out, show s.data.toList = t by rw [hs]; exact ofL_data _] at hen
          generalize srvR (dd kcT) (rMsg 80 knB) (rReq t) = ER at hen ht
          obtain ⟨m0, e0⟩ := ER
          obtain ⟨he0, hme⟩ := ht
          have he0' : e0 = ee := he0
          subst he0'
          obtain ⟨m, hm⟩ : ∃ m, m = ofL m0 := ⟨_, rfl⟩
          have HEN : Hid (Calls Tryd.prog 21 #[.string B, .string s] W6 fun x w' => x = .returned (.tuple #[.string m, .int .i64 e0]) ∧ Below W6.heap.size W6 w') := by rw [hm]; exact hen
          have y0 : W6.cell? ⟨wr.heap.size, 0, none⟩ = some (.string s) := by rw [hW6]; simp [go_sem]
          have y1 : W6.cell? ⟨wr.heap.size, 1, none⟩ = some (.int .i64 e0) := by rw [hW6]; simp [go_sem]
          have HY1 : Hid (∀ V, Below W6.heap.size W6 V → V.cell? ⟨wr.heap.size, 1, none⟩ = some (.int .i64 e0)) := fun V hV => by
            rw [hV.cell (p := ⟨wr.heap.size, 1, none⟩) (World.block_lt_of_cell? W6 _ y1)]; exact y1
          have HB6 : Hid (Below wr.heap.size wr W6) := hb6
          clear hal hen hjg hb hb6 y1 hl3 hs
          go_upto_region 20 with fail
          rw [← hW6]
          clear hW6 d0 d1
          rcases hme with ⟨hz, hne⟩ | ⟨hz, hnil⟩
          · subst hz
            have hmt : m.toList.isEmpty = false := by
              rw [hm, toL, ofL_data, List.isEmpty_eq_false_iff]; exact hne
            clear hm
            go_upto_region 21 with (go_at_call 21; go_must (refine HEN.out.mono ?_); rintro e w7 ⟨rfl, hb7⟩; have HB7 := (show Hid (Below W6.heap.size W6 w7) from hb7); clear hb7)
            have y1 := HY1.out w7 HB7.out
            go_wp2
            go_roundg (gk - 1)
            case measure => have := HJ.out; omega
            case rel =>
              have := HJ.out
              exact ⟨j + 1, by omega, by go_num, HB.out.trans ((HB6.out.trans (HB7.out.mono HB6.out.size)).mono HB.out.size)⟩
          · have hm2 : m = ⟨#[]⟩ := by rw [hm, show m0 = [] from hnil]; rfl
            subst hm2
            have hzb : (e0 == 0) = false := by rw [beq_eq_false_iff_ne]; exact hz
            clear hm
            go_upto_region 21 with (go_at_call 21; go_must (refine HEN.out.mono ?_); rintro e w7 ⟨rfl, hb7⟩; have HB7 := (show Hid (Below W6.heap.size W6 w7) from hb7); clear hb7)
            have y1 := HY1.out w7 HB7.out
            go_wp2
            go_roundg (gk - 1)
            case measure => have := HJ.out; omega
            case rel =>
              have := HJ.out
              exact ⟨j + 1, by omega, by go_num, HB.out.trans ((HB6.out.trans (HB7.out.mono HB6.out.size)).mono HB.out.size)⟩
        · have hji : ¬ ((j : Int) < 12) := by omega
          have hB100 : (100 : Nat) ≤ B.size := by omega
          have HSX : Hid (Calls Tryd.prog 21 #[.string (B.extract 0 100), .string NM] wr fun e w' => e = .returned (.tuple #[.string ⟨#[]⟩, .int .i64 1]) ∧ Below wr.heap.size wr w') := by
            have hex : B.extract 0 100 = ofL (knB.take 100) := by
              have hB : B = ofL knB := by rw [← HBS.out, ofL_of]
              rw [hB, ofL_extract, List.drop_zero]
            rw [hex]
            have h := serve_any kcT (ofL (knB.take 100)) NM wr (HKT.out wr HBW.out) (Nat.le_trans (by rw [ofL_size]; exact List.length_take_le _ _ : (ofL (knB.take 100)).size ≤ 100) (by decide)) (by rw [hNz]; decide)
            rw [ofL_data, kn_srvx] at h
            exact h
          have HRN : Hid (∀ V, Calls Tryd.prog 18 #[.slice none 0 0] V fun e w' => e = .returned (.tuple #[.string ⟨#[]⟩, .bool false, .int .i64 3]) ∧ Below V.heap.size V w') := fun V => by
            have h := rroot_nil kcT none 0 V
            rw [show rootRes kcT [] = #[.string ByteArray.empty, .bool false, .int .i64 3] by simp [rootRes]] at h
            exact h
          have HRR : Hid (∀ V, Below w.heap.size w V → Calls Tryd.prog 18 #[.slice (some ⟨V.heap.size, 0, none⟩) 2 2] (V.alloc (.cells #[.string NM, .string NP] 9)) fun e w' => e = .returned (.tuple #[.string ⟨#[]⟩, .bool false, .int .i64 3]) ∧ Below V.heap.size V w') := fun V hV => by
            have ha : Below V.heap.size V (V.alloc (.cells #[.string NM, .string NP] 9)) := (Below.refl _ _).alloc (Nat.le_refl _) _
            have h := rroot_any kcT [NM, NP] V.heap.size 0 2 (V.alloc (.cells #[.string NM, .string NP] 9)) (fun q hq => by
              match q, hq with
              | 0, _ => simp [go_sem]
              | 1, _ => simp [go_sem]) (by simp) (by simp) (HKT.out _ (hV.trans (ha.mono hV.size)))
            rw [show rootRes kcT [NM, NP] = #[.string ByteArray.empty, .bool false, .int .i64 3] by
              unfold rootRes; rw [if_neg (fun k => by have := k.2 NP (by simp); omega)]] at h
            exact h.mono fun e w' ⟨h1, h2⟩ => ⟨h1, ha.trans (h2.mono ha.size)⟩
          clear hjg hb HTQ HJ HB
          go_upto_region 25 with (go_at_call 21; go_must (refine HSX.out.mono ?_); rintro e w11 ⟨rfl, hb11⟩; have HB11 := (show Hid (Below w.heap.size w w11) from HBW.out.trans (hb11.mono HBW.out.size)); clear hb11)
          go_upto_region 26 with (go_at_call 18; go_must (refine (HRN.out _).mono ?_); rintro e w12 ⟨rfl, hb12⟩; have HB12 := (show Hid (Below w.heap.size w w12) from HB11.out.trans (hb12.mono HB11.out.size)); clear hb12)
          go_upto_region 27 with (go_at_call 18; go_must (refine (HRR.out _ HB12.out).mono ?_); rintro e w13 ⟨rfl, hb13⟩; have HB13 := (show Hid (Below w.heap.size w w13) from HB12.out.trans (hb13.mono HB12.out.size)); clear hb13)
          go_wp2
          go_ret
          exact ⟨rfl, HB13.out⟩
end Go.Proofs.YtkmalggeieiepabDoor
namespace Go.Proofs.YtkmalggeieiepabDoor
open Go.ChangeShapes Go.WideShapes Go.ChangeAt Go.RowKit
set_option linter.unusedVariables false

theorem ownV : ownKnob Tryd.prog.godebug = none := by kernel_rfl
theorem gWords : Tryd.prog.globalNamed "compact/hashes.roundWords" = some 0 := by kernel_rfl
theorem tWords : (Tryd.prog.globals[0]?).map (·.type) = some 135 := by kernel_rfl
theorem door_met (os : Os) (args : Array Value) : laidMetH Tryd.prog Rows.knownRow.laid ((World.doorLaid Tryd.prog 400 os).forCall (fun _ _ => 0) ⟨#[], args, []⟩).memory :=
  laidMetH_of_parts3 (fuel := 8) (laidMet_of_run' 8 (by kernel_rfl) (by kernel_rfl)) (by kernel_rfl) (by kernel_rfl)
theorem kt_of {W : World} (h : laidMetH Tryd.prog Rows.knownRow.laid W) : KT kcT W := by
  rw [MakeChecks.laidMetH_plain _ _ _ (by kernel_rfl)] at h
  have h2 : laidMet Tryd.prog (("compact/hashes.roundWords", Lib.tabData .u32 ktab) :: []) W := h
  have hT := Lib.tabIs_of_head gWords tWords Tryd.underlying135 Tryd.underlying97 (by kernel_rfl) (by kernel_rfl) h2
  exact fun i hi => hT.cell gWords i hi

set_option maxRecDepth 100000 in
theorem known_lifted (os : Os) (started : os.Started) (H : Type) (enc : TypeId × Value → H) :
    ReturnsInHanded {} Tryd.checked os 6 .any (fun w args => (Rows.knownSpec.pre enc Tryd.prog Tryd.f6 [] false w args ∧ laidMetH Tryd.prog Rows.knownRow.laid w) ∧ sizedMet enc Tryd.prog Tryd.f6 (OpenSpec.ofChange Rows.knownSpec) false w args)
      (Rows.knownSpec.post enc Tryd.prog Tryd.f6 false true false false) := by
  refine returnsInHanded_of_change_and (C := Tryd.checked) (X := fun w _ => laidMetH Tryd.prog Rows.knownRow.laid w) (fun _ _ _ hh h => h.of_heap hh) ownV started (by kernel_rfl) Tryd.func6
    (ChangeSpec.witness_shaped (enc := enc) (C := Tryd.checked) (os := os) (X := fun w _ => laidMetH Tryd.prog Rows.knownRow.laid w) false (World.doorLaid Tryd.prog 400 os) #[] 8 rfl (World.shaped_of_RefB (by kernel_rfl) (by kernel_rfl)) (by kernel_rfl) (by kernel_rfl) (by kernel_rfl) (door_met os _)) ?_
  intro W base args ds gs before hval0 hW _ _ hL _
  have hW' := hW
  obtain ⟨p, q, hA0, hV, rfl, hfz, hnd⟩ := hW
  have hA : DataW.TrodAll enc Tryd.prog W 0 (fun _ => true) true Tryd.f6.params.toList args.toList ds p := hA0
  rw [Tryd.params6] at hA
  obtain ⟨he0, rfl, rfl⟩ := trodAll_none hA
  obtain rfl : args = #[] := by cases args; simp_all
  obtain ⟨rfl, rfl⟩ := trodVars_none hV
  have hkt := kt_of hL
  have hpos : 0 < W.heap.size := World.block_lt_of_cell? W _ (hkt 0 (by omega))
  clear hA0 hval0
  refine (known_walk W hkt).mono fun e W' ⟨he, bel⟩ => ?_
  subst he
  exact ⟨_, rfl, _, _, _, [], _, [], hW', trodAll_mk1 (shut_bool Tryd.underlying4 _), trodAll_mk0, rfl, bel.frame _, fun h => by cases h⟩

theorem known_holds : Rows.KnownSaid :=
  OpenClaim.holds_of_wide 6 Tryd.f6 rfl rfl rfl rfl rfl rfl rfl ⟨rfl, rfl, rfl, rfl, rfl⟩ rfl rfl rfl rfl rfl (by kernel_rfl) Tryd.func6 (by kernel_rfl)
    (of_decide_eq_true (by kernel_rfl)) (by unfold Func.isWrapper; first | (rw [if_pos (by decide +kernel)]; kernel_rfl) | (rw [if_neg (by decide +kernel)]; exact ⟨rfl, rfl⟩))
    (fun os started H enc _ => known_lifted os started H enc)

set_option maxRecDepth 100000 in
theorem known_card : Rows.KnownCardSaid :=
  Claim7.holds_tied_plain_at .later [] [.data] true _ _
    known_holds (fun _ h => by cases h) (by kernel_rfl) (fun _ h => by cases h) known_row_tie rfl ⟨rfl, rfl⟩ (by kernel_rfl) rfl
    (fun f fn hf hfn => by
      obtain rfl : f = 6 := Option.some.inj ((show Tryd.prog.funcNamed "compact/compactkeep.Known" = some 6 by kernel_rfl).symm.trans hf) |>.symm
      obtain rfl : fn = Tryd.f6 := (Option.some.inj (Tryd.func6.symm.trans hfn)).symm
      exact ⟨by kernel_rfl, fun j t ht => by
        rw [Tryd.params6] at ht
        simp at ht⟩)
    (by kernel_rfl)
#print axioms known_card
end Go.Proofs.YtkmalggeieiepabDoor
