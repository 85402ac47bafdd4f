import Derived.Test.YtkmalggeieiepaaGreatDoorRefB
import Derived.Test.YtkmalggeieiepaaGreatDoorRefC
import Derived.WalkKit
import Derived.WalkSpells
import Derived.WalkLawsBesides
import Derived.Deep.LoopGhost
import Derived.Deep.DeepCutAuto
namespace Go.Proofs.YtkmalggeieiepaaGreatDoor
open Go.RowKit

def powI (X : Int) : Nat → Int
  | 0 => 1
  | n + 1 => powI X n * X
/-- three digits. -/
def dg3 (X : Int) : Nat → Int
  | 0 => X % 65536
  | 1 => X / 65536 % 65536
  | _ => X / 65536 / 65536
theorem dg3_dig (X : Int) (h0 : 0 ≤ X) (h1 : X < 281474976710656) : Dig (dg3 X) 3 := by
  intro j hj
  match j, hj with
  | 0, _ => show 0 ≤ X % 65536 ∧ X % 65536 < 65536; omega
  | 1, _ => show 0 ≤ X / 65536 % 65536 ∧ X / 65536 % 65536 < 65536; omega
  | 2, _ => show 0 ≤ X / 65536 / 65536 ∧ X / 65536 / 65536 < 65536; omega
theorem dg3_val (X : Int) : vV (dg3 X) 3 = X := by
  show 0 + X % 65536 * 1 + X / 65536 % 65536 * (1 * 65536) + X / 65536 / 65536 * (1 * 65536 * 65536) = X
  omega
theorem half_pow (e : Nat) : (2 : Int) ^ e / 2 = if e = 0 then 0 else 2 ^ (e - 1) := by
  match e with
  | 0 => rfl
  | n + 1 => rw [if_neg (by omega), Int.pow_succ]; show 2 ^ n * 2 / 2 = 2 ^ n; omega

set_option maxRecDepth 10000 in
set_option maxHeartbeats 1000000 in
theorem root2_any (p : Int) (w : World) (p0 : 0 ≤ p) (p1 : p ≤ 400) :
    Calls Tryz.prog 15 #[.int .i64 p, .int .i64 2] w fun e w' => ∃ r : Int, e = .returned (.int .i64 (r % 4294967296)) ∧ 0 ≤ r ∧ r * r ≤ p * pw 4 ∧ p * pw 4 < (r + 1) * (r + 1) ∧ Below w.heap.size w w' := by
  have hmk : ∀ W : World, (Instr.makeSlice 36 (.int .i64 4) (.int .i64 5)).run Tryz.prog W = .ok (.slice (some ⟨W.heap.size, 0, none⟩) 4 5) (W.alloc (.cells #[.int .i64 0, .int .i64 0, .int .i64 0, .int .i64 0, .int .i64 0] 3)) := fun _ => by kernel_rfl
  obtain ⟨GV, HGV⟩ : ∃ GV, Hid (GV = p * pw 4) := ⟨_, rfl⟩
  have HGB : Hid (GV < (2 ^ 37 : Int) * (2 ^ 37 : Int)) := by show GV < _; rw [HGV.out]; simp only [pw]; omega
  have HG0 : Hid (0 ≤ GV) := by show 0 ≤ GV; rw [HGV.out]; simp only [pw]; omega
  go_enter Tryz.func15, Tryz.ntmps15
  go_upto_region 5 with fail
  clear hmk
  go_loopg [6, 7] 37 (fun g r t wx => ∃ x : Int, ∃ fG : Nat → Int, r = .int .i64 x ∧ t = .int .i64 (if g = 0 then 0 else 2 ^ (g - 1)) ∧ g ≤ 37 ∧ 0 ≤ x ∧ x + 2 ^ g ≤ 2 ^ 37 ∧ x * x ≤ GV ∧ GV < (x + 2 ^ g) * (x + 2 ^ g) ∧ Arr .i64 wx w.heap.size fG 5 ∧ Dig fG 5 ∧ vV fG 5 = GV ∧ Below w.heap.size w wx)
  case atStart =>
    refine ⟨0, (fun j => if j = 4 then p else 0), rfl, rfl, by omega, by omega, by omega, by have := HG0.out; simpa using this, by simpa using HGB.out, (Arr.newAt w _ 5 _ _ _ (by rfl) rfl).alloc (by omega) _, ?_, ?_, ((Below.refl _ _).alloc (Nat.le_refl _) _).alloc (by simp) _⟩
    · intro j hj; dsimp only; split <;> omega
    · rw [HGV.out]; simp [vV]
  case round =>
    obtain ⟨x, fG, rfl, rfl, hg, x0, x1, hle, hlt, hG, dG, vG, hb⟩ := hrel
    have HG : Hid (Arr .i64 wr w.heap.size fG 5) := hG
    have HD : Hid (Dig fG 5) := dG
    have HV : Hid (vV fG 5 = GV) := vG
    have HB : Hid (Below w.heap.size w wr) := hb
    have HLE : Hid (x * x ≤ GV) := hle
    have HLT : Hid (GV < (x + 2 ^ gk) * (x + 2 ^ gk)) := hlt
    clear hG dG vG hb hle hlt
    by_cases h0 : gk = 0
    · subst h0
      have hx37 : x < 137438953472 := by simp at x1; omega
      simp only [if_true]
      clear x1 hg
      go_wp2
      go_ret
      refine ⟨x, rfl, x0, ?_, ?_, HB.out⟩
      · rw [← HGV.out]; exact HLE.out
      · rw [← HGV.out]; simpa using HLT.out
    · obtain ⟨e, rfl⟩ : ∃ e, gk = e + 1 := ⟨gk - 1, by omega⟩
      have hb0 : (0 : Int) < 2 ^ e := by exact Int.pow_pos (by omega)
      have hs : (2 : Int) ^ (e + 1) = 2 ^ e * 2 := Int.pow_succ 2 e
      rw [hs] at x1
      have HS : Hid ((2 : Int) ^ (e + 1) = 2 ^ e * 2) := hs
      rw [if_neg (by omega), show e + 1 - 1 = e from rfl]
      have x1' : x + (2 : Int) ^ e * 2 ≤ 137438953472 := by simpa using x1
      have HE : Hid (∃ b : Int, b = 2 ^ e) := ⟨_, rfl⟩
      obtain ⟨b, hbe⟩ := HE.out
      have HBE : Hid (b = 2 ^ e) := hbe
      rw [← hbe] at hb0 x1' ⊢
      have hg36 : e ≤ 36 := by omega
      clear hs x1 HE hbe hg h0
      go_upto_region 11 with fail
      have hX0 : 0 ≤ x + b := by omega
      have hX1 : x + b < 281474976710656 := by omega
      obtain ⟨X, HX⟩ : ∃ X, Hid (X = x + b) := ⟨_, rfl⟩
      rw [← HX.out] at hX0 hX1 ⊢
      have A0 := Arr.new wr (dg3 X) 3 #[.int .i64 (X % 65536), .int .i64 (X / 65536 % 65536), .int .i64 (X / 65536 / 65536)] 3 (by rfl)
      have A1 := HG.out.alloc (by omega) (.cells #[.int .i64 (X % 65536), .int .i64 (X / 65536 % 65536), .int .i64 (X / 65536 / 65536)] 3)
      have A2 := HB.out.alloc HB.out.size (.cells #[.int .i64 (X % 65536), .int .i64 (X / 65536 % 65536), .int .i64 (X / 65536 / 65536)] 3)
      have hzz := HB.out.size
      generalize wr.alloc (.cells #[.int .i64 (X % 65536), .int .i64 (X / 65536 % 65536), .int .i64 (X / 65536 / 65536)] 3) = W0 at A0 A1 A2
      obtain ⟨gd, HGD⟩ : ∃ g, Hid (g = wr.heap.size) := ⟨_, rfl⟩
      rw [← HGD.out] at A0 hzz ⊢
      have HA0 : Hid (Arr .i64 W0 gd (dg3 X) 3) := A0
      have HA1 : Hid (Arr .i64 W0 w.heap.size fG 5) := A1
      have HA2 : Hid (Below w.heap.size w W0) := A2
      have HDX : Hid (Dig (dg3 X) 3) := dg3_dig X hX0 hX1
      have HVX : Hid (vV (dg3 X) 3 = X) := dg3_val X
      clear A0 A1 A2 HG HB
      go_loopg [10, 11] 1 (fun g n k wx => ∃ kk : Nat, ∃ gn : Nat, ∃ L : Nat, ∃ fn : Nat → Int, kk + g = 2 ∧ 1 ≤ kk ∧ k = .int .i64 kk ∧ n = .slice (some ⟨gn, 0, none⟩) L L ∧ L = 3 * kk ∧ Arr .i64 wx gn fn L ∧ Dig fn L ∧ vV fn L = powI X kk ∧ Arr .i64 wx gd (dg3 X) 3 ∧ Arr .i64 wx w.heap.size fG 5 ∧ Below w.heap.size w wx)
      case atStart => exact ⟨1, gd, 3, dg3 X, rfl, by omega, rfl, rfl, rfl, HA0.out, HDX.out, by rw [HVX.out]; simp [powI], HA0.out, HA1.out, HA2.out⟩
      case round =>
        clear HA0 HA1 HA2
        obtain ⟨kk, gn, L, fn, hkk, hk1, rfl, rfl, hL, hN, dN, vN, hA0, hA1, hb⟩ := hrel
        have HKK : Hid (kk + gk = 2) := hkk
        have HL : Hid (L = 3 * kk) := hL
        have HN : Hid (Arr .i64 wr gn fn L) := hN
        have HDN : Hid (Dig fn L) := dN
        have HVN : Hid (vV fn L = powI X kk) := vN
        have HA0 : Hid (Arr .i64 wr gd (dg3 X) 3) := hA0
        have HA1 : Hid (Arr .i64 wr w.heap.size fG 5) := hA1
        have HB : Hid (Below w.heap.size w wr) := hb
        have l0 := hA0.lt (by omega)
        have l1 := hA1.lt (by omega)
        have hsz := hb.size
        clear hkk hL hN dN vN hA0 hA1 hb
        by_cases hkp : kk < 2
        · have hcall := times_any gn gd L fn (dg3 X) wr (by have := HL.out; omega) HN.out HA0.out HDN.out HDX.out
          go_wp2_with (go_at_call 31; go_must (refine hcall.mono ?_); rintro e2 w2 ⟨g2, f2, rfl, hg2, hF2, hD2, hV2, hb2⟩; have H2 : Hid (Arr .i64 w2 g2 f2 (L + 3) ∧ Dig f2 (L + 3) ∧ vV f2 (L + 3) = vV fn L * vV (dg3 X) 3 ∧ Below wr.heap.size wr w2) := ⟨hF2, hD2, hV2, hb2⟩; clear hg2 hF2 hD2 hV2 hb2)
          go_roundg (gk - 1)
          case measure => have := HKK.out; omega
          case rel =>
            obtain ⟨hF2, hD2, hV2, hb2⟩ := H2.out
            have hk := HKK.out
            have hl := HL.out
            refine ⟨kk + 1, g2, L + 3, f2, by omega, by omega, by go_num, rfl, by omega, hF2, hD2, ?_, HA0.out.later hb2 l0, HA1.out.later hb2 l1, HB.out.trans (hb2.mono hsz)⟩
            rw [hV2, HVN.out, HVX.out]; rfl
        · have hkP : kk = 2 := by have := HKK.out; omega
          have hL : L = 6 := by have := HL.out; omega
          subst hL
          have HRES : Hid (decide (vV fG 5 < vV fn 6) = decide (GV < X * X)) := by
            show decide _ = decide _
            rw [HVN.out, HV.out, hkP]; simp [powI]
          have hcall := above_any gn w.heap.size 6 5 5 fn fG wr (by omega) HN.out HA1.out HDN.out HD.out
          rw [HRES.out] at hcall
          clear hkP
          by_cases hab : GV < X * X
          · have hdt : decide (GV < X * X) = true := by simpa using hab
            rw [hdt] at hcall
            clear hdt
            have HAB : Hid (GV < X * X) := hab
            clear hab
            go_wp2_with (go_at_call 32; go_must (refine hcall.mono ?_); rintro e2 w2 ⟨rfl, hw⟩; obtain rfl := hw.symm)
            go_roundg e
            case measure => omega
            case rel =>
              have hbe := HBE.out
              have hX := HX.out
              refine ⟨x, fG, rfl, ?_, by omega, x0, ?_, HLE.out, ?_, HA1.out, HD.out, HV.out, HB.out⟩
              · rw [hbe, half_pow]
              · rw [← hbe]; simp; omega
              · rw [← hbe, ← hX]; exact HAB.out
          · have hdt : decide (GV < X * X) = false := by simpa using hab
            rw [hdt] at hcall
            clear hdt
            have HAB : Hid (¬ GV < X * X) := hab
            clear hab
            go_wp2_with (go_at_call 32; go_must (refine hcall.mono ?_); rintro e2 w2 ⟨rfl, hw⟩; obtain rfl := hw.symm)
            go_roundg e
            case measure => omega
            case rel =>
              have hbe := HBE.out
              have hX := HX.out
              refine ⟨X, fG, rfl, ?_, by omega, by omega, ?_, by have := HAB.out; omega, ?_, HA1.out, HD.out, HV.out, HB.out⟩
              · rw [hbe, half_pow]
              · rw [← hbe, hX]; simp; omega
              · have h := HLT.out
                rw [HS.out, ← hbe] at h
                rw [← hbe, hX, show x + b + b = x + b * 2 by omega]; exact h

set_option maxRecDepth 10000 in
set_option maxHeartbeats 1000000 in
theorem root3_any (p : Int) (w : World) (p0 : 0 ≤ p) (p1 : p ≤ 400) :
    Calls Tryz.prog 15 #[.int .i64 p, .int .i64 3] w fun e w' => ∃ r : Int, e = .returned (.int .i64 (r % 4294967296)) ∧ 0 ≤ r ∧ r * r * r ≤ p * pw 6 ∧ p * pw 6 < (r + 1) * (r + 1) * (r + 1) ∧ Below w.heap.size w w' := by
  have hmk : ∀ W : World, (Instr.makeSlice 36 (.int .i64 6) (.int .i64 7)).run Tryz.prog W = .ok (.slice (some ⟨W.heap.size, 0, none⟩) 6 7) (W.alloc (.cells #[.int .i64 0, .int .i64 0, .int .i64 0, .int .i64 0, .int .i64 0, .int .i64 0, .int .i64 0] 3)) := fun _ => by kernel_rfl
  obtain ⟨GV, HGV⟩ : ∃ GV, Hid (GV = p * pw 6) := ⟨_, rfl⟩
  have HGB : Hid (GV < (2 ^ 37 : Int) * (2 ^ 37 : Int) * (2 ^ 37 : Int)) := by show GV < _; rw [HGV.out]; simp only [pw]; omega
  have HG0 : Hid (0 ≤ GV) := by show 0 ≤ GV; rw [HGV.out]; simp only [pw]; omega
  go_enter Tryz.func15, Tryz.ntmps15
  go_upto_region 5 with fail
  clear hmk
  go_loopg [6, 7] 37 (fun g r t wx => ∃ x : Int, ∃ fG : Nat → Int, r = .int .i64 x ∧ t = .int .i64 (if g = 0 then 0 else 2 ^ (g - 1)) ∧ g ≤ 37 ∧ 0 ≤ x ∧ x + 2 ^ g ≤ 2 ^ 37 ∧ x * x * x ≤ GV ∧ GV < (x + 2 ^ g) * (x + 2 ^ g) * (x + 2 ^ g) ∧ Arr .i64 wx w.heap.size fG 7 ∧ Dig fG 7 ∧ vV fG 7 = GV ∧ Below w.heap.size w wx)
  case atStart =>
    refine ⟨0, (fun j => if j = 6 then p else 0), rfl, rfl, by omega, by omega, by omega, by have := HG0.out; simpa using this, by simpa using HGB.out, (Arr.newAt w _ 7 _ _ _ (by rfl) rfl).alloc (by omega) _, ?_, ?_, ((Below.refl _ _).alloc (Nat.le_refl _) _).alloc (by simp) _⟩
    · intro j hj; dsimp only; split <;> omega
    · rw [HGV.out]; simp [vV]
  case round =>
    obtain ⟨x, fG, rfl, rfl, hg, x0, x1, hle, hlt, hG, dG, vG, hb⟩ := hrel
    have HG : Hid (Arr .i64 wr w.heap.size fG 7) := hG
    have HD : Hid (Dig fG 7) := dG
    have HV : Hid (vV fG 7 = GV) := vG
    have HB : Hid (Below w.heap.size w wr) := hb
    have HLE : Hid (x * x * x ≤ GV) := hle
    have HLT : Hid (GV < (x + 2 ^ gk) * (x + 2 ^ gk) * (x + 2 ^ gk)) := hlt
    clear hG dG vG hb hle hlt
    by_cases h0 : gk = 0
    · subst h0
      have hx37 : x < 137438953472 := by simp at x1; omega
      simp only [if_true]
      clear x1 hg
      go_wp2
      go_ret
      refine ⟨x, rfl, x0, ?_, ?_, HB.out⟩
      · rw [← HGV.out]; exact HLE.out
      · rw [← HGV.out]; simpa using HLT.out
    · obtain ⟨e, rfl⟩ : ∃ e, gk = e + 1 := ⟨gk - 1, by omega⟩
      have hb0 : (0 : Int) < 2 ^ e := by exact Int.pow_pos (by omega)
      have hs : (2 : Int) ^ (e + 1) = 2 ^ e * 2 := Int.pow_succ 2 e
      rw [hs] at x1
      have HS : Hid ((2 : Int) ^ (e + 1) = 2 ^ e * 2) := hs
      rw [if_neg (by omega), show e + 1 - 1 = e from rfl]
      have x1' : x + (2 : Int) ^ e * 2 ≤ 137438953472 := by simpa using x1
      have HE : Hid (∃ b : Int, b = 2 ^ e) := ⟨_, rfl⟩
      obtain ⟨b, hbe⟩ := HE.out
      have HBE : Hid (b = 2 ^ e) := hbe
      rw [← hbe] at hb0 x1' ⊢
      have hg36 : e ≤ 36 := by omega
      clear hs x1 HE hbe hg h0
      go_upto_region 11 with fail
      have hX0 : 0 ≤ x + b := by omega
      have hX1 : x + b < 281474976710656 := by omega
      obtain ⟨X, HX⟩ : ∃ X, Hid (X = x + b) := ⟨_, rfl⟩
      rw [← HX.out] at hX0 hX1 ⊢
      have A0 := Arr.new wr (dg3 X) 3 #[.int .i64 (X % 65536), .int .i64 (X / 65536 % 65536), .int .i64 (X / 65536 / 65536)] 3 (by rfl)
      have A1 := HG.out.alloc (by omega) (.cells #[.int .i64 (X % 65536), .int .i64 (X / 65536 % 65536), .int .i64 (X / 65536 / 65536)] 3)
      have A2 := HB.out.alloc HB.out.size (.cells #[.int .i64 (X % 65536), .int .i64 (X / 65536 % 65536), .int .i64 (X / 65536 / 65536)] 3)
      have hzz := HB.out.size
      generalize wr.alloc (.cells #[.int .i64 (X % 65536), .int .i64 (X / 65536 % 65536), .int .i64 (X / 65536 / 65536)] 3) = W0 at A0 A1 A2
      obtain ⟨gd, HGD⟩ : ∃ g, Hid (g = wr.heap.size) := ⟨_, rfl⟩
      rw [← HGD.out] at A0 hzz ⊢
      have HA0 : Hid (Arr .i64 W0 gd (dg3 X) 3) := A0
      have HA1 : Hid (Arr .i64 W0 w.heap.size fG 7) := A1
      have HA2 : Hid (Below w.heap.size w W0) := A2
      have HDX : Hid (Dig (dg3 X) 3) := dg3_dig X hX0 hX1
      have HVX : Hid (vV (dg3 X) 3 = X) := dg3_val X
      clear A0 A1 A2 HG HB
      go_loopg [10, 11] 2 (fun g n k wx => ∃ kk : Nat, ∃ gn : Nat, ∃ L : Nat, ∃ fn : Nat → Int, kk + g = 3 ∧ 1 ≤ kk ∧ k = .int .i64 kk ∧ n = .slice (some ⟨gn, 0, none⟩) L L ∧ L = 3 * kk ∧ Arr .i64 wx gn fn L ∧ Dig fn L ∧ vV fn L = powI X kk ∧ Arr .i64 wx gd (dg3 X) 3 ∧ Arr .i64 wx w.heap.size fG 7 ∧ Below w.heap.size w wx)
      case atStart => exact ⟨1, gd, 3, dg3 X, rfl, by omega, rfl, rfl, rfl, HA0.out, HDX.out, by rw [HVX.out]; simp [powI], HA0.out, HA1.out, HA2.out⟩
      case round =>
        clear HA0 HA1 HA2
        obtain ⟨kk, gn, L, fn, hkk, hk1, rfl, rfl, hL, hN, dN, vN, hA0, hA1, hb⟩ := hrel
        have HKK : Hid (kk + gk = 3) := hkk
        have HL : Hid (L = 3 * kk) := hL
        have HN : Hid (Arr .i64 wr gn fn L) := hN
        have HDN : Hid (Dig fn L) := dN
        have HVN : Hid (vV fn L = powI X kk) := vN
        have HA0 : Hid (Arr .i64 wr gd (dg3 X) 3) := hA0
        have HA1 : Hid (Arr .i64 wr w.heap.size fG 7) := hA1
        have HB : Hid (Below w.heap.size w wr) := hb
        have l0 := hA0.lt (by omega)
        have l1 := hA1.lt (by omega)
        have hsz := hb.size
        clear hkk hL hN dN vN hA0 hA1 hb
        by_cases hkp : kk < 3
        · have hcall := times_any gn gd L fn (dg3 X) wr (by have := HL.out; omega) HN.out HA0.out HDN.out HDX.out
          go_wp2_with (go_at_call 31; go_must (refine hcall.mono ?_); rintro e2 w2 ⟨g2, f2, rfl, hg2, hF2, hD2, hV2, hb2⟩; have H2 : Hid (Arr .i64 w2 g2 f2 (L + 3) ∧ Dig f2 (L + 3) ∧ vV f2 (L + 3) = vV fn L * vV (dg3 X) 3 ∧ Below wr.heap.size wr w2) := ⟨hF2, hD2, hV2, hb2⟩; clear hg2 hF2 hD2 hV2 hb2)
          go_roundg (gk - 1)
          case measure => have := HKK.out; omega
          case rel =>
            obtain ⟨hF2, hD2, hV2, hb2⟩ := H2.out
            have hk := HKK.out
            have hl := HL.out
            refine ⟨kk + 1, g2, L + 3, f2, by omega, by omega, by go_num, rfl, by omega, hF2, hD2, ?_, HA0.out.later hb2 l0, HA1.out.later hb2 l1, HB.out.trans (hb2.mono hsz)⟩
            rw [hV2, HVN.out, HVX.out]; rfl
        · have hkP : kk = 3 := by have := HKK.out; omega
          have hL : L = 9 := by have := HL.out; omega
          subst hL
          have HRES : Hid (decide (vV fG 7 < vV fn 9) = decide (GV < X * X * X)) := by
            show decide _ = decide _
            rw [HVN.out, HV.out, hkP]; simp [powI]
          have hcall := above_any gn w.heap.size 9 7 7 fn fG wr (by omega) HN.out HA1.out HDN.out HD.out
          rw [HRES.out] at hcall
          clear hkP
          by_cases hab : GV < X * X * X
          · have hdt : decide (GV < X * X * X) = true := by simpa using hab
            rw [hdt] at hcall
            clear hdt
            have HAB : Hid (GV < X * X * X) := hab
            clear hab
            go_wp2_with (go_at_call 32; go_must (refine hcall.mono ?_); rintro e2 w2 ⟨rfl, hw⟩; obtain rfl := hw.symm)
            go_roundg e
            case measure => omega
            case rel =>
              have hbe := HBE.out
              have hX := HX.out
              refine ⟨x, fG, rfl, ?_, by omega, x0, ?_, HLE.out, ?_, HA1.out, HD.out, HV.out, HB.out⟩
              · rw [hbe, half_pow]
              · rw [← hbe]; simp; omega
              · rw [← hbe, ← hX]; exact HAB.out
          · have hdt : decide (GV < X * X * X) = false := by simpa using hab
            rw [hdt] at hcall
            clear hdt
            have HAB : Hid (¬ GV < X * X * X) := hab
            clear hab
            go_wp2_with (go_at_call 32; go_must (refine hcall.mono ?_); rintro e2 w2 ⟨rfl, hw⟩; obtain rfl := hw.symm)
            go_roundg e
            case measure => omega
            case rel =>
              have hbe := HBE.out
              have hX := HX.out
              refine ⟨X, fG, rfl, ?_, by omega, by omega, ?_, by have := HAB.out; omega, ?_, HA1.out, HD.out, HV.out, HB.out⟩
              · rw [hbe, half_pow]
              · rw [← hbe, hX]; simp; omega
              · have h := HLT.out
                rw [HS.out, ← hbe] at h
                rw [← hbe, hX, show x + b + b = x + b * 2 by omega]; exact h
end Go.Proofs.YtkmalggeieiepaaGreatDoor
