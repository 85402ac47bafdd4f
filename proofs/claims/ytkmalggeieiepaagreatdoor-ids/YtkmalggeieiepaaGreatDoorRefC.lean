import Derived.Test.YtkmalggeieiepaaGreatDoorRows
import Derived.Test.YtkmalggeieiepaaGreatDoorRefM
import Derived.WalkKit
import Derived.WalkSpells
import Derived.WalkLawsBesides
import Derived.Deep.LoopGhost
import Derived.Deep.DeepCutAuto
namespace Go.Proofs.YtkmalggeieiepaaGreatDoor
open Go.RowKit

set_option maxRecDepth 10000 in
set_option maxHeartbeats 1000000 in
theorem above_any (ga gb la lb cb : Nat) (fa fb : Nat → Int) (w : World) (hl : (la = 6 ∧ lb = 5) ∨ (la = 9 ∧ lb = 7)) (hA : Arr .i64 w ga fa la) (hB : Arr .i64 w gb fb lb) (dA : Dig fa la) (dB : Dig fb lb) :
    Calls Tryz.prog 32 #[.slice (some ⟨ga, 0, none⟩) la la, .slice (some ⟨gb, 0, none⟩) lb cb] w fun e w' => e = .returned (.bool (decide (vV fb lb < vV fa la))) ∧ w' = w := by
  have hle : lb ≤ la := by omega
  have hla : la ≤ 9 := by omega
  have hmx : max (la : Int) (lb : Int) = la := by omega
  obtain ⟨gg, HG⟩ : ∃ g : Nat → Int, Hid (g = fun j => if j < lb then fb j else 0) := ⟨_, rfl⟩
  have HP : Hid (vV gg la = vV fb lb) := by rw [HG.out]; exact vV_pad fb lb la hle
  have HDG : Hid (Dig gg la) := by
    intro j hj; rw [HG.out]
    by_cases e : j < lb
    · simp only [e, if_true]; exact dB j e
    · simp only [e, if_false]; omega
  have HDA : Hid (Dig fa la) := dA
  rw [← HP.out]
  clear dA dB hl
  go_enter Tryz.func32, Tryz.ntmps32
  go_upto_region 2 with fail
  clear hmx
  go_loopg [5] la (fun g t wx => ∃ k : Nat, k = g ∧ k ≤ la ∧ t = .int .i64 ((k : Int) - 1) ∧ (∀ j, k ≤ j → j < la → fa j = gg j) ∧ wx = w)
  case atStart => exact ⟨la, rfl, Nat.le_refl _, rfl, fun j h1 h2 => by omega, rfl⟩
  case round =>
    obtain ⟨k, hkg, hkl, rfl, hq, hw⟩ := hrel
    obtain rfl := hw.symm
    have HKG : Hid (k = gk) := hkg
    have HQ : Hid (∀ j, k ≤ j → j < la → fa j = gg j) := hq
    clear hkg hq hw
    by_cases h0 : k = 0
    · subst h0
      have hv : vV fa la = vV gg la := vV_congr fa gg la (fun j hj => HQ.out j (by omega) hj)
      have hd : decide (vV gg la < vV fa la) = false := by simp; omega
      have HDF : Hid (decide (vV gg la < vV fa la) = false) := hd
      clear hd hv
      go_wp2
      go_ret
      exact ⟨congrArg (fun b => Ending.returned (.bool b)) HDF.out.symm, rfl⟩
    · obtain ⟨m, rfl⟩ : ∃ m, k = m + 1 := ⟨k - 1, by omega⟩
      have hcp := fun hne => vV_cmp fa gg m la (by omega) (fun j h1 h2 => HQ.out j (by omega) h2) HDA.out HDG.out hne
      have HCP : Hid (fa m ≠ gg m → (vV gg la < vV fa la ↔ gg m < fa m)) := hcp
      have ca := (hA m (by omega)).1
      have hgg : gg m = if m < lb then fb m else 0 := by rw [HG.out]
      have HGM : Hid (∃ Y, Y = gg m) := ⟨_, rfl⟩
      obtain ⟨Y, hY⟩ := HGM.out
      rw [← hY] at hgg
      have HY : Hid (Y = gg m) := hY
      have HX : Hid (∃ X, X = fa m) := ⟨_, rfl⟩
      obtain ⟨X, hX⟩ := HX.out
      rw [← hX] at ca
      have HXX : Hid (X = fa m) := hX
      have em : (((m + 1 : Nat) : Int) - 1) = (m : Int) := by omega
      rw [em]
      have hml : (m : Int) < la := by omega
      clear hcp hY hX HX HGM em
      by_cases hmb : m < lb
      · have cb2 := (hB m hmb).1
        rw [if_pos hmb] at hgg
        rw [← hgg] at cb2
        have hmb2 : (m : Int) < lb := by omega
        clear hgg
        by_cases hxy : X = Y
        · have hxb : (X != Y) = false := by simp [hxy]
          have HXY : Hid (X = Y) := hxy
          clear hxy
          go_wp2
          go_roundg m
          case measure => have := HKG.out; omega
          case rel =>
            refine ⟨m, rfl, by omega, rfl, ?_, rfl⟩
            intro j h1 h2
            by_cases e : j = m
            · subst e; rw [← HXX.out, ← HY.out]; exact HXY.out
            · exact HQ.out j (by omega) h2
        · have hxb : (X != Y) = true := by simp [hxy]
          have HRES : Hid (decide (Y < X) = decide (vV gg la < vV fa la)) := by
            have h := HCP.out (by rw [← HXX.out, ← HY.out]; exact hxy)
            rw [← HXX.out, ← HY.out] at h
            show decide _ = decide _
            simp [h]
          clear hxy
          go_wp2
          go_ret
          exact ⟨congrArg (fun b => Ending.returned (.bool b)) HRES.out, rfl⟩
      · rw [if_neg hmb] at hgg
        have hmb2 : ¬ (m : Int) < lb := by omega
        subst hgg
        by_cases hxy : X = 0
        · have hxb : (X != 0) = false := by simp [hxy]
          have HXY : Hid (X = 0) := hxy
          clear hxy
          go_wp2
          go_roundg m
          case measure => have := HKG.out; omega
          case rel =>
            refine ⟨m, rfl, by omega, rfl, ?_, rfl⟩
            intro j h1 h2
            by_cases e : j = m
            · subst e; rw [← HXX.out, ← HY.out]; exact HXY.out
            · exact HQ.out j (by omega) h2
        · have hxb : (X != 0) = true := by simp [hxy]
          have HRES : Hid (decide (0 < X) = decide (vV gg la < vV fa la)) := by
            have h := HCP.out (by rw [← HXX.out, ← HY.out]; exact hxy)
            rw [← HXX.out, ← HY.out] at h
            show decide _ = decide _
            simp [h]
          clear hxy
          go_wp2
          go_ret
          exact ⟨congrArg (fun b => Ending.returned (.bool b)) HRES.out, rfl⟩
end Go.Proofs.YtkmalggeieiepaaGreatDoor
