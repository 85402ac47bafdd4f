import Derived.Test.YtkmalggeieiepaaGreatDoorRows
import Derived.Test.YtkmalggeieiepaaGreatDoorRefM
import Derived.WalkKit
import Derived.WalkSpells
import Derived.WalkLawsBesides
import Derived.Deep.LoopGhost
import Derived.Deep.DeepCutAuto
namespace Go.Proofs.YtkmalggeieiepaaGreatDoor
open Go.RowKit

set_option maxRecDepth 10000 in
set_option maxHeartbeats 1000000 in
theorem times_any (ga gb la : Nat) (fa fb : Nat → Int) (w : World) (hla : la = 3 ∨ la = 6) (hA : Arr .i64 w ga fa la) (hB : Arr .i64 w gb fb 3) (dA : Dig fa la) (dB : Dig fb 3) :
    Calls Tryz.prog 31 #[.slice (some ⟨ga, 0, none⟩) la la, .slice (some ⟨gb, 0, none⟩) 3 3] w fun e w' => ∃ g f, e = .returned (.slice (some ⟨g, 0, none⟩) (la + 3) (la + 3)) ∧ w.heap.size ≤ g ∧ Arr .i64 w' g f (la + 3) ∧ Dig f (la + 3) ∧ vV f (la + 3) = vV fa la * vV fb 3 ∧ Below w.heap.size w w' := by
  have hm6 : ∀ W : World, (Instr.makeSlice 36 (.int .i64 6) (.int .i64 6)).run Tryz.prog W = .ok (.slice (some ⟨W.heap.size, 0, none⟩) 6 6) (W.alloc (.cells #[.int .i64 0, .int .i64 0, .int .i64 0, .int .i64 0, .int .i64 0, .int .i64 0] 3)) := fun _ => by kernel_rfl
  have hm9 : ∀ W : World, (Instr.makeSlice 36 (.int .i64 9) (.int .i64 9)).run Tryz.prog W = .ok (.slice (some ⟨W.heap.size, 0, none⟩) 9 9) (W.alloc (.cells #[.int .i64 0, .int .i64 0, .int .i64 0, .int .i64 0, .int .i64 0, .int .i64 0, .int .i64 0, .int .i64 0, .int .i64 0] 3)) := fun _ => by kernel_rfl
  have lA := hA.lt (by omega)
  have lB := hB.lt (by omega)
  have HA : Hid (Arr .i64 w ga fa la) := hA
  have HB : Hid (Arr .i64 w gb fb 3) := hB
  have HDA : Hid (Dig fa la) := dA
  have HDB : Hid (Dig fb 3) := dB
  clear hA hB dA dB
  rcases hla with rfl | rfl
  · go_enter Tryz.func31, Tryz.ntmps31
    go_upto_region 3 with fail
    clear hm6 hm9
    go_loopg [20] 3 (fun g t wx => ∃ i : Nat, ∃ o : Nat → Int, i + g = 3 ∧ t = .int .i64 i ∧ Arr .i64 wx w.heap.size o 6 ∧ Dig o 6 ∧ (∀ j, i + 3 ≤ j → o j = 0) ∧ vV o 6 = vV fa i * vV fb 3 ∧ Below w.heap.size w wx)
    case atStart => exact ⟨0, fun _ => 0, rfl, rfl, Arr.new w _ 6 _ _ (by rfl), fun j hj => by simp, fun j _ => rfl, by simp [vV], (Below.refl _ _).alloc (Nat.le_refl _) _⟩
    case round =>
      obtain ⟨i, o, hi, rfl, hO, hD, hZ, hV, hb⟩ := hrel
      have HI : Hid (i + gk = 3) := hi
      have HO : Hid (Arr .i64 wr w.heap.size o 6) := hO
      have HD : Hid (Dig o 6) := hD
      have HZ : Hid (∀ j, i + 3 ≤ j → o j = 0) := hZ
      have HV : Hid (vV o 6 = vV fa i * vV fb 3) := hV
      have HBL : Hid (Below w.heap.size w wr) := hb
      by_cases hlt : i < 3
      · have ca := ((HA.out.later hb lA) i hlt).1
        have hx := HDA.out i hlt
        have HXI : Hid (∃ X, X = fa i) := ⟨_, rfl⟩
        obtain ⟨X, hX⟩ := HXI.out
        rw [← hX] at ca hx
        have HX : Hid (X = fa i) := hX
        obtain ⟨G, hG0⟩ : ∃ G, G = gk := ⟨_, rfl⟩
        have HG : Hid (G = gk) := hG0
        obtain ⟨x0, x1⟩ := hx
        clear hi hO hD hZ hV hb hX HXI hG0
        go_upto_region 7 with fail
        go_loopg [8, 27] 3 (fun g c t wx => ∃ j : Nat, ∃ o2 : Nat → Int, ∃ cc : Int, j + g = 3 ∧ t = .int .i64 j ∧ c = .int .i64 cc ∧ 0 ≤ cc ∧ cc ≤ 65535 ∧ Arr .i64 wx w.heap.size o2 6 ∧ Dig o2 6 ∧ (∀ j, i + 3 ≤ j → o2 j = 0) ∧ vV o2 6 + cc * pw (i + j) = vV fa i * vV fb 3 + X * vV fb j * pw i ∧ Below w.heap.size w wx)
        case atStart => exact ⟨0, o, 0, rfl, rfl, rfl, by omega, by omega, HO.out, HD.out, HZ.out, by rw [HV.out]; simp [vV], HBL.out⟩
        case round =>
          clear HO HD HZ HV HBL ca
          obtain ⟨j, o2, cc, hj, rfl, rfl, c0, c1, hO, hD, hZ, hV, hb⟩ := hrel
          have HJ : Hid (j + gk = 3) := hj
          have HO : Hid (Arr .i64 wr w.heap.size o2 6) := hO
          have HD : Hid (Dig o2 6) := hD
          have HZ : Hid (∀ j, i + 3 ≤ j → o2 j = 0) := hZ
          have HV : Hid (vV o2 6 + cc * pw (i + j) = vV fa i * vV fb 3 + X * vV fb j * pw i) := hV
          have HBL : Hid (Below w.heap.size w wr) := hb
          by_cases hlj : j < 3
          · have cb := ((HB.out.later hb lB) j hlj).1
            obtain ⟨co, fo⟩ := hO (i + j) (by omega)
            obtain ⟨y0, y1⟩ := HDB.out j hlj
            obtain ⟨o0, o1⟩ := hD (i + j) (by omega)
            obtain ⟨p0, p1, p2⟩ := carry_le (o2 (i + j)) X (fb j) cc o0 o1 x0 x1 y0 y1 c0 c1
            have HS := inner_step o2 fb 6 i j X cc (vV fa i * vV fb 3) (by omega) hV
            have HS1 : Hid (vV (upd o2 (i + j) ((o2 (i + j) + X * fb j + cc) % 65536)) 6 + (o2 (i + j) + X * fb j + cc) / 65536 * pw (i + (j + 1)) = vV fa i * vV fb 3 + X * vV fb (j + 1) * pw i) := HS
            clear hj hO hD hZ hV hb HS
            have hi3 : (i : Int) < 3 := by omega
            have hj3 : (j : Int) < 3 := by omega
            generalize hY : fb j = Y at cb y0 y1 p0 p1 p2 HS1
            generalize hO2 : o2 (i + j) = Z at co o0 o1 p2 HS1
            clear hY hO2
            go_wp2
            go_roundg (gk - 1)
            case measure => have := HJ.out; omega
            case rel =>
              have hjj := HJ.out
              refine ⟨j + 1, upd o2 (i + j) ((Z + X * Y + cc) % 65536), (Z + X * Y + cc) / 65536, by omega, by go_num, rfl, by omega, p2, HO.out.set (i + j) (by omega) _, HD.out.upd _ _ (by omega) (by omega), ?_, HS1.out, HBL.out.setCell (Nat.le_refl _) _⟩
              intro t ht; rw [upd_other _ _ _ _ (by omega)]; exact HZ.out t ht
          · have hj3 : j = 3 := by have := HJ.out; omega
            obtain ⟨co, fo⟩ := hO (i + 3) (by omega)
            rw [hZ (i + 3) (by omega)] at co
            have HE : Hid (vV (upd o2 (i + 3) (o2 (i + 3) + cc)) 6 = vV fa (i + 1) * vV fb 3) := by
              rw [hj3, HX.out] at hV
              exact outer_step o2 fa fb 6 i 3 cc (by omega) (hZ _ (by omega)) hV
            have HZ0 : Hid (o2 (i + 3) = 0) := hZ _ (by omega)
            have hi3 : (i : Int) < 3 := by omega
            clear hj hO hD hZ hV hb hj3
            go_wp2
            go_roundg (G - 1)
            case measure => have := HG.out; have := HI.out; omega
            case rel =>
              have hgg := HG.out; have hii := HI.out
              have he := HE.out
              rw [HZ0.out, Int.zero_add] at he
              refine ⟨i + 1, upd o2 (i + 3) cc, by omega, by go_num, HO.out.set (i + 3) (by omega) _, HD.out.upd _ _ c0 (by omega), ?_, he, HBL.out.setCell (Nat.le_refl _) _⟩
              intro t ht; rw [upd_other _ _ _ _ (by omega)]; exact HZ.out t (by omega)
      · have hi3 : i = 3 := by have := HI.out; omega
        go_wp2
        go_ret
        rw [hi3] at hV
        exact ⟨w.heap.size, o, rfl, Nat.le_refl _, HO.out, HD.out, hV, HBL.out⟩
  · go_enter Tryz.func31, Tryz.ntmps31
    go_upto_region 3 with fail
    clear hm6 hm9
    go_loopg [20] 6 (fun g t wx => ∃ i : Nat, ∃ o : Nat → Int, i + g = 6 ∧ t = .int .i64 i ∧ Arr .i64 wx w.heap.size o 9 ∧ Dig o 9 ∧ (∀ j, i + 3 ≤ j → o j = 0) ∧ vV o 9 = vV fa i * vV fb 3 ∧ Below w.heap.size w wx)
    case atStart => exact ⟨0, fun _ => 0, rfl, rfl, Arr.new w _ 9 _ _ (by rfl), fun j hj => by simp, fun j _ => rfl, by simp [vV], (Below.refl _ _).alloc (Nat.le_refl _) _⟩
    case round =>
      obtain ⟨i, o, hi, rfl, hO, hD, hZ, hV, hb⟩ := hrel
      have HI : Hid (i + gk = 6) := hi
      have HO : Hid (Arr .i64 wr w.heap.size o 9) := hO
      have HD : Hid (Dig o 9) := hD
      have HZ : Hid (∀ j, i + 3 ≤ j → o j = 0) := hZ
      have HV : Hid (vV o 9 = vV fa i * vV fb 3) := hV
      have HBL : Hid (Below w.heap.size w wr) := hb
      by_cases hlt : i < 6
      · have ca := ((HA.out.later hb lA) i hlt).1
        have hx := HDA.out i hlt
        have HXI : Hid (∃ X, X = fa i) := ⟨_, rfl⟩
        obtain ⟨X, hX⟩ := HXI.out
        rw [← hX] at ca hx
        have HX : Hid (X = fa i) := hX
        obtain ⟨G, hG0⟩ : ∃ G, G = gk := ⟨_, rfl⟩
        have HG : Hid (G = gk) := hG0
        obtain ⟨x0, x1⟩ := hx
        clear hi hO hD hZ hV hb hX HXI hG0
        go_upto_region 7 with fail
        go_loopg [8, 27] 3 (fun g c t wx => ∃ j : Nat, ∃ o2 : Nat → Int, ∃ cc : Int, j + g = 3 ∧ t = .int .i64 j ∧ c = .int .i64 cc ∧ 0 ≤ cc ∧ cc ≤ 65535 ∧ Arr .i64 wx w.heap.size o2 9 ∧ Dig o2 9 ∧ (∀ j, i + 3 ≤ j → o2 j = 0) ∧ vV o2 9 + cc * pw (i + j) = vV fa i * vV fb 3 + X * vV fb j * pw i ∧ Below w.heap.size w wx)
        case atStart => exact ⟨0, o, 0, rfl, rfl, rfl, by omega, by omega, HO.out, HD.out, HZ.out, by rw [HV.out]; simp [vV], HBL.out⟩
        case round =>
          clear HO HD HZ HV HBL ca
          obtain ⟨j, o2, cc, hj, rfl, rfl, c0, c1, hO, hD, hZ, hV, hb⟩ := hrel
          have HJ : Hid (j + gk = 3) := hj
          have HO : Hid (Arr .i64 wr w.heap.size o2 9) := hO
          have HD : Hid (Dig o2 9) := hD
          have HZ : Hid (∀ j, i + 3 ≤ j → o2 j = 0) := hZ
          have HV : Hid (vV o2 9 + cc * pw (i + j) = vV fa i * vV fb 3 + X * vV fb j * pw i) := hV
          have HBL : Hid (Below w.heap.size w wr) := hb
          by_cases hlj : j < 3
          · have cb := ((HB.out.later hb lB) j hlj).1
            obtain ⟨co, fo⟩ := hO (i + j) (by omega)
            obtain ⟨y0, y1⟩ := HDB.out j hlj
            obtain ⟨o0, o1⟩ := hD (i + j) (by omega)
            obtain ⟨p0, p1, p2⟩ := carry_le (o2 (i + j)) X (fb j) cc o0 o1 x0 x1 y0 y1 c0 c1
            have HS := inner_step o2 fb 9 i j X cc (vV fa i * vV fb 3) (by omega) hV
            have HS1 : Hid (vV (upd o2 (i + j) ((o2 (i + j) + X * fb j + cc) % 65536)) 9 + (o2 (i + j) + X * fb j + cc) / 65536 * pw (i + (j + 1)) = vV fa i * vV fb 3 + X * vV fb (j + 1) * pw i) := HS
            clear hj hO hD hZ hV hb HS
            have hi3 : (i : Int) < 6 := by omega
            have hj3 : (j : Int) < 3 := by omega
            generalize hY : fb j = Y at cb y0 y1 p0 p1 p2 HS1
            generalize hO2 : o2 (i + j) = Z at co o0 o1 p2 HS1
            clear hY hO2
            go_wp2
            go_roundg (gk - 1)
            case measure => have := HJ.out; omega
            case rel =>
              have hjj := HJ.out
              refine ⟨j + 1, upd o2 (i + j) ((Z + X * Y + cc) % 65536), (Z + X * Y + cc) / 65536, by omega, by go_num, rfl, by omega, p2, HO.out.set (i + j) (by omega) _, HD.out.upd _ _ (by omega) (by omega), ?_, HS1.out, HBL.out.setCell (Nat.le_refl _) _⟩
              intro t ht; rw [upd_other _ _ _ _ (by omega)]; exact HZ.out t ht
          · have hj3 : j = 3 := by have := HJ.out; omega
            obtain ⟨co, fo⟩ := hO (i + 3) (by omega)
            rw [hZ (i + 3) (by omega)] at co
            have HE : Hid (vV (upd o2 (i + 3) (o2 (i + 3) + cc)) 9 = vV fa (i + 1) * vV fb 3) := by
              rw [hj3, HX.out] at hV
              exact outer_step o2 fa fb 9 i 3 cc (by omega) (hZ _ (by omega)) hV
            have HZ0 : Hid (o2 (i + 3) = 0) := hZ _ (by omega)
            have hi3 : (i : Int) < 6 := by omega
            clear hj hO hD hZ hV hb hj3
            go_wp2
            go_roundg (G - 1)
            case measure => have := HG.out; have := HI.out; omega
            case rel =>
              have hgg := HG.out; have hii := HI.out
              have he := HE.out
              rw [HZ0.out, Int.zero_add] at he
              refine ⟨i + 1, upd o2 (i + 3) cc, by omega, by go_num, HO.out.set (i + 3) (by omega) _, HD.out.upd _ _ c0 (by omega), ?_, he, HBL.out.setCell (Nat.le_refl _) _⟩
              intro t ht; rw [upd_other _ _ _ _ (by omega)]; exact HZ.out t (by omega)
      · have hi3 : i = 6 := by have := HI.out; omega
        go_wp2
        go_ret
        rw [hi3] at hV
        exact ⟨w.heap.size, o, rfl, Nat.le_refl _, HO.out, HD.out, hV, HBL.out⟩
end Go.Proofs.YtkmalggeieiepaaGreatDoor
