import Derived.Test.YtkmalggeieiepaaGreatDoorRefH
import Derived.WalkKit
import Derived.WalkSpells
import Derived.WalkLawsBesides
import Derived.Lib.Strings
import Derived.Deep.QuietTactic
import Derived.BigQuiet
import Derived.Deep.LoopGhost
import Derived.Deep.DeepCutAuto
import Derived.Deep.RegionLaw
import Derived.Deep.RegionHeld3
import Derived.Deep.AppendLies
namespace Go.Proofs.YtkmalggeieiepaaGreatDoor
open Go.RowKit

set_option linter.unusedSimpArgs false in
set_option maxRecDepth 10000 in
set_option maxHeartbeats 8000000 in
theorem refSum_any (gt : Nat) (s : ByteArray) (w : World) (hT : HasTab w gt) (hs : s.size ≤ 1048576) :
    Calls Tryz.prog 68 #[.pointer (some ⟨gt, 0, none⟩), .string s] w fun e w' => e = .returned (.string (strOf (shaF kcR s.data.toList) 32)) ∧ Below w.heap.size w w' := by
  obtain ⟨gK, cK, gH, cG, tK, tH, rK, rH⟩ := hT
  have lT := World.block_lt_of_cell? w _ tK
  have lK := World.block_lt_of_cell? w _ (rK 0 (by omega))
  have lH := World.block_lt_of_cell? w _ (rH 0 (by omega))
  have HTK : Hid (∀ wx, Below w.heap.size w wx → wx.cell? ⟨gt, 1, none⟩ = some (.slice (some ⟨gK, 0, none⟩) 64 cK)) := fun wx hb => by rw [hb.cell (p := ⟨gt, 1, none⟩) lT]; exact tK
  have HTH : Hid (∀ wx, Below w.heap.size w wx → wx.cell? ⟨gt, 0, none⟩ = some (.slice (some ⟨gH, 0, none⟩) 8 cG)) := fun wx hb => by rw [hb.cell (p := ⟨gt, 0, none⟩) lT]; exact tH
  have HRK : Hid (∀ wx, Below w.heap.size w wx → ∀ j, j < 64 → wx.cell? ⟨gK, j, none⟩ = some (.int .i64 (kcR j))) := fun wx hb j hj => by rw [hb.cell (p := ⟨gK, j, none⟩) lK]; exact rK j hj
  have HRH : Hid (∀ wx, Below w.heap.size w wx → ∀ j, j < 8 → wx.cell? ⟨gH, j, none⟩ = some (.int .i64 (ini8 j))) := fun wx hb j hj => by rw [hb.cell (p := ⟨gH, j, none⟩) lH]; exact rH j hj
  clear tK tH rK rH lT lK lH
  obtain ⟨i0, hi, hz0, hz1, hz2⟩ := info_parts infoInt
  go_enter Tryz.func68, Tryz.ntmps68
  go_upto_region 3 with fail
  go_loopg [1] ((119 - s.size % 64) % 64) (fun g r wx => ∃ t : ByteArray, ∃ j : Nat, r = .string t ∧ t.data.toList = s.data.toList ++ [128] ++ List.replicate j 0 ∧ t.size = s.size + 1 + j ∧ j + g = (119 - s.size % 64) % 64 ∧ wx = w)
  case atStart => exact ⟨_, 0, rfl, by rw [app_toList]; simp, app_size _ _, by omega, rfl⟩
  case round =>
    obtain ⟨t, j, rfl, ht, hts, hj, hw⟩ := hrel
    obtain rfl := hw.symm
    clear hw
    have HT : Hid (t.data.toList = s.data.toList ++ [128] ++ List.replicate j 0) := ht
    have HTS : Hid (t.size = s.size + 1 + j) := hts
    have HJ : Hid (j + gk = (119 - s.size % 64) % 64) := hj
    have htb : t.size ≤ 1048640 := by omega
    by_cases h56 : t.size % 64 = 56
    · have hlb : (((t.size : Int) % 64) != 56) = false := by simp; omega
      have HP : Hid (s.data.toList ++ [128] ++ List.replicate ((119 - s.size % 64) % 64) 0 = t.data.toList) := by
        show _ = _
        rw [ht, show (119 - s.size % 64) % 64 = j by omega]
      have H56 : Hid (t.size % 64 = 56) := h56
      clear ht hts hj h56 HT HTS HJ
      go_upto_region 6 with fail
      clear hlb
      go_loopg [1, 6] 8 (fun g r k wx => ∃ u : ByteArray, r = .string u ∧ k = .int .i64 ((g : Int) - 1) ∧ g ≤ 8 ∧ u.data.toList = t.data.toList ++ be8 s.size (8 - g) ∧ u.size = t.size + (8 - g) ∧ Below w.heap.size w wx)
      case atStart => exact ⟨t, rfl, rfl, by omega, by simp [be8], by omega, Below.refl _ _⟩
      case round =>
        obtain ⟨u, rfl, rfl, hg8, hu, hus, hb⟩ := hrel
        have HU : Hid (u.data.toList = t.data.toList ++ be8 s.size (8 - gk)) := hu
        have HUS : Hid (u.size = t.size + (8 - gk)) := hus
        have HB : Hid (Below w.heap.size w wr) := hb
        by_cases h0 : gk = 0
        · subst h0
          have HPAD : Hid (u.data.toList = padF s.data.toList) := by
            show _ = s.data.toList ++ [128] ++ List.replicate ((119 - s.size % 64) % 64) 0 ++ be8 s.size 8
            rw [hu, HP.out]
          have H64 : Hid (u.size % 64 = 0) := by have := H56.out; show u.size % 64 = 0; omega
          have hub : u.size ≤ 1048648 := by omega
          clear hu hus hb HU HUS HP H56 hg8
          have tH := HTH.out wr HB.out
          have rH := HRH.out wr HB.out
          have hnew : ∀ j v, (wl .i64 ini8 8)[j]? = some v → wr.cell? ((⟨gH, 0, none⟩ : Addr).add j) = some v := by
            intro j v hv
            have hj : j < 8 := by have := (List.getElem?_eq_some_iff.1 hv).1; rwa [wl_length] at this
            rw [wl_get _ _ _ _ hj] at hv
            rw [Addr.add_mid, Nat.zero_add, rH j hj]; exact hv
          go_upto_region 10 with (at_builtin; go_must (refine wpList_append_lies _ rfl _ _ 36 rfl w.heap.size 3 i0 (.int .i64 0) 1 8 Tryz.underlying36 hi hz0 hz1 hz2 rfl (by decide) (.slice none 0 0) 0 [] rfl (World.ownsRow_nil _ _ _ _) ⟨gH, 0, none⟩ 8 cG (wl .i64 ini8 8) rfl (by rw [wl_length]) hnew (wl_one _ _ _) (by omega) (by unfold maxLen; omega) (by omega) HB.out.size _ rfl ?_); intro gh ch w1 ho hgr hat hlt1; have HO1 : Hid (w1.ownsRow w.heap.size 3 1 (.slice (some ⟨gh, 0, none⟩) (0 + 8) ch) (0 + 8) ([] ++ wl .i64 ini8 8)) := ho; have HL1 : Hid (Below w.heap.size w w1) := HB.out.grown hgr HB.out.size (fun q hq => by cases hq); clear ho hgr hat hlt1)
          have hgh : w.heap.size ≤ gh := ownBlock_ge HO1.out gh rfl
          have HA : Hid (Arr .i64 w1 gh ini8 8) := own_arr HO1.out
          clear HB tH rH hnew HO1
          have HB := HL1
          clear HL1
          obtain ⟨R, HR⟩ : ∃ R, Hid (R = (feed kcR (ini8, []) (padF s.data.toList)).1) := ⟨_, rfl⟩
          go_loopg [1] u.size (fun g r wx => ∃ x : ByteArray, ∃ f : Nat → Int, r = .string x ∧ x.size ≤ g ∧ x.size % 64 = 0 ∧ x.size ≤ 1048648 ∧ (∀ j, IsW (f j)) ∧ (feed kcR (f, []) x.data.toList).1 = R ∧ Arr .i64 wx gh f 8 ∧ Below w.heap.size w wx)
          case atStart => exact ⟨u, ini8, rfl, Nat.le_refl _, H64.out, hub, ini8_ok, by rw [HPAD.out, HR.out], HA.out, HB.out⟩
          case round =>
            clear HA HB HPAD H64 hub
            obtain ⟨x, f, rfl, hxg, hx64, hxb, hfo, hR, hA, hb⟩ := hrel
            have HA : Hid (Arr .i64 wr gh f 8) := hA
            have HB : Hid (Below w.heap.size w wr) := hb
            have HFO : Hid (∀ j, IsW (f j)) := hfo
            have HFR : Hid ((feed kcR (f, []) x.data.toList).1 = R) := hR
            have HX64 : Hid (x.size % 64 = 0) := hx64
            by_cases h64 : 64 ≤ x.size
            · have hne : x.toList.isEmpty = false := some_left x (by omega)
              obtain ⟨b, Hb⟩ : ∃ b, Hid (b = bfn (x.data.toList.take 64)) := ⟨_, rfl⟩
              have HBL : Hid (∀ j, b j < 256) := by show ∀ j, b j < 256; rw [Hb.out]; exact bfn_lt _
              have HBY : Hid (∀ (i : Int) (j : Nat), i = (j : Int) → j < 64 → ∀ W : World, (Instr.index 9 (.string x) (.int .i64 i)).run Tryz.prog W = .ok (.int .u8 (b j : Int)) W) := by
                intro i j hij hj W
                rw [Hb.out]; exact idx_b x i j hij (by omega) hj W
              have HNX : Hid ((feed kcR (mixF kcR b f, []) (x.extract 64 x.size).data.toList).1 = R) := by
                show _ = _
                have hl : x.data.toList.length = x.size := rfl
                have e2 : (x.extract 64 x.size).data.toList = x.data.toList.drop 64 := by rw [Lib.extract_data]; exact List.take_of_length_le (Nat.le_of_eq (by rw [List.length_drop, hl]))
                rw [e2, Hb.out, ← feed_first kcR f x.data.toList (by omega)]; exact hR
              obtain ⟨G, hG0⟩ : ∃ G, G = gk := ⟨_, rfl⟩
              have HG : Hid (G = gk) := hG0
              obtain ⟨B, hB0⟩ : ∃ B, B = wr.heap.size := ⟨_, rfl⟩
              have HBB : Hid (B = wr.heap.size) := hB0
              have lgh : gh < B := by rw [hB0]; exact hA.lt (by omega)
              have lwB : w.heap.size ≤ B := by rw [hB0]; exact hb.size
              have HXG : Hid (x.size ≤ G ∧ 64 ≤ x.size) := ⟨by rw [hG0]; exact hxg, h64⟩
              clear hA hb hfo hR hx64 hG0 hB0 HFR Hb hxg
              go_upto_region 14 with fail
              clear hne
              go_loopg [8, 9] 64 (fun g v i wx => ∃ k : Nat, ∃ v' : Value, v' = v ∧ k + g = 64 ∧ i = .int .i64 k ∧ wx.ownsRow B 3 1 v' k (wl .i64 (Wd b) k) ∧ B ≤ wx.heap.size ∧ Arr .i64 wx gh f 8 ∧ Below w.heap.size w wx)
              case atStart => exact ⟨0, _, rfl, rfl, rfl, World.ownsRow_nil _ _ _ _, Nat.le_of_eq HBB.out, HA.out, HB.out⟩
              case round =>
                clear HA HB HBB
                obtain ⟨k, v, rfl, hkg, rfl, hO, hBx, hA, hb⟩ := hrel
                have HA : Hid (Arr .i64 wr gh f 8) := hA
                have HB : Hid (Below w.heap.size w wr) := hb
                have HO : Hid (wr.ownsRow B 3 1 v k (wl .i64 (Wd b) k)) := hO
                have HOd : Hid (wr.drew.ownsRow B 3 1 v k (wl .i64 (Wd b) k)) := own_later hO (Below.refl _ _).drew
                have HK : Hid (k + gk = 64) := hkg
                by_cases hlt : k < 64
                · by_cases h16 : k < 16
                  · have x0 := HBY.out (4 * (k : Int)) (4 * k) (by omega) (by omega)
                    have x1 := HBY.out (4 * (k : Int) + 1) (4 * k + 1) (by omega) (by omega)
                    have x2 := HBY.out (4 * (k : Int) + 2) (4 * k + 2) (by omega) (by omega)
                    have x3 := HBY.out (4 * (k : Int) + 3) (4 * k + 3) (by omega) (by omega)
                    have b0 := HBL.out (4 * k)
                    have b1 := HBL.out (4 * k + 1)
                    have b2 := HBL.out (4 * k + 2)
                    have b3 := HBL.out (4 * k + 3)
                    have HW : Hid (Wd b k = (b (4 * k) : Int) * 16777216 + (b (4 * k + 1) : Int) * 65536 + (b (4 * k + 2) : Int) * 256 + (b (4 * k + 3) : Int)) := by
                      show _ = _; rw [Wd_lo b k h16, pt4]
                    have p0 : 0 ≤ (b (4 * k) : Int) ∧ (b (4 * k) : Int) ≤ 255 := by omega
                    have p1 : 0 ≤ (b (4 * k + 1) : Int) ∧ (b (4 * k + 1) : Int) ≤ 255 := by omega
                    have p2 : 0 ≤ (b (4 * k + 2) : Int) ∧ (b (4 * k + 2) : Int) ≤ 255 := by omega
                    have p3 : 0 ≤ (b (4 * k + 3) : Int) ∧ (b (4 * k + 3) : Int) ≤ 255 := by omega
                    clear b0 b1 b2 b3
                    generalize (b (4 * k) : Int) = B0 at x0 HW p0
                    generalize (b (4 * k + 1) : Int) = B1 at x1 HW p1
                    generalize (b (4 * k + 2) : Int) = B2 at x2 HW p2
                    generalize (b (4 * k + 3) : Int) = B3 at x3 HW p3
                    obtain ⟨p0, q0⟩ := p0
                    obtain ⟨p1, q1⟩ := p1
                    obtain ⟨p2, q2⟩ := p2
                    obtain ⟨p3, q3⟩ := p3
                    have k16 : (k : Int) < 16 := by omega
                    have y0 := wraps_i63 (4 * (k : Int)) (by omega) (by omega)
                    have y1 := wraps_i63 (4 * (k : Int) + 1) (by omega) (by omega)
                    have y2 := wraps_i63 (4 * (k : Int) + 2) (by omega) (by omega)
                    have y3 := wraps_i63 (4 * (k : Int) + 3) (by omega) (by omega)
                    have u0 := wraps_i63 B0 (by omega) (by omega)
                    have u1 := wraps_i63 B1 (by omega) (by omega)
                    have u2 := wraps_i63 B2 (by omega) (by omega)
                    have u3 := wraps_i63 B3 (by omega) (by omega)
                    have z0 := wraps_i63 (B0 * 16777216) (by omega) (by omega)
                    have z1 := wraps_i63 (B1 * 65536) (by omega) (by omega)
                    have z2 := wraps_i63 (B2 * 256) (by omega) (by omega)
                    have z3 := wraps_i63 (B0 * 16777216 + B1 * 65536) (by omega) (by omega)
                    have z4 := wraps_i63 (B0 * 16777216 + B1 * 65536 + B2 * 256) (by omega) (by omega)
                    have z5 := wraps_i63 (B0 * 16777216 + B1 * 65536 + B2 * 256 + B3) (by omega) (by omega)
                    clear hO hA hb hkg
                    go_upto_region 17 with fail
                    as_aux_lemma =>
                      refine at_frame (fun A HFR => ?_)
                      have hsz : A.tmps.size = 319 := by rw [HFR.out]; rfl
                      have h1 : A.eval (.tmp 1) = .string x := by rw [HFR.out]; rfl
                      have h8 : A.eval (.tmp 8) = v := by rw [HFR.out]; rfl
                      have h9 : A.eval (.tmp 9) = .int .i64 (k : Int) := by rw [HFR.out]; rfl
                      refine wp_region_held_drew (S := fun _ => True) (by kernel_rfl) trivial (fun hHeld => ?_)
                      refine wpAnyH_take (i := 0) (v := v) rfl (by kernel_rfl) (by kernel_rfl) (by kernel_rfl) (fun _ _ _ h => h) (Or.inl ⟨by rfl, fun W _ => ?_⟩) trivial ?_
                      · refine run1 8 (v) (by simp only [ev_same, ev_ne, sz_put, hsz, h1, h8, h9, ne_eq, Nat.reduceEqDiff, not_false_eq_true, Nat.reduceLT]) (fun ρ hc e1 => ?_); simp [go_sem, hc, e1, hc]
                      change wpAnyH _ _ _ _ _ _ _ (Act.put _ (some 62) _) _
                      refine wpAnyH_take (i := 1) (v := .string x) rfl (by kernel_rfl) (by kernel_rfl) (by kernel_rfl) (fun _ _ _ h => h) (Or.inl ⟨by rfl, fun W _ => ?_⟩) trivial ?_
                      · refine run1 1 (.string x) (by simp only [ev_same, ev_ne, sz_put, hsz, h1, h8, h9, ne_eq, Nat.reduceEqDiff, not_false_eq_true, Nat.reduceLT]) (fun ρ hc e1 => ?_); simp [go_sem, hc, e1, hc]
                      change wpAnyH _ _ _ _ _ _ _ (Act.put _ (some 63) _) _
                      refine wpAnyH_take (i := 2) (v := .int .i64 (k : Int)) rfl (by kernel_rfl) (by kernel_rfl) (by kernel_rfl) (fun _ _ _ h => h) (Or.inl ⟨by rfl, fun W _ => ?_⟩) trivial ?_
                      · refine run1 9 (.int .i64 (k : Int)) (by simp only [ev_same, ev_ne, sz_put, hsz, h1, h8, h9, ne_eq, Nat.reduceEqDiff, not_false_eq_true, Nat.reduceLT]) (fun ρ hc e1 => ?_); simp [go_sem, hc, e1, hc]
                      change wpAnyH _ _ _ _ _ _ _ (Act.put _ (some 64) _) _
                      refine wpAnyH_take (i := 3) (v := .int .i64 (4 * (k : Int))) rfl (by kernel_rfl) (by kernel_rfl) (by kernel_rfl) (fun _ _ _ h => h) (Or.inl ⟨by rfl, fun W _ => ?_⟩) trivial ?_
                      · refine run1 64 (.int .i64 (k : Int)) (by simp only [ev_same, ev_ne, sz_put, hsz, h1, h8, h9, ne_eq, Nat.reduceEqDiff, not_false_eq_true, Nat.reduceLT]) (fun ρ hc e1 => ?_); simp [go_sem, hc, e1, y0]
                      change wpAnyH _ _ _ _ _ _ _ (Act.put _ (some 65) _) _
                      refine wpAnyH_take (i := 4) (v := .int .u8 B0) rfl (by kernel_rfl) (by kernel_rfl) (by kernel_rfl) (fun _ _ _ h => h) (Or.inl ⟨by rfl, fun W _ => ?_⟩) trivial ?_
                      · refine run2 63 65 (.string x) (.int .i64 (4 * (k : Int))) (by simp only [ev_same, ev_ne, sz_put, hsz, h1, h8, h9, ne_eq, Nat.reduceEqDiff, not_false_eq_true, Nat.reduceLT]) (by simp only [ev_same, ev_ne, sz_put, hsz, h1, h8, h9, ne_eq, Nat.reduceEqDiff, not_false_eq_true, Nat.reduceLT]) (fun ρ hc e1 e2 => ?_); simp [go_sem, hc, e1, e2, x0]
                      change wpAnyH _ _ _ _ _ _ _ (Act.put _ (some 66) _) _
                      refine wpAnyH_take (i := 5) (v := .int .i64 B0) rfl (by kernel_rfl) (by kernel_rfl) (by kernel_rfl) (fun _ _ _ h => h) (Or.inl ⟨by rfl, fun W _ => ?_⟩) trivial ?_
                      · refine run1 66 (.int .u8 B0) (by simp only [ev_same, ev_ne, sz_put, hsz, h1, h8, h9, ne_eq, Nat.reduceEqDiff, not_false_eq_true, Nat.reduceLT]) (fun ρ hc e1 => ?_); simp [go_sem, hc, e1, u0]
                      change wpAnyH _ _ _ _ _ _ _ (Act.put _ (some 67) _) _
                      refine wpAnyH_take (i := 6) (v := .int .i64 (B0 * 16777216)) rfl (by kernel_rfl) (by kernel_rfl) (by kernel_rfl) (fun _ _ _ h => h) (Or.inl ⟨by rfl, fun W _ => ?_⟩) trivial ?_
                      · refine run1 67 (.int .i64 B0) (by simp only [ev_same, ev_ne, sz_put, hsz, h1, h8, h9, ne_eq, Nat.reduceEqDiff, not_false_eq_true, Nat.reduceLT]) (fun ρ hc e1 => ?_); simp [go_sem, hc, e1, z0]
                      change wpAnyH _ _ _ _ _ _ _ (Act.put _ (some 68) _) _
                      refine wpAnyH_take (i := 7) (v := .string x) rfl (by kernel_rfl) (by kernel_rfl) (by kernel_rfl) (fun _ _ _ h => h) (Or.inl ⟨by rfl, fun W _ => ?_⟩) trivial ?_
                      · refine run1 1 (.string x) (by simp only [ev_same, ev_ne, sz_put, hsz, h1, h8, h9, ne_eq, Nat.reduceEqDiff, not_false_eq_true, Nat.reduceLT]) (fun ρ hc e1 => ?_); simp [go_sem, hc, e1, hc]
                      change wpAnyH _ _ _ _ _ _ _ (Act.put _ (some 69) _) _
                      refine wpAnyH_take (i := 8) (v := .int .i64 (k : Int)) rfl (by kernel_rfl) (by kernel_rfl) (by kernel_rfl) (fun _ _ _ h => h) (Or.inl ⟨by rfl, fun W _ => ?_⟩) trivial ?_
                      · refine run1 9 (.int .i64 (k : Int)) (by simp only [ev_same, ev_ne, sz_put, hsz, h1, h8, h9, ne_eq, Nat.reduceEqDiff, not_false_eq_true, Nat.reduceLT]) (fun ρ hc e1 => ?_); simp [go_sem, hc, e1, hc]
                      change wpAnyH _ _ _ _ _ _ _ (Act.put _ (some 70) _) _
                      refine wpAnyH_take (i := 9) (v := .int .i64 (4 * (k : Int))) rfl (by kernel_rfl) (by kernel_rfl) (by kernel_rfl) (fun _ _ _ h => h) (Or.inl ⟨by rfl, fun W _ => ?_⟩) trivial ?_
                      · refine run1 70 (.int .i64 (k : Int)) (by simp only [ev_same, ev_ne, sz_put, hsz, h1, h8, h9, ne_eq, Nat.reduceEqDiff, not_false_eq_true, Nat.reduceLT]) (fun ρ hc e1 => ?_); simp [go_sem, hc, e1, y0]
                      change wpAnyH _ _ _ _ _ _ _ (Act.put _ (some 71) _) _
                      refine wpAnyH_take (i := 10) (v := .int .i64 (4 * (k : Int) + 1)) rfl (by kernel_rfl) (by kernel_rfl) (by kernel_rfl) (fun _ _ _ h => h) (Or.inl ⟨by rfl, fun W _ => ?_⟩) trivial ?_
                      · refine run1 71 (.int .i64 (4 * (k : Int))) (by simp only [ev_same, ev_ne, sz_put, hsz, h1, h8, h9, ne_eq, Nat.reduceEqDiff, not_false_eq_true, Nat.reduceLT]) (fun ρ hc e1 => ?_); simp [go_sem, hc, e1, y1]
                      change wpAnyH _ _ _ _ _ _ _ (Act.put _ (some 72) _) _
                      refine wpAnyH_take (i := 11) (v := .int .u8 B1) rfl (by kernel_rfl) (by kernel_rfl) (by kernel_rfl) (fun _ _ _ h => h) (Or.inl ⟨by rfl, fun W _ => ?_⟩) trivial ?_
                      · refine run2 69 72 (.string x) (.int .i64 (4 * (k : Int) + 1)) (by simp only [ev_same, ev_ne, sz_put, hsz, h1, h8, h9, ne_eq, Nat.reduceEqDiff, not_false_eq_true, Nat.reduceLT]) (by simp only [ev_same, ev_ne, sz_put, hsz, h1, h8, h9, ne_eq, Nat.reduceEqDiff, not_false_eq_true, Nat.reduceLT]) (fun ρ hc e1 e2 => ?_); simp [go_sem, hc, e1, e2, x1]
                      change wpAnyH _ _ _ _ _ _ _ (Act.put _ (some 73) _) _
                      refine wpAnyH_take (i := 12) (v := .int .i64 B1) rfl (by kernel_rfl) (by kernel_rfl) (by kernel_rfl) (fun _ _ _ h => h) (Or.inl ⟨by rfl, fun W _ => ?_⟩) trivial ?_
                      · refine run1 73 (.int .u8 B1) (by simp only [ev_same, ev_ne, sz_put, hsz, h1, h8, h9, ne_eq, Nat.reduceEqDiff, not_false_eq_true, Nat.reduceLT]) (fun ρ hc e1 => ?_); simp [go_sem, hc, e1, u1]
                      change wpAnyH _ _ _ _ _ _ _ (Act.put _ (some 74) _) _
                      refine wpAnyH_take (i := 13) (v := .int .i64 (B1 * 65536)) rfl (by kernel_rfl) (by kernel_rfl) (by kernel_rfl) (fun _ _ _ h => h) (Or.inl ⟨by rfl, fun W _ => ?_⟩) trivial ?_
                      · refine run1 74 (.int .i64 B1) (by simp only [ev_same, ev_ne, sz_put, hsz, h1, h8, h9, ne_eq, Nat.reduceEqDiff, not_false_eq_true, Nat.reduceLT]) (fun ρ hc e1 => ?_); simp [go_sem, hc, e1, z1]
                      change wpAnyH _ _ _ _ _ _ _ (Act.put _ (some 75) _) _
                      refine wpAnyH_take (i := 14) (v := .int .i64 (B0 * 16777216 + B1 * 65536)) rfl (by kernel_rfl) (by kernel_rfl) (by kernel_rfl) (fun _ _ _ h => h) (Or.inl ⟨by rfl, fun W _ => ?_⟩) trivial ?_
                      · refine run2 68 75 (.int .i64 (B0 * 16777216)) (.int .i64 (B1 * 65536)) (by simp only [ev_same, ev_ne, sz_put, hsz, h1, h8, h9, ne_eq, Nat.reduceEqDiff, not_false_eq_true, Nat.reduceLT]) (by simp only [ev_same, ev_ne, sz_put, hsz, h1, h8, h9, ne_eq, Nat.reduceEqDiff, not_false_eq_true, Nat.reduceLT]) (fun ρ hc e1 e2 => ?_); simp [go_sem, hc, e1, e2, z3]
                      change wpAnyH _ _ _ _ _ _ _ (Act.put _ (some 76) _) _
                      refine wpAnyH_take (i := 15) (v := .string x) rfl (by kernel_rfl) (by kernel_rfl) (by kernel_rfl) (fun _ _ _ h => h) (Or.inl ⟨by rfl, fun W _ => ?_⟩) trivial ?_
                      · refine run1 1 (.string x) (by simp only [ev_same, ev_ne, sz_put, hsz, h1, h8, h9, ne_eq, Nat.reduceEqDiff, not_false_eq_true, Nat.reduceLT]) (fun ρ hc e1 => ?_); simp [go_sem, hc, e1, hc]
                      change wpAnyH _ _ _ _ _ _ _ (Act.put _ (some 77) _) _
                      refine wpAnyH_take (i := 16) (v := .int .i64 (k : Int)) rfl (by kernel_rfl) (by kernel_rfl) (by kernel_rfl) (fun _ _ _ h => h) (Or.inl ⟨by rfl, fun W _ => ?_⟩) trivial ?_
                      · refine run1 9 (.int .i64 (k : Int)) (by simp only [ev_same, ev_ne, sz_put, hsz, h1, h8, h9, ne_eq, Nat.reduceEqDiff, not_false_eq_true, Nat.reduceLT]) (fun ρ hc e1 => ?_); simp [go_sem, hc, e1, hc]
                      change wpAnyH _ _ _ _ _ _ _ (Act.put _ (some 78) _) _
                      refine wpAnyH_take (i := 17) (v := .int .i64 (4 * (k : Int))) rfl (by kernel_rfl) (by kernel_rfl) (by kernel_rfl) (fun _ _ _ h => h) (Or.inl ⟨by rfl, fun W _ => ?_⟩) trivial ?_
                      · refine run1 78 (.int .i64 (k : Int)) (by simp only [ev_same, ev_ne, sz_put, hsz, h1, h8, h9, ne_eq, Nat.reduceEqDiff, not_false_eq_true, Nat.reduceLT]) (fun ρ hc e1 => ?_); simp [go_sem, hc, e1, y0]
                      change wpAnyH _ _ _ _ _ _ _ (Act.put _ (some 79) _) _
                      refine wpAnyH_take (i := 18) (v := .int .i64 (4 * (k : Int) + 2)) rfl (by kernel_rfl) (by kernel_rfl) (by kernel_rfl) (fun _ _ _ h => h) (Or.inl ⟨by rfl, fun W _ => ?_⟩) trivial ?_
                      · refine run1 79 (.int .i64 (4 * (k : Int))) (by simp only [ev_same, ev_ne, sz_put, hsz, h1, h8, h9, ne_eq, Nat.reduceEqDiff, not_false_eq_true, Nat.reduceLT]) (fun ρ hc e1 => ?_); simp [go_sem, hc, e1, y2]
                      change wpAnyH _ _ _ _ _ _ _ (Act.put _ (some 80) _) _
                      refine wpAnyH_take (i := 19) (v := .int .u8 B2) rfl (by kernel_rfl) (by kernel_rfl) (by kernel_rfl) (fun _ _ _ h => h) (Or.inl ⟨by rfl, fun W _ => ?_⟩) trivial ?_
                      · refine run2 77 80 (.string x) (.int .i64 (4 * (k : Int) + 2)) (by simp only [ev_same, ev_ne, sz_put, hsz, h1, h8, h9, ne_eq, Nat.reduceEqDiff, not_false_eq_true, Nat.reduceLT]) (by simp only [ev_same, ev_ne, sz_put, hsz, h1, h8, h9, ne_eq, Nat.reduceEqDiff, not_false_eq_true, Nat.reduceLT]) (fun ρ hc e1 e2 => ?_); simp [go_sem, hc, e1, e2, x2]
                      change wpAnyH _ _ _ _ _ _ _ (Act.put _ (some 81) _) _
                      refine wpAnyH_take (i := 20) (v := .int .i64 B2) rfl (by kernel_rfl) (by kernel_rfl) (by kernel_rfl) (fun _ _ _ h => h) (Or.inl ⟨by rfl, fun W _ => ?_⟩) trivial ?_
                      · refine run1 81 (.int .u8 B2) (by simp only [ev_same, ev_ne, sz_put, hsz, h1, h8, h9, ne_eq, Nat.reduceEqDiff, not_false_eq_true, Nat.reduceLT]) (fun ρ hc e1 => ?_); simp [go_sem, hc, e1, u2]
                      change wpAnyH _ _ _ _ _ _ _ (Act.put _ (some 82) _) _
                      refine wpAnyH_take (i := 21) (v := .int .i64 (B2 * 256)) rfl (by kernel_rfl) (by kernel_rfl) (by kernel_rfl) (fun _ _ _ h => h) (Or.inl ⟨by rfl, fun W _ => ?_⟩) trivial ?_
                      · refine run1 82 (.int .i64 B2) (by simp only [ev_same, ev_ne, sz_put, hsz, h1, h8, h9, ne_eq, Nat.reduceEqDiff, not_false_eq_true, Nat.reduceLT]) (fun ρ hc e1 => ?_); simp [go_sem, hc, e1, z2]
                      change wpAnyH _ _ _ _ _ _ _ (Act.put _ (some 83) _) _
                      refine wpAnyH_take (i := 22) (v := .int .i64 (B0 * 16777216 + B1 * 65536 + B2 * 256)) rfl (by kernel_rfl) (by kernel_rfl) (by kernel_rfl) (fun _ _ _ h => h) (Or.inl ⟨by rfl, fun W _ => ?_⟩) trivial ?_
                      · refine run2 76 83 (.int .i64 (B0 * 16777216 + B1 * 65536)) (.int .i64 (B2 * 256)) (by simp only [ev_same, ev_ne, sz_put, hsz, h1, h8, h9, ne_eq, Nat.reduceEqDiff, not_false_eq_true, Nat.reduceLT]) (by simp only [ev_same, ev_ne, sz_put, hsz, h1, h8, h9, ne_eq, Nat.reduceEqDiff, not_false_eq_true, Nat.reduceLT]) (fun ρ hc e1 e2 => ?_); simp [go_sem, hc, e1, e2, z4]
                      change wpAnyH _ _ _ _ _ _ _ (Act.put _ (some 84) _) _
                      refine wpAnyH_take (i := 23) (v := .string x) rfl (by kernel_rfl) (by kernel_rfl) (by kernel_rfl) (fun _ _ _ h => h) (Or.inl ⟨by rfl, fun W _ => ?_⟩) trivial ?_
                      · refine run1 1 (.string x) (by simp only [ev_same, ev_ne, sz_put, hsz, h1, h8, h9, ne_eq, Nat.reduceEqDiff, not_false_eq_true, Nat.reduceLT]) (fun ρ hc e1 => ?_); simp [go_sem, hc, e1, hc]
                      change wpAnyH _ _ _ _ _ _ _ (Act.put _ (some 85) _) _
                      refine wpAnyH_take (i := 24) (v := .int .i64 (k : Int)) rfl (by kernel_rfl) (by kernel_rfl) (by kernel_rfl) (fun _ _ _ h => h) (Or.inl ⟨by rfl, fun W _ => ?_⟩) trivial ?_
                      · refine run1 9 (.int .i64 (k : Int)) (by simp only [ev_same, ev_ne, sz_put, hsz, h1, h8, h9, ne_eq, Nat.reduceEqDiff, not_false_eq_true, Nat.reduceLT]) (fun ρ hc e1 => ?_); simp [go_sem, hc, e1, hc]
                      change wpAnyH _ _ _ _ _ _ _ (Act.put _ (some 86) _) _
                      refine wpAnyH_take (i := 25) (v := .int .i64 (4 * (k : Int))) rfl (by kernel_rfl) (by kernel_rfl) (by kernel_rfl) (fun _ _ _ h => h) (Or.inl ⟨by rfl, fun W _ => ?_⟩) trivial ?_
                      · refine run1 86 (.int .i64 (k : Int)) (by simp only [ev_same, ev_ne, sz_put, hsz, h1, h8, h9, ne_eq, Nat.reduceEqDiff, not_false_eq_true, Nat.reduceLT]) (fun ρ hc e1 => ?_); simp [go_sem, hc, e1, y0]
                      change wpAnyH _ _ _ _ _ _ _ (Act.put _ (some 87) _) _
                      refine wpAnyH_take (i := 26) (v := .int .i64 (4 * (k : Int) + 3)) rfl (by kernel_rfl) (by kernel_rfl) (by kernel_rfl) (fun _ _ _ h => h) (Or.inl ⟨by rfl, fun W _ => ?_⟩) trivial ?_
                      · refine run1 87 (.int .i64 (4 * (k : Int))) (by simp only [ev_same, ev_ne, sz_put, hsz, h1, h8, h9, ne_eq, Nat.reduceEqDiff, not_false_eq_true, Nat.reduceLT]) (fun ρ hc e1 => ?_); simp [go_sem, hc, e1, y3]
                      change wpAnyH _ _ _ _ _ _ _ (Act.put _ (some 88) _) _
                      refine wpAnyH_take (i := 27) (v := .int .u8 B3) rfl (by kernel_rfl) (by kernel_rfl) (by kernel_rfl) (fun _ _ _ h => h) (Or.inl ⟨by rfl, fun W _ => ?_⟩) trivial ?_
                      · refine run2 85 88 (.string x) (.int .i64 (4 * (k : Int) + 3)) (by simp only [ev_same, ev_ne, sz_put, hsz, h1, h8, h9, ne_eq, Nat.reduceEqDiff, not_false_eq_true, Nat.reduceLT]) (by simp only [ev_same, ev_ne, sz_put, hsz, h1, h8, h9, ne_eq, Nat.reduceEqDiff, not_false_eq_true, Nat.reduceLT]) (fun ρ hc e1 e2 => ?_); simp [go_sem, hc, e1, e2, x3]
                      change wpAnyH _ _ _ _ _ _ _ (Act.put _ (some 89) _) _
                      refine wpAnyH_take (i := 28) (v := .int .i64 B3) rfl (by kernel_rfl) (by kernel_rfl) (by kernel_rfl) (fun _ _ _ h => h) (Or.inl ⟨by rfl, fun W _ => ?_⟩) trivial ?_
                      · refine run1 89 (.int .u8 B3) (by simp only [ev_same, ev_ne, sz_put, hsz, h1, h8, h9, ne_eq, Nat.reduceEqDiff, not_false_eq_true, Nat.reduceLT]) (fun ρ hc e1 => ?_); simp [go_sem, hc, e1, u3]
                      change wpAnyH _ _ _ _ _ _ _ (Act.put _ (some 90) _) _
                      refine wpAnyH_take (i := 29) (v := .int .i64 (B0 * 16777216 + B1 * 65536 + B2 * 256 + B3)) rfl (by kernel_rfl) (by kernel_rfl) (by kernel_rfl) (fun _ _ _ h => h) (Or.inl ⟨by rfl, fun W _ => ?_⟩) trivial ?_
                      · refine run2 84 90 (.int .i64 (B0 * 16777216 + B1 * 65536 + B2 * 256)) (.int .i64 B3) (by simp only [ev_same, ev_ne, sz_put, hsz, h1, h8, h9, ne_eq, Nat.reduceEqDiff, not_false_eq_true, Nat.reduceLT]) (by simp only [ev_same, ev_ne, sz_put, hsz, h1, h8, h9, ne_eq, Nat.reduceEqDiff, not_false_eq_true, Nat.reduceLT]) (fun ρ hc e1 e2 => ?_); simp [go_sem, hc, e1, e2, z5]
                      change wpAnyH _ _ _ _ _ _ _ (Act.put _ (some 91) _) _
                      refine wpAnyH_ready (rs := [30]) (by kernel_rfl) (by simp) ?_
                      refine AllReadyH.cons rfl (fun K hK => ?_) AllReadyH.nil
                      refine step_val (.slice (some ⟨wr.heap.size, 0, none⟩) 1 1) (wr.drew.alloc (.cells #[.int .i64 (B0 * 16777216 + B1 * 65536 + B2 * 256 + B3)] 3)) rfl ?_ ?_
                      · refine run1 91 (.int .i64 (B0 * 16777216 + B1 * 65536 + B2 * 256 + B3)) (by simp only [ev_same, ev_ne, sz_put, hsz, h1, h8, h9, ne_eq, Nat.reduceEqDiff, not_false_eq_true, Nat.reduceLT]) (fun ρ hc e1 => ?_); simp [go_sem, hc, e1]
                      refine hK.out _ _ trivial (fun _ => ?_)
                      clear hK K
                      change wpAnyH _ _ _ _ _ _ _ (Act.put _ (some 92) _) _
                      refine wpAnyH_ready (rs := [31]) (by kernel_rfl) (by simp) ?_
                      refine AllReadyH.cons rfl (fun K hK => ?_) AllReadyH.nil
                      refine step_append_lies _ rfl (.tmp 62) (.tmp 92) 36 rfl B 3 i0 (.int .i64 0) 1 8 Tryz.underlying36 hi hz0 hz1 hz2 rfl (by decide) v k (wl .i64 (Wd b) k) (by simp only [ev_same, ev_ne, sz_put, hsz, h1, h8, h9, ne_eq, Nat.reduceEqDiff, not_false_eq_true, Nat.reduceLT]) (HOd.out.alloc _) ⟨wr.heap.size, 0, none⟩ 1 1 [.int .i64 (B0 * 16777216 + B1 * 65536 + B2 * 256 + B3)] (by simp only [ev_same, ev_ne, sz_put, hsz, h1, h8, h9, ne_eq, Nat.reduceEqDiff, not_false_eq_true, Nat.reduceLT]) rfl (one_new wr.drew _ _) (one_cell _) (by omega) (by unfold maxLen; omega) (by omega) (by simp; omega) _ rfl ?_
                      intro g4 c4 w4 ho hgr hg hlt4
                      have HO4 : Hid (w4.ownsRow B 3 1 (.slice (some ⟨g4, 0, none⟩) (k + 1) c4) (k + 1) (wl .i64 (Wd b) k ++ [.int .i64 (B0 * 16777216 + B1 * 65536 + B2 * 256 + B3)])) := ho
                      have HB4 : Hid (Below B wr w4) := ((Below.refl B wr).drew.alloc hBx _).grown hgr (by simp; omega) (ownBlock_ge HO.out)
                      clear ho hgr hg hlt4
                      refine hK.out _ _ trivial (fun _ => ?_)
                      clear hK K
                      change wpAnyH _ _ _ _ _ _ _ (Act.put _ (some 93) _) _
                      refine wpAnyH_take (i := 32) (v := .slice (some ⟨g4, 0, none⟩) (k + 1) c4) rfl (by kernel_rfl) (by kernel_rfl) (by kernel_rfl) (fun _ _ _ h => h) (Or.inl ⟨by rfl, fun W _ => ?_⟩) trivial ?_
                      · refine run1 93 (.slice (some ⟨g4, 0, none⟩) (k + 1) c4) (by simp only [ev_same, ev_ne, sz_put, hsz, h1, h8, h9, ne_eq, Nat.reduceEqDiff, not_false_eq_true, Nat.reduceLT]) (fun ρ hc e1 => ?_); simp [go_sem, hc, e1]
                      change wpAnyH _ _ _ _ _ _ _ (Act.put _ (some 8) _) _
                      refine wpAnyH_done (by kernel_rfl) ?_ _
                      clear hsz h1 h8 h9 x0 x1 x2 x3 y0 y1 y2 y3 u0 u1 u2 u3 z0 z1 z2 z3 z4 z5
                      have hfr := HFR.out
                      clear HFR
                      subst hfr
                      simp only [Act.put, List.setIfInBounds_toArray, List.set_cons_zero, List.set_cons_succ]
                      go_wp2
                      go_roundg (gk - 1)
                      case measure => have := HK.out; omega
                      case rel =>
                        have hkk := HK.out
                        have hz := HB4.out.size
                        exact ⟨k + 1, _, rfl, by omega, by go_num, by rw [wl_snoc, HW.out]; exact HO4.out, by omega, HA.out.later HB4.out lgh, HB.out.trans (HB4.out.mono lwB)⟩
                  · obtain ⟨g8, c8, rfl, _, _⟩ := hO.form (by omega)
                    have hAr := own_arr hO
                    have c16 := (hAr (k - 16) (by omega)).1
                    have c15 := (hAr (k - 15) (by omega)).1
                    have c7 := (hAr (k - 7) (by omega)).1
                    have c2 := (hAr (k - 2) (by omega)).1
                    have w16 := Wd_ok b HBL.out (k - 16)
                    have w15 := Wd_ok b HBL.out (k - 15)
                    have w7 := Wd_ok b HBL.out (k - 7)
                    have w2 := Wd_ok b HBL.out (k - 2)
                    have HN : Hid (Wd b k = (Wd b (k - 16) + sg0 (Wd b (k - 15)) + Wd b (k - 7) + sg1 (Wd b (k - 2))) % 4294967296) := Wd_hi b k h16
                    have t16 : (16 : Int) ≤ (k : Int) := by omega
                    have t64 : (k : Int) < 64 := by omega
                    have hs0 := sg0_i (Wd b (k - 15)) w15
                    have hs1 := sg1_i (Wd b (k - 2)) w2
                    have v0 : IsW (sg0 (Wd b (k - 15))) := isW_bits _ _ _
                    have v1 : IsW (sg1 (Wd b (k - 2))) := isW_bits _ _ _
                    generalize sg0 (Wd b (k - 15)) = S0 at hs0 v0 HN
                    generalize sg1 (Wd b (k - 2)) = S1 at hs1 v1 HN
                    generalize Wd b (k - 16) = X16 at c16 HN w16
                    generalize Wd b (k - 15) = X15 at c15 w15 hs0
                    generalize Wd b (k - 7) = X7 at c7 HN w7
                    generalize Wd b (k - 2) = X2 at c2 w2 hs1
                    have H15 : Hid (IsW X15) := w15
                    have H2 : Hid (IsW X2) := w2
                    obtain ⟨w16a, w16b⟩ := w16
                    obtain ⟨w15a, w15b⟩ := w15
                    obtain ⟨w7a, w7b⟩ := w7
                    obtain ⟨w2a, w2b⟩ := w2
                    obtain ⟨v0a, v0b⟩ := v0
                    obtain ⟨v1a, v1b⟩ := v1
                    clear hAr hO hA hb hkg
                    go_upto_region 18 with fail
                    as_aux_lemma =>
                      go_quiet (((go_at_call 104; exact turn_q _ _ _ _ _ rfl (by omega) H15.out)))
                      obtain ⟨wq, hwq⟩ : ∃ wq, wq = wr.drewN nq := ⟨_, rfl⟩
                      rw [← hwq]
                      have c2' : wq.cell? ⟨g8, k - 2, none⟩ = some (.int .i64 X2) := by rw [hwq]; exact c2
                      have c16' : wq.cell? ⟨g8, k - 16, none⟩ = some (.int .i64 X16) := by rw [hwq]; exact c16
                      have c7' : wq.cell? ⟨g8, k - 7, none⟩ = some (.int .i64 X7) := by rw [hwq]; exact c7
                      have HBp : Hid (Below B wr wq) := by show Below B wr wq; rw [hwq]; exact below_drewN (Below.refl _ _) _
                      have HOp : Hid (wq.ownsRow B 3 1 (.slice (some ⟨g8, 0, none⟩) k c8) k (wl .i64 (Wd b) k)) := by show wq.ownsRow _ _ _ _ _ _; rw [hwq]; exact own_later HO.out (below_drewN (Below.refl _ _) _)
                      have hBp : B ≤ wq.heap.size := by rw [hwq]; exact hBx
                      clear hwq c2 c15 c16 c7 nq hs0 HOd
                      go_upto_region 19 with fail
                      as_aux_lemma =>
                        go_quiet (((go_at_call 104; exact turn_q _ _ _ _ _ rfl (by omega) H2.out)))
                        obtain ⟨wq2, hwq⟩ : ∃ wq2, wq2 = wq.drewN nq := ⟨_, rfl⟩
                        rw [← hwq]
                        have c16 : wq2.drew.cell? ⟨g8, k - 16, none⟩ = some (.int .i64 X16) := by rw [hwq]; exact c16'
                        have c7 : wq2.drew.cell? ⟨g8, k - 7, none⟩ = some (.int .i64 X7) := by rw [hwq]; exact c7'
                        have HBq : Hid (Below B wr wq2) := by show Below B wr wq2; rw [hwq]; exact below_drewN HBp.out _
                        have HOq : Hid (wq2.drew.ownsRow B 3 1 (.slice (some ⟨g8, 0, none⟩) k c8) k (wl .i64 (Wd b) k)) := by show wq2.drew.ownsRow _ _ _ _ _ _; rw [hwq]; exact own_later HOp.out (below_drewN (Below.refl _ _) _).drew
                        have hBq : B ≤ wq2.heap.size := by rw [hwq]; exact hBp
                        clear hwq c2' c16' c7' nq hs1 HBp HOp hBp
                        go_upto_region 20 with fail
                        as_aux_lemma =>
                          have y0 := wraps_i63 ((k : Int) - 16) (by omega) (by omega)
                          have y1 := wraps_i63 ((k : Int) - 7) (by omega) (by omega)
                          have z0 := wraps_i63 (X16 + S0) (by omega) (by omega)
                          have z1 := wraps_i63 (X16 + S0 + X7) (by omega) (by omega)
                          have z2 := wraps_i63 (X16 + S0 + X7 + S1) (by omega) (by omega)
                          have m0 : (X16 + S0 + X7 + S1).tmod 4294967296 = (X16 + S0 + X7 + S1) % 4294967296 := Int.tmod_eq_emod_of_nonneg (by omega)
                          have l16 : ¬ ((k : Int) ≤ (k : Int) - 16) := by omega
                          have l7 : ¬ ((k : Int) ≤ (k : Int) - 7) := by omega
                          have t7 : (7 : Int) ≤ (k : Int) := by omega
                          have t7b : ¬ ((k : Int) < 7) := by omega
                          have n16 : ((k : Int) - 16).toNat = k - 16 := by omega
                          have n7 : ((k : Int) - 7).toNat = k - 7 := by omega
                          refine at_frame (fun A HFR => ?_)
                          have hsz : A.tmps.size = 319 := by rw [HFR.out]; rfl
                          have h8 : A.eval (.tmp 8) = .slice (some ⟨g8, 0, none⟩) k c8 := by rw [HFR.out]; rfl
                          have h9 : A.eval (.tmp 9) = .int .i64 (k : Int) := by rw [HFR.out]; rfl
                          have h10 : A.eval (.tmp 10) = .int .i64 S0 := by rw [HFR.out]; rfl
                          have h11 : A.eval (.tmp 11) = .int .i64 S1 := by rw [HFR.out]; rfl
                          refine wp_region_any (by kernel_rfl) ?_
                          change wpAny _ _ _ _ _ _ _ (World.drew _)
                          refine wpAny_take (i := 0) (v := .slice (some ⟨g8, 0, none⟩) k c8) rfl (by kernel_rfl) (by kernel_rfl) (by kernel_rfl) (fun _ _ _ h => h) (Or.inl ⟨by rfl, fun W => ?_⟩) ?_
                          · refine run1 8 (.slice (some ⟨g8, 0, none⟩) k c8) (by simp only [ev_same, ev_ne, sz_put, hsz, h8, h9, h10, h11, ne_eq, Nat.reduceEqDiff, not_false_eq_true, Nat.reduceLT]) (fun ρ hc e1 => ?_); simp [go_sem, hc, e1, hc]
                          change wpAny _ _ _ _ _ _ (Act.put _ (some 134) _) _
                          refine wpAny_take (i := 1) (v := .slice (some ⟨g8, 0, none⟩) k c8) rfl (by kernel_rfl) (by kernel_rfl) (by kernel_rfl) (fun _ _ _ h => h) (Or.inl ⟨by rfl, fun W => ?_⟩) ?_
                          · refine run1 8 (.slice (some ⟨g8, 0, none⟩) k c8) (by simp only [ev_same, ev_ne, sz_put, hsz, h8, h9, h10, h11, ne_eq, Nat.reduceEqDiff, not_false_eq_true, Nat.reduceLT]) (fun ρ hc e1 => ?_); simp [go_sem, hc, e1, hc]
                          change wpAny _ _ _ _ _ _ (Act.put _ (some 135) _) _
                          refine wpAny_take (i := 2) (v := .int .i64 (k : Int)) rfl (by kernel_rfl) (by kernel_rfl) (by kernel_rfl) (fun _ _ _ h => h) (Or.inl ⟨by rfl, fun W => ?_⟩) ?_
                          · refine run1 9 (.int .i64 (k : Int)) (by simp only [ev_same, ev_ne, sz_put, hsz, h8, h9, h10, h11, ne_eq, Nat.reduceEqDiff, not_false_eq_true, Nat.reduceLT]) (fun ρ hc e1 => ?_); simp [go_sem, hc, e1, hc]
                          change wpAny _ _ _ _ _ _ (Act.put _ (some 136) _) _
                          refine wpAny_take (i := 3) (v := .int .i64 ((k : Int) - 16)) rfl (by kernel_rfl) (by kernel_rfl) (by kernel_rfl) (fun _ _ _ h => h) (Or.inl ⟨by rfl, fun W => ?_⟩) ?_
                          · refine run1 136 (.int .i64 (k : Int)) (by simp only [ev_same, ev_ne, sz_put, hsz, h8, h9, h10, h11, ne_eq, Nat.reduceEqDiff, not_false_eq_true, Nat.reduceLT]) (fun ρ hc e1 => ?_); simp [go_sem, hc, e1, y0]
                          change wpAny _ _ _ _ _ _ (Act.put _ (some 137) _) _
                          refine wpAny_take (i := 4) (v := .pointer (some ⟨g8, k - 16, none⟩)) rfl (by kernel_rfl) (by kernel_rfl) (by kernel_rfl) (fun _ _ _ h => h) (Or.inl ⟨by rfl, fun W => ?_⟩) ?_
                          · refine run2 135 137 (.slice (some ⟨g8, 0, none⟩) k c8) (.int .i64 ((k : Int) - 16)) (by simp only [ev_same, ev_ne, sz_put, hsz, h8, h9, h10, h11, ne_eq, Nat.reduceEqDiff, not_false_eq_true, Nat.reduceLT]) (by simp only [ev_same, ev_ne, sz_put, hsz, h8, h9, h10, h11, ne_eq, Nat.reduceEqDiff, not_false_eq_true, Nat.reduceLT]) (fun ρ hc e1 e2 => ?_); simp [go_sem, hc, e1, e2, n16, l16, t16]
                          change wpAny _ _ _ _ _ _ (Act.put _ (some 138) _) _
                          refine wpAny_take (i := 6) (v := .int .i64 S0) rfl (by kernel_rfl) (by kernel_rfl) (by kernel_rfl) (fun _ _ _ h => h) (Or.inl ⟨by rfl, fun W => ?_⟩) ?_
                          · refine run1 10 (.int .i64 S0) (by simp only [ev_same, ev_ne, sz_put, hsz, h8, h9, h10, h11, ne_eq, Nat.reduceEqDiff, not_false_eq_true, Nat.reduceLT]) (fun ρ hc e1 => ?_); simp [go_sem, hc, e1, hc]
                          change wpAny _ _ _ _ _ _ (Act.put _ (some 140) _) _
                          refine wpAny_take (i := 8) (v := .slice (some ⟨g8, 0, none⟩) k c8) rfl (by kernel_rfl) (by kernel_rfl) (by kernel_rfl) (fun _ _ _ h => h) (Or.inl ⟨by rfl, fun W => ?_⟩) ?_
                          · refine run1 8 (.slice (some ⟨g8, 0, none⟩) k c8) (by simp only [ev_same, ev_ne, sz_put, hsz, h8, h9, h10, h11, ne_eq, Nat.reduceEqDiff, not_false_eq_true, Nat.reduceLT]) (fun ρ hc e1 => ?_); simp [go_sem, hc, e1, hc]
                          change wpAny _ _ _ _ _ _ (Act.put _ (some 142) _) _
                          refine wpAny_take (i := 9) (v := .int .i64 (k : Int)) rfl (by kernel_rfl) (by kernel_rfl) (by kernel_rfl) (fun _ _ _ h => h) (Or.inl ⟨by rfl, fun W => ?_⟩) ?_
                          · refine run1 9 (.int .i64 (k : Int)) (by simp only [ev_same, ev_ne, sz_put, hsz, h8, h9, h10, h11, ne_eq, Nat.reduceEqDiff, not_false_eq_true, Nat.reduceLT]) (fun ρ hc e1 => ?_); simp [go_sem, hc, e1, hc]
                          change wpAny _ _ _ _ _ _ (Act.put _ (some 143) _) _
                          refine wpAny_take (i := 10) (v := .int .i64 ((k : Int) - 7)) rfl (by kernel_rfl) (by kernel_rfl) (by kernel_rfl) (fun _ _ _ h => h) (Or.inl ⟨by rfl, fun W => ?_⟩) ?_
                          · refine run1 143 (.int .i64 (k : Int)) (by simp only [ev_same, ev_ne, sz_put, hsz, h8, h9, h10, h11, ne_eq, Nat.reduceEqDiff, not_false_eq_true, Nat.reduceLT]) (fun ρ hc e1 => ?_); simp [go_sem, hc, e1, y1]
                          change wpAny _ _ _ _ _ _ (Act.put _ (some 144) _) _
                          refine wpAny_take (i := 11) (v := .pointer (some ⟨g8, k - 7, none⟩)) rfl (by kernel_rfl) (by kernel_rfl) (by kernel_rfl) (fun _ _ _ h => h) (Or.inl ⟨by rfl, fun W => ?_⟩) ?_
                          · refine run2 142 144 (.slice (some ⟨g8, 0, none⟩) k c8) (.int .i64 ((k : Int) - 7)) (by simp only [ev_same, ev_ne, sz_put, hsz, h8, h9, h10, h11, ne_eq, Nat.reduceEqDiff, not_false_eq_true, Nat.reduceLT]) (by simp only [ev_same, ev_ne, sz_put, hsz, h8, h9, h10, h11, ne_eq, Nat.reduceEqDiff, not_false_eq_true, Nat.reduceLT]) (fun ρ hc e1 e2 => ?_); simp [go_sem, hc, e1, e2, n7, l7, t7]
                          change wpAny _ _ _ _ _ _ (Act.put _ (some 145) _) _
                          refine wpAny_take (i := 14) (v := .int .i64 S1) rfl (by kernel_rfl) (by kernel_rfl) (by kernel_rfl) (fun _ _ _ h => h) (Or.inl ⟨by rfl, fun W => ?_⟩) ?_
                          · refine run1 11 (.int .i64 S1) (by simp only [ev_same, ev_ne, sz_put, hsz, h8, h9, h10, h11, ne_eq, Nat.reduceEqDiff, not_false_eq_true, Nat.reduceLT]) (fun ρ hc e1 => ?_); simp [go_sem, hc, e1, hc]
                          change wpAny _ _ _ _ _ _ (Act.put _ (some 148) _) _
                          refine any_two 5 12 (.int .i64 X16) (.int .i64 X7) wq2.drew wq2.drew (by kernel_rfl) rfl rfl rfl rfl ?_ ?_ ?_ ?_
                          · refine run1 138 (.pointer (some ⟨g8, k - 16, none⟩)) (by simp only [ev_same, ev_ne, sz_put, hsz, h8, h9, h10, h11, ne_eq, Nat.reduceEqDiff, not_false_eq_true, Nat.reduceLT]) (fun ρ hc e1 => ?_); simp [go_sem, hc, e1, c16]
                          · refine run1 145 (.pointer (some ⟨g8, k - 7, none⟩)) (by simp only [ev_same, ev_ne, sz_put, hsz, h8, h9, h10, h11, ne_eq, Nat.reduceEqDiff, not_false_eq_true, Nat.reduceLT]) (fun ρ hc e1 => ?_); simp [go_sem, hc, e1, c7]
                          · change wpAny _ _ _ _ _ _ (Act.put _ (some 139) _) _
                            refine wpAny_take (i := 7) (v := .int .i64 (X16 + S0)) rfl (by kernel_rfl) (by kernel_rfl) (by kernel_rfl) (fun _ _ _ h => h) (Or.inl ⟨by rfl, fun W => ?_⟩) ?_
                            · refine run2 139 140 (.int .i64 X16) (.int .i64 S0) (by simp only [ev_same, ev_ne, sz_put, hsz, h8, h9, h10, h11, ne_eq, Nat.reduceEqDiff, not_false_eq_true, Nat.reduceLT]) (by simp only [ev_same, ev_ne, sz_put, hsz, h8, h9, h10, h11, ne_eq, Nat.reduceEqDiff, not_false_eq_true, Nat.reduceLT]) (fun ρ hc e1 e2 => ?_); simp [go_sem, hc, e1, e2, z0]
                            change wpAny _ _ _ _ _ _ (Act.put _ (some 141) _) _
                            refine any_one 12 (.int .i64 X7) wq2.drew (by kernel_rfl) rfl rfl ?_ ?_
                            · refine run1 145 (.pointer (some ⟨g8, k - 7, none⟩)) (by simp only [ev_same, ev_ne, sz_put, hsz, h8, h9, h10, h11, ne_eq, Nat.reduceEqDiff, not_false_eq_true, Nat.reduceLT]) (fun ρ hc e1 => ?_); simp [go_sem, hc, e1, c7]
                            change wpAny _ _ _ _ _ _ (Act.put _ (some 146) _) _
                            refine wpAny_take (i := 13) (v := .int .i64 (X16 + S0 + X7)) rfl (by kernel_rfl) (by kernel_rfl) (by kernel_rfl) (fun _ _ _ h => h) (Or.inl ⟨by rfl, fun W => ?_⟩) ?_
                            · refine run2 141 146 (.int .i64 (X16 + S0)) (.int .i64 X7) (by simp only [ev_same, ev_ne, sz_put, hsz, h8, h9, h10, h11, ne_eq, Nat.reduceEqDiff, not_false_eq_true, Nat.reduceLT]) (by simp only [ev_same, ev_ne, sz_put, hsz, h8, h9, h10, h11, ne_eq, Nat.reduceEqDiff, not_false_eq_true, Nat.reduceLT]) (fun ρ hc e1 e2 => ?_); simp [go_sem, hc, e1, e2, z1]
                            change wpAny _ _ _ _ _ _ (Act.put _ (some 147) _) _
                            refine wpAny_take (i := 15) (v := .int .i64 (X16 + S0 + X7 + S1)) rfl (by kernel_rfl) (by kernel_rfl) (by kernel_rfl) (fun _ _ _ h => h) (Or.inl ⟨by rfl, fun W => ?_⟩) ?_
                            · refine run2 147 148 (.int .i64 (X16 + S0 + X7)) (.int .i64 S1) (by simp only [ev_same, ev_ne, sz_put, hsz, h8, h9, h10, h11, ne_eq, Nat.reduceEqDiff, not_false_eq_true, Nat.reduceLT]) (by simp only [ev_same, ev_ne, sz_put, hsz, h8, h9, h10, h11, ne_eq, Nat.reduceEqDiff, not_false_eq_true, Nat.reduceLT]) (fun ρ hc e1 e2 => ?_); simp [go_sem, hc, e1, e2, z2]
                            change wpAny _ _ _ _ _ _ (Act.put _ (some 149) _) _
                            refine wpAny_take (i := 16) (v := .int .i64 ((X16 + S0 + X7 + S1) % 4294967296)) rfl (by kernel_rfl) (by kernel_rfl) (by kernel_rfl) (fun _ _ _ h => h) (Or.inl ⟨by rfl, fun W => ?_⟩) ?_
                            · refine run1 149 (.int .i64 (X16 + S0 + X7 + S1)) (by simp only [ev_same, ev_ne, sz_put, hsz, h8, h9, h10, h11, ne_eq, Nat.reduceEqDiff, not_false_eq_true, Nat.reduceLT]) (fun ρ hc e1 => ?_); simp [go_sem, hc, e1, m0]
                            change wpAny _ _ _ _ _ _ (Act.put _ (some 150) _) _
                            refine any_one 17 (.slice (some ⟨wq2.heap.size, 0, none⟩) 1 1) (wq2.drew.alloc (.cells #[.int .i64 ((X16 + S0 + X7 + S1) % 4294967296)] 3)) (by kernel_rfl) rfl rfl ?_ ?_
                            · refine run1 150 (.int .i64 ((X16 + S0 + X7 + S1) % 4294967296)) (by simp only [ev_same, ev_ne, sz_put, hsz, h8, h9, h10, h11, ne_eq, Nat.reduceEqDiff, not_false_eq_true, Nat.reduceLT]) (fun ρ hc e1 => ?_); simp [go_sem, hc, e1]
                            change wpAny _ _ _ _ _ _ (Act.put _ (some 151) _) _
                            refine wpAny_ready (rs := [18]) (by kernel_rfl) (by simp) ?_
                            refine AllReady.cons rfl (fun K hK => ?_) AllReady.nil
                            refine step_append_lies _ rfl (.tmp 134) (.tmp 151) 36 rfl B 3 i0 (.int .i64 0) 1 8 Tryz.underlying36 hi hz0 hz1 hz2 rfl (by decide) (.slice (some ⟨g8, 0, none⟩) k c8) k (wl .i64 (Wd b) k) (by simp only [ev_same, ev_ne, sz_put, hsz, h8, h9, h10, h11, ne_eq, Nat.reduceEqDiff, not_false_eq_true, Nat.reduceLT]) (HOq.out.alloc _) ⟨wq2.heap.size, 0, none⟩ 1 1 [.int .i64 ((X16 + S0 + X7 + S1) % 4294967296)] (by simp only [ev_same, ev_ne, sz_put, hsz, h8, h9, h10, h11, ne_eq, Nat.reduceEqDiff, not_false_eq_true, Nat.reduceLT]) rfl (one_new wq2.drew _ _) (one_cell _) (by omega) (by unfold maxLen; omega) (by omega) (by simp; omega) _ rfl ?_
                            intro g4 c4 w4 ho hgr hg hlt4
                            have HO4 : Hid (w4.ownsRow B 3 1 (.slice (some ⟨g4, 0, none⟩) (k + 1) c4) (k + 1) (wl .i64 (Wd b) k ++ [.int .i64 ((X16 + S0 + X7 + S1) % 4294967296)])) := ho
                            have HB4 : Hid (Below B wr w4) := (HBq.out.drew.alloc hBq _).grown hgr (by simp; omega) (ownBlock_ge HO.out)
                            clear ho hgr hg hlt4
                            refine hK _ _ ?_
                            clear hK K
                            change wpAny _ _ _ _ _ _ (Act.put _ (some 152) _) _
                            refine wpAny_take (i := 19) (v := .slice (some ⟨g4, 0, none⟩) (k + 1) c4) rfl (by kernel_rfl) (by kernel_rfl) (by kernel_rfl) (fun _ _ _ h => h) (Or.inl ⟨by rfl, fun W => ?_⟩) ?_
                            · refine run1 152 (.slice (some ⟨g4, 0, none⟩) (k + 1) c4) (by simp only [ev_same, ev_ne, sz_put, hsz, h8, h9, h10, h11, ne_eq, Nat.reduceEqDiff, not_false_eq_true, Nat.reduceLT]) (fun ρ hc e1 => ?_); simp [go_sem, hc, e1]
                            change wpAny _ _ _ _ _ _ (Act.put _ (some 8) _) _
                            refine wpAny_done (by kernel_rfl) ?_ _
                            clear hsz h8 h9 h10 h11 y0 y1 z0 z1 z2 c16 c7
                            have hfr := HFR.out
                            clear HFR
                            subst hfr
                            simp only [Act.put, List.setIfInBounds_toArray, List.set_cons_zero, List.set_cons_succ]
                            go_wp2
                            go_roundg (gk - 1)
                            case measure => have := HK.out; omega
                            case rel =>
                              have hkk := HK.out
                              have hz := HB4.out.size
                              exact ⟨k + 1, _, rfl, by omega, by go_num, by rw [wl_snoc, HN.out]; exact HO4.out, by omega, HA.out.later HB4.out lgh, HB.out.trans (HB4.out.mono lwB)⟩
                          · change wpAny _ _ _ _ _ _ (Act.put _ (some 146) _) _
                            refine any_one 5 (.int .i64 X16) wq2.drew (by kernel_rfl) rfl rfl ?_ ?_
                            · refine run1 138 (.pointer (some ⟨g8, k - 16, none⟩)) (by simp only [ev_same, ev_ne, sz_put, hsz, h8, h9, h10, h11, ne_eq, Nat.reduceEqDiff, not_false_eq_true, Nat.reduceLT]) (fun ρ hc e1 => ?_); simp [go_sem, hc, e1, c16]
                            change wpAny _ _ _ _ _ _ (Act.put _ (some 139) _) _
                            refine wpAny_take (i := 7) (v := .int .i64 (X16 + S0)) rfl (by kernel_rfl) (by kernel_rfl) (by kernel_rfl) (fun _ _ _ h => h) (Or.inl ⟨by rfl, fun W => ?_⟩) ?_
                            · refine run2 139 140 (.int .i64 X16) (.int .i64 S0) (by simp only [ev_same, ev_ne, sz_put, hsz, h8, h9, h10, h11, ne_eq, Nat.reduceEqDiff, not_false_eq_true, Nat.reduceLT]) (by simp only [ev_same, ev_ne, sz_put, hsz, h8, h9, h10, h11, ne_eq, Nat.reduceEqDiff, not_false_eq_true, Nat.reduceLT]) (fun ρ hc e1 e2 => ?_); simp [go_sem, hc, e1, e2, z0]
                            change wpAny _ _ _ _ _ _ (Act.put _ (some 141) _) _
                            refine wpAny_take (i := 13) (v := .int .i64 (X16 + S0 + X7)) rfl (by kernel_rfl) (by kernel_rfl) (by kernel_rfl) (fun _ _ _ h => h) (Or.inl ⟨by rfl, fun W => ?_⟩) ?_
                            · refine run2 141 146 (.int .i64 (X16 + S0)) (.int .i64 X7) (by simp only [ev_same, ev_ne, sz_put, hsz, h8, h9, h10, h11, ne_eq, Nat.reduceEqDiff, not_false_eq_true, Nat.reduceLT]) (by simp only [ev_same, ev_ne, sz_put, hsz, h8, h9, h10, h11, ne_eq, Nat.reduceEqDiff, not_false_eq_true, Nat.reduceLT]) (fun ρ hc e1 e2 => ?_); simp [go_sem, hc, e1, e2, z1]
                            change wpAny _ _ _ _ _ _ (Act.put _ (some 147) _) _
                            refine wpAny_take (i := 15) (v := .int .i64 (X16 + S0 + X7 + S1)) rfl (by kernel_rfl) (by kernel_rfl) (by kernel_rfl) (fun _ _ _ h => h) (Or.inl ⟨by rfl, fun W => ?_⟩) ?_
                            · refine run2 147 148 (.int .i64 (X16 + S0 + X7)) (.int .i64 S1) (by simp only [ev_same, ev_ne, sz_put, hsz, h8, h9, h10, h11, ne_eq, Nat.reduceEqDiff, not_false_eq_true, Nat.reduceLT]) (by simp only [ev_same, ev_ne, sz_put, hsz, h8, h9, h10, h11, ne_eq, Nat.reduceEqDiff, not_false_eq_true, Nat.reduceLT]) (fun ρ hc e1 e2 => ?_); simp [go_sem, hc, e1, e2, z2]
                            change wpAny _ _ _ _ _ _ (Act.put _ (some 149) _) _
                            refine wpAny_take (i := 16) (v := .int .i64 ((X16 + S0 + X7 + S1) % 4294967296)) rfl (by kernel_rfl) (by kernel_rfl) (by kernel_rfl) (fun _ _ _ h => h) (Or.inl ⟨by rfl, fun W => ?_⟩) ?_
                            · refine run1 149 (.int .i64 (X16 + S0 + X7 + S1)) (by simp only [ev_same, ev_ne, sz_put, hsz, h8, h9, h10, h11, ne_eq, Nat.reduceEqDiff, not_false_eq_true, Nat.reduceLT]) (fun ρ hc e1 => ?_); simp [go_sem, hc, e1, m0]
                            change wpAny _ _ _ _ _ _ (Act.put _ (some 150) _) _
                            refine any_one 17 (.slice (some ⟨wq2.heap.size, 0, none⟩) 1 1) (wq2.drew.alloc (.cells #[.int .i64 ((X16 + S0 + X7 + S1) % 4294967296)] 3)) (by kernel_rfl) rfl rfl ?_ ?_
                            · refine run1 150 (.int .i64 ((X16 + S0 + X7 + S1) % 4294967296)) (by simp only [ev_same, ev_ne, sz_put, hsz, h8, h9, h10, h11, ne_eq, Nat.reduceEqDiff, not_false_eq_true, Nat.reduceLT]) (fun ρ hc e1 => ?_); simp [go_sem, hc, e1]
                            change wpAny _ _ _ _ _ _ (Act.put _ (some 151) _) _
                            refine wpAny_ready (rs := [18]) (by kernel_rfl) (by simp) ?_
                            refine AllReady.cons rfl (fun K hK => ?_) AllReady.nil
                            refine step_append_lies _ rfl (.tmp 134) (.tmp 151) 36 rfl B 3 i0 (.int .i64 0) 1 8 Tryz.underlying36 hi hz0 hz1 hz2 rfl (by decide) (.slice (some ⟨g8, 0, none⟩) k c8) k (wl .i64 (Wd b) k) (by simp only [ev_same, ev_ne, sz_put, hsz, h8, h9, h10, h11, ne_eq, Nat.reduceEqDiff, not_false_eq_true, Nat.reduceLT]) (HOq.out.alloc _) ⟨wq2.heap.size, 0, none⟩ 1 1 [.int .i64 ((X16 + S0 + X7 + S1) % 4294967296)] (by simp only [ev_same, ev_ne, sz_put, hsz, h8, h9, h10, h11, ne_eq, Nat.reduceEqDiff, not_false_eq_true, Nat.reduceLT]) rfl (one_new wq2.drew _ _) (one_cell _) (by omega) (by unfold maxLen; omega) (by omega) (by simp; omega) _ rfl ?_
                            intro g4 c4 w4 ho hgr hg hlt4
                            have HO4 : Hid (w4.ownsRow B 3 1 (.slice (some ⟨g4, 0, none⟩) (k + 1) c4) (k + 1) (wl .i64 (Wd b) k ++ [.int .i64 ((X16 + S0 + X7 + S1) % 4294967296)])) := ho
                            have HB4 : Hid (Below B wr w4) := (HBq.out.drew.alloc hBq _).grown hgr (by simp; omega) (ownBlock_ge HO.out)
                            clear ho hgr hg hlt4
                            refine hK _ _ ?_
                            clear hK K
                            change wpAny _ _ _ _ _ _ (Act.put _ (some 152) _) _
                            refine wpAny_take (i := 19) (v := .slice (some ⟨g4, 0, none⟩) (k + 1) c4) rfl (by kernel_rfl) (by kernel_rfl) (by kernel_rfl) (fun _ _ _ h => h) (Or.inl ⟨by rfl, fun W => ?_⟩) ?_
                            · refine run1 152 (.slice (some ⟨g4, 0, none⟩) (k + 1) c4) (by simp only [ev_same, ev_ne, sz_put, hsz, h8, h9, h10, h11, ne_eq, Nat.reduceEqDiff, not_false_eq_true, Nat.reduceLT]) (fun ρ hc e1 => ?_); simp [go_sem, hc, e1]
                            change wpAny _ _ _ _ _ _ (Act.put _ (some 8) _) _
                            refine wpAny_done (by kernel_rfl) ?_ _
                            clear hsz h8 h9 h10 h11 y0 y1 z0 z1 z2 c16 c7
                            have hfr := HFR.out
                            clear HFR
                            subst hfr
                            simp only [Act.put, List.setIfInBounds_toArray, List.set_cons_zero, List.set_cons_succ]
                            go_wp2
                            go_roundg (gk - 1)
                            case measure => have := HK.out; omega
                            case rel =>
                              have hkk := HK.out
                              have hz := HB4.out.size
                              exact ⟨k + 1, _, rfl, by omega, by go_num, by rw [wl_snoc, HN.out]; exact HO4.out, by omega, HA.out.later HB4.out lgh, HB.out.trans (HB4.out.mono lwB)⟩
                · have hk64 : k = 64 := by omega
                  subst hk64
                  obtain ⟨g8, c8, rfl, _, _⟩ := hO.form (by omega)
                  have HAW : Hid (Arr .i64 wr g8 (Wd b) 64) := own_arr hO
                  have hnew : ∀ j u, (wl .i64 f 8)[j]? = some u → wr.cell? ((⟨gh, 0, none⟩ : Addr).add j) = some u := by
                    intro j u hu
                    have hj : j < 8 := by have := (List.getElem?_eq_some_iff.1 hu).1; rwa [wl_length] at this
                    rw [wl_get _ _ _ _ hj] at hu
                    rw [Addr.add_mid, Nat.zero_add, (hA j hj).1]; exact hu
                  clear hO hA hb hkg HO HOd HK
                  go_upto_region 22 with (at_builtin; go_must (refine wpList_append_lies _ rfl _ _ 36 rfl B 3 i0 (.int .i64 0) 1 8 Tryz.underlying36 hi hz0 hz1 hz2 rfl (by decide) (.slice none 0 0) 0 [] rfl (World.ownsRow_nil _ _ _ _) ⟨gh, 0, none⟩ 8 ch (wl .i64 f 8) rfl (by rw [wl_length]) hnew (wl_one _ _ _) (by omega) (by unfold maxLen; omega) (by omega) hBx _ rfl ?_); intro gv0 cv0 w5 ho hgr hat hlt1; have HV0 : Hid (B ≤ gv0 ∧ Arr .i64 w5 gv0 f 8) := ⟨ownBlock_ge ho gv0 rfl, own_arr ho⟩; have HB5 : Hid (Below wr.heap.size wr w5) := (Below.refl _ _).grown hgr (Nat.le_refl _) (fun q hq => by cases hq); clear ho hgr hat hlt1)
                  go_upto_region 23 with fail
                  have lg8 : g8 < wr.heap.size := HAW.out.lt (by omega)
                  have lgr : gh < wr.heap.size := HA.out.lt (by omega)
                  have HAW5 : Hid (Arr .i64 w5 g8 (Wd b) 64) := HAW.out.later HB5.out lg8
                  have HA5 : Hid (Arr .i64 w5 gh f 8) := HA.out.later HB5.out lgr
                  have HL5 : Hid (Below w.heap.size w w5) := HB.out.trans (HB5.out.mono HB.out.size)
                  clear HAW HA HB HB5 lg8 lgr hnew hBx
                  go_loopg [12, 13] 64 (fun g v i wx => ∃ k gv cv : Nat, ∃ q : Nat → Int, k + g = 64 ∧ i = .int .i64 k ∧ v = .slice (some ⟨gv, 0, none⟩) 8 cv ∧ q = itF kcR b f k ∧ B ≤ gv ∧ Arr .i64 wx gv q 8 ∧ Arr .i64 wx g8 (Wd b) 64 ∧ Arr .i64 wx gh f 8 ∧ Below w.heap.size w wx)
                  case atStart => exact ⟨0, gv0, cv0, f, rfl, rfl, rfl, rfl, HV0.out.1, HV0.out.2, HAW5.out, HA5.out, HL5.out⟩
                  case round =>
                    clear HV0 HAW5 HA5 HL5
                    obtain ⟨k, gv, cv, q, hkg, rfl, rfl, hq, hgv, hV, hW, hA, hbel⟩ := hrel
                    have HV : Hid (Arr .i64 wr gv q 8) := hV
                    have HWd : Hid (Arr .i64 wr g8 (Wd b) 64) := hW
                    have HA : Hid (Arr .i64 wr gh f 8) := hA
                    have HL : Hid (Below w.heap.size w wr) := hbel
                    have HK : Hid (k + gk = 64) := hkg
                    have HQE : Hid (q = itF kcR b f k) := hq
                    by_cases hlt : k < 64
                    · have hqo : ∀ j, IsW (q j) := by rw [hq]; exact itF_ok kcR b f HFO.out k
                      have hgvl := hV.lt (by omega)
                      have rKk := HRK.out wr HL.out k hlt
                      have tK := HTK.out wr HL.out
                      have cW := (hW k hlt).1
                      have c0 := (hV 0 (by omega)).1
                      have c1 := (hV 1 (by omega)).1
                      have c2 := (hV 2 (by omega)).1
                      have c3 := (hV 3 (by omega)).1
                      have c4 := (hV 4 (by omega)).1
                      have c5 := (hV 5 (by omega)).1
                      have c6 := (hV 6 (by omega)).1
                      have c7 := (hV 7 (by omega)).1
                      have o0 := hqo 0
                      have o1 := hqo 1
                      have o2 := hqo 2
                      have o3 := hqo 3
                      have o4 := hqo 4
                      have o5 := hqo 5
                      have o6 := hqo 6
                      have o7 := hqo 7
                      have ow := Wd_ok b HBL.out k
                      have ok := kcR_ok k hlt
                      have HE : Hid (itF kcR b f (k + 1) = mk8 (((q 7 + sS1 (q 4) + cH (q 4) (q 5) (q 6) + kcR k + Wd b k) + sS0 (q 0) + mJ (q 0) (q 1) (q 2)) % 4294967296) (q 0) (q 1) (q 2) ((q 3 + (q 7 + sS1 (q 4) + cH (q 4) (q 5) (q 6) + kcR k + Wd b k)) % 4294967296) (q 4) (q 5) (q 6)) := by
                        show _ = _
                        rw [Int.add_assoc _ (sS0 (q 0)), hq]; rfl
                      have f1 := sS1_i (q 4)
                      have f2 := cH_i (q 4) (q 5) (q 6) o4 o5 o6
                      have f3 := sS0_i (q 0)
                      have f4 := mJ_i (q 0) (q 1) (q 2) o0 o1 o2
                      have oE : IsW (sS1 (q 4)) := isW_bits _ _ _
                      have oC : IsW (cH (q 4) (q 5) (q 6)) := isW_bits _ _ _
                      have oA : IsW (sS0 (q 0)) := isW_bits _ _ _
                      have oM : IsW (mJ (q 0) (q 1) (q 2)) := isW_bits _ _ _
                      clear hV hW hA hbel hkg hq hqo
                      obtain ⟨V2, HI2⟩ : ∃ V, Hid (V = itF kcR b f (k + 1)) := ⟨_, rfl⟩
                      rw [← HI2.out] at HE
                      generalize sS1 (q 4) = E1 at f1 oE HE
                      generalize cH (q 4) (q 5) (q 6) = C1 at f2 oC HE
                      generalize sS0 (q 0) = A0 at f3 oA HE
                      generalize mJ (q 0) (q 1) (q 2) = M0 at f4 oM HE
                      generalize q 0 = x0 at c0 o0 f3 f4 HE
                      generalize q 1 = x1 at c1 o1 f4 HE
                      generalize q 2 = x2 at c2 o2 f4 HE
                      generalize q 3 = x3 at c3 o3 HE
                      generalize q 4 = x4 at c4 o4 f1 f2 HE
                      generalize q 5 = x5 at c5 o5 f2 HE
                      generalize q 6 = x6 at c6 o6 f2 HE
                      generalize q 7 = x7 at c7 o7 HE
                      generalize Wd b k = xw at cW ow HE
                      generalize kcR k = xk at rKk ok HE
                      have H0 : Hid (IsW x0) := o0
                      have H4 : Hid (IsW x4) := o4
                      obtain ⟨o3a, o3b⟩ := o3
                      obtain ⟨o4a, o4b⟩ := o4
                      obtain ⟨o7a, o7b⟩ := o7
                      obtain ⟨owa, owb⟩ := ow
                      obtain ⟨oka, okb⟩ := ok
                      obtain ⟨oEa, oEb⟩ := oE
                      obtain ⟨oCa, oCb⟩ := oC
                      obtain ⟨oAa, oAb⟩ := oA
                      obtain ⟨oMa, oMb⟩ := oM
                      clear o0 o1 o2 o5 o6
                      have e4 := wraps_i63 (4294967295 - x4) (by omega) (by omega)
                      have s0 := wraps_i63 (x7 + E1) (by omega) (by omega)
                      have s1 := wraps_i63 (x7 + E1 + C1) (by omega) (by omega)
                      have s2 := wraps_i63 (x7 + E1 + C1 + xk) (by omega) (by omega)
                      have s3 := wraps_i63 (x7 + E1 + C1 + xk + xw) (by omega) (by omega)
                      have k64 : (k : Int) < 64 := by omega
                      go_upto_region 25 with fail
                      go_quiet (((go_at_call 104; exact turn_q _ _ _ _ _ rfl (by omega) H4.out)))
                      go_upto_region 26 with fail
                      go_quiet (fail)
                      go_upto_region 27 with fail
                      go_quiet (fail)
                      go_upto_region 28 with fail
                      refine at_world (fun wq HWQ => ?_)
                      have d0 : wq.cell? ⟨gv, 0, none⟩ = some (.int .i64 x0) := by rw [HWQ.out]; exact c0
                      have d1 : wq.cell? ⟨gv, 1, none⟩ = some (.int .i64 x1) := by rw [HWQ.out]; exact c1
                      have d2 : wq.cell? ⟨gv, 2, none⟩ = some (.int .i64 x2) := by rw [HWQ.out]; exact c2
                      have D3 : Hid (wq.cell? ⟨gv, 3, none⟩ = some (.int .i64 x3)) := by show _ = _; rw [HWQ.out]; exact c3
                      have D4 : Hid (wq.cell? ⟨gv, 4, none⟩ = some (.int .i64 x4)) := by show _ = _; rw [HWQ.out]; exact c4
                      have D5 : Hid (wq.cell? ⟨gv, 5, none⟩ = some (.int .i64 x5)) := by show _ = _; rw [HWQ.out]; exact c5
                      have D6 : Hid (wq.cell? ⟨gv, 6, none⟩ = some (.int .i64 x6)) := by show _ = _; rw [HWQ.out]; exact c6
                      have HWp : Hid (Arr .i64 wq g8 (Wd b) 64) := by show Arr _ _ _ _ _; rw [HWQ.out]; exact HWd.out
                      have HAp : Hid (Arr .i64 wq gh f 8) := by show Arr _ _ _ _ _; rw [HWQ.out]; exact HA.out
                      have HLp : Hid (Below w.heap.size w wq) := by show Below _ _ _; rw [HWQ.out]; (repeat refine below_drewN ?_ _); exact HL.out
                      have hBp : B ≤ wq.heap.size := by rw [HWQ.out]; show B ≤ wr.heap.size; omega
                      clear HWQ c0 c1 c2 c3 c4 c5 c6 c7 rKk tK cW f1 f2 s0 s1 s2 s3 e4
                      go_quiet (((go_at_call 104; exact turn_q _ _ _ _ _ rfl (by omega) H0.out)))
                      go_upto_region 29 with fail
                      go_quiet (fail)
                      go_upto_region 30 with fail
                      refine at_world (fun wq2 HWQ => ?_)
                      have c0 : wq2.drew.cell? ⟨gv, 0, none⟩ = some (.int .i64 x0) := by rw [HWQ.out]; exact d0
                      have c1 : wq2.drew.cell? ⟨gv, 1, none⟩ = some (.int .i64 x1) := by rw [HWQ.out]; exact d1
                      have c2 : wq2.drew.cell? ⟨gv, 2, none⟩ = some (.int .i64 x2) := by rw [HWQ.out]; exact d2
                      have c3 : wq2.drew.cell? ⟨gv, 3, none⟩ = some (.int .i64 x3) := by rw [HWQ.out]; exact D3.out
                      have c4 : wq2.drew.cell? ⟨gv, 4, none⟩ = some (.int .i64 x4) := by rw [HWQ.out]; exact D4.out
                      have c5 : wq2.drew.cell? ⟨gv, 5, none⟩ = some (.int .i64 x5) := by rw [HWQ.out]; exact D5.out
                      have c6 : wq2.drew.cell? ⟨gv, 6, none⟩ = some (.int .i64 x6) := by rw [HWQ.out]; exact D6.out
                      have HW2 : Hid (Arr .i64 wq2 g8 (Wd b) 64) := by show Arr _ _ _ _ _; rw [HWQ.out]; exact HWp.out
                      have HA2 : Hid (Arr .i64 wq2 gh f 8) := by show Arr _ _ _ _ _; rw [HWQ.out]; exact HAp.out
                      have HL2 : Hid (Below w.heap.size w wq2) := by show Below _ _ _; rw [HWQ.out]; (repeat refine below_drewN ?_ _); exact HLp.out
                      have hB2 : B ≤ wq2.heap.size := by rw [HWQ.out]; exact hBp
                      have hSeven : (fun W : World => W.cell? ⟨gv, 0, none⟩ = some (.int .i64 x0) ∧ W.cell? ⟨gv, 1, none⟩ = some (.int .i64 x1) ∧ W.cell? ⟨gv, 2, none⟩ = some (.int .i64 x2) ∧ W.cell? ⟨gv, 3, none⟩ = some (.int .i64 x3) ∧ W.cell? ⟨gv, 4, none⟩ = some (.int .i64 x4) ∧ W.cell? ⟨gv, 5, none⟩ = some (.int .i64 x5) ∧ W.cell? ⟨gv, 6, none⟩ = some (.int .i64 x6)) wq2.drew := ⟨c0, c1, c2, c3, c4, c5, c6⟩
                      clear HWQ d0 d1 d2 D3 D4 D5 D6 HWp HAp HLp hBp f3 f4 c0 c1 c2 c3 c4 c5 c6
                      have r0 := wraps_i63 (x7 + E1 + C1 + xk + xw + A0) (by omega) (by omega)
                      have r1 := wraps_i63 (x7 + E1 + C1 + xk + xw + A0 + M0) (by omega) (by omega)
                      have r2 := wraps_i63 (x3 + (x7 + E1 + C1 + xk + xw)) (by omega) (by omega)
                      have m0 : (x7 + E1 + C1 + xk + xw + A0 + M0).tmod 4294967296 = (x7 + E1 + C1 + xk + xw + A0 + M0) % 4294967296 := Int.tmod_eq_emod_of_nonneg (by omega)
                      have m1 : (x3 + (x7 + E1 + C1 + xk + xw)).tmod 4294967296 = (x3 + (x7 + E1 + C1 + xk + xw)) % 4294967296 := Int.tmod_eq_emod_of_nonneg (by omega)
                      refine at_frame (fun A HFR => ?_)
                      have hsz : A.tmps.size = 319 := by rw [HFR.out]; rfl
                      have h12 : A.eval (.tmp 12) = .slice (some ⟨gv, 0, none⟩) 8 cv := by rw [HFR.out]; rfl
                      have h16 : A.eval (.tmp 16) = .int .i64 (x7 + E1 + C1 + xk + xw) := by rw [HFR.out]; rfl
                      have h17 : A.eval (.tmp 17) = .int .i64 A0 := by rw [HFR.out]; rfl
                      have h18 : A.eval (.tmp 18) = .int .i64 M0 := by rw [HFR.out]; rfl
                      refine wp_region_held_drew (S := fun W : World => W.cell? ⟨gv, 0, none⟩ = some (.int .i64 x0) ∧ W.cell? ⟨gv, 1, none⟩ = some (.int .i64 x1) ∧ W.cell? ⟨gv, 2, none⟩ = some (.int .i64 x2) ∧ W.cell? ⟨gv, 3, none⟩ = some (.int .i64 x3) ∧ W.cell? ⟨gv, 4, none⟩ = some (.int .i64 x4) ∧ W.cell? ⟨gv, 5, none⟩ = some (.int .i64 x5) ∧ W.cell? ⟨gv, 6, none⟩ = some (.int .i64 x6)) (by kernel_rfl) hSeven (fun hHeld => ?_)
                      clear hSeven
                      refine wpAnyH_take (i := 0) (v := .int .i64 (x7 + E1 + C1 + xk + xw)) rfl (by kernel_rfl) (by kernel_rfl) (by kernel_rfl) (fun _ _ _ h => h) (Or.inl ⟨by rfl, fun W hSw => ?_⟩) hHeld ?_
                      · refine run1 16 (.int .i64 (x7 + E1 + C1 + xk + xw)) (by simp only [ev_same, ev_ne, sz_put, hsz, h12, h16, h17, h18, ne_eq, Nat.reduceEqDiff, not_false_eq_true, Nat.reduceLT]) (fun ρ hc e1 => ?_); simp [go_sem, hc, e1, hc]
                      change wpAnyH _ _ _ _ _ _ _ (Act.put _ (some 246) _) _
                      refine wpAnyH_take (i := 1) (v := .int .i64 A0) rfl (by kernel_rfl) (by kernel_rfl) (by kernel_rfl) (fun _ _ _ h => h) (Or.inl ⟨by rfl, fun W hSw => ?_⟩) hHeld ?_
                      · refine run1 17 (.int .i64 A0) (by simp only [ev_same, ev_ne, sz_put, hsz, h12, h16, h17, h18, ne_eq, Nat.reduceEqDiff, not_false_eq_true, Nat.reduceLT]) (fun ρ hc e1 => ?_); simp [go_sem, hc, e1, hc]
                      change wpAnyH _ _ _ _ _ _ _ (Act.put _ (some 247) _) _
                      refine wpAnyH_take (i := 2) (v := .int .i64 ((x7 + E1 + C1 + xk + xw) + A0)) rfl (by kernel_rfl) (by kernel_rfl) (by kernel_rfl) (fun _ _ _ h => h) (Or.inl ⟨by rfl, fun W hSw => ?_⟩) hHeld ?_
                      · refine run2 246 247 (.int .i64 (x7 + E1 + C1 + xk + xw)) (.int .i64 A0) (by simp only [ev_same, ev_ne, sz_put, hsz, h12, h16, h17, h18, ne_eq, Nat.reduceEqDiff, not_false_eq_true, Nat.reduceLT]) (by simp only [ev_same, ev_ne, sz_put, hsz, h12, h16, h17, h18, ne_eq, Nat.reduceEqDiff, not_false_eq_true, Nat.reduceLT]) (fun ρ hc e1 e2 => ?_); simp [go_sem, hc, e1, e2, r0]
                      change wpAnyH _ _ _ _ _ _ _ (Act.put _ (some 248) _) _
                      refine wpAnyH_take (i := 3) (v := .int .i64 M0) rfl (by kernel_rfl) (by kernel_rfl) (by kernel_rfl) (fun _ _ _ h => h) (Or.inl ⟨by rfl, fun W hSw => ?_⟩) hHeld ?_
                      · refine run1 18 (.int .i64 M0) (by simp only [ev_same, ev_ne, sz_put, hsz, h12, h16, h17, h18, ne_eq, Nat.reduceEqDiff, not_false_eq_true, Nat.reduceLT]) (fun ρ hc e1 => ?_); simp [go_sem, hc, e1, hc]
                      change wpAnyH _ _ _ _ _ _ _ (Act.put _ (some 249) _) _
                      refine wpAnyH_take (i := 4) (v := .int .i64 ((x7 + E1 + C1 + xk + xw) + A0 + M0)) rfl (by kernel_rfl) (by kernel_rfl) (by kernel_rfl) (fun _ _ _ h => h) (Or.inl ⟨by rfl, fun W hSw => ?_⟩) hHeld ?_
                      · refine run2 248 249 (.int .i64 ((x7 + E1 + C1 + xk + xw) + A0)) (.int .i64 M0) (by simp only [ev_same, ev_ne, sz_put, hsz, h12, h16, h17, h18, ne_eq, Nat.reduceEqDiff, not_false_eq_true, Nat.reduceLT]) (by simp only [ev_same, ev_ne, sz_put, hsz, h12, h16, h17, h18, ne_eq, Nat.reduceEqDiff, not_false_eq_true, Nat.reduceLT]) (fun ρ hc e1 e2 => ?_); simp [go_sem, hc, e1, e2, r1]
                      change wpAnyH _ _ _ _ _ _ _ (Act.put _ (some 250) _) _
                      refine wpAnyH_take (i := 5) (v := .int .i64 (((x7 + E1 + C1 + xk + xw) + A0 + M0) % 4294967296)) rfl (by kernel_rfl) (by kernel_rfl) (by kernel_rfl) (fun _ _ _ h => h) (Or.inl ⟨by rfl, fun W hSw => ?_⟩) hHeld ?_
                      · refine run1 250 (.int .i64 ((x7 + E1 + C1 + xk + xw) + A0 + M0)) (by simp only [ev_same, ev_ne, sz_put, hsz, h12, h16, h17, h18, ne_eq, Nat.reduceEqDiff, not_false_eq_true, Nat.reduceLT]) (fun ρ hc e1 => ?_); simp [go_sem, hc, e1, m0]
                      change wpAnyH _ _ _ _ _ _ _ (Act.put _ (some 251) _) _
                      refine wpAnyH_take (i := 6) (v := .slice (some ⟨gv, 0, none⟩) 8 cv) rfl (by kernel_rfl) (by kernel_rfl) (by kernel_rfl) (fun _ _ _ h => h) (Or.inl ⟨by rfl, fun W hSw => ?_⟩) hHeld ?_
                      · refine run1 12 (.slice (some ⟨gv, 0, none⟩) 8 cv) (by simp only [ev_same, ev_ne, sz_put, hsz, h12, h16, h17, h18, ne_eq, Nat.reduceEqDiff, not_false_eq_true, Nat.reduceLT]) (fun ρ hc e1 => ?_); simp [go_sem, hc, e1, hc]
                      change wpAnyH _ _ _ _ _ _ _ (Act.put _ (some 252) _) _
                      refine wpAnyH_take (i := 7) (v := .pointer (some ⟨gv, 0, none⟩)) rfl (by kernel_rfl) (by kernel_rfl) (by kernel_rfl) (fun _ _ _ h => h) (Or.inl ⟨by rfl, fun W hSw => ?_⟩) hHeld ?_
                      · refine run1 252 (.slice (some ⟨gv, 0, none⟩) 8 cv) (by simp only [ev_same, ev_ne, sz_put, hsz, h12, h16, h17, h18, ne_eq, Nat.reduceEqDiff, not_false_eq_true, Nat.reduceLT]) (fun ρ hc e1 => ?_); simp [go_sem, hc, e1, hc]
                      change wpAnyH _ _ _ _ _ _ _ (Act.put _ (some 253) _) _
                      refine wpAnyH_take (i := 8) (v := .int .i64 x0) rfl (by kernel_rfl) (by kernel_rfl) (by kernel_rfl) (fun _ _ _ h => h) (Or.inl ⟨by rfl, fun W hSw => ?_⟩) hHeld ?_
                      · refine run1 253 (.pointer (some ⟨gv, 0, none⟩)) (by simp only [ev_same, ev_ne, sz_put, hsz, h12, h16, h17, h18, ne_eq, Nat.reduceEqDiff, not_false_eq_true, Nat.reduceLT]) (fun ρ hc e1 => ?_); simp [go_sem, hc, e1, hSw]
                      change wpAnyH _ _ _ _ _ _ _ (Act.put _ (some 254) _) _
                      refine wpAnyH_take (i := 9) (v := .slice (some ⟨gv, 0, none⟩) 8 cv) rfl (by kernel_rfl) (by kernel_rfl) (by kernel_rfl) (fun _ _ _ h => h) (Or.inl ⟨by rfl, fun W hSw => ?_⟩) hHeld ?_
                      · refine run1 12 (.slice (some ⟨gv, 0, none⟩) 8 cv) (by simp only [ev_same, ev_ne, sz_put, hsz, h12, h16, h17, h18, ne_eq, Nat.reduceEqDiff, not_false_eq_true, Nat.reduceLT]) (fun ρ hc e1 => ?_); simp [go_sem, hc, e1, hc]
                      change wpAnyH _ _ _ _ _ _ _ (Act.put _ (some 255) _) _
                      refine wpAnyH_take (i := 10) (v := .pointer (some ⟨gv, 1, none⟩)) rfl (by kernel_rfl) (by kernel_rfl) (by kernel_rfl) (fun _ _ _ h => h) (Or.inl ⟨by rfl, fun W hSw => ?_⟩) hHeld ?_
                      · refine run1 255 (.slice (some ⟨gv, 0, none⟩) 8 cv) (by simp only [ev_same, ev_ne, sz_put, hsz, h12, h16, h17, h18, ne_eq, Nat.reduceEqDiff, not_false_eq_true, Nat.reduceLT]) (fun ρ hc e1 => ?_); simp [go_sem, hc, e1, hc]
                      change wpAnyH _ _ _ _ _ _ _ (Act.put _ (some 256) _) _
                      refine wpAnyH_take (i := 11) (v := .int .i64 x1) rfl (by kernel_rfl) (by kernel_rfl) (by kernel_rfl) (fun _ _ _ h => h) (Or.inl ⟨by rfl, fun W hSw => ?_⟩) hHeld ?_
                      · refine run1 256 (.pointer (some ⟨gv, 1, none⟩)) (by simp only [ev_same, ev_ne, sz_put, hsz, h12, h16, h17, h18, ne_eq, Nat.reduceEqDiff, not_false_eq_true, Nat.reduceLT]) (fun ρ hc e1 => ?_); simp [go_sem, hc, e1, hSw]
                      change wpAnyH _ _ _ _ _ _ _ (Act.put _ (some 257) _) _
                      refine wpAnyH_take (i := 12) (v := .slice (some ⟨gv, 0, none⟩) 8 cv) rfl (by kernel_rfl) (by kernel_rfl) (by kernel_rfl) (fun _ _ _ h => h) (Or.inl ⟨by rfl, fun W hSw => ?_⟩) hHeld ?_
                      · refine run1 12 (.slice (some ⟨gv, 0, none⟩) 8 cv) (by simp only [ev_same, ev_ne, sz_put, hsz, h12, h16, h17, h18, ne_eq, Nat.reduceEqDiff, not_false_eq_true, Nat.reduceLT]) (fun ρ hc e1 => ?_); simp [go_sem, hc, e1, hc]
                      change wpAnyH _ _ _ _ _ _ _ (Act.put _ (some 258) _) _
                      refine wpAnyH_take (i := 13) (v := .pointer (some ⟨gv, 2, none⟩)) rfl (by kernel_rfl) (by kernel_rfl) (by kernel_rfl) (fun _ _ _ h => h) (Or.inl ⟨by rfl, fun W hSw => ?_⟩) hHeld ?_
                      · refine run1 258 (.slice (some ⟨gv, 0, none⟩) 8 cv) (by simp only [ev_same, ev_ne, sz_put, hsz, h12, h16, h17, h18, ne_eq, Nat.reduceEqDiff, not_false_eq_true, Nat.reduceLT]) (fun ρ hc e1 => ?_); simp [go_sem, hc, e1, hc]
                      change wpAnyH _ _ _ _ _ _ _ (Act.put _ (some 259) _) _
                      refine wpAnyH_take (i := 14) (v := .int .i64 x2) rfl (by kernel_rfl) (by kernel_rfl) (by kernel_rfl) (fun _ _ _ h => h) (Or.inl ⟨by rfl, fun W hSw => ?_⟩) hHeld ?_
                      · refine run1 259 (.pointer (some ⟨gv, 2, none⟩)) (by simp only [ev_same, ev_ne, sz_put, hsz, h12, h16, h17, h18, ne_eq, Nat.reduceEqDiff, not_false_eq_true, Nat.reduceLT]) (fun ρ hc e1 => ?_); simp [go_sem, hc, e1, hSw]
                      change wpAnyH _ _ _ _ _ _ _ (Act.put _ (some 260) _) _
                      refine wpAnyH_take (i := 15) (v := .slice (some ⟨gv, 0, none⟩) 8 cv) rfl (by kernel_rfl) (by kernel_rfl) (by kernel_rfl) (fun _ _ _ h => h) (Or.inl ⟨by rfl, fun W hSw => ?_⟩) hHeld ?_
                      · refine run1 12 (.slice (some ⟨gv, 0, none⟩) 8 cv) (by simp only [ev_same, ev_ne, sz_put, hsz, h12, h16, h17, h18, ne_eq, Nat.reduceEqDiff, not_false_eq_true, Nat.reduceLT]) (fun ρ hc e1 => ?_); simp [go_sem, hc, e1, hc]
                      change wpAnyH _ _ _ _ _ _ _ (Act.put _ (some 261) _) _
                      refine wpAnyH_take (i := 16) (v := .pointer (some ⟨gv, 3, none⟩)) rfl (by kernel_rfl) (by kernel_rfl) (by kernel_rfl) (fun _ _ _ h => h) (Or.inl ⟨by rfl, fun W hSw => ?_⟩) hHeld ?_
                      · refine run1 261 (.slice (some ⟨gv, 0, none⟩) 8 cv) (by simp only [ev_same, ev_ne, sz_put, hsz, h12, h16, h17, h18, ne_eq, Nat.reduceEqDiff, not_false_eq_true, Nat.reduceLT]) (fun ρ hc e1 => ?_); simp [go_sem, hc, e1, hc]
                      change wpAnyH _ _ _ _ _ _ _ (Act.put _ (some 262) _) _
                      refine wpAnyH_take (i := 17) (v := .int .i64 x3) rfl (by kernel_rfl) (by kernel_rfl) (by kernel_rfl) (fun _ _ _ h => h) (Or.inl ⟨by rfl, fun W hSw => ?_⟩) hHeld ?_
                      · refine run1 262 (.pointer (some ⟨gv, 3, none⟩)) (by simp only [ev_same, ev_ne, sz_put, hsz, h12, h16, h17, h18, ne_eq, Nat.reduceEqDiff, not_false_eq_true, Nat.reduceLT]) (fun ρ hc e1 => ?_); simp [go_sem, hc, e1, hSw]
                      change wpAnyH _ _ _ _ _ _ _ (Act.put _ (some 263) _) _
                      refine wpAnyH_take (i := 18) (v := .int .i64 (x7 + E1 + C1 + xk + xw)) rfl (by kernel_rfl) (by kernel_rfl) (by kernel_rfl) (fun _ _ _ h => h) (Or.inl ⟨by rfl, fun W hSw => ?_⟩) hHeld ?_
                      · refine run1 16 (.int .i64 (x7 + E1 + C1 + xk + xw)) (by simp only [ev_same, ev_ne, sz_put, hsz, h12, h16, h17, h18, ne_eq, Nat.reduceEqDiff, not_false_eq_true, Nat.reduceLT]) (fun ρ hc e1 => ?_); simp [go_sem, hc, e1, hc]
                      change wpAnyH _ _ _ _ _ _ _ (Act.put _ (some 264) _) _
                      refine wpAnyH_take (i := 19) (v := .int .i64 (x3 + (x7 + E1 + C1 + xk + xw))) rfl (by kernel_rfl) (by kernel_rfl) (by kernel_rfl) (fun _ _ _ h => h) (Or.inl ⟨by rfl, fun W hSw => ?_⟩) hHeld ?_
                      · refine run2 263 264 (.int .i64 x3) (.int .i64 (x7 + E1 + C1 + xk + xw)) (by simp only [ev_same, ev_ne, sz_put, hsz, h12, h16, h17, h18, ne_eq, Nat.reduceEqDiff, not_false_eq_true, Nat.reduceLT]) (by simp only [ev_same, ev_ne, sz_put, hsz, h12, h16, h17, h18, ne_eq, Nat.reduceEqDiff, not_false_eq_true, Nat.reduceLT]) (fun ρ hc e1 e2 => ?_); simp [go_sem, hc, e1, e2, r2]
                      change wpAnyH _ _ _ _ _ _ _ (Act.put _ (some 265) _) _
                      refine wpAnyH_take (i := 20) (v := .int .i64 ((x3 + (x7 + E1 + C1 + xk + xw)) % 4294967296)) rfl (by kernel_rfl) (by kernel_rfl) (by kernel_rfl) (fun _ _ _ h => h) (Or.inl ⟨by rfl, fun W hSw => ?_⟩) hHeld ?_
                      · refine run1 265 (.int .i64 (x3 + (x7 + E1 + C1 + xk + xw))) (by simp only [ev_same, ev_ne, sz_put, hsz, h12, h16, h17, h18, ne_eq, Nat.reduceEqDiff, not_false_eq_true, Nat.reduceLT]) (fun ρ hc e1 => ?_); simp [go_sem, hc, e1, m1]
                      change wpAnyH _ _ _ _ _ _ _ (Act.put _ (some 266) _) _
                      refine wpAnyH_take (i := 21) (v := .slice (some ⟨gv, 0, none⟩) 8 cv) rfl (by kernel_rfl) (by kernel_rfl) (by kernel_rfl) (fun _ _ _ h => h) (Or.inl ⟨by rfl, fun W hSw => ?_⟩) hHeld ?_
                      · refine run1 12 (.slice (some ⟨gv, 0, none⟩) 8 cv) (by simp only [ev_same, ev_ne, sz_put, hsz, h12, h16, h17, h18, ne_eq, Nat.reduceEqDiff, not_false_eq_true, Nat.reduceLT]) (fun ρ hc e1 => ?_); simp [go_sem, hc, e1, hc]
                      change wpAnyH _ _ _ _ _ _ _ (Act.put _ (some 267) _) _
                      refine wpAnyH_take (i := 22) (v := .pointer (some ⟨gv, 4, none⟩)) rfl (by kernel_rfl) (by kernel_rfl) (by kernel_rfl) (fun _ _ _ h => h) (Or.inl ⟨by rfl, fun W hSw => ?_⟩) hHeld ?_
                      · refine run1 267 (.slice (some ⟨gv, 0, none⟩) 8 cv) (by simp only [ev_same, ev_ne, sz_put, hsz, h12, h16, h17, h18, ne_eq, Nat.reduceEqDiff, not_false_eq_true, Nat.reduceLT]) (fun ρ hc e1 => ?_); simp [go_sem, hc, e1, hc]
                      change wpAnyH _ _ _ _ _ _ _ (Act.put _ (some 268) _) _
                      refine wpAnyH_take (i := 23) (v := .int .i64 x4) rfl (by kernel_rfl) (by kernel_rfl) (by kernel_rfl) (fun _ _ _ h => h) (Or.inl ⟨by rfl, fun W hSw => ?_⟩) hHeld ?_
                      · refine run1 268 (.pointer (some ⟨gv, 4, none⟩)) (by simp only [ev_same, ev_ne, sz_put, hsz, h12, h16, h17, h18, ne_eq, Nat.reduceEqDiff, not_false_eq_true, Nat.reduceLT]) (fun ρ hc e1 => ?_); simp [go_sem, hc, e1, hSw]
                      change wpAnyH _ _ _ _ _ _ _ (Act.put _ (some 269) _) _
                      refine wpAnyH_take (i := 24) (v := .slice (some ⟨gv, 0, none⟩) 8 cv) rfl (by kernel_rfl) (by kernel_rfl) (by kernel_rfl) (fun _ _ _ h => h) (Or.inl ⟨by rfl, fun W hSw => ?_⟩) hHeld ?_
                      · refine run1 12 (.slice (some ⟨gv, 0, none⟩) 8 cv) (by simp only [ev_same, ev_ne, sz_put, hsz, h12, h16, h17, h18, ne_eq, Nat.reduceEqDiff, not_false_eq_true, Nat.reduceLT]) (fun ρ hc e1 => ?_); simp [go_sem, hc, e1, hc]
                      change wpAnyH _ _ _ _ _ _ _ (Act.put _ (some 270) _) _
                      refine wpAnyH_take (i := 25) (v := .pointer (some ⟨gv, 5, none⟩)) rfl (by kernel_rfl) (by kernel_rfl) (by kernel_rfl) (fun _ _ _ h => h) (Or.inl ⟨by rfl, fun W hSw => ?_⟩) hHeld ?_
                      · refine run1 270 (.slice (some ⟨gv, 0, none⟩) 8 cv) (by simp only [ev_same, ev_ne, sz_put, hsz, h12, h16, h17, h18, ne_eq, Nat.reduceEqDiff, not_false_eq_true, Nat.reduceLT]) (fun ρ hc e1 => ?_); simp [go_sem, hc, e1, hc]
                      change wpAnyH _ _ _ _ _ _ _ (Act.put _ (some 271) _) _
                      refine wpAnyH_take (i := 26) (v := .int .i64 x5) rfl (by kernel_rfl) (by kernel_rfl) (by kernel_rfl) (fun _ _ _ h => h) (Or.inl ⟨by rfl, fun W hSw => ?_⟩) hHeld ?_
                      · refine run1 271 (.pointer (some ⟨gv, 5, none⟩)) (by simp only [ev_same, ev_ne, sz_put, hsz, h12, h16, h17, h18, ne_eq, Nat.reduceEqDiff, not_false_eq_true, Nat.reduceLT]) (fun ρ hc e1 => ?_); simp [go_sem, hc, e1, hSw]
                      change wpAnyH _ _ _ _ _ _ _ (Act.put _ (some 272) _) _
                      refine wpAnyH_take (i := 27) (v := .slice (some ⟨gv, 0, none⟩) 8 cv) rfl (by kernel_rfl) (by kernel_rfl) (by kernel_rfl) (fun _ _ _ h => h) (Or.inl ⟨by rfl, fun W hSw => ?_⟩) hHeld ?_
                      · refine run1 12 (.slice (some ⟨gv, 0, none⟩) 8 cv) (by simp only [ev_same, ev_ne, sz_put, hsz, h12, h16, h17, h18, ne_eq, Nat.reduceEqDiff, not_false_eq_true, Nat.reduceLT]) (fun ρ hc e1 => ?_); simp [go_sem, hc, e1, hc]
                      change wpAnyH _ _ _ _ _ _ _ (Act.put _ (some 273) _) _
                      refine wpAnyH_take (i := 28) (v := .pointer (some ⟨gv, 6, none⟩)) rfl (by kernel_rfl) (by kernel_rfl) (by kernel_rfl) (fun _ _ _ h => h) (Or.inl ⟨by rfl, fun W hSw => ?_⟩) hHeld ?_
                      · refine run1 273 (.slice (some ⟨gv, 0, none⟩) 8 cv) (by simp only [ev_same, ev_ne, sz_put, hsz, h12, h16, h17, h18, ne_eq, Nat.reduceEqDiff, not_false_eq_true, Nat.reduceLT]) (fun ρ hc e1 => ?_); simp [go_sem, hc, e1, hc]
                      change wpAnyH _ _ _ _ _ _ _ (Act.put _ (some 274) _) _
                      refine wpAnyH_take (i := 29) (v := .int .i64 x6) rfl (by kernel_rfl) (by kernel_rfl) (by kernel_rfl) (fun _ _ _ h => h) (Or.inl ⟨by rfl, fun W hSw => ?_⟩) hHeld ?_
                      · refine run1 274 (.pointer (some ⟨gv, 6, none⟩)) (by simp only [ev_same, ev_ne, sz_put, hsz, h12, h16, h17, h18, ne_eq, Nat.reduceEqDiff, not_false_eq_true, Nat.reduceLT]) (fun ρ hc e1 => ?_); simp [go_sem, hc, e1, hSw]
                      change wpAnyH _ _ _ _ _ _ _ (Act.put _ (some 275) _) _
                      refine anyH_one 30 (.slice (some ⟨wq2.heap.size, 0, none⟩) 8 8) (wq2.drew.alloc (.cells #[.int .i64 (((x7 + E1 + C1 + xk + xw) + A0 + M0) % 4294967296), .int .i64 x0, .int .i64 x1, .int .i64 x2, .int .i64 ((x3 + (x7 + E1 + C1 + xk + xw)) % 4294967296), .int .i64 x4, .int .i64 x5, .int .i64 x6] 3)) (by kernel_rfl) rfl rfl ?_ ?_ ?_
                      · refine run8 251 254 257 260 266 269 272 275 (.int .i64 (((x7 + E1 + C1 + xk + xw) + A0 + M0) % 4294967296)) (.int .i64 x0) (.int .i64 x1) (.int .i64 x2) (.int .i64 ((x3 + (x7 + E1 + C1 + xk + xw)) % 4294967296)) (.int .i64 x4) (.int .i64 x5) (.int .i64 x6) (by simp only [ev_same, ev_ne, sz_put, hsz, h12, h16, h17, h18, ne_eq, Nat.reduceEqDiff, not_false_eq_true, Nat.reduceLT]) (by simp only [ev_same, ev_ne, sz_put, hsz, h12, h16, h17, h18, ne_eq, Nat.reduceEqDiff, not_false_eq_true, Nat.reduceLT]) (by simp only [ev_same, ev_ne, sz_put, hsz, h12, h16, h17, h18, ne_eq, Nat.reduceEqDiff, not_false_eq_true, Nat.reduceLT]) (by simp only [ev_same, ev_ne, sz_put, hsz, h12, h16, h17, h18, ne_eq, Nat.reduceEqDiff, not_false_eq_true, Nat.reduceLT]) (by simp only [ev_same, ev_ne, sz_put, hsz, h12, h16, h17, h18, ne_eq, Nat.reduceEqDiff, not_false_eq_true, Nat.reduceLT]) (by simp only [ev_same, ev_ne, sz_put, hsz, h12, h16, h17, h18, ne_eq, Nat.reduceEqDiff, not_false_eq_true, Nat.reduceLT]) (by simp only [ev_same, ev_ne, sz_put, hsz, h12, h16, h17, h18, ne_eq, Nat.reduceEqDiff, not_false_eq_true, Nat.reduceLT]) (by simp only [ev_same, ev_ne, sz_put, hsz, h12, h16, h17, h18, ne_eq, Nat.reduceEqDiff, not_false_eq_true, Nat.reduceLT]) (fun ρ hc e1 e2 e3 e4 e5 e6 e7 e8 => ?_); simp [go_sem, hc, e1, e2, e3, e4, e5, e6, e7, e8]
                      · exact seven_alloc hHeld _
                      change wpAnyH _ _ _ _ _ _ _ (Act.put _ (some 276) _) _
                      refine wpAnyH_take (i := 31) (v := .slice (some ⟨wq2.heap.size, 0, none⟩) 8 8) rfl (by kernel_rfl) (by kernel_rfl) (by kernel_rfl) (fun _ _ _ h => h) (Or.inl ⟨by rfl, fun W hSw => ?_⟩) (seven_alloc hHeld _) ?_
                      · refine run1 276 (.slice (some ⟨wq2.heap.size, 0, none⟩) 8 8) (by simp only [ev_same, ev_ne, sz_put, hsz, h12, h16, h17, h18, ne_eq, Nat.reduceEqDiff, not_false_eq_true, Nat.reduceLT]) (fun ρ hc e1 => ?_); simp [go_sem, hc, e1]
                      change wpAnyH _ _ _ _ _ _ _ (Act.put _ (some 12) _) _
                      refine wpAnyH_done (by kernel_rfl) ?_ _
                      clear hsz h12 h16 h17 h18 r0 r1 r2 m0 m1 hHeld
                      have hfr := HFR.out
                      clear HFR
                      subst hfr
                      simp only [Act.put, List.setIfInBounds_toArray, List.set_cons_zero, List.set_cons_succ]
                      go_wp2
                      go_roundg (gk - 1)
                      case measure => have := HK.out; omega
                      case rel =>
                        have hkk := HK.out
                        refine ⟨k + 1, wq2.heap.size, 8, V2, by omega, by go_num, rfl, HI2.out, hB2, ?_, (HW2.out.drew).alloc (by omega) _, (HA2.out.drew).alloc (by omega) _, (HL2.out.drew).alloc (by simp; omega) _⟩
                        rw [HE.out]; exact Arr.new wq2.drew _ 8 _ _ rfl
                    · go_upto_region 32 with fail
                      as_aux_lemma =>
                        have hk64 : k = 64 := by have := HK.out; omega
                        have HV2 : Hid (Arr .i64 wr gv (itF kcR b f 64) 8) := by have h := HV.out; rw [HQE.out, hk64] at h; exact h
                        have hne : gv ≠ gh := by omega
                        clear HV HQE hV hW hA hbel hkg hq hk64 HK HWd hgv
                        go_loopg [279] 8 (fun g i wx => ∃ n : Nat, ∃ h' : Nat → Int, n + g = 8 ∧ i = .int .i64 n ∧ (∀ j, j < n → h' j = mixF kcR b f j) ∧ (∀ j, n ≤ j → h' j = f j) ∧ Arr .i64 wx gv (itF kcR b f 64) 8 ∧ Arr .i64 wx gh h' 8 ∧ Below w.heap.size w wx)
                        case atStart => exact ⟨0, f, rfl, rfl, fun j hj => by omega, fun j _ => rfl, HV2.out, HA.out, HL.out⟩
                        case round =>
                          clear HV2 HA HL
                          obtain ⟨n, h', hng, rfl, hlo, hhi, hV, hA, hbel⟩ := hrel
                          have HV : Hid (Arr .i64 wr gv (itF kcR b f 64) 8) := hV
                          have HA : Hid (Arr .i64 wr gh h' 8) := hA
                          have HL : Hid (Below w.heap.size w wr) := hbel
                          have HN : Hid (n + gk = 8) := hng
                          have HLO : Hid (∀ j, j < n → h' j = mixF kcR b f j) := hlo
                          have HHI : Hid (∀ j, n ≤ j → h' j = f j) := hhi
                          by_cases hn8 : n < 8
                          · obtain ⟨ca, fa⟩ := hA n hn8
                            have cv' := (hV n hn8).1
                            rw [hhi n (Nat.le_refl _)] at ca
                            have HM : Hid (mixF kcR b f n = (f n + itF kcR b f 64 n) % 4294967296) := rfl
                            have oa := HFO.out n
                            have ov := itF_ok kcR b f HFO.out 64 n
                            have n8 : (n : Int) < 8 := by omega
                            clear hlo hhi hV hA hbel hng
                            generalize f n = p1 at ca HM oa
                            generalize itF kcR b f 64 n = p2 at cv' HM ov
                            obtain ⟨oa1, oa2⟩ := oa
                            obtain ⟨ov1, ov2⟩ := ov
                            go_upto_region 34 with fail
                            as_aux_lemma =>
                              go_region
                              go_wp2
                              go_roundg (gk - 1)
                              case measure => have := HN.out; omega
                              case rel =>
                                have hnn := HN.out
                                refine ⟨n + 1, upd h' n (mixF kcR b f n), by omega, by go_num, ?_, ?_, ?_, ?_, ?_⟩
                                · intro j hj
                                  by_cases e : j = n
                                  · subst e; rw [upd_same]
                                  · rw [upd_other _ _ _ _ e, HLO.out j (by omega)]
                                · intro j hj; rw [upd_other _ _ _ _ (by omega), HHI.out j (by omega)]
                                · exact (HV.out.far _ _ (fun e => hne e.symm)).drew
                                · rw [HM.out]; exact (HA.out.set n hn8 _).drew
                                · exact (HL.out.setCell hgh _).drew
                          · have hn : n = 8 := by omega
                            have HA2 : Hid (Arr .i64 wr gh (mixF kcR b f) 8) := hA.congr (fun j hj => hlo j (by omega))
                            have hx := HXG.out
                            have h64i : (64 : Int) ≤ (x.size : Int) := by omega
                            clear hlo hhi hV hA hbel hng hn HN HLO HHI HV HA
                            go_wp2
                            go_roundg (G - 64)
                            case measure => have := HG.out; omega
                            case rel =>
                              have hx6 := HX64.out
                              have hsz : (x.extract 64 x.size).size = x.size - 64 := by rw [ByteArray.size_extract]; omega
                              exact ⟨_, mixF kcR b f, rfl, by omega, by omega, by omega, mixF_ok kcR b f, HNX.out, HA2.out, HL.out⟩
            · have hx0 : x.size = 0 := by omega
              have hne : x.toList.isEmpty = true := none_left x hx0
              have HFE : Hid (f = R) := by
                have hl : x.data.toList.length = x.size := rfl
                have e : x.data.toList = [] := List.eq_nil_of_length_eq_zero (by omega)
                rw [e] at hR
                exact hR
              clear hA hb hfo hR hx64 HFR hxg HX64
              go_upto_region 38 with fail
              as_aux_lemma =>
                clear hne
                go_loopg [20, 298] 8 (fun g o i wx => ∃ n : Nat, n + g = 8 ∧ i = .int .i64 n ∧ o = .string (strOf (dgF f) (4 * n)) ∧ Arr .i64 wx gh f 8 ∧ Below w.heap.size w wx)
                case atStart => exact ⟨0, rfl, rfl, rfl, HA.out, HB.out⟩
                case round =>
                  clear HA HB
                  obtain ⟨n, hng, rfl, rfl, hA, hb⟩ := hrel
                  have HA : Hid (Arr .i64 wr gh f 8) := hA
                  have HB : Hid (Below w.heap.size w wr) := hb
                  have HN : Hid (n + gk = 8) := hng
                  by_cases hn8 : n < 8
                  · have cn := (hA n hn8).1
                    obtain ⟨f0, f1⟩ := HFO.out n
                    have HST : Hid (strOf (dgF f) (4 * n) ++ ⟨#[UInt8.ofNat (f n / 16777216).toNat, UInt8.ofNat (f n / 65536 % 256).toNat, UInt8.ofNat (f n / 256 % 256).toNat, UInt8.ofNat (f n % 256).toNat]⟩ = strOf (dgF f) (4 * (n + 1))) := by
                      have e := strOf_add4 f n
                      rw [show f n / 16777216 % 256 = f n / 16777216 by omega] at e
                      exact e
                    generalize f n = F at cn f0 f1 HST
                    have hS : (strOf (dgF f) (4 * n)).size ≤ 32 := by
                      have : (strOf (dgF f) (4 * n)).size = 4 * n := by simp [strOf, lsOf, ByteArray.size]
                      omega
                    generalize strOf (dgF f) (4 * n) = S at HST hS
                    have hstr := str4 wr (F / 16777216) (F / 65536 % 256) (F / 256 % 256) (F % 256) (by omega) (by omega) (by omega) (by omega) (by omega) (by omega) (by omega) (by omega)
                    clear hA hb hng
                    go_wp2
                    go_roundg (gk - 1)
                    case measure => have := HN.out; omega
                    case rel =>
                      have hnn := HN.out
                      exact ⟨n + 1, by omega, by go_num, by rw [← HST.out], HA.out.alloc (by omega) _, HB.out.alloc HB.out.size _⟩
                  · have hn : n = 8 := by omega
                    subst hn
                    clear hA hb hng HN
                    go_wp2
                    go_ret
                    refine ⟨?_, HB.out⟩
                    rw [HFE.out, HR.out]; rfl
        · obtain ⟨k, rfl⟩ : ∃ k, gk = k + 1 := ⟨gk - 1, by omega⟩
          have ej : (((k + 1 : Nat) : Int) - 1) = (k : Int) := by omega
          rw [ej]
          have hk8 : (k : Int) < 8 := by omega
          have hub : u.size ≤ 1048648 := by omega
          have hsb : (s.size : Int) ≤ 1048576 := by omega
          clear ej hu hus hb
          have hstr := str1 wr ((s.size : Int) * 8 / 2 ^ (8 * k) % 256) (by omega) (by omega)
          go_wp2
          go_roundg k
          case measure => omega
          case rel =>
            have h1 := HUS.out
            refine ⟨_, rfl, by go_num, by omega, ?_, ?_, HB.out.alloc HB.out.size _⟩
            · rw [app_toList, HU.out, byte_of, show 8 - k = (8 - (k + 1)) + 1 by omega, be8_succ, show 56 - 8 * (8 - (k + 1)) = 8 * k by omega, List.append_assoc]
            · rw [app_size]; omega
    · have hg : 0 < gk := by omega
      have hlb : (((t.size : Int) % 64) != 56) = true := by simp; omega
      clear ht hts hj h56
      go_wp2
      go_roundg (gk - 1)
      case measure => omega
      case rel =>
        have h1 := HTS.out; have h3 := HJ.out
        exact ⟨_, j + 1, rfl, by rw [app_toList, HT.out, List.replicate_succ', List.append_assoc], by rw [app_size]; omega, by omega, rfl⟩
end Go.Proofs.YtkmalggeieiepaaGreatDoor

