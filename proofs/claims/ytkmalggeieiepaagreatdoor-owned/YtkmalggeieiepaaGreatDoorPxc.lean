import Derived.Test.YtkmalggeieiepaaGreatDoorRefF
import Derived.Test.YtkmalggeieiepaaGreatDoorPxa
import Derived.Test.YtkmalggeieiepaaGreatDoorPxb
import Derived.WalkKit
import Derived.WalkSpells
import Derived.WalkLawsBesides
import Derived.Deep.LoopGhost
import Derived.Deep.DeepCutAuto
import Derived.Deep.AppendLies
import Derived.Test.YtkmalggeieiepaaGreatDoorRows
import Derived.Test.YtkmalggeieiepaaGreatDoorShaM
import Derived.Below
import Derived.Deep.Upon
namespace Go.Proofs.YtkmalggeieiepaaGreatDoor
open Go.RowKit

theorem one_str (s : ByteArray) : ∀ u ∈ [Value.string s], u.oneCell' = true := by
  intro u hu; simp at hu; subst hu; rfl
theorem upL_32 (dd : ByteArray → ByteArray) (hdd : ∀ s, (dd s).size = 32) : ∀ l : List ByteArray, ∀ s ∈ upL dd l, s.size = 32
  | [], s, hs => by simp [upL] at hs
  | [_], s, hs => by simp [upL] at hs
  | a :: b :: r, s, hs => by
    simp only [upL, List.mem_cons] at hs
    rcases hs with rfl | hs
    · exact hdd _
    · exact upL_32 dd hdd r s hs
theorem evL_32 (l : List ByteArray) (h : ∀ s ∈ l, s.size = 32) : ∀ s ∈ evL l, s.size = 32 := by
  intro s hs
  unfold evL at hs
  split at hs
  · rename_i hodd
    rcases List.mem_append.1 hs with h1 | h1
    · exact h s h1
    · simp at h1
      subst h1
      have hlt : l.length - 1 < l.length := by omega
      rw [List.getElem?_eq_getElem hlt]
      exact h _ (List.getElem_mem hlt)
  · exact h s hs

set_option linter.unusedSimpArgs false in
set_option maxRecDepth 10000 in
set_option maxHeartbeats 4000000 in
theorem root_any (gt : Nat) (dd : ByteArray → ByteArray) (hdd : ∀ s, (dd s).size = 32) (l : List ByteArray) (b o cap : Nat) (w : World) (hs : SRow w b o l) (hne : 0 < l.length) (hlen : l.length ≤ 300) (h32 : ∀ s ∈ l, s.size = 32)
    (HTW : Hid (∀ (s : ByteArray) (W : World), s.size = 64 → Below w.heap.size w W → Calls Tryz.prog 39 #[.pointer (some ⟨gt, 0, none⟩), .string s] W fun e w' => e = .returned (.string (dd s)) ∧ Below W.heap.size W w')) :
    Calls Tryz.prog 94 #[.pointer (some ⟨gt, 0, none⟩), .slice (some ⟨b, o, none⟩) l.length cap] w fun e w' => e = .returned (.tuple #[.string (rootF dd l false).1, .bool (rootF dd l false).2]) ∧ Below w.heap.size w w' := by
  obtain ⟨i0, hi, hz0, hz1, hz2⟩ := info_parts infoStr
  have HDD : Hid (∀ s, (dd s).size = 32) := hdd
  clear hdd
  obtain ⟨R, HR⟩ : ∃ R, Hid (R = rootF dd l false) := ⟨_, rfl⟩
  rw [← HR.out]
  have HSTART : Hid (SRow w b o l ∧ 0 < l.length ∧ l.length ≤ 300 ∧ (∀ s ∈ l, s.size = 32)) := ⟨hs, hne, hlen, h32⟩
  clear hs hne hlen h32
  go_enter Tryz.func94, Tryz.ntmps94
  go_upto_region 2 with fail
  go_loopg [1, 6] l.length (fun g v t wx => ∃ m : List ByteArray, ∃ b o cap : Nat, ∃ tw : Bool, v = .slice (some ⟨b, o, none⟩) m.length cap ∧ t = .bool tw ∧ m.length ≤ g ∧ 0 < m.length ∧ m.length ≤ 300 ∧ (∀ s ∈ m, s.size = 32) ∧ rootF dd m tw = R ∧ SRow wx b o m ∧ Below w.heap.size w wx)
  case atStart => exact ⟨l, b, o, cap, false, rfl, rfl, Nat.le_refl _, HSTART.out.2.1, HSTART.out.2.2.1, HSTART.out.2.2.2, HR.out.symm, HSTART.out.1, Below.refl _ _⟩
  case round =>
    clear HSTART
    obtain ⟨m, b, o, cap, tw, rfl, rfl, hmg, hm0, hm300, hm32, hroot, hrow, hb⟩ := hrel
    have HROW : Hid (SRow wr b o m) := hrow
    have HB : Hid (Below w.heap.size w wr) := hb
    have HRT : Hid (rootF dd m tw = R) := hroot
    have H32 : Hid (∀ s ∈ m, s.size = 32) := hm32
    obtain ⟨G, hG0⟩ : ∃ G, G = gk := ⟨_, rfl⟩
    have HG : Hid (G = gk ∧ m.length ≤ G) := ⟨hG0, by rw [hG0]; exact hmg⟩
    obtain ⟨B1, hB1⟩ : ∃ B, B = wr.heap.size := ⟨_, rfl⟩
    have hbl := hrow.lt hm0
    rw [← hB1] at hbl
    have HB1 : Hid (B1 = wr.heap.size) := hB1
    clear hrow hb hroot hm32 hG0 hmg hB1
    by_cases h1 : 1 < m.length
    · go_upto_region 4 with fail
      obtain ⟨T2, HT2⟩ : ∃ T, Hid (T = (tw || twinL m)) := ⟨_, rfl⟩
      go_loopg [6, 7] m.length (fun g t i wx => ∃ tw' : Bool, ∃ k : Nat, t = .bool tw' ∧ i = .int .i64 (k : Int) ∧ (tw' || twinL (m.drop k)) = T2 ∧ k ≤ m.length + 1 ∧ m.length ≤ k + g ∧ SRow wx b o m ∧ B1 = wx.heap.size ∧ Below w.heap.size w wx)
      case atStart => exact ⟨tw, 0, rfl, rfl, HT2.out.symm, by omega, by omega, HROW.out, HB1.out, HB.out⟩
      case round =>
        clear HROW HB HB1
        obtain ⟨tw', k, rfl, rfl, htw, hk1, hkg, hrow, hB1, hb⟩ := hrel
        have HROW : Hid (SRow wr b o m) := hrow
        have HB : Hid (Below w.heap.size w wr) := hb
        have HTT : Hid ((tw' || twinL (m.drop k)) = T2) := htw
        have HB1 : Hid (B1 = wr.heap.size) := hB1
        have HKG : Hid (m.length ≤ k + gk) := hkg
        clear hb htw hB1 hkg
        by_cases hk : k + 1 < m.length
        · have hki : (k : Int) + 1 < (m.length : Int) := by omega
          have ck := hrow k (by omega)
          have ck1 := hrow (k + 1) hk
          have HTD := (show Hid (twinL (m.drop k) = ((m[k].toList == m[k + 1].toList) || twinL (m.drop (k + 2)))) from twinL_drop m k hk)
          generalize m[k] = x at ck HTD
          generalize m[k + 1] = y at ck1 HTD
          have hm300i : (m.length : Int) ≤ 300 := by omega
          clear hrow
          cases tw' with
          | true =>
            go_upto_region 6 with fail
            go_quiet (fail)
            go_wp2
            go_roundg (gk - 2)
            case measure => have := HKG.out; omega
            case rel =>
              have := HKG.out
              refine ⟨true, k + 2, rfl, by go_num, ?_, by omega, by omega, HROW.out, HB1.out, below_drewN HB.out _⟩
              rw [← HTT.out]; simp
          | false =>
            go_upto_region 6 with fail
            go_quiet (fail)
            go_wp2
            go_roundg (gk - 2)
            case measure => have := HKG.out; omega
            case rel =>
              have := HKG.out
              refine ⟨_, k + 2, rfl, by go_num, ?_, by omega, by omega, HROW.out, HB1.out, below_drewN HB.out _⟩
              rw [← HTT.out, HTD.out]; simp
        · have hki : ¬ ((k : Int) + 1 < (m.length : Int)) := by omega
          have htv : Hid (tw' = T2) := by
            show _ = _
            rw [← HTT.out, twinL_end m k (by omega)]; simp
          have hm300i : (m.length : Int) ≤ 300 := by omega
          clear hrow HTT
          rcases Nat.mod_two_eq_zero_or_one m.length with hodd | hodd
          case inl =>
            have hoi : ((m.length : Int) % 2) = 0 := by omega
            have hel : evL m = m := by unfold evL; rw [if_neg (by omega)]
            have HME : Hid ((evL m).length = m.length) := by show _ = _; rw [hel]
            have HROW' : Hid (SRow wr b o (evL m)) := by rw [hel]; exact HROW.out
            obtain ⟨n', hn'⟩ : ∃ n, n = m.length := ⟨_, rfl⟩
            have HMN : Hid ((evL m).length = n') := by show _ = _; rw [hn']; exact HME.out
            have hn3 : n' ≤ 301 := by omega
            have HB' := HB
            go_upto_region 9 with fail
            rw [← hn']
            clear hn'
            clear HB HROW hodd hoi hel HME
            obtain ⟨M, hM⟩ : ∃ M, M = evL m := ⟨_, rfl⟩
            have HM : Hid (M = evL m) := hM
            rw [← hM] at HROW' HMN
            have HML : Hid (M.length = m.length + m.length % 2) := by show _ = _; rw [hM]; exact evL_length m
            have HM32 : Hid (∀ s ∈ M, s.size = 32) := by rw [hM]; exact evL_32 m H32.out
            clear hM
            obtain ⟨BB, hBB⟩ : ∃ B, B = wr.heap.size := ⟨_, rfl⟩
            have HBB : Hid (BB = wr.heap.size) := hBB
            have hbB : b < BB := by rw [hBB]; exact HROW'.out.lt (by have := HML.out; omega)
            have hwBB : w.heap.size ≤ BB := by rw [hBB]; exact HB'.out.size
            clear hBB
            go_upto_region 11 with fail
            go_loopg [8, 9] n' (fun g v i wx => ∃ up : List ByteArray, ∃ v' : Value, v' = v ∧ i = .int .i64 ((2 * up.length : Nat) : Int) ∧ up ++ upL dd (M.drop (2 * up.length)) = upL dd M ∧ 2 * up.length + g = n' ∧ wx.ownsRow BB 9 1 v' up.length (strV up) ∧ BB ≤ wx.heap.size ∧ SRow wx b o M ∧ Below w.heap.size w wx)
            case atStart => exact ⟨[], _, rfl, rfl, rfl, by simp, World.ownsRow_nil _ _ _ _, Nat.le_of_eq HBB.out, HROW'.out, HB'.out⟩
            case round =>
              clear HROW' HB' HBB
              obtain ⟨up, v', rfl, rfl, hup, hug, hown, hBx, hrow, hb⟩ := hrel
              have HUP : Hid (up ++ upL dd (M.drop (2 * up.length)) = upL dd M) := hup
              have HUG : Hid (2 * up.length + gk = n') := hug
              have HO : Hid (wr.ownsRow BB 9 1 v' up.length (strV up)) := hown
              have HROW : Hid (SRow wr b o M) := hrow
              have HB : Hid (Below w.heap.size w wr) := hb
              obtain ⟨k, hk⟩ : ∃ k, k = 2 * up.length := ⟨_, rfl⟩
              have HK : Hid (k = 2 * up.length) := hk
              rw [← hk]
              have hmn := HMN.out
              by_cases hlt : k < n'
              · have hk1 : k + 1 < M.length := by have := HML.out; omega
                have ck := hrow k (by omega)
                have ck1 := hrow (k + 1) hk1
                have s1 := HM32.out _ (List.getElem_mem (by omega : k < M.length))
                have s2 := HM32.out _ (List.getElem_mem hk1)
                have HUD := (show Hid (upL dd (M.drop k) = dd (M[k] ++ M[k + 1]) :: upL dd (M.drop (k + 2))) from upL_drop dd M k hk1)
                generalize M[k] = x at ck s1 HUD
                generalize M[k + 1] = y at ck1 s2 HUD
                have hsz : (x ++ y).size = 64 := by rw [ByteArray.size_append, s1, s2]
                have hki : (k : Int) < (n' : Int) := by omega
                have hki1 : (k : Int) + 1 < (n' : Int) := by omega
                have yk : IntKind.i64.wrap ((k : Int) + 1) = (k : Int) + 1 := by rw [IntKind.wrap_i64]; omega
                have nk : ((k : Int) + 1).toNat = k + 1 := by omega
                have k0 : (0 : Int) ≤ (k : Int) + 1 := by omega
                have hn3i : (n' : Int) ≤ 301 := by omega
                have HSZ : Hid ((x ++ y).size = 64) := hsz
                have hul : up.length ≤ 301 := by omega
                obtain ⟨d, hd⟩ : ∃ d, d = dd (x ++ y) := ⟨_, rfl⟩
                have HD : Hid (d = dd (x ++ y)) := hd
                have HTC : Hid (∀ W : World, Below w.heap.size w W → Calls Tryz.prog 39 #[.pointer (some ⟨gt, 0, none⟩), .string (x ++ y)] W fun e w' => e = .returned (.string d) ∧ Below W.heap.size W w') := fun W hW => by rw [hd]; exact HTW.out _ W hsz hW
                clear hup hug hown hrow hb hk hmn hd hsz hk1
                go_upto_region 13 with fail
                go_region_law (first | (go_simp; go_at_call 39; refine (HTC.out _ HB.out.drew).mono ?_; rintro e w2 ⟨rfl, hb2⟩; have HB2 : Hid (Below wr.heap.size wr w2) := ((Below.refl _ wr).drew.trans hb2); have HO2 : Hid (w2.ownsRow BB 9 1 v' up.length (strV up)) := own_later HO.out HB2.out; clear hb2; dsimp only) | (refine step_append_lies _ rfl (.tmp 53) (.tmp 66) 44 rfl BB 9 i0 (.string ByteArray.empty) 1 16 Tryz.underlying44 hi hz0 hz1 hz2 rfl (by decide) v' up.length (strV up) (by simp [Act.eval, Act.put]) (HO2.out.alloc _) ⟨w2.heap.size, 0, none⟩ 1 1 [.string d] (by simp [Act.eval, Act.put]) rfl (one_new w2 _ _) (one_str _) (by omega) (by unfold maxLen; omega) (by omega) (by have := HB2.out.size; first | omega | (simp; omega)) _ rfl ?_; intro g4 c4 w4 ho hgr hg hlt4; have HO4 : Hid (w4.ownsRow BB 9 1 (.slice (some ⟨g4, 0, none⟩) (up.length + 1) c4) (up.length + 1) (strV up ++ [.string d])) := ho; have HB4 : Hid (Below BB wr w4) := ((HB2.out.mono hBx).alloc (by have := HB2.out.size; omega) _).grown hgr (by have := HB2.out.size; first | omega | (simp; omega)) (ownBlock_ge HO.out); clear ho hgr hg hlt4))
                all_goals
                  go_wp2
                  go_roundg (gk - 2)
                  case measure => have := HUG.out; have := HK.out; have := HMN.out; have := HML.out; omega
                  case rel =>
                    have h1 := HUG.out
                    have h2 := HK.out
                    have h3 := HML.out
                    have h4 := HMN.out
                    have h5 := HB4.out.size
                    have hl : (up ++ [d]).length = up.length + 1 := by simp
                    refine ⟨up ++ [d], _, rfl, by rw [hl, h2]; go_num, ?_, by rw [hl]; omega, ?_, by omega, HROW.out.later HB4.out hbB, HB.out.trans (HB4.out.mono hwBB)⟩
                    · rw [hl, ← HUP.out, ← h2, HUD.out, HD.out, show 2 * (up.length + 1) = k + 2 by omega]; simp
                    · rw [hl, show strV (up ++ [d]) = strV up ++ [.string d] by simp [strV]]; exact HO4.out
              · have hke : M.length = k := by have := HUG.out; omega
                have HUF : Hid (up = upL dd M) := by
                  show _ = _
                  rw [← HUP.out, ← hk, ← hke, List.drop_length]; simp [upL]
                have hu0 : 0 < up.length := by have := HML.out; omega
                obtain ⟨g9, c9, rfl, _, _⟩ := hown.form hu0
                have HR9 : Hid (SRow wr g9 0 up) := own_srow rfl hown
                clear hup hug hown hrow hb
                go_wp2
                go_roundg up.length
                case measure =>
                  have h1 := HG.out
                  have h3 := HML.out
                  omega
                case rel =>
                  have h3 := HML.out
                  refine ⟨up, g9, 0, c9, _, rfl, rfl, Nat.le_refl _, hu0, by omega, ?_, ?_, HR9.out, HB.out⟩
                  · rw [HUF.out]; exact upL_32 dd HDD.out _
                  · rw [htv.out, HT2.out, HUF.out, HM.out, ← rootF_up dd m tw h1]; exact HRT.out
          case inr =>
            have hoi : ((m.length : Int) % 2) = 1 := by omega
            have hel : evL m = m ++ [m.getD (m.length - 1) ByteArray.empty] := by unfold evL; rw [if_pos hodd]
            have cl := HROW.out (m.length - 1) (by omega)
            have HLAST : Hid (m.getD (m.length - 1) ByteArray.empty = m[m.length - 1]'(by omega)) := by
              show _ = _
              rw [List.getD_eq_getElem?_getD, List.getElem?_eq_getElem (by omega : m.length - 1 < m.length)]; rfl
            generalize m[m.length - 1]'(by omega) = z at cl HLAST
            have HEL : Hid (evL m = m ++ [z]) := by show _ = _; rw [hel, HLAST.out]
            have hB1 := HB1.out
            have nl : ((m.length : Int) - 1).toNat = m.length - 1 := by omega
            have yw : IntKind.i64.wrap ((m.length : Int) - 1) = (m.length : Int) - 1 := by rw [IntKind.wrap_i64]; omega
            have l3 : (0 : Int) ≤ (m.length : Int) - 1 := by omega
            have l4 : (1 : Int) ≤ (m.length : Int) := by omega
            have l5 : (m.length : Int) - 1 < (m.length : Int) := by omega
            clear hel HLAST
            go_upto_region 8 with fail
            go_cut [1] (fun v wx => ∃ b' cap' : Nat, v = .slice (some ⟨b', 0, none⟩) (m.length + 1) cap' ∧ SRow wx b' 0 (evL m) ∧ Below w.heap.size w wx)
            case first =>
              go_region_law (first | (refine step_append_lies _ rfl (.const (.slice none 0 0)) (.tmp 37) 44 rfl B1 9 i0 (.string ByteArray.empty) 1 16 Tryz.underlying44 hi hz0 hz1 hz2 rfl (by decide) (.slice none 0 0) 0 [] rfl (World.ownsRow_nil _ _ _ _) ⟨b, o, none⟩ m.length cap (strV m) (by simp [Act.eval, Act.put]) (by simp [strV]) (srow_news (HROW.out.later (B := B1) (by first | exact (Below.refl B1 wr).drew | exact ((Below.refl B1 wr).alloc (by omega) _).drew | exact ((Below.refl B1 wr).drew.alloc (by first | omega | (simp; done) | (simp; omega)) _)) hbl)) (str_one _) (by omega) (by unfold maxLen; omega) (by omega) (by first | omega | (simp; done) | (simp; omega)) _ rfl ?_; intro g1 c1 w1 ho hgr hat hlt1; have HO1 : Hid (w1.ownsRow B1 9 1 (.slice (some ⟨g1, 0, none⟩) (0 + m.length) c1) (0 + m.length) ([] ++ strV m)) := ho; have HL1 : Hid (Below B1 wr w1) := (show Below B1 wr _ by first | exact (Below.refl B1 wr).drew | exact ((Below.refl B1 wr).alloc (by omega) _).drew | exact ((Below.refl B1 wr).drew.alloc (by first | omega | (simp; done) | (simp; omega)) _)).grown hgr (by first | omega | (simp; done) | (simp; omega)) (fun q hq => by cases hq); have HGR := (show Hid (World.grownBy _ w1 _) from hgr); have cl1 : w1.cell? ⟨b, o + (m.length - 1), none⟩ = some (.string z) := (by rw [HL1.out.cell (p := ⟨b, o + (m.length - 1), none⟩) hbl]; exact cl); clear ho hgr hat hlt1) | (refine step_append_lies _ rfl (.tmp 38) (.tmp 45) 44 rfl B1 9 i0 (.string ByteArray.empty) 1 16 Tryz.underlying44 hi hz0 hz1 hz2 rfl (by decide) (.slice (some ⟨g1, 0, none⟩) (0 + m.length) c1) (0 + m.length) ([] ++ strV m) (by simp [Act.eval, Act.put]) (HO1.out.alloc _) ⟨w1.heap.size, 0, none⟩ 1 1 [.string z] (by simp [Act.eval, Act.put]) rfl (one_new w1 _ _) (one_str _) (by omega) (by unfold maxLen; omega) (by omega) (by have := HL1.out.size; first | omega | (simp; omega)) _ rfl ?_; intro g2 c2 w2 ho hgr hat hlt2; have HO2 : Hid (w2.ownsRow B1 9 1 (.slice (some ⟨g2, 0, none⟩) (0 + m.length + 1) c2) (0 + m.length + 1) ([] ++ strV m ++ [.string z])) := ho; have HL2 : Hid (Below B1 wr w2) := (show Below B1 wr _ by first | exact HL1.out | exact HL1.out.alloc (by have := HL1.out.size; omega) _).grown hgr (by have := HL1.out.size; first | omega | (simp; omega)) (ownBlock_ge HO1.out); clear ho hgr hat hlt2) | (refine step_append_lies _ rfl (.tmp 38) (.tmp 45) 44 rfl B1 9 i0 (.string ByteArray.empty) 1 16 Tryz.underlying44 hi hz0 hz1 hz2 rfl (by decide) (.slice (some ⟨g1, 0, none⟩) (0 + m.length) c1) (0 + m.length) ([] ++ strV m) (by simp [Act.eval, Act.put]) HO1.out ⟨wr.heap.size, 0, none⟩ 1 1 [.string z] (by simp [Act.eval, Act.put]) rfl (fun j u hu => by rw [HGR.out.cell_far _ (by rw [Addr.add_mid]; simp) (by simp [Value.ownBlock])]; exact one_new wr (.string z) 9 j u hu) (one_str _) (by omega) (by unfold maxLen; omega) (by omega) (by have := HL1.out.size; first | omega | (simp; omega)) _ rfl ?_; intro g2 c2 w2 ho hgr hat hlt2; have HO2 : Hid (w2.ownsRow B1 9 1 (.slice (some ⟨g2, 0, none⟩) (0 + m.length + 1) c2) (0 + m.length + 1) ([] ++ strV m ++ [.string z])) := ho; have HL2 : Hid (Below B1 wr w2) := (show Below B1 wr _ by first | exact HL1.out | exact HL1.out.alloc (by have := HL1.out.size; omega) _).grown hgr (by have := HL1.out.size; first | omega | (simp; omega)) (ownBlock_ge HO1.out); clear ho hgr hat hlt2))
              all_goals
                go_wp2_with fail
                go_meet
                have hwB : w.heap.size ≤ B1 := by have := HB.out.size; omega
                refine ⟨g2, c2, by simp, ?_, HB.out.trans (HL2.out.mono hwB)⟩
                have h := HO2.out
                rw [show ([] ++ strV m ++ [Value.string z]) = strV (m ++ [z]) by simp [strV], Nat.zero_add] at h
                rw [HEL.out]
                exact own_srow (by simp) h
            case rest =>
              obtain ⟨b', cap', rfl, hrow', hb'⟩ := hcut
              clear HROW HB cl hbl
              obtain ⟨b, hbb⟩ : ∃ b, b = b' := ⟨_, rfl⟩
              obtain ⟨o, hoo⟩ : ∃ o, o = 0 := ⟨_, rfl⟩
              obtain ⟨cap, hcc⟩ : ∃ c, c = cap' := ⟨_, rfl⟩
              obtain ⟨n', hn'⟩ : ∃ n, n = m.length + 1 := ⟨_, rfl⟩
              subst hbb hoo hcc
              have HROW' : Hid (SRow wc b 0 (evL m)) := hrow'
              have HB' : Hid (Below w.heap.size w wc) := hb'
              have HMN : Hid ((evL m).length = n') := by show _ = _; rw [HEL.out, hn']; simp
              have hn3 : n' ≤ 301 := by omega
              rw [← hn']
              clear hn' hrow' hb' hodd hoi nl yw l3 l4 l5 HEL
              go_upto_region 9 with fail
              obtain ⟨M, hM⟩ : ∃ M, M = evL m := ⟨_, rfl⟩
              have HM : Hid (M = evL m) := hM
              rw [← hM] at HROW' HMN
              have HML : Hid (M.length = m.length + m.length % 2) := by show _ = _; rw [hM]; exact evL_length m
              have HM32 : Hid (∀ s ∈ M, s.size = 32) := by rw [hM]; exact evL_32 m H32.out
              clear hM
              obtain ⟨BB, hBB⟩ : ∃ B, B = wc.heap.size := ⟨_, rfl⟩
              have HBB : Hid (BB = wc.heap.size) := hBB
              have hbB : b < BB := by rw [hBB]; exact HROW'.out.lt (by have := HML.out; omega)
              have hwBB : w.heap.size ≤ BB := by rw [hBB]; exact HB'.out.size
              clear hBB
              go_upto_region 11 with fail
              go_loopg [8, 9] n' (fun g v i wx => ∃ up : List ByteArray, ∃ v' : Value, v' = v ∧ i = .int .i64 ((2 * up.length : Nat) : Int) ∧ up ++ upL dd (M.drop (2 * up.length)) = upL dd M ∧ 2 * up.length + g = n' ∧ wx.ownsRow BB 9 1 v' up.length (strV up) ∧ BB ≤ wx.heap.size ∧ SRow wx b 0 M ∧ Below w.heap.size w wx)
              case atStart => exact ⟨[], _, rfl, rfl, rfl, by simp, World.ownsRow_nil _ _ _ _, Nat.le_of_eq HBB.out, HROW'.out, HB'.out⟩
              case round =>
                clear HROW' HB' HBB
                obtain ⟨up, v', rfl, rfl, hup, hug, hown, hBx, hrow, hb⟩ := hrel
                have HUP : Hid (up ++ upL dd (M.drop (2 * up.length)) = upL dd M) := hup
                have HUG : Hid (2 * up.length + gk = n') := hug
                have HO : Hid (wr.ownsRow BB 9 1 v' up.length (strV up)) := hown
                have HROW : Hid (SRow wr b 0 M) := hrow
                have HB : Hid (Below w.heap.size w wr) := hb
                obtain ⟨k, hk⟩ : ∃ k, k = 2 * up.length := ⟨_, rfl⟩
                have HK : Hid (k = 2 * up.length) := hk
                rw [← hk]
                have hmn := HMN.out
                by_cases hlt : k < n'
                · have hk1 : k + 1 < M.length := by have := HML.out; omega
                  have ck := hrow k (by omega)
                  have ck1 := hrow (k + 1) hk1
                  rw [Nat.zero_add] at ck ck1
                  have s1 := HM32.out _ (List.getElem_mem (by omega : k < M.length))
                  have s2 := HM32.out _ (List.getElem_mem hk1)
                  have HUD := (show Hid (upL dd (M.drop k) = dd (M[k] ++ M[k + 1]) :: upL dd (M.drop (k + 2))) from upL_drop dd M k hk1)
                  generalize M[k] = x at ck s1 HUD
                  generalize M[k + 1] = y at ck1 s2 HUD
                  have hsz : (x ++ y).size = 64 := by rw [ByteArray.size_append, s1, s2]
                  have hki : (k : Int) < (n' : Int) := by omega
                  have hki1 : (k : Int) + 1 < (n' : Int) := by omega
                  have yk : IntKind.i64.wrap ((k : Int) + 1) = (k : Int) + 1 := by rw [IntKind.wrap_i64]; omega
                  have nk : ((k : Int) + 1).toNat = k + 1 := by omega
                  have k0 : (0 : Int) ≤ (k : Int) + 1 := by omega
                  have hn3i : (n' : Int) ≤ 301 := by omega
                  have HSZ : Hid ((x ++ y).size = 64) := hsz
                  have hul : up.length ≤ 301 := by omega
                  obtain ⟨d, hd⟩ : ∃ d, d = dd (x ++ y) := ⟨_, rfl⟩
                  have HD : Hid (d = dd (x ++ y)) := hd
                  have HTC : Hid (∀ W : World, Below w.heap.size w W → Calls Tryz.prog 39 #[.pointer (some ⟨gt, 0, none⟩), .string (x ++ y)] W fun e w' => e = .returned (.string d) ∧ Below W.heap.size W w') := fun W hW => by rw [hd]; exact HTW.out _ W hsz hW
                  clear hup hug hown hrow hb hk hmn hd hsz hk1
                  go_upto_region 13 with fail
                  go_region_law (first | (go_simp; go_at_call 39; refine (HTC.out _ HB.out.drew).mono ?_; rintro e w2 ⟨rfl, hb2⟩; have HB2 : Hid (Below wr.heap.size wr w2) := ((Below.refl _ wr).drew.trans hb2); have HO2 : Hid (w2.ownsRow BB 9 1 v' up.length (strV up)) := own_later HO.out HB2.out; clear hb2; dsimp only) | (refine step_append_lies _ rfl (.tmp 53) (.tmp 66) 44 rfl BB 9 i0 (.string ByteArray.empty) 1 16 Tryz.underlying44 hi hz0 hz1 hz2 rfl (by decide) v' up.length (strV up) (by simp [Act.eval, Act.put]) (HO2.out.alloc _) ⟨w2.heap.size, 0, none⟩ 1 1 [.string d] (by simp [Act.eval, Act.put]) rfl (one_new w2 _ _) (one_str _) (by omega) (by unfold maxLen; omega) (by omega) (by have := HB2.out.size; first | omega | (simp; omega)) _ rfl ?_; intro g4 c4 w4 ho hgr hg hlt4; have HO4 : Hid (w4.ownsRow BB 9 1 (.slice (some ⟨g4, 0, none⟩) (up.length + 1) c4) (up.length + 1) (strV up ++ [.string d])) := ho; have HB4 : Hid (Below BB wr w4) := ((HB2.out.mono hBx).alloc (by have := HB2.out.size; omega) _).grown hgr (by have := HB2.out.size; first | omega | (simp; omega)) (ownBlock_ge HO.out); clear ho hgr hg hlt4))
                  all_goals
                    go_wp2
                    go_roundg (gk - 2)
                    case measure => have := HUG.out; have := HK.out; have := HMN.out; have := HML.out; omega
                    case rel =>
                      have h1 := HUG.out
                      have h2 := HK.out
                      have h3 := HML.out
                      have h4 := HMN.out
                      have h5 := HB4.out.size
                      have hl : (up ++ [d]).length = up.length + 1 := by simp
                      refine ⟨up ++ [d], _, rfl, by rw [hl, h2]; go_num, ?_, by rw [hl]; omega, ?_, by omega, HROW.out.later HB4.out hbB, HB.out.trans (HB4.out.mono hwBB)⟩
                      · rw [hl, ← HUP.out, ← h2, HUD.out, HD.out, show 2 * (up.length + 1) = k + 2 by omega]; simp
                      · rw [hl, show strV (up ++ [d]) = strV up ++ [.string d] by simp [strV]]; exact HO4.out
                · have hke : M.length = k := by have := HUG.out; omega
                  have HUF : Hid (up = upL dd M) := by
                    show _ = _
                    rw [← HUP.out, ← hk, ← hke, List.drop_length]; simp [upL]
                  have hu0 : 0 < up.length := by have := HML.out; omega
                  obtain ⟨g9, c9, rfl, _, _⟩ := hown.form hu0
                  have HR9 : Hid (SRow wr g9 0 up) := own_srow rfl hown
                  clear hup hug hown hrow hb
                  go_wp2
                  go_roundg up.length
                  case measure =>
                    have h1 := HG.out
                    have h3 := HML.out
                    omega
                  case rel =>
                    have h3 := HML.out
                    refine ⟨up, g9, 0, c9, _, rfl, rfl, Nat.le_refl _, hu0, by omega, ?_, ?_, HR9.out, HB.out⟩
                    · rw [HUF.out]; exact upL_32 dd HDD.out _
                    · rw [htv.out, HT2.out, HUF.out, HM.out, ← rootF_up dd m tw h1]; exact HRT.out
    · have hm1 : m.length = 1 := by omega
      have c0 := HROW.out 0 (by omega)
      have HF : Hid (R = (m[0], tw)) := by
        show _ = _
        rw [← HRT.out, rootF_one dd m tw hm1, List.getD_eq_getElem?_getD, List.getElem?_eq_getElem (by omega : 0 < m.length)]; rfl
      have e0 : o + 0 = o := rfl
      rw [e0] at c0
      rw [hm1]
      generalize m[0] = x0 at c0 HF
      clear h1 e0
      go_wp2
      go_ret2
      refine ⟨by rw [HF.out]; rfl, HB.out⟩
end Go.Proofs.YtkmalggeieiepaaGreatDoor
namespace Go.Proofs.YtkmalggeieiepaaGreatDoor
open Go.RowKit

theorem Rd.laterB {w w' : World} {g B : Nat} {l : List UInt8} {e : Int} (h : Rd w g l e) (hb : Below B w w') (hg : g < B) : Rd w' g l e :=
  ⟨by rw [hb.cell (p := ⟨g, 0, none⟩) hg]; exact h.s, by rw [hb.frozen (p := ⟨g, 0, none⟩) hg]; exact h.sf, by rw [hb.cell (p := ⟨g, 1, none⟩) hg]; exact h.e, by rw [hb.frozen (p := ⟨g, 1, none⟩) hg]; exact h.ef⟩
theorem Mov.onB {g : Nat} {a b c : World} (h : Mov g a b) (k : Below a.heap.size b c) : Mov g a c :=
  ⟨k.os.trans h.os, k.tape.trans h.tape, k.output.trans h.output, Nat.le_trans h.size k.size, fun i hi hg => (k.block i hi).trans (h.block i hi hg)⟩
theorem own_mov {w w' : World} {base e size n g : Nat} {v : Value} {xs : List Value} (h : w.ownsRow base e size v n xs) (hm : Mov g w w') (hg : g < base) : w'.ownsRow base e size v n xs := by
  refine ⟨h.1, ?_⟩
  rcases h.2 with hn | ⟨g', cap, cur, hv, hbg, hg', rest⟩
  · exact .inl hn
  · have hl : g' < w.heap.size := by
      rcases Nat.lt_or_ge g' w.heap.size with h | h
      · exact h
      · rw [Array.getElem?_eq_none h] at hg'; cases hg'
    exact .inr ⟨g', cap, cur, hv, hbg, by rw [hm.block g' hl (by omega)]; exact hg', rest⟩

/-- the bytes of the transaction that is read. -/
def txB (r : List UInt8 × Int) : List UInt8 := r.1.take (r.1.length - (rTx r).1.length)
def rTxs : Nat → List UInt8 × Int → List (List UInt8) × (List UInt8 × Int)
  | 0, r => ([], r)
  | n + 1, r => if r.2 = 0 then (txB r :: (rTxs n (rTx r)).1, (rTxs n (rTx r)).2) else ([], r)
theorem rTxs_bad (n : Nat) (r : List UInt8 × Int) (h : ¬ r.2 = 0) : rTxs n r = ([], r) := by
  cases n with
  | zero => rfl
  | succ n => show (if r.2 = 0 then _ else _) = _; rw [if_neg h]
def strB (l : List (List UInt8)) : List Value := strV (l.map ofL)

set_option maxRecDepth 10000 in
set_option maxHeartbeats 1000000 in
theorem txs_any (g n : Nat) (l : List UInt8) (e : Int) (w : World) (h : Rd w g l e) (hl : l.length ≤ maxLen) (hn : n ≤ 16) :
    Calls Tryz.prog 99 #[.pointer (some ⟨g, 0, none⟩), .int .i64 (n : Int)] w fun x w' => ∃ v, x = .returned v ∧ w'.ownsRow w.heap.size 9 1 v (rTxs n (l, e)).1.length (strB (rTxs n (l, e)).1) ∧ Rd w' g (rTxs n (l, e)).2.1 (rTxs n (l, e)).2.2 ∧ Mov g w w' := by
  obtain ⟨i0, hi, hz0, hz1, hz2⟩ := info_parts infoStr
  have HR : Hid (Rd w g l e) := h
  have hgw := h.lt
  obtain ⟨R, HRR⟩ : ∃ R, Hid (R = rTxs n (l, e)) := ⟨_, rfl⟩
  rw [← HRR.out]
  have HL : Hid (l.length ≤ maxLen) := hl
  clear h hl
  go_enter Tryz.func99, Tryz.ntmps99
  go_upto_region 2 with fail
  go_loopg [1, 5] n (fun k nv v wx => ∃ r : List UInt8 × Int, ∃ out : List (List UInt8), ∃ v' : Value, v' = v ∧ nv = .int .i64 (k : Int) ∧ k ≤ 16 ∧ out.length + k ≤ 16 ∧ (out ++ (rTxs k r).1, (rTxs k r).2) = R ∧ r.1.length ≤ l.length ∧ Rd wx g r.1 r.2 ∧ wx.ownsRow w.heap.size 9 1 v' out.length (strB out) ∧ Mov g w wx)
  case atStart => exact ⟨(l, e), [], _, rfl, rfl, hn, by simpa using hn, HRR.out.symm, Nat.le_refl _, HR.out, World.ownsRow_nil _ _ _ _, Mov.refl g w⟩
  case round =>
    clear HR HRR hn
    obtain ⟨r, out, v, rfl, rfl, hk16, hok, hR, hrl, hrd, hown, hmv⟩ := hrel
    have HRD : Hid (Rd wr g r.1 r.2) := hrd
    have HO : Hid (wr.ownsRow w.heap.size 9 1 v out.length (strB out)) := hown
    have HM : Hid (Mov g w wr) := hmv
    have HEQ : Hid ((out ++ (rTxs gk r).1, (rTxs gk r).2) = R) := hR
    have HRL : Hid (r.1.length ≤ l.length) := hrl
    have de := hrd.e
    clear hR hrd hown hmv hrl
    by_cases h0 : gk = 0
    · subst h0
      go_wp2
      go_ret
      have hq : R = (out, r) := by rw [← HEQ.out]; simp [rTxs]
      rw [hq]
      exact ⟨_, rfl, HO.out, HRD.out, HM.out⟩
    · obtain ⟨k, rfl⟩ : ∃ k, gk = k + 1 := ⟨gk - 1, by omega⟩
      have hk : (0 : Int) < ((k + 1 : Nat) : Int) := by omega
      by_cases he : r.2 = 0
      · obtain ⟨tb, htb⟩ : ∃ t, t = ofL (txB r) := ⟨_, rfl⟩
        have HTB : Hid (tb = ofL (txB r)) := htb
        have HTX : Hid (Calls Tryz.prog 66 #[.pointer (some ⟨g, 0, none⟩)] wr fun x w' => x = .returned (.string tb) ∧ Rd w' g (rTx r).1 (rTx r).2 ∧ Mov g wr w') := by
          rw [htb]; exact tx_any g r.1 r.2 wr HRD.out (by have := HL.out; have := HRL.out; omega)
        rw [he] at de
        clear htb
        go_upto_region 4 with fail
        go_upto_region 3 with (first
          | (go_at_call 66; go_must (refine HTX.out.mono ?_); rintro x w1 ⟨rfl, hr1, hm1⟩; have HR1 := (show Hid (Rd w1 g (rTx r).1 (rTx r).2) from hr1); have HM1 := (show Hid (Mov g wr w1) from hm1); have HO1 : Hid (w1.ownsRow w.heap.size 9 1 v out.length (strB out)) := own_mov HO.out hm1 hgw; have hsz1 := hm1.size; have hsz0 := HM.out.size; clear hr1 hm1 HTX)
          | (at_builtin; go_must (refine wpList_append_lies _ rfl _ _ 44 rfl w.heap.size 9 i0 (.string ByteArray.empty) 1 16 Tryz.underlying44 hi hz0 hz1 hz2 rfl (by decide) v out.length (strB out) rfl (HO1.out.alloc _) ⟨w1.heap.size, 0, none⟩ 1 1 [.string tb] rfl rfl (one_new w1 _ _) (one_str _) (by omega) (by unfold maxLen; omega) (by omega) (by simp; omega) _ rfl ?_); intro g4 c4 w4 ho hgr hat hlt4; have HO4 : Hid (w4.ownsRow w.heap.size 9 1 (.slice (some ⟨g4, 0, none⟩) (out.length + 1) c4) (out.length + 1) (strB out ++ [.string tb])) := ho; have HB4 : Hid (Below w.heap.size w1 w4) := ((Below.refl w.heap.size w1).alloc (by omega) _).grown hgr (by simp; omega) (ownBlock_ge HO.out); clear ho hgr hat hlt4))
        go_wp2
        go_roundg k
        case measure => omega
        case rel =>
          have hll : (out ++ [txB r]).length = out.length + 1 := by simp
          have hle := rTx_le r
          refine ⟨rTx r, out ++ [txB r], _, rfl, by go_num, by omega, by rw [hll]; omega, ?_, Nat.le_trans hle HRL.out, HR1.out.laterB HB4.out hgw, ?_, (HM.out.trans HM1.out).onB HB4.out⟩
          · rw [← HEQ.out]
            show _ = (out ++ (if r.2 = 0 then _ else _ : List (List UInt8) × (List UInt8 × Int)).1, (if r.2 = 0 then _ else _ : List (List UInt8) × (List UInt8 × Int)).2)
            rw [if_pos he]; simp
          · rw [hll, show strB (out ++ [txB r]) = strB out ++ [.string tb] by rw [HTB.out]; simp [strB, strV]]; exact HO4.out
      · go_wp2
        go_ret
        have hq : R = (out, r) := by rw [← HEQ.out, rTxs_bad _ r he]; simp
        rw [hq]
        exact ⟨_, rfl, HO.out, HRD.out, HM.out⟩
end Go.Proofs.YtkmalggeieiepaaGreatDoor
namespace Go.Proofs.YtkmalggeieiepaaGreatDoor
open Go.RowKit

def rIndex (next bound : Nat) (r : List UInt8 × Int) : Nat × (List UInt8 × Int) :=
  if (rSize r).2.2 ≠ 0 then (0, (rSize r).2) else if bound ≤ (rSize r).1 ∨ bound ≤ (rSize r).1 + next then (0, ((rSize r).2.1, 4)) else (next + (rSize r).1, (rSize r).2)

set_option maxRecDepth 10000 in
set_option maxHeartbeats 1000000 in
theorem index_any (g next bound : Nat) (l : List UInt8) (e : Int) (w : World) (h : Rd w g l e) (hlo : next ≤ 1048576) (hhi : bound ≤ 1048576) :
    Calls Tryz.prog 90 #[.pointer (some ⟨g, 0, none⟩), .int .i64 (next : Int), .int .i64 (bound : Int)] w fun x w' => x = .returned (.int .i64 ((rIndex next bound (l, e)).1 : Int)) ∧ Rd w' g (rIndex next bound (l, e)).2.1 (rIndex next bound (l, e)).2.2 ∧ Mov g w w' := by
  have hS := size_any g l e w h
  have HE : Hid (rIndex next bound (l, e) = if (rSize (l, e)).2.2 ≠ 0 then (0, (rSize (l, e)).2) else if bound ≤ (rSize (l, e)).1 ∨ bound ≤ (rSize (l, e)).1 + next then (0, ((rSize (l, e)).2.1, 4)) else (next + (rSize (l, e)).1, (rSize (l, e)).2)) := rfl
  clear h
  generalize rSize (l, e) = p at hS HE
  obtain ⟨x, m, c⟩ := p
  obtain ⟨X, hX⟩ : ∃ X : Int, X = (x : Int) := ⟨_, rfl⟩
  have HX : Hid (X = (x : Int)) := hX
  have L0 : (0 : Int) ≤ (next : Int) := by omega
  have L1 : (next : Int) ≤ 1048576 := by omega
  have M0 : (0 : Int) ≤ (bound : Int) := by omega
  have M1 : (bound : Int) ≤ 1048576 := by omega
  have X0 : 0 ≤ X := by omega
  have HS : Hid (Calls Tryz.prog 127 #[.pointer (some ⟨g, 0, none⟩)] w fun x w' => x = .returned (.int .u64 X) ∧ Rd w' g m c ∧ Mov g w w') := by rw [hX]; exact hS
  clear hS
  by_cases hc : c = 0
  · subst hc
    have HW : Hid (∀ W : World, Rd W g m 0 → Calls Tryz.prog 89 #[.pointer (some ⟨g, 0, none⟩), .int .i64 4] W fun x w' => x = .returned (.tuple #[]) ∧ Rd w' g m 4 ∧ Mov g W w') := fun W hW => wrong_any g 4 m 0 W hW
    by_cases h1 : bound ≤ x
    · have e2 : rIndex next bound (l, e) = (0, (m, 4)) := by rw [HE.out]; simp [h1]
      rw [e2]
      have i1 : (bound : Int) ≤ X := by omega
      clear h1 e2 HE hX
      generalize (next : Int) = LO at *
      generalize (bound : Int) = HI at *
      go_enter Tryz.func90, Tryz.ntmps90
      go_upto_region 2 with (go_at_call 127; go_must (refine HS.out.mono ?_); rintro x w1 ⟨rfl, hr1, hm1⟩; have HR1 := (show Hid (Rd w1 g _ _) from hr1); have HM1 := (show Hid (Mov g w w1) from hm1); clear hr1 hm1)
      have d1 := HR1.out.e
      go_upto_region 4 with (go_at_call 89; go_must (refine (HW.out _ HR1.out).mono ?_); rintro x w4 ⟨rfl, hr4, hm4⟩; have HR4 := (show Hid (Rd w4 g _ _) from hr4); have HM4 := (show Hid (Mov g w1 w4) from hm4); clear hr4 hm4)
      have d4 := HR4.out.e
      go_wp2
      go_ret
      exact ⟨rfl, HR4.out, HM1.out.trans HM4.out⟩
    · have x1 : X ≤ 1048576 := by omega
      have yx : IntKind.i64.wrap X = X := by rw [IntKind.wrap_i64]; omega
      have yn : IntKind.i64.wrap (X + (next : Int)) = X + (next : Int) := by rw [IntKind.wrap_i64]; omega
      have ym : IntKind.i64.wrap ((next : Int) + X) = (next : Int) + X := by rw [IntKind.wrap_i64]; omega
      by_cases h2 : bound ≤ x + next
      · have e2 : rIndex next bound (l, e) = (0, (m, 4)) := by rw [HE.out]; simp [h2]
        rw [e2]
        have i1 : X < (bound : Int) := by omega
        have i2 : (bound : Int) ≤ X + (next : Int) := by omega
        clear h1 h2 e2 HE hX
        generalize (next : Int) = LO at *
        generalize (bound : Int) = HI at *
        go_enter Tryz.func90, Tryz.ntmps90
        go_upto_region 2 with (go_at_call 127; go_must (refine HS.out.mono ?_); rintro x w1 ⟨rfl, hr1, hm1⟩; have HR1 := (show Hid (Rd w1 g _ _) from hr1); have HM1 := (show Hid (Mov g w w1) from hm1); clear hr1 hm1)
        have d1 := HR1.out.e
        go_upto_region 4 with (go_at_call 89; go_must (refine (HW.out _ HR1.out).mono ?_); rintro x w4 ⟨rfl, hr4, hm4⟩; have HR4 := (show Hid (Rd w4 g _ _) from hr4); have HM4 := (show Hid (Mov g w1 w4) from hm4); clear hr4 hm4)
        have d4 := HR4.out.e
        go_wp2
        go_ret
        exact ⟨rfl, HR4.out, HM1.out.trans HM4.out⟩
      · have e2 : rIndex next bound (l, e) = (next + x, (m, 0)) := by rw [HE.out]; simp [h1, h2]
        rw [e2]
        have hNX : ((next + x : Nat) : Int) = (next : Int) + X := by omega
        rw [hNX]
        have i1 : X < (bound : Int) := by omega
        have i2 : X + (next : Int) < (bound : Int) := by omega
        clear h1 h2 e2 HE hX hNX
        generalize (next : Int) = LO at *
        generalize (bound : Int) = HI at *
        go_enter Tryz.func90, Tryz.ntmps90
        go_upto_region 2 with (go_at_call 127; go_must (refine HS.out.mono ?_); rintro x w1 ⟨rfl, hr1, hm1⟩; have HR1 := (show Hid (Rd w1 g _ _) from hr1); have HM1 := (show Hid (Mov g w w1) from hm1); clear hr1 hm1)
        have d1 := HR1.out.e
        go_wp2
        go_ret
        exact ⟨rfl, HR1.out, HM1.out⟩
  · have e2 : rIndex next bound (l, e) = (0, (m, c)) := by rw [HE.out]; simp [hc]
    rw [e2]
    clear e2 HE hX
    go_enter Tryz.func90, Tryz.ntmps90
    go_upto_region 2 with (go_at_call 127; go_must (refine HS.out.mono ?_); rintro x w1 ⟨rfl, hr1, hm1⟩; have HR1 := (show Hid (Rd w1 g _ _) from hr1); have HM1 := (show Hid (Mov g w w1) from hm1); clear hr1 hm1)
    have d1 := HR1.out.e
    go_wp2
    go_ret
    exact ⟨rfl, HR1.out, HM1.out⟩

/-- texts one behind the other. -/
def catL (l : List ByteArray) : List UInt8 := l.flatMap fun s => s.data.toList
theorem catL_snoc (l : List ByteArray) (j : Nat) (h : j < l.length) : catL (l.take (j + 1)) = catL (l.take j) ++ l[j].data.toList := by
  unfold catL; rw [List.take_succ_eq_append_getElem h, List.flatMap_append, List.flatMap_singleton]
theorem catL_le (l : List ByteArray) (N : Nat) (h : ∀ s ∈ l, s.size ≤ N) : (catL l).length ≤ l.length * N := by
  induction l with
  | nil => simp [catL]
  | cons a l ih =>
    have h1 := h a (by simp)
    have h2 := ih (fun s hs => h s (by simp [hs]))
    have h3 : a.data.toList.length = a.size := rfl
    simp only [catL, List.flatMap_cons, List.length_append, List.length_cons, Nat.succ_mul] at *
    omega
theorem sizeL_le (n : Nat) : (sizeL n).length ≤ 9 := by
  unfold sizeL
  split
  · rw [le_length]; omega
  · split
    · rw [List.length_cons, le_length]; omega
    · split
      · rw [List.length_cons, le_length]; omega
      · rw [List.length_cons, le_length]; omega

set_option maxRecDepth 10000 in
set_option maxHeartbeats 1000000 in
theorem joined_any (l : List ByteArray) (b o cap : Nat) (w : World) (hs : SRow w b o l) (hn : l.length ≤ 16) (hN : ∀ s ∈ l, s.size ≤ 1048576) (hb : 0 < l.length) :
    Calls Tryz.prog 130 #[.slice (some ⟨b, o, none⟩) l.length cap] w fun x w' => x = .returned (.string (ofL (sizeL l.length ++ catL l))) ∧ Below w.heap.size w w' := by
  have HS : Hid (SRow w b o l) := hs
  have hbl := hs.lt hb
  have HN : Hid (∀ s ∈ l, s.size ≤ 1048576) := hN
  have HZ : Hid (Calls Tryz.prog 54 #[.int .u64 (l.length : Int)] w fun x w' => x = .returned (.string (ofL (sizeL l.length))) ∧ Below w.heap.size w w') := Size_any l.length w (by unfold U64; omega)
  have hni : (l.length : Int) ≤ 16 := by omega
  clear hs hN
  go_enter Tryz.func130, Tryz.ntmps130
  go_upto_region 3 with (go_at_call 54; go_must (refine HZ.out.mono ?_); rintro x w1 ⟨rfl, hb1⟩; have HB1 : Hid (Below w.heap.size w w1) := hb1; clear hb1)
  go_loopg [3, 12] l.length (fun g s i wx => ∃ j : Nat, j + g = l.length ∧ i = .int .i64 (j : Int) ∧ s = .string (ofL (sizeL l.length ++ catL (l.take j))) ∧ wx = w1)
  case atStart => exact ⟨0, by omega, rfl, by simp [catL], rfl⟩
  case round =>
    obtain ⟨j, hjg, rfl, rfl, rfl⟩ := hrel
    have HJ : Hid (j + gk = l.length) := hjg
    by_cases hlt : j < l.length
    · have cj : wr.cell? ⟨b, o + j, none⟩ = some (.string l[j]) := (HS.out.later HB1.out hbl) j hlt
      have sj := HN.out _ (List.getElem_mem hlt)
      have HC := (show Hid (catL (l.take (j + 1)) = catL (l.take j) ++ l[j].data.toList) from catL_snoc l j hlt)
      have hle : (ofL (sizeL l.length ++ catL (l.take j))).size ≤ 16777216 + 9 := by
        have h1 := sizeL_le l.length
        have h2 := catL_le (l.take j) 1048576 (fun s hs => HN.out s (List.mem_of_mem_take hs))
        rw [List.length_take] at h2
        rw [ofL_size, List.length_append]
        have h3 : min j l.length * 1048576 ≤ 16 * 1048576 := Nat.mul_le_mul_right _ (by omega)
        omega
      have HAP := (show Hid (ofL (sizeL l.length ++ catL (l.take j)) ++ ofL l[j].data.toList = _) from ofL_append (sizeL l.length ++ catL (l.take j)) l[j].data.toList)
      have HOF := (show Hid (ofL l[j].data.toList = l[j]) from ofL_of l[j])
      rw [HOF.out] at HAP
      generalize l[j] = t at cj sj HC HAP HOF
      obtain ⟨S, hS⟩ : ∃ S, S = ofL (sizeL l.length ++ catL (l.take j)) := ⟨_, rfl⟩
      rw [← hS] at hle HAP ⊢
      have hji : (j : Int) < (l.length : Int) := by omega
      clear hjg hS
      go_wp2
      go_roundg (gk - 1)
      case measure => have := HJ.out; omega
      case rel =>
        have h1 := HJ.out
        refine ⟨j + 1, by omega, by go_num, ?_, rfl⟩
        rw [HC.out, HAP.out, List.append_assoc]
    · have hje : j = l.length := by omega
      subst hje
      clear hjg
      go_wp2
      go_ret
      refine ⟨?_, HB1.out⟩
      rw [List.take_length]; rfl
end Go.Proofs.YtkmalggeieiepaaGreatDoor
namespace Go.Proofs.YtkmalggeieiepaaGreatDoor
open Go.RowKit

/-- twice, where once is known. -/
theorem twice_of (gt : Nat) (dg : ByteArray → ByteArray) (hdg : ∀ s, (dg s).size ≤ 1048576) (s : ByteArray) (w : World) (hs : s.size ≤ 1048576)
    (HS : Hid (∀ (s : ByteArray) (W : World), s.size ≤ 1048576 → Below w.heap.size w W → Calls Tryz.prog 68 #[.pointer (some ⟨gt, 0, none⟩), .string s] W fun e w' => e = .returned (.string (dg s)) ∧ Below W.heap.size W w')) :
    Calls Tryz.prog 39 #[.pointer (some ⟨gt, 0, none⟩), .string s] w fun e w' => e = .returned (.string (dg (dg s))) ∧ Below w.heap.size w w' := by
  have H1 : Hid (Calls Tryz.prog 68 #[.pointer (some ⟨gt, 0, none⟩), .string s] w fun e w' => e = .returned (.string (dg s)) ∧ Below w.heap.size w w') := HS.out s w hs (Below.refl _ _)
  have H2 : Hid (∀ W : World, Below w.heap.size w W → Calls Tryz.prog 68 #[.pointer (some ⟨gt, 0, none⟩), .string (dg s)] W fun e w' => e = .returned (.string (dg (dg s))) ∧ Below W.heap.size W w') := fun W hW => HS.out (dg s) W (hdg s) hW
  clear hdg HS
  generalize dg (dg s) = r2 at H2
  generalize dg s = r1 at H1 H2
  go_enter Tryz.func39, Tryz.ntmps39
  go_wp2_with (first
    | (go_at_call 68; refine H1.out.mono ?_; rintro e w1 ⟨rfl, hb1⟩; have HB1 : Hid (Below w.heap.size w w1) := hb1; clear hb1 H1)
    | (go_at_call 68; go_must (refine (H2.out _ HB1.out).mono ?_); rintro e w2 ⟨rfl, hb2⟩; have HB2 := (show Hid (Below w1.heap.size w1 w2) from hb2); clear hb2))
  go_ret
  exact ⟨rfl, HB1.out.trans (HB2.out.mono HB1.out.size)⟩
end Go.Proofs.YtkmalggeieiepaaGreatDoor
namespace Go.Proofs.YtkmalggeieiepaaGreatDoor
open Go.RowKit

set_option maxRecDepth 10000 in
set_option maxHeartbeats 1000000 in
theorem IDs_of (gr gt : Nat) (dd : ByteArray → ByteArray) (p : List ByteArray) (v : Value) (w : World) (cT : w.cell? ⟨gr, 0, none⟩ = some (.pointer (some ⟨gt, 0, none⟩))) (cP : w.cell? ⟨gr, 1, none⟩ = some v) (hv : SVal w v p) (hp : p.length ≤ 1000) (hz : ∀ s ∈ p, s.size ≤ 1048576)
    (HTW : Hid (∀ (s : ByteArray) (W : World), s.size ≤ 1048576 → Below w.heap.size w W → Calls Tryz.prog 39 #[.pointer (some ⟨gt, 0, none⟩), .string s] W fun e w' => e = .returned (.string (dd s)) ∧ Below W.heap.size W w')) :
    Calls Tryz.prog 24 #[.pointer (some ⟨gr, 0, none⟩)] w fun x w' => ∃ u, x = .returned u ∧ w'.ownsRow w.heap.size 9 1 u p.length (strV (p.map dd)) ∧ Below w.heap.size w w' := by
  obtain ⟨i0, hi, hz0, hz1, hz2⟩ := info_parts infoStr
  have lgr := World.block_lt_of_cell? w _ cT
  have HCT : Hid (∀ W, Below w.heap.size w W → W.cell? ⟨gr, 0, none⟩ = some (.pointer (some ⟨gt, 0, none⟩))) := fun W hW => by rw [hW.cell (p := ⟨gr, 0, none⟩) lgr]; exact cT
  obtain ⟨a, cap, rfl, _, hr⟩ := hv
  have HZ : Hid (∀ s ∈ p, s.size ≤ 1048576) := hz
  have HRW : Hid (0 < p.length → ∃ b o, a = some ⟨b, o, none⟩ ∧ SRow w b o p) := hr
  clear hr hz cT
  go_enter Tryz.func24, Tryz.ntmps24
  go_upto_region 3 with fail
  clear cP
  go_loopg [3, 11] p.length (fun g v i wx => ∃ j : Nat, ∃ v' : Value, v' = v ∧ j + g = p.length ∧ i = .int .i64 (j : Int) ∧ wx.ownsRow w.heap.size 9 1 v' j (strV ((p.take j).map dd)) ∧ Below w.heap.size w wx)
  case atStart => exact ⟨0, _, rfl, by omega, rfl, by simpa [strV] using World.ownsRow_nil _ _ _ _, Below.refl _ _⟩
  case round =>
    obtain ⟨j, v, rfl, hjg, rfl, hown, hb⟩ := hrel
    have HO : Hid (wr.ownsRow w.heap.size 9 1 v j (strV ((p.take j).map dd))) := hown
    have HB : Hid (Below w.heap.size w wr) := hb
    have HJ : Hid (j + gk = p.length) := hjg
    by_cases hlt : j < p.length
    · obtain ⟨b, o, rfl, hrow⟩ := HRW.out (by omega)
      have cj : wr.cell? ⟨b, o + j, none⟩ = some (.string p[j]) := (hrow.later hb (hrow.lt (by omega))) j hlt
      have sj := HZ.out _ (List.getElem_mem hlt)
      have cT := HCT.out wr hb
      have HTC : Hid (Calls Tryz.prog 39 #[.pointer (some ⟨gt, 0, none⟩), .string p[j]] wr fun e w' => e = .returned (.string (dd p[j])) ∧ Below wr.heap.size wr w') := HTW.out _ wr sj hb
      have HTK : Hid (strV ((p.take (j + 1)).map dd) = strV ((p.take j).map dd) ++ [.string (dd p[j])]) := by
        show _ = _
        rw [List.take_succ_eq_append_getElem hlt]; simp only [strV, List.map_append, List.map_cons, List.map_nil]
      generalize p[j] = x at cj sj HTC HTK
      generalize dd x = d at HTC HTK
      have hji : (j : Int) < (p.length : Int) := by omega
      have hs0 := hb.size
      clear hrow hown hb hjg HRW
      go_upto_region 6 with (first
        | (go_at_call 39; go_must (refine HTC.out.mono ?_); rintro e w1 ⟨rfl, hb1⟩; have HB1 : Hid (Below wr.heap.size wr w1) := hb1; have HO1 : Hid (w1.ownsRow w.heap.size 9 1 v j (strV ((p.take j).map dd))) := own_later HO.out hb1; have hsz1 := hb1.size; clear hb1 HTC)
        | (at_builtin; go_must (refine wpList_append_lies _ rfl _ _ 44 rfl w.heap.size 9 i0 (.string ByteArray.empty) 1 16 Tryz.underlying44 hi hz0 hz1 hz2 rfl (by decide) v j (strV ((p.take j).map dd)) rfl (HO1.out.alloc _) ⟨w1.heap.size, 0, none⟩ 1 1 [.string d] rfl rfl (one_new w1 _ _) (one_str _) (by omega) (by unfold maxLen; omega) (by omega) (by simp; omega) _ rfl ?_); intro g4 c4 w4 ho hgr hat hlt4; have HO4 : Hid (w4.ownsRow w.heap.size 9 1 (.slice (some ⟨g4, 0, none⟩) (j + 1) c4) (j + 1) (strV ((p.take j).map dd) ++ [.string d])) := ho; have HB4 : Hid (Below w.heap.size w1 w4) := ((Below.refl w.heap.size w1).alloc (by omega) _).grown hgr (by simp; omega) (ownBlock_ge HO.out); clear ho hgr hat hlt4))
      go_wp2
      go_roundg (gk - 1)
      case measure => have := HJ.out; omega
      case rel =>
        have h1 := HJ.out
        exact ⟨j + 1, _, rfl, by omega, by go_num, by rw [HTK.out]; exact HO4.out, HB.out.trans ((HB1.out.mono hs0).trans HB4.out)⟩
    · have hje : j = p.length := by omega
      subst hje
      clear hown hb hjg
      go_wp2
      go_ret
      refine ⟨_, rfl, ?_, HB.out⟩
      have h := HO.out
      rw [List.take_length] at h
      exact h
end Go.Proofs.YtkmalggeieiepaaGreatDoor
namespace Go.Proofs.YtkmalggeieiepaaGreatDoor
open Go.RowKit

/-- the place of a digest, or where it would be; is it there? -/
def atL (dd : ByteArray → ByteArray) (id : ByteArray) : List ByteArray → Nat → Nat × Bool
  | [], k => (k, false)
  | x :: r, k => if Op.bytesLess (dd x).toList id.toList = true then atL dd id r (k + 1) else (k, (dd x).toList == id.toList)
theorem atL_drop (dd : ByteArray → ByteArray) (id : ByteArray) (p : List ByteArray) (j : Nat) (h : j < p.length) : atL dd id (p.drop j) j = if Op.bytesLess (dd p[j]).toList id.toList = true then atL dd id (p.drop (j + 1)) (j + 1) else (j, (dd p[j]).toList == id.toList) := by
  rw [List.drop_eq_getElem_cons h]; rfl
set_option maxRecDepth 10000 in
set_option maxHeartbeats 1000000 in
theorem at_of (gr gt : Nat) (dd : ByteArray → ByteArray) (id : ByteArray) (p : List ByteArray) (v : Value) (w : World) (cT : w.cell? ⟨gr, 0, none⟩ = some (.pointer (some ⟨gt, 0, none⟩))) (cP : w.cell? ⟨gr, 1, none⟩ = some v) (hv : SVal w v p) (hp : p.length ≤ 1000) (hz : ∀ s ∈ p, s.size ≤ 1048576)
    (HTW : Hid (∀ (s : ByteArray) (W : World), s.size ≤ 1048576 → Below w.heap.size w W → Calls Tryz.prog 39 #[.pointer (some ⟨gt, 0, none⟩), .string s] W fun e w' => e = .returned (.string (dd s)) ∧ Below W.heap.size W w')) :
    Calls Tryz.prog 38 #[.pointer (some ⟨gr, 0, none⟩), .string id] w fun x w' => x = .returned (.tuple #[.int .i64 ((atL dd id p 0).1 : Int), .bool (atL dd id p 0).2]) ∧ Below w.heap.size w w' := by
  obtain ⟨R, HR⟩ : ∃ R, Hid (R = atL dd id p 0) := ⟨_, rfl⟩
  rw [← HR.out]
  have lgr := World.block_lt_of_cell? w _ cT
  have HCT : Hid (∀ W, Below w.heap.size w W → W.cell? ⟨gr, 0, none⟩ = some (.pointer (some ⟨gt, 0, none⟩))) := fun W hW => by rw [hW.cell (p := ⟨gr, 0, none⟩) lgr]; exact cT
  obtain ⟨a, cap, rfl, _, hr⟩ := hv
  have HCP : Hid (∀ W, Below w.heap.size w W → W.cell? ⟨gr, 1, none⟩ = some (.slice a p.length cap)) := fun W hW => by rw [hW.cell (p := ⟨gr, 1, none⟩) lgr]; exact cP
  have HZ : Hid (∀ s ∈ p, s.size ≤ 1048576) := hz
  have HRW : Hid (0 < p.length → ∃ b o, a = some ⟨b, o, none⟩ ∧ SRow w b o p) := hr
  clear hr hz cT
  go_enter Tryz.func38, Tryz.ntmps38
  go_upto_region 2 with fail
  clear cP
  go_loopg [14] p.length (fun g i wx => ∃ j : Nat, j + g = p.length ∧ i = .int .i64 (j : Int) ∧ atL dd id (p.drop j) j = R ∧ Below w.heap.size w wx)
  case atStart => exact ⟨0, by omega, rfl, HR.out.symm, Below.refl _ _⟩
  case round =>
    obtain ⟨j, hjg, rfl, hat, hb⟩ := hrel
    have HAT : Hid (atL dd id (p.drop j) j = R) := hat
    clear hat
    have HB : Hid (Below w.heap.size w wr) := hb
    have HJ : Hid (j + gk = p.length) := hjg
    by_cases hlt : j < p.length
    · obtain ⟨b, o, rfl, hrow⟩ := HRW.out (by omega)
      have cj : wr.cell? ⟨b, o + j, none⟩ = some (.string p[j]) := (hrow.later hb (hrow.lt (by omega))) j hlt
      have sj := HZ.out _ (List.getElem_mem hlt)
      have cT := HCT.out wr hb
      have HTC : Hid (Calls Tryz.prog 39 #[.pointer (some ⟨gt, 0, none⟩), .string p[j]] wr fun e w' => e = .returned (.string (dd p[j])) ∧ Below wr.heap.size wr w') := HTW.out _ wr sj hb
      have HAD := (show Hid (atL dd id (p.drop j) j = if Op.bytesLess (dd p[j]).toList id.toList = true then atL dd id (p.drop (j + 1)) (j + 1) else (j, (dd p[j]).toList == id.toList)) from atL_drop dd id p j hlt)
      generalize p[j] = x at cj sj HTC HAD
      generalize dd x = d at HTC HAD
      have hji : (j : Int) < (p.length : Int) := by omega
      have hs0 := hb.size
      clear hrow hb hjg HRW
      go_upto_region 5 with (go_at_call 39; go_must (refine HTC.out.mono ?_); rintro e w1 ⟨rfl, hb1⟩; have HB1 : Hid (Below wr.heap.size wr w1) := hb1; clear hb1 HTC)
      by_cases hless : Op.bytesLess d.toList id.toList = true
      · go_wp2
        go_roundg (gk - 1)
        case measure => have := HJ.out; omega
        case rel =>
          have h1 := HJ.out
          refine ⟨j + 1, by omega, by go_num, ?_, HB.out.trans (HB1.out.mono hs0)⟩
          rw [← HAT.out, HAD.out, if_pos hless]
      · have hless' : Op.bytesLess d.toList id.toList = false := by simpa using hless
        go_wp2
        go_ret2
        refine ⟨?_, HB.out.trans (HB1.out.mono hs0)⟩
        rw [← HAT.out, HAD.out, if_neg hless]; rfl
    · have hje : j = p.length := by omega
      subst hje
      have cP := HCP.out wr hb
      clear hb hjg
      go_wp2
      go_ret2
      refine ⟨?_, HB.out⟩
      rw [← HAT.out, List.drop_length]; rfl
end Go.Proofs.YtkmalggeieiepaaGreatDoor
namespace Go.Proofs.YtkmalggeieiepaaGreatDoor
open Go.RowKit

/-- texts appended to a row of the call's own, few or none. -/
theorem wpList_append_sval {w : World} {ops : Array Oper} {rest : List Oper} {o : Oper} {a : Act} {Q : Exit → Act → World → Prop} (hgd : o.guard = none) (s x : Operand)
    (ho : o.op = .call { callee := .builtin .append, args := #[s, x], argTypes := #[44, 44] })
    (base : Nat) (v : Value) (xs : List ByteArray) (hs : a.eval s = v) (hown : w.ownsRow base 9 1 v xs.length (strV xs))
    (xv : Value) (ys : List ByteArray) (hx : a.eval x = xv) (hv : SVal w xv ys) (hb : base ≤ w.heap.size) (hn : xs.length + ys.length ≤ 1048576)
    (h : ∀ u w', w'.ownsRow base 9 1 u (xs ++ ys).length (strV (xs ++ ys)) → Below base w w' → wpList Tryz.prog ops Q rest (a.put o.dst u) w') : wpList Tryz.prog ops Q (o :: rest) a w := by
  obtain ⟨i0, hi, hz0, hz1, hz2⟩ := info_parts infoStr
  obtain ⟨ao, cap, rfl, _, hr⟩ := hv
  by_cases h0 : 0 < ys.length
  · obtain ⟨b, off, rfl, hrow⟩ := hr h0
    refine wpList_append_lies _ hgd s x 44 ho base 9 i0 (.string ByteArray.empty) 1 16 Tryz.underlying44 hi hz0 hz1 hz2 rfl (by decide) v xs.length (strV xs) hs hown ⟨b, off, none⟩ ys.length cap (strV ys) hx (by simp [strV]) (srow_news hrow) (str_one _) h0 (by unfold maxLen; omega) (by omega) hb _ rfl ?_
    intro g c w' h1 h2 _ _
    refine h _ w' ?_ ((Below.refl base w).grown h2 hb (ownBlock_ge hown))
    rw [List.length_append, show strV (xs ++ ys) = strV xs ++ strV ys by simp [strV]]; exact h1
  · have hy : ys = [] := List.eq_nil_of_length_eq_zero (by omega)
    subst hy
    obtain ⟨g', n', c', hv', hle⟩ : ∃ g n c, v = .slice g n c ∧ n ≤ c := by
      rcases hown.2 with ⟨hv, _⟩ | ⟨g, cap, cur, hv, _, _, hle, _⟩
      · exact ⟨_, _, _, hv, Nat.le_refl _⟩
      · exact ⟨_, _, _, hv, hle⟩
    have hsrc : Src Tryz.prog i0.size 44 (.slice ao ([] : List ByteArray).length cap) 0 [] w := by
      cases ao with
      | none => exact Src.ofNil w Tryz.underlying44 cap
      | some ad => exact Src.ofSlice w Tryz.underlying44 ad 0 cap [] (by simp) (fun j u hu => by simp at hu) (fun u hu => by simp at hu)
    have hr2 := run_append_nothing w 44 44 o.type 9 i0 Tryz.underlying44 hi g' n' c' hle (.slice ao ([] : List ByteArray).length cap) hsrc
    have hfin := h v w (by rw [List.append_nil]; exact hown) (Below.refl _ _)
    refine wpList_plain hgd fun _ hK => ?_
    unfold Oper.wp execOp
    rw [hv'] at hs hfin
    simp only [ho, resolve, invoke, builtin, Sem.run_bind, Sem.run_pure, Result.andThen_ok, List.map_toArray, List.map_cons, List.map_nil, hs, hx, hr2]
    exact hK _ _ hfin
theorem atL_bound (dd : ByteArray → ByteArray) (id : ByteArray) : ∀ (l : List ByteArray) (k : Nat), (atL dd id l k).1 ≤ k + l.length ∧ ((atL dd id l k).2 = true → (atL dd id l k).1 < k + l.length)
  | [], k => ⟨Nat.le_refl _, fun h => by cases h⟩
  | x :: r, k => by
    have ih := atL_bound dd id r (k + 1)
    show (if _ then _ else _ : Nat × Bool).1 ≤ _ ∧ ((if _ then _ else _ : Nat × Bool).2 = true → (if _ then _ else _ : Nat × Bool).1 < _)
    rw [List.length_cons]
    split
    · exact ⟨by omega, fun h => by have := ih.2 h; omega⟩
    · exact ⟨by show k ≤ _; omega, fun _ => by show k < _; omega⟩
/-- a slice's head and tail. -/
theorem SRow.take {w : World} {b o : Nat} {l : List ByteArray} (h : SRow w b o l) (k : Nat) : SRow w b o (l.take k) := fun j hj => by
  rw [List.length_take] at hj
  rw [List.getElem_take]; exact h j (by omega)
theorem SRow.drop {w : World} {b o : Nat} {l : List ByteArray} (h : SRow w b o l) (k : Nat) : SRow w b (o + k) (l.drop k) := fun j hj => by
  rw [List.length_drop] at hj
  rw [List.getElem_drop, show o + k + j = o + (k + j) by omega]; exact h (k + j) (by omega)
/-- what is left of a pool. -/
def dropL (dd : ByteArray → ByteArray) (id : ByteArray) (p : List ByteArray) : List ByteArray := if (atL dd id p 0).2 = true then p.take (atL dd id p 0).1 ++ p.drop ((atL dd id p 0).1 + 1) else p

set_option maxRecDepth 10000 in
set_option maxHeartbeats 1000000 in
theorem Drop_of (gr gt : Nat) (dd : ByteArray → ByteArray) (id : ByteArray) (p : List ByteArray) (v : Value) (w : World) (cT : w.cell? ⟨gr, 0, none⟩ = some (.pointer (some ⟨gt, 0, none⟩))) (cP : w.cell? ⟨gr, 1, none⟩ = some v) (fP : w.frozen? ⟨gr, 1, none⟩ = false) (hv : SVal w v p) (hp : p.length ≤ 1000) (hz : ∀ s ∈ p, s.size ≤ 1048576)
    (HTW : Hid (∀ (s : ByteArray) (W : World), s.size ≤ 1048576 → Below w.heap.size w W → Calls Tryz.prog 39 #[.pointer (some ⟨gt, 0, none⟩), .string s] W fun e w' => e = .returned (.string (dd s)) ∧ Below W.heap.size W w')) :
    Calls Tryz.prog 21 #[.pointer (some ⟨gr, 0, none⟩), .string id] w fun x w' => x = .returned (.bool (atL dd id p 0).2) ∧ (∃ v', w'.cell? ⟨gr, 1, none⟩ = some v' ∧ w'.frozen? ⟨gr, 1, none⟩ = false ∧ SVal w' v' (dropL dd id p) ∧ ((v' = v ∧ dropL dd id p = p) ∨ ∀ k, v'.ownBlock = some k → w.heap.size ≤ k) ∧ w'.cell? ⟨gr, 0, none⟩ = some (.pointer (some ⟨gt, 0, none⟩))) ∧ Mov gr w w' := by
  have HA : Hid (Calls Tryz.prog 38 #[.pointer (some ⟨gr, 0, none⟩), .string id] w fun x w' => x = .returned (.tuple #[.int .i64 ((atL dd id p 0).1 : Int), .bool (atL dd id p 0).2]) ∧ Below w.heap.size w w') := at_of gr gt dd id p v w cT cP hv hp hz HTW
  have hbd := atL_bound dd id p 0
  have lgr := World.block_lt_of_cell? w _ cP
  have HCP : Hid (∀ W, Below w.heap.size w W → W.cell? ⟨gr, 1, none⟩ = some v ∧ W.frozen? ⟨gr, 1, none⟩ = false) := fun W hW => ⟨by rw [hW.cell (p := ⟨gr, 1, none⟩) lgr]; exact cP, by rw [hW.frozen (p := ⟨gr, 1, none⟩) lgr]; exact fP⟩
  have HCT : Hid (∀ W, Below w.heap.size w W → W.cell? ⟨gr, 0, none⟩ = some (.pointer (some ⟨gt, 0, none⟩))) := fun W hW => by rw [hW.cell (p := ⟨gr, 0, none⟩) lgr]; exact cT
  have HDL : Hid (dropL dd id p = if (atL dd id p 0).2 = true then p.take (atL dd id p 0).1 ++ p.drop ((atL dd id p 0).1 + 1) else p) := rfl
  have HSV : Hid (∀ W, Below w.heap.size w W → SVal W v p) := fun W hW => hv.later hW
  generalize dropL dd id p = D at HDL ⊢
  generalize atL dd id p 0 = q at HA hbd HDL ⊢
  obtain ⟨k, ok⟩ := q
  obtain ⟨a, cap, rfl, hcap, hr⟩ := hv
  have HRW : Hid (0 < p.length → ∃ b o, a = some ⟨b, o, none⟩ ∧ SRow w b o p) := hr
  clear hr cT cP fP HTW hz
  cases ok with
  | false =>
    go_enter Tryz.func21, Tryz.ntmps21
    go_wp2_with (go_at_call 38; go_must (refine HA.out.mono ?_); rintro e w1 ⟨rfl, hb1⟩; have HB1 : Hid (Below w.heap.size w w1) := hb1; clear hb1)
    go_ret
    refine ⟨rfl, ⟨_, (HCP.out w1 HB1.out).1, (HCP.out w1 HB1.out).2, ?_, .inl ⟨rfl, HDL.out⟩, HCT.out w1 HB1.out⟩, Below.mov HB1.out gr⟩
    rw [show D = p from HDL.out]; exact HSV.out w1 HB1.out
  | true =>
    have hkp : k < p.length := by have := hbd.2 rfl; simpa using this
    obtain ⟨b, o, rfl, hrow⟩ := HRW.out (by omega)
    have HE : Hid (D = p.take k ++ p.drop (k + 1)) := HDL.out
    have hki : (k : Int) < (p.length : Int) := by omega
    have hpi : (p.length : Int) ≤ 1000 := by omega
    have hci : (p.length : Int) ≤ (cap : Int) := by omega
    have HROW : Hid (∀ W, Below w.heap.size w W → SRow W b o p) := fun W hW => hrow.later hW (hrow.lt (by omega))
    clear hrow HRW HDL hbd HSV
    go_enter Tryz.func21, Tryz.ntmps21
    go_upto_region 3 with (go_at_call 38; go_must (refine HA.out.mono ?_); rintro e w1 ⟨rfl, hb1⟩; have HB1 : Hid (Below w.heap.size w w1) := hb1; clear hb1)
    have d1 := (HCP.out w1 HB1.out).1
    have hs1 := HB1.out.size
    clear HA
    go_upto_region 4 with (at_builtin; go_must (refine wpList_append_sval rfl _ _ rfl w.heap.size (.slice none 0 0) [] rfl (World.ownsRow_nil _ _ _ _) (.slice (some ⟨b, o, none⟩) k cap) (p.take k) rfl ⟨some ⟨b, o, none⟩, cap, by rw [List.length_take, Nat.min_eq_left (by omega)], by rw [List.length_take]; omega, fun _ => ⟨b, o, rfl, (HROW.out w1 HB1.out).take k⟩⟩ hs1 (by simp; omega) ?_); intro u2 w2 ho2 hb2; have HO2 : Hid (w2.ownsRow w.heap.size 9 1 u2 (p.take k).length (strV (p.take k))) := ho2; have HB2 : Hid (Below w.heap.size w1 w2) := hb2; clear ho2 hb2)
    have HB12 : Hid (Below w.heap.size w w2) := HB1.out.trans HB2.out
    have d2 := (HCP.out w2 HB12.out).1
    have f2 := (HCP.out w2 HB12.out).2
    have hs2 := HB12.out.size
    clear d1
    have yk : IntKind.i64.wrap ((k : Int) + 1) = (k : Int) + 1 := by rw [IntKind.wrap_i64]; omega
    have nk : ((k : Int) + 1).toNat = k + 1 := by omega
    have k1 : (k : Int) + 1 ≤ (p.length : Int) := by omega
    go_wp2_with (at_builtin; go_must (refine wpList_append_sval rfl _ _ rfl w.heap.size u2 (p.take k) rfl HO2.out (.slice (if cap = k + 1 then some ⟨b, o, none⟩ else some ⟨b, o + (k + 1), none⟩) (p.length - (k + 1)) (cap - (k + 1))) (p.drop (k + 1)) rfl ⟨_, cap - (k + 1), by rw [List.length_drop], by rw [List.length_drop]; omega, fun h0 => ⟨b, o + (k + 1), if_neg (by rw [List.length_drop] at h0; omega), (HROW.out w2 HB12.out).drop (k + 1)⟩⟩ hs2 (by simp; omega) ?_); intro u3 w3 ho3 hb3; obtain ⟨a3, c3, hu3, _, _⟩ := own_sval ho3; generalize (p.take k ++ p.drop (k + 1)).length = n3 at ho3 hu3; subst hu3; have HO3 := (show Hid (w3.ownsRow w.heap.size 9 1 (.slice a3 n3 c3) n3 (strV (p.take k ++ p.drop (k + 1)))) from ho3); have HN3 : Hid ((p.take k ++ p.drop (k + 1)).length = n3) := (by have h := ho3.1; show _ = _; simpa [strV] using h); have HB13 : Hid (Below w.heap.size w w3) := HB12.out.trans hb3; have d3 := (HCP.out w3 HB13.out).1; have f3 := (HCP.out w3 HB13.out).2; clear ho3 hb3 d2 f2)
    all_goals
      go_ret
      refine ⟨rfl, ⟨.slice a3 n3 c3, ?_, ?_, ?_, .inr ?_, ?_⟩, ?_⟩
      · exact World.cell?_setCell_same _ _ _ d3
      · simpa using f3
      · rw [HE.out]; refine own_sval (e := 9) (own_mov ?_ ((Mov.refl gr w3).set 1 _) lgr); rw [HN3.out]; exact HO3.out
      · exact ownBlock_ge HO3.out
      · rw [World.cell?_setCell_other _ _ _ _ (by simp)]; exact HCT.out w3 HB13.out
      · exact (Below.mov HB13.out gr).set 1 _
end Go.Proofs.YtkmalggeieiepaaGreatDoor
namespace Go.Proofs.YtkmalggeieiepaaGreatDoor
open Go.RowKit

/-- what is wrong with one transaction more. -/
def addE (dd : ByteArray → ByteArray) (tx : ByteArray) (p : List ByteArray) : Int :=
  if txErr tx.data.toList ≠ 0 then txErr tx.data.toList else if (atL dd (dd tx) p 0).2 = true then 10 else if p.length = 20 then 9 else 0
def addP (dd : ByteArray → ByteArray) (tx : ByteArray) (p : List ByteArray) : List ByteArray :=
  if addE dd tx p = 0 then (p.take (atL dd (dd tx) p 0).1 ++ [tx]) ++ p.drop (atL dd (dd tx) p 0).1 else p

theorem sval_nil (w : World) (a : Option Addr) (cap : Nat) : SVal w (.slice a 0 cap) [] := ⟨a, cap, rfl, Nat.zero_le _, fun h => by simp at h⟩
theorem sval_one (w : World) (s : ByteArray) (T : Nat) : SVal (w.alloc (.cells #[.string s] T)) (.slice (some ⟨w.heap.size, 0, none⟩) 1 1) [s] :=
  ⟨_, 1, rfl, Nat.le_refl _, fun _ => ⟨w.heap.size, 0, rfl, fun j hj => by
    obtain rfl : j = 0 := by simpa using hj
    simp⟩⟩
set_option maxRecDepth 10000 in
set_option maxHeartbeats 2000000 in
theorem Add_of (gr gt : Nat) (dd : ByteArray → ByteArray) (tx : ByteArray) (p : List ByteArray) (v : Value) (w : World) (cT : w.cell? ⟨gr, 0, none⟩ = some (.pointer (some ⟨gt, 0, none⟩))) (cP : w.cell? ⟨gr, 1, none⟩ = some v) (fP : w.frozen? ⟨gr, 1, none⟩ = false) (hv : SVal w v p) (hp : p.length ≤ 20) (hz : ∀ s ∈ p, s.size ≤ 1048576) (htx : tx.size ≤ maxLen)
    (HTW : Hid (∀ (s : ByteArray) (W : World), s.size ≤ 1048576 → Below w.heap.size w W → Calls Tryz.prog 39 #[.pointer (some ⟨gt, 0, none⟩), .string s] W fun e w' => e = .returned (.string (dd s)) ∧ Below W.heap.size W w')) :
    Calls Tryz.prog 19 #[.pointer (some ⟨gr, 0, none⟩), .string tx] w fun x w' => x = .returned (.int .i64 (addE dd tx p)) ∧ (∃ v', w'.cell? ⟨gr, 1, none⟩ = some v' ∧ w'.frozen? ⟨gr, 1, none⟩ = false ∧ SVal w' v' (addP dd tx p) ∧ ((v' = v ∧ addP dd tx p = p) ∨ ∀ k, v'.ownBlock = some k → w.heap.size ≤ k) ∧ w'.cell? ⟨gr, 0, none⟩ = some (.pointer (some ⟨gt, 0, none⟩))) ∧ Mov gr w w' := by
  have HX : Hid (Calls Tryz.prog 37 #[.string tx] w fun x w' => x = .returned (.int .i64 (txErr tx.data.toList)) ∧ Below w.heap.size w w') := Tx_any tx w htx
  have lgr := World.block_lt_of_cell? w _ cP
  have HCT : Hid (∀ W, Below w.heap.size w W → W.cell? ⟨gr, 0, none⟩ = some (.pointer (some ⟨gt, 0, none⟩))) := fun W hW => by rw [hW.cell (p := ⟨gr, 0, none⟩) lgr]; exact cT
  have HCP : Hid (∀ W, Below w.heap.size w W → W.cell? ⟨gr, 1, none⟩ = some v ∧ W.frozen? ⟨gr, 1, none⟩ = false) := fun W hW => ⟨by rw [hW.cell (p := ⟨gr, 1, none⟩) lgr]; exact cP, by rw [hW.frozen (p := ⟨gr, 1, none⟩) lgr]; exact fP⟩
  have HSV : Hid (∀ W, Below w.heap.size w W → SVal W v p) := fun W hW => hv.later hW
  have HAE : Hid (addE dd tx p = if txErr tx.data.toList ≠ 0 then txErr tx.data.toList else if (atL dd (dd tx) p 0).2 = true then 10 else if p.length = 20 then 9 else 0) := rfl
  have HAP : Hid (addP dd tx p = if addE dd tx p = 0 then (p.take (atL dd (dd tx) p 0).1 ++ [tx]) ++ p.drop (atL dd (dd tx) p 0).1 else p) := rfl
  by_cases he : txErr tx.data.toList = 0
  · have hlen := txErr_len _ he
    have hts : tx.size ≤ 1048576 := by
      have : tx.data.toList.length = tx.size := rfl
      omega
    have HT : Hid (∀ W, Below w.heap.size w W → Calls Tryz.prog 39 #[.pointer (some ⟨gt, 0, none⟩), .string tx] W fun e w' => e = .returned (.string (dd tx)) ∧ Below W.heap.size W w') := fun W hW => HTW.out tx W hts hW
    have HA : Hid (∀ W, Below w.heap.size w W → Calls Tryz.prog 38 #[.pointer (some ⟨gr, 0, none⟩), .string (dd tx)] W fun x w' => x = .returned (.tuple #[.int .i64 ((atL dd (dd tx) p 0).1 : Int), .bool (atL dd (dd tx) p 0).2]) ∧ Below W.heap.size W w') := fun W hW =>
      at_of gr gt dd (dd tx) p v W (HCT.out W hW) (HCP.out W hW).1 (HSV.out W hW) (by omega) hz (fun s W' hs hW' => HTW.out s W' hs (hW.trans (hW'.mono hW.size)))
    have hbd := (atL_bound dd (dd tx) p 0).1
    rw [he] at HX HAE
    have HAE2 : Hid (addE dd tx p = if (atL dd (dd tx) p 0).2 = true then 10 else if p.length = 20 then 9 else 0) := by show _ = _; rw [HAE.out]; simp
    clear HTW hz htx hlen HAE
    generalize addP dd tx p = AP at HAP ⊢
    generalize addE dd tx p = AE at HAP HAE2 ⊢
    generalize atL dd (dd tx) p 0 = q at HA hbd HAE2 HAP
    obtain ⟨k, ok⟩ := q
    generalize dd tx = d at HT HA
    cases ok with
    | true =>
      have hAE : AE = 10 := HAE2.out
      have hAP : AP = p := by rw [HAP.out, hAE]; rfl
      rw [hAE, hAP]
      clear HAE2 HAP hAE hAP
      go_enter Tryz.func19, Tryz.ntmps19
      go_upto_region 4 with (go_at_call 37; go_must (refine HX.out.mono ?_); rintro e w1 ⟨rfl, hb1⟩; have HB1 : Hid (Below w.heap.size w w1) := hb1; clear hb1)
      have t1 := HCT.out w1 HB1.out
      go_wp2_with (first
        | (go_at_call 39; go_must (refine (HT.out _ HB1.out).mono ?_); rintro e w2 ⟨rfl, hb2⟩; have HB2 : Hid (Below w.heap.size w w2) := HB1.out.trans (hb2.mono HB1.out.size); clear hb2)
        | (go_at_call 38; go_must (refine (HA.out _ HB2.out).mono ?_); rintro e w3 ⟨rfl, hb3⟩; have HB3 : Hid (Below w.heap.size w w3) := HB2.out.trans (hb3.mono HB2.out.size); clear hb3))
      go_ret
      exact ⟨rfl, ⟨v, (HCP.out _ HB3.out).1, (HCP.out _ HB3.out).2, HSV.out _ HB3.out, .inl ⟨rfl, (by first | rfl | trivial)⟩, HCT.out _ HB3.out⟩, Below.mov HB3.out gr⟩
    | false =>
      have hk : k ≤ p.length := by simpa using hbd
      by_cases h20 : p.length = 20
      · have hAE : AE = 9 := by rw [HAE2.out]; simp [h20]
        have hAP : AP = p := by rw [HAP.out, hAE]; rfl
        rw [hAE, hAP]
        clear HAE2 HAP hAE hAP
        obtain ⟨a, cap, rfl, hcap, hr⟩ := hv
        have hpi : (p.length : Int) = 20 := by omega
        go_enter Tryz.func19, Tryz.ntmps19
        go_upto_region 4 with (go_at_call 37; go_must (refine HX.out.mono ?_); rintro e w1 ⟨rfl, hb1⟩; have HB1 : Hid (Below w.heap.size w w1) := hb1; clear hb1)
        have t1 := HCT.out w1 HB1.out
        go_upto_region 7 with (first
          | (go_at_call 39; go_must (refine (HT.out _ HB1.out).mono ?_); rintro e w2 ⟨rfl, hb2⟩; have HB2 : Hid (Below w.heap.size w w2) := HB1.out.trans (hb2.mono HB1.out.size); clear hb2)
          | (go_at_call 38; go_must (refine (HA.out _ HB2.out).mono ?_); rintro e w3 ⟨rfl, hb3⟩; have HB3 : Hid (Below w.heap.size w w3) := HB2.out.trans (hb3.mono HB2.out.size); clear hb3))
        have d3 := (HCP.out w3 HB3.out).1
        have hs3 := HB3.out.size
        go_wp2
        go_ret
        exact ⟨rfl, ⟨_, (HCP.out _ HB3.out).1, (HCP.out _ HB3.out).2, HSV.out _ HB3.out, .inl ⟨rfl, (by first | rfl | trivial)⟩, HCT.out _ HB3.out⟩, Below.mov HB3.out gr⟩
      · have hAE : AE = 0 := by rw [HAE2.out]; simp [h20]
        have hAP : AP = (p.take k ++ [tx]) ++ p.drop k := by rw [HAP.out, hAE]; rfl
        rw [hAE, hAP]
        clear HAE2 HAP hAE hAP
        obtain ⟨a, cap, rfl, hcap, hr⟩ := hv
        have hpi : ¬ ((p.length : Int) = 20) := by omega
        have hki : (k : Int) ≤ (p.length : Int) := by omega
        have hci : (p.length : Int) ≤ (cap : Int) := by omega
        have hkc : (k : Int) ≤ (cap : Int) := by omega
        by_cases h0 : 0 < p.length
        · obtain ⟨b, o, rfl, hrow⟩ := hr h0
          have X1 : ∀ W, Below w.heap.size w W → SVal W (.slice (some ⟨b, o, none⟩) k cap) (p.take k) := fun W hW => ⟨some ⟨b, o, none⟩, cap, by rw [List.length_take, Nat.min_eq_left hk], by rw [List.length_take]; omega, fun _ => ⟨b, o, rfl, (hrow.later hW (hrow.lt h0)).take k⟩⟩
          have X2 : ∀ W, Below w.heap.size w W → SVal W (.slice (if cap = k then some ⟨b, o, none⟩ else some ⟨b, o + k, none⟩) (p.length - k) (cap - k)) (p.drop k) := fun W hW => ⟨_, cap - k, by rw [List.length_drop], by rw [List.length_drop]; omega, fun h1 => ⟨b, o + k, if_neg (by rw [List.length_drop] at h1; omega), (hrow.later hW (hrow.lt h0)).drop k⟩⟩
          have HX1 := (show Hid _ from X1)
          have HX2 := (show Hid _ from X2)
          clear X1 X2 hrow hr
          go_enter Tryz.func19, Tryz.ntmps19
          go_upto_region 4 with (go_at_call 37; go_must (refine HX.out.mono ?_); rintro e w1 ⟨rfl, hb1⟩; have HB1 : Hid (Below w.heap.size w w1) := hb1; clear hb1)
          have t1 := HCT.out w1 HB1.out
          go_upto_region 7 with (first
            | (go_at_call 39; go_must (refine (HT.out _ HB1.out).mono ?_); rintro e w2 ⟨rfl, hb2⟩; have HB2 : Hid (Below w.heap.size w w2) := HB1.out.trans (hb2.mono HB1.out.size); clear hb2)
            | (go_at_call 38; go_must (refine (HA.out _ HB2.out).mono ?_); rintro e w3 ⟨rfl, hb3⟩; have HB3 : Hid (Below w.heap.size w w3) := HB2.out.trans (hb3.mono HB2.out.size); clear hb3))
          have d3 := (HCP.out w3 HB3.out).1
          have hs3 := HB3.out.size
          go_upto_region 10 with (at_builtin; go_must (refine wpList_append_sval rfl _ _ rfl w.heap.size (.slice none 0 0) [] rfl (World.ownsRow_nil _ _ _ _) (.slice (some ⟨b, o, none⟩) k cap) (p.take k) rfl (HX1.out w3 HB3.out) hs3 (by simp; omega) ?_); intro u4 w4 ho4 hb4; have HO4 : Hid (w4.ownsRow w.heap.size 9 1 u4 (p.take k).length (strV (p.take k))) := ho4; have HB4 : Hid (Below w.heap.size w w4) := HB3.out.trans hb4; clear ho4 hb4)
          have hs4 := HB4.out.size
          have d4 := (HCP.out w4 HB4.out).1
          clear d3
          go_upto_region 11 with (at_builtin; go_must (refine wpList_append_sval rfl _ _ rfl w.heap.size u4 (p.take k) rfl (HO4.out.alloc _) (.slice (some ⟨w4.heap.size, 0, none⟩) 1 1) [tx] rfl (sval_one w4 tx _) (by simp; omega) (by simp; omega) ?_); intro u5 w5 ho5 hb5; have HO5 : Hid (w5.ownsRow w.heap.size 9 1 u5 (p.take k ++ [tx]).length (strV (p.take k ++ [tx]))) := ho5; have HB5 : Hid (Below w.heap.size w w5) := (HB4.out.alloc HB4.out.size _).trans hb5; clear ho5 hb5)
          have hs5 := HB5.out.size
          have d5 := (HCP.out w5 HB5.out).1
          clear d4
          go_wp2_with (at_builtin; go_must (refine wpList_append_sval rfl _ _ rfl w.heap.size u5 (p.take k ++ [tx]) rfl HO5.out (.slice (if cap = k then some ⟨b, o, none⟩ else some ⟨b, o + k, none⟩) (p.length - k) (cap - k)) (p.drop k) rfl (HX2.out w5 HB5.out) hs5 (by simp; omega) ?_); intro u6 w6 ho6 hb6; obtain ⟨a6, c6, hu6, _, _⟩ := own_sval ho6; generalize (p.take k ++ [tx] ++ p.drop k).length = n6 at ho6 hu6; subst hu6; have HO6 := (show Hid (w6.ownsRow w.heap.size 9 1 (.slice a6 n6 c6) n6 (strV (p.take k ++ [tx] ++ p.drop k))) from ho6); have HN6 : Hid ((p.take k ++ [tx] ++ p.drop k).length = n6) := (by have h := ho6.1; show _ = _; simpa [strV] using h); have HB6 : Hid (Below w.heap.size w w6) := HB5.out.trans hb6; have d6 := (HCP.out w6 HB6.out).1; have f6 := (HCP.out w6 HB6.out).2; clear ho6 hb6 d5)
          all_goals
            go_ret
            refine ⟨rfl, ⟨.slice a6 n6 c6, ?_, ?_, ?_, .inr ?_, ?_⟩, ?_⟩
            · exact World.cell?_setCell_same _ _ _ d6
            · simpa using f6
            · refine own_sval (e := 9) (own_mov ?_ ((Mov.refl gr w6).set 1 _) lgr); have hE : p.take k ++ tx :: p.drop k = p.take k ++ [tx] ++ p.drop k := (by simp); (first | rw [hE, HN6.out] | rw [HN6.out]); exact HO6.out
            · exact ownBlock_ge HO6.out
            · rw [World.cell?_setCell_other _ _ _ _ (by simp)]; exact HCT.out w6 HB6.out
            · exact (Below.mov HB6.out gr).set 1 _
        · obtain rfl : p = [] := List.eq_nil_of_length_eq_zero (by omega)
          obtain rfl : k = 0 := by simpa using hk
          clear hr h0
          cases a with
          | none =>
            go_enter Tryz.func19, Tryz.ntmps19
            go_upto_region 4 with (go_at_call 37; go_must (refine HX.out.mono ?_); rintro e w1 ⟨rfl, hb1⟩; have HB1 : Hid (Below w.heap.size w w1) := hb1; clear hb1)
            have t1 := HCT.out w1 HB1.out
            go_upto_region 7 with (first
              | (go_at_call 39; go_must (refine (HT.out _ HB1.out).mono ?_); rintro e w2 ⟨rfl, hb2⟩; have HB2 : Hid (Below w.heap.size w w2) := HB1.out.trans (hb2.mono HB1.out.size); clear hb2)
              | (go_at_call 38; go_must (refine (HA.out _ HB2.out).mono ?_); rintro e w3 ⟨rfl, hb3⟩; have HB3 : Hid (Below w.heap.size w w3) := HB2.out.trans (hb3.mono HB2.out.size); clear hb3))
            have d3 := (HCP.out w3 HB3.out).1
            have hs3 := HB3.out.size
            go_upto_region 10 with (at_builtin; go_must (refine wpList_append_sval rfl _ _ rfl w.heap.size (.slice none 0 0) [] rfl (World.ownsRow_nil _ _ _ _) _ ([] : List ByteArray) rfl (sval_nil _ _ _) hs3 (by first | omega | (simp; done) | (simp; omega)) ?_); intro u4 w4 ho4 hb4; have HO4 : Hid (w4.ownsRow w.heap.size 9 1 u4 ([] ++ [] : List ByteArray).length (strV ([] ++ [] : List ByteArray))) := ho4; have HB4 : Hid (Below w.heap.size w w4) := HB3.out.trans hb4; clear ho4 hb4)
            have hs4 := HB4.out.size
            have d4 := (HCP.out w4 HB4.out).1
            clear d3
            go_upto_region 11 with (at_builtin; go_must (refine wpList_append_sval rfl _ _ rfl w.heap.size u4 ([] ++ [] : List ByteArray) rfl (HO4.out.alloc _) (.slice (some ⟨w4.heap.size, 0, none⟩) 1 1) [tx] rfl (sval_one w4 tx _) (by first | omega | (simp; done) | (simp; omega)) (by first | omega | (simp; done) | (simp; omega)) ?_); intro u5 w5 ho5 hb5; have HO5 : Hid (w5.ownsRow w.heap.size 9 1 u5 ([] ++ [] ++ [tx] : List ByteArray).length (strV ([] ++ [] ++ [tx] : List ByteArray))) := ho5; have HB5 : Hid (Below w.heap.size w w5) := (HB4.out.alloc HB4.out.size _).trans hb5; clear ho5 hb5)
            have hs5 := HB5.out.size
            have d5 := (HCP.out w5 HB5.out).1
            clear d4
            go_wp2_with (at_builtin; go_must (refine wpList_append_sval rfl _ _ rfl w.heap.size u5 ([] ++ [] ++ [tx] : List ByteArray) rfl HO5.out _ ([] : List ByteArray) rfl (sval_nil _ _ _) hs5 (by first | omega | (simp; done) | (simp; omega)) ?_); intro u6 w6 ho6 hb6; obtain ⟨a6, c6, hu6, _, _⟩ := own_sval ho6; generalize ([] ++ [] ++ [tx] ++ [] : List ByteArray).length = n6 at ho6 hu6; subst hu6; have HO6 := (show Hid (w6.ownsRow w.heap.size 9 1 (.slice a6 n6 c6) n6 (strV ([] ++ [] ++ [tx] ++ [] : List ByteArray))) from ho6); have HN6 : Hid (([] ++ [] ++ [tx] ++ [] : List ByteArray).length = n6) := (by have h := ho6.1; show _ = _; simpa [strV] using h); have HB6 : Hid (Below w.heap.size w w6) := HB5.out.trans hb6; have d6 := (HCP.out w6 HB6.out).1; have f6 := (HCP.out w6 HB6.out).2; clear ho6 hb6 d5)
            all_goals
              go_ret
              refine ⟨rfl, ⟨.slice a6 n6 c6, ?_, ?_, ?_, .inr ?_, ?_⟩, ?_⟩
              · exact World.cell?_setCell_same _ _ _ d6
              · simpa using f6
              · refine own_sval (e := 9) (own_mov ?_ ((Mov.refl gr w6).set 1 _) lgr); have hn6 : 1 = n6 := HN6.out; subst hn6; exact HO6.out
              · exact ownBlock_ge HO6.out
              · rw [World.cell?_setCell_other _ _ _ _ (by simp)]; exact HCT.out w6 HB6.out
              · exact (Below.mov HB6.out gr).set 1 _
          | some ad =>
            go_enter Tryz.func19, Tryz.ntmps19
            go_upto_region 4 with (go_at_call 37; go_must (refine HX.out.mono ?_); rintro e w1 ⟨rfl, hb1⟩; have HB1 : Hid (Below w.heap.size w w1) := hb1; clear hb1)
            have t1 := HCT.out w1 HB1.out
            go_upto_region 7 with (first
              | (go_at_call 39; go_must (refine (HT.out _ HB1.out).mono ?_); rintro e w2 ⟨rfl, hb2⟩; have HB2 : Hid (Below w.heap.size w w2) := HB1.out.trans (hb2.mono HB1.out.size); clear hb2)
              | (go_at_call 38; go_must (refine (HA.out _ HB2.out).mono ?_); rintro e w3 ⟨rfl, hb3⟩; have HB3 : Hid (Below w.heap.size w w3) := HB2.out.trans (hb3.mono HB2.out.size); clear hb3))
            have d3 := (HCP.out w3 HB3.out).1
            have hs3 := HB3.out.size
            go_upto_region 10 with (at_builtin; go_must (refine wpList_append_sval rfl _ _ rfl w.heap.size (.slice none 0 0) [] rfl (World.ownsRow_nil _ _ _ _) _ ([] : List ByteArray) rfl (sval_nil _ _ _) hs3 (by first | omega | (simp; done) | (simp; omega)) ?_); intro u4 w4 ho4 hb4; have HO4 : Hid (w4.ownsRow w.heap.size 9 1 u4 ([] ++ [] : List ByteArray).length (strV ([] ++ [] : List ByteArray))) := ho4; have HB4 : Hid (Below w.heap.size w w4) := HB3.out.trans hb4; clear ho4 hb4)
            have hs4 := HB4.out.size
            have d4 := (HCP.out w4 HB4.out).1
            clear d3
            go_upto_region 11 with (at_builtin; go_must (refine wpList_append_sval rfl _ _ rfl w.heap.size u4 ([] ++ [] : List ByteArray) rfl (HO4.out.alloc _) (.slice (some ⟨w4.heap.size, 0, none⟩) 1 1) [tx] rfl (sval_one w4 tx _) (by first | omega | (simp; done) | (simp; omega)) (by first | omega | (simp; done) | (simp; omega)) ?_); intro u5 w5 ho5 hb5; have HO5 : Hid (w5.ownsRow w.heap.size 9 1 u5 ([] ++ [] ++ [tx] : List ByteArray).length (strV ([] ++ [] ++ [tx] : List ByteArray))) := ho5; have HB5 : Hid (Below w.heap.size w w5) := (HB4.out.alloc HB4.out.size _).trans hb5; clear ho5 hb5)
            have hs5 := HB5.out.size
            have d5 := (HCP.out w5 HB5.out).1
            clear d4
            go_wp2_with (at_builtin; go_must (refine wpList_append_sval rfl _ _ rfl w.heap.size u5 ([] ++ [] ++ [tx] : List ByteArray) rfl HO5.out _ ([] : List ByteArray) rfl (sval_nil _ _ _) hs5 (by first | omega | (simp; done) | (simp; omega)) ?_); intro u6 w6 ho6 hb6; obtain ⟨a6, c6, hu6, _, _⟩ := own_sval ho6; generalize ([] ++ [] ++ [tx] ++ [] : List ByteArray).length = n6 at ho6 hu6; subst hu6; have HO6 := (show Hid (w6.ownsRow w.heap.size 9 1 (.slice a6 n6 c6) n6 (strV ([] ++ [] ++ [tx] ++ [] : List ByteArray))) from ho6); have HN6 : Hid (([] ++ [] ++ [tx] ++ [] : List ByteArray).length = n6) := (by have h := ho6.1; show _ = _; simpa [strV] using h); have HB6 : Hid (Below w.heap.size w w6) := HB5.out.trans hb6; have d6 := (HCP.out w6 HB6.out).1; have f6 := (HCP.out w6 HB6.out).2; clear ho6 hb6 d5)
            all_goals
              go_ret
              refine ⟨rfl, ⟨.slice a6 n6 c6, ?_, ?_, ?_, .inr ?_, ?_⟩, ?_⟩
              · exact World.cell?_setCell_same _ _ _ d6
              · simpa using f6
              · refine own_sval (e := 9) (own_mov ?_ ((Mov.refl gr w6).set 1 _) lgr); have hn6 : 1 = n6 := HN6.out; subst hn6; exact HO6.out
              · exact ownBlock_ge HO6.out
              · rw [World.cell?_setCell_other _ _ _ _ (by simp)]; exact HCT.out w6 HB6.out
              · exact (Below.mov HB6.out gr).set 1 _
  · have hAE : addE dd tx p = txErr tx.data.toList := by rw [HAE.out, if_pos he]
    have hAP : addP dd tx p = p := by rw [HAP.out, hAE, if_neg he]
    rw [hAE, hAP]
    clear HAE HAP hAE hAP HTW htx hz
    generalize txErr tx.data.toList = E at HX he
    go_enter Tryz.func19, Tryz.ntmps19
    go_wp2_with (go_at_call 37; go_must (refine HX.out.mono ?_); rintro e w1 ⟨rfl, hb1⟩; have HB1 : Hid (Below w.heap.size w w1) := hb1; clear hb1)
    go_ret
    exact ⟨rfl, ⟨v, (HCP.out _ HB1.out).1, (HCP.out _ HB1.out).2, HSV.out _ HB1.out, .inl ⟨rfl, (by first | rfl | trivial)⟩, HCT.out _ HB1.out⟩, Below.mov HB1.out gr⟩
end Go.Proofs.YtkmalggeieiepaaGreatDoor
