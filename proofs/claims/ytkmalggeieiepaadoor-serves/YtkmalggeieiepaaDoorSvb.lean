import Derived.Test.YtkmalggeieiepaaDoorRefF
import Derived.Test.YtkmalggeieiepaaDoorSva
import Derived.WalkKit
import Derived.WalkSpells
import Derived.WalkLawsBesides
import Derived.Deep.LoopGhost
import Derived.Deep.DeepCutAuto
import Derived.Deep.AppendLies
import Derived.Test.YtkmalggeieiepaaDoorRefE
import Derived.OwnWalk
namespace Go.Proofs.YtkmalggeieiepaaDoor
open Go.RowKit

theorem one_str (s : ByteArray) : ∀ u ∈ [Value.string s], u.oneCell' = true := by
  intro u hu; simp at hu; subst hu; rfl
theorem upL_32 (dd : ByteArray → ByteArray) (hdd : ∀ s, (dd s).size = 32) : ∀ l : List ByteArray, ∀ s ∈ upL dd l, s.size = 32
  | [], s, hs => by simp [upL] at hs
  | [_], s, hs => by simp [upL] at hs
  | a :: b :: r, s, hs => by
    simp only [upL, List.mem_cons] at hs
    rcases hs with rfl | hs
    · exact hdd _
    · exact upL_32 dd hdd r s hs
theorem evL_32 (l : List ByteArray) (h : ∀ s ∈ l, s.size = 32) : ∀ s ∈ evL l, s.size = 32 := by
  intro s hs
  unfold evL at hs
  split at hs
  · rename_i hodd
    rcases List.mem_append.1 hs with h1 | h1
    · exact h s h1
    · simp at h1
      subst h1
      have hlt : l.length - 1 < l.length := by omega
      rw [List.getElem?_eq_getElem hlt]
      exact h _ (List.getElem_mem hlt)
  · exact h s hs

set_option linter.unusedSimpArgs false in
set_option maxRecDepth 10000 in
set_option maxHeartbeats 4000000 in
theorem root_any (gt : Nat) (dd : ByteArray → ByteArray) (hdd : ∀ s, (dd s).size = 32) (l : List ByteArray) (b o cap : Nat) (w : World) (hs : SRow w b o l) (hne : 0 < l.length) (hlen : l.length ≤ 300) (h32 : ∀ s ∈ l, s.size = 32)
    (HTW : Hid (∀ (s : ByteArray) (W : World), s.size = 64 → Below w.heap.size w W → Calls Tryd.prog 13 #[.pointer (some ⟨gt, 0, none⟩), .string s] W fun e w' => e = .returned (.string (dd s)) ∧ Below W.heap.size W w')) :
    Calls Tryd.prog 15 #[.pointer (some ⟨gt, 0, none⟩), .slice (some ⟨b, o, none⟩) l.length cap] w fun e w' => e = .returned (.tuple #[.string (rootF dd l false).1, .bool (rootF dd l false).2]) ∧ Below w.heap.size w w' := by
  obtain ⟨i0, hi, hz0, hz1, hz2⟩ := info_parts infoStr
  have HDD : Hid (∀ s, (dd s).size = 32) := hdd
  clear hdd
  obtain ⟨R, HR⟩ : ∃ R, Hid (R = rootF dd l false) := ⟨_, rfl⟩
  rw [← HR.out]
  have HSTART : Hid (SRow w b o l ∧ 0 < l.length ∧ l.length ≤ 300 ∧ (∀ s ∈ l, s.size = 32)) := ⟨hs, hne, hlen, h32⟩
  clear hs hne hlen h32
  go_enter Tryd.func15, Tryd.ntmps15
  go_upto_region 2 with fail
  go_loopg [1, 6] l.length (fun g v t wx => ∃ m : List ByteArray, ∃ b o cap : Nat, ∃ tw : Bool, v = .slice (some ⟨b, o, none⟩) m.length cap ∧ t = .bool tw ∧ m.length ≤ g ∧ 0 < m.length ∧ m.length ≤ 300 ∧ (∀ s ∈ m, s.size = 32) ∧ rootF dd m tw = R ∧ SRow wx b o m ∧ Below w.heap.size w wx)
  case atStart => exact ⟨l, b, o, cap, false, rfl, rfl, Nat.le_refl _, HSTART.out.2.1, HSTART.out.2.2.1, HSTART.out.2.2.2, HR.out.symm, HSTART.out.1, Below.refl _ _⟩
  case round =>
    clear HSTART
    obtain ⟨m, b, o, cap, tw, rfl, rfl, hmg, hm0, hm300, hm32, hroot, hrow, hb⟩ := hrel
    have HROW : Hid (SRow wr b o m) := hrow
    have HB : Hid (Below w.heap.size w wr) := hb
    have HRT : Hid (rootF dd m tw = R) := hroot
    have H32 : Hid (∀ s ∈ m, s.size = 32) := hm32
    obtain ⟨G, hG0⟩ : ∃ G, G = gk := ⟨_, rfl⟩
    have HG : Hid (G = gk ∧ m.length ≤ G) := ⟨hG0, by rw [hG0]; exact hmg⟩
    obtain ⟨B1, hB1⟩ : ∃ B, B = wr.heap.size := ⟨_, rfl⟩
    have hbl := hrow.lt hm0
    rw [← hB1] at hbl
    have HB1 : Hid (B1 = wr.heap.size) := hB1
    clear hrow hb hroot hm32 hG0 hmg hB1
    by_cases h1 : 1 < m.length
    · go_upto_region 4 with fail
      obtain ⟨T2, HT2⟩ : ∃ T, Hid (T = (tw || twinL m)) := ⟨_, rfl⟩
      go_loopg [6, 7] m.length (fun g t i wx => ∃ tw' : Bool, ∃ k : Nat, t = .bool tw' ∧ i = .int .i64 (k : Int) ∧ (tw' || twinL (m.drop k)) = T2 ∧ k ≤ m.length + 1 ∧ m.length ≤ k + g ∧ SRow wx b o m ∧ B1 = wx.heap.size ∧ Below w.heap.size w wx)
      case atStart => exact ⟨tw, 0, rfl, rfl, HT2.out.symm, by omega, by omega, HROW.out, HB1.out, HB.out⟩
      case round =>
        clear HROW HB HB1
        obtain ⟨tw', k, rfl, rfl, htw, hk1, hkg, hrow, hB1, hb⟩ := hrel
        have HROW : Hid (SRow wr b o m) := hrow
        have HB : Hid (Below w.heap.size w wr) := hb
        have HTT : Hid ((tw' || twinL (m.drop k)) = T2) := htw
        have HB1 : Hid (B1 = wr.heap.size) := hB1
        have HKG : Hid (m.length ≤ k + gk) := hkg
        clear hb htw hB1 hkg
        by_cases hk : k + 1 < m.length
        · have hki : (k : Int) + 1 < (m.length : Int) := by omega
          have ck := hrow k (by omega)
          have ck1 := hrow (k + 1) hk
          have HTD := (show Hid (twinL (m.drop k) = ((m[k].toList == m[k + 1].toList) || twinL (m.drop (k + 2)))) from twinL_drop m k hk)
          generalize m[k] = x at ck HTD
          generalize m[k + 1] = y at ck1 HTD
          have hm300i : (m.length : Int) ≤ 300 := by omega
          clear hrow
          cases tw' with
          | true =>
            go_upto_region 6 with fail
            go_quiet (fail)
            go_wp2
            go_roundg (gk - 2)
            case measure => have := HKG.out; omega
            case rel =>
              have := HKG.out
              refine ⟨true, k + 2, rfl, by go_num, ?_, by omega, by omega, HROW.out, HB1.out, below_drewN HB.out _⟩
              rw [← HTT.out]; simp
          | false =>
            go_upto_region 6 with fail
            go_quiet (fail)
            go_wp2
            go_roundg (gk - 2)
            case measure => have := HKG.out; omega
            case rel =>
              have := HKG.out
              refine ⟨_, k + 2, rfl, by go_num, ?_, by omega, by omega, HROW.out, HB1.out, below_drewN HB.out _⟩
              rw [← HTT.out, HTD.out]; simp
        · have hki : ¬ ((k : Int) + 1 < (m.length : Int)) := by omega
          have htv : Hid (tw' = T2) := by
            show _ = _
            rw [← HTT.out, twinL_end m k (by omega)]; simp
          have hm300i : (m.length : Int) ≤ 300 := by omega
          clear hrow HTT
          rcases Nat.mod_two_eq_zero_or_one m.length with hodd | hodd
          case inl =>
            have hoi : ((m.length : Int) % 2) = 0 := by omega
            have hel : evL m = m := by unfold evL; rw [if_neg (by omega)]
            have HME : Hid ((evL m).length = m.length) := by show _ = _; rw [hel]
            have HROW' : Hid (SRow wr b o (evL m)) := by rw [hel]; exact HROW.out
            obtain ⟨n', hn'⟩ : ∃ n, n = m.length := ⟨_, rfl⟩
            have HMN : Hid ((evL m).length = n') := by show _ = _; rw [hn']; exact HME.out
            have hn3 : n' ≤ 301 := by omega
            have HB' := HB
            go_upto_region 9 with fail
            rw [← hn']
            clear hn'
            clear HB HROW hodd hoi hel HME
            obtain ⟨M, hM⟩ : ∃ M, M = evL m := ⟨_, rfl⟩
            have HM : Hid (M = evL m) := hM
            rw [← hM] at HROW' HMN
            have HML : Hid (M.length = m.length + m.length % 2) := by show _ = _; rw [hM]; exact evL_length m
            have HM32 : Hid (∀ s ∈ M, s.size = 32) := by rw [hM]; exact evL_32 m H32.out
            clear hM
            obtain ⟨BB, hBB⟩ : ∃ B, B = wr.heap.size := ⟨_, rfl⟩
            have HBB : Hid (BB = wr.heap.size) := hBB
            have hbB : b < BB := by rw [hBB]; exact HROW'.out.lt (by have := HML.out; omega)
            have hwBB : w.heap.size ≤ BB := by rw [hBB]; exact HB'.out.size
            clear hBB
            go_upto_region 11 with fail
            go_loopg [8, 9] n' (fun g v i wx => ∃ up : List ByteArray, ∃ v' : Value, v' = v ∧ i = .int .i64 ((2 * up.length : Nat) : Int) ∧ up ++ upL dd (M.drop (2 * up.length)) = upL dd M ∧ 2 * up.length + g = n' ∧ wx.ownsRow BB 9 1 v' up.length (strV up) ∧ BB ≤ wx.heap.size ∧ SRow wx b o M ∧ Below w.heap.size w wx)
            case atStart => exact ⟨[], _, rfl, rfl, rfl, by simp, World.ownsRow_nil _ _ _ _, Nat.le_of_eq HBB.out, HROW'.out, HB'.out⟩
            case round =>
              clear HROW' HB' HBB
              obtain ⟨up, v', rfl, rfl, hup, hug, hown, hBx, hrow, hb⟩ := hrel
              have HUP : Hid (up ++ upL dd (M.drop (2 * up.length)) = upL dd M) := hup
              have HUG : Hid (2 * up.length + gk = n') := hug
              have HO : Hid (wr.ownsRow BB 9 1 v' up.length (strV up)) := hown
              have HROW : Hid (SRow wr b o M) := hrow
              have HB : Hid (Below w.heap.size w wr) := hb
              obtain ⟨k, hk⟩ : ∃ k, k = 2 * up.length := ⟨_, rfl⟩
              have HK : Hid (k = 2 * up.length) := hk
              rw [← hk]
              have hmn := HMN.out
              by_cases hlt : k < n'
              · have hk1 : k + 1 < M.length := by have := HML.out; omega
                have ck := hrow k (by omega)
                have ck1 := hrow (k + 1) hk1
                have s1 := HM32.out _ (List.getElem_mem (by omega : k < M.length))
                have s2 := HM32.out _ (List.getElem_mem hk1)
                have HUD := (show Hid (upL dd (M.drop k) = dd (M[k] ++ M[k + 1]) :: upL dd (M.drop (k + 2))) from upL_drop dd M k hk1)
                generalize M[k] = x at ck s1 HUD
                generalize M[k + 1] = y at ck1 s2 HUD
                have hsz : (x ++ y).size = 64 := by rw [ByteArray.size_append, s1, s2]
                have hki : (k : Int) < (n' : Int) := by omega
                have hki1 : (k : Int) + 1 < (n' : Int) := by omega
                have yk : IntKind.i64.wrap ((k : Int) + 1) = (k : Int) + 1 := by rw [IntKind.wrap_i64]; omega
                have nk : ((k : Int) + 1).toNat = k + 1 := by omega
                have k0 : (0 : Int) ≤ (k : Int) + 1 := by omega
                have hn3i : (n' : Int) ≤ 301 := by omega
                have HSZ : Hid ((x ++ y).size = 64) := hsz
                have hul : up.length ≤ 301 := by omega
                obtain ⟨d, hd⟩ : ∃ d, d = dd (x ++ y) := ⟨_, rfl⟩
                have HD : Hid (d = dd (x ++ y)) := hd
                have HTC : Hid (∀ W : World, Below w.heap.size w W → Calls Tryd.prog 13 #[.pointer (some ⟨gt, 0, none⟩), .string (x ++ y)] W fun e w' => e = .returned (.string d) ∧ Below W.heap.size W w') := fun W hW => by rw [hd]; exact HTW.out _ W hsz hW
                clear hup hug hown hrow hb hk hmn hd hsz hk1
                go_upto_region 13 with fail
                go_region_law (first | (go_simp; go_at_call 13; refine (HTC.out _ HB.out.drew).mono ?_; rintro e w2 ⟨rfl, hb2⟩; have HB2 : Hid (Below wr.heap.size wr w2) := ((Below.refl _ wr).drew.trans hb2); have HO2 : Hid (w2.ownsRow BB 9 1 v' up.length (strV up)) := own_later HO.out HB2.out; clear hb2; dsimp only) | (refine step_append_lies _ rfl (.tmp 53) (.tmp 66) 30 rfl BB 9 i0 (.string ByteArray.empty) 1 16 Tryd.underlying30 hi hz0 hz1 hz2 rfl (by decide) v' up.length (strV up) (by simp [Act.eval, Act.put]) (HO2.out.alloc _) ⟨w2.heap.size, 0, none⟩ 1 1 [.string d] (by simp [Act.eval, Act.put]) rfl (one_new w2 _ _) (one_str _) (by omega) (by unfold maxLen; omega) (by omega) (by have := HB2.out.size; first | omega | (simp; omega)) _ rfl ?_; intro g4 c4 w4 ho hgr hg hlt4; have HO4 : Hid (w4.ownsRow BB 9 1 (.slice (some ⟨g4, 0, none⟩) (up.length + 1) c4) (up.length + 1) (strV up ++ [.string d])) := ho; have HB4 : Hid (Below BB wr w4) := ((HB2.out.mono hBx).alloc (by have := HB2.out.size; omega) _).grown hgr (by have := HB2.out.size; first | omega | (simp; omega)) (ownBlock_ge HO.out); clear ho hgr hg hlt4))
                all_goals
                  go_wp2
                  go_roundg (gk - 2)
                  case measure => have := HUG.out; have := HK.out; have := HMN.out; have := HML.out; omega
                  case rel =>
                    have h1 := HUG.out
                    have h2 := HK.out
                    have h3 := HML.out
                    have h4 := HMN.out
                    have h5 := HB4.out.size
                    have hl : (up ++ [d]).length = up.length + 1 := by simp
                    refine ⟨up ++ [d], _, rfl, by rw [hl, h2]; go_num, ?_, by rw [hl]; omega, ?_, by omega, HROW.out.later HB4.out hbB, HB.out.trans (HB4.out.mono hwBB)⟩
                    · rw [hl, ← HUP.out, ← h2, HUD.out, HD.out, show 2 * (up.length + 1) = k + 2 by omega]; simp
                    · rw [hl, show strV (up ++ [d]) = strV up ++ [.string d] by simp [strV]]; exact HO4.out
              · have hke : M.length = k := by have := HUG.out; omega
                have HUF : Hid (up = upL dd M) := by
                  show _ = _
                  rw [← HUP.out, ← hk, ← hke, List.drop_length]; simp [upL]
                have hu0 : 0 < up.length := by have := HML.out; omega
                obtain ⟨g9, c9, rfl, _, _⟩ := hown.form hu0
                have HR9 : Hid (SRow wr g9 0 up) := own_srow rfl hown
                clear hup hug hown hrow hb
                go_wp2
                go_roundg up.length
                case measure =>
                  have h1 := HG.out
                  have h3 := HML.out
                  omega
                case rel =>
                  have h3 := HML.out
                  refine ⟨up, g9, 0, c9, _, rfl, rfl, Nat.le_refl _, hu0, by omega, ?_, ?_, HR9.out, HB.out⟩
                  · rw [HUF.out]; exact upL_32 dd HDD.out _
                  · rw [htv.out, HT2.out, HUF.out, HM.out, ← rootF_up dd m tw h1]; exact HRT.out
          case inr =>
            have hoi : ((m.length : Int) % 2) = 1 := by omega
            have hel : evL m = m ++ [m.getD (m.length - 1) ByteArray.empty] := by unfold evL; rw [if_pos hodd]
            have cl := HROW.out (m.length - 1) (by omega)
            have HLAST : Hid (m.getD (m.length - 1) ByteArray.empty = m[m.length - 1]'(by omega)) := by
              show _ = _
              rw [List.getD_eq_getElem?_getD, List.getElem?_eq_getElem (by omega : m.length - 1 < m.length)]; rfl
            generalize m[m.length - 1]'(by omega) = z at cl HLAST
            have HEL : Hid (evL m = m ++ [z]) := by show _ = _; rw [hel, HLAST.out]
            have hB1 := HB1.out
            have nl : ((m.length : Int) - 1).toNat = m.length - 1 := by omega
            have yw : IntKind.i64.wrap ((m.length : Int) - 1) = (m.length : Int) - 1 := by rw [IntKind.wrap_i64]; omega
            have l3 : (0 : Int) ≤ (m.length : Int) - 1 := by omega
            have l4 : (1 : Int) ≤ (m.length : Int) := by omega
            have l5 : (m.length : Int) - 1 < (m.length : Int) := by omega
            clear hel HLAST
            go_upto_region 8 with fail
            go_cut [1] (fun v wx => ∃ b' cap' : Nat, v = .slice (some ⟨b', 0, none⟩) (m.length + 1) cap' ∧ SRow wx b' 0 (evL m) ∧ Below w.heap.size w wx)
            case first =>
              go_region_law (first | (refine step_append_lies _ rfl (.const (.slice none 0 0)) (.tmp 37) 30 rfl B1 9 i0 (.string ByteArray.empty) 1 16 Tryd.underlying30 hi hz0 hz1 hz2 rfl (by decide) (.slice none 0 0) 0 [] rfl (World.ownsRow_nil _ _ _ _) ⟨b, o, none⟩ m.length cap (strV m) (by simp [Act.eval, Act.put]) (by simp [strV]) (srow_news (HROW.out.later (B := B1) (by first | exact (Below.refl B1 wr).drew | exact ((Below.refl B1 wr).alloc (by omega) _).drew | exact ((Below.refl B1 wr).drew.alloc (by first | omega | (simp; done) | (simp; omega)) _)) hbl)) (str_one _) (by omega) (by unfold maxLen; omega) (by omega) (by first | omega | (simp; done) | (simp; omega)) _ rfl ?_; intro g1 c1 w1 ho hgr hat hlt1; have HO1 : Hid (w1.ownsRow B1 9 1 (.slice (some ⟨g1, 0, none⟩) (0 + m.length) c1) (0 + m.length) ([] ++ strV m)) := ho; have HL1 : Hid (Below B1 wr w1) := (show Below B1 wr _ by first | exact (Below.refl B1 wr).drew | exact ((Below.refl B1 wr).alloc (by omega) _).drew | exact ((Below.refl B1 wr).drew.alloc (by first | omega | (simp; done) | (simp; omega)) _)).grown hgr (by first | omega | (simp; done) | (simp; omega)) (fun q hq => by cases hq); have HGR := (show Hid (World.grownBy _ w1 _) from hgr); have cl1 : w1.cell? ⟨b, o + (m.length - 1), none⟩ = some (.string z) := (by rw [HL1.out.cell (p := ⟨b, o + (m.length - 1), none⟩) hbl]; exact cl); clear ho hgr hat hlt1) | (refine step_append_lies _ rfl (.tmp 38) (.tmp 45) 30 rfl B1 9 i0 (.string ByteArray.empty) 1 16 Tryd.underlying30 hi hz0 hz1 hz2 rfl (by decide) (.slice (some ⟨g1, 0, none⟩) (0 + m.length) c1) (0 + m.length) ([] ++ strV m) (by simp [Act.eval, Act.put]) (HO1.out.alloc _) ⟨w1.heap.size, 0, none⟩ 1 1 [.string z] (by simp [Act.eval, Act.put]) rfl (one_new w1 _ _) (one_str _) (by omega) (by unfold maxLen; omega) (by omega) (by have := HL1.out.size; first | omega | (simp; omega)) _ rfl ?_; intro g2 c2 w2 ho hgr hat hlt2; have HO2 : Hid (w2.ownsRow B1 9 1 (.slice (some ⟨g2, 0, none⟩) (0 + m.length + 1) c2) (0 + m.length + 1) ([] ++ strV m ++ [.string z])) := ho; have HL2 : Hid (Below B1 wr w2) := (show Below B1 wr _ by first | exact HL1.out | exact HL1.out.alloc (by have := HL1.out.size; omega) _).grown hgr (by have := HL1.out.size; first | omega | (simp; omega)) (ownBlock_ge HO1.out); clear ho hgr hat hlt2) | (refine step_append_lies _ rfl (.tmp 38) (.tmp 45) 30 rfl B1 9 i0 (.string ByteArray.empty) 1 16 Tryd.underlying30 hi hz0 hz1 hz2 rfl (by decide) (.slice (some ⟨g1, 0, none⟩) (0 + m.length) c1) (0 + m.length) ([] ++ strV m) (by simp [Act.eval, Act.put]) HO1.out ⟨wr.heap.size, 0, none⟩ 1 1 [.string z] (by simp [Act.eval, Act.put]) rfl (fun j u hu => by rw [HGR.out.cell_far _ (by rw [Addr.add_mid]; simp) (by simp [Value.ownBlock])]; exact one_new wr (.string z) 9 j u hu) (one_str _) (by omega) (by unfold maxLen; omega) (by omega) (by have := HL1.out.size; first | omega | (simp; omega)) _ rfl ?_; intro g2 c2 w2 ho hgr hat hlt2; have HO2 : Hid (w2.ownsRow B1 9 1 (.slice (some ⟨g2, 0, none⟩) (0 + m.length + 1) c2) (0 + m.length + 1) ([] ++ strV m ++ [.string z])) := ho; have HL2 : Hid (Below B1 wr w2) := (show Below B1 wr _ by first | exact HL1.out | exact HL1.out.alloc (by have := HL1.out.size; omega) _).grown hgr (by have := HL1.out.size; first | omega | (simp; omega)) (ownBlock_ge HO1.out); clear ho hgr hat hlt2))
              all_goals
                go_wp2_with fail
                go_meet
                have hwB : w.heap.size ≤ B1 := by have := HB.out.size; omega
                refine ⟨g2, c2, by simp, ?_, HB.out.trans (HL2.out.mono hwB)⟩
                have h := HO2.out
                rw [show ([] ++ strV m ++ [Value.string z]) = strV (m ++ [z]) by simp [strV], Nat.zero_add] at h
                rw [HEL.out]
                exact own_srow (by simp) h
            case rest =>
              obtain ⟨b', cap', rfl, hrow', hb'⟩ := hcut
              clear HROW HB cl hbl
              obtain ⟨b, hbb⟩ : ∃ b, b = b' := ⟨_, rfl⟩
              obtain ⟨o, hoo⟩ : ∃ o, o = 0 := ⟨_, rfl⟩
              obtain ⟨cap, hcc⟩ : ∃ c, c = cap' := ⟨_, rfl⟩
              obtain ⟨n', hn'⟩ : ∃ n, n = m.length + 1 := ⟨_, rfl⟩
              subst hbb hoo hcc
              have HROW' : Hid (SRow wc b 0 (evL m)) := hrow'
              have HB' : Hid (Below w.heap.size w wc) := hb'
              have HMN : Hid ((evL m).length = n') := by show _ = _; rw [HEL.out, hn']; simp
              have hn3 : n' ≤ 301 := by omega
              rw [← hn']
              clear hn' hrow' hb' hodd hoi nl yw l3 l4 l5 HEL
              go_upto_region 9 with fail
              obtain ⟨M, hM⟩ : ∃ M, M = evL m := ⟨_, rfl⟩
              have HM : Hid (M = evL m) := hM
              rw [← hM] at HROW' HMN
              have HML : Hid (M.length = m.length + m.length % 2) := by show _ = _; rw [hM]; exact evL_length m
              have HM32 : Hid (∀ s ∈ M, s.size = 32) := by rw [hM]; exact evL_32 m H32.out
              clear hM
              obtain ⟨BB, hBB⟩ : ∃ B, B = wc.heap.size := ⟨_, rfl⟩
              have HBB : Hid (BB = wc.heap.size) := hBB
              have hbB : b < BB := by rw [hBB]; exact HROW'.out.lt (by have := HML.out; omega)
              have hwBB : w.heap.size ≤ BB := by rw [hBB]; exact HB'.out.size
              clear hBB
              go_upto_region 11 with fail
              go_loopg [8, 9] n' (fun g v i wx => ∃ up : List ByteArray, ∃ v' : Value, v' = v ∧ i = .int .i64 ((2 * up.length : Nat) : Int) ∧ up ++ upL dd (M.drop (2 * up.length)) = upL dd M ∧ 2 * up.length + g = n' ∧ wx.ownsRow BB 9 1 v' up.length (strV up) ∧ BB ≤ wx.heap.size ∧ SRow wx b 0 M ∧ Below w.heap.size w wx)
              case atStart => exact ⟨[], _, rfl, rfl, rfl, by simp, World.ownsRow_nil _ _ _ _, Nat.le_of_eq HBB.out, HROW'.out, HB'.out⟩
              case round =>
                clear HROW' HB' HBB
                obtain ⟨up, v', rfl, rfl, hup, hug, hown, hBx, hrow, hb⟩ := hrel
                have HUP : Hid (up ++ upL dd (M.drop (2 * up.length)) = upL dd M) := hup
                have HUG : Hid (2 * up.length + gk = n') := hug
                have HO : Hid (wr.ownsRow BB 9 1 v' up.length (strV up)) := hown
                have HROW : Hid (SRow wr b 0 M) := hrow
                have HB : Hid (Below w.heap.size w wr) := hb
                obtain ⟨k, hk⟩ : ∃ k, k = 2 * up.length := ⟨_, rfl⟩
                have HK : Hid (k = 2 * up.length) := hk
                rw [← hk]
                have hmn := HMN.out
                by_cases hlt : k < n'
                · have hk1 : k + 1 < M.length := by have := HML.out; omega
                  have ck := hrow k (by omega)
                  have ck1 := hrow (k + 1) hk1
                  rw [Nat.zero_add] at ck ck1
                  have s1 := HM32.out _ (List.getElem_mem (by omega : k < M.length))
                  have s2 := HM32.out _ (List.getElem_mem hk1)
                  have HUD := (show Hid (upL dd (M.drop k) = dd (M[k] ++ M[k + 1]) :: upL dd (M.drop (k + 2))) from upL_drop dd M k hk1)
                  generalize M[k] = x at ck s1 HUD
                  generalize M[k + 1] = y at ck1 s2 HUD
                  have hsz : (x ++ y).size = 64 := by rw [ByteArray.size_append, s1, s2]
                  have hki : (k : Int) < (n' : Int) := by omega
                  have hki1 : (k : Int) + 1 < (n' : Int) := by omega
                  have yk : IntKind.i64.wrap ((k : Int) + 1) = (k : Int) + 1 := by rw [IntKind.wrap_i64]; omega
                  have nk : ((k : Int) + 1).toNat = k + 1 := by omega
                  have k0 : (0 : Int) ≤ (k : Int) + 1 := by omega
                  have hn3i : (n' : Int) ≤ 301 := by omega
                  have HSZ : Hid ((x ++ y).size = 64) := hsz
                  have hul : up.length ≤ 301 := by omega
                  obtain ⟨d, hd⟩ : ∃ d, d = dd (x ++ y) := ⟨_, rfl⟩
                  have HD : Hid (d = dd (x ++ y)) := hd
                  have HTC : Hid (∀ W : World, Below w.heap.size w W → Calls Tryd.prog 13 #[.pointer (some ⟨gt, 0, none⟩), .string (x ++ y)] W fun e w' => e = .returned (.string d) ∧ Below W.heap.size W w') := fun W hW => by rw [hd]; exact HTW.out _ W hsz hW
                  clear hup hug hown hrow hb hk hmn hd hsz hk1
                  go_upto_region 13 with fail
                  go_region_law (first | (go_simp; go_at_call 13; refine (HTC.out _ HB.out.drew).mono ?_; rintro e w2 ⟨rfl, hb2⟩; have HB2 : Hid (Below wr.heap.size wr w2) := ((Below.refl _ wr).drew.trans hb2); have HO2 : Hid (w2.ownsRow BB 9 1 v' up.length (strV up)) := own_later HO.out HB2.out; clear hb2; dsimp only) | (refine step_append_lies _ rfl (.tmp 53) (.tmp 66) 30 rfl BB 9 i0 (.string ByteArray.empty) 1 16 Tryd.underlying30 hi hz0 hz1 hz2 rfl (by decide) v' up.length (strV up) (by simp [Act.eval, Act.put]) (HO2.out.alloc _) ⟨w2.heap.size, 0, none⟩ 1 1 [.string d] (by simp [Act.eval, Act.put]) rfl (one_new w2 _ _) (one_str _) (by omega) (by unfold maxLen; omega) (by omega) (by have := HB2.out.size; first | omega | (simp; omega)) _ rfl ?_; intro g4 c4 w4 ho hgr hg hlt4; have HO4 : Hid (w4.ownsRow BB 9 1 (.slice (some ⟨g4, 0, none⟩) (up.length + 1) c4) (up.length + 1) (strV up ++ [.string d])) := ho; have HB4 : Hid (Below BB wr w4) := ((HB2.out.mono hBx).alloc (by have := HB2.out.size; omega) _).grown hgr (by have := HB2.out.size; first | omega | (simp; omega)) (ownBlock_ge HO.out); clear ho hgr hg hlt4))
                  all_goals
                    go_wp2
                    go_roundg (gk - 2)
                    case measure => have := HUG.out; have := HK.out; have := HMN.out; have := HML.out; omega
                    case rel =>
                      have h1 := HUG.out
                      have h2 := HK.out
                      have h3 := HML.out
                      have h4 := HMN.out
                      have h5 := HB4.out.size
                      have hl : (up ++ [d]).length = up.length + 1 := by simp
                      refine ⟨up ++ [d], _, rfl, by rw [hl, h2]; go_num, ?_, by rw [hl]; omega, ?_, by omega, HROW.out.later HB4.out hbB, HB.out.trans (HB4.out.mono hwBB)⟩
                      · rw [hl, ← HUP.out, ← h2, HUD.out, HD.out, show 2 * (up.length + 1) = k + 2 by omega]; simp
                      · rw [hl, show strV (up ++ [d]) = strV up ++ [.string d] by simp [strV]]; exact HO4.out
                · have hke : M.length = k := by have := HUG.out; omega
                  have HUF : Hid (up = upL dd M) := by
                    show _ = _
                    rw [← HUP.out, ← hk, ← hke, List.drop_length]; simp [upL]
                  have hu0 : 0 < up.length := by have := HML.out; omega
                  obtain ⟨g9, c9, rfl, _, _⟩ := hown.form hu0
                  have HR9 : Hid (SRow wr g9 0 up) := own_srow rfl hown
                  clear hup hug hown hrow hb
                  go_wp2
                  go_roundg up.length
                  case measure =>
                    have h1 := HG.out
                    have h3 := HML.out
                    omega
                  case rel =>
                    have h3 := HML.out
                    refine ⟨up, g9, 0, c9, _, rfl, rfl, Nat.le_refl _, hu0, by omega, ?_, ?_, HR9.out, HB.out⟩
                    · rw [HUF.out]; exact upL_32 dd HDD.out _
                    · rw [htv.out, HT2.out, HUF.out, HM.out, ← rootF_up dd m tw h1]; exact HRT.out
    · have hm1 : m.length = 1 := by omega
      have c0 := HROW.out 0 (by omega)
      have HF : Hid (R = (m[0], tw)) := by
        show _ = _
        rw [← HRT.out, rootF_one dd m tw hm1, List.getD_eq_getElem?_getD, List.getElem?_eq_getElem (by omega : 0 < m.length)]; rfl
      have e0 : o + 0 = o := rfl
      rw [e0] at c0
      rw [hm1]
      generalize m[0] = x0 at c0 HF
      clear h1 e0
      go_wp2
      go_ret2
      refine ⟨by rw [HF.out]; rfl, HB.out⟩
end Go.Proofs.YtkmalggeieiepaaDoor
namespace Go.Proofs.YtkmalggeieiepaaDoor
open Go.RowKit

theorem Rd.laterB {w w' : World} {g B : Nat} {l : List UInt8} {e : Int} (h : Rd w g l e) (hb : Below B w w') (hg : g < B) : Rd w' g l e :=
  ⟨by rw [hb.cell (p := ⟨g, 0, none⟩) hg]; exact h.s, by rw [hb.frozen (p := ⟨g, 0, none⟩) hg]; exact h.sf, by rw [hb.cell (p := ⟨g, 1, none⟩) hg]; exact h.e, by rw [hb.frozen (p := ⟨g, 1, none⟩) hg]; exact h.ef⟩
theorem Mov.onB {g : Nat} {a b c : World} (h : Mov g a b) (k : Below a.heap.size b c) : Mov g a c :=
  ⟨k.os.trans h.os, k.tape.trans h.tape, k.output.trans h.output, Nat.le_trans h.size k.size, fun i hi hg => (k.block i hi).trans (h.block i hi hg)⟩
theorem own_mov {w w' : World} {base e size n g : Nat} {v : Value} {xs : List Value} (h : w.ownsRow base e size v n xs) (hm : Mov g w w') (hg : g < base) : w'.ownsRow base e size v n xs := by
  refine ⟨h.1, ?_⟩
  rcases h.2 with hn | ⟨g', cap, cur, hv, hbg, hg', rest⟩
  · exact .inl hn
  · have hl : g' < w.heap.size := by
      rcases Nat.lt_or_ge g' w.heap.size with h | h
      · exact h
      · rw [Array.getElem?_eq_none h] at hg'; cases hg'
    exact .inr ⟨g', cap, cur, hv, hbg, by rw [hm.block g' hl (by omega)]; exact hg', rest⟩

/-- the bytes of the transaction that is read. -/
def txB (r : List UInt8 × Int) : List UInt8 := r.1.take (r.1.length - (rTx r).1.length)
def rTxs : Nat → List UInt8 × Int → List (List UInt8) × (List UInt8 × Int)
  | 0, r => ([], r)
  | n + 1, r => if r.2 = 0 then (txB r :: (rTxs n (rTx r)).1, (rTxs n (rTx r)).2) else ([], r)
theorem rTxs_bad (n : Nat) (r : List UInt8 × Int) (h : ¬ r.2 = 0) : rTxs n r = ([], r) := by
  cases n with
  | zero => rfl
  | succ n => show (if r.2 = 0 then _ else _) = _; rw [if_neg h]
def strB (l : List (List UInt8)) : List Value := strV (l.map ofL)

set_option maxRecDepth 10000 in
set_option maxHeartbeats 1000000 in
theorem txs_any (g n : Nat) (l : List UInt8) (e : Int) (w : World) (h : Rd w g l e) (hl : l.length ≤ maxLen) (hn : n ≤ 16) :
    Calls Tryd.prog 72 #[.pointer (some ⟨g, 0, none⟩), .int .i64 (n : Int)] w fun x w' => ∃ v, x = .returned v ∧ w'.ownsRow w.heap.size 9 1 v (rTxs n (l, e)).1.length (strB (rTxs n (l, e)).1) ∧ Rd w' g (rTxs n (l, e)).2.1 (rTxs n (l, e)).2.2 ∧ Mov g w w' := by
  obtain ⟨i0, hi, hz0, hz1, hz2⟩ := info_parts infoStr
  have HR : Hid (Rd w g l e) := h
  have hgw := h.lt
  obtain ⟨R, HRR⟩ : ∃ R, Hid (R = rTxs n (l, e)) := ⟨_, rfl⟩
  rw [← HRR.out]
  have HL : Hid (l.length ≤ maxLen) := hl
  clear h hl
  go_enter Tryd.func72, Tryd.ntmps72
  go_upto_region 2 with fail
  go_loopg [1, 5] n (fun k nv v wx => ∃ r : List UInt8 × Int, ∃ out : List (List UInt8), ∃ v' : Value, v' = v ∧ nv = .int .i64 (k : Int) ∧ k ≤ 16 ∧ out.length + k ≤ 16 ∧ (out ++ (rTxs k r).1, (rTxs k r).2) = R ∧ r.1.length ≤ l.length ∧ Rd wx g r.1 r.2 ∧ wx.ownsRow w.heap.size 9 1 v' out.length (strB out) ∧ Mov g w wx)
  case atStart => exact ⟨(l, e), [], _, rfl, rfl, hn, by simpa using hn, HRR.out.symm, Nat.le_refl _, HR.out, World.ownsRow_nil _ _ _ _, Mov.refl g w⟩
  case round =>
    clear HR HRR hn
    obtain ⟨r, out, v, rfl, rfl, hk16, hok, hR, hrl, hrd, hown, hmv⟩ := hrel
    have HRD : Hid (Rd wr g r.1 r.2) := hrd
    have HO : Hid (wr.ownsRow w.heap.size 9 1 v out.length (strB out)) := hown
    have HM : Hid (Mov g w wr) := hmv
    have HEQ : Hid ((out ++ (rTxs gk r).1, (rTxs gk r).2) = R) := hR
    have HRL : Hid (r.1.length ≤ l.length) := hrl
    have de := hrd.e
    clear hR hrd hown hmv hrl
    by_cases h0 : gk = 0
    · subst h0
      go_wp2
      go_ret
      have hq : R = (out, r) := by rw [← HEQ.out]; simp [rTxs]
      rw [hq]
      exact ⟨_, rfl, HO.out, HRD.out, HM.out⟩
    · obtain ⟨k, rfl⟩ : ∃ k, gk = k + 1 := ⟨gk - 1, by omega⟩
      have hk : (0 : Int) < ((k + 1 : Nat) : Int) := by omega
      by_cases he : r.2 = 0
      · obtain ⟨tb, htb⟩ : ∃ t, t = ofL (txB r) := ⟨_, rfl⟩
        have HTB : Hid (tb = ofL (txB r)) := htb
        have HTX : Hid (Calls Tryd.prog 28 #[.pointer (some ⟨g, 0, none⟩)] wr fun x w' => x = .returned (.string tb) ∧ Rd w' g (rTx r).1 (rTx r).2 ∧ Mov g wr w') := by
          rw [htb]; exact tx_any g r.1 r.2 wr HRD.out (by have := HL.out; have := HRL.out; omega)
        rw [he] at de
        clear htb
        go_upto_region 4 with fail
        go_upto_region 3 with (first
          | (go_at_call 28; go_must (refine HTX.out.mono ?_); rintro x w1 ⟨rfl, hr1, hm1⟩; have HR1 := (show Hid (Rd w1 g (rTx r).1 (rTx r).2) from hr1); have HM1 := (show Hid (Mov g wr w1) from hm1); have HO1 : Hid (w1.ownsRow w.heap.size 9 1 v out.length (strB out)) := own_mov HO.out hm1 hgw; have hsz1 := hm1.size; have hsz0 := HM.out.size; clear hr1 hm1 HTX)
          | (at_builtin; go_must (refine wpList_append_lies _ rfl _ _ 30 rfl w.heap.size 9 i0 (.string ByteArray.empty) 1 16 Tryd.underlying30 hi hz0 hz1 hz2 rfl (by decide) v out.length (strB out) rfl (HO1.out.alloc _) ⟨w1.heap.size, 0, none⟩ 1 1 [.string tb] rfl rfl (one_new w1 _ _) (one_str _) (by omega) (by unfold maxLen; omega) (by omega) (by simp; omega) _ rfl ?_); intro g4 c4 w4 ho hgr hat hlt4; have HO4 : Hid (w4.ownsRow w.heap.size 9 1 (.slice (some ⟨g4, 0, none⟩) (out.length + 1) c4) (out.length + 1) (strB out ++ [.string tb])) := ho; have HB4 : Hid (Below w.heap.size w1 w4) := ((Below.refl w.heap.size w1).alloc (by omega) _).grown hgr (by simp; omega) (ownBlock_ge HO.out); clear ho hgr hat hlt4))
        go_wp2
        go_roundg k
        case measure => omega
        case rel =>
          have hll : (out ++ [txB r]).length = out.length + 1 := by simp
          have hle := rTx_le r
          refine ⟨rTx r, out ++ [txB r], _, rfl, by go_num, by omega, by rw [hll]; omega, ?_, Nat.le_trans hle HRL.out, HR1.out.laterB HB4.out hgw, ?_, (HM.out.trans HM1.out).onB HB4.out⟩
          · rw [← HEQ.out]
            show _ = (out ++ (if r.2 = 0 then _ else _ : List (List UInt8) × (List UInt8 × Int)).1, (if r.2 = 0 then _ else _ : List (List UInt8) × (List UInt8 × Int)).2)
            rw [if_pos he]; simp
          · rw [hll, show strB (out ++ [txB r]) = strB out ++ [.string tb] by rw [HTB.out]; simp [strB, strV]]; exact HO4.out
      · go_wp2
        go_ret
        have hq : R = (out, r) := by rw [← HEQ.out, rTxs_bad _ r he]; simp
        rw [hq]
        exact ⟨_, rfl, HO.out, HRD.out, HM.out⟩
end Go.Proofs.YtkmalggeieiepaaDoor
namespace Go.Proofs.YtkmalggeieiepaaDoor
open Go.RowKit

def rIndex (next bound : Nat) (r : List UInt8 × Int) : Nat × (List UInt8 × Int) :=
  if (rSize r).2.2 ≠ 0 then (0, (rSize r).2) else if bound ≤ (rSize r).1 ∨ bound ≤ (rSize r).1 + next then (0, ((rSize r).2.1, 4)) else (next + (rSize r).1, (rSize r).2)

set_option maxRecDepth 10000 in
set_option maxHeartbeats 1000000 in
theorem index_any (g next bound : Nat) (l : List UInt8) (e : Int) (w : World) (h : Rd w g l e) (hlo : next ≤ 1048576) (hhi : bound ≤ 1048576) :
    Calls Tryd.prog 81 #[.pointer (some ⟨g, 0, none⟩), .int .i64 (next : Int), .int .i64 (bound : Int)] w fun x w' => x = .returned (.int .i64 ((rIndex next bound (l, e)).1 : Int)) ∧ Rd w' g (rIndex next bound (l, e)).2.1 (rIndex next bound (l, e)).2.2 ∧ Mov g w w' := by
  have hS := size_any g l e w h
  have HE : Hid (rIndex next bound (l, e) = if (rSize (l, e)).2.2 ≠ 0 then (0, (rSize (l, e)).2) else if bound ≤ (rSize (l, e)).1 ∨ bound ≤ (rSize (l, e)).1 + next then (0, ((rSize (l, e)).2.1, 4)) else (next + (rSize (l, e)).1, (rSize (l, e)).2)) := rfl
  clear h
  generalize rSize (l, e) = p at hS HE
  obtain ⟨x, m, c⟩ := p
  obtain ⟨X, hX⟩ : ∃ X : Int, X = (x : Int) := ⟨_, rfl⟩
  have HX : Hid (X = (x : Int)) := hX
  have L0 : (0 : Int) ≤ (next : Int) := by omega
  have L1 : (next : Int) ≤ 1048576 := by omega
  have M0 : (0 : Int) ≤ (bound : Int) := by omega
  have M1 : (bound : Int) ≤ 1048576 := by omega
  have X0 : 0 ≤ X := by omega
  have HS : Hid (Calls Tryd.prog 86 #[.pointer (some ⟨g, 0, none⟩)] w fun x w' => x = .returned (.int .u64 X) ∧ Rd w' g m c ∧ Mov g w w') := by rw [hX]; exact hS
  clear hS
  by_cases hc : c = 0
  · subst hc
    have HW : Hid (∀ W : World, Rd W g m 0 → Calls Tryd.prog 60 #[.pointer (some ⟨g, 0, none⟩), .int .i64 4] W fun x w' => x = .returned (.tuple #[]) ∧ Rd w' g m 4 ∧ Mov g W w') := fun W hW => wrong_any g 4 m 0 W hW
    by_cases h1 : bound ≤ x
    · have e2 : rIndex next bound (l, e) = (0, (m, 4)) := by rw [HE.out]; simp [h1]
      rw [e2]
      have i1 : (bound : Int) ≤ X := by omega
      clear h1 e2 HE hX
      generalize (next : Int) = LO at *
      generalize (bound : Int) = HI at *
      go_enter Tryd.func81, Tryd.ntmps81
      go_upto_region 2 with (go_at_call 86; go_must (refine HS.out.mono ?_); rintro x w1 ⟨rfl, hr1, hm1⟩; have HR1 := (show Hid (Rd w1 g _ _) from hr1); have HM1 := (show Hid (Mov g w w1) from hm1); clear hr1 hm1)
      have d1 := HR1.out.e
      go_upto_region 4 with (go_at_call 60; go_must (refine (HW.out _ HR1.out).mono ?_); rintro x w4 ⟨rfl, hr4, hm4⟩; have HR4 := (show Hid (Rd w4 g _ _) from hr4); have HM4 := (show Hid (Mov g w1 w4) from hm4); clear hr4 hm4)
      have d4 := HR4.out.e
      go_wp2
      go_ret
      exact ⟨rfl, HR4.out, HM1.out.trans HM4.out⟩
    · have x1 : X ≤ 1048576 := by omega
      have yx : IntKind.i64.wrap X = X := by rw [IntKind.wrap_i64]; omega
      have yn : IntKind.i64.wrap (X + (next : Int)) = X + (next : Int) := by rw [IntKind.wrap_i64]; omega
      have ym : IntKind.i64.wrap ((next : Int) + X) = (next : Int) + X := by rw [IntKind.wrap_i64]; omega
      by_cases h2 : bound ≤ x + next
      · have e2 : rIndex next bound (l, e) = (0, (m, 4)) := by rw [HE.out]; simp [h2]
        rw [e2]
        have i1 : X < (bound : Int) := by omega
        have i2 : (bound : Int) ≤ X + (next : Int) := by omega
        clear h1 h2 e2 HE hX
        generalize (next : Int) = LO at *
        generalize (bound : Int) = HI at *
        go_enter Tryd.func81, Tryd.ntmps81
        go_upto_region 2 with (go_at_call 86; go_must (refine HS.out.mono ?_); rintro x w1 ⟨rfl, hr1, hm1⟩; have HR1 := (show Hid (Rd w1 g _ _) from hr1); have HM1 := (show Hid (Mov g w w1) from hm1); clear hr1 hm1)
        have d1 := HR1.out.e
        go_upto_region 4 with (go_at_call 60; go_must (refine (HW.out _ HR1.out).mono ?_); rintro x w4 ⟨rfl, hr4, hm4⟩; have HR4 := (show Hid (Rd w4 g _ _) from hr4); have HM4 := (show Hid (Mov g w1 w4) from hm4); clear hr4 hm4)
        have d4 := HR4.out.e
        go_wp2
        go_ret
        exact ⟨rfl, HR4.out, HM1.out.trans HM4.out⟩
      · have e2 : rIndex next bound (l, e) = (next + x, (m, 0)) := by rw [HE.out]; simp [h1, h2]
        rw [e2]
        have hNX : ((next + x : Nat) : Int) = (next : Int) + X := by omega
        rw [hNX]
        have i1 : X < (bound : Int) := by omega
        have i2 : X + (next : Int) < (bound : Int) := by omega
        clear h1 h2 e2 HE hX hNX
        generalize (next : Int) = LO at *
        generalize (bound : Int) = HI at *
        go_enter Tryd.func81, Tryd.ntmps81
        go_upto_region 2 with (go_at_call 86; go_must (refine HS.out.mono ?_); rintro x w1 ⟨rfl, hr1, hm1⟩; have HR1 := (show Hid (Rd w1 g _ _) from hr1); have HM1 := (show Hid (Mov g w w1) from hm1); clear hr1 hm1)
        have d1 := HR1.out.e
        go_wp2
        go_ret
        exact ⟨rfl, HR1.out, HM1.out⟩
  · have e2 : rIndex next bound (l, e) = (0, (m, c)) := by rw [HE.out]; simp [hc]
    rw [e2]
    clear e2 HE hX
    go_enter Tryd.func81, Tryd.ntmps81
    go_upto_region 2 with (go_at_call 86; go_must (refine HS.out.mono ?_); rintro x w1 ⟨rfl, hr1, hm1⟩; have HR1 := (show Hid (Rd w1 g _ _) from hr1); have HM1 := (show Hid (Mov g w w1) from hm1); clear hr1 hm1)
    have d1 := HR1.out.e
    go_wp2
    go_ret
    exact ⟨rfl, HR1.out, HM1.out⟩

/-- texts one behind the other. -/
def catL (l : List ByteArray) : List UInt8 := l.flatMap fun s => s.data.toList
theorem catL_snoc (l : List ByteArray) (j : Nat) (h : j < l.length) : catL (l.take (j + 1)) = catL (l.take j) ++ l[j].data.toList := by
  unfold catL; rw [List.take_succ_eq_append_getElem h, List.flatMap_append, List.flatMap_singleton]
theorem catL_le (l : List ByteArray) (N : Nat) (h : ∀ s ∈ l, s.size ≤ N) : (catL l).length ≤ l.length * N := by
  induction l with
  | nil => simp [catL]
  | cons a l ih =>
    have h1 := h a (by simp)
    have h2 := ih (fun s hs => h s (by simp [hs]))
    have h3 : a.data.toList.length = a.size := rfl
    simp only [catL, List.flatMap_cons, List.length_append, List.length_cons, Nat.succ_mul] at *
    omega
theorem sizeL_le (n : Nat) : (sizeL n).length ≤ 9 := by
  unfold sizeL
  split
  · rw [le_length]; omega
  · split
    · rw [List.length_cons, le_length]; omega
    · split
      · rw [List.length_cons, le_length]; omega
      · rw [List.length_cons, le_length]; omega

set_option maxRecDepth 10000 in
set_option maxHeartbeats 1000000 in
theorem joined_any (l : List ByteArray) (b o cap : Nat) (w : World) (hs : SRow w b o l) (hn : l.length ≤ 16) (hN : ∀ s ∈ l, s.size ≤ 1048576) (hb : 0 < l.length) :
    Calls Tryd.prog 41 #[.slice (some ⟨b, o, none⟩) l.length cap] w fun x w' => x = .returned (.string (ofL (sizeL l.length ++ catL l))) ∧ Below w.heap.size w w' := by
  have HS : Hid (SRow w b o l) := hs
  have hbl := hs.lt hb
  have HN : Hid (∀ s ∈ l, s.size ≤ 1048576) := hN
  have HZ : Hid (Calls Tryd.prog 39 #[.int .u64 (l.length : Int)] w fun x w' => x = .returned (.string (ofL (sizeL l.length))) ∧ Below w.heap.size w w') := Size_any l.length w (by unfold U64; omega)
  have hni : (l.length : Int) ≤ 16 := by omega
  clear hs hN
  go_enter Tryd.func41, Tryd.ntmps41
  go_upto_region 3 with (go_at_call 39; go_must (refine HZ.out.mono ?_); rintro x w1 ⟨rfl, hb1⟩; have HB1 : Hid (Below w.heap.size w w1) := hb1; clear hb1)
  go_loopg [3, 12] l.length (fun g s i wx => ∃ j : Nat, j + g = l.length ∧ i = .int .i64 (j : Int) ∧ s = .string (ofL (sizeL l.length ++ catL (l.take j))) ∧ wx = w1)
  case atStart => exact ⟨0, by omega, rfl, by simp [catL], rfl⟩
  case round =>
    obtain ⟨j, hjg, rfl, rfl, rfl⟩ := hrel
    have HJ : Hid (j + gk = l.length) := hjg
    by_cases hlt : j < l.length
    · have cj : wr.cell? ⟨b, o + j, none⟩ = some (.string l[j]) := (HS.out.later HB1.out hbl) j hlt
      have sj := HN.out _ (List.getElem_mem hlt)
      have HC := (show Hid (catL (l.take (j + 1)) = catL (l.take j) ++ l[j].data.toList) from catL_snoc l j hlt)
      have hle : (ofL (sizeL l.length ++ catL (l.take j))).size ≤ 16777216 + 9 := by
        have h1 := sizeL_le l.length
        have h2 := catL_le (l.take j) 1048576 (fun s hs => HN.out s (List.mem_of_mem_take hs))
        rw [List.length_take] at h2
        rw [ofL_size, List.length_append]
        have h3 : min j l.length * 1048576 ≤ 16 * 1048576 := Nat.mul_le_mul_right _ (by omega)
        omega
      have HAP := (show Hid (ofL (sizeL l.length ++ catL (l.take j)) ++ ofL l[j].data.toList = _) from ofL_append (sizeL l.length ++ catL (l.take j)) l[j].data.toList)
      have HOF := (show Hid (ofL l[j].data.toList = l[j]) from ofL_of l[j])
      rw [HOF.out] at HAP
      generalize l[j] = t at cj sj HC HAP HOF
      obtain ⟨S, hS⟩ : ∃ S, S = ofL (sizeL l.length ++ catL (l.take j)) := ⟨_, rfl⟩
      rw [← hS] at hle HAP ⊢
      have hji : (j : Int) < (l.length : Int) := by omega
      clear hjg hS
      go_wp2
      go_roundg (gk - 1)
      case measure => have := HJ.out; omega
      case rel =>
        have h1 := HJ.out
        refine ⟨j + 1, by omega, by go_num, ?_, rfl⟩
        rw [HC.out, HAP.out, List.append_assoc]
    · have hje : j = l.length := by omega
      subst hje
      clear hjg
      go_wp2
      go_ret
      refine ⟨?_, HB1.out⟩
      rw [List.take_length]; rfl
end Go.Proofs.YtkmalggeieiepaaDoor
namespace Go.Proofs.YtkmalggeieiepaaDoor
open Go.RowKit

theorem own_base {w : World} {b b' e size n : Nat} {v : Value} {xs : List Value} (h : w.ownsRow b e size v n xs) (hb : b' ≤ b) : w.ownsRow b' e size v n xs := by
  refine ⟨h.1, ?_⟩
  rcases h.2 with hn | ⟨g, cap, cur, hv, hbg, rest⟩
  · exact .inl hn
  · exact .inr ⟨g, cap, cur, hv, Nat.le_trans hb hbg, rest⟩
/-- so many bytes, then from one to sixteen transactions: what was read of each, and what is wrong. -/
def rMsg (n : Nat) (l : List UInt8) : List UInt8 × (List (List UInt8) × Int) :=
  ((rTake n (l, 0)).1, ((rTxs (rWithin 1 16 (rTake n (l, 0)).2).1 (rWithin 1 16 (rTake n (l, 0)).2).2).1, (rDone (rTxs (rWithin 1 16 (rTake n (l, 0)).2).1 (rWithin 1 16 (rTake n (l, 0)).2).2).2).2))

end Go.Proofs.YtkmalggeieiepaaDoor
namespace Go.Proofs.YtkmalggeieiepaaDoor
open Go.RowKit

/-- indexes, so many, from the next that could be. -/
def rIdxs : Nat → Nat → List UInt8 × Int → List Nat × (List UInt8 × Int)
  | 0, _, r => ([], r)
  | n + 1, k, r => if r.2 = 0 then ((rIndex k 16 r).1 :: (rIdxs n ((rIndex k 16 r).1 + 1) (rIndex k 16 r).2).1, (rIdxs n ((rIndex k 16 r).1 + 1) (rIndex k 16 r).2).2) else ([], r)
theorem rIdxs_bad (n k : Nat) (r : List UInt8 × Int) (h : ¬ r.2 = 0) : rIdxs n k r = ([], r) := by
  cases n with
  | zero => rfl
  | succ n => show (if r.2 = 0 then _ else _) = _; rw [if_neg h]
/-- a request: of which block, which places, and what is wrong. -/
def rReq (l : List UInt8) : List UInt8 × (List Nat × Int) :=
  ((rTake 32 (l, 0)).1, ((rIdxs (rWithin 1 16 (rTake 32 (l, 0)).2).1 0 (rWithin 1 16 (rTake 32 (l, 0)).2).2).1, (rDone (rIdxs (rWithin 1 16 (rTake 32 (l, 0)).2).1 0 (rWithin 1 16 (rTake 32 (l, 0)).2).2).2).2))
theorem rIndex_lt (k : Nat) (r : List UInt8 × Int) : (rIndex k 16 r).1 < 16 := by
  unfold rIndex
  split
  · omega
  · split
    · omega
    · show k + _ < 16; omega
theorem rIdxs_lt : ∀ (n k : Nat) (r : List UInt8 × Int), ∀ x ∈ (rIdxs n k r).1, x < 16
  | 0, _, _, x, hx => by simp [rIdxs] at hx
  | n + 1, k, r, x, hx => by
    unfold rIdxs at hx
    split at hx
    · rcases List.mem_cons.1 hx with rfl | h
      · exact rIndex_lt k r
      · exact rIdxs_lt n _ _ x h
    · simp at hx
theorem rIdxs_len : ∀ (n k : Nat) (r : List UInt8 × Int), (rIdxs n k r).1.length ≤ n
  | 0, _, _ => by simp [rIdxs]
  | n + 1, k, r => by
    unfold rIdxs
    split
    · have := rIdxs_len n ((rIndex k 16 r).1 + 1) (rIndex k 16 r).2
      simp only [List.length_cons]; omega
    · simp
theorem rTxs_len : ∀ (n : Nat) (r : List UInt8 × Int), (rTxs n r).1.length ≤ n
  | 0, _ => by simp [rTxs]
  | n + 1, r => by
    unfold rTxs
    split
    · have := rTxs_len n (rTx r)
      simp only [List.length_cons]; omega
    · simp
theorem stick_tx : ∀ r : List UInt8 × Int, r.2 ≠ 0 → (rTx r).2 ≠ 0 := fun r hr h => hr (eats_tx r h).1
theorem rTxs_small : ∀ (n : Nat) (r : List UInt8 × Int), (rTxs n r).2.2 = 0 → ∀ t ∈ (rTxs n r).1, t.length ≤ 610
  | 0, _, _, x, hx => by simp [rTxs] at hx
  | n + 1, r, h0, x, hx => by
    unfold rTxs at hx h0
    split at hx
    · rename_i hr
      rw [if_pos hr] at h0
      rcases List.mem_cons.1 hx with rfl | h
      · have h1 : (rTx r).2 = 0 := Classical.byContradiction fun h2 => by rw [rTxs_bad n (rTx r) h2] at h0; exact h2 h0
        have h3 := (eats_tx r h1).2
        unfold txB; rw [List.length_take]; omega
      · exact rTxs_small n _ h0 x h
    · simp at hx

theorem rTake_len (n : Nat) (r : List UInt8 × Int) : (rTake n r).1.length ≤ n := by
  unfold rTake
  split
  · simp
  · split
    · simp
    · simp; omega
theorem rTake_full (n : Nat) (r : List UInt8 × Int) (h : (rTake n r).2.2 = 0) : (rTake n r).1.length = n := by
  unfold rTake at h ⊢
  by_cases h1 : r.2 = 0
  · simp only [h1, ne_eq, not_true_eq_false, if_false] at h ⊢
    by_cases h2 : r.1.length < n
    · simp [h2] at h
    · simp only [h2, if_false]; simp; omega
  · simp [h1] at h
theorem rDone_ok (r : List UInt8 × Int) (h : (rDone r).2 = 0) : r.2 = 0 := by
  unfold rDone at h
  split at h
  · rename_i h1; exact h1.1
  · exact h
theorem rMsg_small (n : Nat) (l : List UInt8) (h : (rMsg n l).2.2 = 0) : ∀ x ∈ (rMsg n l).2.1, x.length ≤ 610 := rTxs_small _ _ (rDone_ok _ h)
theorem rMsg_len (n : Nat) (l : List UInt8) : (rMsg n l).2.1.length ≤ 16 := Nat.le_trans (rTxs_len _ _) (rWithin_hi 1 16 _)
theorem rReq_len (l : List UInt8) : (rReq l).2.1.length ≤ 16 := Nat.le_trans (rIdxs_len _ _ _) (rWithin_hi 1 16 _)
theorem rTxs_ok (n : Nat) (r : List UInt8 × Int) (h : (rTxs n r).2.2 = 0) : r.2 = 0 := Classical.byContradiction fun h2 => by rw [rTxs_bad n r h2] at h; exact h2 h
theorem rIdxs_ok (n k : Nat) (r : List UInt8 × Int) (h : (rIdxs n k r).2.2 = 0) : r.2 = 0 := Classical.byContradiction fun h2 => by rw [rIdxs_bad n k r h2] at h; exact h2 h
theorem rMsg_head (n : Nat) (l : List UInt8) (h : (rMsg n l).2.2 = 0) : (rMsg n l).1.length = n := rTake_full n _ (eats_within 1 16 _ (rTxs_ok _ _ (rDone_ok _ h))).1
theorem rReq_head (l : List UInt8) (h : (rReq l).2.2 = 0) : (rReq l).1.length = 32 := rTake_full 32 _ (eats_within 1 16 _ (rIdxs_ok _ _ _ (rDone_ok _ h))).1

/-- what is wrong with one of the places that are to be sent along, behind another. -/
def alR (n : Nat) : Int → List Int → Int
  | _, [] => 0
  | p, x :: l => if x < 0 ∨ (n : Int) ≤ x then 4 else if x ≤ p then 11 else alR n x l
def alE (n : Nat) (l : List Int) : Int := if alR n (-1) l ≠ 0 then alR n (-1) l else if l.length = 0 ∨ l.headD 0 ≠ 0 then 11 else 0
/-- the one ahead. -/
def ahead (l : List Int) (i : Nat) : Int := if i = 0 then -1 else l.getD (i - 1) 0
theorem alR_step (n : Nat) (l : List Int) (i : Nat) (h : i < l.length) : alR n (ahead l i) (l.drop i) = if l[i] < 0 ∨ (n : Int) ≤ l[i] then 4 else if l[i] ≤ ahead l i then 11 else alR n (ahead l (i + 1)) (l.drop (i + 1)) := by
  rw [List.drop_eq_getElem_cons h]
  show (if _ then _ else if _ then _ else _) = _
  have : ahead l (i + 1) = l[i] := by simp [ahead, h]
  rw [this]
def Rise : Int → List Int → Prop
  | _, [] => True
  | p, x :: l => p < x ∧ Rise x l
theorem alR_ok (n : Nat) : ∀ (l : List Int) (p : Int), alR n p l = 0 → Rise p l ∧ ∀ x ∈ l, 0 ≤ x ∧ x < (n : Int)
  | [], _, _ => ⟨trivial, by simp⟩
  | x :: l, p, h => by
    unfold alR at h
    by_cases h1 : x < 0 ∨ (n : Int) ≤ x
    · rw [if_pos h1] at h; omega
    · rw [if_neg h1] at h
      by_cases h2 : x ≤ p
      · rw [if_pos h2] at h; omega
      · rw [if_neg h2] at h
        obtain ⟨h3, h4⟩ := alR_ok n l x h
        refine ⟨⟨by omega, h3⟩, ?_⟩
        intro y hy
        rcases List.mem_cons.1 hy with rfl | hy
        · omega
        · exact h4 y hy
theorem Rise.gt : ∀ {l : List Int} {p : Int}, Rise p l → ∀ x ∈ l, p < x
  | [], _, _, x, hx => by simp at hx
  | y :: l, p, h, x, hx => by
    rcases List.mem_cons.1 hx with rfl | hx
    · exact h.1
    · have := Rise.gt h.2 x hx; have := h.1; omega
theorem alE_ok (n : Nat) (l : List Int) (h : alE n l = 0) : alR n (-1) l = 0 ∧ l ≠ [] ∧ l.headD 0 = 0 := by
  unfold alE at h
  by_cases h1 : alR n (-1) l = 0
  · rw [if_neg (by omega)] at h
    by_cases h2 : l.length = 0 ∨ l.headD 0 ≠ 0
    · rw [if_pos h2] at h; omega
    · refine ⟨h1, ?_, ?_⟩
      · intro h3; rw [h3] at h2; simp at h2
      · exact Classical.byContradiction fun h3 => h2 (.inr h3)
  · rw [if_pos h1] at h; omega

/-- those that are sent along, with their places; the others. -/
def plc (al : List Int) : Nat → List (List UInt8) → List (Nat × List UInt8)
  | _, [] => []
  | i, x :: l => if (i : Int) ∈ al then (i, x) :: plc al (i + 1) l else plc al (i + 1) l
def oth (al : List Int) : Nat → List (List UInt8) → List (List UInt8)
  | _, [] => []
  | i, x :: l => if (i : Int) ∈ al then oth al (i + 1) l else x :: oth al (i + 1) l
theorem plc_append (al : List Int) : ∀ (a b : List (List UInt8)) (i : Nat), plc al i (a ++ b) = plc al i a ++ plc al (i + a.length) b
  | [], b, i => by simp [plc]
  | x :: a, b, i => by
    have := plc_append al a b (i + 1)
    simp only [List.cons_append, plc, List.length_cons]
    rw [this, show i + 1 + a.length = i + (a.length + 1) by omega]
    split <;> simp
theorem oth_append (al : List Int) : ∀ (a b : List (List UInt8)) (i : Nat), oth al i (a ++ b) = oth al i a ++ oth al (i + a.length) b
  | [], b, i => by simp [oth]
  | x :: a, b, i => by
    have := oth_append al a b (i + 1)
    simp only [List.cons_append, oth, List.length_cons]
    rw [this, show i + 1 + a.length = i + (a.length + 1) by omega]
    split <;> simp
theorem take_snoc {α : Type} (l : List α) (k : Nat) (h : k < l.length) : l.take (k + 1) = l.take k ++ [l[k]] := List.take_succ_eq_append_getElem h
theorem plc_in (al : List Int) (l : List (List UInt8)) (k : Nat) (h : k < l.length) (hk : (k : Int) ∈ al) : plc al 0 (l.take (k + 1)) = plc al 0 (l.take k) ++ [(k, l[k])] := by
  rw [take_snoc l k h, plc_append, List.length_take, Nat.zero_add, Nat.min_eq_left (Nat.le_of_lt h)]
  simp [plc, hk]
theorem plc_out (al : List Int) (l : List (List UInt8)) (k : Nat) (h : k < l.length) (hk : ¬ (k : Int) ∈ al) : plc al 0 (l.take (k + 1)) = plc al 0 (l.take k) := by
  rw [take_snoc l k h, plc_append, List.length_take, Nat.zero_add, Nat.min_eq_left (Nat.le_of_lt h)]
  simp [plc, hk]
theorem oth_in (al : List Int) (l : List (List UInt8)) (k : Nat) (h : k < l.length) (hk : (k : Int) ∈ al) : oth al 0 (l.take (k + 1)) = oth al 0 (l.take k) := by
  rw [take_snoc l k h, oth_append, List.length_take, Nat.zero_add, Nat.min_eq_left (Nat.le_of_lt h)]
  simp [oth, hk]
theorem oth_out (al : List Int) (l : List (List UInt8)) (k : Nat) (h : k < l.length) (hk : ¬ (k : Int) ∈ al) : oth al 0 (l.take (k + 1)) = oth al 0 (l.take k) ++ [l[k]] := by
  rw [take_snoc l k h, oth_append, List.length_take, Nat.zero_add, Nat.min_eq_left (Nat.le_of_lt h)]
  simp [oth, hk]
theorem plc_congr (a b : List Int) : ∀ (l : List (List UInt8)) (i : Nat), (∀ j : Nat, i ≤ j → ((j : Int) ∈ a ↔ (j : Int) ∈ b)) → plc a i l = plc b i l
  | [], _, _ => rfl
  | x :: l, i, h => by
    have h1 := h i (Nat.le_refl _)
    have h2 := plc_congr a b l (i + 1) (fun j hj => h j (by omega))
    unfold plc
    rw [h2]
    by_cases h3 : (i : Int) ∈ a
    · rw [if_pos h3, if_pos (h1.1 h3)]
    · rw [if_neg h3, if_neg (fun h4 => h3 (h1.2 h4))]
theorem plc_rise : ∀ (l : List (List UInt8)) (i : Nat) (al : List Int), Rise ((i : Int) - 1) al → (∀ x ∈ al, x < (i : Int) + l.length) → (plc al i l).length = al.length
  | [], i, al, hr, hn => by
    cases al with
    | nil => rfl
    | cons x al => have h1 := hr.1; have h2 := hn x (by simp); simp at h2; omega
  | x :: l, i, al, hr, hn => by
    cases al with
    | nil =>
      unfold plc
      rw [if_neg (by simp)]
      exact plc_rise l (i + 1) [] trivial (by simp)
    | cons y al =>
      have hgt := Rise.gt hr.2
      by_cases hy : (i : Int) = y
      · unfold plc
        rw [if_pos (by simp [hy])]
        have hc : plc (y :: al) (i + 1) l = plc al (i + 1) l := plc_congr _ _ l (i + 1) (fun j hj => by
          have : (j : Int) ≠ y := by omega
          simp [this])
        rw [hc, List.length_cons, List.length_cons, plc_rise l (i + 1) al (by rw [show ((i + 1 : Nat) : Int) - 1 = y by omega]; exact hr.2) (fun z hz => by have := hn z (by simp [hz]); simp at this; omega)]
      · have hlt : (i : Int) < y := by have := hr.1; omega
        have hni : ¬ (i : Int) ∈ y :: al := by
          intro h
          rcases List.mem_cons.1 h with h | h
          · exact hy h
          · have := hgt _ h; omega
        unfold plc
        rw [if_neg hni]
        refine plc_rise l (i + 1) (y :: al) ⟨by omega, hr.2⟩ (fun z hz => ?_)
        have := hn z hz; simp at this; omega
theorem plc_len (l : List (List UInt8)) (al : List Int) (h : alE l.length al = 0) : (plc al 0 l).length = al.length := by
  obtain ⟨h1, _, _⟩ := alE_ok _ _ h
  obtain ⟨h2, h3⟩ := alR_ok _ _ _ h1
  exact plc_rise l 0 al h2 (fun x hx => by have := (h3 x hx).2; simpa using this)
theorem plc_le (al : List Int) : ∀ (l : List (List UInt8)) (i : Nat), (plc al i l).length ≤ l.length
  | [], _ => by simp [plc]
  | x :: l, i => by
    have := plc_le al l (i + 1)
    unfold plc; split
    · simp only [List.length_cons]; omega
    · simp only [List.length_cons]; omega
theorem oth_le (al : List Int) : ∀ (l : List (List UInt8)) (i : Nat), (oth al i l).length ≤ l.length
  | [], _ => by simp [oth]
  | x :: l, i => by
    have := oth_le al l (i + 1)
    unfold oth; split
    · simp only [List.length_cons]; omega
    · simp only [List.length_cons]; omega
theorem plc_mem (al : List Int) : ∀ (l : List (List UInt8)) (i : Nat), ∀ p ∈ plc al i l, i ≤ p.1 ∧ p.1 < i + l.length ∧ p.2 ∈ l
  | [], _, p, hp => by simp [plc] at hp
  | x :: l, i, p, hp => by
    unfold plc at hp
    have ih := plc_mem al l (i + 1)
    split at hp
    · rcases List.mem_cons.1 hp with rfl | hp
      · exact ⟨Nat.le_refl _, by simp, by simp⟩
      · obtain ⟨h1, h2, h3⟩ := ih p hp
        exact ⟨by omega, by simp only [List.length_cons]; omega, by simp [h3]⟩
    · obtain ⟨h1, h2, h3⟩ := ih p hp
      exact ⟨by omega, by simp only [List.length_cons]; omega, by simp [h3]⟩
theorem oth_mem (al : List Int) : ∀ (l : List (List UInt8)) (i : Nat), ∀ t ∈ oth al i l, t ∈ l
  | [], _, p, hp => by simp [oth] at hp
  | x :: l, i, p, hp => by
    unfold oth at hp
    have ih := oth_mem al l (i + 1)
    split at hp
    · simp [ih p hp]
    · rcases List.mem_cons.1 hp with rfl | hp
      · simp
      · simp [ih p hp]
/-- transactions told behind their places. -/
def wrt : Nat → List (Nat × List UInt8) → List UInt8
  | _, [] => []
  | n, p :: l => sizeL (p.1 - n) ++ p.2 ++ wrt (p.1 + 1) l
def nxt : Nat → List (Nat × List UInt8) → Nat
  | n, [] => n
  | _, p :: l => nxt (p.1 + 1) l
theorem wrt_append : ∀ (a b : List (Nat × List UInt8)) (n : Nat), wrt n (a ++ b) = wrt n a ++ wrt (nxt n a) b
  | [], b, n => by simp [wrt, nxt]
  | p :: a, b, n => by simp [wrt, nxt, wrt_append a b (p.1 + 1)]
theorem nxt_append : ∀ (a b : List (Nat × List UInt8)) (n : Nat), nxt n (a ++ b) = nxt (nxt n a) b
  | [], b, n => by simp [nxt]
  | p :: a, b, n => by simp [nxt, nxt_append a b (p.1 + 1)]
theorem nxt_le (M : Nat) : ∀ (a : List (Nat × List UInt8)) (n : Nat), n ≤ M → (∀ p ∈ a, p.1 < M) → nxt n a ≤ M
  | [], n, h, _ => h
  | p :: a, n, h, hm => nxt_le M a (p.1 + 1) (hm p (by simp)) (fun q hq => hm q (by simp [hq]))
theorem nxt_plc (al : List Int) (l : List (List UInt8)) (k : Nat) (h : k ≤ l.length) : nxt 0 (plc al 0 (l.take k)) ≤ k :=
  nxt_le k _ 0 (Nat.zero_le _) (fun p hp => by have := (plc_mem al _ 0 p hp).2.1; rw [List.length_take] at this; omega)
theorem wrt_le (N : Nat) : ∀ (a : List (Nat × List UInt8)) (n : Nat), (∀ p ∈ a, p.2.length ≤ N) → (wrt n a).length ≤ a.length * (N + 9)
  | [], n, _ => by simp [wrt]
  | p :: a, n, hm => by
    have h1 := wrt_le N a (p.1 + 1) (fun q hq => hm q (by simp [hq]))
    have h2 := hm p (by simp)
    have h3 := sizeL_le (p.1 - n)
    simp only [wrt, List.length_append, List.length_cons, Nat.succ_mul]
    omega
/-- a short block: of a header, a number, the transactions, and the places of those that are sent along. -/
def encL (sh : List UInt8 → List UInt8) (h n : List UInt8) (l : List (List UInt8)) (al : List Int) : List UInt8 :=
  h ++ n ++ (sizeL (oth al 0 l).length ++ ((oth al 0 l).map sh).flatten) ++ (sizeL al.length ++ wrt 0 (plc al 0 l))
end Go.Proofs.YtkmalggeieiepaaDoor
namespace Go.Proofs.YtkmalggeieiepaaDoor
open Go.RowKit

/-- a slice of these texts. -/
def SVal (w : World) (v : Value) (l : List ByteArray) : Prop := ∃ (a : Option Addr) (cap : Nat), v = .slice a l.length cap ∧ l.length ≤ cap ∧ (0 < l.length → ∃ b o, a = some ⟨b, o, none⟩ ∧ SRow w b o l)
theorem SVal.later {w w' : World} {v : Value} {l : List ByteArray} (h : SVal w v l) (hb : Below w.heap.size w w') : SVal w' v l := by
  obtain ⟨a, cap, hv, hc, hr⟩ := h
  refine ⟨a, cap, hv, hc, fun h0 => ?_⟩
  obtain ⟨b, o, ha, hs⟩ := hr h0
  exact ⟨b, o, ha, hs.later hb (hs.lt h0)⟩
theorem own_sval {w : World} {base e : Nat} {v : Value} {l : List ByteArray} (h : w.ownsRow base e 1 v l.length (strV l)) : SVal w v l := by
  have h' := h
  rcases h.2 with ⟨hv, h0⟩ | ⟨g, cap, cur, hv, _, _, hle, _⟩
  · exact ⟨none, 0, by rw [hv, h0], by omega, fun h1 => by omega⟩
  · subst hv
    exact ⟨_, cap, rfl, hle, fun _ => ⟨g, 0, rfl, own_srow rfl h'⟩⟩

end Go.Proofs.YtkmalggeieiepaaDoor
namespace Go.Proofs.YtkmalggeieiepaaDoor
open Go.RowKit

set_option maxRecDepth 10000 in
theorem joined_sval (l : List ByteArray) (v : Value) (w : World) (hv : SVal w v l) (hn : l.length ≤ 16) (hN : ∀ s ∈ l, s.size ≤ 1048576) :
    Calls Tryd.prog 41 #[v] w fun x w' => x = .returned (.string (ofL (sizeL l.length ++ catL l))) ∧ Below w.heap.size w w' := by
  obtain ⟨a, cap, rfl, hcap, hr⟩ := hv
  by_cases h0 : 0 < l.length
  · obtain ⟨b, o, rfl, hrow⟩ := hr h0
    exact joined_any l b o cap w hrow hn hN h0
  · obtain rfl : l = [] := List.eq_nil_of_length_eq_zero (by omega)
    have HZ : Hid (Calls Tryd.prog 39 #[.int .u64 0] w fun x w' => x = .returned (.string (ofL (sizeL 0))) ∧ Below w.heap.size w w') := Size_any 0 w (by unfold U64; omega)
    clear hr hN hcap hn h0
    go_enter Tryd.func41, Tryd.ntmps41
    go_upto_region 3 with (go_at_call 39; go_must (refine HZ.out.mono ?_); rintro x w1 ⟨rfl, hb1⟩; have HB1 : Hid (Below w.heap.size w w1) := hb1; clear hb1)
    go_loopg [3, 12] 0 (fun g s i wx => s = .string (ofL (sizeL 0)) ∧ i = .int .i64 0 ∧ wx = w1)
    case atStart => exact ⟨rfl, rfl, rfl⟩
    case round =>
      obtain ⟨rfl, rfl, rfl⟩ := hrel
      go_wp2
      go_ret
      exact ⟨rfl, HB1.out⟩
theorem catL_len (l : List ByteArray) (hn : l.length ≤ 16) (hN : ∀ s ∈ l, s.size ≤ 1048576) : (sizeL l.length ++ catL l).length ≤ 16777216 + 9 := by
  have h1 := sizeL_le l.length
  have h2 := catL_le l 1048576 hN
  rw [List.length_append]
  have h3 : l.length * 1048576 ≤ 16 * 1048576 := Nat.mul_le_mul_right _ hn
  omega
/-- values lie in a row; a slice of these values. -/
def VRow (w : World) (b o : Nat) (l : List Value) : Prop := ∀ j (h : j < l.length), w.cell? ⟨b, o + j, none⟩ = some l[j]
theorem VRow.later {w w' : World} {b o : Nat} {l : List Value} {B : Nat} (h : VRow w b o l) (hb : Below B w w') (hB : b < B) : VRow w' b o l := fun j hj => by
  rw [hb.cell (p := ⟨b, o + j, none⟩) hB]; exact h j hj
theorem VRow.lt {w : World} {b o : Nat} {l : List Value} (h : VRow w b o l) (hn : 0 < l.length) : b < w.heap.size := World.block_lt_of_cell? w _ (h 0 hn)
def VVal (w : World) (v : Value) (l : List Value) : Prop := ∃ (a : Option Addr) (cap : Nat), v = .slice a l.length cap ∧ l.length ≤ cap ∧ (0 < l.length → ∃ b o, a = some ⟨b, o, none⟩ ∧ VRow w b o l)
theorem VVal.later {w w' : World} {v : Value} {l : List Value} (h : VVal w v l) (hb : Below w.heap.size w w') : VVal w' v l := by
  obtain ⟨a, cap, hv, hc, hr⟩ := h
  refine ⟨a, cap, hv, hc, fun h0 => ?_⟩
  obtain ⟨b, o, ha, hs⟩ := hr h0
  exact ⟨b, o, ha, hs.later hb (hs.lt h0)⟩
theorem own_vrow {w : World} {base e g cap n : Nat} {l : List Value} (hn : l.length = n) (h : w.ownsRow base e 1 (.slice (some ⟨g, 0, none⟩) n cap) n l) : VRow w g 0 l := by
  obtain ⟨_, h2⟩ := h
  rcases h2 with ⟨hv, _⟩ | ⟨g', cap', cur, hv, _, hg, _, _, _, ht⟩
  · cases hv
  · injection hv with e1 e2 e3
    injection e1 with e4
    injection e4 with e5
    subst e5
    intro j hj
    rw [Nat.zero_add, cell_of_row w g j cur _ _ hg]
    have h3 : (cur.toList.take (n * 1))[j]? = l[j]? := by rw [ht]
    rw [List.getElem?_take, if_pos (by omega)] at h3
    rw [← Array.getElem?_toList, h3, List.getElem?_eq_getElem hj]
theorem own_vval {w : World} {base e : Nat} {v : Value} {l : List Value} (h : w.ownsRow base e 1 v l.length l) : VVal w v l := by
  have h' := h
  rcases h.2 with ⟨hv, h0⟩ | ⟨g, cap, cur, hv, _, _, hle, _⟩
  · exact ⟨none, 0, by rw [hv, h0], by omega, fun h1 => by omega⟩
  · subst hv
    exact ⟨_, cap, rfl, hle, fun _ => ⟨g, 0, rfl, own_vrow rfl h'⟩⟩
/-- numbers as values. -/
def natV (l : List Nat) : List Value := l.map fun x : Nat => .int .i64 (x : Int)
def intV (l : List Int) : List Value := l.map fun x => .int .i64 x
end Go.Proofs.YtkmalggeieiepaaDoor
namespace Go.Proofs.YtkmalggeieiepaaDoor
open Go.RowKit

theorem rIndex_le (k b : Nat) (r : List UInt8 × Int) : (rIndex k b r).2.1.length ≤ r.1.length := by
  have := rSize_le r
  unfold rIndex
  split
  · exact this
  · split
    · exact this
    · exact this

set_option maxRecDepth 10000 in
set_option maxHeartbeats 2000000 in
theorem Request_any (s : ByteArray) (w : World) :
    Calls Tryd.prog 46 #[.string s] w fun x w' => ∃ v, x = .returned (.tuple #[.string (ofL (rReq s.data.toList).1), v, .int .i64 (rReq s.data.toList).2.2]) ∧ w'.ownsRow w.heap.size 3 1 v (rReq s.data.toList).2.1.length (natV (rReq s.data.toList).2.1) ∧ Below w.heap.size w w' := by
  obtain ⟨i0, hi, hz0, hz1, hz2⟩ := info_parts infoInt
  obtain ⟨W0, hW0⟩ : ∃ W, W = w.alloc (.cells #[.string s, .int .i64 0] 57) := ⟨_, rfl⟩
  have hR0 : Rd W0 w.heap.size s.data.toList 0 := by rw [hW0]; exact Rd.new w s _
  have HZ0 : Hid (W0.heap.size = w.heap.size + 1) := by show _ = _; rw [hW0]; simp
  have HB0 : Hid (Below w.heap.size w W0) := by show Below _ _ _; rw [hW0]; exact (Below.refl _ _).alloc (Nat.le_refl _) _
  have HE : Hid (rReq s.data.toList = ((rTake 32 (s.data.toList, 0)).1, ((rIdxs (rWithin 1 16 (rTake 32 (s.data.toList, 0)).2).1 0 (rWithin 1 16 (rTake 32 (s.data.toList, 0)).2).2).1, (rDone (rIdxs (rWithin 1 16 (rTake 32 (s.data.toList, 0)).2).1 0 (rWithin 1 16 (rTake 32 (s.data.toList, 0)).2).2).2).2))) := rfl
  generalize rReq s.data.toList = M at HE
  have hT : Calls Tryd.prog 58 #[.pointer (some ⟨w.heap.size, 0, none⟩), .int .i64 32] W0 fun x w' => x = .returned (.string (ofL (rTake 32 (s.data.toList, 0)).1)) ∧ Rd w' w.heap.size (rTake 32 (s.data.toList, 0)).2.1 (rTake 32 (s.data.toList, 0)).2.2 ∧ Mov w.heap.size W0 w' := take_any w.heap.size 32 s.data.toList 0 W0 hR0
  clear hR0
  generalize rTake 32 (s.data.toList, 0) = p1 at HE hT
  obtain ⟨h1, r1⟩ := p1
  have HW : Hid (∀ W, Rd W w.heap.size r1.1 r1.2 → Calls Tryd.prog 59 #[.pointer (some ⟨w.heap.size, 0, none⟩), .int .i64 1, .int .i64 16] W fun x w' => x = .returned (.int .i64 ((rWithin 1 16 r1).1 : Int)) ∧ Rd w' w.heap.size (rWithin 1 16 r1).2.1 (rWithin 1 16 r1).2.2 ∧ Mov w.heap.size W w') := fun W h => within_p w.heap.size 1 16 r1 W h (by omega) (by omega)
  have hhi := rWithin_hi 1 16 r1
  have HE2 : Hid (M = (h1, ((rIdxs (rWithin 1 16 r1).1 0 (rWithin 1 16 r1).2).1, (rDone (rIdxs (rWithin 1 16 r1).1 0 (rWithin 1 16 r1).2).2).2))) := HE.out
  clear HE
  generalize rWithin 1 16 r1 = p2 at HW hhi HE2
  obtain ⟨q, r2⟩ := p2
  have hq16 : q ≤ 16 := hhi
  obtain ⟨R, HRR⟩ : ∃ R, Hid (R = rIdxs q 0 r2) := ⟨_, rfl⟩
  have HE3 : Hid (M = (h1, (R.1, (rDone R.2).2))) := by show _ = _; rw [HRR.out]; exact HE2.out
  clear HE2 hhi
  go_enter Tryd.func46, Tryd.ntmps46
  go_upto_region 2 with fail
  rw [← hW0]
  clear hW0
  go_upto_region 3 with (go_at_call 58; go_must (refine hT.mono ?_); rintro x w1 ⟨rfl, hr, hm⟩; have HR1 := (show Hid (Rd w1 w.heap.size r1.1 r1.2) from hr); have HM1 := (show Hid (Mov w.heap.size W0 w1) from hm); clear hr hm)
  go_upto_region 6 with (go_at_call 59; go_must (refine (HW.out _ HR1.out).mono ?_); rintro x w2 ⟨rfl, hr, hm⟩; have HR2 := (show Hid (Rd w2 w.heap.size r2.1 r2.2) from hr); have HM2 := (show Hid (Mov w.heap.size W0 w2) from HM1.out.trans hm); clear hr hm)
  clear hT HW HM1 HR1
  go_loopg [7, 8, 9] q (fun k v nx nv wx => ∃ r : List UInt8 × Int, ∃ out : List Nat, ∃ v' : Value, ∃ x : Nat, v' = v ∧ nx = .int .i64 (x : Int) ∧ x ≤ 16 ∧ nv = .int .i64 (k : Int) ∧ k ≤ 16 ∧ out.length + k ≤ 16 ∧ (out ++ (rIdxs k x r).1, (rIdxs k x r).2) = R ∧ Rd wx w.heap.size r.1 r.2 ∧ wx.ownsRow W0.heap.size 3 1 v' out.length (natV out) ∧ Mov w.heap.size W0 wx)
  case atStart => exact ⟨r2, [], _, 0, rfl, rfl, by omega, rfl, hq16, by simpa using hq16, HRR.out.symm, HR2.out, World.ownsRow_nil _ _ _ _, HM2.out⟩
  case round =>
    clear HR2 HRR HM2 hq16
    obtain ⟨r, out, v, x, rfl, rfl, hx16, rfl, hk16, hok, hR, hrd, hown, hmv⟩ := hrel
    have HRD : Hid (Rd wr w.heap.size r.1 r.2) := hrd
    have HO : Hid (wr.ownsRow W0.heap.size 3 1 v out.length (natV out)) := hown
    have HM : Hid (Mov w.heap.size W0 wr) := hmv
    have HEQ : Hid ((out ++ (rIdxs gk x r).1, (rIdxs gk x r).2) = R) := hR
    have de := hrd.e
    have hgw : w.heap.size < W0.heap.size := by rw [HZ0.out]; omega
    clear hR hrd hown hmv
    have FIN : ∀ (he : gk = 0 ∨ ¬ r.2 = 0), R = (out, r) := fun he => by
      rcases he with rfl | he
      · rw [← HEQ.out]; simp [rIdxs]
      · rw [← HEQ.out, rIdxs_bad _ _ r he]; simp
    by_cases h0 : gk = 0
    · subst h0
      have hq := FIN (.inl rfl)
      have HD := fun W h => done_any w.heap.size r.1 r.2 W h
      clear FIN
      go_wp2_with (go_at_call 29; go_must (refine (HD _ HRD.out).mono ?_); rintro x w4 ⟨rfl, hr, hm⟩; have HM4 := (show Hid (Mov w.heap.size wr w4) from hm); clear hr hm)
      go_ret3
      rw [HE3.out, hq]
      have hz0 := HB0.out.size
      refine ⟨v, rfl, own_base (own_mov HO.out HM4.out hgw) (by omega), HB0.out.trans ((HM.out.trans HM4.out).below (Nat.le_refl _) hz0)⟩
    · obtain ⟨k, rfl⟩ : ∃ k, gk = k + 1 := ⟨gk - 1, by omega⟩
      have hk : (0 : Int) < ((k + 1 : Nat) : Int) := by omega
      by_cases he : r.2 = 0
      · have HIX : Hid (Calls Tryd.prog 81 #[.pointer (some ⟨w.heap.size, 0, none⟩), .int .i64 (x : Int), .int .i64 16] wr fun y w' => y = .returned (.int .i64 ((rIndex x 16 r).1 : Int)) ∧ Rd w' w.heap.size (rIndex x 16 r).2.1 (rIndex x 16 r).2.2 ∧ Mov w.heap.size wr w') := index_any w.heap.size x 16 r.1 r.2 wr HRD.out (by omega) (by omega)
        have hlt := rIndex_lt x r
        have HEQ2 : Hid ((out ++ ((rIndex x 16 r).1 :: (rIdxs k ((rIndex x 16 r).1 + 1) (rIndex x 16 r).2).1), (rIdxs k ((rIndex x 16 r).1 + 1) (rIndex x 16 r).2).2) = R) := by
          show _ = _
          rw [← HEQ.out]
          show _ = (out ++ (if r.2 = 0 then _ else _ : List Nat × (List UInt8 × Int)).1, (if r.2 = 0 then _ else _ : List Nat × (List UInt8 × Int)).2)
          rw [if_pos he]
        rw [he] at de
        clear FIN HEQ
        generalize rIndex x 16 r = p3 at HIX hlt HEQ2
        obtain ⟨y, r3⟩ := p3
        have hy16 : y < 16 := hlt
        clear hlt
        go_upto_region 8 with fail
        go_upto_region 9 with (go_at_call 81; go_must (refine HIX.out.mono ?_); rintro x w1 ⟨rfl, hr1, hm1⟩; have HR1 := (show Hid (Rd w1 w.heap.size r3.1 r3.2) from hr1); have HM1 := (show Hid (Mov w.heap.size wr w1) from hm1); have HO1 : Hid (w1.ownsRow W0.heap.size 3 1 v out.length (natV out)) := own_mov HO.out hm1 hgw; have hsz1 := hm1.size; have hsz0 := HM.out.size; clear hr1 hm1 HIX)
        go_upto_region 10 with (at_builtin; go_must (refine wpList_append_lies _ rfl _ _ 37 rfl W0.heap.size 3 i0 (.int .i64 0) 1 8 Tryd.underlying37 hi hz0 hz1 hz2 rfl (by decide) v out.length (natV out) rfl (HO1.out.alloc _) ⟨w1.heap.size, 0, none⟩ 1 1 [.int .i64 (y : Int)] rfl rfl (one_new w1 _ _) (one_cell _) (by omega) (by unfold maxLen; omega) (by omega) (by simp; omega) _ rfl ?_); intro g4 c4 w4 ho hgr hat hlt4; have HO4 : Hid (w4.ownsRow W0.heap.size 3 1 (.slice (some ⟨g4, 0, none⟩) (out.length + 1) c4) (out.length + 1) (natV out ++ [.int .i64 (y : Int)])) := ho; have HB4 : Hid (Below W0.heap.size w1 w4) := ((Below.refl W0.heap.size w1).alloc (by omega) _).grown hgr (by simp; omega) (ownBlock_ge HO.out); clear ho hgr hat hlt4)
        go_wp2
        go_roundg k
        case measure => omega
        case rel =>
          have hll : (out ++ [y]).length = out.length + 1 := by simp
          refine ⟨r3, out ++ [y], _, y + 1, rfl, by go_num, by omega, by go_num, by omega, by rw [hll]; omega, ?_, HR1.out.laterB HB4.out hgw, ?_, (HM.out.trans HM1.out).onB HB4.out⟩
          · rw [← HEQ2.out]; simp
          · rw [hll, show natV (out ++ [y]) = natV out ++ [.int .i64 (y : Int)] by simp [natV]]; exact HO4.out
      · have hq := FIN (.inr he)
        have HD := fun W h => done_any w.heap.size r.1 r.2 W h
        clear FIN
        go_wp2_with (go_at_call 29; go_must (refine (HD _ HRD.out).mono ?_); rintro x w4 ⟨rfl, hr, hm⟩; have HM4 := (show Hid (Mov w.heap.size wr w4) from hm); clear hr hm)
        go_ret3
        rw [HE3.out, hq]
        have hz0 := HB0.out.size
        refine ⟨v, rfl, own_base (own_mov HO.out HM4.out hgw) (by omega), HB0.out.trans ((HM.out.trans HM4.out).below (Nat.le_refl _) hz0)⟩
end Go.Proofs.YtkmalggeieiepaaDoor
namespace Go.Proofs.YtkmalggeieiepaaDoor
open Go.RowKit

set_option maxRecDepth 10000 in
set_option maxHeartbeats 1000000 in
theorem Block_any (s : ByteArray) (w : World) (hl : s.size ≤ maxLen) :
    Calls Tryd.prog 37 #[.string s] w fun x w' => ∃ v, x = .returned (.tuple #[.string (ofL (rMsg 80 s.data.toList).1), v, .int .i64 (rMsg 80 s.data.toList).2.2]) ∧ w'.ownsRow w.heap.size 9 1 v (rMsg 80 s.data.toList).2.1.length (strB (rMsg 80 s.data.toList).2.1) ∧ Below w.heap.size w w' := by
  obtain ⟨W0, hW0⟩ : ∃ W, W = w.alloc (.cells #[.string s, .int .i64 0] 57) := ⟨_, rfl⟩
  have hR0 : Rd W0 w.heap.size s.data.toList 0 := by rw [hW0]; exact Rd.new w s _
  have HZ0 : Hid (W0.heap.size = w.heap.size + 1) := by show _ = _; rw [hW0]; simp
  have HB0 : Hid (Below w.heap.size w W0) := by show Below _ _ _; rw [hW0]; exact (Below.refl _ _).alloc (Nat.le_refl _) _
  have HE : Hid (rMsg 80 s.data.toList = ((rTake 80 (s.data.toList, 0)).1, ((rTxs (rWithin 1 16 (rTake 80 (s.data.toList, 0)).2).1 (rWithin 1 16 (rTake 80 (s.data.toList, 0)).2).2).1, (rDone (rTxs (rWithin 1 16 (rTake 80 (s.data.toList, 0)).2).1 (rWithin 1 16 (rTake 80 (s.data.toList, 0)).2).2).2).2))) := rfl
  generalize rMsg 80 s.data.toList = M at HE
  have hT : Calls Tryd.prog 58 #[.pointer (some ⟨w.heap.size, 0, none⟩), .int .i64 80] W0 fun x w' => x = .returned (.string (ofL (rTake 80 (s.data.toList, 0)).1)) ∧ Rd w' w.heap.size (rTake 80 (s.data.toList, 0)).2.1 (rTake 80 (s.data.toList, 0)).2.2 ∧ Mov w.heap.size W0 w' := take_any w.heap.size 80 s.data.toList 0 W0 hR0
  have hle1 : (rTake 80 (s.data.toList, 0)).2.1.length ≤ maxLen := Nat.le_trans (rTake_le 80 (s.data.toList, 0)) hl
  clear hR0
  generalize rTake 80 (s.data.toList, 0) = p1 at HE hT hle1
  obtain ⟨h1, r1⟩ := p1
  have HW : Hid (∀ W, Rd W w.heap.size r1.1 r1.2 → Calls Tryd.prog 59 #[.pointer (some ⟨w.heap.size, 0, none⟩), .int .i64 1, .int .i64 16] W fun x w' => x = .returned (.int .i64 ((rWithin 1 16 r1).1 : Int)) ∧ Rd w' w.heap.size (rWithin 1 16 r1).2.1 (rWithin 1 16 r1).2.2 ∧ Mov w.heap.size W w') := fun W h => within_p w.heap.size 1 16 r1 W h (by omega) (by omega)
  have hhi := rWithin_hi 1 16 r1
  have hle2 : (rWithin 1 16 r1).2.1.length ≤ maxLen := Nat.le_trans (rWithin_le 1 16 r1) hle1
  have HE2 : Hid (M = (h1, ((rTxs (rWithin 1 16 r1).1 (rWithin 1 16 r1).2).1, (rDone (rTxs (rWithin 1 16 r1).1 (rWithin 1 16 r1).2).2).2))) := HE.out
  clear HE hle1
  generalize rWithin 1 16 r1 = p2 at HW hhi hle2 HE2
  obtain ⟨q, r2⟩ := p2
  have HX : Hid (∀ W, Rd W w.heap.size r2.1 r2.2 → Calls Tryd.prog 72 #[.pointer (some ⟨w.heap.size, 0, none⟩), .int .i64 (q : Int)] W fun x w' => ∃ v, x = .returned v ∧ w'.ownsRow W.heap.size 9 1 v (rTxs q r2).1.length (strB (rTxs q r2).1) ∧ Rd w' w.heap.size (rTxs q r2).2.1 (rTxs q r2).2.2 ∧ Mov w.heap.size W w') := fun W h => txs_any w.heap.size q r2.1 r2.2 W h hle2 hhi
  have HE3 : Hid (M = (h1, ((rTxs q r2).1, (rDone (rTxs q r2).2).2))) := HE2.out
  clear HE2 hle2 hhi hl
  generalize rTxs q r2 = p3 at HX HE3
  obtain ⟨ts, m, c⟩ := p3
  go_enter Tryd.func37, Tryd.ntmps37
  go_upto_region 2 with fail
  rw [← hW0]
  clear hW0
  go_upto_region 3 with (go_at_call 58; go_must (refine hT.mono ?_); rintro x w1 ⟨rfl, hr, hm⟩; have HR1 := (show Hid (Rd w1 w.heap.size r1.1 r1.2) from hr); have HM1 := (show Hid (Mov w.heap.size W0 w1) from hm); clear hr hm)
  go_upto_region 4 with (first
    | (go_at_call 59; go_must (refine (HW.out _ HR1.out).mono ?_); rintro x w2 ⟨rfl, hr, hm⟩; have HR2 := (show Hid (Rd w2 w.heap.size r2.1 r2.2) from hr); have HM2 := (show Hid (Mov w.heap.size W0 w2) from HM1.out.trans hm); clear hr hm)
    | (go_at_call 72; go_must (refine (HX.out _ HR2.out).mono ?_); rintro x w3 ⟨v, rfl, ho, hr, hm⟩; have HR3 := (show Hid (Rd w3 w.heap.size m c) from hr); have HM3 := (show Hid (Mov w.heap.size W0 w3) from HM2.out.trans hm); have HO3 := (show Hid (w3.ownsRow w2.heap.size 9 1 v ts.length (strB ts)) from ho); clear ho hr hm))
  go_wp2_with (go_at_call 29; go_must (refine (done_any w.heap.size m c _ HR3.out).mono ?_); rintro x w4 ⟨rfl, hr, hm⟩; have HM4 := (show Hid (Mov w.heap.size w3 w4) from hm); clear hr hm)
  go_ret3
  have hz2 := HM2.out.size
  have hz0 := HB0.out.size
  have hlt := HZ0.out
  rw [HE3.out]
  refine ⟨v, rfl, ?_, HB0.out.trans ((HM3.out.trans HM4.out).below (Nat.le_refl _) hz0)⟩
  have h := own_mov HO3.out HM4.out (by omega)
  exact own_base h (by omega)
end Go.Proofs.YtkmalggeieiepaaDoor
