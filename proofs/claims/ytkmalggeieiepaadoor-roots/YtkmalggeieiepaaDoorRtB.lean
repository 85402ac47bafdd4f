import Derived.Test.YtkmalggeieiepaaDoorRefF
import Derived.Test.YtkmalggeieiepaaDoorRtA
namespace Go.Proofs.YtkmalggeieiepaaDoor
open Go.RowKit

theorem one_str (s : ByteArray) : ∀ u ∈ [Value.string s], u.oneCell' = true := by
  intro u hu; simp at hu; subst hu; rfl
theorem upL_32 (dd : ByteArray → ByteArray) (hdd : ∀ s, (dd s).size = 32) : ∀ l : List ByteArray, ∀ s ∈ upL dd l, s.size = 32
  | [], s, hs => by simp [upL] at hs
  | [_], s, hs => by simp [upL] at hs
  | a :: b :: r, s, hs => by
    simp only [upL, List.mem_cons] at hs
    rcases hs with rfl | hs
    · exact hdd _
    · exact upL_32 dd hdd r s hs
theorem evL_32 (l : List ByteArray) (h : ∀ s ∈ l, s.size = 32) : ∀ s ∈ evL l, s.size = 32 := by
  intro s hs
  unfold evL at hs
  split at hs
  · rename_i hodd
    rcases List.mem_append.1 hs with h1 | h1
    · exact h s h1
    · simp at h1
      subst h1
      have hlt : l.length - 1 < l.length := by omega
      rw [List.getElem?_eq_getElem hlt]
      exact h _ (List.getElem_mem hlt)
  · exact h s hs

set_option linter.unusedSimpArgs false in
set_option maxRecDepth 10000 in
set_option maxHeartbeats 4000000 in
theorem root_any (gt : Nat) (dd : ByteArray → ByteArray) (hdd : ∀ s, (dd s).size = 32) (l : List ByteArray) (b o cap : Nat) (w : World) (hs : SRow w b o l) (hne : 0 < l.length) (hlen : l.length ≤ 300) (h32 : ∀ s ∈ l, s.size = 32)
    (HTW : Hid (∀ (s : ByteArray) (W : World), s.size = 64 → Below w.heap.size w W → Calls Tryd.prog 13 #[.pointer (some ⟨gt, 0, none⟩), .string s] W fun e w' => e = .returned (.string (dd s)) ∧ Below W.heap.size W w')) :
    Calls Tryd.prog 15 #[.pointer (some ⟨gt, 0, none⟩), .slice (some ⟨b, o, none⟩) l.length cap] w fun e w' => e = .returned (.tuple #[.string (rootF dd l false).1, .bool (rootF dd l false).2]) ∧ Below w.heap.size w w' := by
  obtain ⟨i0, hi, hz0, hz1, hz2⟩ := info_parts infoStr
  have HDD : Hid (∀ s, (dd s).size = 32) := hdd
  clear hdd
  obtain ⟨R, HR⟩ : ∃ R, Hid (R = rootF dd l false) := ⟨_, rfl⟩
  rw [← HR.out]
  have HSTART : Hid (SRow w b o l ∧ 0 < l.length ∧ l.length ≤ 300 ∧ (∀ s ∈ l, s.size = 32)) := ⟨hs, hne, hlen, h32⟩
  clear hs hne hlen h32
  go_enter Tryd.func15, Tryd.ntmps15
  go_upto_region 2 with fail
  go_loopg [1, 6] l.length (fun g v t wx => ∃ m : List ByteArray, ∃ b o cap : Nat, ∃ tw : Bool, v = .slice (some ⟨b, o, none⟩) m.length cap ∧ t = .bool tw ∧ m.length ≤ g ∧ 0 < m.length ∧ m.length ≤ 300 ∧ (∀ s ∈ m, s.size = 32) ∧ rootF dd m tw = R ∧ SRow wx b o m ∧ Below w.heap.size w wx)
  case atStart => exact ⟨l, b, o, cap, false, rfl, rfl, Nat.le_refl _, HSTART.out.2.1, HSTART.out.2.2.1, HSTART.out.2.2.2, HR.out.symm, HSTART.out.1, Below.refl _ _⟩
  case round =>
    clear HSTART
    obtain ⟨m, b, o, cap, tw, rfl, rfl, hmg, hm0, hm300, hm32, hroot, hrow, hb⟩ := hrel
    have HROW : Hid (SRow wr b o m) := hrow
    have HB : Hid (Below w.heap.size w wr) := hb
    have HRT : Hid (rootF dd m tw = R) := hroot
    have H32 : Hid (∀ s ∈ m, s.size = 32) := hm32
    obtain ⟨G, hG0⟩ : ∃ G, G = gk := ⟨_, rfl⟩
    have HG : Hid (G = gk ∧ m.length ≤ G) := ⟨hG0, by rw [hG0]; exact hmg⟩
    obtain ⟨B1, hB1⟩ : ∃ B, B = wr.heap.size := ⟨_, rfl⟩
    have hbl := hrow.lt hm0
    rw [← hB1] at hbl
    have HB1 : Hid (B1 = wr.heap.size) := hB1
    clear hrow hb hroot hm32 hG0 hmg hB1
    by_cases h1 : 1 < m.length
    · go_upto_region 4 with fail
      obtain ⟨T2, HT2⟩ : ∃ T, Hid (T = (tw || twinL m)) := ⟨_, rfl⟩
      go_loopg [6, 7] m.length (fun g t i wx => ∃ tw' : Bool, ∃ k : Nat, t = .bool tw' ∧ i = .int .i64 (k : Int) ∧ (tw' || twinL (m.drop k)) = T2 ∧ k ≤ m.length + 1 ∧ m.length ≤ k + g ∧ SRow wx b o m ∧ B1 = wx.heap.size ∧ Below w.heap.size w wx)
      case atStart => exact ⟨tw, 0, rfl, rfl, HT2.out.symm, by omega, by omega, HROW.out, HB1.out, HB.out⟩
      case round =>
        clear HROW HB HB1
        obtain ⟨tw', k, rfl, rfl, htw, hk1, hkg, hrow, hB1, hb⟩ := hrel
        have HROW : Hid (SRow wr b o m) := hrow
        have HB : Hid (Below w.heap.size w wr) := hb
        have HTT : Hid ((tw' || twinL (m.drop k)) = T2) := htw
        have HB1 : Hid (B1 = wr.heap.size) := hB1
        have HKG : Hid (m.length ≤ k + gk) := hkg
        clear hb htw hB1 hkg
        by_cases hk : k + 1 < m.length
        · have hki : (k : Int) + 1 < (m.length : Int) := by omega
          have ck := hrow k (by omega)
          have ck1 := hrow (k + 1) hk
          have HTD := (show Hid (twinL (m.drop k) = ((m[k].toList == m[k + 1].toList) || twinL (m.drop (k + 2)))) from twinL_drop m k hk)
          generalize m[k] = x at ck HTD
          generalize m[k + 1] = y at ck1 HTD
          have hm300i : (m.length : Int) ≤ 300 := by omega
          clear hrow
          cases tw' with
          | true =>
            go_upto_region 6 with fail
            go_quiet (fail)
            go_wp2
            go_roundg (gk - 2)
            case measure => have := HKG.out; omega
            case rel =>
              have := HKG.out
              refine ⟨true, k + 2, rfl, by go_num, ?_, by omega, by omega, HROW.out, HB1.out, below_drewN HB.out _⟩
              rw [← HTT.out]; simp
          | false =>
            go_upto_region 6 with fail
            go_quiet (fail)
            go_wp2
            go_roundg (gk - 2)
            case measure => have := HKG.out; omega
            case rel =>
              have := HKG.out
              refine ⟨_, k + 2, rfl, by go_num, ?_, by omega, by omega, HROW.out, HB1.out, below_drewN HB.out _⟩
              rw [← HTT.out, HTD.out]; simp
        · have hki : ¬ ((k : Int) + 1 < (m.length : Int)) := by omega
          have htv : Hid (tw' = T2) := by
            show _ = _
            rw [← HTT.out, twinL_end m k (by omega)]; simp
          have hm300i : (m.length : Int) ≤ 300 := by omega
          clear hrow HTT
          rcases Nat.mod_two_eq_zero_or_one m.length with hodd | hodd
          case inl =>
            have hoi : ((m.length : Int) % 2) = 0 := by omega
            have hel : evL m = m := by unfold evL; rw [if_neg (by omega)]
            have HME : Hid ((evL m).length = m.length) := by show _ = _; rw [hel]
            have HROW' : Hid (SRow wr b o (evL m)) := by rw [hel]; exact HROW.out
            obtain ⟨n', hn'⟩ : ∃ n, n = m.length := ⟨_, rfl⟩
            have HMN : Hid ((evL m).length = n') := by show _ = _; rw [hn']; exact HME.out
            have hn3 : n' ≤ 301 := by omega
            have HB' := HB
            go_upto_region 9 with fail
            rw [← hn']
            clear hn'
            clear HB HROW hodd hoi hel HME
            obtain ⟨M, hM⟩ : ∃ M, M = evL m := ⟨_, rfl⟩
            have HM : Hid (M = evL m) := hM
            rw [← hM] at HROW' HMN
            have HML : Hid (M.length = m.length + m.length % 2) := by show _ = _; rw [hM]; exact evL_length m
            have HM32 : Hid (∀ s ∈ M, s.size = 32) := by rw [hM]; exact evL_32 m H32.out
            clear hM
            obtain ⟨BB, hBB⟩ : ∃ B, B = wr.heap.size := ⟨_, rfl⟩
            have HBB : Hid (BB = wr.heap.size) := hBB
            have hbB : b < BB := by rw [hBB]; exact HROW'.out.lt (by have := HML.out; omega)
            have hwBB : w.heap.size ≤ BB := by rw [hBB]; exact HB'.out.size
            clear hBB
            go_upto_region 11 with fail
            go_loopg [8, 9] n' (fun g v i wx => ∃ up : List ByteArray, ∃ v' : Value, v' = v ∧ i = .int .i64 ((2 * up.length : Nat) : Int) ∧ up ++ upL dd (M.drop (2 * up.length)) = upL dd M ∧ 2 * up.length + g = n' ∧ wx.ownsRow BB 9 1 v' up.length (strV up) ∧ BB ≤ wx.heap.size ∧ SRow wx b o M ∧ Below w.heap.size w wx)
            case atStart => exact ⟨[], _, rfl, rfl, rfl, by simp, World.ownsRow_nil _ _ _ _, Nat.le_of_eq HBB.out, HROW'.out, HB'.out⟩
            case round =>
              clear HROW' HB' HBB
              obtain ⟨up, v', rfl, rfl, hup, hug, hown, hBx, hrow, hb⟩ := hrel
              have HUP : Hid (up ++ upL dd (M.drop (2 * up.length)) = upL dd M) := hup
              have HUG : Hid (2 * up.length + gk = n') := hug
              have HO : Hid (wr.ownsRow BB 9 1 v' up.length (strV up)) := hown
              have HROW : Hid (SRow wr b o M) := hrow
              have HB : Hid (Below w.heap.size w wr) := hb
              obtain ⟨k, hk⟩ : ∃ k, k = 2 * up.length := ⟨_, rfl⟩
              have HK : Hid (k = 2 * up.length) := hk
              rw [← hk]
              have hmn := HMN.out
              by_cases hlt : k < n'
              · have hk1 : k + 1 < M.length := by have := HML.out; omega
                have ck := hrow k (by omega)
                have ck1 := hrow (k + 1) hk1
                have s1 := HM32.out _ (List.getElem_mem (by omega : k < M.length))
                have s2 := HM32.out _ (List.getElem_mem hk1)
                have HUD := (show Hid (upL dd (M.drop k) = dd (M[k] ++ M[k + 1]) :: upL dd (M.drop (k + 2))) from upL_drop dd M k hk1)
                generalize M[k] = x at ck s1 HUD
                generalize M[k + 1] = y at ck1 s2 HUD
                have hsz : (x ++ y).size = 64 := by rw [ByteArray.size_append, s1, s2]
                have hki : (k : Int) < (n' : Int) := by omega
                have hki1 : (k : Int) + 1 < (n' : Int) := by omega
                have yk : IntKind.i64.wrap ((k : Int) + 1) = (k : Int) + 1 := by rw [IntKind.wrap_i64]; omega
                have nk : ((k : Int) + 1).toNat = k + 1 := by omega
                have k0 : (0 : Int) ≤ (k : Int) + 1 := by omega
                have hn3i : (n' : Int) ≤ 301 := by omega
                have HSZ : Hid ((x ++ y).size = 64) := hsz
                have hul : up.length ≤ 301 := by omega
                obtain ⟨d, hd⟩ : ∃ d, d = dd (x ++ y) := ⟨_, rfl⟩
                have HD : Hid (d = dd (x ++ y)) := hd
                have HTC : Hid (∀ W : World, Below w.heap.size w W → Calls Tryd.prog 13 #[.pointer (some ⟨gt, 0, none⟩), .string (x ++ y)] W fun e w' => e = .returned (.string d) ∧ Below W.heap.size W w') := fun W hW => by rw [hd]; exact HTW.out _ W hsz hW
                clear hup hug hown hrow hb hk hmn hd hsz hk1
                go_upto_region 13 with fail
                go_region_law (first | (go_simp; go_at_call 13; refine (HTC.out _ HB.out.drew).mono ?_; rintro e w2 ⟨rfl, hb2⟩; have HB2 : Hid (Below wr.heap.size wr w2) := ((Below.refl _ wr).drew.trans hb2); have HO2 : Hid (w2.ownsRow BB 9 1 v' up.length (strV up)) := own_later HO.out HB2.out; clear hb2; dsimp only) | (refine step_append_lies _ rfl (.tmp 53) (.tmp 66) 30 rfl BB 9 i0 (.string ByteArray.empty) 1 16 Tryd.underlying30 hi hz0 hz1 hz2 rfl (by decide) v' up.length (strV up) (by simp [Act.eval, Act.put]) (HO2.out.alloc _) ⟨w2.heap.size, 0, none⟩ 1 1 [.string d] (by simp [Act.eval, Act.put]) rfl (one_new w2 _ _) (one_str _) (by omega) (by unfold maxLen; omega) (by omega) (by have := HB2.out.size; first | omega | (simp; omega)) _ rfl ?_; intro g4 c4 w4 ho hgr hg hlt4; have HO4 : Hid (w4.ownsRow BB 9 1 (.slice (some ⟨g4, 0, none⟩) (up.length + 1) c4) (up.length + 1) (strV up ++ [.string d])) := ho; have HB4 : Hid (Below BB wr w4) := ((HB2.out.mono hBx).alloc (by have := HB2.out.size; omega) _).grown hgr (by have := HB2.out.size; first | omega | (simp; omega)) (ownBlock_ge HO.out); clear ho hgr hg hlt4))
                all_goals
                  go_wp2
                  go_roundg (gk - 2)
                  case measure => have := HUG.out; have := HK.out; have := HMN.out; have := HML.out; omega
                  case rel =>
                    have h1 := HUG.out
                    have h2 := HK.out
                    have h3 := HML.out
                    have h4 := HMN.out
                    have h5 := HB4.out.size
                    have hl : (up ++ [d]).length = up.length + 1 := by simp
                    refine ⟨up ++ [d], _, rfl, by rw [hl, h2]; go_num, ?_, by rw [hl]; omega, ?_, by omega, HROW.out.later HB4.out hbB, HB.out.trans (HB4.out.mono hwBB)⟩
                    · rw [hl, ← HUP.out, ← h2, HUD.out, HD.out, show 2 * (up.length + 1) = k + 2 by omega]; simp
                    · rw [hl, show strV (up ++ [d]) = strV up ++ [.string d] by simp [strV]]; exact HO4.out
              · have hke : M.length = k := by have := HUG.out; omega
                have HUF : Hid (up = upL dd M) := by
                  show _ = _
                  rw [← HUP.out, ← hk, ← hke, List.drop_length]; simp [upL]
                have hu0 : 0 < up.length := by have := HML.out; omega
                obtain ⟨g9, c9, rfl, _, _⟩ := hown.form hu0
                have HR9 : Hid (SRow wr g9 0 up) := own_srow rfl hown
                clear hup hug hown hrow hb
                go_wp2
                go_roundg up.length
                case measure =>
                  have h1 := HG.out
                  have h3 := HML.out
                  omega
                case rel =>
                  have h3 := HML.out
                  refine ⟨up, g9, 0, c9, _, rfl, rfl, Nat.le_refl _, hu0, by omega, ?_, ?_, HR9.out, HB.out⟩
                  · rw [HUF.out]; exact upL_32 dd HDD.out _
                  · rw [htv.out, HT2.out, HUF.out, HM.out, ← rootF_up dd m tw h1]; exact HRT.out
          case inr =>
            have hoi : ((m.length : Int) % 2) = 1 := by omega
            have hel : evL m = m ++ [m.getD (m.length - 1) ByteArray.empty] := by unfold evL; rw [if_pos hodd]
            have cl := HROW.out (m.length - 1) (by omega)
            have HLAST : Hid (m.getD (m.length - 1) ByteArray.empty = m[m.length - 1]'(by omega)) := by
              show _ = _
              rw [List.getD_eq_getElem?_getD, List.getElem?_eq_getElem (by omega : m.length - 1 < m.length)]; rfl
            generalize m[m.length - 1]'(by omega) = z at cl HLAST
            have HEL : Hid (evL m = m ++ [z]) := by show _ = _; rw [hel, HLAST.out]
            have hB1 := HB1.out
            have nl : ((m.length : Int) - 1).toNat = m.length - 1 := by omega
            have yw : IntKind.i64.wrap ((m.length : Int) - 1) = (m.length : Int) - 1 := by rw [IntKind.wrap_i64]; omega
            have l3 : (0 : Int) ≤ (m.length : Int) - 1 := by omega
            have l4 : (1 : Int) ≤ (m.length : Int) := by omega
            have l5 : (m.length : Int) - 1 < (m.length : Int) := by omega
            clear hel HLAST
            go_upto_region 8 with fail
            go_cut [1] (fun v wx => ∃ b' cap' : Nat, v = .slice (some ⟨b', 0, none⟩) (m.length + 1) cap' ∧ SRow wx b' 0 (evL m) ∧ Below w.heap.size w wx)
            case first =>
              go_region_law (first | (refine step_append_lies _ rfl (.const (.slice none 0 0)) (.tmp 37) 30 rfl B1 9 i0 (.string ByteArray.empty) 1 16 Tryd.underlying30 hi hz0 hz1 hz2 rfl (by decide) (.slice none 0 0) 0 [] rfl (World.ownsRow_nil _ _ _ _) ⟨b, o, none⟩ m.length cap (strV m) (by simp [Act.eval, Act.put]) (by simp [strV]) (srow_news (HROW.out.later (B := B1) (by first | exact (Below.refl B1 wr).drew | exact ((Below.refl B1 wr).alloc (by omega) _).drew | exact ((Below.refl B1 wr).drew.alloc (by first | omega | (simp; done) | (simp; omega)) _)) hbl)) (str_one _) (by omega) (by unfold maxLen; omega) (by omega) (by first | omega | (simp; done) | (simp; omega)) _ rfl ?_; intro g1 c1 w1 ho hgr hat hlt1; have HO1 : Hid (w1.ownsRow B1 9 1 (.slice (some ⟨g1, 0, none⟩) (0 + m.length) c1) (0 + m.length) ([] ++ strV m)) := ho; have HL1 : Hid (Below B1 wr w1) := (show Below B1 wr _ by first | exact (Below.refl B1 wr).drew | exact ((Below.refl B1 wr).alloc (by omega) _).drew | exact ((Below.refl B1 wr).drew.alloc (by first | omega | (simp; done) | (simp; omega)) _)).grown hgr (by first | omega | (simp; done) | (simp; omega)) (fun q hq => by cases hq); have HGR := (show Hid (World.grownBy _ w1 _) from hgr); have cl1 : w1.cell? ⟨b, o + (m.length - 1), none⟩ = some (.string z) := (by rw [HL1.out.cell (p := ⟨b, o + (m.length - 1), none⟩) hbl]; exact cl); clear ho hgr hat hlt1) | (refine step_append_lies _ rfl (.tmp 38) (.tmp 45) 30 rfl B1 9 i0 (.string ByteArray.empty) 1 16 Tryd.underlying30 hi hz0 hz1 hz2 rfl (by decide) (.slice (some ⟨g1, 0, none⟩) (0 + m.length) c1) (0 + m.length) ([] ++ strV m) (by simp [Act.eval, Act.put]) (HO1.out.alloc _) ⟨w1.heap.size, 0, none⟩ 1 1 [.string z] (by simp [Act.eval, Act.put]) rfl (one_new w1 _ _) (one_str _) (by omega) (by unfold maxLen; omega) (by omega) (by have := HL1.out.size; first | omega | (simp; omega)) _ rfl ?_; intro g2 c2 w2 ho hgr hat hlt2; have HO2 : Hid (w2.ownsRow B1 9 1 (.slice (some ⟨g2, 0, none⟩) (0 + m.length + 1) c2) (0 + m.length + 1) ([] ++ strV m ++ [.string z])) := ho; have HL2 : Hid (Below B1 wr w2) := (show Below B1 wr _ by first | exact HL1.out | exact HL1.out.alloc (by have := HL1.out.size; omega) _).grown hgr (by have := HL1.out.size; first | omega | (simp; omega)) (ownBlock_ge HO1.out); clear ho hgr hat hlt2) | (refine step_append_lies _ rfl (.tmp 38) (.tmp 45) 30 rfl B1 9 i0 (.string ByteArray.empty) 1 16 Tryd.underlying30 hi hz0 hz1 hz2 rfl (by decide) (.slice (some ⟨g1, 0, none⟩) (0 + m.length) c1) (0 + m.length) ([] ++ strV m) (by simp [Act.eval, Act.put]) HO1.out ⟨wr.heap.size, 0, none⟩ 1 1 [.string z] (by simp [Act.eval, Act.put]) rfl (fun j u hu => by rw [HGR.out.cell_far _ (by rw [Addr.add_mid]; simp) (by simp [Value.ownBlock])]; exact one_new wr (.string z) 9 j u hu) (one_str _) (by omega) (by unfold maxLen; omega) (by omega) (by have := HL1.out.size; first | omega | (simp; omega)) _ rfl ?_; intro g2 c2 w2 ho hgr hat hlt2; have HO2 : Hid (w2.ownsRow B1 9 1 (.slice (some ⟨g2, 0, none⟩) (0 + m.length + 1) c2) (0 + m.length + 1) ([] ++ strV m ++ [.string z])) := ho; have HL2 : Hid (Below B1 wr w2) := (show Below B1 wr _ by first | exact HL1.out | exact HL1.out.alloc (by have := HL1.out.size; omega) _).grown hgr (by have := HL1.out.size; first | omega | (simp; omega)) (ownBlock_ge HO1.out); clear ho hgr hat hlt2))
              all_goals
                go_wp2_with fail
                go_meet
                have hwB : w.heap.size ≤ B1 := by have := HB.out.size; omega
                refine ⟨g2, c2, by simp, ?_, HB.out.trans (HL2.out.mono hwB)⟩
                have h := HO2.out
                rw [show ([] ++ strV m ++ [Value.string z]) = strV (m ++ [z]) by simp [strV], Nat.zero_add] at h
                rw [HEL.out]
                exact own_srow (by simp) h
            case rest =>
              obtain ⟨b', cap', rfl, hrow', hb'⟩ := hcut
              clear HROW HB cl hbl
              obtain ⟨b, hbb⟩ : ∃ b, b = b' := ⟨_, rfl⟩
              obtain ⟨o, hoo⟩ : ∃ o, o = 0 := ⟨_, rfl⟩
              obtain ⟨cap, hcc⟩ : ∃ c, c = cap' := ⟨_, rfl⟩
              obtain ⟨n', hn'⟩ : ∃ n, n = m.length + 1 := ⟨_, rfl⟩
              subst hbb hoo hcc
              have HROW' : Hid (SRow wc b 0 (evL m)) := hrow'
              have HB' : Hid (Below w.heap.size w wc) := hb'
              have HMN : Hid ((evL m).length = n') := by show _ = _; rw [HEL.out, hn']; simp
              have hn3 : n' ≤ 301 := by omega
              rw [← hn']
              clear hn' hrow' hb' hodd hoi nl yw l3 l4 l5 HEL
              go_upto_region 9 with fail
              obtain ⟨M, hM⟩ : ∃ M, M = evL m := ⟨_, rfl⟩
              have HM : Hid (M = evL m) := hM
              rw [← hM] at HROW' HMN
              have HML : Hid (M.length = m.length + m.length % 2) := by show _ = _; rw [hM]; exact evL_length m
              have HM32 : Hid (∀ s ∈ M, s.size = 32) := by rw [hM]; exact evL_32 m H32.out
              clear hM
              obtain ⟨BB, hBB⟩ : ∃ B, B = wc.heap.size := ⟨_, rfl⟩
              have HBB : Hid (BB = wc.heap.size) := hBB
              have hbB : b < BB := by rw [hBB]; exact HROW'.out.lt (by have := HML.out; omega)
              have hwBB : w.heap.size ≤ BB := by rw [hBB]; exact HB'.out.size
              clear hBB
              go_upto_region 11 with fail
              go_loopg [8, 9] n' (fun g v i wx => ∃ up : List ByteArray, ∃ v' : Value, v' = v ∧ i = .int .i64 ((2 * up.length : Nat) : Int) ∧ up ++ upL dd (M.drop (2 * up.length)) = upL dd M ∧ 2 * up.length + g = n' ∧ wx.ownsRow BB 9 1 v' up.length (strV up) ∧ BB ≤ wx.heap.size ∧ SRow wx b 0 M ∧ Below w.heap.size w wx)
              case atStart => exact ⟨[], _, rfl, rfl, rfl, by simp, World.ownsRow_nil _ _ _ _, Nat.le_of_eq HBB.out, HROW'.out, HB'.out⟩
              case round =>
                clear HROW' HB' HBB
                obtain ⟨up, v', rfl, rfl, hup, hug, hown, hBx, hrow, hb⟩ := hrel
                have HUP : Hid (up ++ upL dd (M.drop (2 * up.length)) = upL dd M) := hup
                have HUG : Hid (2 * up.length + gk = n') := hug
                have HO : Hid (wr.ownsRow BB 9 1 v' up.length (strV up)) := hown
                have HROW : Hid (SRow wr b 0 M) := hrow
                have HB : Hid (Below w.heap.size w wr) := hb
                obtain ⟨k, hk⟩ : ∃ k, k = 2 * up.length := ⟨_, rfl⟩
                have HK : Hid (k = 2 * up.length) := hk
                rw [← hk]
                have hmn := HMN.out
                by_cases hlt : k < n'
                · have hk1 : k + 1 < M.length := by have := HML.out; omega
                  have ck := hrow k (by omega)
                  have ck1 := hrow (k + 1) hk1
                  rw [Nat.zero_add] at ck ck1
                  have s1 := HM32.out _ (List.getElem_mem (by omega : k < M.length))
                  have s2 := HM32.out _ (List.getElem_mem hk1)
                  have HUD := (show Hid (upL dd (M.drop k) = dd (M[k] ++ M[k + 1]) :: upL dd (M.drop (k + 2))) from upL_drop dd M k hk1)
                  generalize M[k] = x at ck s1 HUD
                  generalize M[k + 1] = y at ck1 s2 HUD
                  have hsz : (x ++ y).size = 64 := by rw [ByteArray.size_append, s1, s2]
                  have hki : (k : Int) < (n' : Int) := by omega
                  have hki1 : (k : Int) + 1 < (n' : Int) := by omega
                  have yk : IntKind.i64.wrap ((k : Int) + 1) = (k : Int) + 1 := by rw [IntKind.wrap_i64]; omega
                  have nk : ((k : Int) + 1).toNat = k + 1 := by omega
                  have k0 : (0 : Int) ≤ (k : Int) + 1 := by omega
                  have hn3i : (n' : Int) ≤ 301 := by omega
                  have HSZ : Hid ((x ++ y).size = 64) := hsz
                  have hul : up.length ≤ 301 := by omega
                  obtain ⟨d, hd⟩ : ∃ d, d = dd (x ++ y) := ⟨_, rfl⟩
                  have HD : Hid (d = dd (x ++ y)) := hd
                  have HTC : Hid (∀ W : World, Below w.heap.size w W → Calls Tryd.prog 13 #[.pointer (some ⟨gt, 0, none⟩), .string (x ++ y)] W fun e w' => e = .returned (.string d) ∧ Below W.heap.size W w') := fun W hW => by rw [hd]; exact HTW.out _ W hsz hW
                  clear hup hug hown hrow hb hk hmn hd hsz hk1
                  go_upto_region 13 with fail
                  go_region_law (first | (go_simp; go_at_call 13; refine (HTC.out _ HB.out.drew).mono ?_; rintro e w2 ⟨rfl, hb2⟩; have HB2 : Hid (Below wr.heap.size wr w2) := ((Below.refl _ wr).drew.trans hb2); have HO2 : Hid (w2.ownsRow BB 9 1 v' up.length (strV up)) := own_later HO.out HB2.out; clear hb2; dsimp only) | (refine step_append_lies _ rfl (.tmp 53) (.tmp 66) 30 rfl BB 9 i0 (.string ByteArray.empty) 1 16 Tryd.underlying30 hi hz0 hz1 hz2 rfl (by decide) v' up.length (strV up) (by simp [Act.eval, Act.put]) (HO2.out.alloc _) ⟨w2.heap.size, 0, none⟩ 1 1 [.string d] (by simp [Act.eval, Act.put]) rfl (one_new w2 _ _) (one_str _) (by omega) (by unfold maxLen; omega) (by omega) (by have := HB2.out.size; first | omega | (simp; omega)) _ rfl ?_; intro g4 c4 w4 ho hgr hg hlt4; have HO4 : Hid (w4.ownsRow BB 9 1 (.slice (some ⟨g4, 0, none⟩) (up.length + 1) c4) (up.length + 1) (strV up ++ [.string d])) := ho; have HB4 : Hid (Below BB wr w4) := ((HB2.out.mono hBx).alloc (by have := HB2.out.size; omega) _).grown hgr (by have := HB2.out.size; first | omega | (simp; omega)) (ownBlock_ge HO.out); clear ho hgr hg hlt4))
                  all_goals
                    go_wp2
                    go_roundg (gk - 2)
                    case measure => have := HUG.out; have := HK.out; have := HMN.out; have := HML.out; omega
                    case rel =>
                      have h1 := HUG.out
                      have h2 := HK.out
                      have h3 := HML.out
                      have h4 := HMN.out
                      have h5 := HB4.out.size
                      have hl : (up ++ [d]).length = up.length + 1 := by simp
                      refine ⟨up ++ [d], _, rfl, by rw [hl, h2]; go_num, ?_, by rw [hl]; omega, ?_, by omega, HROW.out.later HB4.out hbB, HB.out.trans (HB4.out.mono hwBB)⟩
                      · rw [hl, ← HUP.out, ← h2, HUD.out, HD.out, show 2 * (up.length + 1) = k + 2 by omega]; simp
                      · rw [hl, show strV (up ++ [d]) = strV up ++ [.string d] by simp [strV]]; exact HO4.out
                · have hke : M.length = k := by have := HUG.out; omega
                  have HUF : Hid (up = upL dd M) := by
                    show _ = _
                    rw [← HUP.out, ← hk, ← hke, List.drop_length]; simp [upL]
                  have hu0 : 0 < up.length := by have := HML.out; omega
                  obtain ⟨g9, c9, rfl, _, _⟩ := hown.form hu0
                  have HR9 : Hid (SRow wr g9 0 up) := own_srow rfl hown
                  clear hup hug hown hrow hb
                  go_wp2
                  go_roundg up.length
                  case measure =>
                    have h1 := HG.out
                    have h3 := HML.out
                    omega
                  case rel =>
                    have h3 := HML.out
                    refine ⟨up, g9, 0, c9, _, rfl, rfl, Nat.le_refl _, hu0, by omega, ?_, ?_, HR9.out, HB.out⟩
                    · rw [HUF.out]; exact upL_32 dd HDD.out _
                    · rw [htv.out, HT2.out, HUF.out, HM.out, ← rootF_up dd m tw h1]; exact HRT.out
    · have hm1 : m.length = 1 := by omega
      have c0 := HROW.out 0 (by omega)
      have HF : Hid (R = (m[0], tw)) := by
        show _ = _
        rw [← HRT.out, rootF_one dd m tw hm1, List.getD_eq_getElem?_getD, List.getElem?_eq_getElem (by omega : 0 < m.length)]; rfl
      have e0 : o + 0 = o := rfl
      rw [e0] at c0
      rw [hm1]
      generalize m[0] = x0 at c0 HF
      clear h1 e0
      go_wp2
      go_ret2
      refine ⟨by rw [HF.out]; rfl, HB.out⟩
end Go.Proofs.YtkmalggeieiepaaDoor
