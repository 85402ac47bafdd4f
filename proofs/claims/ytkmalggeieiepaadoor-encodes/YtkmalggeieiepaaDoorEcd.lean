import Derived.Test.YtkmalggeieiepaaDoorEcc
import Derived.WalkKit
import Derived.WalkSpells
import Derived.WalkLawsBesides
import Derived.Deep.LoopGhost
import Derived.Deep.DeepCutAuto
import Derived.Deep.AppendLies
import Derived.Test.YtkmalggeieiepaaDoorEcb
import Derived.Test.YtkmalggeieiepaaDoorTxtA
import Derived.Lib.AppendStr
import Derived.OwnWalk
import Derived.Deep.MidRow
import Derived.Test.YtkmalggeieiepaaDoorEca
import Derived.Lib.LazyBuf
import Derived.Stop.BytesEq
import Derived.Test.YtkmalggeieiepaaDoorRows
import Derived.RegionTactic
import Derived.Orders
import Derived.OrdersHeld
import Derived.Deep.RegionHeld
namespace Go.Proofs.YtkmalggeieiepaaDoor
open Go.RowKit

theorem mem_take_succ (l : List Int) (x : Int) (j : Nat) (h : j < l.length) : x ∈ l.take (j + 1) ↔ x ∈ l.take j ∨ l[j] = x := by
  rw [List.take_succ_eq_append_getElem h, List.mem_append, List.mem_singleton]
  exact ⟨fun h => h.imp id Eq.symm, fun h => h.imp id Eq.symm⟩
theorem flat_six (l : List (List UInt8)) (h : ∀ x ∈ l, x.length = 6) : l.flatten.length = 6 * l.length := by
  induction l with
  | nil => rfl
  | cons a l ih =>
    have h1 := h a (by simp)
    have h2 := ih (fun x hx => h x (by simp [hx]))
    simp only [List.flatten_cons, List.length_append, List.length_cons]; omega

set_option maxRecDepth 10000 in
set_option maxHeartbeats 8000000 in
theorem Encode_good (gt : Nat) (dg : ByteArray → ByteArray) (hdg : ∀ s, (dg s).size = 32) (h : List UInt8) (T : List (List UInt8)) (s : ByteArray) (n : Nat) (al : List Int) (a : Option Addr) (cap : Nat) (w : World)
    (HB : Calls Tryd.prog 37 #[.string s] w fun x w' => ∃ v, x = .returned (.tuple #[.string (ofL h), v, .int .i64 0]) ∧ w'.ownsRow w.heap.size 9 1 v T.length (strB T) ∧ Below w.heap.size w w')
    (hr : 0 < al.length → ∃ b o, a = some ⟨b, o, none⟩ ∧ VRow w b o (intV al)) (hal : al.length ≤ 1048576) (hE : alE T.length al = 0) (hn : U64 n) (hh : h.length ≤ 80) (hT : T.length ≤ 16) (hS : ∀ x ∈ T, x.length ≤ 610)
    (HS : Hid (∀ (s : ByteArray) (W : World), s.size ≤ 1048576 → Below w.heap.size w W → Calls Tryd.prog 10 #[.pointer (some ⟨gt, 0, none⟩), .string s] W fun e w' => e = .returned (.string (dg s)) ∧ Below W.heap.size W w')) :
    Calls Tryd.prog 17 #[.pointer (some ⟨gt, 0, none⟩), .string s, .int .u64 (n : Int), .slice a al.length cap] w fun x w' => x = .returned (.tuple #[.string (ofL (encL (fun x => shortL dg (ofL h) (ofL (le n 8)) (ofL x)) h (le n 8) T al)), .int .i64 0]) ∧ Below w.heap.size w w' := by
  obtain ⟨i0, hi, hz0, hz1, hz2⟩ := info_parts infoStr
  obtain ⟨hE1, hE2, hE3⟩ := alE_ok _ _ hE
  have HR : Hid (0 < al.length → ∃ b o, a = some ⟨b, o, none⟩ ∧ VRow w b o (intV al)) := hr
  have HALR : Hid (alR T.length (-1) al = 0) := hE1
  have hal0 : 0 < al.length := List.length_pos_iff.2 hE2
  have hal16 : al.length ≤ 16 := by have h1 := plc_len T al hE; have h2 := plc_le al T 0; omega
  have HHD : Hid (al.headD 0 = 0) := hE3
  have HST : Hid (∀ x ∈ T, x.length ≤ 610) := hS
  have h8 : (ofL (le n 8)).size = 8 := by rw [ofL_size, le_length]
  have hhs : (ofL h).size ≤ 80 := by rw [ofL_size]; exact hh
  have HBY : Hid (∀ W, Calls Tryd.prog 38 #[.int .u64 (n : Int), .int .i64 8] W fun x w' => x = .returned (.string (ofL (le n 8))) ∧ Below W.heap.size W w') := fun W => bytes_any n 8 W hn (by omega)
  have HSZ : Hid (∀ (k : Nat) (W : World), k ≤ 1048576 → Calls Tryd.prog 39 #[.int .u64 (k : Int)] W fun x w' => x = .returned (.string (ofL (sizeL k))) ∧ Below W.heap.size W w') := fun k W hk => Size_any k W (by unfold U64; omega)
  have HSH : Hid (∀ (x : List UInt8) (W : World), x.length ≤ 610 → Below w.heap.size w W → Calls Tryd.prog 40 #[.pointer (some ⟨gt, 0, none⟩), .string (ofL h), .string (ofL (le n 8)), .string (ofL x)] W fun e w' => e = .returned (.string (ofL (shortL dg (ofL h) (ofL (le n 8)) (ofL x)))) ∧ Below W.heap.size W w') := fun x W hx hW => short_of gt dg hdg (ofL h) (ofL (le n 8)) (ofL x) W (by omega) (by omega) (by rw [ofL_size]; omega) (fun s W' hs hW' => HS.out s W' hs (hW.trans (hW'.mono hW.size)))
  have HS6 : Hid (∀ x, (shortL dg (ofL h) (ofL (le n 8)) (ofL x)).length = 6) := fun x => le_length _ _
  have HEN : Hid (∀ sh, encL sh h (le n 8) T al = h ++ le n 8 ++ (sizeL (oth al 0 T).length ++ ((oth al 0 T).map sh).flatten) ++ (sizeL al.length ++ wrt 0 (plc al 0 T))) := fun _ => rfl
  have HA1 : Hid (ofL h ++ ofL (le n 8) = ofL (h ++ le n 8)) := ofL_append _ _
  have HZ2 : Hid ((ofL (h ++ le n 8)).size ≤ 88) := by show _ ≤ _; rw [ofL_size, List.length_append, le_length]; omega
  clear hr hE hE1 hE2 hE3 hS hn HS hdg
  obtain ⟨sh, hsh⟩ : ∃ sh : List UInt8 → List UInt8, sh = fun x => shortL dg (ofL h) (ofL (le n 8)) (ofL x) := ⟨_, rfl⟩
  rw [← hsh]
  have HSH' : Hid (∀ (x : List UInt8) (W : World), x.length ≤ 610 → Below w.heap.size w W → Calls Tryd.prog 40 #[.pointer (some ⟨gt, 0, none⟩), .string (ofL h), .string (ofL (le n 8)), .string (ofL x)] W fun e w' => e = .returned (.string (ofL (sh x))) ∧ Below W.heap.size W w') := by rw [hsh]; exact HSH
  have HS6' : Hid (∀ x, (sh x).length = 6) := by rw [hsh]; exact HS6
  clear HSH HS6 hsh
  generalize le n 8 = nb at *
  generalize (n : Int) = NI at *
  obtain ⟨HH, hHH⟩ : ∃ x, x = ofL h := ⟨_, rfl⟩
  obtain ⟨NB, hNB⟩ : ∃ x, x = ofL nb := ⟨_, rfl⟩
  rw [← hHH] at HB hhs HSH' HA1
  rw [← hNB] at h8 HBY HSH' HA1
  clear hHH hNB
  go_enter Tryd.func17, Tryd.ntmps17
  go_upto_region 4 with (go_at_call 37; go_must (refine HB.mono ?_); rintro e w1 ⟨v1, rfl, ho1, hb1⟩; obtain ⟨a1, c1, hv1, _, hr1⟩ := own_sval (l := T.map ofL) (by rw [List.length_map]; exact ho1); rw [List.length_map] at hv1 hr1; subst hv1; have HR1 := (show Hid (0 < T.length → ∃ b o, a1 = some ⟨b, o, none⟩ ∧ SRow w1 b o (T.map ofL)) from hr1); have HB1 := (show Hid (Below w.heap.size w w1) from hb1); clear ho1 hb1 hr1)
  clear HB
  go_upto_region 5 with fail
  go_loopg [35] al.length (fun g i wx => ∃ j : Nat, j + g = al.length ∧ i = .int .i64 (j : Int) ∧ alR T.length (ahead al j) (al.drop j) = 0 ∧ wx = w1)
  case atStart => exact ⟨0, by omega, rfl, HALR.out, rfl⟩
  case round =>
    obtain ⟨j, hj, rfl, hno, rfl⟩ := hrel
    have HNO : Hid (alR T.length (ahead al j) (al.drop j) = 0) := hno
    clear hno
    by_cases hlt : j < al.length
    · obtain ⟨b, o, rfl, hrow⟩ := HR.out (by omega)
      have hbw := hrow.lt (by simp [intV]; omega)
      have hrw := hrow.later HB1.out hbw
      have cj : wr.cell? ⟨b, o + j, none⟩ = some (.int .i64 al[j]) := by
        have := hrw j (by simp [intV]; omega)
        rw [this]; simp [intV]
      have hji : (j : Int) < (al.length : Int) := by omega
      obtain ⟨q1, q2, q3, q4⟩ := alR_zero T.length al j hlt HNO.out
      have HNX : Hid (alR T.length (ahead al (j + 1)) (al.drop (j + 1)) = 0) := q4
      have HAH : Hid (0 < j → ∃ y, ahead al j = y ∧ wr.cell? ⟨b, o + (j - 1), none⟩ = some (.int .i64 y)) := fun h0 => by
        refine ⟨al[j - 1]'(by omega), by simp [ahead, show j ≠ 0 by omega, List.getD, show j - 1 < al.length by omega], ?_⟩
        have := hrw (j - 1) (by simp [intV]; omega)
        rw [this]; simp [intV]
      generalize al[j] = x at cj q1 q2 q3
      clear hrow hrw q4
      by_cases h0 : j = 0
      · have hjp : ¬ ((0 : Int) < (j : Int)) := by omega
        clear h0 q3
        go_wp2
        go_roundg (gk - 1)
        case measure => omega
        case rel => exact ⟨j + 1, by omega, by go_num, HNX.out, rfl⟩
      · obtain ⟨y, hy, cy⟩ := HAH.out (by omega)
        rw [hy] at q3
        clear hy
        have hjp : (0 : Int) < (j : Int) := by omega
        have hj1 : wrap64 ((j : Int) - 1) = ((j - 1 : Nat) : Int) := by unfold wrap64; omega
        go_wp2
        go_roundg (gk - 1)
        case measure => omega
        case rel => exact ⟨j + 1, by omega, by go_num, HNX.out, rfl⟩
    · obtain rfl : j = al.length := by omega
      obtain ⟨b, o, rfl, hrow⟩ := HR.out hal0
      have hbw := hrow.lt (by simp [intV]; omega)
      have c0 : wr.cell? ⟨b, o, none⟩ = some (.int .i64 0) := by
        have := (hrow.later HB1.out hbw) 0 (by simp [intV]; omega)
        rw [Nat.add_zero] at this
        rw [this]
        have h2 := HHD.out
        cases al with
        | nil => simp at hal0
        | cons x l => simp [intV] at h2 ⊢; exact h2
      have HROW : Hid (VRow w b o (intV al)) := hrow
      have hzb : ((al.length : Int) == 0) = false := by
        rw [beq_eq_false_iff_ne]; omega
      have hpi : (0 : Int) < (al.length : Int) := by omega
      clear hrow hj HNO
      go_upto_region 14 with fail
      clear c0
      go_upto_region 19 with (first
        | (go_at_call 38; go_must (refine (HBY.out _).mono ?_); rintro e w3 ⟨rfl, hb3⟩; have HB3 := (show Hid (Below wr.heap.size wr w3) from hb3); clear hb3)
        | (go_at_call 39; go_must (refine (HSZ.out al.length _ hal).mono ?_); rintro e w4 ⟨rfl, hb4⟩; have HB4 := (show Hid (Below wr.heap.size wr w4) from HB3.out.trans (hb4.mono HB3.out.size)); clear hb4))
      have HWW4 : Hid (Below w.heap.size w w4) := HB1.out.trans (HB4.out.mono HB1.out.size)
      have hz1w := HB1.out.size
      have hz4w := HB4.out.size
      clear HALR HHD HBY HR hzb hpi HB3
      generalize wr = W1 at *
      go_loopg [16, 17, 18, 77] T.length (fun g vs st nx i wx => ∃ j : Nat, ∃ vs' : Value, vs' = vs ∧ j + g = T.length ∧ st = .string (ofL (sizeL al.length ++ wrt 0 (plc al 0 (T.take j)))) ∧ nx = .int .i64 (nxt 0 (plc al 0 (T.take j)) : Int) ∧ i = .int .i64 (j : Int) ∧ wx.ownsRow w4.heap.size 9 1 vs' (oth al 0 (T.take j)).length (strB ((oth al 0 (T.take j)).map sh)) ∧ Below w4.heap.size w4 wx)
      case atStart => exact ⟨0, _, rfl, by omega, by simp [wrt, plc], by simp [nxt, plc], rfl, by simpa [oth, strB, strV] using World.ownsRow_nil _ _ _ _, Below.refl _ _⟩
      case round =>
        obtain ⟨j, vs, rfl, hjg, rfl, rfl, rfl, hown, hb⟩ := hrel
        have HO : Hid (wr.ownsRow w4.heap.size 9 1 vs (oth al 0 (T.take j)).length (strB ((oth al 0 (T.take j)).map sh))) := hown
        have HBB : Hid (Below w4.heap.size w4 wr) := hb
        have HJ : Hid (j + gk = T.length) := hjg
        have HWW : Hid (Below w.heap.size w wr) := HWW4.out.trans (hb.mono (by omega))
        have HW1 : Hid (Below W1.heap.size W1 wr) := HB4.out.trans (hb.mono (by omega))
        have hsr := hb.size
        have HSL : Hid ((ofL (sizeL al.length ++ wrt 0 (plc al 0 (T.take j)))).size ≤ 16 * 700 + 9) := by
          show _ ≤ _
          have h1 := sizeL_le al.length
          have h2 := wrt_le 691 (plc al 0 (T.take j)) 0 (fun p hp => by
            have := HST.out _ (List.mem_of_mem_take (plc_mem al _ 0 p hp).2.2); omega)
          have h3 := plc_le al (T.take j) 0
          rw [List.length_take] at h3
          have h4 : (plc al 0 (T.take j)).length * (691 + 9) ≤ 16 * 700 := Nat.mul_le_mul_right _ (by omega)
          rw [ofL_size, List.length_append]; omega
        clear hown hb
        by_cases hlt : j < T.length
        · obtain ⟨b1, o1, rfl, hrow1⟩ := HR1.out (by omega)
          have hb1w := hrow1.lt (by simp; omega)
          have cj : wr.cell? ⟨b1, o1 + j, none⟩ = some (.string (ofL T[j])) := by
            have := (hrow1.later HW1.out hb1w) j (by simp; omega)
            rw [this]; simp
          have hji : (j : Int) < (T.length : Int) := by omega
          have HTS := (show Hid (T[j].length ≤ 610) from HST.out _ (List.getElem_mem hlt))
          have HPI := (show Hid ((j : Int) ∈ al → plc al 0 (T.take (j + 1)) = plc al 0 (T.take j) ++ [(j, T[j])]) from plc_in al T j hlt)
          have HPO := (show Hid (¬ (j : Int) ∈ al → plc al 0 (T.take (j + 1)) = plc al 0 (T.take j)) from plc_out al T j hlt)
          have HOI := (show Hid ((j : Int) ∈ al → oth al 0 (T.take (j + 1)) = oth al 0 (T.take j)) from oth_in al T j hlt)
          have HOO := (show Hid (¬ (j : Int) ∈ al → oth al 0 (T.take (j + 1)) = oth al 0 (T.take j) ++ [T[j]]) from oth_out al T j hlt)
          have HNP := (show Hid (nxt 0 (plc al 0 (T.take j)) ≤ j) from nxt_plc al T j (by omega))
          have HLO : Hid ((oth al 0 (T.take j)).length ≤ 16) := by
            show _ ≤ _
            have := oth_le al (T.take j) 0
            rw [List.length_take] at this; omega
          generalize T[j] = tx at cj HTS HPI HOO
          obtain ⟨tb, htb⟩ : ∃ t, t = ofL tx := ⟨_, rfl⟩
          have HTB : Hid (tb = ofL tx) := htb
          rw [← htb] at cj
          obtain ⟨ST, hST⟩ : ∃ S, S = ofL (sizeL al.length ++ wrt 0 (plc al 0 (T.take j))) := ⟨_, rfl⟩
          have HSTE : Hid (ST = ofL (sizeL al.length ++ wrt 0 (plc al 0 (T.take j)))) := hST
          obtain ⟨NX, hNX⟩ : ∃ N, N = nxt 0 (plc al 0 (T.take j)) := ⟨_, rfl⟩
          have HNXE : Hid (NX = nxt 0 (plc al 0 (T.take j))) := hNX
          rw [← hST] at HSL ⊢
          rw [← hNX] at HNP ⊢
          clear htb hST hNX hrow1 hjg
          go_upto_region 23 with fail
          clear cj
          generalize wr = WJ at *
          generalize gk = GK at *
          go_loopg [21, 84] al.length (fun g bv iv wx => ∃ jj : Nat, jj + g = al.length ∧ bv = .bool (decide ((j : Int) ∈ al.take jj)) ∧ iv = .int .i64 (jj : Int) ∧ wx = WJ)
          case atStart => exact ⟨0, by omega, by simp, rfl, rfl⟩
          case round =>
            obtain ⟨jj, hjj, rfl, rfl, rfl⟩ := hrel
            by_cases hl2 : jj < al.length
            · have hbw2 := HROW.out.lt (by simp [intV]; omega)
              have cy : wr.cell? ⟨b, o + jj, none⟩ = some (.int .i64 al[jj]) := by
                have := (HROW.out.later HWW.out hbw2) jj (by simp [intV]; omega)
                rw [this]; simp [intV]
              have hjji : (jj : Int) < (al.length : Int) := by omega
              have HMT := (show Hid ((j : Int) ∈ al.take (jj + 1) ↔ (j : Int) ∈ al.take jj ∨ al[jj] = (j : Int)) from mem_take_succ al (j : Int) jj hl2)
              generalize al[jj] = y at cy HMT
              by_cases hd : (j : Int) ∈ al.take jj
              · have hdd : decide ((j : Int) ∈ al.take jj) = true := decide_eq_true hd
                have HDN : Hid (decide ((j : Int) ∈ al.take (jj + 1)) = true) := decide_eq_true (HMT.out.2 (.inl hd))
                rw [hdd]
                clear hd hdd
                go_wp2
                go_roundg (gk - 1)
                case measure => omega
                case rel => exact ⟨jj + 1, by omega, by rw [HDN.out], by go_num, rfl⟩
              · have hdd : decide ((j : Int) ∈ al.take jj) = false := decide_eq_false hd
                rw [hdd]
                clear hdd
                by_cases hy : y = (j : Int)
                · have HDN : Hid (decide ((j : Int) ∈ al.take (jj + 1)) = true) := decide_eq_true (HMT.out.2 (.inr hy))
                  have hyb : (y == (j : Int)) = true := by rw [beq_iff_eq]; exact hy
                  clear hd hy
                  go_wp2
                  go_roundg (gk - 1)
                  case measure => omega
                  case rel => exact ⟨jj + 1, by omega, by rw [HDN.out], by go_num, rfl⟩
                · have HDN : Hid (decide ((j : Int) ∈ al.take (jj + 1)) = false) := decide_eq_false (fun h => (HMT.out.1 h).elim hd hy)
                  have hyb : (y == (j : Int)) = false := by rw [beq_eq_false_iff_ne]; exact hy
                  clear hd hy
                  go_wp2
                  go_roundg (gk - 1)
                  case measure => omega
                  case rel => exact ⟨jj + 1, by omega, by rw [HDN.out], by go_num, rfl⟩
            · obtain rfl : jj = al.length := by omega
              rw [List.take_length]
              by_cases hm : (j : Int) ∈ al
              · have hdd : decide ((j : Int) ∈ al) = true := decide_eq_true hm
                have HPE := (show Hid (plc al 0 (T.take (j + 1)) = plc al 0 (T.take j) ++ [(j, tx)]) from HPI.out hm)
                have HOE := (show Hid (oth al 0 (T.take (j + 1)) = oth al 0 (T.take j)) from HOI.out hm)
                rw [hdd]
                have hnp := HNP.out
                have HCZ : Hid (∀ W, Calls Tryd.prog 39 #[.int .u64 ((j : Int) - (NX : Int))] W fun x w' => x = .returned (.string (ofL (sizeL (j - NX)))) ∧ Below W.heap.size W w') := fun W => by
                  have := HSZ.out (j - NX) W (by omega)
                  rw [show ((j - NX : Nat) : Int) = (j : Int) - (NX : Int) by omega] at this; exact this
                have HFS : Hid (ST ++ (ofL (sizeL (j - NX)) ++ tb) = ofL (sizeL al.length ++ wrt 0 (plc al 0 (T.take (j + 1))))) := by
                  show _ = _
                  rw [HSTE.out, HTB.out, HPE.out, ofL_append, ofL_append, wrt_append, ← HNXE.out]
                  congr 1
                  simp [wrt, List.append_assoc]
                have HFN : Hid (nxt 0 (plc al 0 (T.take (j + 1))) = j + 1) := by show _ = _; rw [HPE.out, nxt_append]; simp [nxt]
                have hsl := HSL.out
                have hsz1 : (ofL (sizeL (j - NX))).size ≤ 9 := by rw [ofL_size]; exact sizeL_le _
                have htbs : tb.size ≤ 610 := by rw [HTB.out, ofL_size]; exact HTS.out
                have hsz2 : (ofL (sizeL (j - NX)) ++ tb).size ≤ 619 := by rw [ByteArray.size_append]; omega
                generalize ofL (sizeL (j - NX)) = SZ at HCZ HFS hsz1 hsz2
                clear hm hdd hjj
                go_wp2_with (go_at_call 39; go_must (refine (HCZ.out _).mono ?_); rintro e w6 ⟨rfl, hb6⟩; have HB6 := (show Hid (Below wr.heap.size wr w6) from hb6); clear hb6)
                go_roundg (GK - 1)
                case measure => have := HJ.out; omega
                case rel =>
                  have h1 := HJ.out
                  have hz := HBB.out.size
                  refine ⟨j + 1, vs, rfl, by omega, by rw [← HFS.out], by rw [HFN.out]; go_num, by go_num, ?_, HBB.out.trans (HB6.out.mono hz)⟩
                  rw [HOE.out]; exact own_later HO.out HB6.out
              · have hdd : decide ((j : Int) ∈ al) = false := decide_eq_false hm
                have HPE := (show Hid (plc al 0 (T.take (j + 1)) = plc al 0 (T.take j)) from HPO.out hm)
                have HOE := (show Hid (oth al 0 (T.take (j + 1)) = oth al 0 (T.take j) ++ [tx]) from HOO.out hm)
                rw [hdd]
                have HSJ : Hid (Calls Tryd.prog 40 #[.pointer (some ⟨gt, 0, none⟩), .string HH, .string NB, .string tb] wr fun e w' => e = .returned (.string (ofL (sh tx))) ∧ Below wr.heap.size wr w') := by rw [HTB.out]; exact HSH'.out tx wr HTS.out HWW.out
                obtain ⟨sb, hsb⟩ : ∃ t, t = ofL (sh tx) := ⟨_, rfl⟩
                have HSB : Hid (sb = ofL (sh tx)) := hsb
                rw [← hsb] at HSJ
                clear hm hdd hjj hsb
                go_upto_region 28 with fail
                go_upto_region 31 with (first
                  | (go_at_call 40; go_must (refine HSJ.out.mono ?_); rintro e w6 ⟨rfl, hb6⟩; have HB6 := (show Hid (Below wr.heap.size wr w6) from hb6); have HO6 := (show Hid (w6.ownsRow w4.heap.size 9 1 vs (oth al 0 (T.take j)).length (strB ((oth al 0 (T.take j)).map sh))) from own_later HO.out hb6); have hz6 := hb6.size; clear hb6)
                  | (at_builtin; go_must (refine wpList_append_lies _ rfl _ _ 30 rfl w4.heap.size 9 i0 (.string ByteArray.empty) 1 16 Tryd.underlying30 hi hz0 hz1 hz2 rfl (by decide) vs (oth al 0 (T.take j)).length (strB ((oth al 0 (T.take j)).map sh)) rfl (HO6.out.alloc _) ⟨w6.heap.size, 0, none⟩ 1 1 [.string sb] rfl rfl (one_new w6 _ _) (one_str _) (by omega) (by have := HLO.out; unfold maxLen; omega) (by have := HLO.out; omega) (by simp; omega) _ rfl ?_); intro g7 c7 w7 ho7 hgr7 hat7 hlt7; have HO7 := (show Hid (w7.ownsRow w4.heap.size 9 1 (.slice (some ⟨g7, 0, none⟩) ((oth al 0 (T.take j)).length + 1) c7) ((oth al 0 (T.take j)).length + 1) (strB ((oth al 0 (T.take j)).map sh) ++ [.string sb])) from ho7); have HB7 := (show Hid (Below w4.heap.size w6 w7) from ((Below.refl w4.heap.size w6).alloc (by omega) _).grown hgr7 (by simp; omega) (ownBlock_ge HO6.out)); clear ho7 hgr7 hat7 hlt7))
                go_wp2
                go_roundg (GK - 1)
                case measure => have := HJ.out; omega
                case rel =>
                  have h1 := HJ.out
                  have hz := HBB.out.size
                  refine ⟨j + 1, _, rfl, by omega, by rw [HPE.out, ← HSTE.out], by rw [HPE.out, ← HNXE.out], by go_num, ?_, (HBB.out.trans (HB6.out.mono hz)).trans HB7.out⟩
                  rw [HOE.out, List.length_append, List.map_append, List.map_cons, List.map_nil, strB_snoc, ← HSB.out]
                  exact HO7.out
        · obtain rfl : j = T.length := by omega
          rw [List.take_length] at HO HSL ⊢
          have HOS : ∀ y ∈ ((oth al 0 T).map sh).map ofL, y.size ≤ 1048576 := by
            intro y hy
            obtain ⟨z, hz, rfl⟩ := List.mem_map.1 hy
            obtain ⟨x, _, rfl⟩ := List.mem_map.1 hz
            rw [ofL_size, HS6'.out]; omega
          have hol : ((oth al 0 T).map sh).length = (oth al 0 T).length := by simp
          have hole : (oth al 0 T).length ≤ 16 := by have := oth_le al T 0; omega
          have HJN : Hid (Calls Tryd.prog 41 #[vs] wr fun x w' => x = .returned (.string (ofL (sizeL (oth al 0 T).length ++ ((oth al 0 T).map sh).flatten))) ∧ Below wr.heap.size wr w') := by
            have := joined_sval (((oth al 0 T).map sh).map ofL) vs wr (own_sval (l := ((oth al 0 T).map sh).map ofL) (by rw [List.length_map, hol]; exact HO.out)) (by simp; exact hole) HOS
            rw [List.length_map, hol, catL_ofL] at this
            exact this
          have HJL : Hid ((ofL (sizeL (oth al 0 T).length ++ ((oth al 0 T).map sh).flatten)).size ≤ 120) := by
            show _ ≤ _
            have h1 := sizeL_le (oth al 0 T).length
            have h2 := flat_six ((oth al 0 T).map sh) (fun x hx => by obtain ⟨y, _, rfl⟩ := List.mem_map.1 hx; exact HS6'.out y)
            rw [ofL_size, List.length_append, h2, hol]; omega
          have HFI : Hid (ofL (encL sh h nb T al) = ofL (h ++ nb) ++ ofL (sizeL (oth al 0 T).length ++ ((oth al 0 T).map sh).flatten) ++ ofL (sizeL al.length ++ wrt 0 (plc al 0 T))) := by show _ = _; rw [HEN.out, ofL_append, ofL_append]
          have ha1 := HA1.out
          have hz2 := HZ2.out
          have hsl := HSL.out
          have hjl := HJL.out
          generalize ofL (sizeL (oth al 0 T).length ++ ((oth al 0 T).map sh).flatten) = JJ at HJN hjl HFI
          generalize ofL (sizeL al.length ++ wrt 0 (plc al 0 T)) = ST at hsl HFI ⊢
          generalize ofL (h ++ nb) = HN at ha1 hz2 HFI
          have hjj : (HN ++ JJ).size ≤ 300 := by rw [ByteArray.size_append]; omega
          clear hjg HOS hol hole HJL HSL HA1 HZ2
          go_wp2_with (go_at_call 41; go_must (refine HJN.out.mono ?_); rintro e w5 ⟨rfl, hb5⟩; have HB5 := (show Hid (Below wr.heap.size wr w5) from hb5); clear hb5)
          go_ret2
          exact ⟨by rw [HFI.out]; rfl, HWW.out.trans (HB5.out.mono HWW.out.size)⟩
end Go.Proofs.YtkmalggeieiepaaDoor
namespace Go.Proofs.YtkmalggeieiepaaDoor
open Go.RowKit

/-- the j-th byte of a number. -/
def byN (n j : Nat) : Int := ((n / 256 ^ j % 256 : Nat) : Int)
theorem le_bytes (n : Nat) : ∀ k, lsOf (byN n) k = le n k := by
  intro k
  induction k generalizing n with
  | zero => rfl
  | succ k ih =>
    have h := ih (n / 256)
    unfold lsOf at h ⊢
    rw [List.range_succ_eq_map, List.map_cons, List.map_map]
    show _ = UInt8.ofNat n :: le (n / 256) k
    rw [← h]
    congr 1
    · rw [← UInt8.toNat_inj]; simp [byN]; omega
    · apply List.map_congr_left
      intro j _
      show UInt8.ofNat (byN n (j + 1)).toNat = UInt8.ofNat (byN (n / 256) j).toNat
      unfold byN
      rw [Nat.pow_succ, Nat.mul_comm, ← Nat.div_div_eq_div_mul]
theorem str_congr (f g : Nat → Int) (n : Nat) (h : ∀ j, j < n → f j = g j) : strOf f n = strOf g n := by
  unfold strOf lsOf
  congr 2
  apply List.map_congr_left
  intro j hj
  rw [h j (by simpa using hj)]
theorem mk_bytes (n : Nat) (hn : n ≤ 8) (W : World) : (Instr.makeSlice 50 (.int .i64 (n : Int)) (.int .i64 (n : Int))).run Tryd.prog W = .ok (.slice (some ⟨W.heap.size, 0, none⟩) n n) (W.alloc (.cells (wl .u8 (fun _ => 0) n).toArray 5)) := by
  have h : n = 0 ∨ n = 1 ∨ n = 2 ∨ n = 3 ∨ n = 4 ∨ n = 5 ∨ n = 6 ∨ n = 7 ∨ n = 8 := by omega
  rcases h with rfl | rfl | rfl | rfl | rfl | rfl | rfl | rfl | rfl <;> exact (show (_ : Result Value) = _ by kernel_rfl)

set_option maxRecDepth 10000 in
set_option maxHeartbeats 1000000 in
theorem inBytes_any (n k : Nat) (w : World) (hn : U64 n) (hk : 0 < k) (hk8 : k ≤ 8) :
    Calls Tryd.prog 88 #[.int .u64 (n : Int), .int .i64 (k : Int)] w fun x w' => x = .returned (.string (ofL (le n k))) ∧ Below w.heap.size w w' := by
  have hm := mk_bytes k hk8
  obtain ⟨W0, hW0⟩ : ∃ W, W = w.alloc (.cells (wl .u8 (fun _ => 0) k).toArray 5) := ⟨_, rfl⟩
  have HA0 : Hid (Arr .u8 W0 w.heap.size (fun _ => 0) k) := by show Arr _ _ _ _ _; rw [hW0]; exact Arr.new w _ k _ _ rfl
  have HB0 : Hid (Below w.heap.size w W0) := by show Below _ _ _; rw [hW0]; exact (Below.refl _ _).alloc (Nat.le_refl _) _
  have hm0 := hm w
  rw [← hW0] at hm0
  clear hm hW0
  unfold U64 at hn
  go_enter Tryd.func88, Tryd.ntmps88
  go_upto_region 3 with fail
  clear hm0
  go_loopg [0, 11] k (fun g nv i wx => ∃ j : Nat, ∃ f : Nat → Int, j + g = k ∧ nv = .int .u64 ((n / 256 ^ j : Nat) : Int) ∧ i = .int .i64 (j : Int) ∧ (∀ t, t < j → f t = byN n t) ∧ (∀ t, 0 ≤ f t ∧ f t < 256) ∧ Arr .u8 wx w.heap.size f k ∧ Below w.heap.size w wx)
  case atStart => exact ⟨0, fun _ => 0, by omega, by simp, rfl, fun _ h => by omega, fun _ => by simp, HA0.out, HB0.out⟩
  case round =>
    clear HA0 HB0
    obtain ⟨j, f, hj, rfl, rfl, hf, hfb, hA, hB⟩ := hrel
    have HA : Hid (Arr .u8 wr w.heap.size f k) := hA
    have HB : Hid (Below w.heap.size w wr) := hB
    have HF : Hid (∀ t, t < j → f t = byN n t) := hf
    have HFB : Hid (∀ t, 0 ≤ f t ∧ f t < 256) := hfb
    clear hB hf hfb
    by_cases hlt : j < k
    · obtain ⟨cj, fj⟩ := hA j hlt
      have hji : (j : Int) < (k : Int) := by omega
      have HN1 : Hid (n / 256 ^ (j + 1) = n / 256 ^ j / 256) := by show _ = _; rw [Nat.pow_succ, Nat.div_div_eq_div_mul]
      have HBY : Hid (byN n j = ((n / 256 ^ j % 256 : Nat) : Int)) := rfl
      have hle : n / 256 ^ j < 18446744073709551616 := Nat.lt_of_le_of_lt (Nat.div_le_self _ _) hn
      generalize n / 256 ^ j = N at *
      have hNi : (N : Int) < 18446744073709551616 := by omega
      clear hA
      go_wp2
      go_roundg (gk - 1)
      case measure => omega
      case rel =>
        refine ⟨j + 1, upd f j (byN n j), by omega, ?_, by go_num, ?_, ?_, ?_, HB.out.setCell (Nat.le_refl _) _⟩
        · rw [HN1.out]; go_num
        · intro t ht
          by_cases h2 : t = j
          · subst h2; exact upd_same _ _ _
          · rw [upd_other _ _ _ _ h2]; exact HF.out t (by omega)
        · intro t
          by_cases h2 : t = j
          · subst h2; rw [upd_same, HBY.out]; omega
          · rw [upd_other _ _ _ _ h2]; exact HFB.out t
        · have := HA.out.set j hlt (byN n j)
          have e : ((N % 256 : Nat) : Int) = (N : Int) % 256 := by omega
          rw [HBY.out, e] at this ⊢
          exact this
    · obtain rfl : j = k := by omega
      have hst := str_arr wr w.heap.size f j HA.out HFB.out j
      have HS : Hid (strOf f j = ofL (le n j)) := by
        show _ = _
        rw [str_congr f (byN n) j HF.out]
        unfold strOf ofL
        rw [le_bytes]
      generalize strOf f j = S at hst HS
      clear hA
      go_wp2
      go_ret
      exact ⟨by rw [HS.out]; rfl, HB.out⟩
end Go.Proofs.YtkmalggeieiepaaDoor
namespace Go.Proofs.YtkmalggeieiepaaDoor
open Go.RowKit

theorem results_mid {P : Program} {fn : Func} {p : Tmp} {ty : TypeId} (h : fn.results = #[.cell p ty]) (tmps : Array Value) (w : World) (g : Nat) (cs : List Value) (d : TypeDesc)
    (hp : tmps.getD p undef = .pointer (some ⟨g, 0, none⟩)) (hc : w.rangeAt g 0 cs) (hu : P.underlying ty = some d) (hd : d.isRow = true) (hi : (P.info? ty).map (·.size) = some cs.length) :
    (results fn tmps).run P w = .ok (.agg cs.toArray) w := by
  have hp' : tmps[p]?.getD undef = .pointer (some ⟨g, 0, none⟩) := by simpa using hp
  simp [results, h, hp', asAddr, run_loadVar_mid w g 0 ty cs d hc hu hd hi]
theorem range2 {w : World} {b : Nat} {x y : Value} (h0 : w.cell? ⟨b, 0, none⟩ = some x) (h1 : w.cell? ⟨b, 1, none⟩ = some y) : w.rangeAt b 0 [x, y] := fun j v hv => by
  match j, hv with
  | 0, hv => rw [Nat.zero_add]; simp at hv; subst hv; exact h0
  | 1, hv => rw [Nat.zero_add]; simp at hv; subst hv; exact h1
theorem own_slice {w : World} {base e size n : Nat} {v : Value} {xs : List Value} (h : w.ownsRow base e size v n xs) : ∃ a m c, v = .slice a m c := by
  rcases h.2 with ⟨rfl, _⟩ | ⟨g, cap, cur, rfl, _⟩
  · exact ⟨_, _, _, rfl⟩
  · exact ⟨_, _, _, rfl⟩
end Go.Proofs.YtkmalggeieiepaaDoor
namespace Go.Proofs.YtkmalggeieiepaaDoor
open Go.RowKit

/-- the double digest's bytes. -/
def dbl (Kc : Nat → Int) (l : List UInt8) : Nat → Int := shaF Kc (strOf (shaF Kc l) 32).data.toList
theorem strOf_size (f : Nat → Int) (n : Nat) : (strOf f n).size = n := by simp [strOf, lsOf, ByteArray.size]
theorem shaF_lt (Kc : Nat → Int) (l : List UInt8) (j : Nat) : 0 ≤ shaF Kc l j ∧ shaF Kc l j < 256 := dgF_lt _ j
theorem sum_one (Kc : Nat → Int) (s : ByteArray) (w : World) (hkt : KT Kc w) (hpos : 0 < w.heap.size) (hs : s.size ≤ 1099511627776) :
    Calls Tryd.prog 20 #[.slice (some ⟨w.heap.size, 0, none⟩) 1 1] (w.alloc (.cells #[.string s] 9)) fun e w' => e = .returned (.agg (wl .u8 (shaF Kc s.data.toList) 32).toArray) ∧ Below w.heap.size w w' := by
  have hT : Texts (w.alloc (.cells #[.string s] 9)) w.heap.size [s] := by
    intro j hj
    obtain rfl : j = 0 := by simp at hj; exact hj
    simp [go_sem]
  have hc : cat [s] = s.data.toList := by simp [cat]
  have hl : s.data.toList.length = s.size := rfl
  have hcall := sum_any Kc [s] w.heap.size (w.alloc (.cells #[.string s] 9)) hT (by simp) (hkt.later ((Below.refl _ _).alloc (Nat.le_refl _) _) hpos) (by rw [hc, hl]; exact hs) (by simp)
  rw [hc] at hcall
  refine hcall.mono fun e w' ⟨h1, h2⟩ => ⟨h1, ?_⟩
  exact ((Below.refl _ _).alloc (Nat.le_refl _) _).trans (h2.mono (by simp))

set_option maxRecDepth 10000 in
set_option maxHeartbeats 1000000 in
theorem double_any (Kc : Nat → Int) (ts : List ByteArray) (gT : Nat) (w : World) (hT : Texts w gT ts) (hlt : gT < w.heap.size) (hkt : KT Kc w) (hn : (cat ts).length ≤ 1099511627776) (hn2 : ts.length ≤ 1099511627776) :
    Calls Tryd.prog 27 #[.slice (some ⟨gT, 0, none⟩) ts.length ts.length] w fun e w' => e = .returned (.agg (wl .u8 (dbl Kc (cat ts)) 32).toArray) ∧ Below w.heap.size w w' := by
  have hpos : 0 < w.heap.size := World.block_lt_of_cell? w _ (hkt 0 (by omega))
  go_enter Tryd.func27, Tryd.ntmps27
  go_upto_region 1 with fail
  obtain ⟨W1, hW1⟩ : ∃ W, W = w.alloc (.cells (Array.replicate 32 (.int .u8 0)) 43) := ⟨_, rfl⟩
  have HA : Hid (Arr .u8 W1 w.heap.size (fun _ => 0) 32) := by show Arr _ _ _ _ _; rw [hW1]; exact Arr.new _ _ 32 _ _ (by rfl)
  have HB1 : Hid (Below w.heap.size w W1) := by show Below _ _ _; rw [hW1]; exact (Below.refl _ _).alloc (Nat.le_refl _) _
  have hz1 : W1.heap.size = w.heap.size + 1 := by rw [hW1]; simp
  have H1 : Hid (Calls Tryd.prog 20 #[.slice (some ⟨gT, 0, none⟩) ts.length ts.length] W1 fun e w' => e = .returned (.agg (wl .u8 (shaF Kc (cat ts)) 32).toArray) ∧ Below W1.heap.size W1 w') :=
    sum_any Kc ts gT W1 (fun j hj => by rw [HB1.out.cell (p := ⟨gT, j, none⟩) hlt]; exact hT j hj) (by omega) (hkt.later HB1.out hpos) hn hn2
  have HTX : Hid (∀ W, Calls Tryd.prog 21 #[.agg (wl .u8 (shaF Kc (cat ts)) 32).toArray] W fun e w' => e = .returned (.string (strOf (shaF Kc (cat ts)) 32)) ∧ Below W.heap.size W w') := fun W => text_any (shaF Kc (cat ts)) (shaF_lt Kc _) _ rfl W
  have H2 : Hid (∀ W, Below w.heap.size w W → Calls Tryd.prog 20 #[.slice (some ⟨W.heap.size, 0, none⟩) 1 1] (W.alloc (.cells #[.string (strOf (shaF Kc (cat ts)) 32)] 9)) fun e w' => e = .returned (.agg (wl .u8 (dbl Kc (cat ts)) 32).toArray) ∧ Below W.heap.size W w') :=
    fun W hW => sum_one Kc _ W (hkt.later hW hpos) (Nat.lt_of_lt_of_le hpos hW.size) (by rw [strOf_size]; omega)
  have HR : Hid (∀ W, Below W1.heap.size W1 W → Arr .u8 W w.heap.size (fun _ => 0) 32) := fun W hW => HA.out.later hW (by omega)
  have hW1' : w.alloc (.cells #[.int .u8 0, .int .u8 0, .int .u8 0, .int .u8 0, .int .u8 0, .int .u8 0, .int .u8 0, .int .u8 0, .int .u8 0, .int .u8 0, .int .u8 0, .int .u8 0, .int .u8 0, .int .u8 0, .int .u8 0, .int .u8 0, .int .u8 0, .int .u8 0, .int .u8 0, .int .u8 0, .int .u8 0, .int .u8 0, .int .u8 0, .int .u8 0, .int .u8 0, .int .u8 0, .int .u8 0, .int .u8 0, .int .u8 0, .int .u8 0, .int .u8 0, .int .u8 0] 43) = W1 := by rw [hW1]; rfl
  rw [hW1']
  have HZ1 : Hid (W1.heap.size = w.heap.size + 1) := hz1
  clear hW1 hW1' HA hkt hT hn hn2 hlt hpos hz1
  generalize (wl .u8 (shaF Kc (cat ts)) 32).toArray = S1 at H1 HTX
  generalize strOf (shaF Kc (cat ts)) 32 = t1 at HTX H2
  go_wp2_with (first
    | (go_at_call 20; refine H1.out.mono ?_; rintro e w2 ⟨rfl, hb2⟩; have HB2 := (show Hid (Below W1.heap.size W1 w2) from hb2); clear hb2 H1)
    | (go_at_call 21; go_must (refine (HTX.out _).mono ?_); rintro e w3 ⟨rfl, hb3⟩; have HB3 := (show Hid (Below W1.heap.size W1 w3) from HB2.out.trans (hb3.mono HB2.out.size)); clear hb3)
    | (go_at_call 20; go_must (refine (H2.out _ (HB1.out.trans (HB3.out.mono (by have := HZ1.out; omega)))).mono ?_); rintro e w4 ⟨rfl, hb4⟩; have HB4 := (show Hid (Below W1.heap.size W1 w4) from HB3.out.trans (hb4.mono HB3.out.size)); clear hb4)
    | (refine wpList_store_arr rfl 43 _ _ rfl w.heap.size .u8 (fun _ => 0) (dbl Kc (cat ts)) 32 rfl rfl ?_ (by kernel_rfl) ?_; exact HR.out _ HB4.out))
  refine bodyPost_ret (v := .agg (wl .u8 (dbl Kc (cat ts)) 32).toArray) (results_arr Tryd.results27 _ _ w.heap.size .u8 (dbl Kc (cat ts)) 32 _ rfl ((HR.out _ HB4.out).all _) Tryd.underlying43 rfl (by kernel_rfl)) rfl ⟨rfl, ?_⟩
  exact below_setCells (HB1.out.trans (HB4.out.mono (by have := HZ1.out; omega))) _ (Nat.le_refl _) _ _

/-- of one text. -/
theorem double_one (Kc : Nat → Int) (s : ByteArray) (w : World) (hkt : KT Kc w) (hs : s.size ≤ 1099511627776) :
    Calls Tryd.prog 27 #[.slice (some ⟨w.heap.size, 0, none⟩) 1 1] (w.alloc (.cells #[.string s] 9)) fun e w' => e = .returned (.agg (wl .u8 (dbl Kc s.data.toList) 32).toArray) ∧ Below w.heap.size w w' := by
  have hT : Texts (w.alloc (.cells #[.string s] 9)) w.heap.size [s] := by
    intro j hj
    obtain rfl : j = 0 := by simp at hj; exact hj
    simp [go_sem]
  have hc : cat [s] = s.data.toList := by simp [cat]
  have hl : s.data.toList.length = s.size := rfl
  have hpos : 0 < w.heap.size := World.block_lt_of_cell? w _ (hkt 0 (by omega))
  have hcall := double_any Kc [s] w.heap.size (w.alloc (.cells #[.string s] 9)) hT (by simp) (hkt.later ((Below.refl _ _).alloc (Nat.le_refl _) _) hpos) (by rw [hc, hl]; exact hs) (by simp)
  rw [hc] at hcall
  refine hcall.mono fun e w' ⟨h1, h2⟩ => ⟨h1, ?_⟩
  exact ((Below.refl _ _).alloc (Nat.le_refl _) _).trans (h2.mono (by simp))
end Go.Proofs.YtkmalggeieiepaaDoor
namespace Go.Proofs.YtkmalggeieiepaaDoor
open Go.RowKit

/-- a text's bytes in memory. -/
def bc (d : ByteArray) : List Value := d.data.toList.map fun x => Value.int .u8 (x.toNat : Int)
theorem bc_length (d : ByteArray) : (bc d).length = d.size := by simp [bc]
theorem bc_one (d : ByteArray) : ∀ u ∈ bc d, u.oneCell' = true := by
  intro u hu; simp [bc] at hu; obtain ⟨x, _, rfl⟩ := hu; rfl
def byF (d : ByteArray) : Nat → Int := fun j => ((d.data.toList.getD j 0).toNat : Int)
theorem byF_lt (d : ByteArray) (j : Nat) : 0 ≤ byF d j ∧ byF d j < 256 := by
  have := (d.data.toList.getD j 0).toNat_lt
  unfold byF; omega
theorem lsz (d : ByteArray) : d.data.toList.length = d.size := rfl
theorem bc_wl (d : ByteArray) (n : Nat) (h : d.size = n) : bc d = wl .u8 (byF d) n := by
  apply List.ext_getElem
  · rw [bc_length, wl_length, h]
  · intro j h1 h2
    rw [bc_length] at h1
    have hj : j < d.data.toList.length := h1
    simp [bc, wl, byF, h1]
theorem strOf_byF (d : ByteArray) (n : Nat) (h : d.size = n) : strOf (byF d) n = d := by
  apply ByteArray.ext
  apply Array.ext'
  show lsOf (byF d) n = d.data.toList
  apply List.ext_getElem
  · simp [lsOf]; exact h.symm
  · intro j h1 h2
    have h3 : j < d.data.size := h2
    simp only [lsOf, byF, List.getD, List.getElem_map, List.getElem_range, List.getElem?_eq_getElem h2, Option.getD_some]
    simp
theorem bc_strOf (f : Nat → Int) (n : Nat) (hf : ∀ j, 0 ≤ f j ∧ f j < 256) : bc (strOf f n) = wl .u8 f n := by
  have e : (strOf f n).data.toList = lsOf f n := rfl
  unfold bc
  rw [e]
  unfold lsOf wl
  rw [List.map_map]
  apply List.map_congr_left
  intro j _
  have := hf j
  simp; omega
/-- a digest as a value. -/
def aggD (d : ByteArray) : Value := .agg (bc d).toArray
/-- the double digest, as a text. -/
def dd (Kc : Nat → Int) (t : ByteArray) : ByteArray := strOf (dbl Kc t.data.toList) 32
theorem dd_size (Kc : Nat → Int) (t : ByteArray) : (dd Kc t).size = 32 := strOf_size _ _

theorem text_d (d : ByteArray) (hd : d.size = 32) (w : World) :
    Calls Tryd.prog 21 #[aggD d] w fun e w' => e = .returned (.string d) ∧ Below w.heap.size w w' := by
  have h := text_any (byF d) (byF_lt d) (bc d).toArray (by show _ = _; rw [bc_wl d 32 hd]) w
  rw [strOf_byF d 32 hd] at h
  exact h
theorem double_two (Kc : Nat → Int) (a b : ByteArray) (w : World) (hkt : KT Kc w) (hs : (a ++ b).size ≤ 1099511627776) :
    Calls Tryd.prog 27 #[.slice (some ⟨w.heap.size, 0, none⟩) 2 2] (w.alloc (.cells #[.string a, .string b] 9)) fun e w' => e = .returned (aggD (dd Kc (a ++ b))) ∧ Below w.heap.size w w' := by
  have hT : Texts (w.alloc (.cells #[.string a, .string b] 9)) w.heap.size [a, b] := by
    intro j hj
    have hj' : j = 0 ∨ j = 1 := by simp at hj; omega
    rcases hj' with rfl | rfl
    · simp [go_sem]
    · simp [go_sem]
  have hc : cat [a, b] = (a ++ b).data.toList := by simp [cat, ByteArray.data_append]
  have hl : (a ++ b).data.toList.length = (a ++ b).size := rfl
  have hpos : 0 < w.heap.size := World.block_lt_of_cell? w _ (hkt 0 (by omega))
  have hcall := double_any Kc [a, b] w.heap.size (w.alloc (.cells #[.string a, .string b] 9)) hT (by simp) (hkt.later ((Below.refl _ _).alloc (Nat.le_refl _) _) hpos) (by rw [hc, hl]; exact hs) (by simp)
  rw [hc] at hcall
  refine hcall.mono fun e w' ⟨h1, h2⟩ => ⟨?_, ?_⟩
  · rw [h1]; unfold aggD dd; rw [bc_strOf (dbl Kc (a ++ b).data.toList) 32 (fun j => shaF_lt Kc _ j)]
  · exact ((Below.refl _ _).alloc (Nat.le_refl _) _).trans (h2.mono (by simp))
theorem sz8 : ∀ w : World, (Go.sizeOf 5).run Tryd.prog w = .ok 1 w := fun _ => by kernel_rfl
theorem eql_d (a b : ByteArray) (ha : a.size = 32) (hb : b.size = 32) (w : World) : (binOp .eql 43 (aggD a) (aggD b)).run Tryd.prog w = .ok (.bool (a.data.toList == b.data.toList)) w :=
  run_eql_bytes w 43 5 32 Tryd.underlying43 Tryd.underlying5 sz8 a.data.toList b.data.toList ha hb

/-- digests in a row. -/
def DRow (w : World) (b o : Nat) (ds : List ByteArray) : Prop := ∀ i (h : i < ds.length), w.rangeAt b (o + 32 * i) (bc ds[i])
theorem DRow.lt {w : World} {b o : Nat} {ds : List ByteArray} (h : DRow w b o ds) (hn : 0 < ds.length) (h32 : ∀ s ∈ ds, s.size = 32) : b < w.heap.size := by
  have hs : (ds[0]).size = 32 := h32 _ (List.getElem_mem hn)
  have hl : 0 < (bc ds[0]).length := by rw [bc_length, hs]; omega
  exact World.block_lt_of_cell? w _ (h 0 hn 0 _ (List.getElem?_eq_getElem hl))
theorem range_later {w w' : World} {b o : Nat} {cs : List Value} {B : Nat} (h : w.rangeAt b o cs) (hb : Below B w w') (hB : b < B) : w'.rangeAt b o cs := fun j v hv => by
  rw [hb.cell (p := ⟨b, o + j, none⟩) hB]; exact h j v hv
theorem DRow.later {w w' : World} {b o : Nat} {ds : List ByteArray} {B : Nat} (h : DRow w b o ds) (hb : Below B w w') (hB : b < B) : DRow w' b o ds := fun i hi => range_later (h i hi) hb hB
theorem DRow.drop {w : World} {b o : Nat} {x y : ByteArray} {ds : List ByteArray} (h : DRow w b o (x :: y :: ds)) : DRow w b (o + 64) ds := fun i hi => by
  have := h (i + 2) (by simp; omega)
  simp only [List.getElem_cons_succ] at this
  rw [show o + 64 + 32 * i = o + 32 * (i + 2) by omega]; exact this
def flatD (ds : List ByteArray) : List Value := (ds.map bc).flatten
theorem flatD_snoc (ds : List ByteArray) (d : ByteArray) : flatD (ds ++ [d]) = flatD ds ++ bc d := by simp [flatD]
theorem flatD_length (ds : List ByteArray) (h32 : ∀ s ∈ ds, s.size = 32) : (flatD ds).length = ds.length * 32 := by
  induction ds with
  | nil => rfl
  | cons d ds ih =>
    have h1 := ih (fun s hs => h32 s (List.mem_cons_of_mem _ hs))
    have h2 : (bc d).length = 32 := by rw [bc_length]; exact h32 d List.mem_cons_self
    show (bc d ++ flatD ds).length = _
    rw [List.length_append, h1, h2, List.length_cons]; omega
theorem flatD_get (ds : List ByteArray) (h32 : ∀ s ∈ ds, s.size = 32) : ∀ i (h : i < ds.length) j v, (bc ds[i])[j]? = some v → (flatD ds)[32 * i + j]? = some v := by
  induction ds with
  | nil => intro i h; simp at h
  | cons d ds ih =>
    intro i h j v hv
    have h2 : (bc d).length = 32 := by rw [bc_length]; exact h32 d List.mem_cons_self
    show (bc d ++ flatD ds)[32 * i + j]? = some v
    cases i with
    | zero =>
      have hj := (List.getElem?_eq_some_iff.1 hv).1
      simp only [List.getElem_cons_zero] at hv hj
      rw [Nat.mul_zero, Nat.zero_add, List.getElem?_append_left hj]; exact hv
    | succ i =>
      simp only [List.getElem_cons_succ] at hv
      rw [List.getElem?_append_right (by omega), h2, show 32 * (i + 1) + j - 32 = 32 * i + j by omega]
      exact ih (fun s hs => h32 s (List.mem_cons_of_mem _ hs)) i (by simpa using h) j v hv
theorem own_drow {w : World} {base e g cap n : Nat} {ds : List ByteArray} (hn : ds.length = n) (h32 : ∀ s ∈ ds, s.size = 32) (h : w.ownsRow base e 32 (.slice (some ⟨g, 0, none⟩) n cap) n (flatD ds)) : DRow w g 0 ds := by
  obtain ⟨_, h2⟩ := h
  rcases h2 with ⟨hv, _⟩ | ⟨g', cap', cur, hv, _, hg, _, _, _, ht⟩
  · cases hv
  · injection hv with e1 e2 e3
    injection e1 with e4
    injection e4 with e5
    subst e5
    intro i hi j v hvv
    rw [cell_of_row w g (0 + 32 * i + j) cur _ _ hg]
    have h4 := flatD_get ds h32 i hi j v hvv
    have h5 := (List.getElem?_eq_some_iff.1 h4).1
    rw [flatD_length ds h32] at h5
    have h3 : (cur.toList.take (n * 32))[32 * i + j]? = (flatD ds)[32 * i + j]? := by rw [ht]
    rw [List.getElem?_take, if_pos (by omega), h4] at h3
    rw [← Array.getElem?_toList, Nat.zero_add]
    exact h3
theorem own_after {w w' : World} {base e size n : Nat} {v : Value} {xs : List Value} (h : w.ownsRow base e size v n xs) (hb : Below w.heap.size w w') : w'.ownsRow base e size v n xs := by
  refine ⟨h.1, ?_⟩
  rcases h.2 with hn | ⟨g, cap, cur, hv, hbg, hg, rest⟩
  · exact .inl hn
  · have hlt : g < w.heap.size := by
      rcases Nat.lt_or_ge g w.heap.size with h1 | h1
      · exact h1
      · rw [Array.getElem?_eq_none h1] at hg; cases hg
    exact .inr ⟨g, cap, cur, hv, hbg, by rw [hb.block g hlt]; exact hg, rest⟩
theorem ownB_ge {w : World} {base e size n : Nat} {v : Value} {xs : List Value} (h : w.ownsRow base e size v n xs) : ∀ k, v.ownBlock = some k → base ≤ k := by
  intro k hk
  rcases h.2 with ⟨rfl, _⟩ | ⟨g, cap, cur, rfl, hb, _⟩
  · simp [Value.ownBlock] at hk
  · simp [Value.ownBlock] at hk; omega
theorem infoDig : (Tryd.prog.info? 43).map (fun i => (i.zero, i.size, i.bytes)) = some (some (.agg (wl .u8 (fun _ => 0) 32).toArray), 32, 32) := by kernel_rfl
theorem sizeDig : (Tryd.prog.info? 43).map (·.size) = some 32 := by kernel_rfl
theorem news_d {w : World} {g : Nat} {d : ByteArray} {T : Nat} (h : w.heap[g]? = some (.cells (bc d).toArray T (0, 0))) : ∀ j u, (bc d)[j]? = some u → w.cell? ((⟨g, 0, none⟩ : Addr).add j) = some u := fun j u hu => World.news_of_block h j u (by simpa using hu)
end Go.Proofs.YtkmalggeieiepaaDoor
namespace Go.Proofs.YtkmalggeieiepaaDoor
open Go.RowKit

theorem results_arr2 {P : Program} {fn : Func} {p t : Tmp} {ty : TypeId} (h : fn.results = #[.cell p ty, .tmp t]) (tmps : Array Value) (w : World) (g : Nat) (K : IntKind) (f : Nat → Int) (n : Nat) (d : TypeDesc) (u : Value)
    (hp : tmps.getD p undef = .pointer (some ⟨g, 0, none⟩)) (ht : tmps.getD t undef = u) (hg : Arr K w g f n) (hu : P.underlying ty = some d) (hd : d.isRow = true) (hi : (P.info? ty).map (·.size) = some n) :
    (results fn tmps).run P w = .ok (.tuple #[.agg (wl K f n).toArray, u]) w := by
  have hp' : tmps[p]?.getD undef = .pointer (some ⟨g, 0, none⟩) := by simpa using hp
  have ht' : tmps[t]?.getD undef = u := by simpa using ht
  simp [results, h, hp', ht', asAddr, run_loadVar_mid w g 0 ty (wl K f n) d hg.range hu hd (by rw [wl_length]; exact hi)]

set_option maxRecDepth 10000 in
set_option maxHeartbeats 1000000 in
theorem digestOf_no (s : ByteArray) (w : World) (h : s.size ≠ 32) :
    Calls Tryd.prog 30 #[.string s] w fun e w' => e = .returned (.tuple #[.agg (wl .u8 (fun _ => 0) 32).toArray, .bool false]) ∧ Below w.heap.size w w' := by
  have hi : ¬ ((s.size : Int) = 32) := by omega
  go_enter Tryd.func30, Tryd.ntmps30
  go_upto_region 2 with fail
  obtain ⟨W0, hW0⟩ : ∃ W, W = (w.alloc (.cells #[.int .u8 0, .int .u8 0, .int .u8 0, .int .u8 0, .int .u8 0, .int .u8 0, .int .u8 0, .int .u8 0, .int .u8 0, .int .u8 0, .int .u8 0, .int .u8 0, .int .u8 0, .int .u8 0, .int .u8 0, .int .u8 0, .int .u8 0, .int .u8 0, .int .u8 0, .int .u8 0, .int .u8 0, .int .u8 0, .int .u8 0, .int .u8 0, .int .u8 0, .int .u8 0, .int .u8 0, .int .u8 0, .int .u8 0, .int .u8 0, .int .u8 0, .int .u8 0] 43)).alloc (.cells #[.int .u8 0, .int .u8 0, .int .u8 0, .int .u8 0, .int .u8 0, .int .u8 0, .int .u8 0, .int .u8 0, .int .u8 0, .int .u8 0, .int .u8 0, .int .u8 0, .int .u8 0, .int .u8 0, .int .u8 0, .int .u8 0, .int .u8 0, .int .u8 0, .int .u8 0, .int .u8 0, .int .u8 0, .int .u8 0, .int .u8 0, .int .u8 0, .int .u8 0, .int .u8 0, .int .u8 0, .int .u8 0, .int .u8 0, .int .u8 0, .int .u8 0, .int .u8 0] 43) := ⟨_, rfl⟩
  have HA : Hid (Arr .u8 W0 w.heap.size (fun _ => 0) 32) := by show Arr _ _ _ _ _; rw [hW0]; exact (Arr.new w _ 32 _ _ (by rfl)).alloc (by omega) _
  have HA2 : Hid (Arr .u8 W0 (w.heap.size + 1) (fun _ => 0) 32) := by show Arr _ _ _ _ _; rw [hW0]; exact Arr.newAt _ _ 32 _ _ _ (by rfl) (by simp)
  have HB : Hid (Below w.heap.size w W0) := by show Below _ _ _; rw [hW0]; exact ((Below.refl _ _).alloc (Nat.le_refl _) _).alloc (by simp) _
  rw [← hW0]
  clear hW0
  go_wp2_with (first
    | (refine wpList_load_arr rfl 43 _ rfl (w.heap.size + 1) rfl .u8 (fun _ => 0) 32 _ ?_ Tryd.underlying43 rfl sizeDig ?_; exact HA2.out)
    | (refine wpList_store_arr rfl 43 _ _ rfl w.heap.size .u8 (fun _ => 0) (fun _ => 0) 32 rfl rfl ?_ sizeDig ?_; exact HA.out))
  refine bodyPost_ret (results_arr2 Tryd.results30 _ _ w.heap.size .u8 (fun _ => 0) 32 _ _ rfl rfl (HA.out.all _) Tryd.underlying43 rfl sizeDig) rfl ⟨rfl, ?_⟩
  exact below_setCells HB.out _ (Nat.le_refl _) _ _

set_option maxRecDepth 10000 in
set_option maxHeartbeats 1000000 in
theorem digestOf_ok (s : ByteArray) (w : World) (h : s.size = 32) :
    Calls Tryd.prog 30 #[.string s] w fun e w' => e = .returned (.tuple #[aggD s, .bool true]) ∧ Below w.heap.size w w' := by
  have hi : ((s.size : Int) = 32) := by omega
  have HE : Hid (aggD s = .agg (wl .u8 (byF s) 32).toArray) := by show _ = _; unfold aggD; rw [bc_wl s 32 h]
  rw [HE.out]
  clear HE
  go_enter Tryd.func30, Tryd.ntmps30
  go_upto_region 2 with fail
  obtain ⟨W0, hW0⟩ : ∃ W, W = (w.alloc (.cells #[.int .u8 0, .int .u8 0, .int .u8 0, .int .u8 0, .int .u8 0, .int .u8 0, .int .u8 0, .int .u8 0, .int .u8 0, .int .u8 0, .int .u8 0, .int .u8 0, .int .u8 0, .int .u8 0, .int .u8 0, .int .u8 0, .int .u8 0, .int .u8 0, .int .u8 0, .int .u8 0, .int .u8 0, .int .u8 0, .int .u8 0, .int .u8 0, .int .u8 0, .int .u8 0, .int .u8 0, .int .u8 0, .int .u8 0, .int .u8 0, .int .u8 0, .int .u8 0] 43)).alloc (.cells #[.int .u8 0, .int .u8 0, .int .u8 0, .int .u8 0, .int .u8 0, .int .u8 0, .int .u8 0, .int .u8 0, .int .u8 0, .int .u8 0, .int .u8 0, .int .u8 0, .int .u8 0, .int .u8 0, .int .u8 0, .int .u8 0, .int .u8 0, .int .u8 0, .int .u8 0, .int .u8 0, .int .u8 0, .int .u8 0, .int .u8 0, .int .u8 0, .int .u8 0, .int .u8 0, .int .u8 0, .int .u8 0, .int .u8 0, .int .u8 0, .int .u8 0, .int .u8 0] 43) := ⟨_, rfl⟩
  have HA : Hid (Arr .u8 W0 w.heap.size (fun _ => 0) 32) := by show Arr _ _ _ _ _; rw [hW0]; exact (Arr.new w _ 32 _ _ (by rfl)).alloc (by omega) _
  have HA2 : Hid (Arr .u8 W0 (w.heap.size + 1) (fun _ => 0) 32) := by show Arr _ _ _ _ _; rw [hW0]; exact Arr.newAt _ _ 32 _ _ _ (by rfl) (by simp)
  have HB : Hid (Below w.heap.size w W0) := by show Below _ _ _; rw [hW0]; exact ((Below.refl _ _).alloc (Nat.le_refl _) _).alloc (by simp) _
  rw [← hW0]
  clear hW0
  have HA3 : Hid (Arr .u8 (W0.setCells (w.heap.size + 1) 0 (bc s)) (w.heap.size + 1) (byF s) 32) := by
    show Arr _ _ _ _ _; rw [bc_wl s 32 h]; exact HA2.out.all _
  have HA4 : Hid (Arr .u8 (W0.setCells (w.heap.size + 1) 0 (bc s)) w.heap.size (fun _ => 0) 32) := HA.out.setsFar _ _ (by omega)
  have HB2 : Hid (Below w.heap.size w (W0.setCells (w.heap.size + 1) 0 (bc s))) := below_setCells HB.out _ (by omega) _ _
  have HC : Hid (∀ j, j < s.size → (W0.cell? ⟨w.heap.size + 1, 0 + j, none⟩).isSome = true) := fun j hj => by rw [Nat.zero_add, (HA2.out j (by omega)).1]; rfl
  have HF : Hid (∀ j, j < s.size → W0.frozen? ⟨w.heap.size + 1, 0 + j, none⟩ = false) := fun j hj => by rw [Nat.zero_add]; exact (HA2.out j (by omega)).2
  have hcp : (Builtin.copy_ #[50, 9] 3 #[.slice (some ⟨w.heap.size + 1, 0, none⟩) 32 32, .string s]).run Tryd.prog W0 = .ok (.int .i64 32) (W0.setCells (w.heap.size + 1) 0 (bc s)) := by
    rw [run_copy_string W0 50 9 3 5 (w.heap.size + 1) 0 32 32 s Tryd.underlying50 sz8 (by omega) HC.out HF.out, h]; rfl
  generalize W0.setCells (w.heap.size + 1) 0 (bc s) = W1 at HA3 HA4 HB2 hcp
  clear HA HA2 HB HC HF
  go_upto_region 4 with fail
  go_wp2_with (first
    | (refine wpList_load_arr rfl 43 _ rfl (w.heap.size + 1) rfl .u8 (byF s) 32 _ ?_ Tryd.underlying43 rfl sizeDig ?_; exact HA3.out)
    | (refine wpList_store_arr rfl 43 _ _ rfl w.heap.size .u8 (fun _ => 0) (byF s) 32 rfl rfl ?_ sizeDig ?_; exact HA4.out))
  refine bodyPost_ret (results_arr2 Tryd.results30 _ _ w.heap.size .u8 (byF s) 32 _ _ rfl rfl (HA4.out.all _) Tryd.underlying43 rfl sizeDig) rfl ⟨rfl, ?_⟩
  exact below_setCells HB2.out _ (Nat.le_refl _) _ _
end Go.Proofs.YtkmalggeieiepaaDoor
namespace Go.Proofs.YtkmalggeieiepaaDoor
open Go.RowKit

/-- a frame under one name. -/
theorem q_frame {C : Code} {P : Program} {Q : Exit → Act → World → Prop} {a : Act} {w : World} (h : ∀ A, Hid (A = a) → C.wp P Q A w) : C.wp P Q a w := h a rfl
theorem q_same (a : Act) (d : Nat) (v : Value) (h : d < a.tmps.size) : (a.put (some d) v).eval (.tmp d) = v := by simp [Act.put, Act.eval, h]
theorem q_ne (a : Act) (d e : Nat) (v : Value) (h : d ≠ e) : (a.put (some d) v).eval (.tmp e) = a.eval (.tmp e) := by simp [Act.put, Act.eval, h]
theorem q_sz (a : Act) (d : Nat) (v : Value) : (a.put (some d) v).tmps.size = a.tmps.size := by simp [Act.put]
theorem q_run1 {P : Program} {o : Oper} {a : Act} {W W' : World} {r : Next} (s : Nat) (us : Value) (hs : a.eval (.tmp s) = us)
    (h : ∀ ρ : Operand → Value, (∀ c, ρ (.const c) = c) → (∀ n, ρ (.func n) = .func (.func n) #[] #[]) → ρ (.tmp s) = us → (execOp ρ o).run P W = .ok r W') : (execOp a.eval o).run P W = .ok r W' := h a.eval (fun _ => rfl) (fun _ => rfl) hs
theorem q_run2 {P : Program} {o : Oper} {a : Act} {W W' : World} {r : Next} (s t : Nat) (us ut : Value) (hs : a.eval (.tmp s) = us) (ht : a.eval (.tmp t) = ut)
    (h : ∀ ρ : Operand → Value, (∀ c, ρ (.const c) = c) → (∀ n, ρ (.func n) = .func (.func n) #[] #[]) → ρ (.tmp s) = us → ρ (.tmp t) = ut → (execOp ρ o).run P W = .ok r W') : (execOp a.eval o).run P W = .ok r W' := h a.eval (fun _ => rfl) (fun _ => rfl) hs ht
/-- the one operation that may come up yields a value. -/
theorem q_one {P : Program} {md : Region.Mode} {ops : Array Oper} {Q : Exit → Act → World → Prop} {fuel : Nat} {listed : Array Bool} {a : Act} {w : World} (i : Nat) {o : Oper} (v : Value) (w' : World) (hr : Region.ready md ops listed = [i]) (hi : ops[i]? = some o) (hg : o.guard = none)
    (h : (execOp a.eval o).run P w = .ok (.value v) w') (hk : wpAny P md ops Q fuel (listed.setIfInBounds i true) (a.put o.dst v) w') : wpAny P md ops Q (fuel + 1) listed a w := by
  refine wpAny_ready hr (by simp) (AllReady.cons hi (fun K hK => ?_) AllReady.nil)
  have hw : Region.wanted o (yielded ops a.tmps) = true := by simp [Region.wanted, hg]
  rw [if_pos hw]
  unfold Oper.wp; rw [h]; exact hK _ _ hk
/-- the one operation that may come up is a call. -/
theorem q_call {P : Program} {md : Region.Mode} {ops : Array Oper} {Q : Exit → Act → World → Prop} {fuel : Nat} {listed : Array Bool} {a : Act} {w : World} (i : Nat) {o : Oper} (f : FuncId) (args : Array Value) (R : Ending → World → Prop) (hr : Region.ready md ops listed = [i]) (hi : ops[i]? = some o) (hg : o.guard = none)
    (h : (execOp a.eval o).run P w = .ok (.enter f args) w) (hc : Calls P f args w R)
    (hk : ∀ v w', R (.returned v) w' → wpAny P md ops Q fuel (listed.setIfInBounds i true) (a.put o.dst v) w') (hp : ∀ ch w', R (.panicked ch) w' → Q (.panic ch) a w') (ho : ∀ w', R .outgrown w' → False) : wpAny P md ops Q (fuel + 1) listed a w := by
  refine wpAny_ready hr (by simp) (AllReady.cons hi (fun K hK => ?_) AllReady.nil)
  have hw : Region.wanted o (yielded ops a.tmps) = true := by simp [Region.wanted, hg]
  rw [if_pos hw]
  unfold Oper.wp; rw [h]
  show Calls _ _ _ _ _
  refine hc.mono fun x w' hx => ?_
  cases x with
  | returned v => exact hK _ _ (hk v w' hx)
  | panicked ch => exact hp ch w' hx
  | outgrown => exact (ho w' hx).elim
theorem q_def (a : Act) (d : Option Nat) (v : Value) : (a.put d v).defers = a.defers := by cases d <;> rfl
theorem q_panic {P : Program} {fn : Func} {R : Ending → World → Prop} {ch : List PanicEntry} {a : Act} {w : World} (hd : a.defers = []) (h : R (.panicked ch) w) : bodyPost P fn R (.panic ch) a w := ⟨hd, h⟩
theorem q_done0 {P : Program} {fn : Func} {R : Ending → World → Prop} {a : Act} {w : World} (hr : fn.results = #[]) (hd : a.defers = []) (h : R (.returned (.tuple #[])) w) : bodyPost P fn R .normal a w := ⟨hd, .tuple #[], results_none hr _ _ _, h⟩
end Go.Proofs.YtkmalggeieiepaaDoor
namespace Go.Proofs.YtkmalggeieiepaaDoor
open Go Go.RowKit

section
variable {P : Program} {ops : Array Oper} {Q : Exit → Act → World → Prop} {md : Region.Mode} {S : World → Prop} {k : Nat}

/-- whatever order is picked: S holds behind each operation that comes up, but for the last one, number k. -/
def wpAnyT (P : Program) (md : Region.Mode) (ops : Array Oper) (Q : Exit → Act → World → Prop) (S : World → Prop) (k : Nat) : Nat → Array Bool → Act → World → Prop
  | 0, listed, a, w => Region.ready md ops listed = [] ∧ Q .normal a w
  | fuel + 1, listed, a, w =>
    (Region.ready md ops listed = [] → Q .normal a w) ∧
    ∀ i ∈ Region.ready md ops listed, wpOp P ops Q i (fun a' w' => (i ≠ k → S w') ∧ wpAnyT P md ops Q S k fuel (listed.setIfInBounds i true) a' w') a w
theorem wpAny_of_T : ∀ (fuel : Nat) (listed : Array Bool) (a : Act) (w : World), wpAnyT P md ops Q S k fuel listed a w → wpAny P md ops Q fuel listed a w
  | 0, _, _, _, h => h
  | fuel + 1, _, _, _, h => ⟨h.1, fun i hi => wpOp_mono (fun a' w' h' => wpAny_of_T fuel _ a' w' h'.2) (h.2 i hi)⟩
/-- k waits for i. -/
def waits (md : Region.Mode) (ops : Array Oper) (k i : Nat) : Bool := match ops[k]? with
  | some o => o.after.any fun e => Region.binds md e && e.on == i
  | none => false
theorem waits_not {i : Nat} {listed : Array Bool} (hw : waits md ops k i = true) (hr : i ∈ Region.ready md ops listed) (hk : k ∈ Region.ready md ops listed) : False := by
  obtain ⟨_, ok, hok, hall⟩ := mem_ready.1 hk
  unfold waits at hw
  rw [hok] at hw
  obtain ⟨j, hj, h2⟩ := Array.any_iff_exists.1 hw
  have he : ok.after[j] ∈ ok.after := Array.getElem_mem _
  simp only [Bool.and_eq_true, beq_iff_eq] at h2
  have h1 := hall _ he h2.2.2.1
  have h0 := (mem_ready.1 hr).1
  rw [h2.2.2.2] at h1
  rcases Nat.lt_or_ge i listed.size with h' | h'
  · simp [h'] at h0 h1; rw [h0] at h1; cases h1
  · simp [Array.getElem?_eq_none h'] at h1
theorem wpAnyT_first {i : Nat} {oi : Oper} {v : Value} (hi : ops[i]? = some oi) (hsel : ∀ (j : Nat) (o : Oper) cs b, ops[j]? = some o → o.op ≠ .select cs b)
    (hQ : ∀ c a w, Q (.panic c) (a.put oi.dst v) w → Q (.panic c) a w) (hwk : waits md ops k i = true) :
    ∀ (fuel : Nat) (listed : Array Bool) (a : Act) (w : World),
      (∀ j oj, ops[j]? = some oj → j ≠ i → listed.getD j true = false → (∀ e ∈ oj.after, Region.binds md e = true → e.on ≠ i) → oi.apart ops oj = true) →
      i ∈ Region.ready md ops listed → YieldsIf P ops S oi v a → S w →
      wpAnyT P md ops Q S k fuel (listed.setIfInBounds i true) (a.put oi.dst v) w → wpAnyT P md ops Q S k (fuel + 1) listed a w := by
  intro fuel
  induction fuel with
  | zero =>
    intro listed a w _ hr hy hS H
    refine ⟨fun h => (by rw [h] at hr; cases hr), fun j hj => ?_⟩
    by_cases hji : j = i
    · subst hji; exact hy.wpOp hi hS ⟨fun _ => hS, H⟩
    · have := ready_mono hj hji
      rw [H.1] at this
      cases this
  | succ fuel ih =>
    intro listed a w hfree hr hy hS H
    refine ⟨fun h => (by rw [h] at hr; cases hr), fun j hj => ?_⟩
    by_cases hji : j = i
    · subst hji; exact hy.wpOp hi hS ⟨fun _ => hS, H⟩
    · have hjk : j ≠ k := fun e => waits_not hwk hr (e ▸ hj)
      have h1 := H.2 j (ready_mono hj hji)
      obtain ⟨hjun, oj, hoj, hall⟩ := mem_ready.1 hj
      have hnot : ∀ e ∈ oj.after, Region.binds md e = true → e.on ≠ i := fun e he hb heq => by
        have h1 := hall e he hb
        have h0 := (mem_ready.1 hr).1
        rw [heq] at h1
        rcases Nat.lt_or_ge i listed.size with h' | h'
        · simp [h'] at h0 h1; rw [h0] at h1; cases h1
        · simp [Array.getElem?_eq_none h'] at h1
      have h2 := wpOp_putIf hoj (hfree j oj hoj hji hjun hnot) (fun cs b => hsel i oi cs b hi) (fun cs b => hsel j oj cs b hoj) hQ hy h1
      have hfree' : ∀ k ok, ops[k]? = some ok → k ≠ i → (listed.setIfInBounds j true).getD k true = false →
          (∀ e ∈ ok.after, Region.binds md e = true → e.on ≠ i) → oi.apart ops ok = true := fun k ok hk hki hun hno => by
        refine hfree k ok hk hki ?_ hno
        by_cases hjk : j = k
        · subst hjk; exact hjun
        · rw [getD_set_ne true hjk] at hun; exact hun
      refine wpOp_mono (fun a' w' h3 => ⟨h3.2.1, ih (listed.setIfInBounds j true) a' w' hfree' (ready_mono hr (Ne.symm hji)) h3.1 (h3.2.1 hjk) ?_⟩) h2
      rw [Array.setIfInBounds_comm _ _ hji]
      exact h3.2.2
theorem wpAnyT_take {i : Nat} {oi : Oper} {v : Value} {fuel : Nat} {listed : Array Bool} {a : Act} {w : World} (hi : ops[i]? = some oi)
    (hs : Region.noSelect ops = true) (hf : Region.free md ops listed i = true) (hr : (Region.ready md ops listed).contains i = true) (hwk : waits md ops k i = true)
    (hQ : ∀ c a w, Q (.panic c) (a.put oi.dst v) w → Q (.panic c) a w) (hy : YieldsIf P ops S oi v a) (hS : S w)
    (h : wpAnyT P md ops Q S k fuel (listed.setIfInBounds i true) (a.put oi.dst v) w) : wpAnyT P md ops Q S k (fuel + 1) listed a w :=
  wpAnyT_first hi (Region.noSelect_spec hs) hQ hwk fuel listed a w (Region.free_spec hi hf) (by simpa using hr) hy hS h
theorem wpAnyT_one {i : Nat} {fuel : Nat} {listed : Array Bool} {a : Act} {w : World} (hr : Region.ready md ops listed = [i])
    (h : wpOp P ops Q i (fun a' w' => (i ≠ k → S w') ∧ wpAnyT P md ops Q S k fuel (listed.setIfInBounds i true) a' w') a w) : wpAnyT P md ops Q S k (fuel + 1) listed a w :=
  ⟨fun h0 => absurd (hr ▸ h0) (by simp), fun j hj => by
    rw [hr] at hj
    obtain rfl : j = i := by simpa using hj
    exact h⟩
theorem wpAnyT_done {listed : Array Bool} {a : Act} {w : World} (hr : Region.ready md ops listed = []) (h : Q .normal a w) :
    ∀ fuel, wpAnyT P md ops Q S k fuel listed a w
  | 0 => ⟨hr, h⟩
  | _ + 1 => ⟨fun _ => h, by rw [hr]; simp⟩
theorem wp_region_T {id : Nat} {a : Act} {w : World} (hm : P.follows .mixedOrders = true) (hS : S w.drew)
    (h : S w.drew → wpAnyT P .any ops Q S k ops.size (Array.replicate ops.size false) a w.drew) : (Code.region id ops true).wp P Q a w :=
  wp_region_any hm (wpAny_of_T _ _ _ _ (h hS))
/-- the one operation that may come up yields a value. -/
theorem qT_one {fuel : Nat} {listed : Array Bool} {a : Act} {w : World} (i : Nat) {o : Oper} (v : Value) (w' : World) (hr : Region.ready md ops listed = [i]) (hi : ops[i]? = some o) (hg : o.guard = none)
    (h : (execOp a.eval o).run P w = .ok (.value v) w') (hS : i ≠ k → S w') (hk : wpAnyT P md ops Q S k fuel (listed.setIfInBounds i true) (a.put o.dst v) w') : wpAnyT P md ops Q S k (fuel + 1) listed a w := by
  refine wpAnyT_one hr ?_
  unfold wpOp
  simp only [hi]
  have hw : Region.wanted o (yielded ops a.tmps) = true := by simp [Region.wanted, hg]
  rw [if_pos hw]
  refine .inl ?_
  unfold Oper.wp; rw [h]; exact ⟨hS, hk⟩
/-- .. a store. -/
theorem qT_skip {fuel : Nat} {listed : Array Bool} {a : Act} {w : World} (i : Nat) {o : Oper} (w' : World) (hr : Region.ready md ops listed = [i]) (hi : ops[i]? = some o) (hg : o.guard = none)
    (h : (execOp a.eval o).run P w = .ok .skip w') (hS : i ≠ k → S w') (hk : wpAnyT P md ops Q S k fuel (listed.setIfInBounds i true) (a.put o.dst undef) w') : wpAnyT P md ops Q S k (fuel + 1) listed a w := by
  refine wpAnyT_one hr ?_
  unfold wpOp
  simp only [hi]
  have hw : Region.wanted o (yielded ops a.tmps) = true := by simp [Region.wanted, hg]
  rw [if_pos hw]
  refine .inl ?_
  unfold Oper.wp; rw [h]; exact ⟨hS, hk⟩
/-- .. a call, which may leave by a panic. -/
theorem qT_call {fuel : Nat} {listed : Array Bool} {a : Act} {w : World} (i : Nat) {o : Oper} (f : FuncId) (args : Array Value) (R : Ending → World → Prop) (hr : Region.ready md ops listed = [i]) (hi : ops[i]? = some o) (hg : o.guard = none)
    (h : (execOp a.eval o).run P w = .ok (.enter f args) w) (hc : Calls P f args w R)
    (hk : ∀ v w', R (.returned v) w' → (i ≠ k → S w') ∧ wpAnyT P md ops Q S k fuel (listed.setIfInBounds i true) (a.put o.dst v) w') (hp : ∀ ch w', R (.panicked ch) w' → Q (.panic ch) a w') (ho : ∀ w', R .outgrown w' → False) : wpAnyT P md ops Q S k (fuel + 1) listed a w := by
  refine wpAnyT_one hr ?_
  unfold wpOp
  simp only [hi]
  have hw : Region.wanted o (yielded ops a.tmps) = true := by simp [Region.wanted, hg]
  rw [if_pos hw]
  refine .inl ?_
  unfold Oper.wp; rw [h]
  show Calls _ _ _ _ _
  refine hc.mono fun x w' hx => ?_
  cases x with
  | returned v => exact hk v w' hx
  | panicked ch => exact hp ch w' hx
  | outgrown => exact (ho w' hx).elim
/-- .. an append, told by a law on the plain step. -/
theorem qT_step {fuel : Nat} {listed : Array Bool} {a : Act} {w : World} (i : Nat) {o : Oper} (hr : Region.ready md ops listed = [i]) (hi : ops[i]? = some o)
    (h : ∀ K : Act → World → Prop, Hid (∀ a' w', (i ≠ k → S w') → (wpAnyT P md ops Q S k fuel (listed.setIfInBounds i true) a' w') → K a' w') → if Region.wanted o (yielded ops a.tmps) = true then Oper.wp P o a w K Q else K (a.put o.dst undef) w) : wpAnyT P md ops Q S k (fuel + 1) listed a w := by
  refine wpAnyT_one hr ?_
  have h2 := h (fun a' w' => (i ≠ k → S w') ∧ wpAnyT P md ops Q S k fuel (listed.setIfInBounds i true) a' w') (fun a' w' h1 h2 => ⟨h1, h2⟩)
  unfold wpOp
  simp only [hi]
  split
  · rename_i hw
    rw [if_pos hw] at h2
    exact .inl h2
  · rename_i hw
    rw [if_neg hw] at h2
    exact h2
end
end Go.Proofs.YtkmalggeieiepaaDoor
