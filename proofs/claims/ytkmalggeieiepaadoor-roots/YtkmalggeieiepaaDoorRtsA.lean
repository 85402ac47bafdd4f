import Derived.Test.YtkmalggeieiepaaDoorRows
import Derived.Test.YtkmalggeieiepaaDoorTie
import Derived.Test.YtkmalggeieiepaaDoorCards
import Derived.Test.YtkmalggeieiepaaDoorRefI
import Derived.Test.YtkmalggeieiepaaDoorTwA
import Derived.Test.YtkmalggeieiepaaDoorRtB
import Derived.Test.YtkmalggeieiepaaDoorRpF
import Derived.WalkKit
import Derived.WalkSpells
import Derived.WalkLawsBesides
import Derived.Deep.LoopGhost
import Derived.Deep.DeepCutAuto
namespace Go.Proofs.YtkmalggeieiepaaDoor
open Go.RowKit

set_option maxHeartbeats 1000000 in
theorem roots_great (a : Option Addr) (n cap : Nat) (w : World) (h : 300 < n) :
    Calls Tryd.prog 5 #[.slice a n cap] w fun e w' => e = .returned (.bool true) ∧ Below w.heap.size w w' := by
  have k : (300 : Int) < (n : Int) := by omega
  go_enter Tryd.func5, Tryd.ntmps5
  go_wp2
  go_ret
  exact ⟨rfl, Below.refl _ _⟩
set_option maxHeartbeats 1000000 in
theorem roots_nil (a : Option Addr) (cap : Nat) (w : World) :
    Calls Tryd.prog 5 #[.slice a 0 cap] w fun e w' => e = .returned (.bool true) ∧ Below w.heap.size w w' := by
  have hr := rroot_nil kcR a cap w
  have e0 : rootRes kcR [] = #[.string ByteArray.empty, .bool false, .int .i64 3] := by simp [rootRes]
  rw [e0] at hr
  clear e0
  go_enter Tryd.func5, Tryd.ntmps5
  go_upto_region 6 with (go_at_call 14; go_must (refine hr.mono ?_); rintro e w1 ⟨rfl, hb1⟩; have HB1 := (show Hid (Below w.heap.size w w1) from hb1); clear hb1)
  go_loopg [6, 8, 25] 0 (fun g ov _ iv wx => ov = .bool false ∧ iv = .int .i64 0 ∧ wx = w1)
  case atStart => exact ⟨rfl, rfl, rfl⟩
  case round =>
    obtain ⟨rfl, rfl, rfl⟩ := hrel
    go_wp2
    go_ret
    exact ⟨rfl, HB1.out⟩

def all32 (l : List ByteArray) : Bool := l.all fun s => s.size == 32
theorem all32_iff (l : List ByteArray) : all32 l = true ↔ ∀ s ∈ l, s.size = 32 := by simp [all32]
theorem all32_snoc (l : List ByteArray) (s : ByteArray) : all32 (l ++ [s]) = (all32 l && (s.size == 32)) := by simp [all32]

set_option maxRecDepth 10000 in
set_option maxHeartbeats 2000000 in
theorem roots_some (l : List ByteArray) (b o cap : Nat) (w : World) (hrow : SRow w b o l) (hne : 0 < l.length) (hlen : l.length ≤ 300) (hkt : KT kcR w) :
    Calls Tryd.prog 5 #[.slice (some ⟨b, o, none⟩) l.length cap] w fun e w' => e = .returned (.bool true) ∧ Below w.heap.size w w' := by
  have hr := rroot_any kcR l b o cap w hrow hne hlen hkt
  have hbw : b < w.heap.size := hrow.lt hne
  obtain ⟨B, hB⟩ : ∃ B, B = all32 l := ⟨_, rfl⟩
  have HTK : Hid (all32 (l.take l.length) = B) := by show _ = _; rw [List.take_length, hB]
  have HROW : Hid (∀ wx, Below w.heap.size w wx → SRow wx b o l) := fun wx hb => hrow.later hb hbw
  obtain ⟨n, hn⟩ : ∃ n, n = l.length := ⟨_, rfl⟩
  have HN : Hid (n = l.length) := hn
  have hgt : ¬ ((300 : Int) < (n : Int)) := by omega
  have hpos : (0 : Int) < (n : Int) := by omega
  have HST : Hid (∀ k, k < n → ∃ s, (∀ wx, Below w.heap.size w wx → wx.cell? ⟨b, o + k, none⟩ = some (.string s)) ∧ all32 (l.take (k + 1)) = (all32 (l.take k) && (s.size == 32))) := fun k hk => by
    have hkl : k < l.length := by omega
    exact ⟨l[k], fun wx hb => HROW.out wx hb k hkl, by rw [List.take_succ_eq_append_getElem hkl, all32_snoc]⟩
  rw [← hn] at hr HTK
  rw [← hn]
  cases B with
  | false =>
    have e0 : rootRes kcR l = #[.string ByteArray.empty, .bool false, .int .i64 3] := by
      unfold rootRes; rw [if_neg (fun h => by rw [(all32_iff l).2 h.2] at hB; cases hB)]
    rw [e0] at hr
    clear e0 hB hrow hkt HROW hbw hn hne hlen HN
    go_enter Tryd.func5, Tryd.ntmps5
    go_upto_region 6 with (go_at_call 14; go_must (refine hr.mono ?_); rintro e w1 ⟨rfl, hb1⟩; have HB1 := (show Hid (Below w.heap.size w w1) from hb1); clear hb1)
    go_loopg [6, 8, 25] n (fun g ov _ iv wx => ∃ (k : Nat) (t : Bool), k + g = n ∧ iv = .int .i64 (k : Int) ∧ ov = .bool t ∧ t = all32 (l.take k) ∧ wx = w1)
    case atStart => exact ⟨0, true, by omega, rfl, by (rw [decide_eq_true (show 0 < n by omega)]), rfl, rfl⟩
    case round =>
      obtain ⟨k, t, hkn, rfl, rfl, ht, rfl⟩ := hrel
      have HT : Hid (t = all32 (l.take k)) := ht
      have HKN : Hid (k + gk = n) := hkn
      clear ht hkn
      by_cases hlt : k < n
      · have k1 : (k : Int) < (n : Int) := by omega
        obtain ⟨s, hs, ha⟩ := HST.out k hlt
        have cs := hs wr HB1.out
        have HA : Hid (all32 (l.take (k + 1)) = (t && (s.size == 32))) := by show _ = _; rw [ha, HT.out]
        clear hs ha hlt
        cases t
        · go_wp2
          go_roundg (gk - 1)
          case measure => have := HKN.out; omega
          case rel => have h := HKN.out; exact ⟨k + 1, false, by omega, by go_num, rfl, by rw [HA.out]; rfl, rfl⟩
        · obtain ⟨q, hq⟩ : ∃ q, q = ((s.size : Int) == 32) := ⟨_, rfl⟩
          have HQ : Hid (q = (s.size == 32)) := by
            show _ = _
            rw [hq, Bool.eq_iff_iff]; simp; omega
          go_wp2
          go_roundg (gk - 1)
          case measure => have := HKN.out; omega
          case rel => have h := HKN.out; exact ⟨k + 1, q, by omega, by go_num, by rw [hq], by rw [HA.out, HQ.out]; rfl, rfl⟩
      · have hk : k = n := by have := HKN.out; omega
        subst hk
        have htf : t = false := by rw [HT.out, HTK.out]
        subst htf
        clear HT HTK
        go_wp2
        go_ret
        exact ⟨rfl, HB1.out⟩
  | true =>
    have h32 := (all32_iff l).1 hB.symm
    have e0 : rootRes kcR l = #[.string (rootF (dd kcR) l false).1, .bool (rootF (dd kcR) l false).2, .int .i64 0] := by
      unfold rootRes; rw [if_pos ⟨by omega, h32⟩]
    rw [e0] at hr
    have HREF : Hid (∀ (gt : Nat) (W : World), HasTab W gt → Below w.heap.size w W → Calls Tryd.prog 15 #[.pointer (some ⟨gt, 0, none⟩), .slice (some ⟨b, o, none⟩) n cap] W fun e w' => e = .returned (.tuple #[.string (rootF (dd kcR) l false).1, .bool (rootF (dd kcR) l false).2]) ∧ Below W.heap.size W w') := fun gt W hT hb => by
      rw [HN.out]
      refine root_any gt (dd kcR) (dd_size kcR) l b o cap W (HROW.out W hb) hne hlen h32 (fun s V hs hV => ?_)
      exact twice_of gt (fun t => strOf (shaF kcR t.data.toList) 32) (fun t => by rw [strOf_size]; omega) s V (by omega) (fun t V' ht hV' => refSum_any gt t V' ((hT.later hV).later hV') ht)
    clear e0 hB hrow hkt HROW hbw hn hne hlen HN h32
    generalize rootF (dd kcR) l false = R at hr HREF
    obtain ⟨R1, R2⟩ := R
    go_enter Tryd.func5, Tryd.ntmps5
    go_upto_region 6 with (go_at_call 14; go_must (refine hr.mono ?_); rintro e w1 ⟨rfl, hb1⟩; have HB1 := (show Hid (Below w.heap.size w w1) from hb1); clear hb1)
    go_loopg [6, 8, 25] n (fun g ov _ iv wx => ∃ (k : Nat) (t : Bool), k + g = n ∧ iv = .int .i64 (k : Int) ∧ ov = .bool t ∧ t = all32 (l.take k) ∧ wx = w1)
    case atStart => exact ⟨0, true, by omega, rfl, by (rw [decide_eq_true (show 0 < n by omega)]), rfl, rfl⟩
    case round =>
      obtain ⟨k, t, hkn, rfl, rfl, ht, rfl⟩ := hrel
      have HT : Hid (t = all32 (l.take k)) := ht
      have HKN : Hid (k + gk = n) := hkn
      clear ht hkn
      by_cases hlt : k < n
      · have k1 : (k : Int) < (n : Int) := by omega
        obtain ⟨s, hs, ha⟩ := HST.out k hlt
        have cs := hs wr HB1.out
        have HA : Hid (all32 (l.take (k + 1)) = (t && (s.size == 32))) := by show _ = _; rw [ha, HT.out]
        clear hs ha hlt
        cases t
        · go_wp2
          go_roundg (gk - 1)
          case measure => have := HKN.out; omega
          case rel => have h := HKN.out; exact ⟨k + 1, false, by omega, by go_num, rfl, by rw [HA.out]; rfl, rfl⟩
        · obtain ⟨q, hq⟩ : ∃ q, q = ((s.size : Int) == 32) := ⟨_, rfl⟩
          have HQ : Hid (q = (s.size == 32)) := by
            show _ = _
            rw [hq, Bool.eq_iff_iff]; simp; omega
          go_wp2
          go_roundg (gk - 1)
          case measure => have := HKN.out; omega
          case rel => have h := HKN.out; exact ⟨k + 1, q, by omega, by go_num, by rw [hq], by rw [HA.out, HQ.out]; rfl, rfl⟩
      · have hk : k = n := by have := HKN.out; omega
        subst hk
        have htf : t = true := by rw [HT.out, HTK.out]
        subst htf
        clear HT HTK
        go_wp2_with (first
          | (go_at_call 9; go_must (refine (newTables_has _).mono ?_); rintro e w3 ⟨rfl, ht3, hb3⟩; have HT3 := (show Hid (HasTab w3 _) from ht3); have HB3 := (show Hid (Below w.heap.size w w3) from HB1.out.trans (hb3.mono HB1.out.size)); clear ht3 hb3)
          | (go_at_call 15; go_must (refine (HREF.out _ _ HT3.out HB3.out).mono ?_); rintro e w4 ⟨rfl, hb4⟩; have HB4 := (show Hid (Below w.heap.size w w4) from HB3.out.trans (hb4.mono HB3.out.size)); clear hb4))
        go_ret
        exact ⟨by simp, HB4.out⟩
end Go.Proofs.YtkmalggeieiepaaDoor
