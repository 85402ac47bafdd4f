import Derived.Test.YtkmalggeieiepaaDoorCuA
import Derived.WalkKit
import Derived.WalkSpells
import Derived.WalkLawsBesides
import Derived.Deep.DeepCutAuto
import Derived.Deep.QuietTactic
import Derived.BigQuiet
import Derived.Deep.RegionWith
namespace Go.Proofs.YtkmalggeieiepaaDoor
open Go.RowKit

theorem rSize_long (c : UInt8) (m : List UInt8) (hm : manyOf c ≠ 0) : rSize (c :: m, 0) = rLong (manyOf c) (leastOf c) m := by
  show (if manyOf c = 0 then _ else _ : Nat × (List UInt8 × Int)) = _
  rw [if_neg hm]
  unfold rLong
  by_cases h : m.length < manyOf c
  · rw [if_pos h, if_pos h]
  · rw [if_neg h, if_neg h]
    have hs := size_told c (m.take (manyOf c)) hm (by simp; omega)
    by_cases h2 : num (m.take (manyOf c)) < leastOf c
    · rw [if_pos h2, if_neg (fun e => (hs.1 e) h2)]
    · rw [if_neg h2, if_pos (hs.2 h2)]

set_option maxRecDepth 10000 in
set_option maxHeartbeats 1000000 in
theorem cuAny_any (g : Nat) (l m : List UInt8) (w : World) (h : Cu w g l m) (hl : l.length ≤ maxLen) :
    Calls Tryd.prog 95 #[.pointer (some ⟨g, 0, none⟩)] w (Got g l w (.int .u64 ((rSize (m, 0)).1 : Int)) (rSize (m, 0)).2) := by
  have hT := cuTake_any g 1 l m w h hl
  clear h
  cases m with
  | nil =>
    have e1 : rTake 1 ([], 0) = ([], ([], 1)) := by simp [rTake]
    have e2 : rSize ([], 0) = (0, ([], 1)) := by simp [rSize]
    rw [e1] at hT
    rw [e2]
    have hN := calls_no hT (by simp)
    clear hT
    go_enter Tryd.func95, Tryd.ntmps95
    go_wp2_with (go_at_call 54; go_must (refine hN.mono ?_); rintro x w1 ⟨rfl, hm1⟩)
    exact ⟨rfl, Got.no rfl (by omega) hm1⟩
  | cons c m =>
    have e1 : rTake 1 (c :: m, 0) = ([c], (m, 0)) := by simp [rTake]
    rw [e1] at hT
    have hN := calls_ok hT rfl
    have hL := fun W => lowest_any (ofL [c]) W (by rw [ofL_size]; simp)
    rw [ofL_data] at hL
    clear hT e1
    by_cases c1 : c = 253
    · subst c1
      have hz := fun (W : World) (hc : Cu W g l m) => cuLong_any g 2 253 l m W hc hl (by omega)
      have e2 : rSize (253 :: m, 0) = rLong 2 253 m := rSize_long 253 m (by decide)
      rw [e2]
      have hn : num [(253 : UInt8)] = 253 := rfl
      rw [hn] at hL
      clear e2 hn hl
      generalize rLong 2 253 m = p at hz
      obtain ⟨q, r⟩ := p
      by_cases hr : r.2 = 0
      · have hz2 := fun (W : World) (hc : Cu W g l m) => calls_ok (hz W hc) hr
        have HZ : Hid (∀ W, Cu W g l m → Calls Tryd.prog 99 #[.pointer (some ⟨g, 0, none⟩), .int .i64 2, .int .u64 253] W fun x w' => x = .returned (.int .u64 (q : Int)) ∧ Cu w' g l r.1 ∧ Mov g W w') := hz2
        clear hz hz2
        go_enter Tryd.func95, Tryd.ntmps95
        go_wp2_with (first
          | (go_at_call 54; go_must (refine hN.mono ?_); rintro x w1 ⟨rfl, hc1, hm1⟩; have HC1 := (show Hid (Cu w1 g l m) from hc1); have HM1 := (show Hid (Mov g w w1) from hm1); clear hc1 hm1)
          | (go_at_call 89; go_must (refine (hL _).mono ?_); rintro x w1 ⟨rfl, rfl⟩)
          | (go_at_call 99; go_must (refine (HZ.out _ HC1.out).mono ?_); rintro x w3 ⟨rfl, hc3, hm3⟩; have HC3 := (show Hid (Cu w3 g l r.1) from hc3); have HM3 := (show Hid (Mov g w1 w3) from hm3); clear hc3 hm3))
        go_ret
        exact Got.ok hr (HM1.out.trans HM3.out) HC3.out
      · have hz2 := fun (W : World) (hc : Cu W g l m) => calls_no (hz W hc) hr
        have HZ : Hid (∀ W, Cu W g l m → Calls Tryd.prog 99 #[.pointer (some ⟨g, 0, none⟩), .int .i64 2, .int .u64 253] W fun x w' => x = .panicked [{ v := .iface 26 (.int .i64 r.2), recovered := false }] ∧ Mov g W w') := hz2
        clear hz hz2
        go_enter Tryd.func95, Tryd.ntmps95
        go_wp2_with (first
          | (go_at_call 54; go_must (refine hN.mono ?_); rintro x w1 ⟨rfl, hc1, hm1⟩; have HC1 := (show Hid (Cu w1 g l m) from hc1); have HM1 := (show Hid (Mov g w w1) from hm1); clear hc1 hm1)
          | (go_at_call 89; go_must (refine (hL _).mono ?_); rintro x w1 ⟨rfl, rfl⟩)
          | (go_at_call 99; go_must (refine (HZ.out _ HC1.out).mono ?_); rintro x w3 ⟨rfl, hm3⟩; have HM3 := (show Hid (Mov g w1 w3) from hm3); clear hm3))
        exact ⟨rfl, Got.no rfl hr (HM1.out.trans HM3.out)⟩
    · by_cases c2 : c = 254
      · subst c2
        have hz := fun (W : World) (hc : Cu W g l m) => cuLong_any g 4 65536 l m W hc hl (by omega)
        have e2 : rSize (254 :: m, 0) = rLong 4 65536 m := rSize_long 254 m (by decide)
        rw [e2]
        have hn : num [(254 : UInt8)] = 254 := rfl
        rw [hn] at hL
        clear e2 hn hl
        generalize rLong 4 65536 m = p at hz
        obtain ⟨q, r⟩ := p
        by_cases hr : r.2 = 0
        · have hz2 := fun (W : World) (hc : Cu W g l m) => calls_ok (hz W hc) hr
          have HZ : Hid (∀ W, Cu W g l m → Calls Tryd.prog 99 #[.pointer (some ⟨g, 0, none⟩), .int .i64 4, .int .u64 65536] W fun x w' => x = .returned (.int .u64 (q : Int)) ∧ Cu w' g l r.1 ∧ Mov g W w') := hz2
          clear hz hz2
          go_enter Tryd.func95, Tryd.ntmps95
          go_wp2_with (first
            | (go_at_call 54; go_must (refine hN.mono ?_); rintro x w1 ⟨rfl, hc1, hm1⟩; have HC1 := (show Hid (Cu w1 g l m) from hc1); have HM1 := (show Hid (Mov g w w1) from hm1); clear hc1 hm1)
            | (go_at_call 89; go_must (refine (hL _).mono ?_); rintro x w1 ⟨rfl, rfl⟩)
            | (go_at_call 99; go_must (refine (HZ.out _ HC1.out).mono ?_); rintro x w3 ⟨rfl, hc3, hm3⟩; have HC3 := (show Hid (Cu w3 g l r.1) from hc3); have HM3 := (show Hid (Mov g w1 w3) from hm3); clear hc3 hm3))
          go_ret
          exact Got.ok hr (HM1.out.trans HM3.out) HC3.out
        · have hz2 := fun (W : World) (hc : Cu W g l m) => calls_no (hz W hc) hr
          have HZ : Hid (∀ W, Cu W g l m → Calls Tryd.prog 99 #[.pointer (some ⟨g, 0, none⟩), .int .i64 4, .int .u64 65536] W fun x w' => x = .panicked [{ v := .iface 26 (.int .i64 r.2), recovered := false }] ∧ Mov g W w') := hz2
          clear hz hz2
          go_enter Tryd.func95, Tryd.ntmps95
          go_wp2_with (first
            | (go_at_call 54; go_must (refine hN.mono ?_); rintro x w1 ⟨rfl, hc1, hm1⟩; have HC1 := (show Hid (Cu w1 g l m) from hc1); have HM1 := (show Hid (Mov g w w1) from hm1); clear hc1 hm1)
            | (go_at_call 89; go_must (refine (hL _).mono ?_); rintro x w1 ⟨rfl, rfl⟩)
            | (go_at_call 99; go_must (refine (HZ.out _ HC1.out).mono ?_); rintro x w3 ⟨rfl, hm3⟩; have HM3 := (show Hid (Mov g w1 w3) from hm3); clear hm3))
          exact ⟨rfl, Got.no rfl hr (HM1.out.trans HM3.out)⟩
      · by_cases c3 : c = 255
        · subst c3
          have hz := fun (W : World) (hc : Cu W g l m) => cuLong_any g 8 4294967296 l m W hc hl (by omega)
          have e2 : rSize (255 :: m, 0) = rLong 8 4294967296 m := rSize_long 255 m (by decide)
          rw [e2]
          have hn : num [(255 : UInt8)] = 255 := rfl
          rw [hn] at hL
          clear e2 hn hl
          generalize rLong 8 4294967296 m = p at hz
          obtain ⟨q, r⟩ := p
          by_cases hr : r.2 = 0
          · have hz2 := fun (W : World) (hc : Cu W g l m) => calls_ok (hz W hc) hr
            have HZ : Hid (∀ W, Cu W g l m → Calls Tryd.prog 99 #[.pointer (some ⟨g, 0, none⟩), .int .i64 8, .int .u64 4294967296] W fun x w' => x = .returned (.int .u64 (q : Int)) ∧ Cu w' g l r.1 ∧ Mov g W w') := hz2
            clear hz hz2
            go_enter Tryd.func95, Tryd.ntmps95
            go_wp2_with (first
              | (go_at_call 54; go_must (refine hN.mono ?_); rintro x w1 ⟨rfl, hc1, hm1⟩; have HC1 := (show Hid (Cu w1 g l m) from hc1); have HM1 := (show Hid (Mov g w w1) from hm1); clear hc1 hm1)
              | (go_at_call 89; go_must (refine (hL _).mono ?_); rintro x w1 ⟨rfl, rfl⟩)
              | (go_at_call 99; go_must (refine (HZ.out _ HC1.out).mono ?_); rintro x w3 ⟨rfl, hc3, hm3⟩; have HC3 := (show Hid (Cu w3 g l r.1) from hc3); have HM3 := (show Hid (Mov g w1 w3) from hm3); clear hc3 hm3))
            go_ret
            exact Got.ok hr (HM1.out.trans HM3.out) HC3.out
          · have hz2 := fun (W : World) (hc : Cu W g l m) => calls_no (hz W hc) hr
            have HZ : Hid (∀ W, Cu W g l m → Calls Tryd.prog 99 #[.pointer (some ⟨g, 0, none⟩), .int .i64 8, .int .u64 4294967296] W fun x w' => x = .panicked [{ v := .iface 26 (.int .i64 r.2), recovered := false }] ∧ Mov g W w') := hz2
            clear hz hz2
            go_enter Tryd.func95, Tryd.ntmps95
            go_wp2_with (first
              | (go_at_call 54; go_must (refine hN.mono ?_); rintro x w1 ⟨rfl, hc1, hm1⟩; have HC1 := (show Hid (Cu w1 g l m) from hc1); have HM1 := (show Hid (Mov g w w1) from hm1); clear hc1 hm1)
              | (go_at_call 89; go_must (refine (hL _).mono ?_); rintro x w1 ⟨rfl, rfl⟩)
              | (go_at_call 99; go_must (refine (HZ.out _ HC1.out).mono ?_); rintro x w3 ⟨rfl, hm3⟩; have HM3 := (show Hid (Mov g w1 w3) from hm3); clear hm3))
            exact ⟨rfl, Got.no rfl hr (HM1.out.trans HM3.out)⟩
        · have hm : manyOf c = 0 := by simp [manyOf, c1, c2, c3]
          have e2 : rSize (c :: m, 0) = (c.toNat, (m, 0)) := by simp [rSize, hm]
          rw [e2]
          have hn : num [c] = c.toNat := by simp [num]
          rw [hn] at hL
          have n1 : ¬ ((c.toNat : Int) = 253) := fun h => c1 (by rw [← UInt8.toNat_inj]; simp; omega)
          have n2 : ¬ ((c.toNat : Int) = 254) := fun h => c2 (by rw [← UInt8.toNat_inj]; simp; omega)
          have n3 : ¬ ((c.toNat : Int) = 255) := fun h => c3 (by rw [← UInt8.toNat_inj]; simp; omega)
          clear c1 c2 c3 hm e2 hn
          generalize (c.toNat : Int) = C at hL n1 n2 n3
          go_enter Tryd.func95, Tryd.ntmps95
          go_wp2_with (first
            | (go_at_call 54; go_must (refine hN.mono ?_); rintro x w1 ⟨rfl, hc1, hm1⟩; have HC1 := (show Hid (Cu w1 g l m) from hc1); have HM1 := (show Hid (Mov g w w1) from hm1); clear hc1 hm1)
            | (go_at_call 89; go_must (refine (hL _).mono ?_); rintro x w1 ⟨rfl, rfl⟩))
          go_ret
          exact Got.ok rfl HM1.out HC1.out

set_option maxRecDepth 10000 in
theorem cuSize_any (g lo hi : Nat) (l m : List UInt8) (w : World) (h : Cu w g l m) (hl : l.length ≤ maxLen) :
    Calls Tryd.prog 84 #[.pointer (some ⟨g, 0, none⟩), .int .u64 (lo : Int), .int .u64 (hi : Int)] w (Got g l w (.int .u64 ((rWithin lo hi (m, 0)).1 : Int)) (rWithin lo hi (m, 0)).2) := by
  have hz := cuAny_any g l m w h hl
  have HE : rWithin lo hi (m, 0) = if (rSize (m, 0)).2.2 ≠ 0 then (0, (rSize (m, 0)).2) else if (rSize (m, 0)).1 < lo ∨ hi < (rSize (m, 0)).1 then (0, ((rSize (m, 0)).2.1, 3)) else rSize (m, 0) := rfl
  rw [HE]
  clear h HE hl
  generalize rSize (m, 0) = p at hz
  obtain ⟨q, r⟩ := p
  by_cases hr : r.2 = 0
  · have hN := calls_ok hz hr
    clear hz
    rw [if_neg (fun h => h hr)]
    by_cases hb : q < lo ∨ hi < q
    · rw [if_pos hb]
      by_cases h1 : q < lo
      · have i1 : (q : Int) < (lo : Int) := by omega
        go_enter Tryd.func84, Tryd.ntmps84
        go_wp2_with (go_at_call 95; go_must (refine hN.mono ?_); rintro x w1 ⟨rfl, hc1, hm1⟩)
        exact ⟨rfl, Got.no rfl (by omega) hm1⟩
      · have i1 : ¬ ((q : Int) < (lo : Int)) := by omega
        have i2 : (hi : Int) < (q : Int) := by omega
        go_enter Tryd.func84, Tryd.ntmps84
        go_wp2_with (go_at_call 95; go_must (refine hN.mono ?_); rintro x w1 ⟨rfl, hc1, hm1⟩)
        exact ⟨rfl, Got.no rfl (by omega) hm1⟩
    · rw [if_neg hb]
      have i1 : ¬ ((q : Int) < (lo : Int)) := by omega
      have i2 : ¬ ((hi : Int) < (q : Int)) := by omega
      go_enter Tryd.func84, Tryd.ntmps84
      go_wp2_with (go_at_call 95; go_must (refine hN.mono ?_); rintro x w1 ⟨rfl, hc1, hm1⟩)
      go_ret
      exact Got.ok hr hm1 hc1
  · have hN := calls_no hz hr
    clear hz
    rw [if_pos hr]
    go_enter Tryd.func84, Tryd.ntmps84
    go_wp2_with (go_at_call 95; go_must (refine hN.mono ?_); rintro x w1 ⟨rfl, hm1⟩)
    exact ⟨rfl, Got.no rfl hr hm1⟩
end Go.Proofs.YtkmalggeieiepaaDoor
