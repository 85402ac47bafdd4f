import Derived.Test.YtkmalggeieiepabDoorPzf
import Derived.WalkKit
import Derived.WalkSpells
import Derived.WalkLawsBesides
import Derived.Deep.DeepCutAuto
import Derived.Deep.QuietTactic
import Derived.BigQuiet
import Derived.Deep.RegionWith
import Derived.Test.YtkmalggeieiepabDoorPzc
import Derived.Deep.LoopGhost
import Derived.Defers
import Derived.Recover
namespace Go.Proofs.YtkmalggeieiepabDoor
open Go.RowKit

theorem rSize_long (c : UInt8) (m : List UInt8) (hm : manyOf c ≠ 0) : rSize (c :: m, 0) = rLong (manyOf c) (leastOf c) m := by
  show (if manyOf c = 0 then _ else _ : Nat × (List UInt8 × Int)) = _
  rw [if_neg hm]
  unfold rLong
  by_cases h : m.length < manyOf c
  · rw [if_pos h, if_pos h]
  · rw [if_neg h, if_neg h]
    have hs := size_told c (m.take (manyOf c)) hm (by simp; omega)
    by_cases h2 : num (m.take (manyOf c)) < leastOf c
    · rw [if_pos h2, if_neg (fun e => (hs.1 e) h2)]
    · rw [if_neg h2, if_pos (hs.2 h2)]

set_option maxRecDepth 10000 in
set_option maxHeartbeats 1000000 in
theorem cuAny_any (g : Nat) (l m : List UInt8) (w : World) (h : Cu w g l m) (hl : l.length ≤ maxLen) :
    Calls Tryd.prog 93 #[.pointer (some ⟨g, 0, none⟩)] w (Got g l w (.int .u64 ((rSize (m, 0)).1 : Int)) (rSize (m, 0)).2) := by
  have hT := cuTake_any g 1 l m w h hl
  clear h
  cases m with
  | nil =>
    have e1 : rTake 1 ([], 0) = ([], ([], 1)) := by simp [rTake]
    have e2 : rSize ([], 0) = (0, ([], 1)) := by simp [rSize]
    rw [e1] at hT
    rw [e2]
    have hN := calls_no hT (by simp)
    clear hT
    go_enter Tryd.func93, Tryd.ntmps93
    go_wp2_with (go_at_call 49; go_must (refine hN.mono ?_); rintro x w1 ⟨rfl, hm1⟩)
    exact ⟨rfl, Got.no rfl (by omega) hm1⟩
  | cons c m =>
    have e1 : rTake 1 (c :: m, 0) = ([c], (m, 0)) := by simp [rTake]
    rw [e1] at hT
    have hN := calls_ok hT rfl
    have hL := fun W => lowest_any (ofL [c]) W (by rw [ofL_size]; simp)
    rw [ofL_data] at hL
    clear hT e1
    by_cases c1 : c = 253
    · subst c1
      have hz := fun (W : World) (hc : Cu W g l m) => cuLong_any g 2 253 l m W hc hl (by omega)
      have e2 : rSize (253 :: m, 0) = rLong 2 253 m := rSize_long 253 m (by decide)
      rw [e2]
      have hn : num [(253 : UInt8)] = 253 := rfl
      rw [hn] at hL
      clear e2 hn hl
      generalize rLong 2 253 m = p at hz
      obtain ⟨q, r⟩ := p
      by_cases hr : r.2 = 0
      · have hz2 := fun (W : World) (hc : Cu W g l m) => calls_ok (hz W hc) hr
        have HZ : Hid (∀ W, Cu W g l m → Calls Tryd.prog 100 #[.pointer (some ⟨g, 0, none⟩), .int .i64 2, .int .u64 253] W fun x w' => x = .returned (.int .u64 (q : Int)) ∧ Cu w' g l r.1 ∧ Mov g W w') := hz2
        clear hz hz2
        go_enter Tryd.func93, Tryd.ntmps93
        go_wp2_with (first
          | (go_at_call 49; go_must (refine hN.mono ?_); rintro x w1 ⟨rfl, hc1, hm1⟩; have HC1 := (show Hid (Cu w1 g l m) from hc1); have HM1 := (show Hid (Mov g w w1) from hm1); clear hc1 hm1)
          | (go_at_call 45; go_must (refine (hL _).mono ?_); rintro x w1 ⟨rfl, rfl⟩)
          | (go_at_call 100; go_must (refine (HZ.out _ HC1.out).mono ?_); rintro x w3 ⟨rfl, hc3, hm3⟩; have HC3 := (show Hid (Cu w3 g l r.1) from hc3); have HM3 := (show Hid (Mov g w1 w3) from hm3); clear hc3 hm3))
        go_ret
        exact Got.ok hr (HM1.out.trans HM3.out) HC3.out
      · have hz2 := fun (W : World) (hc : Cu W g l m) => calls_no (hz W hc) hr
        have HZ : Hid (∀ W, Cu W g l m → Calls Tryd.prog 100 #[.pointer (some ⟨g, 0, none⟩), .int .i64 2, .int .u64 253] W fun x w' => x = .panicked [{ v := .iface 32 (.int .i64 r.2), recovered := false }] ∧ Mov g W w') := hz2
        clear hz hz2
        go_enter Tryd.func93, Tryd.ntmps93
        go_wp2_with (first
          | (go_at_call 49; go_must (refine hN.mono ?_); rintro x w1 ⟨rfl, hc1, hm1⟩; have HC1 := (show Hid (Cu w1 g l m) from hc1); have HM1 := (show Hid (Mov g w w1) from hm1); clear hc1 hm1)
          | (go_at_call 45; go_must (refine (hL _).mono ?_); rintro x w1 ⟨rfl, rfl⟩)
          | (go_at_call 100; go_must (refine (HZ.out _ HC1.out).mono ?_); rintro x w3 ⟨rfl, hm3⟩; have HM3 := (show Hid (Mov g w1 w3) from hm3); clear hm3))
        exact ⟨rfl, Got.no rfl hr (HM1.out.trans HM3.out)⟩
    · by_cases c2 : c = 254
      · subst c2
        have hz := fun (W : World) (hc : Cu W g l m) => cuLong_any g 4 65536 l m W hc hl (by omega)
        have e2 : rSize (254 :: m, 0) = rLong 4 65536 m := rSize_long 254 m (by decide)
        rw [e2]
        have hn : num [(254 : UInt8)] = 254 := rfl
        rw [hn] at hL
        clear e2 hn hl
        generalize rLong 4 65536 m = p at hz
        obtain ⟨q, r⟩ := p
        by_cases hr : r.2 = 0
        · have hz2 := fun (W : World) (hc : Cu W g l m) => calls_ok (hz W hc) hr
          have HZ : Hid (∀ W, Cu W g l m → Calls Tryd.prog 100 #[.pointer (some ⟨g, 0, none⟩), .int .i64 4, .int .u64 65536] W fun x w' => x = .returned (.int .u64 (q : Int)) ∧ Cu w' g l r.1 ∧ Mov g W w') := hz2
          clear hz hz2
          go_enter Tryd.func93, Tryd.ntmps93
          go_wp2_with (first
            | (go_at_call 49; go_must (refine hN.mono ?_); rintro x w1 ⟨rfl, hc1, hm1⟩; have HC1 := (show Hid (Cu w1 g l m) from hc1); have HM1 := (show Hid (Mov g w w1) from hm1); clear hc1 hm1)
            | (go_at_call 45; go_must (refine (hL _).mono ?_); rintro x w1 ⟨rfl, rfl⟩)
            | (go_at_call 100; go_must (refine (HZ.out _ HC1.out).mono ?_); rintro x w3 ⟨rfl, hc3, hm3⟩; have HC3 := (show Hid (Cu w3 g l r.1) from hc3); have HM3 := (show Hid (Mov g w1 w3) from hm3); clear hc3 hm3))
          go_ret
          exact Got.ok hr (HM1.out.trans HM3.out) HC3.out
        · have hz2 := fun (W : World) (hc : Cu W g l m) => calls_no (hz W hc) hr
          have HZ : Hid (∀ W, Cu W g l m → Calls Tryd.prog 100 #[.pointer (some ⟨g, 0, none⟩), .int .i64 4, .int .u64 65536] W fun x w' => x = .panicked [{ v := .iface 32 (.int .i64 r.2), recovered := false }] ∧ Mov g W w') := hz2
          clear hz hz2
          go_enter Tryd.func93, Tryd.ntmps93
          go_wp2_with (first
            | (go_at_call 49; go_must (refine hN.mono ?_); rintro x w1 ⟨rfl, hc1, hm1⟩; have HC1 := (show Hid (Cu w1 g l m) from hc1); have HM1 := (show Hid (Mov g w w1) from hm1); clear hc1 hm1)
            | (go_at_call 45; go_must (refine (hL _).mono ?_); rintro x w1 ⟨rfl, rfl⟩)
            | (go_at_call 100; go_must (refine (HZ.out _ HC1.out).mono ?_); rintro x w3 ⟨rfl, hm3⟩; have HM3 := (show Hid (Mov g w1 w3) from hm3); clear hm3))
          exact ⟨rfl, Got.no rfl hr (HM1.out.trans HM3.out)⟩
      · by_cases c3 : c = 255
        · subst c3
          have hz := fun (W : World) (hc : Cu W g l m) => cuLong_any g 8 4294967296 l m W hc hl (by omega)
          have e2 : rSize (255 :: m, 0) = rLong 8 4294967296 m := rSize_long 255 m (by decide)
          rw [e2]
          have hn : num [(255 : UInt8)] = 255 := rfl
          rw [hn] at hL
          clear e2 hn hl
          generalize rLong 8 4294967296 m = p at hz
          obtain ⟨q, r⟩ := p
          by_cases hr : r.2 = 0
          · have hz2 := fun (W : World) (hc : Cu W g l m) => calls_ok (hz W hc) hr
            have HZ : Hid (∀ W, Cu W g l m → Calls Tryd.prog 100 #[.pointer (some ⟨g, 0, none⟩), .int .i64 8, .int .u64 4294967296] W fun x w' => x = .returned (.int .u64 (q : Int)) ∧ Cu w' g l r.1 ∧ Mov g W w') := hz2
            clear hz hz2
            go_enter Tryd.func93, Tryd.ntmps93
            go_wp2_with (first
              | (go_at_call 49; go_must (refine hN.mono ?_); rintro x w1 ⟨rfl, hc1, hm1⟩; have HC1 := (show Hid (Cu w1 g l m) from hc1); have HM1 := (show Hid (Mov g w w1) from hm1); clear hc1 hm1)
              | (go_at_call 45; go_must (refine (hL _).mono ?_); rintro x w1 ⟨rfl, rfl⟩)
              | (go_at_call 100; go_must (refine (HZ.out _ HC1.out).mono ?_); rintro x w3 ⟨rfl, hc3, hm3⟩; have HC3 := (show Hid (Cu w3 g l r.1) from hc3); have HM3 := (show Hid (Mov g w1 w3) from hm3); clear hc3 hm3))
            go_ret
            exact Got.ok hr (HM1.out.trans HM3.out) HC3.out
          · have hz2 := fun (W : World) (hc : Cu W g l m) => calls_no (hz W hc) hr
            have HZ : Hid (∀ W, Cu W g l m → Calls Tryd.prog 100 #[.pointer (some ⟨g, 0, none⟩), .int .i64 8, .int .u64 4294967296] W fun x w' => x = .panicked [{ v := .iface 32 (.int .i64 r.2), recovered := false }] ∧ Mov g W w') := hz2
            clear hz hz2
            go_enter Tryd.func93, Tryd.ntmps93
            go_wp2_with (first
              | (go_at_call 49; go_must (refine hN.mono ?_); rintro x w1 ⟨rfl, hc1, hm1⟩; have HC1 := (show Hid (Cu w1 g l m) from hc1); have HM1 := (show Hid (Mov g w w1) from hm1); clear hc1 hm1)
              | (go_at_call 45; go_must (refine (hL _).mono ?_); rintro x w1 ⟨rfl, rfl⟩)
              | (go_at_call 100; go_must (refine (HZ.out _ HC1.out).mono ?_); rintro x w3 ⟨rfl, hm3⟩; have HM3 := (show Hid (Mov g w1 w3) from hm3); clear hm3))
            exact ⟨rfl, Got.no rfl hr (HM1.out.trans HM3.out)⟩
        · have hm : manyOf c = 0 := by simp [manyOf, c1, c2, c3]
          have e2 : rSize (c :: m, 0) = (c.toNat, (m, 0)) := by simp [rSize, hm]
          rw [e2]
          have hn : num [c] = c.toNat := by simp [num]
          rw [hn] at hL
          have n1 : ¬ ((c.toNat : Int) = 253) := fun h => c1 (by rw [← UInt8.toNat_inj]; simp; omega)
          have n2 : ¬ ((c.toNat : Int) = 254) := fun h => c2 (by rw [← UInt8.toNat_inj]; simp; omega)
          have n3 : ¬ ((c.toNat : Int) = 255) := fun h => c3 (by rw [← UInt8.toNat_inj]; simp; omega)
          clear c1 c2 c3 hm e2 hn
          generalize (c.toNat : Int) = C at hL n1 n2 n3
          go_enter Tryd.func93, Tryd.ntmps93
          go_wp2_with (first
            | (go_at_call 49; go_must (refine hN.mono ?_); rintro x w1 ⟨rfl, hc1, hm1⟩; have HC1 := (show Hid (Cu w1 g l m) from hc1); have HM1 := (show Hid (Mov g w w1) from hm1); clear hc1 hm1)
            | (go_at_call 45; go_must (refine (hL _).mono ?_); rintro x w1 ⟨rfl, rfl⟩))
          go_ret
          exact Got.ok rfl HM1.out HC1.out

set_option maxRecDepth 10000 in
theorem cuSize_any (g lo hi : Nat) (l m : List UInt8) (w : World) (h : Cu w g l m) (hl : l.length ≤ maxLen) :
    Calls Tryd.prog 76 #[.pointer (some ⟨g, 0, none⟩), .int .u64 (lo : Int), .int .u64 (hi : Int)] w (Got g l w (.int .u64 ((rWithin lo hi (m, 0)).1 : Int)) (rWithin lo hi (m, 0)).2) := by
  have hz := cuAny_any g l m w h hl
  have HE : rWithin lo hi (m, 0) = if (rSize (m, 0)).2.2 ≠ 0 then (0, (rSize (m, 0)).2) else if (rSize (m, 0)).1 < lo ∨ hi < (rSize (m, 0)).1 then (0, ((rSize (m, 0)).2.1, 3)) else rSize (m, 0) := rfl
  rw [HE]
  clear h HE hl
  generalize rSize (m, 0) = p at hz
  obtain ⟨q, r⟩ := p
  by_cases hr : r.2 = 0
  · have hN := calls_ok hz hr
    clear hz
    rw [if_neg (fun h => h hr)]
    by_cases hb : q < lo ∨ hi < q
    · rw [if_pos hb]
      by_cases h1 : q < lo
      · have i1 : (q : Int) < (lo : Int) := by omega
        go_enter Tryd.func76, Tryd.ntmps76
        go_wp2_with (go_at_call 93; go_must (refine hN.mono ?_); rintro x w1 ⟨rfl, hc1, hm1⟩)
        exact ⟨rfl, Got.no rfl (by omega) hm1⟩
      · have i1 : ¬ ((q : Int) < (lo : Int)) := by omega
        have i2 : (hi : Int) < (q : Int) := by omega
        go_enter Tryd.func76, Tryd.ntmps76
        go_wp2_with (go_at_call 93; go_must (refine hN.mono ?_); rintro x w1 ⟨rfl, hc1, hm1⟩)
        exact ⟨rfl, Got.no rfl (by omega) hm1⟩
    · rw [if_neg hb]
      have i1 : ¬ ((q : Int) < (lo : Int)) := by omega
      have i2 : ¬ ((hi : Int) < (q : Int)) := by omega
      go_enter Tryd.func76, Tryd.ntmps76
      go_wp2_with (go_at_call 93; go_must (refine hN.mono ?_); rintro x w1 ⟨rfl, hc1, hm1⟩)
      go_ret
      exact Got.ok hr hm1 hc1
  · have hN := calls_no hz hr
    clear hz
    rw [if_pos hr]
    go_enter Tryd.func76, Tryd.ntmps76
    go_wp2_with (go_at_call 93; go_must (refine hN.mono ?_); rintro x w1 ⟨rfl, hm1⟩)
    exact ⟨rfl, Got.no rfl hr hm1⟩
end Go.Proofs.YtkmalggeieiepabDoor
set_option linter.unusedSimpArgs false
namespace Go.Proofs.YtkmalggeieiepabDoor
open Go.RowKit

theorem Cu.drew {w : World} {g : Nat} {l m : List UInt8} (h : Cu w g l m) : Cu w.drew g l m := ⟨h.s, h.e, h.ef⟩
theorem Mov.undrew {g : Nat} {w w' : World} (h : Mov g w.drew w') : Mov g w w' := ⟨h.os, h.tape, h.output, h.size, h.block⟩
theorem Got.not_out {g : Nat} {l : List UInt8} {w w' : World} {v : Value} {r : List UInt8 × Int} (h : Got g l w v r .outgrown w') : False := by
  obtain ⟨_, hx⟩ := h
  by_cases hr : r.2 = 0
  · rw [if_pos hr] at hx; cases hx.1
  · rw [if_neg hr] at hx; cases hx
theorem rScript_of (m : List UInt8) : rScript (m, 0) = (rTake (rWithin 0 40 (m, 0)).1 (rWithin 0 40 (m, 0)).2).2 := rfl

set_option maxRecDepth 10000 in
set_option maxHeartbeats 1000000 in
theorem cuScript_any (g : Nat) (l m : List UInt8) (w : World) (h : Cu w g l m) (hl : l.length ≤ maxLen) :
    Calls Tryd.prog 77 #[.pointer (some ⟨g, 0, none⟩)] w (Got g l w (.tuple #[]) (rScript (m, 0))) := by
  have hz := cuSize_any g 0 40 l m w.drew h.drew hl
  have hq := rWithin_hi 0 40 (m, 0)
  rw [rScript_of]
  clear h
  generalize rWithin 0 40 (m, 0) = p at hz hq
  obtain ⟨q, r⟩ := p
  have hq' : q ≤ 40 := hq
  clear hq
  go_enter Tryd.func77, Tryd.ntmps77
  refine q_frame (fun A HFR => ?_)
  have hsz : A.tmps.size = 11 := by rw [HFR.out]; rfl
  have h0 : A.eval (.tmp 0) = .pointer (some ⟨g, 0, none⟩) := by rw [HFR.out]; rfl
  have hdf : A.defers = [] := by rw [HFR.out]
  refine wp_region_any (by kernel_rfl) ?_
  refine wpAny_take (i := 0) (v := (.pointer (some ⟨g, 0, none⟩))) rfl (by kernel_rfl) (by kernel_rfl) (by kernel_rfl) (fun _ _ _ h => h) (Or.inl ⟨by rfl, fun W => ?_⟩) ?_
  · exact q_run1 0 (.pointer (some ⟨g, 0, none⟩)) (by simp only [q_same, q_ne, q_sz, hsz, h0, ne_eq, Nat.reduceEqDiff, not_false_eq_true, Nat.reduceLT]) (fun ρ _ _ e1 => by simp [go_sem, e1])
  change wpAny _ _ _ _ _ _ (Act.put _ (some 2) _) _
  refine wpAny_take (i := 1) (v := (.pointer (some ⟨g, 0, none⟩))) rfl (by kernel_rfl) (by kernel_rfl) (by kernel_rfl) (fun _ _ _ h => h) (Or.inl ⟨by rfl, fun W => ?_⟩) ?_
  · exact q_run1 2 (.pointer (some ⟨g, 0, none⟩)) (by simp only [q_same, q_ne, q_sz, hsz, h0, ne_eq, Nat.reduceEqDiff, not_false_eq_true, Nat.reduceLT]) (fun ρ _ _ e1 => by simp [go_sem, e1])
  change wpAny _ _ _ _ _ _ (Act.put _ (some 3) _) _
  refine wpAny_take (i := 2) (v := (.pointer (some ⟨g, 0, none⟩))) rfl (by kernel_rfl) (by kernel_rfl) (by kernel_rfl) (fun _ _ _ h => h) (Or.inl ⟨by rfl, fun W => ?_⟩) ?_
  · exact q_run1 3 (.pointer (some ⟨g, 0, none⟩)) (by simp only [q_same, q_ne, q_sz, hsz, h0, ne_eq, Nat.reduceEqDiff, not_false_eq_true, Nat.reduceLT]) (fun ρ _ _ e1 => by simp [go_sem, e1])
  change wpAny _ _ _ _ _ _ (Act.put _ (some 4) _) _
  refine wpAny_take (i := 3) (v := (.pointer (some ⟨g, 0, none⟩))) rfl (by kernel_rfl) (by kernel_rfl) (by kernel_rfl) (fun _ _ _ h => h) (Or.inl ⟨by rfl, fun W => ?_⟩) ?_
  · exact q_run1 0 (.pointer (some ⟨g, 0, none⟩)) (by simp only [q_same, q_ne, q_sz, hsz, h0, ne_eq, Nat.reduceEqDiff, not_false_eq_true, Nat.reduceLT]) (fun ρ _ _ e1 => by simp [go_sem, e1])
  change wpAny _ _ _ _ _ _ (Act.put _ (some 5) _) _
  refine wpAny_take (i := 4) (v := (.pointer (some ⟨g, 0, none⟩))) rfl (by kernel_rfl) (by kernel_rfl) (by kernel_rfl) (fun _ _ _ h => h) (Or.inl ⟨by rfl, fun W => ?_⟩) ?_
  · exact q_run1 5 (.pointer (some ⟨g, 0, none⟩)) (by simp only [q_same, q_ne, q_sz, hsz, h0, ne_eq, Nat.reduceEqDiff, not_false_eq_true, Nat.reduceLT]) (fun ρ _ _ e1 => by simp [go_sem, e1])
  change wpAny _ _ _ _ _ _ (Act.put _ (some 6) _) _
  refine wpAny_take (i := 5) (v := (.pointer (some ⟨g, 0, none⟩))) rfl (by kernel_rfl) (by kernel_rfl) (by kernel_rfl) (fun _ _ _ h => h) (Or.inl ⟨by rfl, fun W => ?_⟩) ?_
  · exact q_run1 6 (.pointer (some ⟨g, 0, none⟩)) (by simp only [q_same, q_ne, q_sz, hsz, h0, ne_eq, Nat.reduceEqDiff, not_false_eq_true, Nat.reduceLT]) (fun ρ _ _ e1 => by simp [go_sem, e1])
  change wpAny _ _ _ _ _ _ (Act.put _ (some 7) _) _
  refine q_call 6 76 #[.pointer (some ⟨g, 0, none⟩), .int .u64 0, .int .u64 40] _ (by kernel_rfl) rfl rfl ?_ hz ?_ ?_ ?_
  · exact q_run1 7 (.pointer (some ⟨g, 0, none⟩)) (by simp only [q_same, q_ne, q_sz, hsz, h0, ne_eq, Nat.reduceEqDiff, not_false_eq_true, Nat.reduceLT]) (fun ρ hc hf e1 => by simp [go_sem, hc, hf, e1])
  · intro v w1 hx
    change wpAny _ _ _ _ _ _ (Act.put _ (some 8) _) _
    obtain ⟨hm1, hx⟩ := hx
    by_cases hr : r.2 = 0
    · rw [if_pos hr] at hx
      obtain ⟨hv, hc1⟩ := hx
      injection hv with hv
      subst hv
      obtain ⟨m1, c1⟩ := r
      have hr' : c1 = 0 := hr
      subst hr'
      clear hr
      have ht := cuTake_any g q l m1 w1 hc1 hl
      have hw : IntKind.i64.wrap (q : Int) = (q : Int) := by rw [IntKind.wrap_i64]; omega
      refine q_one 7 (.int .i64 (IntKind.i64.wrap (q : Int))) w1 (by kernel_rfl) rfl rfl ?_ ?_
      · exact q_run1 8 (.int .u64 (q : Int)) (by simp only [q_same, q_ne, q_sz, hsz, h0, ne_eq, Nat.reduceEqDiff, not_false_eq_true, Nat.reduceLT]) (fun ρ _ _ e1 => by simp [go_sem, e1])
      change wpAny _ _ _ _ _ _ (Act.put _ (some 9) _) _
      refine q_call 8 49 #[.pointer (some ⟨g, 0, none⟩), .int .i64 (IntKind.i64.wrap (q : Int))] _ (by kernel_rfl) rfl rfl ?_ (by rw [hw]; exact ht) ?_ ?_ ?_
      · exact q_run2 4 9 (.pointer (some ⟨g, 0, none⟩)) (.int .i64 (IntKind.i64.wrap (q : Int))) (by simp only [q_same, q_ne, q_sz, hsz, h0, ne_eq, Nat.reduceEqDiff, not_false_eq_true, Nat.reduceLT]) (by simp only [q_same, q_ne, q_sz, hsz, h0, ne_eq, Nat.reduceEqDiff, not_false_eq_true, Nat.reduceLT]) (fun ρ _ hf e1 e2 => by simp [go_sem, hf, e1, e2])
      · intro v w2 hx
        refine wpAny_done (by kernel_rfl) ?_ _
        obtain ⟨hm2, hx⟩ := hx
        have hr2 : (rTake q (m1, 0)).2.2 = 0 := by
          rcases Decidable.em ((rTake q (m1, 0)).2.2 = 0) with e | e
          · exact e
          · rw [if_neg e] at hx; cases hx
        rw [if_pos hr2] at hx
        refine q_done0 (by kernel_rfl) (by simp only [q_def]; exact hdf) (Got.ok hr2 (hm1.undrew.trans hm2) hx.2)
      · intro ch w2 hx
        obtain ⟨hm2, hx⟩ := hx
        have hr2 : (rTake q (m1, 0)).2.2 ≠ 0 := fun e => by rw [if_pos e] at hx; cases hx.1
        rw [if_neg hr2] at hx
        injection hx with hx
        subst hx
        refine q_panic (by simp only [q_def]; exact hdf) (Got.no rfl hr2 (hm1.undrew.trans hm2))
      · intro w2 hx
        exact Got.not_out hx
    · rw [if_neg hr] at hx
      cases hx
  · intro ch w1 hx
    obtain ⟨hm1, hx⟩ := hx
    by_cases hr : r.2 = 0
    · rw [if_pos hr] at hx
      cases hx.1
    · rw [if_neg hr] at hx
      injection hx with hx
      subst hx
      refine q_panic (by simp only [q_def]; exact hdf) (Got.no (stick_take q r hr) hr hm1.undrew)
  · intro w1 hx
    exact Got.not_out hx
end Go.Proofs.YtkmalggeieiepabDoor
namespace Go.Proofs.YtkmalggeieiepabDoor
open Go.RowKit

theorem rIn_of (m : List UInt8) : rIn (m, 0) = (rTake 4 (rScript (rTake 36 (m, 0)).2)).2 := rfl
theorem rOut_of (m : List UInt8) : rOut (m, 0) = rScript (rTake 8 (m, 0)).2 := rfl

set_option maxRecDepth 10000 in
set_option maxHeartbeats 1000000 in
theorem cuIn_any (g : Nat) (l m : List UInt8) (w : World) (h : Cu w g l m) (hl : l.length ≤ maxLen) :
    Calls Tryd.prog 51 #[.pointer (some ⟨g, 0, none⟩)] w (Got g l w (.tuple #[]) (rIn (m, 0))) := by
  have ht := cuTake_any g 36 l m w h hl
  rw [rIn_of]
  clear h
  generalize rTake 36 (m, 0) = p at ht
  obtain ⟨t1, m1, c1⟩ := p
  by_cases hr : c1 = 0
  · subst hr
    have h1 := calls_ok ht rfl
    have hs := fun (W : World) (hc : Cu W g l m1) => cuScript_any g l m1 W hc hl
    clear ht
    show Calls _ _ _ _ (Got g l w (.tuple #[]) (rTake 4 (rScript (m1, 0))).2)
    generalize rScript (m1, 0) = r at hs
    obtain ⟨m2, c2⟩ := r
    by_cases hr : c2 = 0
    · subst hr
      have h2 := fun (W : World) (hc : Cu W g l m1) => calls_ok (hs W hc) rfl
      have hq := fun (W : World) (hc : Cu W g l m2) => cuTake_any g 4 l m2 W hc hl
      clear hs hl
      generalize rTake 4 (m2, 0) = p at hq
      obtain ⟨t3, r3⟩ := p
      by_cases hr : r3.2 = 0
      · have h3 := fun (W : World) (hc : Cu W g l m2) => calls_ok (hq W hc) hr
        clear hq
        go_enter Tryd.func51, Tryd.ntmps51
        go_upto_region 1 with (go_at_call 49; go_must (refine h1.mono ?_); rintro x w1 ⟨rfl, hc1, hm1⟩; have HC1 := (show Hid (Cu w1 g l m1) from hc1); have HM1 := (show Hid (Mov g w w1) from hm1); clear hc1 hm1)
        go_upto_region 2 with (go_at_call 77; go_must (refine (h2 _ HC1.out).mono ?_); rintro x w2 ⟨rfl, hc2, hm2⟩; have HC2 := (show Hid (Cu w2 g l m2) from hc2); have HM2 := (show Hid (Mov g w1 w2) from hm2); clear hc2 hm2)
        go_wp2_with (go_at_call 49; go_must (refine (h3 _ HC2.out).mono ?_); rintro x w3 ⟨rfl, hc3, hm3⟩)
        go_end0
        exact Got.ok hr (HM1.out.trans (HM2.out.trans hm3)) hc3
      · have h3 := fun (W : World) (hc : Cu W g l m2) => calls_no (hq W hc) hr
        clear hq
        go_enter Tryd.func51, Tryd.ntmps51
        go_upto_region 1 with (go_at_call 49; go_must (refine h1.mono ?_); rintro x w1 ⟨rfl, hc1, hm1⟩; have HC1 := (show Hid (Cu w1 g l m1) from hc1); have HM1 := (show Hid (Mov g w w1) from hm1); clear hc1 hm1)
        go_upto_region 2 with (go_at_call 77; go_must (refine (h2 _ HC1.out).mono ?_); rintro x w2 ⟨rfl, hc2, hm2⟩; have HC2 := (show Hid (Cu w2 g l m2) from hc2); have HM2 := (show Hid (Mov g w1 w2) from hm2); clear hc2 hm2)
        go_wp2_with (go_at_call 49; go_must (refine (h3 _ HC2.out).mono ?_); rintro x w3 ⟨rfl, hm3⟩)
        exact ⟨rfl, Got.no rfl hr (HM1.out.trans (HM2.out.trans hm3))⟩
    · have h2 := fun (W : World) (hc : Cu W g l m1) => calls_no (hs W hc) hr
      have HE : Hid ((rTake 4 (m2, c2)).2.2 = c2) := stick_take 4 (m2, c2) hr
      clear hs hl
      generalize (rTake 4 (m2, c2)).2 = r3 at HE
      go_enter Tryd.func51, Tryd.ntmps51
      go_upto_region 1 with (go_at_call 49; go_must (refine h1.mono ?_); rintro x w1 ⟨rfl, hc1, hm1⟩; have HC1 := (show Hid (Cu w1 g l m1) from hc1); have HM1 := (show Hid (Mov g w w1) from hm1); clear hc1 hm1)
      go_wp2_with (go_at_call 77; go_must (refine (h2 _ HC1.out).mono ?_); rintro x w2 ⟨rfl, hm2⟩)
      exact ⟨rfl, Got.no HE.out hr (HM1.out.trans hm2)⟩
  · have h1 := calls_no ht hr
    have HE : Hid ((rTake 4 (rScript (m1, c1))).2.2 = c1) := ((stick_script.comp (stick_take 4)) (m1, c1) hr : _)
    clear ht hl
    show Calls _ _ _ _ (Got g l w (.tuple #[]) (rTake 4 (rScript (m1, c1))).2)
    generalize (rTake 4 (rScript (m1, c1))).2 = r3 at HE
    go_enter Tryd.func51, Tryd.ntmps51
    go_wp2_with (go_at_call 49; go_must (refine h1.mono ?_); rintro x w1 ⟨rfl, hm1⟩)
    exact ⟨rfl, Got.no HE.out hr hm1⟩

set_option maxRecDepth 10000 in
set_option maxHeartbeats 1000000 in
theorem cuOut_any (g : Nat) (l m : List UInt8) (w : World) (h : Cu w g l m) (hl : l.length ≤ maxLen) :
    Calls Tryd.prog 52 #[.pointer (some ⟨g, 0, none⟩)] w (Got g l w (.tuple #[]) (rOut (m, 0))) := by
  have ht := cuTake_any g 8 l m w h hl
  rw [rOut_of]
  clear h
  generalize rTake 8 (m, 0) = p at ht
  obtain ⟨t1, m1, c1⟩ := p
  by_cases hr : c1 = 0
  · subst hr
    have h1 := calls_ok ht rfl
    have hs := fun (W : World) (hc : Cu W g l m1) => cuScript_any g l m1 W hc hl
    clear ht hl
    show Calls _ _ _ _ (Got g l w (.tuple #[]) (rScript (m1, 0)))
    generalize rScript (m1, 0) = r at hs
    by_cases hr : r.2 = 0
    · have h2 := fun (W : World) (hc : Cu W g l m1) => calls_ok (hs W hc) hr
      clear hs
      go_enter Tryd.func52, Tryd.ntmps52
      go_upto_region 1 with (go_at_call 49; go_must (refine h1.mono ?_); rintro x w1 ⟨rfl, hc1, hm1⟩; have HC1 := (show Hid (Cu w1 g l m1) from hc1); have HM1 := (show Hid (Mov g w w1) from hm1); clear hc1 hm1)
      go_wp2_with (go_at_call 77; go_must (refine (h2 _ HC1.out).mono ?_); rintro x w2 ⟨rfl, hc2, hm2⟩)
      go_end0
      exact Got.ok hr (HM1.out.trans hm2) hc2
    · have h2 := fun (W : World) (hc : Cu W g l m1) => calls_no (hs W hc) hr
      clear hs
      go_enter Tryd.func52, Tryd.ntmps52
      go_upto_region 1 with (go_at_call 49; go_must (refine h1.mono ?_); rintro x w1 ⟨rfl, hc1, hm1⟩; have HC1 := (show Hid (Cu w1 g l m1) from hc1); have HM1 := (show Hid (Mov g w w1) from hm1); clear hc1 hm1)
      go_wp2_with (go_at_call 77; go_must (refine (h2 _ HC1.out).mono ?_); rintro x w2 ⟨rfl, hm2⟩)
      exact ⟨rfl, Got.no rfl hr (HM1.out.trans hm2)⟩
  · have h1 := calls_no ht hr
    have HE : Hid ((rScript (m1, c1)).2 = c1) := stick_script (m1, c1) hr
    clear ht hl
    show Calls _ _ _ _ (Got g l w (.tuple #[]) (rScript (m1, c1)))
    generalize rScript (m1, c1) = r3 at HE
    go_enter Tryd.func52, Tryd.ntmps52
    go_wp2_with (go_at_call 49; go_must (refine h1.mono ?_); rintro x w1 ⟨rfl, hm1⟩)
    exact ⟨rfl, Got.no HE.out hr hm1⟩

set_option maxRecDepth 10000 in
set_option maxHeartbeats 1000000 in
theorem cuIns_any (g : Nat) (l m : List UInt8) (w : World) (h : Cu w g l m) (hl : l.length ≤ maxLen) :
    Calls Tryd.prog 50 #[.pointer (some ⟨g, 0, none⟩), .int .u64 1, .int .u64 4, .func (.func 51) #[] #[]] w (Got g l w (.tuple #[]) (rep rIn (rWithin 1 4 (m, 0)).1 (rWithin 1 4 (m, 0)).2)) := by
  have hz := cuSize_any g 1 4 l m w h hl
  have hq := rWithin_hi 1 4 (m, 0)
  have HP : Hid (∀ (W : World) (m : List UInt8), Cu W g l m → Calls Tryd.prog 51 #[.pointer (some ⟨g, 0, none⟩)] W (Got g l W (.tuple #[]) (rIn (m, 0)))) := fun W m hc => cuIn_any g l m W hc hl
  clear h hl
  generalize rWithin 1 4 (m, 0) = p at hz hq
  obtain ⟨q, m1, c1⟩ := p
  have hq' : q ≤ 4 := hq
  clear hq
  by_cases hr : c1 = 0
  · subst hr
    have h1 := calls_ok hz rfl
    clear hz
    show Calls _ _ _ _ (Got g l w (.tuple #[]) (rep rIn q (m1, 0)))
    obtain ⟨R, HR⟩ : ∃ R, Hid (R = rep rIn q (m1, 0)) := ⟨_, rfl⟩
    rw [← HR.out]
    go_enter Tryd.func50, Tryd.ntmps50
    go_upto_region 1 with (go_at_call 76; go_must (refine h1.mono ?_); rintro x w1 ⟨rfl, hc1, hm1⟩; have HC1 := (show Hid (Cu w1 g l m1) from hc1); have HM1 := (show Hid (Mov g w w1) from hm1); clear hc1 hm1)
    go_loopg [14] q (fun g' iv wx => ∃ k : Nat, ∃ m : List UInt8, k + g' = q ∧ iv = .int .u64 (k : Int) ∧ rep rIn g' (m, 0) = R ∧ Cu wx g l m ∧ Mov g w wx)
    case atStart => exact ⟨0, m1, by omega, rfl, HR.out.symm, HC1.out, HM1.out⟩
    case round =>
      clear HC1 HM1 HR
      obtain ⟨k, m2, hk, rfl, hrep, hc, hm⟩ := hrel
      have HC : Hid (Cu wr g l m2) := hc
      have HM : Hid (Mov g w wr) := hm
      have HE : Hid (rep rIn gk (m2, 0) = R) := hrep
      clear hc hm hrep
      by_cases h0 : gk = 0
      · subst h0
        have hlt : ¬ ((k : Int) < (q : Int)) := by omega
        have hE : (m2, 0) = R := HE.out
        go_wp2
        go_end0
        rw [← hE]
        exact Got.ok rfl HM.out HC.out
      · obtain ⟨j, rfl⟩ : ∃ j, gk = j + 1 := ⟨gk - 1, by omega⟩
        have hlt : (k : Int) < (q : Int) := by omega
        have hp := HP.out wr m2 HC.out
        have HE2 : Hid (rep rIn j (rIn (m2, 0)) = R) := HE.out
        clear HE
        generalize rIn (m2, 0) = r at hp HE2
        obtain ⟨m3, c3⟩ := r
        by_cases hr : c3 = 0
        · subst hr
          have h3 := calls_ok hp rfl
          clear hp
          go_wp2_with (go_at_call 51; go_must (refine h3.mono ?_); rintro x w3 ⟨rfl, hc3, hm3⟩; have HC3 := (show Hid (Cu w3 g l m3) from hc3); have HM3 := (show Hid (Mov g wr w3) from hm3); clear hc3 hm3)
          go_roundg j
          case measure => omega
          case rel => exact ⟨k + 1, m3, by omega, by go_num, HE2.out, HC3.out, HM.out.trans HM3.out⟩
        · have h3 := calls_no hp hr
          have hR : R.2 = c3 := by rw [← HE2.out]; exact stick_rep stick_in j (m3, c3) hr
          clear hp
          go_wp2_with (go_at_call 51; go_must (refine h3.mono ?_); rintro x w3 ⟨rfl, hm3⟩)
          exact ⟨rfl, Got.no hR hr (HM.out.trans hm3)⟩
  · have h1 := calls_no hz hr
    have HE : Hid ((rep rIn q (m1, c1)).2 = c1) := stick_rep stick_in q (m1, c1) hr
    clear hz
    show Calls _ _ _ _ (Got g l w (.tuple #[]) (rep rIn q (m1, c1)))
    generalize rep rIn q (m1, c1) = r3 at HE
    go_enter Tryd.func50, Tryd.ntmps50
    go_wp2_with (go_at_call 76; go_must (refine h1.mono ?_); rintro x w1 ⟨rfl, hm1⟩)
    exact ⟨rfl, Got.no HE.out hr hm1⟩

set_option maxRecDepth 10000 in
set_option maxHeartbeats 1000000 in
theorem cuOuts_any (g : Nat) (l m : List UInt8) (w : World) (h : Cu w g l m) (hl : l.length ≤ maxLen) :
    Calls Tryd.prog 50 #[.pointer (some ⟨g, 0, none⟩), .int .u64 1, .int .u64 4, .func (.func 52) #[] #[]] w (Got g l w (.tuple #[]) (rep rOut (rWithin 1 4 (m, 0)).1 (rWithin 1 4 (m, 0)).2)) := by
  have hz := cuSize_any g 1 4 l m w h hl
  have hq := rWithin_hi 1 4 (m, 0)
  have HP : Hid (∀ (W : World) (m : List UInt8), Cu W g l m → Calls Tryd.prog 52 #[.pointer (some ⟨g, 0, none⟩)] W (Got g l W (.tuple #[]) (rOut (m, 0)))) := fun W m hc => cuOut_any g l m W hc hl
  clear h hl
  generalize rWithin 1 4 (m, 0) = p at hz hq
  obtain ⟨q, m1, c1⟩ := p
  have hq' : q ≤ 4 := hq
  clear hq
  by_cases hr : c1 = 0
  · subst hr
    have h1 := calls_ok hz rfl
    clear hz
    show Calls _ _ _ _ (Got g l w (.tuple #[]) (rep rOut q (m1, 0)))
    obtain ⟨R, HR⟩ : ∃ R, Hid (R = rep rOut q (m1, 0)) := ⟨_, rfl⟩
    rw [← HR.out]
    go_enter Tryd.func50, Tryd.ntmps50
    go_upto_region 1 with (go_at_call 76; go_must (refine h1.mono ?_); rintro x w1 ⟨rfl, hc1, hm1⟩; have HC1 := (show Hid (Cu w1 g l m1) from hc1); have HM1 := (show Hid (Mov g w w1) from hm1); clear hc1 hm1)
    go_loopg [14] q (fun g' iv wx => ∃ k : Nat, ∃ m : List UInt8, k + g' = q ∧ iv = .int .u64 (k : Int) ∧ rep rOut g' (m, 0) = R ∧ Cu wx g l m ∧ Mov g w wx)
    case atStart => exact ⟨0, m1, by omega, rfl, HR.out.symm, HC1.out, HM1.out⟩
    case round =>
      clear HC1 HM1 HR
      obtain ⟨k, m2, hk, rfl, hrep, hc, hm⟩ := hrel
      have HC : Hid (Cu wr g l m2) := hc
      have HM : Hid (Mov g w wr) := hm
      have HE : Hid (rep rOut gk (m2, 0) = R) := hrep
      clear hc hm hrep
      by_cases h0 : gk = 0
      · subst h0
        have hlt : ¬ ((k : Int) < (q : Int)) := by omega
        have hE : (m2, 0) = R := HE.out
        go_wp2
        go_end0
        rw [← hE]
        exact Got.ok rfl HM.out HC.out
      · obtain ⟨j, rfl⟩ : ∃ j, gk = j + 1 := ⟨gk - 1, by omega⟩
        have hlt : (k : Int) < (q : Int) := by omega
        have hp := HP.out wr m2 HC.out
        have HE2 : Hid (rep rOut j (rOut (m2, 0)) = R) := HE.out
        clear HE
        generalize rOut (m2, 0) = r at hp HE2
        obtain ⟨m3, c3⟩ := r
        by_cases hr : c3 = 0
        · subst hr
          have h3 := calls_ok hp rfl
          clear hp
          go_wp2_with (go_at_call 52; go_must (refine h3.mono ?_); rintro x w3 ⟨rfl, hc3, hm3⟩; have HC3 := (show Hid (Cu w3 g l m3) from hc3); have HM3 := (show Hid (Mov g wr w3) from hm3); clear hc3 hm3)
          go_roundg j
          case measure => omega
          case rel => exact ⟨k + 1, m3, by omega, by go_num, HE2.out, HC3.out, HM.out.trans HM3.out⟩
        · have h3 := calls_no hp hr
          have hR : R.2 = c3 := by rw [← HE2.out]; exact stick_rep stick_out j (m3, c3) hr
          clear hp
          go_wp2_with (go_at_call 52; go_must (refine h3.mono ?_); rintro x w3 ⟨rfl, hm3⟩)
          exact ⟨rfl, Got.no hR hr (HM.out.trans hm3)⟩
  · have h1 := calls_no hz hr
    have HE : Hid ((rep rOut q (m1, c1)).2 = c1) := stick_rep stick_out q (m1, c1) hr
    clear hz
    show Calls _ _ _ _ (Got g l w (.tuple #[]) (rep rOut q (m1, c1)))
    generalize rep rOut q (m1, c1) = r3 at HE
    go_enter Tryd.func50, Tryd.ntmps50
    go_wp2_with (go_at_call 76; go_must (refine h1.mono ?_); rintro x w1 ⟨rfl, hm1⟩)
    exact ⟨rfl, Got.no HE.out hr hm1⟩
end Go.Proofs.YtkmalggeieiepabDoor
namespace Go.Proofs.YtkmalggeieiepabDoor
open Go.RowKit

theorem rTx_of (m : List UInt8) : rTx (m, 0) = (rTake 4 (rOuts (rIns (rTake 4 (m, 0)).2))).2 := rfl
theorem stick_ins : Stick rIns := stick_reps stick_in 1 4
theorem stick_outs : Stick rOuts := stick_reps stick_out 1 4

set_option maxRecDepth 10000 in
set_option maxHeartbeats 2000000 in
theorem cuTx_any (g : Nat) (l m : List UInt8) (w : World) (h : Cu w g l m) (hl : l.length ≤ maxLen) :
    Calls Tryd.prog 26 #[.pointer (some ⟨g, 0, none⟩)] w (Got g l w (.string (ofL (m.take (m.length - (rTx (m, 0)).1.length)))) (rTx (m, 0))) := by
  have ht := cuTake_any g 4 l m w h hl
  have hle := rTx_le (m, 0)
  obtain ⟨a, ha, hma, d1⟩ := h.e
  obtain ⟨R, HR⟩ : ∃ R, Hid (R = rTx (m, 0)) := ⟨_, rfl⟩
  rw [← HR.out]
  rw [← HR.out] at hle
  have HR1 : Hid (R = (rTake 4 (rOuts (rIns (rTake 4 (m, 0)).2))).2) := by show _ = _; rw [HR.out]; rfl
  clear h HR
  generalize rTake 4 (m, 0) = p at ht HR1
  obtain ⟨t1, m1, c1⟩ := p
  by_cases hr : c1 = 0
  · subst hr
    have h1 := calls_ok ht rfl
    have hs : ∀ (W : World), Cu W g l m1 → Calls Tryd.prog 50 #[.pointer (some ⟨g, 0, none⟩), .int .u64 1, .int .u64 4, .func (.func 51) #[] #[]] W (Got g l W (.tuple #[]) (rIns (m1, 0))) := fun W hc => cuIns_any g l m1 W hc hl
    clear ht
    have HR2 : Hid (R = (rTake 4 (rOuts (rIns (m1, 0)))).2) := HR1.out
    clear HR1
    generalize rIns (m1, 0) = r at hs HR2
    obtain ⟨m2, c2⟩ := r
    by_cases hr : c2 = 0
    · subst hr
      have h2 := fun (W : World) (hc : Cu W g l m1) => calls_ok (hs W hc) rfl
      have hs2 : ∀ (W : World), Cu W g l m2 → Calls Tryd.prog 50 #[.pointer (some ⟨g, 0, none⟩), .int .u64 1, .int .u64 4, .func (.func 52) #[] #[]] W (Got g l W (.tuple #[]) (rOuts (m2, 0))) := fun W hc => cuOuts_any g l m2 W hc hl
      clear hs
      generalize rOuts (m2, 0) = r at hs2 HR2
      obtain ⟨m3, c3⟩ := r
      by_cases hr : c3 = 0
      · subst hr
        have h3 := fun (W : World) (hc : Cu W g l m2) => calls_ok (hs2 W hc) rfl
        have hs3 : ∀ (W : World), Cu W g l m3 → Calls Tryd.prog 49 #[.pointer (some ⟨g, 0, none⟩), .int .i64 4] W (Got g l W (.string (ofL (rTake 4 (m3, 0)).1)) (rTake 4 (m3, 0)).2) := fun W hc => cuTake_any g 4 l m3 W hc hl
        clear hs2
        generalize rTake 4 (m3, 0) = p at hs3 HR2
        obtain ⟨t4, m4, c4⟩ := p
        have hR : R = (m4, c4) := HR2.out
        clear HR2
        subst hR
        have hle' : m4.length ≤ m.length := hle
        clear hle
        by_cases hr : c4 = 0
        · subst hr
          have h4 := fun (W : World) (hc : Cu W g l m3) => calls_ok (hs3 W hc) rfl
          clear hs3
          go_enter Tryd.func26, Tryd.ntmps26
          go_upto_region 3 with (go_at_call 49; go_must (refine h1.mono ?_); rintro x w1 ⟨rfl, hc1, hm1⟩; have HC1 := (show Hid (Cu w1 g l m1) from hc1); have HM1 := (show Hid (Mov g w w1) from hm1); clear hc1 hm1)
          go_upto_region 4 with (go_at_call 50; go_must (refine (h2 _ HC1.out).mono ?_); rintro x w2 ⟨rfl, hc2, hm2⟩; have HC2 := (show Hid (Cu w2 g l m2) from hc2); have HM2 := (show Hid (Mov g w w2) from HM1.out.trans hm2); clear hc2 hm2)
          go_upto_region 5 with (go_at_call 50; go_must (refine (h3 _ HC2.out).mono ?_); rintro x w3 ⟨rfl, hc3, hm3⟩; have HC3 := (show Hid (Cu w3 g l m3) from hc3); have HM3 := (show Hid (Mov g w w3) from HM2.out.trans hm3); clear hc3 hm3)
          go_upto_region 6 with (go_at_call 49; go_must (refine (h4 _ HC3.out).mono ?_); rintro x w4 ⟨rfl, hc4, hm4⟩; have HC4 := (show Hid (Cu w4 g l m4) from hc4); have HM4 := (show Hid (Mov g w w4) from HM3.out.trans hm4); clear hc4 hm4)
          have e0 := HC4.out.s
          obtain ⟨b, hb, hmb, e1⟩ := HC4.out.e
          have hsz := ofL_size l
          have hml : m.length = l.length - a := by rw [hma]; simp
          have hm4 : m4.length = l.length - b := by rw [hmb]; simp
          have b1 : (a : Int) ≤ (b : Int) := by omega
          have b2 : (b : Int) ≤ (l.length : Int) := by omega
          have HX : Hid ((ofL l).extract a b = ofL (m.take (m.length - m4.length))) := by
            show _ = _
            rw [ofL_extract, hml, hm4, hma]; congr 2; omega
          clear h1 h2 h3 h4 HC1 HC2 HC3 HM1 HM2 HM3 hml hm4 hmb hma d1
          go_quiet (fail)
          go_wp2
          go_ret
          show Got g l w (.string (ofL (m.take (m.length - m4.length)))) (m4, 0) (Ending.returned (Value.string ((ofL l).extract a b))) _
          rw [HX.out]
          exact Got.ok rfl (HM4.out.drewN _) (HC4.out.drewN _)
        · have h4 := fun (W : World) (hc : Cu W g l m3) => calls_no (hs3 W hc) hr
          clear hs3 hma
          go_enter Tryd.func26, Tryd.ntmps26
          go_upto_region 3 with (go_at_call 49; go_must (refine h1.mono ?_); rintro x w1 ⟨rfl, hc1, hm1⟩; have HC1 := (show Hid (Cu w1 g l m1) from hc1); have HM1 := (show Hid (Mov g w w1) from hm1); clear hc1 hm1)
          go_upto_region 4 with (go_at_call 50; go_must (refine (h2 _ HC1.out).mono ?_); rintro x w2 ⟨rfl, hc2, hm2⟩; have HC2 := (show Hid (Cu w2 g l m2) from hc2); have HM2 := (show Hid (Mov g w w2) from HM1.out.trans hm2); clear hc2 hm2)
          go_upto_region 5 with (go_at_call 50; go_must (refine (h3 _ HC2.out).mono ?_); rintro x w3 ⟨rfl, hc3, hm3⟩; have HC3 := (show Hid (Cu w3 g l m3) from hc3); have HM3 := (show Hid (Mov g w w3) from HM2.out.trans hm3); clear hc3 hm3)
          go_wp2_with (go_at_call 49; go_must (refine (h4 _ HC3.out).mono ?_); rintro x w4 ⟨rfl, hm4⟩)
          exact ⟨rfl, Got.no rfl hr (HM3.out.trans hm4)⟩
      · have h3 := fun (W : World) (hc : Cu W g l m2) => calls_no (hs2 W hc) hr
        have HE : Hid (R.2 = c3) := by show _ = _; rw [HR2.out]; exact stick_take 4 (m3, c3) hr
        clear hs2 HR2 hma hle
        go_enter Tryd.func26, Tryd.ntmps26
        go_upto_region 3 with (go_at_call 49; go_must (refine h1.mono ?_); rintro x w1 ⟨rfl, hc1, hm1⟩; have HC1 := (show Hid (Cu w1 g l m1) from hc1); have HM1 := (show Hid (Mov g w w1) from hm1); clear hc1 hm1)
        go_upto_region 4 with (go_at_call 50; go_must (refine (h2 _ HC1.out).mono ?_); rintro x w2 ⟨rfl, hc2, hm2⟩; have HC2 := (show Hid (Cu w2 g l m2) from hc2); have HM2 := (show Hid (Mov g w w2) from HM1.out.trans hm2); clear hc2 hm2)
        go_wp2_with (go_at_call 50; go_must (refine (h3 _ HC2.out).mono ?_); rintro x w3 ⟨rfl, hm3⟩)
        exact ⟨rfl, Got.no HE.out hr (HM2.out.trans hm3)⟩
    · have h2 := fun (W : World) (hc : Cu W g l m1) => calls_no (hs W hc) hr
      have HE : Hid (R.2 = c2) := by show _ = _; rw [HR2.out]; exact (stick_outs.comp (stick_take 4)) (m2, c2) hr
      clear hs HR2 hma hle
      go_enter Tryd.func26, Tryd.ntmps26
      go_upto_region 3 with (go_at_call 49; go_must (refine h1.mono ?_); rintro x w1 ⟨rfl, hc1, hm1⟩; have HC1 := (show Hid (Cu w1 g l m1) from hc1); have HM1 := (show Hid (Mov g w w1) from hm1); clear hc1 hm1)
      go_wp2_with (go_at_call 50; go_must (refine (h2 _ HC1.out).mono ?_); rintro x w2 ⟨rfl, hm2⟩)
      exact ⟨rfl, Got.no HE.out hr (HM1.out.trans hm2)⟩
  · have h1 := calls_no ht hr
    have HE : Hid (R.2 = c1) := by show _ = _; rw [HR1.out]; exact ((stick_ins.comp stick_outs).comp (stick_take 4)) (m1, c1) hr
    clear ht HR1 hma hle
    go_enter Tryd.func26, Tryd.ntmps26
    go_wp2_with (go_at_call 49; go_must (refine h1.mono ?_); rintro x w1 ⟨rfl, hm1⟩)
    exact ⟨rfl, Got.no HE.out hr hm1⟩
end Go.Proofs.YtkmalggeieiepabDoor
namespace Go.Proofs.YtkmalggeieiepabDoor
open Go.RowKit

set_option maxRecDepth 10000 in
set_option maxHeartbeats 1000000 in
theorem catch_panicking (p : Addr) (x c : Int) (w : World) (hc : w.cell? p = some (.int .i64 x)) (hz : w.frozen? p = false) :
    CallsD Tryd.prog 47 #[.pointer (some p)] (.panicking [{ v := .iface 32 (.int .i64 c), recovered := false }]) w fun e u' w' =>
      e = .returned (.tuple #[]) ∧ u' = .panicking [{ v := .iface 32 (.int .i64 c), recovered := true }] ∧ w' = w.setCell p (.int .i64 c) := by
  have hta : ∀ w : World, (Instr.typeAssert (.iface 32 (.int .i64 c)) 20 32 true).run Tryd.prog w = .ok (.tuple #[.int .i64 c, .bool true]) w := fun _ => by kernel_rfl
  refine callsD_of_wpS Tryd.func47 rfl fun c₀ cs hu => ?_
  apply wpS_seq
  apply wpS_region
  simp [wpOpsS, go_sem, recoverD, hu, Tryd.ntmps47, Exit.thenS, Array.replicate, List.replicate]
  refine wpS_of_wp ?_
  go_wp2
  exact ⟨rfl, _, rfl, _, results_none rfl _ _ _, rfl, rfl, rfl⟩

set_option maxRecDepth 10000 in
set_option maxHeartbeats 1000000 in
theorem catch_idle (p : Addr) (w : World) :
    CallsD Tryd.prog 47 #[.pointer (some p)] .returning w fun e u' w' => e = .returned (.tuple #[]) ∧ u' = .returning ∧ w' = w := by
  refine callsD_of_wpS Tryd.func47 rfl fun c₀ cs hu => ?_
  apply wpS_seq
  apply wpS_region
  simp [wpOpsS, go_sem, recoverD, hu, Tryd.ntmps47, Exit.thenS, Array.replicate, List.replicate]
  refine wpS_of_wp ?_
  go_wp2
  refine ⟨rfl, .returning, ?_, _, results_none rfl _ _ _, rfl, rfl, rfl⟩
  cases c₀
  simp_all

theorem Cu.new (w : World) (s : ByteArray) (T g : Nat) (hg : g = w.heap.size) : Cu (w.alloc (.cells #[.string s, .int .i64 0] T)) g s.data.toList s.data.toList := by
  subst hg
  refine ⟨?_, ⟨0, Nat.zero_le _, rfl, ?_⟩, ?_⟩
  · rw [ofL_of]; simp [go_sem]
  · simp [go_sem]
  · simp [go_sem]

set_option maxRecDepth 10000 in
set_option maxHeartbeats 1000000 in
theorem read_any (s : ByteArray) (w : World) (hl : s.size ≤ maxLen) :
    Calls Tryd.prog 25 #[.string s, .func (.func 26) #[] #[]] w fun x w' =>
      x = .returned (.tuple #[.string (if txErr s.data.toList = 0 then s else ByteArray.empty), .int .i64 (txErr s.data.toList)]) ∧ Below w.heap.size w w' := by
  obtain ⟨W0, hW0⟩ : ∃ W, W = (w.alloc (.cells #[.int .i64 0] 32)).alloc (.cells #[.string s, .int .i64 0] 114) := ⟨_, rfl⟩
  have hCu : Cu W0 (w.heap.size + 1) s.data.toList s.data.toList := by rw [hW0]; exact Cu.new _ s _ _ (by simp)
  have HB0 : Hid (Below w.heap.size w W0) := by show Below _ _ _; rw [hW0]; exact ((Below.refl _ _).alloc (Nat.le_refl _) _).alloc (by simp) _
  have hz0 : w.heap.size + 2 = W0.heap.size := by rw [hW0]; simp
  have hv0 : W0.cell? ⟨w.heap.size, 0, none⟩ = some (.int .i64 0) := by rw [hW0]; simp [go_sem]
  have hf0 : W0.frozen? ⟨w.heap.size, 0, none⟩ = false := by rw [hW0]; simp [go_sem]
  have HK : Hid (∀ w1, Mov (w.heap.size + 1) W0 w1 → w1.cell? ⟨w.heap.size, 0, none⟩ = some (.int .i64 0) ∧ w1.frozen? ⟨w.heap.size, 0, none⟩ = false ∧ Below w.heap.size w w1) := by
    intro w1 hm
    have hb : Below (w.heap.size + 1) W0 w1 := hm.below (Nat.le_refl _) (by omega)
    exact ⟨by rw [hb.cell (p := ⟨w.heap.size, 0, none⟩) (Nat.lt_succ_self _)]; exact hv0, by rw [hb.frozen (p := ⟨w.heap.size, 0, none⟩) (Nat.lt_succ_self _)]; exact hf0, HB0.out.trans (hb.mono (by omega))⟩
  have ht := cuTx_any (w.heap.size + 1) s.data.toList s.data.toList W0 hCu hl
  have hmf : ∀ (fn : Fn) (first cap : Array Value) (w : World), (Instr.makeFunc fn first cap).run Tryd.prog w = .ok (.func fn first cap) w := fun _ _ _ _ => rfl
  have HE : Hid (txErr s.data.toList = (rDone (rTx (s.data.toList, 0))).2) := rfl
  have HS : Hid ((rTx (s.data.toList, 0)).1 = [] → ofL (s.data.toList.take (s.data.toList.length - (rTx (s.data.toList, 0)).1.length)) = s) := fun e => by
    rw [e, List.length_nil, Nat.sub_zero, List.take_length, ofL_of]
  clear hCu hl hv0 hf0 hz0
  generalize ofL (s.data.toList.take (s.data.toList.length - (rTx (s.data.toList, 0)).1.length)) = t0 at ht HS
  generalize rTx (s.data.toList, 0) = p at ht HE HS
  obtain ⟨m, c⟩ := p
  by_cases hr : c = 0
  · subst hr
    have h1 := calls_ok ht rfl
    have he := fun (W : World) (hc : Cu W (w.heap.size + 1) s.data.toList m) => cuEnd_any (w.heap.size + 1) s.data.toList m W hc
    clear ht
    by_cases hm : m = []
    · subst hm
      have e5 : rDone ([], 0) = ([], 0) := by simp [rDone]
      rw [e5] at he
      have hE0 : txErr s.data.toList = 0 := by rw [HE.out, e5]
      have hts : t0 = s := HS.out rfl
      have h2 := fun (W : World) (hc : Cu W (w.heap.size + 1) s.data.toList []) => calls_ok (he W hc) rfl
      rw [hE0, if_pos rfl]
      subst hts
      clear he e5 HE HS hE0
      go_enter_defers Tryd.func25, Tryd.ntmps25
      go_upto_region 3 with fail
      rw [← hW0]
      clear hW0
      go_upto_region 5 with (first
        | (go_at_call 26; go_must (refine h1.mono ?_); rintro x w1 ⟨rfl, hc1, hm1⟩; have HC1 := (show Hid (Cu w1 (w.heap.size + 1) _ []) from hc1); have HM1 := (show Hid (Mov (w.heap.size + 1) W0 w1) from hm1); clear hc1 hm1)
        | (go_at_call 48; go_must (refine (h2 _ HC1.out).mono ?_); rintro x w2 ⟨rfl, hc2, hm2⟩; have HM2 := (show Hid (Mov (w.heap.size + 1) W0 w2) from HM1.out.trans hm2); clear hc2 hm2))
      obtain ⟨k1, k2, k3⟩ := HK.out w2 HM2.out
      have HB2 : Hid (Below w.heap.size w w2) := k3
      clear k3
      go_wp2
      refine leaves_cons (f := 47) (args := #[.pointer (some ⟨w.heap.size, 0, none⟩)]) (by simp) (by simp [go_sem]) ?_
      refine (catch_idle ⟨w.heap.size, 0, none⟩ _).mono ?_
      rintro e u' w'' ⟨rfl, rfl, rfl⟩
      simp [Leaves, settle, results, Tryd.results25, go_sem, k1]
      exact HB2.out.setCell (Nat.le_refl _) _
    · have e5 : rDone (m, 0) = (m, 5) := by simp [rDone, hm]
      rw [e5] at he
      have hE0 : txErr s.data.toList = 5 := by rw [HE.out, e5]
      have h2 := fun (W : World) (hc : Cu W (w.heap.size + 1) s.data.toList m) => calls_no (he W hc) (by simp)
      rw [hE0, if_neg (by omega)]
      clear he e5 HE HS hE0
      go_enter_defers Tryd.func25, Tryd.ntmps25
      go_upto_region 3 with fail
      rw [← hW0]
      clear hW0
      go_wp2_with (first
        | (go_at_call 26; go_must (refine h1.mono ?_); rintro x w1 ⟨rfl, hc1, hm1⟩; have HC1 := (show Hid (Cu w1 (w.heap.size + 1) _ m) from hc1); have HM1 := (show Hid (Mov (w.heap.size + 1) W0 w1) from hm1); clear hc1 hm1)
        | (go_at_call 48; go_must (refine (h2 _ HC1.out).mono ?_); rintro x w2 ⟨rfl, hm2⟩; have HMX := (show Hid (Mov (w.heap.size + 1) W0 w2) from HM1.out.trans hm2); clear hm2))
      obtain ⟨k1, k2, k3⟩ := HK.out _ HMX.out
      refine leaves_cons (f := 47) (args := #[.pointer (some ⟨w.heap.size, 0, none⟩)]) (by simp) (by simp [go_sem]) ?_
      refine (catch_panicking ⟨w.heap.size, 0, none⟩ 0 5 _ k1 k2).mono ?_
      rintro e u' w'' ⟨rfl, rfl, rfl⟩
      simp [Leaves, settle, results, Tryd.results25, go_sem, k1]
      exact ⟨rfl, k3.setCell (Nat.le_refl _) _⟩
  · have h1 := calls_no ht hr
    have hE0 : txErr s.data.toList = c := by rw [HE.out]; exact stick_done (m, c) hr
    rw [hE0, if_neg hr]
    clear ht HE HS hE0
    go_enter_defers Tryd.func25, Tryd.ntmps25
    go_upto_region 3 with fail
    rw [← hW0]
    clear hW0
    go_wp2_with (go_at_call 26; go_must (refine h1.mono ?_); rintro x w1 ⟨rfl, hm1⟩; have HMX := (show Hid (Mov (w.heap.size + 1) W0 w1) from hm1); clear hm1)
    obtain ⟨k1, k2, k3⟩ := HK.out _ HMX.out
    refine leaves_cons (f := 47) (args := #[.pointer (some ⟨w.heap.size, 0, none⟩)]) (by simp) (by simp [go_sem]) ?_
    refine (catch_panicking ⟨w.heap.size, 0, none⟩ 0 c _ k1 k2).mono ?_
    rintro e u' w'' ⟨rfl, rfl, rfl⟩
    simp [Leaves, settle, results, Tryd.results25, go_sem, k1]
    exact ⟨rfl, k3.setCell (Nat.le_refl _) _⟩
end Go.Proofs.YtkmalggeieiepabDoor
namespace Go.Proofs.YtkmalggeieiepabDoor
open Go.RowKit

/-- a transaction's digest, or nothing. -/
def txid (Kc : Nat → Int) (s : ByteArray) : ByteArray := if txErr s.data.toList = 0 then strOf (dbl Kc s.data.toList) 32 else ByteArray.empty
set_option maxHeartbeats 1000000 in
theorem txid_any (Kc : Nat → Int) (s : ByteArray) (w : World) (hkt : KT Kc w) (hm : s.size ≤ maxLen) :
    Calls Tryd.prog 12 #[.string s] w fun e w' => e = .returned (.tuple #[.string (txid Kc s), .int .i64 (txErr s.data.toList)]) ∧ Below w.heap.size w w' := by
  have hr := read_any s w hm
  have hpos : 0 < w.heap.size := World.block_lt_of_cell? w _ (hkt 0 (by omega))
  by_cases h0 : txErr s.data.toList = 0
  · have hlen := txErr_len _ h0
    have hsz : s.size ≤ 1099511627776 := by have : s.data.toList.length = s.size := rfl; omega
    have e1 : txid Kc s = strOf (dbl Kc s.data.toList) 32 := by simp [txid, h0]
    have HD : Hid (∀ W, Below w.heap.size w W → Calls Tryd.prog 27 #[.slice (some ⟨W.heap.size, 0, none⟩) 1 1] (W.alloc (.cells #[.string s] 9)) fun e w' => e = .returned (.agg (wl .u8 (dbl Kc s.data.toList) 32).toArray) ∧ Below W.heap.size W w') := fun W hW => double_one Kc s W (hkt.later hW hpos) hsz
    have HTX : Hid (∀ W, Calls Tryd.prog 23 #[.agg (wl .u8 (dbl Kc s.data.toList) 32).toArray] W fun e w' => e = .returned (.string (strOf (dbl Kc s.data.toList) 32)) ∧ Below W.heap.size W w') := fun W => text_any (dbl Kc s.data.toList) (shaF_lt Kc _) _ rfl W
    rw [h0, if_pos rfl] at hr
    rw [e1, h0]
    clear hlen hsz e1 hkt hpos h0 hm
    generalize (wl .u8 (dbl Kc s.data.toList) 32).toArray = S1 at HD HTX
    generalize strOf (dbl Kc s.data.toList) 32 = t1 at HTX
    go_enter Tryd.func12, Tryd.ntmps12
    go_wp2_with (first
      | (go_at_call 25; go_must (refine hr.mono ?_); rintro e w1 ⟨rfl, hb1⟩; have HB1 := (show Hid (Below w.heap.size w w1) from hb1); clear hb1)
      | (go_at_call 27; go_must (refine (HD.out _ HB1.out).mono ?_); rintro e w2 ⟨rfl, hb2⟩; have HB2 := (show Hid (Below w.heap.size w w2) from HB1.out.trans (hb2.mono HB1.out.size)); clear hb2)
      | (go_at_call 23; go_must (refine (HTX.out _).mono ?_); rintro e w3 ⟨rfl, hb3⟩; have HB3 := (show Hid (Below w.heap.size w w3) from HB2.out.trans (hb3.mono HB2.out.size)); clear hb3))
    go_ret2
    exact ⟨rfl, HB3.out⟩
  · have e1 : txid Kc s = ByteArray.empty := by simp [txid, h0]
    rw [if_neg h0] at hr
    rw [e1]
    clear hkt hpos hm e1
    generalize txErr s.data.toList = c at h0 hr
    go_enter Tryd.func12, Tryd.ntmps12
    go_wp2_with (go_at_call 25; go_must (refine hr.mono ?_); rintro e w1 ⟨rfl, hb1⟩; have HB1 := (show Hid (Below w.heap.size w w1) from hb1); clear hb1)
    go_ret2
    exact ⟨rfl, HB1.out⟩
end Go.Proofs.YtkmalggeieiepabDoor
