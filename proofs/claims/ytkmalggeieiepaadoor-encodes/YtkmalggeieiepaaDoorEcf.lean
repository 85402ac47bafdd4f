import Derived.Test.YtkmalggeieiepaaDoorEce
import Derived.WalkKit
import Derived.WalkSpells
import Derived.WalkLawsBesides
import Derived.Deep.DeepCutAuto
import Derived.Deep.QuietTactic
import Derived.BigQuiet
import Derived.Deep.RegionWith
import Derived.Test.YtkmalggeieiepaaDoorEcd
import Derived.Deep.LoopGhost
import Derived.Test.YtkmalggeieiepaaDoorEcb
import Derived.Test.YtkmalggeieiepaaDoorEcc
import Derived.Deep.AppendLies
import Derived.Deep.RegionHeld3
import Derived.OrdersHeld
namespace Go.Proofs.YtkmalggeieiepaaDoor
open Go.RowKit

theorem rSize_long (c : UInt8) (m : List UInt8) (hm : manyOf c ≠ 0) : rSize (c :: m, 0) = rLong (manyOf c) (leastOf c) m := by
  show (if manyOf c = 0 then _ else _ : Nat × (List UInt8 × Int)) = _
  rw [if_neg hm]
  unfold rLong
  by_cases h : m.length < manyOf c
  · rw [if_pos h, if_pos h]
  · rw [if_neg h, if_neg h]
    have hs := size_told c (m.take (manyOf c)) hm (by simp; omega)
    by_cases h2 : num (m.take (manyOf c)) < leastOf c
    · rw [if_pos h2, if_neg (fun e => (hs.1 e) h2)]
    · rw [if_neg h2, if_pos (hs.2 h2)]

set_option maxRecDepth 10000 in
set_option maxHeartbeats 1000000 in
theorem cuAny_any (g : Nat) (l m : List UInt8) (w : World) (h : Cu w g l m) (hl : l.length ≤ maxLen) :
    Calls Tryd.prog 95 #[.pointer (some ⟨g, 0, none⟩)] w (Got g l w (.int .u64 ((rSize (m, 0)).1 : Int)) (rSize (m, 0)).2) := by
  have hT := cuTake_any g 1 l m w h hl
  clear h
  cases m with
  | nil =>
    have e1 : rTake 1 ([], 0) = ([], ([], 1)) := by simp [rTake]
    have e2 : rSize ([], 0) = (0, ([], 1)) := by simp [rSize]
    rw [e1] at hT
    rw [e2]
    have hN := calls_no hT (by simp)
    clear hT
    go_enter Tryd.func95, Tryd.ntmps95
    go_wp2_with (go_at_call 54; go_must (refine hN.mono ?_); rintro x w1 ⟨rfl, hm1⟩)
    exact ⟨rfl, Got.no rfl (by omega) hm1⟩
  | cons c m =>
    have e1 : rTake 1 (c :: m, 0) = ([c], (m, 0)) := by simp [rTake]
    rw [e1] at hT
    have hN := calls_ok hT rfl
    have hL := fun W => lowest_any (ofL [c]) W (by rw [ofL_size]; simp)
    rw [ofL_data] at hL
    clear hT e1
    by_cases c1 : c = 253
    · subst c1
      have hz := fun (W : World) (hc : Cu W g l m) => cuLong_any g 2 253 l m W hc hl (by omega)
      have e2 : rSize (253 :: m, 0) = rLong 2 253 m := rSize_long 253 m (by decide)
      rw [e2]
      have hn : num [(253 : UInt8)] = 253 := rfl
      rw [hn] at hL
      clear e2 hn hl
      generalize rLong 2 253 m = p at hz
      obtain ⟨q, r⟩ := p
      by_cases hr : r.2 = 0
      · have hz2 := fun (W : World) (hc : Cu W g l m) => calls_ok (hz W hc) hr
        have HZ : Hid (∀ W, Cu W g l m → Calls Tryd.prog 99 #[.pointer (some ⟨g, 0, none⟩), .int .i64 2, .int .u64 253] W fun x w' => x = .returned (.int .u64 (q : Int)) ∧ Cu w' g l r.1 ∧ Mov g W w') := hz2
        clear hz hz2
        go_enter Tryd.func95, Tryd.ntmps95
        go_wp2_with (first
          | (go_at_call 54; go_must (refine hN.mono ?_); rintro x w1 ⟨rfl, hc1, hm1⟩; have HC1 := (show Hid (Cu w1 g l m) from hc1); have HM1 := (show Hid (Mov g w w1) from hm1); clear hc1 hm1)
          | (go_at_call 89; go_must (refine (hL _).mono ?_); rintro x w1 ⟨rfl, rfl⟩)
          | (go_at_call 99; go_must (refine (HZ.out _ HC1.out).mono ?_); rintro x w3 ⟨rfl, hc3, hm3⟩; have HC3 := (show Hid (Cu w3 g l r.1) from hc3); have HM3 := (show Hid (Mov g w1 w3) from hm3); clear hc3 hm3))
        go_ret
        exact Got.ok hr (HM1.out.trans HM3.out) HC3.out
      · have hz2 := fun (W : World) (hc : Cu W g l m) => calls_no (hz W hc) hr
        have HZ : Hid (∀ W, Cu W g l m → Calls Tryd.prog 99 #[.pointer (some ⟨g, 0, none⟩), .int .i64 2, .int .u64 253] W fun x w' => x = .panicked [{ v := .iface 26 (.int .i64 r.2), recovered := false }] ∧ Mov g W w') := hz2
        clear hz hz2
        go_enter Tryd.func95, Tryd.ntmps95
        go_wp2_with (first
          | (go_at_call 54; go_must (refine hN.mono ?_); rintro x w1 ⟨rfl, hc1, hm1⟩; have HC1 := (show Hid (Cu w1 g l m) from hc1); have HM1 := (show Hid (Mov g w w1) from hm1); clear hc1 hm1)
          | (go_at_call 89; go_must (refine (hL _).mono ?_); rintro x w1 ⟨rfl, rfl⟩)
          | (go_at_call 99; go_must (refine (HZ.out _ HC1.out).mono ?_); rintro x w3 ⟨rfl, hm3⟩; have HM3 := (show Hid (Mov g w1 w3) from hm3); clear hm3))
        exact ⟨rfl, Got.no rfl hr (HM1.out.trans HM3.out)⟩
    · by_cases c2 : c = 254
      · subst c2
        have hz := fun (W : World) (hc : Cu W g l m) => cuLong_any g 4 65536 l m W hc hl (by omega)
        have e2 : rSize (254 :: m, 0) = rLong 4 65536 m := rSize_long 254 m (by decide)
        rw [e2]
        have hn : num [(254 : UInt8)] = 254 := rfl
        rw [hn] at hL
        clear e2 hn hl
        generalize rLong 4 65536 m = p at hz
        obtain ⟨q, r⟩ := p
        by_cases hr : r.2 = 0
        · have hz2 := fun (W : World) (hc : Cu W g l m) => calls_ok (hz W hc) hr
          have HZ : Hid (∀ W, Cu W g l m → Calls Tryd.prog 99 #[.pointer (some ⟨g, 0, none⟩), .int .i64 4, .int .u64 65536] W fun x w' => x = .returned (.int .u64 (q : Int)) ∧ Cu w' g l r.1 ∧ Mov g W w') := hz2
          clear hz hz2
          go_enter Tryd.func95, Tryd.ntmps95
          go_wp2_with (first
            | (go_at_call 54; go_must (refine hN.mono ?_); rintro x w1 ⟨rfl, hc1, hm1⟩; have HC1 := (show Hid (Cu w1 g l m) from hc1); have HM1 := (show Hid (Mov g w w1) from hm1); clear hc1 hm1)
            | (go_at_call 89; go_must (refine (hL _).mono ?_); rintro x w1 ⟨rfl, rfl⟩)
            | (go_at_call 99; go_must (refine (HZ.out _ HC1.out).mono ?_); rintro x w3 ⟨rfl, hc3, hm3⟩; have HC3 := (show Hid (Cu w3 g l r.1) from hc3); have HM3 := (show Hid (Mov g w1 w3) from hm3); clear hc3 hm3))
          go_ret
          exact Got.ok hr (HM1.out.trans HM3.out) HC3.out
        · have hz2 := fun (W : World) (hc : Cu W g l m) => calls_no (hz W hc) hr
          have HZ : Hid (∀ W, Cu W g l m → Calls Tryd.prog 99 #[.pointer (some ⟨g, 0, none⟩), .int .i64 4, .int .u64 65536] W fun x w' => x = .panicked [{ v := .iface 26 (.int .i64 r.2), recovered := false }] ∧ Mov g W w') := hz2
          clear hz hz2
          go_enter Tryd.func95, Tryd.ntmps95
          go_wp2_with (first
            | (go_at_call 54; go_must (refine hN.mono ?_); rintro x w1 ⟨rfl, hc1, hm1⟩; have HC1 := (show Hid (Cu w1 g l m) from hc1); have HM1 := (show Hid (Mov g w w1) from hm1); clear hc1 hm1)
            | (go_at_call 89; go_must (refine (hL _).mono ?_); rintro x w1 ⟨rfl, rfl⟩)
            | (go_at_call 99; go_must (refine (HZ.out _ HC1.out).mono ?_); rintro x w3 ⟨rfl, hm3⟩; have HM3 := (show Hid (Mov g w1 w3) from hm3); clear hm3))
          exact ⟨rfl, Got.no rfl hr (HM1.out.trans HM3.out)⟩
      · by_cases c3 : c = 255
        · subst c3
          have hz := fun (W : World) (hc : Cu W g l m) => cuLong_any g 8 4294967296 l m W hc hl (by omega)
          have e2 : rSize (255 :: m, 0) = rLong 8 4294967296 m := rSize_long 255 m (by decide)
          rw [e2]
          have hn : num [(255 : UInt8)] = 255 := rfl
          rw [hn] at hL
          clear e2 hn hl
          generalize rLong 8 4294967296 m = p at hz
          obtain ⟨q, r⟩ := p
          by_cases hr : r.2 = 0
          · have hz2 := fun (W : World) (hc : Cu W g l m) => calls_ok (hz W hc) hr
            have HZ : Hid (∀ W, Cu W g l m → Calls Tryd.prog 99 #[.pointer (some ⟨g, 0, none⟩), .int .i64 8, .int .u64 4294967296] W fun x w' => x = .returned (.int .u64 (q : Int)) ∧ Cu w' g l r.1 ∧ Mov g W w') := hz2
            clear hz hz2
            go_enter Tryd.func95, Tryd.ntmps95
            go_wp2_with (first
              | (go_at_call 54; go_must (refine hN.mono ?_); rintro x w1 ⟨rfl, hc1, hm1⟩; have HC1 := (show Hid (Cu w1 g l m) from hc1); have HM1 := (show Hid (Mov g w w1) from hm1); clear hc1 hm1)
              | (go_at_call 89; go_must (refine (hL _).mono ?_); rintro x w1 ⟨rfl, rfl⟩)
              | (go_at_call 99; go_must (refine (HZ.out _ HC1.out).mono ?_); rintro x w3 ⟨rfl, hc3, hm3⟩; have HC3 := (show Hid (Cu w3 g l r.1) from hc3); have HM3 := (show Hid (Mov g w1 w3) from hm3); clear hc3 hm3))
            go_ret
            exact Got.ok hr (HM1.out.trans HM3.out) HC3.out
          · have hz2 := fun (W : World) (hc : Cu W g l m) => calls_no (hz W hc) hr
            have HZ : Hid (∀ W, Cu W g l m → Calls Tryd.prog 99 #[.pointer (some ⟨g, 0, none⟩), .int .i64 8, .int .u64 4294967296] W fun x w' => x = .panicked [{ v := .iface 26 (.int .i64 r.2), recovered := false }] ∧ Mov g W w') := hz2
            clear hz hz2
            go_enter Tryd.func95, Tryd.ntmps95
            go_wp2_with (first
              | (go_at_call 54; go_must (refine hN.mono ?_); rintro x w1 ⟨rfl, hc1, hm1⟩; have HC1 := (show Hid (Cu w1 g l m) from hc1); have HM1 := (show Hid (Mov g w w1) from hm1); clear hc1 hm1)
              | (go_at_call 89; go_must (refine (hL _).mono ?_); rintro x w1 ⟨rfl, rfl⟩)
              | (go_at_call 99; go_must (refine (HZ.out _ HC1.out).mono ?_); rintro x w3 ⟨rfl, hm3⟩; have HM3 := (show Hid (Mov g w1 w3) from hm3); clear hm3))
            exact ⟨rfl, Got.no rfl hr (HM1.out.trans HM3.out)⟩
        · have hm : manyOf c = 0 := by simp [manyOf, c1, c2, c3]
          have e2 : rSize (c :: m, 0) = (c.toNat, (m, 0)) := by simp [rSize, hm]
          rw [e2]
          have hn : num [c] = c.toNat := by simp [num]
          rw [hn] at hL
          have n1 : ¬ ((c.toNat : Int) = 253) := fun h => c1 (by rw [← UInt8.toNat_inj]; simp; omega)
          have n2 : ¬ ((c.toNat : Int) = 254) := fun h => c2 (by rw [← UInt8.toNat_inj]; simp; omega)
          have n3 : ¬ ((c.toNat : Int) = 255) := fun h => c3 (by rw [← UInt8.toNat_inj]; simp; omega)
          clear c1 c2 c3 hm e2 hn
          generalize (c.toNat : Int) = C at hL n1 n2 n3
          go_enter Tryd.func95, Tryd.ntmps95
          go_wp2_with (first
            | (go_at_call 54; go_must (refine hN.mono ?_); rintro x w1 ⟨rfl, hc1, hm1⟩; have HC1 := (show Hid (Cu w1 g l m) from hc1); have HM1 := (show Hid (Mov g w w1) from hm1); clear hc1 hm1)
            | (go_at_call 89; go_must (refine (hL _).mono ?_); rintro x w1 ⟨rfl, rfl⟩))
          go_ret
          exact Got.ok rfl HM1.out HC1.out

set_option maxRecDepth 10000 in
theorem cuSize_any (g lo hi : Nat) (l m : List UInt8) (w : World) (h : Cu w g l m) (hl : l.length ≤ maxLen) :
    Calls Tryd.prog 84 #[.pointer (some ⟨g, 0, none⟩), .int .u64 (lo : Int), .int .u64 (hi : Int)] w (Got g l w (.int .u64 ((rWithin lo hi (m, 0)).1 : Int)) (rWithin lo hi (m, 0)).2) := by
  have hz := cuAny_any g l m w h hl
  have HE : rWithin lo hi (m, 0) = if (rSize (m, 0)).2.2 ≠ 0 then (0, (rSize (m, 0)).2) else if (rSize (m, 0)).1 < lo ∨ hi < (rSize (m, 0)).1 then (0, ((rSize (m, 0)).2.1, 3)) else rSize (m, 0) := rfl
  rw [HE]
  clear h HE hl
  generalize rSize (m, 0) = p at hz
  obtain ⟨q, r⟩ := p
  by_cases hr : r.2 = 0
  · have hN := calls_ok hz hr
    clear hz
    rw [if_neg (fun h => h hr)]
    by_cases hb : q < lo ∨ hi < q
    · rw [if_pos hb]
      by_cases h1 : q < lo
      · have i1 : (q : Int) < (lo : Int) := by omega
        go_enter Tryd.func84, Tryd.ntmps84
        go_wp2_with (go_at_call 95; go_must (refine hN.mono ?_); rintro x w1 ⟨rfl, hc1, hm1⟩)
        exact ⟨rfl, Got.no rfl (by omega) hm1⟩
      · have i1 : ¬ ((q : Int) < (lo : Int)) := by omega
        have i2 : (hi : Int) < (q : Int) := by omega
        go_enter Tryd.func84, Tryd.ntmps84
        go_wp2_with (go_at_call 95; go_must (refine hN.mono ?_); rintro x w1 ⟨rfl, hc1, hm1⟩)
        exact ⟨rfl, Got.no rfl (by omega) hm1⟩
    · rw [if_neg hb]
      have i1 : ¬ ((q : Int) < (lo : Int)) := by omega
      have i2 : ¬ ((hi : Int) < (q : Int)) := by omega
      go_enter Tryd.func84, Tryd.ntmps84
      go_wp2_with (go_at_call 95; go_must (refine hN.mono ?_); rintro x w1 ⟨rfl, hc1, hm1⟩)
      go_ret
      exact Got.ok hr hm1 hc1
  · have hN := calls_no hz hr
    clear hz
    rw [if_pos hr]
    go_enter Tryd.func84, Tryd.ntmps84
    go_wp2_with (go_at_call 95; go_must (refine hN.mono ?_); rintro x w1 ⟨rfl, hm1⟩)
    exact ⟨rfl, Got.no rfl hr hm1⟩
end Go.Proofs.YtkmalggeieiepaaDoor
set_option linter.unusedSimpArgs false
namespace Go.Proofs.YtkmalggeieiepaaDoor
open Go.RowKit

theorem Cu.drew {w : World} {g : Nat} {l m : List UInt8} (h : Cu w g l m) : Cu w.drew g l m := ⟨h.s, h.e, h.ef⟩
theorem Mov.undrew {g : Nat} {w w' : World} (h : Mov g w.drew w') : Mov g w w' := ⟨h.os, h.tape, h.output, h.size, h.block⟩
theorem Got.not_out {g : Nat} {l : List UInt8} {w w' : World} {v : Value} {r : List UInt8 × Int} (h : Got g l w v r .outgrown w') : False := by
  obtain ⟨_, hx⟩ := h
  by_cases hr : r.2 = 0
  · rw [if_pos hr] at hx; cases hx.1
  · rw [if_neg hr] at hx; cases hx
theorem rScript_of (m : List UInt8) : rScript (m, 0) = (rTake (rWithin 0 40 (m, 0)).1 (rWithin 0 40 (m, 0)).2).2 := rfl

set_option maxRecDepth 10000 in
set_option maxHeartbeats 1000000 in
theorem cuScript_any (g : Nat) (l m : List UInt8) (w : World) (h : Cu w g l m) (hl : l.length ≤ maxLen) :
    Calls Tryd.prog 85 #[.pointer (some ⟨g, 0, none⟩)] w (Got g l w (.tuple #[]) (rScript (m, 0))) := by
  have hz := cuSize_any g 0 40 l m w.drew h.drew hl
  have hq := rWithin_hi 0 40 (m, 0)
  rw [rScript_of]
  clear h
  generalize rWithin 0 40 (m, 0) = p at hz hq
  obtain ⟨q, r⟩ := p
  have hq' : q ≤ 40 := hq
  clear hq
  go_enter Tryd.func85, Tryd.ntmps85
  refine q_frame (fun A HFR => ?_)
  have hsz : A.tmps.size = 11 := by rw [HFR.out]; rfl
  have h0 : A.eval (.tmp 0) = .pointer (some ⟨g, 0, none⟩) := by rw [HFR.out]; rfl
  have hdf : A.defers = [] := by rw [HFR.out]
  refine wp_region_any (by kernel_rfl) ?_
  refine wpAny_take (i := 0) (v := (.pointer (some ⟨g, 0, none⟩))) rfl (by kernel_rfl) (by kernel_rfl) (by kernel_rfl) (fun _ _ _ h => h) (Or.inl ⟨by rfl, fun W => ?_⟩) ?_
  · exact q_run1 0 (.pointer (some ⟨g, 0, none⟩)) (by simp only [q_same, q_ne, q_sz, hsz, h0, ne_eq, Nat.reduceEqDiff, not_false_eq_true, Nat.reduceLT]) (fun ρ _ _ e1 => by simp [go_sem, e1])
  change wpAny _ _ _ _ _ _ (Act.put _ (some 2) _) _
  refine wpAny_take (i := 1) (v := (.pointer (some ⟨g, 0, none⟩))) rfl (by kernel_rfl) (by kernel_rfl) (by kernel_rfl) (fun _ _ _ h => h) (Or.inl ⟨by rfl, fun W => ?_⟩) ?_
  · exact q_run1 2 (.pointer (some ⟨g, 0, none⟩)) (by simp only [q_same, q_ne, q_sz, hsz, h0, ne_eq, Nat.reduceEqDiff, not_false_eq_true, Nat.reduceLT]) (fun ρ _ _ e1 => by simp [go_sem, e1])
  change wpAny _ _ _ _ _ _ (Act.put _ (some 3) _) _
  refine wpAny_take (i := 2) (v := (.pointer (some ⟨g, 0, none⟩))) rfl (by kernel_rfl) (by kernel_rfl) (by kernel_rfl) (fun _ _ _ h => h) (Or.inl ⟨by rfl, fun W => ?_⟩) ?_
  · exact q_run1 3 (.pointer (some ⟨g, 0, none⟩)) (by simp only [q_same, q_ne, q_sz, hsz, h0, ne_eq, Nat.reduceEqDiff, not_false_eq_true, Nat.reduceLT]) (fun ρ _ _ e1 => by simp [go_sem, e1])
  change wpAny _ _ _ _ _ _ (Act.put _ (some 4) _) _
  refine wpAny_take (i := 3) (v := (.pointer (some ⟨g, 0, none⟩))) rfl (by kernel_rfl) (by kernel_rfl) (by kernel_rfl) (fun _ _ _ h => h) (Or.inl ⟨by rfl, fun W => ?_⟩) ?_
  · exact q_run1 0 (.pointer (some ⟨g, 0, none⟩)) (by simp only [q_same, q_ne, q_sz, hsz, h0, ne_eq, Nat.reduceEqDiff, not_false_eq_true, Nat.reduceLT]) (fun ρ _ _ e1 => by simp [go_sem, e1])
  change wpAny _ _ _ _ _ _ (Act.put _ (some 5) _) _
  refine wpAny_take (i := 4) (v := (.pointer (some ⟨g, 0, none⟩))) rfl (by kernel_rfl) (by kernel_rfl) (by kernel_rfl) (fun _ _ _ h => h) (Or.inl ⟨by rfl, fun W => ?_⟩) ?_
  · exact q_run1 5 (.pointer (some ⟨g, 0, none⟩)) (by simp only [q_same, q_ne, q_sz, hsz, h0, ne_eq, Nat.reduceEqDiff, not_false_eq_true, Nat.reduceLT]) (fun ρ _ _ e1 => by simp [go_sem, e1])
  change wpAny _ _ _ _ _ _ (Act.put _ (some 6) _) _
  refine wpAny_take (i := 5) (v := (.pointer (some ⟨g, 0, none⟩))) rfl (by kernel_rfl) (by kernel_rfl) (by kernel_rfl) (fun _ _ _ h => h) (Or.inl ⟨by rfl, fun W => ?_⟩) ?_
  · exact q_run1 6 (.pointer (some ⟨g, 0, none⟩)) (by simp only [q_same, q_ne, q_sz, hsz, h0, ne_eq, Nat.reduceEqDiff, not_false_eq_true, Nat.reduceLT]) (fun ρ _ _ e1 => by simp [go_sem, e1])
  change wpAny _ _ _ _ _ _ (Act.put _ (some 7) _) _
  refine q_call 6 84 #[.pointer (some ⟨g, 0, none⟩), .int .u64 0, .int .u64 40] _ (by kernel_rfl) rfl rfl ?_ hz ?_ ?_ ?_
  · exact q_run1 7 (.pointer (some ⟨g, 0, none⟩)) (by simp only [q_same, q_ne, q_sz, hsz, h0, ne_eq, Nat.reduceEqDiff, not_false_eq_true, Nat.reduceLT]) (fun ρ hc hf e1 => by simp [go_sem, hc, hf, e1])
  · intro v w1 hx
    change wpAny _ _ _ _ _ _ (Act.put _ (some 8) _) _
    obtain ⟨hm1, hx⟩ := hx
    by_cases hr : r.2 = 0
    · rw [if_pos hr] at hx
      obtain ⟨hv, hc1⟩ := hx
      injection hv with hv
      subst hv
      obtain ⟨m1, c1⟩ := r
      have hr' : c1 = 0 := hr
      subst hr'
      clear hr
      have ht := cuTake_any g q l m1 w1 hc1 hl
      have hw : IntKind.i64.wrap (q : Int) = (q : Int) := by rw [IntKind.wrap_i64]; omega
      refine q_one 7 (.int .i64 (IntKind.i64.wrap (q : Int))) w1 (by kernel_rfl) rfl rfl ?_ ?_
      · exact q_run1 8 (.int .u64 (q : Int)) (by simp only [q_same, q_ne, q_sz, hsz, h0, ne_eq, Nat.reduceEqDiff, not_false_eq_true, Nat.reduceLT]) (fun ρ _ _ e1 => by simp [go_sem, e1])
      change wpAny _ _ _ _ _ _ (Act.put _ (some 9) _) _
      refine q_call 8 54 #[.pointer (some ⟨g, 0, none⟩), .int .i64 (IntKind.i64.wrap (q : Int))] _ (by kernel_rfl) rfl rfl ?_ (by rw [hw]; exact ht) ?_ ?_ ?_
      · exact q_run2 4 9 (.pointer (some ⟨g, 0, none⟩)) (.int .i64 (IntKind.i64.wrap (q : Int))) (by simp only [q_same, q_ne, q_sz, hsz, h0, ne_eq, Nat.reduceEqDiff, not_false_eq_true, Nat.reduceLT]) (by simp only [q_same, q_ne, q_sz, hsz, h0, ne_eq, Nat.reduceEqDiff, not_false_eq_true, Nat.reduceLT]) (fun ρ _ hf e1 e2 => by simp [go_sem, hf, e1, e2])
      · intro v w2 hx
        refine wpAny_done (by kernel_rfl) ?_ _
        obtain ⟨hm2, hx⟩ := hx
        have hr2 : (rTake q (m1, 0)).2.2 = 0 := by
          rcases Decidable.em ((rTake q (m1, 0)).2.2 = 0) with e | e
          · exact e
          · rw [if_neg e] at hx; cases hx
        rw [if_pos hr2] at hx
        refine q_done0 (by kernel_rfl) (by simp only [q_def]; exact hdf) (Got.ok hr2 (hm1.undrew.trans hm2) hx.2)
      · intro ch w2 hx
        obtain ⟨hm2, hx⟩ := hx
        have hr2 : (rTake q (m1, 0)).2.2 ≠ 0 := fun e => by rw [if_pos e] at hx; cases hx.1
        rw [if_neg hr2] at hx
        injection hx with hx
        subst hx
        refine q_panic (by simp only [q_def]; exact hdf) (Got.no rfl hr2 (hm1.undrew.trans hm2))
      · intro w2 hx
        exact Got.not_out hx
    · rw [if_neg hr] at hx
      cases hx
  · intro ch w1 hx
    obtain ⟨hm1, hx⟩ := hx
    by_cases hr : r.2 = 0
    · rw [if_pos hr] at hx
      cases hx.1
    · rw [if_neg hr] at hx
      injection hx with hx
      subst hx
      refine q_panic (by simp only [q_def]; exact hdf) (Got.no (stick_take q r hr) hr hm1.undrew)
  · intro w1 hx
    exact Got.not_out hx
end Go.Proofs.YtkmalggeieiepaaDoor
namespace Go.Proofs.YtkmalggeieiepaaDoor
open Go.RowKit

theorem rIn_of (m : List UInt8) : rIn (m, 0) = (rTake 4 (rScript (rTake 36 (m, 0)).2)).2 := rfl
theorem rOut_of (m : List UInt8) : rOut (m, 0) = rScript (rTake 8 (m, 0)).2 := rfl

set_option maxRecDepth 10000 in
set_option maxHeartbeats 1000000 in
theorem cuIn_any (g : Nat) (l m : List UInt8) (w : World) (h : Cu w g l m) (hl : l.length ≤ maxLen) :
    Calls Tryd.prog 56 #[.pointer (some ⟨g, 0, none⟩)] w (Got g l w (.tuple #[]) (rIn (m, 0))) := by
  have ht := cuTake_any g 36 l m w h hl
  rw [rIn_of]
  clear h
  generalize rTake 36 (m, 0) = p at ht
  obtain ⟨t1, m1, c1⟩ := p
  by_cases hr : c1 = 0
  · subst hr
    have h1 := calls_ok ht rfl
    have hs := fun (W : World) (hc : Cu W g l m1) => cuScript_any g l m1 W hc hl
    clear ht
    show Calls _ _ _ _ (Got g l w (.tuple #[]) (rTake 4 (rScript (m1, 0))).2)
    generalize rScript (m1, 0) = r at hs
    obtain ⟨m2, c2⟩ := r
    by_cases hr : c2 = 0
    · subst hr
      have h2 := fun (W : World) (hc : Cu W g l m1) => calls_ok (hs W hc) rfl
      have hq := fun (W : World) (hc : Cu W g l m2) => cuTake_any g 4 l m2 W hc hl
      clear hs hl
      generalize rTake 4 (m2, 0) = p at hq
      obtain ⟨t3, r3⟩ := p
      by_cases hr : r3.2 = 0
      · have h3 := fun (W : World) (hc : Cu W g l m2) => calls_ok (hq W hc) hr
        clear hq
        go_enter Tryd.func56, Tryd.ntmps56
        go_upto_region 1 with (go_at_call 54; go_must (refine h1.mono ?_); rintro x w1 ⟨rfl, hc1, hm1⟩; have HC1 := (show Hid (Cu w1 g l m1) from hc1); have HM1 := (show Hid (Mov g w w1) from hm1); clear hc1 hm1)
        go_upto_region 2 with (go_at_call 85; go_must (refine (h2 _ HC1.out).mono ?_); rintro x w2 ⟨rfl, hc2, hm2⟩; have HC2 := (show Hid (Cu w2 g l m2) from hc2); have HM2 := (show Hid (Mov g w1 w2) from hm2); clear hc2 hm2)
        go_wp2_with (go_at_call 54; go_must (refine (h3 _ HC2.out).mono ?_); rintro x w3 ⟨rfl, hc3, hm3⟩)
        go_end0
        exact Got.ok hr (HM1.out.trans (HM2.out.trans hm3)) hc3
      · have h3 := fun (W : World) (hc : Cu W g l m2) => calls_no (hq W hc) hr
        clear hq
        go_enter Tryd.func56, Tryd.ntmps56
        go_upto_region 1 with (go_at_call 54; go_must (refine h1.mono ?_); rintro x w1 ⟨rfl, hc1, hm1⟩; have HC1 := (show Hid (Cu w1 g l m1) from hc1); have HM1 := (show Hid (Mov g w w1) from hm1); clear hc1 hm1)
        go_upto_region 2 with (go_at_call 85; go_must (refine (h2 _ HC1.out).mono ?_); rintro x w2 ⟨rfl, hc2, hm2⟩; have HC2 := (show Hid (Cu w2 g l m2) from hc2); have HM2 := (show Hid (Mov g w1 w2) from hm2); clear hc2 hm2)
        go_wp2_with (go_at_call 54; go_must (refine (h3 _ HC2.out).mono ?_); rintro x w3 ⟨rfl, hm3⟩)
        exact ⟨rfl, Got.no rfl hr (HM1.out.trans (HM2.out.trans hm3))⟩
    · have h2 := fun (W : World) (hc : Cu W g l m1) => calls_no (hs W hc) hr
      have HE : Hid ((rTake 4 (m2, c2)).2.2 = c2) := stick_take 4 (m2, c2) hr
      clear hs hl
      generalize (rTake 4 (m2, c2)).2 = r3 at HE
      go_enter Tryd.func56, Tryd.ntmps56
      go_upto_region 1 with (go_at_call 54; go_must (refine h1.mono ?_); rintro x w1 ⟨rfl, hc1, hm1⟩; have HC1 := (show Hid (Cu w1 g l m1) from hc1); have HM1 := (show Hid (Mov g w w1) from hm1); clear hc1 hm1)
      go_wp2_with (go_at_call 85; go_must (refine (h2 _ HC1.out).mono ?_); rintro x w2 ⟨rfl, hm2⟩)
      exact ⟨rfl, Got.no HE.out hr (HM1.out.trans hm2)⟩
  · have h1 := calls_no ht hr
    have HE : Hid ((rTake 4 (rScript (m1, c1))).2.2 = c1) := ((stick_script.comp (stick_take 4)) (m1, c1) hr : _)
    clear ht hl
    show Calls _ _ _ _ (Got g l w (.tuple #[]) (rTake 4 (rScript (m1, c1))).2)
    generalize (rTake 4 (rScript (m1, c1))).2 = r3 at HE
    go_enter Tryd.func56, Tryd.ntmps56
    go_wp2_with (go_at_call 54; go_must (refine h1.mono ?_); rintro x w1 ⟨rfl, hm1⟩)
    exact ⟨rfl, Got.no HE.out hr hm1⟩

set_option maxRecDepth 10000 in
set_option maxHeartbeats 1000000 in
theorem cuOut_any (g : Nat) (l m : List UInt8) (w : World) (h : Cu w g l m) (hl : l.length ≤ maxLen) :
    Calls Tryd.prog 57 #[.pointer (some ⟨g, 0, none⟩)] w (Got g l w (.tuple #[]) (rOut (m, 0))) := by
  have ht := cuTake_any g 8 l m w h hl
  rw [rOut_of]
  clear h
  generalize rTake 8 (m, 0) = p at ht
  obtain ⟨t1, m1, c1⟩ := p
  by_cases hr : c1 = 0
  · subst hr
    have h1 := calls_ok ht rfl
    have hs := fun (W : World) (hc : Cu W g l m1) => cuScript_any g l m1 W hc hl
    clear ht hl
    show Calls _ _ _ _ (Got g l w (.tuple #[]) (rScript (m1, 0)))
    generalize rScript (m1, 0) = r at hs
    by_cases hr : r.2 = 0
    · have h2 := fun (W : World) (hc : Cu W g l m1) => calls_ok (hs W hc) hr
      clear hs
      go_enter Tryd.func57, Tryd.ntmps57
      go_upto_region 1 with (go_at_call 54; go_must (refine h1.mono ?_); rintro x w1 ⟨rfl, hc1, hm1⟩; have HC1 := (show Hid (Cu w1 g l m1) from hc1); have HM1 := (show Hid (Mov g w w1) from hm1); clear hc1 hm1)
      go_wp2_with (go_at_call 85; go_must (refine (h2 _ HC1.out).mono ?_); rintro x w2 ⟨rfl, hc2, hm2⟩)
      go_end0
      exact Got.ok hr (HM1.out.trans hm2) hc2
    · have h2 := fun (W : World) (hc : Cu W g l m1) => calls_no (hs W hc) hr
      clear hs
      go_enter Tryd.func57, Tryd.ntmps57
      go_upto_region 1 with (go_at_call 54; go_must (refine h1.mono ?_); rintro x w1 ⟨rfl, hc1, hm1⟩; have HC1 := (show Hid (Cu w1 g l m1) from hc1); have HM1 := (show Hid (Mov g w w1) from hm1); clear hc1 hm1)
      go_wp2_with (go_at_call 85; go_must (refine (h2 _ HC1.out).mono ?_); rintro x w2 ⟨rfl, hm2⟩)
      exact ⟨rfl, Got.no rfl hr (HM1.out.trans hm2)⟩
  · have h1 := calls_no ht hr
    have HE : Hid ((rScript (m1, c1)).2 = c1) := stick_script (m1, c1) hr
    clear ht hl
    show Calls _ _ _ _ (Got g l w (.tuple #[]) (rScript (m1, c1)))
    generalize rScript (m1, c1) = r3 at HE
    go_enter Tryd.func57, Tryd.ntmps57
    go_wp2_with (go_at_call 54; go_must (refine h1.mono ?_); rintro x w1 ⟨rfl, hm1⟩)
    exact ⟨rfl, Got.no HE.out hr hm1⟩

set_option maxRecDepth 10000 in
set_option maxHeartbeats 1000000 in
theorem cuIns_any (g : Nat) (l m : List UInt8) (w : World) (h : Cu w g l m) (hl : l.length ≤ maxLen) :
    Calls Tryd.prog 55 #[.pointer (some ⟨g, 0, none⟩), .int .u64 1, .int .u64 4, .func (.func 56) #[] #[]] w (Got g l w (.tuple #[]) (rep rIn (rWithin 1 4 (m, 0)).1 (rWithin 1 4 (m, 0)).2)) := by
  have hz := cuSize_any g 1 4 l m w h hl
  have hq := rWithin_hi 1 4 (m, 0)
  have HP : Hid (∀ (W : World) (m : List UInt8), Cu W g l m → Calls Tryd.prog 56 #[.pointer (some ⟨g, 0, none⟩)] W (Got g l W (.tuple #[]) (rIn (m, 0)))) := fun W m hc => cuIn_any g l m W hc hl
  clear h hl
  generalize rWithin 1 4 (m, 0) = p at hz hq
  obtain ⟨q, m1, c1⟩ := p
  have hq' : q ≤ 4 := hq
  clear hq
  by_cases hr : c1 = 0
  · subst hr
    have h1 := calls_ok hz rfl
    clear hz
    show Calls _ _ _ _ (Got g l w (.tuple #[]) (rep rIn q (m1, 0)))
    obtain ⟨R, HR⟩ : ∃ R, Hid (R = rep rIn q (m1, 0)) := ⟨_, rfl⟩
    rw [← HR.out]
    go_enter Tryd.func55, Tryd.ntmps55
    go_upto_region 1 with (go_at_call 84; go_must (refine h1.mono ?_); rintro x w1 ⟨rfl, hc1, hm1⟩; have HC1 := (show Hid (Cu w1 g l m1) from hc1); have HM1 := (show Hid (Mov g w w1) from hm1); clear hc1 hm1)
    go_loopg [14] q (fun g' iv wx => ∃ k : Nat, ∃ m : List UInt8, k + g' = q ∧ iv = .int .u64 (k : Int) ∧ rep rIn g' (m, 0) = R ∧ Cu wx g l m ∧ Mov g w wx)
    case atStart => exact ⟨0, m1, by omega, rfl, HR.out.symm, HC1.out, HM1.out⟩
    case round =>
      clear HC1 HM1 HR
      obtain ⟨k, m2, hk, rfl, hrep, hc, hm⟩ := hrel
      have HC : Hid (Cu wr g l m2) := hc
      have HM : Hid (Mov g w wr) := hm
      have HE : Hid (rep rIn gk (m2, 0) = R) := hrep
      clear hc hm hrep
      by_cases h0 : gk = 0
      · subst h0
        have hlt : ¬ ((k : Int) < (q : Int)) := by omega
        have hE : (m2, 0) = R := HE.out
        go_wp2
        go_end0
        rw [← hE]
        exact Got.ok rfl HM.out HC.out
      · obtain ⟨j, rfl⟩ : ∃ j, gk = j + 1 := ⟨gk - 1, by omega⟩
        have hlt : (k : Int) < (q : Int) := by omega
        have hp := HP.out wr m2 HC.out
        have HE2 : Hid (rep rIn j (rIn (m2, 0)) = R) := HE.out
        clear HE
        generalize rIn (m2, 0) = r at hp HE2
        obtain ⟨m3, c3⟩ := r
        by_cases hr : c3 = 0
        · subst hr
          have h3 := calls_ok hp rfl
          clear hp
          go_wp2_with (go_at_call 56; go_must (refine h3.mono ?_); rintro x w3 ⟨rfl, hc3, hm3⟩; have HC3 := (show Hid (Cu w3 g l m3) from hc3); have HM3 := (show Hid (Mov g wr w3) from hm3); clear hc3 hm3)
          go_roundg j
          case measure => omega
          case rel => exact ⟨k + 1, m3, by omega, by go_num, HE2.out, HC3.out, HM.out.trans HM3.out⟩
        · have h3 := calls_no hp hr
          have hR : R.2 = c3 := by rw [← HE2.out]; exact stick_rep stick_in j (m3, c3) hr
          clear hp
          go_wp2_with (go_at_call 56; go_must (refine h3.mono ?_); rintro x w3 ⟨rfl, hm3⟩)
          exact ⟨rfl, Got.no hR hr (HM.out.trans hm3)⟩
  · have h1 := calls_no hz hr
    have HE : Hid ((rep rIn q (m1, c1)).2 = c1) := stick_rep stick_in q (m1, c1) hr
    clear hz
    show Calls _ _ _ _ (Got g l w (.tuple #[]) (rep rIn q (m1, c1)))
    generalize rep rIn q (m1, c1) = r3 at HE
    go_enter Tryd.func55, Tryd.ntmps55
    go_wp2_with (go_at_call 84; go_must (refine h1.mono ?_); rintro x w1 ⟨rfl, hm1⟩)
    exact ⟨rfl, Got.no HE.out hr hm1⟩

set_option maxRecDepth 10000 in
set_option maxHeartbeats 1000000 in
theorem cuOuts_any (g : Nat) (l m : List UInt8) (w : World) (h : Cu w g l m) (hl : l.length ≤ maxLen) :
    Calls Tryd.prog 55 #[.pointer (some ⟨g, 0, none⟩), .int .u64 1, .int .u64 4, .func (.func 57) #[] #[]] w (Got g l w (.tuple #[]) (rep rOut (rWithin 1 4 (m, 0)).1 (rWithin 1 4 (m, 0)).2)) := by
  have hz := cuSize_any g 1 4 l m w h hl
  have hq := rWithin_hi 1 4 (m, 0)
  have HP : Hid (∀ (W : World) (m : List UInt8), Cu W g l m → Calls Tryd.prog 57 #[.pointer (some ⟨g, 0, none⟩)] W (Got g l W (.tuple #[]) (rOut (m, 0)))) := fun W m hc => cuOut_any g l m W hc hl
  clear h hl
  generalize rWithin 1 4 (m, 0) = p at hz hq
  obtain ⟨q, m1, c1⟩ := p
  have hq' : q ≤ 4 := hq
  clear hq
  by_cases hr : c1 = 0
  · subst hr
    have h1 := calls_ok hz rfl
    clear hz
    show Calls _ _ _ _ (Got g l w (.tuple #[]) (rep rOut q (m1, 0)))
    obtain ⟨R, HR⟩ : ∃ R, Hid (R = rep rOut q (m1, 0)) := ⟨_, rfl⟩
    rw [← HR.out]
    go_enter Tryd.func55, Tryd.ntmps55
    go_upto_region 1 with (go_at_call 84; go_must (refine h1.mono ?_); rintro x w1 ⟨rfl, hc1, hm1⟩; have HC1 := (show Hid (Cu w1 g l m1) from hc1); have HM1 := (show Hid (Mov g w w1) from hm1); clear hc1 hm1)
    go_loopg [14] q (fun g' iv wx => ∃ k : Nat, ∃ m : List UInt8, k + g' = q ∧ iv = .int .u64 (k : Int) ∧ rep rOut g' (m, 0) = R ∧ Cu wx g l m ∧ Mov g w wx)
    case atStart => exact ⟨0, m1, by omega, rfl, HR.out.symm, HC1.out, HM1.out⟩
    case round =>
      clear HC1 HM1 HR
      obtain ⟨k, m2, hk, rfl, hrep, hc, hm⟩ := hrel
      have HC : Hid (Cu wr g l m2) := hc
      have HM : Hid (Mov g w wr) := hm
      have HE : Hid (rep rOut gk (m2, 0) = R) := hrep
      clear hc hm hrep
      by_cases h0 : gk = 0
      · subst h0
        have hlt : ¬ ((k : Int) < (q : Int)) := by omega
        have hE : (m2, 0) = R := HE.out
        go_wp2
        go_end0
        rw [← hE]
        exact Got.ok rfl HM.out HC.out
      · obtain ⟨j, rfl⟩ : ∃ j, gk = j + 1 := ⟨gk - 1, by omega⟩
        have hlt : (k : Int) < (q : Int) := by omega
        have hp := HP.out wr m2 HC.out
        have HE2 : Hid (rep rOut j (rOut (m2, 0)) = R) := HE.out
        clear HE
        generalize rOut (m2, 0) = r at hp HE2
        obtain ⟨m3, c3⟩ := r
        by_cases hr : c3 = 0
        · subst hr
          have h3 := calls_ok hp rfl
          clear hp
          go_wp2_with (go_at_call 57; go_must (refine h3.mono ?_); rintro x w3 ⟨rfl, hc3, hm3⟩; have HC3 := (show Hid (Cu w3 g l m3) from hc3); have HM3 := (show Hid (Mov g wr w3) from hm3); clear hc3 hm3)
          go_roundg j
          case measure => omega
          case rel => exact ⟨k + 1, m3, by omega, by go_num, HE2.out, HC3.out, HM.out.trans HM3.out⟩
        · have h3 := calls_no hp hr
          have hR : R.2 = c3 := by rw [← HE2.out]; exact stick_rep stick_out j (m3, c3) hr
          clear hp
          go_wp2_with (go_at_call 57; go_must (refine h3.mono ?_); rintro x w3 ⟨rfl, hm3⟩)
          exact ⟨rfl, Got.no hR hr (HM.out.trans hm3)⟩
  · have h1 := calls_no hz hr
    have HE : Hid ((rep rOut q (m1, c1)).2 = c1) := stick_rep stick_out q (m1, c1) hr
    clear hz
    show Calls _ _ _ _ (Got g l w (.tuple #[]) (rep rOut q (m1, c1)))
    generalize rep rOut q (m1, c1) = r3 at HE
    go_enter Tryd.func55, Tryd.ntmps55
    go_wp2_with (go_at_call 84; go_must (refine h1.mono ?_); rintro x w1 ⟨rfl, hm1⟩)
    exact ⟨rfl, Got.no HE.out hr hm1⟩
end Go.Proofs.YtkmalggeieiepaaDoor
namespace Go.Proofs.YtkmalggeieiepaaDoor
open Go.RowKit

theorem rTx_of (m : List UInt8) : rTx (m, 0) = (rTake 4 (rOuts (rIns (rTake 4 (m, 0)).2))).2 := rfl
theorem stick_ins : Stick rIns := stick_reps stick_in 1 4
theorem stick_outs : Stick rOuts := stick_reps stick_out 1 4

set_option maxRecDepth 10000 in
set_option maxHeartbeats 2000000 in
theorem cuTx_any (g : Nat) (l m : List UInt8) (w : World) (h : Cu w g l m) (hl : l.length ≤ maxLen) :
    Calls Tryd.prog 26 #[.pointer (some ⟨g, 0, none⟩)] w (Got g l w (.string (ofL (m.take (m.length - (rTx (m, 0)).1.length)))) (rTx (m, 0))) := by
  have ht := cuTake_any g 4 l m w h hl
  have hle := rTx_le (m, 0)
  obtain ⟨a, ha, hma, d1⟩ := h.e
  obtain ⟨R, HR⟩ : ∃ R, Hid (R = rTx (m, 0)) := ⟨_, rfl⟩
  rw [← HR.out]
  rw [← HR.out] at hle
  have HR1 : Hid (R = (rTake 4 (rOuts (rIns (rTake 4 (m, 0)).2))).2) := by show _ = _; rw [HR.out]; rfl
  clear h HR
  generalize rTake 4 (m, 0) = p at ht HR1
  obtain ⟨t1, m1, c1⟩ := p
  by_cases hr : c1 = 0
  · subst hr
    have h1 := calls_ok ht rfl
    have hs : ∀ (W : World), Cu W g l m1 → Calls Tryd.prog 55 #[.pointer (some ⟨g, 0, none⟩), .int .u64 1, .int .u64 4, .func (.func 56) #[] #[]] W (Got g l W (.tuple #[]) (rIns (m1, 0))) := fun W hc => cuIns_any g l m1 W hc hl
    clear ht
    have HR2 : Hid (R = (rTake 4 (rOuts (rIns (m1, 0)))).2) := HR1.out
    clear HR1
    generalize rIns (m1, 0) = r at hs HR2
    obtain ⟨m2, c2⟩ := r
    by_cases hr : c2 = 0
    · subst hr
      have h2 := fun (W : World) (hc : Cu W g l m1) => calls_ok (hs W hc) rfl
      have hs2 : ∀ (W : World), Cu W g l m2 → Calls Tryd.prog 55 #[.pointer (some ⟨g, 0, none⟩), .int .u64 1, .int .u64 4, .func (.func 57) #[] #[]] W (Got g l W (.tuple #[]) (rOuts (m2, 0))) := fun W hc => cuOuts_any g l m2 W hc hl
      clear hs
      generalize rOuts (m2, 0) = r at hs2 HR2
      obtain ⟨m3, c3⟩ := r
      by_cases hr : c3 = 0
      · subst hr
        have h3 := fun (W : World) (hc : Cu W g l m2) => calls_ok (hs2 W hc) rfl
        have hs3 : ∀ (W : World), Cu W g l m3 → Calls Tryd.prog 54 #[.pointer (some ⟨g, 0, none⟩), .int .i64 4] W (Got g l W (.string (ofL (rTake 4 (m3, 0)).1)) (rTake 4 (m3, 0)).2) := fun W hc => cuTake_any g 4 l m3 W hc hl
        clear hs2
        generalize rTake 4 (m3, 0) = p at hs3 HR2
        obtain ⟨t4, m4, c4⟩ := p
        have hR : R = (m4, c4) := HR2.out
        clear HR2
        subst hR
        have hle' : m4.length ≤ m.length := hle
        clear hle
        by_cases hr : c4 = 0
        · subst hr
          have h4 := fun (W : World) (hc : Cu W g l m3) => calls_ok (hs3 W hc) rfl
          clear hs3
          go_enter Tryd.func26, Tryd.ntmps26
          go_upto_region 3 with (go_at_call 54; go_must (refine h1.mono ?_); rintro x w1 ⟨rfl, hc1, hm1⟩; have HC1 := (show Hid (Cu w1 g l m1) from hc1); have HM1 := (show Hid (Mov g w w1) from hm1); clear hc1 hm1)
          go_upto_region 4 with (go_at_call 55; go_must (refine (h2 _ HC1.out).mono ?_); rintro x w2 ⟨rfl, hc2, hm2⟩; have HC2 := (show Hid (Cu w2 g l m2) from hc2); have HM2 := (show Hid (Mov g w w2) from HM1.out.trans hm2); clear hc2 hm2)
          go_upto_region 5 with (go_at_call 55; go_must (refine (h3 _ HC2.out).mono ?_); rintro x w3 ⟨rfl, hc3, hm3⟩; have HC3 := (show Hid (Cu w3 g l m3) from hc3); have HM3 := (show Hid (Mov g w w3) from HM2.out.trans hm3); clear hc3 hm3)
          go_upto_region 6 with (go_at_call 54; go_must (refine (h4 _ HC3.out).mono ?_); rintro x w4 ⟨rfl, hc4, hm4⟩; have HC4 := (show Hid (Cu w4 g l m4) from hc4); have HM4 := (show Hid (Mov g w w4) from HM3.out.trans hm4); clear hc4 hm4)
          have e0 := HC4.out.s
          obtain ⟨b, hb, hmb, e1⟩ := HC4.out.e
          have hsz := ofL_size l
          have hml : m.length = l.length - a := by rw [hma]; simp
          have hm4 : m4.length = l.length - b := by rw [hmb]; simp
          have b1 : (a : Int) ≤ (b : Int) := by omega
          have b2 : (b : Int) ≤ (l.length : Int) := by omega
          have HX : Hid ((ofL l).extract a b = ofL (m.take (m.length - m4.length))) := by
            show _ = _
            rw [ofL_extract, hml, hm4, hma]; congr 2; omega
          clear h1 h2 h3 h4 HC1 HC2 HC3 HM1 HM2 HM3 hml hm4 hmb hma d1
          go_quiet (fail)
          go_wp2
          go_ret
          show Got g l w (.string (ofL (m.take (m.length - m4.length)))) (m4, 0) (Ending.returned (Value.string ((ofL l).extract a b))) _
          rw [HX.out]
          exact Got.ok rfl (HM4.out.drewN _) (HC4.out.drewN _)
        · have h4 := fun (W : World) (hc : Cu W g l m3) => calls_no (hs3 W hc) hr
          clear hs3 hma
          go_enter Tryd.func26, Tryd.ntmps26
          go_upto_region 3 with (go_at_call 54; go_must (refine h1.mono ?_); rintro x w1 ⟨rfl, hc1, hm1⟩; have HC1 := (show Hid (Cu w1 g l m1) from hc1); have HM1 := (show Hid (Mov g w w1) from hm1); clear hc1 hm1)
          go_upto_region 4 with (go_at_call 55; go_must (refine (h2 _ HC1.out).mono ?_); rintro x w2 ⟨rfl, hc2, hm2⟩; have HC2 := (show Hid (Cu w2 g l m2) from hc2); have HM2 := (show Hid (Mov g w w2) from HM1.out.trans hm2); clear hc2 hm2)
          go_upto_region 5 with (go_at_call 55; go_must (refine (h3 _ HC2.out).mono ?_); rintro x w3 ⟨rfl, hc3, hm3⟩; have HC3 := (show Hid (Cu w3 g l m3) from hc3); have HM3 := (show Hid (Mov g w w3) from HM2.out.trans hm3); clear hc3 hm3)
          go_wp2_with (go_at_call 54; go_must (refine (h4 _ HC3.out).mono ?_); rintro x w4 ⟨rfl, hm4⟩)
          exact ⟨rfl, Got.no rfl hr (HM3.out.trans hm4)⟩
      · have h3 := fun (W : World) (hc : Cu W g l m2) => calls_no (hs2 W hc) hr
        have HE : Hid (R.2 = c3) := by show _ = _; rw [HR2.out]; exact stick_take 4 (m3, c3) hr
        clear hs2 HR2 hma hle
        go_enter Tryd.func26, Tryd.ntmps26
        go_upto_region 3 with (go_at_call 54; go_must (refine h1.mono ?_); rintro x w1 ⟨rfl, hc1, hm1⟩; have HC1 := (show Hid (Cu w1 g l m1) from hc1); have HM1 := (show Hid (Mov g w w1) from hm1); clear hc1 hm1)
        go_upto_region 4 with (go_at_call 55; go_must (refine (h2 _ HC1.out).mono ?_); rintro x w2 ⟨rfl, hc2, hm2⟩; have HC2 := (show Hid (Cu w2 g l m2) from hc2); have HM2 := (show Hid (Mov g w w2) from HM1.out.trans hm2); clear hc2 hm2)
        go_wp2_with (go_at_call 55; go_must (refine (h3 _ HC2.out).mono ?_); rintro x w3 ⟨rfl, hm3⟩)
        exact ⟨rfl, Got.no HE.out hr (HM2.out.trans hm3)⟩
    · have h2 := fun (W : World) (hc : Cu W g l m1) => calls_no (hs W hc) hr
      have HE : Hid (R.2 = c2) := by show _ = _; rw [HR2.out]; exact (stick_outs.comp (stick_take 4)) (m2, c2) hr
      clear hs HR2 hma hle
      go_enter Tryd.func26, Tryd.ntmps26
      go_upto_region 3 with (go_at_call 54; go_must (refine h1.mono ?_); rintro x w1 ⟨rfl, hc1, hm1⟩; have HC1 := (show Hid (Cu w1 g l m1) from hc1); have HM1 := (show Hid (Mov g w w1) from hm1); clear hc1 hm1)
      go_wp2_with (go_at_call 55; go_must (refine (h2 _ HC1.out).mono ?_); rintro x w2 ⟨rfl, hm2⟩)
      exact ⟨rfl, Got.no HE.out hr (HM1.out.trans hm2)⟩
  · have h1 := calls_no ht hr
    have HE : Hid (R.2 = c1) := by show _ = _; rw [HR1.out]; exact ((stick_ins.comp stick_outs).comp (stick_take 4)) (m1, c1) hr
    clear ht HR1 hma hle
    go_enter Tryd.func26, Tryd.ntmps26
    go_wp2_with (go_at_call 54; go_must (refine h1.mono ?_); rintro x w1 ⟨rfl, hm1⟩)
    exact ⟨rfl, Got.no HE.out hr hm1⟩
end Go.Proofs.YtkmalggeieiepaaDoor
namespace Go.Proofs.YtkmalggeieiepaaDoor
open Go.RowKit

set_option maxRecDepth 10000 in
set_option maxHeartbeats 1000000 in
theorem sevB_any (g q : Nat) (lo hi : Int) (pb : Value) (w : World) (K : Nat → World → Prop) (Q : World → Prop) (E : Int) (hq : q ≤ 16)
    (h1 : Calls Tryd.prog 84 #[.pointer (some ⟨g, 0, none⟩), .int .u64 lo, .int .u64 hi] w fun x w' => x = .returned (.int .u64 (q : Int)) ∧ K q w')
    (HP : Hid (∀ j W, K (j + 1) W → (Calls Tryd.prog 87 #[.pointer (some ⟨g, 0, none⟩), pb] W fun x w' => x = .returned (.tuple #[]) ∧ K j w') ∨ (E ≠ 0 ∧ Calls Tryd.prog 87 #[.pointer (some ⟨g, 0, none⟩), pb] W fun x w' => x = .panicked [{ v := .iface 26 (.int .i64 E), recovered := false }] ∧ Q w'))) :
    Calls Tryd.prog 55 #[.pointer (some ⟨g, 0, none⟩), .int .u64 lo, .int .u64 hi, .func (.func 87) #[] #[pb]] w fun x w' => (x = .returned (.tuple #[]) ∧ K 0 w') ∨ (E ≠ 0 ∧ x = Errn E ∧ Q w') := by
  go_enter Tryd.func55, Tryd.ntmps55
  go_upto_region 1 with (go_at_call 84; go_must (refine h1.mono ?_); rintro x w1 ⟨rfl, hk1⟩; have HK1 := (show Hid (K q w1) from hk1); clear hk1)
  go_loopg [14] q (fun g' iv wx => ∃ k : Nat, k + g' = q ∧ iv = .int .u64 (k : Int) ∧ K g' wx)
  case atStart => exact ⟨0, by omega, rfl, HK1.out⟩
  case round =>
    clear HK1 h1
    obtain ⟨k, hk, rfl, hK⟩ := hrel
    have HK : Hid (K gk wr) := hK
    clear hK
    by_cases h0 : gk = 0
    · subst h0
      have hlt : ¬ ((k : Int) < (q : Int)) := by omega
      go_wp2
      go_end0
      exact .inl ⟨rfl, HK.out⟩
    · obtain ⟨j, rfl⟩ : ∃ j, gk = j + 1 := ⟨gk - 1, by omega⟩
      have hlt : (k : Int) < (q : Int) := by omega
      rcases HP.out j wr HK.out with h3 | ⟨hE, h3⟩
      · go_wp2_with (go_at_call 87; go_must (refine h3.mono ?_); rintro x w3 ⟨rfl, hk3⟩; have HK3 := (show Hid (K j w3) from hk3); clear hk3)
        go_roundg j
        case measure => omega
        case rel => exact ⟨k + 1, by omega, by go_num, HK3.out⟩
      · go_wp2_with (go_at_call 87; go_must (refine h3.mono ?_); rintro x w3 ⟨rfl, hq3⟩)
        exact ⟨rfl, .inr ⟨hE, rfl, hq3⟩⟩

set_option maxRecDepth 10000 in
set_option maxHeartbeats 1000000 in
theorem sevR_any (g q : Nat) (lo hi : Int) (pa pb : Value) (w : World) (K : Nat → World → Prop) (Q : World → Prop) (E : Int) (hq : q ≤ 16)
    (h1 : Calls Tryd.prog 84 #[.pointer (some ⟨g, 0, none⟩), .int .u64 lo, .int .u64 hi] w fun x w' => x = .returned (.int .u64 (q : Int)) ∧ K q w')
    (HP : Hid (∀ j W, K (j + 1) W → (Calls Tryd.prog 77 #[.pointer (some ⟨g, 0, none⟩), pa, pb] W fun x w' => x = .returned (.tuple #[]) ∧ K j w') ∨ (E ≠ 0 ∧ Calls Tryd.prog 77 #[.pointer (some ⟨g, 0, none⟩), pa, pb] W fun x w' => x = .panicked [{ v := .iface 26 (.int .i64 E), recovered := false }] ∧ Q w'))) :
    Calls Tryd.prog 55 #[.pointer (some ⟨g, 0, none⟩), .int .u64 lo, .int .u64 hi, .func (.func 77) #[] #[pa, pb]] w fun x w' => (x = .returned (.tuple #[]) ∧ K 0 w') ∨ (E ≠ 0 ∧ x = Errn E ∧ Q w') := by
  go_enter Tryd.func55, Tryd.ntmps55
  go_upto_region 1 with (go_at_call 84; go_must (refine h1.mono ?_); rintro x w1 ⟨rfl, hk1⟩; have HK1 := (show Hid (K q w1) from hk1); clear hk1)
  go_loopg [14] q (fun g' iv wx => ∃ k : Nat, k + g' = q ∧ iv = .int .u64 (k : Int) ∧ K g' wx)
  case atStart => exact ⟨0, by omega, rfl, HK1.out⟩
  case round =>
    clear HK1 h1
    obtain ⟨k, hk, rfl, hK⟩ := hrel
    have HK : Hid (K gk wr) := hK
    clear hK
    by_cases h0 : gk = 0
    · subst h0
      have hlt : ¬ ((k : Int) < (q : Int)) := by omega
      go_wp2
      go_end0
      exact .inl ⟨rfl, HK.out⟩
    · obtain ⟨j, rfl⟩ : ∃ j, gk = j + 1 := ⟨gk - 1, by omega⟩
      have hlt : (k : Int) < (q : Int) := by omega
      rcases HP.out j wr HK.out with h3 | ⟨hE, h3⟩
      · go_wp2_with (go_at_call 77; go_must (refine h3.mono ?_); rintro x w3 ⟨rfl, hk3⟩; have HK3 := (show Hid (K j w3) from hk3); clear hk3)
        go_roundg j
        case measure => omega
        case rel => exact ⟨k + 1, by omega, by go_num, HK3.out⟩
      · go_wp2_with (go_at_call 77; go_must (refine h3.mono ?_); rintro x w3 ⟨rfl, hq3⟩)
        exact ⟨rfl, .inr ⟨hE, rfl, hq3⟩⟩

end Go.Proofs.YtkmalggeieiepaaDoor
set_option linter.unusedSimpArgs false
namespace Go.Proofs.YtkmalggeieiepaaDoor
open Go.RowKit

theorem Cu.laterB {w w' : World} {g B : Nat} {l m : List UInt8} (h : Cu w g l m) (hb : Below B w w') (hg : g < B) : Cu w' g l m := by
  obtain ⟨a, h1, h2, h3⟩ := h.e
  exact ⟨by rw [hb.cell (p := ⟨g, 0, none⟩) hg]; exact h.s, ⟨a, h1, h2, by rw [hb.cell (p := ⟨g, 1, none⟩) hg]; exact h3⟩, by rw [hb.frozen (p := ⟨g, 1, none⟩) hg]; exact h.ef⟩
theorem Cu.mov {w w' : World} {g b : Nat} {l m : List UInt8} (h : Cu w g l m) (hm : Mov b w w') (hg : g ≠ b) : Cu w' g l m := by
  have hl := h.lt
  have hb := hm.block g hl hg
  obtain ⟨a, h1, h2, h3⟩ := h.e
  exact ⟨by rw [World.cell?_of_block hb]; exact h.s, ⟨a, h1, h2, by rw [World.cell?_of_block hb]; exact h3⟩, by rw [World.frozen?_of_block hb]; exact h.ef⟩

/-- as it was but for one block, and those from B on. -/
structure Mv (g B : Nat) (w w' : World) : Prop where
  os : w'.os = w.os
  tape : w'.tape = w.tape
  output : w'.output = w.output
  size : w.heap.size ≤ w'.heap.size
  block : ∀ k, k < B → k ≠ g → w'.heap[k]? = w.heap[k]?
theorem Mv.refl (g B : Nat) (w : World) : Mv g B w w := ⟨rfl, rfl, rfl, Nat.le_refl _, fun _ _ _ => rfl⟩
theorem Mv.mov {g B : Nat} {a b c : World} (h : Mv g B a b) (k : Mov g b c) (hB : B ≤ b.heap.size) : Mv g B a c :=
  ⟨k.os.trans h.os, k.tape.trans h.tape, k.output.trans h.output, Nat.le_trans h.size k.size, fun i hi hg => (k.block i (by omega) hg).trans (h.block i hi hg)⟩
theorem Mv.later {g B B' : Nat} {a b c : World} (h : Mv g B a b) (k : Below B' b c) (hB : B ≤ B') : Mv g B a c :=
  ⟨k.os.trans h.os, k.tape.trans h.tape, k.output.trans h.output, Nat.le_trans h.size k.size, fun i hi hg => (k.block i (by omega)).trans (h.block i hi hg)⟩
theorem Mv.set {g B b : Nat} {a w : World} (h : Mv g B a w) (i : Nat) (u : Value) (hb : B ≤ b) : Mv g B a (w.setCell ⟨b, i, none⟩ u) :=
  ⟨h.os, h.tape, h.output, by simpa using h.size, fun k hk hg => (Below.heap_setCell w ⟨b, i, none⟩ u k (by show k ≠ b; omega)).trans (h.block k hk hg)⟩
theorem Mv.drew {g B : Nat} {a w : World} (h : Mv g B a w) : Mv g B a w.drew := ⟨h.os, h.tape, h.output, h.size, h.block⟩
theorem Mv.below {g B : Nat} {a w : World} (h : Mv g B a w) {k : Nat} (hk : k ≤ g) (hB : g ≤ B) : Below k a w := ⟨h.os, h.tape, h.output, h.size, fun i hi => h.block i (by omega) (by omega)⟩
/-- transactions that are being read: the variable lies in block b, the reader in block g. -/
structure Bk (w0 W : World) (g b : Nat) (l m : List UInt8) (v : Value) (out : List (List UInt8)) : Prop where
  cu : Cu W g l m
  c1 : W.cell? ⟨b, 0, none⟩ = some v
  f1 : W.frozen? ⟨b, 0, none⟩ = false
  own : W.ownsRow (b + 1) 9 1 v out.length (strB out)
  gb : g < b
  bel : Mv g b w0 W
theorem Bk.mov {w0 W w' : World} {g b : Nat} {l m m' : List UInt8} {v : Value} {out : List (List UInt8)} (H : Bk w0 W g b l m v out) (hm : Mov g W w') (hc : Cu w' g l m') : Bk w0 w' g b l m' v out := by
  have hl : b < W.heap.size := World.block_lt_of_cell? W _ H.c1
  have hgb := H.gb
  have hb := hm.block b hl (by omega)
  exact ⟨hc, by rw [World.cell?_of_block hb]; exact H.c1, by rw [World.frozen?_of_block hb]; exact H.f1, own_mov H.own hm (by omega), H.gb, H.bel.mov hm (by omega)⟩

set_option maxRecDepth 10000 in
set_option maxHeartbeats 2000000 in
theorem blk1_any (w0 w : World) (g b : Nat) (l m : List UInt8) (v : Value) (out : List (List UInt8)) (H : Bk w0 w g b l m v out) (hl : l.length ≤ maxLen) (hn : out.length ≤ 16) :
    Calls Tryd.prog 87 #[.pointer (some ⟨g, 0, none⟩), .pointer (some ⟨b, 0, none⟩)] w fun x w' =>
      if (rTx (m, 0)).2 = 0 then x = .returned (.tuple #[]) ∧ ∃ v', Bk w0 w' g b l (rTx (m, 0)).1 v' (out ++ [txB (m, 0)]) else x = .panicked [{ v := .iface 26 (.int .i64 (rTx (m, 0)).2), recovered := false }] ∧ Mv g b w0 w' := by
  obtain ⟨i0, hi, hz0, hz1, hz2⟩ := info_parts infoStr
  have HD : Bk w0 w.drew g b l m v out := ⟨H.cu.drew, H.c1, H.f1, H.own, H.gb, H.bel.drew⟩
  have ht : Calls Tryd.prog 26 #[.pointer (some ⟨g, 0, none⟩)] w.drew (Got g l w.drew (.string (ofL (txB (m, 0)))) (rTx (m, 0))) := cuTx_any g l m w.drew HD.cu hl
  have hc1 := HD.c1
  have hgb := H.gb
  clear H
  generalize txB (m, 0) = tb at ht
  generalize rTx (m, 0) = r at ht
  obtain ⟨m1, c1⟩ := r
  go_enter Tryd.func87, Tryd.ntmps87
  refine q_frame (fun A HFR => ?_)
  have hsz : A.tmps.size = 8 := by rw [HFR.out]; rfl
  have h0 : A.eval (.tmp 0) = .pointer (some ⟨g, 0, none⟩) := by rw [HFR.out]; rfl
  have h1 : A.eval (.tmp 1) = .pointer (some ⟨b, 0, none⟩) := by rw [HFR.out]; rfl
  have hdf : A.defers = [] := by rw [HFR.out]
  refine wp_region_T (k := 5) (S := fun w' => w'.cell? ⟨b, 0, none⟩ = some v) (by kernel_rfl) hc1 (fun hS => ?_)
  refine wpAnyT_take (i := 0) (v := v) rfl (by kernel_rfl) (by kernel_rfl) (by kernel_rfl) (by kernel_rfl) (fun _ _ _ h => h) (Or.inl ⟨by rfl, fun W hW => q_run1 1 (.pointer (some ⟨b, 0, none⟩)) (by simp only [q_same, q_ne, q_sz, hsz, h0, h1, ne_eq, Nat.reduceEqDiff, not_false_eq_true, Nat.reduceLT]) (fun ρ hc _ e1 => by simp [go_sem, hc, e1, hW])⟩) hS ?_
  change wpAnyT _ _ _ _ _ _ _ _ (Act.put _ (some 3) _) _
  refine wpAnyT_take (i := 1) (v := (.pointer (some ⟨g, 0, none⟩))) rfl (by kernel_rfl) (by kernel_rfl) (by kernel_rfl) (by kernel_rfl) (fun _ _ _ h => h) (Or.inl ⟨by rfl, fun W _ => q_run1 0 (.pointer (some ⟨g, 0, none⟩)) (by simp only [q_same, q_ne, q_sz, hsz, h0, h1, ne_eq, Nat.reduceEqDiff, not_false_eq_true, Nat.reduceLT]) (fun ρ hc _ e1 => by simp [go_sem, hc, e1])⟩) hS ?_
  change wpAnyT _ _ _ _ _ _ _ _ (Act.put _ (some 4) _) _
  refine qT_call 2 26 #[.pointer (some ⟨g, 0, none⟩)] _ (by kernel_rfl) rfl rfl (q_run1 4 (.pointer (some ⟨g, 0, none⟩)) (by simp only [q_same, q_ne, q_sz, hsz, h0, h1, ne_eq, Nat.reduceEqDiff, not_false_eq_true, Nat.reduceLT]) (fun ρ _ hf e1 => by simp [go_sem, hf, e1])) ht ?_ ?_ ?_
  · intro u w1 hx
    obtain ⟨hm1, hx⟩ := hx
    by_cases hr : c1 = 0
    · subst hr
      rw [if_pos rfl] at hx
      obtain ⟨hv, hcu⟩ := hx
      injection hv with hv
      subst hv
      have H1 := HD.mov hm1 hcu
      refine ⟨fun _ => H1.c1, ?_⟩
      change wpAnyT _ _ _ _ _ _ _ _ (Act.put _ (some 5) _) _
      have hb1 : b < w1.heap.size := World.block_lt_of_cell? w1 _ H1.c1
      have HB2 : Below w1.heap.size w1 (w1.alloc (.cells #[.string (ofL tb)] 9)) := (Below.refl _ _).alloc (Nat.le_refl _) _
      have hS2 : (w1.alloc (.cells #[.string (ofL tb)] 9)).cell? ⟨b, 0, none⟩ = some v := by rw [HB2.cell (p := ⟨b, 0, none⟩) hb1]; exact H1.c1
      refine qT_one 3 (.slice (some ⟨w1.heap.size, 0, none⟩) 1 1) _ (by kernel_rfl) rfl rfl (q_run1 5 (.string (ofL tb)) (by simp only [q_same, q_ne, q_sz, hsz, h0, h1, ne_eq, Nat.reduceEqDiff, not_false_eq_true, Nat.reduceLT]) (fun ρ _ _ e1 => by simp [go_sem, e1])) (fun _ => hS2) ?_
      change wpAnyT _ _ _ _ _ _ _ _ (Act.put _ (some 6) _) _
      refine qT_step 4 (by kernel_rfl) rfl (fun K hK => ?_)
      refine step_append_lies _ rfl (.tmp 3) (.tmp 6) 30 rfl (b + 1) 9 i0 (.string ByteArray.empty) 1 16 Tryd.underlying30 hi hz0 hz1 hz2 rfl (by decide) v out.length (strB out) (by simp only [q_same, q_ne, q_sz, hsz, h0, h1, ne_eq, Nat.reduceEqDiff, not_false_eq_true, Nat.reduceLT]) (H1.own.alloc _) ⟨w1.heap.size, 0, none⟩ 1 1 [.string (ofL tb)] (by simp only [q_same, q_ne, q_sz, hsz, h0, h1, ne_eq, Nat.reduceEqDiff, not_false_eq_true, Nat.reduceLT]) rfl (one_new w1 _ _) (one_str _) (by omega) (by unfold maxLen; omega) (by omega) (by simp; omega) _ rfl ?_
      intro g4 c4 w4 ho hgr hat hlt4
      have HB4 : Below (b + 1) w1 w4 := ((Below.refl (b + 1) w1).alloc (by omega) _).grown hgr (by simp; omega) (ownBlock_ge H1.own)
      have hS4 : w4.cell? ⟨b, 0, none⟩ = some v := by rw [HB4.cell (p := ⟨b, 0, none⟩) (Nat.lt_succ_self _)]; exact H1.c1
      have hF4 : w4.frozen? ⟨b, 0, none⟩ = false := by rw [HB4.frozen (p := ⟨b, 0, none⟩) (Nat.lt_succ_self _)]; exact H1.f1
      refine hK.out _ _ (fun _ => hS4) ?_
      change wpAnyT _ _ _ _ _ _ _ _ (Act.put _ (some 7) _) _
      have hb4 : b < w4.heap.size := World.block_lt_of_cell? w4 _ hS4
      have HM5 : Mov b w4 (w4.setCell ⟨b, 0, none⟩ (.slice (some ⟨g4, 0, none⟩) (out.length + 1) c4)) := (Mov.refl b w4).set 0 _
      refine qT_skip 5 (w4.setCell ⟨b, 0, none⟩ (.slice (some ⟨g4, 0, none⟩) (out.length + 1) c4)) (by kernel_rfl) rfl rfl (q_run2 1 7 (.pointer (some ⟨b, 0, none⟩)) (.slice (some ⟨g4, 0, none⟩) (out.length + 1) c4) (by simp only [q_same, q_ne, q_sz, hsz, h0, h1, ne_eq, Nat.reduceEqDiff, not_false_eq_true, Nat.reduceLT]) (by simp only [q_same, q_ne, q_sz, hsz, h0, h1, ne_eq, Nat.reduceEqDiff, not_false_eq_true, Nat.reduceLT]) (fun ρ hc _ e1 e2 => by simp [go_sem, hc, e1, e2, hS4, hF4])) (fun h => absurd rfl h) ?_
      refine wpAnyT_done (by kernel_rfl) ?_ _
      refine q_done0 rfl (by simp only [q_def]; exact hdf) ?_
      rw [if_pos rfl]
      refine ⟨rfl, .slice (some ⟨g4, 0, none⟩) (out.length + 1) c4, ?_⟩
      have hl1 := H1.cu.lt
      refine ⟨(H1.cu.laterB HB4 (by omega)).mov HM5 (by omega), World.cell?_setCell_same _ _ _ hS4, ?_, ?_, hgb, ?_⟩
      · simp only [World.frozen?_setCell]; exact hF4
      · rw [List.length_append, strB_snoc]; exact own_mov ho HM5 (Nat.lt_succ_self _)
      · exact (H1.bel.later HB4 (by omega)).set 0 _ (Nat.le_refl _)
    · rw [if_neg hr] at hx; cases hx
  · intro ch w1 hx
    obtain ⟨hm1, hx⟩ := hx
    by_cases hr : c1 = 0
    · subst hr; rw [if_pos rfl] at hx; cases hx.1
    · rw [if_neg hr] at hx
      injection hx with hx
      subst hx
      refine q_panic (by simp only [q_def]; exact hdf) ?_
      rw [if_neg hr]
      exact ⟨rfl, HD.bel.mov hm1 (Nat.le_of_lt (World.block_lt_of_cell? _ _ HD.c1))⟩
  · intro w1 hx; exact hx.not_out.elim
end Go.Proofs.YtkmalggeieiepaaDoor
namespace Go.Proofs.YtkmalggeieiepaaDoor
open Go.RowKit

/-- it leaves by this error. -/
abbrev Pan (c : Int) : Ending := .panicked [{ v := .iface 26 (.int .i64 c), recovered := false }]
set_option maxRecDepth 10000 in
set_option maxHeartbeats 1000000 in
theorem sev_no (g : Nat) (lo hi : Int) (fv : Value) (w : World) (Q : World → Prop) (E : Int)
    (h1 : Calls Tryd.prog 84 #[.pointer (some ⟨g, 0, none⟩), .int .u64 lo, .int .u64 hi] w fun x w' => x = .panicked [{ v := .iface 26 (.int .i64 E), recovered := false }] ∧ Q w') :
    Calls Tryd.prog 55 #[.pointer (some ⟨g, 0, none⟩), .int .u64 lo, .int .u64 hi, fv] w fun x w' => x = .panicked [{ v := .iface 26 (.int .i64 E), recovered := false }] ∧ Q w' := by
  go_enter Tryd.func55, Tryd.ntmps55
  go_wp2_with (go_at_call 84; go_must (refine h1.mono ?_); rintro x w1 ⟨rfl, hq1⟩)
  exact ⟨rfl, rfl, hq1⟩

set_option maxRecDepth 10000 in
theorem sevBlk (w0 w : World) (g b : Nat) (l m : List UInt8) (v : Value) (H : Bk w0 w g b l m v []) (hl : l.length ≤ maxLen) :
    Calls Tryd.prog 55 #[.pointer (some ⟨g, 0, none⟩), .int .u64 1, .int .u64 16, .func (.func 87) #[] #[.pointer (some ⟨b, 0, none⟩)]] w fun x w' =>
      if (rTxs (rWithin 1 16 (m, 0)).1 (rWithin 1 16 (m, 0)).2).2.2 = 0 then x = .returned (.tuple #[]) ∧ ∃ v, Bk w0 w' g b l (rTxs (rWithin 1 16 (m, 0)).1 (rWithin 1 16 (m, 0)).2).2.1 v (rTxs (rWithin 1 16 (m, 0)).1 (rWithin 1 16 (m, 0)).2).1
      else x = Pan (rTxs (rWithin 1 16 (m, 0)).1 (rWithin 1 16 (m, 0)).2).2.2 ∧ Mv g b w0 w' := by
  have hz := cuSize_any g 1 16 l m w H.cu hl
  have hq : (rWithin 1 16 (m, 0)).1 ≤ 16 := rWithin_hi 1 16 (m, 0)
  have hgw := H.cu.lt
  generalize rWithin 1 16 (m, 0) = p at hz hq
  obtain ⟨q, m1, c1⟩ := p
  by_cases hr : c1 = 0
  · subst hr
    obtain ⟨R, hR⟩ : ∃ R, R = rTxs q (m1, 0) := ⟨_, rfl⟩
    have h1 := calls_ok hz rfl
    have hs := sevB_any g q 1 16 (.pointer (some ⟨b, 0, none⟩)) w
      (fun j W => ∃ m out v, Bk w0 W g b l m v out ∧ out.length + j ≤ 16 ∧ (out ++ (rTxs j (m, 0)).1, (rTxs j (m, 0)).2) = R) (fun W => Mv g b w0 W) R.2.2 hq
      (h1.mono fun x w' ⟨hx, hc, hm⟩ => ⟨hx, m1, [], v, H.mov hm hc, by simpa using hq, by rw [hR]; rfl⟩)
      (show Hid _ from fun j W hK => by
        obtain ⟨m2, out, v2, hB, hj, hE⟩ := hK
        have hb := blk1_any w0 W g b l m2 v2 out hB hl (by omega)
        have hE2 : (out ++ (txB (m2, 0) :: (rTxs j (rTx (m2, 0))).1), (rTxs j (rTx (m2, 0))).2) = R := by
          rw [← hE]; show _ = (out ++ (if (0 : Int) = 0 then _ else _ : List (List UInt8) × (List UInt8 × Int)).1, (if (0 : Int) = 0 then _ else _ : List (List UInt8) × (List UInt8 × Int)).2)
          rw [if_pos rfl]
        generalize txB (m2, 0) = tb at hb hE2
        generalize rTx (m2, 0) = r at hb hE2
        obtain ⟨m3, c3⟩ := r
        by_cases h3 : c3 = 0
        · subst h3
          refine .inl (hb.mono fun x w' hx => ?_)
          rw [if_pos rfl] at hx
          obtain ⟨hx, v3, hB3⟩ := hx
          exact ⟨hx, m3, out ++ [tb], v3, hB3, by simp; omega, by rw [← hE2]; simp⟩
        · have hRc : R.2.2 = c3 := by rw [← hE2, rTxs_bad j (m3, c3) h3]
          refine .inr ⟨by rw [hRc]; exact h3, hb.mono fun x w' hx => ?_⟩
          rw [if_neg h3] at hx
          rw [hRc]; exact hx)
    rw [← hR]
    refine hs.mono fun x w' hx => ?_
    rcases hx with ⟨hx, m2, out, v2, hB, _, hE⟩ | ⟨hE, hx, hb⟩
    · have e1 : R = (out, (m2, 0)) := by rw [← hE]; simp [rTxs]
      rw [e1, if_pos rfl]
      exact ⟨hx, v2, hB⟩
    · rw [if_neg hE]
      exact ⟨hx, hb⟩
  · have h1 := calls_no hz hr
    rw [rTxs_bad q (m1, c1) hr]
    refine (sev_no g 1 16 _ w (fun W => Mv g b w0 W) c1 (h1.mono fun x w' ⟨hx, hm⟩ => ⟨hx, H.bel.mov hm (Nat.le_of_lt (World.block_lt_of_cell? _ _ H.c1))⟩)).mono fun x w' hx => ?_
    rw [if_neg hr]
    exact hx

theorem header_any (g : Nat) (l m : List UInt8) (w : World) (h : Cu w g l m) (hl : l.length ≤ maxLen) :
    Calls Tryd.prog 63 #[.pointer (some ⟨g, 0, none⟩)] w (Got g l w (.string (ofL (rTake 80 (m, 0)).1)) (rTake 80 (m, 0)).2) := by
  have ht := cuTake_any g 80 l m w h hl
  clear h hl
  generalize rTake 80 (m, 0) = p at ht
  obtain ⟨t, r⟩ := p
  by_cases hr : r.2 = 0
  · have h1 := calls_ok ht hr
    clear ht
    go_enter Tryd.func63, Tryd.ntmps63
    go_wp2_with (go_at_call 54; go_must (refine h1.mono ?_); rintro x w1 ⟨rfl, hc1, hm1⟩)
    go_ret
    exact Got.ok hr hm1 hc1
  · have h1 := calls_no ht hr
    clear ht
    go_enter Tryd.func63, Tryd.ntmps63
    go_wp2_with (go_at_call 54; go_must (refine h1.mono ?_); rintro x w1 ⟨rfl, hm1⟩)
    exact ⟨rfl, Got.no rfl hr hm1⟩

/-- transactions, their number ahead. -/
def rTrs (m : List UInt8) : List (List UInt8) × (List UInt8 × Int) := rTxs (rWithin 1 16 (m, 0)).1 (rWithin 1 16 (m, 0)).2

set_option maxRecDepth 10000 in
set_option maxHeartbeats 2000000 in
theorem cuTrs_any (g : Nat) (l m : List UInt8) (w : World) (h : Cu w g l m) (hl : l.length ≤ maxLen) :
    Calls Tryd.prog 64 #[.pointer (some ⟨g, 0, none⟩)] w fun x w' =>
      if (rTrs m).2.2 = 0 then ∃ v, x = .returned v ∧ Cu w' g l (rTrs m).2.1 ∧ w'.ownsRow (w.heap.size + 1) 9 1 v (rTrs m).1.length (strB (rTrs m).1) ∧ Mv g w.heap.size w w'
      else x = Pan (rTrs m).2.2 ∧ Mv g w.heap.size w w' := by
  obtain ⟨W1, hW1⟩ : ∃ W, W = w.alloc (.cells #[.slice none 0 0] 30) := ⟨_, rfl⟩
  have hgw := h.lt
  have HB1 : Below w.heap.size w W1 := by rw [hW1]; exact (Below.refl _ _).alloc (Nat.le_refl _) _
  have c10 : W1.cell? ⟨w.heap.size, 0, none⟩ = some (.slice none 0 0) := by rw [hW1]; simp [go_sem]
  have f10 : W1.frozen? ⟨w.heap.size, 0, none⟩ = false := by rw [hW1]; simp [go_sem]
  have HBK : Bk w W1 g w.heap.size l m (.slice none 0 0) [] := ⟨h.later HB1, c10, f10, World.ownsRow_nil _ _ _ _, hgw, (Mv.refl _ _ _).later HB1 (Nat.le_refl _)⟩
  have hsv := sevBlk w W1 g w.heap.size l m (.slice none 0 0) HBK hl
  have hmf : ∀ (fn : Fn) (first cap : Array Value) (w : World), (Instr.makeFunc fn first cap).run Tryd.prog w = .ok (.func fn first cap) w := fun _ _ _ _ => rfl
  clear HBK c10 f10 HB1
  have HE : Hid (rTrs m = rTxs (rWithin 1 16 (m, 0)).1 (rWithin 1 16 (m, 0)).2) := rfl
  generalize rTrs m = M at HE
  generalize rTxs (rWithin 1 16 (m, 0)).1 (rWithin 1 16 (m, 0)).2 = R at hsv HE
  obtain ⟨T, m2, c2⟩ := R
  have hM : M = (T, m2, c2) := HE.out
  subst hM
  clear HE h
  by_cases hr2 : c2 = 0
  · subst hr2
    have h2 := hsv.mono (R' := fun x w' => x = .returned (.tuple #[]) ∧ ∃ v, Bk w w' g w.heap.size l m2 v T) (fun x w' hx => by rw [if_pos rfl] at hx; exact hx)
    clear hsv
    have hmain : Calls Tryd.prog 64 #[.pointer (some ⟨g, 0, none⟩)] w fun x w' => ∃ v, x = .returned v ∧ Cu w' g l m2 ∧ w'.ownsRow (w.heap.size + 1) 9 1 v T.length (strB T) ∧ Mv g w.heap.size w w' := by
      go_enter Tryd.func64, Tryd.ntmps64
      go_upto_region 2 with fail
      rw [← hW1]
      clear hW1
      go_upto_region 3 with (go_at_call 55; go_must (refine h2.mono ?_); rintro x w3 ⟨rfl, v, hB3⟩; have HB3 := (show Hid _ from hB3); clear hB3)
      have d1 := HB3.out.c1
      clear h2
      obtain ⟨va, vn, vc, rfl⟩ := own_slice HB3.out.own
      go_wp2
      go_ret
      exact ⟨.slice va vn vc, rfl, HB3.out.cu, HB3.out.own, HB3.out.bel⟩
    exact hmain.mono fun x w' hx => by rw [if_pos rfl]; exact hx
  · have h2 := hsv.mono (R' := fun x w' => x = .panicked [{ v := .iface 26 (.int .i64 c2), recovered := false }] ∧ Mv g w.heap.size w w') (fun x w' hx => by rw [if_neg hr2] at hx; exact hx)
    clear hsv
    have hmain : Calls Tryd.prog 64 #[.pointer (some ⟨g, 0, none⟩)] w fun x w' => x = Pan c2 ∧ Mv g w.heap.size w w' := by
      go_enter Tryd.func64, Tryd.ntmps64
      go_upto_region 2 with fail
      rw [← hW1]
      clear hW1
      go_wp2_with (go_at_call 55; go_must (refine h2.mono ?_); rintro x w3 ⟨rfl, hv3⟩)
      exact ⟨rfl, rfl, hv3⟩
    exact hmain.mono fun x w' hx => by rw [if_neg hr2]; exact hx

/-- a header, and transactions. -/
def rBlk (m : List UInt8) : List UInt8 × (List (List UInt8) × (List UInt8 × Int)) :=
  ((rTake 80 (m, 0)).1, rTxs (rWithin 1 16 (rTake 80 (m, 0)).2).1 (rWithin 1 16 (rTake 80 (m, 0)).2).2)
theorem rMsg_blk (m : List UInt8) : rMsg 80 m = ((rBlk m).1, ((rBlk m).2.1, (rDone (rBlk m).2.2).2)) := rfl
theorem within_bad (lo hi : Nat) (m : List UInt8) (c : Int) (h : c ≠ 0) : (rWithin lo hi (m, c)).2.2 = c := stick_within lo hi (m, c) h

set_option maxRecDepth 10000 in
set_option maxHeartbeats 2000000 in
theorem cuBlock_any (g : Nat) (l m : List UInt8) (w : World) (h : Cu w g l m) (hl : l.length ≤ maxLen) :
    Calls Tryd.prog 33 #[.pointer (some ⟨g, 0, none⟩)] w fun x w' =>
      if (rBlk m).2.2.2 = 0 then ∃ v, x = .returned (.agg #[.string (ofL (rBlk m).1), v]) ∧ Cu w' g l (rBlk m).2.2.1 ∧ w'.ownsRow w.heap.size 9 1 v (rBlk m).2.1.length (strB (rBlk m).2.1) ∧ Below g w w'
      else x = Pan (rBlk m).2.2.2 ∧ Below g w w' := by
  obtain ⟨W1, hW1⟩ : ∃ W, W = (w.alloc (.cells #[.string ⟨#[]⟩, .slice none 0 0] 65)).alloc (.cells #[.string ⟨#[]⟩, .slice none 0 0] 65) := ⟨_, rfl⟩
  have hgw := h.lt
  have HB1 : Hid (Below w.heap.size w W1) := by show Below _ _ _; rw [hW1]; exact ((Below.refl _ _).alloc (Nat.le_refl _) _).alloc (by simp) _
  have hz1 : W1.heap.size = w.heap.size + 2 := by rw [hW1]; simp
  have c10 : W1.cell? ⟨w.heap.size + 1, 0, none⟩ = some (.string ⟨#[]⟩) := by rw [hW1]; simp [go_sem]
  have c11 : W1.cell? ⟨w.heap.size + 1, 1, none⟩ = some (.slice none 0 0) := by rw [hW1]; simp [go_sem]
  have f10 : W1.frozen? ⟨w.heap.size + 1, 0, none⟩ = false := by rw [hW1]; simp [go_sem]
  have f11 : W1.frozen? ⟨w.heap.size + 1, 1, none⟩ = false := by rw [hW1]; simp [go_sem]
  have c00 : W1.cell? ⟨w.heap.size, 0, none⟩ = some (.string ⟨#[]⟩) := by rw [hW1]; simp [go_sem]
  have c01 : W1.cell? ⟨w.heap.size, 1, none⟩ = some (.slice none 0 0) := by rw [hW1]; simp [go_sem]
  have f00 : W1.frozen? ⟨w.heap.size, 0, none⟩ = false := by rw [hW1]; simp [go_sem]
  have f01 : W1.frozen? ⟨w.heap.size, 1, none⟩ = false := by rw [hW1]; simp [go_sem]
  have hh := header_any g l m W1 (h.later HB1.out) hl
  have HMV : Hid (∀ w2, Mov g W1 w2 → Below g w w2) := fun w2 hm => (HB1.out.mono (Nat.le_of_lt hgw)).trans (hm.below (Nat.le_refl _) (by omega))
  have HE : Hid (rBlk m = ((rTake 80 (m, 0)).1, rTxs (rWithin 1 16 (rTake 80 (m, 0)).2).1 (rWithin 1 16 (rTake 80 (m, 0)).2).2)) := rfl
  generalize rBlk m = M at HE
  clear h
  generalize rTake 80 (m, 0) = p at hh HE
  obtain ⟨t, m1, c1⟩ := p
  by_cases hr : c1 = 0
  · subst hr
    have h1 := calls_ok hh rfl
    clear hh
    -- behind the header's store
    have HS2 : Hid (∀ w2, Mov g W1 w2 → Cu w2 g l m1 → Cu (w2.setCell ⟨w.heap.size + 1, 0, none⟩ (.string (ofL t))) g l m1 ∧ w2.cell? ⟨w.heap.size + 1, 0, none⟩ = some (.string ⟨#[]⟩) ∧ w2.frozen? ⟨w.heap.size + 1, 0, none⟩ = false) := by
      intro w2 hm hc
      have hb := hm.block (w.heap.size + 1) (by omega) (by omega)
      exact ⟨hc.mov ((Mov.refl (w.heap.size + 1) w2).set 0 _) (by omega), by rw [World.cell?_of_block hb]; exact c10, by rw [World.frozen?_of_block hb]; exact f10⟩
    -- behind the transactions' reading
    have HRS : Hid (∀ w2 w3, Mov g W1 w2 → Mv g (w2.setCell ⟨w.heap.size + 1, 0, none⟩ (.string (ofL t))).heap.size (w2.setCell ⟨w.heap.size + 1, 0, none⟩ (.string (ofL t))) w3 → (w3.cell? ⟨w.heap.size, 0, none⟩ = some (.string ⟨#[]⟩) ∧ w3.cell? ⟨w.heap.size, 1, none⟩ = some (.slice none 0 0) ∧ w3.frozen? ⟨w.heap.size, 0, none⟩ = false ∧ w3.frozen? ⟨w.heap.size, 1, none⟩ = false) ∧ (w3.cell? ⟨w.heap.size + 1, 0, none⟩ = some (.string (ofL t)) ∧ w3.cell? ⟨w.heap.size + 1, 1, none⟩ = some (.slice none 0 0) ∧ w3.frozen? ⟨w.heap.size + 1, 0, none⟩ = false ∧ w3.frozen? ⟨w.heap.size + 1, 1, none⟩ = false) ∧ Below g w w3 ∧ w.heap.size + 2 ≤ w2.heap.size) := by
      intro w2 w3 hm hv
      have hsz2 := hm.size
      have hb0 := hm.block w.heap.size (by omega) (by omega)
      have hbn := hm.block (w.heap.size + 1) (by omega) (by omega)
      have hb1 : w3.heap[w.heap.size]? = W1.heap[w.heap.size]? := by
        rw [hv.block w.heap.size (by simp; omega) (by omega), ← hb0]
        exact Below.heap_setCell w2 ⟨w.heap.size + 1, 0, none⟩ _ w.heap.size (by simp)
      have hb2 : w3.heap[w.heap.size + 1]? = (w2.setCell ⟨w.heap.size + 1, 0, none⟩ (.string (ofL t))).heap[w.heap.size + 1]? := hv.block (w.heap.size + 1) (by simp; omega) (by omega)
      have k0 : w2.cell? ⟨w.heap.size + 1, 0, none⟩ = some (.string ⟨#[]⟩) := by rw [World.cell?_of_block hbn]; exact c10
      have hs : Below g w2 (w2.setCell ⟨w.heap.size + 1, 0, none⟩ (.string (ofL t))) := ((Mov.refl (w.heap.size + 1) w2).set 0 _).below (by omega) (by omega)
      refine ⟨⟨by rw [World.cell?_of_block hb1]; exact c00, by rw [World.cell?_of_block hb1]; exact c01, by rw [World.frozen?_of_block hb1]; exact f00, by rw [World.frozen?_of_block hb1]; exact f01⟩, ⟨?_, ?_, ?_, ?_⟩, (HMV.out w2 hm).trans (hs.trans (hv.below (Nat.le_refl _) (by simp; omega))), by omega⟩
      · rw [World.cell?_of_block hb2]; exact World.cell?_setCell_same _ _ _ k0
      · rw [World.cell?_of_block hb2, World.cell?_setCell_other _ _ _ _ (by simp), World.cell?_of_block hbn]; exact c11
      · rw [World.frozen?_of_block hb2]; simp only [World.frozen?_setCell]; rw [World.frozen?_of_block hbn]; exact f10
      · rw [World.frozen?_of_block hb2]; simp only [World.frozen?_setCell]; rw [World.frozen?_of_block hbn]; exact f11
    have hsv := fun (w2 : World) (hc : Cu (w2.setCell ⟨w.heap.size + 1, 0, none⟩ (.string (ofL t))) g l m1) => cuTrs_any g l m1 _ hc hl
    have HE2 : Hid (M = (t, rTrs m1)) := HE.out
    clear HE c10 c11 f10 f11 c00 c01 f00 f01
    generalize rTrs m1 = R at hsv HE2
    obtain ⟨T, m2, c2⟩ := R
    have hM : M = (t, T, m2, c2) := HE2.out
    subst hM
    clear HE2
    by_cases hr2 : c2 = 0
    · subst hr2
      have h2 := fun (w2 : World) (hc : Cu (w2.setCell ⟨w.heap.size + 1, 0, none⟩ (.string (ofL t))) g l m1) => (hsv w2 hc).mono (R' := fun x w' => ∃ v, x = .returned v ∧ Cu w' g l m2 ∧ w'.ownsRow ((w2.setCell ⟨w.heap.size + 1, 0, none⟩ (.string (ofL t))).heap.size + 1) 9 1 v T.length (strB T) ∧ Mv g (w2.setCell ⟨w.heap.size + 1, 0, none⟩ (.string (ofL t))).heap.size (w2.setCell ⟨w.heap.size + 1, 0, none⟩ (.string (ofL t))) w') (fun x w' hx => by rw [if_pos rfl] at hx; exact hx)
      clear hsv
      have hmain : Calls Tryd.prog 33 #[.pointer (some ⟨g, 0, none⟩)] w fun x w' => ∃ v, x = .returned (.agg #[.string (ofL t), v]) ∧ Cu w' g l m2 ∧ w'.ownsRow w.heap.size 9 1 v T.length (strB T) ∧ Below g w w' := by
       go_enter Tryd.func33, Tryd.ntmps33
       go_upto_region 2 with fail
       rw [← hW1]
       clear hW1
       go_upto_region 3 with (go_at_call 63; go_must (refine h1.mono ?_); rintro x w1 ⟨rfl, hc1, hm1⟩; obtain ⟨hB1, k0, kf⟩ := HS2.out _ hm1 hc1; have HB2 := (show Hid _ from hB1); have HM1 := (show Hid (Mov g W1 w1) from hm1); clear hc1 hm1 hB1)
       clear HS2 k0 kf
       go_upto_region 4 with (go_at_call 64; go_must (refine (h2 _ HB2.out).mono ?_); rintro x w3 ⟨v, rfl, hc3, ho3, hv3⟩; obtain ⟨va, vn, vc, rfl⟩ := own_slice ho3; obtain ⟨⟨r0, r1, r2, r3⟩, ⟨s0, s1, s2, s3⟩, hbel, hge⟩ := HRS.out _ w3 HM1.out hv3; have HC3 := (show Hid _ from hc3); have HO3 := (show Hid _ from ho3); have HBL := (show Hid (Below g w w3) from hbel); have HGE := (show Hid _ from hge); clear hc3 ho3 hv3 hbel hge)
       clear HB2 HM1 HRS h1 h2
       go_wp2
       have hgl := HC3.out.lt
       have hM1 : Mov (w.heap.size + 1) w3 (w3.setCell ⟨w.heap.size + 1, 1, none⟩ (.slice va vn vc)) := (Mov.refl _ _).set 1 _
       have hM : Mov w.heap.size (w3.setCell ⟨w.heap.size + 1, 1, none⟩ (.slice va vn vc)) (((w3.setCell ⟨w.heap.size + 1, 1, none⟩ (.slice va vn vc)).setCell ⟨w.heap.size, 0, none⟩ (.string (ofL t))).setCell ⟨w.heap.size, 1, none⟩ (.slice va vn vc)) := ((Mov.refl _ _).set 0 _).set 1 _
       have hge := HGE.out
       refine bodyPost_ret (results_mid Tryd.results33 _ _ w.heap.size [.string (ofL t), .slice va vn vc] _ rfl (range2 ?_ ?_) Tryd.underlying65 rfl (by kernel_rfl)) rfl ⟨.slice va vn vc, rfl, (HC3.out.mov hM1 (by omega)).mov hM (by omega), own_base (own_mov (own_mov HO3.out hM1 (by simp; omega)) hM (by simp; omega)) (by simp; omega), HBL.out.trans ((hM1.below (by omega) (by omega)).trans (hM.below (by omega) (by simp; omega)))⟩
       · rw [World.cell?_setCell_other _ _ _ _ (by simp)]; exact World.cell?_setCell_same _ _ _ (by rw [World.cell?_setCell_other _ _ _ _ (by simp)]; exact r0)
       · exact World.cell?_setCell_same _ _ _ (by rw [World.cell?_setCell_other _ _ _ _ (by simp), World.cell?_setCell_other _ _ _ _ (by simp)]; exact r1)
      exact hmain.mono fun x w' hx => by rw [if_pos rfl]; exact hx
    · have h2 := fun (w2 : World) (hc : Cu (w2.setCell ⟨w.heap.size + 1, 0, none⟩ (.string (ofL t))) g l m1) => (hsv w2 hc).mono (R' := fun x w' => x = .panicked [{ v := .iface 26 (.int .i64 c2), recovered := false }] ∧ Mv g (w2.setCell ⟨w.heap.size + 1, 0, none⟩ (.string (ofL t))).heap.size (w2.setCell ⟨w.heap.size + 1, 0, none⟩ (.string (ofL t))) w') (fun x w' hx => by rw [if_neg hr2] at hx; exact hx)
      clear hsv
      have hmain : Calls Tryd.prog 33 #[.pointer (some ⟨g, 0, none⟩)] w fun x w' => x = Pan c2 ∧ Below g w w' := by
       go_enter Tryd.func33, Tryd.ntmps33
       go_upto_region 2 with fail
       rw [← hW1]
       clear hW1
       go_upto_region 3 with (go_at_call 63; go_must (refine h1.mono ?_); rintro x w1 ⟨rfl, hc1, hm1⟩; obtain ⟨hB1, k0, kf⟩ := HS2.out _ hm1 hc1; have HB2 := (show Hid _ from hB1); have HM1 := (show Hid (Mov g W1 w1) from hm1); clear hc1 hm1 hB1)
       clear HS2 k0 kf
       go_wp2_with (go_at_call 64; go_must (refine (h2 _ HB2.out).mono ?_); rintro x w3 ⟨rfl, hv3⟩)
       exact ⟨rfl, rfl, (HRS.out _ w3 HM1.out hv3).2.2.1⟩
      exact hmain.mono fun x w' hx => by rw [if_neg hr2]; exact hx
  · have h1 := calls_no hh hr
    have hM : M.2.2.2 = c1 := by rw [HE.out]; show (rTxs (rWithin 1 16 (m1, c1)).1 (rWithin 1 16 (m1, c1)).2).2.2 = c1; rw [rTxs_bad _ _ (by rw [within_bad 1 16 m1 c1 hr]; exact hr), within_bad 1 16 m1 c1 hr]
    rw [hM]
    clear hh HE hM c10 c11 f10 f11 c00 c01 f00 f01
    have hmain : Calls Tryd.prog 33 #[.pointer (some ⟨g, 0, none⟩)] w fun x w' => x = Pan c1 ∧ Below g w w' := by
      go_enter Tryd.func33, Tryd.ntmps33
      go_upto_region 2 with fail
      rw [← hW1]
      clear hW1
      go_wp2_with (go_at_call 63; go_must (refine h1.mono ?_); rintro x w1 ⟨rfl, hm1⟩)
      exact ⟨rfl, rfl, HMV.out _ hm1⟩
    exact hmain.mono fun x w' hx => by rw [if_neg hr]; exact hx
end Go.Proofs.YtkmalggeieiepaaDoor
