import Derived.Test.YtkmalggeieiepaaDoorCuC
import Derived.WalkKit
import Derived.WalkSpells
import Derived.WalkLawsBesides
import Derived.Deep.DeepCutAuto
import Derived.Deep.LoopGhost
import Derived.Deep.QuietTactic
import Derived.BigQuiet
namespace Go.Proofs.YtkmalggeieiepaaDoor
open Go.RowKit

theorem rIn_of (m : List UInt8) : rIn (m, 0) = (rTake 4 (rScript (rTake 36 (m, 0)).2)).2 := rfl
theorem rOut_of (m : List UInt8) : rOut (m, 0) = rScript (rTake 8 (m, 0)).2 := rfl

set_option maxRecDepth 10000 in
set_option maxHeartbeats 1000000 in
theorem cuIn_any (g : Nat) (l m : List UInt8) (w : World) (h : Cu w g l m) (hl : l.length ≤ maxLen) :
    Calls Tryd.prog 56 #[.pointer (some ⟨g, 0, none⟩)] w (Got g l w (.tuple #[]) (rIn (m, 0))) := by
  have ht := cuTake_any g 36 l m w h hl
  rw [rIn_of]
  clear h
  generalize rTake 36 (m, 0) = p at ht
  obtain ⟨t1, m1, c1⟩ := p
  by_cases hr : c1 = 0
  · subst hr
    have h1 := calls_ok ht rfl
    have hs := fun (W : World) (hc : Cu W g l m1) => cuScript_any g l m1 W hc hl
    clear ht
    show Calls _ _ _ _ (Got g l w (.tuple #[]) (rTake 4 (rScript (m1, 0))).2)
    generalize rScript (m1, 0) = r at hs
    obtain ⟨m2, c2⟩ := r
    by_cases hr : c2 = 0
    · subst hr
      have h2 := fun (W : World) (hc : Cu W g l m1) => calls_ok (hs W hc) rfl
      have hq := fun (W : World) (hc : Cu W g l m2) => cuTake_any g 4 l m2 W hc hl
      clear hs hl
      generalize rTake 4 (m2, 0) = p at hq
      obtain ⟨t3, r3⟩ := p
      by_cases hr : r3.2 = 0
      · have h3 := fun (W : World) (hc : Cu W g l m2) => calls_ok (hq W hc) hr
        clear hq
        go_enter Tryd.func56, Tryd.ntmps56
        go_upto_region 1 with (go_at_call 54; go_must (refine h1.mono ?_); rintro x w1 ⟨rfl, hc1, hm1⟩; have HC1 := (show Hid (Cu w1 g l m1) from hc1); have HM1 := (show Hid (Mov g w w1) from hm1); clear hc1 hm1)
        go_upto_region 2 with (go_at_call 85; go_must (refine (h2 _ HC1.out).mono ?_); rintro x w2 ⟨rfl, hc2, hm2⟩; have HC2 := (show Hid (Cu w2 g l m2) from hc2); have HM2 := (show Hid (Mov g w1 w2) from hm2); clear hc2 hm2)
        go_wp2_with (go_at_call 54; go_must (refine (h3 _ HC2.out).mono ?_); rintro x w3 ⟨rfl, hc3, hm3⟩)
        go_end0
        exact Got.ok hr (HM1.out.trans (HM2.out.trans hm3)) hc3
      · have h3 := fun (W : World) (hc : Cu W g l m2) => calls_no (hq W hc) hr
        clear hq
        go_enter Tryd.func56, Tryd.ntmps56
        go_upto_region 1 with (go_at_call 54; go_must (refine h1.mono ?_); rintro x w1 ⟨rfl, hc1, hm1⟩; have HC1 := (show Hid (Cu w1 g l m1) from hc1); have HM1 := (show Hid (Mov g w w1) from hm1); clear hc1 hm1)
        go_upto_region 2 with (go_at_call 85; go_must (refine (h2 _ HC1.out).mono ?_); rintro x w2 ⟨rfl, hc2, hm2⟩; have HC2 := (show Hid (Cu w2 g l m2) from hc2); have HM2 := (show Hid (Mov g w1 w2) from hm2); clear hc2 hm2)
        go_wp2_with (go_at_call 54; go_must (refine (h3 _ HC2.out).mono ?_); rintro x w3 ⟨rfl, hm3⟩)
        exact ⟨rfl, Got.no rfl hr (HM1.out.trans (HM2.out.trans hm3))⟩
    · have h2 := fun (W : World) (hc : Cu W g l m1) => calls_no (hs W hc) hr
      have HE : Hid ((rTake 4 (m2, c2)).2.2 = c2) := stick_take 4 (m2, c2) hr
      clear hs hl
      generalize (rTake 4 (m2, c2)).2 = r3 at HE
      go_enter Tryd.func56, Tryd.ntmps56
      go_upto_region 1 with (go_at_call 54; go_must (refine h1.mono ?_); rintro x w1 ⟨rfl, hc1, hm1⟩; have HC1 := (show Hid (Cu w1 g l m1) from hc1); have HM1 := (show Hid (Mov g w w1) from hm1); clear hc1 hm1)
      go_wp2_with (go_at_call 85; go_must (refine (h2 _ HC1.out).mono ?_); rintro x w2 ⟨rfl, hm2⟩)
      exact ⟨rfl, Got.no HE.out hr (HM1.out.trans hm2)⟩
  · have h1 := calls_no ht hr
    have HE : Hid ((rTake 4 (rScript (m1, c1))).2.2 = c1) := ((stick_script.comp (stick_take 4)) (m1, c1) hr : _)
    clear ht hl
    show Calls _ _ _ _ (Got g l w (.tuple #[]) (rTake 4 (rScript (m1, c1))).2)
    generalize (rTake 4 (rScript (m1, c1))).2 = r3 at HE
    go_enter Tryd.func56, Tryd.ntmps56
    go_wp2_with (go_at_call 54; go_must (refine h1.mono ?_); rintro x w1 ⟨rfl, hm1⟩)
    exact ⟨rfl, Got.no HE.out hr hm1⟩

set_option maxRecDepth 10000 in
set_option maxHeartbeats 1000000 in
theorem cuOut_any (g : Nat) (l m : List UInt8) (w : World) (h : Cu w g l m) (hl : l.length ≤ maxLen) :
    Calls Tryd.prog 57 #[.pointer (some ⟨g, 0, none⟩)] w (Got g l w (.tuple #[]) (rOut (m, 0))) := by
  have ht := cuTake_any g 8 l m w h hl
  rw [rOut_of]
  clear h
  generalize rTake 8 (m, 0) = p at ht
  obtain ⟨t1, m1, c1⟩ := p
  by_cases hr : c1 = 0
  · subst hr
    have h1 := calls_ok ht rfl
    have hs := fun (W : World) (hc : Cu W g l m1) => cuScript_any g l m1 W hc hl
    clear ht hl
    show Calls _ _ _ _ (Got g l w (.tuple #[]) (rScript (m1, 0)))
    generalize rScript (m1, 0) = r at hs
    by_cases hr : r.2 = 0
    · have h2 := fun (W : World) (hc : Cu W g l m1) => calls_ok (hs W hc) hr
      clear hs
      go_enter Tryd.func57, Tryd.ntmps57
      go_upto_region 1 with (go_at_call 54; go_must (refine h1.mono ?_); rintro x w1 ⟨rfl, hc1, hm1⟩; have HC1 := (show Hid (Cu w1 g l m1) from hc1); have HM1 := (show Hid (Mov g w w1) from hm1); clear hc1 hm1)
      go_wp2_with (go_at_call 85; go_must (refine (h2 _ HC1.out).mono ?_); rintro x w2 ⟨rfl, hc2, hm2⟩)
      go_end0
      exact Got.ok hr (HM1.out.trans hm2) hc2
    · have h2 := fun (W : World) (hc : Cu W g l m1) => calls_no (hs W hc) hr
      clear hs
      go_enter Tryd.func57, Tryd.ntmps57
      go_upto_region 1 with (go_at_call 54; go_must (refine h1.mono ?_); rintro x w1 ⟨rfl, hc1, hm1⟩; have HC1 := (show Hid (Cu w1 g l m1) from hc1); have HM1 := (show Hid (Mov g w w1) from hm1); clear hc1 hm1)
      go_wp2_with (go_at_call 85; go_must (refine (h2 _ HC1.out).mono ?_); rintro x w2 ⟨rfl, hm2⟩)
      exact ⟨rfl, Got.no rfl hr (HM1.out.trans hm2)⟩
  · have h1 := calls_no ht hr
    have HE : Hid ((rScript (m1, c1)).2 = c1) := stick_script (m1, c1) hr
    clear ht hl
    show Calls _ _ _ _ (Got g l w (.tuple #[]) (rScript (m1, c1)))
    generalize rScript (m1, c1) = r3 at HE
    go_enter Tryd.func57, Tryd.ntmps57
    go_wp2_with (go_at_call 54; go_must (refine h1.mono ?_); rintro x w1 ⟨rfl, hm1⟩)
    exact ⟨rfl, Got.no HE.out hr hm1⟩

set_option maxRecDepth 10000 in
set_option maxHeartbeats 1000000 in
theorem cuIns_any (g : Nat) (l m : List UInt8) (w : World) (h : Cu w g l m) (hl : l.length ≤ maxLen) :
    Calls Tryd.prog 55 #[.pointer (some ⟨g, 0, none⟩), .int .u64 1, .int .u64 4, .func (.func 56) #[] #[]] w (Got g l w (.tuple #[]) (rep rIn (rWithin 1 4 (m, 0)).1 (rWithin 1 4 (m, 0)).2)) := by
  have hz := cuSize_any g 1 4 l m w h hl
  have hq := rWithin_hi 1 4 (m, 0)
  have HP : Hid (∀ (W : World) (m : List UInt8), Cu W g l m → Calls Tryd.prog 56 #[.pointer (some ⟨g, 0, none⟩)] W (Got g l W (.tuple #[]) (rIn (m, 0)))) := fun W m hc => cuIn_any g l m W hc hl
  clear h hl
  generalize rWithin 1 4 (m, 0) = p at hz hq
  obtain ⟨q, m1, c1⟩ := p
  have hq' : q ≤ 4 := hq
  clear hq
  by_cases hr : c1 = 0
  · subst hr
    have h1 := calls_ok hz rfl
    clear hz
    show Calls _ _ _ _ (Got g l w (.tuple #[]) (rep rIn q (m1, 0)))
    obtain ⟨R, HR⟩ : ∃ R, Hid (R = rep rIn q (m1, 0)) := ⟨_, rfl⟩
    rw [← HR.out]
    go_enter Tryd.func55, Tryd.ntmps55
    go_upto_region 1 with (go_at_call 84; go_must (refine h1.mono ?_); rintro x w1 ⟨rfl, hc1, hm1⟩; have HC1 := (show Hid (Cu w1 g l m1) from hc1); have HM1 := (show Hid (Mov g w w1) from hm1); clear hc1 hm1)
    go_loopg [14] q (fun g' iv wx => ∃ k : Nat, ∃ m : List UInt8, k + g' = q ∧ iv = .int .u64 (k : Int) ∧ rep rIn g' (m, 0) = R ∧ Cu wx g l m ∧ Mov g w wx)
    case atStart => exact ⟨0, m1, by omega, rfl, HR.out.symm, HC1.out, HM1.out⟩
    case round =>
      clear HC1 HM1 HR
      obtain ⟨k, m2, hk, rfl, hrep, hc, hm⟩ := hrel
      have HC : Hid (Cu wr g l m2) := hc
      have HM : Hid (Mov g w wr) := hm
      have HE : Hid (rep rIn gk (m2, 0) = R) := hrep
      clear hc hm hrep
      by_cases h0 : gk = 0
      · subst h0
        have hlt : ¬ ((k : Int) < (q : Int)) := by omega
        have hE : (m2, 0) = R := HE.out
        go_wp2
        go_end0
        rw [← hE]
        exact Got.ok rfl HM.out HC.out
      · obtain ⟨j, rfl⟩ : ∃ j, gk = j + 1 := ⟨gk - 1, by omega⟩
        have hlt : (k : Int) < (q : Int) := by omega
        have hp := HP.out wr m2 HC.out
        have HE2 : Hid (rep rIn j (rIn (m2, 0)) = R) := HE.out
        clear HE
        generalize rIn (m2, 0) = r at hp HE2
        obtain ⟨m3, c3⟩ := r
        by_cases hr : c3 = 0
        · subst hr
          have h3 := calls_ok hp rfl
          clear hp
          go_wp2_with (go_at_call 56; go_must (refine h3.mono ?_); rintro x w3 ⟨rfl, hc3, hm3⟩; have HC3 := (show Hid (Cu w3 g l m3) from hc3); have HM3 := (show Hid (Mov g wr w3) from hm3); clear hc3 hm3)
          go_roundg j
          case measure => omega
          case rel => exact ⟨k + 1, m3, by omega, by go_num, HE2.out, HC3.out, HM.out.trans HM3.out⟩
        · have h3 := calls_no hp hr
          have hR : R.2 = c3 := by rw [← HE2.out]; exact stick_rep stick_in j (m3, c3) hr
          clear hp
          go_wp2_with (go_at_call 56; go_must (refine h3.mono ?_); rintro x w3 ⟨rfl, hm3⟩)
          exact ⟨rfl, Got.no hR hr (HM.out.trans hm3)⟩
  · have h1 := calls_no hz hr
    have HE : Hid ((rep rIn q (m1, c1)).2 = c1) := stick_rep stick_in q (m1, c1) hr
    clear hz
    show Calls _ _ _ _ (Got g l w (.tuple #[]) (rep rIn q (m1, c1)))
    generalize rep rIn q (m1, c1) = r3 at HE
    go_enter Tryd.func55, Tryd.ntmps55
    go_wp2_with (go_at_call 84; go_must (refine h1.mono ?_); rintro x w1 ⟨rfl, hm1⟩)
    exact ⟨rfl, Got.no HE.out hr hm1⟩

set_option maxRecDepth 10000 in
set_option maxHeartbeats 1000000 in
theorem cuOuts_any (g : Nat) (l m : List UInt8) (w : World) (h : Cu w g l m) (hl : l.length ≤ maxLen) :
    Calls Tryd.prog 55 #[.pointer (some ⟨g, 0, none⟩), .int .u64 1, .int .u64 4, .func (.func 57) #[] #[]] w (Got g l w (.tuple #[]) (rep rOut (rWithin 1 4 (m, 0)).1 (rWithin 1 4 (m, 0)).2)) := by
  have hz := cuSize_any g 1 4 l m w h hl
  have hq := rWithin_hi 1 4 (m, 0)
  have HP : Hid (∀ (W : World) (m : List UInt8), Cu W g l m → Calls Tryd.prog 57 #[.pointer (some ⟨g, 0, none⟩)] W (Got g l W (.tuple #[]) (rOut (m, 0)))) := fun W m hc => cuOut_any g l m W hc hl
  clear h hl
  generalize rWithin 1 4 (m, 0) = p at hz hq
  obtain ⟨q, m1, c1⟩ := p
  have hq' : q ≤ 4 := hq
  clear hq
  by_cases hr : c1 = 0
  · subst hr
    have h1 := calls_ok hz rfl
    clear hz
    show Calls _ _ _ _ (Got g l w (.tuple #[]) (rep rOut q (m1, 0)))
    obtain ⟨R, HR⟩ : ∃ R, Hid (R = rep rOut q (m1, 0)) := ⟨_, rfl⟩
    rw [← HR.out]
    go_enter Tryd.func55, Tryd.ntmps55
    go_upto_region 1 with (go_at_call 84; go_must (refine h1.mono ?_); rintro x w1 ⟨rfl, hc1, hm1⟩; have HC1 := (show Hid (Cu w1 g l m1) from hc1); have HM1 := (show Hid (Mov g w w1) from hm1); clear hc1 hm1)
    go_loopg [14] q (fun g' iv wx => ∃ k : Nat, ∃ m : List UInt8, k + g' = q ∧ iv = .int .u64 (k : Int) ∧ rep rOut g' (m, 0) = R ∧ Cu wx g l m ∧ Mov g w wx)
    case atStart => exact ⟨0, m1, by omega, rfl, HR.out.symm, HC1.out, HM1.out⟩
    case round =>
      clear HC1 HM1 HR
      obtain ⟨k, m2, hk, rfl, hrep, hc, hm⟩ := hrel
      have HC : Hid (Cu wr g l m2) := hc
      have HM : Hid (Mov g w wr) := hm
      have HE : Hid (rep rOut gk (m2, 0) = R) := hrep
      clear hc hm hrep
      by_cases h0 : gk = 0
      · subst h0
        have hlt : ¬ ((k : Int) < (q : Int)) := by omega
        have hE : (m2, 0) = R := HE.out
        go_wp2
        go_end0
        rw [← hE]
        exact Got.ok rfl HM.out HC.out
      · obtain ⟨j, rfl⟩ : ∃ j, gk = j + 1 := ⟨gk - 1, by omega⟩
        have hlt : (k : Int) < (q : Int) := by omega
        have hp := HP.out wr m2 HC.out
        have HE2 : Hid (rep rOut j (rOut (m2, 0)) = R) := HE.out
        clear HE
        generalize rOut (m2, 0) = r at hp HE2
        obtain ⟨m3, c3⟩ := r
        by_cases hr : c3 = 0
        · subst hr
          have h3 := calls_ok hp rfl
          clear hp
          go_wp2_with (go_at_call 57; go_must (refine h3.mono ?_); rintro x w3 ⟨rfl, hc3, hm3⟩; have HC3 := (show Hid (Cu w3 g l m3) from hc3); have HM3 := (show Hid (Mov g wr w3) from hm3); clear hc3 hm3)
          go_roundg j
          case measure => omega
          case rel => exact ⟨k + 1, m3, by omega, by go_num, HE2.out, HC3.out, HM.out.trans HM3.out⟩
        · have h3 := calls_no hp hr
          have hR : R.2 = c3 := by rw [← HE2.out]; exact stick_rep stick_out j (m3, c3) hr
          clear hp
          go_wp2_with (go_at_call 57; go_must (refine h3.mono ?_); rintro x w3 ⟨rfl, hm3⟩)
          exact ⟨rfl, Got.no hR hr (HM.out.trans hm3)⟩
  · have h1 := calls_no hz hr
    have HE : Hid ((rep rOut q (m1, c1)).2 = c1) := stick_rep stick_out q (m1, c1) hr
    clear hz
    show Calls _ _ _ _ (Got g l w (.tuple #[]) (rep rOut q (m1, c1)))
    generalize rep rOut q (m1, c1) = r3 at HE
    go_enter Tryd.func55, Tryd.ntmps55
    go_wp2_with (go_at_call 84; go_must (refine h1.mono ?_); rintro x w1 ⟨rfl, hm1⟩)
    exact ⟨rfl, Got.no HE.out hr hm1⟩
end Go.Proofs.YtkmalggeieiepaaDoor
