import Derived.Test.YtkmalggeieiepaaDoorCuD
import Derived.WalkKit
import Derived.WalkSpells
import Derived.WalkLawsBesides
import Derived.Deep.DeepCutAuto
import Derived.Deep.QuietTactic
import Derived.BigQuiet
namespace Go.Proofs.YtkmalggeieiepaaDoor
open Go.RowKit

theorem rTx_of (m : List UInt8) : rTx (m, 0) = (rTake 4 (rOuts (rIns (rTake 4 (m, 0)).2))).2 := rfl
theorem stick_ins : Stick rIns := stick_reps stick_in 1 4
theorem stick_outs : Stick rOuts := stick_reps stick_out 1 4

set_option maxRecDepth 10000 in
set_option maxHeartbeats 2000000 in
theorem cuTx_any (g : Nat) (l m : List UInt8) (w : World) (h : Cu w g l m) (hl : l.length ≤ maxLen) :
    Calls Tryd.prog 26 #[.pointer (some ⟨g, 0, none⟩)] w (Got g l w (.string (ofL (m.take (m.length - (rTx (m, 0)).1.length)))) (rTx (m, 0))) := by
  have ht := cuTake_any g 4 l m w h hl
  have hle := rTx_le (m, 0)
  obtain ⟨a, ha, hma, d1⟩ := h.e
  obtain ⟨R, HR⟩ : ∃ R, Hid (R = rTx (m, 0)) := ⟨_, rfl⟩
  rw [← HR.out]
  rw [← HR.out] at hle
  have HR1 : Hid (R = (rTake 4 (rOuts (rIns (rTake 4 (m, 0)).2))).2) := by show _ = _; rw [HR.out]; rfl
  clear h HR
  generalize rTake 4 (m, 0) = p at ht HR1
  obtain ⟨t1, m1, c1⟩ := p
  by_cases hr : c1 = 0
  · subst hr
    have h1 := calls_ok ht rfl
    have hs : ∀ (W : World), Cu W g l m1 → Calls Tryd.prog 55 #[.pointer (some ⟨g, 0, none⟩), .int .u64 1, .int .u64 4, .func (.func 56) #[] #[]] W (Got g l W (.tuple #[]) (rIns (m1, 0))) := fun W hc => cuIns_any g l m1 W hc hl
    clear ht
    have HR2 : Hid (R = (rTake 4 (rOuts (rIns (m1, 0)))).2) := HR1.out
    clear HR1
    generalize rIns (m1, 0) = r at hs HR2
    obtain ⟨m2, c2⟩ := r
    by_cases hr : c2 = 0
    · subst hr
      have h2 := fun (W : World) (hc : Cu W g l m1) => calls_ok (hs W hc) rfl
      have hs2 : ∀ (W : World), Cu W g l m2 → Calls Tryd.prog 55 #[.pointer (some ⟨g, 0, none⟩), .int .u64 1, .int .u64 4, .func (.func 57) #[] #[]] W (Got g l W (.tuple #[]) (rOuts (m2, 0))) := fun W hc => cuOuts_any g l m2 W hc hl
      clear hs
      generalize rOuts (m2, 0) = r at hs2 HR2
      obtain ⟨m3, c3⟩ := r
      by_cases hr : c3 = 0
      · subst hr
        have h3 := fun (W : World) (hc : Cu W g l m2) => calls_ok (hs2 W hc) rfl
        have hs3 : ∀ (W : World), Cu W g l m3 → Calls Tryd.prog 54 #[.pointer (some ⟨g, 0, none⟩), .int .i64 4] W (Got g l W (.string (ofL (rTake 4 (m3, 0)).1)) (rTake 4 (m3, 0)).2) := fun W hc => cuTake_any g 4 l m3 W hc hl
        clear hs2
        generalize rTake 4 (m3, 0) = p at hs3 HR2
        obtain ⟨t4, m4, c4⟩ := p
        have hR : R = (m4, c4) := HR2.out
        clear HR2
        subst hR
        have hle' : m4.length ≤ m.length := hle
        clear hle
        by_cases hr : c4 = 0
        · subst hr
          have h4 := fun (W : World) (hc : Cu W g l m3) => calls_ok (hs3 W hc) rfl
          clear hs3
          go_enter Tryd.func26, Tryd.ntmps26
          go_upto_region 3 with (go_at_call 54; go_must (refine h1.mono ?_); rintro x w1 ⟨rfl, hc1, hm1⟩; have HC1 := (show Hid (Cu w1 g l m1) from hc1); have HM1 := (show Hid (Mov g w w1) from hm1); clear hc1 hm1)
          go_upto_region 4 with (go_at_call 55; go_must (refine (h2 _ HC1.out).mono ?_); rintro x w2 ⟨rfl, hc2, hm2⟩; have HC2 := (show Hid (Cu w2 g l m2) from hc2); have HM2 := (show Hid (Mov g w w2) from HM1.out.trans hm2); clear hc2 hm2)
          go_upto_region 5 with (go_at_call 55; go_must (refine (h3 _ HC2.out).mono ?_); rintro x w3 ⟨rfl, hc3, hm3⟩; have HC3 := (show Hid (Cu w3 g l m3) from hc3); have HM3 := (show Hid (Mov g w w3) from HM2.out.trans hm3); clear hc3 hm3)
          go_upto_region 6 with (go_at_call 54; go_must (refine (h4 _ HC3.out).mono ?_); rintro x w4 ⟨rfl, hc4, hm4⟩; have HC4 := (show Hid (Cu w4 g l m4) from hc4); have HM4 := (show Hid (Mov g w w4) from HM3.out.trans hm4); clear hc4 hm4)
          have e0 := HC4.out.s
          obtain ⟨b, hb, hmb, e1⟩ := HC4.out.e
          have hsz := ofL_size l
          have hml : m.length = l.length - a := by rw [hma]; simp
          have hm4 : m4.length = l.length - b := by rw [hmb]; simp
          have b1 : (a : Int) ≤ (b : Int) := by omega
          have b2 : (b : Int) ≤ (l.length : Int) := by omega
          have HX : Hid ((ofL l).extract a b = ofL (m.take (m.length - m4.length))) := by
            show _ = _
            rw [ofL_extract, hml, hm4, hma]; congr 2; omega
          clear h1 h2 h3 h4 HC1 HC2 HC3 HM1 HM2 HM3 hml hm4 hmb hma d1
          go_quiet (fail)
          go_wp2
          go_ret
          show Got g l w (.string (ofL (m.take (m.length - m4.length)))) (m4, 0) (Ending.returned (Value.string ((ofL l).extract a b))) _
          rw [HX.out]
          exact Got.ok rfl (HM4.out.drewN _) (HC4.out.drewN _)
        · have h4 := fun (W : World) (hc : Cu W g l m3) => calls_no (hs3 W hc) hr
          clear hs3 hma
          go_enter Tryd.func26, Tryd.ntmps26
          go_upto_region 3 with (go_at_call 54; go_must (refine h1.mono ?_); rintro x w1 ⟨rfl, hc1, hm1⟩; have HC1 := (show Hid (Cu w1 g l m1) from hc1); have HM1 := (show Hid (Mov g w w1) from hm1); clear hc1 hm1)
          go_upto_region 4 with (go_at_call 55; go_must (refine (h2 _ HC1.out).mono ?_); rintro x w2 ⟨rfl, hc2, hm2⟩; have HC2 := (show Hid (Cu w2 g l m2) from hc2); have HM2 := (show Hid (Mov g w w2) from HM1.out.trans hm2); clear hc2 hm2)
          go_upto_region 5 with (go_at_call 55; go_must (refine (h3 _ HC2.out).mono ?_); rintro x w3 ⟨rfl, hc3, hm3⟩; have HC3 := (show Hid (Cu w3 g l m3) from hc3); have HM3 := (show Hid (Mov g w w3) from HM2.out.trans hm3); clear hc3 hm3)
          go_wp2_with (go_at_call 54; go_must (refine (h4 _ HC3.out).mono ?_); rintro x w4 ⟨rfl, hm4⟩)
          exact ⟨rfl, Got.no rfl hr (HM3.out.trans hm4)⟩
      · have h3 := fun (W : World) (hc : Cu W g l m2) => calls_no (hs2 W hc) hr
        have HE : Hid (R.2 = c3) := by show _ = _; rw [HR2.out]; exact stick_take 4 (m3, c3) hr
        clear hs2 HR2 hma hle
        go_enter Tryd.func26, Tryd.ntmps26
        go_upto_region 3 with (go_at_call 54; go_must (refine h1.mono ?_); rintro x w1 ⟨rfl, hc1, hm1⟩; have HC1 := (show Hid (Cu w1 g l m1) from hc1); have HM1 := (show Hid (Mov g w w1) from hm1); clear hc1 hm1)
        go_upto_region 4 with (go_at_call 55; go_must (refine (h2 _ HC1.out).mono ?_); rintro x w2 ⟨rfl, hc2, hm2⟩; have HC2 := (show Hid (Cu w2 g l m2) from hc2); have HM2 := (show Hid (Mov g w w2) from HM1.out.trans hm2); clear hc2 hm2)
        go_wp2_with (go_at_call 55; go_must (refine (h3 _ HC2.out).mono ?_); rintro x w3 ⟨rfl, hm3⟩)
        exact ⟨rfl, Got.no HE.out hr (HM2.out.trans hm3)⟩
    · have h2 := fun (W : World) (hc : Cu W g l m1) => calls_no (hs W hc) hr
      have HE : Hid (R.2 = c2) := by show _ = _; rw [HR2.out]; exact (stick_outs.comp (stick_take 4)) (m2, c2) hr
      clear hs HR2 hma hle
      go_enter Tryd.func26, Tryd.ntmps26
      go_upto_region 3 with (go_at_call 54; go_must (refine h1.mono ?_); rintro x w1 ⟨rfl, hc1, hm1⟩; have HC1 := (show Hid (Cu w1 g l m1) from hc1); have HM1 := (show Hid (Mov g w w1) from hm1); clear hc1 hm1)
      go_wp2_with (go_at_call 55; go_must (refine (h2 _ HC1.out).mono ?_); rintro x w2 ⟨rfl, hm2⟩)
      exact ⟨rfl, Got.no HE.out hr (HM1.out.trans hm2)⟩
  · have h1 := calls_no ht hr
    have HE : Hid (R.2 = c1) := by show _ = _; rw [HR1.out]; exact ((stick_ins.comp stick_outs).comp (stick_take 4)) (m1, c1) hr
    clear ht HR1 hma hle
    go_enter Tryd.func26, Tryd.ntmps26
    go_wp2_with (go_at_call 54; go_must (refine h1.mono ?_); rintro x w1 ⟨rfl, hm1⟩)
    exact ⟨rfl, Got.no HE.out hr hm1⟩
end Go.Proofs.YtkmalggeieiepaaDoor
