import Derived.Test.YtkmalggeieiepaaDoorRows
import Derived.Test.YtkmalggeieiepaaDoorTie
import Derived.Test.YtkmalggeieiepaaDoorCards
import Derived.Test.YtkmalggeieiepaaDoorRefI
import Derived.Test.YtkmalggeieiepaaDoorRtsA
import Derived.SliceStrings
import Derived.Carry
import Derived.WalkKit
import Derived.WalkSpells
import Derived.WalkLawsBesides
import Derived.ProofKit
import Derived.OpenShut
import Derived.ShutString
import Derived.LaidMore
import Derived.Lib.LaidTab
import Derived.ChangeOld
import Derived.Below
import Derived.SevenTiedAt
namespace Go.Proofs.YtkmalggeieiepaaDoor
open Go.ChangeShapes Go.WideShapes Go.ChangeAt Go.RowKit
open Go.ChangeMaps (open_string shut_string)
set_option linter.unusedVariables false

theorem laidOutY : laidOutB Tryd.prog = true := by kernel_rfl
theorem cellsStr : Tryd.prog.cellsOf 9 = 1 := by kernel_rfl
theorem ownSY : ownKnob Tryd.prog.godebug = none := by kernel_rfl
theorem gWordsY : Tryd.prog.globalNamed "compact/hashes.roundWords" = some 0 := by kernel_rfl
theorem tWordsY : (Tryd.prog.globals[0]?).map (·.type) = some 134 := by kernel_rfl
theorem door_metY (os : Os) (args : Array Value) : laidMetH Tryd.prog Rows.rootsRow.laid ((World.doorLaid Tryd.prog 400 os).forCall (fun _ _ => 0) ⟨#[], args, []⟩).memory :=
  laidMetH_of_parts3 (fuel := 8) (laidMet_of_run' 8 (by kernel_rfl) (by kernel_rfl)) (by kernel_rfl) (by kernel_rfl)
theorem kt_ofY {W : World} (h : laidMetH Tryd.prog Rows.rootsRow.laid W) : KT kcR W := by
  rw [MakeChecks.laidMetH_plain _ _ _ (by kernel_rfl)] at h
  have h2 : laidMet Tryd.prog (("compact/hashes.roundWords", Lib.tabData .u32 wordsK) :: []) W := h
  have hT := Lib.tabIs_of_head gWordsY tWordsY Tryd.underlying134 Tryd.underlying94 (by kernel_rfl) (by kernel_rfl) h2
  exact fun i hi => hT.cell gWordsY i hi

set_option maxRecDepth 100000 in
theorem roots_lifted (os : Os) (started : os.Started) (H : Type) (enc : TypeId × Value → H) :
    ReturnsInHanded {} Tryd.checked os 5 .any (fun w args => (Rows.rootsSpec.pre enc Tryd.prog Tryd.f5 [] false w args ∧ laidMetH Tryd.prog Rows.rootsRow.laid w) ∧ sizedMet enc Tryd.prog Tryd.f5 (OpenSpec.ofChange Rows.rootsSpec) false w args)
      (Rows.rootsSpec.post enc Tryd.prog Tryd.f5 false true false false) := by
  refine returnsInHanded_of_change_and (C := Tryd.checked) (X := fun w _ => laidMetH Tryd.prog Rows.rootsRow.laid w) (fun _ _ _ hh h => h.of_heap hh) ownSY started (by kernel_rfl) Tryd.func5
    (ChangeSpec.witness_shaped (enc := enc) (C := Tryd.checked) (os := os) (X := fun w _ => laidMetH Tryd.prog Rows.rootsRow.laid w) false (World.doorLaid Tryd.prog 400 os) #[.slice none 0 0] 8 rfl (World.shaped_of_RefB (by kernel_rfl) (by kernel_rfl)) (by kernel_rfl) (by kernel_rfl) (by kernel_rfl) (door_metY os _)) ?_
  intro W base args ds gs before hval0 hW _ _ hL _
  have hval : ∀ (j : Nat) t v, Tryd.f5.params[j]? = some t → args[j]? = some v → Value.okWide Tryd.prog W .any base t v := hval0
  have hW' := hW
  obtain ⟨p, q, hA0, hV, rfl, hfz, hnd⟩ := hW
  have hA : DataW.TrodAll enc Tryd.prog W 0 (fun _ => true) true Tryd.f5.params.toList args.toList ds p := hA0
  rw [Tryd.params5] at hA hval
  obtain ⟨v0, vs0, d0, ds0, p0, q0, hargs, rfl, rfl, h0, r0⟩ := trodAll_cons hA
  obtain ⟨rfl, rfl, rfl⟩ := trodAll_nil r0
  obtain rfl : args = #[v0] := by cases args; simp_all
  obtain ⟨rfl, rfl⟩ := trodVars_none hV
  obtain ⟨a0, len, cap, rfl⟩ := okWide_slice Tryd.underlying30 (hval 0 30 v0 rfl rfl)
  have h0k := h0
  obtain ⟨fuel, hf⟩ := h0
  have hkt := kt_ofY hL
  clear hA0 hval0
  simp only [List.append_nil] at hW'
  have hlt : ∀ x ∈ p0, x.block < W.heap.size := fun x hx => by simpa using hW'.lt x (by simpa using hx)
  have fin : ∀ e W', (e = Ending.returned (.bool true) ∧ Below W.heap.size W W') → ∃ v, e = Ending.returned v ∧ Rows.rootsSpec.post enc Tryd.checked.prog Tryd.f5 false true false false W #[.slice a0 len cap] v W' := fun e W' ⟨he, bel⟩ => by
    subst he
    exact ⟨_, rfl, _, _, _, [], _, [], hW', trodAll_mk1 (shut_bool Tryd.underlying4 _), (trodAll_mk1 (Below.trod laidOutY (by kernel_rfl) (of_decide_eq_true (by kernel_rfl)) h0k bel hlt)), rfl, bel.frame _, fun h => by cases h⟩
  by_cases hbig : 300 < len
  · exact (roots_great a0 len cap W hbig).mono fin
  · by_cases hz : len = 0
    · subst hz
      exact (roots_nil a0 cap W).mono fin
    · rcases open_strings Tryd.underlying30 Tryd.underlying9 cellsStr hf with ⟨hcs, _⟩ | ⟨a, len', cap', ss, hcs, _, hl, _, hz2, _, hcell, _⟩
      · injection hcs with hcs
        injection hcs with _ h2
        exact absurd h2 hz
      · injection hcs with hcs
        injection hcs with e1 e2 e3
        subst e1 e2 e3
        have hsl : len ≤ ss.length := by rw [hz2]; split <;> omega
        obtain ⟨b, o, sp⟩ := a
        have hc0 := hcell 0 (by omega)
        have hsp : sp = none := by
          cases sp with
          | none => rfl
          | some x =>
            exfalso
            have : (⟨b, o, some x⟩ : Addr).add 0 = ⟨b, o, some x⟩ := rfl
            rw [this] at hc0
            unfold World.cell? at hc0
            split at hc0
            · simp at hc0
            · cases hc0
        subst hsp
        have hlen : (ss.take len).length = len := by rw [List.length_take]; omega
        have hrow : SRow W b o (ss.take len) := fun j hj => by
          have hj' : j < len := by rw [hlen] at hj; exact hj
          have := hcell j (by omega)
          rw [Addr.add_mid] at this
          rw [this, List.getElem_take]
          congr 2
          rw [List.getD, List.getElem?_eq_getElem (by omega)]
          rfl
        have hw := roots_some (ss.take len) b o cap W hrow (by rw [hlen]; omega) (by rw [hlen]; omega) hkt
        rw [hlen] at hw
        exact hw.mono fin

theorem roots_holds : Rows.RootsSaid :=
  OpenClaim.holds_of_wide 5 Tryd.f5 rfl rfl rfl rfl rfl rfl rfl ⟨rfl, rfl, rfl, rfl, rfl⟩ rfl rfl rfl rfl rfl (by kernel_rfl) Tryd.func5 (by kernel_rfl)
    (of_decide_eq_true (by kernel_rfl)) (by unfold Func.isWrapper; first | (rw [if_pos (by decide +kernel)]; kernel_rfl) | (rw [if_neg (by decide +kernel)]; exact ⟨rfl, rfl⟩))
    (fun os started H enc _ => roots_lifted os started H enc)

set_option maxRecDepth 100000 in
theorem roots_card : Rows.RootsCardSaid :=
  Claim7.holds_tied_plain_at .later [] [.data] true _ _
    roots_holds (fun _ h => by cases h) (by kernel_rfl) (fun _ h => by cases h) roots_row_tie rfl ⟨rfl, rfl⟩ (by kernel_rfl) rfl
    (fun f fn hf hfn => by
      obtain rfl : f = 5 := Option.some.inj ((show Tryd.prog.funcNamed "compact/compactlaw.Roots" = some 5 by kernel_rfl).symm.trans hf) |>.symm
      obtain rfl : fn = Tryd.f5 := (Option.some.inj (Tryd.func5.symm.trans hfn)).symm
      exact ⟨by kernel_rfl, fun j t ht => by
        rw [Tryd.params5] at ht
        match j, ht with
        | 0, ht => cases ht; first | rfl | kernel_rfl | decide
        | n + 1, ht => simp at ht⟩)
    (by kernel_rfl)
#print axioms roots_card
end Go.Proofs.YtkmalggeieiepaaDoor
