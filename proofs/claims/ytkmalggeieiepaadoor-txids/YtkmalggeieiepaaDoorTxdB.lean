import Derived.Test.YtkmalggeieiepaaDoorRows
import Derived.Test.YtkmalggeieiepaaDoorTie
import Derived.Test.YtkmalggeieiepaaDoorCards
import Derived.Test.YtkmalggeieiepaaDoorRefI
import Derived.Test.YtkmalggeieiepaaDoorTwA
import Derived.Test.YtkmalggeieiepaaDoorTxdA
import Derived.WalkKit
import Derived.WalkSpells
import Derived.WalkLawsBesides
import Derived.ProofKit
import Derived.OpenShut
import Derived.ShutString
import Derived.LaidMore
import Derived.Lib.LaidTab
import Derived.ChangeOld
import Derived.Below
import Derived.SevenTiedAt
namespace Go.Proofs.YtkmalggeieiepaaDoor
open Go.ChangeShapes Go.WideShapes Go.ChangeAt Go.RowKit
open Go.ChangeMaps (open_string shut_string)
set_option linter.unusedVariables false

set_option maxHeartbeats 1000000 in
theorem txids_walk (s : ByteArray) (w : World) (hm : s.size ≤ maxLen) (hkt : KT kcR w) (hpos : 0 < w.heap.size) :
    Calls Tryd.prog 4 #[.string s] w fun e w' => e = .returned (.bool true) ∧ Below w.heap.size w w' := by
  have h1 := txid_any kcR s w hkt hm
  have H2 : Hid (∀ W, Calls Tryd.prog 12 #[.string s] W fun x w' => x = .returned (.int .i64 (txErr s.data.toList)) ∧ Below W.heap.size W w') := fun W => Tx_any s W hm
  by_cases h0 : txErr s.data.toList = 0
  · have hlen := txErr_len _ h0
    have hsz : s.size ≤ 1048576 := by have : s.data.toList.length = s.size := rfl; omega
    have e1 : txid kcR s = strOf (dbl kcR s.data.toList) 32 := by simp [txid, h0]
    have HR : Hid (∀ (gt : Nat) (W : World), HasTab W gt → Calls Tryd.prog 13 #[.pointer (some ⟨gt, 0, none⟩), .string s] W fun e w' => e = .returned (.string (strOf (dbl kcR s.data.toList) 32)) ∧ Below W.heap.size W w') := fun gt W h =>
      twice_of gt (fun t => strOf (shaF kcR t.data.toList) 32) (fun t => by rw [strOf_size]; omega) s W hsz (fun t V ht hV => refSum_any gt t V (h.later hV) ht)
    rw [h0, e1] at h1
    rw [h0] at H2
    clear hlen hsz e1 hkt hpos h0 hm
    generalize strOf (dbl kcR s.data.toList) 32 = t1 at h1 HR
    go_enter Tryd.func4, Tryd.ntmps4
    go_wp2_with (first
      | (go_at_call 11; go_must (refine h1.mono ?_); rintro e w1 ⟨rfl, hb1⟩; have HB1 : Hid (Below w.heap.size w w1) := hb1; clear hb1)
      | (go_at_call 12; go_must (refine (H2.out _).mono ?_); rintro e w2 ⟨rfl, hb2⟩; have HB2 := (show Hid (Below w.heap.size w w2) from HB1.out.trans (hb2.mono HB1.out.size)); clear hb2)
      | (go_at_call 9; go_must (refine (newTables_has _).mono ?_); rintro e w3 ⟨rfl, ht3, hb3⟩; have HT3 := (show Hid (HasTab w3 _) from ht3); have HB3 := (show Hid (Below w.heap.size w w3) from HB2.out.trans (hb3.mono HB2.out.size)); clear ht3 hb3)
      | (go_at_call 13; go_must (refine (HR.out _ _ HT3.out).mono ?_); rintro e w4 ⟨rfl, hb4⟩; have HB4 := (show Hid (Below w.heap.size w w4) from HB3.out.trans (hb4.mono HB3.out.size)); clear hb4))
    go_ret
    exact ⟨by simp, HB4.out⟩
  · have e1 : txid kcR s = ByteArray.empty := by simp [txid, h0]
    rw [e1] at h1
    clear hkt hpos hm e1
    generalize txErr s.data.toList = c at h0 h1 H2
    go_enter Tryd.func4, Tryd.ntmps4
    go_wp2_with (first
      | (go_at_call 11; go_must (refine h1.mono ?_); rintro e w1 ⟨rfl, hb1⟩; have HB1 : Hid (Below w.heap.size w w1) := hb1; clear hb1)
      | (go_at_call 12; go_must (refine (H2.out _).mono ?_); rintro e w2 ⟨rfl, hb2⟩; have HB2 := (show Hid (Below w.heap.size w w2) from HB1.out.trans (hb2.mono HB1.out.size)); clear hb2))
    go_ret
    exact ⟨by simp, HB2.out⟩

theorem ownSX : ownKnob Tryd.prog.godebug = none := by kernel_rfl
theorem gWordsX : Tryd.prog.globalNamed "compact/hashes.roundWords" = some 0 := by kernel_rfl
theorem tWordsX : (Tryd.prog.globals[0]?).map (·.type) = some 134 := by kernel_rfl
theorem door_metX (os : Os) (args : Array Value) : laidMetH Tryd.prog Rows.txidsRow.laid ((World.doorLaid Tryd.prog 400 os).forCall (fun _ _ => 0) ⟨#[], args, []⟩).memory :=
  laidMetH_of_parts3 (fuel := 8) (laidMet_of_run' 8 (by kernel_rfl) (by kernel_rfl)) (by kernel_rfl) (by kernel_rfl)
theorem kt_ofX {W : World} (h : laidMetH Tryd.prog Rows.txidsRow.laid W) : KT kcR W := by
  rw [MakeChecks.laidMetH_plain _ _ _ (by kernel_rfl)] at h
  have h2 : laidMet Tryd.prog (("compact/hashes.roundWords", Lib.tabData .u32 wordsK) :: []) W := h
  have hT := Lib.tabIs_of_head gWordsX tWordsX Tryd.underlying134 Tryd.underlying94 (by kernel_rfl) (by kernel_rfl) h2
  exact fun i hi => hT.cell gWordsX i hi

set_option maxRecDepth 100000 in
theorem txids_lifted (os : Os) (started : os.Started) (H : Type) (enc : TypeId × Value → H) :
    ReturnsInHanded {} Tryd.checked os 4 .any (fun w args => (Rows.txidsSpec.pre enc Tryd.prog Tryd.f4 [] false w args ∧ laidMetH Tryd.prog Rows.txidsRow.laid w) ∧ sizedMet enc Tryd.prog Tryd.f4 (OpenSpec.ofChange Rows.txidsSpec) false w args)
      (Rows.txidsSpec.post enc Tryd.prog Tryd.f4 false true false false) := by
  refine returnsInHanded_of_change_and (C := Tryd.checked) (X := fun w _ => laidMetH Tryd.prog Rows.txidsRow.laid w) (fun _ _ _ hh h => h.of_heap hh) ownSX started (by kernel_rfl) Tryd.func4
    (ChangeSpec.witness_shaped (enc := enc) (C := Tryd.checked) (os := os) (X := fun w _ => laidMetH Tryd.prog Rows.txidsRow.laid w) false (World.doorLaid Tryd.prog 400 os) #[.string ByteArray.empty] 8 rfl (World.shaped_of_RefB (by kernel_rfl) (by kernel_rfl)) (by kernel_rfl) (by kernel_rfl) (by kernel_rfl) (door_metX os _)) ?_
  intro W base args ds gs before hval0 hW _ _ hL _
  have hval : ∀ (j : Nat) t v, Tryd.f4.params[j]? = some t → args[j]? = some v → Value.okWide Tryd.prog W .any base t v := hval0
  have hW' := hW
  obtain ⟨p, q, hA0, hV, rfl, hfz, hnd⟩ := hW
  have hA : DataW.TrodAll enc Tryd.prog W 0 (fun _ => true) true Tryd.f4.params.toList args.toList ds p := hA0
  rw [Tryd.params4] at hA hval
  obtain ⟨v0, vs0, d0, ds0, p0, q0, hargs, rfl, rfl, h0, r0⟩ := trodAll_cons hA
  obtain ⟨rfl, rfl, rfl⟩ := trodAll_nil r0
  obtain rfl : args = #[v0] := by cases args; simp_all
  obtain ⟨rfl, rfl⟩ := trodVars_none hV
  obtain ⟨a0, rfl, rfl, rfl, w0⟩ := open_string Tryd.underlying9 (hval 0 9 v0 rfl rfl) h0
  have hkt := kt_ofX hL
  have hpos : 0 < W.heap.size := World.block_lt_of_cell? W _ (hkt 0 (by omega))
  clear hA0 hval0
  refine (txids_walk a0 W w0 hkt hpos).mono fun e W' ⟨he, bel⟩ => ?_
  subst he
  exact ⟨_, rfl, _, _, _, [], _, [], hW', trodAll_mk1 (shut_bool Tryd.underlying4 _), (trodAll_cons_mk (shut_string Tryd.underlying9 w0) trodAll_mk0), rfl, bel.frame _, fun h => by cases h⟩

theorem txids_holds : Rows.TxidsSaid :=
  OpenClaim.holds_of_wide 4 Tryd.f4 rfl rfl rfl rfl rfl rfl rfl ⟨rfl, rfl, rfl, rfl, rfl⟩ rfl rfl rfl rfl rfl (by kernel_rfl) Tryd.func4 (by kernel_rfl)
    (of_decide_eq_true (by kernel_rfl)) (by unfold Func.isWrapper; first | (rw [if_pos (by decide +kernel)]; kernel_rfl) | (rw [if_neg (by decide +kernel)]; exact ⟨rfl, rfl⟩))
    (fun os started H enc _ => txids_lifted os started H enc)

set_option maxRecDepth 100000 in
theorem txids_card : Rows.TxidsCardSaid :=
  Claim7.holds_tied_plain_at .later [] [.data] true _ _
    txids_holds (fun _ h => by cases h) (by kernel_rfl) (fun _ h => by cases h) txids_row_tie rfl ⟨rfl, rfl⟩ (by kernel_rfl) rfl
    (fun f fn hf hfn => by
      obtain rfl : f = 4 := Option.some.inj ((show Tryd.prog.funcNamed "compact/compactlaw.Txids" = some 4 by kernel_rfl).symm.trans hf) |>.symm
      obtain rfl : fn = Tryd.f4 := (Option.some.inj (Tryd.func4.symm.trans hfn)).symm
      exact ⟨by kernel_rfl, fun j t ht => by
        rw [Tryd.params4] at ht
        match j, ht with
        | 0, ht => cases ht; first | rfl | kernel_rfl | decide
        | n + 1, ht => simp at ht⟩)
    (by kernel_rfl)
#print axioms txids_card
end Go.Proofs.YtkmalggeieiepaaDoor
