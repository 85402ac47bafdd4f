import Derived.Test.YtkmalggeieiepaaGreatDoorPxh
set_option linter.unusedVariables false
namespace Go.Proofs.YtkmalggeieiepaaGreatDoor
open Go.ChangeShapes Go.WideShapes Go.ChangeAt Go.RowKit

set_option maxRecDepth 10000 in
set_option maxHeartbeats 2000000 in
theorem iDs_walk (l : List Ops) (a : Option Addr) (cap : Nat) (w : World) (hkt : KT kcR w) (hr : 0 < l.length → ∃ b o, a = some ⟨b, o, none⟩ ∧ OpRow w b o l ∧ b < w.heap.size) (hf : Fits l) (hl : l.length ≤ 281474976710656) :
    Calls Tryz.prog 5 #[.slice a l.length cap] w fun e w' => e = .returned (.bool true) ∧ Below w.heap.size w w' := by
  have HS : Hid (Calls Tryz.prog 9 #[.slice a l.length cap] w fun e w' => ∃ r, e = .returned (.bool r) ∧ (r = true → tot l l.length ≤ 1048576) ∧ Below w.heap.size w w') := small_any l a cap w hr hf hl
  have hpos : 0 < w.heap.size := World.block_lt_of_cell? w _ (hkt 0 (by omega))
  have HU : Hid (∀ V, Below w.heap.size w V → tot l l.length ≤ 1048576 → Calls Tryz.prog 10 #[.slice a l.length cap, .int .i64 4] V fun e w' => e = .returned (.int .i64 (-1)) ∧ Below V.heap.size V w') := fun V hV ht =>
    upto_ids l a cap V (hkt.later hV hpos) (fun h0 => by
      obtain ⟨b, o, e1, e2, e3⟩ := hr h0
      exact ⟨b, o, e1, fun j x hx => by
        obtain ⟨d0, d1, d2⟩ := e2 j x hx
        exact ⟨by rw [hV.cell (p := ⟨b, o + 3 * j, none⟩) e3]; exact d0, by rw [hV.cell (p := ⟨b, o + 3 * j + 1, none⟩) e3]; exact d1, by rw [hV.cell (p := ⟨b, o + 3 * j + 2, none⟩) e3]; exact d2⟩, Nat.lt_of_lt_of_le e3 hV.size⟩) hf ht
  clear hr hf hkt
  go_enter Tryz.func5, Tryz.ntmps5
  go_wp2_with (first
    | (go_at_call 9; go_must (refine HS.out.mono ?_); rintro e w1 ⟨r, rfl, ht, hb1⟩; have HB1 := (show Hid (Below w.heap.size w w1) from hb1); have HT := (show Hid (r = true → tot l l.length ≤ 1048576) from ht); clear hb1 ht; cases r)
    | (go_at_call 10; go_must (refine (HU.out _ HB1.out (HT.out (by trivial))).mono ?_); rintro e w2 ⟨rfl, hb2⟩; have HB2 := (show Hid (Below w.heap.size w w2) from HB1.out.trans (hb2.mono HB1.out.size)); clear hb2))
  all_goals
    go_ret
    first
      | exact ⟨rfl, HB2.out⟩
      | exact ⟨rfl, HB1.out⟩
      | exact ⟨by simp, HB2.out⟩
      | exact ⟨by simp, HB1.out⟩

theorem door_metIDs (os : Os) (args : Array Value) : laidMetH Tryz.prog Rows.iDsRow.laid ((World.doorLaid Tryz.prog 400 os).forCall (fun _ _ => 0) ⟨#[], args, []⟩).memory :=
  laidMetH_of_parts3 (fuel := 8) (laidMet_of_run' 8 (by kernel_rfl) (by kernel_rfl)) (by kernel_rfl) (by kernel_rfl)
theorem kt_ofIDs {W : World} (h : laidMetH Tryz.prog Rows.iDsRow.laid W) : KT kcR W := by
  rw [MakeChecks.laidMetH_plain _ _ _ (by kernel_rfl)] at h
  have h2 : laidMet Tryz.prog (("compact/hashes.roundWords", Lib.tabData .u32 wordsK) :: []) W := h
  have hT := Lib.tabIs_of_head gWordsZ tWordsZ Tryz.underlying204 Tryz.underlying166 (by kernel_rfl) (by kernel_rfl) h2
  exact fun i hi => hT.cell gWordsZ i hi

set_option maxRecDepth 100000 in
theorem iDs_lifted (os : Os) (started : os.Started) (H : Type) (enc : TypeId × Value → H) :
    ReturnsInHanded {} Tryz.checked os 5 .any (fun w args => (Rows.iDsSpec.pre enc Tryz.prog Tryz.f5 [] false w args ∧ laidMetH Tryz.prog Rows.iDsRow.laid w) ∧ sizedMet enc Tryz.prog Tryz.f5 (OpenSpec.ofChange Rows.iDsSpec) false w args)
      (Rows.iDsSpec.post enc Tryz.prog Tryz.f5 false true false false) := by
  refine returnsInHanded_of_change_and (C := Tryz.checked) (X := fun w _ => laidMetH Tryz.prog Rows.iDsRow.laid w) (fun _ _ _ hh h => h.of_heap hh) ownSZ started (by kernel_rfl) Tryz.func5
    (ChangeSpec.witness_shaped (enc := enc) (C := Tryz.checked) (os := os) (X := fun w _ => laidMetH Tryz.prog Rows.iDsRow.laid w) false (World.doorLaid Tryz.prog 400 os) #[.slice none 0 0] 8 rfl (World.shaped_of_RefB (by kernel_rfl) (by kernel_rfl)) (by kernel_rfl) (by kernel_rfl) (by kernel_rfl) (door_metIDs os _)) ?_
  intro W base args ds gs before hval0 hW _ hsz hL _
  have hval : ∀ (j : Nat) t v, Tryz.f5.params[j]? = some t → args[j]? = some v → Value.okWide Tryz.prog W .any base t v := hval0
  have hW' := hW
  obtain ⟨p, q, hA0, hV, rfl, hfz, hnd⟩ := hW
  have hA : DataW.TrodAll enc Tryz.prog W 0 (fun _ => true) true Tryz.f5.params.toList args.toList ds p := hA0
  have hsz2 : (DataW.weightsEach Tryz.prog (Tryz.f5.params.toList ++ Rows.iDsSpec.plain.varTypes Tryz.prog) (ds ++ gs)).all (· ≤ reachBytes) = true := hsz
  rw [Tryz.params5] at hA hval hsz2
  obtain ⟨v0, vs0, d0, ds0, p0, q0, hargs, rfl, rfl, h0, r0⟩ := trodAll_cons hA
  obtain ⟨rfl, rfl, rfl⟩ := trodAll_nil r0
  obtain rfl : args = #[v0] := by cases args; simp_all
  obtain ⟨rfl, rfl⟩ := trodVars_none hV
  have hw0 : ∀ n ∈ d0.weights Tryz.prog 22, n ≤ reachBytes := fun n hn => by
    have := List.all_eq_true.1 hsz2 n (DataW.weights_mem_each (j := 0) (t := 22) rfl rfl n hn)
    simpa using this
  obtain ⟨a0, len, cap, rfl⟩ := okWide_slice Tryz.underlying22 (hval 0 22 v0 rfl rfl)
  have h0k := h0
  obtain ⟨fuel, hf⟩ := h0
  have hkt := kt_ofIDs hL
  clear hA0 hval0
  simp only [List.append_nil] at hW'
  have hlt : ∀ x ∈ p0, x.block < W.heap.size := fun x hx => by simpa using hW'.lt x (by simpa using hx)
  obtain ⟨a1, cap1, l, hv, hr, hfit, hlen⟩ := open_ops hf hw0
  injection hv with e1 e2 e3
  subst e1 e2 e3
  refine (iDs_walk l a0 cap W hkt hr hfit hlen).mono fun e W' ⟨he, bel⟩ => ?_
  subst he
  exact ⟨_, rfl, _, _, _, [], _, [], hW', trodAll_mk1 (shut_bool Tryz.underlying4 _), (trodAll_mk1 (Below.trod laidOutZ (by kernel_rfl) (of_decide_eq_true (by kernel_rfl)) h0k bel hlt)), rfl, bel.frame _, fun h => by cases h⟩

theorem iDs_holds : Rows.IDsSaid :=
  OpenClaim.holds_of_wide 5 Tryz.f5 rfl rfl rfl rfl rfl rfl rfl ⟨rfl, rfl, rfl, rfl, rfl⟩ rfl rfl rfl rfl rfl (by kernel_rfl) Tryz.func5 (by kernel_rfl)
    (of_decide_eq_true (by kernel_rfl)) (by unfold Func.isWrapper; first | (rw [if_pos (by decide +kernel)]; kernel_rfl) | (rw [if_neg (by decide +kernel)]; exact ⟨rfl, rfl⟩))
    (fun os started H enc _ => iDs_lifted os started H enc)

set_option maxRecDepth 100000 in
theorem iDs_card : Rows.IDsCardSaid :=
  card_goes .later [.data] true _ _
    iDs_holds (by kernel_rfl) iDs_row_tie rfl ⟨rfl, rfl⟩ (by kernel_rfl) rfl
    (fun f fn hf hfn => by
      obtain rfl : f = 5 := Option.some.inj ((show Tryz.prog.funcNamed "compact/compactlaw.IDs" = some 5 by kernel_rfl).symm.trans hf) |>.symm
      obtain rfl : fn = Tryz.f5 := (Option.some.inj (Tryz.func5.symm.trans hfn)).symm
      exact ⟨by kernel_rfl, fun j t ht => by
        rw [Tryz.params5] at ht
        match j, ht with
        | 0, ht => cases ht; first | rfl | kernel_rfl | decide
        | n + 1, ht => simp at ht⟩)
    (by kernel_rfl)
#print axioms iDs_card
end Go.Proofs.YtkmalggeieiepaaGreatDoor
