import Derived.Test.YtkmalggeieiepaaDoorRows
import Derived.Test.YtkmalggeieiepaaDoorTie
import Derived.Test.YtkmalggeieiepaaDoorCards
import Derived.Test.YtkmalggeieiepaaDoorRefI
import Derived.Test.YtkmalggeieiepaaDoorEca
import Derived.Test.YtkmalggeieiepaaDoorEcd
import Derived.Test.YtkmalggeieiepaaDoorEci
import Derived.ChangeSlices
import Derived.Carry
import Derived.WalkKit
import Derived.WalkSpells
import Derived.WalkLawsBesides
import Derived.ProofKit
import Derived.OpenShut
import Derived.ShutString
import Derived.LaidMore
import Derived.Lib.LaidTab
import Derived.ChangeOld
import Derived.Below
import Derived.SevenTiedAt
namespace Go.Proofs.YtkmalggeieiepaaDoor
open Go.ChangeShapes Go.WideShapes Go.ChangeAt Go.RowKit
open Go.ChangeMaps (open_string shut_string)
set_option linter.unusedVariables false

set_option maxRecDepth 10000 in
set_option maxHeartbeats 1000000 in
theorem Encode_of (gt : Nat) (dg : ByteArray → ByteArray) (hdg : ∀ s, (dg s).size = 32) (s : ByteArray) (n : Nat) (al : List Int) (v : Value) (w : World) (hl : s.size ≤ maxLen) (hn : U64 n) (hv : VVal w v (intV al)) (hal : al.length ≤ 1048576)
    (HS : Hid (∀ (s : ByteArray) (W : World), s.size ≤ 1048576 → Below w.heap.size w W → Calls Tryd.prog 10 #[.pointer (some ⟨gt, 0, none⟩), .string s] W fun e w' => e = .returned (.string (dg s)) ∧ Below W.heap.size W w')) :
    Calls Tryd.prog 17 #[.pointer (some ⟨gt, 0, none⟩), .string s, .int .u64 (n : Int), v] w fun x w' => x = .returned (.tuple #[.string (ofL (encR dg (rMsg 80 s.data.toList) n al).1), .int .i64 (encR dg (rMsg 80 s.data.toList) n al).2]) ∧ Below w.heap.size w w' := by
  obtain ⟨a, cap, hv', _, hr⟩ := hv
  have hil : (intV al).length = al.length := by simp [intV]
  rw [hil] at hr hv'
  subst hv'
  have HB := Block_any s w hl
  have hB80 : (rMsg 80 s.data.toList).1.length ≤ 80 := rTake_len 80 _
  have hBs : (rMsg 80 s.data.toList).2.2 = 0 → ∀ x ∈ (rMsg 80 s.data.toList).2.1, x.length ≤ 610 := rMsg_small 80 _
  have hBl : (rMsg 80 s.data.toList).2.1.length ≤ 16 := rMsg_len 80 _
  generalize rMsg 80 s.data.toList = B at HB hB80 hBs hBl
  obtain ⟨h, T, c⟩ := B
  by_cases hc : c = 0
  · subst hc
    by_cases hE : alE T.length al = 0
    · have e : encR dg (h, T, 0) n al = (encL (fun x => shortL dg (ofL h) (ofL (le n 8)) (ofL x)) h (le n 8) T al, 0) := by simp [encR, hE]
      rw [e]
      exact Encode_good gt dg hdg h T s n al a cap w HB hr hal hE hn hB80 hBl (hBs rfl) HS
    · have e : encR dg (h, T, 0) n al = ([], alE T.length al) := by simp [encR, hE]
      rw [e]
      exact Encode_bad gt h T s (n : Int) al a cap w HB hr hal (alE T.length al) rfl hE
  · have e : encR dg (h, T, c) n al = ([], c) := by simp [encR, hc]
    rw [e]
    clear e hBs HS hr
    go_enter Tryd.func17, Tryd.ntmps17
    go_wp2_with (go_at_call 37; go_must (refine HB.mono ?_); rintro e w1 ⟨v1, rfl, ho1, hb1⟩; have HB1 := (show Hid (Below w.heap.size w w1) from hb1); clear ho1 hb1)
    go_ret2
    exact ⟨rfl, HB1.out⟩

set_option maxRecDepth 10000 in
set_option maxHeartbeats 1000000 in
theorem encodes_walk (s : ByteArray) (n : Nat) (al : List Int) (v : Value) (w : World) (hm : s.size ≤ maxLen) (hn : U64 n) (hv : VVal w v (intV al)) (hal : al.length ≤ 1048576) (hkt : KT kcR w) :
    Calls Tryd.prog 6 #[.string s, .int .u64 (n : Int), v] w fun e w' => e = .returned (.bool true) ∧ Below w.heap.size w w' := by
  have h1 := encode_any kcR s n al v w hkt hm hn hv hal
  have HR : Hid (∀ (gt : Nat) (W : World), Below w.heap.size w W → HasTab W gt → Calls Tryd.prog 17 #[.pointer (some ⟨gt, 0, none⟩), .string s, .int .u64 (n : Int), v] W fun x w' => x = .returned (.tuple #[.string (ofL (encR (sg kcR) (rMsg 80 s.data.toList) n al).1), .int .i64 (encR (sg kcR) (rMsg 80 s.data.toList) n al).2]) ∧ Below W.heap.size W w') := fun gt W hW h =>
    Encode_of gt (sg kcR) (sg_size kcR) s n al v W hm hn (hv.later hW) hal (fun x V hx hV => refSum_any gt x V (h.later hV) hx)
  obtain ⟨a, cap, hv', _, _⟩ := hv
  have hil : (intV al).length = al.length := by simp [intV]
  rw [hil] at hv'
  subst hv'
  clear hil
  have hali : (al.length : Int) ≤ 1048576 := by omega
  clear hkt hm hn
  generalize encR (sg kcR) (rMsg 80 s.data.toList) n al = R at h1 HR
  obtain ⟨r, c⟩ := R
  generalize (n : Int) = NI at h1 HR ⊢
  go_enter Tryd.func6, Tryd.ntmps6
  go_wp2_with (first
    | (go_at_call 16; go_must (refine h1.mono ?_); rintro e w1 ⟨rfl, hb1⟩; have HB1 : Hid (Below w.heap.size w w1) := hb1; clear hb1)
    | (go_at_call 9; go_must (refine (newTables_has _).mono ?_); rintro e w3 ⟨rfl, ht3, hb3⟩; have HT3 := (show Hid (HasTab w3 _) from ht3); have HB3 := (show Hid (Below w.heap.size w w3) from HB1.out.trans (hb3.mono HB1.out.size)); clear ht3 hb3)
    | (go_at_call 17; go_must (refine (HR.out _ _ HB3.out HT3.out).mono ?_); rintro e w4 ⟨rfl, hb4⟩; have HB4 := (show Hid (Below w.heap.size w w4) from HB3.out.trans (hb4.mono HB3.out.size)); clear hb4))
  go_ret
  exact ⟨by simp, HB4.out⟩
set_option maxRecDepth 10000 in
theorem encodes_great (s : ByteArray) (n : Int) (a : Option Addr) (len cap : Nat) (w : World) (hal : 1048576 < len) :
    Calls Tryd.prog 6 #[.string s, .int .u64 n, .slice a len cap] w fun e w' => e = .returned (.bool true) ∧ Below w.heap.size w w' := by
  have hali : (1048576 : Int) < (len : Int) := by omega
  go_enter Tryd.func6, Tryd.ntmps6
  go_wp2
  go_ret
  exact ⟨rfl, Below.refl _ _⟩

theorem laidOutZ : laidOutB Tryd.prog = true := by kernel_rfl
theorem cellsIntZ : Tryd.prog.cellsOf 3 = 1 := by kernel_rfl
theorem ownSZ : ownKnob Tryd.prog.godebug = none := by kernel_rfl
theorem gWordsZ : Tryd.prog.globalNamed "compact/hashes.roundWords" = some 0 := by kernel_rfl
theorem tWordsZ : (Tryd.prog.globals[0]?).map (·.type) = some 134 := by kernel_rfl
theorem door_metZ (os : Os) (args : Array Value) : laidMetH Tryd.prog Rows.encodesRow.laid ((World.doorLaid Tryd.prog 400 os).forCall (fun _ _ => 0) ⟨#[], args, []⟩).memory :=
  laidMetH_of_parts3 (fuel := 8) (laidMet_of_run' 8 (by kernel_rfl) (by kernel_rfl)) (by kernel_rfl) (by kernel_rfl)
theorem kt_ofZ {W : World} (h : laidMetH Tryd.prog Rows.encodesRow.laid W) : KT kcR W := by
  rw [MakeChecks.laidMetH_plain _ _ _ (by kernel_rfl)] at h
  have h2 : laidMet Tryd.prog (("compact/hashes.roundWords", Lib.tabData .u32 wordsK) :: []) W := h
  have hT := Lib.tabIs_of_head gWordsZ tWordsZ Tryd.underlying134 Tryd.underlying94 (by kernel_rfl) (by kernel_rfl) h2
  exact fun i hi => hT.cell gWordsZ i hi

set_option maxRecDepth 100000 in
theorem encodes_lifted (os : Os) (started : os.Started) (H : Type) (enc : TypeId × Value → H) :
    ReturnsInHanded {} Tryd.checked os 6 .any (fun w args => (Rows.encodesSpec.pre enc Tryd.prog Tryd.f6 [] false w args ∧ laidMetH Tryd.prog Rows.encodesRow.laid w) ∧ sizedMet enc Tryd.prog Tryd.f6 (OpenSpec.ofChange Rows.encodesSpec) false w args)
      (Rows.encodesSpec.post enc Tryd.prog Tryd.f6 false true false false) := by
  refine returnsInHanded_of_change_and (C := Tryd.checked) (X := fun w _ => laidMetH Tryd.prog Rows.encodesRow.laid w) (fun _ _ _ hh h => h.of_heap hh) ownSZ started (by kernel_rfl) Tryd.func6
    (ChangeSpec.witness_shaped (enc := enc) (C := Tryd.checked) (os := os) (X := fun w _ => laidMetH Tryd.prog Rows.encodesRow.laid w) false (World.doorLaid Tryd.prog 400 os) #[.string ByteArray.empty, .int .u64 0, .slice none 0 0] 8 rfl (World.shaped_of_RefB (by kernel_rfl) (by kernel_rfl)) (by kernel_rfl) (by kernel_rfl) (by kernel_rfl) (door_metZ os _)) ?_
  intro W base args ds gs before hval0 hW _ _ hL _
  have hval : ∀ (j : Nat) t v, Tryd.f6.params[j]? = some t → args[j]? = some v → Value.okWide Tryd.prog W .any base t v := hval0
  have hW' := hW
  obtain ⟨p, q, hA0, hV, rfl, hfz, hnd⟩ := hW
  have hA : DataW.TrodAll enc Tryd.prog W 0 (fun _ => true) true Tryd.f6.params.toList args.toList ds p := hA0
  rw [Tryd.params6] at hA hval
  obtain ⟨v0, vs0, d0, ds0, p0, q0, hargs, rfl, rfl, h0, r0⟩ := trodAll_cons hA
  obtain ⟨v1, vs1, d1, ds1, p1, q1, rfl, rfl, rfl, h1, r1⟩ := trodAll_cons r0
  obtain ⟨v2, vs2, d2, ds2, p2, q2, rfl, rfl, rfl, h2, r2⟩ := trodAll_cons r1
  obtain ⟨rfl, rfl, rfl⟩ := trodAll_nil r2
  obtain rfl : args = #[v0, v1, v2] := by cases args; simp_all
  obtain ⟨rfl, rfl⟩ := trodVars_none hV
  obtain ⟨s0, rfl, rfl, rfl, w0⟩ := open_string Tryd.underlying9 (hval 0 9 v0 rfl rfl) h0
  obtain ⟨n1, rfl, rfl, rfl, w1⟩ := open_int Tryd.underlying36 (hval 1 36 v1 rfl rfl) h1
  obtain ⟨a2, len, cap, rfl⟩ := okWide_slice Tryd.underlying37 (hval 2 37 v2 rfl rfl)
  have h2k := h2
  obtain ⟨fuel, hf⟩ := h2
  have hkt := kt_ofZ hL
  clear hA0 hval0
  simp only [List.append_nil, List.nil_append] at hW'
  have hlt : ∀ x ∈ p2, x.block < W.heap.size := fun x hx => by simpa using hW'.lt x (by simpa using hx)
  have fin : ∀ e W', (e = Ending.returned (.bool true) ∧ Below W.heap.size W W') → ∃ v, e = Ending.returned v ∧ Rows.encodesSpec.post enc Tryd.checked.prog Tryd.f6 false true false false W #[.string s0, .int .u64 n1, .slice a2 len cap] v W' := fun e W' ⟨he, bel⟩ => by
    subst he
    exact ⟨_, rfl, _, _, _, [], _, [], hW', trodAll_mk1 (shut_bool Tryd.underlying4 _), (trodAll_cons_mk (shut_string Tryd.underlying9 w0) (trodAll_cons_mk (shut_int Tryd.underlying36 w1) (trodAll_mk1 (Below.trod laidOutZ (by kernel_rfl) (of_decide_eq_true (by kernel_rfl)) h2k bel hlt)))), rfl, bel.frame _, fun h => by cases h⟩
  obtain ⟨m, rfl, hm⟩ : ∃ m : Nat, n1 = (m : Int) ∧ U64 m := by
    have hw : IntKind.u64.min ≤ n1 ∧ n1 ≤ IntKind.u64.max := by simpa [Lit.wf] using w1
    have e1 : IntKind.u64.min = 0 := by decide
    have e2 : IntKind.u64.max = 18446744073709551615 := by decide
    rw [e1, e2] at hw
    exact ⟨n1.toNat, by omega, by unfold U64; omega⟩
  by_cases hbig : 1048576 < len
  · exact (encodes_great s0 (m : Int) a2 len cap W hbig).mono fin
  · rcases open_ints Tryd.underlying37 Tryd.underlying3 cellsIntZ hf with ⟨hcs, _⟩ | ⟨a, len', cap', zs, hcs, _, hl, _, hz2, _, hcell, _⟩
    · injection hcs with hcs
      injection hcs with e1 e2 e3
      subst e1 e2 e3
      exact (encodes_walk s0 m [] (.slice none 0 0) W w0 hm ⟨none, 0, rfl, by simp [intV], fun h => by simp [intV] at h⟩ (by simp) hkt).mono fin
    · injection hcs with hcs
      injection hcs with e1 e2 e3
      subst e1 e2 e3
      have hsl : len ≤ zs.length := by rw [hz2]; split <;> omega
      obtain ⟨b, o, sp⟩ := a
      have hlen : (zs.take len).length = len := by rw [List.length_take]; omega
      have hil : (intV (zs.take len)).length = len := by simp [intV]; omega
      have hval2 : VVal W (.slice (some ⟨b, o, sp⟩) len cap) (intV (zs.take len)) := by
        refine ⟨some ⟨b, o, sp⟩, cap, by rw [hil], by rw [hil]; exact hl, fun h0 => ?_⟩
        rw [hil] at h0
        have hc0 := hcell 0 (by omega)
        have hsp : sp = none := by
          cases sp with
          | none => rfl
          | some x =>
            exfalso
            have : (⟨b, o, some x⟩ : Addr).add 0 = ⟨b, o, some x⟩ := rfl
            rw [this] at hc0
            unfold World.cell? at hc0
            split at hc0
            · simp at hc0
            · cases hc0
        subst hsp
        refine ⟨b, o, rfl, fun j hj => ?_⟩
        have hj' : j < len := by rw [hil] at hj; exact hj
        have := hcell j (by omega)
        rw [Addr.add_mid] at this
        rw [this]
        simp [intV, List.getElem_take, List.getD, show j < zs.length by omega]
      exact (encodes_walk s0 m (zs.take len) _ W w0 hm hval2 (by rw [hlen]; omega) hkt).mono fin

theorem encodes_holds : Rows.EncodesSaid :=
  OpenClaim.holds_of_wide 6 Tryd.f6 rfl rfl rfl rfl rfl rfl rfl ⟨rfl, rfl, rfl, rfl, rfl⟩ rfl rfl rfl rfl rfl (by kernel_rfl) Tryd.func6 (by kernel_rfl)
    (of_decide_eq_true (by kernel_rfl)) (by unfold Func.isWrapper; first | (rw [if_pos (by decide +kernel)]; kernel_rfl) | (rw [if_neg (by decide +kernel)]; exact ⟨rfl, rfl⟩))
    (fun os started H enc _ => encodes_lifted os started H enc)

set_option maxRecDepth 100000 in
theorem encodes_card : Rows.EncodesCardSaid :=
  Claim7.holds_tied_plain_at .later [] [.data] true _ _
    encodes_holds (fun _ h => by cases h) (by kernel_rfl) (fun _ h => by cases h) encodes_row_tie rfl ⟨rfl, rfl⟩ (by kernel_rfl) rfl
    (fun f fn hf hfn => by
      obtain rfl : f = 6 := Option.some.inj ((show Tryd.prog.funcNamed "compact/compactlaw.Encodes" = some 6 by kernel_rfl).symm.trans hf) |>.symm
      obtain rfl : fn = Tryd.f6 := (Option.some.inj (Tryd.func6.symm.trans hfn)).symm
      exact ⟨by kernel_rfl, fun j t ht => by
        rw [Tryd.params6] at ht
        match j, ht with
        | 0, ht => cases ht; first | rfl | kernel_rfl | decide
        | 1, ht => cases ht; first | rfl | kernel_rfl | decide
        | 2, ht => cases ht; first | rfl | kernel_rfl | decide
        | n + 3, ht => simp at ht⟩)
    (by kernel_rfl)
#print axioms encodes_card
end Go.Proofs.YtkmalggeieiepaaDoor
