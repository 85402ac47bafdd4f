import Derived.Test.YtkmalggeieiepabDoorPye
import Derived.WalkKit
import Derived.WalkSpells
import Derived.WalkLawsBesides
import Derived.Deep.DeepCutAuto
import Derived.Defers
import Derived.Recover
import Derived.Test.YtkmalggeieiepabDoorPyc
import Derived.Deep.MidRow
import Derived.Deep.RegionHeld
import Derived.Shelf.Sort.Plain
import Derived.Test.YtkmalggeieiepabDoorRows
import Derived.Maps.RangeWalk
import Derived.Sort.OwnSorted
import Derived.Sort.KeysCollected
namespace Go.Proofs.YtkmalggeieiepabDoor
open Go.RowKit

set_option maxRecDepth 10000 in
set_option maxHeartbeats 1000000 in
theorem catch_panicking (p : Addr) (x c : Int) (w : World) (hc : w.cell? p = some (.int .i64 x)) (hz : w.frozen? p = false) :
    CallsD Tryd.prog 47 #[.pointer (some p)] (.panicking [{ v := .iface 32 (.int .i64 c), recovered := false }]) w fun e u' w' =>
      e = .returned (.tuple #[]) ∧ u' = .panicking [{ v := .iface 32 (.int .i64 c), recovered := true }] ∧ w' = w.setCell p (.int .i64 c) := by
  have hta : ∀ w : World, (Instr.typeAssert (.iface 32 (.int .i64 c)) 20 32 true).run Tryd.prog w = .ok (.tuple #[.int .i64 c, .bool true]) w := fun _ => by kernel_rfl
  refine callsD_of_wpS Tryd.func47 rfl fun c₀ cs hu => ?_
  apply wpS_seq
  apply wpS_region
  simp [wpOpsS, go_sem, recoverD, hu, Tryd.ntmps47, Exit.thenS, Array.replicate, List.replicate]
  refine wpS_of_wp ?_
  go_wp2
  exact ⟨rfl, _, rfl, _, results_none rfl _ _ _, rfl, rfl, rfl⟩

set_option maxRecDepth 10000 in
set_option maxHeartbeats 1000000 in
theorem catch_idle (p : Addr) (w : World) :
    CallsD Tryd.prog 47 #[.pointer (some p)] .returning w fun e u' w' => e = .returned (.tuple #[]) ∧ u' = .returning ∧ w' = w := by
  refine callsD_of_wpS Tryd.func47 rfl fun c₀ cs hu => ?_
  apply wpS_seq
  apply wpS_region
  simp [wpOpsS, go_sem, recoverD, hu, Tryd.ntmps47, Exit.thenS, Array.replicate, List.replicate]
  refine wpS_of_wp ?_
  go_wp2
  refine ⟨rfl, .returning, ?_, _, results_none rfl _ _ _, rfl, rfl, rfl⟩
  cases c₀
  simp_all

theorem Cu.new (w : World) (s : ByteArray) (T g : Nat) (hg : g = w.heap.size) : Cu (w.alloc (.cells #[.string s, .int .i64 0] T)) g s.data.toList s.data.toList := by
  subst hg
  refine ⟨?_, ⟨0, Nat.zero_le _, rfl, ?_⟩, ?_⟩
  · rw [ofL_of]; simp [go_sem]
  · simp [go_sem]
  · simp [go_sem]

set_option maxRecDepth 10000 in
set_option maxHeartbeats 1000000 in
theorem read_any (s : ByteArray) (w : World) (hl : s.size ≤ maxLen) :
    Calls Tryd.prog 25 #[.string s, .func (.func 26) #[] #[]] w fun x w' =>
      x = .returned (.tuple #[.string (if txErr s.data.toList = 0 then s else ByteArray.empty), .int .i64 (txErr s.data.toList)]) ∧ Below w.heap.size w w' := by
  obtain ⟨W0, hW0⟩ : ∃ W, W = (w.alloc (.cells #[.int .i64 0] 32)).alloc (.cells #[.string s, .int .i64 0] 114) := ⟨_, rfl⟩
  have hCu : Cu W0 (w.heap.size + 1) s.data.toList s.data.toList := by rw [hW0]; exact Cu.new _ s _ _ (by simp)
  have HB0 : Hid (Below w.heap.size w W0) := by show Below _ _ _; rw [hW0]; exact ((Below.refl _ _).alloc (Nat.le_refl _) _).alloc (by simp) _
  have hz0 : w.heap.size + 2 = W0.heap.size := by rw [hW0]; simp
  have hv0 : W0.cell? ⟨w.heap.size, 0, none⟩ = some (.int .i64 0) := by rw [hW0]; simp [go_sem]
  have hf0 : W0.frozen? ⟨w.heap.size, 0, none⟩ = false := by rw [hW0]; simp [go_sem]
  have HK : Hid (∀ w1, Mov (w.heap.size + 1) W0 w1 → w1.cell? ⟨w.heap.size, 0, none⟩ = some (.int .i64 0) ∧ w1.frozen? ⟨w.heap.size, 0, none⟩ = false ∧ Below w.heap.size w w1) := by
    intro w1 hm
    have hb : Below (w.heap.size + 1) W0 w1 := hm.below (Nat.le_refl _) (by omega)
    exact ⟨by rw [hb.cell (p := ⟨w.heap.size, 0, none⟩) (Nat.lt_succ_self _)]; exact hv0, by rw [hb.frozen (p := ⟨w.heap.size, 0, none⟩) (Nat.lt_succ_self _)]; exact hf0, HB0.out.trans (hb.mono (by omega))⟩
  have ht := cuTx_any (w.heap.size + 1) s.data.toList s.data.toList W0 hCu hl
  have hmf : ∀ (fn : Fn) (first cap : Array Value) (w : World), (Instr.makeFunc fn first cap).run Tryd.prog w = .ok (.func fn first cap) w := fun _ _ _ _ => rfl
  have HE : Hid (txErr s.data.toList = (rDone (rTx (s.data.toList, 0))).2) := rfl
  have HS : Hid ((rTx (s.data.toList, 0)).1 = [] → ofL (s.data.toList.take (s.data.toList.length - (rTx (s.data.toList, 0)).1.length)) = s) := fun e => by
    rw [e, List.length_nil, Nat.sub_zero, List.take_length, ofL_of]
  clear hCu hl hv0 hf0 hz0
  generalize ofL (s.data.toList.take (s.data.toList.length - (rTx (s.data.toList, 0)).1.length)) = t0 at ht HS
  generalize rTx (s.data.toList, 0) = p at ht HE HS
  obtain ⟨m, c⟩ := p
  by_cases hr : c = 0
  · subst hr
    have h1 := calls_ok ht rfl
    have he := fun (W : World) (hc : Cu W (w.heap.size + 1) s.data.toList m) => cuEnd_any (w.heap.size + 1) s.data.toList m W hc
    clear ht
    by_cases hm : m = []
    · subst hm
      have e5 : rDone ([], 0) = ([], 0) := by simp [rDone]
      rw [e5] at he
      have hE0 : txErr s.data.toList = 0 := by rw [HE.out, e5]
      have hts : t0 = s := HS.out rfl
      have h2 := fun (W : World) (hc : Cu W (w.heap.size + 1) s.data.toList []) => calls_ok (he W hc) rfl
      rw [hE0, if_pos rfl]
      subst hts
      clear he e5 HE HS hE0
      go_enter_defers Tryd.func25, Tryd.ntmps25
      go_upto_region 3 with fail
      rw [← hW0]
      clear hW0
      go_upto_region 5 with (first
        | (go_at_call 26; go_must (refine h1.mono ?_); rintro x w1 ⟨rfl, hc1, hm1⟩; have HC1 := (show Hid (Cu w1 (w.heap.size + 1) _ []) from hc1); have HM1 := (show Hid (Mov (w.heap.size + 1) W0 w1) from hm1); clear hc1 hm1)
        | (go_at_call 48; go_must (refine (h2 _ HC1.out).mono ?_); rintro x w2 ⟨rfl, hc2, hm2⟩; have HM2 := (show Hid (Mov (w.heap.size + 1) W0 w2) from HM1.out.trans hm2); clear hc2 hm2))
      obtain ⟨k1, k2, k3⟩ := HK.out w2 HM2.out
      have HB2 : Hid (Below w.heap.size w w2) := k3
      clear k3
      go_wp2
      refine leaves_cons (f := 47) (args := #[.pointer (some ⟨w.heap.size, 0, none⟩)]) (by simp) (by simp [go_sem]) ?_
      refine (catch_idle ⟨w.heap.size, 0, none⟩ _).mono ?_
      rintro e u' w'' ⟨rfl, rfl, rfl⟩
      simp [Leaves, settle, results, Tryd.results25, go_sem, k1]
      exact HB2.out.setCell (Nat.le_refl _) _
    · have e5 : rDone (m, 0) = (m, 5) := by simp [rDone, hm]
      rw [e5] at he
      have hE0 : txErr s.data.toList = 5 := by rw [HE.out, e5]
      have h2 := fun (W : World) (hc : Cu W (w.heap.size + 1) s.data.toList m) => calls_no (he W hc) (by simp)
      rw [hE0, if_neg (by omega)]
      clear he e5 HE HS hE0
      go_enter_defers Tryd.func25, Tryd.ntmps25
      go_upto_region 3 with fail
      rw [← hW0]
      clear hW0
      go_wp2_with (first
        | (go_at_call 26; go_must (refine h1.mono ?_); rintro x w1 ⟨rfl, hc1, hm1⟩; have HC1 := (show Hid (Cu w1 (w.heap.size + 1) _ m) from hc1); have HM1 := (show Hid (Mov (w.heap.size + 1) W0 w1) from hm1); clear hc1 hm1)
        | (go_at_call 48; go_must (refine (h2 _ HC1.out).mono ?_); rintro x w2 ⟨rfl, hm2⟩; have HMX := (show Hid (Mov (w.heap.size + 1) W0 w2) from HM1.out.trans hm2); clear hm2))
      obtain ⟨k1, k2, k3⟩ := HK.out _ HMX.out
      refine leaves_cons (f := 47) (args := #[.pointer (some ⟨w.heap.size, 0, none⟩)]) (by simp) (by simp [go_sem]) ?_
      refine (catch_panicking ⟨w.heap.size, 0, none⟩ 0 5 _ k1 k2).mono ?_
      rintro e u' w'' ⟨rfl, rfl, rfl⟩
      simp [Leaves, settle, results, Tryd.results25, go_sem, k1]
      exact ⟨rfl, k3.setCell (Nat.le_refl _) _⟩
  · have h1 := calls_no ht hr
    have hE0 : txErr s.data.toList = c := by rw [HE.out]; exact stick_done (m, c) hr
    rw [hE0, if_neg hr]
    clear ht HE HS hE0
    go_enter_defers Tryd.func25, Tryd.ntmps25
    go_upto_region 3 with fail
    rw [← hW0]
    clear hW0
    go_wp2_with (go_at_call 26; go_must (refine h1.mono ?_); rintro x w1 ⟨rfl, hm1⟩; have HMX := (show Hid (Mov (w.heap.size + 1) W0 w1) from hm1); clear hm1)
    obtain ⟨k1, k2, k3⟩ := HK.out _ HMX.out
    refine leaves_cons (f := 47) (args := #[.pointer (some ⟨w.heap.size, 0, none⟩)]) (by simp) (by simp [go_sem]) ?_
    refine (catch_panicking ⟨w.heap.size, 0, none⟩ 0 c _ k1 k2).mono ?_
    rintro e u' w'' ⟨rfl, rfl, rfl⟩
    simp [Leaves, settle, results, Tryd.results25, go_sem, k1]
    exact ⟨rfl, k3.setCell (Nat.le_refl _) _⟩
end Go.Proofs.YtkmalggeieiepabDoor
set_option linter.unusedSimpArgs false
set_option linter.unusedVariables false
namespace Go.Proofs.YtkmalggeieiepabDoor
open Go.RowKit

theorem th_new (w : World) (T : Nat) (cs : List Value) : (w.alloc (.cells cs.toArray T)).there w.heap.size 0 cs.length := fun j hj => by
  have h := heap_alloc_new w (.cells cs.toArray T)
  refine ⟨?_, ?_⟩
  · have := World.rangeAt_of_block h 0 cs.length j cs[j] (by simp [hj])
    rw [this]; rfl
  · unfold World.frozen?
    rw [h]
    simp
theorem q_none (a : Act) (v : Value) (e : Nat) : (a.put none v).eval (.tmp e) = a.eval (.tmp e) := rfl
theorem q_sz0 (a : Act) (v : Value) : (a.put none v).tmps.size = a.tmps.size := rfl
theorem qH_skip {P : Program} {md : Region.Mode} {ops : Array Oper} {Q : Exit → Act → World → Prop} {S : World → Prop} {fuel : Nat} {listed : Array Bool} {a : Act} {w : World} (i : Nat) {o : Oper} (w' : World) (hr : Region.ready md ops listed = [i]) (hi : ops[i]? = some o) (hg : o.guard = none)
    (h : (execOp a.eval o).run P w = .ok .skip w') (hS : S w') (hk : wpAnyH P md ops Q S fuel (listed.setIfInBounds i true) (a.put o.dst undef) w') : wpAnyH P md ops Q S (fuel + 1) listed a w := by
  refine wpAnyH_ready hr (by simp) (AllReadyH.cons hi (fun K hK => ?_) AllReadyH.nil)
  have hw : Region.wanted o (yielded ops a.tmps) = true := by simp [Region.wanted, hg]
  rw [if_pos hw]
  unfold Oper.wp; rw [h]; exact hK.out _ _ hS (fun _ => hk)
/-- an element's cells at first. -/
def z33 : List Value := List.replicate 32 (Value.int .u8 0) ++ [Value.string ⟨#[]⟩]
theorem alloc_pooled (W : World) : (Instr.alloc 67 true (.tuple #[])).run Tryd.prog W = .ok (.pointer (some ⟨W.heap.size, 0, none⟩)) (W.alloc (.cells z33.toArray 67)) := by kernel_rfl
theorem sizePooled : (Tryd.prog.info? 67).map (·.size) = some 33 := by kernel_rfl
theorem pEl_one (p : ByteArray × ByteArray) : ∀ u ∈ bc p.1 ++ [Value.string p.2], u.oneCell' = true := by
  intro u hu
  rcases List.mem_append.1 hu with h | h
  · exact bc_one _ u h
  · simp at h; rw [h]; rfl
theorem pEl_len (p : ByteArray × ByteArray) (h : p.1.size = 32) : (bc p.1 ++ [Value.string p.2]).length = 33 := by rw [List.length_append, bc_length, h]; rfl
theorem store_pooled (W : World) (p : ByteArray × ByteArray) (h : p.1.size = 32) : (Instr.storeAt 67 (.pointer (some ⟨W.heap.size, 0, none⟩)) (pEl p)).run Tryd.prog (W.alloc (.cells z33.toArray 67)) = .ok () ((W.alloc (.cells z33.toArray 67)).setCells W.heap.size 0 (bc p.1 ++ [Value.string p.2])) := by
  have ht := th_new W 67 z33
  have hz : z33.length = 33 := rfl
  rw [hz] at ht
  have e33 : (bc p.1 ++ [Value.string p.2]).toArray.size = 33 := by rw [List.size_toArray]; exact pEl_len p h
  have := run_storeAt_mid (P := Tryd.prog) (W.alloc (.cells z33.toArray 67)) W.heap.size 0 67 (bc p.1 ++ [Value.string p.2]).toArray (by rw [e33]; exact ht) (by rw [e33]; exact sizePooled) (by rw [List.all_toArray, List.all_eq_true]; exact pEl_one p)
  simpa [pEl] using this
theorem built_pd (cs : List Value) (h : cs.length = 32) (s : ByteArray) : Tryd.prog.built 67 [(0, .agg cs.toArray), (1, .string s)] = some (cs ++ [Value.string s]).toArray := by
  match cs, h with
  | [a0, a1, a2, a3, a4, a5, a6, a7, a8, a9, a10, a11, a12, a13, a14, a15, a16, a17, a18, a19, a20, a21, a22, a23, a24, a25, a26, a27, a28, a29, a30, a31], _ => exact (show (_ : Option (Array Value)) = _ by kernel_rfl)
theorem bc_int (d : ByteArray) (j : Nat) (u : Value) (h : (bc d)[j]? = some u) : ∃ x, u = .int .u8 x := by
  have hm := List.mem_of_getElem? h
  simp [bc] at hm
  obtain ⟨x, _, rfl⟩ := hm
  exact ⟨_, rfl⟩
theorem eqlm_nil (W : World) : (binOp .eql 36 (.map none) (.map none)).run Tryd.prog W = .ok (.bool true) W := by kernel_rfl
theorem eqlm_some (b : Nat) (W : World) : (binOp .eql 36 (.map (some b)) (.map none)).run Tryd.prog W = .ok (.bool false) W := by kernel_rfl
theorem run_build2 {P : Program} {W : World} {o : Oper} {ρ : Operand → Value} {ty i j : Nat} {u v x : Value} (ho : o.op = .build ty #[(0, .tmp i), (1, .tmp j)]) (e1 : ρ (.tmp i) = u) (e2 : ρ (.tmp j) = v) (hb : (Instr.build ty #[(0, u), (1, v)]).run P W = .ok x W) : (execOp ρ o).run P W = .ok (.value x) W := by
  unfold execOp
  simp only [ho, List.map_toArray, List.map_cons, List.map_nil, e1, e2, Sem.run_bind, hb, Result.andThen_ok]
  rfl
theorem below_blank (W : World) (cs : List Value) (o : Obj) : Below W.heap.size W ((W.alloc o).setCells W.heap.size 0 cs) := below_setCells ((Below.refl _ _).alloc (Nat.le_refl _) _) _ (Nat.le_refl _) _ _

/-- what Add answers, and what is in the pool then. -/
def pAddE (Kc : Nat → Int) (s : ByteArray) (l : List ByteArray) : Int := if txErr s.data.toList ≠ 0 then txErr s.data.toList else if mem (dd Kc s) l = true then 10 else if 20 ≤ l.length then 9 else 0
def pAddL (Kc : Nat → Int) (s : ByteArray) (l : List ByteArray) : List ByteArray := if pAddE Kc s l = 0 then dd Kc s :: l else l

set_option maxRecDepth 10000 in
set_option maxHeartbeats 4000000 in
theorem padd_no (s : ByteArray) (w : World) (pv : Value) (c : Int) (hm : s.size ≤ maxLen) (hc : txErr s.data.toList = c) (h0 : c ≠ 0) :
    Calls Tryd.prog 13 #[pv, .string s] w fun e w' => e = .returned (.int .i64 c) ∧ Below w.heap.size w w' := by
  have hr := read_any s w hm
  rw [hc, if_neg h0] at hr
  have hci : ¬ (c = 0) := h0
  clear hc hm
  go_enter Tryd.func13, Tryd.ntmps13
  go_wp2_with (go_at_call 25; go_must (refine hr.mono ?_); rintro e w1 ⟨rfl, hb1⟩; have HB1 := (show Hid (Below w.heap.size w w1) from hb1); clear hb1)
  go_ret
  exact ⟨rfl, HB1.out⟩

set_option maxRecDepth 10000 in
set_option maxHeartbeats 8000000 in
theorem padd_yes (Kc : Nat → Int) (s d : ByteArray) (w : World) (gx : Nat) (mb : Option Nat) (l : List ByteArray) (hP : PoolAt w gx mb l) (hkt : KT Kc w) (hm : s.size ≤ maxLen) (h0 : txErr s.data.toList = 0) (hdd : d = dd Kc s) (hl : l.length ≤ 20) (r : Int) (L : List ByteArray) (HR : Hid ((mem d l = true ∧ r = 10 ∧ L = l) ∨ (mem d l = false ∧ 20 ≤ l.length ∧ r = 9 ∧ L = l) ∨ (mem d l = false ∧ l.length < 20 ∧ r = 0 ∧ L = d :: l))) :
    Calls Tryd.prog 13 #[.pointer (some ⟨gx, 0, none⟩), .string s] w fun e w' => e = .returned (.int .i64 r) ∧ ∃ mb', PoolAt w' gx mb' L ∧ Only gx mb w w' ∧ (mb' = mb ∨ ∃ b, mb' = some b ∧ w.heap.size ≤ b) := by
  have hr := read_any s w hm
  have hpos : 0 < w.heap.size := World.block_lt_of_cell? w _ (hkt 0 (by omega))
  have hlen := txErr_len _ h0
  have hsz : s.size ≤ 610 := hlen
  have hd : d.size = 32 := by rw [hdd]; exact dd_size Kc s
  have HD : Hid (∀ W, Below w.heap.size w W → Calls Tryd.prog 27 #[.slice (some ⟨W.heap.size, 0, none⟩) 1 1] (W.alloc (.cells #[.string s] 9)) fun e w' => e = .returned (.agg (wl .u8 (byF d) 32).toArray) ∧ Below W.heap.size W w') := fun W hW => by
    have := double_one Kc s W (hkt.later hW hpos) (by omega)
    have e : wl .u8 (dbl Kc s.data.toList) 32 = wl .u8 (byF d) 32 := by
      rw [← bc_wl d 32 hd, hdd]; exact (bc_strOf (dbl Kc s.data.toList) 32 (fun j => shaF_lt Kc _ j)).symm
    rw [← e]; exact this
  rw [h0, if_pos rfl] at hr
  have HPA : Hid (∀ W, Below w.heap.size w W → PoolAt W gx mb l) := fun W hW => hP.later hW
  have hgw := hP.lt
  obtain ⟨p, hp, hlk⟩ := hP.look d hd
  have HLK : Hid (∀ W : World, (∀ b, mb = some b → W.heap[b]? = w.heap[b]?) → (Instr.lookup 36 (.map mb) (aggD d) true).run Tryd.prog W = .ok (.tuple #[pEl p, .bool (mem d l)]) W) := hlk
  have HMB : Hid (∀ W, Below w.heap.size w W → ∀ b, mb = some b → W.heap[b]? = w.heap[b]?) := fun W hW b hb => hW.block b (hP.bsome b hb).1
  clear hlk hkt hpos hlen hdd h0 hm hP
  have HNO : Hid (mem d l = false → d ∉ l) := fun h hm => by rw [(mem_iff d l).2 hm] at h; cases h
  generalize mem d l = ok at HLK HR HNO
  go_enter Tryd.func13, Tryd.ntmps13
  go_upto_region 5 with (first
    | (go_at_call 25; go_must (refine hr.mono ?_); rintro e w1 ⟨rfl, hb1⟩; have HB1 := (show Hid (Below w.heap.size w w1) from hb1); clear hb1)
    | (go_at_call 27; go_must (refine (HD.out _ HB1.out).mono ?_); rintro e w2 ⟨rfl, hb2⟩; have HB2 := (show Hid (Below w.heap.size w w2) from HB1.out.trans (hb2.mono HB1.out.size)); clear hb2)
    | (refine wpList_store_arr rfl 59 _ _ rfl w2.heap.size .u8 (fun _ => 0) (byF d) 32 rfl rfl ?_ sizeDig ?_; exact Arr.new _ _ 32 _ _ (by rfl)))
  obtain ⟨W4, hW4⟩ : ∃ W, W = (w2.alloc (.cells #[.int .u8 0, .int .u8 0, .int .u8 0, .int .u8 0, .int .u8 0, .int .u8 0, .int .u8 0, .int .u8 0, .int .u8 0, .int .u8 0, .int .u8 0, .int .u8 0, .int .u8 0, .int .u8 0, .int .u8 0, .int .u8 0, .int .u8 0, .int .u8 0, .int .u8 0, .int .u8 0, .int .u8 0, .int .u8 0, .int .u8 0, .int .u8 0, .int .u8 0, .int .u8 0, .int .u8 0, .int .u8 0, .int .u8 0, .int .u8 0, .int .u8 0, .int .u8 0] 59)).setCells w2.heap.size 0 (wl .u8 (byF d) 32) := ⟨_, rfl⟩
  have HX : Hid (W4.rangeAt w2.heap.size 0 (bc d)) := by
    show W4.rangeAt _ _ _
    rw [hW4, bc_wl d 32 hd]; exact ((Arr.new w2 (fun _ => 0) 32 #[.int .u8 0, .int .u8 0, .int .u8 0, .int .u8 0, .int .u8 0, .int .u8 0, .int .u8 0, .int .u8 0, .int .u8 0, .int .u8 0, .int .u8 0, .int .u8 0, .int .u8 0, .int .u8 0, .int .u8 0, .int .u8 0, .int .u8 0, .int .u8 0, .int .u8 0, .int .u8 0, .int .u8 0, .int .u8 0, .int .u8 0, .int .u8 0, .int .u8 0, .int .u8 0, .int .u8 0, .int .u8 0, .int .u8 0, .int .u8 0, .int .u8 0, .int .u8 0] 59 (by rfl)).all (byF d)).range
  have HB4 : Hid (Below w.heap.size w W4) := by
    show Below _ _ _
    rw [hW4]; exact below_setCells (HB2.out.alloc HB2.out.size _) _ HB2.out.size _ _
  have HBX : Hid (w2.heap.size < W4.heap.size) := by
    show _ < _
    have := (below_setCells (Below.refl 0 (w2.alloc (.cells #[.int .u8 0, .int .u8 0, .int .u8 0, .int .u8 0, .int .u8 0, .int .u8 0, .int .u8 0, .int .u8 0, .int .u8 0, .int .u8 0, .int .u8 0, .int .u8 0, .int .u8 0, .int .u8 0, .int .u8 0, .int .u8 0, .int .u8 0, .int .u8 0, .int .u8 0, .int .u8 0, .int .u8 0, .int .u8 0, .int .u8 0, .int .u8 0, .int .u8 0, .int .u8 0, .int .u8 0, .int .u8 0, .int .u8 0, .int .u8 0, .int .u8 0, .int .u8 0] 59))) w2.heap.size (Nat.zero_le _) (wl .u8 (byF d) 32) 0).size
    rw [hW4]
    simp only [World.size_alloc] at this
    omega
  have HW2 : Hid (w.heap.size ≤ w2.heap.size) := HB2.out.size
  rw [← hW4]
  clear hW4 HD HB1 HB2 hr
  generalize w2.heap.size = B at HX HBX HW2 ⊢
  refine q_frame (fun A HFR => ?_)
  have hsz : A.tmps.size = 55 := by rw [HFR.out]; rfl
  have h0 : A.eval (.tmp 0) = .pointer (some ⟨gx, 0, none⟩) := by rw [HFR.out]; rfl
  have h7 : A.eval (.tmp 7) = .pointer (some ⟨B, 0, none⟩) := by rw [HFR.out]; rfl
  have HBD : Below W4.heap.size W4 W4.drew := ⟨rfl, rfl, rfl, Nat.le_refl _, fun _ _ => rfl⟩
  have HS : ∀ W, Below W4.heap.size W4 W → W.cell? ⟨gx, 0, none⟩ = some (.map mb) ∧ W.rangeAt B 0 (bc d) ∧ (∀ b, mb = some b → W.heap[b]? = w.heap[b]?) := fun W hW =>
    ⟨(HPA.out W (HB4.out.trans (hW.mono HB4.out.size))).c, range_later HX.out hW HBX.out, HMB.out W (HB4.out.trans (hW.mono HB4.out.size))⟩
  refine wp_region_held_drew (S := fun W => W.cell? ⟨gx, 0, none⟩ = some (.map mb) ∧ W.rangeAt B 0 (bc d) ∧ (∀ b, mb = some b → W.heap[b]? = w.heap[b]?)) (by kernel_rfl) (HS _ HBD) (fun hS => ?_)
  refine wpAnyH_take (i := 0) (v := (.pointer (some ⟨gx, 0, none⟩))) rfl (by kernel_rfl) (by kernel_rfl) (by kernel_rfl) (fun _ _ _ h => h) (Or.inl ⟨by rfl, fun W hW => q_run1 0 (.pointer (some ⟨gx, 0, none⟩)) (by simp only [q_same, q_ne, q_sz, hsz, h0, h7, ne_eq, Nat.reduceEqDiff, not_false_eq_true, Nat.reduceLT]) (fun ρ hc hf e1 => by simp [go_sem, hc, hf, e1])⟩) hS ?_
  change wpAnyH _ _ _ _ _ _ _ (Act.put _ (some 22) _) _
  refine wpAnyH_take (i := 1) (v := (.pointer (some ⟨gx, 0, none⟩))) rfl (by kernel_rfl) (by kernel_rfl) (by kernel_rfl) (fun _ _ _ h => h) (Or.inl ⟨by rfl, fun W hW => q_run1 22 (.pointer (some ⟨gx, 0, none⟩)) (by simp only [q_same, q_ne, q_sz, hsz, h0, h7, ne_eq, Nat.reduceEqDiff, not_false_eq_true, Nat.reduceLT]) (fun ρ hc hf e1 => by simp [go_sem, hc, hf, e1])⟩) hS ?_
  change wpAnyH _ _ _ _ _ _ _ (Act.put _ (some 23) _) _
  refine wpAnyH_take (i := 2) (v := (.pointer (some ⟨gx, 0, none⟩))) rfl (by kernel_rfl) (by kernel_rfl) (by kernel_rfl) (fun _ _ _ h => h) (Or.inl ⟨by rfl, fun W hW => q_run1 23 (.pointer (some ⟨gx, 0, none⟩)) (by simp only [q_same, q_ne, q_sz, hsz, h0, h7, ne_eq, Nat.reduceEqDiff, not_false_eq_true, Nat.reduceLT]) (fun ρ hc hf e1 => by simp [go_sem, hc, hf, e1])⟩) hS ?_
  change wpAnyH _ _ _ _ _ _ _ (Act.put _ (some 24) _) _
  refine wpAnyH_take (i := 3) (v := (.map mb)) rfl (by kernel_rfl) (by kernel_rfl) (by kernel_rfl) (fun _ _ _ h => h) (Or.inl ⟨by rfl, fun W hW => q_run1 24 (.pointer (some ⟨gx, 0, none⟩)) (by simp only [q_same, q_ne, q_sz, hsz, h0, h7, ne_eq, Nat.reduceEqDiff, not_false_eq_true, Nat.reduceLT]) (fun ρ hc hf e1 => by simp [go_sem, hc, hf, e1, hW.1])⟩) hS ?_
  change wpAnyH _ _ _ _ _ _ _ (Act.put _ (some 25) _) _
  refine wpAnyH_take (i := 4) (v := aggD d) rfl (by kernel_rfl) (by kernel_rfl) (by kernel_rfl) (fun _ _ _ h => h) (yieldsIf_load_mid (by rfl) 59 _ rfl B 0 (by simp only [q_same, q_ne, q_sz, hsz, h0, h7, ne_eq, Nat.reduceEqDiff, not_false_eq_true, Nat.reduceLT]) (bc d) _ (fun W hW => hW.2.1) Tryd.underlying59 rfl (by rw [bc_length, hd]; exact sizeDig)) hS ?_
  change wpAnyH _ _ _ _ _ _ _ (Act.put _ (some 26) _) _
  refine wpAnyH_take (i := 5) (v := .tuple #[pEl p, .bool ok]) rfl (by kernel_rfl) (by kernel_rfl) (by kernel_rfl) (fun _ _ _ h => h) (Or.inl ⟨by rfl, fun W hW => q_run2 25 26 (.map mb) (aggD d) (by simp only [q_same, q_ne, q_sz, hsz, h0, h7, ne_eq, Nat.reduceEqDiff, not_false_eq_true, Nat.reduceLT]) (by simp only [q_same, q_ne, q_sz, hsz, h0, h7, ne_eq, Nat.reduceEqDiff, not_false_eq_true, Nat.reduceLT]) (fun ρ hc hf e1 e2 => by simp [go_sem, hc, hf, e1, e2, HLK.out W hW.2.2])⟩) hS ?_
  change wpAnyH _ _ _ _ _ _ _ (Act.put _ (some 27) _) _
  refine wpAnyH_take (i := 6) (v := .tuple #[pEl p, .bool ok]) rfl (by kernel_rfl) (by kernel_rfl) (by kernel_rfl) (fun _ _ _ h => h) (Or.inl ⟨by rfl, fun W hW => q_run1 27 (.tuple #[pEl p, .bool ok]) (by simp only [q_same, q_ne, q_sz, hsz, h0, h7, ne_eq, Nat.reduceEqDiff, not_false_eq_true, Nat.reduceLT]) (fun ρ hc hf e1 => by simp [go_sem, hc, hf, e1])⟩) hS ?_
  change wpAnyH _ _ _ _ _ _ _ (Act.put _ (some 21) _) _
  refine wpAnyH_take (i := 7) (v := pEl p) rfl (by kernel_rfl) (by kernel_rfl) (by kernel_rfl) (fun _ _ _ h => h) (Or.inl ⟨by rfl, fun W hW => q_run1 21 (.tuple #[pEl p, .bool ok]) (by simp only [q_same, q_ne, q_sz, hsz, h0, h7, ne_eq, Nat.reduceEqDiff, not_false_eq_true, Nat.reduceLT]) (fun ρ hc hf e1 => by simp [go_sem, hc, hf, e1])⟩) hS ?_
  change wpAnyH _ _ _ _ _ _ _ (Act.put _ (some 28) _) _
  refine wpAnyH_take (i := 8) (v := .bool ok) rfl (by kernel_rfl) (by kernel_rfl) (by kernel_rfl) (fun _ _ _ h => h) (Or.inl ⟨by rfl, fun W hW => q_run1 21 (.tuple #[pEl p, .bool ok]) (by simp only [q_same, q_ne, q_sz, hsz, h0, h7, ne_eq, Nat.reduceEqDiff, not_false_eq_true, Nat.reduceLT]) (fun ρ hc hf e1 => by simp [go_sem, hc, hf, e1])⟩) hS ?_
  change wpAnyH _ _ _ _ _ _ _ (Act.put _ (some 29) _) _
  have HBA : Below W4.heap.size W4 (W4.drew.alloc (.cells z33.toArray 67)) := HBD.alloc (Nat.le_refl _) _
  refine qH_one 9 (.pointer (some ⟨W4.heap.size, 0, none⟩)) (W4.drew.alloc (.cells z33.toArray 67)) (by kernel_rfl) rfl rfl (by show (Instr.alloc 67 true (.tuple #[]) >>= fun x => pure (.value x) : Sem Next).run Tryd.prog W4.drew = _; rw [Sem.run_bind, alloc_pooled W4.drew]; rfl) (HS _ HBA) ?_
  change wpAnyH _ _ _ _ _ _ _ (Act.put _ (some 8) _) _
  have HBS : Below W4.heap.size W4 ((W4.drew.alloc (.cells z33.toArray 67)).setCells W4.heap.size 0 (bc p.1 ++ [Value.string p.2])) := below_setCells HBA _ (Nat.le_refl _) _ _
  refine qH_skip 10 ((W4.drew.alloc (.cells z33.toArray 67)).setCells W4.heap.size 0 (bc p.1 ++ [Value.string p.2])) (by kernel_rfl) rfl rfl (q_run2 8 28 (.pointer (some ⟨W4.heap.size, 0, none⟩)) (pEl p) (by simp only [q_same, q_ne, q_sz, q_none, q_sz0, hsz, h0, h7, ne_eq, Nat.reduceEqDiff, not_false_eq_true, Nat.reduceLT]) (by simp only [q_same, q_ne, q_sz, q_none, q_sz0, hsz, h0, h7, ne_eq, Nat.reduceEqDiff, not_false_eq_true, Nat.reduceLT]) (fun ρ hc hf e1 e2 => by
    have hst := store_pooled W4.drew p hp
    show (Instr.storeAt 67 (ρ (.tmp 8)) (ρ (.tmp 28)) >>= fun _ => pure .skip : Sem Next).run Tryd.prog _ = _
    rw [e1, e2, Sem.run_bind]
    rw [show W4.drew.heap.size = W4.heap.size from rfl] at hst
    rw [hst]; rfl)) (HS _ HBS) ?_
  change wpAnyH _ _ _ _ _ _ _ (Act.put _ none _) _
  refine qH_one 11 (.bool ok) ((W4.drew.alloc (.cells z33.toArray 67)).setCells W4.heap.size 0 (bc p.1 ++ [Value.string p.2])) (by kernel_rfl) rfl rfl (q_run1 29 (.bool ok) (by simp only [q_same, q_ne, q_sz, q_none, q_sz0, hsz, h0, h7, ne_eq, Nat.reduceEqDiff, not_false_eq_true, Nat.reduceLT]) (fun ρ hc hf e1 => by simp [go_sem, hc, hf, e1])) (HS _ HBS) ?_
  change wpAnyH _ _ _ _ _ _ _ (Act.put _ (some 9) _) _
  refine wpAnyH_done (by kernel_rfl) ?_ _
  have hfr := HFR.out
  clear HFR hsz h0 h7 hS
  subst hfr
  simp only [Act.put, List.setIfInBounds_toArray, List.set_cons_zero, List.set_cons_succ]
  generalize hW5 : (W4.drew.alloc (.cells z33.toArray 67)).setCells W4.heap.size 0 (bc p.1 ++ [Value.string p.2]) = W5 at HBS ⊢
  clear hW5
  have HP5 : Hid (PoolAt W5 gx mb l) := HPA.out W5 (HB4.out.trans (HBS.mono HB4.out.size))
  have HX5 : Hid (W5.rangeAt B 0 (bc d)) := (HS W5 HBS).2.1
  have HB5 : Hid (Below w.heap.size w W5) := HB4.out.trans (HBS.mono HB4.out.size)
  have HBX5 : Hid (B < W5.heap.size) := by show _ < _; have := HBS.size; have := HBX.out; omega
  have c5 : W5.cell? ⟨gx, 0, none⟩ = some (.map mb) := HP5.out.c
  have f5 : W5.frozen? ⟨gx, 0, none⟩ = false := HP5.out.f
  have hln : ∀ ty, (Builtin.len_ #[36] ty #[.map mb]).run Tryd.prog W5 = .ok (.int .i64 (l.length : Int)) W5 := fun ty => HP5.out.len ty
  clear HS HBS HBA HBD HLK HMB HX HBX HPA HB4 hp
  rcases HR.out with ⟨rfl, rfl, hL⟩ | ⟨rfl, hf, rfl, hL⟩ | ⟨rfl, hf, rfl, hL⟩
  · have hL2 := hL.symm
    subst hL2
    clear HR hL
    go_wp2
    go_ret
    exact ⟨rfl, mb, HP5.out, Only.of_below HB5.out, .inl rfl⟩
  · have hL2 := hL.symm
    subst hL2
    clear hL
    have hfi : (20 : Int) ≤ (l.length : Int) := by omega
    have HQ : Hid (∃ mb', PoolAt W5 gx mb' l ∧ Only gx mb w W5 ∧ (mb' = mb ∨ ∃ b, mb' = some b ∧ w.heap.size ≤ b)) := ⟨mb, HP5.out, Only.of_below HB5.out, .inl rfl⟩
    clear HP5 HX5 HB5 HR hf
    generalize (l.length : Int) = LN at hln hfi
    go_wp2
    go_ret
    obtain ⟨mb', h1, h2, h3⟩ := HQ.out
    exact ⟨rfl, mb', h1, h2, h3⟩
  · have hL2 := hL.symm
    subst hL2
    clear hL
    have hfi : ¬ ((20 : Int) ≤ (l.length : Int)) := by omega
    have HLL : Hid (l.length < maxLen) := by show _ < _; unfold maxLen; omega
    have HND : Hid (d ∉ l) := HNO.out rfl
    clear HR hf HNO
    generalize (l.length : Int) = LN at hln hfi
    cases mb with
    | none =>
      have hmk := @run_makeMap Tryd.prog
      have heqm := eqlm_nil
      have hl0 : l = [] := by
        rcases HP5.out.m with ⟨_, h⟩ | ⟨_, _, h, _⟩
        · exact h
        · cases h
      subst hl0
      have c6 : (W5.alloc (.map #[] 0)).cell? ⟨gx, 0, none⟩ = some (.map none) := by rw [((Below.refl W5.heap.size W5).alloc (Nat.le_refl _) _).cell (p := ⟨gx, 0, none⟩) HP5.out.lt]; exact c5
      have f6 : (W5.alloc (.map #[] 0)).frozen? ⟨gx, 0, none⟩ = false := by rw [((Below.refl W5.heap.size W5).alloc (Nat.le_refl _) _).frozen (p := ⟨gx, 0, none⟩) HP5.out.lt]; exact f5
      go_upto_region 12 with fail
      have HP6 : Hid (PoolAt ((W5.alloc (.map #[] 0)).setCell ⟨gx, 0, none⟩ (.map (some W5.heap.size))) gx (some W5.heap.size) []) := HP5.out.made HP5.out.lt
      have HB6 : Below W5.heap.size W5 (W5.alloc (.map #[] 0)) := (Below.refl _ _).alloc (Nat.le_refl _) _
      have HBg : Hid (gx ≠ B) := fun e => by
        obtain ⟨u, hu⟩ : ∃ u, (bc d)[0]? = some u := ⟨_, List.getElem?_eq_getElem (by rw [bc_length, hd]; omega)⟩
        obtain ⟨x, rfl⟩ := bc_int d 0 u hu
        have h1 := HX5.out 0 _ hu
        subst e
        rw [Nat.add_zero] at h1
        rw [c5] at h1; cases h1
      have HX6 : Hid (((W5.alloc (.map #[] 0)).setCell ⟨gx, 0, none⟩ (.map (some W5.heap.size))).rangeAt B 0 (bc d)) := fun j v hv => by
        rw [World.cell?_setCell_other _ _ _ _ (by intro e; exact HBg.out (by injection e))]
        exact range_later HX5.out HB6 HBX5.out j v hv
      have HO6 : Hid (Only gx none w ((W5.alloc (.map #[] 0)).setCell ⟨gx, 0, none⟩ (.map (some W5.heap.size)))) := ((Only.of_below HB5.out).after (HB6.mono HB5.out.size)).set 0 _
      have HBX6 : Hid (B < ((W5.alloc (.map #[] 0)).setCell ⟨gx, 0, none⟩ (.map (some W5.heap.size))).heap.size) := by show _ < _; have := HBX5.out; simp; omega
      have HMB : Hid ((none : Option Nat) = some W5.heap.size ∨ w.heap.size ≤ W5.heap.size) := .inr HB5.out.size
      have HME : Hid (∃ mb', mb' = some W5.heap.size ∧ (mb' = none ∨ ∃ b, mb' = some b ∧ w.heap.size ≤ b)) := ⟨_, rfl, .inr ⟨_, rfl, HB5.out.size⟩⟩
      generalize (W5.alloc (.map #[] 0)).setCell ⟨gx, 0, none⟩ (.map (some W5.heap.size)) = W6 at HP6 HX6 HO6 HBX6 ⊢
      generalize W5.heap.size = bm at HP6 HMB HME ⊢
      clear HP5 HX5 HB5 HBX5 HB6 c5 f5 c6 f6 hln hmk HBg heqm
      refine q_frame (fun A HFR => ?_)
      have hsz : A.tmps.size = 55 := by rw [HFR.out]; rfl
      have h0 : A.eval (.tmp 0) = .pointer (some ⟨gx, 0, none⟩) := by rw [HFR.out]; rfl
      have h5 : A.eval (.tmp 5) = .string s := by rw [HFR.out]; rfl
      have h7 : A.eval (.tmp 7) = .pointer (some ⟨B, 0, none⟩) := by rw [HFR.out]; rfl
      have HBD : Below W6.heap.size W6 W6.drew := ⟨rfl, rfl, rfl, Nat.le_refl _, fun _ _ => rfl⟩
      have HS : ∀ W, Below W6.heap.size W6 W → W.cell? ⟨gx, 0, none⟩ = some (.map (some bm)) ∧ W.rangeAt B 0 (bc d) := fun W hW => ⟨(HP6.out.later hW).c, range_later HX6.out hW HBX6.out⟩
      refine wp_region_held_drew (S := fun W => W.cell? ⟨gx, 0, none⟩ = some (.map (some bm)) ∧ W.rangeAt B 0 (bc d)) (by kernel_rfl) (HS _ HBD) (fun hS => ?_)
      refine wpAnyH_take (i := 0) (v := (.pointer (some ⟨gx, 0, none⟩))) rfl (by kernel_rfl) (by kernel_rfl) (by kernel_rfl) (fun _ _ _ h => h) (Or.inl ⟨by rfl, fun W hW => q_run1 0 (.pointer (some ⟨gx, 0, none⟩)) (by simp only [q_same, q_ne, q_sz, hsz, h0, h5, h7, ne_eq, Nat.reduceEqDiff, not_false_eq_true, Nat.reduceLT]) (fun ρ hc hf e1 => by simp [go_sem, hc, hf, e1])⟩) hS ?_
      change wpAnyH _ _ _ _ _ _ _ (Act.put _ (some 46) _) _
      refine wpAnyH_take (i := 1) (v := (.pointer (some ⟨gx, 0, none⟩))) rfl (by kernel_rfl) (by kernel_rfl) (by kernel_rfl) (fun _ _ _ h => h) (Or.inl ⟨by rfl, fun W hW => q_run1 46 (.pointer (some ⟨gx, 0, none⟩)) (by simp only [q_same, q_ne, q_sz, hsz, h0, h5, h7, ne_eq, Nat.reduceEqDiff, not_false_eq_true, Nat.reduceLT]) (fun ρ hc hf e1 => by simp [go_sem, hc, hf, e1])⟩) hS ?_
      change wpAnyH _ _ _ _ _ _ _ (Act.put _ (some 47) _) _
      refine wpAnyH_take (i := 2) (v := (.pointer (some ⟨gx, 0, none⟩))) rfl (by kernel_rfl) (by kernel_rfl) (by kernel_rfl) (fun _ _ _ h => h) (Or.inl ⟨by rfl, fun W hW => q_run1 47 (.pointer (some ⟨gx, 0, none⟩)) (by simp only [q_same, q_ne, q_sz, hsz, h0, h5, h7, ne_eq, Nat.reduceEqDiff, not_false_eq_true, Nat.reduceLT]) (fun ρ hc hf e1 => by simp [go_sem, hc, hf, e1])⟩) hS ?_
      change wpAnyH _ _ _ _ _ _ _ (Act.put _ (some 48) _) _
      refine wpAnyH_take (i := 3) (v := (.map (some bm))) rfl (by kernel_rfl) (by kernel_rfl) (by kernel_rfl) (fun _ _ _ h => h) (Or.inl ⟨by rfl, fun W hW => q_run1 48 (.pointer (some ⟨gx, 0, none⟩)) (by simp only [q_same, q_ne, q_sz, hsz, h0, h5, h7, ne_eq, Nat.reduceEqDiff, not_false_eq_true, Nat.reduceLT]) (fun ρ hc hf e1 => by simp [go_sem, hc, hf, e1, hW.1])⟩) hS ?_
      change wpAnyH _ _ _ _ _ _ _ (Act.put _ (some 49) _) _
      refine wpAnyH_take (i := 4) (v := aggD d) rfl (by kernel_rfl) (by kernel_rfl) (by kernel_rfl) (fun _ _ _ h => h) (yieldsIf_load_mid (by rfl) 59 _ rfl B 0 (by simp only [q_same, q_ne, q_sz, hsz, h0, h5, h7, ne_eq, Nat.reduceEqDiff, not_false_eq_true, Nat.reduceLT]) (bc d) _ (fun W hW => hW.2) Tryd.underlying59 rfl (by rw [bc_length, hd]; exact sizeDig)) hS ?_
      change wpAnyH _ _ _ _ _ _ _ (Act.put _ (some 50) _) _
      refine wpAnyH_take (i := 5) (v := aggD d) rfl (by kernel_rfl) (by kernel_rfl) (by kernel_rfl) (fun _ _ _ h => h) (yieldsIf_load_mid (by rfl) 59 _ rfl B 0 (by simp only [q_same, q_ne, q_sz, hsz, h0, h5, h7, ne_eq, Nat.reduceEqDiff, not_false_eq_true, Nat.reduceLT]) (bc d) _ (fun W hW => hW.2) Tryd.underlying59 rfl (by rw [bc_length, hd]; exact sizeDig)) hS ?_
      change wpAnyH _ _ _ _ _ _ _ (Act.put _ (some 51) _) _
      refine wpAnyH_take (i := 6) (v := (.string s)) rfl (by kernel_rfl) (by kernel_rfl) (by kernel_rfl) (fun _ _ _ h => h) (Or.inl ⟨by rfl, fun W hW => q_run1 5 (.string s) (by simp only [q_same, q_ne, q_sz, hsz, h0, h5, h7, ne_eq, Nat.reduceEqDiff, not_false_eq_true, Nat.reduceLT]) (fun ρ hc hf e1 => by simp [go_sem, hc, hf, e1])⟩) hS ?_
      change wpAnyH _ _ _ _ _ _ _ (Act.put _ (some 52) _) _
      refine qH_call 7 28 #[.string s] _ (by kernel_rfl) rfl rfl (q_run1 52 (.string s) (by simp only [q_same, q_ne, q_sz, hsz, h0, h5, h7, ne_eq, Nat.reduceEqDiff, not_false_eq_true, Nat.reduceLT]) (fun ρ hc hf e1 => by simp [go_sem, hc, hf, e1])) (calls_val (clone_any s _ (by omega))) ?_
      rintro _ w7 ⟨rfl, hb7⟩
      have HB7 : Below W6.heap.size W6 w7 := HBD.trans hb7
      refine ⟨HS _ HB7, ?_⟩
      change wpAnyH _ _ _ _ _ _ _ (Act.put _ (some 53) _) _
      have hbd : ∀ W : World, (Instr.build 67 #[(0, aggD d), (1, .string s)]).run Tryd.prog W = .ok (pEl (d, s)) W := fun W => run_build W _ _ _ (built_pd (bc d) (by rw [bc_length, hd]) s)
      refine qH_one 8 (pEl (d, s)) w7 (by kernel_rfl) rfl rfl (q_run2 51 53 (aggD d) (.string s) (by simp only [q_same, q_ne, q_sz, hsz, h0, h5, h7, ne_eq, Nat.reduceEqDiff, not_false_eq_true, Nat.reduceLT]) (by simp only [q_same, q_ne, q_sz, hsz, h0, h5, h7, ne_eq, Nat.reduceEqDiff, not_false_eq_true, Nat.reduceLT]) (fun ρ hc hf e1 e2 => by
        exact run_build2 rfl e1 e2 (hbd w7))) (HS _ HB7) ?_
      change wpAnyH _ _ _ _ _ _ _ (Act.put _ (some 54) _) _
      obtain ⟨w8, hrun, hP8, hg8⟩ := (HP6.out.later HB7).store d hd HND.out HLL.out (d, s) hd
      refine qH_skip 9 w8 (by kernel_rfl) rfl rfl (by
        show (Instr.mapUpdate 36 _ _ _ >>= fun _ => pure .skip : Sem Next).run Tryd.prog _ = _
        rw [show Act.eval _ (.tmp 49) = Value.map (some bm) from (by simp only [q_same, q_ne, q_sz, hsz, h0, h5, h7, ne_eq, Nat.reduceEqDiff, not_false_eq_true, Nat.reduceLT]), show Act.eval _ (.tmp 50) = aggD d from (by simp only [q_same, q_ne, q_sz, hsz, h0, h5, h7, ne_eq, Nat.reduceEqDiff, not_false_eq_true, Nat.reduceLT]), show Act.eval _ (.tmp 54) = pEl (d, s) from (by simp only [q_same, q_ne, q_sz, hsz, h0, h5, h7, ne_eq, Nat.reduceEqDiff, not_false_eq_true, Nat.reduceLT]), Sem.run_bind, hrun]; rfl) ⟨hP8.c, fun j v hv => by
        have hBb : B ≠ bm := fun e => by
          rcases HP6.out.m with ⟨h, _⟩ | ⟨b', D, h, ho, _⟩
          · cases h
          · injection h with h
            obtain ⟨es, clock, hb, _⟩ := ho
            have h1 := HX6.out j v hv
            rw [e, h] at h1
            simp [World.cell?, hb] at h1
        rw [World.cell?_of_block (hg8.block B (Nat.lt_of_lt_of_le HBX6.out HB7.size) (fun e => hBb (by injection e)))]
        exact (HS _ HB7).2 j v hv⟩ ?_
      change wpAnyH _ _ _ _ _ _ _ (Act.put _ none _) _
      refine wpAnyH_done (by kernel_rfl) ?_ _
      have hfr := HFR.out
      have HPZ : Hid (PoolAt w8 gx (some bm) (d :: [])) := hP8
      have HOZ : Hid (Only gx none w w8) := (HO6.out.after (HB7.mono HO6.out.size)).turned hg8 HMB.out
      clear HFR hsz h0 h5 h7 hS HS HBD HB7 hrun hP8 hg8 hbd
      subst hfr
      simp only [Act.put, List.setIfInBounds_toArray, List.set_cons_zero, List.set_cons_succ]
      go_wp2
      go_ret
      obtain ⟨mb', e1, e2⟩ := HME.out
      exact ⟨rfl, mb', e1 ▸ HPZ.out, HOZ.out, e2⟩
    | some bm =>
      have heqm := eqlm_some bm
      go_upto_region 12 with fail
      have HP6 : Hid (PoolAt W5 gx (some bm) l) := HP5.out
      have HX6 : Hid (W5.rangeAt B 0 (bc d)) := HX5.out
      have HO6 : Hid (Only gx (some bm) w W5) := Only.of_below HB5.out
      have HBX6 : Hid (B < W5.heap.size) := HBX5.out
      have HMB : Hid ((some bm : Option Nat) = some bm ∨ w.heap.size ≤ bm) := .inl rfl
      have HME : Hid (∃ mb', mb' = some bm ∧ (mb' = some bm ∨ ∃ b, mb' = some b ∧ w.heap.size ≤ b)) := ⟨_, rfl, .inl rfl⟩
      clear HP5 HX5 HB5 HBX5 c5 f5 hln heqm
      generalize W5 = W6 at HP6 HX6 HO6 HBX6 ⊢
      refine q_frame (fun A HFR => ?_)
      have hsz : A.tmps.size = 55 := by rw [HFR.out]; rfl
      have h0 : A.eval (.tmp 0) = .pointer (some ⟨gx, 0, none⟩) := by rw [HFR.out]; rfl
      have h5 : A.eval (.tmp 5) = .string s := by rw [HFR.out]; rfl
      have h7 : A.eval (.tmp 7) = .pointer (some ⟨B, 0, none⟩) := by rw [HFR.out]; rfl
      have HBD : Below W6.heap.size W6 W6.drew := ⟨rfl, rfl, rfl, Nat.le_refl _, fun _ _ => rfl⟩
      have HS : ∀ W, Below W6.heap.size W6 W → W.cell? ⟨gx, 0, none⟩ = some (.map (some bm)) ∧ W.rangeAt B 0 (bc d) := fun W hW => ⟨(HP6.out.later hW).c, range_later HX6.out hW HBX6.out⟩
      refine wp_region_held_drew (S := fun W => W.cell? ⟨gx, 0, none⟩ = some (.map (some bm)) ∧ W.rangeAt B 0 (bc d)) (by kernel_rfl) (HS _ HBD) (fun hS => ?_)
      refine wpAnyH_take (i := 0) (v := (.pointer (some ⟨gx, 0, none⟩))) rfl (by kernel_rfl) (by kernel_rfl) (by kernel_rfl) (fun _ _ _ h => h) (Or.inl ⟨by rfl, fun W hW => q_run1 0 (.pointer (some ⟨gx, 0, none⟩)) (by simp only [q_same, q_ne, q_sz, hsz, h0, h5, h7, ne_eq, Nat.reduceEqDiff, not_false_eq_true, Nat.reduceLT]) (fun ρ hc hf e1 => by simp [go_sem, hc, hf, e1])⟩) hS ?_
      change wpAnyH _ _ _ _ _ _ _ (Act.put _ (some 46) _) _
      refine wpAnyH_take (i := 1) (v := (.pointer (some ⟨gx, 0, none⟩))) rfl (by kernel_rfl) (by kernel_rfl) (by kernel_rfl) (fun _ _ _ h => h) (Or.inl ⟨by rfl, fun W hW => q_run1 46 (.pointer (some ⟨gx, 0, none⟩)) (by simp only [q_same, q_ne, q_sz, hsz, h0, h5, h7, ne_eq, Nat.reduceEqDiff, not_false_eq_true, Nat.reduceLT]) (fun ρ hc hf e1 => by simp [go_sem, hc, hf, e1])⟩) hS ?_
      change wpAnyH _ _ _ _ _ _ _ (Act.put _ (some 47) _) _
      refine wpAnyH_take (i := 2) (v := (.pointer (some ⟨gx, 0, none⟩))) rfl (by kernel_rfl) (by kernel_rfl) (by kernel_rfl) (fun _ _ _ h => h) (Or.inl ⟨by rfl, fun W hW => q_run1 47 (.pointer (some ⟨gx, 0, none⟩)) (by simp only [q_same, q_ne, q_sz, hsz, h0, h5, h7, ne_eq, Nat.reduceEqDiff, not_false_eq_true, Nat.reduceLT]) (fun ρ hc hf e1 => by simp [go_sem, hc, hf, e1])⟩) hS ?_
      change wpAnyH _ _ _ _ _ _ _ (Act.put _ (some 48) _) _
      refine wpAnyH_take (i := 3) (v := (.map (some bm))) rfl (by kernel_rfl) (by kernel_rfl) (by kernel_rfl) (fun _ _ _ h => h) (Or.inl ⟨by rfl, fun W hW => q_run1 48 (.pointer (some ⟨gx, 0, none⟩)) (by simp only [q_same, q_ne, q_sz, hsz, h0, h5, h7, ne_eq, Nat.reduceEqDiff, not_false_eq_true, Nat.reduceLT]) (fun ρ hc hf e1 => by simp [go_sem, hc, hf, e1, hW.1])⟩) hS ?_
      change wpAnyH _ _ _ _ _ _ _ (Act.put _ (some 49) _) _
      refine wpAnyH_take (i := 4) (v := aggD d) rfl (by kernel_rfl) (by kernel_rfl) (by kernel_rfl) (fun _ _ _ h => h) (yieldsIf_load_mid (by rfl) 59 _ rfl B 0 (by simp only [q_same, q_ne, q_sz, hsz, h0, h5, h7, ne_eq, Nat.reduceEqDiff, not_false_eq_true, Nat.reduceLT]) (bc d) _ (fun W hW => hW.2) Tryd.underlying59 rfl (by rw [bc_length, hd]; exact sizeDig)) hS ?_
      change wpAnyH _ _ _ _ _ _ _ (Act.put _ (some 50) _) _
      refine wpAnyH_take (i := 5) (v := aggD d) rfl (by kernel_rfl) (by kernel_rfl) (by kernel_rfl) (fun _ _ _ h => h) (yieldsIf_load_mid (by rfl) 59 _ rfl B 0 (by simp only [q_same, q_ne, q_sz, hsz, h0, h5, h7, ne_eq, Nat.reduceEqDiff, not_false_eq_true, Nat.reduceLT]) (bc d) _ (fun W hW => hW.2) Tryd.underlying59 rfl (by rw [bc_length, hd]; exact sizeDig)) hS ?_
      change wpAnyH _ _ _ _ _ _ _ (Act.put _ (some 51) _) _
      refine wpAnyH_take (i := 6) (v := (.string s)) rfl (by kernel_rfl) (by kernel_rfl) (by kernel_rfl) (fun _ _ _ h => h) (Or.inl ⟨by rfl, fun W hW => q_run1 5 (.string s) (by simp only [q_same, q_ne, q_sz, hsz, h0, h5, h7, ne_eq, Nat.reduceEqDiff, not_false_eq_true, Nat.reduceLT]) (fun ρ hc hf e1 => by simp [go_sem, hc, hf, e1])⟩) hS ?_
      change wpAnyH _ _ _ _ _ _ _ (Act.put _ (some 52) _) _
      refine qH_call 7 28 #[.string s] _ (by kernel_rfl) rfl rfl (q_run1 52 (.string s) (by simp only [q_same, q_ne, q_sz, hsz, h0, h5, h7, ne_eq, Nat.reduceEqDiff, not_false_eq_true, Nat.reduceLT]) (fun ρ hc hf e1 => by simp [go_sem, hc, hf, e1])) (calls_val (clone_any s _ (by omega))) ?_
      rintro _ w7 ⟨rfl, hb7⟩
      have HB7 : Below W6.heap.size W6 w7 := HBD.trans hb7
      refine ⟨HS _ HB7, ?_⟩
      change wpAnyH _ _ _ _ _ _ _ (Act.put _ (some 53) _) _
      have hbd : ∀ W : World, (Instr.build 67 #[(0, aggD d), (1, .string s)]).run Tryd.prog W = .ok (pEl (d, s)) W := fun W => run_build W _ _ _ (built_pd (bc d) (by rw [bc_length, hd]) s)
      refine qH_one 8 (pEl (d, s)) w7 (by kernel_rfl) rfl rfl (q_run2 51 53 (aggD d) (.string s) (by simp only [q_same, q_ne, q_sz, hsz, h0, h5, h7, ne_eq, Nat.reduceEqDiff, not_false_eq_true, Nat.reduceLT]) (by simp only [q_same, q_ne, q_sz, hsz, h0, h5, h7, ne_eq, Nat.reduceEqDiff, not_false_eq_true, Nat.reduceLT]) (fun ρ hc hf e1 e2 => by
        exact run_build2 rfl e1 e2 (hbd w7))) (HS _ HB7) ?_
      change wpAnyH _ _ _ _ _ _ _ (Act.put _ (some 54) _) _
      obtain ⟨w8, hrun, hP8, hg8⟩ := (HP6.out.later HB7).store d hd HND.out HLL.out (d, s) hd
      refine qH_skip 9 w8 (by kernel_rfl) rfl rfl (by
        show (Instr.mapUpdate 36 _ _ _ >>= fun _ => pure .skip : Sem Next).run Tryd.prog _ = _
        rw [show Act.eval _ (.tmp 49) = Value.map (some bm) from (by simp only [q_same, q_ne, q_sz, hsz, h0, h5, h7, ne_eq, Nat.reduceEqDiff, not_false_eq_true, Nat.reduceLT]), show Act.eval _ (.tmp 50) = aggD d from (by simp only [q_same, q_ne, q_sz, hsz, h0, h5, h7, ne_eq, Nat.reduceEqDiff, not_false_eq_true, Nat.reduceLT]), show Act.eval _ (.tmp 54) = pEl (d, s) from (by simp only [q_same, q_ne, q_sz, hsz, h0, h5, h7, ne_eq, Nat.reduceEqDiff, not_false_eq_true, Nat.reduceLT]), Sem.run_bind, hrun]; rfl) ⟨hP8.c, fun j v hv => by
        have hBb : B ≠ bm := fun e => by
          rcases HP6.out.m with ⟨h, _⟩ | ⟨b', D, h, ho, _⟩
          · cases h
          · injection h with h
            obtain ⟨es, clock, hb, _⟩ := ho
            have h1 := HX6.out j v hv
            rw [e, h] at h1
            simp [World.cell?, hb] at h1
        rw [World.cell?_of_block (hg8.block B (Nat.lt_of_lt_of_le HBX6.out HB7.size) (fun e => hBb (by injection e)))]
        exact (HS _ HB7).2 j v hv⟩ ?_
      change wpAnyH _ _ _ _ _ _ _ (Act.put _ none _) _
      refine wpAnyH_done (by kernel_rfl) ?_ _
      have hfr := HFR.out
      have HPZ : Hid (PoolAt w8 gx (some bm) (d :: l)) := hP8
      have HOZ : Hid (Only gx (some bm) w w8) := (HO6.out.after (HB7.mono HO6.out.size)).turned hg8 HMB.out
      clear HFR hsz h0 h5 h7 hS HS HBD HB7 hrun hP8 hg8 hbd
      subst hfr
      simp only [Act.put, List.setIfInBounds_toArray, List.set_cons_zero, List.set_cons_succ]
      go_wp2
      go_ret
      obtain ⟨mb', e1, e2⟩ := HME.out
      exact ⟨rfl, mb', e1 ▸ HPZ.out, HOZ.out, e2⟩
end Go.Proofs.YtkmalggeieiepabDoor
set_option linter.unusedSimpArgs false
set_option linter.unusedVariables false
namespace Go.Proofs.YtkmalggeieiepabDoor
open Go.RowKit

set_option maxRecDepth 10000 in
set_option maxHeartbeats 4000000 in
theorem pdrop_no (s : ByteArray) (w : World) (pv : Value) (h : s.size ≠ 32) :
    Calls Tryd.prog 15 #[pv, .string s] w fun e w' => e = .returned (.bool false) ∧ Below w.heap.size w w' := by
  have HD : Hid (Calls Tryd.prog 29 #[.string s] w fun e w' => e = .returned (.tuple #[.agg (wl .u8 (fun _ => 0) 32).toArray, .bool false]) ∧ Below w.heap.size w w') := digestOf_no s w h
  clear h
  go_enter Tryd.func15, Tryd.ntmps15
  go_wp2_with (first
    | (go_at_call 29; go_must (refine HD.out.mono ?_); rintro e w1 ⟨rfl, hb1⟩; have HB1 := (show Hid (Below w.heap.size w w1) from hb1); clear hb1)
    | (refine wpList_store_arr rfl 59 _ _ rfl w1.heap.size .u8 (fun _ => 0) (fun _ => 0) 32 rfl rfl ?_ sizeDig ?_; exact Arr.new _ _ 32 _ _ (by rfl)))
  go_ret
  exact ⟨rfl, below_setCells (HB1.out.alloc HB1.out.size _) _ HB1.out.size _ _⟩

set_option maxRecDepth 10000 in
set_option maxHeartbeats 8000000 in
theorem pdrop_yes (d : ByteArray) (w : World) (gx : Nat) (mb : Option Nat) (l : List ByteArray) (hP : PoolAt w gx mb l) (hd : d.size = 32) :
    Calls Tryd.prog 15 #[.pointer (some ⟨gx, 0, none⟩), .string d] w fun e w' => e = .returned (.bool (mem d l)) ∧ PoolAt w' gx mb (del d l) ∧ Only gx mb w w' := by
  have HD : Hid (Calls Tryd.prog 29 #[.string d] w fun e w' => e = .returned (.tuple #[.agg (wl .u8 (byF d) 32).toArray, .bool true]) ∧ Below w.heap.size w w') := by
    have := digestOf_ok d w hd
    unfold aggD at this; rw [bc_wl d 32 hd] at this; exact this
  have HPA : Hid (∀ W, Below w.heap.size w W → PoolAt W gx mb l) := fun W hW => hP.later hW
  obtain ⟨p, hp, hlk⟩ := hP.look d hd
  have HLK : Hid (∀ W : World, (∀ b, mb = some b → W.heap[b]? = w.heap[b]?) → (Instr.lookup 36 (.map mb) (aggD d) true).run Tryd.prog W = .ok (.tuple #[pEl p, .bool (mem d l)]) W) := hlk
  have HMB : Hid (∀ W, Below w.heap.size w W → ∀ b, mb = some b → W.heap[b]? = w.heap[b]?) := fun W hW b hb => hW.block b (hP.bsome b hb).1
  clear hlk hP
  generalize mem d l = ok at HLK ⊢
  go_enter Tryd.func15, Tryd.ntmps15
  go_upto_region 4 with (first
    | (go_at_call 29; go_must (refine HD.out.mono ?_); rintro e w2 ⟨rfl, hb2⟩; have HB2 := (show Hid (Below w.heap.size w w2) from hb2); clear hb2)
    | (refine wpList_store_arr rfl 59 _ _ rfl w2.heap.size .u8 (fun _ => 0) (byF d) 32 rfl rfl ?_ sizeDig ?_; exact Arr.new _ _ 32 _ _ (by rfl)))
  obtain ⟨W4, hW4⟩ : ∃ W, W = (w2.alloc (.cells #[.int .u8 0, .int .u8 0, .int .u8 0, .int .u8 0, .int .u8 0, .int .u8 0, .int .u8 0, .int .u8 0, .int .u8 0, .int .u8 0, .int .u8 0, .int .u8 0, .int .u8 0, .int .u8 0, .int .u8 0, .int .u8 0, .int .u8 0, .int .u8 0, .int .u8 0, .int .u8 0, .int .u8 0, .int .u8 0, .int .u8 0, .int .u8 0, .int .u8 0, .int .u8 0, .int .u8 0, .int .u8 0, .int .u8 0, .int .u8 0, .int .u8 0, .int .u8 0] 59)).setCells w2.heap.size 0 (wl .u8 (byF d) 32) := ⟨_, rfl⟩
  have HX : Hid (W4.rangeAt w2.heap.size 0 (bc d)) := by
    show W4.rangeAt _ _ _
    rw [hW4, bc_wl d 32 hd]; exact ((Arr.new w2 (fun _ => 0) 32 #[.int .u8 0, .int .u8 0, .int .u8 0, .int .u8 0, .int .u8 0, .int .u8 0, .int .u8 0, .int .u8 0, .int .u8 0, .int .u8 0, .int .u8 0, .int .u8 0, .int .u8 0, .int .u8 0, .int .u8 0, .int .u8 0, .int .u8 0, .int .u8 0, .int .u8 0, .int .u8 0, .int .u8 0, .int .u8 0, .int .u8 0, .int .u8 0, .int .u8 0, .int .u8 0, .int .u8 0, .int .u8 0, .int .u8 0, .int .u8 0, .int .u8 0, .int .u8 0] 59 (by rfl)).all (byF d)).range
  have HB4 : Hid (Below w.heap.size w W4) := by
    show Below _ _ _
    rw [hW4]; exact below_setCells (HB2.out.alloc HB2.out.size _) _ HB2.out.size _ _
  have HBX : Hid (w2.heap.size < W4.heap.size) := by
    show _ < _
    have := (below_setCells (Below.refl 0 (w2.alloc (.cells #[.int .u8 0, .int .u8 0, .int .u8 0, .int .u8 0, .int .u8 0, .int .u8 0, .int .u8 0, .int .u8 0, .int .u8 0, .int .u8 0, .int .u8 0, .int .u8 0, .int .u8 0, .int .u8 0, .int .u8 0, .int .u8 0, .int .u8 0, .int .u8 0, .int .u8 0, .int .u8 0, .int .u8 0, .int .u8 0, .int .u8 0, .int .u8 0, .int .u8 0, .int .u8 0, .int .u8 0, .int .u8 0, .int .u8 0, .int .u8 0, .int .u8 0, .int .u8 0] 59))) w2.heap.size (Nat.zero_le _) (wl .u8 (byF d) 32) 0).size
    rw [hW4]
    simp only [World.size_alloc] at this
    omega
  rw [← hW4]
  clear hW4 HD HB2
  generalize w2.heap.size = B at HX HBX ⊢
  refine q_frame (fun A HFR => ?_)
  have hsz : A.tmps.size = 31 := by rw [HFR.out]; rfl
  have h0 : A.eval (.tmp 0) = .pointer (some ⟨gx, 0, none⟩) := by rw [HFR.out]; rfl
  have h5 : A.eval (.tmp 5) = .pointer (some ⟨B, 0, none⟩) := by rw [HFR.out]; rfl
  have HBD : Below W4.heap.size W4 W4.drew := ⟨rfl, rfl, rfl, Nat.le_refl _, fun _ _ => rfl⟩
  have HS : ∀ W, Below W4.heap.size W4 W → W.cell? ⟨gx, 0, none⟩ = some (.map mb) ∧ W.rangeAt B 0 (bc d) ∧ (∀ b, mb = some b → W.heap[b]? = w.heap[b]?) := fun W hW =>
    ⟨(HPA.out W (HB4.out.trans (hW.mono HB4.out.size))).c, range_later HX.out hW HBX.out, HMB.out W (HB4.out.trans (hW.mono HB4.out.size))⟩
  refine wp_region_held_drew (S := fun W => W.cell? ⟨gx, 0, none⟩ = some (.map mb) ∧ W.rangeAt B 0 (bc d) ∧ (∀ b, mb = some b → W.heap[b]? = w.heap[b]?)) (by kernel_rfl) (HS _ HBD) (fun hS => ?_)
  refine wpAnyH_take (i := 0) (v := (.pointer (some ⟨gx, 0, none⟩))) rfl (by kernel_rfl) (by kernel_rfl) (by kernel_rfl) (fun _ _ _ h => h) (Or.inl ⟨by rfl, fun W hW => q_run1 0 (.pointer (some ⟨gx, 0, none⟩)) (by simp only [q_same, q_ne, q_sz, hsz, h0, h5, ne_eq, Nat.reduceEqDiff, not_false_eq_true, Nat.reduceLT]) (fun ρ hc hf e1 => by simp [go_sem, hc, hf, e1])⟩) hS ?_
  change wpAnyH _ _ _ _ _ _ _ (Act.put _ (some 17) _) _
  refine wpAnyH_take (i := 1) (v := (.pointer (some ⟨gx, 0, none⟩))) rfl (by kernel_rfl) (by kernel_rfl) (by kernel_rfl) (fun _ _ _ h => h) (Or.inl ⟨by rfl, fun W hW => q_run1 17 (.pointer (some ⟨gx, 0, none⟩)) (by simp only [q_same, q_ne, q_sz, hsz, h0, h5, ne_eq, Nat.reduceEqDiff, not_false_eq_true, Nat.reduceLT]) (fun ρ hc hf e1 => by simp [go_sem, hc, hf, e1])⟩) hS ?_
  change wpAnyH _ _ _ _ _ _ _ (Act.put _ (some 18) _) _
  refine wpAnyH_take (i := 2) (v := (.pointer (some ⟨gx, 0, none⟩))) rfl (by kernel_rfl) (by kernel_rfl) (by kernel_rfl) (fun _ _ _ h => h) (Or.inl ⟨by rfl, fun W hW => q_run1 18 (.pointer (some ⟨gx, 0, none⟩)) (by simp only [q_same, q_ne, q_sz, hsz, h0, h5, ne_eq, Nat.reduceEqDiff, not_false_eq_true, Nat.reduceLT]) (fun ρ hc hf e1 => by simp [go_sem, hc, hf, e1])⟩) hS ?_
  change wpAnyH _ _ _ _ _ _ _ (Act.put _ (some 19) _) _
  refine wpAnyH_take (i := 3) (v := (.map mb)) rfl (by kernel_rfl) (by kernel_rfl) (by kernel_rfl) (fun _ _ _ h => h) (Or.inl ⟨by rfl, fun W hW => q_run1 19 (.pointer (some ⟨gx, 0, none⟩)) (by simp only [q_same, q_ne, q_sz, hsz, h0, h5, ne_eq, Nat.reduceEqDiff, not_false_eq_true, Nat.reduceLT]) (fun ρ hc hf e1 => by simp [go_sem, hc, hf, e1, hW.1])⟩) hS ?_
  change wpAnyH _ _ _ _ _ _ _ (Act.put _ (some 20) _) _
  refine wpAnyH_take (i := 4) (v := aggD d) rfl (by kernel_rfl) (by kernel_rfl) (by kernel_rfl) (fun _ _ _ h => h) (yieldsIf_load_mid (by rfl) 59 _ rfl B 0 (by simp only [q_same, q_ne, q_sz, hsz, h0, h5, ne_eq, Nat.reduceEqDiff, not_false_eq_true, Nat.reduceLT]) (bc d) _ (fun W hW => hW.2.1) Tryd.underlying59 rfl (by rw [bc_length, hd]; exact sizeDig)) hS ?_
  change wpAnyH _ _ _ _ _ _ _ (Act.put _ (some 21) _) _
  refine wpAnyH_take (i := 5) (v := .tuple #[pEl p, .bool ok]) rfl (by kernel_rfl) (by kernel_rfl) (by kernel_rfl) (fun _ _ _ h => h) (Or.inl ⟨by rfl, fun W hW => q_run2 20 21 (.map mb) (aggD d) (by simp only [q_same, q_ne, q_sz, hsz, h0, h5, ne_eq, Nat.reduceEqDiff, not_false_eq_true, Nat.reduceLT]) (by simp only [q_same, q_ne, q_sz, hsz, h0, h5, ne_eq, Nat.reduceEqDiff, not_false_eq_true, Nat.reduceLT]) (fun ρ hc hf e1 e2 => by simp [go_sem, hc, hf, e1, e2, HLK.out W hW.2.2])⟩) hS ?_
  change wpAnyH _ _ _ _ _ _ _ (Act.put _ (some 22) _) _
  refine wpAnyH_take (i := 6) (v := .tuple #[pEl p, .bool ok]) rfl (by kernel_rfl) (by kernel_rfl) (by kernel_rfl) (fun _ _ _ h => h) (Or.inl ⟨by rfl, fun W hW => q_run1 22 (.tuple #[pEl p, .bool ok]) (by simp only [q_same, q_ne, q_sz, hsz, h0, h5, ne_eq, Nat.reduceEqDiff, not_false_eq_true, Nat.reduceLT]) (fun ρ hc hf e1 => by simp [go_sem, hc, hf, e1])⟩) hS ?_
  change wpAnyH _ _ _ _ _ _ _ (Act.put _ (some 16) _) _
  refine wpAnyH_take (i := 7) (v := pEl p) rfl (by kernel_rfl) (by kernel_rfl) (by kernel_rfl) (fun _ _ _ h => h) (Or.inl ⟨by rfl, fun W hW => q_run1 16 (.tuple #[pEl p, .bool ok]) (by simp only [q_same, q_ne, q_sz, hsz, h0, h5, ne_eq, Nat.reduceEqDiff, not_false_eq_true, Nat.reduceLT]) (fun ρ hc hf e1 => by simp [go_sem, hc, hf, e1])⟩) hS ?_
  change wpAnyH _ _ _ _ _ _ _ (Act.put _ (some 23) _) _
  refine wpAnyH_take (i := 8) (v := .bool ok) rfl (by kernel_rfl) (by kernel_rfl) (by kernel_rfl) (fun _ _ _ h => h) (Or.inl ⟨by rfl, fun W hW => q_run1 16 (.tuple #[pEl p, .bool ok]) (by simp only [q_same, q_ne, q_sz, hsz, h0, h5, ne_eq, Nat.reduceEqDiff, not_false_eq_true, Nat.reduceLT]) (fun ρ hc hf e1 => by simp [go_sem, hc, hf, e1])⟩) hS ?_
  change wpAnyH _ _ _ _ _ _ _ (Act.put _ (some 24) _) _
  have HBA : Below W4.heap.size W4 (W4.drew.alloc (.cells z33.toArray 67)) := HBD.alloc (Nat.le_refl _) _
  refine qH_one 9 (.pointer (some ⟨W4.heap.size, 0, none⟩)) (W4.drew.alloc (.cells z33.toArray 67)) (by kernel_rfl) rfl rfl (by show (Instr.alloc 67 true (.tuple #[]) >>= fun x => pure (.value x) : Sem Next).run Tryd.prog W4.drew = _; rw [Sem.run_bind, alloc_pooled W4.drew]; rfl) (HS _ HBA) ?_
  change wpAnyH _ _ _ _ _ _ _ (Act.put _ (some 7) _) _
  have HBS : Below W4.heap.size W4 ((W4.drew.alloc (.cells z33.toArray 67)).setCells W4.heap.size 0 (bc p.1 ++ [Value.string p.2])) := below_setCells HBA _ (Nat.le_refl _) _ _
  refine qH_skip 10 ((W4.drew.alloc (.cells z33.toArray 67)).setCells W4.heap.size 0 (bc p.1 ++ [Value.string p.2])) (by kernel_rfl) rfl rfl (q_run2 7 23 (.pointer (some ⟨W4.heap.size, 0, none⟩)) (pEl p) (by simp only [q_same, q_ne, q_sz, q_none, q_sz0, hsz, h0, h5, ne_eq, Nat.reduceEqDiff, not_false_eq_true, Nat.reduceLT]) (by simp only [q_same, q_ne, q_sz, q_none, q_sz0, hsz, h0, h5, ne_eq, Nat.reduceEqDiff, not_false_eq_true, Nat.reduceLT]) (fun ρ hc hf e1 e2 => by
    have hst := store_pooled W4.drew p hp
    show (Instr.storeAt 67 (ρ (.tmp 7)) (ρ (.tmp 23)) >>= fun _ => pure .skip : Sem Next).run Tryd.prog _ = _
    rw [e1, e2, Sem.run_bind]
    rw [show W4.drew.heap.size = W4.heap.size from rfl] at hst
    rw [hst]; rfl)) (HS _ HBS) ?_
  change wpAnyH _ _ _ _ _ _ _ (Act.put _ none _) _
  refine qH_one 11 (.bool ok) ((W4.drew.alloc (.cells z33.toArray 67)).setCells W4.heap.size 0 (bc p.1 ++ [Value.string p.2])) (by kernel_rfl) rfl rfl (q_run1 24 (.bool ok) (by simp only [q_same, q_ne, q_sz, q_none, q_sz0, hsz, h0, h5, ne_eq, Nat.reduceEqDiff, not_false_eq_true, Nat.reduceLT]) (fun ρ hc hf e1 => by simp [go_sem, hc, hf, e1])) (HS _ HBS) ?_
  change wpAnyH _ _ _ _ _ _ _ (Act.put _ (some 8) _) _
  refine wpAnyH_done (by kernel_rfl) ?_ _
  have hfr := HFR.out
  clear HFR hsz h0 h5 hS
  subst hfr
  simp only [Act.put, List.setIfInBounds_toArray, List.set_cons_zero, List.set_cons_succ]
  generalize hW5 : (W4.drew.alloc (.cells z33.toArray 67)).setCells W4.heap.size 0 (bc p.1 ++ [Value.string p.2]) = W5 at HBS ⊢
  clear hW5
  have HP5 : Hid (PoolAt W5 gx mb l) := HPA.out W5 (HB4.out.trans (HBS.mono HB4.out.size))
  have HX5 : Hid (W5.rangeAt B 0 (bc d)) := (HS W5 HBS).2.1
  have HB5 : Hid (Below w.heap.size w W5) := HB4.out.trans (HBS.mono HB4.out.size)
  have HBX5 : Hid (B < W5.heap.size) := by show _ < _; have := HBS.size; have := HBX.out; omega
  clear HS HBS HBA HBD HLK HMB HX HBX HPA HB4 hp
  go_upto_region 5 with fail
  refine q_frame (fun A HFR => ?_)
  have hsz : A.tmps.size = 31 := by rw [HFR.out]; rfl
  have h0 : A.eval (.tmp 0) = .pointer (some ⟨gx, 0, none⟩) := by rw [HFR.out]; rfl
  have h5 : A.eval (.tmp 5) = .pointer (some ⟨B, 0, none⟩) := by rw [HFR.out]; rfl
  have HBD : Below W5.heap.size W5 W5.drew := ⟨rfl, rfl, rfl, Nat.le_refl _, fun _ _ => rfl⟩
  have HS : ∀ W, Below W5.heap.size W5 W → W.cell? ⟨gx, 0, none⟩ = some (.map mb) ∧ W.rangeAt B 0 (bc d) := fun W hW => ⟨(HP5.out.later hW).c, range_later HX5.out hW HBX5.out⟩
  refine wp_region_held_drew (S := fun W => W.cell? ⟨gx, 0, none⟩ = some (.map mb) ∧ W.rangeAt B 0 (bc d)) (by kernel_rfl) (HS _ HBD) (fun hS => ?_)
  refine wpAnyH_take (i := 0) (v := (.pointer (some ⟨gx, 0, none⟩))) rfl (by kernel_rfl) (by kernel_rfl) (by kernel_rfl) (fun _ _ _ h => h) (Or.inl ⟨by rfl, fun W hW => q_run1 0 (.pointer (some ⟨gx, 0, none⟩)) (by simp only [q_same, q_ne, q_sz, hsz, h0, h5, ne_eq, Nat.reduceEqDiff, not_false_eq_true, Nat.reduceLT]) (fun ρ hc hf e1 => by simp [go_sem, hc, hf, e1])⟩) hS ?_
  change wpAnyH _ _ _ _ _ _ _ (Act.put _ (some 25) _) _
  refine wpAnyH_take (i := 1) (v := (.pointer (some ⟨gx, 0, none⟩))) rfl (by kernel_rfl) (by kernel_rfl) (by kernel_rfl) (fun _ _ _ h => h) (Or.inl ⟨by rfl, fun W hW => q_run1 25 (.pointer (some ⟨gx, 0, none⟩)) (by simp only [q_same, q_ne, q_sz, hsz, h0, h5, ne_eq, Nat.reduceEqDiff, not_false_eq_true, Nat.reduceLT]) (fun ρ hc hf e1 => by simp [go_sem, hc, hf, e1])⟩) hS ?_
  change wpAnyH _ _ _ _ _ _ _ (Act.put _ (some 26) _) _
  refine wpAnyH_take (i := 2) (v := (.pointer (some ⟨gx, 0, none⟩))) rfl (by kernel_rfl) (by kernel_rfl) (by kernel_rfl) (fun _ _ _ h => h) (Or.inl ⟨by rfl, fun W hW => q_run1 26 (.pointer (some ⟨gx, 0, none⟩)) (by simp only [q_same, q_ne, q_sz, hsz, h0, h5, ne_eq, Nat.reduceEqDiff, not_false_eq_true, Nat.reduceLT]) (fun ρ hc hf e1 => by simp [go_sem, hc, hf, e1])⟩) hS ?_
  change wpAnyH _ _ _ _ _ _ _ (Act.put _ (some 27) _) _
  refine wpAnyH_take (i := 3) (v := (.map mb)) rfl (by kernel_rfl) (by kernel_rfl) (by kernel_rfl) (fun _ _ _ h => h) (Or.inl ⟨by rfl, fun W hW => q_run1 27 (.pointer (some ⟨gx, 0, none⟩)) (by simp only [q_same, q_ne, q_sz, hsz, h0, h5, ne_eq, Nat.reduceEqDiff, not_false_eq_true, Nat.reduceLT]) (fun ρ hc hf e1 => by simp [go_sem, hc, hf, e1, hW.1])⟩) hS ?_
  change wpAnyH _ _ _ _ _ _ _ (Act.put _ (some 28) _) _
  refine wpAnyH_take (i := 4) (v := aggD d) rfl (by kernel_rfl) (by kernel_rfl) (by kernel_rfl) (fun _ _ _ h => h) (yieldsIf_load_mid (by rfl) 59 _ rfl B 0 (by simp only [q_same, q_ne, q_sz, hsz, h0, h5, ne_eq, Nat.reduceEqDiff, not_false_eq_true, Nat.reduceLT]) (bc d) _ (fun W hW => hW.2) Tryd.underlying59 rfl (by rw [bc_length, hd]; exact sizeDig)) hS ?_
  change wpAnyH _ _ _ _ _ _ _ (Act.put _ (some 29) _) _
  obtain ⟨w8, hrun, hP8, hg8⟩ := (HP5.out.later HBD).drop d hd 0
  have HS8 : w8.cell? ⟨gx, 0, none⟩ = some (.map mb) ∧ w8.rangeAt B 0 (bc d) := ⟨hP8.c, fun j v hv => by
    rcases hg8 with rfl | ⟨bm, hbm, hg8⟩
    · exact (HS _ HBD).2 j v hv
    · have hBb : B ≠ bm := fun e => by
        rcases HP5.out.m with ⟨h, _⟩ | ⟨b', D, h, ho, _⟩
        · rw [h] at hbm; cases hbm
        · rw [h] at hbm
          injection hbm with hbm
          obtain ⟨es, clock, hb, _⟩ := ho
          have h1 := HX5.out j v hv
          rw [e, ← hbm] at h1
          simp [World.cell?, hb] at h1
      rw [World.cell?_of_block (hg8.block B HBX5.out (fun e => hBb (by injection e)))]
      exact (HS _ HBD).2 j v hv⟩
  refine qH_one 5 (.tuple #[]) w8 (by kernel_rfl) rfl rfl (q_run2 28 29 (.map mb) (aggD d) (by simp only [q_same, q_ne, q_sz, q_none, q_sz0, hsz, h0, h5, ne_eq, Nat.reduceEqDiff, not_false_eq_true, Nat.reduceLT]) (by simp only [q_same, q_ne, q_sz, q_none, q_sz0, hsz, h0, h5, ne_eq, Nat.reduceEqDiff, not_false_eq_true, Nat.reduceLT]) (fun ρ hc hf e1 e2 => by simp [go_sem, hc, hf, e1, e2, hrun])) HS8 ?_
  change wpAnyH _ _ _ _ _ _ _ (Act.put _ none _) _
  refine wpAnyH_done (by kernel_rfl) ?_ _
  have hfr := HFR.out
  have HPZ : Hid (PoolAt w8 gx mb (del d l)) := hP8
  have HOZ : Hid (Only gx mb w w8) := by
    rcases hg8 with rfl | ⟨bm, hbm, hg8⟩
    · exact Only.of_below (HB5.out.trans (HBD.mono HB5.out.size))
    · exact (Only.of_below (HB5.out.trans (HBD.mono HB5.out.size))).turned hg8 (.inl hbm)
  clear HFR hsz h0 h5 hS HS HBD hrun hP8 hg8 HS8
  subst hfr
  simp only [Act.put, List.setIfInBounds_toArray, List.set_cons_zero, List.set_cons_succ]
  go_wp2
  go_ret
  exact ⟨rfl, HPZ.out, HOZ.out⟩
end Go.Proofs.YtkmalggeieiepabDoor
namespace Go.Proofs.YtkmalggeieiepabDoor
open Go.Shelf
set_option maxRecDepth 10000
def srtRen : Go.Shelf.Ren := ⟨fun | 190 => 30 | 125 => 55 | 258 => 54 | 128 => 87 | 129 => 88 | 302 => 78 | 303 => 79 | 304 => 80 | 305 => 81 | 306 => 82 | 307 => 83 | 308 => 84 | 309 => 85 | 310 => 86 | 333 => 94 | 329 => 95 | 330 => 96 | 334 => 97 | 335 => 98 | 336 => 99 | 344 => 101 | n => n, fun | 31 => 30 | 9 => 9 | 3 => 3 | 46 => 108 | 0 => 0 | 51 => 97 | 53 => 24 | 4 => 4 | 183 => 144 | 182 => 143 | 131 => 149 | 5 => 5 | 218 => 158 | 222 => 161 | 228 => 164 | 229 => 165 | n => n, fun | n => n⟩
theorem srtLays : Go.Proofs.Lays.n190 Tryd.prog srtRen := {
  mixed := by kernel_rfl
  f125 := Tryd.func55.trans (congrArg some (by kernel_rfl))
  f128 := Tryd.func87.trans (congrArg some (by kernel_rfl))
  f129 := Tryd.func88.trans (congrArg some (by kernel_rfl))
  f190 := Tryd.func30.trans (congrArg some (by kernel_rfl))
  f258 := Tryd.func54.trans (congrArg some (by kernel_rfl))
  f302 := Tryd.func78.trans (congrArg some (by kernel_rfl))
  f303 := Tryd.func79.trans (congrArg some (by kernel_rfl))
  f304 := Tryd.func80.trans (congrArg some (by kernel_rfl))
  f305 := Tryd.func81.trans (congrArg some (by kernel_rfl))
  f306 := Tryd.func82.trans (congrArg some (by kernel_rfl))
  f307 := Tryd.func83.trans (congrArg some (by kernel_rfl))
  f308 := Tryd.func84.trans (congrArg some (by kernel_rfl))
  f309 := Tryd.func85.trans (congrArg some (by kernel_rfl))
  f310 := Tryd.func86.trans (congrArg some (by kernel_rfl))
  f329 := Tryd.func95.trans (congrArg some (by kernel_rfl))
  f330 := Tryd.func96.trans (congrArg some (by kernel_rfl))
  f333 := Tryd.func94.trans (congrArg some (by kernel_rfl))
  f334 := Tryd.func97.trans (congrArg some (by kernel_rfl))
  f335 := Tryd.func98.trans (congrArg some (by kernel_rfl))
  f336 := Tryd.func99.trans (congrArg some (by kernel_rfl))
  f344 := Tryd.func101.trans (congrArg some (by kernel_rfl))
  t0 := Tryd.underlying0
  a0 := Tryd.isAgg0
  z0 := Tryd.sizeOf0
  v0 := Tryd.zeroValue0
  t3 := Tryd.underlying3
  a3 := Tryd.isAgg3
  z3 := Tryd.sizeOf3
  v3 := Tryd.zeroValue3
  t4 := Tryd.underlying4
  a4 := Tryd.isAgg4
  z4 := Tryd.sizeOf4
  v4 := Tryd.zeroValue4
  t5 := Tryd.underlying5
  a5 := Tryd.isAgg5
  z5 := Tryd.sizeOf5
  v5 := Tryd.zeroValue5
  t9 := Tryd.underlying9
  a9 := Tryd.isAgg9
  z9 := Tryd.sizeOf9
  v9 := Tryd.zeroValue9
  t31 := Tryd.underlying30
  a31 := Tryd.isAgg30
  z31 := Tryd.sizeOf30
  v31 := Tryd.zeroValue30
  t46 := Tryd.underlying108
  a46 := Tryd.isAgg108
  z46 := Tryd.sizeOf108
  v46 := Tryd.zeroValue108
  t51 := Tryd.underlying97
  a51 := Tryd.isAgg97
  z51 := Tryd.sizeOf97
  v51 := Tryd.zeroValue97
  t53 := Tryd.underlying24
  a53 := Tryd.isAgg24
  z53 := Tryd.sizeOf24
  v53 := Tryd.zeroValue24
  t131 := Tryd.underlying149
  a131 := Tryd.isAgg149
  z131 := Tryd.sizeOf149
  v131 := Tryd.zeroValue149
  t182 := Tryd.underlying143
  a182 := Tryd.isAgg143
  z182 := Tryd.sizeOf143
  v182 := Tryd.zeroValue143
  t183 := Tryd.underlying144
  a183 := Tryd.isAgg144
  z183 := Tryd.sizeOf144
  v183 := Tryd.zeroValue144
  t218 := Tryd.underlying158
  a218 := Tryd.isAgg158
  z218 := Tryd.sizeOf158
  v218 := Tryd.zeroValue158
  t222 := Tryd.underlying161
  a222 := Tryd.isAgg161
  z222 := Tryd.sizeOf161
  v222 := Tryd.zeroValue161
  t228 := Tryd.underlying164
  a228 := Tryd.isAgg164
  z228 := Tryd.sizeOf164
  v228 := Tryd.zeroValue164
  t229 := Tryd.underlying165
  a229 := Tryd.isAgg165
  z229 := Tryd.sizeOf165
  v229 := Tryd.zeroValue165 }

open Go.Sort Go.RowKit in
theorem sort_any (blk off cap : Nat) (ss : List (List UInt8)) (w : World) (hH : Holds encStr w blk off ss.toArray) (hblk : blk < w.heap.size) (hsz : ss.length < 4611686018427387904) :
    Calls Tryd.prog 30 #[.slice (some ⟨blk, off, none⟩) ss.length cap] w fun e w' =>
      e = .returned (.tuple #[]) ∧ ∃ n os, w' = grow (putRow encStr (Sort.ahead w n) blk off (ss.mergeSort fun x y => decide (x ≤ y)).toArray) os := Any.slices_Sort_string srtLays blk off cap ss w hH hblk hsz
end Go.Proofs.YtkmalggeieiepabDoor
set_option linter.unusedSimpArgs false
set_option linter.unusedVariables false
namespace Go.Proofs.YtkmalggeieiepabDoor
open Go.RowKit Go.Sort
set_option maxRecDepth 10000

/-- digests, rising. -/
def sortD (l : List ByteArray) : List (List UInt8) := (l.map fun d => d.data.toList).mergeSort fun x y => decide (x ≤ y)
theorem sortD_perm {l l' : List ByteArray} (h : l.Perm l') : sortD l = sortD l' := mergeSort_of_perm (h.map _)
abbrev D32 : Type := { d : ByteArray // d.size = 32 }
def mkD (d : D32) : Value := .agg (wl .u8 (byF d.1) 32).toArray
theorem mkD_eq (d : D32) : mkD d = aggD d.1 := by unfold mkD aggD; rw [bc_wl d.1 32 d.2]
/-- what was met so far. -/
structure Coll (D : DataW Unit) (left : Lit → Bool) (ss : List ByteArray) : Prop where
  all : ∀ d ∈ ss, d.size = 32
  nodup : ss.Nodup
  iff : ∀ d : ByteArray, d.size = 32 → (d ∈ ss ↔ Maps.has D (kd d) = true ∧ left (kd d) = false)
theorem Coll.start (D : DataW Unit) : Coll D (Maps.has D) [] := ⟨by simp, List.nodup_nil, fun d _ => by simp⟩
theorem Coll.step {D : DataW Unit} {left : Lit → Bool} {ss : List ByteArray} (h : Coll D left ss) {d : ByteArray} (hd : d.size = 32) (hl : left (kd d) = true) (hh : Maps.has D (kd d) = true) : Coll D (fun z => left z && !z.sameKey (kd d)) (ss ++ [d]) := by
  have hn : d ∉ ss := fun hm => by have := ((h.iff d hd).1 hm).2; rw [hl] at this; cases this
  refine ⟨fun e he => ?_, ?_, fun e he => ?_⟩
  · rcases List.mem_append.1 he with he | he
    · exact h.all e he
    · simp at he; rw [he]; exact hd
  · rw [List.nodup_append]
    exact ⟨h.nodup, by simp, fun a ha b hb => by simp at hb; rw [hb]; exact fun e => hn (e ▸ ha)⟩
  · by_cases hx : e = d
    · subst hx
      simp only [List.mem_append, List.mem_singleton, or_true, true_iff]
      exact ⟨hh, by rw [WideAt.sameKey_self (kd_key hd)]; simp⟩
    · rw [Maps.sameKey_ne (kd_ne he hd hx)]
      simp only [List.mem_append, List.mem_singleton, hx, or_false, Bool.not_false, Bool.and_true]
      exact h.iff e he
theorem Coll.perm {D : DataW Unit} {left : Lit → Bool} {ss l : List ByteArray} (h : Coll D left ss) (hR : Rel D l) (h0 : ∀ kl, left kl = false) : ss.Perm l :=
  (List.perm_ext_iff_of_nodup h.nodup hR.nodup).2 fun d =>
    ⟨fun hm => (hR.has d (h.all d hm)).1 ((h.iff d (h.all d hm)).1 hm).1, fun hm => (h.iff d (hR.all d hm)).2 ⟨(hR.has d (hR.all d hm)).2 hm, h0 _⟩⟩

theorem infoS : (Tryd.prog.info? 9).map (fun i => (i.zero, i.size, i.bytes)) = some (some (.string ⟨#[]⟩), 1, 16) := by kernel_rfl
theorem enc_ba (ss : List ByteArray) : (ss.map fun d => d.data.toList).map encStr = ss.map fun d => Value.string d := by
  rw [List.map_map]
  apply List.map_congr_left
  intro d _
  show Value.string ⟨d.data.toList.toArray⟩ = _
  rw [Array.toArray_toList]

set_option maxRecDepth 100000 in
set_option maxHeartbeats 4000000 in
theorem pids_some (w : World) (gx b : Nat) (l : List ByteArray) (hP : PoolAt w gx (some b) l) (hl : l.length ≤ 20) :
    Calls Tryd.prog 16 #[.pointer (some ⟨gx, 0, none⟩)] w fun e w' => ∃ g cap : Nat, e = .returned (.slice (some ⟨g, 0, none⟩) l.length cap) ∧ w'.ownsRow w.heap.size 9 1 (.slice (some ⟨g, 0, none⟩) l.length cap) l.length ((sortD l).map encStr) ∧ Below w.heap.size w w' := by
  obtain ⟨i0, hi, hz0, hz1, hz2⟩ := info_parts infoS
  obtain ⟨D, hown, hR⟩ : ∃ D, w.ownsMap Tryd.prog 59 RP b l.length D ∧ Rel D l := by
    rcases hP.m with ⟨h, _⟩ | ⟨b', D, h, ho, hR⟩
    · cases h
    · injection h with h; subst h; exact ⟨D, ho, hR⟩
  have hbl := hown.lt
  have hc := hP.c
  have hgl := hP.lt
  have HR : Hid (Rel D l) := hR
  have hsD : Maps.size D ≤ 20 := by rw [hR.size]; exact hl
  have HSL : Hid (Maps.size D = l.length) := hR.size
  have HTX : Hid (∀ (d : D32) W, Calls Tryd.prog 23 #[aggD d.1] W fun e w' => e = .returned (.string d.1) ∧ Below W.heap.size W w') := fun d W => text_d d.1 d.2 W
  clear hP hR hl
  go_enter Tryd.func16, Tryd.ntmps16
  go_upto_region 2 with (first
    | (at_len; refine wpList_len_own _ rfl _ 36 rfl 59 67 under51 _ b l.length _ rfl hown ?_)
    | (at_make; refine wpList_make_own _ rfl _ _ 30 rfl w.heap.size 9 i0 (.string ⟨#[]⟩) 1 Tryd.underlying30 hi hz0 hz1 _ _ _ (Maps.size D) rfl rfl rfl (by rw [hz2]; omega) (by unfold maxLen; omega) (Nat.le_refl _) ?_; intro w1 hrow1 hg1))
  have HB1 : Below w.heap.size w w1 := (Below.refl _ _).grown hg1 (Nat.le_refl _) (fun j hj => by cases hj)
  have hc1 : w1.cell? ⟨gx, 0, none⟩ = some (.map (some b)) := by rw [HB1.cell (p := ⟨gx, 0, none⟩) hgl]; exact hc
  have hg1s := hg1.size
  clear hc
  go_upto_region 3 with (first
    | (at_range; go_must (refine wpList_range_own _ rfl _ 36 rfl 59 67 kLaw under51 _ b l.length _ rfl (hown.kept hg1 (by simp)) ?_); intro w0 hrg0 hg0 hs0; go_frame))
  go_loopw [3] (fun vs wr => ∃ (left : Lit → Bool) (cnt : Nat) (ss : List ByteArray) (v : Value), v = vs ∧ wr.ranges Tryd.prog 59 RP b w1.heap.size l.length D left cnt ∧ ss.length + cnt ≤ Maps.size D ∧
      wr.ownsRow w.heap.size 9 1 v ss.length ((ss.map fun d => d.data.toList).map encStr) ∧ v ≠ .slice none 0 0 ∧ Coll D left ss ∧ Below w.heap.size w wr)
    (fun _ wr => wr.rangeLeft b w1.heap.size)
  case atStart =>
    exact ⟨_, _, [], _, rfl, hrg0, by simp, hrow1.kept hg0 (Or.inr (by simp [Value.ownBlock])), by simp, Coll.start D, HB1.grown hg0 hg1.size (fun j hj => by cases hj)⟩
  case round =>
    obtain ⟨left, cnt, ss, v, rfl, hrg, hcs, hrow, hnn, hC, hnx⟩ := hrel
    clear hrow1 hg0 hs0 hrg0 hc1
    go_wp2_with (first
      | (at_next; refine wpList_next_ranges _ rfl _ rfl 59 kLaw RP mkD pEl (fun key kl hk => by obtain ⟨d, h1, h2, _⟩ := key_inv hk; exact ⟨⟨d, h1⟩, by rw [mkD_eq]; exact h2⟩) (fun v y hv => by obtain ⟨p, _, h2, _⟩ := RP_inv hv; exact ⟨p, h2⟩) b w1.heap.size l.length _ _ _ rfl hrg ?_ ?_)
      | go_in)
    · intro hc0 hl0
      rcases hrow.2 with ⟨hnil, _⟩ | ⟨g, cap, cur, rfl, hbase, hb, h1, h2, h3, h4⟩
      · exact absurd hnil hnn
      have hpm : ss.Perm l := hC.perm HR.out hl0
      have hln : ss.length = l.length := hpm.length_eq
      have hH : Holds encStr wr g 0 (ss.map fun d => d.data.toList).toArray := holds_of_block hb (by simpa using h4)
      have hgw : g < wr.heap.size := (Array.getElem?_eq_some_iff.1 hb).1
      have hc := sort_any g 0 cap (ss.map fun d => d.data.toList) wr hH hgw (by rw [List.length_map]; omega)
      rw [List.length_map] at hc
      have HQ : Hid (Calls Tryd.prog 30 #[.slice (some ⟨g, 0, none⟩) ss.length cap] wr fun e w' => e = .returned (.tuple #[]) ∧ w'.ownsRow w.heap.size 9 1 (.slice (some ⟨g, 0, none⟩) l.length cap) l.length ((sortD l).map encStr) ∧ Below w.heap.size w w') := hc.mono fun e w' hx => by
        obtain ⟨hx1, nn, os, hx2⟩ := hx
        refine ⟨hx1, ?_⟩
        rw [hx2, ← sortD_perm hpm, ← hln]
        refine ⟨?_, hnx.grown (grownBy_sorted _) hnx.size (fun j hj => by cases hj; exact hbase)⟩
        have := ownsRow_sorted (ss := ss.map fun d => d.data.toList) (ts := sortD ss) (n := nn) (os := os) (by simp [sortD]) hbase hb (by simpa using h1) (by simpa using h2) (by simpa using h3)
        rw [List.length_map] at this
        exact this
      clear hb h1 h2 h3 h4 hH hrow hC hrg hnx hpm hc
      have HLN : Hid (ss.length = l.length) := hln
      clear hln
      go_wp2_with (go_at_call 30; go_must (refine HQ.out.mono ?_); rintro e w' ⟨rfl, hq1, hq2⟩)
      go_ret
      exact ⟨g, cap, by rw [← HLN.out]; rfl, hq1, hq2⟩
    · intro x hx c1 c2 kl yd yp w2 cnt2 hkey hlk hv hat hrg2 hlt hg2 hs2 hen
      have hkl : kl = kd x := by
        rw [mkD_eq, kd_of x hx] at hkey
        injection hkey with hkey
        exact hkey.symm
      subst hkl
      have hhas : Maps.has D (kd x) = true := Maps.has_true_of_atKey hat
      have hrow2 := hrow.kept hg2 (Or.inr (row_ne_iter hrow hrg).symm)
      clear hs2 hv hkey hat
      have hen2 : (Instr.entry (.pointer (some ⟨w1.heap.size, 0, none⟩))).run Tryd.prog w2 = .ok (.tuple #[.agg (wl .u8 (byF x) 32).toArray, pEl (c1, c2)]) w2 := hen
      clear hen
      have HB2 : Below w.heap.size w w2 := hnx.grown hg2 hnx.size (fun j hj => by cases hj; exact hg1s)
      have hs2 := HB2.size
      go_upto_region 5 with (refine wpList_store_arr rfl 59 _ _ rfl w2.heap.size .u8 (fun _ => 0) (byF x) 32 rfl rfl ?_ sizeDig ?_; exact Arr.new _ _ 32 _ _ (by rfl))
      obtain ⟨W4, hW4⟩ : ∃ W, W = (w2.alloc (.cells #[.int .u8 0, .int .u8 0, .int .u8 0, .int .u8 0, .int .u8 0, .int .u8 0, .int .u8 0, .int .u8 0, .int .u8 0, .int .u8 0, .int .u8 0, .int .u8 0, .int .u8 0, .int .u8 0, .int .u8 0, .int .u8 0, .int .u8 0, .int .u8 0, .int .u8 0, .int .u8 0, .int .u8 0, .int .u8 0, .int .u8 0, .int .u8 0, .int .u8 0, .int .u8 0, .int .u8 0, .int .u8 0, .int .u8 0, .int .u8 0, .int .u8 0, .int .u8 0] 59)).setCells w2.heap.size 0 (wl .u8 (byF x) 32) := ⟨_, rfl⟩
      have HX : Hid (W4.rangeAt w2.heap.size 0 (bc x)) := by
        show W4.rangeAt _ _ _
        rw [hW4, bc_wl x 32 hx]; exact ((Arr.new w2 (fun _ => 0) 32 #[.int .u8 0, .int .u8 0, .int .u8 0, .int .u8 0, .int .u8 0, .int .u8 0, .int .u8 0, .int .u8 0, .int .u8 0, .int .u8 0, .int .u8 0, .int .u8 0, .int .u8 0, .int .u8 0, .int .u8 0, .int .u8 0, .int .u8 0, .int .u8 0, .int .u8 0, .int .u8 0, .int .u8 0, .int .u8 0, .int .u8 0, .int .u8 0, .int .u8 0, .int .u8 0, .int .u8 0, .int .u8 0, .int .u8 0, .int .u8 0, .int .u8 0, .int .u8 0] 59 (by rfl)).all (byF x)).range
      have HB24 : Below w2.heap.size w2 W4 := by rw [hW4]; exact below_setCells ((Below.refl _ _).alloc (Nat.le_refl _) _) _ (Nat.le_refl _) _ _
      rw [← hW4]
      clear hW4 hen2
      have hbl0 : (bc x).length = 32 := by rw [bc_length, hx]
      have HT : Hid (Calls Tryd.prog 23 #[.agg (bc x).toArray] W4 fun e w' => e = .returned (.string x) ∧ Below W4.heap.size W4 w') := text_d x hx W4
      have HG : Hid (∀ W5, Below W4.heap.size W4 W5 → w2.grownBy W5 none) := fun W5 h5 => by
        have h := HB24.trans (h5.mono HB24.size)
        exact ⟨h.os, h.tape, h.output, h.size, fun i hi _ => h.block i hi⟩
      have HRW : Hid (∀ W5, Below W4.heap.size W4 W5 → W5.ownsRow w.heap.size 9 1 v ss.length ((ss.map fun d => d.data.toList).map encStr)) := fun W5 h5 => own_after hrow2 (HB24.trans (h5.mono HB24.size))
      have HZ : Hid (∀ W5, Below W4.heap.size W4 W5 → w.heap.size ≤ W5.heap.size) := fun W5 h5 => by have := HB24.size; have := h5.size; omega
      have hsl : ss.length ≤ 20 := by omega
      go_upto_region 3 with (first
        | (refine wpList_load_mid rfl 59 _ rfl w2.heap.size 0 rfl (bc x) _ HX.out Tryd.underlying59 rfl ?_ ?_; (rw [hbl0]; exact sizeDig))
        | (go_at_call 23; go_must (refine HT.out.mono ?_); rintro e w5 ⟨rfl, hb5⟩; have HB5 := (show Hid (Below W4.heap.size W4 w5) from hb5); clear hb5)
        | (at_builtin; go_must (refine wpList_append_own _ rfl _ _ 30 rfl w.heap.size 9 i0 (.string ⟨#[]⟩) 1 16 Tryd.underlying30 hi hz0 hz1 hz2 rfl (by decide) _ _ _ rfl ((HRW.out w5 HB5.out).alloc _) ⟨w5.heap.size, 0, none⟩ 1 1 [.string x] rfl rfl (cell_one_new _ _ _) (by simp [Value.oneCell']) (by unfold maxLen; omega) (by omega) (by have := HZ.out w5 HB5.out; simp; omega) ?_); intro v' w6 hown' hg6 hnil6; go_frame))
      have hrow5 := HRW.out w5 HB5.out
      have hrg5 := (hrg2.kept (HG.out w5 HB5.out) (by simp) (by simp)).alloc (.cells #[.string x] 9)
      have hrg6 := hrg5.kept hg6 (row_ne_low hrow5 hbl) (row_ne_iter (hrow5.alloc _) hrg5)
      have HB6 : Below w.heap.size w w6 := ((HB2.trans ((HB24.trans (HB5.out.mono HB24.size)).mono hs2)).alloc (HZ.out w5 HB5.out) _).grown hg6 (by have := HZ.out w5 HB5.out; simp; omega) (fun j hj => (hrow5.lt j hj).1)
      clear HX HT HG HRW HZ hbl0 hrow2 hrg2 hrg5
      go_roundw
      case rel =>
        refine ⟨_, cnt2, ss ++ [x], _, rfl, hrg6, by simp; omega, ?_, fun hv' => by have := (hnil6.1 hv').2; omega, hC.step hx hlk hhas, HB6⟩
        have e : Value.string x = encStr x.data.toList := by show _ = Value.string ⟨x.data.toList.toArray⟩; rw [Array.toArray_toList]
        rw [e] at hown'
        simpa using hown'
      case measure => rw [hrg6.left_eq, hrg.left_eq]; exact hlt

set_option maxRecDepth 100000 in
set_option maxHeartbeats 4000000 in
theorem pids_none (w : World) (gx : Nat) (hP : PoolAt w gx none []) :
    Calls Tryd.prog 16 #[.pointer (some ⟨gx, 0, none⟩)] w fun e w' => ∃ g cap : Nat, e = .returned (.slice (some ⟨g, 0, none⟩) 0 cap) ∧ w'.ownsRow w.heap.size 9 1 (.slice (some ⟨g, 0, none⟩) 0 cap) 0 [] ∧ Below w.heap.size w w' := by
  obtain ⟨i0, hi, hz0, hz1, hz2⟩ := info_parts infoS
  have hc := hP.c
  have hgl := hP.lt
  have hln : ∀ ty, (Builtin.len_ #[36] ty #[.map none]).run Tryd.prog w = .ok (.int .i64 0) w := fun ty => Maps.len_nil under51 ty
  clear hP
  go_enter Tryd.func16, Tryd.ntmps16
  go_upto_region 2 with (first
    | (at_make; refine wpList_make_own _ rfl _ _ 30 rfl w.heap.size 9 i0 (.string ⟨#[]⟩) 1 Tryd.underlying30 hi hz0 hz1 _ _ _ 0 rfl rfl rfl (by omega) (Nat.zero_le _) (Nat.le_refl _) ?_; intro w1 hrow1 hg1))
  have HB1 : Below w.heap.size w w1 := (Below.refl _ _).grown hg1 (Nat.le_refl _) (fun j hj => by cases hj)
  have hc1 : w1.cell? ⟨gx, 0, none⟩ = some (.map none) := by rw [HB1.cell (p := ⟨gx, 0, none⟩) hgl]; exact hc
  have hrg := run_range_nilMap (P := Tryd.prog) w1 36 59 67 under51
  have hnx : ∀ ty, (Instr.next (.pointer (some ⟨w1.heap.size, 0, none⟩)) false ty).run Tryd.prog (w1.alloc (.mapIter none 0 #[] 0)) = _ := fun ty => run_next_nilMap _ ty 0 0 #[]
  have hrow2 := hrow1.alloc (.mapIter none 0 #[] 0)
  rcases hrow2.2 with ⟨hnil, _⟩ | ⟨g, cap, cur, hv, hbase, hb, h1, h2, h3, h4⟩
  · cases hnil
  cases hv
  have hH : Holds encStr (w1.alloc (.mapIter none 0 #[] 0)) w.heap.size 0 ([] : List (List UInt8)).toArray := fun j hj => absurd hj (by simp)
  have hs := sort_any w.heap.size 0 0 [] _ hH (Array.getElem?_eq_some_iff.1 hb).1 (by decide)
  have HQ : Hid (Calls Tryd.prog 30 #[.slice (some ⟨w.heap.size, 0, none⟩) 0 0] (w1.alloc (.mapIter none 0 #[] 0)) fun e w' => e = .returned (.tuple #[]) ∧ w'.ownsRow w.heap.size 9 1 (.slice (some ⟨w.heap.size, 0, none⟩) 0 0) 0 [] ∧ Below w.heap.size w w') := hs.mono fun e w' hx => by
    obtain ⟨hx1, nn, os, hx2⟩ := hx
    refine ⟨hx1, ?_⟩
    rw [List.mergeSort_nil] at hx2
    rw [hx2]
    exact ⟨ownsRow_sorted (ss := []) (ts := []) rfl hbase hb h1 h2 h3, (HB1.alloc HB1.size _).grown (grownBy_sorted _) (by have := HB1.size; simp; omega) (fun j hj => by cases hj; exact Nat.le_refl _)⟩
  clear hs hH hb h1 h2 h3 h4 hrow2 hrow1 hc
  go_upto_region 3 with fail
  refine wp_loop_rounds 1 ?_
  rw [rounds_succ]
  go_wp2_with (go_at_call 30; go_must (refine HQ.out.mono ?_); rintro e w' ⟨rfl, hq1, hq2⟩)
  go_ret
  exact ⟨w.heap.size, 0, rfl, hq1, hq2⟩

theorem pids_any (w : World) (gx : Nat) (mb : Option Nat) (l : List ByteArray) (hP : PoolAt w gx mb l) (hl : l.length ≤ 20) :
    Calls Tryd.prog 16 #[.pointer (some ⟨gx, 0, none⟩)] w fun e w' => ∃ g cap : Nat, e = .returned (.slice (some ⟨g, 0, none⟩) l.length cap) ∧ w'.ownsRow w.heap.size 9 1 (.slice (some ⟨g, 0, none⟩) l.length cap) l.length ((sortD l).map encStr) ∧ Below w.heap.size w w' := by
  cases mb with
  | some b => exact pids_some w gx b l hP hl
  | none =>
    have hl0 : l = [] := by
      rcases hP.m with ⟨_, h⟩ | ⟨_, _, h, _⟩
      · exact h
      · cases h
    subst hl0
    refine (pids_none w gx hP).mono fun e w' hx => ?_
    obtain ⟨g, cap, h1, h2, h3⟩ := hx
    refine ⟨g, cap, h1, ?_, h3⟩
    have e0 : sortD [] = [] := by simp [sortD]
    rw [e0]; exact h2
end Go.Proofs.YtkmalggeieiepabDoor
namespace Go.Proofs.YtkmalggeieiepabDoor
open Go.RowKit

/-- a transaction's digest, or nothing. -/
def txid (Kc : Nat → Int) (s : ByteArray) : ByteArray := if txErr s.data.toList = 0 then strOf (dbl Kc s.data.toList) 32 else ByteArray.empty
set_option maxHeartbeats 1000000 in
theorem txid_any (Kc : Nat → Int) (s : ByteArray) (w : World) (hkt : KT Kc w) (hm : s.size ≤ maxLen) :
    Calls Tryd.prog 12 #[.string s] w fun e w' => e = .returned (.tuple #[.string (txid Kc s), .int .i64 (txErr s.data.toList)]) ∧ Below w.heap.size w w' := by
  have hr := read_any s w hm
  have hpos : 0 < w.heap.size := World.block_lt_of_cell? w _ (hkt 0 (by omega))
  by_cases h0 : txErr s.data.toList = 0
  · have hlen := txErr_len _ h0
    have hsz : s.size ≤ 1099511627776 := by have : s.data.toList.length = s.size := rfl; omega
    have e1 : txid Kc s = strOf (dbl Kc s.data.toList) 32 := by simp [txid, h0]
    have HD : Hid (∀ W, Below w.heap.size w W → Calls Tryd.prog 27 #[.slice (some ⟨W.heap.size, 0, none⟩) 1 1] (W.alloc (.cells #[.string s] 9)) fun e w' => e = .returned (.agg (wl .u8 (dbl Kc s.data.toList) 32).toArray) ∧ Below W.heap.size W w') := fun W hW => double_one Kc s W (hkt.later hW hpos) hsz
    have HTX : Hid (∀ W, Calls Tryd.prog 23 #[.agg (wl .u8 (dbl Kc s.data.toList) 32).toArray] W fun e w' => e = .returned (.string (strOf (dbl Kc s.data.toList) 32)) ∧ Below W.heap.size W w') := fun W => text_any (dbl Kc s.data.toList) (shaF_lt Kc _) _ rfl W
    rw [h0, if_pos rfl] at hr
    rw [e1, h0]
    clear hlen hsz e1 hkt hpos h0 hm
    generalize (wl .u8 (dbl Kc s.data.toList) 32).toArray = S1 at HD HTX
    generalize strOf (dbl Kc s.data.toList) 32 = t1 at HTX
    go_enter Tryd.func12, Tryd.ntmps12
    go_wp2_with (first
      | (go_at_call 25; go_must (refine hr.mono ?_); rintro e w1 ⟨rfl, hb1⟩; have HB1 := (show Hid (Below w.heap.size w w1) from hb1); clear hb1)
      | (go_at_call 27; go_must (refine (HD.out _ HB1.out).mono ?_); rintro e w2 ⟨rfl, hb2⟩; have HB2 := (show Hid (Below w.heap.size w w2) from HB1.out.trans (hb2.mono HB1.out.size)); clear hb2)
      | (go_at_call 23; go_must (refine (HTX.out _).mono ?_); rintro e w3 ⟨rfl, hb3⟩; have HB3 := (show Hid (Below w.heap.size w w3) from HB2.out.trans (hb3.mono HB2.out.size)); clear hb3))
    go_ret2
    exact ⟨rfl, HB3.out⟩
  · have e1 : txid Kc s = ByteArray.empty := by simp [txid, h0]
    rw [if_neg h0] at hr
    rw [e1]
    clear hkt hpos hm e1
    generalize txErr s.data.toList = c at h0 hr
    go_enter Tryd.func12, Tryd.ntmps12
    go_wp2_with (go_at_call 25; go_must (refine hr.mono ?_); rintro e w1 ⟨rfl, hb1⟩; have HB1 := (show Hid (Below w.heap.size w w1) from hb1); clear hb1)
    go_ret2
    exact ⟨rfl, HB1.out⟩
end Go.Proofs.YtkmalggeieiepabDoor
