import Derived.Test.YtkmalggeieiepaaGreatDoorPxb
import Derived.Test.YtkmalggeieiepaaGreatDoorPxd
import Derived.Test.YtkmalggeieiepaaGreatDoorPxa
import Derived.WalkKit
import Derived.WalkSpells
import Derived.WalkLawsBesides
import Derived.Deep.DeepCutAuto
import Derived.Deep.MidRow
import Derived.Deep.RegionHeld
import Derived.Test.YtkmalggeieiepaaGreatDoorPxc
set_option linter.unusedSimpArgs false
set_option linter.unusedVariables false
namespace Go.Proofs.YtkmalggeieiepaaGreatDoor
open Go.RowKit

theorem th_new (w : World) (T : Nat) (cs : List Value) : (w.alloc (.cells cs.toArray T)).there w.heap.size 0 cs.length := fun j hj => by
  have h := heap_alloc_new w (.cells cs.toArray T)
  refine ⟨?_, ?_⟩
  · have := World.rangeAt_of_block h 0 cs.length j cs[j] (by simp [hj])
    rw [this]; rfl
  · unfold World.frozen?
    rw [h]
    simp
theorem q_none (a : Act) (v : Value) (e : Nat) : (a.put none v).eval (.tmp e) = a.eval (.tmp e) := rfl
theorem q_sz0 (a : Act) (v : Value) : (a.put none v).tmps.size = a.tmps.size := rfl
theorem qH_skip {P : Program} {md : Region.Mode} {ops : Array Oper} {Q : Exit → Act → World → Prop} {S : World → Prop} {fuel : Nat} {listed : Array Bool} {a : Act} {w : World} (i : Nat) {o : Oper} (w' : World) (hr : Region.ready md ops listed = [i]) (hi : ops[i]? = some o) (hg : o.guard = none)
    (h : (execOp a.eval o).run P w = .ok .skip w') (hS : S w') (hk : wpAnyH P md ops Q S fuel (listed.setIfInBounds i true) (a.put o.dst undef) w') : wpAnyH P md ops Q S (fuel + 1) listed a w := by
  refine wpAnyH_ready hr (by simp) (AllReadyH.cons hi (fun K hK => ?_) AllReadyH.nil)
  have hw : Region.wanted o (yielded ops a.tmps) = true := by simp [Region.wanted, hg]
  rw [if_pos hw]
  unfold Oper.wp; rw [h]; exact hK.out _ _ hS (fun _ => hk)
/-- an element's cells at first. -/
def z33 : List Value := List.replicate 32 (Value.int .u8 0) ++ [Value.string ⟨#[]⟩]
theorem alloc_pooled (W : World) : (Instr.alloc 79 true (.tuple #[])).run Tryz.prog W = .ok (.pointer (some ⟨W.heap.size, 0, none⟩)) (W.alloc (.cells z33.toArray 79)) := by kernel_rfl
theorem sizePooled : (Tryz.prog.info? 79).map (·.size) = some 33 := by kernel_rfl
theorem pEl_one (p : ByteArray × ByteArray) : ∀ u ∈ bc p.1 ++ [Value.string p.2], u.oneCell' = true := by
  intro u hu
  rcases List.mem_append.1 hu with h | h
  · exact bc_one _ u h
  · simp at h; rw [h]; rfl
theorem pEl_len (p : ByteArray × ByteArray) (h : p.1.size = 32) : (bc p.1 ++ [Value.string p.2]).length = 33 := by rw [List.length_append, bc_length, h]; rfl
theorem store_pooled (W : World) (p : ByteArray × ByteArray) (h : p.1.size = 32) : (Instr.storeAt 79 (.pointer (some ⟨W.heap.size, 0, none⟩)) (pEl p)).run Tryz.prog (W.alloc (.cells z33.toArray 79)) = .ok () ((W.alloc (.cells z33.toArray 79)).setCells W.heap.size 0 (bc p.1 ++ [Value.string p.2])) := by
  have ht := th_new W 79 z33
  have hz : z33.length = 33 := rfl
  rw [hz] at ht
  have e33 : (bc p.1 ++ [Value.string p.2]).toArray.size = 33 := by rw [List.size_toArray]; exact pEl_len p h
  have := run_storeAt_mid (P := Tryz.prog) (W.alloc (.cells z33.toArray 79)) W.heap.size 0 79 (bc p.1 ++ [Value.string p.2]).toArray (by rw [e33]; exact ht) (by rw [e33]; exact sizePooled) (by rw [List.all_toArray, List.all_eq_true]; exact pEl_one p)
  simpa [pEl] using this
theorem built_pd (cs : List Value) (h : cs.length = 32) (s : ByteArray) : Tryz.prog.built 79 [(0, .agg cs.toArray), (1, .string s)] = some (cs ++ [Value.string s]).toArray := by
  match cs, h with
  | [a0, a1, a2, a3, a4, a5, a6, a7, a8, a9, a10, a11, a12, a13, a14, a15, a16, a17, a18, a19, a20, a21, a22, a23, a24, a25, a26, a27, a28, a29, a30, a31], _ => exact (show (_ : Option (Array Value)) = _ by kernel_rfl)
theorem bc_int (d : ByteArray) (j : Nat) (u : Value) (h : (bc d)[j]? = some u) : ∃ x, u = .int .u8 x := by
  have hm := List.mem_of_getElem? h
  simp [bc] at hm
  obtain ⟨x, _, rfl⟩ := hm
  exact ⟨_, rfl⟩
theorem eqlm_nil (W : World) : (binOp .eql 51 (.map none) (.map none)).run Tryz.prog W = .ok (.bool true) W := by kernel_rfl
theorem eqlm_some (b : Nat) (W : World) : (binOp .eql 51 (.map (some b)) (.map none)).run Tryz.prog W = .ok (.bool false) W := by kernel_rfl
theorem run_build2 {P : Program} {W : World} {o : Oper} {ρ : Operand → Value} {ty i j : Nat} {u v x : Value} (ho : o.op = .build ty #[(0, .tmp i), (1, .tmp j)]) (e1 : ρ (.tmp i) = u) (e2 : ρ (.tmp j) = v) (hb : (Instr.build ty #[(0, u), (1, v)]).run P W = .ok x W) : (execOp ρ o).run P W = .ok (.value x) W := by
  unfold execOp
  simp only [ho, List.map_toArray, List.map_cons, List.map_nil, e1, e2, Sem.run_bind, hb, Result.andThen_ok]
  rfl
theorem below_blank (W : World) (cs : List Value) (o : Obj) : Below W.heap.size W ((W.alloc o).setCells W.heap.size 0 cs) := below_setCells ((Below.refl _ _).alloc (Nat.le_refl _) _) _ (Nat.le_refl _) _ _

/-- what Add answers, and what is in the pool then. -/
def pAddE (Kc : Nat → Int) (s : ByteArray) (l : List ByteArray) : Int := if txErr s.data.toList ≠ 0 then txErr s.data.toList else if mem (dd Kc s) l = true then 10 else if 20 ≤ l.length then 9 else 0
def pAddL (Kc : Nat → Int) (s : ByteArray) (l : List ByteArray) : List ByteArray := if pAddE Kc s l = 0 then dd Kc s :: l else l

set_option maxRecDepth 10000 in
set_option maxHeartbeats 4000000 in
theorem padd_no (s : ByteArray) (w : World) (pv : Value) (c : Int) (hm : s.size ≤ maxLen) (hc : txErr s.data.toList = c) (h0 : c ≠ 0) :
    Calls Tryz.prog 18 #[pv, .string s] w fun e w' => e = .returned (.int .i64 c) ∧ Below w.heap.size w w' := by
  have hr := read_any s w hm
  rw [hc, if_neg h0] at hr
  have hci : ¬ (c = 0) := h0
  clear hc hm
  go_enter Tryz.func18, Tryz.ntmps18
  go_wp2_with (go_at_call 33; go_must (refine hr.mono ?_); rintro e w1 ⟨rfl, hb1⟩; have HB1 := (show Hid (Below w.heap.size w w1) from hb1); clear hb1)
  go_ret
  exact ⟨rfl, HB1.out⟩

set_option maxRecDepth 10000 in
set_option maxHeartbeats 8000000 in
theorem padd_yes (Kc : Nat → Int) (s d : ByteArray) (w : World) (gx : Nat) (mb : Option Nat) (l : List ByteArray) (hP : PoolAt w gx mb l) (hkt : KT Kc w) (hm : s.size ≤ maxLen) (h0 : txErr s.data.toList = 0) (hdd : d = dd Kc s) (hl : l.length ≤ 20) (r : Int) (L : List ByteArray) (HR : Hid ((mem d l = true ∧ r = 10 ∧ L = l) ∨ (mem d l = false ∧ 20 ≤ l.length ∧ r = 9 ∧ L = l) ∨ (mem d l = false ∧ l.length < 20 ∧ r = 0 ∧ L = d :: l))) :
    Calls Tryz.prog 18 #[.pointer (some ⟨gx, 0, none⟩), .string s] w fun e w' => e = .returned (.int .i64 r) ∧ ∃ mb', PoolAt w' gx mb' L ∧ Only gx mb w w' ∧ (mb' = mb ∨ ∃ b, mb' = some b ∧ w.heap.size ≤ b) := by
  have hr := read_any s w hm
  have hpos : 0 < w.heap.size := World.block_lt_of_cell? w _ (hkt 0 (by omega))
  have hlen := txErr_len _ h0
  have hsz : s.size ≤ 610 := hlen
  have hd : d.size = 32 := by rw [hdd]; exact dd_size Kc s
  have HD : Hid (∀ W, Below w.heap.size w W → Calls Tryz.prog 35 #[.slice (some ⟨W.heap.size, 0, none⟩) 1 1] (W.alloc (.cells #[.string s] 9)) fun e w' => e = .returned (.agg (wl .u8 (byF d) 32).toArray) ∧ Below W.heap.size W w') := fun W hW => by
    have := double_one Kc s W (hkt.later hW hpos) (by omega)
    have e : wl .u8 (dbl Kc s.data.toList) 32 = wl .u8 (byF d) 32 := by
      rw [← bc_wl d 32 hd, hdd]; exact (bc_strOf (dbl Kc s.data.toList) 32 (fun j => shaF_lt Kc _ j)).symm
    rw [← e]; exact this
  rw [h0, if_pos rfl] at hr
  have HPA : Hid (∀ W, Below w.heap.size w W → PoolAt W gx mb l) := fun W hW => hP.later hW
  have hgw := hP.lt
  obtain ⟨p, hp, hlk⟩ := hP.look d hd
  have HLK : Hid (∀ W : World, (∀ b, mb = some b → W.heap[b]? = w.heap[b]?) → (Instr.lookup 51 (.map mb) (aggD d) true).run Tryz.prog W = .ok (.tuple #[pEl p, .bool (mem d l)]) W) := hlk
  have HMB : Hid (∀ W, Below w.heap.size w W → ∀ b, mb = some b → W.heap[b]? = w.heap[b]?) := fun W hW b hb => hW.block b (hP.bsome b hb).1
  clear hlk hkt hpos hlen hdd h0 hm hP
  have HNO : Hid (mem d l = false → d ∉ l) := fun h hm => by rw [(mem_iff d l).2 hm] at h; cases h
  generalize mem d l = ok at HLK HR HNO
  go_enter Tryz.func18, Tryz.ntmps18
  go_upto_region 5 with (first
    | (go_at_call 33; go_must (refine hr.mono ?_); rintro e w1 ⟨rfl, hb1⟩; have HB1 := (show Hid (Below w.heap.size w w1) from hb1); clear hb1)
    | (go_at_call 35; go_must (refine (HD.out _ HB1.out).mono ?_); rintro e w2 ⟨rfl, hb2⟩; have HB2 := (show Hid (Below w.heap.size w w2) from HB1.out.trans (hb2.mono HB1.out.size)); clear hb2)
    | (refine wpList_store_arr rfl 76 _ _ rfl w2.heap.size .u8 (fun _ => 0) (byF d) 32 rfl rfl ?_ sizeDig ?_; exact Arr.new _ _ 32 _ _ (by rfl)))
  obtain ⟨W4, hW4⟩ : ∃ W, W = (w2.alloc (.cells #[.int .u8 0, .int .u8 0, .int .u8 0, .int .u8 0, .int .u8 0, .int .u8 0, .int .u8 0, .int .u8 0, .int .u8 0, .int .u8 0, .int .u8 0, .int .u8 0, .int .u8 0, .int .u8 0, .int .u8 0, .int .u8 0, .int .u8 0, .int .u8 0, .int .u8 0, .int .u8 0, .int .u8 0, .int .u8 0, .int .u8 0, .int .u8 0, .int .u8 0, .int .u8 0, .int .u8 0, .int .u8 0, .int .u8 0, .int .u8 0, .int .u8 0, .int .u8 0] 76)).setCells w2.heap.size 0 (wl .u8 (byF d) 32) := ⟨_, rfl⟩
  have HX : Hid (W4.rangeAt w2.heap.size 0 (bc d)) := by
    show W4.rangeAt _ _ _
    rw [hW4, bc_wl d 32 hd]; exact ((Arr.new w2 (fun _ => 0) 32 #[.int .u8 0, .int .u8 0, .int .u8 0, .int .u8 0, .int .u8 0, .int .u8 0, .int .u8 0, .int .u8 0, .int .u8 0, .int .u8 0, .int .u8 0, .int .u8 0, .int .u8 0, .int .u8 0, .int .u8 0, .int .u8 0, .int .u8 0, .int .u8 0, .int .u8 0, .int .u8 0, .int .u8 0, .int .u8 0, .int .u8 0, .int .u8 0, .int .u8 0, .int .u8 0, .int .u8 0, .int .u8 0, .int .u8 0, .int .u8 0, .int .u8 0, .int .u8 0] 76 (by rfl)).all (byF d)).range
  have HB4 : Hid (Below w.heap.size w W4) := by
    show Below _ _ _
    rw [hW4]; exact below_setCells (HB2.out.alloc HB2.out.size _) _ HB2.out.size _ _
  have HBX : Hid (w2.heap.size < W4.heap.size) := by
    show _ < _
    have := (below_setCells (Below.refl 0 (w2.alloc (.cells #[.int .u8 0, .int .u8 0, .int .u8 0, .int .u8 0, .int .u8 0, .int .u8 0, .int .u8 0, .int .u8 0, .int .u8 0, .int .u8 0, .int .u8 0, .int .u8 0, .int .u8 0, .int .u8 0, .int .u8 0, .int .u8 0, .int .u8 0, .int .u8 0, .int .u8 0, .int .u8 0, .int .u8 0, .int .u8 0, .int .u8 0, .int .u8 0, .int .u8 0, .int .u8 0, .int .u8 0, .int .u8 0, .int .u8 0, .int .u8 0, .int .u8 0, .int .u8 0] 76))) w2.heap.size (Nat.zero_le _) (wl .u8 (byF d) 32) 0).size
    rw [hW4]
    simp only [World.size_alloc] at this
    omega
  have HW2 : Hid (w.heap.size ≤ w2.heap.size) := HB2.out.size
  rw [← hW4]
  clear hW4 HD HB1 HB2 hr
  generalize w2.heap.size = B at HX HBX HW2 ⊢
  refine q_frame (fun A HFR => ?_)
  have hsz : A.tmps.size = 55 := by rw [HFR.out]; rfl
  have h0 : A.eval (.tmp 0) = .pointer (some ⟨gx, 0, none⟩) := by rw [HFR.out]; rfl
  have h7 : A.eval (.tmp 7) = .pointer (some ⟨B, 0, none⟩) := by rw [HFR.out]; rfl
  have HBD : Below W4.heap.size W4 W4.drew := ⟨rfl, rfl, rfl, Nat.le_refl _, fun _ _ => rfl⟩
  have HS : ∀ W, Below W4.heap.size W4 W → W.cell? ⟨gx, 0, none⟩ = some (.map mb) ∧ W.rangeAt B 0 (bc d) ∧ (∀ b, mb = some b → W.heap[b]? = w.heap[b]?) := fun W hW =>
    ⟨(HPA.out W (HB4.out.trans (hW.mono HB4.out.size))).c, range_later HX.out hW HBX.out, HMB.out W (HB4.out.trans (hW.mono HB4.out.size))⟩
  refine wp_region_held_drew (S := fun W => W.cell? ⟨gx, 0, none⟩ = some (.map mb) ∧ W.rangeAt B 0 (bc d) ∧ (∀ b, mb = some b → W.heap[b]? = w.heap[b]?)) (by kernel_rfl) (HS _ HBD) (fun hS => ?_)
  refine wpAnyH_take (i := 0) (v := (.pointer (some ⟨gx, 0, none⟩))) rfl (by kernel_rfl) (by kernel_rfl) (by kernel_rfl) (fun _ _ _ h => h) (Or.inl ⟨by rfl, fun W hW => q_run1 0 (.pointer (some ⟨gx, 0, none⟩)) (by simp only [q_same, q_ne, q_sz, hsz, h0, h7, ne_eq, Nat.reduceEqDiff, not_false_eq_true, Nat.reduceLT]) (fun ρ hc hf e1 => by simp [go_sem, hc, hf, e1])⟩) hS ?_
  change wpAnyH _ _ _ _ _ _ _ (Act.put _ (some 22) _) _
  refine wpAnyH_take (i := 1) (v := (.pointer (some ⟨gx, 0, none⟩))) rfl (by kernel_rfl) (by kernel_rfl) (by kernel_rfl) (fun _ _ _ h => h) (Or.inl ⟨by rfl, fun W hW => q_run1 22 (.pointer (some ⟨gx, 0, none⟩)) (by simp only [q_same, q_ne, q_sz, hsz, h0, h7, ne_eq, Nat.reduceEqDiff, not_false_eq_true, Nat.reduceLT]) (fun ρ hc hf e1 => by simp [go_sem, hc, hf, e1])⟩) hS ?_
  change wpAnyH _ _ _ _ _ _ _ (Act.put _ (some 23) _) _
  refine wpAnyH_take (i := 2) (v := (.pointer (some ⟨gx, 0, none⟩))) rfl (by kernel_rfl) (by kernel_rfl) (by kernel_rfl) (fun _ _ _ h => h) (Or.inl ⟨by rfl, fun W hW => q_run1 23 (.pointer (some ⟨gx, 0, none⟩)) (by simp only [q_same, q_ne, q_sz, hsz, h0, h7, ne_eq, Nat.reduceEqDiff, not_false_eq_true, Nat.reduceLT]) (fun ρ hc hf e1 => by simp [go_sem, hc, hf, e1])⟩) hS ?_
  change wpAnyH _ _ _ _ _ _ _ (Act.put _ (some 24) _) _
  refine wpAnyH_take (i := 3) (v := (.map mb)) rfl (by kernel_rfl) (by kernel_rfl) (by kernel_rfl) (fun _ _ _ h => h) (Or.inl ⟨by rfl, fun W hW => q_run1 24 (.pointer (some ⟨gx, 0, none⟩)) (by simp only [q_same, q_ne, q_sz, hsz, h0, h7, ne_eq, Nat.reduceEqDiff, not_false_eq_true, Nat.reduceLT]) (fun ρ hc hf e1 => by simp [go_sem, hc, hf, e1, hW.1])⟩) hS ?_
  change wpAnyH _ _ _ _ _ _ _ (Act.put _ (some 25) _) _
  refine wpAnyH_take (i := 4) (v := aggD d) rfl (by kernel_rfl) (by kernel_rfl) (by kernel_rfl) (fun _ _ _ h => h) (yieldsIf_load_mid (by rfl) 76 _ rfl B 0 (by simp only [q_same, q_ne, q_sz, hsz, h0, h7, ne_eq, Nat.reduceEqDiff, not_false_eq_true, Nat.reduceLT]) (bc d) _ (fun W hW => hW.2.1) Tryz.underlying76 rfl (by rw [bc_length, hd]; exact sizeDig)) hS ?_
  change wpAnyH _ _ _ _ _ _ _ (Act.put _ (some 26) _) _
  refine wpAnyH_take (i := 5) (v := .tuple #[pEl p, .bool ok]) rfl (by kernel_rfl) (by kernel_rfl) (by kernel_rfl) (fun _ _ _ h => h) (Or.inl ⟨by rfl, fun W hW => q_run2 25 26 (.map mb) (aggD d) (by simp only [q_same, q_ne, q_sz, hsz, h0, h7, ne_eq, Nat.reduceEqDiff, not_false_eq_true, Nat.reduceLT]) (by simp only [q_same, q_ne, q_sz, hsz, h0, h7, ne_eq, Nat.reduceEqDiff, not_false_eq_true, Nat.reduceLT]) (fun ρ hc hf e1 e2 => by simp [go_sem, hc, hf, e1, e2, HLK.out W hW.2.2])⟩) hS ?_
  change wpAnyH _ _ _ _ _ _ _ (Act.put _ (some 27) _) _
  refine wpAnyH_take (i := 6) (v := .tuple #[pEl p, .bool ok]) rfl (by kernel_rfl) (by kernel_rfl) (by kernel_rfl) (fun _ _ _ h => h) (Or.inl ⟨by rfl, fun W hW => q_run1 27 (.tuple #[pEl p, .bool ok]) (by simp only [q_same, q_ne, q_sz, hsz, h0, h7, ne_eq, Nat.reduceEqDiff, not_false_eq_true, Nat.reduceLT]) (fun ρ hc hf e1 => by simp [go_sem, hc, hf, e1])⟩) hS ?_
  change wpAnyH _ _ _ _ _ _ _ (Act.put _ (some 21) _) _
  refine wpAnyH_take (i := 7) (v := pEl p) rfl (by kernel_rfl) (by kernel_rfl) (by kernel_rfl) (fun _ _ _ h => h) (Or.inl ⟨by rfl, fun W hW => q_run1 21 (.tuple #[pEl p, .bool ok]) (by simp only [q_same, q_ne, q_sz, hsz, h0, h7, ne_eq, Nat.reduceEqDiff, not_false_eq_true, Nat.reduceLT]) (fun ρ hc hf e1 => by simp [go_sem, hc, hf, e1])⟩) hS ?_
  change wpAnyH _ _ _ _ _ _ _ (Act.put _ (some 28) _) _
  refine wpAnyH_take (i := 8) (v := .bool ok) rfl (by kernel_rfl) (by kernel_rfl) (by kernel_rfl) (fun _ _ _ h => h) (Or.inl ⟨by rfl, fun W hW => q_run1 21 (.tuple #[pEl p, .bool ok]) (by simp only [q_same, q_ne, q_sz, hsz, h0, h7, ne_eq, Nat.reduceEqDiff, not_false_eq_true, Nat.reduceLT]) (fun ρ hc hf e1 => by simp [go_sem, hc, hf, e1])⟩) hS ?_
  change wpAnyH _ _ _ _ _ _ _ (Act.put _ (some 29) _) _
  have HBA : Below W4.heap.size W4 (W4.drew.alloc (.cells z33.toArray 79)) := HBD.alloc (Nat.le_refl _) _
  refine qH_one 9 (.pointer (some ⟨W4.heap.size, 0, none⟩)) (W4.drew.alloc (.cells z33.toArray 79)) (by kernel_rfl) rfl rfl (by show (Instr.alloc 79 true (.tuple #[]) >>= fun x => pure (.value x) : Sem Next).run Tryz.prog W4.drew = _; rw [Sem.run_bind, alloc_pooled W4.drew]; rfl) (HS _ HBA) ?_
  change wpAnyH _ _ _ _ _ _ _ (Act.put _ (some 8) _) _
  have HBS : Below W4.heap.size W4 ((W4.drew.alloc (.cells z33.toArray 79)).setCells W4.heap.size 0 (bc p.1 ++ [Value.string p.2])) := below_setCells HBA _ (Nat.le_refl _) _ _
  refine qH_skip 10 ((W4.drew.alloc (.cells z33.toArray 79)).setCells W4.heap.size 0 (bc p.1 ++ [Value.string p.2])) (by kernel_rfl) rfl rfl (q_run2 8 28 (.pointer (some ⟨W4.heap.size, 0, none⟩)) (pEl p) (by simp only [q_same, q_ne, q_sz, q_none, q_sz0, hsz, h0, h7, ne_eq, Nat.reduceEqDiff, not_false_eq_true, Nat.reduceLT]) (by simp only [q_same, q_ne, q_sz, q_none, q_sz0, hsz, h0, h7, ne_eq, Nat.reduceEqDiff, not_false_eq_true, Nat.reduceLT]) (fun ρ hc hf e1 e2 => by
    have hst := store_pooled W4.drew p hp
    show (Instr.storeAt 79 (ρ (.tmp 8)) (ρ (.tmp 28)) >>= fun _ => pure .skip : Sem Next).run Tryz.prog _ = _
    rw [e1, e2, Sem.run_bind]
    rw [show W4.drew.heap.size = W4.heap.size from rfl] at hst
    rw [hst]; rfl)) (HS _ HBS) ?_
  change wpAnyH _ _ _ _ _ _ _ (Act.put _ none _) _
  refine qH_one 11 (.bool ok) ((W4.drew.alloc (.cells z33.toArray 79)).setCells W4.heap.size 0 (bc p.1 ++ [Value.string p.2])) (by kernel_rfl) rfl rfl (q_run1 29 (.bool ok) (by simp only [q_same, q_ne, q_sz, q_none, q_sz0, hsz, h0, h7, ne_eq, Nat.reduceEqDiff, not_false_eq_true, Nat.reduceLT]) (fun ρ hc hf e1 => by simp [go_sem, hc, hf, e1])) (HS _ HBS) ?_
  change wpAnyH _ _ _ _ _ _ _ (Act.put _ (some 9) _) _
  refine wpAnyH_done (by kernel_rfl) ?_ _
  have hfr := HFR.out
  clear HFR hsz h0 h7 hS
  subst hfr
  simp only [Act.put, List.setIfInBounds_toArray, List.set_cons_zero, List.set_cons_succ]
  generalize hW5 : (W4.drew.alloc (.cells z33.toArray 79)).setCells W4.heap.size 0 (bc p.1 ++ [Value.string p.2]) = W5 at HBS ⊢
  clear hW5
  have HP5 : Hid (PoolAt W5 gx mb l) := HPA.out W5 (HB4.out.trans (HBS.mono HB4.out.size))
  have HX5 : Hid (W5.rangeAt B 0 (bc d)) := (HS W5 HBS).2.1
  have HB5 : Hid (Below w.heap.size w W5) := HB4.out.trans (HBS.mono HB4.out.size)
  have HBX5 : Hid (B < W5.heap.size) := by show _ < _; have := HBS.size; have := HBX.out; omega
  have c5 : W5.cell? ⟨gx, 0, none⟩ = some (.map mb) := HP5.out.c
  have f5 : W5.frozen? ⟨gx, 0, none⟩ = false := HP5.out.f
  have hln : ∀ ty, (Builtin.len_ #[51] ty #[.map mb]).run Tryz.prog W5 = .ok (.int .i64 (l.length : Int)) W5 := fun ty => HP5.out.len ty
  clear HS HBS HBA HBD HLK HMB HX HBX HPA HB4 hp
  rcases HR.out with ⟨rfl, rfl, hL⟩ | ⟨rfl, hf, rfl, hL⟩ | ⟨rfl, hf, rfl, hL⟩
  · have hL2 := hL.symm
    subst hL2
    clear HR hL
    go_wp2
    go_ret
    exact ⟨rfl, mb, HP5.out, Only.of_below HB5.out, .inl rfl⟩
  · have hL2 := hL.symm
    subst hL2
    clear hL
    have hfi : (20 : Int) ≤ (l.length : Int) := by omega
    have HQ : Hid (∃ mb', PoolAt W5 gx mb' l ∧ Only gx mb w W5 ∧ (mb' = mb ∨ ∃ b, mb' = some b ∧ w.heap.size ≤ b)) := ⟨mb, HP5.out, Only.of_below HB5.out, .inl rfl⟩
    clear HP5 HX5 HB5 HR hf
    generalize (l.length : Int) = LN at hln hfi
    go_wp2
    go_ret
    obtain ⟨mb', h1, h2, h3⟩ := HQ.out
    exact ⟨rfl, mb', h1, h2, h3⟩
  · have hL2 := hL.symm
    subst hL2
    clear hL
    have hfi : ¬ ((20 : Int) ≤ (l.length : Int)) := by omega
    have HLL : Hid (l.length < maxLen) := by show _ < _; unfold maxLen; omega
    have HND : Hid (d ∉ l) := HNO.out rfl
    clear HR hf HNO
    generalize (l.length : Int) = LN at hln hfi
    cases mb with
    | none =>
      have hmk := @run_makeMap Tryz.prog
      have heqm := eqlm_nil
      have hl0 : l = [] := by
        rcases HP5.out.m with ⟨_, h⟩ | ⟨_, _, h, _⟩
        · exact h
        · cases h
      subst hl0
      have c6 : (W5.alloc (.map #[] 0)).cell? ⟨gx, 0, none⟩ = some (.map none) := by rw [((Below.refl W5.heap.size W5).alloc (Nat.le_refl _) _).cell (p := ⟨gx, 0, none⟩) HP5.out.lt]; exact c5
      have f6 : (W5.alloc (.map #[] 0)).frozen? ⟨gx, 0, none⟩ = false := by rw [((Below.refl W5.heap.size W5).alloc (Nat.le_refl _) _).frozen (p := ⟨gx, 0, none⟩) HP5.out.lt]; exact f5
      go_upto_region 12 with fail
      have HP6 : Hid (PoolAt ((W5.alloc (.map #[] 0)).setCell ⟨gx, 0, none⟩ (.map (some W5.heap.size))) gx (some W5.heap.size) []) := HP5.out.made HP5.out.lt
      have HB6 : Below W5.heap.size W5 (W5.alloc (.map #[] 0)) := (Below.refl _ _).alloc (Nat.le_refl _) _
      have HBg : Hid (gx ≠ B) := fun e => by
        obtain ⟨u, hu⟩ : ∃ u, (bc d)[0]? = some u := ⟨_, List.getElem?_eq_getElem (by rw [bc_length, hd]; omega)⟩
        obtain ⟨x, rfl⟩ := bc_int d 0 u hu
        have h1 := HX5.out 0 _ hu
        subst e
        rw [Nat.add_zero] at h1
        rw [c5] at h1; cases h1
      have HX6 : Hid (((W5.alloc (.map #[] 0)).setCell ⟨gx, 0, none⟩ (.map (some W5.heap.size))).rangeAt B 0 (bc d)) := fun j v hv => by
        rw [World.cell?_setCell_other _ _ _ _ (by intro e; exact HBg.out (by injection e))]
        exact range_later HX5.out HB6 HBX5.out j v hv
      have HO6 : Hid (Only gx none w ((W5.alloc (.map #[] 0)).setCell ⟨gx, 0, none⟩ (.map (some W5.heap.size)))) := ((Only.of_below HB5.out).after (HB6.mono HB5.out.size)).set 0 _
      have HBX6 : Hid (B < ((W5.alloc (.map #[] 0)).setCell ⟨gx, 0, none⟩ (.map (some W5.heap.size))).heap.size) := by show _ < _; have := HBX5.out; simp; omega
      have HMB : Hid ((none : Option Nat) = some W5.heap.size ∨ w.heap.size ≤ W5.heap.size) := .inr HB5.out.size
      have HME : Hid (∃ mb', mb' = some W5.heap.size ∧ (mb' = none ∨ ∃ b, mb' = some b ∧ w.heap.size ≤ b)) := ⟨_, rfl, .inr ⟨_, rfl, HB5.out.size⟩⟩
      generalize (W5.alloc (.map #[] 0)).setCell ⟨gx, 0, none⟩ (.map (some W5.heap.size)) = W6 at HP6 HX6 HO6 HBX6 ⊢
      generalize W5.heap.size = bm at HP6 HMB HME ⊢
      clear HP5 HX5 HB5 HBX5 HB6 c5 f5 c6 f6 hln hmk HBg heqm
      refine q_frame (fun A HFR => ?_)
      have hsz : A.tmps.size = 55 := by rw [HFR.out]; rfl
      have h0 : A.eval (.tmp 0) = .pointer (some ⟨gx, 0, none⟩) := by rw [HFR.out]; rfl
      have h5 : A.eval (.tmp 5) = .string s := by rw [HFR.out]; rfl
      have h7 : A.eval (.tmp 7) = .pointer (some ⟨B, 0, none⟩) := by rw [HFR.out]; rfl
      have HBD : Below W6.heap.size W6 W6.drew := ⟨rfl, rfl, rfl, Nat.le_refl _, fun _ _ => rfl⟩
      have HS : ∀ W, Below W6.heap.size W6 W → W.cell? ⟨gx, 0, none⟩ = some (.map (some bm)) ∧ W.rangeAt B 0 (bc d) := fun W hW => ⟨(HP6.out.later hW).c, range_later HX6.out hW HBX6.out⟩
      refine wp_region_held_drew (S := fun W => W.cell? ⟨gx, 0, none⟩ = some (.map (some bm)) ∧ W.rangeAt B 0 (bc d)) (by kernel_rfl) (HS _ HBD) (fun hS => ?_)
      refine wpAnyH_take (i := 0) (v := (.pointer (some ⟨gx, 0, none⟩))) rfl (by kernel_rfl) (by kernel_rfl) (by kernel_rfl) (fun _ _ _ h => h) (Or.inl ⟨by rfl, fun W hW => q_run1 0 (.pointer (some ⟨gx, 0, none⟩)) (by simp only [q_same, q_ne, q_sz, hsz, h0, h5, h7, ne_eq, Nat.reduceEqDiff, not_false_eq_true, Nat.reduceLT]) (fun ρ hc hf e1 => by simp [go_sem, hc, hf, e1])⟩) hS ?_
      change wpAnyH _ _ _ _ _ _ _ (Act.put _ (some 46) _) _
      refine wpAnyH_take (i := 1) (v := (.pointer (some ⟨gx, 0, none⟩))) rfl (by kernel_rfl) (by kernel_rfl) (by kernel_rfl) (fun _ _ _ h => h) (Or.inl ⟨by rfl, fun W hW => q_run1 46 (.pointer (some ⟨gx, 0, none⟩)) (by simp only [q_same, q_ne, q_sz, hsz, h0, h5, h7, ne_eq, Nat.reduceEqDiff, not_false_eq_true, Nat.reduceLT]) (fun ρ hc hf e1 => by simp [go_sem, hc, hf, e1])⟩) hS ?_
      change wpAnyH _ _ _ _ _ _ _ (Act.put _ (some 47) _) _
      refine wpAnyH_take (i := 2) (v := (.pointer (some ⟨gx, 0, none⟩))) rfl (by kernel_rfl) (by kernel_rfl) (by kernel_rfl) (fun _ _ _ h => h) (Or.inl ⟨by rfl, fun W hW => q_run1 47 (.pointer (some ⟨gx, 0, none⟩)) (by simp only [q_same, q_ne, q_sz, hsz, h0, h5, h7, ne_eq, Nat.reduceEqDiff, not_false_eq_true, Nat.reduceLT]) (fun ρ hc hf e1 => by simp [go_sem, hc, hf, e1])⟩) hS ?_
      change wpAnyH _ _ _ _ _ _ _ (Act.put _ (some 48) _) _
      refine wpAnyH_take (i := 3) (v := (.map (some bm))) rfl (by kernel_rfl) (by kernel_rfl) (by kernel_rfl) (fun _ _ _ h => h) (Or.inl ⟨by rfl, fun W hW => q_run1 48 (.pointer (some ⟨gx, 0, none⟩)) (by simp only [q_same, q_ne, q_sz, hsz, h0, h5, h7, ne_eq, Nat.reduceEqDiff, not_false_eq_true, Nat.reduceLT]) (fun ρ hc hf e1 => by simp [go_sem, hc, hf, e1, hW.1])⟩) hS ?_
      change wpAnyH _ _ _ _ _ _ _ (Act.put _ (some 49) _) _
      refine wpAnyH_take (i := 4) (v := aggD d) rfl (by kernel_rfl) (by kernel_rfl) (by kernel_rfl) (fun _ _ _ h => h) (yieldsIf_load_mid (by rfl) 76 _ rfl B 0 (by simp only [q_same, q_ne, q_sz, hsz, h0, h5, h7, ne_eq, Nat.reduceEqDiff, not_false_eq_true, Nat.reduceLT]) (bc d) _ (fun W hW => hW.2) Tryz.underlying76 rfl (by rw [bc_length, hd]; exact sizeDig)) hS ?_
      change wpAnyH _ _ _ _ _ _ _ (Act.put _ (some 50) _) _
      refine wpAnyH_take (i := 5) (v := aggD d) rfl (by kernel_rfl) (by kernel_rfl) (by kernel_rfl) (fun _ _ _ h => h) (yieldsIf_load_mid (by rfl) 76 _ rfl B 0 (by simp only [q_same, q_ne, q_sz, hsz, h0, h5, h7, ne_eq, Nat.reduceEqDiff, not_false_eq_true, Nat.reduceLT]) (bc d) _ (fun W hW => hW.2) Tryz.underlying76 rfl (by rw [bc_length, hd]; exact sizeDig)) hS ?_
      change wpAnyH _ _ _ _ _ _ _ (Act.put _ (some 51) _) _
      refine wpAnyH_take (i := 6) (v := (.string s)) rfl (by kernel_rfl) (by kernel_rfl) (by kernel_rfl) (fun _ _ _ h => h) (Or.inl ⟨by rfl, fun W hW => q_run1 5 (.string s) (by simp only [q_same, q_ne, q_sz, hsz, h0, h5, h7, ne_eq, Nat.reduceEqDiff, not_false_eq_true, Nat.reduceLT]) (fun ρ hc hf e1 => by simp [go_sem, hc, hf, e1])⟩) hS ?_
      change wpAnyH _ _ _ _ _ _ _ (Act.put _ (some 52) _) _
      refine qH_call 7 36 #[.string s] _ (by kernel_rfl) rfl rfl (q_run1 52 (.string s) (by simp only [q_same, q_ne, q_sz, hsz, h0, h5, h7, ne_eq, Nat.reduceEqDiff, not_false_eq_true, Nat.reduceLT]) (fun ρ hc hf e1 => by simp [go_sem, hc, hf, e1])) (calls_val (clone_any s _ (by omega))) ?_
      rintro _ w7 ⟨rfl, hb7⟩
      have HB7 : Below W6.heap.size W6 w7 := HBD.trans hb7
      refine ⟨HS _ HB7, ?_⟩
      change wpAnyH _ _ _ _ _ _ _ (Act.put _ (some 53) _) _
      have hbd : ∀ W : World, (Instr.build 79 #[(0, aggD d), (1, .string s)]).run Tryz.prog W = .ok (pEl (d, s)) W := fun W => run_build W _ _ _ (built_pd (bc d) (by rw [bc_length, hd]) s)
      refine qH_one 8 (pEl (d, s)) w7 (by kernel_rfl) rfl rfl (q_run2 51 53 (aggD d) (.string s) (by simp only [q_same, q_ne, q_sz, hsz, h0, h5, h7, ne_eq, Nat.reduceEqDiff, not_false_eq_true, Nat.reduceLT]) (by simp only [q_same, q_ne, q_sz, hsz, h0, h5, h7, ne_eq, Nat.reduceEqDiff, not_false_eq_true, Nat.reduceLT]) (fun ρ hc hf e1 e2 => by
        exact run_build2 rfl e1 e2 (hbd w7))) (HS _ HB7) ?_
      change wpAnyH _ _ _ _ _ _ _ (Act.put _ (some 54) _) _
      obtain ⟨w8, hrun, hP8, hg8⟩ := (HP6.out.later HB7).store d hd HND.out HLL.out (d, s) hd
      refine qH_skip 9 w8 (by kernel_rfl) rfl rfl (by
        show (Instr.mapUpdate 51 _ _ _ >>= fun _ => pure .skip : Sem Next).run Tryz.prog _ = _
        rw [show Act.eval _ (.tmp 49) = Value.map (some bm) from (by simp only [q_same, q_ne, q_sz, hsz, h0, h5, h7, ne_eq, Nat.reduceEqDiff, not_false_eq_true, Nat.reduceLT]), show Act.eval _ (.tmp 50) = aggD d from (by simp only [q_same, q_ne, q_sz, hsz, h0, h5, h7, ne_eq, Nat.reduceEqDiff, not_false_eq_true, Nat.reduceLT]), show Act.eval _ (.tmp 54) = pEl (d, s) from (by simp only [q_same, q_ne, q_sz, hsz, h0, h5, h7, ne_eq, Nat.reduceEqDiff, not_false_eq_true, Nat.reduceLT]), Sem.run_bind, hrun]; rfl) ⟨hP8.c, fun j v hv => by
        have hBb : B ≠ bm := fun e => by
          rcases HP6.out.m with ⟨h, _⟩ | ⟨b', D, h, ho, _⟩
          · cases h
          · injection h with h
            obtain ⟨es, clock, hb, _⟩ := ho
            have h1 := HX6.out j v hv
            rw [e, h] at h1
            simp [World.cell?, hb] at h1
        rw [World.cell?_of_block (hg8.block B (Nat.lt_of_lt_of_le HBX6.out HB7.size) (fun e => hBb (by injection e)))]
        exact (HS _ HB7).2 j v hv⟩ ?_
      change wpAnyH _ _ _ _ _ _ _ (Act.put _ none _) _
      refine wpAnyH_done (by kernel_rfl) ?_ _
      have hfr := HFR.out
      have HPZ : Hid (PoolAt w8 gx (some bm) (d :: [])) := hP8
      have HOZ : Hid (Only gx none w w8) := (HO6.out.after (HB7.mono HO6.out.size)).turned hg8 HMB.out
      clear HFR hsz h0 h5 h7 hS HS HBD HB7 hrun hP8 hg8 hbd
      subst hfr
      simp only [Act.put, List.setIfInBounds_toArray, List.set_cons_zero, List.set_cons_succ]
      go_wp2
      go_ret
      obtain ⟨mb', e1, e2⟩ := HME.out
      exact ⟨rfl, mb', e1 ▸ HPZ.out, HOZ.out, e2⟩
    | some bm =>
      have heqm := eqlm_some bm
      go_upto_region 12 with fail
      have HP6 : Hid (PoolAt W5 gx (some bm) l) := HP5.out
      have HX6 : Hid (W5.rangeAt B 0 (bc d)) := HX5.out
      have HO6 : Hid (Only gx (some bm) w W5) := Only.of_below HB5.out
      have HBX6 : Hid (B < W5.heap.size) := HBX5.out
      have HMB : Hid ((some bm : Option Nat) = some bm ∨ w.heap.size ≤ bm) := .inl rfl
      have HME : Hid (∃ mb', mb' = some bm ∧ (mb' = some bm ∨ ∃ b, mb' = some b ∧ w.heap.size ≤ b)) := ⟨_, rfl, .inl rfl⟩
      clear HP5 HX5 HB5 HBX5 c5 f5 hln heqm
      generalize W5 = W6 at HP6 HX6 HO6 HBX6 ⊢
      refine q_frame (fun A HFR => ?_)
      have hsz : A.tmps.size = 55 := by rw [HFR.out]; rfl
      have h0 : A.eval (.tmp 0) = .pointer (some ⟨gx, 0, none⟩) := by rw [HFR.out]; rfl
      have h5 : A.eval (.tmp 5) = .string s := by rw [HFR.out]; rfl
      have h7 : A.eval (.tmp 7) = .pointer (some ⟨B, 0, none⟩) := by rw [HFR.out]; rfl
      have HBD : Below W6.heap.size W6 W6.drew := ⟨rfl, rfl, rfl, Nat.le_refl _, fun _ _ => rfl⟩
      have HS : ∀ W, Below W6.heap.size W6 W → W.cell? ⟨gx, 0, none⟩ = some (.map (some bm)) ∧ W.rangeAt B 0 (bc d) := fun W hW => ⟨(HP6.out.later hW).c, range_later HX6.out hW HBX6.out⟩
      refine wp_region_held_drew (S := fun W => W.cell? ⟨gx, 0, none⟩ = some (.map (some bm)) ∧ W.rangeAt B 0 (bc d)) (by kernel_rfl) (HS _ HBD) (fun hS => ?_)
      refine wpAnyH_take (i := 0) (v := (.pointer (some ⟨gx, 0, none⟩))) rfl (by kernel_rfl) (by kernel_rfl) (by kernel_rfl) (fun _ _ _ h => h) (Or.inl ⟨by rfl, fun W hW => q_run1 0 (.pointer (some ⟨gx, 0, none⟩)) (by simp only [q_same, q_ne, q_sz, hsz, h0, h5, h7, ne_eq, Nat.reduceEqDiff, not_false_eq_true, Nat.reduceLT]) (fun ρ hc hf e1 => by simp [go_sem, hc, hf, e1])⟩) hS ?_
      change wpAnyH _ _ _ _ _ _ _ (Act.put _ (some 46) _) _
      refine wpAnyH_take (i := 1) (v := (.pointer (some ⟨gx, 0, none⟩))) rfl (by kernel_rfl) (by kernel_rfl) (by kernel_rfl) (fun _ _ _ h => h) (Or.inl ⟨by rfl, fun W hW => q_run1 46 (.pointer (some ⟨gx, 0, none⟩)) (by simp only [q_same, q_ne, q_sz, hsz, h0, h5, h7, ne_eq, Nat.reduceEqDiff, not_false_eq_true, Nat.reduceLT]) (fun ρ hc hf e1 => by simp [go_sem, hc, hf, e1])⟩) hS ?_
      change wpAnyH _ _ _ _ _ _ _ (Act.put _ (some 47) _) _
      refine wpAnyH_take (i := 2) (v := (.pointer (some ⟨gx, 0, none⟩))) rfl (by kernel_rfl) (by kernel_rfl) (by kernel_rfl) (fun _ _ _ h => h) (Or.inl ⟨by rfl, fun W hW => q_run1 47 (.pointer (some ⟨gx, 0, none⟩)) (by simp only [q_same, q_ne, q_sz, hsz, h0, h5, h7, ne_eq, Nat.reduceEqDiff, not_false_eq_true, Nat.reduceLT]) (fun ρ hc hf e1 => by simp [go_sem, hc, hf, e1])⟩) hS ?_
      change wpAnyH _ _ _ _ _ _ _ (Act.put _ (some 48) _) _
      refine wpAnyH_take (i := 3) (v := (.map (some bm))) rfl (by kernel_rfl) (by kernel_rfl) (by kernel_rfl) (fun _ _ _ h => h) (Or.inl ⟨by rfl, fun W hW => q_run1 48 (.pointer (some ⟨gx, 0, none⟩)) (by simp only [q_same, q_ne, q_sz, hsz, h0, h5, h7, ne_eq, Nat.reduceEqDiff, not_false_eq_true, Nat.reduceLT]) (fun ρ hc hf e1 => by simp [go_sem, hc, hf, e1, hW.1])⟩) hS ?_
      change wpAnyH _ _ _ _ _ _ _ (Act.put _ (some 49) _) _
      refine wpAnyH_take (i := 4) (v := aggD d) rfl (by kernel_rfl) (by kernel_rfl) (by kernel_rfl) (fun _ _ _ h => h) (yieldsIf_load_mid (by rfl) 76 _ rfl B 0 (by simp only [q_same, q_ne, q_sz, hsz, h0, h5, h7, ne_eq, Nat.reduceEqDiff, not_false_eq_true, Nat.reduceLT]) (bc d) _ (fun W hW => hW.2) Tryz.underlying76 rfl (by rw [bc_length, hd]; exact sizeDig)) hS ?_
      change wpAnyH _ _ _ _ _ _ _ (Act.put _ (some 50) _) _
      refine wpAnyH_take (i := 5) (v := aggD d) rfl (by kernel_rfl) (by kernel_rfl) (by kernel_rfl) (fun _ _ _ h => h) (yieldsIf_load_mid (by rfl) 76 _ rfl B 0 (by simp only [q_same, q_ne, q_sz, hsz, h0, h5, h7, ne_eq, Nat.reduceEqDiff, not_false_eq_true, Nat.reduceLT]) (bc d) _ (fun W hW => hW.2) Tryz.underlying76 rfl (by rw [bc_length, hd]; exact sizeDig)) hS ?_
      change wpAnyH _ _ _ _ _ _ _ (Act.put _ (some 51) _) _
      refine wpAnyH_take (i := 6) (v := (.string s)) rfl (by kernel_rfl) (by kernel_rfl) (by kernel_rfl) (fun _ _ _ h => h) (Or.inl ⟨by rfl, fun W hW => q_run1 5 (.string s) (by simp only [q_same, q_ne, q_sz, hsz, h0, h5, h7, ne_eq, Nat.reduceEqDiff, not_false_eq_true, Nat.reduceLT]) (fun ρ hc hf e1 => by simp [go_sem, hc, hf, e1])⟩) hS ?_
      change wpAnyH _ _ _ _ _ _ _ (Act.put _ (some 52) _) _
      refine qH_call 7 36 #[.string s] _ (by kernel_rfl) rfl rfl (q_run1 52 (.string s) (by simp only [q_same, q_ne, q_sz, hsz, h0, h5, h7, ne_eq, Nat.reduceEqDiff, not_false_eq_true, Nat.reduceLT]) (fun ρ hc hf e1 => by simp [go_sem, hc, hf, e1])) (calls_val (clone_any s _ (by omega))) ?_
      rintro _ w7 ⟨rfl, hb7⟩
      have HB7 : Below W6.heap.size W6 w7 := HBD.trans hb7
      refine ⟨HS _ HB7, ?_⟩
      change wpAnyH _ _ _ _ _ _ _ (Act.put _ (some 53) _) _
      have hbd : ∀ W : World, (Instr.build 79 #[(0, aggD d), (1, .string s)]).run Tryz.prog W = .ok (pEl (d, s)) W := fun W => run_build W _ _ _ (built_pd (bc d) (by rw [bc_length, hd]) s)
      refine qH_one 8 (pEl (d, s)) w7 (by kernel_rfl) rfl rfl (q_run2 51 53 (aggD d) (.string s) (by simp only [q_same, q_ne, q_sz, hsz, h0, h5, h7, ne_eq, Nat.reduceEqDiff, not_false_eq_true, Nat.reduceLT]) (by simp only [q_same, q_ne, q_sz, hsz, h0, h5, h7, ne_eq, Nat.reduceEqDiff, not_false_eq_true, Nat.reduceLT]) (fun ρ hc hf e1 e2 => by
        exact run_build2 rfl e1 e2 (hbd w7))) (HS _ HB7) ?_
      change wpAnyH _ _ _ _ _ _ _ (Act.put _ (some 54) _) _
      obtain ⟨w8, hrun, hP8, hg8⟩ := (HP6.out.later HB7).store d hd HND.out HLL.out (d, s) hd
      refine qH_skip 9 w8 (by kernel_rfl) rfl rfl (by
        show (Instr.mapUpdate 51 _ _ _ >>= fun _ => pure .skip : Sem Next).run Tryz.prog _ = _
        rw [show Act.eval _ (.tmp 49) = Value.map (some bm) from (by simp only [q_same, q_ne, q_sz, hsz, h0, h5, h7, ne_eq, Nat.reduceEqDiff, not_false_eq_true, Nat.reduceLT]), show Act.eval _ (.tmp 50) = aggD d from (by simp only [q_same, q_ne, q_sz, hsz, h0, h5, h7, ne_eq, Nat.reduceEqDiff, not_false_eq_true, Nat.reduceLT]), show Act.eval _ (.tmp 54) = pEl (d, s) from (by simp only [q_same, q_ne, q_sz, hsz, h0, h5, h7, ne_eq, Nat.reduceEqDiff, not_false_eq_true, Nat.reduceLT]), Sem.run_bind, hrun]; rfl) ⟨hP8.c, fun j v hv => by
        have hBb : B ≠ bm := fun e => by
          rcases HP6.out.m with ⟨h, _⟩ | ⟨b', D, h, ho, _⟩
          · cases h
          · injection h with h
            obtain ⟨es, clock, hb, _⟩ := ho
            have h1 := HX6.out j v hv
            rw [e, h] at h1
            simp [World.cell?, hb] at h1
        rw [World.cell?_of_block (hg8.block B (Nat.lt_of_lt_of_le HBX6.out HB7.size) (fun e => hBb (by injection e)))]
        exact (HS _ HB7).2 j v hv⟩ ?_
      change wpAnyH _ _ _ _ _ _ _ (Act.put _ none _) _
      refine wpAnyH_done (by kernel_rfl) ?_ _
      have hfr := HFR.out
      have HPZ : Hid (PoolAt w8 gx (some bm) (d :: l)) := hP8
      have HOZ : Hid (Only gx (some bm) w w8) := (HO6.out.after (HB7.mono HO6.out.size)).turned hg8 HMB.out
      clear HFR hsz h0 h5 h7 hS HS HBD HB7 hrun hP8 hg8 hbd
      subst hfr
      simp only [Act.put, List.setIfInBounds_toArray, List.set_cons_zero, List.set_cons_succ]
      go_wp2
      go_ret
      obtain ⟨mb', e1, e2⟩ := HME.out
      exact ⟨rfl, mb', e1 ▸ HPZ.out, HOZ.out, e2⟩
end Go.Proofs.YtkmalggeieiepaaGreatDoor
set_option linter.unusedSimpArgs false
set_option linter.unusedVariables false
namespace Go.Proofs.YtkmalggeieiepaaGreatDoor
open Go.RowKit

set_option maxRecDepth 10000 in
set_option maxHeartbeats 4000000 in
theorem pdrop_no (s : ByteArray) (w : World) (pv : Value) (h : s.size ≠ 32) :
    Calls Tryz.prog 20 #[pv, .string s] w fun e w' => e = .returned (.bool false) ∧ Below w.heap.size w w' := by
  have HD : Hid (Calls Tryz.prog 40 #[.string s] w fun e w' => e = .returned (.tuple #[.agg (wl .u8 (fun _ => 0) 32).toArray, .bool false]) ∧ Below w.heap.size w w') := digestOf_no s w h
  clear h
  go_enter Tryz.func20, Tryz.ntmps20
  go_wp2_with (first
    | (go_at_call 40; go_must (refine HD.out.mono ?_); rintro e w1 ⟨rfl, hb1⟩; have HB1 := (show Hid (Below w.heap.size w w1) from hb1); clear hb1)
    | (refine wpList_store_arr rfl 76 _ _ rfl w1.heap.size .u8 (fun _ => 0) (fun _ => 0) 32 rfl rfl ?_ sizeDig ?_; exact Arr.new _ _ 32 _ _ (by rfl)))
  go_ret
  exact ⟨rfl, below_setCells (HB1.out.alloc HB1.out.size _) _ HB1.out.size _ _⟩

set_option maxRecDepth 10000 in
set_option maxHeartbeats 8000000 in
theorem pdrop_yes (d : ByteArray) (w : World) (gx : Nat) (mb : Option Nat) (l : List ByteArray) (hP : PoolAt w gx mb l) (hd : d.size = 32) :
    Calls Tryz.prog 20 #[.pointer (some ⟨gx, 0, none⟩), .string d] w fun e w' => e = .returned (.bool (mem d l)) ∧ PoolAt w' gx mb (del d l) ∧ Only gx mb w w' := by
  have HD : Hid (Calls Tryz.prog 40 #[.string d] w fun e w' => e = .returned (.tuple #[.agg (wl .u8 (byF d) 32).toArray, .bool true]) ∧ Below w.heap.size w w') := by
    have := digestOf_ok d w hd
    unfold aggD at this; rw [bc_wl d 32 hd] at this; exact this
  have HPA : Hid (∀ W, Below w.heap.size w W → PoolAt W gx mb l) := fun W hW => hP.later hW
  obtain ⟨p, hp, hlk⟩ := hP.look d hd
  have HLK : Hid (∀ W : World, (∀ b, mb = some b → W.heap[b]? = w.heap[b]?) → (Instr.lookup 51 (.map mb) (aggD d) true).run Tryz.prog W = .ok (.tuple #[pEl p, .bool (mem d l)]) W) := hlk
  have HMB : Hid (∀ W, Below w.heap.size w W → ∀ b, mb = some b → W.heap[b]? = w.heap[b]?) := fun W hW b hb => hW.block b (hP.bsome b hb).1
  clear hlk hP
  generalize mem d l = ok at HLK ⊢
  go_enter Tryz.func20, Tryz.ntmps20
  go_upto_region 4 with (first
    | (go_at_call 40; go_must (refine HD.out.mono ?_); rintro e w2 ⟨rfl, hb2⟩; have HB2 := (show Hid (Below w.heap.size w w2) from hb2); clear hb2)
    | (refine wpList_store_arr rfl 76 _ _ rfl w2.heap.size .u8 (fun _ => 0) (byF d) 32 rfl rfl ?_ sizeDig ?_; exact Arr.new _ _ 32 _ _ (by rfl)))
  obtain ⟨W4, hW4⟩ : ∃ W, W = (w2.alloc (.cells #[.int .u8 0, .int .u8 0, .int .u8 0, .int .u8 0, .int .u8 0, .int .u8 0, .int .u8 0, .int .u8 0, .int .u8 0, .int .u8 0, .int .u8 0, .int .u8 0, .int .u8 0, .int .u8 0, .int .u8 0, .int .u8 0, .int .u8 0, .int .u8 0, .int .u8 0, .int .u8 0, .int .u8 0, .int .u8 0, .int .u8 0, .int .u8 0, .int .u8 0, .int .u8 0, .int .u8 0, .int .u8 0, .int .u8 0, .int .u8 0, .int .u8 0, .int .u8 0] 76)).setCells w2.heap.size 0 (wl .u8 (byF d) 32) := ⟨_, rfl⟩
  have HX : Hid (W4.rangeAt w2.heap.size 0 (bc d)) := by
    show W4.rangeAt _ _ _
    rw [hW4, bc_wl d 32 hd]; exact ((Arr.new w2 (fun _ => 0) 32 #[.int .u8 0, .int .u8 0, .int .u8 0, .int .u8 0, .int .u8 0, .int .u8 0, .int .u8 0, .int .u8 0, .int .u8 0, .int .u8 0, .int .u8 0, .int .u8 0, .int .u8 0, .int .u8 0, .int .u8 0, .int .u8 0, .int .u8 0, .int .u8 0, .int .u8 0, .int .u8 0, .int .u8 0, .int .u8 0, .int .u8 0, .int .u8 0, .int .u8 0, .int .u8 0, .int .u8 0, .int .u8 0, .int .u8 0, .int .u8 0, .int .u8 0, .int .u8 0] 76 (by rfl)).all (byF d)).range
  have HB4 : Hid (Below w.heap.size w W4) := by
    show Below _ _ _
    rw [hW4]; exact below_setCells (HB2.out.alloc HB2.out.size _) _ HB2.out.size _ _
  have HBX : Hid (w2.heap.size < W4.heap.size) := by
    show _ < _
    have := (below_setCells (Below.refl 0 (w2.alloc (.cells #[.int .u8 0, .int .u8 0, .int .u8 0, .int .u8 0, .int .u8 0, .int .u8 0, .int .u8 0, .int .u8 0, .int .u8 0, .int .u8 0, .int .u8 0, .int .u8 0, .int .u8 0, .int .u8 0, .int .u8 0, .int .u8 0, .int .u8 0, .int .u8 0, .int .u8 0, .int .u8 0, .int .u8 0, .int .u8 0, .int .u8 0, .int .u8 0, .int .u8 0, .int .u8 0, .int .u8 0, .int .u8 0, .int .u8 0, .int .u8 0, .int .u8 0, .int .u8 0] 76))) w2.heap.size (Nat.zero_le _) (wl .u8 (byF d) 32) 0).size
    rw [hW4]
    simp only [World.size_alloc] at this
    omega
  rw [← hW4]
  clear hW4 HD HB2
  generalize w2.heap.size = B at HX HBX ⊢
  refine q_frame (fun A HFR => ?_)
  have hsz : A.tmps.size = 31 := by rw [HFR.out]; rfl
  have h0 : A.eval (.tmp 0) = .pointer (some ⟨gx, 0, none⟩) := by rw [HFR.out]; rfl
  have h5 : A.eval (.tmp 5) = .pointer (some ⟨B, 0, none⟩) := by rw [HFR.out]; rfl
  have HBD : Below W4.heap.size W4 W4.drew := ⟨rfl, rfl, rfl, Nat.le_refl _, fun _ _ => rfl⟩
  have HS : ∀ W, Below W4.heap.size W4 W → W.cell? ⟨gx, 0, none⟩ = some (.map mb) ∧ W.rangeAt B 0 (bc d) ∧ (∀ b, mb = some b → W.heap[b]? = w.heap[b]?) := fun W hW =>
    ⟨(HPA.out W (HB4.out.trans (hW.mono HB4.out.size))).c, range_later HX.out hW HBX.out, HMB.out W (HB4.out.trans (hW.mono HB4.out.size))⟩
  refine wp_region_held_drew (S := fun W => W.cell? ⟨gx, 0, none⟩ = some (.map mb) ∧ W.rangeAt B 0 (bc d) ∧ (∀ b, mb = some b → W.heap[b]? = w.heap[b]?)) (by kernel_rfl) (HS _ HBD) (fun hS => ?_)
  refine wpAnyH_take (i := 0) (v := (.pointer (some ⟨gx, 0, none⟩))) rfl (by kernel_rfl) (by kernel_rfl) (by kernel_rfl) (fun _ _ _ h => h) (Or.inl ⟨by rfl, fun W hW => q_run1 0 (.pointer (some ⟨gx, 0, none⟩)) (by simp only [q_same, q_ne, q_sz, hsz, h0, h5, ne_eq, Nat.reduceEqDiff, not_false_eq_true, Nat.reduceLT]) (fun ρ hc hf e1 => by simp [go_sem, hc, hf, e1])⟩) hS ?_
  change wpAnyH _ _ _ _ _ _ _ (Act.put _ (some 17) _) _
  refine wpAnyH_take (i := 1) (v := (.pointer (some ⟨gx, 0, none⟩))) rfl (by kernel_rfl) (by kernel_rfl) (by kernel_rfl) (fun _ _ _ h => h) (Or.inl ⟨by rfl, fun W hW => q_run1 17 (.pointer (some ⟨gx, 0, none⟩)) (by simp only [q_same, q_ne, q_sz, hsz, h0, h5, ne_eq, Nat.reduceEqDiff, not_false_eq_true, Nat.reduceLT]) (fun ρ hc hf e1 => by simp [go_sem, hc, hf, e1])⟩) hS ?_
  change wpAnyH _ _ _ _ _ _ _ (Act.put _ (some 18) _) _
  refine wpAnyH_take (i := 2) (v := (.pointer (some ⟨gx, 0, none⟩))) rfl (by kernel_rfl) (by kernel_rfl) (by kernel_rfl) (fun _ _ _ h => h) (Or.inl ⟨by rfl, fun W hW => q_run1 18 (.pointer (some ⟨gx, 0, none⟩)) (by simp only [q_same, q_ne, q_sz, hsz, h0, h5, ne_eq, Nat.reduceEqDiff, not_false_eq_true, Nat.reduceLT]) (fun ρ hc hf e1 => by simp [go_sem, hc, hf, e1])⟩) hS ?_
  change wpAnyH _ _ _ _ _ _ _ (Act.put _ (some 19) _) _
  refine wpAnyH_take (i := 3) (v := (.map mb)) rfl (by kernel_rfl) (by kernel_rfl) (by kernel_rfl) (fun _ _ _ h => h) (Or.inl ⟨by rfl, fun W hW => q_run1 19 (.pointer (some ⟨gx, 0, none⟩)) (by simp only [q_same, q_ne, q_sz, hsz, h0, h5, ne_eq, Nat.reduceEqDiff, not_false_eq_true, Nat.reduceLT]) (fun ρ hc hf e1 => by simp [go_sem, hc, hf, e1, hW.1])⟩) hS ?_
  change wpAnyH _ _ _ _ _ _ _ (Act.put _ (some 20) _) _
  refine wpAnyH_take (i := 4) (v := aggD d) rfl (by kernel_rfl) (by kernel_rfl) (by kernel_rfl) (fun _ _ _ h => h) (yieldsIf_load_mid (by rfl) 76 _ rfl B 0 (by simp only [q_same, q_ne, q_sz, hsz, h0, h5, ne_eq, Nat.reduceEqDiff, not_false_eq_true, Nat.reduceLT]) (bc d) _ (fun W hW => hW.2.1) Tryz.underlying76 rfl (by rw [bc_length, hd]; exact sizeDig)) hS ?_
  change wpAnyH _ _ _ _ _ _ _ (Act.put _ (some 21) _) _
  refine wpAnyH_take (i := 5) (v := .tuple #[pEl p, .bool ok]) rfl (by kernel_rfl) (by kernel_rfl) (by kernel_rfl) (fun _ _ _ h => h) (Or.inl ⟨by rfl, fun W hW => q_run2 20 21 (.map mb) (aggD d) (by simp only [q_same, q_ne, q_sz, hsz, h0, h5, ne_eq, Nat.reduceEqDiff, not_false_eq_true, Nat.reduceLT]) (by simp only [q_same, q_ne, q_sz, hsz, h0, h5, ne_eq, Nat.reduceEqDiff, not_false_eq_true, Nat.reduceLT]) (fun ρ hc hf e1 e2 => by simp [go_sem, hc, hf, e1, e2, HLK.out W hW.2.2])⟩) hS ?_
  change wpAnyH _ _ _ _ _ _ _ (Act.put _ (some 22) _) _
  refine wpAnyH_take (i := 6) (v := .tuple #[pEl p, .bool ok]) rfl (by kernel_rfl) (by kernel_rfl) (by kernel_rfl) (fun _ _ _ h => h) (Or.inl ⟨by rfl, fun W hW => q_run1 22 (.tuple #[pEl p, .bool ok]) (by simp only [q_same, q_ne, q_sz, hsz, h0, h5, ne_eq, Nat.reduceEqDiff, not_false_eq_true, Nat.reduceLT]) (fun ρ hc hf e1 => by simp [go_sem, hc, hf, e1])⟩) hS ?_
  change wpAnyH _ _ _ _ _ _ _ (Act.put _ (some 16) _) _
  refine wpAnyH_take (i := 7) (v := pEl p) rfl (by kernel_rfl) (by kernel_rfl) (by kernel_rfl) (fun _ _ _ h => h) (Or.inl ⟨by rfl, fun W hW => q_run1 16 (.tuple #[pEl p, .bool ok]) (by simp only [q_same, q_ne, q_sz, hsz, h0, h5, ne_eq, Nat.reduceEqDiff, not_false_eq_true, Nat.reduceLT]) (fun ρ hc hf e1 => by simp [go_sem, hc, hf, e1])⟩) hS ?_
  change wpAnyH _ _ _ _ _ _ _ (Act.put _ (some 23) _) _
  refine wpAnyH_take (i := 8) (v := .bool ok) rfl (by kernel_rfl) (by kernel_rfl) (by kernel_rfl) (fun _ _ _ h => h) (Or.inl ⟨by rfl, fun W hW => q_run1 16 (.tuple #[pEl p, .bool ok]) (by simp only [q_same, q_ne, q_sz, hsz, h0, h5, ne_eq, Nat.reduceEqDiff, not_false_eq_true, Nat.reduceLT]) (fun ρ hc hf e1 => by simp [go_sem, hc, hf, e1])⟩) hS ?_
  change wpAnyH _ _ _ _ _ _ _ (Act.put _ (some 24) _) _
  have HBA : Below W4.heap.size W4 (W4.drew.alloc (.cells z33.toArray 79)) := HBD.alloc (Nat.le_refl _) _
  refine qH_one 9 (.pointer (some ⟨W4.heap.size, 0, none⟩)) (W4.drew.alloc (.cells z33.toArray 79)) (by kernel_rfl) rfl rfl (by show (Instr.alloc 79 true (.tuple #[]) >>= fun x => pure (.value x) : Sem Next).run Tryz.prog W4.drew = _; rw [Sem.run_bind, alloc_pooled W4.drew]; rfl) (HS _ HBA) ?_
  change wpAnyH _ _ _ _ _ _ _ (Act.put _ (some 7) _) _
  have HBS : Below W4.heap.size W4 ((W4.drew.alloc (.cells z33.toArray 79)).setCells W4.heap.size 0 (bc p.1 ++ [Value.string p.2])) := below_setCells HBA _ (Nat.le_refl _) _ _
  refine qH_skip 10 ((W4.drew.alloc (.cells z33.toArray 79)).setCells W4.heap.size 0 (bc p.1 ++ [Value.string p.2])) (by kernel_rfl) rfl rfl (q_run2 7 23 (.pointer (some ⟨W4.heap.size, 0, none⟩)) (pEl p) (by simp only [q_same, q_ne, q_sz, q_none, q_sz0, hsz, h0, h5, ne_eq, Nat.reduceEqDiff, not_false_eq_true, Nat.reduceLT]) (by simp only [q_same, q_ne, q_sz, q_none, q_sz0, hsz, h0, h5, ne_eq, Nat.reduceEqDiff, not_false_eq_true, Nat.reduceLT]) (fun ρ hc hf e1 e2 => by
    have hst := store_pooled W4.drew p hp
    show (Instr.storeAt 79 (ρ (.tmp 7)) (ρ (.tmp 23)) >>= fun _ => pure .skip : Sem Next).run Tryz.prog _ = _
    rw [e1, e2, Sem.run_bind]
    rw [show W4.drew.heap.size = W4.heap.size from rfl] at hst
    rw [hst]; rfl)) (HS _ HBS) ?_
  change wpAnyH _ _ _ _ _ _ _ (Act.put _ none _) _
  refine qH_one 11 (.bool ok) ((W4.drew.alloc (.cells z33.toArray 79)).setCells W4.heap.size 0 (bc p.1 ++ [Value.string p.2])) (by kernel_rfl) rfl rfl (q_run1 24 (.bool ok) (by simp only [q_same, q_ne, q_sz, q_none, q_sz0, hsz, h0, h5, ne_eq, Nat.reduceEqDiff, not_false_eq_true, Nat.reduceLT]) (fun ρ hc hf e1 => by simp [go_sem, hc, hf, e1])) (HS _ HBS) ?_
  change wpAnyH _ _ _ _ _ _ _ (Act.put _ (some 8) _) _
  refine wpAnyH_done (by kernel_rfl) ?_ _
  have hfr := HFR.out
  clear HFR hsz h0 h5 hS
  subst hfr
  simp only [Act.put, List.setIfInBounds_toArray, List.set_cons_zero, List.set_cons_succ]
  generalize hW5 : (W4.drew.alloc (.cells z33.toArray 79)).setCells W4.heap.size 0 (bc p.1 ++ [Value.string p.2]) = W5 at HBS ⊢
  clear hW5
  have HP5 : Hid (PoolAt W5 gx mb l) := HPA.out W5 (HB4.out.trans (HBS.mono HB4.out.size))
  have HX5 : Hid (W5.rangeAt B 0 (bc d)) := (HS W5 HBS).2.1
  have HB5 : Hid (Below w.heap.size w W5) := HB4.out.trans (HBS.mono HB4.out.size)
  have HBX5 : Hid (B < W5.heap.size) := by show _ < _; have := HBS.size; have := HBX.out; omega
  clear HS HBS HBA HBD HLK HMB HX HBX HPA HB4 hp
  go_upto_region 5 with fail
  refine q_frame (fun A HFR => ?_)
  have hsz : A.tmps.size = 31 := by rw [HFR.out]; rfl
  have h0 : A.eval (.tmp 0) = .pointer (some ⟨gx, 0, none⟩) := by rw [HFR.out]; rfl
  have h5 : A.eval (.tmp 5) = .pointer (some ⟨B, 0, none⟩) := by rw [HFR.out]; rfl
  have HBD : Below W5.heap.size W5 W5.drew := ⟨rfl, rfl, rfl, Nat.le_refl _, fun _ _ => rfl⟩
  have HS : ∀ W, Below W5.heap.size W5 W → W.cell? ⟨gx, 0, none⟩ = some (.map mb) ∧ W.rangeAt B 0 (bc d) := fun W hW => ⟨(HP5.out.later hW).c, range_later HX5.out hW HBX5.out⟩
  refine wp_region_held_drew (S := fun W => W.cell? ⟨gx, 0, none⟩ = some (.map mb) ∧ W.rangeAt B 0 (bc d)) (by kernel_rfl) (HS _ HBD) (fun hS => ?_)
  refine wpAnyH_take (i := 0) (v := (.pointer (some ⟨gx, 0, none⟩))) rfl (by kernel_rfl) (by kernel_rfl) (by kernel_rfl) (fun _ _ _ h => h) (Or.inl ⟨by rfl, fun W hW => q_run1 0 (.pointer (some ⟨gx, 0, none⟩)) (by simp only [q_same, q_ne, q_sz, hsz, h0, h5, ne_eq, Nat.reduceEqDiff, not_false_eq_true, Nat.reduceLT]) (fun ρ hc hf e1 => by simp [go_sem, hc, hf, e1])⟩) hS ?_
  change wpAnyH _ _ _ _ _ _ _ (Act.put _ (some 25) _) _
  refine wpAnyH_take (i := 1) (v := (.pointer (some ⟨gx, 0, none⟩))) rfl (by kernel_rfl) (by kernel_rfl) (by kernel_rfl) (fun _ _ _ h => h) (Or.inl ⟨by rfl, fun W hW => q_run1 25 (.pointer (some ⟨gx, 0, none⟩)) (by simp only [q_same, q_ne, q_sz, hsz, h0, h5, ne_eq, Nat.reduceEqDiff, not_false_eq_true, Nat.reduceLT]) (fun ρ hc hf e1 => by simp [go_sem, hc, hf, e1])⟩) hS ?_
  change wpAnyH _ _ _ _ _ _ _ (Act.put _ (some 26) _) _
  refine wpAnyH_take (i := 2) (v := (.pointer (some ⟨gx, 0, none⟩))) rfl (by kernel_rfl) (by kernel_rfl) (by kernel_rfl) (fun _ _ _ h => h) (Or.inl ⟨by rfl, fun W hW => q_run1 26 (.pointer (some ⟨gx, 0, none⟩)) (by simp only [q_same, q_ne, q_sz, hsz, h0, h5, ne_eq, Nat.reduceEqDiff, not_false_eq_true, Nat.reduceLT]) (fun ρ hc hf e1 => by simp [go_sem, hc, hf, e1])⟩) hS ?_
  change wpAnyH _ _ _ _ _ _ _ (Act.put _ (some 27) _) _
  refine wpAnyH_take (i := 3) (v := (.map mb)) rfl (by kernel_rfl) (by kernel_rfl) (by kernel_rfl) (fun _ _ _ h => h) (Or.inl ⟨by rfl, fun W hW => q_run1 27 (.pointer (some ⟨gx, 0, none⟩)) (by simp only [q_same, q_ne, q_sz, hsz, h0, h5, ne_eq, Nat.reduceEqDiff, not_false_eq_true, Nat.reduceLT]) (fun ρ hc hf e1 => by simp [go_sem, hc, hf, e1, hW.1])⟩) hS ?_
  change wpAnyH _ _ _ _ _ _ _ (Act.put _ (some 28) _) _
  refine wpAnyH_take (i := 4) (v := aggD d) rfl (by kernel_rfl) (by kernel_rfl) (by kernel_rfl) (fun _ _ _ h => h) (yieldsIf_load_mid (by rfl) 76 _ rfl B 0 (by simp only [q_same, q_ne, q_sz, hsz, h0, h5, ne_eq, Nat.reduceEqDiff, not_false_eq_true, Nat.reduceLT]) (bc d) _ (fun W hW => hW.2) Tryz.underlying76 rfl (by rw [bc_length, hd]; exact sizeDig)) hS ?_
  change wpAnyH _ _ _ _ _ _ _ (Act.put _ (some 29) _) _
  obtain ⟨w8, hrun, hP8, hg8⟩ := (HP5.out.later HBD).drop d hd 0
  have HS8 : w8.cell? ⟨gx, 0, none⟩ = some (.map mb) ∧ w8.rangeAt B 0 (bc d) := ⟨hP8.c, fun j v hv => by
    rcases hg8 with rfl | ⟨bm, hbm, hg8⟩
    · exact (HS _ HBD).2 j v hv
    · have hBb : B ≠ bm := fun e => by
        rcases HP5.out.m with ⟨h, _⟩ | ⟨b', D, h, ho, _⟩
        · rw [h] at hbm; cases hbm
        · rw [h] at hbm
          injection hbm with hbm
          obtain ⟨es, clock, hb, _⟩ := ho
          have h1 := HX5.out j v hv
          rw [e, ← hbm] at h1
          simp [World.cell?, hb] at h1
      rw [World.cell?_of_block (hg8.block B HBX5.out (fun e => hBb (by injection e)))]
      exact (HS _ HBD).2 j v hv⟩
  refine qH_one 5 (.tuple #[]) w8 (by kernel_rfl) rfl rfl (q_run2 28 29 (.map mb) (aggD d) (by simp only [q_same, q_ne, q_sz, q_none, q_sz0, hsz, h0, h5, ne_eq, Nat.reduceEqDiff, not_false_eq_true, Nat.reduceLT]) (by simp only [q_same, q_ne, q_sz, q_none, q_sz0, hsz, h0, h5, ne_eq, Nat.reduceEqDiff, not_false_eq_true, Nat.reduceLT]) (fun ρ hc hf e1 e2 => by simp [go_sem, hc, hf, e1, e2, hrun])) HS8 ?_
  change wpAnyH _ _ _ _ _ _ _ (Act.put _ none _) _
  refine wpAnyH_done (by kernel_rfl) ?_ _
  have hfr := HFR.out
  have HPZ : Hid (PoolAt w8 gx mb (del d l)) := hP8
  have HOZ : Hid (Only gx mb w w8) := by
    rcases hg8 with rfl | ⟨bm, hbm, hg8⟩
    · exact Only.of_below (HB5.out.trans (HBD.mono HB5.out.size))
    · exact (Only.of_below (HB5.out.trans (HBD.mono HB5.out.size))).turned hg8 (.inl hbm)
  clear HFR hsz h0 h5 hS HS HBD hrun hP8 hg8 HS8
  subst hfr
  simp only [Act.put, List.setIfInBounds_toArray, List.set_cons_zero, List.set_cons_succ]
  go_wp2
  go_ret
  exact ⟨rfl, HPZ.out, HOZ.out⟩
end Go.Proofs.YtkmalggeieiepaaGreatDoor
set_option linter.unusedVariables false
namespace Go.Proofs.YtkmalggeieiepaaGreatDoor
open Go.RowKit

/-- a pair of receivers, as they lie: the program's block, its map's, the reference's block, its pool's slice, the transactions. -/
structure Pr where
  gx : Nat
  mb : Option Nat
  gm : Nat
  v : Value
  p : List ByteArray
/-- a list that was handed out. -/
structure Lt where
  v : Value
  n : Nat
structure PairAt (dd : ByteArray → ByteArray) (gT : Nat) (W : World) (r : Pr) : Prop where
  x : PoolAt W r.gx r.mb (r.p.map dd)
  cT : W.cell? ⟨r.gm, 0, none⟩ = some (.pointer (some ⟨gT, 0, none⟩))
  cP : W.cell? ⟨r.gm, 1, none⟩ = some r.v
  fP : W.frozen? ⟨r.gm, 1, none⟩ = false
  sv : SVal W r.v r.p
  len : r.p.length ≤ 20
  sz : ∀ s ∈ r.p, s.size ≤ 1048576
  rise : Rise dd r.p
theorem SVal.stay {W W' : World} {v : Value} {l : List ByteArray} (h : SVal W v l) (hb : 0 < l.length → ∀ b, v.ownBlock = some b → W'.heap[b]? = W.heap[b]?) : SVal W' v l := by
  obtain ⟨a, cap, rfl, hc, hr⟩ := h
  refine ⟨a, cap, rfl, hc, fun h0 => ?_⟩
  obtain ⟨b, o, rfl, hs⟩ := hr h0
  exact ⟨b, o, rfl, fun j hj => by rw [World.cell?_of_block (hb h0 b rfl)]; exact hs j hj⟩
theorem SVal.blk {W : World} {v : Value} {l : List ByteArray} (h : SVal W v l) (h0 : 0 < l.length) : ∃ b o, v.ownBlock = some b ∧ W.cell? ⟨b, o, none⟩ = some (.string (l[0])) ∧ b < W.heap.size := by
  obtain ⟨a, cap, rfl, hc, hr⟩ := h
  obtain ⟨b, o, rfl, hs⟩ := hr h0
  exact ⟨b, o, rfl, hs 0 h0, World.block_lt_of_cell? W _ (hs 0 h0)⟩
theorem PairAt.stay {dd : ByteArray → ByteArray} {gT : Nat} {W W' : World} {r : Pr} (h : PairAt dd gT W r) (h1 : W'.heap[r.gx]? = W.heap[r.gx]?) (h2 : W'.heap[r.gm]? = W.heap[r.gm]?) (h3 : ∀ b, r.mb = some b → W'.heap[b]? = W.heap[b]?) (h4 : 0 < r.p.length → ∀ b, r.v.ownBlock = some b → W'.heap[b]? = W.heap[b]?) : PairAt dd gT W' r :=
  ⟨h.x.stay h1 h3, by rw [World.cell?_of_block h2]; exact h.cT, by rw [World.cell?_of_block h2]; exact h.cP, by rw [World.frozen?_of_block h2]; exact h.fP, h.sv.stay h4, h.len, h.sz, h.rise⟩
/-- the pairs in memory. -/
def prC (ps : List Pr) : List Value := ps.flatMap fun r => [.pointer (some ⟨r.gx, 0, none⟩), .pointer (some ⟨r.gm, 0, none⟩)]
theorem prC_snoc (ps : List Pr) (r : Pr) : prC (ps ++ [r]) = prC ps ++ [.pointer (some ⟨r.gx, 0, none⟩), .pointer (some ⟨r.gm, 0, none⟩)] := by simp [prC]
theorem prC_get : ∀ (ps : List Pr) (i : Nat) (r : Pr), ps[i]? = some r → (prC ps)[2 * i]? = some (.pointer (some ⟨r.gx, 0, none⟩)) ∧ (prC ps)[2 * i + 1]? = some (.pointer (some ⟨r.gm, 0, none⟩))
  | [], i, r, h => by simp at h
  | q :: ps, 0, r, h => by
    simp at h; subst h
    exact ⟨rfl, rfl⟩
  | q :: ps, i + 1, r, h => by
    have ih := prC_get ps i r (by simpa using h)
    have e : prC (q :: ps) = Value.pointer (some ⟨q.gx, 0, none⟩) :: .pointer (some ⟨q.gm, 0, none⟩) :: prC ps := rfl
    rw [e, show 2 * (i + 1) = 2 * i + 1 + 1 by omega, show 2 * i + 1 + 1 + 1 = (2 * i + 1) + 1 + 1 by omega]
    simpa using ih
theorem prC_set : ∀ (ps : List Pr) (i : Nat) (r r' : Pr), ps[i]? = some r → r'.gx = r.gx → r'.gm = r.gm → prC (ps.set i r') = prC ps
  | [], i, r, r', h, _, _ => by simp at h
  | q :: ps, 0, r, r', h, h1, h2 => by
    simp at h; subst h
    simp [prC, h1, h2]
  | q :: ps, i + 1, r, r', h, h1, h2 => by
    have ih := prC_set ps i r r' (by simpa using h) h1 h2
    have e : ∀ l, prC (q :: l) = Value.pointer (some ⟨q.gx, 0, none⟩) :: .pointer (some ⟨q.gm, 0, none⟩) :: prC l := fun _ => rfl
    rw [List.set_cons_succ, e, e, ih]

/-- the state of a script: 'own' tells whose a block is. -/
structure Sc (dd : ByteArray → ByteArray) (W0 W : World) (gW gT : Nat) (own : Nat → Nat × Nat) (rv lv : Value) (ps : List Pr) (ls : List Lt) : Prop where
  c0 : W.cell? ⟨gW, 0, none⟩ = some (.pointer (some ⟨gT, 0, none⟩))
  c1 : W.cell? ⟨gW, 1, none⟩ = some rv
  c2 : W.cell? ⟨gW, 2, none⟩ = some lv
  c3 : W.cell? ⟨gW, 3, none⟩ = some (.bool false)
  f1 : W.frozen? ⟨gW, 1, none⟩ = false
  f2 : W.frozen? ⟨gW, 2, none⟩ = false
  oW : own gW = (1, 0)
  rs : W.ownsRow (gW + 1) 48 2 rv ps.length (prC ps)
  lr : W.ownsRow (gW + 1) 44 1 lv ls.length (ls.map fun x => x.v)
  oR : ∀ b, rv.ownBlock = some b → own b = (1, 1)
  oL : ∀ b, lv.ownBlock = some b → own b = (1, 2)
  pr : ∀ i r, ps[i]? = some r → PairAt dd gT W r ∧ own r.gx = (2, i) ∧ own r.gm = (3, i) ∧ (∀ b, r.mb = some b → own b = (4, i)) ∧ (0 < r.p.length → ∀ b, r.v.ownBlock = some b → own b = (5, i))
  li : ∀ k x, ls[k]? = some x → SVal W x.v (List.replicate x.n (mkB k)) ∧ x.n ≤ 22 ∧ 0 < x.n ∧ ∀ b, x.v.ownBlock = some b → own b = (6, k)
  dom : ∀ k, own k ≠ (0, 0) → gW ≤ k ∧ k < W.heap.size
  bel : Below gW W0 W
theorem own_stay {W W' : World} {base e size n : Nat} {v : Value} {xs : List Value} (h : W.ownsRow base e size v n xs) (hb : ∀ b, v.ownBlock = some b → W'.heap[b]? = W.heap[b]?) : W'.ownsRow base e size v n xs := by
  refine ⟨h.1, ?_⟩
  rcases h.2 with h1 | ⟨g, cap, cur, rfl, h2, h3, h4⟩
  · exact .inl h1
  · exact .inr ⟨g, cap, cur, rfl, h2, (hb g rfl).trans h3, h4⟩
theorem ne00 {a b : Nat × Nat} (h : a = b) (hb : b ≠ (0, 0)) : a ≠ (0, 0) := h ▸ hb
/-- nothing that is owned has turned. -/
theorem Sc.keep {dd : ByteArray → ByteArray} {W0 W W' : World} {gW gT : Nat} {own : Nat → Nat × Nat} {rv lv : Value} {ps : List Pr} {ls : List Lt} (S : Sc dd W0 W gW gT own rv lv ps ls) (h : Below W.heap.size W W') : Sc dd W0 W' gW gT own rv lv ps ls := by
  have hf : ∀ k, own k ≠ (0, 0) → W'.heap[k]? = W.heap[k]? := fun k hk => h.block k (S.dom k hk).2
  have hW := hf gW (ne00 S.oW (by simp))
  refine ⟨by rw [World.cell?_of_block hW]; exact S.c0, by rw [World.cell?_of_block hW]; exact S.c1, by rw [World.cell?_of_block hW]; exact S.c2, by rw [World.cell?_of_block hW]; exact S.c3, by rw [World.frozen?_of_block hW]; exact S.f1, by rw [World.frozen?_of_block hW]; exact S.f2, S.oW,
    own_stay S.rs (fun b hb => hf b (ne00 (S.oR b hb) (by simp))), own_stay S.lr (fun b hb => hf b (ne00 (S.oL b hb) (by simp))), S.oR, S.oL, fun i r hi => ?_, fun k x hk => ?_, fun k hk => ⟨(S.dom k hk).1, Nat.lt_of_lt_of_le (S.dom k hk).2 h.size⟩, S.bel.trans (h.mono ?_)⟩
  · obtain ⟨h1, h2, h3, h4, h5⟩ := S.pr i r hi
    exact ⟨h1.stay (hf _ (ne00 h2 (by simp))) (hf _ (ne00 h3 (by simp))) (fun b hb => hf b (ne00 (h4 b hb) (by simp))) (fun h0 b hb => hf b (ne00 (h5 h0 b hb) (by simp))), h2, h3, h4, h5⟩
  · obtain ⟨h1, h2, h3, h4⟩ := S.li k x hk
    exact ⟨h1.stay (fun _ b hb => hf b (ne00 (h4 b hb) (by simp))), h2, h3, h4⟩
  · exact Nat.le_of_lt (S.dom gW (ne00 S.oW (by simp))).2
/-- one pair has turned. -/
theorem Sc.pair {dd : ByteArray → ByteArray} {W0 W W' : World} {gW gT : Nat} {own : Nat → Nat × Nat} {rv lv : Value} {ps : List Pr} {ls : List Lt} (S : Sc dd W0 W gW gT own rv lv ps ls) {i : Nat} {r r' : Pr} (hi : ps[i]? = some r)
    (hP : PairAt dd gT W' r') (hgx : r'.gx = r.gx) (hgm : r'.gm = r.gm) (hmb : r'.mb = r.mb ∨ ∃ b, r'.mb = some b ∧ W.heap.size ≤ b) (hv : (r'.v = r.v ∧ r'.p = r.p) ∨ ∀ k, r'.v.ownBlock = some k → W.heap.size ≤ k)
    (hsz : W.heap.size ≤ W'.heap.size) (hos : W'.os = W.os) (htp : W'.tape = W.tape) (hou : W'.output = W.output)
    (hfr : ∀ k, k < W.heap.size → own k ≠ (2, i) → own k ≠ (3, i) → own k ≠ (4, i) → W'.heap[k]? = W.heap[k]?) : ∃ own', Sc dd W0 W' gW gT own' rv lv (ps.set i r') ls := by
  obtain ⟨hA, h2, h3, h4, h5⟩ := S.pr i r hi
  let own' : Nat → Nat × Nat := fun k => if k < W.heap.size then own k else if r'.mb = some k then (4, i) else if 0 < r'.p.length ∧ r'.v.ownBlock = some k then (5, i) else (0, 0)
  have old : ∀ k, own k ≠ (0, 0) → own' k = own k := fun k hk => if_pos (S.dom k hk).2
  have hf : ∀ k, own k ≠ (0, 0) → own k ≠ (2, i) → own k ≠ (3, i) → own k ≠ (4, i) → W'.heap[k]? = W.heap[k]? := fun k hk => hfr k (S.dom k hk).2
  have hW := hf gW (ne00 S.oW (by simp)) (by rw [S.oW]; simp) (by rw [S.oW]; simp) (by rw [S.oW]; simp)
  have il : i < ps.length := (List.getElem?_eq_some_iff.1 hi).1
  refine ⟨own', by rw [World.cell?_of_block hW]; exact S.c0, by rw [World.cell?_of_block hW]; exact S.c1, by rw [World.cell?_of_block hW]; exact S.c2, by rw [World.cell?_of_block hW]; exact S.c3, by rw [World.frozen?_of_block hW]; exact S.f1, by rw [World.frozen?_of_block hW]; exact S.f2, ?_, ?_, ?_, ?_, ?_, ?_, ?_, ?_, ?_⟩
  · rw [old gW (ne00 S.oW (by simp))]; exact S.oW
  · rw [List.length_set, prC_set ps i r r' hi hgx hgm]
    exact own_stay S.rs (fun b hb => hf b (ne00 (S.oR b hb) (by simp)) (by rw [S.oR b hb]; simp) (by rw [S.oR b hb]; simp) (by rw [S.oR b hb]; simp))
  · exact own_stay S.lr (fun b hb => hf b (ne00 (S.oL b hb) (by simp)) (by rw [S.oL b hb]; simp) (by rw [S.oL b hb]; simp) (by rw [S.oL b hb]; simp))
  · intro b hb; rw [old b (ne00 (S.oR b hb) (by simp))]; exact S.oR b hb
  · intro b hb; rw [old b (ne00 (S.oL b hb) (by simp))]; exact S.oL b hb
  · intro j q hj
    by_cases hij : i = j
    · subst hij
      rw [List.getElem?_set_self il] at hj
      injection hj with hj
      subst hj
      refine ⟨hP, ?_, ?_, ?_, ?_⟩
      · rw [hgx, old _ (ne00 h2 (by simp))]; exact h2
      · rw [hgm, old _ (ne00 h3 (by simp))]; exact h3
      · intro b hb
        rcases hmb with e | ⟨b', e, hge⟩
        · rw [e] at hb; rw [old _ (ne00 (h4 b hb) (by simp))]; exact h4 b hb
        · rw [e] at hb; injection hb with hb; subst hb
          show (if _ then _ else _) = _
          rw [if_neg (by omega), if_pos e]
      · intro h0 b hb
        have hne : r'.mb ≠ some b := fun e => by
          obtain ⟨b2, o, e2, hc, _⟩ := hP.sv.blk h0
          rw [hb] at e2; injection e2 with e2; subst e2
          rcases hP.x.m with ⟨hn, _⟩ | ⟨b3, D, hn, ⟨es, clock, hh, _⟩, _⟩
          · rw [e] at hn; cases hn
          · rw [e] at hn; injection hn with hn; subst hn
            simp [World.cell?, hh] at hc
        rcases hv with ⟨e1, e2⟩ | hge
        · rw [e1] at hb; rw [e2] at h0; rw [old _ (ne00 (h5 h0 b hb) (by simp))]; exact h5 h0 b hb
        · have := hge b hb
          show (if _ then _ else _) = _
          rw [if_neg (by omega), if_neg hne, if_pos ⟨h0, hb⟩]
    · rw [List.getElem?_set_ne hij] at hj
      obtain ⟨k1, k2, k3, k4, k5⟩ := S.pr j q hj
      have ne : ∀ c k, own k = (c, j) → c ≠ 0 → W'.heap[k]? = W.heap[k]? := fun c k hk hc => hf k (by rw [hk]; simp [hc]) (by rw [hk]; simp; omega) (by rw [hk]; simp; omega) (by rw [hk]; simp; omega)
      refine ⟨k1.stay (ne 2 _ k2 (by omega)) (ne 3 _ k3 (by omega)) (fun b hb => ne 4 b (k4 b hb) (by omega)) (fun h0 b hb => ne 5 b (k5 h0 b hb) (by omega)), ?_, ?_, ?_, ?_⟩
      · rw [old _ (ne00 k2 (by simp))]; exact k2
      · rw [old _ (ne00 k3 (by simp))]; exact k3
      · intro b hb; rw [old _ (ne00 (k4 b hb) (by simp))]; exact k4 b hb
      · intro h0 b hb; rw [old _ (ne00 (k5 h0 b hb) (by simp))]; exact k5 h0 b hb
  · intro k x hk
    obtain ⟨k1, k2, k3, k4⟩ := S.li k x hk
    refine ⟨k1.stay (fun _ b hb => hf b (ne00 (k4 b hb) (by simp)) (by rw [k4 b hb]; simp) (by rw [k4 b hb]; simp) (by rw [k4 b hb]; simp)), k2, k3, fun b hb => ?_⟩
    rw [old _ (ne00 (k4 b hb) (by simp))]; exact k4 b hb
  · intro k hk
    by_cases hlt : k < W.heap.size
    · rw [show own' k = own k from if_pos hlt] at hk
      exact ⟨(S.dom k hk).1, Nat.lt_of_lt_of_le hlt hsz⟩
    · have hgl := (S.dom gW (ne00 S.oW (by simp))).2
      refine ⟨by omega, ?_⟩
      by_cases hm : r'.mb = some k
      · exact (hP.x.bsome k hm).1
      · by_cases hr : 0 < r'.p.length ∧ r'.v.ownBlock = some k
        · obtain ⟨b2, o, e2, _, hb2⟩ := hP.sv.blk hr.1
          rw [hr.2] at e2; injection e2 with e2; subst e2; exact hb2
        · exfalso; apply hk
          show (if _ then _ else _) = _
          rw [if_neg hlt, if_neg hm, if_neg hr]
  · have hgl := (S.dom gW (ne00 S.oW (by simp))).2
    refine S.bel.trans ⟨hos, htp, hou, hsz, fun k hk => ?_⟩
    have h00 : own k = (0, 0) := by
      refine Classical.byContradiction fun h => ?_
      have := (S.dom k h).1; omega
    exact hfr k (by omega) (by rw [h00]; simp) (by rw [h00]; simp) (by rw [h00]; simp)
end Go.Proofs.YtkmalggeieiepaaGreatDoor
set_option linter.unusedVariables false
namespace Go.Proofs.YtkmalggeieiepaaGreatDoor
open Go.RowKit Go.Sort

/-- a block that nobody owns stays. -/
def Loose (own : Nat → Nat × Nat) (W w' : World) : Prop := ∀ k, k < W.heap.size → own k = (0, 0) → w'.heap[k]? = W.heap[k]?
/-- the digests by the reference's tables. -/
def Tw (dg : ByteArray → ByteArray) (gT gW : Nat) (W0 : World) : Prop := ∀ (s : ByteArray) (W : World), s.size ≤ 1048576 → Below gW W0 W → Calls Tryz.prog 39 #[.pointer (some ⟨gT, 0, none⟩), .string s] W fun e w' => e = .returned (.string (dg s)) ∧ Below W.heap.size W w'
/-- behind the program's call. -/
def MidA (W w7 : World) (r : Pr) (L : List ByteArray) : Prop := ∃ mb', PoolAt w7 r.gx mb' L ∧ Only r.gx r.mb W w7 ∧ (mb' = r.mb ∨ ∃ b, mb' = some b ∧ W.heap.size ≤ b)
theorem Only.low {gx g : Nat} {mb : Option Nat} {w w' : World} (h : Only gx mb w w') (hg : g ≤ gx) (hm : ∀ b, mb = some b → g ≤ b) (hs : g ≤ w.heap.size) : Below g w w' :=
  ⟨h.os, h.tape, h.output, h.size, fun k hk => h.block k (by omega) (by omega) (fun e => by have := hm k e.symm; omega)⟩

section
variable {Kc : Nat → Int} {W0 W : World} {gW gT : Nat} {own : Nat → Nat × Nat} {rv lv : Value} {ps : List Pr} {ls : List Lt} {i : Nat} {r : Pr}

theorem addL_perm (dg : ByteArray → ByteArray) (s : ByteArray) (p : List ByteArray) (h : addE dg s p = 0) : (dg s :: p.map dg).Perm ((addP dg s p).map dg) := by
  unfold addP
  rw [if_pos h]
  have h1 : (p.take (atL dg (dg s) p 0).1 ++ [s] ++ p.drop (atL dg (dg s) p 0).1).Perm (s :: p) := by
    rw [List.append_assoc]
    refine List.Perm.trans List.perm_middle ?_
    show (s :: (p.take (atL dg (dg s) p 0).1 ++ p.drop (atL dg (dg s) p 0).1)).Perm (s :: p)
    rw [List.take_append_drop]
  exact ((h1.map dg).symm)

theorem pair_add1 (S : Sc (dd Kc) W0 W gW gT own rv lv ps ls) (hi : ps[i]? = some r) (hkt : KT Kc W) (s : ByteArray) (hs : s.size ≤ 1048576) :
    Calls Tryz.prog 18 #[.pointer (some ⟨r.gx, 0, none⟩), .string s] W fun e w' => e = .returned (.int .i64 (addE (dd Kc) s r.p)) ∧ MidA W w' r ((addP (dd Kc) s r.p).map (dd Kc)) := by
  obtain ⟨hA, _, _, _, _⟩ := S.pr i r hi
  have hm : s.size ≤ maxLen := by unfold maxLen; omega
  by_cases h0 : txErr s.data.toList = 0
  · have hf := at_mem (dd Kc) (dd Kc s) r.p hA.rise
    have hl := hA.len
    have hE : addE (dd Kc) s r.p = if mem (dd Kc s) (r.p.map (dd Kc)) = true then 10 else if r.p.length = 20 then 9 else 0 := by
      unfold addE; rw [if_neg (by simpa using h0), hf]
    have hlm : (r.p.map (dd Kc)).length = r.p.length := by simp
    have key : ∀ (rr : Int) (L : List ByteArray), Hid ((mem (dd Kc s) (r.p.map (dd Kc)) = true ∧ rr = 10 ∧ L = r.p.map (dd Kc)) ∨ (mem (dd Kc s) (r.p.map (dd Kc)) = false ∧ 20 ≤ (r.p.map (dd Kc)).length ∧ rr = 9 ∧ L = r.p.map (dd Kc)) ∨ (mem (dd Kc s) (r.p.map (dd Kc)) = false ∧ (r.p.map (dd Kc)).length < 20 ∧ rr = 0 ∧ L = dd Kc s :: r.p.map (dd Kc))) → rr = addE (dd Kc) s r.p → L.Perm ((addP (dd Kc) s r.p).map (dd Kc)) →
        Calls Tryz.prog 18 #[.pointer (some ⟨r.gx, 0, none⟩), .string s] W fun e w' => e = .returned (.int .i64 (addE (dd Kc) s r.p)) ∧ MidA W w' r ((addP (dd Kc) s r.p).map (dd Kc)) := fun rr L hr h1 h2 => by
      refine (padd_yes Kc s (dd Kc s) W r.gx r.mb (r.p.map (dd Kc)) hA.x hkt hm h0 rfl (by rw [hlm]; exact hl) rr L hr).mono fun e w' hx => ?_
      obtain ⟨e1, mb', e2, e3, e4⟩ := hx
      exact ⟨by rw [e1, h1], mb', e2.perm h2, e3, e4⟩
    have same : addE (dd Kc) s r.p ≠ 0 → (r.p.map (dd Kc)).Perm ((addP (dd Kc) s r.p).map (dd Kc)) := fun h => by unfold addP; rw [if_neg h]
    cases hmm : mem (dd Kc s) (r.p.map (dd Kc))
    · by_cases h20 : r.p.length = 20
      · exact key 9 _ (.inr (.inl ⟨hmm, by rw [hlm]; omega, rfl, rfl⟩)) (by rw [hE, hmm]; simp [h20]) (same (by rw [hE, hmm]; simp [h20]))
      · have hz : addE (dd Kc) s r.p = 0 := by rw [hE, hmm]; simp [h20]
        exact key 0 _ (.inr (.inr ⟨hmm, by rw [hlm]; omega, rfl, rfl⟩)) hz.symm (addL_perm _ s r.p hz)
    · exact key 10 _ (.inl ⟨hmm, rfl, rfl⟩) (by rw [hE, hmm]; simp) (same (by rw [hE, hmm]; simp))
  · have hE : addE (dd Kc) s r.p = txErr s.data.toList := by unfold addE; rw [if_pos h0]
    have hP : addP (dd Kc) s r.p = r.p := by unfold addP; rw [hE, if_neg h0]
    rw [hP, hE]
    refine (padd_no s W _ _ hm rfl h0).mono fun e w' hx => ⟨hx.1, r.mb, hA.x.later hx.2, Only.of_below hx.2, .inl rfl⟩

/-- behind the program's call the reference's receiver is as it was. -/
theorem mid_ref (S : Sc (dd Kc) W0 W gW gT own rv lv ps ls) (hi : ps[i]? = some r) {w7 : World} {L : List ByteArray} (hM : MidA W w7 r L) :
    (∀ k, k < W.heap.size → own k ≠ (2, i) → own k ≠ (4, i) → w7.heap[k]? = W.heap[k]?) ∧ Below gW W0 w7 ∧ W.heap.size ≤ w7.heap.size ∧ w7.os = W.os ∧ w7.tape = W.tape ∧ w7.output = W.output := by
  obtain ⟨hA, h2, h3, h4, h5⟩ := S.pr i r hi
  obtain ⟨mb', _, hO, _⟩ := hM
  refine ⟨fun k hk n2 n4 => hO.block k hk (fun e => n2 (e ▸ h2)) (fun e => n4 (h4 k e.symm)), S.bel.trans (hO.low (S.dom _ (ne00 h2 (by simp))).1 (fun b hb => (S.dom b (ne00 (h4 b hb) (by simp))).1) (Nat.le_of_lt (S.dom gW (ne00 S.oW (by simp))).2)), hO.size, hO.os, hO.tape, hO.output⟩

/-- the reference's call, and the state behind it. -/
theorem mid_close (S : Sc (dd Kc) W0 W gW gT own rv lv ps ls) (hi : ps[i]? = some r) {w7 w8 : World} {p' : List ByteArray} (hM : MidA W w7 r (p'.map (dd Kc))) {v' : Value} (c8 : w8.cell? ⟨r.gm, 1, none⟩ = some v') (f8 : w8.frozen? ⟨r.gm, 1, none⟩ = false) (s8 : SVal w8 v' p')
    (hv : (v' = r.v ∧ p' = r.p) ∨ ∀ k, v'.ownBlock = some k → w7.heap.size ≤ k) (hmov : Mov r.gm w7 w8) (c0 : w8.cell? ⟨r.gm, 0, none⟩ = some (.pointer (some ⟨gT, 0, none⟩))) (hlen : p'.length ≤ 20) (hsz : ∀ s ∈ p', s.size ≤ 1048576) (hri : Rise (dd Kc) p') :
    ∃ own' ps', ps'.length = ps.length ∧ Sc (dd Kc) W0 w8 gW gT own' rv lv ps' ls ∧ Loose own W w8 ∧ W.heap.size ≤ w8.heap.size := by
  obtain ⟨hA, h2, h3, h4, h5⟩ := S.pr i r hi
  obtain ⟨hfr, _, hs7, ho7, ht7, hu7⟩ := mid_ref S hi hM
  obtain ⟨mb', hP7, hO, hmb⟩ := hM
  have hgm : r.gm < W.heap.size := (S.dom _ (ne00 h3 (by simp))).2
  have hgx : r.gx ≠ r.gm := fun e => by rw [e, h3] at h2; simp at h2
  have hbm : ∀ b, mb' = some b → b ≠ r.gm := fun b hb e => by
    rcases hmb with e1 | ⟨b2, e1, hge⟩
    · rw [e1] at hb; have := h4 b hb; rw [e, h3] at this; simp at this
    · rw [e1] at hb; injection hb with hb; omega
  have hP8 : PoolAt w8 r.gx mb' (p'.map (dd Kc)) := hP7.stay (hmov.block _ hP7.lt hgx) (fun b hb => hmov.block b (hP7.bsome b hb).1 (hbm b hb))
  obtain ⟨own', hS⟩ := S.pair (r' := ⟨r.gx, mb', r.gm, v', p'⟩) (W' := w8) hi ⟨hP8, c0, c8, f8, s8, hlen, hsz, hri⟩ rfl rfl hmb (hv.imp id (fun h k hk => Nat.le_trans hs7 (h k hk))) (Nat.le_trans hs7 hmov.size) (hmov.os.trans ho7) (hmov.tape.trans ht7) (hmov.output.trans hu7)
    (fun k hk n2 n3 n4 => (hmov.block k (Nat.lt_of_lt_of_le hk hs7) (fun e => n3 (e ▸ h3))).trans (hfr k hk n2 n4))
  refine ⟨own', _, by simp, hS, fun k hk h0 => (hmov.block k (Nat.lt_of_lt_of_le hk hs7) (fun e => by rw [e, h3] at h0; simp at h0)).trans (hfr k hk (by rw [h0]; simp) (by rw [h0]; simp)), Nat.le_trans hs7 hmov.size⟩

theorem pair_add2 (S : Sc (dd Kc) W0 W gW gT own rv lv ps ls) (hi : ps[i]? = some r) (hT : Tw (dd Kc) gT gW W0) (s : ByteArray) (hs : s.size ≤ 1048576) (w7 : World) (hM : MidA W w7 r ((addP (dd Kc) s r.p).map (dd Kc))) :
    Calls Tryz.prog 19 #[.pointer (some ⟨r.gm, 0, none⟩), .string s] w7 fun e w' => e = .returned (.int .i64 (addE (dd Kc) s r.p)) ∧ ∃ own' ps', ps'.length = ps.length ∧ Sc (dd Kc) W0 w' gW gT own' rv lv ps' ls ∧ Loose own W w' ∧ W.heap.size ≤ w'.heap.size := by
  obtain ⟨hA, h2, h3, h4, h5⟩ := S.pr i r hi
  obtain ⟨hfr, hb7, hs7, _⟩ := mid_ref S hi hM
  have hgm : r.gm < W.heap.size := (S.dom _ (ne00 h3 (by simp))).2
  have hg := hfr r.gm hgm (by rw [h3]; simp) (by rw [h3]; simp)
  have hsv : SVal w7 r.v r.p := hA.sv.stay (fun h0 b hb => hfr b (S.dom b (ne00 (h5 h0 b hb) (by simp))).2 (by rw [h5 h0 b hb]; simp) (by rw [h5 h0 b hb]; simp))
  have cT7 : w7.cell? ⟨r.gm, 0, none⟩ = some (.pointer (some ⟨gT, 0, none⟩)) := by rw [World.cell?_of_block hg]; exact hA.cT
  have hgW : gW ≤ w7.heap.size := Nat.le_trans (Nat.le_of_lt (S.dom gW (ne00 S.oW (by simp))).2) hs7
  refine (Add_of r.gm gT (dd Kc) s r.p r.v w7 cT7 (by rw [World.cell?_of_block hg]; exact hA.cP) (by rw [World.frozen?_of_block hg]; exact hA.fP) hsv hA.len hA.sz (by unfold maxLen; omega) (fun t V ht hV => hT t V ht (hb7.trans (hV.mono hgW)))).mono fun e w8 hx => ?_
  obtain ⟨hx1, ⟨v', c8, f8, s8, hv, ct8⟩, hmov⟩ := hx
  refine ⟨hx1, mid_close S hi hM c8 f8 s8 hv hmov ct8 ?_ ?_ hA.rise.addP⟩
  · unfold addP
    by_cases h0 : addE (dd Kc) s r.p = 0
    · rw [if_pos h0]
      have hl := hA.len
      have hk := (atL_bound (dd Kc) (dd Kc s) r.p 0).1
      have h20 : r.p.length ≠ 20 := fun e => by
        unfold addE at h0
        by_cases g1 : txErr s.data.toList ≠ 0
        · rw [if_pos g1] at h0; exact g1 h0
        · rw [if_neg g1] at h0
          by_cases g2 : (atL (dd Kc) (dd Kc s) r.p 0).2 = true
          · rw [if_pos g2] at h0; cases h0
          · rw [if_neg g2, if_pos e] at h0; cases h0
      simp only [List.length_append, List.length_take, List.length_drop, List.length_cons, List.length_nil]
      omega
    · rw [if_neg h0]; exact hA.len
  · intro t ht
    unfold addP at ht
    by_cases h0 : addE (dd Kc) s r.p = 0
    · rw [if_pos h0] at ht
      rcases List.mem_append.1 ht with ht | ht
      · rcases List.mem_append.1 ht with ht | ht
        · exact hA.sz t (List.mem_of_mem_take ht)
        · simp at ht; rw [ht]; exact hs
      · exact hA.sz t (List.mem_of_mem_drop ht)
    · rw [if_neg h0] at ht; exact hA.sz t ht

theorem pair_drop1 (S : Sc (dd Kc) W0 W gW gT own rv lv ps ls) (hi : ps[i]? = some r) (s : ByteArray) :
    Calls Tryz.prog 20 #[.pointer (some ⟨r.gx, 0, none⟩), .string s] W fun e w' => e = .returned (.bool (atL (dd Kc) s r.p 0).2) ∧ MidA W w' r ((dropL (dd Kc) s r.p).map (dd Kc)) := by
  obtain ⟨hA, _, _, _, _⟩ := S.pr i r hi
  obtain ⟨_, hd, _, _⟩ := hA.rise.dropL (id := s)
  rw [hd, at_mem (dd Kc) s r.p hA.rise]
  by_cases h : s.size = 32
  · exact (pdrop_yes s W r.gx r.mb _ hA.x h).mono fun e w' hx => ⟨hx.1, r.mb, hx.2.1, hx.2.2, .inl rfl⟩
  · have hn : s ∉ r.p.map (dd Kc) := fun hm => h (hA.x.all s hm)
    have hm : mem s (r.p.map (dd Kc)) = false := by
      cases e : mem s (r.p.map (dd Kc))
      · rfl
      · exact absurd ((mem_iff _ _).1 e) hn
    rw [del_out hn, hm]
    exact (pdrop_no s W _ h).mono fun e w' hx => ⟨hx.1, r.mb, hA.x.later hx.2, Only.of_below hx.2, .inl rfl⟩

theorem pair_drop2 (S : Sc (dd Kc) W0 W gW gT own rv lv ps ls) (hi : ps[i]? = some r) (hT : Tw (dd Kc) gT gW W0) (s : ByteArray) (w7 : World) (hM : MidA W w7 r ((dropL (dd Kc) s r.p).map (dd Kc))) :
    Calls Tryz.prog 21 #[.pointer (some ⟨r.gm, 0, none⟩), .string s] w7 fun e w' => e = .returned (.bool (atL (dd Kc) s r.p 0).2) ∧ ∃ own' ps', ps'.length = ps.length ∧ Sc (dd Kc) W0 w' gW gT own' rv lv ps' ls ∧ Loose own W w' ∧ W.heap.size ≤ w'.heap.size := by
  obtain ⟨hA, h2, h3, h4, h5⟩ := S.pr i r hi
  obtain ⟨hfr, hb7, hs7, _⟩ := mid_ref S hi hM
  have hgm : r.gm < W.heap.size := (S.dom _ (ne00 h3 (by simp))).2
  have hg := hfr r.gm hgm (by rw [h3]; simp) (by rw [h3]; simp)
  have hsv : SVal w7 r.v r.p := hA.sv.stay (fun h0 b hb => hfr b (S.dom b (ne00 (h5 h0 b hb) (by simp))).2 (by rw [h5 h0 b hb]; simp) (by rw [h5 h0 b hb]; simp))
  have cT7 : w7.cell? ⟨r.gm, 0, none⟩ = some (.pointer (some ⟨gT, 0, none⟩)) := by rw [World.cell?_of_block hg]; exact hA.cT
  have hgW : gW ≤ w7.heap.size := Nat.le_trans (Nat.le_of_lt (S.dom gW (ne00 S.oW (by simp))).2) hs7
  have hl := hA.len
  obtain ⟨hri, _, hle, hsub⟩ := hA.rise.dropL (id := s)
  refine (Drop_of r.gm gT (dd Kc) s r.p r.v w7 cT7 (by rw [World.cell?_of_block hg]; exact hA.cP) (by rw [World.frozen?_of_block hg]; exact hA.fP) hsv (by omega) hA.sz (fun t V ht hV => hT t V ht (hb7.trans (hV.mono hgW)))).mono fun e w8 hx => ?_
  obtain ⟨hx1, ⟨v', c8, f8, s8, hv, ct8⟩, hmov⟩ := hx
  exact ⟨hx1, mid_close S hi hM c8 f8 s8 hv hmov ct8 (by omega) (fun t ht => hA.sz t (hsub t ht)) hri⟩

theorem pair_ids1 (S : Sc (dd Kc) W0 W gW gT own rv lv ps ls) (hi : ps[i]? = some r) :
    Calls Tryz.prog 22 #[.pointer (some ⟨r.gx, 0, none⟩)] W fun e w' => ∃ g cap : Nat, e = .returned (.slice (some ⟨g, 0, none⟩) r.p.length cap) ∧ w'.ownsRow W.heap.size 9 1 (.slice (some ⟨g, 0, none⟩) r.p.length cap) r.p.length (strV (r.p.map (dd Kc))) ∧ Below W.heap.size W w' := by
  obtain ⟨hA, _, _, _, _⟩ := S.pr i r hi
  have hlm : (r.p.map (dd Kc)).length = r.p.length := by simp
  refine (pids_any W r.gx r.mb _ hA.x (by rw [hlm]; exact hA.len)).mono fun e w' hx => ?_
  obtain ⟨g, cap, h1, h2, h3⟩ := hx
  rw [hlm] at h1 h2
  refine ⟨g, cap, h1, ?_, h3⟩
  have e1 : (sortD (r.p.map (dd Kc))).map encStr = strV (r.p.map (dd Kc)) := by
    rw [hA.rise.sorted]
    have := enc_ba (r.p.map (dd Kc))
    have e : (r.p.map (dd Kc)).map (fun d => d.data.toList) = r.p.map fun s => (dd Kc s).data.toList := by rw [List.map_map]; rfl
    rw [e] at this
    exact this
  rw [← e1]; exact h2

theorem pair_ids2 (S : Sc (dd Kc) W0 W gW gT own rv lv ps ls) (hi : ps[i]? = some r) (hT : Tw (dd Kc) gT gW W0) :
    Calls Tryz.prog 24 #[.pointer (some ⟨r.gm, 0, none⟩)] W fun x w' => ∃ u, x = .returned u ∧ w'.ownsRow W.heap.size 9 1 u r.p.length (strV (r.p.map (dd Kc))) ∧ Below W.heap.size W w' := by
  obtain ⟨hA, _, _, _, _⟩ := S.pr i r hi
  have hl := hA.len
  have hgW : gW ≤ W.heap.size := Nat.le_of_lt (S.dom gW (ne00 S.oW (by simp))).2
  exact IDs_of r.gm gT (dd Kc) r.p r.v W hA.cT hA.cP hA.sv (by omega) hA.sz (fun t V ht hV => hT t V ht (S.bel.trans (hV.mono hgW)))
end
end Go.Proofs.YtkmalggeieiepaaGreatDoor
