import Derived.Test.YtkmalggeieiepabDoorRpB
import Derived.Test.YtkmalggeieiepabDoorAnyA
import Derived.WalkKit
import Derived.WalkSpells
import Derived.WalkLawsBesides
import Derived.Deep.MidRow
import Derived.Great.BuildSlice
import Derived.OrdersHeld
import Derived.Deep.AppendLies
import Derived.Deep.RegionHeld3
namespace Go.Proofs.YtkmalggeieiepabDoor
open Go.RowKit

theorem fold_set : ∀ (l pre post : List Value), post.length = l.length → List.foldl (fun (cs : Array Value) (x : Value × Nat) => cs.setIfInBounds x.2 x.1) (pre ++ post).toArray (l.zipIdx pre.length) = (pre ++ l).toArray := by
  intro l
  induction l with
  | nil => intro pre post h; cases post with
    | nil => rfl
    | cons _ _ => simp at h
  | cons v l ih =>
    intro pre post h
    cases post with
    | nil => simp at h
    | cons u post =>
      have h2 := ih (pre ++ [v]) post (by simpa using h)
      rw [List.length_append, List.length_singleton] at h2
      rw [List.zipIdx_cons, List.foldl_cons]
      have e : (pre ++ u :: post).toArray.setIfInBounds pre.length v = (pre ++ [v] ++ post).toArray := by simp
      rw [e, h2]; simp
theorem build_d (d : ByteArray) (hd : d.size = 32) (w : World) : (Instr.buildSlice 72 1 #[(0, aggD d)]).run Tryd.prog w = .ok (.slice (some ⟨w.heap.size, 0, none⟩) 1 1) (w.alloc (.cells (bc d).toArray 59)) := by
  obtain ⟨i0, hi, hz0, hz1, hz2⟩ := info_parts infoDig
  have hl : (bc d).length = 32 := by rw [bc_length, hd]
  refine run_buildSlice w 72 59 1 _ _ i0 _ Tryd.underlying72 hi hz0 (by rw [hz1]; omega) (by rw [hz1]; omega) ?_
  rw [hz1]
  have h := fold_set (bc d) [] (wl .u8 (fun _ => 0) 32) (by rw [hl, wl_length])
  have e1 : (aggD d).cells = (bc d).toArray := rfl
  have e2 : ((Array.range (1 * 32)).map fun x => (Value.agg (wl IntKind.u8 (fun _ => 0) 32).toArray).cells[x % (Value.agg (wl IntKind.u8 (fun _ => 0) 32).toArray).cells.size]!) = (wl .u8 (fun _ => 0) 32).toArray := by kernel_rfl
  simp only [e2]
  simp [Instr.fill, e1, hl]
  exact ⟨by rw [wl_length]; omega, by simpa using h⟩

theorem run_build_d {ρ : Operand → Value} {o : Oper} {k : Nat} (d : ByteArray) (hd : d.size = 32) (W : World) (ho : o.op = .buildSlice 72 1 #[(0, .tmp k)]) (e1 : ρ (.tmp k) = aggD d) :
    (execOp ρ o).run Tryd.prog W = .ok (.value (.slice (some ⟨W.heap.size, 0, none⟩) 1 1)) (W.alloc (.cells (bc d).toArray 59)) := by
  unfold execOp
  simp only [ho, Sem.run_bind, List.map_toArray, List.map_cons, List.map_nil, e1, build_d d hd W, Result.andThen_ok]
  rfl
theorem q_wanted {o : Oper} {ops : Array Oper} {A : Act} (j d : Nat) (b : Bool) (hg : o.guard = some (j, b)) (hd : (ops[j]?).bind (·.dst) = some d) (hlt : d < A.tmps.size) (hv : A.eval (.tmp d) = .bool b) : Region.wanted o (yielded ops A.tmps) = true := by
  have h2 : A.tmps[d]? = some (.bool b) := by
    simp [Act.eval] at hv
    rw [Array.getElem?_eq_getElem hlt] at hv ⊢
    simpa using hv
  simp [Region.wanted, hg, yielded, hd, h2]
/-- the one operation that may come up yields a value: S held. -/
theorem qH_one {P : Program} {md : Region.Mode} {ops : Array Oper} {Q : Exit → Act → World → Prop} {S : World → Prop} {fuel : Nat} {listed : Array Bool} {a : Act} {w : World} (i : Nat) {o : Oper} (v : Value) (w' : World) (hr : Region.ready md ops listed = [i]) (hi : ops[i]? = some o) (hg : o.guard = none)
    (h : (execOp a.eval o).run P w = .ok (.value v) w') (hS : S w') (hk : wpAnyH P md ops Q S fuel (listed.setIfInBounds i true) (a.put o.dst v) w') : wpAnyH P md ops Q S (fuel + 1) listed a w := by
  refine wpAnyH_ready hr (by simp) (AllReadyH.cons hi (fun K hK => ?_) AllReadyH.nil)
  have hw : Region.wanted o (yielded ops a.tmps) = true := by simp [Region.wanted, hg]
  rw [if_pos hw]
  unfold Oper.wp; rw [h]; exact hK.out _ _ hS (fun _ => hk)
theorem qH_step {P : Program} {ops : Array Oper} {o : Oper} {a : Act} {w : World} {K : Act → World → Prop} {Q : Exit → Act → World → Prop} {E : Prop} (f : FuncId) (args : Array Value) (R : Value → World → Prop) (hg : o.guard = none)
    (h : (execOp a.eval o).run P w = .ok (.enter f args) w) (hc : Calls P f args w fun e w' => ∃ v, e = .returned v ∧ R v w') (hk : ∀ v w', R v w' → K (a.put o.dst v) w') :
    if Region.wanted o (yielded ops a.tmps) = true then Oper.wp P o a w K Q else E := by
  have hw : Region.wanted o (yielded ops a.tmps) = true := by simp [Region.wanted, hg]
  rw [if_pos hw]
  unfold Oper.wp; rw [h]
  show Calls _ _ _ _ _
  refine hc.mono fun x w' hx => ?_
  obtain ⟨v, rfl, hR⟩ := hx
  exact hk v w' hR
/-- .. a call. -/
theorem qH_call {P : Program} {md : Region.Mode} {ops : Array Oper} {Q : Exit → Act → World → Prop} {S : World → Prop} {fuel : Nat} {listed : Array Bool} {a : Act} {w : World} (i : Nat) {o : Oper} (f : FuncId) (args : Array Value) (R : Value → World → Prop) (hr : Region.ready md ops listed = [i]) (hi : ops[i]? = some o) (hg : o.guard = none)
    (h : (execOp a.eval o).run P w = .ok (.enter f args) w) (hc : Calls P f args w fun e w' => ∃ v, e = .returned v ∧ R v w')
    (hk : ∀ v w', R v w' → S w' ∧ wpAnyH P md ops Q S fuel (listed.setIfInBounds i true) (a.put o.dst v) w') : wpAnyH P md ops Q S (fuel + 1) listed a w := by
  refine wpAnyH_ready hr (by simp) (AllReadyH.cons hi (fun K hK => ?_) AllReadyH.nil)
  exact qH_step f args R hg h hc (fun v w' hR => hK.out _ _ (hk v w' hR).1 (fun _ => (hk v w' hR).2))
/-- two calls, either first. -/
theorem qH_calls {P : Program} {md : Region.Mode} {ops : Array Oper} {Q : Exit → Act → World → Prop} {S : World → Prop} {fuel : Nat} {listed : Array Bool} {a : Act} {w : World} (i j : Nat) {o p : Oper} (f f' : FuncId) (args args' : Array Value) (R R' : Value → World → Prop) (hr : Region.ready md ops listed = [i, j]) (hi : ops[i]? = some o) (hg : o.guard = none) (hj : ops[j]? = some p) (hgj : p.guard = none)
    (h : (execOp a.eval o).run P w = .ok (.enter f args) w) (h' : (execOp a.eval p).run P w = .ok (.enter f' args') w)
    (hc : Calls P f args w fun e w' => ∃ v, e = .returned v ∧ R v w') (hc' : Calls P f' args' w fun e w' => ∃ v, e = .returned v ∧ R' v w')
    (hk : ∀ v w', R v w' → S w' ∧ wpAnyH P md ops Q S fuel (listed.setIfInBounds i true) (a.put o.dst v) w')
    (hk' : ∀ v w', R' v w' → S w' ∧ wpAnyH P md ops Q S fuel (listed.setIfInBounds j true) (a.put p.dst v) w') : wpAnyH P md ops Q S (fuel + 1) listed a w := by
  refine wpAnyH_ready hr (by simp) (AllReadyH.cons hi (fun K hK => ?_) (AllReadyH.cons hj (fun K hK => ?_) AllReadyH.nil))
  · exact qH_step f args R hg h hc (fun v w' hR => hK.out _ _ (hk v w' hR).1 (fun _ => (hk v w' hR).2))
  · exact qH_step f' args' R' hgj h' hc' (fun v w' hR => hK.out _ _ (hk' v w' hR).1 (fun _ => (hk' v w' hR).2))
set_option linter.unusedVariables false in
theorem calls_val {P : Program} {f : FuncId} {args : Array Value} {w : World} {v : Value} {R : World → Prop} (h : Calls P f args w fun e w' => e = .returned v ∧ R w') : Calls P f args w fun e w' => ∃ u, e = .returned u ∧ u = v ∧ R w' := h.mono fun e w' ⟨h1, h2⟩ => ⟨v, h1, rfl, h2⟩
theorem sizes_append (a b : ByteArray) (ha : a.size = 32) (hb : b.size = 32) : (a ++ b).size = 64 := by rw [ByteArray.size_append]; omega
theorem evL_cons2 (a b : ByteArray) (r : List ByteArray) : evL (a :: b :: r) = a :: b :: evL r := by
  unfold evL
  by_cases h : r.length % 2 = 1
  · rw [if_pos (by simp; omega), if_pos h]
    have h0 : 0 < r.length := by omega
    have e : (a :: b :: r).getD ((a :: b :: r).length - 1) ByteArray.empty = r.getD (r.length - 1) ByteArray.empty := by
      rw [show (a :: b :: r).length - 1 = (r.length - 1) + 1 + 1 by simp; omega]
      rfl
    rw [e]; rfl
  · rw [if_neg (by simp; omega), if_neg h]
theorem upev_cons2 (d : ByteArray → ByteArray) (a b : ByteArray) (r : List ByteArray) : upL d (evL (a :: b :: r)) = d (a ++ b) :: upL d (evL r) := by rw [evL_cons2]; rfl
theorem upev_one (d : ByteArray → ByteArray) (a : ByteArray) : upL d (evL [a]) = [d (a ++ a)] := rfl
theorem upev_nil (d : ByteArray → ByteArray) : upL d (evL []) = [] := rfl
theorem toL (s : ByteArray) : s.toList = s.data.toList := by obtain ⟨⟨l⟩⟩ := s; simp
end Go.Proofs.YtkmalggeieiepabDoor
