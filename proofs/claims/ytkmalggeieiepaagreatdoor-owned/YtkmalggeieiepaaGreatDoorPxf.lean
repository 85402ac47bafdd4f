import Derived.Test.YtkmalggeieiepaaGreatDoorPxe
import Derived.WalkKit
import Derived.WalkSpells
import Derived.WalkLawsBesides
import Derived.Deep.DeepCutAuto
import Derived.Deep.MidRow
import Derived.Deep.RegionHeld
import Derived.Test.YtkmalggeieiepaaGreatDoorPxa
import Derived.OrdersHeld
import Derived.Deep.AppendLies
set_option linter.unusedSimpArgs false
set_option linter.unusedVariables false
namespace Go.Proofs.YtkmalggeieiepaaGreatDoor
open Go.RowKit

theorem alloc_pair (W : World) : (Instr.alloc 48 true (.tuple #[])).run Tryz.prog W = .ok (.pointer (some ⟨W.heap.size, 0, none⟩)) (W.alloc (.cells #[.pointer none, .pointer none] 48)) := by kernel_rfl
theorem store_pair (W : World) (gx gm : Nat) : (Instr.storeAt 48 (.pointer (some ⟨W.heap.size, 0, none⟩)) (.agg #[.pointer (some ⟨gx, 0, none⟩), .pointer (some ⟨gm, 0, none⟩)])).run Tryz.prog (W.alloc (.cells #[.pointer none, .pointer none] 48)) = .ok () ((W.alloc (.cells #[.pointer none, .pointer none] 48)).setCells W.heap.size 0 [.pointer (some ⟨gx, 0, none⟩), .pointer (some ⟨gm, 0, none⟩)]) := by
  have ht := th_new W 48 [.pointer none, .pointer none]
  exact run_storeAt_mid (P := Tryz.prog) _ W.heap.size 0 48 #[.pointer (some ⟨gx, 0, none⟩), .pointer (some ⟨gm, 0, none⟩)] ht (by kernel_rfl) (by simp [Value.oneCell'])
/-- either of two that may come up. -/
theorem qH_two {P : Program} {md : Region.Mode} {ops : Array Oper} {Q : Exit → Act → World → Prop} {S : World → Prop} {fuel : Nat} {listed : Array Bool} {a : Act} {w : World} (i j : Nat) (hr : Region.ready md ops listed = [i, j]) (hne : i ≠ j)
    (h1 : wpOp P ops Q i (fun a' w' => S w' ∧ wpAnyH P md ops Q S fuel (listed.setIfInBounds i true) a' w') a w) (h2 : wpOp P ops Q j (fun a' w' => S w' ∧ wpAnyH P md ops Q S fuel (listed.setIfInBounds j true) a' w') a w) : wpAnyH P md ops Q S (fuel + 1) listed a w :=
  wpAnyH_all hr (by simp) (fun k hk => by
    rcases List.mem_cons.1 hk with rfl | hk
    · exact h1
    · simp at hk; subst hk; exact h2)
theorem qO_one {P : Program} {ops : Array Oper} {Q : Exit → Act → World → Prop} {S : World → Prop} {K : Act → World → Prop} {a : Act} {w : World} {i : Nat} {o : Oper} (v : Value) (w' : World) (hi : ops[i]? = some o) (hg : o.guard = none)
    (h : (execOp a.eval o).run P w = .ok (.value v) w') (hS : S w') (hk : K (a.put o.dst v) w') : wpOp P ops Q i (fun a' w' => S w' ∧ K a' w') a w := by
  unfold wpOp
  simp only [hi]
  have hw : Region.wanted o (yielded ops a.tmps) = true := by simp [Region.wanted, hg]
  rw [if_pos hw]
  refine .inl ?_
  unfold Oper.wp; rw [h]; exact ⟨hS, hk⟩
theorem qO_call {P : Program} {ops : Array Oper} {Q : Exit → Act → World → Prop} {S : World → Prop} {K : Act → World → Prop} {a : Act} {w : World} {i : Nat} {o : Oper} (f : FuncId) (args : Array Value) (R : Value → World → Prop) (hi : ops[i]? = some o) (hg : o.guard = none)
    (h : (execOp a.eval o).run P w = .ok (.enter f args) w) (hc : Calls P f args w fun e w' => ∃ v, e = .returned v ∧ R v w') (hk : ∀ v w', R v w' → S w' ∧ K (a.put o.dst v) w') : wpOp P ops Q i (fun a' w' => S w' ∧ K a' w') a w := by
  unfold wpOp
  simp only [hi]
  have hw : Region.wanted o (yielded ops a.tmps) = true := by simp [Region.wanted, hg]
  rw [if_pos hw]
  refine .inl ?_
  unfold Oper.wp; rw [h]
  show Calls _ _ _ _ _
  refine hc.mono fun x w' hx => ?_
  obtain ⟨v, rfl, hR⟩ := hx
  exact hk v w' hR
theorem own_r2 {w : World} {base e n : Nat} {v : Value} {xs : List Value} (h : w.ownsRow base e 2 v n xs) : ∃ a c, v = .slice a n c ∧ (0 < n → ∃ b, a = some ⟨b, 0, none⟩ ∧ ∀ j x, xs[j]? = some x → w.cell? ⟨b, j, none⟩ = some x) := by
  have hl := h.1
  rcases h.2 with ⟨hv, h0⟩ | ⟨g, cap, cur, hv, _, hg, _, _, _, ht⟩
  · exact ⟨none, 0, by rw [hv, h0], fun h1 => by omega⟩
  · refine ⟨_, cap, hv, fun _ => ⟨g, rfl, fun j x hx => ?_⟩⟩
    rw [cell_of_row w g j cur _ _ hg]
    have hj : j < xs.length := (List.getElem?_eq_some_iff.1 hx).1
    have h3 : (cur.toList.take (n * 2))[j]? = xs[j]? := by rw [ht]
    rw [List.getElem?_take, if_pos (by omega)] at h3
    rw [← Array.getElem?_toList, h3, hx]

set_option maxRecDepth 10000 in
set_option maxHeartbeats 8000000 in
theorem step_add (Kc : Nat → Int) (W0 W : World) (gW gT : Nat) (own : Nat → Nat × Nat) (rv lv : Value) (ps : List Pr) (ls : List Lt) (S : Sc (dd Kc) W0 W gW gT own rv lv ps ls) (hkt : KT Kc W0) (hT : Tw (dd Kc) gT gW W0) (hg0 : 0 < gW) (A0 : Int) (s : ByteArray) (hA1 : -9223372036854775808 ≤ A0) (hA2 : A0 ≤ 9223372036854775807) (hs : s.size ≤ 1048576) (hpl : ps.length ≤ 1048576) :
    Calls Tryz.prog 12 #[.pointer (some ⟨gW, 0, none⟩), .agg #[.int .i64 2, .int .i64 A0, .string s]] W fun e w' => e = .returned (.bool true) ∧ ∃ own' rv' lv' ps' ls', Sc (dd Kc) W0 w' gW gT own' rv' lv' ps' ls' ∧ ps'.length ≤ ps.length + 1 ∧ ls'.length ≤ ls.length + 1 := by
  have S0 : Hid (Sc (dd Kc) W0 W gW gT own rv lv ps ls) := S
  obtain ⟨W1, hW1⟩ : ∃ V, V = W.alloc (.cells #[.int .i64 2, .int .i64 A0, .string s] 26) := ⟨_, rfl⟩
  have hB1 : Below W.heap.size W W1 := by rw [hW1]; exact (Below.refl _ _).alloc (Nat.le_refl _) _
  have hz1 : W1.heap.size = W.heap.size + 1 := by rw [hW1]; simp
  have o0 : W1.cell? ⟨W.heap.size, 0, none⟩ = some (.int .i64 2) := by rw [hW1]; simp [go_sem]
  have o1 : W1.cell? ⟨W.heap.size, 1, none⟩ = some (.int .i64 A0) := by rw [hW1]; simp [go_sem]
  have o2 : W1.cell? ⟨W.heap.size, 2, none⟩ = some (.string s) := by rw [hW1]; simp [go_sem]
  have S1 := S.keep hB1
  have HO : Hid (∀ V, Below W1.heap.size W1 V → V.cell? ⟨W.heap.size, 0, none⟩ = some (.int .i64 2) ∧ V.cell? ⟨W.heap.size, 1, none⟩ = some (.int .i64 A0) ∧ V.cell? ⟨W.heap.size, 2, none⟩ = some (.string s)) := fun V hV =>
    ⟨by rw [hV.cell (p := ⟨W.heap.size, 0, none⟩) (by show W.heap.size < _; omega)]; exact o0, by rw [hV.cell (p := ⟨W.heap.size, 1, none⟩) (by show W.heap.size < _; omega)]; exact o1, by rw [hV.cell (p := ⟨W.heap.size, 2, none⟩) (by show W.heap.size < _; omega)]; exact o2⟩
  have HOWN0 : Hid (own W.heap.size = (0, 0)) := by
    show _ = _
    refine Classical.byContradiction fun h => ?_
    have := (S.dom _ h).2; omega
  have hgW : gW < W1.heap.size := (S1.dom gW (ne00 S1.oW (by simp))).2
  obtain ⟨va, cap, hrv, hrow⟩ := own_r2 S1.rs
  subst hrv
  have hc1 := S1.c1
  by_cases hn : ps.length = 0
  · rw [hn] at hc1
    have HS1 : Hid (Sc (dd Kc) W0 W1 gW gT own (.slice va ps.length cap) lv ps ls) := S1
    clear hrow S1 S o1 o2
    go_enter Tryz.func12, Tryz.ntmps12
    go_upto_region 1 with fail
    rw [← hW1]
    clear hW1
    go_wp2
    go_ret
    exact ⟨rfl, own, _, lv, ps, ls, HS1.out, Nat.le_succ _, Nat.le_succ _⟩
  obtain ⟨b, rfl, hcs⟩ := hrow (by omega)
  obtain ⟨k, hk⟩ : ∃ k, k = pkL A0 ps.length := ⟨_, rfl⟩
  have hkl : k < ps.length := by rw [hk]; exact pkL_lt _ _ (by omega)
  obtain ⟨r, hr⟩ : ∃ r, ps[k]? = some r := ⟨_, List.getElem?_eq_getElem hkl⟩
  obtain ⟨g0, g1⟩ := prC_get ps k r hr
  have HPK : Hid (∀ V, Calls Tryz.prog 17 #[.int .i64 A0, .int .i64 (ps.length : Int)] V fun e w' => e = .returned (.int .i64 (k : Int)) ∧ V = w') := fun V => by rw [hk]; exact pickL_any A0 ps.length V hA1 hA2 (by omega) hpl
  have hbl : b < W1.heap.size := World.block_lt_of_cell? W1 _ (hcs _ _ g0)
  have HS0 : Hid (∀ V, Below W1.heap.size W1 V → V.cell? ⟨gW, 1, none⟩ = some (.slice (some ⟨b, 0, none⟩) ps.length cap) ∧ V.cell? ⟨W.heap.size, 1, none⟩ = some (.int .i64 A0) ∧ V.rangeAt b (2 * k) [.pointer (some ⟨r.gx, 0, none⟩), .pointer (some ⟨r.gm, 0, none⟩)]) := fun V hV =>
    ⟨by rw [hV.cell (p := ⟨gW, 1, none⟩) hgW]; exact hc1, (HO.out V hV).2.1, fun j x hx => by
      rw [hV.cell (p := ⟨b, 2 * k + j, none⟩) hbl]
      match j, hx with
      | 0, hx => simp at hx; subst hx; exact hcs _ _ g0
      | 1, hx => simp at hx; subst hx; exact hcs _ _ g1
      | j + 2, hx => simp at hx⟩
  have hln : ∀ (V : World) (ty : TypeId), (Builtin.len_ #[30] ty #[.slice (some ⟨b, 0, none⟩) ps.length cap]).run Tryz.prog V = .ok (.int .i64 (ps.length : Int)) V := fun V ty => by simp [Builtin.len_, run_underlying Tryz.underlying30, goInt]
  have hni : ¬ ((ps.length : Int) = 0) := by omega
  have hnb : ((ps.length : Int) == 0) = false := by rw [beq_eq_false_iff_ne]; exact hni
  have hix : (k : Int) < (ps.length : Int) := by omega
  have HS1 : Hid (Sc (dd Kc) W0 W1 gW gT own (.slice (some ⟨b, 0, none⟩) ps.length cap) lv ps ls) := S1
  have HR : Hid (ps[k]? = some r) := hr
  have HKL : Hid (k < ps.length) := hkl
  have HFIN : Hid (∃ g6 : Nat, (.pointer (some ⟨W1.heap.size, 0, none⟩) : Value) = .pointer (some ⟨g6, 0, none⟩) ∧ ((W1.drew.alloc (.cells #[.pointer none, .pointer none] 48)).setCells W1.heap.size 0 [.pointer (some ⟨r.gx, 0, none⟩), .pointer (some ⟨r.gm, 0, none⟩)]).cell? ⟨g6, 0, none⟩ = some (.pointer (some ⟨r.gx, 0, none⟩)) ∧ ((W1.drew.alloc (.cells #[.pointer none, .pointer none] 48)).setCells W1.heap.size 0 [.pointer (some ⟨r.gx, 0, none⟩), .pointer (some ⟨r.gm, 0, none⟩)]).cell? ⟨g6, 1, none⟩ = some (.pointer (some ⟨r.gm, 0, none⟩)) ∧ W1.heap.size ≤ g6 ∧ Below W1.heap.size W1 ((W1.drew.alloc (.cells #[.pointer none, .pointer none] 48)).setCells W1.heap.size 0 [.pointer (some ⟨r.gx, 0, none⟩), .pointer (some ⟨r.gm, 0, none⟩)])) := by
    refine ⟨W1.heap.size, rfl, ?_, ?_, Nat.le_refl _, below_setCells ((⟨rfl, rfl, rfl, Nat.le_refl _, fun _ _ => rfl⟩ : Below W1.heap.size W1 W1.drew).alloc (Nat.le_refl _) _) _ (Nat.le_refl _) _ _⟩
    · have := World.rangeAt_setCells_same (W1.drew.alloc (.cells #[.pointer none, .pointer none] 48)) W1.heap.size 0 [.pointer (some ⟨r.gx, 0, none⟩), .pointer (some ⟨r.gm, 0, none⟩)] (th_new W1.drew _ [.pointer none, .pointer none])
      exact this 0 _ rfl
    · have := World.rangeAt_setCells_same (W1.drew.alloc (.cells #[.pointer none, .pointer none] 48)) W1.heap.size 0 [.pointer (some ⟨r.gx, 0, none⟩), .pointer (some ⟨r.gm, 0, none⟩)] (th_new W1.drew _ [.pointer none, .pointer none])
      exact this 1 _ rfl
  clear hcs g0 g1 hr hkl hk S1 hrow S o1 o2
  go_enter Tryz.func12, Tryz.ntmps12
  go_upto_region 1 with fail
  rw [← hW1]
  clear hW1
  go_upto_region 10 with fail
  clear o0 hc1
  go_cut [6] (fun pv wx => ∃ g6 : Nat, pv = .pointer (some ⟨g6, 0, none⟩) ∧ wx.cell? ⟨g6, 0, none⟩ = some (.pointer (some ⟨r.gx, 0, none⟩)) ∧ wx.cell? ⟨g6, 1, none⟩ = some (.pointer (some ⟨r.gm, 0, none⟩)) ∧ W1.heap.size ≤ g6 ∧ Below W1.heap.size W1 wx)
  case first =>
    refine q_frame (fun A HFR => ?_)
    have hsz : A.tmps.size = 163 := by rw [HFR.out]; rfl
    have h0 : A.eval (.tmp 0) = .pointer (some ⟨gW, 0, none⟩) := by rw [HFR.out]; rfl
    have h3 : A.eval (.tmp 3) = .pointer (some ⟨W.heap.size, 0, none⟩) := by rw [HFR.out]; rfl
    have HBD : Below W1.heap.size W1 W1.drew := ⟨rfl, rfl, rfl, Nat.le_refl _, fun _ _ => rfl⟩
    have HSS : ∀ V, Below W1.heap.size W1 V → V.cell? ⟨gW, 1, none⟩ = some (.slice (some ⟨b, 0, none⟩) ps.length cap) ∧ V.cell? ⟨W.heap.size, 1, none⟩ = some (.int .i64 A0) ∧ V.rangeAt b (2 * k) [.pointer (some ⟨r.gx, 0, none⟩), .pointer (some ⟨r.gm, 0, none⟩)] := HS0.out
    refine wp_region_held_drew (S := fun V => V.cell? ⟨gW, 1, none⟩ = some (.slice (some ⟨b, 0, none⟩) ps.length cap) ∧ V.cell? ⟨W.heap.size, 1, none⟩ = some (.int .i64 A0) ∧ V.rangeAt b (2 * k) [.pointer (some ⟨r.gx, 0, none⟩), .pointer (some ⟨r.gm, 0, none⟩)]) (by kernel_rfl) (HSS _ HBD) (fun hS => ?_)
    refine wpAnyH_take (i := 0) (v := (.pointer (some ⟨gW, 0, none⟩))) rfl (by kernel_rfl) (by kernel_rfl) (by kernel_rfl) (fun _ _ _ h => h) (Or.inl ⟨by rfl, fun V hW => q_run1 0 (.pointer (some ⟨gW, 0, none⟩)) (by simp only [q_same, q_ne, q_sz, q_none, q_sz0, hsz, h0, h3, ne_eq, Nat.reduceEqDiff, not_false_eq_true, Nat.reduceLT]) (fun ρ hc hf e1 => by simp [go_sem, hc, hf, e1])⟩) hS ?_
    change wpAnyH _ _ _ _ _ _ _ (Act.put _ (some 49) _) _
    refine wpAnyH_take (i := 1) (v := (.pointer (some ⟨gW, 0, none⟩))) rfl (by kernel_rfl) (by kernel_rfl) (by kernel_rfl) (fun _ _ _ h => h) (Or.inl ⟨by rfl, fun V hW => q_run1 49 (.pointer (some ⟨gW, 0, none⟩)) (by simp only [q_same, q_ne, q_sz, q_none, q_sz0, hsz, h0, h3, ne_eq, Nat.reduceEqDiff, not_false_eq_true, Nat.reduceLT]) (fun ρ hc hf e1 => by simp [go_sem, hc, hf, e1])⟩) hS ?_
    change wpAnyH _ _ _ _ _ _ _ (Act.put _ (some 50) _) _
    refine wpAnyH_take (i := 2) (v := (.pointer (some ⟨gW, 1, none⟩))) rfl (by kernel_rfl) (by kernel_rfl) (by kernel_rfl) (fun _ _ _ h => h) (Or.inl ⟨by rfl, fun V hW => q_run1 50 (.pointer (some ⟨gW, 0, none⟩)) (by simp only [q_same, q_ne, q_sz, q_none, q_sz0, hsz, h0, h3, ne_eq, Nat.reduceEqDiff, not_false_eq_true, Nat.reduceLT]) (fun ρ hc hf e1 => by simp [go_sem, hc, hf, e1])⟩) hS ?_
    change wpAnyH _ _ _ _ _ _ _ (Act.put _ (some 51) _) _
    refine wpAnyH_take (i := 3) (v := (.slice (some ⟨b, 0, none⟩) ps.length cap)) rfl (by kernel_rfl) (by kernel_rfl) (by kernel_rfl) (fun _ _ _ h => h) (Or.inl ⟨by rfl, fun V hW => q_run1 51 (.pointer (some ⟨gW, 1, none⟩)) (by simp only [q_same, q_ne, q_sz, q_none, q_sz0, hsz, h0, h3, ne_eq, Nat.reduceEqDiff, not_false_eq_true, Nat.reduceLT]) (fun ρ hc hf e1 => by simp [go_sem, hc, hf, e1, hW.1])⟩) hS ?_
    change wpAnyH _ _ _ _ _ _ _ (Act.put _ (some 52) _) _
    refine wpAnyH_take (i := 4) (v := (.pointer (some ⟨W.heap.size, 1, none⟩))) rfl (by kernel_rfl) (by kernel_rfl) (by kernel_rfl) (fun _ _ _ h => h) (Or.inl ⟨by rfl, fun V hW => q_run1 3 (.pointer (some ⟨W.heap.size, 0, none⟩)) (by simp only [q_same, q_ne, q_sz, q_none, q_sz0, hsz, h0, h3, ne_eq, Nat.reduceEqDiff, not_false_eq_true, Nat.reduceLT]) (fun ρ hc hf e1 => by simp [go_sem, hc, hf, e1])⟩) hS ?_
    change wpAnyH _ _ _ _ _ _ _ (Act.put _ (some 53) _) _
    refine wpAnyH_take (i := 5) (v := (.int .i64 A0)) rfl (by kernel_rfl) (by kernel_rfl) (by kernel_rfl) (fun _ _ _ h => h) (Or.inl ⟨by rfl, fun V hW => q_run1 53 (.pointer (some ⟨W.heap.size, 1, none⟩)) (by simp only [q_same, q_ne, q_sz, q_none, q_sz0, hsz, h0, h3, ne_eq, Nat.reduceEqDiff, not_false_eq_true, Nat.reduceLT]) (fun ρ hc hf e1 => by simp [go_sem, hc, hf, e1, hW.2.1])⟩) hS ?_
    change wpAnyH _ _ _ _ _ _ _ (Act.put _ (some 54) _) _
    refine wpAnyH_take (i := 6) (v := (.pointer (some ⟨gW, 0, none⟩))) rfl (by kernel_rfl) (by kernel_rfl) (by kernel_rfl) (fun _ _ _ h => h) (Or.inl ⟨by rfl, fun V hW => q_run1 0 (.pointer (some ⟨gW, 0, none⟩)) (by simp only [q_same, q_ne, q_sz, q_none, q_sz0, hsz, h0, h3, ne_eq, Nat.reduceEqDiff, not_false_eq_true, Nat.reduceLT]) (fun ρ hc hf e1 => by simp [go_sem, hc, hf, e1])⟩) hS ?_
    change wpAnyH _ _ _ _ _ _ _ (Act.put _ (some 55) _) _
    refine wpAnyH_take (i := 7) (v := (.pointer (some ⟨gW, 0, none⟩))) rfl (by kernel_rfl) (by kernel_rfl) (by kernel_rfl) (fun _ _ _ h => h) (Or.inl ⟨by rfl, fun V hW => q_run1 55 (.pointer (some ⟨gW, 0, none⟩)) (by simp only [q_same, q_ne, q_sz, q_none, q_sz0, hsz, h0, h3, ne_eq, Nat.reduceEqDiff, not_false_eq_true, Nat.reduceLT]) (fun ρ hc hf e1 => by simp [go_sem, hc, hf, e1])⟩) hS ?_
    change wpAnyH _ _ _ _ _ _ _ (Act.put _ (some 56) _) _
    refine wpAnyH_take (i := 8) (v := (.pointer (some ⟨gW, 1, none⟩))) rfl (by kernel_rfl) (by kernel_rfl) (by kernel_rfl) (fun _ _ _ h => h) (Or.inl ⟨by rfl, fun V hW => q_run1 56 (.pointer (some ⟨gW, 0, none⟩)) (by simp only [q_same, q_ne, q_sz, q_none, q_sz0, hsz, h0, h3, ne_eq, Nat.reduceEqDiff, not_false_eq_true, Nat.reduceLT]) (fun ρ hc hf e1 => by simp [go_sem, hc, hf, e1])⟩) hS ?_
    change wpAnyH _ _ _ _ _ _ _ (Act.put _ (some 57) _) _
    refine wpAnyH_take (i := 9) (v := (.slice (some ⟨b, 0, none⟩) ps.length cap)) rfl (by kernel_rfl) (by kernel_rfl) (by kernel_rfl) (fun _ _ _ h => h) (Or.inl ⟨by rfl, fun V hW => q_run1 57 (.pointer (some ⟨gW, 1, none⟩)) (by simp only [q_same, q_ne, q_sz, q_none, q_sz0, hsz, h0, h3, ne_eq, Nat.reduceEqDiff, not_false_eq_true, Nat.reduceLT]) (fun ρ hc hf e1 => by simp [go_sem, hc, hf, e1, hW.1])⟩) hS ?_
    change wpAnyH _ _ _ _ _ _ _ (Act.put _ (some 58) _) _
    refine wpAnyH_take (i := 10) (v := (.int .i64 (ps.length : Int))) rfl (by kernel_rfl) (by kernel_rfl) (by kernel_rfl) (fun _ _ _ h => h) (Or.inl ⟨by rfl, fun V hW => q_run1 58 (.slice (some ⟨b, 0, none⟩) ps.length cap) (by simp only [q_same, q_ne, q_sz, q_none, q_sz0, hsz, h0, h3, ne_eq, Nat.reduceEqDiff, not_false_eq_true, Nat.reduceLT]) (fun ρ hc hf e1 => by simp [go_sem, hc, hf, e1, hln])⟩) hS ?_
    change wpAnyH _ _ _ _ _ _ _ (Act.put _ (some 59) _) _
    have HBA : Below W1.heap.size W1 (W1.drew.alloc (.cells #[.pointer none, .pointer none] 48)) := HBD.alloc (Nat.le_refl _) _
    have HBS : Below W1.heap.size W1 ((W1.drew.alloc (.cells #[.pointer none, .pointer none] 48)).setCells W1.heap.size 0 [.pointer (some ⟨r.gx, 0, none⟩), .pointer (some ⟨r.gm, 0, none⟩)]) := below_setCells HBA _ (Nat.le_refl _) _ _
    refine qH_two 11 14 (by kernel_rfl) (by decide) ?_ ?_
    · refine qO_call 17 #[.int .i64 A0, .int .i64 (ps.length : Int)] _ rfl rfl (q_run2 54 59 (.int .i64 A0) (.int .i64 (ps.length : Int)) (by simp only [q_same, q_ne, q_sz, q_none, q_sz0, hsz, h0, h3, ne_eq, Nat.reduceEqDiff, not_false_eq_true, Nat.reduceLT]) (by simp only [q_same, q_ne, q_sz, q_none, q_sz0, hsz, h0, h3, ne_eq, Nat.reduceEqDiff, not_false_eq_true, Nat.reduceLT]) (fun ρ hc hf e1 e2 => by simp [go_sem, hc, hf, e1, e2])) (calls_val (HPK.out _)) ?_
      rintro _ _ ⟨rfl, rfl⟩
      refine ⟨HSS _ HBD, ?_⟩
      change wpAnyH _ _ _ _ _ _ _ (Act.put _ (some 60) _) _
      refine wpAnyH_take (i := 12) (v := (.pointer (some ⟨b, 2 * k, none⟩))) rfl (by kernel_rfl) (by kernel_rfl) (by kernel_rfl) (fun _ _ _ h => h) (Or.inl ⟨by rfl, fun V hW => q_run2 52 60 (.slice (some ⟨b, 0, none⟩) ps.length cap) (.int .i64 (k : Int)) (by simp only [q_same, q_ne, q_sz, q_none, q_sz0, hsz, h0, h3, ne_eq, Nat.reduceEqDiff, not_false_eq_true, Nat.reduceLT]) (by simp only [q_same, q_ne, q_sz, q_none, q_sz0, hsz, h0, h3, ne_eq, Nat.reduceEqDiff, not_false_eq_true, Nat.reduceLT]) (fun ρ hc hf e1 e2 => by simp [go_sem, hc, hf, e1, e2, hix])⟩) hS ?_
      change wpAnyH _ _ _ _ _ _ _ (Act.put _ (some 61) _) _
      refine wpAnyH_take (i := 13) (v := (.agg #[.pointer (some ⟨r.gx, 0, none⟩), .pointer (some ⟨r.gm, 0, none⟩)])) rfl (by kernel_rfl) (by kernel_rfl) (by kernel_rfl) (fun _ _ _ h => h) (yieldsIf_load_mid (by rfl) 48 _ rfl b (2 * k) (by simp only [q_same, q_ne, q_sz, q_none, q_sz0, hsz, h0, h3, ne_eq, Nat.reduceEqDiff, not_false_eq_true, Nat.reduceLT]) [.pointer (some ⟨r.gx, 0, none⟩), .pointer (some ⟨r.gm, 0, none⟩)] _ (fun V hV => hV.2.2) Tryz.underlying48 rfl (by kernel_rfl)) hS ?_
      change wpAnyH _ _ _ _ _ _ _ (Act.put _ (some 62) _) _
      refine qH_one 14 (.pointer (some ⟨W1.heap.size, 0, none⟩)) (W1.drew.alloc (.cells #[.pointer none, .pointer none] 48)) (by kernel_rfl) rfl rfl (by show (Instr.alloc 48 true (.tuple #[]) >>= fun x => pure (.value x) : Sem Next).run Tryz.prog W1.drew = _; rw [Sem.run_bind, alloc_pair W1.drew]; rfl) (HSS _ HBA) ?_
      change wpAnyH _ _ _ _ _ _ _ (Act.put _ (some 6) _) _
      refine qH_skip 15 ((W1.drew.alloc (.cells #[.pointer none, .pointer none] 48)).setCells W1.heap.size 0 [.pointer (some ⟨r.gx, 0, none⟩), .pointer (some ⟨r.gm, 0, none⟩)]) (by kernel_rfl) rfl rfl (q_run2 6 62 (.pointer (some ⟨W1.heap.size, 0, none⟩)) (.agg #[.pointer (some ⟨r.gx, 0, none⟩), .pointer (some ⟨r.gm, 0, none⟩)]) (by simp only [q_same, q_ne, q_sz, q_none, q_sz0, hsz, h0, h3, ne_eq, Nat.reduceEqDiff, not_false_eq_true, Nat.reduceLT]) (by simp only [q_same, q_ne, q_sz, q_none, q_sz0, hsz, h0, h3, ne_eq, Nat.reduceEqDiff, not_false_eq_true, Nat.reduceLT]) (fun ρ hc hf e1 e2 => by
        have hst := store_pair W1.drew r.gx r.gm
        show (Instr.storeAt 48 (ρ (.tmp 6)) (ρ (.tmp 62)) >>= fun _ => pure .skip : Sem Next).run Tryz.prog _ = _
        rw [e1, e2, Sem.run_bind]
        rw [show W1.drew.heap.size = W1.heap.size from rfl] at hst
        rw [hst]; rfl)) (HSS _ HBS) ?_
      change wpAnyH _ _ _ _ _ _ _ (Act.put _ none _) _
      refine wpAnyH_done (by kernel_rfl) ?_ _
      have hfr := HFR.out
      clear HFR hsz h0 h3 hS
      subst hfr
      simp only [Act.put, List.setIfInBounds_toArray, List.set_cons_zero, List.set_cons_succ]
      go_wp2_with fail
      go_meet
      exact HFIN.out
    · refine qO_one (.pointer (some ⟨W1.heap.size, 0, none⟩)) (W1.drew.alloc (.cells #[.pointer none, .pointer none] 48)) rfl rfl (by show (Instr.alloc 48 true (.tuple #[]) >>= fun x => pure (.value x) : Sem Next).run Tryz.prog W1.drew = _; rw [Sem.run_bind, alloc_pair W1.drew]; rfl) (HSS _ HBA) ?_
      change wpAnyH _ _ _ _ _ _ _ (Act.put _ (some 6) _) _
      refine qH_call 11 17 #[.int .i64 A0, .int .i64 (ps.length : Int)] _ (by kernel_rfl) rfl rfl (q_run2 54 59 (.int .i64 A0) (.int .i64 (ps.length : Int)) (by simp only [q_same, q_ne, q_sz, q_none, q_sz0, hsz, h0, h3, ne_eq, Nat.reduceEqDiff, not_false_eq_true, Nat.reduceLT]) (by simp only [q_same, q_ne, q_sz, q_none, q_sz0, hsz, h0, h3, ne_eq, Nat.reduceEqDiff, not_false_eq_true, Nat.reduceLT]) (fun ρ hc hf e1 e2 => by simp [go_sem, hc, hf, e1, e2])) (calls_val (HPK.out _)) ?_
      rintro _ _ ⟨rfl, rfl⟩
      refine ⟨HSS _ HBA, ?_⟩
      change wpAnyH _ _ _ _ _ _ _ (Act.put _ (some 60) _) _
      refine wpAnyH_take (i := 12) (v := (.pointer (some ⟨b, 2 * k, none⟩))) rfl (by kernel_rfl) (by kernel_rfl) (by kernel_rfl) (fun _ _ _ h => h) (Or.inl ⟨by rfl, fun V hW => q_run2 52 60 (.slice (some ⟨b, 0, none⟩) ps.length cap) (.int .i64 (k : Int)) (by simp only [q_same, q_ne, q_sz, q_none, q_sz0, hsz, h0, h3, ne_eq, Nat.reduceEqDiff, not_false_eq_true, Nat.reduceLT]) (by simp only [q_same, q_ne, q_sz, q_none, q_sz0, hsz, h0, h3, ne_eq, Nat.reduceEqDiff, not_false_eq_true, Nat.reduceLT]) (fun ρ hc hf e1 e2 => by simp [go_sem, hc, hf, e1, e2, hix])⟩) (HSS _ HBA) ?_
      change wpAnyH _ _ _ _ _ _ _ (Act.put _ (some 61) _) _
      refine wpAnyH_take (i := 13) (v := (.agg #[.pointer (some ⟨r.gx, 0, none⟩), .pointer (some ⟨r.gm, 0, none⟩)])) rfl (by kernel_rfl) (by kernel_rfl) (by kernel_rfl) (fun _ _ _ h => h) (yieldsIf_load_mid (by rfl) 48 _ rfl b (2 * k) (by simp only [q_same, q_ne, q_sz, q_none, q_sz0, hsz, h0, h3, ne_eq, Nat.reduceEqDiff, not_false_eq_true, Nat.reduceLT]) [.pointer (some ⟨r.gx, 0, none⟩), .pointer (some ⟨r.gm, 0, none⟩)] _ (fun V hV => hV.2.2) Tryz.underlying48 rfl (by kernel_rfl)) (HSS _ HBA) ?_
      change wpAnyH _ _ _ _ _ _ _ (Act.put _ (some 62) _) _
      refine qH_skip 15 ((W1.drew.alloc (.cells #[.pointer none, .pointer none] 48)).setCells W1.heap.size 0 [.pointer (some ⟨r.gx, 0, none⟩), .pointer (some ⟨r.gm, 0, none⟩)]) (by kernel_rfl) rfl rfl (q_run2 6 62 (.pointer (some ⟨W1.heap.size, 0, none⟩)) (.agg #[.pointer (some ⟨r.gx, 0, none⟩), .pointer (some ⟨r.gm, 0, none⟩)]) (by simp only [q_same, q_ne, q_sz, q_none, q_sz0, hsz, h0, h3, ne_eq, Nat.reduceEqDiff, not_false_eq_true, Nat.reduceLT]) (by simp only [q_same, q_ne, q_sz, q_none, q_sz0, hsz, h0, h3, ne_eq, Nat.reduceEqDiff, not_false_eq_true, Nat.reduceLT]) (fun ρ hc hf e1 e2 => by
        have hst := store_pair W1.drew r.gx r.gm
        show (Instr.storeAt 48 (ρ (.tmp 6)) (ρ (.tmp 62)) >>= fun _ => pure .skip : Sem Next).run Tryz.prog _ = _
        rw [e1, e2, Sem.run_bind]
        rw [show W1.drew.heap.size = W1.heap.size from rfl] at hst
        rw [hst]; rfl)) (HSS _ HBS) ?_
      change wpAnyH _ _ _ _ _ _ _ (Act.put _ none _) _
      refine wpAnyH_done (by kernel_rfl) ?_ _
      have hfr := HFR.out
      clear HFR hsz h0 h3 hS
      subst hfr
      simp only [Act.put, List.setIfInBounds_toArray, List.set_cons_zero, List.set_cons_succ]
      go_wp2_with fail
      go_meet
      exact HFIN.out
  case rest =>
    obtain ⟨g6, rfl, p0, p1, hg6, hbx⟩ := hcut
    have HBX : Hid (Below W1.heap.size W1 wc) := hbx
    have HG6 : Hid (W1.heap.size ≤ g6) := hg6
    have SB : Hid (Sc (dd Kc) W0 wc gW gT own (.slice (some ⟨b, 0, none⟩) ps.length cap) lv ps ls) := HS1.out.keep hbx
    have HP : Hid (∀ V : World, V.heap[g6]? = wc.heap[g6]? → V.cell? ⟨g6, 0, none⟩ = some (.pointer (some ⟨r.gx, 0, none⟩)) ∧ V.cell? ⟨g6, 1, none⟩ = some (.pointer (some ⟨r.gm, 0, none⟩))) := fun V hV => ⟨by rw [World.cell?_of_block hV]; exact p0, by rw [World.cell?_of_block hV]; exact p1⟩
    have q0 := (HO.out wc hbx).1
    clear HS0 HFIN HS1 hbx hg6 HPK hln hix
    have C1 : ∀ {V : World}, Sc (dd Kc) W0 V gW gT own (.slice (some ⟨b, 0, none⟩) ps.length cap) lv ps ls → Calls Tryz.prog 18 #[.pointer (some ⟨r.gx, 0, none⟩), .string s] V fun e w' => e = .returned (.int .i64 (addE (dd Kc) s r.p)) ∧ MidA V w' r ((addP (dd Kc) s r.p).map (dd Kc)) := fun {V} hV => pair_add1 hV HR.out (hkt.later hV.bel hg0) s hs
    have C2 : ∀ {V : World}, Sc (dd Kc) W0 V gW gT own (.slice (some ⟨b, 0, none⟩) ps.length cap) lv ps ls → ∀ w7, MidA V w7 r ((addP (dd Kc) s r.p).map (dd Kc)) → Calls Tryz.prog 19 #[.pointer (some ⟨r.gm, 0, none⟩), .string s] w7 fun e w' => e = .returned (.int .i64 (addE (dd Kc) s r.p)) ∧ ∃ own' ps', ps'.length = ps.length ∧ Sc (dd Kc) W0 w' gW gT own' (.slice (some ⟨b, 0, none⟩) ps.length cap) lv ps' ls ∧ Loose own V w' ∧ V.heap.size ≤ w'.heap.size := fun {V} hV w7 hM => pair_add2 hV HR.out hT s hs w7 hM
    generalize addE (dd Kc) s r.p = E at C1 C2
    generalize (addP (dd Kc) s r.p).map (dd Kc) = L at C1 C2
    go_upto_region 13 with fail
    refine q_frame (fun A HFR => ?_)
    have hsz : A.tmps.size = 163 := by rw [HFR.out]; rfl
    have h3 : A.eval (.tmp 3) = .pointer (some ⟨W.heap.size, 0, none⟩) := by rw [HFR.out]; rfl
    have h6 : A.eval (.tmp 6) = .pointer (some ⟨g6, 0, none⟩) := by rw [HFR.out]; rfl
    have HBD : Below wc.heap.size wc wc.drew := ⟨rfl, rfl, rfl, Nat.le_refl _, fun _ _ => rfl⟩
    have SD := SB.out.keep HBD
    have HB1D : Below W1.heap.size W1 wc.drew := HBX.out.trans (HBD.mono HBX.out.size)
    have hg6l : g6 < wc.heap.size := World.block_lt_of_cell? wc _ p0
    have hn6 : own g6 = (0, 0) := Classical.byContradiction fun h => by
      have := (S0.out.dom _ h).2; have := HG6.out; omega
    have hnO : own W.heap.size = (0, 0) := HOWN0.out
    have hOl : W.heap.size < wc.heap.size := by have := HBX.out.size; omega
    have HSS : ∀ V : World, (V.heap[g6]? = wc.heap[g6]? ∧ V.heap[W.heap.size]? = wc.heap[W.heap.size]?) → V.cell? ⟨g6, 0, none⟩ = some (.pointer (some ⟨r.gx, 0, none⟩)) ∧ V.cell? ⟨g6, 1, none⟩ = some (.pointer (some ⟨r.gm, 0, none⟩)) ∧ V.cell? ⟨W.heap.size, 2, none⟩ = some (.string s) := fun V hV =>
      ⟨(HP.out V hV.1).1, (HP.out V hV.1).2, by rw [World.cell?_of_block hV.2]; exact (HO.out wc HBX.out).2.2⟩
    refine wp_region_held_drew (S := fun V => V.cell? ⟨g6, 0, none⟩ = some (.pointer (some ⟨r.gx, 0, none⟩)) ∧ V.cell? ⟨g6, 1, none⟩ = some (.pointer (some ⟨r.gm, 0, none⟩)) ∧ V.cell? ⟨W.heap.size, 2, none⟩ = some (.string s)) (by kernel_rfl) (HSS _ ⟨rfl, rfl⟩) (fun hS => ?_)
    refine wpAnyH_take (i := 0) (v := (.pointer (some ⟨g6, 0, none⟩))) rfl (by kernel_rfl) (by kernel_rfl) (by kernel_rfl) (fun _ _ _ h => h) (Or.inl ⟨by rfl, fun V hW => q_run1 6 (.pointer (some ⟨g6, 0, none⟩)) (by simp only [q_same, q_ne, q_sz, q_none, q_sz0, hsz, h3, h6, ne_eq, Nat.reduceEqDiff, not_false_eq_true, Nat.reduceLT]) (fun ρ hc hf e1 => by simp [go_sem, hc, hf, e1])⟩) hS ?_
    change wpAnyH _ _ _ _ _ _ _ (Act.put _ (some 67) _) _
    refine wpAnyH_take (i := 1) (v := (.pointer (some ⟨r.gx, 0, none⟩))) rfl (by kernel_rfl) (by kernel_rfl) (by kernel_rfl) (fun _ _ _ h => h) (Or.inl ⟨by rfl, fun V hW => q_run1 67 (.pointer (some ⟨g6, 0, none⟩)) (by simp only [q_same, q_ne, q_sz, q_none, q_sz0, hsz, h3, h6, ne_eq, Nat.reduceEqDiff, not_false_eq_true, Nat.reduceLT]) (fun ρ hc hf e1 => by simp [go_sem, hc, hf, e1, hW.1])⟩) hS ?_
    change wpAnyH _ _ _ _ _ _ _ (Act.put _ (some 68) _) _
    refine wpAnyH_take (i := 2) (v := (.pointer (some ⟨r.gx, 0, none⟩))) rfl (by kernel_rfl) (by kernel_rfl) (by kernel_rfl) (fun _ _ _ h => h) (Or.inl ⟨by rfl, fun V hW => q_run1 68 (.pointer (some ⟨r.gx, 0, none⟩)) (by simp only [q_same, q_ne, q_sz, q_none, q_sz0, hsz, h3, h6, ne_eq, Nat.reduceEqDiff, not_false_eq_true, Nat.reduceLT]) (fun ρ hc hf e1 => by simp [go_sem, hc, hf, e1])⟩) hS ?_
    change wpAnyH _ _ _ _ _ _ _ (Act.put _ (some 69) _) _
    refine wpAnyH_take (i := 3) (v := (.pointer (some ⟨r.gx, 0, none⟩))) rfl (by kernel_rfl) (by kernel_rfl) (by kernel_rfl) (fun _ _ _ h => h) (Or.inl ⟨by rfl, fun V hW => q_run1 69 (.pointer (some ⟨r.gx, 0, none⟩)) (by simp only [q_same, q_ne, q_sz, q_none, q_sz0, hsz, h3, h6, ne_eq, Nat.reduceEqDiff, not_false_eq_true, Nat.reduceLT]) (fun ρ hc hf e1 => by simp [go_sem, hc, hf, e1])⟩) hS ?_
    change wpAnyH _ _ _ _ _ _ _ (Act.put _ (some 70) _) _
    refine wpAnyH_take (i := 4) (v := (.pointer (some ⟨W.heap.size, 2, none⟩))) rfl (by kernel_rfl) (by kernel_rfl) (by kernel_rfl) (fun _ _ _ h => h) (Or.inl ⟨by rfl, fun V hW => q_run1 3 (.pointer (some ⟨W.heap.size, 0, none⟩)) (by simp only [q_same, q_ne, q_sz, q_none, q_sz0, hsz, h3, h6, ne_eq, Nat.reduceEqDiff, not_false_eq_true, Nat.reduceLT]) (fun ρ hc hf e1 => by simp [go_sem, hc, hf, e1])⟩) hS ?_
    change wpAnyH _ _ _ _ _ _ _ (Act.put _ (some 71) _) _
    refine wpAnyH_take (i := 5) (v := (.string s)) rfl (by kernel_rfl) (by kernel_rfl) (by kernel_rfl) (fun _ _ _ h => h) (Or.inl ⟨by rfl, fun V hW => q_run1 71 (.pointer (some ⟨W.heap.size, 2, none⟩)) (by simp only [q_same, q_ne, q_sz, q_none, q_sz0, hsz, h3, h6, ne_eq, Nat.reduceEqDiff, not_false_eq_true, Nat.reduceLT]) (fun ρ hc hf e1 => by simp [go_sem, hc, hf, e1, hW.2.2])⟩) hS ?_
    change wpAnyH _ _ _ _ _ _ _ (Act.put _ (some 72) _) _
    refine wpAnyH_take (i := 7) (v := (.pointer (some ⟨g6, 1, none⟩))) rfl (by kernel_rfl) (by kernel_rfl) (by kernel_rfl) (fun _ _ _ h => h) (Or.inl ⟨by rfl, fun V hW => q_run1 6 (.pointer (some ⟨g6, 0, none⟩)) (by simp only [q_same, q_ne, q_sz, q_none, q_sz0, hsz, h3, h6, ne_eq, Nat.reduceEqDiff, not_false_eq_true, Nat.reduceLT]) (fun ρ hc hf e1 => by simp [go_sem, hc, hf, e1])⟩) hS ?_
    change wpAnyH _ _ _ _ _ _ _ (Act.put _ (some 74) _) _
    refine wpAnyH_take (i := 8) (v := (.pointer (some ⟨r.gm, 0, none⟩))) rfl (by kernel_rfl) (by kernel_rfl) (by kernel_rfl) (fun _ _ _ h => h) (Or.inl ⟨by rfl, fun V hW => q_run1 74 (.pointer (some ⟨g6, 1, none⟩)) (by simp only [q_same, q_ne, q_sz, q_none, q_sz0, hsz, h3, h6, ne_eq, Nat.reduceEqDiff, not_false_eq_true, Nat.reduceLT]) (fun ρ hc hf e1 => by simp [go_sem, hc, hf, e1, hW.2.1])⟩) hS ?_
    change wpAnyH _ _ _ _ _ _ _ (Act.put _ (some 75) _) _
    refine wpAnyH_take (i := 9) (v := (.pointer (some ⟨W.heap.size, 2, none⟩))) rfl (by kernel_rfl) (by kernel_rfl) (by kernel_rfl) (fun _ _ _ h => h) (Or.inl ⟨by rfl, fun V hW => q_run1 3 (.pointer (some ⟨W.heap.size, 0, none⟩)) (by simp only [q_same, q_ne, q_sz, q_none, q_sz0, hsz, h3, h6, ne_eq, Nat.reduceEqDiff, not_false_eq_true, Nat.reduceLT]) (fun ρ hc hf e1 => by simp [go_sem, hc, hf, e1])⟩) hS ?_
    change wpAnyH _ _ _ _ _ _ _ (Act.put _ (some 76) _) _
    refine wpAnyH_take (i := 10) (v := (.string s)) rfl (by kernel_rfl) (by kernel_rfl) (by kernel_rfl) (fun _ _ _ h => h) (Or.inl ⟨by rfl, fun V hW => q_run1 76 (.pointer (some ⟨W.heap.size, 2, none⟩)) (by simp only [q_same, q_ne, q_sz, q_none, q_sz0, hsz, h3, h6, ne_eq, Nat.reduceEqDiff, not_false_eq_true, Nat.reduceLT]) (fun ρ hc hf e1 => by simp [go_sem, hc, hf, e1, hW.2.2])⟩) hS ?_
    change wpAnyH _ _ _ _ _ _ _ (Act.put _ (some 77) _) _
    refine qH_call 6 18 #[.pointer (some ⟨r.gx, 0, none⟩), .string s] _ (by kernel_rfl) rfl rfl (q_run2 70 72 (.pointer (some ⟨r.gx, 0, none⟩)) (.string s) (by simp only [q_same, q_ne, q_sz, q_none, q_sz0, hsz, h3, h6, ne_eq, Nat.reduceEqDiff, not_false_eq_true, Nat.reduceLT]) (by simp only [q_same, q_ne, q_sz, q_none, q_sz0, hsz, h3, h6, ne_eq, Nat.reduceEqDiff, not_false_eq_true, Nat.reduceLT]) (fun ρ hc hf e1 e2 => by simp [go_sem, hc, hf, e1, e2])) (calls_val (C1 SD)) ?_
    rintro _ w7 ⟨rfl, hM⟩
    obtain ⟨hfr, _, hs7, _⟩ := mid_ref SD HR.out hM
    have e6 : w7.heap[g6]? = wc.heap[g6]? := hfr g6 hg6l (by rw [hn6]; simp) (by rw [hn6]; simp)
    have eO : w7.heap[W.heap.size]? = wc.heap[W.heap.size]? := hfr W.heap.size hOl (by rw [hnO]; simp) (by rw [hnO]; simp)
    refine ⟨HSS w7 ⟨e6, eO⟩, ?_⟩
    change wpAnyH _ _ _ _ _ _ _ (Act.put _ (some 73) _) _
    refine qH_call 11 19 #[.pointer (some ⟨r.gm, 0, none⟩), .string s] _ (by kernel_rfl) rfl rfl (q_run2 75 77 (.pointer (some ⟨r.gm, 0, none⟩)) (.string s) (by simp only [q_same, q_ne, q_sz, q_none, q_sz0, hsz, h3, h6, ne_eq, Nat.reduceEqDiff, not_false_eq_true, Nat.reduceLT]) (by simp only [q_same, q_ne, q_sz, q_none, q_sz0, hsz, h3, h6, ne_eq, Nat.reduceEqDiff, not_false_eq_true, Nat.reduceLT]) (fun ρ hc hf e1 e2 => by simp [go_sem, hc, hf, e1, e2])) (calls_val (C2 SD w7 hM)) ?_
    rintro _ w8 ⟨rfl, own', ps', hpl', S8, hlo, hs8⟩
    have e6' : w8.heap[g6]? = wc.heap[g6]? := hlo g6 hg6l hn6
    have eO' : w8.heap[W.heap.size]? = wc.heap[W.heap.size]? := hlo W.heap.size hOl hnO
    refine ⟨HSS w8 ⟨e6', eO'⟩, ?_⟩
    change wpAnyH _ _ _ _ _ _ _ (Act.put _ (some 78) _) _
    refine qH_one 12 (.bool true) w8 (by kernel_rfl) rfl rfl (q_run2 73 78 (.int .i64 E) (.int .i64 E) (by simp only [q_same, q_ne, q_sz, q_none, q_sz0, hsz, h3, h6, ne_eq, Nat.reduceEqDiff, not_false_eq_true, Nat.reduceLT]) (by simp only [q_same, q_ne, q_sz, q_none, q_sz0, hsz, h3, h6, ne_eq, Nat.reduceEqDiff, not_false_eq_true, Nat.reduceLT]) (fun ρ hc hf e1 e2 => by simp [go_sem, hc, hf, e1, e2])) (HSS w8 ⟨e6', eO'⟩) ?_
    change wpAnyH _ _ _ _ _ _ _ (Act.put _ (some 79) _) _
    refine qH_one 13 (.bool true) w8 (by kernel_rfl) rfl rfl (q_run1 79 (.bool true) (by simp only [q_same, q_ne, q_sz, q_none, q_sz0, hsz, h3, h6, ne_eq, Nat.reduceEqDiff, not_false_eq_true, Nat.reduceLT]) (fun ρ hc hf e1 => by simp [go_sem, hc, hf, e1])) (HSS w8 ⟨e6', eO'⟩) ?_
    change wpAnyH _ _ _ _ _ _ _ (Act.put _ (some 4) _) _
    refine wpAnyH_done (by kernel_rfl) ?_ _
    have hfr2 := HFR.out
    have HSZ : Hid (Sc (dd Kc) W0 w8 gW gT own' (.slice (some ⟨b, 0, none⟩) ps.length cap) lv ps' ls) := S8
    have HPL : Hid (ps'.length = ps.length) := hpl'
    clear HFR hsz h3 h6 hS HSS HBD SD HB1D hM hfr e6 eO e6' eO' S8 hlo hpl' p0 p1 q0
    subst hfr2
    simp only [Act.put, List.setIfInBounds_toArray, List.set_cons_zero, List.set_cons_succ]
    go_wp2
    go_ret
    exact ⟨rfl, own', _, lv, ps', ls, HSZ.out, by rw [HPL.out]; exact Nat.le_succ _, Nat.le_succ _⟩

set_option maxRecDepth 10000 in
set_option maxHeartbeats 8000000 in
theorem step_drop (Kc : Nat → Int) (W0 W : World) (gW gT : Nat) (own : Nat → Nat × Nat) (rv lv : Value) (ps : List Pr) (ls : List Lt) (S : Sc (dd Kc) W0 W gW gT own rv lv ps ls) (hkt : KT Kc W0) (hT : Tw (dd Kc) gT gW W0) (hg0 : 0 < gW) (A0 : Int) (s : ByteArray) (hA1 : -9223372036854775808 ≤ A0) (hA2 : A0 ≤ 9223372036854775807) (hs : s.size ≤ 1048576) (hpl : ps.length ≤ 1048576) :
    Calls Tryz.prog 12 #[.pointer (some ⟨gW, 0, none⟩), .agg #[.int .i64 3, .int .i64 A0, .string s]] W fun e w' => e = .returned (.bool true) ∧ ∃ own' rv' lv' ps' ls', Sc (dd Kc) W0 w' gW gT own' rv' lv' ps' ls' ∧ ps'.length ≤ ps.length + 1 ∧ ls'.length ≤ ls.length + 1 := by
  have S0 : Hid (Sc (dd Kc) W0 W gW gT own rv lv ps ls) := S
  obtain ⟨W1, hW1⟩ : ∃ V, V = W.alloc (.cells #[.int .i64 3, .int .i64 A0, .string s] 26) := ⟨_, rfl⟩
  have hB1 : Below W.heap.size W W1 := by rw [hW1]; exact (Below.refl _ _).alloc (Nat.le_refl _) _
  have hz1 : W1.heap.size = W.heap.size + 1 := by rw [hW1]; simp
  have o0 : W1.cell? ⟨W.heap.size, 0, none⟩ = some (.int .i64 3) := by rw [hW1]; simp [go_sem]
  have o1 : W1.cell? ⟨W.heap.size, 1, none⟩ = some (.int .i64 A0) := by rw [hW1]; simp [go_sem]
  have o2 : W1.cell? ⟨W.heap.size, 2, none⟩ = some (.string s) := by rw [hW1]; simp [go_sem]
  have S1 := S.keep hB1
  have HO : Hid (∀ V, Below W1.heap.size W1 V → V.cell? ⟨W.heap.size, 0, none⟩ = some (.int .i64 3) ∧ V.cell? ⟨W.heap.size, 1, none⟩ = some (.int .i64 A0) ∧ V.cell? ⟨W.heap.size, 2, none⟩ = some (.string s)) := fun V hV =>
    ⟨by rw [hV.cell (p := ⟨W.heap.size, 0, none⟩) (by show W.heap.size < _; omega)]; exact o0, by rw [hV.cell (p := ⟨W.heap.size, 1, none⟩) (by show W.heap.size < _; omega)]; exact o1, by rw [hV.cell (p := ⟨W.heap.size, 2, none⟩) (by show W.heap.size < _; omega)]; exact o2⟩
  have HOWN0 : Hid (own W.heap.size = (0, 0)) := by
    show _ = _
    refine Classical.byContradiction fun h => ?_
    have := (S.dom _ h).2; omega
  have hgW : gW < W1.heap.size := (S1.dom gW (ne00 S1.oW (by simp))).2
  obtain ⟨va, cap, hrv, hrow⟩ := own_r2 S1.rs
  subst hrv
  have hc1 := S1.c1
  by_cases hn : ps.length = 0
  · rw [hn] at hc1
    have HS1 : Hid (Sc (dd Kc) W0 W1 gW gT own (.slice va ps.length cap) lv ps ls) := S1
    clear hrow S1 S o1 o2
    go_enter Tryz.func12, Tryz.ntmps12
    go_upto_region 1 with fail
    rw [← hW1]
    clear hW1
    go_wp2
    go_ret
    exact ⟨rfl, own, _, lv, ps, ls, HS1.out, Nat.le_succ _, Nat.le_succ _⟩
  obtain ⟨b, rfl, hcs⟩ := hrow (by omega)
  obtain ⟨k, hk⟩ : ∃ k, k = pkL A0 ps.length := ⟨_, rfl⟩
  have hkl : k < ps.length := by rw [hk]; exact pkL_lt _ _ (by omega)
  obtain ⟨r, hr⟩ : ∃ r, ps[k]? = some r := ⟨_, List.getElem?_eq_getElem hkl⟩
  obtain ⟨g0, g1⟩ := prC_get ps k r hr
  have HPK : Hid (∀ V, Calls Tryz.prog 17 #[.int .i64 A0, .int .i64 (ps.length : Int)] V fun e w' => e = .returned (.int .i64 (k : Int)) ∧ V = w') := fun V => by rw [hk]; exact pickL_any A0 ps.length V hA1 hA2 (by omega) hpl
  have hbl : b < W1.heap.size := World.block_lt_of_cell? W1 _ (hcs _ _ g0)
  have HS0 : Hid (∀ V, Below W1.heap.size W1 V → V.cell? ⟨gW, 1, none⟩ = some (.slice (some ⟨b, 0, none⟩) ps.length cap) ∧ V.cell? ⟨W.heap.size, 1, none⟩ = some (.int .i64 A0) ∧ V.rangeAt b (2 * k) [.pointer (some ⟨r.gx, 0, none⟩), .pointer (some ⟨r.gm, 0, none⟩)]) := fun V hV =>
    ⟨by rw [hV.cell (p := ⟨gW, 1, none⟩) hgW]; exact hc1, (HO.out V hV).2.1, fun j x hx => by
      rw [hV.cell (p := ⟨b, 2 * k + j, none⟩) hbl]
      match j, hx with
      | 0, hx => simp at hx; subst hx; exact hcs _ _ g0
      | 1, hx => simp at hx; subst hx; exact hcs _ _ g1
      | j + 2, hx => simp at hx⟩
  have hln : ∀ (V : World) (ty : TypeId), (Builtin.len_ #[30] ty #[.slice (some ⟨b, 0, none⟩) ps.length cap]).run Tryz.prog V = .ok (.int .i64 (ps.length : Int)) V := fun V ty => by simp [Builtin.len_, run_underlying Tryz.underlying30, goInt]
  have hni : ¬ ((ps.length : Int) = 0) := by omega
  have hnb : ((ps.length : Int) == 0) = false := by rw [beq_eq_false_iff_ne]; exact hni
  have hix : (k : Int) < (ps.length : Int) := by omega
  have HS1 : Hid (Sc (dd Kc) W0 W1 gW gT own (.slice (some ⟨b, 0, none⟩) ps.length cap) lv ps ls) := S1
  have HR : Hid (ps[k]? = some r) := hr
  have HKL : Hid (k < ps.length) := hkl
  have HFIN : Hid (∃ g6 : Nat, (.pointer (some ⟨W1.heap.size, 0, none⟩) : Value) = .pointer (some ⟨g6, 0, none⟩) ∧ ((W1.drew.alloc (.cells #[.pointer none, .pointer none] 48)).setCells W1.heap.size 0 [.pointer (some ⟨r.gx, 0, none⟩), .pointer (some ⟨r.gm, 0, none⟩)]).cell? ⟨g6, 0, none⟩ = some (.pointer (some ⟨r.gx, 0, none⟩)) ∧ ((W1.drew.alloc (.cells #[.pointer none, .pointer none] 48)).setCells W1.heap.size 0 [.pointer (some ⟨r.gx, 0, none⟩), .pointer (some ⟨r.gm, 0, none⟩)]).cell? ⟨g6, 1, none⟩ = some (.pointer (some ⟨r.gm, 0, none⟩)) ∧ W1.heap.size ≤ g6 ∧ Below W1.heap.size W1 ((W1.drew.alloc (.cells #[.pointer none, .pointer none] 48)).setCells W1.heap.size 0 [.pointer (some ⟨r.gx, 0, none⟩), .pointer (some ⟨r.gm, 0, none⟩)])) := by
    refine ⟨W1.heap.size, rfl, ?_, ?_, Nat.le_refl _, below_setCells ((⟨rfl, rfl, rfl, Nat.le_refl _, fun _ _ => rfl⟩ : Below W1.heap.size W1 W1.drew).alloc (Nat.le_refl _) _) _ (Nat.le_refl _) _ _⟩
    · have := World.rangeAt_setCells_same (W1.drew.alloc (.cells #[.pointer none, .pointer none] 48)) W1.heap.size 0 [.pointer (some ⟨r.gx, 0, none⟩), .pointer (some ⟨r.gm, 0, none⟩)] (th_new W1.drew _ [.pointer none, .pointer none])
      exact this 0 _ rfl
    · have := World.rangeAt_setCells_same (W1.drew.alloc (.cells #[.pointer none, .pointer none] 48)) W1.heap.size 0 [.pointer (some ⟨r.gx, 0, none⟩), .pointer (some ⟨r.gm, 0, none⟩)] (th_new W1.drew _ [.pointer none, .pointer none])
      exact this 1 _ rfl
  clear hcs g0 g1 hr hkl hk S1 hrow S o1 o2
  go_enter Tryz.func12, Tryz.ntmps12
  go_upto_region 1 with fail
  rw [← hW1]
  clear hW1
  go_upto_region 10 with fail
  clear o0 hc1
  go_cut [6] (fun pv wx => ∃ g6 : Nat, pv = .pointer (some ⟨g6, 0, none⟩) ∧ wx.cell? ⟨g6, 0, none⟩ = some (.pointer (some ⟨r.gx, 0, none⟩)) ∧ wx.cell? ⟨g6, 1, none⟩ = some (.pointer (some ⟨r.gm, 0, none⟩)) ∧ W1.heap.size ≤ g6 ∧ Below W1.heap.size W1 wx)
  case first =>
    refine q_frame (fun A HFR => ?_)
    have hsz : A.tmps.size = 163 := by rw [HFR.out]; rfl
    have h0 : A.eval (.tmp 0) = .pointer (some ⟨gW, 0, none⟩) := by rw [HFR.out]; rfl
    have h3 : A.eval (.tmp 3) = .pointer (some ⟨W.heap.size, 0, none⟩) := by rw [HFR.out]; rfl
    have HBD : Below W1.heap.size W1 W1.drew := ⟨rfl, rfl, rfl, Nat.le_refl _, fun _ _ => rfl⟩
    have HSS : ∀ V, Below W1.heap.size W1 V → V.cell? ⟨gW, 1, none⟩ = some (.slice (some ⟨b, 0, none⟩) ps.length cap) ∧ V.cell? ⟨W.heap.size, 1, none⟩ = some (.int .i64 A0) ∧ V.rangeAt b (2 * k) [.pointer (some ⟨r.gx, 0, none⟩), .pointer (some ⟨r.gm, 0, none⟩)] := HS0.out
    refine wp_region_held_drew (S := fun V => V.cell? ⟨gW, 1, none⟩ = some (.slice (some ⟨b, 0, none⟩) ps.length cap) ∧ V.cell? ⟨W.heap.size, 1, none⟩ = some (.int .i64 A0) ∧ V.rangeAt b (2 * k) [.pointer (some ⟨r.gx, 0, none⟩), .pointer (some ⟨r.gm, 0, none⟩)]) (by kernel_rfl) (HSS _ HBD) (fun hS => ?_)
    refine wpAnyH_take (i := 0) (v := (.pointer (some ⟨gW, 0, none⟩))) rfl (by kernel_rfl) (by kernel_rfl) (by kernel_rfl) (fun _ _ _ h => h) (Or.inl ⟨by rfl, fun V hW => q_run1 0 (.pointer (some ⟨gW, 0, none⟩)) (by simp only [q_same, q_ne, q_sz, q_none, q_sz0, hsz, h0, h3, ne_eq, Nat.reduceEqDiff, not_false_eq_true, Nat.reduceLT]) (fun ρ hc hf e1 => by simp [go_sem, hc, hf, e1])⟩) hS ?_
    change wpAnyH _ _ _ _ _ _ _ (Act.put _ (some 49) _) _
    refine wpAnyH_take (i := 1) (v := (.pointer (some ⟨gW, 0, none⟩))) rfl (by kernel_rfl) (by kernel_rfl) (by kernel_rfl) (fun _ _ _ h => h) (Or.inl ⟨by rfl, fun V hW => q_run1 49 (.pointer (some ⟨gW, 0, none⟩)) (by simp only [q_same, q_ne, q_sz, q_none, q_sz0, hsz, h0, h3, ne_eq, Nat.reduceEqDiff, not_false_eq_true, Nat.reduceLT]) (fun ρ hc hf e1 => by simp [go_sem, hc, hf, e1])⟩) hS ?_
    change wpAnyH _ _ _ _ _ _ _ (Act.put _ (some 50) _) _
    refine wpAnyH_take (i := 2) (v := (.pointer (some ⟨gW, 1, none⟩))) rfl (by kernel_rfl) (by kernel_rfl) (by kernel_rfl) (fun _ _ _ h => h) (Or.inl ⟨by rfl, fun V hW => q_run1 50 (.pointer (some ⟨gW, 0, none⟩)) (by simp only [q_same, q_ne, q_sz, q_none, q_sz0, hsz, h0, h3, ne_eq, Nat.reduceEqDiff, not_false_eq_true, Nat.reduceLT]) (fun ρ hc hf e1 => by simp [go_sem, hc, hf, e1])⟩) hS ?_
    change wpAnyH _ _ _ _ _ _ _ (Act.put _ (some 51) _) _
    refine wpAnyH_take (i := 3) (v := (.slice (some ⟨b, 0, none⟩) ps.length cap)) rfl (by kernel_rfl) (by kernel_rfl) (by kernel_rfl) (fun _ _ _ h => h) (Or.inl ⟨by rfl, fun V hW => q_run1 51 (.pointer (some ⟨gW, 1, none⟩)) (by simp only [q_same, q_ne, q_sz, q_none, q_sz0, hsz, h0, h3, ne_eq, Nat.reduceEqDiff, not_false_eq_true, Nat.reduceLT]) (fun ρ hc hf e1 => by simp [go_sem, hc, hf, e1, hW.1])⟩) hS ?_
    change wpAnyH _ _ _ _ _ _ _ (Act.put _ (some 52) _) _
    refine wpAnyH_take (i := 4) (v := (.pointer (some ⟨W.heap.size, 1, none⟩))) rfl (by kernel_rfl) (by kernel_rfl) (by kernel_rfl) (fun _ _ _ h => h) (Or.inl ⟨by rfl, fun V hW => q_run1 3 (.pointer (some ⟨W.heap.size, 0, none⟩)) (by simp only [q_same, q_ne, q_sz, q_none, q_sz0, hsz, h0, h3, ne_eq, Nat.reduceEqDiff, not_false_eq_true, Nat.reduceLT]) (fun ρ hc hf e1 => by simp [go_sem, hc, hf, e1])⟩) hS ?_
    change wpAnyH _ _ _ _ _ _ _ (Act.put _ (some 53) _) _
    refine wpAnyH_take (i := 5) (v := (.int .i64 A0)) rfl (by kernel_rfl) (by kernel_rfl) (by kernel_rfl) (fun _ _ _ h => h) (Or.inl ⟨by rfl, fun V hW => q_run1 53 (.pointer (some ⟨W.heap.size, 1, none⟩)) (by simp only [q_same, q_ne, q_sz, q_none, q_sz0, hsz, h0, h3, ne_eq, Nat.reduceEqDiff, not_false_eq_true, Nat.reduceLT]) (fun ρ hc hf e1 => by simp [go_sem, hc, hf, e1, hW.2.1])⟩) hS ?_
    change wpAnyH _ _ _ _ _ _ _ (Act.put _ (some 54) _) _
    refine wpAnyH_take (i := 6) (v := (.pointer (some ⟨gW, 0, none⟩))) rfl (by kernel_rfl) (by kernel_rfl) (by kernel_rfl) (fun _ _ _ h => h) (Or.inl ⟨by rfl, fun V hW => q_run1 0 (.pointer (some ⟨gW, 0, none⟩)) (by simp only [q_same, q_ne, q_sz, q_none, q_sz0, hsz, h0, h3, ne_eq, Nat.reduceEqDiff, not_false_eq_true, Nat.reduceLT]) (fun ρ hc hf e1 => by simp [go_sem, hc, hf, e1])⟩) hS ?_
    change wpAnyH _ _ _ _ _ _ _ (Act.put _ (some 55) _) _
    refine wpAnyH_take (i := 7) (v := (.pointer (some ⟨gW, 0, none⟩))) rfl (by kernel_rfl) (by kernel_rfl) (by kernel_rfl) (fun _ _ _ h => h) (Or.inl ⟨by rfl, fun V hW => q_run1 55 (.pointer (some ⟨gW, 0, none⟩)) (by simp only [q_same, q_ne, q_sz, q_none, q_sz0, hsz, h0, h3, ne_eq, Nat.reduceEqDiff, not_false_eq_true, Nat.reduceLT]) (fun ρ hc hf e1 => by simp [go_sem, hc, hf, e1])⟩) hS ?_
    change wpAnyH _ _ _ _ _ _ _ (Act.put _ (some 56) _) _
    refine wpAnyH_take (i := 8) (v := (.pointer (some ⟨gW, 1, none⟩))) rfl (by kernel_rfl) (by kernel_rfl) (by kernel_rfl) (fun _ _ _ h => h) (Or.inl ⟨by rfl, fun V hW => q_run1 56 (.pointer (some ⟨gW, 0, none⟩)) (by simp only [q_same, q_ne, q_sz, q_none, q_sz0, hsz, h0, h3, ne_eq, Nat.reduceEqDiff, not_false_eq_true, Nat.reduceLT]) (fun ρ hc hf e1 => by simp [go_sem, hc, hf, e1])⟩) hS ?_
    change wpAnyH _ _ _ _ _ _ _ (Act.put _ (some 57) _) _
    refine wpAnyH_take (i := 9) (v := (.slice (some ⟨b, 0, none⟩) ps.length cap)) rfl (by kernel_rfl) (by kernel_rfl) (by kernel_rfl) (fun _ _ _ h => h) (Or.inl ⟨by rfl, fun V hW => q_run1 57 (.pointer (some ⟨gW, 1, none⟩)) (by simp only [q_same, q_ne, q_sz, q_none, q_sz0, hsz, h0, h3, ne_eq, Nat.reduceEqDiff, not_false_eq_true, Nat.reduceLT]) (fun ρ hc hf e1 => by simp [go_sem, hc, hf, e1, hW.1])⟩) hS ?_
    change wpAnyH _ _ _ _ _ _ _ (Act.put _ (some 58) _) _
    refine wpAnyH_take (i := 10) (v := (.int .i64 (ps.length : Int))) rfl (by kernel_rfl) (by kernel_rfl) (by kernel_rfl) (fun _ _ _ h => h) (Or.inl ⟨by rfl, fun V hW => q_run1 58 (.slice (some ⟨b, 0, none⟩) ps.length cap) (by simp only [q_same, q_ne, q_sz, q_none, q_sz0, hsz, h0, h3, ne_eq, Nat.reduceEqDiff, not_false_eq_true, Nat.reduceLT]) (fun ρ hc hf e1 => by simp [go_sem, hc, hf, e1, hln])⟩) hS ?_
    change wpAnyH _ _ _ _ _ _ _ (Act.put _ (some 59) _) _
    have HBA : Below W1.heap.size W1 (W1.drew.alloc (.cells #[.pointer none, .pointer none] 48)) := HBD.alloc (Nat.le_refl _) _
    have HBS : Below W1.heap.size W1 ((W1.drew.alloc (.cells #[.pointer none, .pointer none] 48)).setCells W1.heap.size 0 [.pointer (some ⟨r.gx, 0, none⟩), .pointer (some ⟨r.gm, 0, none⟩)]) := below_setCells HBA _ (Nat.le_refl _) _ _
    refine qH_two 11 14 (by kernel_rfl) (by decide) ?_ ?_
    · refine qO_call 17 #[.int .i64 A0, .int .i64 (ps.length : Int)] _ rfl rfl (q_run2 54 59 (.int .i64 A0) (.int .i64 (ps.length : Int)) (by simp only [q_same, q_ne, q_sz, q_none, q_sz0, hsz, h0, h3, ne_eq, Nat.reduceEqDiff, not_false_eq_true, Nat.reduceLT]) (by simp only [q_same, q_ne, q_sz, q_none, q_sz0, hsz, h0, h3, ne_eq, Nat.reduceEqDiff, not_false_eq_true, Nat.reduceLT]) (fun ρ hc hf e1 e2 => by simp [go_sem, hc, hf, e1, e2])) (calls_val (HPK.out _)) ?_
      rintro _ _ ⟨rfl, rfl⟩
      refine ⟨HSS _ HBD, ?_⟩
      change wpAnyH _ _ _ _ _ _ _ (Act.put _ (some 60) _) _
      refine wpAnyH_take (i := 12) (v := (.pointer (some ⟨b, 2 * k, none⟩))) rfl (by kernel_rfl) (by kernel_rfl) (by kernel_rfl) (fun _ _ _ h => h) (Or.inl ⟨by rfl, fun V hW => q_run2 52 60 (.slice (some ⟨b, 0, none⟩) ps.length cap) (.int .i64 (k : Int)) (by simp only [q_same, q_ne, q_sz, q_none, q_sz0, hsz, h0, h3, ne_eq, Nat.reduceEqDiff, not_false_eq_true, Nat.reduceLT]) (by simp only [q_same, q_ne, q_sz, q_none, q_sz0, hsz, h0, h3, ne_eq, Nat.reduceEqDiff, not_false_eq_true, Nat.reduceLT]) (fun ρ hc hf e1 e2 => by simp [go_sem, hc, hf, e1, e2, hix])⟩) hS ?_
      change wpAnyH _ _ _ _ _ _ _ (Act.put _ (some 61) _) _
      refine wpAnyH_take (i := 13) (v := (.agg #[.pointer (some ⟨r.gx, 0, none⟩), .pointer (some ⟨r.gm, 0, none⟩)])) rfl (by kernel_rfl) (by kernel_rfl) (by kernel_rfl) (fun _ _ _ h => h) (yieldsIf_load_mid (by rfl) 48 _ rfl b (2 * k) (by simp only [q_same, q_ne, q_sz, q_none, q_sz0, hsz, h0, h3, ne_eq, Nat.reduceEqDiff, not_false_eq_true, Nat.reduceLT]) [.pointer (some ⟨r.gx, 0, none⟩), .pointer (some ⟨r.gm, 0, none⟩)] _ (fun V hV => hV.2.2) Tryz.underlying48 rfl (by kernel_rfl)) hS ?_
      change wpAnyH _ _ _ _ _ _ _ (Act.put _ (some 62) _) _
      refine qH_one 14 (.pointer (some ⟨W1.heap.size, 0, none⟩)) (W1.drew.alloc (.cells #[.pointer none, .pointer none] 48)) (by kernel_rfl) rfl rfl (by show (Instr.alloc 48 true (.tuple #[]) >>= fun x => pure (.value x) : Sem Next).run Tryz.prog W1.drew = _; rw [Sem.run_bind, alloc_pair W1.drew]; rfl) (HSS _ HBA) ?_
      change wpAnyH _ _ _ _ _ _ _ (Act.put _ (some 6) _) _
      refine qH_skip 15 ((W1.drew.alloc (.cells #[.pointer none, .pointer none] 48)).setCells W1.heap.size 0 [.pointer (some ⟨r.gx, 0, none⟩), .pointer (some ⟨r.gm, 0, none⟩)]) (by kernel_rfl) rfl rfl (q_run2 6 62 (.pointer (some ⟨W1.heap.size, 0, none⟩)) (.agg #[.pointer (some ⟨r.gx, 0, none⟩), .pointer (some ⟨r.gm, 0, none⟩)]) (by simp only [q_same, q_ne, q_sz, q_none, q_sz0, hsz, h0, h3, ne_eq, Nat.reduceEqDiff, not_false_eq_true, Nat.reduceLT]) (by simp only [q_same, q_ne, q_sz, q_none, q_sz0, hsz, h0, h3, ne_eq, Nat.reduceEqDiff, not_false_eq_true, Nat.reduceLT]) (fun ρ hc hf e1 e2 => by
        have hst := store_pair W1.drew r.gx r.gm
        show (Instr.storeAt 48 (ρ (.tmp 6)) (ρ (.tmp 62)) >>= fun _ => pure .skip : Sem Next).run Tryz.prog _ = _
        rw [e1, e2, Sem.run_bind]
        rw [show W1.drew.heap.size = W1.heap.size from rfl] at hst
        rw [hst]; rfl)) (HSS _ HBS) ?_
      change wpAnyH _ _ _ _ _ _ _ (Act.put _ none _) _
      refine wpAnyH_done (by kernel_rfl) ?_ _
      have hfr := HFR.out
      clear HFR hsz h0 h3 hS
      subst hfr
      simp only [Act.put, List.setIfInBounds_toArray, List.set_cons_zero, List.set_cons_succ]
      go_wp2_with fail
      go_meet
      exact HFIN.out
    · refine qO_one (.pointer (some ⟨W1.heap.size, 0, none⟩)) (W1.drew.alloc (.cells #[.pointer none, .pointer none] 48)) rfl rfl (by show (Instr.alloc 48 true (.tuple #[]) >>= fun x => pure (.value x) : Sem Next).run Tryz.prog W1.drew = _; rw [Sem.run_bind, alloc_pair W1.drew]; rfl) (HSS _ HBA) ?_
      change wpAnyH _ _ _ _ _ _ _ (Act.put _ (some 6) _) _
      refine qH_call 11 17 #[.int .i64 A0, .int .i64 (ps.length : Int)] _ (by kernel_rfl) rfl rfl (q_run2 54 59 (.int .i64 A0) (.int .i64 (ps.length : Int)) (by simp only [q_same, q_ne, q_sz, q_none, q_sz0, hsz, h0, h3, ne_eq, Nat.reduceEqDiff, not_false_eq_true, Nat.reduceLT]) (by simp only [q_same, q_ne, q_sz, q_none, q_sz0, hsz, h0, h3, ne_eq, Nat.reduceEqDiff, not_false_eq_true, Nat.reduceLT]) (fun ρ hc hf e1 e2 => by simp [go_sem, hc, hf, e1, e2])) (calls_val (HPK.out _)) ?_
      rintro _ _ ⟨rfl, rfl⟩
      refine ⟨HSS _ HBA, ?_⟩
      change wpAnyH _ _ _ _ _ _ _ (Act.put _ (some 60) _) _
      refine wpAnyH_take (i := 12) (v := (.pointer (some ⟨b, 2 * k, none⟩))) rfl (by kernel_rfl) (by kernel_rfl) (by kernel_rfl) (fun _ _ _ h => h) (Or.inl ⟨by rfl, fun V hW => q_run2 52 60 (.slice (some ⟨b, 0, none⟩) ps.length cap) (.int .i64 (k : Int)) (by simp only [q_same, q_ne, q_sz, q_none, q_sz0, hsz, h0, h3, ne_eq, Nat.reduceEqDiff, not_false_eq_true, Nat.reduceLT]) (by simp only [q_same, q_ne, q_sz, q_none, q_sz0, hsz, h0, h3, ne_eq, Nat.reduceEqDiff, not_false_eq_true, Nat.reduceLT]) (fun ρ hc hf e1 e2 => by simp [go_sem, hc, hf, e1, e2, hix])⟩) (HSS _ HBA) ?_
      change wpAnyH _ _ _ _ _ _ _ (Act.put _ (some 61) _) _
      refine wpAnyH_take (i := 13) (v := (.agg #[.pointer (some ⟨r.gx, 0, none⟩), .pointer (some ⟨r.gm, 0, none⟩)])) rfl (by kernel_rfl) (by kernel_rfl) (by kernel_rfl) (fun _ _ _ h => h) (yieldsIf_load_mid (by rfl) 48 _ rfl b (2 * k) (by simp only [q_same, q_ne, q_sz, q_none, q_sz0, hsz, h0, h3, ne_eq, Nat.reduceEqDiff, not_false_eq_true, Nat.reduceLT]) [.pointer (some ⟨r.gx, 0, none⟩), .pointer (some ⟨r.gm, 0, none⟩)] _ (fun V hV => hV.2.2) Tryz.underlying48 rfl (by kernel_rfl)) (HSS _ HBA) ?_
      change wpAnyH _ _ _ _ _ _ _ (Act.put _ (some 62) _) _
      refine qH_skip 15 ((W1.drew.alloc (.cells #[.pointer none, .pointer none] 48)).setCells W1.heap.size 0 [.pointer (some ⟨r.gx, 0, none⟩), .pointer (some ⟨r.gm, 0, none⟩)]) (by kernel_rfl) rfl rfl (q_run2 6 62 (.pointer (some ⟨W1.heap.size, 0, none⟩)) (.agg #[.pointer (some ⟨r.gx, 0, none⟩), .pointer (some ⟨r.gm, 0, none⟩)]) (by simp only [q_same, q_ne, q_sz, q_none, q_sz0, hsz, h0, h3, ne_eq, Nat.reduceEqDiff, not_false_eq_true, Nat.reduceLT]) (by simp only [q_same, q_ne, q_sz, q_none, q_sz0, hsz, h0, h3, ne_eq, Nat.reduceEqDiff, not_false_eq_true, Nat.reduceLT]) (fun ρ hc hf e1 e2 => by
        have hst := store_pair W1.drew r.gx r.gm
        show (Instr.storeAt 48 (ρ (.tmp 6)) (ρ (.tmp 62)) >>= fun _ => pure .skip : Sem Next).run Tryz.prog _ = _
        rw [e1, e2, Sem.run_bind]
        rw [show W1.drew.heap.size = W1.heap.size from rfl] at hst
        rw [hst]; rfl)) (HSS _ HBS) ?_
      change wpAnyH _ _ _ _ _ _ _ (Act.put _ none _) _
      refine wpAnyH_done (by kernel_rfl) ?_ _
      have hfr := HFR.out
      clear HFR hsz h0 h3 hS
      subst hfr
      simp only [Act.put, List.setIfInBounds_toArray, List.set_cons_zero, List.set_cons_succ]
      go_wp2_with fail
      go_meet
      exact HFIN.out
  case rest =>
    obtain ⟨g6, rfl, p0, p1, hg6, hbx⟩ := hcut
    have HBX : Hid (Below W1.heap.size W1 wc) := hbx
    have HG6 : Hid (W1.heap.size ≤ g6) := hg6
    have SB : Hid (Sc (dd Kc) W0 wc gW gT own (.slice (some ⟨b, 0, none⟩) ps.length cap) lv ps ls) := HS1.out.keep hbx
    have HP : Hid (∀ V : World, V.heap[g6]? = wc.heap[g6]? → V.cell? ⟨g6, 0, none⟩ = some (.pointer (some ⟨r.gx, 0, none⟩)) ∧ V.cell? ⟨g6, 1, none⟩ = some (.pointer (some ⟨r.gm, 0, none⟩))) := fun V hV => ⟨by rw [World.cell?_of_block hV]; exact p0, by rw [World.cell?_of_block hV]; exact p1⟩
    have q0 := (HO.out wc hbx).1
    clear HS0 HFIN HS1 hbx hg6 HPK hln hix
    have C1 : ∀ {V : World}, Sc (dd Kc) W0 V gW gT own (.slice (some ⟨b, 0, none⟩) ps.length cap) lv ps ls → Calls Tryz.prog 20 #[.pointer (some ⟨r.gx, 0, none⟩), .string s] V fun e w' => e = .returned (.bool (atL (dd Kc) s r.p 0).2) ∧ MidA V w' r ((dropL (dd Kc) s r.p).map (dd Kc)) := fun {V} hV => pair_drop1 hV HR.out s
    have C2 : ∀ {V : World}, Sc (dd Kc) W0 V gW gT own (.slice (some ⟨b, 0, none⟩) ps.length cap) lv ps ls → ∀ w7, MidA V w7 r ((dropL (dd Kc) s r.p).map (dd Kc)) → Calls Tryz.prog 21 #[.pointer (some ⟨r.gm, 0, none⟩), .string s] w7 fun e w' => e = .returned (.bool (atL (dd Kc) s r.p 0).2) ∧ ∃ own' ps', ps'.length = ps.length ∧ Sc (dd Kc) W0 w' gW gT own' (.slice (some ⟨b, 0, none⟩) ps.length cap) lv ps' ls ∧ Loose own V w' ∧ V.heap.size ≤ w'.heap.size := fun {V} hV w7 hM => pair_drop2 hV HR.out hT s w7 hM
    generalize (atL (dd Kc) s r.p 0).2 = E at C1 C2
    generalize (dropL (dd Kc) s r.p).map (dd Kc) = L at C1 C2
    go_upto_region 15 with fail
    refine q_frame (fun A HFR => ?_)
    have hsz : A.tmps.size = 163 := by rw [HFR.out]; rfl
    have h3 : A.eval (.tmp 3) = .pointer (some ⟨W.heap.size, 0, none⟩) := by rw [HFR.out]; rfl
    have h6 : A.eval (.tmp 6) = .pointer (some ⟨g6, 0, none⟩) := by rw [HFR.out]; rfl
    have HBD : Below wc.heap.size wc wc.drew := ⟨rfl, rfl, rfl, Nat.le_refl _, fun _ _ => rfl⟩
    have SD := SB.out.keep HBD
    have HB1D : Below W1.heap.size W1 wc.drew := HBX.out.trans (HBD.mono HBX.out.size)
    have hg6l : g6 < wc.heap.size := World.block_lt_of_cell? wc _ p0
    have hn6 : own g6 = (0, 0) := Classical.byContradiction fun h => by
      have := (S0.out.dom _ h).2; have := HG6.out; omega
    have hnO : own W.heap.size = (0, 0) := HOWN0.out
    have hOl : W.heap.size < wc.heap.size := by have := HBX.out.size; omega
    have HSS : ∀ V : World, (V.heap[g6]? = wc.heap[g6]? ∧ V.heap[W.heap.size]? = wc.heap[W.heap.size]?) → V.cell? ⟨g6, 0, none⟩ = some (.pointer (some ⟨r.gx, 0, none⟩)) ∧ V.cell? ⟨g6, 1, none⟩ = some (.pointer (some ⟨r.gm, 0, none⟩)) ∧ V.cell? ⟨W.heap.size, 2, none⟩ = some (.string s) := fun V hV =>
      ⟨(HP.out V hV.1).1, (HP.out V hV.1).2, by rw [World.cell?_of_block hV.2]; exact (HO.out wc HBX.out).2.2⟩
    refine wp_region_held_drew (S := fun V => V.cell? ⟨g6, 0, none⟩ = some (.pointer (some ⟨r.gx, 0, none⟩)) ∧ V.cell? ⟨g6, 1, none⟩ = some (.pointer (some ⟨r.gm, 0, none⟩)) ∧ V.cell? ⟨W.heap.size, 2, none⟩ = some (.string s)) (by kernel_rfl) (HSS _ ⟨rfl, rfl⟩) (fun hS => ?_)
    refine wpAnyH_take (i := 0) (v := (.pointer (some ⟨g6, 0, none⟩))) rfl (by kernel_rfl) (by kernel_rfl) (by kernel_rfl) (fun _ _ _ h => h) (Or.inl ⟨by rfl, fun V hW => q_run1 6 (.pointer (some ⟨g6, 0, none⟩)) (by simp only [q_same, q_ne, q_sz, q_none, q_sz0, hsz, h3, h6, ne_eq, Nat.reduceEqDiff, not_false_eq_true, Nat.reduceLT]) (fun ρ hc hf e1 => by simp [go_sem, hc, hf, e1])⟩) hS ?_
    change wpAnyH _ _ _ _ _ _ _ (Act.put _ (some 82) _) _
    refine wpAnyH_take (i := 1) (v := (.pointer (some ⟨r.gx, 0, none⟩))) rfl (by kernel_rfl) (by kernel_rfl) (by kernel_rfl) (fun _ _ _ h => h) (Or.inl ⟨by rfl, fun V hW => q_run1 82 (.pointer (some ⟨g6, 0, none⟩)) (by simp only [q_same, q_ne, q_sz, q_none, q_sz0, hsz, h3, h6, ne_eq, Nat.reduceEqDiff, not_false_eq_true, Nat.reduceLT]) (fun ρ hc hf e1 => by simp [go_sem, hc, hf, e1, hW.1])⟩) hS ?_
    change wpAnyH _ _ _ _ _ _ _ (Act.put _ (some 83) _) _
    refine wpAnyH_take (i := 2) (v := (.pointer (some ⟨r.gx, 0, none⟩))) rfl (by kernel_rfl) (by kernel_rfl) (by kernel_rfl) (fun _ _ _ h => h) (Or.inl ⟨by rfl, fun V hW => q_run1 83 (.pointer (some ⟨r.gx, 0, none⟩)) (by simp only [q_same, q_ne, q_sz, q_none, q_sz0, hsz, h3, h6, ne_eq, Nat.reduceEqDiff, not_false_eq_true, Nat.reduceLT]) (fun ρ hc hf e1 => by simp [go_sem, hc, hf, e1])⟩) hS ?_
    change wpAnyH _ _ _ _ _ _ _ (Act.put _ (some 84) _) _
    refine wpAnyH_take (i := 3) (v := (.pointer (some ⟨r.gx, 0, none⟩))) rfl (by kernel_rfl) (by kernel_rfl) (by kernel_rfl) (fun _ _ _ h => h) (Or.inl ⟨by rfl, fun V hW => q_run1 84 (.pointer (some ⟨r.gx, 0, none⟩)) (by simp only [q_same, q_ne, q_sz, q_none, q_sz0, hsz, h3, h6, ne_eq, Nat.reduceEqDiff, not_false_eq_true, Nat.reduceLT]) (fun ρ hc hf e1 => by simp [go_sem, hc, hf, e1])⟩) hS ?_
    change wpAnyH _ _ _ _ _ _ _ (Act.put _ (some 85) _) _
    refine wpAnyH_take (i := 4) (v := (.pointer (some ⟨W.heap.size, 2, none⟩))) rfl (by kernel_rfl) (by kernel_rfl) (by kernel_rfl) (fun _ _ _ h => h) (Or.inl ⟨by rfl, fun V hW => q_run1 3 (.pointer (some ⟨W.heap.size, 0, none⟩)) (by simp only [q_same, q_ne, q_sz, q_none, q_sz0, hsz, h3, h6, ne_eq, Nat.reduceEqDiff, not_false_eq_true, Nat.reduceLT]) (fun ρ hc hf e1 => by simp [go_sem, hc, hf, e1])⟩) hS ?_
    change wpAnyH _ _ _ _ _ _ _ (Act.put _ (some 86) _) _
    refine wpAnyH_take (i := 5) (v := (.string s)) rfl (by kernel_rfl) (by kernel_rfl) (by kernel_rfl) (fun _ _ _ h => h) (Or.inl ⟨by rfl, fun V hW => q_run1 86 (.pointer (some ⟨W.heap.size, 2, none⟩)) (by simp only [q_same, q_ne, q_sz, q_none, q_sz0, hsz, h3, h6, ne_eq, Nat.reduceEqDiff, not_false_eq_true, Nat.reduceLT]) (fun ρ hc hf e1 => by simp [go_sem, hc, hf, e1, hW.2.2])⟩) hS ?_
    change wpAnyH _ _ _ _ _ _ _ (Act.put _ (some 87) _) _
    refine wpAnyH_take (i := 7) (v := (.pointer (some ⟨g6, 1, none⟩))) rfl (by kernel_rfl) (by kernel_rfl) (by kernel_rfl) (fun _ _ _ h => h) (Or.inl ⟨by rfl, fun V hW => q_run1 6 (.pointer (some ⟨g6, 0, none⟩)) (by simp only [q_same, q_ne, q_sz, q_none, q_sz0, hsz, h3, h6, ne_eq, Nat.reduceEqDiff, not_false_eq_true, Nat.reduceLT]) (fun ρ hc hf e1 => by simp [go_sem, hc, hf, e1])⟩) hS ?_
    change wpAnyH _ _ _ _ _ _ _ (Act.put _ (some 89) _) _
    refine wpAnyH_take (i := 8) (v := (.pointer (some ⟨r.gm, 0, none⟩))) rfl (by kernel_rfl) (by kernel_rfl) (by kernel_rfl) (fun _ _ _ h => h) (Or.inl ⟨by rfl, fun V hW => q_run1 89 (.pointer (some ⟨g6, 1, none⟩)) (by simp only [q_same, q_ne, q_sz, q_none, q_sz0, hsz, h3, h6, ne_eq, Nat.reduceEqDiff, not_false_eq_true, Nat.reduceLT]) (fun ρ hc hf e1 => by simp [go_sem, hc, hf, e1, hW.2.1])⟩) hS ?_
    change wpAnyH _ _ _ _ _ _ _ (Act.put _ (some 90) _) _
    refine wpAnyH_take (i := 9) (v := (.pointer (some ⟨W.heap.size, 2, none⟩))) rfl (by kernel_rfl) (by kernel_rfl) (by kernel_rfl) (fun _ _ _ h => h) (Or.inl ⟨by rfl, fun V hW => q_run1 3 (.pointer (some ⟨W.heap.size, 0, none⟩)) (by simp only [q_same, q_ne, q_sz, q_none, q_sz0, hsz, h3, h6, ne_eq, Nat.reduceEqDiff, not_false_eq_true, Nat.reduceLT]) (fun ρ hc hf e1 => by simp [go_sem, hc, hf, e1])⟩) hS ?_
    change wpAnyH _ _ _ _ _ _ _ (Act.put _ (some 91) _) _
    refine wpAnyH_take (i := 10) (v := (.string s)) rfl (by kernel_rfl) (by kernel_rfl) (by kernel_rfl) (fun _ _ _ h => h) (Or.inl ⟨by rfl, fun V hW => q_run1 91 (.pointer (some ⟨W.heap.size, 2, none⟩)) (by simp only [q_same, q_ne, q_sz, q_none, q_sz0, hsz, h3, h6, ne_eq, Nat.reduceEqDiff, not_false_eq_true, Nat.reduceLT]) (fun ρ hc hf e1 => by simp [go_sem, hc, hf, e1, hW.2.2])⟩) hS ?_
    change wpAnyH _ _ _ _ _ _ _ (Act.put _ (some 92) _) _
    refine qH_call 6 20 #[.pointer (some ⟨r.gx, 0, none⟩), .string s] _ (by kernel_rfl) rfl rfl (q_run2 85 87 (.pointer (some ⟨r.gx, 0, none⟩)) (.string s) (by simp only [q_same, q_ne, q_sz, q_none, q_sz0, hsz, h3, h6, ne_eq, Nat.reduceEqDiff, not_false_eq_true, Nat.reduceLT]) (by simp only [q_same, q_ne, q_sz, q_none, q_sz0, hsz, h3, h6, ne_eq, Nat.reduceEqDiff, not_false_eq_true, Nat.reduceLT]) (fun ρ hc hf e1 e2 => by simp [go_sem, hc, hf, e1, e2])) (calls_val (C1 SD)) ?_
    rintro _ w7 ⟨rfl, hM⟩
    obtain ⟨hfr, _, hs7, _⟩ := mid_ref SD HR.out hM
    have e6 : w7.heap[g6]? = wc.heap[g6]? := hfr g6 hg6l (by rw [hn6]; simp) (by rw [hn6]; simp)
    have eO : w7.heap[W.heap.size]? = wc.heap[W.heap.size]? := hfr W.heap.size hOl (by rw [hnO]; simp) (by rw [hnO]; simp)
    refine ⟨HSS w7 ⟨e6, eO⟩, ?_⟩
    change wpAnyH _ _ _ _ _ _ _ (Act.put _ (some 88) _) _
    refine qH_call 11 21 #[.pointer (some ⟨r.gm, 0, none⟩), .string s] _ (by kernel_rfl) rfl rfl (q_run2 90 92 (.pointer (some ⟨r.gm, 0, none⟩)) (.string s) (by simp only [q_same, q_ne, q_sz, q_none, q_sz0, hsz, h3, h6, ne_eq, Nat.reduceEqDiff, not_false_eq_true, Nat.reduceLT]) (by simp only [q_same, q_ne, q_sz, q_none, q_sz0, hsz, h3, h6, ne_eq, Nat.reduceEqDiff, not_false_eq_true, Nat.reduceLT]) (fun ρ hc hf e1 e2 => by simp [go_sem, hc, hf, e1, e2])) (calls_val (C2 SD w7 hM)) ?_
    rintro _ w8 ⟨rfl, own', ps', hpl', S8, hlo, hs8⟩
    have e6' : w8.heap[g6]? = wc.heap[g6]? := hlo g6 hg6l hn6
    have eO' : w8.heap[W.heap.size]? = wc.heap[W.heap.size]? := hlo W.heap.size hOl hnO
    refine ⟨HSS w8 ⟨e6', eO'⟩, ?_⟩
    change wpAnyH _ _ _ _ _ _ _ (Act.put _ (some 93) _) _
    refine qH_one 12 (.bool true) w8 (by kernel_rfl) rfl rfl (q_run2 88 93 (.bool E) (.bool E) (by simp only [q_same, q_ne, q_sz, q_none, q_sz0, hsz, h3, h6, ne_eq, Nat.reduceEqDiff, not_false_eq_true, Nat.reduceLT]) (by simp only [q_same, q_ne, q_sz, q_none, q_sz0, hsz, h3, h6, ne_eq, Nat.reduceEqDiff, not_false_eq_true, Nat.reduceLT]) (fun ρ hc hf e1 e2 => by simp [go_sem, hc, hf, e1, e2])) (HSS w8 ⟨e6', eO'⟩) ?_
    change wpAnyH _ _ _ _ _ _ _ (Act.put _ (some 94) _) _
    refine qH_one 13 (.bool true) w8 (by kernel_rfl) rfl rfl (q_run1 94 (.bool true) (by simp only [q_same, q_ne, q_sz, q_none, q_sz0, hsz, h3, h6, ne_eq, Nat.reduceEqDiff, not_false_eq_true, Nat.reduceLT]) (fun ρ hc hf e1 => by simp [go_sem, hc, hf, e1])) (HSS w8 ⟨e6', eO'⟩) ?_
    change wpAnyH _ _ _ _ _ _ _ (Act.put _ (some 4) _) _
    refine wpAnyH_done (by kernel_rfl) ?_ _
    have hfr2 := HFR.out
    have HSZ : Hid (Sc (dd Kc) W0 w8 gW gT own' (.slice (some ⟨b, 0, none⟩) ps.length cap) lv ps' ls) := S8
    have HPL : Hid (ps'.length = ps.length) := hpl'
    clear HFR hsz h3 h6 hS HSS HBD SD HB1D hM hfr e6 eO e6' eO' S8 hlo hpl' p0 p1 q0
    subst hfr2
    simp only [Act.put, List.setIfInBounds_toArray, List.set_cons_zero, List.set_cons_succ]
    go_wp2
    go_ret
    exact ⟨rfl, own', _, lv, ps', ls, HSZ.out, by rw [HPL.out]; exact Nat.le_succ _, Nat.le_succ _⟩
end Go.Proofs.YtkmalggeieiepaaGreatDoor
set_option linter.unusedVariables false
namespace Go.Proofs.YtkmalggeieiepaaGreatDoor
open Go.RowKit

section
variable {dg : ByteArray → ByteArray} {W0 W W' : World} {gW gT : Nat} {own : Nat → Nat × Nat} {rv lv : Value} {ps : List Pr} {ls : List Lt}
theorem own_ge1 {w : World} {base e size n : Nat} {v : Value} {xs : List Value} (h : w.ownsRow base e size v n xs) : ∀ b, v.ownBlock = some b → base ≤ b ∧ b < w.heap.size := by
  intro b hb
  rcases h.2 with ⟨hv, _⟩ | ⟨g, cap, cur, hv, h1, h2, _⟩
  · rw [hv] at hb; cases hb
  · rw [hv] at hb
    injection hb with hb
    subst hb
    exact ⟨h1, (Array.getElem?_eq_some_iff.1 h2).1⟩
/-- one pair more. -/
theorem Sc.new (S : Sc dg W0 W gW gT own rv lv ps ls) {gx gm : Nat} {rv' : Value} (h1 : W.heap.size ≤ gx) (h2 : gx < gm)
    (cx : W'.cell? ⟨gx, 0, none⟩ = some (.map none)) (fx : W'.frozen? ⟨gx, 0, none⟩ = false)
    (cT : W'.cell? ⟨gm, 0, none⟩ = some (.pointer (some ⟨gT, 0, none⟩))) (cP : W'.cell? ⟨gm, 1, none⟩ = some (.slice none 0 0)) (fP : W'.frozen? ⟨gm, 1, none⟩ = false)
    (k0 : W'.cell? ⟨gW, 0, none⟩ = some (.pointer (some ⟨gT, 0, none⟩))) (k1 : W'.cell? ⟨gW, 1, none⟩ = some rv') (k2 : W'.cell? ⟨gW, 2, none⟩ = some lv) (k3 : W'.cell? ⟨gW, 3, none⟩ = some (.bool false)) (g1 : W'.frozen? ⟨gW, 1, none⟩ = false) (g2 : W'.frozen? ⟨gW, 2, none⟩ = false)
    (hrs : W'.ownsRow (gW + 1) 48 2 rv' (ps.length + 1) (prC ps ++ [.pointer (some ⟨gx, 0, none⟩), .pointer (some ⟨gm, 0, none⟩)])) (hrv : (∀ b, rv'.ownBlock = some b → gm < b) ∨ rv'.ownBlock = rv.ownBlock)
    (hsz : W.heap.size ≤ W'.heap.size) (hos : W'.os = W.os) (htp : W'.tape = W.tape) (hou : W'.output = W.output)
    (hfr : ∀ k, k < W.heap.size → k ≠ gW → own k ≠ (1, 1) → W'.heap[k]? = W.heap[k]?) : ∃ own' ps', ps'.length = ps.length + 1 ∧ Sc dg W0 W' gW gT own' rv' lv ps' ls := by
  let own' : Nat → Nat × Nat := fun k => if k < W.heap.size then own k else if k = gx then (2, ps.length) else if k = gm then (3, ps.length) else if rv'.ownBlock = some k then (1, 1) else (0, 0)
  have old : ∀ k, own k ≠ (0, 0) → own' k = own k := fun k hk => if_pos (S.dom k hk).2
  have hf : ∀ k, own k ≠ (0, 0) → own k ≠ (1, 0) → own k ≠ (1, 1) → W'.heap[k]? = W.heap[k]? := fun k hk n0 n1 => hfr k (S.dom k hk).2 (fun e => n0 (by rw [e]; exact S.oW)) n1
  have hgl := (S.dom gW (ne00 S.oW (by simp))).2
  refine ⟨own', ps ++ [⟨gx, none, gm, .slice none 0 0, []⟩], by simp, k0, k1, k2, k3, g1, g2, ?_, ?_, ?_, ?_, ?_, ?_, ?_, ?_, ?_⟩
  · rw [old gW (ne00 S.oW (by simp))]; exact S.oW
  · rw [List.length_append, prC_snoc]; exact hrs
  · exact own_stay S.lr (fun b hb => hf b (ne00 (S.oL b hb) (by simp)) (by rw [S.oL b hb]; simp) (by rw [S.oL b hb]; simp))
  · intro b hb
    rcases hrv with h | h
    · have := h b hb
      show (if _ then _ else _) = _
      rw [if_neg (by omega), if_neg (by omega), if_neg (by omega), if_pos hb]
    · rw [h] at hb; rw [old b (ne00 (S.oR b hb) (by simp))]; exact S.oR b hb
  · intro b hb; rw [old b (ne00 (S.oL b hb) (by simp))]; exact S.oL b hb
  · intro j q hj
    by_cases hjl : j < ps.length
    · rw [List.getElem?_append_left hjl] at hj
      obtain ⟨a1, a2, a3, a4, a5⟩ := S.pr j q hj
      have ne : ∀ c k, own k = (c, j) → 1 < c → W'.heap[k]? = W.heap[k]? := fun c k hk hc => hf k (by rw [hk]; simp; omega) (by rw [hk]; simp; omega) (by rw [hk]; simp; omega)
      refine ⟨a1.stay (ne 2 _ a2 (by omega)) (ne 3 _ a3 (by omega)) (fun b hb => ne 4 b (a4 b hb) (by omega)) (fun h0 b hb => ne 5 b (a5 h0 b hb) (by omega)), ?_, ?_, ?_, ?_⟩
      · rw [old _ (ne00 a2 (by simp))]; exact a2
      · rw [old _ (ne00 a3 (by simp))]; exact a3
      · intro b hb; rw [old _ (ne00 (a4 b hb) (by simp))]; exact a4 b hb
      · intro h0 b hb; rw [old _ (ne00 (a5 h0 b hb) (by simp))]; exact a5 h0 b hb
    · have hjl2 : j < (ps ++ [(⟨gx, none, gm, .slice none 0 0, []⟩ : Pr)]).length := (List.getElem?_eq_some_iff.1 hj).1
      have hje : j = ps.length := by simp at hjl2; omega
      subst hje
      rw [List.getElem?_append_right (Nat.le_refl _)] at hj
      simp at hj
      subst hj
      refine ⟨⟨⟨cx, fx, .inl ⟨rfl, rfl⟩⟩, cT, cP, fP, ⟨none, 0, rfl, Nat.zero_le _, fun h => by simp at h⟩, by simp, by simp, List.Pairwise.nil⟩, ?_, ?_, (fun b hb => by cases hb), (fun h => by simp at h)⟩
      · show (if _ then _ else _) = _
        rw [if_neg (by show ¬ gx < _; omega), if_pos rfl]
      · show (if _ then _ else _) = _
        rw [if_neg (by show ¬ gm < _; omega), if_neg (by show ¬ gm = gx; omega), if_pos rfl]
  · intro k x hk
    obtain ⟨a1, a2, a3, a4⟩ := S.li k x hk
    refine ⟨a1.stay (fun _ b hb => hf b (ne00 (a4 b hb) (by simp)) (by rw [a4 b hb]; simp) (by rw [a4 b hb]; simp)), a2, a3, fun b hb => ?_⟩
    rw [old _ (ne00 (a4 b hb) (by simp))]; exact a4 b hb
  · intro k hk
    by_cases hlt : k < W.heap.size
    · rw [show own' k = own k from if_pos hlt] at hk
      exact ⟨(S.dom k hk).1, Nat.lt_of_lt_of_le hlt hsz⟩
    · refine ⟨by omega, ?_⟩
      by_cases e1 : k = gx
      · rw [e1]; exact World.block_lt_of_cell? W' _ cx
      · by_cases e2 : k = gm
        · rw [e2]; exact World.block_lt_of_cell? W' _ cT
        · by_cases e3 : rv'.ownBlock = some k
          · exact (own_ge1 hrs k e3).2
          · exfalso; apply hk
            show (if _ then _ else _) = _
            rw [if_neg hlt, if_neg e1, if_neg e2, if_neg e3]
  · refine S.bel.trans ⟨hos, htp, hou, hsz, fun k hk => ?_⟩
    have h00 : own k = (0, 0) := by
      refine Classical.byContradiction fun h => ?_
      have := (S.dom k h).1; omega
    exact hfr k (by omega) (by omega) (by rw [h00]; simp)
/-- one list more. -/
theorem Sc.list (S : Sc dg W0 W gW gT own rv lv ps ls) {lv' v : Value} {n : Nat} (hn : n ≤ 22) (hn0 : 0 < n) (hv : SVal W' v (List.replicate n (mkB ls.length))) (hvb : ∀ b, v.ownBlock = some b → W.heap.size ≤ b)
    (k0 : W'.cell? ⟨gW, 0, none⟩ = some (.pointer (some ⟨gT, 0, none⟩))) (k1 : W'.cell? ⟨gW, 1, none⟩ = some rv) (k2 : W'.cell? ⟨gW, 2, none⟩ = some lv') (k3 : W'.cell? ⟨gW, 3, none⟩ = some (.bool false)) (g1 : W'.frozen? ⟨gW, 1, none⟩ = false) (g2 : W'.frozen? ⟨gW, 2, none⟩ = false)
    (hls : W'.ownsRow (gW + 1) 44 1 lv' (ls.length + 1) (ls.map (fun x => x.v) ++ [v])) (hlv : (∀ b, lv'.ownBlock = some b → W.heap.size ≤ b ∧ v.ownBlock ≠ some b) ∨ lv'.ownBlock = lv.ownBlock)
    (hsz : W.heap.size ≤ W'.heap.size) (hos : W'.os = W.os) (htp : W'.tape = W.tape) (hou : W'.output = W.output)
    (hfr : ∀ k, k < W.heap.size → k ≠ gW → own k ≠ (1, 2) → W'.heap[k]? = W.heap[k]?) : ∃ own' ls', ls'.length = ls.length + 1 ∧ Sc dg W0 W' gW gT own' rv lv' ps ls' := by
  let own' : Nat → Nat × Nat := fun k => if k < W.heap.size then own k else if v.ownBlock = some k then (6, ls.length) else if lv'.ownBlock = some k then (1, 2) else (0, 0)
  have old : ∀ k, own k ≠ (0, 0) → own' k = own k := fun k hk => if_pos (S.dom k hk).2
  have hf : ∀ k, own k ≠ (0, 0) → own k ≠ (1, 0) → own k ≠ (1, 2) → W'.heap[k]? = W.heap[k]? := fun k hk n0 n1 => hfr k (S.dom k hk).2 (fun e => n0 (by rw [e]; exact S.oW)) n1
  have hgl := (S.dom gW (ne00 S.oW (by simp))).2
  refine ⟨own', ls ++ [⟨v, n⟩], by simp, k0, k1, k2, k3, g1, g2, ?_, ?_, ?_, ?_, ?_, ?_, ?_, ?_, ?_⟩
  · rw [old gW (ne00 S.oW (by simp))]; exact S.oW
  · exact own_stay S.rs (fun b hb => hf b (ne00 (S.oR b hb) (by simp)) (by rw [S.oR b hb]; simp) (by rw [S.oR b hb]; simp))
  · rw [List.length_append, List.map_append]; exact hls
  · intro b hb; rw [old b (ne00 (S.oR b hb) (by simp))]; exact S.oR b hb
  · intro b hb
    rcases hlv with h | h
    · obtain ⟨hge, hne⟩ := h b hb
      show (if _ then _ else _) = _
      rw [if_neg (by omega), if_neg hne, if_pos hb]
    · rw [h] at hb; rw [old b (ne00 (S.oL b hb) (by simp))]; exact S.oL b hb
  · intro j q hj
    obtain ⟨a1, a2, a3, a4, a5⟩ := S.pr j q hj
    have ne : ∀ c k, own k = (c, j) → 1 < c → W'.heap[k]? = W.heap[k]? := fun c k hk hc => hf k (by rw [hk]; simp; omega) (by rw [hk]; simp; omega) (by rw [hk]; simp; omega)
    refine ⟨a1.stay (ne 2 _ a2 (by omega)) (ne 3 _ a3 (by omega)) (fun b hb => ne 4 b (a4 b hb) (by omega)) (fun h0 b hb => ne 5 b (a5 h0 b hb) (by omega)), ?_, ?_, ?_, ?_⟩
    · rw [old _ (ne00 a2 (by simp))]; exact a2
    · rw [old _ (ne00 a3 (by simp))]; exact a3
    · intro b hb; rw [old _ (ne00 (a4 b hb) (by simp))]; exact a4 b hb
    · intro h0 b hb; rw [old _ (ne00 (a5 h0 b hb) (by simp))]; exact a5 h0 b hb
  · intro k x hk
    by_cases hkl : k < ls.length
    · rw [List.getElem?_append_left hkl] at hk
      obtain ⟨a1, a2, a3, a4⟩ := S.li k x hk
      refine ⟨a1.stay (fun _ b hb => hf b (ne00 (a4 b hb) (by simp)) (by rw [a4 b hb]; simp) (by rw [a4 b hb]; simp)), a2, a3, fun b hb => ?_⟩
      rw [old _ (ne00 (a4 b hb) (by simp))]; exact a4 b hb
    · have hkl2 : k < (ls ++ [(⟨v, n⟩ : Lt)]).length := (List.getElem?_eq_some_iff.1 hk).1
      have hke : k = ls.length := by simp at hkl2; omega
      subst hke
      rw [List.getElem?_append_right (Nat.le_refl _)] at hk
      simp at hk
      subst hk
      refine ⟨hv, hn, hn0, fun b hb => ?_⟩
      have := hvb b hb
      show (if _ then _ else _) = _
      rw [if_neg (by omega), if_pos hb]
  · intro k hk
    by_cases hlt : k < W.heap.size
    · rw [show own' k = own k from if_pos hlt] at hk
      exact ⟨(S.dom k hk).1, Nat.lt_of_lt_of_le hlt hsz⟩
    · refine ⟨by omega, ?_⟩
      by_cases e1 : v.ownBlock = some k
      · obtain ⟨b2, o, e2, _, hb2⟩ := hv.blk (by simpa using hn0)
        rw [e1] at e2; injection e2 with e2; subst e2; exact hb2
      · by_cases e3 : lv'.ownBlock = some k
        · exact (own_ge1 hls k e3).2
        · exfalso; apply hk
          show (if _ then _ else _) = _
          rw [if_neg hlt, if_neg e1, if_neg e3]
  · refine S.bel.trans ⟨hos, htp, hou, hsz, fun k hk => ?_⟩
    have h00 : own k = (0, 0) := by
      refine Classical.byContradiction fun h => ?_
      have := (S.dom k h).1; omega
    exact hfr k (by omega) (by omega) (by rw [h00]; simp)
end
end Go.Proofs.YtkmalggeieiepaaGreatDoor
namespace Go.Proofs.YtkmalggeieiepaaGreatDoor
open Go Go.RowKit

section
variable {P : Program} {ops : Array Oper} {Q : Exit → Act → World → Prop} {md : Region.Mode} {S : World → Prop} {k : Nat}

/-- whatever order is picked: S holds behind each operation that comes up, but for the last one, number k. -/
def wpAnyT (P : Program) (md : Region.Mode) (ops : Array Oper) (Q : Exit → Act → World → Prop) (S : World → Prop) (k : Nat) : Nat → Array Bool → Act → World → Prop
  | 0, listed, a, w => Region.ready md ops listed = [] ∧ Q .normal a w
  | fuel + 1, listed, a, w =>
    (Region.ready md ops listed = [] → Q .normal a w) ∧
    ∀ i ∈ Region.ready md ops listed, wpOp P ops Q i (fun a' w' => (i ≠ k → S w') ∧ wpAnyT P md ops Q S k fuel (listed.setIfInBounds i true) a' w') a w
theorem wpAny_of_T : ∀ (fuel : Nat) (listed : Array Bool) (a : Act) (w : World), wpAnyT P md ops Q S k fuel listed a w → wpAny P md ops Q fuel listed a w
  | 0, _, _, _, h => h
  | fuel + 1, _, _, _, h => ⟨h.1, fun i hi => wpOp_mono (fun a' w' h' => wpAny_of_T fuel _ a' w' h'.2) (h.2 i hi)⟩
/-- k waits for i. -/
def waits (md : Region.Mode) (ops : Array Oper) (k i : Nat) : Bool := match ops[k]? with
  | some o => o.after.any fun e => Region.binds md e && e.on == i
  | none => false
theorem waits_not {i : Nat} {listed : Array Bool} (hw : waits md ops k i = true) (hr : i ∈ Region.ready md ops listed) (hk : k ∈ Region.ready md ops listed) : False := by
  obtain ⟨_, ok, hok, hall⟩ := mem_ready.1 hk
  unfold waits at hw
  rw [hok] at hw
  obtain ⟨j, hj, h2⟩ := Array.any_iff_exists.1 hw
  have he : ok.after[j] ∈ ok.after := Array.getElem_mem _
  simp only [Bool.and_eq_true, beq_iff_eq] at h2
  have h1 := hall _ he h2.2.2.1
  have h0 := (mem_ready.1 hr).1
  rw [h2.2.2.2] at h1
  rcases Nat.lt_or_ge i listed.size with h' | h'
  · simp [h'] at h0 h1; rw [h0] at h1; cases h1
  · simp [Array.getElem?_eq_none h'] at h1
theorem wpAnyT_first {i : Nat} {oi : Oper} {v : Value} (hi : ops[i]? = some oi) (hsel : ∀ (j : Nat) (o : Oper) cs b, ops[j]? = some o → o.op ≠ .select cs b)
    (hQ : ∀ c a w, Q (.panic c) (a.put oi.dst v) w → Q (.panic c) a w) (hwk : waits md ops k i = true) :
    ∀ (fuel : Nat) (listed : Array Bool) (a : Act) (w : World),
      (∀ j oj, ops[j]? = some oj → j ≠ i → listed.getD j true = false → (∀ e ∈ oj.after, Region.binds md e = true → e.on ≠ i) → oi.apart ops oj = true) →
      i ∈ Region.ready md ops listed → YieldsIf P ops S oi v a → S w →
      wpAnyT P md ops Q S k fuel (listed.setIfInBounds i true) (a.put oi.dst v) w → wpAnyT P md ops Q S k (fuel + 1) listed a w := by
  intro fuel
  induction fuel with
  | zero =>
    intro listed a w _ hr hy hS H
    refine ⟨fun h => (by rw [h] at hr; cases hr), fun j hj => ?_⟩
    by_cases hji : j = i
    · subst hji; exact hy.wpOp hi hS ⟨fun _ => hS, H⟩
    · have := ready_mono hj hji
      rw [H.1] at this
      cases this
  | succ fuel ih =>
    intro listed a w hfree hr hy hS H
    refine ⟨fun h => (by rw [h] at hr; cases hr), fun j hj => ?_⟩
    by_cases hji : j = i
    · subst hji; exact hy.wpOp hi hS ⟨fun _ => hS, H⟩
    · have hjk : j ≠ k := fun e => waits_not hwk hr (e ▸ hj)
      have h1 := H.2 j (ready_mono hj hji)
      obtain ⟨hjun, oj, hoj, hall⟩ := mem_ready.1 hj
      have hnot : ∀ e ∈ oj.after, Region.binds md e = true → e.on ≠ i := fun e he hb heq => by
        have h1 := hall e he hb
        have h0 := (mem_ready.1 hr).1
        rw [heq] at h1
        rcases Nat.lt_or_ge i listed.size with h' | h'
        · simp [h'] at h0 h1; rw [h0] at h1; cases h1
        · simp [Array.getElem?_eq_none h'] at h1
      have h2 := wpOp_putIf hoj (hfree j oj hoj hji hjun hnot) (fun cs b => hsel i oi cs b hi) (fun cs b => hsel j oj cs b hoj) hQ hy h1
      have hfree' : ∀ k ok, ops[k]? = some ok → k ≠ i → (listed.setIfInBounds j true).getD k true = false →
          (∀ e ∈ ok.after, Region.binds md e = true → e.on ≠ i) → oi.apart ops ok = true := fun k ok hk hki hun hno => by
        refine hfree k ok hk hki ?_ hno
        by_cases hjk : j = k
        · subst hjk; exact hjun
        · rw [getD_set_ne true hjk] at hun; exact hun
      refine wpOp_mono (fun a' w' h3 => ⟨h3.2.1, ih (listed.setIfInBounds j true) a' w' hfree' (ready_mono hr (Ne.symm hji)) h3.1 (h3.2.1 hjk) ?_⟩) h2
      rw [Array.setIfInBounds_comm _ _ hji]
      exact h3.2.2
theorem wpAnyT_take {i : Nat} {oi : Oper} {v : Value} {fuel : Nat} {listed : Array Bool} {a : Act} {w : World} (hi : ops[i]? = some oi)
    (hs : Region.noSelect ops = true) (hf : Region.free md ops listed i = true) (hr : (Region.ready md ops listed).contains i = true) (hwk : waits md ops k i = true)
    (hQ : ∀ c a w, Q (.panic c) (a.put oi.dst v) w → Q (.panic c) a w) (hy : YieldsIf P ops S oi v a) (hS : S w)
    (h : wpAnyT P md ops Q S k fuel (listed.setIfInBounds i true) (a.put oi.dst v) w) : wpAnyT P md ops Q S k (fuel + 1) listed a w :=
  wpAnyT_first hi (Region.noSelect_spec hs) hQ hwk fuel listed a w (Region.free_spec hi hf) (by simpa using hr) hy hS h
theorem wpAnyT_one {i : Nat} {fuel : Nat} {listed : Array Bool} {a : Act} {w : World} (hr : Region.ready md ops listed = [i])
    (h : wpOp P ops Q i (fun a' w' => (i ≠ k → S w') ∧ wpAnyT P md ops Q S k fuel (listed.setIfInBounds i true) a' w') a w) : wpAnyT P md ops Q S k (fuel + 1) listed a w :=
  ⟨fun h0 => absurd (hr ▸ h0) (by simp), fun j hj => by
    rw [hr] at hj
    obtain rfl : j = i := by simpa using hj
    exact h⟩
theorem wpAnyT_done {listed : Array Bool} {a : Act} {w : World} (hr : Region.ready md ops listed = []) (h : Q .normal a w) :
    ∀ fuel, wpAnyT P md ops Q S k fuel listed a w
  | 0 => ⟨hr, h⟩
  | _ + 1 => ⟨fun _ => h, by rw [hr]; simp⟩
theorem wp_region_T {id : Nat} {a : Act} {w : World} (hm : P.follows .mixedOrders = true) (hS : S w.drew)
    (h : S w.drew → wpAnyT P .any ops Q S k ops.size (Array.replicate ops.size false) a w.drew) : (Code.region id ops true).wp P Q a w :=
  wp_region_any hm (wpAny_of_T _ _ _ _ (h hS))
/-- the one operation that may come up yields a value. -/
theorem qT_one {fuel : Nat} {listed : Array Bool} {a : Act} {w : World} (i : Nat) {o : Oper} (v : Value) (w' : World) (hr : Region.ready md ops listed = [i]) (hi : ops[i]? = some o) (hg : o.guard = none)
    (h : (execOp a.eval o).run P w = .ok (.value v) w') (hS : i ≠ k → S w') (hk : wpAnyT P md ops Q S k fuel (listed.setIfInBounds i true) (a.put o.dst v) w') : wpAnyT P md ops Q S k (fuel + 1) listed a w := by
  refine wpAnyT_one hr ?_
  unfold wpOp
  simp only [hi]
  have hw : Region.wanted o (yielded ops a.tmps) = true := by simp [Region.wanted, hg]
  rw [if_pos hw]
  refine .inl ?_
  unfold Oper.wp; rw [h]; exact ⟨hS, hk⟩
/-- .. a store. -/
theorem qT_skip {fuel : Nat} {listed : Array Bool} {a : Act} {w : World} (i : Nat) {o : Oper} (w' : World) (hr : Region.ready md ops listed = [i]) (hi : ops[i]? = some o) (hg : o.guard = none)
    (h : (execOp a.eval o).run P w = .ok .skip w') (hS : i ≠ k → S w') (hk : wpAnyT P md ops Q S k fuel (listed.setIfInBounds i true) (a.put o.dst undef) w') : wpAnyT P md ops Q S k (fuel + 1) listed a w := by
  refine wpAnyT_one hr ?_
  unfold wpOp
  simp only [hi]
  have hw : Region.wanted o (yielded ops a.tmps) = true := by simp [Region.wanted, hg]
  rw [if_pos hw]
  refine .inl ?_
  unfold Oper.wp; rw [h]; exact ⟨hS, hk⟩
/-- .. a call, which may leave by a panic. -/
theorem qT_call {fuel : Nat} {listed : Array Bool} {a : Act} {w : World} (i : Nat) {o : Oper} (f : FuncId) (args : Array Value) (R : Ending → World → Prop) (hr : Region.ready md ops listed = [i]) (hi : ops[i]? = some o) (hg : o.guard = none)
    (h : (execOp a.eval o).run P w = .ok (.enter f args) w) (hc : Calls P f args w R)
    (hk : ∀ v w', R (.returned v) w' → (i ≠ k → S w') ∧ wpAnyT P md ops Q S k fuel (listed.setIfInBounds i true) (a.put o.dst v) w') (hp : ∀ ch w', R (.panicked ch) w' → Q (.panic ch) a w') (ho : ∀ w', R .outgrown w' → False) : wpAnyT P md ops Q S k (fuel + 1) listed a w := by
  refine wpAnyT_one hr ?_
  unfold wpOp
  simp only [hi]
  have hw : Region.wanted o (yielded ops a.tmps) = true := by simp [Region.wanted, hg]
  rw [if_pos hw]
  refine .inl ?_
  unfold Oper.wp; rw [h]
  show Calls _ _ _ _ _
  refine hc.mono fun x w' hx => ?_
  cases x with
  | returned v => exact hk v w' hx
  | panicked ch => exact hp ch w' hx
  | outgrown => exact (ho w' hx).elim
/-- .. an append, told by a law on the plain step. -/
theorem qT_step {fuel : Nat} {listed : Array Bool} {a : Act} {w : World} (i : Nat) {o : Oper} (hr : Region.ready md ops listed = [i]) (hi : ops[i]? = some o)
    (h : ∀ K : Act → World → Prop, Hid (∀ a' w', (i ≠ k → S w') → (wpAnyT P md ops Q S k fuel (listed.setIfInBounds i true) a' w') → K a' w') → if Region.wanted o (yielded ops a.tmps) = true then Oper.wp P o a w K Q else K (a.put o.dst undef) w) : wpAnyT P md ops Q S k (fuel + 1) listed a w := by
  refine wpAnyT_one hr ?_
  have h2 := h (fun a' w' => (i ≠ k → S w') ∧ wpAnyT P md ops Q S k fuel (listed.setIfInBounds i true) a' w') (fun a' w' h1 h2 => ⟨h1, h2⟩)
  unfold wpOp
  simp only [hi]
  split
  · rename_i hw
    rw [if_pos hw] at h2
    exact .inl h2
  · rename_i hw
    rw [if_neg hw] at h2
    exact h2
end
end Go.Proofs.YtkmalggeieiepaaGreatDoor
