import Derived.Test.YtkmalggeieiepaaGreatDoorPxf
import Derived.WalkKit
import Derived.WalkSpells
import Derived.WalkLawsBesides
import Derived.Deep.DeepCutAuto
import Derived.Deep.AppendLies
import Derived.Deep.LoopGhost
import Derived.Deep.MidRow
import Derived.Deep.RegionHeld
set_option linter.unusedSimpArgs false
set_option linter.unusedVariables false
namespace Go.Proofs.YtkmalggeieiepaaGreatDoor
open Go.RowKit

theorem newRec_any (W : World) : Calls Tryz.prog 16 #[] W fun e w' => e = .returned (.pointer (some ⟨W.heap.size, 0, none⟩)) ∧ w' = W.alloc (.cells #[.map none, .pointer none] 56) := by
  go_enter Tryz.func16, Tryz.ntmps16
  go_wp2
  go_ret
  exact ⟨rfl, rfl⟩
theorem build_rec (V : World) (gT : Nat) : (Instr.build 46 #[(0, .pointer (some ⟨gT, 0, none⟩))]).run Tryz.prog V = .ok (.agg #[.pointer (some ⟨gT, 0, none⟩), .slice none 0 0, .string ⟨#[]⟩, .slice none 0 0, .slice none 0 0]) V := by kernel_rfl
theorem build_pr (V : World) (gx gm : Nat) : (Instr.build 48 #[(0, .pointer (some ⟨gx, 0, none⟩)), (1, .pointer (some ⟨gm, 0, none⟩))]).run Tryz.prog V = .ok (.agg #[.pointer (some ⟨gx, 0, none⟩), .pointer (some ⟨gm, 0, none⟩)]) V := by kernel_rfl
theorem bs_pr (V : World) (gx gm : Nat) : (Instr.buildSlice 30 1 #[(0, .agg #[.pointer (some ⟨gx, 0, none⟩), .pointer (some ⟨gm, 0, none⟩)])]).run Tryz.prog V = .ok (.slice (some ⟨V.heap.size, 0, none⟩) 1 1) (V.alloc (.cells #[.pointer (some ⟨gx, 0, none⟩), .pointer (some ⟨gm, 0, none⟩)] 48)) := by kernel_rfl
theorem infoPr : (Tryz.prog.info? 48).map (fun i => (i.zero, i.size, i.bytes)) = some (some (.agg #[.pointer none, .pointer none]), 2, 16) := by kernel_rfl
theorem run_build1' {P : Program} {W : World} {o : Oper} {ρ : Operand → Value} {ty i : Nat} {u x : Value} (ho : o.op = .build ty #[(0, .tmp i)]) (e1 : ρ (.tmp i) = u) (hb : (Instr.build ty #[(0, u)]).run P W = .ok x W) : (execOp ρ o).run P W = .ok (.value x) W := by
  unfold execOp
  simp only [ho, List.map_toArray, List.map_cons, List.map_nil, e1, Sem.run_bind, hb, Result.andThen_ok]
  rfl
theorem run_bslice1' {P : Program} {W W' : World} {o : Oper} {ρ : Operand → Value} {ty n i : Nat} {u x : Value} (ho : o.op = .buildSlice ty n #[(0, .tmp i)]) (e1 : ρ (.tmp i) = u) (hb : (Instr.buildSlice ty n #[(0, u)]).run P W = .ok x W') : (execOp ρ o).run P W = .ok (.value x) W' := by
  unfold execOp
  simp only [ho, List.map_toArray, List.map_cons, List.map_nil, e1, Sem.run_bind, hb, Result.andThen_ok]
  rfl
theorem eql_ptr (g : Nat) (V : World) : (binOp .eql 41 (.pointer (some ⟨g, 0, none⟩)) (.pointer none)).run Tryz.prog V = .ok (.bool false) V := by kernel_rfl

set_option maxRecDepth 10000 in
set_option maxHeartbeats 8000000 in
theorem step_new (dg : ByteArray → ByteArray) (W0 W : World) (gW gT : Nat) (own : Nat → Nat × Nat) (rv lv : Value) (ps : List Pr) (ls : List Lt) (S : Sc dg W0 W gW gT own rv lv ps ls) (A0 : Int) (s : ByteArray) (hpl : ps.length ≤ 1048576) :
    Calls Tryz.prog 12 #[.pointer (some ⟨gW, 0, none⟩), .agg #[.int .i64 1, .int .i64 A0, .string s]] W fun e w' => e = .returned (.bool true) ∧ ∃ own' rv' lv' ps' ls', Sc dg W0 w' gW gT own' rv' lv' ps' ls' ∧ ps'.length ≤ ps.length + 1 ∧ ls'.length ≤ ls.length + 1 := by
  obtain ⟨i0, hi, hz0, hz1, hz2⟩ := info_parts infoPr
  obtain ⟨W1, hW1⟩ : ∃ V, V = W.alloc (.cells #[.int .i64 1, .int .i64 A0, .string s] 26) := ⟨_, rfl⟩
  have hB1 : Below W.heap.size W W1 := by rw [hW1]; exact (Below.refl _ _).alloc (Nat.le_refl _) _
  have hz1' : W1.heap.size = W.heap.size + 1 := by rw [hW1]; simp
  have o0 : W1.cell? ⟨W.heap.size, 0, none⟩ = some (.int .i64 1) := by rw [hW1]; simp [go_sem]
  have hnr := newRec_any W1
  obtain ⟨W2, hW2⟩ : ∃ V, V = W1.alloc (.cells #[.map none, .pointer none] 56) := ⟨_, rfl⟩
  have hnr2 : Calls Tryz.prog 16 #[] W1 fun e w' => e = .returned (.pointer (some ⟨W1.heap.size, 0, none⟩)) ∧ W2 = w' := hnr.mono fun e w' hx => ⟨hx.1, by rw [hW2, hx.2]⟩
  clear hnr
  have hB2 : Below W1.heap.size W1 W2 := by rw [hW2]; exact (Below.refl _ _).alloc (Nat.le_refl _) _
  have hz2' : W2.heap.size = W1.heap.size + 1 := by rw [hW2]; simp
  have x0 : W2.cell? ⟨W1.heap.size, 0, none⟩ = some (.map none) := by rw [hW2]; simp [go_sem]
  have xf : W2.frozen? ⟨W1.heap.size, 0, none⟩ = false := by rw [hW2]; simp [go_sem]
  have S1 := S.keep hB1
  have S2 := S1.keep hB2
  have hgW : gW < W.heap.size := (S.dom gW (ne00 S.oW (by simp))).2
  have heq := eql_ptr W1.heap.size
  have HZ1 : Hid (W1.heap.size = W.heap.size + 1) := hz1'
  have HZ2 : Hid (W2.heap.size = W1.heap.size + 1) := hz2'
  have S0 : Hid (Sc dg W0 W gW gT own rv lv ps ls) := S
  have HS2 : Hid (Sc dg W0 W2 gW gT own rv lv ps ls) := S2
  have X0 : Hid (W2.cell? ⟨W1.heap.size, 0, none⟩ = some (.map none) ∧ W2.frozen? ⟨W1.heap.size, 0, none⟩ = false) := ⟨x0, xf⟩
  have HBW : Hid (Below W.heap.size W W2) := hB1.trans (hB2.mono (by omega))
  clear S S1 S2 hB1 hB2 hW2 x0 xf hz1' hz2'
  go_enter Tryz.func12, Tryz.ntmps12
  go_upto_region 1 with fail
  rw [← hW1]
  clear hW1
  go_upto_region 6 with (go_at_call 16; go_must (refine hnr2.mono ?_); rintro e w' ⟨rfl, rfl⟩)
  clear o0 hnr2 heq
  have hz2' := HZ2.out
  have hgxw : W.heap.size < W1.heap.size := by have := HZ1.out; omega
  generalize W1.heap.size = gx at hz2' X0 hgxw ⊢
  clear HZ1 HZ2
  refine q_frame (fun A HFR => ?_)
  have hsz : A.tmps.size = 163 := by rw [HFR.out]; rfl
  have h0 : A.eval (.tmp 0) = .pointer (some ⟨gW, 0, none⟩) := by rw [HFR.out]; rfl
  have h5 : A.eval (.tmp 5) = .pointer (some ⟨gx, 0, none⟩) := by rw [HFR.out]; rfl
  have hdf : A.defers = [] := by rw [HFR.out]
  have HBD : Below W2.heap.size W2 W2.drew := ⟨rfl, rfl, rfl, Nat.le_refl _, fun _ _ => rfl⟩
  have SD := HS2.out.keep HBD
  have hgW2 : gW < W2.heap.size := (SD.dom gW (ne00 SD.oW (by simp))).2
  have HSS : ∀ V, Below (gW + 1) W2.drew V → V.cell? ⟨gW, 1, none⟩ = some rv ∧ V.cell? ⟨gW, 0, none⟩ = some (.pointer (some ⟨gT, 0, none⟩)) := fun V hV => ⟨by rw [hV.cell (p := ⟨gW, 1, none⟩) (Nat.lt_succ_self _)]; exact SD.c1, by rw [hV.cell (p := ⟨gW, 0, none⟩) (Nat.lt_succ_self _)]; exact SD.c0⟩
  refine wp_region_T (k := 17) (S := fun V => V.cell? ⟨gW, 1, none⟩ = some rv ∧ V.cell? ⟨gW, 0, none⟩ = some (.pointer (some ⟨gT, 0, none⟩))) (by kernel_rfl) (HSS _ (Below.refl _ _)) (fun hS => ?_)
  refine wpAnyT_take (i := 0) (v := (.pointer (some ⟨gW, 0, none⟩))) rfl (by kernel_rfl) (by kernel_rfl) (by kernel_rfl) (by kernel_rfl) (fun _ _ _ h => h) (Or.inl ⟨by rfl, fun V hW => q_run1 0 (.pointer (some ⟨gW, 0, none⟩)) (by simp only [q_same, q_ne, q_sz, q_none, q_sz0, hsz, h0, h5, ne_eq, Nat.reduceEqDiff, not_false_eq_true, Nat.reduceLT]) (fun ρ hc hf e1 => by simp [go_sem, hc, hf, e1])⟩) hS ?_
  change wpAnyT _ _ _ _ _ _ _ _ (Act.put _ (some 26) _) _
  refine wpAnyT_take (i := 1) (v := (.pointer (some ⟨gW, 0, none⟩))) rfl (by kernel_rfl) (by kernel_rfl) (by kernel_rfl) (by kernel_rfl) (fun _ _ _ h => h) (Or.inl ⟨by rfl, fun V hW => q_run1 0 (.pointer (some ⟨gW, 0, none⟩)) (by simp only [q_same, q_ne, q_sz, q_none, q_sz0, hsz, h0, h5, ne_eq, Nat.reduceEqDiff, not_false_eq_true, Nat.reduceLT]) (fun ρ hc hf e1 => by simp [go_sem, hc, hf, e1])⟩) hS ?_
  change wpAnyT _ _ _ _ _ _ _ _ (Act.put _ (some 27) _) _
  refine wpAnyT_take (i := 2) (v := (.pointer (some ⟨gW, 0, none⟩))) rfl (by kernel_rfl) (by kernel_rfl) (by kernel_rfl) (by kernel_rfl) (fun _ _ _ h => h) (Or.inl ⟨by rfl, fun V hW => q_run1 27 (.pointer (some ⟨gW, 0, none⟩)) (by simp only [q_same, q_ne, q_sz, q_none, q_sz0, hsz, h0, h5, ne_eq, Nat.reduceEqDiff, not_false_eq_true, Nat.reduceLT]) (fun ρ hc hf e1 => by simp [go_sem, hc, hf, e1])⟩) hS ?_
  change wpAnyT _ _ _ _ _ _ _ _ (Act.put _ (some 28) _) _
  refine wpAnyT_take (i := 3) (v := (.pointer (some ⟨gW, 1, none⟩))) rfl (by kernel_rfl) (by kernel_rfl) (by kernel_rfl) (by kernel_rfl) (fun _ _ _ h => h) (Or.inl ⟨by rfl, fun V hW => q_run1 28 (.pointer (some ⟨gW, 0, none⟩)) (by simp only [q_same, q_ne, q_sz, q_none, q_sz0, hsz, h0, h5, ne_eq, Nat.reduceEqDiff, not_false_eq_true, Nat.reduceLT]) (fun ρ hc hf e1 => by simp [go_sem, hc, hf, e1])⟩) hS ?_
  change wpAnyT _ _ _ _ _ _ _ _ (Act.put _ (some 29) _) _
  refine wpAnyT_take (i := 4) (v := rv) rfl (by kernel_rfl) (by kernel_rfl) (by kernel_rfl) (by kernel_rfl) (fun _ _ _ h => h) (Or.inl ⟨by rfl, fun V hW => q_run1 29 (.pointer (some ⟨gW, 1, none⟩)) (by simp only [q_same, q_ne, q_sz, q_none, q_sz0, hsz, h0, h5, ne_eq, Nat.reduceEqDiff, not_false_eq_true, Nat.reduceLT]) (fun ρ hc hf e1 => by simp [go_sem, hc, hf, e1, hW.1])⟩) hS ?_
  change wpAnyT _ _ _ _ _ _ _ _ (Act.put _ (some 30) _) _
  refine wpAnyT_take (i := 5) (v := (.pointer (some ⟨gx, 0, none⟩))) rfl (by kernel_rfl) (by kernel_rfl) (by kernel_rfl) (by kernel_rfl) (fun _ _ _ h => h) (Or.inl ⟨by rfl, fun V hW => q_run1 5 (.pointer (some ⟨gx, 0, none⟩)) (by simp only [q_same, q_ne, q_sz, q_none, q_sz0, hsz, h0, h5, ne_eq, Nat.reduceEqDiff, not_false_eq_true, Nat.reduceLT]) (fun ρ hc hf e1 => by simp [go_sem, hc, hf, e1])⟩) hS ?_
  change wpAnyT _ _ _ _ _ _ _ _ (Act.put _ (some 31) _) _
  refine qT_one 6 (.pointer (some ⟨gW, 0, none⟩)) W2.drew (by kernel_rfl) rfl rfl (q_run1 0 (.pointer (some ⟨gW, 0, none⟩)) (by simp only [q_same, q_ne, q_sz, q_none, q_sz0, hsz, h0, h5, ne_eq, Nat.reduceEqDiff, not_false_eq_true, Nat.reduceLT]) (fun ρ hc hf e1 => by simp [go_sem, hc, hf, e1])) (fun _ => hS) ?_
  change wpAnyT _ _ _ _ _ _ _ _ (Act.put _ (some 32) _) _
  refine qT_one 7 (.pointer (some ⟨gW, 0, none⟩)) W2.drew (by kernel_rfl) rfl rfl (q_run1 32 (.pointer (some ⟨gW, 0, none⟩)) (by simp only [q_same, q_ne, q_sz, q_none, q_sz0, hsz, h0, h5, ne_eq, Nat.reduceEqDiff, not_false_eq_true, Nat.reduceLT]) (fun ρ hc hf e1 => by simp [go_sem, hc, hf, e1])) (fun _ => hS) ?_
  change wpAnyT _ _ _ _ _ _ _ _ (Act.put _ (some 33) _) _
  refine qT_one 8 (.pointer (some ⟨gW, 0, none⟩)) W2.drew (by kernel_rfl) rfl rfl (q_run1 33 (.pointer (some ⟨gW, 0, none⟩)) (by simp only [q_same, q_ne, q_sz, q_none, q_sz0, hsz, h0, h5, ne_eq, Nat.reduceEqDiff, not_false_eq_true, Nat.reduceLT]) (fun ρ hc hf e1 => by simp [go_sem, hc, hf, e1])) (fun _ => hS) ?_
  change wpAnyT _ _ _ _ _ _ _ _ (Act.put _ (some 34) _) _
  refine qT_one 9 (.pointer (some ⟨gT, 0, none⟩)) W2.drew (by kernel_rfl) rfl rfl (q_run1 34 (.pointer (some ⟨gW, 0, none⟩)) (by simp only [q_same, q_ne, q_sz, q_none, q_sz0, hsz, h0, h5, ne_eq, Nat.reduceEqDiff, not_false_eq_true, Nat.reduceLT]) (fun ρ hc hf e1 => by simp [go_sem, hc, hf, e1, hS.2])) (fun _ => hS) ?_
  change wpAnyT _ _ _ _ _ _ _ _ (Act.put _ (some 35) _) _
  refine qT_one 10 (.agg #[.pointer (some ⟨gT, 0, none⟩), .slice none 0 0, .string ⟨#[]⟩, .slice none 0 0, .slice none 0 0]) W2.drew (by kernel_rfl) rfl rfl (q_run1 35 (.pointer (some ⟨gT, 0, none⟩)) (by simp only [q_same, q_ne, q_sz, q_none, q_sz0, hsz, h0, h5, ne_eq, Nat.reduceEqDiff, not_false_eq_true, Nat.reduceLT]) (fun ρ hc hf e1 => run_build1' rfl e1 (build_rec W2.drew gT))) (fun _ => hS) ?_
  change wpAnyT _ _ _ _ _ _ _ _ (Act.put _ (some 36) _) _
  obtain ⟨W3, hW3⟩ : ∃ V, V = W2.drew.alloc (.cells #[.pointer (some ⟨gT, 0, none⟩), .slice none 0 0, .string ⟨#[]⟩, .slice none 0 0, .slice none 0 0] 46) := ⟨_, rfl⟩
  have HB3 : Below W2.heap.size W2.drew W3 := by rw [hW3]; exact (Below.refl W2.heap.size W2.drew).alloc (show W2.heap.size ≤ W2.drew.heap.size from Nat.le_refl _) _
  have hz3 : W3.heap.size = W2.heap.size + 1 := by rw [hW3]; simp
  have m0 : W3.cell? ⟨W2.heap.size, 0, none⟩ = some (.pointer (some ⟨gT, 0, none⟩)) := by rw [hW3]; simp [go_sem]
  have m1 : W3.cell? ⟨W2.heap.size, 1, none⟩ = some (.slice none 0 0) := by rw [hW3]; simp [go_sem]
  have mf : W3.frozen? ⟨W2.heap.size, 1, none⟩ = false := by rw [hW3]; simp [go_sem]
  have hS3 := HSS W3 (HB3.mono (by omega))
  refine qT_one 11 (.pointer (some ⟨W2.heap.size, 0, none⟩)) W3 (by kernel_rfl) rfl rfl (q_run1 36 (.agg #[.pointer (some ⟨gT, 0, none⟩), .slice none 0 0, .string ⟨#[]⟩, .slice none 0 0, .slice none 0 0]) (by simp only [q_same, q_ne, q_sz, q_none, q_sz0, hsz, h0, h5, ne_eq, Nat.reduceEqDiff, not_false_eq_true, Nat.reduceLT]) (fun ρ hc hf e1 => by rw [hW3]; simp [go_sem, hc, hf, e1])) (fun _ => hS3) ?_
  change wpAnyT _ _ _ _ _ _ _ _ (Act.put _ (some 37) _) _
  refine qT_one 12 (.agg #[.pointer (some ⟨gx, 0, none⟩), .pointer (some ⟨W2.heap.size, 0, none⟩)]) W3 (by kernel_rfl) rfl rfl (q_run2 31 37 (.pointer (some ⟨gx, 0, none⟩)) (.pointer (some ⟨W2.heap.size, 0, none⟩)) (by simp only [q_same, q_ne, q_sz, q_none, q_sz0, hsz, h0, h5, ne_eq, Nat.reduceEqDiff, not_false_eq_true, Nat.reduceLT]) (by simp only [q_same, q_ne, q_sz, q_none, q_sz0, hsz, h0, h5, ne_eq, Nat.reduceEqDiff, not_false_eq_true, Nat.reduceLT]) (fun ρ hc hf e1 e2 => run_build2 rfl e1 e2 (build_pr W3 gx W2.heap.size))) (fun _ => hS3) ?_
  change wpAnyT _ _ _ _ _ _ _ _ (Act.put _ (some 38) _) _
  obtain ⟨W4, hW4⟩ : ∃ V, V = W3.alloc (.cells #[.pointer (some ⟨gx, 0, none⟩), .pointer (some ⟨W2.heap.size, 0, none⟩)] 48) := ⟨_, rfl⟩
  have HB4 : Below W3.heap.size W3 W4 := by rw [hW4]; exact (Below.refl _ _).alloc (Nat.le_refl _) _
  have hz4 : W4.heap.size = W3.heap.size + 1 := by rw [hW4]; simp
  have HB24 : Below W2.heap.size W2.drew W4 := HB3.trans (HB4.mono (by omega))
  have hS4 := HSS W4 (HB24.mono (by omega))
  have hnew : ∀ j u, ([Value.pointer (some ⟨gx, 0, none⟩), .pointer (some ⟨W2.heap.size, 0, none⟩)] : List Value)[j]? = some u → W4.cell? ((⟨W3.heap.size, 0, none⟩ : Addr).add j) = some u := by
    rw [hW4]; exact fun j u hu => World.news_of_block (heap_alloc_new W3 _) j u (by simpa using hu)
  refine qT_one 13 (.slice (some ⟨W3.heap.size, 0, none⟩) 1 1) W4 (by kernel_rfl) rfl rfl (q_run1 38 (.agg #[.pointer (some ⟨gx, 0, none⟩), .pointer (some ⟨W2.heap.size, 0, none⟩)]) (by simp only [q_same, q_ne, q_sz, q_none, q_sz0, hsz, h0, h5, ne_eq, Nat.reduceEqDiff, not_false_eq_true, Nat.reduceLT]) (fun ρ hc hf e1 => by rw [hW4]; exact run_bslice1' rfl e1 (bs_pr W3 gx W2.heap.size))) (fun _ => hS4) ?_
  change wpAnyT _ _ _ _ _ _ _ _ (Act.put _ (some 39) _) _
  have hown4 : W4.ownsRow (gW + 1) 48 2 rv ps.length (prC ps) := own_stay SD.rs (fun b hb => HB24.block b (SD.dom b (ne00 (SD.oR b hb) (by simp))).2)
  refine qT_step 14 (by kernel_rfl) rfl (fun K hK => ?_)
  refine step_append_lies _ rfl (.tmp 30) (.tmp 39) 30 rfl (gW + 1) 48 i0 (.agg #[.pointer none, .pointer none]) 2 16 Tryz.underlying30 hi hz0 hz1 hz2 (by kernel_rfl) (by decide) rv ps.length (prC ps) (by simp only [q_same, q_ne, q_sz, q_none, q_sz0, hsz, h0, h5, ne_eq, Nat.reduceEqDiff, not_false_eq_true, Nat.reduceLT]) hown4 ⟨W3.heap.size, 0, none⟩ 1 1 [.pointer (some ⟨gx, 0, none⟩), .pointer (some ⟨W2.heap.size, 0, none⟩)] (by simp only [q_same, q_ne, q_sz, q_none, q_sz0, hsz, h0, h5, ne_eq, Nat.reduceEqDiff, not_false_eq_true, Nat.reduceLT]) rfl hnew (by simp [Value.oneCell']) (by omega) (by unfold maxLen; omega) (by omega) (by omega) _ rfl ?_
  intro g5 c5 w5 ho5 hgr hat hlt5
  have hgrb := ownBlock_ge hown4
  have HB5 : Below (gW + 1) W4 w5 := (Below.refl (gW + 1) W4).grown hgr (by omega) hgrb
  have hS5 := HSS w5 ((HB24.mono (by omega)).trans HB5)
  have hF5 : w5.frozen? ⟨gW, 1, none⟩ = false := by rw [HB5.frozen (p := ⟨gW, 1, none⟩) (Nat.lt_succ_self _), (HB24.mono (show gW + 1 ≤ W2.heap.size by omega)).frozen (p := ⟨gW, 1, none⟩) (Nat.lt_succ_self _)]; exact SD.f1
  refine hK.out _ _ (fun _ => hS5) ?_
  change wpAnyT _ _ _ _ _ _ _ _ (Act.put _ (some 40) _) _
  refine qT_one 15 (.pointer (some ⟨gW, 0, none⟩)) w5 (by kernel_rfl) rfl rfl (q_run1 26 (.pointer (some ⟨gW, 0, none⟩)) (by simp only [q_same, q_ne, q_sz, q_none, q_sz0, hsz, h0, h5, ne_eq, Nat.reduceEqDiff, not_false_eq_true, Nat.reduceLT]) (fun ρ hc hf e1 => by simp [go_sem, hc, hf, e1])) (fun _ => hS5) ?_
  change wpAnyT _ _ _ _ _ _ _ _ (Act.put _ (some 41) _) _
  refine qT_one 16 (.pointer (some ⟨gW, 1, none⟩)) w5 (by kernel_rfl) rfl rfl (q_run1 41 (.pointer (some ⟨gW, 0, none⟩)) (by simp only [q_same, q_ne, q_sz, q_none, q_sz0, hsz, h0, h5, ne_eq, Nat.reduceEqDiff, not_false_eq_true, Nat.reduceLT]) (fun ρ hc hf e1 => by simp [go_sem, hc, hf, e1])) (fun _ => hS5) ?_
  change wpAnyT _ _ _ _ _ _ _ _ (Act.put _ (some 42) _) _
  have HM6 : Mov gW w5 (w5.setCell ⟨gW, 1, none⟩ (.slice (some ⟨g5, 0, none⟩) (ps.length + 1) c5)) := (Mov.refl gW w5).set 1 _
  refine qT_skip 17 (w5.setCell ⟨gW, 1, none⟩ (.slice (some ⟨g5, 0, none⟩) (ps.length + 1) c5)) (by kernel_rfl) rfl rfl (q_run2 42 40 (.pointer (some ⟨gW, 1, none⟩)) (.slice (some ⟨g5, 0, none⟩) (ps.length + 1) c5) (by simp only [q_same, q_ne, q_sz, q_none, q_sz0, hsz, h0, h5, ne_eq, Nat.reduceEqDiff, not_false_eq_true, Nat.reduceLT]) (by simp only [q_same, q_ne, q_sz, q_none, q_sz0, hsz, h0, h5, ne_eq, Nat.reduceEqDiff, not_false_eq_true, Nat.reduceLT]) (fun ρ hc hf e1 e2 => by simp [go_sem, hc, hf, e1, e2, hS5.1, hF5])) (fun h => absurd rfl h) ?_
  refine wpAnyT_done (by kernel_rfl) ?_ _
  have hfr := HFR.out
  have HFIN : Hid (∃ own' ps', ps'.length = ps.length + 1 ∧ Sc dg W0 (w5.setCell ⟨gW, 1, none⟩ (.slice (some ⟨g5, 0, none⟩) (ps.length + 1) c5)) gW gT own' (.slice (some ⟨g5, 0, none⟩) (ps.length + 1) c5) lv ps' ls) := by
    have hS0 := S0.out
    have hrow : ∀ b, rv.ownBlock = some b → b < W.heap.size := fun b hb => (hS0.dom b (ne00 (hS0.oR b hb) (by simp))).2
    have hrowW : ∀ b, rv.ownBlock = some b → b ≠ gW := fun b hb e => by have := hS0.oR b hb; rw [e, hS0.oW] at this; simp at this
    have hnr : ∀ k, W.heap.size ≤ k → k < W4.heap.size → w5.heap[k]? = W4.heap[k]? := fun k h1 h2 => hgr.block k h2 (fun e => by have := hrow k e.symm; omega)
    have hset : ∀ k, k ≠ gW → (w5.setCell ⟨gW, 1, none⟩ (.slice (some ⟨g5, 0, none⟩) (ps.length + 1) c5)).heap[k]? = w5.heap[k]? := fun k hk => Below.heap_setCell w5 ⟨gW, 1, none⟩ _ k hk
    have bx : (w5.setCell ⟨gW, 1, none⟩ (.slice (some ⟨g5, 0, none⟩) (ps.length + 1) c5)).heap[gx]? = W2.heap[gx]? := by
      rw [hset gx (by omega), hnr gx (by omega) (by omega)]
      exact HB24.block gx (by omega)
    have bm : (w5.setCell ⟨gW, 1, none⟩ (.slice (some ⟨g5, 0, none⟩) (ps.length + 1) c5)).heap[W2.heap.size]? = W3.heap[W2.heap.size]? := by
      rw [hset W2.heap.size (by omega), hnr W2.heap.size (by omega) (by omega)]
      exact HB4.block W2.heap.size (by omega)
    have hlow : Below (gW + 1) W2.drew w5 := (HB24.mono (by omega)).trans HB5
    have q : ∀ i, i ≠ 1 → (w5.setCell ⟨gW, 1, none⟩ (.slice (some ⟨g5, 0, none⟩) (ps.length + 1) c5)).cell? ⟨gW, i, none⟩ = W2.drew.cell? ⟨gW, i, none⟩ := fun i hi => by
      rw [World.cell?_setCell_other _ _ _ _ (by intro e; injection e with _ e _; exact hi e.symm), hlow.cell (p := ⟨gW, i, none⟩) (Nat.lt_succ_self _)]
    refine hS0.new (gx := gx) (gm := W2.heap.size) (by omega) (by omega) (by rw [World.cell?_of_block bx]; exact X0.out.1) (by rw [World.frozen?_of_block bx]; exact X0.out.2) (by rw [World.cell?_of_block bm]; exact m0) (by rw [World.cell?_of_block bm]; exact m1) (by rw [World.frozen?_of_block bm]; exact mf)
      (by rw [q 0 (by omega)]; exact SD.c0) (World.cell?_setCell_same _ _ _ hS5.1) (by rw [q 2 (by omega)]; exact SD.c2) (by rw [q 3 (by omega)]; exact SD.c3) (by simp only [World.frozen?_setCell]; exact hF5) (by simp only [World.frozen?_setCell]; rw [hlow.frozen (p := ⟨gW, 2, none⟩) (Nat.lt_succ_self _)]; exact SD.f2)
      (own_mov ho5 HM6 (Nat.lt_succ_self _)) ?_ ?_ ?_ ?_ ?_ ?_
    · rcases hat with h | h
      · exact .inr (by rw [h]; rfl)
      · exact .inl (fun b hb => by
          have hb2 : g5 = b := by injection hb
          omega)
    · have h1 := HBW.out.size
      have h2 := hlow.size
      have h3 : W2.drew.heap.size = W2.heap.size := rfl
      simp; omega
    · exact hlow.os.trans HBW.out.os
    · exact hlow.tape.trans HBW.out.tape
    · exact hlow.output.trans HBW.out.output
    · intro k hk hkW hk1
      have hkr : some k ≠ rv.ownBlock := fun e => hk1 (hS0.oR k e.symm)
      rw [hset k hkW, hgr.block k (by have := HBW.out.size; omega) hkr, HB24.block k (by have := HBW.out.size; omega)]
      exact HBW.out.block k hk
  clear HFR hsz h0 h5 hS HSS HBD SD hS3 hS4 hS5 m0 m1 mf hnew hown4 HB3 HB4 HB24 HB5 hW3 hW4 hgr ho5 hF5 HM6
  subst hfr
  simp only [Act.put, List.setIfInBounds_toArray, List.set_cons_zero, List.set_cons_succ]
  go_wp2
  go_ret
  obtain ⟨own', ps', e1, e2⟩ := HFIN.out
  exact ⟨rfl, own', _, lv, ps', ls, e2, by omega, Nat.le_succ _⟩
end Go.Proofs.YtkmalggeieiepaaGreatDoor
set_option linter.unusedSimpArgs false
set_option linter.unusedVariables false
namespace Go.Proofs.YtkmalggeieiepaaGreatDoor
open Go.RowKit

theorem own_put {w : World} {base e g n cap : Nat} {xs : List Value} (h : w.ownsRow base e 1 (.slice (some ⟨g, 0, none⟩) n cap) n xs) (i : Nat) (hi : i < n) (u : Value) : (w.setCell ⟨g, i, none⟩ u).ownsRow base e 1 (.slice (some ⟨g, 0, none⟩) n cap) n (xs.set i u) := by
  obtain ⟨h1, h2⟩ := h
  refine ⟨by rw [List.length_set]; exact h1, ?_⟩
  rcases h2 with ⟨hv, _⟩ | ⟨g', cap', cur, hv, hb, hg, hc, hm, hs, ht⟩
  · cases hv
  · injection hv with e1 e2 e3
    injection e1 with e4
    injection e4 with e5
    subst e5 e3
    refine .inr ⟨g, cap, cur.setIfInBounds i u, rfl, hb, heap_setCell_same w g i cur e u hg, hc, hm, by simpa using hs, ?_⟩
    rw [← ht, Nat.mul_one]
    apply List.ext_getElem?
    intro j
    simp only [List.getElem?_take, List.getElem?_set, Array.toList_setIfInBounds, List.length_take]
    by_cases hj : j < n
    · rw [if_pos hj, if_pos hj]
      by_cases hij : i = j
      · subst hij
        have : i < cur.toList.length := by rw [Array.length_toList, hs]; omega
        rw [if_pos rfl, if_pos rfl, if_pos this, if_pos (by omega)]
      · rw [if_neg hij, if_neg hij]
    · rw [if_neg hj, if_neg (by omega), if_neg hj]
theorem own_celx {w : World} {base e g n cap : Nat} {xs : List Value} (h : w.ownsRow base e 1 (.slice (some ⟨g, 0, none⟩) n cap) n xs) (i : Nat) (u : Value) (hu : xs[i]? = some u) : w.cell? ⟨g, i, none⟩ = some u ∧ w.frozen? ⟨g, i, none⟩ = false ∧ base ≤ g := by
  obtain ⟨h1, h2⟩ := h
  have hi : i < xs.length := (List.getElem?_eq_some_iff.1 hu).1
  rcases h2 with ⟨hv, _⟩ | ⟨g', cap', cur, hv, hb, hg, hc, hm, hs, ht⟩
  · cases hv
  · injection hv with e1 e2 e3
    injection e1 with e4
    injection e4 with e5
    subst e5 e3
    refine ⟨?_, ?_, hb⟩
    · rw [cell_of_row w g i cur _ _ hg]
      have h3 : (cur.toList.take (n * 1))[i]? = xs[i]? := by rw [ht]
      rw [List.getElem?_take, if_pos (by omega)] at h3
      rw [← Array.getElem?_toList, h3, hu]
    · unfold World.frozen?
      rw [hg]; simp
theorem own_len {w : World} {base e n : Nat} {v : Value} {xs : List Value} (h : w.ownsRow base e 1 v n xs) : ∃ a c, v = .slice a n c := by
  rcases h.2 with ⟨hv, h0⟩ | ⟨g, cap, cur, hv, _⟩
  · exact ⟨none, 0, by rw [hv, h0]⟩
  · exact ⟨_, cap, hv⟩
/-- marks put into a row. -/
def mrk (M : Value) (xs : List Value) (j : Nat) : List Value := List.replicate j M ++ xs.drop j
theorem mrk_set (M : Value) (xs : List Value) (j : Nat) (h : j < xs.length) : (mrk M xs j).set j M = mrk M xs (j + 1) := by
  unfold mrk
  rw [List.set_append_right _ _ (by simp)]
  simp only [List.length_replicate, Nat.sub_self]
  rw [List.drop_eq_getElem_cons h, List.set_cons_zero, List.replicate_succ', List.append_assoc]; rfl
theorem mrk_get (M : Value) (xs : List Value) (j : Nat) (h : j < xs.length) : (mrk M xs j)[j]? = some xs[j] := by
  unfold mrk
  rw [List.getElem?_append_right (by simp)]
  simp [h]
theorem infoSl : (Tryz.prog.info? 44).map (fun i => (i.zero, i.size, i.bytes)) = some (some (.slice none 0 0), 1, 24) := by kernel_rfl

set_option maxRecDepth 10000 in
set_option maxHeartbeats 4000000 in
theorem mine_any (dg : ByteArray → ByteArray) (W0 Ws W : World) (gW gT : Nat) (own : Nat → Nat × Nat) (rv lv : Value) (ps : List Pr) (ls : List Lt) (S : Sc dg W0 Ws gW gT own rv lv ps ls) (hb : Below Ws.heap.size Ws W) (g n cap : Nat) (xs : List Value) (hrow : W.ownsRow Ws.heap.size 9 1 (.slice (some ⟨g, 0, none⟩) n cap) n xs) (hn : n ≤ 20) (hll : ls.length ≤ 1048576) :
    Calls Tryz.prog 25 #[.pointer (some ⟨gW, 0, none⟩), .slice (some ⟨g, 0, none⟩) n cap] W fun e w' => e = .returned (.tuple #[]) ∧ ∃ own' lv' ls', ls'.length = ls.length + 1 ∧ Sc dg W0 w' gW gT own' rv lv' ps ls' := by
  obtain ⟨i0, hi, hz0, hz1, hz2⟩ := info_parts infoS
  obtain ⟨i1, hi1, hy0, hy1, hy2⟩ := info_parts infoSl
  have hxl : xs.length = n := by have := hrow.1; omega
  have hgl := (S.dom gW (ne00 S.oW (by simp))).2
  have HL : Hid (∀ V, Below Ws.heap.size Ws V → V.cell? ⟨gW, 2, none⟩ = some lv ∧ V.frozen? ⟨gW, 2, none⟩ = false ∧ V.ownsRow (gW + 1) 44 1 lv ls.length (ls.map fun x => x.v)) := fun V hV =>
    ⟨by rw [hV.cell (p := ⟨gW, 2, none⟩) hgl]; exact S.c2, by rw [hV.frozen (p := ⟨gW, 2, none⟩) hgl]; exact S.f2, own_stay S.lr (fun b hb => hV.block b (S.dom b (ne00 (S.oL b hb) (by simp))).2)⟩
  have HMK : Hid (∀ V, Calls Tryz.prog 30 #[.int .i64 (ls.length : Int)] V fun e w' => e = .returned (.string (mkB ls.length)) ∧ Below V.heap.size V w') := fun V => mark_any ls.length V hll
  have S0 : Hid (Sc dg W0 Ws gW gT own rv lv ps ls) := S
  obtain ⟨la, lc, hlv⟩ := own_len S.lr
  have c2 := (HL.out W hb).1
  have HLV : Hid (lv = .slice la ls.length lc) := hlv
  rw [hlv] at c2
  have HB : Hid (Below Ws.heap.size Ws W) := hb
  have HROW : Hid (∀ w1, Below W.heap.size W w1 → w1.ownsRow Ws.heap.size 9 1 (.slice (some ⟨g, 0, none⟩) n cap) n xs) := fun w1 h1 => own_after hrow h1
  obtain ⟨M, hM⟩ : ∃ M, M = mkB ls.length := ⟨_, rfl⟩
  have HM : Hid (M = mkB ls.length) := hM
  rw [← hM] at HMK
  clear S hb hrow hM hlv
  go_enter Tryz.func25, Tryz.ntmps25
  go_upto_region 1 with (go_at_call 30; go_must (refine (HMK.out _).mono ?_); rintro e w1 ⟨rfl, hb1⟩; have HB1 := (show Hid (Below W.heap.size W w1) from hb1); clear hb1)
  have HBS1 : Hid (Below Ws.heap.size Ws w1) := HB.out.trans (HB1.out.mono HB.out.size)
  have HR1 : Hid (w1.ownsRow Ws.heap.size 9 1 (.slice (some ⟨g, 0, none⟩) n cap) n xs) := HROW.out w1 HB1.out
  clear c2 HMK HROW HB1 HB
  go_upto_region 2 with fail
  go_loopg [15, 5] n (fun g' iv _ wx => ∃ j : Nat, j + g' = n ∧ iv = .int .i64 (j : Int) ∧ wx.ownsRow Ws.heap.size 9 1 (.slice (some ⟨g, 0, none⟩) n cap) n (mrk (.string M) xs j) ∧ Below Ws.heap.size Ws wx)
  case atStart => exact ⟨0, by omega, rfl, by simpa [mrk] using HR1.out, HBS1.out⟩
  case round =>
    clear HR1 HBS1
    obtain ⟨j, hjg, rfl, hr, hbx⟩ := hrel
    have HRX : Hid (wr.ownsRow Ws.heap.size 9 1 (.slice (some ⟨g, 0, none⟩) n cap) n (mrk (.string M) xs j)) := hr
    have HBX : Hid (Below Ws.heap.size Ws wr) := hbx
    have HJ : Hid (j + gk = n) := hjg
    by_cases hlt : j < n
    · obtain ⟨d1, d2, hge⟩ := own_celx hr j _ (mrk_get _ xs j (by omega))
      have hji : (j : Int) < (n : Int) := by omega
      have HP : Hid ((wr.setCell ⟨g, j, none⟩ (.string M)).ownsRow Ws.heap.size 9 1 (.slice (some ⟨g, 0, none⟩) n cap) n (mrk (.string M) xs (j + 1))) := by
        show World.ownsRow _ _ _ _ _ _ _
        rw [← mrk_set _ xs j (by omega)]; exact own_put hr j hlt _
      have HBN : Hid (Below Ws.heap.size Ws (wr.setCell ⟨g, j, none⟩ (.string M))) := hbx.trans (((Mov.refl g wr).set j (.string M)).below hge (by have := (own_ge1 hr g rfl).2; omega))
      generalize xs[j] = x at d1
      clear hr hbx hjg
      go_wp2
      go_roundg (gk - 1)
      case measure => have := HJ.out; omega
      case rel =>
        have := HJ.out
        exact ⟨j + 1, by omega, by go_num, HP.out, HBN.out⟩
    · obtain rfl : j = n := by omega
      have hji : ¬ ((j : Int) < (j : Int)) := by omega
      have e1 : mrk (.string M) xs j = List.replicate j (.string M) := by unfold mrk; rw [List.drop_of_length_le (by omega), List.append_nil]
      rw [e1] at hr
      have HRX : Hid (wr.ownsRow Ws.heap.size 9 1 (.slice (some ⟨g, 0, none⟩) j cap) j (List.replicate j (.string M))) := hr
      have hws := hbx.size
      clear hr hjg e1
      have HBX2 : Hid (Below Ws.heap.size Ws wr) := hbx
      have HN2 : Hid (∀ (V : World) k u, ([.string M, .string M] : List Value)[k]? = some u → (V.alloc (.cells #[.string M, .string M] 9)).cell? ((⟨V.heap.size, 0, none⟩ : Addr).add k) = some u) := fun V k u hu => World.news_of_block (heap_alloc_new V _) k u (by simpa using hu)
      have hgWs : gW + 1 ≤ Ws.heap.size := hgl
      go_upto_region 7 with (at_builtin; go_must (refine wpList_append_lies _ rfl _ _ 44 rfl Ws.heap.size 9 i0 (.string ⟨#[]⟩) 1 16 Tryz.underlying44 hi hz0 hz1 hz2 rfl (by decide) _ j (List.replicate j (.string M)) rfl (HRX.out.alloc _) ⟨wr.heap.size, 0, none⟩ 2 2 [.string M, .string M] rfl rfl (HN2.out wr) (by simp [Value.oneCell']) (by omega) (by unfold maxLen; omega) (by omega) (by simp; omega) _ rfl ?_); intro g6 c6 w6 ho6 hgr6 hat6 hlt6)
      have hge6 : Ws.heap.size ≤ g6 := (own_ge1 ho6 g6 rfl).1
      have HB6 : Below Ws.heap.size Ws w6 := (hbx.alloc hws _).grown hgr6 (by simp; omega) (ownBlock_ge HRX.out)
      have HBX6 : Hid (Below Ws.heap.size Ws w6) := HB6
      have HO6 : Hid (w6.ownsRow Ws.heap.size 9 1 (.slice (some ⟨g6, 0, none⟩) (j + 2) c6) (j + 2) (List.replicate j (.string M) ++ [.string M, .string M])) := ho6
      have d6 := (HL.out w6 HB6).1
      have f6 := (HL.out w6 HB6).2.1
      have HLR6 : Hid (w6.ownsRow (gW + 1) 44 1 lv ls.length (ls.map fun x => x.v)) := (HL.out w6 HB6).2.2
      rw [HLV.out] at d6
      have hs6 := HB6.size
      clear HRX hgr6 hat6 ho6 HN2 hbx
      obtain ⟨v6, hv6⟩ : ∃ v6, v6 = (.slice (some ⟨g6, 0, none⟩) (j + 2) c6 : Value) := ⟨_, rfl⟩
      have HV6 : Hid (v6 = .slice (some ⟨g6, 0, none⟩) (j + 2) c6) := hv6
      have HN1 : Hid (∀ (V : World) k u, ([.slice (some ⟨g6, 0, none⟩) (j + 2) c6] : List Value)[k]? = some u → (V.alloc (.cells #[.slice (some ⟨g6, 0, none⟩) (j + 2) c6] 44)).cell? ((⟨V.heap.size, 0, none⟩ : Addr).add k) = some u) := fun V k u hu => World.news_of_block (heap_alloc_new V _) k u (by simpa using hu)
      have HLRA : Hid (∀ o, (w6.alloc o).ownsRow (gW + 1) 44 1 (.slice la ls.length lc) ls.length (ls.map fun x => x.v)) := fun o => by have := HLR6.out.alloc o; rw [HLV.out] at this; exact this
      clear hv6
      go_upto_region 8 with (at_builtin; go_must (refine wpList_append_lies _ rfl _ _ 31 rfl (gW + 1) 44 i1 (.slice none 0 0) 1 24 Tryz.underlying31 hi1 hy0 hy1 hy2 rfl (by decide) _ ls.length (ls.map fun x => x.v) rfl (HLRA.out _) ⟨w6.heap.size, 0, none⟩ 1 1 [.slice (some ⟨g6, 0, none⟩) (j + 2) c6] rfl rfl (HN1.out w6) (by simp [Value.oneCell']) (by omega) (by unfold maxLen; omega) (by omega) (by simp; omega) _ rfl ?_); intro g7 c7 w7 ho7 hgr7 hat7 hlt7)
      have HB7 : Below (gW + 1) w6 w7 := ((Below.refl (gW + 1) w6).alloc (by omega) _).grown hgr7 (by simp; omega) (ownBlock_ge (HLRA.out (.cells #[] 0)))
      have d7 : w7.cell? ⟨gW, 2, none⟩ = some (.slice la ls.length lc) := by rw [HB7.cell (p := ⟨gW, 2, none⟩) (Nat.lt_succ_self _)]; exact d6
      have f7 : w7.frozen? ⟨gW, 2, none⟩ = false := by rw [HB7.frozen (p := ⟨gW, 2, none⟩) (Nat.lt_succ_self _)]; exact f6
      have HFIN : Hid (∃ own' lv' ls', ls'.length = ls.length + 1 ∧ Sc dg W0 (w7.setCell ⟨gW, 2, none⟩ (.slice (some ⟨g7, 0, none⟩) (ls.length + 1) c7)) gW gT own' rv lv' ps ls') := by
        have hS := S0.out
        have hlow : Below gW Ws w7 := (HBX6.out.mono (Nat.le_of_lt hgl)).trans (HB7.mono (Nat.le_succ _))
        have hcell : ∀ i, i ≠ 2 → (w7.setCell ⟨gW, 2, none⟩ (.slice (some ⟨g7, 0, none⟩) (ls.length + 1) c7)).cell? ⟨gW, i, none⟩ = Ws.cell? ⟨gW, i, none⟩ := fun i hi => by
          rw [World.cell?_setCell_other _ _ _ _ (by intro e; injection e with _ e _; exact hi e.symm), HB7.cell (p := ⟨gW, i, none⟩) (Nat.lt_succ_self _), HBX6.out.cell (p := ⟨gW, i, none⟩) hgl]
        have hset : ∀ k, k ≠ gW → (w7.setCell ⟨gW, 2, none⟩ (.slice (some ⟨g7, 0, none⟩) (ls.length + 1) c7)).heap[k]? = w7.heap[k]? := fun k hk => Below.heap_setCell w7 ⟨gW, 2, none⟩ _ k hk
        have hlb : ∀ b, (Value.slice la ls.length lc).ownBlock = some b → b < Ws.heap.size ∧ own b = (1, 2) := fun b hb => by
          rw [← HLV.out] at hb; exact ⟨(hS.dom b (ne00 (hS.oL b hb) (by simp))).2, hS.oL b hb⟩
        have hg6l : g6 < w6.heap.size := (own_ge1 HO6.out g6 rfl).2
        have b6 : (w7.setCell ⟨gW, 2, none⟩ (.slice (some ⟨g7, 0, none⟩) (ls.length + 1) c7)).heap[g6]? = w6.heap[g6]? := by
          rw [hset g6 (by omega), hgr7.block g6 (by simp; omega) (fun e => by have := (hlb g6 e.symm).1; omega)]
          exact ((Below.refl w6.heap.size w6).alloc (Nat.le_refl _) _).block g6 hg6l
        have hM7 : Mov gW w7 (w7.setCell ⟨gW, 2, none⟩ (.slice (some ⟨g7, 0, none⟩) (ls.length + 1) c7)) := (Mov.refl gW w7).set 2 _
        have hsv : SVal w6 (.slice (some ⟨g6, 0, none⟩) (j + 2) c6) (List.replicate (j + 2) (mkB ls.length)) := by
          refine own_sval (e := 9) (base := Ws.heap.size) ?_
          rw [List.length_replicate, ← HM.out]
          have e : strV (List.replicate (j + 2) M) = List.replicate j (.string M) ++ [.string M, .string M] := by simp [strV, List.replicate_succ']
          rw [e]; exact HO6.out
        obtain ⟨own', ls', h1, h2⟩ := hS.list (W' := w7.setCell ⟨gW, 2, none⟩ (.slice (some ⟨g7, 0, none⟩) (ls.length + 1) c7)) (lv' := .slice (some ⟨g7, 0, none⟩) (ls.length + 1) c7) (v := .slice (some ⟨g6, 0, none⟩) (j + 2) c6) (n := j + 2) (by omega) (by omega)
          (hsv.stay (fun _ b hb => by injection hb with hb; rw [← hb]; exact b6)) (fun b hb => by injection hb with hb; rw [← hb]; exact hge6)
          (by rw [hcell 0 (by omega)]; exact hS.c0) (by rw [hcell 1 (by omega)]; exact hS.c1) (World.cell?_setCell_same _ _ _ d7) (by rw [hcell 3 (by omega)]; exact hS.c3) (by simp only [World.frozen?_setCell]; rw [HB7.frozen (p := ⟨gW, 1, none⟩) (Nat.lt_succ_self _), HBX6.out.frozen (p := ⟨gW, 1, none⟩) hgl]; exact hS.f1) (by simp only [World.frozen?_setCell]; exact f7)
          (own_mov ho7 hM7 (Nat.lt_succ_self _)) (by
            rcases hat7 with h | h
            · have h' : (Value.slice la ls.length lc).ownBlock = some g7 := h
              exact .inr (by rw [HLV.out, h']; rfl)
            · refine .inl (fun b hb => ?_)
              have hb2 : g7 = b := by injection hb
              have h' : g7 = w6.heap.size + 1 := by rw [h]; simp
              exact ⟨by omega, fun e => by have : g6 = b := (by injection e); omega⟩)
          (by have := hlow.size; simp; omega) hlow.os hlow.tape hlow.output (fun k hk hkW hk2 => by
            rw [hset k hkW, hgr7.block k (by simp; omega) (fun e => hk2 (hlb k e.symm).2), ((Below.refl w6.heap.size w6).alloc (Nat.le_refl _) _).block k (by omega)]
            exact HBX6.out.block k hk)
        exact ⟨own', _, ls', h1, h2⟩
      clear d6 f6 HO6 HLR6 HN1 HLRA HB7 hgr7 hat7 ho7 HL HLV S0 HB6
      go_wp2
      go_end0
      exact ⟨rfl, HFIN.out⟩
end Go.Proofs.YtkmalggeieiepaaGreatDoor
set_option linter.unusedSimpArgs false
set_option linter.unusedVariables false
namespace Go.Proofs.YtkmalggeieiepaaGreatDoor
open Go.RowKit

theorem same_sval (l : List ByteArray) (v1 v2 : Value) (w : World) (h1 : SVal w v1 l) (h2 : SVal w v2 l) (hl : l.length ≤ 1048576) :
    Calls Tryz.prog 23 #[v1, v2] w fun e w' => e = .returned (.bool true) ∧ ∃ q, w' = w.drewN q := by
  obtain ⟨a1, c1, rfl, _, r1⟩ := h1
  obtain ⟨a2, c2, rfl, _, r2⟩ := h2
  by_cases h0 : 0 < l.length
  · obtain ⟨b, o, e1, s1⟩ := r1 h0
    obtain ⟨b2, o2, e2, s2⟩ := r2 h0
    exact same_any l b o c1 b2 o2 c2 a1 a2 w (fun _ => ⟨e1, s1⟩) (fun _ => ⟨e2, s2⟩) hl
  · exact same_any l 0 0 c1 0 0 c2 a1 a2 w (fun h => absurd h h0) (fun h => absurd h h0) hl

set_option maxRecDepth 10000 in
set_option maxHeartbeats 8000000 in
theorem step_ids (Kc : Nat → Int) (W0 W : World) (gW gT : Nat) (own : Nat → Nat × Nat) (rv lv : Value) (ps : List Pr) (ls : List Lt) (S : Sc (dd Kc) W0 W gW gT own rv lv ps ls) (hT : Tw (dd Kc) gT gW W0) (A0 : Int) (s : ByteArray) (hA1 : -9223372036854775808 ≤ A0) (hA2 : A0 ≤ 9223372036854775807) (hpl : ps.length ≤ 1048576) (hll : ls.length ≤ 1048576) :
    Calls Tryz.prog 12 #[.pointer (some ⟨gW, 0, none⟩), .agg #[.int .i64 4, .int .i64 A0, .string s]] W fun e w' => e = .returned (.bool true) ∧ ∃ own' rv' lv' ps' ls', Sc (dd Kc) W0 w' gW gT own' rv' lv' ps' ls' ∧ ps'.length ≤ ps.length + 1 ∧ ls'.length ≤ ls.length + 1 := by
  have S0 : Hid (Sc (dd Kc) W0 W gW gT own rv lv ps ls) := S
  obtain ⟨W1, hW1⟩ : ∃ V, V = W.alloc (.cells #[.int .i64 4, .int .i64 A0, .string s] 26) := ⟨_, rfl⟩
  have hB1 : Below W.heap.size W W1 := by rw [hW1]; exact (Below.refl _ _).alloc (Nat.le_refl _) _
  have hz1 : W1.heap.size = W.heap.size + 1 := by rw [hW1]; simp
  have o0 : W1.cell? ⟨W.heap.size, 0, none⟩ = some (.int .i64 4) := by rw [hW1]; simp [go_sem]
  have o1 : W1.cell? ⟨W.heap.size, 1, none⟩ = some (.int .i64 A0) := by rw [hW1]; simp [go_sem]
  have o2 : W1.cell? ⟨W.heap.size, 2, none⟩ = some (.string s) := by rw [hW1]; simp [go_sem]
  have S1 := S.keep hB1
  have HO : Hid (∀ V, Below W1.heap.size W1 V → V.cell? ⟨W.heap.size, 0, none⟩ = some (.int .i64 4) ∧ V.cell? ⟨W.heap.size, 1, none⟩ = some (.int .i64 A0) ∧ V.cell? ⟨W.heap.size, 2, none⟩ = some (.string s)) := fun V hV =>
    ⟨by rw [hV.cell (p := ⟨W.heap.size, 0, none⟩) (by show W.heap.size < _; omega)]; exact o0, by rw [hV.cell (p := ⟨W.heap.size, 1, none⟩) (by show W.heap.size < _; omega)]; exact o1, by rw [hV.cell (p := ⟨W.heap.size, 2, none⟩) (by show W.heap.size < _; omega)]; exact o2⟩
  have HOWN0 : Hid (own W.heap.size = (0, 0)) := by
    show _ = _
    refine Classical.byContradiction fun h => ?_
    have := (S.dom _ h).2; omega
  have hgW : gW < W1.heap.size := (S1.dom gW (ne00 S1.oW (by simp))).2
  obtain ⟨va, cap, hrv, hrow⟩ := own_r2 S1.rs
  subst hrv
  have hc1 := S1.c1
  by_cases hn : ps.length = 0
  · rw [hn] at hc1
    have HS1 : Hid (Sc (dd Kc) W0 W1 gW gT own (.slice va ps.length cap) lv ps ls) := S1
    clear hrow S1 S o1 o2
    go_enter Tryz.func12, Tryz.ntmps12
    go_upto_region 1 with fail
    rw [← hW1]
    clear hW1
    go_wp2
    go_ret
    exact ⟨rfl, own, _, lv, ps, ls, HS1.out, Nat.le_succ _, Nat.le_succ _⟩
  obtain ⟨b, rfl, hcs⟩ := hrow (by omega)
  obtain ⟨k, hk⟩ : ∃ k, k = pkL A0 ps.length := ⟨_, rfl⟩
  have hkl : k < ps.length := by rw [hk]; exact pkL_lt _ _ (by omega)
  obtain ⟨r, hr⟩ : ∃ r, ps[k]? = some r := ⟨_, List.getElem?_eq_getElem hkl⟩
  obtain ⟨g0, g1⟩ := prC_get ps k r hr
  have HPK : Hid (∀ V, Calls Tryz.prog 17 #[.int .i64 A0, .int .i64 (ps.length : Int)] V fun e w' => e = .returned (.int .i64 (k : Int)) ∧ V = w') := fun V => by rw [hk]; exact pickL_any A0 ps.length V hA1 hA2 (by omega) hpl
  have hbl : b < W1.heap.size := World.block_lt_of_cell? W1 _ (hcs _ _ g0)
  have HS0 : Hid (∀ V, Below W1.heap.size W1 V → V.cell? ⟨gW, 1, none⟩ = some (.slice (some ⟨b, 0, none⟩) ps.length cap) ∧ V.cell? ⟨W.heap.size, 1, none⟩ = some (.int .i64 A0) ∧ V.rangeAt b (2 * k) [.pointer (some ⟨r.gx, 0, none⟩), .pointer (some ⟨r.gm, 0, none⟩)]) := fun V hV =>
    ⟨by rw [hV.cell (p := ⟨gW, 1, none⟩) hgW]; exact hc1, (HO.out V hV).2.1, fun j x hx => by
      rw [hV.cell (p := ⟨b, 2 * k + j, none⟩) hbl]
      match j, hx with
      | 0, hx => simp at hx; subst hx; exact hcs _ _ g0
      | 1, hx => simp at hx; subst hx; exact hcs _ _ g1
      | j + 2, hx => simp at hx⟩
  have hln : ∀ (V : World) (ty : TypeId), (Builtin.len_ #[30] ty #[.slice (some ⟨b, 0, none⟩) ps.length cap]).run Tryz.prog V = .ok (.int .i64 (ps.length : Int)) V := fun V ty => by simp [Builtin.len_, run_underlying Tryz.underlying30, goInt]
  have hni : ¬ ((ps.length : Int) = 0) := by omega
  have hnb : ((ps.length : Int) == 0) = false := by rw [beq_eq_false_iff_ne]; exact hni
  have hix : (k : Int) < (ps.length : Int) := by omega
  have HS1 : Hid (Sc (dd Kc) W0 W1 gW gT own (.slice (some ⟨b, 0, none⟩) ps.length cap) lv ps ls) := S1
  have HR : Hid (ps[k]? = some r) := hr
  have HKL : Hid (k < ps.length) := hkl
  have HFIN : Hid (∃ g6 : Nat, (.pointer (some ⟨W1.heap.size, 0, none⟩) : Value) = .pointer (some ⟨g6, 0, none⟩) ∧ ((W1.drew.alloc (.cells #[.pointer none, .pointer none] 48)).setCells W1.heap.size 0 [.pointer (some ⟨r.gx, 0, none⟩), .pointer (some ⟨r.gm, 0, none⟩)]).cell? ⟨g6, 0, none⟩ = some (.pointer (some ⟨r.gx, 0, none⟩)) ∧ ((W1.drew.alloc (.cells #[.pointer none, .pointer none] 48)).setCells W1.heap.size 0 [.pointer (some ⟨r.gx, 0, none⟩), .pointer (some ⟨r.gm, 0, none⟩)]).cell? ⟨g6, 1, none⟩ = some (.pointer (some ⟨r.gm, 0, none⟩)) ∧ W1.heap.size ≤ g6 ∧ Below W1.heap.size W1 ((W1.drew.alloc (.cells #[.pointer none, .pointer none] 48)).setCells W1.heap.size 0 [.pointer (some ⟨r.gx, 0, none⟩), .pointer (some ⟨r.gm, 0, none⟩)])) := by
    refine ⟨W1.heap.size, rfl, ?_, ?_, Nat.le_refl _, below_setCells ((⟨rfl, rfl, rfl, Nat.le_refl _, fun _ _ => rfl⟩ : Below W1.heap.size W1 W1.drew).alloc (Nat.le_refl _) _) _ (Nat.le_refl _) _ _⟩
    · have := World.rangeAt_setCells_same (W1.drew.alloc (.cells #[.pointer none, .pointer none] 48)) W1.heap.size 0 [.pointer (some ⟨r.gx, 0, none⟩), .pointer (some ⟨r.gm, 0, none⟩)] (th_new W1.drew _ [.pointer none, .pointer none])
      exact this 0 _ rfl
    · have := World.rangeAt_setCells_same (W1.drew.alloc (.cells #[.pointer none, .pointer none] 48)) W1.heap.size 0 [.pointer (some ⟨r.gx, 0, none⟩), .pointer (some ⟨r.gm, 0, none⟩)] (th_new W1.drew _ [.pointer none, .pointer none])
      exact this 1 _ rfl
  clear hcs g0 g1 hr hkl hk S1 hrow S o1 o2
  go_enter Tryz.func12, Tryz.ntmps12
  go_upto_region 1 with fail
  rw [← hW1]
  clear hW1
  go_upto_region 10 with fail
  clear o0 hc1
  go_cut [6] (fun pv wx => ∃ g6 : Nat, pv = .pointer (some ⟨g6, 0, none⟩) ∧ wx.cell? ⟨g6, 0, none⟩ = some (.pointer (some ⟨r.gx, 0, none⟩)) ∧ wx.cell? ⟨g6, 1, none⟩ = some (.pointer (some ⟨r.gm, 0, none⟩)) ∧ W1.heap.size ≤ g6 ∧ Below W1.heap.size W1 wx)
  case first =>
    refine q_frame (fun A HFR => ?_)
    have hsz : A.tmps.size = 163 := by rw [HFR.out]; rfl
    have h0 : A.eval (.tmp 0) = .pointer (some ⟨gW, 0, none⟩) := by rw [HFR.out]; rfl
    have h3 : A.eval (.tmp 3) = .pointer (some ⟨W.heap.size, 0, none⟩) := by rw [HFR.out]; rfl
    have HBD : Below W1.heap.size W1 W1.drew := ⟨rfl, rfl, rfl, Nat.le_refl _, fun _ _ => rfl⟩
    have HSS : ∀ V, Below W1.heap.size W1 V → V.cell? ⟨gW, 1, none⟩ = some (.slice (some ⟨b, 0, none⟩) ps.length cap) ∧ V.cell? ⟨W.heap.size, 1, none⟩ = some (.int .i64 A0) ∧ V.rangeAt b (2 * k) [.pointer (some ⟨r.gx, 0, none⟩), .pointer (some ⟨r.gm, 0, none⟩)] := HS0.out
    refine wp_region_held_drew (S := fun V => V.cell? ⟨gW, 1, none⟩ = some (.slice (some ⟨b, 0, none⟩) ps.length cap) ∧ V.cell? ⟨W.heap.size, 1, none⟩ = some (.int .i64 A0) ∧ V.rangeAt b (2 * k) [.pointer (some ⟨r.gx, 0, none⟩), .pointer (some ⟨r.gm, 0, none⟩)]) (by kernel_rfl) (HSS _ HBD) (fun hS => ?_)
    refine wpAnyH_take (i := 0) (v := (.pointer (some ⟨gW, 0, none⟩))) rfl (by kernel_rfl) (by kernel_rfl) (by kernel_rfl) (fun _ _ _ h => h) (Or.inl ⟨by rfl, fun V hW => q_run1 0 (.pointer (some ⟨gW, 0, none⟩)) (by simp only [q_same, q_ne, q_sz, q_none, q_sz0, hsz, h0, h3, ne_eq, Nat.reduceEqDiff, not_false_eq_true, Nat.reduceLT]) (fun ρ hc hf e1 => by simp [go_sem, hc, hf, e1])⟩) hS ?_
    change wpAnyH _ _ _ _ _ _ _ (Act.put _ (some 49) _) _
    refine wpAnyH_take (i := 1) (v := (.pointer (some ⟨gW, 0, none⟩))) rfl (by kernel_rfl) (by kernel_rfl) (by kernel_rfl) (fun _ _ _ h => h) (Or.inl ⟨by rfl, fun V hW => q_run1 49 (.pointer (some ⟨gW, 0, none⟩)) (by simp only [q_same, q_ne, q_sz, q_none, q_sz0, hsz, h0, h3, ne_eq, Nat.reduceEqDiff, not_false_eq_true, Nat.reduceLT]) (fun ρ hc hf e1 => by simp [go_sem, hc, hf, e1])⟩) hS ?_
    change wpAnyH _ _ _ _ _ _ _ (Act.put _ (some 50) _) _
    refine wpAnyH_take (i := 2) (v := (.pointer (some ⟨gW, 1, none⟩))) rfl (by kernel_rfl) (by kernel_rfl) (by kernel_rfl) (fun _ _ _ h => h) (Or.inl ⟨by rfl, fun V hW => q_run1 50 (.pointer (some ⟨gW, 0, none⟩)) (by simp only [q_same, q_ne, q_sz, q_none, q_sz0, hsz, h0, h3, ne_eq, Nat.reduceEqDiff, not_false_eq_true, Nat.reduceLT]) (fun ρ hc hf e1 => by simp [go_sem, hc, hf, e1])⟩) hS ?_
    change wpAnyH _ _ _ _ _ _ _ (Act.put _ (some 51) _) _
    refine wpAnyH_take (i := 3) (v := (.slice (some ⟨b, 0, none⟩) ps.length cap)) rfl (by kernel_rfl) (by kernel_rfl) (by kernel_rfl) (fun _ _ _ h => h) (Or.inl ⟨by rfl, fun V hW => q_run1 51 (.pointer (some ⟨gW, 1, none⟩)) (by simp only [q_same, q_ne, q_sz, q_none, q_sz0, hsz, h0, h3, ne_eq, Nat.reduceEqDiff, not_false_eq_true, Nat.reduceLT]) (fun ρ hc hf e1 => by simp [go_sem, hc, hf, e1, hW.1])⟩) hS ?_
    change wpAnyH _ _ _ _ _ _ _ (Act.put _ (some 52) _) _
    refine wpAnyH_take (i := 4) (v := (.pointer (some ⟨W.heap.size, 1, none⟩))) rfl (by kernel_rfl) (by kernel_rfl) (by kernel_rfl) (fun _ _ _ h => h) (Or.inl ⟨by rfl, fun V hW => q_run1 3 (.pointer (some ⟨W.heap.size, 0, none⟩)) (by simp only [q_same, q_ne, q_sz, q_none, q_sz0, hsz, h0, h3, ne_eq, Nat.reduceEqDiff, not_false_eq_true, Nat.reduceLT]) (fun ρ hc hf e1 => by simp [go_sem, hc, hf, e1])⟩) hS ?_
    change wpAnyH _ _ _ _ _ _ _ (Act.put _ (some 53) _) _
    refine wpAnyH_take (i := 5) (v := (.int .i64 A0)) rfl (by kernel_rfl) (by kernel_rfl) (by kernel_rfl) (fun _ _ _ h => h) (Or.inl ⟨by rfl, fun V hW => q_run1 53 (.pointer (some ⟨W.heap.size, 1, none⟩)) (by simp only [q_same, q_ne, q_sz, q_none, q_sz0, hsz, h0, h3, ne_eq, Nat.reduceEqDiff, not_false_eq_true, Nat.reduceLT]) (fun ρ hc hf e1 => by simp [go_sem, hc, hf, e1, hW.2.1])⟩) hS ?_
    change wpAnyH _ _ _ _ _ _ _ (Act.put _ (some 54) _) _
    refine wpAnyH_take (i := 6) (v := (.pointer (some ⟨gW, 0, none⟩))) rfl (by kernel_rfl) (by kernel_rfl) (by kernel_rfl) (fun _ _ _ h => h) (Or.inl ⟨by rfl, fun V hW => q_run1 0 (.pointer (some ⟨gW, 0, none⟩)) (by simp only [q_same, q_ne, q_sz, q_none, q_sz0, hsz, h0, h3, ne_eq, Nat.reduceEqDiff, not_false_eq_true, Nat.reduceLT]) (fun ρ hc hf e1 => by simp [go_sem, hc, hf, e1])⟩) hS ?_
    change wpAnyH _ _ _ _ _ _ _ (Act.put _ (some 55) _) _
    refine wpAnyH_take (i := 7) (v := (.pointer (some ⟨gW, 0, none⟩))) rfl (by kernel_rfl) (by kernel_rfl) (by kernel_rfl) (fun _ _ _ h => h) (Or.inl ⟨by rfl, fun V hW => q_run1 55 (.pointer (some ⟨gW, 0, none⟩)) (by simp only [q_same, q_ne, q_sz, q_none, q_sz0, hsz, h0, h3, ne_eq, Nat.reduceEqDiff, not_false_eq_true, Nat.reduceLT]) (fun ρ hc hf e1 => by simp [go_sem, hc, hf, e1])⟩) hS ?_
    change wpAnyH _ _ _ _ _ _ _ (Act.put _ (some 56) _) _
    refine wpAnyH_take (i := 8) (v := (.pointer (some ⟨gW, 1, none⟩))) rfl (by kernel_rfl) (by kernel_rfl) (by kernel_rfl) (fun _ _ _ h => h) (Or.inl ⟨by rfl, fun V hW => q_run1 56 (.pointer (some ⟨gW, 0, none⟩)) (by simp only [q_same, q_ne, q_sz, q_none, q_sz0, hsz, h0, h3, ne_eq, Nat.reduceEqDiff, not_false_eq_true, Nat.reduceLT]) (fun ρ hc hf e1 => by simp [go_sem, hc, hf, e1])⟩) hS ?_
    change wpAnyH _ _ _ _ _ _ _ (Act.put _ (some 57) _) _
    refine wpAnyH_take (i := 9) (v := (.slice (some ⟨b, 0, none⟩) ps.length cap)) rfl (by kernel_rfl) (by kernel_rfl) (by kernel_rfl) (fun _ _ _ h => h) (Or.inl ⟨by rfl, fun V hW => q_run1 57 (.pointer (some ⟨gW, 1, none⟩)) (by simp only [q_same, q_ne, q_sz, q_none, q_sz0, hsz, h0, h3, ne_eq, Nat.reduceEqDiff, not_false_eq_true, Nat.reduceLT]) (fun ρ hc hf e1 => by simp [go_sem, hc, hf, e1, hW.1])⟩) hS ?_
    change wpAnyH _ _ _ _ _ _ _ (Act.put _ (some 58) _) _
    refine wpAnyH_take (i := 10) (v := (.int .i64 (ps.length : Int))) rfl (by kernel_rfl) (by kernel_rfl) (by kernel_rfl) (fun _ _ _ h => h) (Or.inl ⟨by rfl, fun V hW => q_run1 58 (.slice (some ⟨b, 0, none⟩) ps.length cap) (by simp only [q_same, q_ne, q_sz, q_none, q_sz0, hsz, h0, h3, ne_eq, Nat.reduceEqDiff, not_false_eq_true, Nat.reduceLT]) (fun ρ hc hf e1 => by simp [go_sem, hc, hf, e1, hln])⟩) hS ?_
    change wpAnyH _ _ _ _ _ _ _ (Act.put _ (some 59) _) _
    have HBA : Below W1.heap.size W1 (W1.drew.alloc (.cells #[.pointer none, .pointer none] 48)) := HBD.alloc (Nat.le_refl _) _
    have HBS : Below W1.heap.size W1 ((W1.drew.alloc (.cells #[.pointer none, .pointer none] 48)).setCells W1.heap.size 0 [.pointer (some ⟨r.gx, 0, none⟩), .pointer (some ⟨r.gm, 0, none⟩)]) := below_setCells HBA _ (Nat.le_refl _) _ _
    refine qH_two 11 14 (by kernel_rfl) (by decide) ?_ ?_
    · refine qO_call 17 #[.int .i64 A0, .int .i64 (ps.length : Int)] _ rfl rfl (q_run2 54 59 (.int .i64 A0) (.int .i64 (ps.length : Int)) (by simp only [q_same, q_ne, q_sz, q_none, q_sz0, hsz, h0, h3, ne_eq, Nat.reduceEqDiff, not_false_eq_true, Nat.reduceLT]) (by simp only [q_same, q_ne, q_sz, q_none, q_sz0, hsz, h0, h3, ne_eq, Nat.reduceEqDiff, not_false_eq_true, Nat.reduceLT]) (fun ρ hc hf e1 e2 => by simp [go_sem, hc, hf, e1, e2])) (calls_val (HPK.out _)) ?_
      rintro _ _ ⟨rfl, rfl⟩
      refine ⟨HSS _ HBD, ?_⟩
      change wpAnyH _ _ _ _ _ _ _ (Act.put _ (some 60) _) _
      refine wpAnyH_take (i := 12) (v := (.pointer (some ⟨b, 2 * k, none⟩))) rfl (by kernel_rfl) (by kernel_rfl) (by kernel_rfl) (fun _ _ _ h => h) (Or.inl ⟨by rfl, fun V hW => q_run2 52 60 (.slice (some ⟨b, 0, none⟩) ps.length cap) (.int .i64 (k : Int)) (by simp only [q_same, q_ne, q_sz, q_none, q_sz0, hsz, h0, h3, ne_eq, Nat.reduceEqDiff, not_false_eq_true, Nat.reduceLT]) (by simp only [q_same, q_ne, q_sz, q_none, q_sz0, hsz, h0, h3, ne_eq, Nat.reduceEqDiff, not_false_eq_true, Nat.reduceLT]) (fun ρ hc hf e1 e2 => by simp [go_sem, hc, hf, e1, e2, hix])⟩) hS ?_
      change wpAnyH _ _ _ _ _ _ _ (Act.put _ (some 61) _) _
      refine wpAnyH_take (i := 13) (v := (.agg #[.pointer (some ⟨r.gx, 0, none⟩), .pointer (some ⟨r.gm, 0, none⟩)])) rfl (by kernel_rfl) (by kernel_rfl) (by kernel_rfl) (fun _ _ _ h => h) (yieldsIf_load_mid (by rfl) 48 _ rfl b (2 * k) (by simp only [q_same, q_ne, q_sz, q_none, q_sz0, hsz, h0, h3, ne_eq, Nat.reduceEqDiff, not_false_eq_true, Nat.reduceLT]) [.pointer (some ⟨r.gx, 0, none⟩), .pointer (some ⟨r.gm, 0, none⟩)] _ (fun V hV => hV.2.2) Tryz.underlying48 rfl (by kernel_rfl)) hS ?_
      change wpAnyH _ _ _ _ _ _ _ (Act.put _ (some 62) _) _
      refine qH_one 14 (.pointer (some ⟨W1.heap.size, 0, none⟩)) (W1.drew.alloc (.cells #[.pointer none, .pointer none] 48)) (by kernel_rfl) rfl rfl (by show (Instr.alloc 48 true (.tuple #[]) >>= fun x => pure (.value x) : Sem Next).run Tryz.prog W1.drew = _; rw [Sem.run_bind, alloc_pair W1.drew]; rfl) (HSS _ HBA) ?_
      change wpAnyH _ _ _ _ _ _ _ (Act.put _ (some 6) _) _
      refine qH_skip 15 ((W1.drew.alloc (.cells #[.pointer none, .pointer none] 48)).setCells W1.heap.size 0 [.pointer (some ⟨r.gx, 0, none⟩), .pointer (some ⟨r.gm, 0, none⟩)]) (by kernel_rfl) rfl rfl (q_run2 6 62 (.pointer (some ⟨W1.heap.size, 0, none⟩)) (.agg #[.pointer (some ⟨r.gx, 0, none⟩), .pointer (some ⟨r.gm, 0, none⟩)]) (by simp only [q_same, q_ne, q_sz, q_none, q_sz0, hsz, h0, h3, ne_eq, Nat.reduceEqDiff, not_false_eq_true, Nat.reduceLT]) (by simp only [q_same, q_ne, q_sz, q_none, q_sz0, hsz, h0, h3, ne_eq, Nat.reduceEqDiff, not_false_eq_true, Nat.reduceLT]) (fun ρ hc hf e1 e2 => by
        have hst := store_pair W1.drew r.gx r.gm
        show (Instr.storeAt 48 (ρ (.tmp 6)) (ρ (.tmp 62)) >>= fun _ => pure .skip : Sem Next).run Tryz.prog _ = _
        rw [e1, e2, Sem.run_bind]
        rw [show W1.drew.heap.size = W1.heap.size from rfl] at hst
        rw [hst]; rfl)) (HSS _ HBS) ?_
      change wpAnyH _ _ _ _ _ _ _ (Act.put _ none _) _
      refine wpAnyH_done (by kernel_rfl) ?_ _
      have hfr := HFR.out
      clear HFR hsz h0 h3 hS
      subst hfr
      simp only [Act.put, List.setIfInBounds_toArray, List.set_cons_zero, List.set_cons_succ]
      go_wp2_with fail
      go_meet
      exact HFIN.out
    · refine qO_one (.pointer (some ⟨W1.heap.size, 0, none⟩)) (W1.drew.alloc (.cells #[.pointer none, .pointer none] 48)) rfl rfl (by show (Instr.alloc 48 true (.tuple #[]) >>= fun x => pure (.value x) : Sem Next).run Tryz.prog W1.drew = _; rw [Sem.run_bind, alloc_pair W1.drew]; rfl) (HSS _ HBA) ?_
      change wpAnyH _ _ _ _ _ _ _ (Act.put _ (some 6) _) _
      refine qH_call 11 17 #[.int .i64 A0, .int .i64 (ps.length : Int)] _ (by kernel_rfl) rfl rfl (q_run2 54 59 (.int .i64 A0) (.int .i64 (ps.length : Int)) (by simp only [q_same, q_ne, q_sz, q_none, q_sz0, hsz, h0, h3, ne_eq, Nat.reduceEqDiff, not_false_eq_true, Nat.reduceLT]) (by simp only [q_same, q_ne, q_sz, q_none, q_sz0, hsz, h0, h3, ne_eq, Nat.reduceEqDiff, not_false_eq_true, Nat.reduceLT]) (fun ρ hc hf e1 e2 => by simp [go_sem, hc, hf, e1, e2])) (calls_val (HPK.out _)) ?_
      rintro _ _ ⟨rfl, rfl⟩
      refine ⟨HSS _ HBA, ?_⟩
      change wpAnyH _ _ _ _ _ _ _ (Act.put _ (some 60) _) _
      refine wpAnyH_take (i := 12) (v := (.pointer (some ⟨b, 2 * k, none⟩))) rfl (by kernel_rfl) (by kernel_rfl) (by kernel_rfl) (fun _ _ _ h => h) (Or.inl ⟨by rfl, fun V hW => q_run2 52 60 (.slice (some ⟨b, 0, none⟩) ps.length cap) (.int .i64 (k : Int)) (by simp only [q_same, q_ne, q_sz, q_none, q_sz0, hsz, h0, h3, ne_eq, Nat.reduceEqDiff, not_false_eq_true, Nat.reduceLT]) (by simp only [q_same, q_ne, q_sz, q_none, q_sz0, hsz, h0, h3, ne_eq, Nat.reduceEqDiff, not_false_eq_true, Nat.reduceLT]) (fun ρ hc hf e1 e2 => by simp [go_sem, hc, hf, e1, e2, hix])⟩) (HSS _ HBA) ?_
      change wpAnyH _ _ _ _ _ _ _ (Act.put _ (some 61) _) _
      refine wpAnyH_take (i := 13) (v := (.agg #[.pointer (some ⟨r.gx, 0, none⟩), .pointer (some ⟨r.gm, 0, none⟩)])) rfl (by kernel_rfl) (by kernel_rfl) (by kernel_rfl) (fun _ _ _ h => h) (yieldsIf_load_mid (by rfl) 48 _ rfl b (2 * k) (by simp only [q_same, q_ne, q_sz, q_none, q_sz0, hsz, h0, h3, ne_eq, Nat.reduceEqDiff, not_false_eq_true, Nat.reduceLT]) [.pointer (some ⟨r.gx, 0, none⟩), .pointer (some ⟨r.gm, 0, none⟩)] _ (fun V hV => hV.2.2) Tryz.underlying48 rfl (by kernel_rfl)) (HSS _ HBA) ?_
      change wpAnyH _ _ _ _ _ _ _ (Act.put _ (some 62) _) _
      refine qH_skip 15 ((W1.drew.alloc (.cells #[.pointer none, .pointer none] 48)).setCells W1.heap.size 0 [.pointer (some ⟨r.gx, 0, none⟩), .pointer (some ⟨r.gm, 0, none⟩)]) (by kernel_rfl) rfl rfl (q_run2 6 62 (.pointer (some ⟨W1.heap.size, 0, none⟩)) (.agg #[.pointer (some ⟨r.gx, 0, none⟩), .pointer (some ⟨r.gm, 0, none⟩)]) (by simp only [q_same, q_ne, q_sz, q_none, q_sz0, hsz, h0, h3, ne_eq, Nat.reduceEqDiff, not_false_eq_true, Nat.reduceLT]) (by simp only [q_same, q_ne, q_sz, q_none, q_sz0, hsz, h0, h3, ne_eq, Nat.reduceEqDiff, not_false_eq_true, Nat.reduceLT]) (fun ρ hc hf e1 e2 => by
        have hst := store_pair W1.drew r.gx r.gm
        show (Instr.storeAt 48 (ρ (.tmp 6)) (ρ (.tmp 62)) >>= fun _ => pure .skip : Sem Next).run Tryz.prog _ = _
        rw [e1, e2, Sem.run_bind]
        rw [show W1.drew.heap.size = W1.heap.size from rfl] at hst
        rw [hst]; rfl)) (HSS _ HBS) ?_
      change wpAnyH _ _ _ _ _ _ _ (Act.put _ none _) _
      refine wpAnyH_done (by kernel_rfl) ?_ _
      have hfr := HFR.out
      clear HFR hsz h0 h3 hS
      subst hfr
      simp only [Act.put, List.setIfInBounds_toArray, List.set_cons_zero, List.set_cons_succ]
      go_wp2_with fail
      go_meet
      exact HFIN.out
  case rest =>
    obtain ⟨g6, rfl, p0, p1, hg6, hbx⟩ := hcut
    have HBX : Hid (Below W1.heap.size W1 wc) := hbx
    have HG6 : Hid (W1.heap.size ≤ g6) := hg6
    have SB : Hid (Sc (dd Kc) W0 wc gW gT own (.slice (some ⟨b, 0, none⟩) ps.length cap) lv ps ls) := HS1.out.keep hbx
    have HP : Hid (∀ V : World, V.heap[g6]? = wc.heap[g6]? → V.cell? ⟨g6, 0, none⟩ = some (.pointer (some ⟨r.gx, 0, none⟩)) ∧ V.cell? ⟨g6, 1, none⟩ = some (.pointer (some ⟨r.gm, 0, none⟩))) := fun V hV => ⟨by rw [World.cell?_of_block hV]; exact p0, by rw [World.cell?_of_block hV]; exact p1⟩
    have q0 := (HO.out wc hbx).1
    clear HS0 HFIN HS1 hbx hg6 HPK hln hix
    have HC1 : Hid (Calls Tryz.prog 22 #[.pointer (some ⟨r.gx, 0, none⟩)] wc fun e w' => ∃ g cap : Nat, e = .returned (.slice (some ⟨g, 0, none⟩) r.p.length cap) ∧ w'.ownsRow wc.heap.size 9 1 (.slice (some ⟨g, 0, none⟩) r.p.length cap) r.p.length (strV (r.p.map (dd Kc))) ∧ Below wc.heap.size wc w') := pair_ids1 SB.out HR.out
    have HC2 : Hid (∀ V, Below wc.heap.size wc V → Calls Tryz.prog 24 #[.pointer (some ⟨r.gm, 0, none⟩)] V fun x w' => ∃ u, x = .returned u ∧ w'.ownsRow V.heap.size 9 1 u r.p.length (strV (r.p.map (dd Kc))) ∧ Below V.heap.size V w') := fun V hV => pair_ids2 (SB.out.keep hV) HR.out hT
    have HLEN : Hid (r.p.length ≤ 20) := (SB.out.pr k r HR.out).1.len
    have hg6l : g6 < wc.heap.size := World.block_lt_of_cell? wc _ p0
    go_upto_region 18 with (go_at_call 22; go_must (refine HC1.out.mono ?_); rintro e w7 ⟨g7, c7, rfl, ho7, hb7⟩; have HO7 := (show Hid (w7.ownsRow wc.heap.size 9 1 (.slice (some ⟨g7, 0, none⟩) r.p.length c7) r.p.length (strV (r.p.map (dd Kc)))) from ho7); have HB7 := (show Hid (Below wc.heap.size wc w7) from hb7); clear ho7 hb7)
    have p17 : w7.cell? ⟨g6, 1, none⟩ = some (.pointer (some ⟨r.gm, 0, none⟩)) := by rw [HB7.out.cell (p := ⟨g6, 1, none⟩) hg6l]; exact p1
    have HSM : Hid (∀ V u, V.ownsRow w7.heap.size 9 1 u r.p.length (strV (r.p.map (dd Kc))) → Below w7.heap.size w7 V → Calls Tryz.prog 23 #[.slice (some ⟨g7, 0, none⟩) r.p.length c7, u] V fun e w' => e = .returned (.bool true) ∧ ∃ q, w' = V.drewN q) := fun V u hu hV =>
      same_sval (r.p.map (dd Kc)) _ u V (own_sval (e := 9) (base := wc.heap.size) (by rw [List.length_map]; exact own_after HO7.out hV)) (own_sval (e := 9) (base := w7.heap.size) (by rw [List.length_map]; exact hu)) (by rw [List.length_map]; have := HLEN.out; omega)
    have HMI : Hid (∀ V, Below w7.heap.size w7 V → Calls Tryz.prog 25 #[.pointer (some ⟨gW, 0, none⟩), .slice (some ⟨g7, 0, none⟩) r.p.length c7] V fun e w' => e = .returned (.tuple #[]) ∧ ∃ own' lv' ls', ls'.length = ls.length + 1 ∧ Sc (dd Kc) W0 w' gW gT own' (.slice (some ⟨b, 0, none⟩) ps.length cap) lv' ps ls') := fun V hV =>
      mine_any (dd Kc) W0 wc V gW gT own _ lv ps ls SB.out (HB7.out.trans (hV.mono HB7.out.size)) g7 r.p.length c7 _ (own_after HO7.out hV) HLEN.out hll
    generalize r.p.length = n7 at HMI HSM HC2 HO7 ⊢
    clear HC1 p0 p1 q0 HLEN HO7
    go_upto_region 19 with (first
      | (go_at_call 24; go_must (refine (HC2.out _ HB7.out).mono ?_); rintro e w8 ⟨u8, rfl, ho8, hb8⟩; have HO8 := (show Hid (w8.ownsRow w7.heap.size 9 1 u8 n7 (strV (r.p.map (dd Kc)))) from ho8); have HB8 := (show Hid (Below w7.heap.size w7 w8) from hb8); clear ho8 hb8)
      | (go_at_call 23; go_must (refine (HSM.out _ _ HO8.out HB8.out).mono ?_); rintro e w9 ⟨rfl, q9, hq9⟩; have HB9 := (show Hid (Below w7.heap.size w7 w9) from by show Below _ _ _; rw [hq9]; exact ⟨HB8.out.os, HB8.out.tape, HB8.out.output, HB8.out.size, HB8.out.block⟩); clear hq9))
    clear p17 HC2 HSM HO8
    go_wp2_with (go_at_call 25; go_must (refine (HMI.out _ HB9.out).mono ?_); rintro e w10 ⟨rfl, own', lv', ls', hl1, hS1⟩; have HF := (show Hid (∃ own' lv' ls', ls'.length = ls.length + 1 ∧ Sc (dd Kc) W0 w10 gW gT own' (.slice (some ⟨b, 0, none⟩) ps.length cap) lv' ps ls') from ⟨own', lv', ls', hl1, hS1⟩); clear hl1 hS1)
    go_ret
    obtain ⟨own2, lv2, ls2, e1, e2⟩ := HF.out
    exact ⟨rfl, own2, _, lv2, ps, ls2, e2, Nat.le_succ _, by omega⟩

set_option maxRecDepth 10000 in
set_option maxHeartbeats 8000000 in
theorem step_oth (Kc : Nat → Int) (W0 W : World) (gW gT : Nat) (own : Nat → Nat × Nat) (rv lv : Value) (ps : List Pr) (ls : List Lt) (S : Sc (dd Kc) W0 W gW gT own rv lv ps ls) (hT : Tw (dd Kc) gT gW W0) (KD : Int) (hk1 : ¬ (KD = 1)) (hk2 : ¬ (KD = 2)) (hk3 : ¬ (KD = 3)) (hk4 : ¬ (KD = 4)) (hk5 : KD < 5) (A0 : Int) (s : ByteArray) (hA1 : -9223372036854775808 ≤ A0) (hA2 : A0 ≤ 9223372036854775807) (hpl : ps.length ≤ 1048576) (hll : ls.length ≤ 1048576) :
    Calls Tryz.prog 12 #[.pointer (some ⟨gW, 0, none⟩), .agg #[.int .i64 KD, .int .i64 A0, .string s]] W fun e w' => e = .returned (.bool true) ∧ ∃ own' rv' lv' ps' ls', Sc (dd Kc) W0 w' gW gT own' rv' lv' ps' ls' ∧ ps'.length ≤ ps.length + 1 ∧ ls'.length ≤ ls.length + 1 := by
  have S0 : Hid (Sc (dd Kc) W0 W gW gT own rv lv ps ls) := S
  obtain ⟨W1, hW1⟩ : ∃ V, V = W.alloc (.cells #[.int .i64 KD, .int .i64 A0, .string s] 26) := ⟨_, rfl⟩
  have hB1 : Below W.heap.size W W1 := by rw [hW1]; exact (Below.refl _ _).alloc (Nat.le_refl _) _
  have hz1 : W1.heap.size = W.heap.size + 1 := by rw [hW1]; simp
  have o0 : W1.cell? ⟨W.heap.size, 0, none⟩ = some (.int .i64 KD) := by rw [hW1]; simp [go_sem]
  have o1 : W1.cell? ⟨W.heap.size, 1, none⟩ = some (.int .i64 A0) := by rw [hW1]; simp [go_sem]
  have o2 : W1.cell? ⟨W.heap.size, 2, none⟩ = some (.string s) := by rw [hW1]; simp [go_sem]
  have S1 := S.keep hB1
  have HO : Hid (∀ V, Below W1.heap.size W1 V → V.cell? ⟨W.heap.size, 0, none⟩ = some (.int .i64 KD) ∧ V.cell? ⟨W.heap.size, 1, none⟩ = some (.int .i64 A0) ∧ V.cell? ⟨W.heap.size, 2, none⟩ = some (.string s)) := fun V hV =>
    ⟨by rw [hV.cell (p := ⟨W.heap.size, 0, none⟩) (by show W.heap.size < _; omega)]; exact o0, by rw [hV.cell (p := ⟨W.heap.size, 1, none⟩) (by show W.heap.size < _; omega)]; exact o1, by rw [hV.cell (p := ⟨W.heap.size, 2, none⟩) (by show W.heap.size < _; omega)]; exact o2⟩
  have HOWN0 : Hid (own W.heap.size = (0, 0)) := by
    show _ = _
    refine Classical.byContradiction fun h => ?_
    have := (S.dom _ h).2; omega
  have hgW : gW < W1.heap.size := (S1.dom gW (ne00 S1.oW (by simp))).2
  obtain ⟨va, cap, hrv, hrow⟩ := own_r2 S1.rs
  subst hrv
  have hc1 := S1.c1
  by_cases hn : ps.length = 0
  · rw [hn] at hc1
    have HS1 : Hid (Sc (dd Kc) W0 W1 gW gT own (.slice va ps.length cap) lv ps ls) := S1
    clear hrow S1 S o1 o2
    go_enter Tryz.func12, Tryz.ntmps12
    go_upto_region 1 with fail
    rw [← hW1]
    clear hW1
    go_wp2
    go_ret
    exact ⟨rfl, own, _, lv, ps, ls, HS1.out, Nat.le_succ _, Nat.le_succ _⟩
  obtain ⟨b, rfl, hcs⟩ := hrow (by omega)
  obtain ⟨k, hk⟩ : ∃ k, k = pkL A0 ps.length := ⟨_, rfl⟩
  have hkl : k < ps.length := by rw [hk]; exact pkL_lt _ _ (by omega)
  obtain ⟨r, hr⟩ : ∃ r, ps[k]? = some r := ⟨_, List.getElem?_eq_getElem hkl⟩
  obtain ⟨g0, g1⟩ := prC_get ps k r hr
  have HPK : Hid (∀ V, Calls Tryz.prog 17 #[.int .i64 A0, .int .i64 (ps.length : Int)] V fun e w' => e = .returned (.int .i64 (k : Int)) ∧ V = w') := fun V => by rw [hk]; exact pickL_any A0 ps.length V hA1 hA2 (by omega) hpl
  have hbl : b < W1.heap.size := World.block_lt_of_cell? W1 _ (hcs _ _ g0)
  have HS0 : Hid (∀ V, Below W1.heap.size W1 V → V.cell? ⟨gW, 1, none⟩ = some (.slice (some ⟨b, 0, none⟩) ps.length cap) ∧ V.cell? ⟨W.heap.size, 1, none⟩ = some (.int .i64 A0) ∧ V.rangeAt b (2 * k) [.pointer (some ⟨r.gx, 0, none⟩), .pointer (some ⟨r.gm, 0, none⟩)]) := fun V hV =>
    ⟨by rw [hV.cell (p := ⟨gW, 1, none⟩) hgW]; exact hc1, (HO.out V hV).2.1, fun j x hx => by
      rw [hV.cell (p := ⟨b, 2 * k + j, none⟩) hbl]
      match j, hx with
      | 0, hx => simp at hx; subst hx; exact hcs _ _ g0
      | 1, hx => simp at hx; subst hx; exact hcs _ _ g1
      | j + 2, hx => simp at hx⟩
  have hln : ∀ (V : World) (ty : TypeId), (Builtin.len_ #[30] ty #[.slice (some ⟨b, 0, none⟩) ps.length cap]).run Tryz.prog V = .ok (.int .i64 (ps.length : Int)) V := fun V ty => by simp [Builtin.len_, run_underlying Tryz.underlying30, goInt]
  have hni : ¬ ((ps.length : Int) = 0) := by omega
  have hnb : ((ps.length : Int) == 0) = false := by rw [beq_eq_false_iff_ne]; exact hni
  have hix : (k : Int) < (ps.length : Int) := by omega
  have HS1 : Hid (Sc (dd Kc) W0 W1 gW gT own (.slice (some ⟨b, 0, none⟩) ps.length cap) lv ps ls) := S1
  have HR : Hid (ps[k]? = some r) := hr
  have HKL : Hid (k < ps.length) := hkl
  have HFIN : Hid (∃ g6 : Nat, (.pointer (some ⟨W1.heap.size, 0, none⟩) : Value) = .pointer (some ⟨g6, 0, none⟩) ∧ ((W1.drew.alloc (.cells #[.pointer none, .pointer none] 48)).setCells W1.heap.size 0 [.pointer (some ⟨r.gx, 0, none⟩), .pointer (some ⟨r.gm, 0, none⟩)]).cell? ⟨g6, 0, none⟩ = some (.pointer (some ⟨r.gx, 0, none⟩)) ∧ ((W1.drew.alloc (.cells #[.pointer none, .pointer none] 48)).setCells W1.heap.size 0 [.pointer (some ⟨r.gx, 0, none⟩), .pointer (some ⟨r.gm, 0, none⟩)]).cell? ⟨g6, 1, none⟩ = some (.pointer (some ⟨r.gm, 0, none⟩)) ∧ W1.heap.size ≤ g6 ∧ Below W1.heap.size W1 ((W1.drew.alloc (.cells #[.pointer none, .pointer none] 48)).setCells W1.heap.size 0 [.pointer (some ⟨r.gx, 0, none⟩), .pointer (some ⟨r.gm, 0, none⟩)])) := by
    refine ⟨W1.heap.size, rfl, ?_, ?_, Nat.le_refl _, below_setCells ((⟨rfl, rfl, rfl, Nat.le_refl _, fun _ _ => rfl⟩ : Below W1.heap.size W1 W1.drew).alloc (Nat.le_refl _) _) _ (Nat.le_refl _) _ _⟩
    · have := World.rangeAt_setCells_same (W1.drew.alloc (.cells #[.pointer none, .pointer none] 48)) W1.heap.size 0 [.pointer (some ⟨r.gx, 0, none⟩), .pointer (some ⟨r.gm, 0, none⟩)] (th_new W1.drew _ [.pointer none, .pointer none])
      exact this 0 _ rfl
    · have := World.rangeAt_setCells_same (W1.drew.alloc (.cells #[.pointer none, .pointer none] 48)) W1.heap.size 0 [.pointer (some ⟨r.gx, 0, none⟩), .pointer (some ⟨r.gm, 0, none⟩)] (th_new W1.drew _ [.pointer none, .pointer none])
      exact this 1 _ rfl
  clear hcs g0 g1 hr hkl hk S1 hrow S o1 o2
  go_enter Tryz.func12, Tryz.ntmps12
  go_upto_region 1 with fail
  rw [← hW1]
  clear hW1
  go_upto_region 10 with fail
  clear o0 hc1
  go_cut [6] (fun pv wx => ∃ g6 : Nat, pv = .pointer (some ⟨g6, 0, none⟩) ∧ wx.cell? ⟨g6, 0, none⟩ = some (.pointer (some ⟨r.gx, 0, none⟩)) ∧ wx.cell? ⟨g6, 1, none⟩ = some (.pointer (some ⟨r.gm, 0, none⟩)) ∧ W1.heap.size ≤ g6 ∧ Below W1.heap.size W1 wx)
  case first =>
    refine q_frame (fun A HFR => ?_)
    have hsz : A.tmps.size = 163 := by rw [HFR.out]; rfl
    have h0 : A.eval (.tmp 0) = .pointer (some ⟨gW, 0, none⟩) := by rw [HFR.out]; rfl
    have h3 : A.eval (.tmp 3) = .pointer (some ⟨W.heap.size, 0, none⟩) := by rw [HFR.out]; rfl
    have HBD : Below W1.heap.size W1 W1.drew := ⟨rfl, rfl, rfl, Nat.le_refl _, fun _ _ => rfl⟩
    have HSS : ∀ V, Below W1.heap.size W1 V → V.cell? ⟨gW, 1, none⟩ = some (.slice (some ⟨b, 0, none⟩) ps.length cap) ∧ V.cell? ⟨W.heap.size, 1, none⟩ = some (.int .i64 A0) ∧ V.rangeAt b (2 * k) [.pointer (some ⟨r.gx, 0, none⟩), .pointer (some ⟨r.gm, 0, none⟩)] := HS0.out
    refine wp_region_held_drew (S := fun V => V.cell? ⟨gW, 1, none⟩ = some (.slice (some ⟨b, 0, none⟩) ps.length cap) ∧ V.cell? ⟨W.heap.size, 1, none⟩ = some (.int .i64 A0) ∧ V.rangeAt b (2 * k) [.pointer (some ⟨r.gx, 0, none⟩), .pointer (some ⟨r.gm, 0, none⟩)]) (by kernel_rfl) (HSS _ HBD) (fun hS => ?_)
    refine wpAnyH_take (i := 0) (v := (.pointer (some ⟨gW, 0, none⟩))) rfl (by kernel_rfl) (by kernel_rfl) (by kernel_rfl) (fun _ _ _ h => h) (Or.inl ⟨by rfl, fun V hW => q_run1 0 (.pointer (some ⟨gW, 0, none⟩)) (by simp only [q_same, q_ne, q_sz, q_none, q_sz0, hsz, h0, h3, ne_eq, Nat.reduceEqDiff, not_false_eq_true, Nat.reduceLT]) (fun ρ hc hf e1 => by simp [go_sem, hc, hf, e1])⟩) hS ?_
    change wpAnyH _ _ _ _ _ _ _ (Act.put _ (some 49) _) _
    refine wpAnyH_take (i := 1) (v := (.pointer (some ⟨gW, 0, none⟩))) rfl (by kernel_rfl) (by kernel_rfl) (by kernel_rfl) (fun _ _ _ h => h) (Or.inl ⟨by rfl, fun V hW => q_run1 49 (.pointer (some ⟨gW, 0, none⟩)) (by simp only [q_same, q_ne, q_sz, q_none, q_sz0, hsz, h0, h3, ne_eq, Nat.reduceEqDiff, not_false_eq_true, Nat.reduceLT]) (fun ρ hc hf e1 => by simp [go_sem, hc, hf, e1])⟩) hS ?_
    change wpAnyH _ _ _ _ _ _ _ (Act.put _ (some 50) _) _
    refine wpAnyH_take (i := 2) (v := (.pointer (some ⟨gW, 1, none⟩))) rfl (by kernel_rfl) (by kernel_rfl) (by kernel_rfl) (fun _ _ _ h => h) (Or.inl ⟨by rfl, fun V hW => q_run1 50 (.pointer (some ⟨gW, 0, none⟩)) (by simp only [q_same, q_ne, q_sz, q_none, q_sz0, hsz, h0, h3, ne_eq, Nat.reduceEqDiff, not_false_eq_true, Nat.reduceLT]) (fun ρ hc hf e1 => by simp [go_sem, hc, hf, e1])⟩) hS ?_
    change wpAnyH _ _ _ _ _ _ _ (Act.put _ (some 51) _) _
    refine wpAnyH_take (i := 3) (v := (.slice (some ⟨b, 0, none⟩) ps.length cap)) rfl (by kernel_rfl) (by kernel_rfl) (by kernel_rfl) (fun _ _ _ h => h) (Or.inl ⟨by rfl, fun V hW => q_run1 51 (.pointer (some ⟨gW, 1, none⟩)) (by simp only [q_same, q_ne, q_sz, q_none, q_sz0, hsz, h0, h3, ne_eq, Nat.reduceEqDiff, not_false_eq_true, Nat.reduceLT]) (fun ρ hc hf e1 => by simp [go_sem, hc, hf, e1, hW.1])⟩) hS ?_
    change wpAnyH _ _ _ _ _ _ _ (Act.put _ (some 52) _) _
    refine wpAnyH_take (i := 4) (v := (.pointer (some ⟨W.heap.size, 1, none⟩))) rfl (by kernel_rfl) (by kernel_rfl) (by kernel_rfl) (fun _ _ _ h => h) (Or.inl ⟨by rfl, fun V hW => q_run1 3 (.pointer (some ⟨W.heap.size, 0, none⟩)) (by simp only [q_same, q_ne, q_sz, q_none, q_sz0, hsz, h0, h3, ne_eq, Nat.reduceEqDiff, not_false_eq_true, Nat.reduceLT]) (fun ρ hc hf e1 => by simp [go_sem, hc, hf, e1])⟩) hS ?_
    change wpAnyH _ _ _ _ _ _ _ (Act.put _ (some 53) _) _
    refine wpAnyH_take (i := 5) (v := (.int .i64 A0)) rfl (by kernel_rfl) (by kernel_rfl) (by kernel_rfl) (fun _ _ _ h => h) (Or.inl ⟨by rfl, fun V hW => q_run1 53 (.pointer (some ⟨W.heap.size, 1, none⟩)) (by simp only [q_same, q_ne, q_sz, q_none, q_sz0, hsz, h0, h3, ne_eq, Nat.reduceEqDiff, not_false_eq_true, Nat.reduceLT]) (fun ρ hc hf e1 => by simp [go_sem, hc, hf, e1, hW.2.1])⟩) hS ?_
    change wpAnyH _ _ _ _ _ _ _ (Act.put _ (some 54) _) _
    refine wpAnyH_take (i := 6) (v := (.pointer (some ⟨gW, 0, none⟩))) rfl (by kernel_rfl) (by kernel_rfl) (by kernel_rfl) (fun _ _ _ h => h) (Or.inl ⟨by rfl, fun V hW => q_run1 0 (.pointer (some ⟨gW, 0, none⟩)) (by simp only [q_same, q_ne, q_sz, q_none, q_sz0, hsz, h0, h3, ne_eq, Nat.reduceEqDiff, not_false_eq_true, Nat.reduceLT]) (fun ρ hc hf e1 => by simp [go_sem, hc, hf, e1])⟩) hS ?_
    change wpAnyH _ _ _ _ _ _ _ (Act.put _ (some 55) _) _
    refine wpAnyH_take (i := 7) (v := (.pointer (some ⟨gW, 0, none⟩))) rfl (by kernel_rfl) (by kernel_rfl) (by kernel_rfl) (fun _ _ _ h => h) (Or.inl ⟨by rfl, fun V hW => q_run1 55 (.pointer (some ⟨gW, 0, none⟩)) (by simp only [q_same, q_ne, q_sz, q_none, q_sz0, hsz, h0, h3, ne_eq, Nat.reduceEqDiff, not_false_eq_true, Nat.reduceLT]) (fun ρ hc hf e1 => by simp [go_sem, hc, hf, e1])⟩) hS ?_
    change wpAnyH _ _ _ _ _ _ _ (Act.put _ (some 56) _) _
    refine wpAnyH_take (i := 8) (v := (.pointer (some ⟨gW, 1, none⟩))) rfl (by kernel_rfl) (by kernel_rfl) (by kernel_rfl) (fun _ _ _ h => h) (Or.inl ⟨by rfl, fun V hW => q_run1 56 (.pointer (some ⟨gW, 0, none⟩)) (by simp only [q_same, q_ne, q_sz, q_none, q_sz0, hsz, h0, h3, ne_eq, Nat.reduceEqDiff, not_false_eq_true, Nat.reduceLT]) (fun ρ hc hf e1 => by simp [go_sem, hc, hf, e1])⟩) hS ?_
    change wpAnyH _ _ _ _ _ _ _ (Act.put _ (some 57) _) _
    refine wpAnyH_take (i := 9) (v := (.slice (some ⟨b, 0, none⟩) ps.length cap)) rfl (by kernel_rfl) (by kernel_rfl) (by kernel_rfl) (fun _ _ _ h => h) (Or.inl ⟨by rfl, fun V hW => q_run1 57 (.pointer (some ⟨gW, 1, none⟩)) (by simp only [q_same, q_ne, q_sz, q_none, q_sz0, hsz, h0, h3, ne_eq, Nat.reduceEqDiff, not_false_eq_true, Nat.reduceLT]) (fun ρ hc hf e1 => by simp [go_sem, hc, hf, e1, hW.1])⟩) hS ?_
    change wpAnyH _ _ _ _ _ _ _ (Act.put _ (some 58) _) _
    refine wpAnyH_take (i := 10) (v := (.int .i64 (ps.length : Int))) rfl (by kernel_rfl) (by kernel_rfl) (by kernel_rfl) (fun _ _ _ h => h) (Or.inl ⟨by rfl, fun V hW => q_run1 58 (.slice (some ⟨b, 0, none⟩) ps.length cap) (by simp only [q_same, q_ne, q_sz, q_none, q_sz0, hsz, h0, h3, ne_eq, Nat.reduceEqDiff, not_false_eq_true, Nat.reduceLT]) (fun ρ hc hf e1 => by simp [go_sem, hc, hf, e1, hln])⟩) hS ?_
    change wpAnyH _ _ _ _ _ _ _ (Act.put _ (some 59) _) _
    have HBA : Below W1.heap.size W1 (W1.drew.alloc (.cells #[.pointer none, .pointer none] 48)) := HBD.alloc (Nat.le_refl _) _
    have HBS : Below W1.heap.size W1 ((W1.drew.alloc (.cells #[.pointer none, .pointer none] 48)).setCells W1.heap.size 0 [.pointer (some ⟨r.gx, 0, none⟩), .pointer (some ⟨r.gm, 0, none⟩)]) := below_setCells HBA _ (Nat.le_refl _) _ _
    refine qH_two 11 14 (by kernel_rfl) (by decide) ?_ ?_
    · refine qO_call 17 #[.int .i64 A0, .int .i64 (ps.length : Int)] _ rfl rfl (q_run2 54 59 (.int .i64 A0) (.int .i64 (ps.length : Int)) (by simp only [q_same, q_ne, q_sz, q_none, q_sz0, hsz, h0, h3, ne_eq, Nat.reduceEqDiff, not_false_eq_true, Nat.reduceLT]) (by simp only [q_same, q_ne, q_sz, q_none, q_sz0, hsz, h0, h3, ne_eq, Nat.reduceEqDiff, not_false_eq_true, Nat.reduceLT]) (fun ρ hc hf e1 e2 => by simp [go_sem, hc, hf, e1, e2])) (calls_val (HPK.out _)) ?_
      rintro _ _ ⟨rfl, rfl⟩
      refine ⟨HSS _ HBD, ?_⟩
      change wpAnyH _ _ _ _ _ _ _ (Act.put _ (some 60) _) _
      refine wpAnyH_take (i := 12) (v := (.pointer (some ⟨b, 2 * k, none⟩))) rfl (by kernel_rfl) (by kernel_rfl) (by kernel_rfl) (fun _ _ _ h => h) (Or.inl ⟨by rfl, fun V hW => q_run2 52 60 (.slice (some ⟨b, 0, none⟩) ps.length cap) (.int .i64 (k : Int)) (by simp only [q_same, q_ne, q_sz, q_none, q_sz0, hsz, h0, h3, ne_eq, Nat.reduceEqDiff, not_false_eq_true, Nat.reduceLT]) (by simp only [q_same, q_ne, q_sz, q_none, q_sz0, hsz, h0, h3, ne_eq, Nat.reduceEqDiff, not_false_eq_true, Nat.reduceLT]) (fun ρ hc hf e1 e2 => by simp [go_sem, hc, hf, e1, e2, hix])⟩) hS ?_
      change wpAnyH _ _ _ _ _ _ _ (Act.put _ (some 61) _) _
      refine wpAnyH_take (i := 13) (v := (.agg #[.pointer (some ⟨r.gx, 0, none⟩), .pointer (some ⟨r.gm, 0, none⟩)])) rfl (by kernel_rfl) (by kernel_rfl) (by kernel_rfl) (fun _ _ _ h => h) (yieldsIf_load_mid (by rfl) 48 _ rfl b (2 * k) (by simp only [q_same, q_ne, q_sz, q_none, q_sz0, hsz, h0, h3, ne_eq, Nat.reduceEqDiff, not_false_eq_true, Nat.reduceLT]) [.pointer (some ⟨r.gx, 0, none⟩), .pointer (some ⟨r.gm, 0, none⟩)] _ (fun V hV => hV.2.2) Tryz.underlying48 rfl (by kernel_rfl)) hS ?_
      change wpAnyH _ _ _ _ _ _ _ (Act.put _ (some 62) _) _
      refine qH_one 14 (.pointer (some ⟨W1.heap.size, 0, none⟩)) (W1.drew.alloc (.cells #[.pointer none, .pointer none] 48)) (by kernel_rfl) rfl rfl (by show (Instr.alloc 48 true (.tuple #[]) >>= fun x => pure (.value x) : Sem Next).run Tryz.prog W1.drew = _; rw [Sem.run_bind, alloc_pair W1.drew]; rfl) (HSS _ HBA) ?_
      change wpAnyH _ _ _ _ _ _ _ (Act.put _ (some 6) _) _
      refine qH_skip 15 ((W1.drew.alloc (.cells #[.pointer none, .pointer none] 48)).setCells W1.heap.size 0 [.pointer (some ⟨r.gx, 0, none⟩), .pointer (some ⟨r.gm, 0, none⟩)]) (by kernel_rfl) rfl rfl (q_run2 6 62 (.pointer (some ⟨W1.heap.size, 0, none⟩)) (.agg #[.pointer (some ⟨r.gx, 0, none⟩), .pointer (some ⟨r.gm, 0, none⟩)]) (by simp only [q_same, q_ne, q_sz, q_none, q_sz0, hsz, h0, h3, ne_eq, Nat.reduceEqDiff, not_false_eq_true, Nat.reduceLT]) (by simp only [q_same, q_ne, q_sz, q_none, q_sz0, hsz, h0, h3, ne_eq, Nat.reduceEqDiff, not_false_eq_true, Nat.reduceLT]) (fun ρ hc hf e1 e2 => by
        have hst := store_pair W1.drew r.gx r.gm
        show (Instr.storeAt 48 (ρ (.tmp 6)) (ρ (.tmp 62)) >>= fun _ => pure .skip : Sem Next).run Tryz.prog _ = _
        rw [e1, e2, Sem.run_bind]
        rw [show W1.drew.heap.size = W1.heap.size from rfl] at hst
        rw [hst]; rfl)) (HSS _ HBS) ?_
      change wpAnyH _ _ _ _ _ _ _ (Act.put _ none _) _
      refine wpAnyH_done (by kernel_rfl) ?_ _
      have hfr := HFR.out
      clear HFR hsz h0 h3 hS
      subst hfr
      simp only [Act.put, List.setIfInBounds_toArray, List.set_cons_zero, List.set_cons_succ]
      go_wp2_with fail
      go_meet
      exact HFIN.out
    · refine qO_one (.pointer (some ⟨W1.heap.size, 0, none⟩)) (W1.drew.alloc (.cells #[.pointer none, .pointer none] 48)) rfl rfl (by show (Instr.alloc 48 true (.tuple #[]) >>= fun x => pure (.value x) : Sem Next).run Tryz.prog W1.drew = _; rw [Sem.run_bind, alloc_pair W1.drew]; rfl) (HSS _ HBA) ?_
      change wpAnyH _ _ _ _ _ _ _ (Act.put _ (some 6) _) _
      refine qH_call 11 17 #[.int .i64 A0, .int .i64 (ps.length : Int)] _ (by kernel_rfl) rfl rfl (q_run2 54 59 (.int .i64 A0) (.int .i64 (ps.length : Int)) (by simp only [q_same, q_ne, q_sz, q_none, q_sz0, hsz, h0, h3, ne_eq, Nat.reduceEqDiff, not_false_eq_true, Nat.reduceLT]) (by simp only [q_same, q_ne, q_sz, q_none, q_sz0, hsz, h0, h3, ne_eq, Nat.reduceEqDiff, not_false_eq_true, Nat.reduceLT]) (fun ρ hc hf e1 e2 => by simp [go_sem, hc, hf, e1, e2])) (calls_val (HPK.out _)) ?_
      rintro _ _ ⟨rfl, rfl⟩
      refine ⟨HSS _ HBA, ?_⟩
      change wpAnyH _ _ _ _ _ _ _ (Act.put _ (some 60) _) _
      refine wpAnyH_take (i := 12) (v := (.pointer (some ⟨b, 2 * k, none⟩))) rfl (by kernel_rfl) (by kernel_rfl) (by kernel_rfl) (fun _ _ _ h => h) (Or.inl ⟨by rfl, fun V hW => q_run2 52 60 (.slice (some ⟨b, 0, none⟩) ps.length cap) (.int .i64 (k : Int)) (by simp only [q_same, q_ne, q_sz, q_none, q_sz0, hsz, h0, h3, ne_eq, Nat.reduceEqDiff, not_false_eq_true, Nat.reduceLT]) (by simp only [q_same, q_ne, q_sz, q_none, q_sz0, hsz, h0, h3, ne_eq, Nat.reduceEqDiff, not_false_eq_true, Nat.reduceLT]) (fun ρ hc hf e1 e2 => by simp [go_sem, hc, hf, e1, e2, hix])⟩) (HSS _ HBA) ?_
      change wpAnyH _ _ _ _ _ _ _ (Act.put _ (some 61) _) _
      refine wpAnyH_take (i := 13) (v := (.agg #[.pointer (some ⟨r.gx, 0, none⟩), .pointer (some ⟨r.gm, 0, none⟩)])) rfl (by kernel_rfl) (by kernel_rfl) (by kernel_rfl) (fun _ _ _ h => h) (yieldsIf_load_mid (by rfl) 48 _ rfl b (2 * k) (by simp only [q_same, q_ne, q_sz, q_none, q_sz0, hsz, h0, h3, ne_eq, Nat.reduceEqDiff, not_false_eq_true, Nat.reduceLT]) [.pointer (some ⟨r.gx, 0, none⟩), .pointer (some ⟨r.gm, 0, none⟩)] _ (fun V hV => hV.2.2) Tryz.underlying48 rfl (by kernel_rfl)) (HSS _ HBA) ?_
      change wpAnyH _ _ _ _ _ _ _ (Act.put _ (some 62) _) _
      refine qH_skip 15 ((W1.drew.alloc (.cells #[.pointer none, .pointer none] 48)).setCells W1.heap.size 0 [.pointer (some ⟨r.gx, 0, none⟩), .pointer (some ⟨r.gm, 0, none⟩)]) (by kernel_rfl) rfl rfl (q_run2 6 62 (.pointer (some ⟨W1.heap.size, 0, none⟩)) (.agg #[.pointer (some ⟨r.gx, 0, none⟩), .pointer (some ⟨r.gm, 0, none⟩)]) (by simp only [q_same, q_ne, q_sz, q_none, q_sz0, hsz, h0, h3, ne_eq, Nat.reduceEqDiff, not_false_eq_true, Nat.reduceLT]) (by simp only [q_same, q_ne, q_sz, q_none, q_sz0, hsz, h0, h3, ne_eq, Nat.reduceEqDiff, not_false_eq_true, Nat.reduceLT]) (fun ρ hc hf e1 e2 => by
        have hst := store_pair W1.drew r.gx r.gm
        show (Instr.storeAt 48 (ρ (.tmp 6)) (ρ (.tmp 62)) >>= fun _ => pure .skip : Sem Next).run Tryz.prog _ = _
        rw [e1, e2, Sem.run_bind]
        rw [show W1.drew.heap.size = W1.heap.size from rfl] at hst
        rw [hst]; rfl)) (HSS _ HBS) ?_
      change wpAnyH _ _ _ _ _ _ _ (Act.put _ none _) _
      refine wpAnyH_done (by kernel_rfl) ?_ _
      have hfr := HFR.out
      clear HFR hsz h0 h3 hS
      subst hfr
      simp only [Act.put, List.setIfInBounds_toArray, List.set_cons_zero, List.set_cons_succ]
      go_wp2_with fail
      go_meet
      exact HFIN.out
  case rest =>
    obtain ⟨g6, rfl, p0, p1, hg6, hbx⟩ := hcut
    have HBX : Hid (Below W1.heap.size W1 wc) := hbx
    have HG6 : Hid (W1.heap.size ≤ g6) := hg6
    have SB : Hid (Sc (dd Kc) W0 wc gW gT own (.slice (some ⟨b, 0, none⟩) ps.length cap) lv ps ls) := HS1.out.keep hbx
    have HP : Hid (∀ V : World, V.heap[g6]? = wc.heap[g6]? → V.cell? ⟨g6, 0, none⟩ = some (.pointer (some ⟨r.gx, 0, none⟩)) ∧ V.cell? ⟨g6, 1, none⟩ = some (.pointer (some ⟨r.gm, 0, none⟩))) := fun V hV => ⟨by rw [World.cell?_of_block hV]; exact p0, by rw [World.cell?_of_block hV]; exact p1⟩
    have q0 := (HO.out wc hbx).1
    clear HS0 HFIN HS1 hbx hg6 HPK hln hix
    clear p0 p1
    have k2 : ¬ (KD = 2) := hk2
    have k3 : ¬ (KD = 3) := hk3
    have k4 : ¬ (KD = 4) := hk4
    have k5 : ¬ (KD = 5) := by omega
    have k6 : ¬ (KD = 6) := by omega
    go_wp2
    go_ret
    exact ⟨rfl, own, _, lv, ps, ls, SB.out, Nat.le_succ _, Nat.le_succ _⟩
end Go.Proofs.YtkmalggeieiepaaGreatDoor
set_option linter.unusedSimpArgs false
set_option linter.unusedVariables false
namespace Go.Proofs.YtkmalggeieiepaaGreatDoor
open Go.RowKit

theorem own_r1 {w : World} {base e n : Nat} {v : Value} {xs : List Value} (h : w.ownsRow base e 1 v n xs) : ∃ a c, v = .slice a n c ∧ (0 < n → ∃ b, a = some ⟨b, 0, none⟩ ∧ ∀ j x, xs[j]? = some x → w.cell? ⟨b, j, none⟩ = some x) := by
  have hl := h.1
  rcases h.2 with ⟨hv, h0⟩ | ⟨g, cap, cur, hv, _, hg, _, _, _, ht⟩
  · exact ⟨none, 0, by rw [hv, h0], fun h1 => by omega⟩
  · refine ⟨_, cap, hv, fun _ => ⟨g, rfl, fun j x hx => ?_⟩⟩
    rw [cell_of_row w g j cur _ _ hg]
    have hj : j < xs.length := (List.getElem?_eq_some_iff.1 hx).1
    have h3 : (cur.toList.take (n * 1))[j]? = xs[j]? := by rw [ht]
    rw [List.getElem?_take, if_pos (by omega)] at h3
    rw [← Array.getElem?_toList, h3, hx]

set_option maxRecDepth 10000 in
set_option maxHeartbeats 4000000 in
theorem looks_any (dg : ByteArray → ByteArray) (W0 W : World) (gW gT : Nat) (own : Nat → Nat × Nat) (rv lv : Value) (ps : List Pr) (ls : List Lt) (S : Sc dg W0 W gW gT own rv lv ps ls) (hll : ls.length ≤ 1048576) :
    Calls Tryz.prog 13 #[.pointer (some ⟨gW, 0, none⟩)] W fun e w' => e = .returned (.bool true) ∧ Below W.heap.size W w' := by
  have HS : Hid (∀ V, Below W.heap.size W V → Sc dg W0 V gW gT own rv lv ps ls) := fun V hV => S.keep hV
  have hc2 := S.c2
  obtain ⟨la, lc, hlv, hrow⟩ := own_r1 S.lr
  subst hlv
  have HROW : Hid (0 < ls.length → ∃ b, la = some ⟨b, 0, none⟩ ∧ b < W.heap.size ∧ ∀ j x, ls[j]? = some x → W.cell? ⟨b, j, none⟩ = some x.v) := fun h0 => by
    obtain ⟨b, e, hcs⟩ := hrow h0
    have hg : ∀ j x, ls[j]? = some x → W.cell? ⟨b, j, none⟩ = some x.v := fun j x hx => hcs j x.v (by rw [List.getElem?_map, hx]; rfl)
    obtain ⟨x, hx⟩ : ∃ x, ls[0]? = some x := ⟨_, List.getElem?_eq_getElem h0⟩
    exact ⟨b, e, World.block_lt_of_cell? W _ (hg 0 x hx), hg⟩
  clear S hrow
  go_enter Tryz.func13, Tryz.ntmps13
  go_upto_region 2 with fail
  clear hc2
  go_loopg [12] ls.length (fun g' iv wx => ∃ k : Nat, k + g' = ls.length ∧ iv = .int .i64 (k : Int) ∧ Below W.heap.size W wx)
  case atStart => exact ⟨0, by omega, rfl, Below.refl _ _⟩
  case round =>
    obtain ⟨k, hkg, rfl, hb⟩ := hrel
    have HB : Hid (Below W.heap.size W wr) := hb
    have HK : Hid (k + gk = ls.length) := hkg
    by_cases hlt : k < ls.length
    · obtain ⟨b, rfl, hbl, hcs⟩ := HROW.out (by omega)
      obtain ⟨x, hx⟩ : ∃ x, ls[k]? = some x := ⟨_, List.getElem?_eq_getElem hlt⟩
      have d1 : wr.cell? ⟨b, k, none⟩ = some x.v := by rw [hb.cell (p := ⟨b, k, none⟩) hbl]; exact hcs k x hx
      obtain ⟨hsv, hn22, hn0, _⟩ := (HS.out wr hb).li k x hx
      obtain ⟨a, cap, hxv, _, hr⟩ := hsv
      rw [List.length_replicate] at hxv hr
      obtain ⟨b2, o2, ha, hsr⟩ := hr hn0
      subst ha
      rw [hxv] at d1
      have hki : (k : Int) < (ls.length : Int) := by omega
      have hb2 : b2 < wr.heap.size := hsr.lt (by simpa using hn0)
      have HSR : Hid (∀ V, Below wr.heap.size wr V → ∀ j, j < x.n → V.cell? ⟨b2, o2 + j, none⟩ = some (.string (mkB k))) := fun V hV j hj => by
        have := (hsr.later hV hb2) j (by simpa using hj)
        rw [this]; simp
      have HMK : Hid (∀ V, Calls Tryz.prog 30 #[.int .i64 (k : Int)] V fun e w' => e = .returned (.string (mkB k)) ∧ Below V.heap.size V w') := fun V => mark_any k V (by omega)
      have hne : ((mkB k).toList == (mkB k).toList) = true := by simp
      obtain ⟨n, hn⟩ : ∃ n, n = x.n := ⟨_, rfl⟩
      rw [← hn] at d1 HSR hn0 hn22
      generalize mkB k = M at HSR HMK hne
      obtain ⟨G, HG⟩ : ∃ G, Hid (G = gk ∧ k + G = ls.length) := ⟨gk, rfl, HK.out⟩
      clear hb hkg hcs hx hsr hr hxv hn HK
      go_upto_region 5 with fail
      clear d1
      go_loopg [19] n (fun g' iv wx => ∃ j : Nat, j + g' = n ∧ iv = .int .i64 (j : Int) ∧ Below wr.heap.size wr wx)
      case atStart => exact ⟨0, by omega, rfl, Below.refl _ _⟩
      case round =>
        obtain ⟨j, hjg, rfl, hbj⟩ := hrel
        have HBJ := (show Hid (Below _ _ wr) from hbj)
        have HJ : Hid (j + gk = n) := hjg
        by_cases hlt2 : j < n
        · have d2 := HSR.out wr hbj j hlt2
          have hji : (j : Int) < (n : Int) := by omega
          clear hjg
          go_wp2_with (go_at_call 30; go_must (refine (HMK.out _).mono ?_); rintro e w5 ⟨rfl, hb5⟩; have HB5 := (show Hid (Below _ _ w5) from hbj.trans (hb5.mono hbj.size)); clear hb5)
          go_roundg (gk - 1)
          case measure => have := HJ.out; omega
          case rel =>
            have := HJ.out
            exact ⟨j + 1, by omega, by go_num, HB5.out⟩
        · have hji : ¬ ((j : Int) < (n : Int)) := by omega
          clear hjg
          have HBO : Hid (Below W.heap.size W wr) := HB.out.trans (hbj.mono HB.out.size)
          clear hbj
          go_wp2
          go_roundg (G - 1)
          case measure => have := HG.out; omega
          case rel =>
            have := HG.out
            exact ⟨k + 1, by omega, by go_num, HBO.out⟩
    · have hki : ¬ ((k : Int) < (ls.length : Int)) := by omega
      clear hb hkg
      go_wp2
      go_ret
      exact ⟨rfl, HB.out⟩
end Go.Proofs.YtkmalggeieiepaaGreatDoor
