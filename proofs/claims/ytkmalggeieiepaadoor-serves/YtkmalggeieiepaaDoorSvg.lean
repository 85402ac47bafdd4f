import Derived.Test.YtkmalggeieiepaaDoorSve
import Derived.Test.YtkmalggeieiepaaDoorSvf
import Derived.WalkKit
import Derived.WalkSpells
import Derived.WalkLawsBesides
import Derived.Deep.MidRow
import Derived.Deep.LoopGhost
import Derived.Deep.DeepCutAuto
import Derived.Laws.Tables
import Derived.Defers
import Derived.Recover
set_option linter.unusedSimpArgs false
namespace Go.Proofs.YtkmalggeieiepaaDoor
open Go.RowKit

theorem neq_d (a b : ByteArray) (ha : a.size = 32) (hb : b.size = 32) (w : World) : (binOp .neq 43 (aggD a) (aggD b)).run Tryd.prog w = .ok (.bool (!(a.data.toList == b.data.toList))) w := by
  have h : (Op.equalIn 10000 43 (.agg (bc a).toArray) (.agg (bc b).toArray)).run Tryd.prog w = .ok (a.data.toList == b.data.toList) w := run_equalIn_bytes (P := Tryd.prog) w 9998 43 5 32 Tryd.underlying43 Tryd.underlying5 sz8 a.data.toList b.data.toList ha hb
  show (binOp .neq 43 (.agg (bc a).toArray) (.agg (bc b).toArray)).run _ _ = _
  rw [run_neq_struct, h]
  rfl
theorem built_rp (cs : List Value) (h : cs.length = 32) : Tryd.prog.built 89 [(0, .agg cs.toArray)] = some (cs ++ [Value.slice none 0 0]).toArray := by
  match cs, h with
  | [a0, a1, a2, a3, a4, a5, a6, a7, a8, a9, a10, a11, a12, a13, a14, a15, a16, a17, a18, a19, a20, a21, a22, a23, a24, a25, a26, a27, a28, a29, a30, a31], _ => exact (show (_ : Option (Array Value)) = _ by kernel_rfl)
theorem built_rp0 : Tryd.prog.built 89 [] = some #[.int .u8 0, .int .u8 0, .int .u8 0, .int .u8 0, .int .u8 0, .int .u8 0, .int .u8 0, .int .u8 0, .int .u8 0, .int .u8 0, .int .u8 0, .int .u8 0, .int .u8 0, .int .u8 0, .int .u8 0, .int .u8 0, .int .u8 0, .int .u8 0, .int .u8 0, .int .u8 0, .int .u8 0, .int .u8 0, .int .u8 0, .int .u8 0, .int .u8 0, .int .u8 0, .int .u8 0, .int .u8 0, .int .u8 0, .int .u8 0, .int .u8 0, .int .u8 0, .slice none 0 0] := by kernel_rfl
theorem results_midt {P : Program} {fn : Func} {p t : Tmp} {ty : TypeId} (h : fn.results = #[.cell p ty, .tmp t]) (tmps : Array Value) (w : World) (g : Nat) (cs : List Value) (d : TypeDesc) (u : Value)
    (hp : tmps.getD p undef = .pointer (some ⟨g, 0, none⟩)) (ht : tmps.getD t undef = u) (hc : w.rangeAt g 0 cs) (hu : P.underlying ty = some d) (hd : d.isRow = true) (hi : (P.info? ty).map (·.size) = some cs.length) :
    (results fn tmps).run P w = .ok (.tuple #[.agg cs.toArray, u]) w := by
  have hp' : tmps[p]?.getD undef = .pointer (some ⟨g, 0, none⟩) := by simpa using hp
  have ht' : tmps[t]?.getD undef = u := by simpa using ht
  simp [results, h, hp', ht', asAddr, run_loadVar_mid w g 0 ty cs d hc hu hd hi]
def zR : List Value := (#[.int .u8 0, .int .u8 0, .int .u8 0, .int .u8 0, .int .u8 0, .int .u8 0, .int .u8 0, .int .u8 0, .int .u8 0, .int .u8 0, .int .u8 0, .int .u8 0, .int .u8 0, .int .u8 0, .int .u8 0, .int .u8 0, .int .u8 0, .int .u8 0, .int .u8 0, .int .u8 0, .int .u8 0, .int .u8 0, .int .u8 0, .int .u8 0, .int .u8 0, .int .u8 0, .int .u8 0, .int .u8 0, .int .u8 0, .int .u8 0, .int .u8 0, .int .u8 0, .slice none 0 0] : Array Value).toList
theorem zR_one : ∀ v ∈ zR, v.oneCell' = true := by
  intro v hv
  simp only [zR, List.mem_cons, List.not_mem_nil, or_false] at hv
  rcases hv with h | h | h | h | h | h | h | h | h | h | h | h | h | h | h | h | h | h | h | h | h | h | h | h | h | h | h | h | h | h | h | h | h <;> (subst h; rfl)
set_option maxRecDepth 10000 in
set_option maxHeartbeats 2000000 in
theorem answer_other (Kc : Nat → Int) (h nm : ByteArray) (T : List (List UInt8)) (q : List Nat) (a1 a2 : Option Addr) (c1 c2 : Nat) (SQ : Array Value) (HSQ : Hid (SQ = (bc nm ++ [Value.slice a2 q.length c2]).toArray)) (w : World) (hkt : KT Kc w) (hnm : nm.size = 32) (hh : h.size ≤ 1000) (hx : ¬ nm = dd Kc h) :
    Calls Tryd.prog 44 #[.agg #[.string h, .slice a1 T.length c1], .agg SQ] w fun x w' => x = .returned (.tuple #[.agg zR.toArray, .int .i64 6]) ∧ Below w.heap.size w w' := by
  obtain ⟨W1, hW1⟩ : ∃ W, W = ((w.alloc (.cells #[.string h, .slice a1 T.length c1] 65)).alloc (.cells SQ 83)).alloc (.cells #[.int .u8 0, .int .u8 0, .int .u8 0, .int .u8 0, .int .u8 0, .int .u8 0, .int .u8 0, .int .u8 0, .int .u8 0, .int .u8 0, .int .u8 0, .int .u8 0, .int .u8 0, .int .u8 0, .int .u8 0, .int .u8 0, .int .u8 0, .int .u8 0, .int .u8 0, .int .u8 0, .int .u8 0, .int .u8 0, .int .u8 0, .int .u8 0, .int .u8 0, .int .u8 0, .int .u8 0, .int .u8 0, .int .u8 0, .int .u8 0, .int .u8 0, .int .u8 0, .slice none 0 0] 89) := ⟨_, rfl⟩
  have HB1 : Hid (Below w.heap.size w W1) := by show Below _ _ _; rw [hW1]; exact (((Below.refl _ _).alloc (Nat.le_refl _) _).alloc (by simp) _).alloc (by simp; omega) _
  have hz1 : W1.heap.size = w.heap.size + 3 := by rw [hW1]; simp
  have c0 : W1.cell? ⟨w.heap.size, 0, none⟩ = some (.string h) := by rw [hW1]; simp [go_sem]
  have c1' : W1.cell? ⟨w.heap.size, 1, none⟩ = some (.slice a1 T.length c1) := by rw [hW1]; simp [go_sem]
  have hrq : W1.rangeAt (w.heap.size + 1) 0 (bc nm ++ [.slice a2 q.length c2]) := by
    have := range_new (w.alloc (.cells #[.string h, .slice a1 T.length c1] 65)) (bc nm ++ [.slice a2 q.length c2]) 83 SQ HSQ.out
    rw [hW1]; exact World.rangeAt_alloc (by simpa using this) _
  have htr : W1.there (w.heap.size + 2) 0 33 := by
    have := there_new ((w.alloc (.cells #[.string h, .slice a1 T.length c1] 65)).alloc (.cells SQ 83)) 89 (#[.int .u8 0, .int .u8 0, .int .u8 0, .int .u8 0, .int .u8 0, .int .u8 0, .int .u8 0, .int .u8 0, .int .u8 0, .int .u8 0, .int .u8 0, .int .u8 0, .int .u8 0, .int .u8 0, .int .u8 0, .int .u8 0, .int .u8 0, .int .u8 0, .int .u8 0, .int .u8 0, .int .u8 0, .int .u8 0, .int .u8 0, .int .u8 0, .int .u8 0, .int .u8 0, .int .u8 0, .int .u8 0, .int .u8 0, .int .u8 0, .int .u8 0, .int .u8 0, .slice none 0 0] : Array Value).toList
    rw [hW1]; simpa using this
  obtain ⟨hqa, hqb⟩ := range_app hrq
  rw [bc_length, hnm] at hqb
  have hq32 : W1.cell? ⟨w.heap.size + 1, 32, none⟩ = some (.slice a2 q.length c2) := hqb 0 _ rfl
  have HF : Hid (∀ W, Below (w.heap.size + 2) W1 W → W.cell? ⟨w.heap.size, 0, none⟩ = some (.string h) ∧ W.cell? ⟨w.heap.size, 1, none⟩ = some (.slice a1 T.length c1) ∧ W.rangeAt (w.heap.size + 1) 0 (bc nm) ∧ W.cell? ⟨w.heap.size + 1, 32, none⟩ = some (.slice a2 q.length c2)) := fun W hW =>
    ⟨by rw [hW.cell (p := ⟨w.heap.size, 0, none⟩) (by show w.heap.size < _; omega)]; exact c0, by rw [hW.cell (p := ⟨w.heap.size, 1, none⟩) (by show w.heap.size < _; omega)]; exact c1', range_later hqa hW (by omega), by rw [hW.cell (p := ⟨w.heap.size + 1, 32, none⟩) (by show w.heap.size + 1 < _; omega)]; exact hq32⟩
  have HTR : Hid (∀ W, Below W1.heap.size W1 W → W.there (w.heap.size + 2) 0 33) := fun W hW => there_block htr (hW.block _ (by omega))
  have hpos : 0 < w.heap.size := World.block_lt_of_cell? w _ (hkt 0 (by omega))
  have HNM : Hid (∀ W, Below W1.heap.size W1 W → Calls Tryd.prog 79 #[.string h] W fun e w' => e = .returned (aggD (dd Kc h)) ∧ Below W.heap.size W w') := fun W hW => hdName_any Kc h W (hkt.later (HB1.out.trans (hW.mono (by omega))) hpos) (by omega)
  have hb0 : ∀ W, (Instr.build 89 #[]).run Tryd.prog W = .ok (.agg #[.int .u8 0, .int .u8 0, .int .u8 0, .int .u8 0, .int .u8 0, .int .u8 0, .int .u8 0, .int .u8 0, .int .u8 0, .int .u8 0, .int .u8 0, .int .u8 0, .int .u8 0, .int .u8 0, .int .u8 0, .int .u8 0, .int .u8 0, .int .u8 0, .int .u8 0, .int .u8 0, .int .u8 0, .int .u8 0, .int .u8 0, .int .u8 0, .int .u8 0, .int .u8 0, .int .u8 0, .int .u8 0, .int .u8 0, .int .u8 0, .int .u8 0, .int .u8 0, .slice none 0 0]) W := fun W => run_build W _ _ _ built_rp0
  have hbl : (bc nm).length = 32 := by rw [bc_length, hnm]
  have hb1 : ∀ W, (Instr.build 89 #[(0, aggD nm)]).run Tryd.prog W = .ok (.agg (bc nm ++ [Value.slice none 0 0]).toArray) W := fun W => run_build W _ _ _ (built_rp (bc nm) hbl)
  have HB0 : Below W1.heap.size W1 W1.drew := ⟨rfl, rfl, rfl, Nat.le_refl _, fun _ _ => rfl⟩
  clear c0 c1' hrq htr hqa hqb hq32 hkt
  have hEQ : (!(nm.data.toList == (dd Kc h).data.toList)) = true := by
    have : (nm.data.toList == (dd Kc h).data.toList) = false := by
      rw [beq_eq_false_iff_ne]
      intro e; exact hx (by rw [← ofL_of nm, ← ofL_of (dd Kc h), e])
    rw [this]; rfl
  have heq : ∀ W : World, (binOp .neq 43 (.agg (bc nm).toArray) (.agg (bc (dd Kc h)).toArray)).run Tryd.prog W = .ok (.bool true) W := fun W => by have := neq_d nm (dd Kc h) hnm (dd_size Kc h) W; rw [hEQ] at this; exact this
  clear hEQ
  go_enter Tryd.func44, Tryd.ntmps44
  go_upto_region 1 with fail
  rw [← hW1]
  clear hW1
  refine q_frame (fun A HFR => ?_)
  have hsz : A.tmps.size = 44 := by rw [HFR.out]; rfl
  have h2 : A.eval (.tmp 2) = .pointer (some ⟨w.heap.size, 0, none⟩) := by rw [HFR.out]; rfl
  have h3 : A.eval (.tmp 3) = .pointer (some ⟨w.heap.size + 1, 0, none⟩) := by rw [HFR.out]; rfl
  refine wp_region_held_drew (S := fun W => W.cell? ⟨w.heap.size, 0, none⟩ = some (.string h) ∧ W.rangeAt (w.heap.size + 1) 0 (bc nm)) (by kernel_rfl) ⟨(HF.out _ (HB0.mono (by omega))).1, (HF.out _ (HB0.mono (by omega))).2.2.1⟩ (fun hS => ?_)
  refine wpAnyH_take (i := 0) (v := (.pointer (some ⟨w.heap.size + 1, 0, none⟩))) rfl (by kernel_rfl) (by kernel_rfl) (by kernel_rfl) (fun _ _ _ h => h) (Or.inl ⟨by rfl, fun W _ => q_run1 3 (.pointer (some ⟨w.heap.size + 1, 0, none⟩)) (by simp only [q_same, q_ne, q_sz, hsz, h2, h3, ne_eq, Nat.reduceEqDiff, not_false_eq_true, Nat.reduceLT]) (fun ρ hc hf e1 => by simp [go_sem, hc, hf, e1])⟩) hS ?_
  change wpAnyH _ _ _ _ _ _ _ (Act.put _ (some 9) _) _
  refine wpAnyH_take (i := 1) (v := aggD nm) rfl (by kernel_rfl) (by kernel_rfl) (by kernel_rfl) (fun _ _ _ h => h) (yieldsIf_load_mid (by rfl) 43 _ rfl (w.heap.size + 1) 0 (by simp only [q_same, q_ne, q_sz, hsz, h2, h3, ne_eq, Nat.reduceEqDiff, not_false_eq_true, Nat.reduceLT]) (bc nm) _ (fun W hW => hW.2) Tryd.underlying43 rfl (by rw [hbl]; kernel_rfl)) hS ?_
  change wpAnyH _ _ _ _ _ _ _ (Act.put _ (some 10) _) _
  refine wpAnyH_take (i := 2) (v := (.pointer (some ⟨w.heap.size, 0, none⟩))) rfl (by kernel_rfl) (by kernel_rfl) (by kernel_rfl) (fun _ _ _ h => h) (Or.inl ⟨by rfl, fun W _ => q_run1 2 (.pointer (some ⟨w.heap.size, 0, none⟩)) (by simp only [q_same, q_ne, q_sz, hsz, h2, h3, ne_eq, Nat.reduceEqDiff, not_false_eq_true, Nat.reduceLT]) (fun ρ hc hf e1 => by simp [go_sem, hc, hf, e1])⟩) hS ?_
  change wpAnyH _ _ _ _ _ _ _ (Act.put _ (some 11) _) _
  refine wpAnyH_take (i := 3) (v := (.string h)) rfl (by kernel_rfl) (by kernel_rfl) (by kernel_rfl) (fun _ _ _ h => h) (Or.inl ⟨by rfl, fun W hW => q_run1 11 (.pointer (some ⟨w.heap.size, 0, none⟩)) (by simp only [q_same, q_ne, q_sz, hsz, h2, h3, ne_eq, Nat.reduceEqDiff, not_false_eq_true, Nat.reduceLT]) (fun ρ hc hf e1 => by simp [go_sem, hc, hf, e1, hW.1])⟩) hS ?_
  change wpAnyH _ _ _ _ _ _ _ (Act.put _ (some 12) _) _
  refine qH_call 4 79 #[.string h] _ (by kernel_rfl) rfl rfl (q_run1 12 (.string h) (by simp only [q_same, q_ne, q_sz, hsz, h2, h3, ne_eq, Nat.reduceEqDiff, not_false_eq_true, Nat.reduceLT]) (fun ρ hc hf e1 => by simp [go_sem, hc, hf, e1])) (calls_val (HNM.out _ HB0)) ?_
  rintro _ w2 ⟨rfl, hb2⟩
  have HB2 : Below W1.heap.size W1 w2 := HB0.trans hb2
  have hS2 : w2.cell? ⟨w.heap.size, 0, none⟩ = some (.string h) ∧ w2.rangeAt (w.heap.size + 1) 0 (bc nm) := ⟨(HF.out _ (HB2.mono (by omega))).1, (HF.out _ (HB2.mono (by omega))).2.2.1⟩
  refine ⟨hS2, ?_⟩
  change wpAnyH _ _ _ _ _ _ _ (Act.put _ (some 13) _) _
  refine qH_one 5 (.bool true) w2 (by kernel_rfl) rfl rfl (q_run2 10 13 (.agg (bc nm).toArray) (.agg (bc (dd Kc h)).toArray) (by simp only [q_same, q_ne, q_sz, hsz, h2, h3, aggD, ne_eq, Nat.reduceEqDiff, not_false_eq_true, Nat.reduceLT]) (by simp only [q_same, q_ne, q_sz, hsz, h2, h3, aggD, ne_eq, Nat.reduceEqDiff, not_false_eq_true, Nat.reduceLT]) (fun ρ hc hf e1 e2 => by simp [go_sem, hc, e1, e2, heq])) hS2 ?_
  change wpAnyH _ _ _ _ _ _ _ (Act.put _ (some 14) _) _
  refine wpAnyH_done (by kernel_rfl) ?_ _
  have HB2' : Hid (Below W1.heap.size W1 w2) := HB2
  have hfr := HFR.out
  clear HFR hsz h2 h3 hS hS2 HB0 HB2 hb2 HNM heq
  subst hfr
  simp only [Act.put, List.setIfInBounds_toArray, List.set_cons_zero, List.set_cons_succ]
  have HT2 : Hid (w2.there (w.heap.size + 2) 0 33) := HTR.out _ HB2'.out
  go_wp2_with (refine wpList_store_list rfl 89 _ _ rfl (w.heap.size + 2) 0 zR rfl rfl ?_ (by kernel_rfl) zR_one ?_; exact HT2.out)
  refine bodyPost_ret (results_midt Tryd.results44 _ _ (w.heap.size + 2) zR _ _ rfl rfl (World.rangeAt_setCells_same _ _ _ _ HT2.out) Tryd.underlying89 rfl (by kernel_rfl)) rfl ⟨rfl, ?_⟩
  exact below_setCells (HB1.out.trans (HB2'.out.mono (by omega))) _ (by omega) _ _
end Go.Proofs.YtkmalggeieiepaaDoor
set_option linter.unusedSimpArgs false
namespace Go.Proofs.YtkmalggeieiepaaDoor
open Go.RowKit

/-- each place is one of the block. -/
def allB (T : List (List UInt8)) (q : List Nat) : Bool := q.all (fun i => decide (i < T.length))
theorem wpList_build1 {P : Program} {ops : Array Oper} {rest : List Oper} {op : Oper} {a : Act} {w : World} {Q : Exit → Act → World → Prop} (hgd : op.guard = none) (ty : TypeId) (k : Nat) (ho : op.op = .build ty #[(0, .tmp k)]) (u : Value) (hu : a.eval (.tmp k) = u)
    (cells : Array Value) (hb : ∀ W, (Instr.build ty #[(0, u)]).run P W = .ok (.agg cells) W) (h : wpList P ops Q rest (a.put op.dst (.agg cells)) w) : wpList P ops Q (op :: rest) a w :=
  wpList_plain hgd fun K hK => by
    unfold Oper.wp execOp
    simp only [ho, List.map_toArray, List.map_cons, List.map_nil, hu, Sem.run_bind, hb, Result.andThen_ok]
    exact hK _ _ h

set_option maxRecDepth 10000 in
set_option maxHeartbeats 2000000 in
theorem answer_same (Kc : Nat → Int) (h nm : ByteArray) (T : List (List UInt8)) (q : List Nat) (a1 a2 : Option Addr) (c1 c2 : Nat) (SQ : Array Value) (HSQ : Hid (SQ = (bc nm ++ [Value.slice a2 q.length c2]).toArray)) (w : World) (hkt : KT Kc w) (hnm : nm.size = 32) (hh : h.size ≤ 1000) (hx : nm = dd Kc h) (hr1 : 0 < T.length → ∃ b o, a1 = some ⟨b, o, none⟩ ∧ SRow w b o (T.map ofL)) (hr2 : 0 < q.length → ∃ b o, a2 = some ⟨b, o, none⟩ ∧ VRow w b o (natV q)) (hq16 : q.length ≤ 16) :
    Calls Tryd.prog 44 #[.agg #[.string h, .slice a1 T.length c1], .agg SQ] w fun x w' => (allB T q = true ∧ ∃ v, x = .returned (.tuple #[.agg (bc nm ++ [v]).toArray, .int .i64 0]) ∧ w'.ownsRow w.heap.size 9 1 v q.length (strB (outL T q)) ∧ Below w.heap.size w w') ∨ (allB T q = false ∧ x = .returned (.tuple #[.agg zR.toArray, .int .i64 4]) ∧ Below w.heap.size w w') := by
  obtain ⟨W1, hW1⟩ : ∃ W, W = ((w.alloc (.cells #[.string h, .slice a1 T.length c1] 65)).alloc (.cells SQ 83)).alloc (.cells #[.int .u8 0, .int .u8 0, .int .u8 0, .int .u8 0, .int .u8 0, .int .u8 0, .int .u8 0, .int .u8 0, .int .u8 0, .int .u8 0, .int .u8 0, .int .u8 0, .int .u8 0, .int .u8 0, .int .u8 0, .int .u8 0, .int .u8 0, .int .u8 0, .int .u8 0, .int .u8 0, .int .u8 0, .int .u8 0, .int .u8 0, .int .u8 0, .int .u8 0, .int .u8 0, .int .u8 0, .int .u8 0, .int .u8 0, .int .u8 0, .int .u8 0, .int .u8 0, .slice none 0 0] 89) := ⟨_, rfl⟩
  have HB1 : Hid (Below w.heap.size w W1) := by show Below _ _ _; rw [hW1]; exact (((Below.refl _ _).alloc (Nat.le_refl _) _).alloc (by simp) _).alloc (by simp; omega) _
  have hz1 : W1.heap.size = w.heap.size + 3 := by rw [hW1]; simp
  have c0 : W1.cell? ⟨w.heap.size, 0, none⟩ = some (.string h) := by rw [hW1]; simp [go_sem]
  have c1' : W1.cell? ⟨w.heap.size, 1, none⟩ = some (.slice a1 T.length c1) := by rw [hW1]; simp [go_sem]
  have hrq : W1.rangeAt (w.heap.size + 1) 0 (bc nm ++ [.slice a2 q.length c2]) := by
    have := range_new (w.alloc (.cells #[.string h, .slice a1 T.length c1] 65)) (bc nm ++ [.slice a2 q.length c2]) 83 SQ HSQ.out
    rw [hW1]; exact World.rangeAt_alloc (by simpa using this) _
  have htr : W1.there (w.heap.size + 2) 0 33 := by
    have := there_new ((w.alloc (.cells #[.string h, .slice a1 T.length c1] 65)).alloc (.cells SQ 83)) 89 (#[.int .u8 0, .int .u8 0, .int .u8 0, .int .u8 0, .int .u8 0, .int .u8 0, .int .u8 0, .int .u8 0, .int .u8 0, .int .u8 0, .int .u8 0, .int .u8 0, .int .u8 0, .int .u8 0, .int .u8 0, .int .u8 0, .int .u8 0, .int .u8 0, .int .u8 0, .int .u8 0, .int .u8 0, .int .u8 0, .int .u8 0, .int .u8 0, .int .u8 0, .int .u8 0, .int .u8 0, .int .u8 0, .int .u8 0, .int .u8 0, .int .u8 0, .int .u8 0, .slice none 0 0] : Array Value).toList
    rw [hW1]; simpa using this
  obtain ⟨hqa, hqb⟩ := range_app hrq
  rw [bc_length, hnm] at hqb
  have hq32 : W1.cell? ⟨w.heap.size + 1, 32, none⟩ = some (.slice a2 q.length c2) := hqb 0 _ rfl
  have HF : Hid (∀ W, Below (w.heap.size + 2) W1 W → W.cell? ⟨w.heap.size, 0, none⟩ = some (.string h) ∧ W.cell? ⟨w.heap.size, 1, none⟩ = some (.slice a1 T.length c1) ∧ W.rangeAt (w.heap.size + 1) 0 (bc nm) ∧ W.cell? ⟨w.heap.size + 1, 32, none⟩ = some (.slice a2 q.length c2)) := fun W hW =>
    ⟨by rw [hW.cell (p := ⟨w.heap.size, 0, none⟩) (by show w.heap.size < _; omega)]; exact c0, by rw [hW.cell (p := ⟨w.heap.size, 1, none⟩) (by show w.heap.size < _; omega)]; exact c1', range_later hqa hW (by omega), by rw [hW.cell (p := ⟨w.heap.size + 1, 32, none⟩) (by show w.heap.size + 1 < _; omega)]; exact hq32⟩
  have HTR : Hid (∀ W, Below W1.heap.size W1 W → W.there (w.heap.size + 2) 0 33) := fun W hW => there_block htr (hW.block _ (by omega))
  have hpos : 0 < w.heap.size := World.block_lt_of_cell? w _ (hkt 0 (by omega))
  have HNM : Hid (∀ W, Below W1.heap.size W1 W → Calls Tryd.prog 79 #[.string h] W fun e w' => e = .returned (aggD (dd Kc h)) ∧ Below W.heap.size W w') := fun W hW => hdName_any Kc h W (hkt.later (HB1.out.trans (hW.mono (by omega))) hpos) (by omega)
  have hb0 : ∀ W, (Instr.build 89 #[]).run Tryd.prog W = .ok (.agg #[.int .u8 0, .int .u8 0, .int .u8 0, .int .u8 0, .int .u8 0, .int .u8 0, .int .u8 0, .int .u8 0, .int .u8 0, .int .u8 0, .int .u8 0, .int .u8 0, .int .u8 0, .int .u8 0, .int .u8 0, .int .u8 0, .int .u8 0, .int .u8 0, .int .u8 0, .int .u8 0, .int .u8 0, .int .u8 0, .int .u8 0, .int .u8 0, .int .u8 0, .int .u8 0, .int .u8 0, .int .u8 0, .int .u8 0, .int .u8 0, .int .u8 0, .int .u8 0, .slice none 0 0]) W := fun W => run_build W _ _ _ built_rp0
  have hbl : (bc nm).length = 32 := by rw [bc_length, hnm]
  have hb1 : ∀ W, (Instr.build 89 #[(0, .agg (bc nm).toArray)]).run Tryd.prog W = .ok (.agg (bc nm ++ [Value.slice none 0 0]).toArray) W := fun W => run_build W _ _ _ (built_rp (bc nm) hbl)
  have HB0 : Below W1.heap.size W1 W1.drew := ⟨rfl, rfl, rfl, Nat.le_refl _, fun _ _ => rfl⟩
  clear c0 c1' hrq htr hqa hqb hq32 hkt
  obtain ⟨i0, hi, hz0, hzz1, hzz2⟩ := info_parts infoStr
  have hEQ : (!(nm.data.toList == (dd Kc h).data.toList)) = false := by rw [← hx]; simp
  have heq : ∀ W : World, (binOp .neq 43 (.agg (bc nm).toArray) (.agg (bc (dd Kc h)).toArray)).run Tryd.prog W = .ok (.bool false) W := fun W => by have := neq_d nm (dd Kc h) hnm (dd_size Kc h) W; rw [hEQ] at this; exact this
  have HR1 : Hid (0 < T.length → ∃ b o, a1 = some ⟨b, o, none⟩ ∧ SRow w b o (T.map ofL)) := hr1
  have HR2 : Hid (0 < q.length → ∃ b o, a2 = some ⟨b, o, none⟩ ∧ VRow w b o (natV q)) := hr2
  clear hEQ hr1 hr2 hx
  go_enter Tryd.func44, Tryd.ntmps44
  go_upto_region 1 with fail
  rw [← hW1]
  clear hW1
  refine q_frame (fun A HFR => ?_)
  have hsz : A.tmps.size = 44 := by rw [HFR.out]; rfl
  have h2 : A.eval (.tmp 2) = .pointer (some ⟨w.heap.size, 0, none⟩) := by rw [HFR.out]; rfl
  have h3 : A.eval (.tmp 3) = .pointer (some ⟨w.heap.size + 1, 0, none⟩) := by rw [HFR.out]; rfl
  refine wp_region_held_drew (S := fun W => W.cell? ⟨w.heap.size, 0, none⟩ = some (.string h) ∧ W.rangeAt (w.heap.size + 1) 0 (bc nm)) (by kernel_rfl) ⟨(HF.out _ (HB0.mono (by omega))).1, (HF.out _ (HB0.mono (by omega))).2.2.1⟩ (fun hS => ?_)
  refine wpAnyH_take (i := 0) (v := (.pointer (some ⟨w.heap.size + 1, 0, none⟩))) rfl (by kernel_rfl) (by kernel_rfl) (by kernel_rfl) (fun _ _ _ h => h) (Or.inl ⟨by rfl, fun W _ => q_run1 3 (.pointer (some ⟨w.heap.size + 1, 0, none⟩)) (by simp only [q_same, q_ne, q_sz, hsz, h2, h3, ne_eq, Nat.reduceEqDiff, not_false_eq_true, Nat.reduceLT]) (fun ρ hc hf e1 => by simp [go_sem, hc, hf, e1])⟩) hS ?_
  change wpAnyH _ _ _ _ _ _ _ (Act.put _ (some 9) _) _
  refine wpAnyH_take (i := 1) (v := aggD nm) rfl (by kernel_rfl) (by kernel_rfl) (by kernel_rfl) (fun _ _ _ h => h) (yieldsIf_load_mid (by rfl) 43 _ rfl (w.heap.size + 1) 0 (by simp only [q_same, q_ne, q_sz, hsz, h2, h3, ne_eq, Nat.reduceEqDiff, not_false_eq_true, Nat.reduceLT]) (bc nm) _ (fun W hW => hW.2) Tryd.underlying43 rfl (by rw [hbl]; kernel_rfl)) hS ?_
  change wpAnyH _ _ _ _ _ _ _ (Act.put _ (some 10) _) _
  refine wpAnyH_take (i := 2) (v := (.pointer (some ⟨w.heap.size, 0, none⟩))) rfl (by kernel_rfl) (by kernel_rfl) (by kernel_rfl) (fun _ _ _ h => h) (Or.inl ⟨by rfl, fun W _ => q_run1 2 (.pointer (some ⟨w.heap.size, 0, none⟩)) (by simp only [q_same, q_ne, q_sz, hsz, h2, h3, ne_eq, Nat.reduceEqDiff, not_false_eq_true, Nat.reduceLT]) (fun ρ hc hf e1 => by simp [go_sem, hc, hf, e1])⟩) hS ?_
  change wpAnyH _ _ _ _ _ _ _ (Act.put _ (some 11) _) _
  refine wpAnyH_take (i := 3) (v := (.string h)) rfl (by kernel_rfl) (by kernel_rfl) (by kernel_rfl) (fun _ _ _ h => h) (Or.inl ⟨by rfl, fun W hW => q_run1 11 (.pointer (some ⟨w.heap.size, 0, none⟩)) (by simp only [q_same, q_ne, q_sz, hsz, h2, h3, ne_eq, Nat.reduceEqDiff, not_false_eq_true, Nat.reduceLT]) (fun ρ hc hf e1 => by simp [go_sem, hc, hf, e1, hW.1])⟩) hS ?_
  change wpAnyH _ _ _ _ _ _ _ (Act.put _ (some 12) _) _
  refine qH_call 4 79 #[.string h] _ (by kernel_rfl) rfl rfl (q_run1 12 (.string h) (by simp only [q_same, q_ne, q_sz, hsz, h2, h3, ne_eq, Nat.reduceEqDiff, not_false_eq_true, Nat.reduceLT]) (fun ρ hc hf e1 => by simp [go_sem, hc, hf, e1])) (calls_val (HNM.out _ HB0)) ?_
  rintro _ w2 ⟨rfl, hb2⟩
  have HB2 : Below W1.heap.size W1 w2 := HB0.trans hb2
  have hS2 : w2.cell? ⟨w.heap.size, 0, none⟩ = some (.string h) ∧ w2.rangeAt (w.heap.size + 1) 0 (bc nm) := ⟨(HF.out _ (HB2.mono (by omega))).1, (HF.out _ (HB2.mono (by omega))).2.2.1⟩
  refine ⟨hS2, ?_⟩
  change wpAnyH _ _ _ _ _ _ _ (Act.put _ (some 13) _) _
  refine qH_one 5 (.bool false) w2 (by kernel_rfl) rfl rfl (q_run2 10 13 (.agg (bc nm).toArray) (.agg (bc (dd Kc h)).toArray) (by simp only [q_same, q_ne, q_sz, hsz, h2, h3, aggD, ne_eq, Nat.reduceEqDiff, not_false_eq_true, Nat.reduceLT]) (by simp only [q_same, q_ne, q_sz, hsz, h2, h3, aggD, ne_eq, Nat.reduceEqDiff, not_false_eq_true, Nat.reduceLT]) (fun ρ hc hf e1 e2 => by simp [go_sem, hc, e1, e2, heq])) hS2 ?_
  change wpAnyH _ _ _ _ _ _ _ (Act.put _ (some 14) _) _
  refine wpAnyH_done (by kernel_rfl) ?_ _
  have HB2' : Hid (Below W1.heap.size W1 w2) := HB2
  have hfr := HFR.out
  clear HFR hsz h2 h3 hS hS2 HB0 HB2 hb2 HNM heq
  subst hfr
  simp only [Act.put, List.setIfInBounds_toArray, List.set_cons_zero, List.set_cons_succ]
  have hs2 := HB2'.out.size
  have HRQ : Hid (w2.rangeAt (w.heap.size + 1) 0 (bc nm)) := (HF.out _ (HB2'.out.mono (by omega))).2.2.1
  have HL33 : Hid ((bc nm ++ [Value.slice none 0 0]).length = 33) := by show _ = _; rw [List.length_append, hbl]; rfl
  have HB1B : Hid (∀ W, (Instr.build 89 #[(0, .agg (bc nm).toArray)]).run Tryd.prog W = .ok (.agg (bc nm ++ [Value.slice none 0 0]).toArray) W) := hb1
  clear hb1
  go_upto_region 4 with (first
    | (refine wpList_build1 rfl 89 17 rfl (.agg (bc nm).toArray) rfl _ HB1B.out ?_)
    | (refine wpList_load_mid rfl 43 _ rfl (w.heap.size + 1) 0 rfl (bc nm) _ ?_ Tryd.underlying43 rfl ?_ ?_; exact HRQ.out; rw [hbl]; kernel_rfl)
    | (refine wpList_store_list rfl 89 _ _ rfl w2.heap.size 0 (bc nm ++ [Value.slice none 0 0]) rfl rfl ?_ ?_ (bc_slice_one nm none 0 0) ?_; rw [HL33.out]; exact there_new w2 89 (#[.int .u8 0, .int .u8 0, .int .u8 0, .int .u8 0, .int .u8 0, .int .u8 0, .int .u8 0, .int .u8 0, .int .u8 0, .int .u8 0, .int .u8 0, .int .u8 0, .int .u8 0, .int .u8 0, .int .u8 0, .int .u8 0, .int .u8 0, .int .u8 0, .int .u8 0, .int .u8 0, .int .u8 0, .int .u8 0, .int .u8 0, .int .u8 0, .int .u8 0, .int .u8 0, .int .u8 0, .int .u8 0, .int .u8 0, .int .u8 0, .int .u8 0, .int .u8 0, .slice none 0 0] : Array Value).toList; rw [HL33.out]; kernel_rfl))
  obtain ⟨W4, hW4⟩ : ∃ W, W = (w2.alloc (.cells #[.int .u8 0, .int .u8 0, .int .u8 0, .int .u8 0, .int .u8 0, .int .u8 0, .int .u8 0, .int .u8 0, .int .u8 0, .int .u8 0, .int .u8 0, .int .u8 0, .int .u8 0, .int .u8 0, .int .u8 0, .int .u8 0, .int .u8 0, .int .u8 0, .int .u8 0, .int .u8 0, .int .u8 0, .int .u8 0, .int .u8 0, .int .u8 0, .int .u8 0, .int .u8 0, .int .u8 0, .int .u8 0, .int .u8 0, .int .u8 0, .int .u8 0, .int .u8 0, .slice none 0 0] 89)).setCells w2.heap.size 0 (bc nm ++ [Value.slice none 0 0]) := ⟨_, rfl⟩
  have ht4 : (w2.alloc (.cells #[.int .u8 0, .int .u8 0, .int .u8 0, .int .u8 0, .int .u8 0, .int .u8 0, .int .u8 0, .int .u8 0, .int .u8 0, .int .u8 0, .int .u8 0, .int .u8 0, .int .u8 0, .int .u8 0, .int .u8 0, .int .u8 0, .int .u8 0, .int .u8 0, .int .u8 0, .int .u8 0, .int .u8 0, .int .u8 0, .int .u8 0, .int .u8 0, .int .u8 0, .int .u8 0, .int .u8 0, .int .u8 0, .int .u8 0, .int .u8 0, .int .u8 0, .int .u8 0, .slice none 0 0] 89)).there w2.heap.size 0 33 := there_new w2 89 (#[.int .u8 0, .int .u8 0, .int .u8 0, .int .u8 0, .int .u8 0, .int .u8 0, .int .u8 0, .int .u8 0, .int .u8 0, .int .u8 0, .int .u8 0, .int .u8 0, .int .u8 0, .int .u8 0, .int .u8 0, .int .u8 0, .int .u8 0, .int .u8 0, .int .u8 0, .int .u8 0, .int .u8 0, .int .u8 0, .int .u8 0, .int .u8 0, .int .u8 0, .int .u8 0, .int .u8 0, .int .u8 0, .int .u8 0, .int .u8 0, .int .u8 0, .int .u8 0, .slice none 0 0] : Array Value).toList
  have hr4 : W4.rangeAt w2.heap.size 0 (bc nm ++ [Value.slice none 0 0]) := by rw [hW4]; exact World.rangeAt_setCells_same _ _ _ _ (by rw [HL33.out]; exact ht4)
  have ht4' : W4.there w2.heap.size 0 33 := by rw [hW4]; exact World.there_setCells ht4 _ _ _
  have hb4 : Below w2.heap.size w2 W4 := by rw [hW4]; exact below_setCells ((Below.refl _ _).alloc (Nat.le_refl _) _) _ (Nat.le_refl _) _ _
  obtain ⟨hra, hrb⟩ := range_app hr4
  rw [hbl] at hrb
  have HCA : Hid (W4.rangeAt w2.heap.size 0 (bc nm)) := hra
  have HCB : Hid (W4.cell? ⟨w2.heap.size, 32, none⟩ = some (.slice none 0 0)) := hrb 0 _ rfl
  have HCF : Hid (W4.frozen? ⟨w2.heap.size, 32, none⟩ = false) := by have := (ht4' 32 (by omega)).2; rw [Nat.zero_add] at this; exact this
  have HB4 : Hid (Below W1.heap.size W1 W4) := HB2'.out.trans (hb4.mono hs2)
  rw [← hW4]
  clear hW4 ht4 ht4' hr4 hb4 hra hrb HRQ
  have hq32 := (HF.out W4 (HB4.out.mono (by omega))).2.2.2
  have hz4 := HB4.out.size
  have HZ2 : Hid (W1.heap.size ≤ w2.heap.size) := hs2
  go_upto_region 5 with fail
  clear hq32
  go_loopg [22] q.length (fun g i wx => ∃ j : Nat, ∃ v : Value, j + g = q.length ∧ i = .int .i64 (j : Int) ∧ (∀ (k : Nat) (hk : k < q.length), k < j → q[k] < T.length) ∧ wx.cell? ⟨w2.heap.size, 32, none⟩ = some v ∧ wx.frozen? ⟨w2.heap.size, 32, none⟩ = false ∧ wx.rangeAt w2.heap.size 0 (bc nm) ∧ wx.ownsRow (w2.heap.size + 1) 9 1 v j (strB (outL T (q.take j))) ∧ Below w2.heap.size W4 wx)
  case atStart => exact ⟨0, .slice none 0 0, by omega, rfl, fun _ _ h => by omega, HCB.out, HCF.out, HCA.out, World.ownsRow_nil _ _ _ _, Below.refl _ _⟩
  case round =>
    clear HCB HCF HCA
    obtain ⟨j, v, hjg, rfl, hall, hcv, hfv, hrn, hown, hb⟩ := hrel
    have HALL : Hid (∀ (k : Nat) (hk : k < q.length), k < j → q[k] < T.length) := hall
    have HO : Hid (wr.ownsRow (w2.heap.size + 1) 9 1 v j (strB (outL T (q.take j)))) := hown
    have HBB : Hid (Below w2.heap.size W4 wr) := hb
    have HB14 : Hid (Below W1.heap.size W1 wr) := HB4.out.trans (hb.mono HZ2.out)
    have HJ : Hid (j + gk = q.length) := hjg
    have HRN : Hid (wr.rangeAt w2.heap.size 0 (bc nm)) := hrn
    have hkw : w2.heap.size < wr.heap.size := World.block_lt_of_cell? wr _ hcv
    obtain ⟨va, vn, vc, rfl⟩ := own_slice hown
    have HCV : Hid (wr.cell? ⟨w2.heap.size, 32, none⟩ = some (.slice va vn vc)) := hcv
    have HFV : Hid (wr.frozen? ⟨w2.heap.size, 32, none⟩ = false) := hfv
    clear hall hown hb hrn hcv hfv
    obtain ⟨_, hp1, _, _⟩ := HF.out wr (HB14.out.mono (by omega))
    have HTW : Hid (wr.there (w.heap.size + 2) 0 33) := HTR.out _ HB14.out
    have HWW : Hid (Below w.heap.size w wr) := HB1.out.trans (HB14.out.mono (by omega))
    by_cases hlt : j < q.length
    · obtain ⟨b2, o2, rfl, hrow2⟩ := HR2.out (by omega)
      have hb2w := hrow2.lt (by simp [natV]; omega)
      have cj : wr.cell? ⟨b2, o2 + j, none⟩ = some (.int .i64 (q[j] : Int)) := by
        have := (hrow2.later HWW.out hb2w) j (by simp [natV]; omega)
        rw [this]; simp [natV]
      have hji : (j : Int) < (q.length : Int) := by omega
      have HSN := (show Hid (outL T (q.take (j + 1)) = outL T (q.take j) ++ [T.getD q[j] []]) from outL_snoc T q j hlt)
      have HSTEP := (show Hid (q[j] < T.length → ∀ (k : Nat) (hk : k < q.length), k < j + 1 → q[k] < T.length) from fun h k hk hk2 => by
        rcases Nat.lt_or_ge k j with h3 | h3
        · exact HALL.out k hk h3
        · obtain rfl : k = j := by omega
          exact h)
      have HBAD := (show Hid (T.length ≤ q[j] → ¬ q.all (fun i => decide (i < T.length)) = true) from all_not q T.length j hlt)
      generalize q[j] = x at cj HSN HSTEP HBAD
      clear hrow2
      by_cases hx : x < T.length
      · obtain ⟨b1, o1, rfl, hrow1⟩ := HR1.out (by omega)
        have hb1w := hrow1.lt (by simp; omega)
        have cx : ∀ W, Below w.heap.size w W → W.cell? ⟨b1, o1 + x, none⟩ = some (.string (ofL (T.getD x []))) := fun W hW => by
          have := (hrow1.later hW hb1w) x (by simp; omega)
          rw [this]; simp [List.getD, hx]
        have HCX : Hid (∀ W, Below w.heap.size w W → W.cell? ⟨b1, o1 + x, none⟩ = some (.string (ofL (T.getD x [])))) := cx
        have hxi : (x : Int) < (T.length : Int) := by omega
        have hxn : ¬ ((T.length : Int) ≤ (x : Int)) := by omega
        generalize T.getD x [] = tx at HCX HSN
        clear cx hrow1 HBAD HALL
        go_upto_region 9 with fail
        clear hp1 cj
        have HB0 : Below wr.heap.size wr wr.drew := ⟨rfl, rfl, rfl, Nat.le_refl _, fun _ _ => rfl⟩
        refine q_frame (fun A HFR => ?_)
        have hsz : A.tmps.size = 44 := by rw [HFR.out]; rfl
        have h2 : A.eval (.tmp 2) = .pointer (some ⟨w.heap.size, 0, none⟩) := by rw [HFR.out]; rfl
        have h6 : A.eval (.tmp 6) = .pointer (some ⟨w2.heap.size, 0, none⟩) := by rw [HFR.out]; rfl
        have h8 : A.eval (.tmp 8) = .int .i64 (x : Int) := by rw [HFR.out]; rfl
        have HS0 : ∀ W, Below w2.heap.size W4 W → W.cell? ⟨w2.heap.size, 32, none⟩ = some (.slice va vn vc) → (W.cell? ⟨w2.heap.size, 32, none⟩ = some (.slice va vn vc) ∧ W.cell? ⟨w.heap.size, 1, none⟩ = some (.slice (some ⟨b1, o1, none⟩) T.length c1) ∧ W.cell? ⟨b1, o1 + x, none⟩ = some (.string (ofL tx))) := fun W hW hc => by
          have hW1 : Below W1.heap.size W1 W := HB4.out.trans (hW.mono HZ2.out)
          exact ⟨hc, (HF.out W (hW1.mono (by omega))).2.1, HCX.out W (HB1.out.trans (hW1.mono (by omega)))⟩
        refine wp_region_T (k := 10) (S := fun W => W.cell? ⟨w2.heap.size, 32, none⟩ = some (.slice va vn vc) ∧ W.cell? ⟨w.heap.size, 1, none⟩ = some (.slice (some ⟨b1, o1, none⟩) T.length c1) ∧ W.cell? ⟨b1, o1 + x, none⟩ = some (.string (ofL tx))) (by kernel_rfl) (HS0 _ (HBB.out.trans (HB0.mono (Nat.le_of_lt hkw))) HCV.out) (fun hS => ?_)
        have kix : wr.heap.size = wr.heap.size := rfl
        refine wpAnyT_take (i := 0) (v := (.pointer (some ⟨w2.heap.size, 32, none⟩))) rfl (by kernel_rfl) (by kernel_rfl) (by kernel_rfl) (by kernel_rfl) (fun _ _ _ h => h) (Or.inl ⟨by rfl, fun W _ => q_run1 6 (.pointer (some ⟨w2.heap.size, 0, none⟩)) (by simp only [q_same, q_ne, q_sz, hsz, h2, h6, h8, ne_eq, Nat.reduceEqDiff, not_false_eq_true, Nat.reduceLT]) (fun ρ hc hf e1 => by simp [go_sem, hc, hf, e1])⟩) hS ?_
        change wpAnyT _ _ _ _ _ _ _ _ (Act.put _ (some 32) _) _
        refine wpAnyT_take (i := 1) (v := (.slice va vn vc)) rfl (by kernel_rfl) (by kernel_rfl) (by kernel_rfl) (by kernel_rfl) (fun _ _ _ h => h) (Or.inl ⟨by rfl, fun W hW => q_run1 32 (.pointer (some ⟨w2.heap.size, 32, none⟩)) (by simp only [q_same, q_ne, q_sz, hsz, h2, h6, h8, ne_eq, Nat.reduceEqDiff, not_false_eq_true, Nat.reduceLT]) (fun ρ hc hf e1 => by simp [go_sem, hc, hf, e1, hW.1])⟩) hS ?_
        change wpAnyT _ _ _ _ _ _ _ _ (Act.put _ (some 33) _) _
        refine wpAnyT_take (i := 2) (v := (.pointer (some ⟨w.heap.size, 1, none⟩))) rfl (by kernel_rfl) (by kernel_rfl) (by kernel_rfl) (by kernel_rfl) (fun _ _ _ h => h) (Or.inl ⟨by rfl, fun W _ => q_run1 2 (.pointer (some ⟨w.heap.size, 0, none⟩)) (by simp only [q_same, q_ne, q_sz, hsz, h2, h6, h8, ne_eq, Nat.reduceEqDiff, not_false_eq_true, Nat.reduceLT]) (fun ρ hc hf e1 => by simp [go_sem, hc, hf, e1])⟩) hS ?_
        change wpAnyT _ _ _ _ _ _ _ _ (Act.put _ (some 34) _) _
        refine wpAnyT_take (i := 3) (v := (.slice (some ⟨b1, o1, none⟩) T.length c1)) rfl (by kernel_rfl) (by kernel_rfl) (by kernel_rfl) (by kernel_rfl) (fun _ _ _ h => h) (Or.inl ⟨by rfl, fun W hW => q_run1 34 (.pointer (some ⟨w.heap.size, 1, none⟩)) (by simp only [q_same, q_ne, q_sz, hsz, h2, h6, h8, ne_eq, Nat.reduceEqDiff, not_false_eq_true, Nat.reduceLT]) (fun ρ hc hf e1 => by simp [go_sem, hc, hf, e1, hW.2.1])⟩) hS ?_
        change wpAnyT _ _ _ _ _ _ _ _ (Act.put _ (some 35) _) _
        refine wpAnyT_take (i := 4) (v := (.int .i64 (x : Int))) rfl (by kernel_rfl) (by kernel_rfl) (by kernel_rfl) (by kernel_rfl) (fun _ _ _ h => h) (Or.inl ⟨by rfl, fun W _ => q_run1 8 (.int .i64 (x : Int)) (by simp only [q_same, q_ne, q_sz, hsz, h2, h6, h8, ne_eq, Nat.reduceEqDiff, not_false_eq_true, Nat.reduceLT]) (fun ρ hc hf e1 => by simp [go_sem, hc, hf, e1])⟩) hS ?_
        change wpAnyT _ _ _ _ _ _ _ _ (Act.put _ (some 36) _) _
        refine wpAnyT_take (i := 5) (v := (.pointer (some ⟨b1, o1 + x, none⟩))) rfl (by kernel_rfl) (by kernel_rfl) (by kernel_rfl) (by kernel_rfl) (fun _ _ _ h => h) (Or.inl ⟨by rfl, fun W _ => q_run2 35 36 (.slice (some ⟨b1, o1, none⟩) T.length c1) (.int .i64 (x : Int)) (by simp only [q_same, q_ne, q_sz, hsz, h2, h6, h8, ne_eq, Nat.reduceEqDiff, not_false_eq_true, Nat.reduceLT]) (by simp only [q_same, q_ne, q_sz, hsz, h2, h6, h8, ne_eq, Nat.reduceEqDiff, not_false_eq_true, Nat.reduceLT]) (fun ρ hc hf e1 e2 => by simp [go_sem, hc, hf, e1, e2, hxi])⟩) hS ?_
        change wpAnyT _ _ _ _ _ _ _ _ (Act.put _ (some 37) _) _
        refine wpAnyT_take (i := 6) (v := (.string (ofL tx))) rfl (by kernel_rfl) (by kernel_rfl) (by kernel_rfl) (by kernel_rfl) (fun _ _ _ h => h) (Or.inl ⟨by rfl, fun W hW => q_run1 37 (.pointer (some ⟨b1, o1 + x, none⟩)) (by simp only [q_same, q_ne, q_sz, hsz, h2, h6, h8, ne_eq, Nat.reduceEqDiff, not_false_eq_true, Nat.reduceLT]) (fun ρ hc hf e1 => by simp [go_sem, hc, hf, e1, hW.2.2])⟩) hS ?_
        change wpAnyT _ _ _ _ _ _ _ _ (Act.put _ (some 38) _) _
        have HBA : Below wr.heap.size wr (wr.drew.alloc (.cells #[.string (ofL tx)] 9)) := HB0.alloc (Nat.le_refl _) _
        have hSA := HS0 _ (HBB.out.trans (HBA.mono (Nat.le_of_lt hkw))) (by rw [HBA.cell (p := ⟨w2.heap.size, 32, none⟩) hkw]; exact HCV.out)
        refine qT_one 7 (.slice (some ⟨wr.heap.size, 0, none⟩) 1 1) (wr.drew.alloc (.cells #[.string (ofL tx)] 9)) (by kernel_rfl) rfl rfl (q_run1 38 (.string (ofL tx)) (by simp only [q_same, q_ne, q_sz, hsz, h2, h6, h8, ne_eq, Nat.reduceEqDiff, not_false_eq_true, Nat.reduceLT]) (fun ρ hc hf e1 => by simp [go_sem, hc, hf, e1])) (fun _ => hSA) ?_
        change wpAnyT _ _ _ _ _ _ _ _ (Act.put _ (some 39) _) _
        refine qT_step 8 (by kernel_rfl) rfl (fun K hK => ?_)
        refine step_append_lies _ rfl (.tmp 33) (.tmp 39) 30 rfl (w2.heap.size + 1) 9 i0 (.string ByteArray.empty) 1 16 Tryd.underlying30 hi hz0 hzz1 hzz2 rfl (by decide) (.slice va vn vc) j (strB (outL T (q.take j))) (by simp only [q_same, q_ne, q_sz, hsz, h2, h6, h8, ne_eq, Nat.reduceEqDiff, not_false_eq_true, Nat.reduceLT]) (World.ownsRow.alloc (w := wr.drew) HO.out _) ⟨wr.heap.size, 0, none⟩ 1 1 [.string (ofL tx)] (by simp only [q_same, q_ne, q_sz, hsz, h2, h6, h8, ne_eq, Nat.reduceEqDiff, not_false_eq_true, Nat.reduceLT]) rfl (one_new wr.drew _ _) (one_str _) (by omega) (by unfold maxLen; omega) (by omega) (by simp; omega) _ rfl ?_
        intro g6 c6 w6 ho6 hgr6 _ _
        have HB6 : Below (w2.heap.size + 1) wr w6 := (HBA.mono (by omega)).grown hgr6 (by simp; omega) (ownBlock_ge HO.out)
        have hc6 : w6.cell? ⟨w2.heap.size, 32, none⟩ = some (.slice va vn vc) := by rw [HB6.cell (p := ⟨w2.heap.size, 32, none⟩) (Nat.lt_succ_self _)]; exact HCV.out
        have hf6 : w6.frozen? ⟨w2.heap.size, 32, none⟩ = false := by rw [HB6.frozen (p := ⟨w2.heap.size, 32, none⟩) (Nat.lt_succ_self _)]; exact HFV.out
        have hS6 := HS0 w6 (HBB.out.trans (HB6.mono (Nat.le_succ _))) hc6
        refine hK.out _ _ (fun _ => hS6) ?_
        change wpAnyT _ _ _ _ _ _ _ _ (Act.put _ (some 40) _) _
        refine qT_one 9 (.pointer (some ⟨w2.heap.size, 32, none⟩)) w6 (by kernel_rfl) rfl rfl (q_run1 6 (.pointer (some ⟨w2.heap.size, 0, none⟩)) (by simp only [q_same, q_ne, q_sz, hsz, h2, h6, h8, ne_eq, Nat.reduceEqDiff, not_false_eq_true, Nat.reduceLT]) (fun ρ hc hf e1 => by simp [go_sem, hc, hf, e1])) (fun _ => hS6) ?_
        change wpAnyT _ _ _ _ _ _ _ _ (Act.put _ (some 41) _) _
        refine qT_skip 10 (w6.setCell ⟨w2.heap.size, 32, none⟩ (.slice (some ⟨g6, 0, none⟩) (j + 1) c6)) (by kernel_rfl) rfl rfl (q_run2 41 40 (.pointer (some ⟨w2.heap.size, 32, none⟩)) (.slice (some ⟨g6, 0, none⟩) (j + 1) c6) (by simp only [q_same, q_ne, q_sz, hsz, h2, h6, h8, ne_eq, Nat.reduceEqDiff, not_false_eq_true, Nat.reduceLT]) (by simp only [q_same, q_ne, q_sz, hsz, h2, h6, h8, ne_eq, Nat.reduceEqDiff, not_false_eq_true, Nat.reduceLT]) (fun ρ hc hf e1 e2 => by simp [go_sem, hc, hf, e1, e2, hc6, hf6])) (fun h => absurd rfl h) ?_
        refine wpAnyT_done (by kernel_rfl) ?_ _
        have HM7 : Mov w2.heap.size w6 (w6.setCell ⟨w2.heap.size, 32, none⟩ (.slice (some ⟨g6, 0, none⟩) (j + 1) c6)) := (Mov.refl w2.heap.size w6).set 32 _
        have HX1 : Hid ((w6.setCell ⟨w2.heap.size, 32, none⟩ (.slice (some ⟨g6, 0, none⟩) (j + 1) c6)).cell? ⟨w2.heap.size, 32, none⟩ = some (.slice (some ⟨g6, 0, none⟩) (j + 1) c6)) := World.cell?_setCell_same _ _ _ hc6
        have HX2 : Hid ((w6.setCell ⟨w2.heap.size, 32, none⟩ (.slice (some ⟨g6, 0, none⟩) (j + 1) c6)).frozen? ⟨w2.heap.size, 32, none⟩ = false) := by show _ = _; simp only [World.frozen?_setCell]; exact hf6
        have HX3 : Hid ((w6.setCell ⟨w2.heap.size, 32, none⟩ (.slice (some ⟨g6, 0, none⟩) (j + 1) c6)).rangeAt w2.heap.size 0 (bc nm)) := fun i u hu => by
          have hi2 : i < 32 := by have := (List.getElem?_eq_some_iff.1 hu).1; rw [hbl] at this; exact this
          rw [World.cell?_setCell_other _ _ _ _ (by intro h; injection h with _ h2; omega)]
          exact (range_later HRN.out HB6 (Nat.lt_succ_self _)) i u hu
        have HX4 : Hid ((w6.setCell ⟨w2.heap.size, 32, none⟩ (.slice (some ⟨g6, 0, none⟩) (j + 1) c6)).ownsRow (w2.heap.size + 1) 9 1 (.slice (some ⟨g6, 0, none⟩) (j + 1) c6) (j + 1) (strB (outL T (q.take (j + 1))))) := by
          show World.ownsRow _ _ _ _ _ _ _
          rw [HSN.out, strB_snoc]; exact own_mov ho6 HM7 (Nat.lt_succ_self _)
        have HX5 : Hid (Below w2.heap.size W4 (w6.setCell ⟨w2.heap.size, 32, none⟩ (.slice (some ⟨g6, 0, none⟩) (j + 1) c6))) := (HBB.out.trans (HB6.mono (Nat.le_succ _))).setCell (Nat.le_refl _) _
        have hfr := HFR.out
        clear HFR hsz h2 h6 h8 hS hSA hS6 HS0 HB0 HBA HB6 HM7 hc6 hf6 ho6 hgr6 HCX kix
        generalize w6.setCell ⟨w2.heap.size, 32, none⟩ (.slice (some ⟨g6, 0, none⟩) (j + 1) c6) = W7 at HX1 HX2 HX3 HX4 HX5
        subst hfr
        simp only [Act.put, List.setIfInBounds_toArray, List.set_cons_zero, List.set_cons_succ]
        go_wp2
        go_roundg (gk - 1)
        case measure => have := HJ.out; omega
        case rel =>
          have h1 := HJ.out
          exact ⟨j + 1, .slice (some ⟨g6, 0, none⟩) (j + 1) c6, by omega, by go_num, HSTEP.out hx, HX1.out, HX2.out, HX3.out, HX4.out, HX5.out⟩
      · have hxi : ¬ ((x : Int) < (T.length : Int)) := by omega
        have hxj : (T.length : Int) ≤ (x : Int) := by omega
        have HNA : Hid (allB T q = false) := Bool.eq_false_iff.2 (HBAD.out (by omega))
        clear hjg HALL HSN HBAD HSTEP
        go_wp2_with (refine wpList_store_list rfl 89 _ _ rfl (w.heap.size + 2) 0 zR rfl rfl ?_ (by kernel_rfl) zR_one ?_; exact HTW.out)
        refine bodyPost_ret (results_midt Tryd.results44 _ _ (w.heap.size + 2) zR _ _ rfl rfl (World.rangeAt_setCells_same _ _ _ _ HTW.out) Tryd.underlying89 rfl (by kernel_rfl)) rfl (.inr ⟨HNA.out, rfl, ?_⟩)
        exact below_setCells HWW.out _ (by omega) _ _
    · obtain rfl : j = q.length := by omega
      have hok : q.all (fun i => decide (i < T.length)) = true := all_take q T.length (fun k hk => HALL.out k hk hk)
      have HOK : Hid (allB T q = true) := hok
      rw [List.take_length] at HO
      have HRJ : Hid (wr.rangeAt w2.heap.size 0 (bc nm ++ [Value.slice va vn vc])) := range_join HRN.out (by rw [hbl]; exact HCV.out)
      have HL2 : Hid ((bc nm ++ [Value.slice va vn vc]).length = 33) := by show _ = _; rw [List.length_append, hbl]; rfl
      clear hok hjg HALL hp1
      go_wp2_with (first
        | (refine wpList_load_mid rfl 89 _ rfl w2.heap.size 0 rfl (bc nm ++ [Value.slice va vn vc]) _ ?_ Tryd.underlying89 rfl ?_ ?_; exact HRJ.out; rw [HL2.out]; kernel_rfl)
        | (refine wpList_store_list rfl 89 _ _ rfl (w.heap.size + 2) 0 (bc nm ++ [Value.slice va vn vc]) rfl rfl ?_ ?_ (bc_slice_one nm va vn vc) ?_; rw [HL2.out]; exact HTW.out; rw [HL2.out]; kernel_rfl))
      have hM7 : Mov (w.heap.size + 2) wr (wr.setCells (w.heap.size + 2) 0 (bc nm ++ [Value.slice va vn vc])) := mov_cells _ _ _ _
      refine bodyPost_ret (results_midt Tryd.results44 _ _ (w.heap.size + 2) (bc nm ++ [Value.slice va vn vc]) _ _ rfl rfl (World.rangeAt_setCells_same _ _ _ _ (by rw [HL2.out]; exact HTW.out)) Tryd.underlying89 rfl (by rw [HL2.out]; kernel_rfl)) rfl (.inl ⟨HOK.out, .slice va vn vc, rfl, own_base (own_mov HO.out hM7 (by have := HZ2.out; omega)) (by have := HZ2.out; omega), below_setCells HWW.out _ (by omega) _ _⟩)
end Go.Proofs.YtkmalggeieiepaaDoor
namespace Go.Proofs.YtkmalggeieiepaaDoor
open Go.RowKit

set_option maxRecDepth 10000 in
set_option maxHeartbeats 1000000 in
theorem catch_panicking (p : Addr) (x c : Int) (w : World) (hc : w.cell? p = some (.int .i64 x)) (hz : w.frozen? p = false) :
    CallsD Tryd.prog 52 #[.pointer (some p)] (.panicking [{ v := .iface 26 (.int .i64 c), recovered := false }]) w fun e u' w' =>
      e = .returned (.tuple #[]) ∧ u' = .panicking [{ v := .iface 26 (.int .i64 c), recovered := true }] ∧ w' = w.setCell p (.int .i64 c) := by
  have hta : ∀ w : World, (Instr.typeAssert (.iface 26 (.int .i64 c)) 20 26 true).run Tryd.prog w = .ok (.tuple #[.int .i64 c, .bool true]) w := fun _ => by kernel_rfl
  refine callsD_of_wpS Tryd.func52 rfl fun c₀ cs hu => ?_
  apply wpS_seq
  apply wpS_region
  simp [wpOpsS, go_sem, recoverD, hu, Tryd.ntmps52, Exit.thenS, Array.replicate, List.replicate]
  refine wpS_of_wp ?_
  go_wp2
  exact ⟨rfl, _, rfl, _, results_none rfl _ _ _, rfl, rfl, rfl⟩

set_option maxRecDepth 10000 in
set_option maxHeartbeats 1000000 in
theorem catch_idle (p : Addr) (w : World) :
    CallsD Tryd.prog 52 #[.pointer (some p)] .returning w fun e u' w' => e = .returned (.tuple #[]) ∧ u' = .returning ∧ w' = w := by
  refine callsD_of_wpS Tryd.func52 rfl fun c₀ cs hu => ?_
  apply wpS_seq
  apply wpS_region
  simp [wpOpsS, go_sem, recoverD, hu, Tryd.ntmps52, Exit.thenS, Array.replicate, List.replicate]
  refine wpS_of_wp ?_
  go_wp2
  refine ⟨rfl, .returning, ?_, _, results_none rfl _ _ _, rfl, rfl, rfl⟩
  cases c₀
  simp_all

theorem Cu.new (w : World) (s : ByteArray) (T g : Nat) (hg : g = w.heap.size) : Cu (w.alloc (.cells #[.string s, .int .i64 0] T)) g s.data.toList s.data.toList := by
  subst hg
  refine ⟨?_, ⟨0, Nat.zero_le _, rfl, ?_⟩, ?_⟩
  · rw [ofL_of]; simp [go_sem]
  · simp [go_sem]
  · simp [go_sem]

set_option maxRecDepth 10000 in
set_option maxHeartbeats 1000000 in
theorem read_any (s : ByteArray) (w : World) (hl : s.size ≤ maxLen) :
    Calls Tryd.prog 25 #[.string s, .func (.func 26) #[] #[]] w fun x w' =>
      x = .returned (.tuple #[.string (if txErr s.data.toList = 0 then s else ByteArray.empty), .int .i64 (txErr s.data.toList)]) ∧ Below w.heap.size w w' := by
  obtain ⟨W0, hW0⟩ : ∃ W, W = (w.alloc (.cells #[.int .i64 0] 26)).alloc (.cells #[.string s, .int .i64 0] 107) := ⟨_, rfl⟩
  have hCu : Cu W0 (w.heap.size + 1) s.data.toList s.data.toList := by rw [hW0]; exact Cu.new _ s _ _ (by simp)
  have HB0 : Hid (Below w.heap.size w W0) := by show Below _ _ _; rw [hW0]; exact ((Below.refl _ _).alloc (Nat.le_refl _) _).alloc (by simp) _
  have hz0 : w.heap.size + 2 = W0.heap.size := by rw [hW0]; simp
  have hv0 : W0.cell? ⟨w.heap.size, 0, none⟩ = some (.int .i64 0) := by rw [hW0]; simp [go_sem]
  have hf0 : W0.frozen? ⟨w.heap.size, 0, none⟩ = false := by rw [hW0]; simp [go_sem]
  have HK : Hid (∀ w1, Mov (w.heap.size + 1) W0 w1 → w1.cell? ⟨w.heap.size, 0, none⟩ = some (.int .i64 0) ∧ w1.frozen? ⟨w.heap.size, 0, none⟩ = false ∧ Below w.heap.size w w1) := by
    intro w1 hm
    have hb : Below (w.heap.size + 1) W0 w1 := hm.below (Nat.le_refl _) (by omega)
    exact ⟨by rw [hb.cell (p := ⟨w.heap.size, 0, none⟩) (Nat.lt_succ_self _)]; exact hv0, by rw [hb.frozen (p := ⟨w.heap.size, 0, none⟩) (Nat.lt_succ_self _)]; exact hf0, HB0.out.trans (hb.mono (by omega))⟩
  have ht := cuTx_any (w.heap.size + 1) s.data.toList s.data.toList W0 hCu hl
  have hmf : ∀ (fn : Fn) (first cap : Array Value) (w : World), (Instr.makeFunc fn first cap).run Tryd.prog w = .ok (.func fn first cap) w := fun _ _ _ _ => rfl
  have HE : Hid (txErr s.data.toList = (rDone (rTx (s.data.toList, 0))).2) := rfl
  have HS : Hid ((rTx (s.data.toList, 0)).1 = [] → ofL (s.data.toList.take (s.data.toList.length - (rTx (s.data.toList, 0)).1.length)) = s) := fun e => by
    rw [e, List.length_nil, Nat.sub_zero, List.take_length, ofL_of]
  clear hCu hl hv0 hf0 hz0
  generalize ofL (s.data.toList.take (s.data.toList.length - (rTx (s.data.toList, 0)).1.length)) = t0 at ht HS
  generalize rTx (s.data.toList, 0) = p at ht HE HS
  obtain ⟨m, c⟩ := p
  by_cases hr : c = 0
  · subst hr
    have h1 := calls_ok ht rfl
    have he := fun (W : World) (hc : Cu W (w.heap.size + 1) s.data.toList m) => cuEnd_any (w.heap.size + 1) s.data.toList m W hc
    clear ht
    by_cases hm : m = []
    · subst hm
      have e5 : rDone ([], 0) = ([], 0) := by simp [rDone]
      rw [e5] at he
      have hE0 : txErr s.data.toList = 0 := by rw [HE.out, e5]
      have hts : t0 = s := HS.out rfl
      have h2 := fun (W : World) (hc : Cu W (w.heap.size + 1) s.data.toList []) => calls_ok (he W hc) rfl
      rw [hE0, if_pos rfl]
      subst hts
      clear he e5 HE HS hE0
      go_enter_defers Tryd.func25, Tryd.ntmps25
      go_upto_region 3 with fail
      rw [← hW0]
      clear hW0
      go_upto_region 5 with (first
        | (go_at_call 26; go_must (refine h1.mono ?_); rintro x w1 ⟨rfl, hc1, hm1⟩; have HC1 := (show Hid (Cu w1 (w.heap.size + 1) _ []) from hc1); have HM1 := (show Hid (Mov (w.heap.size + 1) W0 w1) from hm1); clear hc1 hm1)
        | (go_at_call 53; go_must (refine (h2 _ HC1.out).mono ?_); rintro x w2 ⟨rfl, hc2, hm2⟩; have HM2 := (show Hid (Mov (w.heap.size + 1) W0 w2) from HM1.out.trans hm2); clear hc2 hm2))
      obtain ⟨k1, k2, k3⟩ := HK.out w2 HM2.out
      have HB2 : Hid (Below w.heap.size w w2) := k3
      clear k3
      go_wp2
      refine leaves_cons (f := 52) (args := #[.pointer (some ⟨w.heap.size, 0, none⟩)]) (by simp) (by simp [go_sem]) ?_
      refine (catch_idle ⟨w.heap.size, 0, none⟩ _).mono ?_
      rintro e u' w'' ⟨rfl, rfl, rfl⟩
      simp [Leaves, settle, results, Tryd.results25, go_sem, k1]
      exact HB2.out.setCell (Nat.le_refl _) _
    · have e5 : rDone (m, 0) = (m, 5) := by simp [rDone, hm]
      rw [e5] at he
      have hE0 : txErr s.data.toList = 5 := by rw [HE.out, e5]
      have h2 := fun (W : World) (hc : Cu W (w.heap.size + 1) s.data.toList m) => calls_no (he W hc) (by simp)
      rw [hE0, if_neg (by omega)]
      clear he e5 HE HS hE0
      go_enter_defers Tryd.func25, Tryd.ntmps25
      go_upto_region 3 with fail
      rw [← hW0]
      clear hW0
      go_wp2_with (first
        | (go_at_call 26; go_must (refine h1.mono ?_); rintro x w1 ⟨rfl, hc1, hm1⟩; have HC1 := (show Hid (Cu w1 (w.heap.size + 1) _ m) from hc1); have HM1 := (show Hid (Mov (w.heap.size + 1) W0 w1) from hm1); clear hc1 hm1)
        | (go_at_call 53; go_must (refine (h2 _ HC1.out).mono ?_); rintro x w2 ⟨rfl, hm2⟩; have HMX := (show Hid (Mov (w.heap.size + 1) W0 w2) from HM1.out.trans hm2); clear hm2))
      obtain ⟨k1, k2, k3⟩ := HK.out _ HMX.out
      refine leaves_cons (f := 52) (args := #[.pointer (some ⟨w.heap.size, 0, none⟩)]) (by simp) (by simp [go_sem]) ?_
      refine (catch_panicking ⟨w.heap.size, 0, none⟩ 0 5 _ k1 k2).mono ?_
      rintro e u' w'' ⟨rfl, rfl, rfl⟩
      simp [Leaves, settle, results, Tryd.results25, go_sem, k1]
      exact ⟨rfl, k3.setCell (Nat.le_refl _) _⟩
  · have h1 := calls_no ht hr
    have hE0 : txErr s.data.toList = c := by rw [HE.out]; exact stick_done (m, c) hr
    rw [hE0, if_neg hr]
    clear ht HE HS hE0
    go_enter_defers Tryd.func25, Tryd.ntmps25
    go_upto_region 3 with fail
    rw [← hW0]
    clear hW0
    go_wp2_with (go_at_call 26; go_must (refine h1.mono ?_); rintro x w1 ⟨rfl, hm1⟩; have HMX := (show Hid (Mov (w.heap.size + 1) W0 w1) from hm1); clear hm1)
    obtain ⟨k1, k2, k3⟩ := HK.out _ HMX.out
    refine leaves_cons (f := 52) (args := #[.pointer (some ⟨w.heap.size, 0, none⟩)]) (by simp) (by simp [go_sem]) ?_
    refine (catch_panicking ⟨w.heap.size, 0, none⟩ 0 c _ k1 k2).mono ?_
    rintro e u' w'' ⟨rfl, rfl, rfl⟩
    simp [Leaves, settle, results, Tryd.results25, go_sem, k1]
    exact ⟨rfl, k3.setCell (Nat.le_refl _) _⟩
end Go.Proofs.YtkmalggeieiepaaDoor
namespace Go.Proofs.YtkmalggeieiepaaDoor
open Go.RowKit

set_option maxRecDepth 10000 in
set_option maxHeartbeats 1000000 in
theorem catchB_panicking (p : Addr) (x c : Int) (w : World) (hc : w.cell? p = some (.int .i64 x)) (hz : w.frozen? p = false) :
    CallsD Tryd.prog 62 #[.pointer (some p)] (.panicking [{ v := .iface 26 (.int .i64 c), recovered := false }]) w fun e u' w' =>
      e = .returned (.tuple #[]) ∧ u' = .panicking [{ v := .iface 26 (.int .i64 c), recovered := true }] ∧ w' = w.setCell p (.int .i64 c) := by
  have hta : ∀ w : World, (Instr.typeAssert (.iface 26 (.int .i64 c)) 20 26 true).run Tryd.prog w = .ok (.tuple #[.int .i64 c, .bool true]) w := fun _ => by kernel_rfl
  refine callsD_of_wpS Tryd.func62 rfl fun c₀ cs hu => ?_
  apply wpS_seq
  apply wpS_region
  simp [wpOpsS, go_sem, recoverD, hu, Tryd.ntmps62, Exit.thenS, Array.replicate, List.replicate]
  refine wpS_of_wp ?_
  go_wp2
  exact ⟨rfl, _, rfl, _, results_none rfl _ _ _, rfl, rfl, rfl⟩

set_option maxRecDepth 10000 in
set_option maxHeartbeats 1000000 in
theorem catchB_idle (p : Addr) (w : World) :
    CallsD Tryd.prog 62 #[.pointer (some p)] .returning w fun e u' w' => e = .returned (.tuple #[]) ∧ u' = .returning ∧ w' = w := by
  refine callsD_of_wpS Tryd.func62 rfl fun c₀ cs hu => ?_
  apply wpS_seq
  apply wpS_region
  simp [wpOpsS, go_sem, recoverD, hu, Tryd.ntmps62, Exit.thenS, Array.replicate, List.replicate]
  refine wpS_of_wp ?_
  go_wp2
  refine ⟨rfl, .returning, ?_, _, results_none rfl _ _ _, rfl, rfl, rfl⟩
  cases c₀
  simp_all

set_option maxRecDepth 10000 in
set_option maxHeartbeats 1000000 in
theorem catchR_panicking (p : Addr) (x c : Int) (w : World) (hc : w.cell? p = some (.int .i64 x)) (hz : w.frozen? p = false) :
    CallsD Tryd.prog 75 #[.pointer (some p)] (.panicking [{ v := .iface 26 (.int .i64 c), recovered := false }]) w fun e u' w' =>
      e = .returned (.tuple #[]) ∧ u' = .panicking [{ v := .iface 26 (.int .i64 c), recovered := true }] ∧ w' = w.setCell p (.int .i64 c) := by
  have hta : ∀ w : World, (Instr.typeAssert (.iface 26 (.int .i64 c)) 20 26 true).run Tryd.prog w = .ok (.tuple #[.int .i64 c, .bool true]) w := fun _ => by kernel_rfl
  refine callsD_of_wpS Tryd.func75 rfl fun c₀ cs hu => ?_
  apply wpS_seq
  apply wpS_region
  simp [wpOpsS, go_sem, recoverD, hu, Tryd.ntmps75, Exit.thenS, Array.replicate, List.replicate]
  refine wpS_of_wp ?_
  go_wp2
  exact ⟨rfl, _, rfl, _, results_none rfl _ _ _, rfl, rfl, rfl⟩

set_option maxRecDepth 10000 in
set_option maxHeartbeats 1000000 in
theorem catchR_idle (p : Addr) (w : World) :
    CallsD Tryd.prog 75 #[.pointer (some p)] .returning w fun e u' w' => e = .returned (.tuple #[]) ∧ u' = .returning ∧ w' = w := by
  refine callsD_of_wpS Tryd.func75 rfl fun c₀ cs hu => ?_
  apply wpS_seq
  apply wpS_region
  simp [wpOpsS, go_sem, recoverD, hu, Tryd.ntmps75, Exit.thenS, Array.replicate, List.replicate]
  refine wpS_of_wp ?_
  go_wp2
  refine ⟨rfl, .returning, ?_, _, results_none rfl _ _ _, rfl, rfl, rfl⟩
  cases c₀
  simp_all

theorem results_mid2 {P : Program} {fn : Func} {p q : Tmp} {ty ty2 : TypeId} (h : fn.results = #[.cell p ty, .cell q ty2]) (tmps : Array Value) (w : World) (g e : Nat) (cs : List Value) (u : Value) (d : TypeDesc)
    (hp : tmps.getD p undef = .pointer (some ⟨g, 0, none⟩)) (hq : tmps.getD q undef = .pointer (some ⟨e, 0, none⟩)) (hc : w.rangeAt g 0 cs) (hu : P.underlying ty = some d) (hd : d.isRow = true) (hi : (P.info? ty).map (·.size) = some cs.length)
    (hl : (loadVar ty2 ⟨e, 0, none⟩).run P w = .ok u w) :
    (results fn tmps).run P w = .ok (.tuple #[.agg cs.toArray, u]) w := by
  have hp' : tmps[p]?.getD undef = .pointer (some ⟨g, 0, none⟩) := by simpa using hp
  have hq' : tmps[q]?.getD undef = .pointer (some ⟨e, 0, none⟩) := by simpa using hq
  simp [results, h, hp', hq', asAddr, run_loadVar_mid w g 0 ty cs d hc hu hd hi, hl]

set_option maxRecDepth 10000 in
set_option maxHeartbeats 2000000 in
theorem readB_any (s : ByteArray) (w : World) (hl : s.size ≤ maxLen) :
    Calls Tryd.prog 32 #[.string s, .func (.func 33) #[] #[]] w fun x w' =>
      if (rMsg 80 s.data.toList).2.2 = 0 then ∃ v, x = .returned (.tuple #[.agg #[.string (ofL (rMsg 80 s.data.toList).1), v], .int .i64 0]) ∧ w'.ownsRow w.heap.size 9 1 v (rMsg 80 s.data.toList).2.1.length (strB (rMsg 80 s.data.toList).2.1) ∧ Below w.heap.size w w'
      else x = .returned (.tuple #[.agg #[.string ⟨#[]⟩, .slice none 0 0], .int .i64 (rMsg 80 s.data.toList).2.2]) ∧ Below w.heap.size w w' := by
  obtain ⟨W0, hW0⟩ : ∃ W, W = ((w.alloc (.cells #[.string ⟨#[]⟩, .slice none 0 0] 65)).alloc (.cells #[.int .i64 0] 26)).alloc (.cells #[.string s, .int .i64 0] 107) := ⟨_, rfl⟩
  have hCu : Cu W0 (w.heap.size + 2) s.data.toList s.data.toList := by rw [hW0]; exact Cu.new _ s _ _ (by simp)
  have HB0 : Hid (Below w.heap.size w W0) := by show Below _ _ _; rw [hW0]; exact (((Below.refl _ _).alloc (Nat.le_refl _) _).alloc (by simp) _).alloc (by simp; omega) _
  have hz0 : w.heap.size + 3 = W0.heap.size := by rw [hW0]; simp
  have hv0 : W0.cell? ⟨w.heap.size + 1, 0, none⟩ = some (.int .i64 0) := by rw [hW0]; simp [go_sem]
  have hf0 : W0.frozen? ⟨w.heap.size + 1, 0, none⟩ = false := by rw [hW0]; simp [go_sem]
  have t0 : W0.there w.heap.size 0 2 := by
    have := there_new w 65 [.string ⟨#[]⟩, .slice none 0 0]
    rw [hW0]; exact World.there_alloc (World.there_alloc this _) _
  have r0 : W0.rangeAt w.heap.size 0 [.string ⟨#[]⟩, .slice none 0 0] := by
    have := range_new w [.string ⟨#[]⟩, .slice none 0 0] 65 _ rfl
    rw [hW0]; exact World.rangeAt_alloc (World.rangeAt_alloc this _) _
  have HK : Hid (∀ w1, Below (w.heap.size + 2) W0 w1 → w1.cell? ⟨w.heap.size + 1, 0, none⟩ = some (.int .i64 0) ∧ w1.frozen? ⟨w.heap.size + 1, 0, none⟩ = false ∧ w1.there w.heap.size 0 2 ∧ w1.rangeAt w.heap.size 0 [.string ⟨#[]⟩, .slice none 0 0] ∧ Below w.heap.size w w1) := by
    intro w1 hb
    have hb0 : w1.heap[w.heap.size]? = W0.heap[w.heap.size]? := hb.block _ (by omega)
    exact ⟨by rw [hb.cell (p := ⟨w.heap.size + 1, 0, none⟩) (Nat.lt_succ_self _)]; exact hv0, by rw [hb.frozen (p := ⟨w.heap.size + 1, 0, none⟩) (Nat.lt_succ_self _)]; exact hf0, there_block t0 hb0, range_block r0 hb0, HB0.out.trans (hb.mono (by omega))⟩
  have ht := cuBlock_any (w.heap.size + 2) s.data.toList s.data.toList W0 hCu hl
  have hmf : ∀ (fn : Fn) (first cap : Array Value) (w : World), (Instr.makeFunc fn first cap).run Tryd.prog w = .ok (.func fn first cap) w := fun _ _ _ _ => rfl
  have HE : Hid (rMsg 80 s.data.toList = ((rBlk s.data.toList).1, ((rBlk s.data.toList).2.1, (rDone (rBlk s.data.toList).2.2).2))) := rMsg_blk _
  generalize rMsg 80 s.data.toList = M at HE
  clear hCu hl hv0 hf0 t0 r0
  generalize rBlk s.data.toList = p at ht HE
  obtain ⟨t, T, m, c⟩ := p
  by_cases hr : c = 0
  · subst hr
    have h1 := ht.mono (R' := fun x w' => ∃ v, x = .returned (.agg #[.string (ofL t), v]) ∧ Cu w' (w.heap.size + 2) s.data.toList m ∧ w'.ownsRow W0.heap.size 9 1 v T.length (strB T) ∧ Below (w.heap.size + 2) W0 w') (fun x w' hx => by rw [if_pos rfl] at hx; exact hx)
    have he := fun (W : World) (hc : Cu W (w.heap.size + 2) s.data.toList m) => cuEnd_any (w.heap.size + 2) s.data.toList m W hc
    clear ht
    by_cases hm : m = []
    · subst hm
      have e5 : rDone ([], 0) = ([], 0) := by simp [rDone]
      rw [e5] at he
      have hM : M = (t, T, 0) := by rw [HE.out]; show (t, T, (rDone ([], 0)).2) = _; rw [e5]
      subst hM
      have h2 := fun (W : World) (hc : Cu W (w.heap.size + 2) s.data.toList []) => calls_ok (he W hc) rfl
      clear he e5 HE
      have hmain : Calls Tryd.prog 32 #[.string s, .func (.func 33) #[] #[]] w fun x w' => ∃ v, x = .returned (.tuple #[.agg #[.string (ofL t), v], .int .i64 0]) ∧ w'.ownsRow w.heap.size 9 1 v T.length (strB T) ∧ Below w.heap.size w w' := by
        go_enter_defers Tryd.func32, Tryd.ntmps32
        go_upto_region 3 with fail
        rw [← hW0]
        clear hW0
        go_upto_region 4 with (go_at_call 33; go_must (refine h1.mono ?_); rintro x w1 ⟨v, rfl, hc1, ho1, hb1⟩; obtain ⟨va, vn, vc, rfl⟩ := own_slice ho1; have HC1 := (show Hid (Cu w1 (w.heap.size + 2) _ []) from hc1); have HO1 := (show Hid (w1.ownsRow W0.heap.size 9 1 (.slice va vn vc) T.length (strB T)) from ho1); have HBL1 := (show Hid (Below (w.heap.size + 2) W0 w1) from hb1); clear hc1 ho1 hb1)
        obtain ⟨W2, hW2⟩ : ∃ W, W = w1.alloc (.cells #[.string (ofL t), .slice va vn vc] 65) := ⟨_, rfl⟩
        have hb2 : Below w1.heap.size w1 W2 := by rw [hW2]; exact (Below.refl _ _).alloc (Nat.le_refl _) _
        have hz2 : W2.heap.size = w1.heap.size + 1 := by rw [hW2]; simp
        have hrg : W2.rangeAt w1.heap.size 0 [.string (ofL t), .slice va vn vc] := by rw [hW2]; exact range_new w1 _ _ _ rfl
        have hs1 := HBL1.out.size
        have HC2 : Hid (Cu W2 (w.heap.size + 2) s.data.toList []) := HC1.out.later hb2
        have HO2 : Hid (W2.ownsRow W0.heap.size 9 1 (.slice va vn vc) T.length (strB T)) := own_later HO1.out hb2
        have HBL2 : Hid (Below (w.heap.size + 2) W0 W2) := HBL1.out.trans (hb2.mono (by omega))
        have HRG : Hid (W2.rangeAt w1.heap.size 0 [.string (ofL t), .slice va vn vc]) := hrg
        rw [← hW2]
        clear hW2 hb2 hrg HC1 HO1 HBL1 h1
        go_upto_region 5 with (go_at_call 53; go_must (refine (h2 _ HC2.out).mono ?_); rintro x w3 ⟨rfl, hc3, hm3⟩; have HM3 := (show Hid (Mov (w.heap.size + 2) W2 w3) from hm3); clear hc3 hm3)
        have hrg3 : w3.rangeAt w1.heap.size 0 [.string (ofL t), .slice va vn vc] := range_block HRG.out (HM3.out.block _ (by omega) (by omega))
        have HBL3 : Hid (Below (w.heap.size + 2) W0 w3) := HBL2.out.trans (HM3.out.below (Nat.le_refl _) (by omega))
        have HO3 : Hid (w3.ownsRow W0.heap.size 9 1 (.slice va vn vc) T.length (strB T)) := own_mov HO2.out HM3.out (by omega)
        obtain ⟨k1, k2, k3, k4, k5⟩ := HK.out w3 HBL3.out
        have x0 := hrg3 0 _ rfl
        have x1 := hrg3 1 _ rfl
        have y0 := k4 0 _ rfl
        have y1 := k4 1 _ rfl
        have z0 := (k3 0 (by omega)).2
        have z1 := (k3 1 (by omega)).2
        rw [Nat.zero_add] at x0 x1 y0 y1 z0 z1
        have HB5 := (show Hid (Below w.heap.size w w3) from k5)
        clear k3 k4 k5 hrg3 HC2 HO2 HBL2 HRG HM3 h2
        go_wp2
        refine leaves_cons (f := 62) (args := #[.pointer (some ⟨w.heap.size + 1, 0, none⟩)]) (by simp) (by simp [go_sem]) ?_
        refine (catchB_idle ⟨w.heap.size + 1, 0, none⟩ _).mono ?_
        rintro e u' w'' ⟨rfl, rfl, rfl⟩
        simp [Leaves, settle, results, Tryd.results32, go_sem, k1, y0, y1]
        refine ⟨?_, ((HB5.out.setCell (Nat.le_refl _) _).setCell (Nat.le_refl _) _).setCell (Nat.le_succ _) _⟩
        exact own_base (own_mov (own_mov HO3.out (((Mov.refl w.heap.size w3).set 0 _).set 1 _) (by omega)) ((Mov.refl (w.heap.size + 1) _).set 0 _) (by omega)) (by omega)
      exact hmain.mono fun x w' hx => by rw [if_pos rfl]; exact hx
    · have e5 : rDone (m, 0) = (m, 5) := by simp [rDone, hm]
      rw [e5] at he
      have hM : M.2.2 = 5 := by rw [HE.out]; show (rDone (m, 0)).2 = 5; rw [e5]
      rw [hM]
      have h2 := fun (W : World) (hc : Cu W (w.heap.size + 2) s.data.toList m) => calls_no (he W hc) (by simp)
      clear he e5 HE hM
      have hmain : Calls Tryd.prog 32 #[.string s, .func (.func 33) #[] #[]] w fun x w' => x = .returned (.tuple #[.agg #[.string ⟨#[]⟩, .slice none 0 0], .int .i64 5]) ∧ Below w.heap.size w w' := by
        go_enter_defers Tryd.func32, Tryd.ntmps32
        go_upto_region 3 with fail
        rw [← hW0]
        clear hW0
        go_upto_region 4 with (go_at_call 33; go_must (refine h1.mono ?_); rintro x w1 ⟨v, rfl, hc1, ho1, hb1⟩; obtain ⟨va, vn, vc, rfl⟩ := own_slice ho1; have HC1 := (show Hid (Cu w1 (w.heap.size + 2) _ m) from hc1); have HBL1 := (show Hid (Below (w.heap.size + 2) W0 w1) from hb1); clear hc1 ho1 hb1)
        obtain ⟨W2, hW2⟩ : ∃ W, W = w1.alloc (.cells #[.string (ofL t), .slice va vn vc] 65) := ⟨_, rfl⟩
        have hb2 : Below w1.heap.size w1 W2 := by rw [hW2]; exact (Below.refl _ _).alloc (Nat.le_refl _) _
        have hs1 := HBL1.out.size
        have HC2 : Hid (Cu W2 (w.heap.size + 2) s.data.toList m) := HC1.out.later hb2
        have HBL2 : Hid (Below (w.heap.size + 2) W0 W2) := HBL1.out.trans (hb2.mono (by omega))
        have hz2 := hb2.size
        rw [← hW2]
        clear hW2 hb2 HC1 HBL1 h1
        go_wp2_with (go_at_call 53; go_must (refine (h2 _ HC2.out).mono ?_); rintro x w3 ⟨rfl, hm3⟩; have HBL3 := (show Hid (Below (w.heap.size + 2) W0 w3) from HBL2.out.trans (hm3.below (Nat.le_refl _) (by omega))); clear hm3)
        obtain ⟨k1, k2, k3, k4, k5⟩ := HK.out _ HBL3.out
        have y0 := k4 0 _ rfl
        have y1 := k4 1 _ rfl
        rw [Nat.zero_add] at y0 y1
        refine leaves_cons (f := 62) (args := #[.pointer (some ⟨w.heap.size + 1, 0, none⟩)]) (by simp) (by simp [go_sem]) ?_
        refine (catchB_panicking ⟨w.heap.size + 1, 0, none⟩ 0 5 _ k1 k2).mono ?_
        rintro e u' w'' ⟨rfl, rfl, rfl⟩
        simp [Leaves, settle, results, Tryd.results32, go_sem, k1, y0, y1]
        exact k5.setCell (Nat.le_succ _) _
      exact hmain.mono fun x w' hx => by rw [if_neg (by omega)]; exact hx
  · have h1 := ht.mono (R' := fun x w' => x = .panicked [{ v := .iface 26 (.int .i64 c), recovered := false }] ∧ Below (w.heap.size + 2) W0 w') (fun x w' hx => by rw [if_neg hr] at hx; exact hx)
    have hM : M.2.2 = c := by rw [HE.out]; exact stick_done (m, c) hr
    rw [hM]
    clear ht HE hM
    have hmain : Calls Tryd.prog 32 #[.string s, .func (.func 33) #[] #[]] w fun x w' => x = .returned (.tuple #[.agg #[.string ⟨#[]⟩, .slice none 0 0], .int .i64 c]) ∧ Below w.heap.size w w' := by
      go_enter_defers Tryd.func32, Tryd.ntmps32
      go_upto_region 3 with fail
      rw [← hW0]
      clear hW0
      go_wp2_with (go_at_call 33; go_must (refine h1.mono ?_); rintro x w1 ⟨rfl, hb1⟩; have HBL3 := (show Hid (Below (w.heap.size + 2) W0 w1) from hb1); clear hb1)
      obtain ⟨k1, k2, k3, k4, k5⟩ := HK.out _ HBL3.out
      have y0 := k4 0 _ rfl
      have y1 := k4 1 _ rfl
      rw [Nat.zero_add] at y0 y1
      refine leaves_cons (f := 62) (args := #[.pointer (some ⟨w.heap.size + 1, 0, none⟩)]) (by simp) (by simp [go_sem]) ?_
      refine (catchB_panicking ⟨w.heap.size + 1, 0, none⟩ 0 c _ k1 k2).mono ?_
      rintro e u' w'' ⟨rfl, rfl, rfl⟩
      simp [Leaves, settle, results, Tryd.results32, go_sem, k1, y0, y1]
      exact k5.setCell (Nat.le_succ _) _
    exact hmain.mono fun x w' hx => by rw [if_neg hr]; exact hx
end Go.Proofs.YtkmalggeieiepaaDoor
