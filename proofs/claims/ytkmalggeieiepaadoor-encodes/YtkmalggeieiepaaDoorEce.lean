import Derived.Test.YtkmalggeieiepaaDoorEcd
import Derived.Test.YtkmalggeieiepaaDoorEcc
import Derived.WalkKit
import Derived.WalkSpells
import Derived.WalkLawsBesides
import Derived.Deep.MidRow
import Derived.Deep.DeepCutAuto
import Derived.Deep.QuietTactic
import Derived.BigQuiet
import Derived.Great.BuildSlice
import Derived.OrdersHeld
import Derived.Deep.AppendLies
import Derived.Deep.RegionHeld3
import Derived.Lib.AppendStr
import Derived.OwnWalk
import Derived.Deep.LoopGhost
import Derived.Laws.Bits64b
import Derived.Test.YtkmalggeieiepaaDoorEcb
import Derived.Test.YtkmalggeieiepaaDoorEca
set_option linter.unusedSimpArgs false
namespace Go.Proofs.YtkmalggeieiepaaDoor
open Go.RowKit

/-- the digest as a text. -/
def sg (Kc : Nat → Int) (t : ByteArray) : ByteArray := strOf (shaF Kc t.data.toList) 32
theorem sg_size (Kc : Nat → Int) (t : ByteArray) : (sg Kc t).size = 32 := strOf_size _ _
theorem dd_sg (Kc : Nat → Int) (t : ByteArray) : dd Kc t = sg Kc (sg Kc t) := rfl

set_option maxRecDepth 10000 in
set_option maxHeartbeats 1000000 in
theorem hdName_any (Kc : Nat → Int) (h : ByteArray) (w : World) (hkt : KT Kc w) (hs : h.size ≤ 1099511627776) :
    Calls Tryd.prog 79 #[.string h] w fun e w' => e = .returned (aggD (dd Kc h)) ∧ Below w.heap.size w w' := by
  have hpos : 0 < w.heap.size := World.block_lt_of_cell? w _ (hkt 0 (by omega))
  have HE : Hid (aggD (dd Kc h) = .agg (wl .u8 (dbl Kc h.data.toList) 32).toArray) := by show _ = _; unfold aggD dd; rw [bc_strOf (dbl Kc h.data.toList) 32 (shaF_lt Kc _)]
  rw [HE.out]
  obtain ⟨W1, hW1⟩ : ∃ W, W = w.alloc (.cells #[.int .u8 0, .int .u8 0, .int .u8 0, .int .u8 0, .int .u8 0, .int .u8 0, .int .u8 0, .int .u8 0, .int .u8 0, .int .u8 0, .int .u8 0, .int .u8 0, .int .u8 0, .int .u8 0, .int .u8 0, .int .u8 0, .int .u8 0, .int .u8 0, .int .u8 0, .int .u8 0, .int .u8 0, .int .u8 0, .int .u8 0, .int .u8 0, .int .u8 0, .int .u8 0, .int .u8 0, .int .u8 0, .int .u8 0, .int .u8 0, .int .u8 0, .int .u8 0] 43) := ⟨_, rfl⟩
  have HA : Hid (Arr .u8 W1 w.heap.size (fun _ => 0) 32) := by show Arr _ _ _ _ _; rw [hW1]; exact Arr.new _ _ 32 _ _ (by rfl)
  have HB1 : Hid (Below w.heap.size w W1) := by show Below _ _ _; rw [hW1]; exact (Below.refl _ _).alloc (Nat.le_refl _) _
  have HZ1 : Hid (W1.heap.size = w.heap.size + 1) := by show _ = _; rw [hW1]; simp
  have hd := double_one Kc h W1 (hkt.later HB1.out hpos) hs
  clear hkt hs HE
  generalize dbl Kc h.data.toList = f at hd
  go_enter Tryd.func79, Tryd.ntmps79
  go_upto_region 1 with fail
  rw [← hW1]
  clear hW1
  go_wp2_with (first
    | (go_at_call 27; go_must (refine hd.mono ?_); rintro e w2 ⟨rfl, hb2⟩; have HB2 := (show Hid (Below W1.heap.size W1 w2) from hb2); have HA2 := (show Hid (Arr .u8 w2 w.heap.size (fun _ => 0) 32) from HA.out.later hb2 (by have := HZ1.out; omega)); clear hb2)
    | (refine wpList_store_arr rfl 43 _ _ rfl w.heap.size .u8 (fun _ => 0) f 32 rfl rfl ?_ (by kernel_rfl) ?_; exact HA2.out))
  refine bodyPost_ret (results_arr Tryd.results79 _ _ w.heap.size .u8 f 32 _ rfl (HA2.out.all _) Tryd.underlying43 rfl (by kernel_rfl)) rfl ⟨rfl, ?_⟩
  exact below_setCells (HB1.out.trans (HB2.out.mono (by have := HZ1.out; omega))) _ (Nat.le_refl _) _ _
/-- a digest of two texts. -/
theorem sum_two (Kc : Nat → Int) (s t : ByteArray) (w : World) (hkt : KT Kc w) (hs : (s ++ t).size ≤ 1099511627776) :
    Calls Tryd.prog 20 #[.slice (some ⟨w.heap.size, 0, none⟩) 2 2] (w.alloc (.cells #[.string s, .string t] 9)) fun e w' => e = .returned (aggD (sg Kc (s ++ t))) ∧ Below w.heap.size w w' := by
  have hpos : 0 < w.heap.size := World.block_lt_of_cell? w _ (hkt 0 (by omega))
  have hT : Texts (w.alloc (.cells #[.string s, .string t] 9)) w.heap.size [s, t] := by
    intro j hj
    have : j = 0 ∨ j = 1 := by simp at hj; omega
    rcases this with rfl | rfl <;> simp [go_sem]
  have hc : cat [s, t] = (s ++ t).data.toList := by simp [cat, ByteArray.data_append]
  have hl : (s ++ t).data.toList.length = (s ++ t).size := rfl
  have hcall := sum_any Kc [s, t] w.heap.size (w.alloc (.cells #[.string s, .string t] 9)) hT (by simp) (hkt.later ((Below.refl _ _).alloc (Nat.le_refl _) _) hpos) (by rw [hc, hl]; exact hs) (by simp)
  rw [hc] at hcall
  refine hcall.mono fun e w' ⟨h1, h2⟩ => ⟨?_, ?_⟩
  · rw [h1]; unfold aggD sg; rw [bc_strOf _ _ (shaF_lt Kc _)]
  · exact ((Below.refl _ _).alloc (Nat.le_refl _) _).trans (h2.mono (by simp))

theorem run_store_cells {P : Program} {w : World} {ρ : Operand → Value} {o : Oper} (ty : TypeId) (x y : Operand) (ho : o.op = .store ty x y) (g off : Nat) (cs : List Value) (hx : ρ x = .pointer (some ⟨g, off, none⟩)) (hy : ρ y = .agg cs.toArray)
    (ht : w.there g off cs.length) (hi : (P.info? ty).map (·.size) = some cs.length) (h1 : ∀ v ∈ cs, v.oneCell' = true) : (execOp ρ o).run P w = .ok .skip (w.setCells g off cs) := by
  have h := run_storeVar_mid (P := P) w g off ty cs.toArray (by simpa using ht) (by simpa using hi) (all_oneCell_toArray h1)
  unfold execOp
  simp only [ho, hx, hy, Instr.storeAt, Instr.sureAddr, Sem.run_bind, Sem.run_pure, Result.andThen_ok, h]
theorem returned_inj {v u : Value} (h : Ending.returned v = .returned u) : v = u := by injection h

set_option maxRecDepth 10000 in
set_option maxHeartbeats 2000000 in
theorem shortKey_any (Kc : Nat → Int) (h : ByteArray) (n : Nat) (w : World) (hkt : KT Kc w) (hh : h.size ≤ 1000) (hn : U64 n) :
    Calls Tryd.prog 65 #[.string h, .int .u64 (n : Int)] w fun e w' => e = .returned (.agg #[.int .u64 (key1 (sg Kc (h ++ ofL (le n 8))) : Int), .int .u64 (key2 (sg Kc (h ++ ofL (le n 8))) : Int)]) ∧ Below w.heap.size w w' := by
  have hpos : 0 < w.heap.size := World.block_lt_of_cell? w _ (hkt 0 (by omega))
  obtain ⟨W1, hW1⟩ : ∃ W, W = w.alloc (.cells #[.int .u64 0, .int .u64 0] 117) := ⟨_, rfl⟩
  have HB1 : Hid (Below w.heap.size w W1) := by show Below _ _ _; rw [hW1]; exact (Below.refl _ _).alloc (Nat.le_refl _) _
  have hz1 : W1.heap.size = w.heap.size + 1 := by rw [hW1]; simp
  have hN := inBytes_any n 8 W1 hn (by omega) (by omega)
  have hz8 : (ofL (le n 8)).size = 8 := by rw [ofL_size, le_length]
  have HS : Hid (∀ W, Below w.heap.size w W → Calls Tryd.prog 20 #[.slice (some ⟨W.heap.size, 0, none⟩) 2 2] (W.alloc (.cells #[.string h, .string (ofL (le n 8))] 9)) fun e w' => e = .returned (aggD (sg Kc (h ++ ofL (le n 8)))) ∧ Below W.heap.size W w') := fun W hW => sum_two Kc h _ W (hkt.later hW hpos) (by rw [ByteArray.size_append]; omega)
  have HTX : Hid (∀ W, Calls Tryd.prog 21 #[aggD (sg Kc (h ++ ofL (le n 8)))] W fun e w' => e = .returned (.string (sg Kc (h ++ ofL (le n 8)))) ∧ Below W.heap.size W w') := fun W => text_d _ (sg_size _ _) W
  have hd := sg_size Kc (h ++ ofL (le n 8))
  have HC : Hid (∀ W, Below W1.heap.size W1 W → W.cell? ⟨w.heap.size, 0, none⟩ = some (.int .u64 0) ∧ W.cell? ⟨w.heap.size, 1, none⟩ = some (.int .u64 0) ∧ W.frozen? ⟨w.heap.size, 0, none⟩ = false ∧ W.frozen? ⟨w.heap.size, 1, none⟩ = false) := fun W hW =>
    ⟨by rw [hW.cell (p := ⟨w.heap.size, 0, none⟩) (by show w.heap.size < _; omega), hW1]; simp [go_sem], by rw [hW.cell (p := ⟨w.heap.size, 1, none⟩) (by show w.heap.size < _; omega), hW1]; simp [go_sem], by rw [hW.frozen (p := ⟨w.heap.size, 0, none⟩) (by show w.heap.size < _; omega), hW1]; simp [go_sem], by rw [hW.frozen (p := ⟨w.heap.size, 1, none⟩) (by show w.heap.size < _; omega), hW1]; simp [go_sem]⟩
  clear hkt hh hn hz8
  generalize sg Kc (h ++ ofL (le n 8)) = d at HS HTX hd
  generalize ofL (le n 8) = nb at hN HS
  have HK1 : Hid (key1 d = num (d.extract 0 8).data.toList) := rfl
  have HK2 : Hid (key2 d = num (d.extract 8 16).data.toList) := rfl
  obtain ⟨a1, x1⟩ : ∃ a, d.extract 0 8 = a := ⟨_, rfl⟩
  obtain ⟨a2, x2⟩ : ∃ a, d.extract 8 16 = a := ⟨_, rfl⟩
  have z1 : a1.size ≤ 8 := by rw [← x1, ByteArray.size_extract]; omega
  have z2 : a2.size ≤ 8 := by rw [← x2, ByteArray.size_extract]; omega
  rw [x1] at HK1
  rw [x2] at HK2
  obtain ⟨nmf, hnm⟩ : ∃ nm : ByteArray → Int, nm = fun s => (num s.data.toList : Int) := ⟨_, rfl⟩
  have HN : Hid (∀ (s : ByteArray) (W : World), s.size ≤ 8 → Calls Tryd.prog 89 #[.string s] W fun e w' => e = .returned (.int .u64 (nmf s)) ∧ w' = W) := fun s W hs => by rw [hnm]; exact lowest_any s W hs
  have HE1 : Hid (nmf a1 = (key1 d : Int)) := by show _ = _; rw [HK1.out, hnm]
  have HE2 : Hid (nmf a2 = (key2 d : Int)) := by show _ = _; rw [HK2.out, hnm]
  clear hnm HK1 HK2
  have hdi : (d.size : Int) = 32 := by omega
  go_enter Tryd.func65, Tryd.ntmps65
  go_upto_region 1 with fail
  rw [← hW1]
  clear hW1
  go_upto_region 2 with (first
    | (go_at_call 88; go_must (refine hN.mono ?_); rintro e w2 ⟨rfl, hb2⟩; have HB2 := (show Hid (Below W1.heap.size W1 w2) from hb2); clear hb2)
    | (go_at_call 20; go_must (refine (HS.out _ (HB1.out.trans (HB2.out.mono (by omega)))).mono ?_); rintro e w3 ⟨rfl, hb3⟩; have HB3 := (show Hid (Below W1.heap.size W1 w3) from HB2.out.trans (hb3.mono HB2.out.size)); clear hb3)
    | (go_at_call 21; go_must (refine (HTX.out _).mono ?_); rintro e w4 ⟨rfl, hb4⟩; have HB4 := (show Hid (Below W1.heap.size W1 w4) from HB3.out.trans (hb4.mono HB3.out.size)); clear hb4))
  obtain ⟨c0, c1, f0, f1⟩ := HC.out w4 HB4.out
  clear HS HTX HC hN
  refine q_frame (fun A HFR => ?_)
  have hsz : A.tmps.size = 19 := by rw [HFR.out]; rfl
  have h4 : A.eval (.tmp 4) = .pointer (some ⟨w.heap.size, 0, none⟩) := by rw [HFR.out]; rfl
  have h5 : A.eval (.tmp 5) = .string d := by rw [HFR.out]; rfl
  refine wp_region_T (k := 7) (S := fun _ => True) (by kernel_rfl) trivial (fun hS => ?_)
  refine wpAnyT_take (i := 0) (v := (.string d)) rfl (by kernel_rfl) (by kernel_rfl) (by kernel_rfl) (by kernel_rfl) (fun _ _ _ h => h) (Or.inl ⟨by rfl, fun W _ => q_run1 5 (.string d) (by simp only [q_same, q_ne, q_sz, hsz, h4, h5, ne_eq, Nat.reduceEqDiff, not_false_eq_true, Nat.reduceLT]) (fun ρ hc hf e1 => by simp [go_sem, hc, hf, e1])⟩) hS ?_
  change wpAnyT _ _ _ _ _ _ _ _ (Act.put _ (some 12) _) _
  refine wpAnyT_take (i := 3) (v := (.string d)) rfl (by kernel_rfl) (by kernel_rfl) (by kernel_rfl) (by kernel_rfl) (fun _ _ _ h => h) (Or.inl ⟨by rfl, fun W _ => q_run1 5 (.string d) (by simp only [q_same, q_ne, q_sz, hsz, h4, h5, ne_eq, Nat.reduceEqDiff, not_false_eq_true, Nat.reduceLT]) (fun ρ hc hf e1 => by simp [go_sem, hc, hf, e1])⟩) hS ?_
  change wpAnyT _ _ _ _ _ _ _ _ (Act.put _ (some 15) _) _
  refine wpAnyT_take (i := 1) (v := (.string a1)) rfl (by kernel_rfl) (by kernel_rfl) (by kernel_rfl) (by kernel_rfl) (fun _ _ _ h => h) (Or.inl ⟨by rfl, fun W _ => q_run1 12 (.string d) (by simp only [q_same, q_ne, q_sz, hsz, h4, h5, ne_eq, Nat.reduceEqDiff, not_false_eq_true, Nat.reduceLT]) (fun ρ hc hf e1 => by simp [go_sem, hc, hf, e1, hdi, x1])⟩) hS ?_
  change wpAnyT _ _ _ _ _ _ _ _ (Act.put _ (some 13) _) _
  refine wpAnyT_take (i := 4) (v := (.string a2)) rfl (by kernel_rfl) (by kernel_rfl) (by kernel_rfl) (by kernel_rfl) (fun _ _ _ h => h) (Or.inl ⟨by rfl, fun W _ => q_run1 15 (.string d) (by simp only [q_same, q_ne, q_sz, hsz, h4, h5, ne_eq, Nat.reduceEqDiff, not_false_eq_true, Nat.reduceLT]) (fun ρ hc hf e1 => by simp [go_sem, hc, hf, e1, hdi, x2])⟩) hS ?_
  change wpAnyT _ _ _ _ _ _ _ _ (Act.put _ (some 16) _) _
  refine qT_call 2 89 #[.string a1] _ (by kernel_rfl) rfl rfl (q_run1 13 (.string a1) (by simp only [q_same, q_ne, q_sz, hsz, h4, h5, ne_eq, Nat.reduceEqDiff, not_false_eq_true, Nat.reduceLT]) (fun ρ hc hf e1 => by simp [go_sem, hc, hf, e1])) (HN.out a1 _ z1) ?_ (fun ch w' h => by cases h.1) (fun w' h => by cases h.1)
  rintro _ _ ⟨hv, rfl⟩
  obtain rfl := returned_inj hv
  refine ⟨fun _ => trivial, ?_⟩
  change wpAnyT _ _ _ _ _ _ _ _ (Act.put _ (some 14) _) _
  refine qT_call 5 89 #[.string a2] _ (by kernel_rfl) rfl rfl (q_run1 16 (.string a2) (by simp only [q_same, q_ne, q_sz, hsz, h4, h5, ne_eq, Nat.reduceEqDiff, not_false_eq_true, Nat.reduceLT]) (fun ρ hc hf e1 => by simp [go_sem, hc, hf, e1])) (HN.out a2 _ z2) ?_ (fun ch w' h => by cases h.1) (fun w' h => by cases h.1)
  rintro _ _ ⟨hv, rfl⟩
  obtain rfl := returned_inj hv
  refine ⟨fun _ => trivial, ?_⟩
  change wpAnyT _ _ _ _ _ _ _ _ (Act.put _ (some 17) _) _
  refine qT_one 6 (.agg #[.int .u64 (nmf a1), .int .u64 (nmf a2)]) w4.drew (by kernel_rfl) rfl rfl (q_run2 14 17 (.int .u64 (nmf a1)) (.int .u64 (nmf a2)) (by simp only [q_same, q_ne, q_sz, hsz, h4, h5, ne_eq, Nat.reduceEqDiff, not_false_eq_true, Nat.reduceLT]) (by simp only [q_same, q_ne, q_sz, hsz, h4, h5, ne_eq, Nat.reduceEqDiff, not_false_eq_true, Nat.reduceLT]) (fun ρ hc hf e1 e2 => by simp [go_sem, hc, hf, e1, e2])) (fun _ => trivial) ?_
  change wpAnyT _ _ _ _ _ _ _ _ (Act.put _ (some 18) _) _
  have ht : w4.drew.there w.heap.size 0 2 := fun j hj => by
    have : j = 0 ∨ j = 1 := by omega
    rcases this with rfl | rfl
    · exact ⟨by rw [Nat.zero_add]; show (w4.cell? _).isSome = true; rw [c0]; rfl, by rw [Nat.zero_add]; exact f0⟩
    · exact ⟨by rw [Nat.zero_add]; show (w4.cell? _).isSome = true; rw [c1]; rfl, by rw [Nat.zero_add]; exact f1⟩
  refine qT_skip 7 (w4.drew.setCells w.heap.size 0 [.int .u64 (nmf a1), .int .u64 (nmf a2)]) (by kernel_rfl) rfl rfl (run_store_cells 117 (.tmp 4) (.tmp 18) rfl w.heap.size 0 [.int .u64 (nmf a1), .int .u64 (nmf a2)] (by simp only [q_same, q_ne, q_sz, hsz, h4, h5, ne_eq, Nat.reduceEqDiff, not_false_eq_true, Nat.reduceLT]) (by simp only [q_same, q_ne, q_sz, hsz, h4, h5, ne_eq, Nat.reduceEqDiff, not_false_eq_true, Nat.reduceLT]) ht (by kernel_rfl) (by intro v hv; simp at hv; rcases hv with rfl | rfl <;> rfl)) (fun h => absurd rfl h) ?_
  refine wpAnyT_done (by kernel_rfl) ?_ _
  have HRG : Hid ((w4.drew.setCells w.heap.size 0 [.int .u64 (nmf a1), .int .u64 (nmf a2)]).rangeAt w.heap.size 0 [.int .u64 (nmf a1), .int .u64 (nmf a2)]) := World.rangeAt_setCells_same _ _ _ _ ht
  have HBF : Hid (Below w.heap.size w (w4.drew.setCells w.heap.size 0 [.int .u64 (nmf a1), .int .u64 (nmf a2)])) := below_setCells ((HB1.out.trans (HB4.out.mono (by omega))).drew) _ (Nat.le_refl _) _ _
  have hfr := HFR.out
  clear HFR hsz h4 h5 ht c0 c1 f0 f1
  subst hfr
  simp only [Act.put, List.setIfInBounds_toArray, List.set_cons_zero, List.set_cons_succ]
  generalize w4.drew.setCells w.heap.size 0 [.int .u64 (nmf a1), .int .u64 (nmf a2)] = WF at HRG HBF
  go_wp2
  refine bodyPost_ret (results_mid Tryd.results65 _ _ w.heap.size [.int .u64 (nmf a1), .int .u64 (nmf a2)] _ rfl HRG.out Tryd.underlying117 rfl (by kernel_rfl)) rfl ⟨?_, HBF.out⟩
  rw [← HE1.out, ← HE2.out]
end Go.Proofs.YtkmalggeieiepaaDoor
namespace Go.Proofs.YtkmalggeieiepaaDoor
open Go.RowKit

theorem fold_set : ∀ (l pre post : List Value), post.length = l.length → List.foldl (fun (cs : Array Value) (x : Value × Nat) => cs.setIfInBounds x.2 x.1) (pre ++ post).toArray (l.zipIdx pre.length) = (pre ++ l).toArray := by
  intro l
  induction l with
  | nil => intro pre post h; cases post with
    | nil => rfl
    | cons _ _ => simp at h
  | cons v l ih =>
    intro pre post h
    cases post with
    | nil => simp at h
    | cons u post =>
      have h2 := ih (pre ++ [v]) post (by simpa using h)
      rw [List.length_append, List.length_singleton] at h2
      rw [List.zipIdx_cons, List.foldl_cons]
      have e : (pre ++ u :: post).toArray.setIfInBounds pre.length v = (pre ++ [v] ++ post).toArray := by simp
      rw [e, h2]; simp
theorem build_d (d : ByteArray) (hd : d.size = 32) (w : World) : (Instr.buildSlice 59 1 #[(0, aggD d)]).run Tryd.prog w = .ok (.slice (some ⟨w.heap.size, 0, none⟩) 1 1) (w.alloc (.cells (bc d).toArray 43)) := by
  obtain ⟨i0, hi, hz0, hz1, hz2⟩ := info_parts infoDig
  have hl : (bc d).length = 32 := by rw [bc_length, hd]
  refine run_buildSlice w 59 43 1 _ _ i0 _ Tryd.underlying59 hi hz0 (by rw [hz1]; omega) (by rw [hz1]; omega) ?_
  rw [hz1]
  have h := fold_set (bc d) [] (wl .u8 (fun _ => 0) 32) (by rw [hl, wl_length])
  have e1 : (aggD d).cells = (bc d).toArray := rfl
  have e2 : ((Array.range (1 * 32)).map fun x => (Value.agg (wl IntKind.u8 (fun _ => 0) 32).toArray).cells[x % (Value.agg (wl IntKind.u8 (fun _ => 0) 32).toArray).cells.size]!) = (wl .u8 (fun _ => 0) 32).toArray := by kernel_rfl
  simp only [e2]
  simp [Instr.fill, e1, hl]
  exact ⟨by rw [wl_length]; omega, by simpa using h⟩

theorem run_build_d {ρ : Operand → Value} {o : Oper} {k : Nat} (d : ByteArray) (hd : d.size = 32) (W : World) (ho : o.op = .buildSlice 59 1 #[(0, .tmp k)]) (e1 : ρ (.tmp k) = aggD d) :
    (execOp ρ o).run Tryd.prog W = .ok (.value (.slice (some ⟨W.heap.size, 0, none⟩) 1 1)) (W.alloc (.cells (bc d).toArray 43)) := by
  unfold execOp
  simp only [ho, Sem.run_bind, List.map_toArray, List.map_cons, List.map_nil, e1, build_d d hd W, Result.andThen_ok]
  rfl
theorem q_wanted {o : Oper} {ops : Array Oper} {A : Act} (j d : Nat) (b : Bool) (hg : o.guard = some (j, b)) (hd : (ops[j]?).bind (·.dst) = some d) (hlt : d < A.tmps.size) (hv : A.eval (.tmp d) = .bool b) : Region.wanted o (yielded ops A.tmps) = true := by
  have h2 : A.tmps[d]? = some (.bool b) := by
    simp [Act.eval] at hv
    rw [Array.getElem?_eq_getElem hlt] at hv ⊢
    simpa using hv
  simp [Region.wanted, hg, yielded, hd, h2]
/-- the one operation that may come up yields a value: S held. -/
theorem qH_one {P : Program} {md : Region.Mode} {ops : Array Oper} {Q : Exit → Act → World → Prop} {S : World → Prop} {fuel : Nat} {listed : Array Bool} {a : Act} {w : World} (i : Nat) {o : Oper} (v : Value) (w' : World) (hr : Region.ready md ops listed = [i]) (hi : ops[i]? = some o) (hg : o.guard = none)
    (h : (execOp a.eval o).run P w = .ok (.value v) w') (hS : S w') (hk : wpAnyH P md ops Q S fuel (listed.setIfInBounds i true) (a.put o.dst v) w') : wpAnyH P md ops Q S (fuel + 1) listed a w := by
  refine wpAnyH_ready hr (by simp) (AllReadyH.cons hi (fun K hK => ?_) AllReadyH.nil)
  have hw : Region.wanted o (yielded ops a.tmps) = true := by simp [Region.wanted, hg]
  rw [if_pos hw]
  unfold Oper.wp; rw [h]; exact hK.out _ _ hS (fun _ => hk)
theorem qH_step {P : Program} {ops : Array Oper} {o : Oper} {a : Act} {w : World} {K : Act → World → Prop} {Q : Exit → Act → World → Prop} {E : Prop} (f : FuncId) (args : Array Value) (R : Value → World → Prop) (hg : o.guard = none)
    (h : (execOp a.eval o).run P w = .ok (.enter f args) w) (hc : Calls P f args w fun e w' => ∃ v, e = .returned v ∧ R v w') (hk : ∀ v w', R v w' → K (a.put o.dst v) w') :
    if Region.wanted o (yielded ops a.tmps) = true then Oper.wp P o a w K Q else E := by
  have hw : Region.wanted o (yielded ops a.tmps) = true := by simp [Region.wanted, hg]
  rw [if_pos hw]
  unfold Oper.wp; rw [h]
  show Calls _ _ _ _ _
  refine hc.mono fun x w' hx => ?_
  obtain ⟨v, rfl, hR⟩ := hx
  exact hk v w' hR
/-- .. a call. -/
theorem qH_call {P : Program} {md : Region.Mode} {ops : Array Oper} {Q : Exit → Act → World → Prop} {S : World → Prop} {fuel : Nat} {listed : Array Bool} {a : Act} {w : World} (i : Nat) {o : Oper} (f : FuncId) (args : Array Value) (R : Value → World → Prop) (hr : Region.ready md ops listed = [i]) (hi : ops[i]? = some o) (hg : o.guard = none)
    (h : (execOp a.eval o).run P w = .ok (.enter f args) w) (hc : Calls P f args w fun e w' => ∃ v, e = .returned v ∧ R v w')
    (hk : ∀ v w', R v w' → S w' ∧ wpAnyH P md ops Q S fuel (listed.setIfInBounds i true) (a.put o.dst v) w') : wpAnyH P md ops Q S (fuel + 1) listed a w := by
  refine wpAnyH_ready hr (by simp) (AllReadyH.cons hi (fun K hK => ?_) AllReadyH.nil)
  exact qH_step f args R hg h hc (fun v w' hR => hK.out _ _ (hk v w' hR).1 (fun _ => (hk v w' hR).2))
/-- two calls, either first. -/
theorem qH_calls {P : Program} {md : Region.Mode} {ops : Array Oper} {Q : Exit → Act → World → Prop} {S : World → Prop} {fuel : Nat} {listed : Array Bool} {a : Act} {w : World} (i j : Nat) {o p : Oper} (f f' : FuncId) (args args' : Array Value) (R R' : Value → World → Prop) (hr : Region.ready md ops listed = [i, j]) (hi : ops[i]? = some o) (hg : o.guard = none) (hj : ops[j]? = some p) (hgj : p.guard = none)
    (h : (execOp a.eval o).run P w = .ok (.enter f args) w) (h' : (execOp a.eval p).run P w = .ok (.enter f' args') w)
    (hc : Calls P f args w fun e w' => ∃ v, e = .returned v ∧ R v w') (hc' : Calls P f' args' w fun e w' => ∃ v, e = .returned v ∧ R' v w')
    (hk : ∀ v w', R v w' → S w' ∧ wpAnyH P md ops Q S fuel (listed.setIfInBounds i true) (a.put o.dst v) w')
    (hk' : ∀ v w', R' v w' → S w' ∧ wpAnyH P md ops Q S fuel (listed.setIfInBounds j true) (a.put p.dst v) w') : wpAnyH P md ops Q S (fuel + 1) listed a w := by
  refine wpAnyH_ready hr (by simp) (AllReadyH.cons hi (fun K hK => ?_) (AllReadyH.cons hj (fun K hK => ?_) AllReadyH.nil))
  · exact qH_step f args R hg h hc (fun v w' hR => hK.out _ _ (hk v w' hR).1 (fun _ => (hk v w' hR).2))
  · exact qH_step f' args' R' hgj h' hc' (fun v w' hR => hK.out _ _ (hk' v w' hR).1 (fun _ => (hk' v w' hR).2))
set_option linter.unusedVariables false in
theorem calls_val {P : Program} {f : FuncId} {args : Array Value} {w : World} {v : Value} {R : World → Prop} (h : Calls P f args w fun e w' => e = .returned v ∧ R w') : Calls P f args w fun e w' => ∃ u, e = .returned u ∧ u = v ∧ R w' := h.mono fun e w' ⟨h1, h2⟩ => ⟨v, h1, rfl, h2⟩
theorem sizes_append (a b : ByteArray) (ha : a.size = 32) (hb : b.size = 32) : (a ++ b).size = 64 := by rw [ByteArray.size_append]; omega
theorem evL_cons2 (a b : ByteArray) (r : List ByteArray) : evL (a :: b :: r) = a :: b :: evL r := by
  unfold evL
  by_cases h : r.length % 2 = 1
  · rw [if_pos (by simp; omega), if_pos h]
    have h0 : 0 < r.length := by omega
    have e : (a :: b :: r).getD ((a :: b :: r).length - 1) ByteArray.empty = r.getD (r.length - 1) ByteArray.empty := by
      rw [show (a :: b :: r).length - 1 = (r.length - 1) + 1 + 1 by simp; omega]
      rfl
    rw [e]; rfl
  · rw [if_neg (by simp; omega), if_neg h]
theorem upev_cons2 (d : ByteArray → ByteArray) (a b : ByteArray) (r : List ByteArray) : upL d (evL (a :: b :: r)) = d (a ++ b) :: upL d (evL r) := by rw [evL_cons2]; rfl
theorem upev_one (d : ByteArray → ByteArray) (a : ByteArray) : upL d (evL [a]) = [d (a ++ a)] := rfl
theorem upev_nil (d : ByteArray → ByteArray) : upL d (evL []) = [] := rfl
theorem toL (s : ByteArray) : s.toList = s.data.toList := by obtain ⟨⟨l⟩⟩ := s; simp
end Go.Proofs.YtkmalggeieiepaaDoor
namespace Go.Proofs.YtkmalggeieiepaaDoor
open Go.RowKit

/-- block k is a row of bytes. -/
def IsB (w : World) (k : Nat) : Prop := ∃ C fz, w.heap[k]? = some (.cells C 5 fz)
/-- as it was but for block g, rows of bytes behind it, and new blocks. -/
structure Fr (g : Nat) (w w' : World) : Prop where
  os : w'.os = w.os
  tape : w'.tape = w.tape
  output : w'.output = w.output
  size : w.heap.size ≤ w'.heap.size
  block : ∀ k, k < w.heap.size → k ≠ g → (k < g ∨ ¬ IsB w k) → w'.heap[k]? = w.heap[k]?
theorem Fr.refl (g : Nat) (w : World) : Fr g w w := ⟨rfl, rfl, rfl, Nat.le_refl _, fun _ _ _ _ => rfl⟩
theorem Fr.trans {g : Nat} {a b c : World} (h : Fr g a b) (k : Fr g b c) : Fr g a c :=
  ⟨k.os.trans h.os, k.tape.trans h.tape, k.output.trans h.output, Nat.le_trans h.size k.size, fun i hi hg hB => by
    have h1 := h.block i hi hg hB
    exact (k.block i (Nat.lt_of_lt_of_le hi h.size) hg (hB.imp id (fun hn hb => hn (by obtain ⟨C, fz, e⟩ := hb; exact ⟨C, fz, by rw [← h1]; exact e⟩)))).trans h1⟩
theorem Fr.later {g : Nat} {a b c : World} (h : Fr g a b) (k : Below a.heap.size b c) : Fr g a c :=
  ⟨k.os.trans h.os, k.tape.trans h.tape, k.output.trans h.output, Nat.le_trans h.size k.size, fun i hi hg hB => (k.block i hi).trans (h.block i hi hg hB)⟩
theorem Fr.below {g : Nat} {w w' : World} (h : Fr g w w') (hg : g ≤ w.heap.size) {B : Nat} (hB : B ≤ g) : Below B w w' :=
  ⟨h.os, h.tape, h.output, h.size, fun k hk => h.block k (by omega) (by omega) (.inl (by omega))⟩
/-- a writer that has told these bytes lies in block g. -/
def Wr (w : World) (g : Nat) (l : List UInt8) : Prop := ∃ v, w.cell? ⟨g, 0, none⟩ = some v ∧ w.frozen? ⟨g, 0, none⟩ = false ∧ w.ownsRow (g + 1) 5 1 v l.length (Lib.strCells (ofL l))
theorem Wr.lt {w : World} {g : Nat} {l : List UInt8} (h : Wr w g l) : g < w.heap.size := by
  obtain ⟨v, h1, _⟩ := h
  exact World.block_lt_of_cell? w _ h1
theorem own_lt {w : World} {base e size n : Nat} {v : Value} {xs : List Value} (h : w.ownsRow base e size v n xs) : ∀ k, v.ownBlock = some k → base ≤ k ∧ k < w.heap.size ∧ ∃ C, w.heap[k]? = some (.cells C e (0, 0)) := by
  intro k hk
  rcases h.2 with ⟨rfl, _⟩ | ⟨g, cap, cur, rfl, hb, hg, _⟩
  · cases hk
  · injection hk with hk
    have hk' : g = k := hk
    subst hk'
    refine ⟨hb, ?_, cur, hg⟩
    rcases Nat.lt_or_ge g w.heap.size with h | h
    · exact h
    · rw [Array.getElem?_eq_none h] at hg; cases hg
theorem Wr.later {w w' : World} {g : Nat} {l : List UInt8} (h : Wr w g l) (hb : Below w.heap.size w w') : Wr w' g l := by
  have hl := h.lt
  obtain ⟨v, h1, h2, h3⟩ := h
  exact ⟨v, by rw [hb.cell (p := ⟨g, 0, none⟩) hl]; exact h1, by rw [hb.frozen (p := ⟨g, 0, none⟩) hl]; exact h2, own_later h3 hb⟩
theorem strCells_append (a b : List UInt8) : Lib.strCells (ofL (a ++ b)) = Lib.strCells (ofL a) ++ Lib.strCells (ofL b) := by
  unfold Lib.strCells; rw [ofL_data, ofL_data, ofL_data, List.map_append]
theorem infoByte : (Tryd.prog.info? 5).map (fun i => (i.zero, i.size, i.bytes)) = some (some (.int .u8 0), 1, 1) := by kernel_rfl

set_option maxRecDepth 10000 in
set_option maxHeartbeats 1000000 in
theorem wText_any (g : Nat) (l : List UInt8) (s : ByteArray) (w : World) (h : Wr w g l) (hn : l.length ≤ 1048576000) (hs : s.size ≤ 1048576000) :
    Calls Tryd.prog 68 #[.pointer (some ⟨g, 0, none⟩), .string s] w fun x w' => x = .returned (.tuple #[]) ∧ Wr w' g (l ++ s.data.toList) ∧ Fr g w w' := by
  obtain ⟨i0, hi, hz0, hz1, hz2⟩ := info_parts infoByte
  obtain ⟨v, c0, f0, ho⟩ := h
  have HO : Hid (w.ownsRow (g + 1) 5 1 v l.length (Lib.strCells (ofL l))) := ho
  have hg := World.block_lt_of_cell? w _ c0
  have hgl : g < w.heap.size := hg
  have HFB : Hid (∀ k, v.ownBlock = some k → g + 1 ≤ k ∧ k < w.heap.size ∧ ∃ C, w.heap[k]? = some (.cells C 5 (0, 0))) := own_lt ho
  clear hg
  obtain ⟨va, vn, vc, rfl⟩ := own_slice ho
  clear ho
  go_enter Tryd.func68, Tryd.ntmps68
  have HNE : Hid (some g ≠ (Value.slice va vn vc).ownBlock) := fun e => by have := (HFB.out g e.symm).1; omega
  go_wp2_with (at_builtin; go_must (refine Lib.wpList_append_own_string w rfl _ _ 50 9 rfl (g + 1) 5 i0 Tryd.underlying50 Tryd.underlying9 hi hz0 hz1 hz2 (.slice va vn vc) l.length (Lib.strCells (ofL l)) rfl HO.out s rfl (by unfold maxLen; omega) (by omega) (by omega) ?_); intro v' w' ho' hgr hnil; clear hnil; obtain ⟨va', vn', vc', rfl⟩ := own_slice ho'; have HO' := (show Hid (w'.ownsRow (g + 1) 5 1 (.slice va' vn' vc') (l.length + s.size) (Lib.strCells (ofL l) ++ Lib.strCells s)) from ho'); have HGR := (show Hid (w.grownBy w' (Value.slice va vn vc).ownBlock) from hgr); have c1 : w'.cell? ⟨g, 0, none⟩ = some (.slice va vn vc) := hgr.cell c0 HNE.out; have f1 : w'.frozen? ⟨g, 0, none⟩ = false := (by rw [World.frozen?_of_block (hgr.block g hgl HNE.out)]; exact f0); clear ho' hgr)
  go_end0
  refine ⟨rfl, ⟨.slice va' vn' vc', World.cell?_setCell_same _ _ _ c1, by simp only [World.frozen?_setCell]; exact f1, ?_⟩, ?_⟩
  · have h2 : Lib.strCells (ofL (l ++ s.data.toList)) = Lib.strCells (ofL l) ++ Lib.strCells s := by rw [strCells_append, ofL_of]
    rw [h2, List.length_append, show s.data.toList.length = s.size from rfl]
    exact own_mov HO'.out ((Mov.refl g w').set 0 _) (Nat.lt_succ_self _)
  · have hG := HGR.out
    refine ⟨hG.os, hG.tape, hG.output, by simpa using hG.size, fun k hk hkg hB => ?_⟩
    rw [Below.heap_setCell w' ⟨g, 0, none⟩ _ k hkg]
    refine hG.block k hk (fun e => ?_)
    obtain ⟨h1, _, C, h3⟩ := HFB.out k e.symm
    rcases hB with hB | hB
    · omega
    · exact hB ⟨C, _, h3⟩

set_option maxHeartbeats 1000000 in
theorem wNumber_any (g n k : Nat) (l : List UInt8) (w : World) (h : Wr w g l) (hl : l.length ≤ 1048576000) (hn : U64 n) (hk : 0 < k) (hk8 : k ≤ 8) :
    Calls Tryd.prog 69 #[.pointer (some ⟨g, 0, none⟩), .int .u64 (n : Int), .int .i64 (k : Int)] w fun x w' => x = .returned (.tuple #[]) ∧ Wr w' g (l ++ le n k) ∧ Fr g w w' := by
  have h1 := inBytes_any n k w hn hk hk8
  have HT : Hid (∀ W, Below w.heap.size w W → Calls Tryd.prog 68 #[.pointer (some ⟨g, 0, none⟩), .string (ofL (le n k))] W fun x w' => x = .returned (.tuple #[]) ∧ Wr w' g (l ++ le n k) ∧ Fr g w w') := fun W hW =>
    (wText_any g l (ofL (le n k)) W (h.later hW) hl (by rw [ofL_size, le_length]; omega)).mono fun x w' ⟨h1, h2, h3⟩ => ⟨h1, by rw [ofL_data] at h2; exact h2, ((Fr.refl g w).later hW).trans h3⟩
  clear h
  go_enter Tryd.func69, Tryd.ntmps69
  go_wp2_with (first
    | (go_at_call 88; go_must (refine h1.mono ?_); rintro x w1 ⟨rfl, hb1⟩; have HB1 := (show Hid (Below w.heap.size w w1) from hb1); clear hb1)
    | (go_at_call 68; go_must (refine (HT.out _ HB1.out).mono ?_); rintro x w2 ⟨rfl, hw2, hf2⟩))
  go_end0
  exact ⟨rfl, hw2, hf2⟩

set_option maxHeartbeats 1000000 in
theorem wSize_small (g n : Nat) (l : List UInt8) (w : World) (h : Wr w g l) (hl : l.length ≤ 1048576000) (hn : n < 253) :
    Calls Tryd.prog 92 #[.pointer (some ⟨g, 0, none⟩), .int .u64 (n : Int)] w fun x w' => x = .returned (.tuple #[]) ∧ Wr w' g (l ++ sizeL n) ∧ Fr g w w' := by
  have h1 := wNumber_any g n 1 l w h hl (by unfold U64; omega) (by omega) (by omega)
  have e : sizeL n = le n 1 := by simp [sizeL, hn]
  have hi : (n : Int) < 253 := by omega
  rw [e]
  clear h e
  go_enter Tryd.func92, Tryd.ntmps92
  go_wp2_with (go_at_call 69; go_must (refine h1.mono ?_); rintro x w2 ⟨rfl, hw2, hf2⟩)
  go_end0
  exact ⟨rfl, hw2, hf2⟩
theorem wCount_small (g n : Nat) (l : List UInt8) (w : World) (h : Wr w g l) (hl : l.length ≤ 1048576000) (hn : n < 253) :
    Calls Tryd.prog 70 #[.pointer (some ⟨g, 0, none⟩), .int .i64 (n : Int)] w fun x w' => x = .returned (.tuple #[]) ∧ Wr w' g (l ++ sizeL n) ∧ Fr g w w' := by
  have h1 := wSize_small g n l w h hl hn
  have hi : (n : Int) < 253 := by omega
  have hw : IntKind.u64.wrap (n : Int) = (n : Int) := by rw [IntKind.wrap_u64]; omega
  clear h
  go_enter Tryd.func70, Tryd.ntmps70
  go_wp2_with (go_at_call 92; go_must (refine h1.mono ?_); rintro x w2 ⟨rfl, hw2, hf2⟩)
  go_end0
  exact ⟨rfl, hw2, hf2⟩
/-- what was told, as a text. -/
theorem Wr.text {w : World} {g : Nat} {l : List UInt8} (h : Wr w g l) (h0 : 0 < l.length) : ∃ b c, w.cell? ⟨g, 0, none⟩ = some (.slice (some ⟨b, 0, none⟩) l.length c) ∧ (convert 50 9 (.slice (some ⟨b, 0, none⟩) l.length c)).run Tryd.prog w = .ok (.string (ofL l)) w := by
  obtain ⟨v, h1, _, h3⟩ := h
  have h3' := h3
  rcases h3.2 with ⟨_, hz⟩ | ⟨b, cap, cur, hv, _, _, _⟩
  · omega
  · subst hv
    refine ⟨b, cap, h1, ?_⟩
    have hr := own_vrow (by rw [Lib.strCells_length, ofL_size]) h3'
    have := run_convert_bytes_back (P := Tryd.prog) w 50 9 5 ⟨b, 0, none⟩ cap l Tryd.underlying50 Tryd.underlying5 Tryd.underlying9 (fun j hj => by
      have := hr j (by rw [Lib.strCells_length, ofL_size]; exact hj)
      rw [Addr.add_mid, this]
      simp [Lib.strCells, ofL])
    exact this
/-- a new writer. -/
theorem Wr.new (w : World) (T : Nat) (g : Nat) (hg : g = w.heap.size) : Wr (w.alloc (.cells #[.slice none 0 0] T)) g [] := by
  subst hg
  exact ⟨.slice none 0 0, by simp [go_sem], by simp [go_sem], World.ownsRow_nil _ _ _ _⟩
end Go.Proofs.YtkmalggeieiepaaDoor
namespace Go.Proofs.YtkmalggeieiepaaDoor
open Go.RowKit

theorem range_app {w : World} {g : Nat} {a b : List Value} (h : w.rangeAt g 0 (a ++ b)) : w.rangeAt g 0 a ∧ w.rangeAt g a.length b := by
  refine ⟨fun j v hv => h j v ?_, fun j v hv => ?_⟩
  · have hj := (List.getElem?_eq_some_iff.1 hv).1
    rw [List.getElem?_append_left hj]; exact hv
  · have := h (a.length + j) v (by rw [List.getElem?_append_right (by omega)]; simpa using hv)
    rw [Nat.zero_add] at this; exact this
theorem range_new (w : World) (cs : List Value) (T : Nat) (SR : Array Value) (hs : SR = cs.toArray) : (w.alloc (.cells SR T)).rangeAt w.heap.size 0 cs := by
  have h := World.rangeAt_of_block (heap_alloc_new w (.cells SR T)) 0 cs.length
  subst hs
  simpa using h
theorem flat_snoc (T : List (List UInt8)) (j : Nat) (h : j < T.length) : (T.take (j + 1)).flatten = (T.take j).flatten ++ T[j] := by
  rw [List.take_succ_eq_append_getElem h, List.flatten_append]; simp
theorem flat_le (T : List (List UInt8)) (N : Nat) (h : ∀ x ∈ T, x.length ≤ N) : T.flatten.length ≤ T.length * N := by
  induction T with
  | nil => simp
  | cons a T ih =>
    have h1 := h a (by simp)
    have h2 := ih (fun x hx => h x (by simp [hx]))
    simp only [List.flatten_cons, List.length_append, List.length_cons, Nat.succ_mul]; omega

set_option maxRecDepth 10000 in
set_option maxHeartbeats 2000000 in
theorem wSev_any (g : Nat) (T : List (List UInt8)) (va : Option Addr) (vc : Nat) (p0 : List UInt8) (w : World) (hW : Wr w g p0) (hrow : 0 < T.length → ∃ b o, va = some ⟨b, o, none⟩ ∧ SRow w b o (T.map ofL) ∧ b < g) (hn : T.length ≤ 16) (hN : ∀ x ∈ T, x.length ≤ 610) (hp0 : p0.length ≤ 100000) :
    Calls Tryd.prog 80 #[.pointer (some ⟨g, 0, none⟩), .slice va T.length vc] w fun x w' => x = .returned (.tuple #[]) ∧ Wr w' g (p0 ++ sizeL T.length ++ T.flatten) ∧ Fr g w w' := by
  have HRW : Hid (0 < T.length → ∃ b o, va = some ⟨b, o, none⟩ ∧ SRow w b o (T.map ofL) ∧ b < g) := hrow
  have hglt := hW.lt
  have HC : Hid (Calls Tryd.prog 70 #[.pointer (some ⟨g, 0, none⟩), .int .i64 (T.length : Int)] w fun x w' => x = .returned (.tuple #[]) ∧ Wr w' g (p0 ++ sizeL T.length) ∧ Fr g w w') := wCount_small _ T.length _ w hW (by omega) (by omega)
  have HPL : Hid ((p0 ++ sizeL T.length).length ≤ 100009) := by
    show _ ≤ _
    have h1 := sizeL_le T.length
    rw [List.length_append]; omega
  have HND : Hid (∀ j, ((T.take j).flatten).length ≤ 16 * 610) := fun j => by
    have := flat_le (T.take j) 610 (fun x hx => hN x (List.mem_of_mem_take hx))
    rw [List.length_take] at this
    have h3 : min j T.length * 610 ≤ 16 * 610 := Nat.mul_le_mul_right _ (by omega)
    omega
  have HN : Hid (∀ x ∈ T, x.length ≤ 610) := hN
  generalize p0 ++ sizeL T.length = p at HC HPL ⊢
  clear hrow hW hN hp0
  go_enter Tryd.func80, Tryd.ntmps80
  go_upto_region 1 with (go_at_call 70; go_must (refine HC.out.mono ?_); rintro e w4 ⟨rfl, hw4, hf4⟩; have HW4 := (show Hid (Wr w4 g p) from hw4); have HF4 := (show Hid (Fr g w w4) from hf4); clear hw4 hf4)
  clear HC
  go_upto_region 2 with fail
  go_loopg [12] T.length (fun g' i wx => ∃ j : Nat, j + g' = T.length ∧ i = .int .i64 (j : Int) ∧ Wr wx g (p ++ (T.take j).flatten) ∧ Fr g w wx)
  case atStart => exact ⟨0, by omega, rfl, by simpa using HW4.out, HF4.out⟩
  case round =>
    clear HW4 HF4
    obtain ⟨j, hjg, rfl, hw, hf⟩ := hrel
    have HW : Hid (Wr wr g (p ++ (T.take j).flatten)) := hw
    have HF : Hid (Fr g w wr) := hf
    have HJ : Hid (j + gk = T.length) := hjg
    clear hw
    by_cases hlt : j < T.length
    · obtain ⟨b, o, rfl, hrow, hbg⟩ := HRW.out (by omega)
      have cj : wr.cell? ⟨b, o + j, none⟩ = some (.string (ofL T[j])) := by
        have := (hrow.later (hf.below (Nat.le_of_lt hglt) (Nat.le_refl _)) hbg) j (by simp; omega)
        rw [this]; simp
      have hji : (j : Int) < (T.length : Int) := by omega
      have HC2 : Hid (Calls Tryd.prog 68 #[.pointer (some ⟨g, 0, none⟩), .string (ofL T[j])] wr fun x w' => x = .returned (.tuple #[]) ∧ Wr w' g (p ++ (T.take (j + 1)).flatten) ∧ Fr g wr w') := by
        have h1 := HPL.out
        have h2 := HND.out j
        have h3 := HN.out _ (List.getElem_mem hlt)
        rw [flat_snoc T j hlt, ← List.append_assoc]
        exact wText_any _ _ (ofL T[j]) wr HW.out (by rw [List.length_append]; omega) (by rw [ofL_size]; omega)
      generalize ofL T[j] = tx at cj HC2
      clear hf hjg hrow
      go_wp2_with (go_at_call 68; go_must (refine HC2.out.mono ?_); rintro e w5 ⟨rfl, hw5, hf5⟩; have HW5 := (show Hid (Wr w5 g (p ++ (T.take (j + 1)).flatten)) from hw5); have HF5 := (show Hid (Fr g w w5) from HF.out.trans hf5); clear hw5 hf5)
      go_roundg (gk - 1)
      case measure => have := HJ.out; omega
      case rel =>
        have h1 := HJ.out
        exact ⟨j + 1, by omega, by go_num, HW5.out, HF5.out⟩
    · obtain rfl : j = T.length := by omega
      rw [List.take_length] at HW
      clear hf hjg
      have hji : ¬ ((T.length : Int) < (T.length : Int)) := by omega
      go_wp2
      go_end0
      exact ⟨rfl, HW.out, HF.out⟩

set_option maxRecDepth 10000 in
set_option maxHeartbeats 2000000 in
theorem rpText_any (nm : ByteArray) (hnm : nm.size = 32) (T : List (List UInt8)) (v : Value) (SR : Array Value) (HSR : Hid (SR = (bc nm ++ [v]).toArray)) (w : World) (hv : SVal w v (T.map ofL)) (hn : T.length ≤ 16) (hN : ∀ x ∈ T, x.length ≤ 610) :
    Calls Tryd.prog 45 #[.agg SR] w fun x w' => x = .returned (.string (ofL (nm.data.toList ++ sizeL T.length ++ T.flatten))) ∧ Below w.heap.size w w' := by
  go_enter Tryd.func45, Tryd.ntmps45
  go_upto_region 2 with fail
  obtain ⟨W1, hW1⟩ : ∃ W, W = (w.alloc (.cells SR 89)).alloc (.cells #[.slice none 0 0] 124) := ⟨_, rfl⟩
  have hrg : (w.alloc (.cells SR 89)).rangeAt w.heap.size 0 (bc nm ++ [v]) := range_new w _ _ SR HSR.out
  have HB1 : Hid (Below w.heap.size w W1) := by show Below _ _ _; rw [hW1]; exact ((Below.refl _ _).alloc (Nat.le_refl _) _).alloc (by simp) _
  have hr1 : W1.rangeAt w.heap.size 0 (bc nm ++ [v]) := by rw [hW1]; exact World.rangeAt_alloc hrg _
  have hW : Wr W1 (w.heap.size + 1) [] := by rw [hW1]; exact Wr.new _ _ _ (by simp)
  have hz1 : W1.heap.size = w.heap.size + 2 := by rw [hW1]; simp
  rw [← hW1]
  clear hW1 hrg HSR
  obtain ⟨hra, hrb⟩ := range_app hr1
  rw [bc_length, hnm] at hrb
  have HRA : Hid (W1.rangeAt w.heap.size 0 (bc nm)) := hra
  have HCB : Hid (∀ W, Below (w.heap.size + 1) W1 W → W.cell? ⟨w.heap.size, 32, none⟩ = some v) := fun W hW => by
    rw [hW.cell (p := ⟨w.heap.size, 32, none⟩) (Nat.lt_succ_self _)]; exact hrb 0 v rfl
  have HTX : Hid (∀ W, Calls Tryd.prog 21 #[.agg (bc nm).toArray] W fun e w' => e = .returned (.string nm) ∧ Below W.heap.size W w') := fun W => text_d nm hnm W
  have HWR : Hid (Wr W1 (w.heap.size + 1) []) := hW
  clear hr1 hra hrb hW
  obtain ⟨va, vc, rfl, _, hrow⟩ := hv
  have hTl : (T.map ofL).length = T.length := by simp
  rw [hTl] at hrow HCB
  have HRW : Hid (0 < T.length → ∃ b o, va = some ⟨b, o, none⟩ ∧ SRow w b o (T.map ofL)) := hrow
  clear hrow hTl
  have hbl := bc_length nm
  go_upto_region 3 with (first
    | (refine wpList_load_mid rfl 43 _ rfl w.heap.size 0 rfl (bc nm) _ ?_ Tryd.underlying43 rfl ?_ ?_; exact HRA.out; rw [bc_length, hnm]; kernel_rfl)
    | (go_at_call 21; go_must (refine (HTX.out _).mono ?_); rintro e w2 ⟨rfl, hb2⟩; have HB2 := (show Hid (Below W1.heap.size W1 w2) from hb2); have HW2 := (show Hid (Wr w2 (w.heap.size + 1) []) from HWR.out.later hb2); clear hb2)
    | (go_at_call 68; go_must (refine (wText_any (w.heap.size + 1) [] nm _ HW2.out (by simp) (by omega)).mono ?_); rintro e w3 ⟨rfl, hw3, hf3⟩; have HW3 := (show Hid (Wr w3 (w.heap.size + 1) nm.data.toList) from hw3); have HB3 := (show Hid (Below (w.heap.size + 1) W1 w3) from (HB2.out.mono (by omega)).trans (hf3.below (Nat.le_of_lt HW2.out.lt) (Nat.le_refl _))); clear hw3 hf3))
  clear HWR HRA HTX hbl
  have hnl : nm.data.toList.length = 32 := hnm
  have HC : Hid (Calls Tryd.prog 80 #[.pointer (some ⟨w.heap.size + 1, 0, none⟩), .slice va T.length vc] w3 fun x w' => x = .returned (.tuple #[]) ∧ Wr w' (w.heap.size + 1) (nm.data.toList ++ sizeL T.length ++ T.flatten) ∧ Fr (w.heap.size + 1) w3 w') := wSev_any _ T va vc nm.data.toList w3 HW3.out (fun h0 => by
    obtain ⟨b, o, ha, hr⟩ := HRW.out h0
    have hbw := hr.lt (by simpa using h0)
    exact ⟨b, o, ha, (hr.later HB1.out hbw).later HB3.out (Nat.lt_succ_of_lt hbw), Nat.lt_succ_of_lt hbw⟩) hn hN (by omega)
  have d3 := HCB.out w3 HB3.out
  go_upto_region 4 with (go_at_call 80; go_must (refine HC.out.mono ?_); rintro e w4 ⟨rfl, hw4, hf4⟩; have HW4 := (show Hid (Wr w4 (w.heap.size + 1) (nm.data.toList ++ sizeL T.length ++ T.flatten)) from hw4); have HB4 := (show Hid (Below (w.heap.size + 1) W1 w4) from HB3.out.trans (hf4.below (Nat.le_of_lt HW3.out.lt) (Nat.le_refl _))); clear hw4 hf4)
  clear d3 HC HW3 HB3
  obtain ⟨b, c, d0, hcv⟩ := HW4.out.text (by rw [List.length_append, List.length_append]; omega)
  have HBW : Hid (Below w.heap.size w w4) := HB1.out.trans (HB4.out.mono (Nat.le_succ _))
  generalize hS : ofL (nm.data.toList ++ sizeL T.length ++ T.flatten) = S at hcv
  have HL : Hid (ofL (nm.data.toList ++ sizeL T.length ++ T.flatten) = S) := hS
  clear hS
  generalize (nm.data.toList ++ sizeL T.length ++ T.flatten).length = LN at d0 hcv
  clear hnl
  go_wp2
  go_ret
  exact ⟨by rw [HL.out]; rfl, HBW.out⟩
end Go.Proofs.YtkmalggeieiepaaDoor
set_option linter.unusedSimpArgs false
namespace Go.Proofs.YtkmalggeieiepaaDoor
open Go.RowKit

theorem le_mod : ∀ (k n : Nat), le (n % 256 ^ k) k = le n k
  | 0, _ => rfl
  | k + 1, n => by
    have ih := le_mod k (n / 256)
    have e1 : n % 256 ^ (k + 1) / 256 = n / 256 % 256 ^ k := by
      rw [Nat.pow_succ, Nat.mul_comm, Nat.mod_mul_right_div_self]
    have e2 : UInt8.ofNat (n % 256 ^ (k + 1)) = UInt8.ofNat n := by
      rw [← UInt8.toNat_inj]
      simp only [UInt8.toNat_ofNat']
      exact Nat.mod_mod_of_dvd n (by rw [Nat.pow_succ]; exact Nat.dvd_mul_left _ _)
    show UInt8.ofNat (n % 256 ^ (k + 1)) :: le (n % 256 ^ (k + 1) / 256) k = UInt8.ofNat n :: le (n / 256) k
    rw [e1, e2, ih]
theorem and_mask (n : Nat) (h : U64 n) : bits .and .u64 (n : Int) 281474976710655 = ((n % 281474976710656 : Nat) : Int) := by
  have := bits_and_u64_nat n 281474976710655 h (by omega)
  rw [show ((281474976710655 : Nat) : Int) = 281474976710655 from rfl] at this
  rw [this, show (281474976710655 : Nat) = 2 ^ 48 - 1 from rfl, Nat.and_two_pow_sub_one_eq_mod]

theorem q_run3 {P : Program} {o : Oper} {a : Act} {W W' : World} {r : Next} (s t u : Nat) (us ut uu : Value) (hs : a.eval (.tmp s) = us) (ht : a.eval (.tmp t) = ut) (hu : a.eval (.tmp u) = uu)
    (h : ∀ ρ : Operand → Value, (∀ c, ρ (.const c) = c) → (∀ n, ρ (.func n) = .func (.func n) #[] #[]) → ρ (.tmp s) = us → ρ (.tmp t) = ut → ρ (.tmp u) = uu → (execOp ρ o).run P W = .ok r W') : (execOp a.eval o).run P W = .ok r W' := h a.eval (fun _ => rfl) (fun _ => rfl) hs ht hu

set_option maxRecDepth 10000 in
set_option maxHeartbeats 2000000 in
theorem shortID_any (k l : Nat) (d : ByteArray) (hd : d.size = 32) (w : World) :
    Calls Tryd.prog 67 #[.agg #[.int .u64 (k : Int), .int .u64 (l : Int)], aggD d] w fun e w' => e = .returned (.int .u64 ((sipN k l d % 281474976710656 : Nat) : Int)) ∧ Below w.heap.size w w' := by
  have hm := and_mask (sipN k l d) (sipN_ok k l d)
  have HSP : Hid (∀ W, Calls Tryd.prog 91 #[.int .u64 (k : Int), .int .u64 (l : Int), .string d] W fun e w' => e = .returned (.int .u64 (sipN k l d : Int)) ∧ Below W.heap.size W w') := fun W => by rw [sipN_int]; exact sip_any k l d W (by omega)
  have HTX : Hid (∀ W, Calls Tryd.prog 21 #[aggD d] W fun e w' => e = .returned (.string d) ∧ Below W.heap.size W w') := fun W => text_d d hd W
  have hbl : (bc d).length = 32 := by rw [bc_length, hd]
  have HLD : Hid (aggD d = .agg (bc d).toArray) := rfl
  generalize ((sipN k l d % 281474976710656 : Nat) : Int) = V at hm
  generalize (sipN k l d : Int) = U at hm HSP
  generalize (k : Int) = K at HSP
  generalize (l : Int) = L at HSP
  go_enter Tryd.func67, Tryd.ntmps67
  unfold aggD
  go_upto_region 1 with fail
  obtain ⟨W1, hW1⟩ : ∃ W, W = (w.alloc (.cells #[.int .u64 K, .int .u64 L] 117)).alloc (.cells (bc d).toArray 43) := ⟨_, rfl⟩
  have HB1 : Hid (Below w.heap.size w W1) := by show Below _ _ _; rw [hW1]; exact ((Below.refl _ _).alloc (Nat.le_refl _) _).alloc (by simp) _
  have c0 : W1.cell? ⟨w.heap.size, 0, none⟩ = some (.int .u64 K) := by rw [hW1]; simp [go_sem]
  have c1 : W1.cell? ⟨w.heap.size, 1, none⟩ = some (.int .u64 L) := by rw [hW1]; simp [go_sem]
  have cd : W1.rangeAt (w.heap.size + 1) 0 (bc d) := by rw [hW1]; have := range_new (w.alloc (.cells #[.int .u64 K, .int .u64 L] 117)) (bc d) 43 _ rfl; simpa using this
  have hz1 : W1.heap.size = w.heap.size + 2 := by rw [hW1]; simp
  rw [← hW1]
  clear hW1
  have HST : Hid (∀ W, Below W1.heap.size W1 W → W.cell? ⟨w.heap.size, 0, none⟩ = some (.int .u64 K) ∧ W.cell? ⟨w.heap.size, 1, none⟩ = some (.int .u64 L) ∧ W.rangeAt (w.heap.size + 1) 0 (bc d)) := fun W hW =>
    ⟨by rw [hW.cell (p := ⟨w.heap.size, 0, none⟩) (by show w.heap.size < _; omega)]; exact c0, by rw [hW.cell (p := ⟨w.heap.size, 1, none⟩) (by show w.heap.size < _; omega)]; exact c1, range_later cd hW (by omega)⟩
  have HB0 : Below W1.heap.size W1 W1.drew := ⟨rfl, rfl, rfl, Nat.le_refl _, fun _ _ => rfl⟩
  clear c0 c1 cd
  refine q_frame (fun A HFR => ?_)
  have hsz : A.tmps.size = 13 := by rw [HFR.out]; rfl
  have h2 : A.eval (.tmp 2) = .pointer (some ⟨w.heap.size, 0, none⟩) := by rw [HFR.out]; rfl
  have h3 : A.eval (.tmp 3) = .pointer (some ⟨w.heap.size + 1, 0, none⟩) := by rw [HFR.out]; rfl
  refine wp_region_held_drew (S := fun W => W.cell? ⟨w.heap.size, 0, none⟩ = some (.int .u64 K) ∧ W.cell? ⟨w.heap.size, 1, none⟩ = some (.int .u64 L) ∧ W.rangeAt (w.heap.size + 1) 0 (bc d)) (by kernel_rfl) (HST.out _ HB0) (fun hS => ?_)
  refine wpAnyH_take (i := 0) (v := (.pointer (some ⟨w.heap.size, 0, none⟩))) rfl (by kernel_rfl) (by kernel_rfl) (by kernel_rfl) (fun _ _ _ h => h) (Or.inl ⟨by rfl, fun W _ => q_run1 2 (.pointer (some ⟨w.heap.size, 0, none⟩)) (by simp only [q_same, q_ne, q_sz, hsz, h2, h3, ne_eq, Nat.reduceEqDiff, not_false_eq_true, Nat.reduceLT]) (fun ρ hc hf e1 => by simp [go_sem, hc, hf, e1])⟩) hS ?_
  change wpAnyH _ _ _ _ _ _ _ (Act.put _ (some 5) _) _
  refine wpAnyH_take (i := 1) (v := (.int .u64 K)) rfl (by kernel_rfl) (by kernel_rfl) (by kernel_rfl) (fun _ _ _ h => h) (Or.inl ⟨by rfl, fun W hW => q_run1 5 (.pointer (some ⟨w.heap.size, 0, none⟩)) (by simp only [q_same, q_ne, q_sz, hsz, h2, h3, ne_eq, Nat.reduceEqDiff, not_false_eq_true, Nat.reduceLT]) (fun ρ hc hf e1 => by simp [go_sem, hc, hf, e1, hW.1])⟩) hS ?_
  change wpAnyH _ _ _ _ _ _ _ (Act.put _ (some 6) _) _
  refine wpAnyH_take (i := 2) (v := (.pointer (some ⟨w.heap.size, 1, none⟩))) rfl (by kernel_rfl) (by kernel_rfl) (by kernel_rfl) (fun _ _ _ h => h) (Or.inl ⟨by rfl, fun W _ => q_run1 2 (.pointer (some ⟨w.heap.size, 0, none⟩)) (by simp only [q_same, q_ne, q_sz, hsz, h2, h3, ne_eq, Nat.reduceEqDiff, not_false_eq_true, Nat.reduceLT]) (fun ρ hc hf e1 => by simp [go_sem, hc, hf, e1])⟩) hS ?_
  change wpAnyH _ _ _ _ _ _ _ (Act.put _ (some 7) _) _
  refine wpAnyH_take (i := 3) (v := (.int .u64 L)) rfl (by kernel_rfl) (by kernel_rfl) (by kernel_rfl) (fun _ _ _ h => h) (Or.inl ⟨by rfl, fun W hW => q_run1 7 (.pointer (some ⟨w.heap.size, 1, none⟩)) (by simp only [q_same, q_ne, q_sz, hsz, h2, h3, ne_eq, Nat.reduceEqDiff, not_false_eq_true, Nat.reduceLT]) (fun ρ hc hf e1 => by simp [go_sem, hc, hf, e1, hW.2.1])⟩) hS ?_
  change wpAnyH _ _ _ _ _ _ _ (Act.put _ (some 8) _) _
  refine wpAnyH_take (i := 4) (v := aggD d) rfl (by kernel_rfl) (by kernel_rfl) (by kernel_rfl) (fun _ _ _ h => h) (yieldsIf_load_mid (by rfl) 43 _ rfl (w.heap.size + 1) 0 (by simp only [q_same, q_ne, q_sz, hsz, h2, h3, ne_eq, Nat.reduceEqDiff, not_false_eq_true, Nat.reduceLT]) (bc d) _ (fun W hW => hW.2.2) Tryd.underlying43 rfl (by rw [hbl]; kernel_rfl)) hS ?_
  change wpAnyH _ _ _ _ _ _ _ (Act.put _ (some 9) _) _
  refine qH_call 5 21 #[aggD d] _ (by kernel_rfl) rfl rfl (q_run1 9 (aggD d) (by simp only [q_same, q_ne, q_sz, hsz, h2, h3, ne_eq, Nat.reduceEqDiff, not_false_eq_true, Nat.reduceLT]) (fun ρ hc hf e1 => by simp [go_sem, hc, hf, e1])) (calls_val (HTX.out _)) ?_
  rintro _ w2 ⟨rfl, hb2⟩
  have HB2 : Below W1.heap.size W1 w2 := HB0.trans hb2
  refine ⟨HST.out _ HB2, ?_⟩
  change wpAnyH _ _ _ _ _ _ _ (Act.put _ (some 10) _) _
  refine qH_call 6 91 #[.int .u64 K, .int .u64 L, .string d] _ (by kernel_rfl) rfl rfl (q_run3 6 8 10 (.int .u64 K) (.int .u64 L) (.string d) (by simp only [q_same, q_ne, q_sz, hsz, h2, h3, ne_eq, Nat.reduceEqDiff, not_false_eq_true, Nat.reduceLT]) (by simp only [q_same, q_ne, q_sz, hsz, h2, h3, ne_eq, Nat.reduceEqDiff, not_false_eq_true, Nat.reduceLT]) (by simp only [q_same, q_ne, q_sz, hsz, h2, h3, ne_eq, Nat.reduceEqDiff, not_false_eq_true, Nat.reduceLT]) (fun ρ hc hf e1 e2 e3 => by simp [go_sem, hc, hf, e1, e2, e3])) (calls_val (HSP.out _)) ?_
  rintro _ w3 ⟨rfl, hb3⟩
  have HB3 : Below W1.heap.size W1 w3 := HB2.trans (hb3.mono HB2.size)
  refine ⟨HST.out _ HB3, ?_⟩
  change wpAnyH _ _ _ _ _ _ _ (Act.put _ (some 11) _) _
  refine qH_one 7 (.int .u64 V) w3 (by kernel_rfl) rfl rfl (q_run1 11 (.int .u64 U) (by simp only [q_same, q_ne, q_sz, hsz, h2, h3, ne_eq, Nat.reduceEqDiff, not_false_eq_true, Nat.reduceLT]) (fun ρ hc hf e1 => by simp [go_sem, hc, hf, e1, hm])) (HST.out _ HB3) ?_
  change wpAnyH _ _ _ _ _ _ _ (Act.put _ (some 12) _) _
  refine qH_one 8 (.int .u64 V) w3 (by kernel_rfl) rfl rfl (q_run1 12 (.int .u64 V) (by simp only [q_same, q_ne, q_sz, hsz, h2, h3, ne_eq, Nat.reduceEqDiff, not_false_eq_true, Nat.reduceLT]) (fun ρ hc hf e1 => by simp [go_sem, hc, hf, e1])) (HST.out _ HB3) ?_
  change wpAnyH _ _ _ _ _ _ _ (Act.put _ (some 4) _) _
  refine wpAnyH_done (by kernel_rfl) ?_ _
  have HBF : Hid (Below w.heap.size w w3) := HB1.out.trans (HB3.mono (by omega))
  have hfr := HFR.out
  clear HFR hsz h2 h3 hS HB0 HB2 HB3 hb2 hb3 HST
  subst hfr
  simp only [Act.put, List.setIfInBounds_toArray, List.set_cons_zero, List.set_cons_succ]
  go_wp2
  go_ret
  exact ⟨rfl, HBF.out⟩
end Go.Proofs.YtkmalggeieiepaaDoor
namespace Go.Proofs.YtkmalggeieiepaaDoor
open Go.RowKit

theorem alE_of (n : Nat) (l : List Int) (c : Int) (hc : c ≠ 0) (h : alR n (-1) l = c) : alE n l = c := by unfold alE; rw [h, if_pos hc]
set_option maxRecDepth 10000 in
set_option maxHeartbeats 1000000 in
theorem index_ints (l : List Int) (x : Int) (v : Value) (w : World) (hv : VVal w v (intV l)) (hl : l.length ≤ 1048576) :
    Calls Tryd.prog 90 #[v, .int .i64 x] w fun e w' => (∃ y : Int, e = .returned (.int .i64 y) ∧ (0 ≤ y ↔ x ∈ l)) ∧ w' = w := by
  obtain ⟨a, cap, rfl, _, hr⟩ := hv
  have hll : (intV l).length = l.length := by simp [intV]
  rw [hll] at hr ⊢
  have HR : Hid (0 < l.length → ∃ b o, a = some ⟨b, o, none⟩ ∧ VRow w b o (intV l)) := hr
  clear hr hll
  go_enter Tryd.func90, Tryd.ntmps90
  go_upto_region 2 with fail
  go_loopg [8] l.length (fun g i wx => ∃ j : Nat, j + g = l.length ∧ i = .int .i64 (j : Int) ∧ (∀ (k : Nat) (h : k < l.length), k < j → l[k] ≠ x) ∧ wx = w)
  case atStart => exact ⟨0, by omega, rfl, fun _ _ h => by omega, rfl⟩
  case round =>
    obtain ⟨j, hj, rfl, hno, rfl⟩ := hrel
    have HNO : Hid (∀ (k : Nat) (h : k < l.length), k < j → l[k] ≠ x) := hno
    clear hno
    by_cases hlt : j < l.length
    · obtain ⟨b, o, rfl, hrow⟩ := HR.out (by omega)
      have cj : wr.cell? ⟨b, o + j, none⟩ = some (.int .i64 l[j]) := by
        have := hrow j (by simp [intV]; omega)
        rw [this]; simp [intV]
      have hji : (j : Int) < (l.length : Int) := by omega
      have HMEM := (show Hid (l[j] ∈ l) from List.getElem_mem hlt)
      have HNX := (show Hid (l[j] ≠ x → ∀ (k : Nat) (h : k < l.length), k < j + 1 → l[k] ≠ x) from fun h k hk hk2 => by
        rcases Nat.lt_or_ge k j with h3 | h3
        · exact HNO.out k hk h3
        · obtain rfl : k = j := by omega
          exact h)
      generalize l[j] = y at cj HMEM HNX
      by_cases hxy : x = y
      · subst hxy
        go_wp2
        go_ret
        exact ⟨⟨(j : Int), rfl, ⟨fun _ => HMEM.out, fun _ => by omega⟩⟩, rfl⟩
      · go_wp2
        go_roundg (gk - 1)
        case measure => omega
        case rel => exact ⟨j + 1, by omega, by go_num, HNX.out (fun h => hxy h.symm), rfl⟩
    · obtain rfl : j = l.length := by omega
      have HNI : Hid (¬ x ∈ l) := fun hm => by
        obtain ⟨k, hk, e⟩ := List.getElem_of_mem hm
        exact HNO.out k hk hk e
      go_wp2
      go_ret
      exact ⟨⟨-1, rfl, ⟨fun h => by omega, fun h => absurd h HNI.out⟩⟩, rfl⟩
theorem contains_ints (l : List Int) (x : Int) (v : Value) (w : World) (hv : VVal w v (intV l)) (hl : l.length ≤ 1048576) :
    Calls Tryd.prog 66 #[v, .int .i64 x] w fun e w' => e = .returned (.bool (decide (x ∈ l))) ∧ w' = w := by
  have h1 := index_ints l x v w hv hl
  clear hv
  go_enter Tryd.func66, Tryd.ntmps66
  go_wp2_with (go_at_call 90; go_must (refine h1.mono ?_); rintro e w1 ⟨⟨y, rfl, hy⟩, rfl⟩)
  go_ret
  exact ⟨rfl, rfl⟩

set_option maxRecDepth 10000 in
set_option maxHeartbeats 2000000 in
theorem checkAlong_any (l : List Int) (n : Nat) (v : Value) (w : World) (hv : VVal w v (intV l)) (hl : l.length ≤ 1048576) :
    Calls Tryd.prog 34 #[v, .int .i64 (n : Int)] w fun e w' => e = .returned (.int .i64 (alE n l)) ∧ w' = w := by
  obtain ⟨a, cap, rfl, _, hr⟩ := hv
  have hll : (intV l).length = l.length := by simp [intV]
  rw [hll] at hr ⊢
  have HR : Hid (0 < l.length → ∃ b o, a = some ⟨b, o, none⟩ ∧ VRow w b o (intV l)) := hr
  obtain ⟨E, HE⟩ : ∃ E, Hid (E = alE n l) := ⟨_, rfl⟩
  rw [← HE.out]
  clear hr hll
  go_enter Tryd.func34, Tryd.ntmps34
  go_upto_region 2 with fail
  go_loopg [9] l.length (fun g i wx => ∃ j : Nat, j + g = l.length ∧ i = .int .i64 (j : Int) ∧ alR n (-1) l = alR n (ahead l j) (l.drop j) ∧ wx = w)
  case atStart => exact ⟨0, by omega, rfl, rfl, rfl⟩
  case round =>
    obtain ⟨j, hj, rfl, hno, rfl⟩ := hrel
    have HNO : Hid (alR n (-1) l = alR n (ahead l j) (l.drop j)) := hno
    clear hno
    by_cases hlt : j < l.length
    · obtain ⟨b, o, rfl, hrow⟩ := HR.out (by omega)
      have cj : wr.cell? ⟨b, o + j, none⟩ = some (.int .i64 l[j]) := by
        have := hrow j (by simp [intV]; omega)
        rw [this]; simp [intV]
      have hji : (j : Int) < (l.length : Int) := by omega
      have HST := (show Hid (alR n (ahead l j) (l.drop j) = if l[j] < 0 ∨ (n : Int) ≤ l[j] then 4 else if l[j] ≤ ahead l j then 11 else alR n (ahead l (j + 1)) (l.drop (j + 1))) from alR_step n l j hlt)
      have HAH : Hid (0 < j → ∃ y, ahead l j = y ∧ wr.cell? ⟨b, o + (j - 1), none⟩ = some (.int .i64 y)) := fun h0 => by
        refine ⟨l[j - 1]'(by omega), by simp [ahead, show j ≠ 0 by omega, List.getD, show j - 1 < l.length by omega], ?_⟩
        have := hrow (j - 1) (by simp [intV]; omega)
        rw [this]; simp [intV]
      have HA0 : Hid (j = 0 → ahead l j = -1) := fun h0 => by simp [ahead, h0]
      generalize l[j] = x at cj HST
      clear hrow
      by_cases h1 : x < 0
      · have hE : E = 4 := by rw [HE.out]; exact alE_of _ _ 4 (by omega) (by rw [HNO.out, HST.out, if_pos (.inl h1)])
        go_wp2
        go_ret
        exact ⟨by first | rfl | (rw [hE]; rfl), rfl⟩
      · by_cases h2 : (n : Int) ≤ x
        · have hE : E = 4 := by rw [HE.out]; exact alE_of _ _ 4 (by omega) (by rw [HNO.out, HST.out, if_pos (.inr h2)])
          go_wp2
          go_ret
          exact ⟨by first | rfl | (rw [hE]; rfl), rfl⟩
        · by_cases h0 : j = 0
          · have HNX : Hid (alR n (-1) l = alR n (ahead l (j + 1)) (l.drop (j + 1))) := by show _ = _; rw [HNO.out, HST.out, if_neg (by omega), if_neg (by rw [HA0.out h0]; omega)]
            have hjp : ¬ ((0 : Int) < (j : Int)) := by omega
            clear h0
            go_wp2
            go_roundg (gk - 1)
            case measure => omega
            case rel => exact ⟨j + 1, by omega, by go_num, HNX.out, rfl⟩
          · obtain ⟨y, hy, cy⟩ := HAH.out (by omega)
            have hjp : (0 : Int) < (j : Int) := by omega
            have hj1 : wrap64 ((j : Int) - 1) = ((j - 1 : Nat) : Int) := by unfold wrap64; omega
            by_cases h3 : x ≤ y
            · have hE : E = 11 := by rw [HE.out]; exact alE_of _ _ 11 (by omega) (by rw [HNO.out, HST.out, if_neg (by omega), if_pos (by rw [hy]; exact h3)])
              go_wp2
              go_ret
              exact ⟨by first | rfl | (rw [hE]; rfl), rfl⟩
            · have HNX : Hid (alR n (-1) l = alR n (ahead l (j + 1)) (l.drop (j + 1))) := by show _ = _; rw [HNO.out, HST.out, if_neg (by omega), if_neg (by rw [hy]; exact h3)]
              go_wp2
              go_roundg (gk - 1)
              case measure => omega
              case rel => exact ⟨j + 1, by omega, by go_num, HNX.out, rfl⟩
    · obtain rfl : j = l.length := by omega
      have h0 : alR n (-1) l = 0 := by rw [HNO.out, List.drop_length]; rfl
      by_cases hz : l.length = 0
      · have hE : E = 11 := by rw [HE.out]; unfold alE; rw [if_neg (by omega), if_pos (.inl hz)]
        have hzb : ((l.length : Int) == 0) = true := by simp; exact List.eq_nil_of_length_eq_zero hz
        go_wp2
        go_ret
        exact ⟨by first | rfl | (rw [hE]; rfl), rfl⟩
      · obtain ⟨b, o, rfl, hrow⟩ := HR.out (by omega)
        have c0 : wr.cell? ⟨b, o, none⟩ = some (.int .i64 (l.headD 0)) := by
          have := hrow 0 (by simp [intV]; omega)
          rw [Nat.add_zero] at this
          rw [this]
          cases l with
          | nil => simp at hz
          | cons x l => simp [intV]
        have hzb : ((l.length : Int) == 0) = false := by simp; intro h; rw [h] at hz; simp at hz
        have hpi : (0 : Int) < (l.length : Int) := by omega
        have HEE : Hid (E = if l.headD 0 ≠ 0 then 11 else 0) := by show _ = _; rw [HE.out]; unfold alE; rw [if_neg (by omega)]; simp [hz]
        generalize l.headD 0 = x at c0 HEE
        clear hrow
        by_cases hx : x = 0
        · have hE : E = 0 := by rw [HEE.out]; simp [hx]
          go_wp2
          go_ret
          exact ⟨by first | rfl | (rw [hE]; rfl), rfl⟩
        · have hE : E = 11 := by rw [HEE.out]; simp [hx]
          go_wp2
          go_ret
          exact ⟨by first | rfl | (rw [hE]; rfl), rfl⟩
end Go.Proofs.YtkmalggeieiepaaDoor
namespace Go.Proofs.YtkmalggeieiepaaDoor
open Go.RowKit

theorem le_num : ∀ t : List UInt8, le (num t) t.length = t
  | [] => rfl
  | c :: t => by
    have h := c.toNat_lt
    have e1 : UInt8.ofNat (num (c :: t)) = c := by
      rw [← UInt8.toNat_inj]; simp [num]
    have e2 : num (c :: t) / 256 = num t := by simp only [num]; omega
    show UInt8.ofNat (num (c :: t)) :: le (num (c :: t) / 256) t.length = c :: t
    rw [e1, e2, le_num t]
/-- the least that wants so many bytes. -/
def leastOf (c : UInt8) : Nat := if c = 253 then 253 else if c = 254 then 65536 else if c = 255 then 4294967296 else 0
theorem size_told (c : UInt8) (t : List UInt8) (hm : manyOf c ≠ 0) (ht : t.length = manyOf c) : (sizeL (num t) = c :: t) ↔ ¬ num t < leastOf c := by
  have hn := num_lt t
  have hle := le_num t
  rw [ht] at hn hle
  have hc : c = 253 ∨ c = 254 ∨ c = 255 := by
    unfold manyOf at hm
    by_cases h1 : c = 253
    · exact .inl h1
    · by_cases h2 : c = 254
      · exact .inr (.inl h2)
      · by_cases h3 : c = 255
        · exact .inr (.inr h3)
        · simp [h1, h2, h3] at hm
  rcases hc with rfl | rfl | rfl
  · have m : manyOf 253 = 2 := rfl
    have k : leastOf 253 = 253 := rfl
    rw [m] at hn hle
    rw [k]
    have hn' : num t < 65536 := by simpa using hn
    constructor
    · intro h h2
      have : sizeL (num t) = le (num t) 1 := by simp [sizeL, h2]
      rw [this] at h
      have := congrArg List.length h
      rw [le_length] at this
      simp [m] at ht
      simp [ht] at this
    · intro h
      have : sizeL (num t) = 253 :: le (num t) 2 := by simp [sizeL, h, hn']
      rw [this, hle]
  · have m : manyOf 254 = 4 := rfl
    have k : leastOf 254 = 65536 := rfl
    rw [m] at hn hle
    rw [k]
    have hn' : num t < 4294967296 := by simpa using hn
    constructor
    · intro h h2
      unfold sizeL at h
      by_cases h1 : num t < 253
      · rw [if_pos h1] at h
        have := congrArg List.length h
        rw [le_length] at this
        simp [m] at ht
        simp [ht] at this
      · rw [if_neg h1, if_pos h2] at h
        injection h with h3
        exact absurd h3 (by decide)
    · intro h
      have : sizeL (num t) = 254 :: le (num t) 4 := by
        unfold sizeL; rw [if_neg (by omega), if_neg h, if_pos hn']
      rw [this, hle]
  · have m : manyOf 255 = 8 := rfl
    have k : leastOf 255 = 4294967296 := rfl
    rw [m] at hn hle
    rw [k]
    constructor
    · intro h h2
      unfold sizeL at h
      by_cases h1 : num t < 253
      · rw [if_pos h1] at h
        have := congrArg List.length h
        rw [le_length] at this
        simp [m] at ht
        simp [ht] at this
      · by_cases h3 : num t < 65536
        · rw [if_neg h1, if_pos h3] at h
          injection h with h4
          exact absurd h4 (by decide)
        · rw [if_neg h1, if_neg h3, if_pos h2] at h
          injection h with h4
          exact absurd h4 (by decide)
    · intro h
      have : sizeL (num t) = 255 :: le (num t) 8 := by
        unfold sizeL; rw [if_neg (by omega), if_neg (by omega), if_neg h]
      rw [this, hle]
/-- a fault stays. -/
def Stick (f : List UInt8 × Int → List UInt8 × Int) : Prop := ∀ r, r.2 ≠ 0 → (f r).2 = r.2
theorem Stick.comp {f g : List UInt8 × Int → List UInt8 × Int} (hf : Stick f) (hg : Stick g) : Stick (fun r => g (f r)) := fun r hr => by
  have h := hf r hr
  show (g (f r)).2 = r.2
  rw [hg (f r) (by rw [h]; exact hr), h]
theorem stick_take (n : Nat) : Stick (fun r => (rTake n r).2) := fun r hr => by simp [rTake, hr]
theorem stick_size : Stick (fun r => (rSize r).2) := fun r hr => by simp [rSize, hr]
theorem stick_within (lo hi : Nat) : Stick (fun r => (rWithin lo hi r).2) := fun r hr => by
  have h := stick_size r hr
  have h2 : (rSize r).2.2 ≠ 0 := by rw [show (rSize r).2.2 = r.2 from h]; exact hr
  show (rWithin lo hi r).2.2 = r.2
  unfold rWithin; rw [if_pos h2]; exact h
theorem stick_script : Stick rScript := fun r hr => by
  have h := stick_within 0 40 r hr
  show (rTake (rWithin 0 40 r).1 (rWithin 0 40 r).2).2.2 = r.2
  rw [stick_take _ (rWithin 0 40 r).2 (by rw [show (rWithin 0 40 r).2.2 = r.2 from h]; exact hr)]; exact h
theorem stick_in : Stick rIn := ((stick_take 36).comp stick_script).comp (stick_take 4)
theorem stick_out : Stick rOut := (stick_take 8).comp stick_script
theorem stick_rep {f : List UInt8 × Int → List UInt8 × Int} (hf : Stick f) : ∀ k, Stick (rep f k)
  | 0 => fun _ _ => rfl
  | k + 1 => hf.comp (stick_rep hf k)
theorem stick_reps {f : List UInt8 × Int → List UInt8 × Int} (hf : Stick f) (lo hi : Nat) : Stick (fun r => rep f (rWithin lo hi r).1 (rWithin lo hi r).2) := fun r hr => by
  have h := stick_within lo hi r hr
  show (rep f (rWithin lo hi r).1 (rWithin lo hi r).2).2 = r.2
  rw [stick_rep hf _ (rWithin lo hi r).2 (by rw [show (rWithin lo hi r).2.2 = r.2 from h]; exact hr)]; exact h
theorem stick_done : Stick rDone := fun r hr => by simp [rDone, hr]
end Go.Proofs.YtkmalggeieiepaaDoor
namespace Go.Proofs.YtkmalggeieiepaaDoor
open Go.RowKit

/-- a cursor lies in block g, ahead of m. -/
structure Cu (w : World) (g : Nat) (l m : List UInt8) : Prop where
  s : w.cell? ⟨g, 0, none⟩ = some (.string (ofL l))
  e : ∃ a : Nat, a ≤ l.length ∧ m = l.drop a ∧ w.cell? ⟨g, 1, none⟩ = some (.int .i64 (a : Int))
  ef : w.frozen? ⟨g, 1, none⟩ = false
theorem Cu.lt {w : World} {g : Nat} {l m : List UInt8} (h : Cu w g l m) : g < w.heap.size := World.block_lt_of_cell? w _ h.s
theorem Cu.later {w w' : World} {g : Nat} {l m : List UInt8} (h : Cu w g l m) (hb : Below w.heap.size w w') : Cu w' g l m := by
  have hl := h.lt
  obtain ⟨a, h1, h2, h3⟩ := h.e
  exact ⟨by rw [hb.cell (p := ⟨g, 0, none⟩) hl]; exact h.s, ⟨a, h1, h2, by rw [hb.cell (p := ⟨g, 1, none⟩) hl]; exact h3⟩, by rw [hb.frozen (p := ⟨g, 1, none⟩) hl]; exact h.ef⟩
theorem Cu.setA {w : World} {g : Nat} {l m : List UInt8} (h : Cu w g l m) (b : Nat) (hb : b ≤ l.length) : Cu (w.setCell ⟨g, 1, none⟩ (.int .i64 (b : Int))) g l (l.drop b) := by
  obtain ⟨a, _, _, h3⟩ := h.e
  refine ⟨?_, ⟨b, hb, rfl, World.cell?_setCell_same _ _ _ h3⟩, ?_⟩
  · rw [World.cell?_setCell_other _ _ _ _ (by simp)]; exact h.s
  · simp only [World.frozen?_setCell]; exact h.ef
theorem Cu.drewN {w : World} {g : Nat} {l m : List UInt8} (h : Cu w g l m) (n : Nat) : Cu (w.drewN n) g l m := ⟨h.s, h.e, h.ef⟩
/-- it leaves by a panic of this error. -/
def Errn (c : Int) : Ending := .panicked [{ v := .iface 26 (.int .i64 c), recovered := false }]
/-- a part was read, or it left. -/
def Got (g : Nat) (l : List UInt8) (w : World) (v : Value) (r : List UInt8 × Int) (x : Ending) (w' : World) : Prop :=
  Mov g w w' ∧ (if r.2 = 0 then x = .returned v ∧ Cu w' g l r.1 else x = Errn r.2)

theorem Got.ok {g : Nat} {l : List UInt8} {w w' : World} {v : Value} {r : List UInt8 × Int} (hr : r.2 = 0) (hm : Mov g w w') (hc : Cu w' g l r.1) : Got g l w v r (.returned v) w' := ⟨hm, by rw [if_pos hr]; exact ⟨rfl, hc⟩⟩
theorem Got.no {g : Nat} {l : List UInt8} {w w' : World} {v : Value} {r : List UInt8 × Int} {c : Int} (hr : r.2 = c) (hc : c ≠ 0) (hm : Mov g w w') : Got g l w v r (.panicked [{ v := .iface 26 (.int .i64 c), recovered := false }]) w' := ⟨hm, by rw [if_neg (by rw [hr]; exact hc), hr]; rfl⟩
theorem calls_ok {f : FuncId} {vs : Array Value} {g : Nat} {l : List UInt8} {w0 w : World} {v : Value} {r : List UInt8 × Int} (h : Calls Tryd.prog f vs w0 (Got g l w v r)) (hr : r.2 = 0) : Calls Tryd.prog f vs w0 fun x w' => x = .returned v ∧ Cu w' g l r.1 ∧ Mov g w w' :=
  h.mono fun x w' hx => by
    obtain ⟨hm, h2⟩ := hx
    rw [if_pos hr] at h2
    exact ⟨h2.1, h2.2, hm⟩
theorem calls_no {f : FuncId} {vs : Array Value} {g : Nat} {l : List UInt8} {w0 w : World} {v : Value} {r : List UInt8 × Int} (h : Calls Tryd.prog f vs w0 (Got g l w v r)) (hr : r.2 ≠ 0) : Calls Tryd.prog f vs w0 fun x w' => x = .panicked [{ v := .iface 26 (.int .i64 r.2), recovered := false }] ∧ Mov g w w' :=
  h.mono fun x w' hx => by
    obtain ⟨hm, h2⟩ := hx
    rw [if_neg hr] at h2
    exact ⟨h2, hm⟩
theorem Mov.drewN {g : Nat} {a w : World} (h : Mov g a w) (n : Nat) : Mov g a (w.drewN n) := ⟨h.os, h.tape, h.output, h.size, h.block⟩
theorem Mov.drew {g : Nat} {a w : World} (h : Mov g a w) : Mov g a w.drew := ⟨h.os, h.tape, h.output, h.size, h.block⟩

set_option maxRecDepth 10000 in
theorem cuTake_any (g n : Nat) (l m : List UInt8) (w : World) (h : Cu w g l m) (hl : l.length ≤ maxLen) :
    Calls Tryd.prog 54 #[.pointer (some ⟨g, 0, none⟩), .int .i64 (n : Int)] w (Got g l w (.string (ofL (rTake n (m, 0)).1)) (rTake n (m, 0)).2) := by
  have HR : Hid (Cu w g l m) := h
  have d0 := h.s
  obtain ⟨a, ha, hm, d1⟩ := h.e
  have d2 := h.ef
  have hsz := ofL_size l
  have hml : m.length = l.length - a := by rw [hm]; simp
  clear h
  by_cases hlt : m.length < n
  · have e3 : rTake n (m, 0) = ([], (m, 1)) := by simp [rTake, hlt]
    rw [e3]
    have hgt : wrap64 ((l.length : Int) - (a : Int)) < (n : Int) := by unfold wrap64; unfold maxLen at hl; omega
    go_enter Tryd.func54, Tryd.ntmps54
    go_wp2
    go_quiet (fail)
    go_wp2
    exact ⟨rfl, Got.no rfl (by omega) ((Mov.refl _ _).drewN _)⟩
  · have e3 : rTake n (m, 0) = (m.take n, (m.drop n, 0)) := by simp [rTake, hlt]
    rw [e3]
    have hgt : ¬ (wrap64 ((l.length : Int) - (a : Int)) < (n : Int)) := by unfold wrap64; unfold maxLen at hl; omega
    have hw : wrap64 ((a : Int) + (n : Int)) = ((a + n : Nat) : Int) := by unfold wrap64; unfold maxLen at hl; omega
    have x1 : (ofL l).extract a (a + n) = ofL (m.take n) := by rw [ofL_extract, hm]; congr 2; omega
    have b1 : (a : Int) ≤ ((a + n : Nat) : Int) := by omega
    have b2 : ((a + n : Nat) : Int) ≤ (l.length : Int) := by omega
    go_enter Tryd.func54, Tryd.ntmps54
    go_wp2
    go_quiet (fail)
    go_wp2
    go_quiet (fail)
    go_wp2
    go_ret
    have hd : m.drop n = l.drop (a + n) := by rw [hm, List.drop_drop]
    show Got _ _ _ _ _ (Ending.returned (Value.string ((ofL l).extract a (a + n)))) _
    rw [x1, hd]
    exact Got.ok rfl ((((Mov.refl _ _).drewN _).set 1 _).drewN _) (((HR.out.drewN _).setA (a + n) (by omega)).drewN _)

set_option maxRecDepth 10000 in
theorem cuEnd_any (g : Nat) (l m : List UInt8) (w : World) (h : Cu w g l m) :
    Calls Tryd.prog 53 #[.pointer (some ⟨g, 0, none⟩)] w (Got g l w (.tuple #[]) (rDone (m, 0))) := by
  have HR : Hid (Cu w g l m) := h
  have d0 := h.s
  obtain ⟨a, ha, hm, d1⟩ := h.e
  have hsz := ofL_size l
  have hml : m.length = l.length - a := by rw [hm]; simp
  clear h
  by_cases hlt : a < l.length
  · have hne : m ≠ [] := fun e => by rw [e] at hml; simp at hml; omega
    have e3 : rDone (m, 0) = (m, 5) := by simp [rDone, hne]
    rw [e3]
    have hgt : (a : Int) < (l.length : Int) := by omega
    go_enter Tryd.func53, Tryd.ntmps53
    go_wp2
    go_quiet (fail)
    go_wp2
    exact ⟨rfl, Got.no rfl (by omega) ((Mov.refl _ _).drewN _)⟩
  · have hne : m = [] := List.eq_nil_of_length_eq_zero (by omega)
    have e3 : rDone (m, 0) = (m, 0) := by simp [rDone, hne]
    rw [e3]
    have hgt : ¬ ((a : Int) < (l.length : Int)) := by omega
    go_enter Tryd.func53, Tryd.ntmps53
    go_wp2
    go_quiet (fail)
    go_wp2
    go_end0
    exact Got.ok rfl ((Mov.refl _ _).drewN _) (HR.out.drewN _)

/-- a size of so many bytes. -/
def rLong (k b : Nat) (m : List UInt8) : Nat × (List UInt8 × Int) :=
  if m.length < k then (0, (m, 1)) else (num (m.take k), (m.drop k, if num (m.take k) < b then 2 else 0))
set_option maxRecDepth 10000 in
theorem cuLong_any (g k b : Nat) (l m : List UInt8) (w : World) (h : Cu w g l m) (hl : l.length ≤ maxLen) (hk : k ≤ 8) :
    Calls Tryd.prog 99 #[.pointer (some ⟨g, 0, none⟩), .int .i64 (k : Int), .int .u64 (b : Int)] w (Got g l w (.int .u64 ((rLong k b m).1 : Int)) (rLong k b m).2) := by
  have hT := cuTake_any g k l m w h hl
  clear h
  by_cases hlt : m.length < k
  · have e3 : rTake k (m, 0) = ([], (m, 1)) := by simp [rTake, hlt]
    have e4 : rLong k b m = (0, (m, 1)) := by simp [rLong, hlt]
    rw [e3] at hT
    rw [e4]
    have hN := calls_no hT (by simp)
    clear hT
    go_enter Tryd.func99, Tryd.ntmps99
    go_wp2_with (go_at_call 54; go_must (refine hN.mono ?_); rintro x w1 ⟨rfl, hm1⟩)
    exact ⟨rfl, Got.no rfl (by omega) hm1⟩
  · have e3 : rTake k (m, 0) = (m.take k, (m.drop k, 0)) := by simp [rTake, hlt]
    have e4 : rLong k b m = (num (m.take k), (m.drop k, if num (m.take k) < b then 2 else 0)) := by simp [rLong, hlt]
    rw [e3] at hT
    rw [e4]
    have hN := calls_ok hT rfl
    have hL := fun W => lowest_any (ofL (m.take k)) W (by rw [ofL_size]; simp; omega)
    rw [ofL_data] at hL
    clear hT e3 e4
    generalize num (m.take k) = N at hL
    by_cases hb : N < b
    · have hb' : (N : Int) < (b : Int) := by omega
      rw [if_pos hb]
      go_enter Tryd.func99, Tryd.ntmps99
      go_wp2_with (first | (go_at_call 54; go_must (refine hN.mono ?_); rintro x w1 ⟨rfl, hc1, hm1⟩) | (go_at_call 89; go_must (refine (hL _).mono ?_); rintro x w2 ⟨rfl, rfl⟩))
      exact ⟨rfl, Got.no rfl (by omega) hm1⟩
    · have hb' : ¬ ((N : Int) < (b : Int)) := by omega
      rw [if_neg hb]
      go_enter Tryd.func99, Tryd.ntmps99
      go_wp2_with (first | (go_at_call 54; go_must (refine hN.mono ?_); rintro x w1 ⟨rfl, hc1, hm1⟩) | (go_at_call 89; go_must (refine (hL _).mono ?_); rintro x w2 ⟨rfl, rfl⟩))
      go_ret
      exact Got.ok rfl hm1 hc1
end Go.Proofs.YtkmalggeieiepaaDoor
