import Derived.Test.YtkmalggeieiepabDoorPzl
import Derived.WalkKit
import Derived.WalkSpells
import Derived.WalkLawsBesides
import Derived.Deep.MidRow
import Derived.Deep.DeepCutAuto
import Derived.Defers
import Derived.Recover
import Derived.Test.YtkmalggeieiepabDoorPzk
import Derived.Test.YtkmalggeieiepabDoorPzf
import Derived.Test.YtkmalggeieiepabDoorPzh
import Derived.KernelRfl
namespace Go.Proofs.YtkmalggeieiepabDoor
open Go.RowKit

theorem leaves_nil {P : Program} {fn : Func} {tmps : Array Value} {R : Ending → World → Prop} {w : World} {v : Value} (h : (results fn tmps).run P w = .ok v w) (hR : R (.returned v) w) : Leaves P fn tmps R [] .returning w := ⟨v, h, hR⟩

set_option maxRecDepth 10000 in
set_option maxHeartbeats 2000000 in
theorem readR_any (s : ByteArray) (w : World) (hl : s.size ≤ maxLen) :
    Calls Tryd.prog 37 #[.string s, .func (.func 38) #[] #[]] w fun x w' =>
      if (rReq s.data.toList).2.2 = 0 then ∃ v, x = .returned (.tuple #[.agg (bc (ofL (rReq s.data.toList).1) ++ [v]).toArray, .int .i64 0]) ∧ w'.ownsRow w.heap.size 3 1 v (rReq s.data.toList).2.1.length (natV (rReq s.data.toList).2.1) ∧ Below w.heap.size w w'
      else x = .returned (.tuple #[.agg #[.int .u8 0, .int .u8 0, .int .u8 0, .int .u8 0, .int .u8 0, .int .u8 0, .int .u8 0, .int .u8 0, .int .u8 0, .int .u8 0, .int .u8 0, .int .u8 0, .int .u8 0, .int .u8 0, .int .u8 0, .int .u8 0, .int .u8 0, .int .u8 0, .int .u8 0, .int .u8 0, .int .u8 0, .int .u8 0, .int .u8 0, .int .u8 0, .int .u8 0, .int .u8 0, .int .u8 0, .int .u8 0, .int .u8 0, .int .u8 0, .int .u8 0, .int .u8 0, .slice none 0 0], .int .i64 (rReq s.data.toList).2.2]) ∧ Below w.heap.size w w' := by
  obtain ⟨W0, hW0⟩ : ∃ W, W = ((w.alloc (.cells #[.int .u8 0, .int .u8 0, .int .u8 0, .int .u8 0, .int .u8 0, .int .u8 0, .int .u8 0, .int .u8 0, .int .u8 0, .int .u8 0, .int .u8 0, .int .u8 0, .int .u8 0, .int .u8 0, .int .u8 0, .int .u8 0, .int .u8 0, .int .u8 0, .int .u8 0, .int .u8 0, .int .u8 0, .int .u8 0, .int .u8 0, .int .u8 0, .int .u8 0, .int .u8 0, .int .u8 0, .int .u8 0, .int .u8 0, .int .u8 0, .int .u8 0, .int .u8 0, .slice none 0 0] 88)).alloc (.cells #[.int .i64 0] 32)).alloc (.cells #[.string s, .int .i64 0] 114) := ⟨_, rfl⟩
  have hCu : Cu W0 (w.heap.size + 2) s.data.toList s.data.toList := by rw [hW0]; exact Cu.new _ s _ _ (by simp)
  have HB0 : Hid (Below w.heap.size w W0) := by show Below _ _ _; rw [hW0]; exact (((Below.refl _ _).alloc (Nat.le_refl _) _).alloc (by simp) _).alloc (by simp; omega) _
  have hz0 : w.heap.size + 3 = W0.heap.size := by rw [hW0]; simp
  have hv0 : W0.cell? ⟨w.heap.size + 1, 0, none⟩ = some (.int .i64 0) := by rw [hW0]; simp [go_sem]
  have hf0 : W0.frozen? ⟨w.heap.size + 1, 0, none⟩ = false := by rw [hW0]; simp [go_sem]
  have t0 : W0.there w.heap.size 0 33 := by
    have := there_new w 88 ((#[.int .u8 0, .int .u8 0, .int .u8 0, .int .u8 0, .int .u8 0, .int .u8 0, .int .u8 0, .int .u8 0, .int .u8 0, .int .u8 0, .int .u8 0, .int .u8 0, .int .u8 0, .int .u8 0, .int .u8 0, .int .u8 0, .int .u8 0, .int .u8 0, .int .u8 0, .int .u8 0, .int .u8 0, .int .u8 0, .int .u8 0, .int .u8 0, .int .u8 0, .int .u8 0, .int .u8 0, .int .u8 0, .int .u8 0, .int .u8 0, .int .u8 0, .int .u8 0, .slice none 0 0] : Array Value).toList)
    rw [hW0]; exact World.there_alloc (World.there_alloc this _) _
  have r0 : W0.rangeAt w.heap.size 0 ((#[.int .u8 0, .int .u8 0, .int .u8 0, .int .u8 0, .int .u8 0, .int .u8 0, .int .u8 0, .int .u8 0, .int .u8 0, .int .u8 0, .int .u8 0, .int .u8 0, .int .u8 0, .int .u8 0, .int .u8 0, .int .u8 0, .int .u8 0, .int .u8 0, .int .u8 0, .int .u8 0, .int .u8 0, .int .u8 0, .int .u8 0, .int .u8 0, .int .u8 0, .int .u8 0, .int .u8 0, .int .u8 0, .int .u8 0, .int .u8 0, .int .u8 0, .int .u8 0, .slice none 0 0] : Array Value).toList) := by
    have := range_new w ((#[.int .u8 0, .int .u8 0, .int .u8 0, .int .u8 0, .int .u8 0, .int .u8 0, .int .u8 0, .int .u8 0, .int .u8 0, .int .u8 0, .int .u8 0, .int .u8 0, .int .u8 0, .int .u8 0, .int .u8 0, .int .u8 0, .int .u8 0, .int .u8 0, .int .u8 0, .int .u8 0, .int .u8 0, .int .u8 0, .int .u8 0, .int .u8 0, .int .u8 0, .int .u8 0, .int .u8 0, .int .u8 0, .int .u8 0, .int .u8 0, .int .u8 0, .int .u8 0, .slice none 0 0] : Array Value).toList) 88 _ rfl
    rw [hW0]; exact World.rangeAt_alloc (World.rangeAt_alloc this _) _
  have HK : Hid (∀ w1, Below (w.heap.size + 2) W0 w1 → w1.cell? ⟨w.heap.size + 1, 0, none⟩ = some (.int .i64 0) ∧ w1.frozen? ⟨w.heap.size + 1, 0, none⟩ = false ∧ w1.there w.heap.size 0 33 ∧ w1.rangeAt w.heap.size 0 ((#[.int .u8 0, .int .u8 0, .int .u8 0, .int .u8 0, .int .u8 0, .int .u8 0, .int .u8 0, .int .u8 0, .int .u8 0, .int .u8 0, .int .u8 0, .int .u8 0, .int .u8 0, .int .u8 0, .int .u8 0, .int .u8 0, .int .u8 0, .int .u8 0, .int .u8 0, .int .u8 0, .int .u8 0, .int .u8 0, .int .u8 0, .int .u8 0, .int .u8 0, .int .u8 0, .int .u8 0, .int .u8 0, .int .u8 0, .int .u8 0, .int .u8 0, .int .u8 0, .slice none 0 0] : Array Value).toList) ∧ Below w.heap.size w w1) := by
    intro w1 hb
    have hb0 : w1.heap[w.heap.size]? = W0.heap[w.heap.size]? := hb.block _ (by omega)
    exact ⟨by rw [hb.cell (p := ⟨w.heap.size + 1, 0, none⟩) (Nat.lt_succ_self _)]; exact hv0, by rw [hb.frozen (p := ⟨w.heap.size + 1, 0, none⟩) (Nat.lt_succ_self _)]; exact hf0, there_block t0 hb0, range_block r0 hb0, HB0.out.trans (hb.mono (by omega))⟩
  have ht := cuRequest_any (w.heap.size + 2) s.data.toList s.data.toList W0 hCu hl
  have hmf : ∀ (fn : Fn) (first cap : Array Value) (w : World), (Instr.makeFunc fn first cap).run Tryd.prog w = .ok (.func fn first cap) w := fun _ _ _ _ => rfl
  have HE : Hid (rReq s.data.toList = ((rRqs s.data.toList).1, ((rRqs s.data.toList).2.1, (rDone (rRqs s.data.toList).2.2).2))) := rReq_rqs _
  generalize rReq s.data.toList = M at HE
  clear hCu hl hv0 hf0 t0 r0
  have hful : (rRqs s.data.toList).2.2.2 = 0 → (rRqs s.data.toList).1.length = 32 := fun h => rTake_full 32 _ (eats_within 1 16 _ (rIdxs_ok _ _ _ h)).1
  generalize rRqs s.data.toList = p at ht HE hful
  obtain ⟨t, T, m, c⟩ := p
  by_cases hr : c = 0
  · subst hr
    have HL33 : ∀ a n d, (bc (ofL t) ++ [Value.slice a n d]).length = 33 := fun a n d => by rw [List.length_append, bc_length, ofL_size, show t.length = 32 from hful rfl]; rfl
    have h1 := ht.mono (R' := fun x w' => ∃ v, x = .returned (.agg (bc (ofL t) ++ [v]).toArray) ∧ Cu w' (w.heap.size + 2) s.data.toList m ∧ w'.ownsRow W0.heap.size 3 1 v T.length (natV T) ∧ Below (w.heap.size + 2) W0 w') (fun x w' hx => by rw [if_pos rfl] at hx; exact hx)
    have he := fun (W : World) (hc : Cu W (w.heap.size + 2) s.data.toList m) => cuEnd_any (w.heap.size + 2) s.data.toList m W hc
    clear ht
    by_cases hm : m = []
    · subst hm
      have e5 : rDone ([], 0) = ([], 0) := by simp [rDone]
      rw [e5] at he
      have hM : M = (t, T, 0) := by rw [HE.out]; show (t, T, (rDone ([], 0)).2) = _; rw [e5]
      subst hM
      have h2 := fun (W : World) (hc : Cu W (w.heap.size + 2) s.data.toList []) => calls_ok (he W hc) rfl
      clear he e5 HE
      have hmain : Calls Tryd.prog 37 #[.string s, .func (.func 38) #[] #[]] w fun x w' => ∃ v, x = .returned (.tuple #[.agg (bc (ofL t) ++ [v]).toArray, .int .i64 0]) ∧ w'.ownsRow w.heap.size 3 1 v T.length (natV T) ∧ Below w.heap.size w w' := by
        go_enter_defers Tryd.func37, Tryd.ntmps37
        go_upto_region 3 with fail
        rw [← hW0]
        clear hW0
        go_upto_region 4 with (first | (refine wpList_store_list rfl 88 _ _ rfl w1.heap.size 0 (bc (ofL t) ++ [Value.slice va vn vc]) rfl rfl ?_ ?_ (bc_slice_one (ofL t) va vn vc) ?_; rw [HL33 va vn vc]; exact there_new w1 88 (#[.int .u8 0, .int .u8 0, .int .u8 0, .int .u8 0, .int .u8 0, .int .u8 0, .int .u8 0, .int .u8 0, .int .u8 0, .int .u8 0, .int .u8 0, .int .u8 0, .int .u8 0, .int .u8 0, .int .u8 0, .int .u8 0, .int .u8 0, .int .u8 0, .int .u8 0, .int .u8 0, .int .u8 0, .int .u8 0, .int .u8 0, .int .u8 0, .int .u8 0, .int .u8 0, .int .u8 0, .int .u8 0, .int .u8 0, .int .u8 0, .int .u8 0, .int .u8 0, .slice none 0 0] : Array Value).toList; rw [HL33 va vn vc]; kernel_rfl) | go_at_call 38; go_must (refine h1.mono ?_); rintro x w1 ⟨v, rfl, hc1, ho1, hb1⟩; obtain ⟨va, vn, vc, rfl⟩ := own_slice ho1; have HC1 := (show Hid (Cu w1 (w.heap.size + 2) _ []) from hc1); have HO1 := (show Hid (w1.ownsRow W0.heap.size 3 1 (.slice va vn vc) T.length (natV T)) from ho1); have HBL1 := (show Hid (Below (w.heap.size + 2) W0 w1) from hb1); clear hc1 ho1 hb1)
        obtain ⟨W2, hW2⟩ : ∃ W, W = (w1.alloc (.cells #[.int .u8 0, .int .u8 0, .int .u8 0, .int .u8 0, .int .u8 0, .int .u8 0, .int .u8 0, .int .u8 0, .int .u8 0, .int .u8 0, .int .u8 0, .int .u8 0, .int .u8 0, .int .u8 0, .int .u8 0, .int .u8 0, .int .u8 0, .int .u8 0, .int .u8 0, .int .u8 0, .int .u8 0, .int .u8 0, .int .u8 0, .int .u8 0, .int .u8 0, .int .u8 0, .int .u8 0, .int .u8 0, .int .u8 0, .int .u8 0, .int .u8 0, .int .u8 0, .slice none 0 0] 88)).setCells w1.heap.size 0 (bc (ofL t) ++ [Value.slice va vn vc]) := ⟨_, rfl⟩
        have hb2 : Below w1.heap.size w1 W2 := by rw [hW2]; exact below_setCells ((Below.refl _ _).alloc (Nat.le_refl _) _) _ (Nat.le_refl _) _ _
        have hrg : W2.rangeAt w1.heap.size 0 (bc (ofL t) ++ [Value.slice va vn vc]) := by rw [hW2]; exact World.rangeAt_setCells_same _ _ _ _ (by rw [HL33 va vn vc]; exact there_new w1 88 (#[.int .u8 0, .int .u8 0, .int .u8 0, .int .u8 0, .int .u8 0, .int .u8 0, .int .u8 0, .int .u8 0, .int .u8 0, .int .u8 0, .int .u8 0, .int .u8 0, .int .u8 0, .int .u8 0, .int .u8 0, .int .u8 0, .int .u8 0, .int .u8 0, .int .u8 0, .int .u8 0, .int .u8 0, .int .u8 0, .int .u8 0, .int .u8 0, .int .u8 0, .int .u8 0, .int .u8 0, .int .u8 0, .int .u8 0, .int .u8 0, .int .u8 0, .int .u8 0, .slice none 0 0] : Array Value).toList)
        have hz2 : w1.heap.size < W2.heap.size := World.block_lt_of_cell? W2 ⟨w1.heap.size, 0 + (bc (ofL t)).length, none⟩ (hrg (bc (ofL t)).length (Value.slice va vn vc) (by simp))
        have hs1 := HBL1.out.size
        have HC2 : Hid (Cu W2 (w.heap.size + 2) s.data.toList []) := HC1.out.later hb2
        have HO2 : Hid (W2.ownsRow W0.heap.size 3 1 (.slice va vn vc) T.length (natV T)) := own_later HO1.out hb2
        have HBL2 : Hid (Below (w.heap.size + 2) W0 W2) := HBL1.out.trans (hb2.mono (by omega))
        have HRG : Hid (W2.rangeAt w1.heap.size 0 (bc (ofL t) ++ [Value.slice va vn vc])) := hrg
        rw [← hW2]
        clear hW2 hb2 hrg HC1 HO1 HBL1 h1
        go_upto_region 5 with (go_at_call 48; go_must (refine (h2 _ HC2.out).mono ?_); rintro x w3 ⟨rfl, hc3, hm3⟩; have HM3 := (show Hid (Mov (w.heap.size + 2) W2 w3) from hm3); clear hc3 hm3)
        have HRG3 : Hid (w3.rangeAt w1.heap.size 0 (bc (ofL t) ++ [Value.slice va vn vc])) := range_block HRG.out (HM3.out.block _ (by omega) (by omega))
        have HBL3 : Hid (Below (w.heap.size + 2) W0 w3) := HBL2.out.trans (HM3.out.below (Nat.le_refl _) (by omega))
        have HO3 : Hid (w3.ownsRow W0.heap.size 3 1 (.slice va vn vc) T.length (natV T)) := own_mov HO2.out HM3.out (by omega)
        obtain ⟨k1, k2, k3, k4, k5⟩ := HK.out w3 HBL3.out
        have HT3 : Hid (w3.there w.heap.size 0 33) := k3
        have HB5 := (show Hid (Below w.heap.size w w3) from k5)
        obtain ⟨W4, hW4⟩ : ∃ W, W = w3.setCells w.heap.size 0 (bc (ofL t) ++ [Value.slice va vn vc]) := ⟨_, rfl⟩
        have hM4 : Mov w.heap.size w3 W4 := by rw [hW4]; exact mov_cells _ _ _ _
        have hz3 := HBL3.out.size
        have hbk4 : W4.heap[w.heap.size + 1]? = w3.heap[w.heap.size + 1]? := hM4.block _ (by omega) (by omega)
        have j1 : W4.cell? ⟨w.heap.size + 1, 0, none⟩ = some (.int .i64 0) := by rw [World.cell?_of_block hbk4]; exact k1
        have j2 : W4.frozen? ⟨w.heap.size + 1, 0, none⟩ = false := by rw [World.frozen?_of_block hbk4]; exact k2
        have HRS : Hid (W4.rangeAt w.heap.size 0 (bc (ofL t) ++ [Value.slice va vn vc])) := by show World.rangeAt _ _ _ _; rw [hW4]; exact World.rangeAt_setCells_same _ _ _ _ (by rw [HL33 va vn vc]; exact HT3.out)
        have HO4 : Hid (W4.ownsRow W0.heap.size 3 1 (.slice va vn vc) T.length (natV T)) := own_mov HO3.out hM4 (by omega)
        have HB4 : Hid (Below w.heap.size w W4) := by show Below _ _ _; rw [hW4]; exact below_setCells HB5.out _ (Nat.le_refl _) _ _
        clear k1 k2 k3 k4 k5 HC2 HO2 HBL2 HRG HM3 h2 hM4 hbk4
        subst hW4
        go_wp2_with (first
          | (refine wpList_load_mid rfl 88 _ rfl w1.heap.size 0 rfl (bc (ofL t) ++ [Value.slice va vn vc]) _ ?_ Tryd.underlying88 rfl ?_ ?_; exact HRG3.out; rw [HL33 va vn vc]; kernel_rfl)
          | (refine wpList_store_list rfl 88 _ _ rfl w.heap.size 0 (bc (ofL t) ++ [Value.slice va vn vc]) rfl rfl ?_ ?_ (bc_slice_one (ofL t) va vn vc) ?_; rw [HL33 va vn vc]; exact HT3.out; rw [HL33 va vn vc]; kernel_rfl))
        refine leaves_cons (f := 67) (args := #[.pointer (some ⟨w.heap.size + 1, 0, none⟩)]) (by simp) (by simp [go_sem]) ?_
        refine (catchR_idle ⟨w.heap.size + 1, 0, none⟩ _).mono ?_
        rintro e u' w'' ⟨rfl, rfl, rfl⟩
        have hc9 := World.cell?_setCell_same (w3.setCells w.heap.size 0 (bc (ofL t) ++ [Value.slice va vn vc])) ⟨w.heap.size + 1, 0, none⟩ (.int .i64 0) j1
        have hr9 := range_block (w' := (w3.setCells w.heap.size 0 (bc (ofL t) ++ [Value.slice va vn vc])).setCell ⟨w.heap.size + 1, 0, none⟩ (.int .i64 0)) HRS.out (Below.heap_setCell _ ⟨w.heap.size + 1, 0, none⟩ _ w.heap.size (by simp))
        show Leaves _ _ _ _ [] .returning _
        exact leaves_nil (results_mid2 Tryd.results37 _ _ w.heap.size (w.heap.size + 1) (bc (ofL t) ++ [Value.slice va vn vc]) (.int .i64 0) _ rfl rfl hr9 Tryd.underlying88 rfl (by rw [HL33 va vn vc]; kernel_rfl) (by simp [go_sem, hc9])) ⟨.slice va vn vc, rfl, own_base (own_mov HO4.out ((Mov.refl (w.heap.size + 1) _).set 0 _) (by omega)) (by omega), HB4.out.setCell (Nat.le_succ _) _⟩
      exact hmain.mono fun x w' hx => by rw [if_pos rfl]; exact hx
    · have e5 : rDone (m, 0) = (m, 5) := by simp [rDone, hm]
      rw [e5] at he
      have hM : M.2.2 = 5 := by rw [HE.out]; show (rDone (m, 0)).2 = 5; rw [e5]
      rw [hM]
      have h2 := fun (W : World) (hc : Cu W (w.heap.size + 2) s.data.toList m) => calls_no (he W hc) (by simp)
      clear he e5 HE hM
      have hmain : Calls Tryd.prog 37 #[.string s, .func (.func 38) #[] #[]] w fun x w' => x = .returned (.tuple #[.agg #[.int .u8 0, .int .u8 0, .int .u8 0, .int .u8 0, .int .u8 0, .int .u8 0, .int .u8 0, .int .u8 0, .int .u8 0, .int .u8 0, .int .u8 0, .int .u8 0, .int .u8 0, .int .u8 0, .int .u8 0, .int .u8 0, .int .u8 0, .int .u8 0, .int .u8 0, .int .u8 0, .int .u8 0, .int .u8 0, .int .u8 0, .int .u8 0, .int .u8 0, .int .u8 0, .int .u8 0, .int .u8 0, .int .u8 0, .int .u8 0, .int .u8 0, .int .u8 0, .slice none 0 0], .int .i64 5]) ∧ Below w.heap.size w w' := by
        go_enter_defers Tryd.func37, Tryd.ntmps37
        go_upto_region 3 with fail
        rw [← hW0]
        clear hW0
        go_upto_region 4 with (first | (refine wpList_store_list rfl 88 _ _ rfl w1.heap.size 0 (bc (ofL t) ++ [Value.slice va vn vc]) rfl rfl ?_ ?_ (bc_slice_one (ofL t) va vn vc) ?_; rw [HL33 va vn vc]; exact there_new w1 88 (#[.int .u8 0, .int .u8 0, .int .u8 0, .int .u8 0, .int .u8 0, .int .u8 0, .int .u8 0, .int .u8 0, .int .u8 0, .int .u8 0, .int .u8 0, .int .u8 0, .int .u8 0, .int .u8 0, .int .u8 0, .int .u8 0, .int .u8 0, .int .u8 0, .int .u8 0, .int .u8 0, .int .u8 0, .int .u8 0, .int .u8 0, .int .u8 0, .int .u8 0, .int .u8 0, .int .u8 0, .int .u8 0, .int .u8 0, .int .u8 0, .int .u8 0, .int .u8 0, .slice none 0 0] : Array Value).toList; rw [HL33 va vn vc]; kernel_rfl) | go_at_call 38; go_must (refine h1.mono ?_); rintro x w1 ⟨v, rfl, hc1, ho1, hb1⟩; obtain ⟨va, vn, vc, rfl⟩ := own_slice ho1; have HC1 := (show Hid (Cu w1 (w.heap.size + 2) _ m) from hc1); have HBL1 := (show Hid (Below (w.heap.size + 2) W0 w1) from hb1); clear hc1 ho1 hb1)
        obtain ⟨W2, hW2⟩ : ∃ W, W = (w1.alloc (.cells #[.int .u8 0, .int .u8 0, .int .u8 0, .int .u8 0, .int .u8 0, .int .u8 0, .int .u8 0, .int .u8 0, .int .u8 0, .int .u8 0, .int .u8 0, .int .u8 0, .int .u8 0, .int .u8 0, .int .u8 0, .int .u8 0, .int .u8 0, .int .u8 0, .int .u8 0, .int .u8 0, .int .u8 0, .int .u8 0, .int .u8 0, .int .u8 0, .int .u8 0, .int .u8 0, .int .u8 0, .int .u8 0, .int .u8 0, .int .u8 0, .int .u8 0, .int .u8 0, .slice none 0 0] 88)).setCells w1.heap.size 0 (bc (ofL t) ++ [Value.slice va vn vc]) := ⟨_, rfl⟩
        have hb2 : Below w1.heap.size w1 W2 := by rw [hW2]; exact below_setCells ((Below.refl _ _).alloc (Nat.le_refl _) _) _ (Nat.le_refl _) _ _
        have hs1 := HBL1.out.size
        have HC2 : Hid (Cu W2 (w.heap.size + 2) s.data.toList m) := HC1.out.later hb2
        have HBL2 : Hid (Below (w.heap.size + 2) W0 W2) := HBL1.out.trans (hb2.mono (by omega))
        have hz2 := hb2.size
        rw [← hW2]
        clear hW2 hb2 HC1 HBL1 h1
        go_wp2_with (go_at_call 48; go_must (refine (h2 _ HC2.out).mono ?_); rintro x w3 ⟨rfl, hm3⟩; have HBL3 := (show Hid (Below (w.heap.size + 2) W0 w3) from HBL2.out.trans (hm3.below (Nat.le_refl _) (by omega))); clear hm3)
        obtain ⟨k1, k2, k3, k4, k5⟩ := HK.out _ HBL3.out
        refine leaves_cons (f := 67) (args := #[.pointer (some ⟨w.heap.size + 1, 0, none⟩)]) (by simp) (by simp [go_sem]) ?_
        refine (catchR_panicking ⟨w.heap.size + 1, 0, none⟩ 0 5 _ k1 k2).mono ?_
        rintro e u' w'' ⟨rfl, rfl, rfl⟩
        have hc9 := World.cell?_setCell_same _ ⟨w.heap.size + 1, 0, none⟩ (.int .i64 5) k1
        have hr9 := range_block k4 (Below.heap_setCell _ ⟨w.heap.size + 1, 0, none⟩ (.int .i64 5) w.heap.size (by simp))
        show Leaves _ _ _ _ [] .returning _
        exact leaves_nil (results_mid2 Tryd.results37 _ _ w.heap.size (w.heap.size + 1) _ (.int .i64 5) _ rfl rfl hr9 Tryd.underlying88 rfl (by kernel_rfl) (by simp [go_sem, hc9])) ⟨rfl, k5.setCell (Nat.le_succ _) _⟩
      exact hmain.mono fun x w' hx => by rw [if_neg (by omega)]; exact hx
  · have h1 := ht.mono (R' := fun x w' => x = .panicked [{ v := .iface 32 (.int .i64 c), recovered := false }] ∧ Below (w.heap.size + 2) W0 w') (fun x w' hx => by rw [if_neg hr] at hx; exact hx)
    have hM : M.2.2 = c := by rw [HE.out]; exact stick_done (m, c) hr
    rw [hM]
    clear ht HE hM
    have hmain : Calls Tryd.prog 37 #[.string s, .func (.func 38) #[] #[]] w fun x w' => x = .returned (.tuple #[.agg #[.int .u8 0, .int .u8 0, .int .u8 0, .int .u8 0, .int .u8 0, .int .u8 0, .int .u8 0, .int .u8 0, .int .u8 0, .int .u8 0, .int .u8 0, .int .u8 0, .int .u8 0, .int .u8 0, .int .u8 0, .int .u8 0, .int .u8 0, .int .u8 0, .int .u8 0, .int .u8 0, .int .u8 0, .int .u8 0, .int .u8 0, .int .u8 0, .int .u8 0, .int .u8 0, .int .u8 0, .int .u8 0, .int .u8 0, .int .u8 0, .int .u8 0, .int .u8 0, .slice none 0 0], .int .i64 c]) ∧ Below w.heap.size w w' := by
      go_enter_defers Tryd.func37, Tryd.ntmps37
      go_upto_region 3 with fail
      rw [← hW0]
      clear hW0
      go_wp2_with (go_at_call 38; go_must (refine h1.mono ?_); rintro x w1 ⟨rfl, hb1⟩; have HBL3 := (show Hid (Below (w.heap.size + 2) W0 w1) from hb1); clear hb1)
      obtain ⟨k1, k2, k3, k4, k5⟩ := HK.out _ HBL3.out
      refine leaves_cons (f := 67) (args := #[.pointer (some ⟨w.heap.size + 1, 0, none⟩)]) (by simp) (by simp [go_sem]) ?_
      refine (catchR_panicking ⟨w.heap.size + 1, 0, none⟩ 0 c _ k1 k2).mono ?_
      rintro e u' w'' ⟨rfl, rfl, rfl⟩
      have hc9 := World.cell?_setCell_same _ ⟨w.heap.size + 1, 0, none⟩ (.int .i64 c) k1
      have hr9 := range_block k4 (Below.heap_setCell _ ⟨w.heap.size + 1, 0, none⟩ (.int .i64 c) w.heap.size (by simp))
      show Leaves _ _ _ _ [] .returning _
      exact leaves_nil (results_mid2 Tryd.results37 _ _ w.heap.size (w.heap.size + 1) _ (.int .i64 c) _ rfl rfl hr9 Tryd.underlying88 rfl (by kernel_rfl) (by simp [go_sem, hc9])) ⟨rfl, k5.setCell (Nat.le_succ _) _⟩
    exact hmain.mono fun x w' hx => by rw [if_neg hr]; exact hx
end Go.Proofs.YtkmalggeieiepabDoor
set_option linter.unusedSimpArgs false
namespace Go.Proofs.YtkmalggeieiepabDoor
open Go.RowKit

theorem own_sv {w : World} {base e : Nat} {v : Value} {T : List (List UInt8)} (h : w.ownsRow base e 1 v T.length (strB T)) : ∃ a c, v = .slice a T.length c ∧ (0 < T.length → ∃ b o, a = some ⟨b, o, none⟩ ∧ SRow w b o (T.map ofL)) := by
  obtain ⟨a, c, hv, _, hr⟩ := own_sval (l := T.map ofL) (by rw [List.length_map]; exact h)
  rw [List.length_map] at hv hr
  exact ⟨a, c, hv, hr⟩
theorem own_nv {w : World} {base e : Nat} {v : Value} {q : List Nat} (h : w.ownsRow base e 1 v q.length (natV q)) : ∃ a c, v = .slice a q.length c ∧ (0 < q.length → ∃ b o, a = some ⟨b, o, none⟩ ∧ VRow w b o (natV q)) := by
  have hl : (natV q).length = q.length := by simp [natV]
  obtain ⟨a, c, hv, _, hr⟩ := own_vval (l := natV q) (by rw [hl]; exact h)
  rw [hl] at hv hr
  exact ⟨a, c, hv, hr⟩

set_option maxRecDepth 10000 in
set_option maxHeartbeats 4000000 in
theorem serve_any (Kc : Nat → Int) (s t : ByteArray) (w : World) (hkt : KT Kc w) (hl : s.size ≤ maxLen) (hl2 : t.size ≤ maxLen) :
    Calls Tryd.prog 21 #[.string s, .string t] w fun x w' => x = .returned (.tuple #[.string (ofL (srvR (dd Kc) (rMsg 80 s.data.toList) (rReq t.data.toList)).1), .int .i64 (srvR (dd Kc) (rMsg 80 s.data.toList) (rReq t.data.toList)).2]) ∧ Below w.heap.size w w' := by
  have hpos : 0 < w.heap.size := World.block_lt_of_cell? w _ (hkt 0 (by omega))
  have HB := readB_any s w hl
  have HQ := fun W => readR_any t W hl2
  have hB80 : (rMsg 80 s.data.toList).1.length ≤ 80 := rTake_len 80 _
  have hBs : (rMsg 80 s.data.toList).2.2 = 0 → ∀ x ∈ (rMsg 80 s.data.toList).2.1, x.length ≤ 610 := rMsg_small 80 _
  have hQ16 : (rReq t.data.toList).2.1.length ≤ 16 := rReq_len _
  have hQn : (rReq t.data.toList).2.2 = 0 → (rReq t.data.toList).1.length = 32 := rReq_head _
  generalize rMsg 80 s.data.toList = B at HB hB80 hBs
  generalize rReq t.data.toList = Q at HQ hQ16 hQn
  obtain ⟨h, T, c⟩ := B
  obtain ⟨m, q, d⟩ := Q
  have hh : (ofL h).size ≤ 1000 := by rw [ofL_size]; have : h.length ≤ 80 := hB80; omega
  have hq16 : q.length ≤ 16 := hQ16
  obtain ⟨R, hR⟩ : ∃ R, R = srvR (dd Kc) (h, T, c) (m, q, d) := ⟨_, rfl⟩
  rw [← hR]
  clear hl hl2 hB80 hQ16
  by_cases hc : c = 0
  · subst hc
    have h1 := HB.mono (R' := fun x w' => ∃ v, x = .returned (.tuple #[.agg #[.string (ofL h), v], .int .i64 0]) ∧ w'.ownsRow w.heap.size 9 1 v T.length (strB T) ∧ Below w.heap.size w w') (fun x w' hx => by rw [if_pos rfl] at hx; exact hx)
    clear HB
    by_cases hd : d = 0
    · subst hd
      have hnm : (ofL m).size = 32 := by rw [ofL_size]; exact hQn rfl
      have h3 := fun W => (HQ W).mono (R' := fun x w' => ∃ v, x = .returned (.tuple #[.agg (bc (ofL m) ++ [v]).toArray, .int .i64 0]) ∧ w'.ownsRow W.heap.size 3 1 v q.length (natV q) ∧ Below W.heap.size W w') (fun x w' hx => by rw [if_pos rfl] at hx; exact hx)
      have HSM : Hid (∀ x ∈ T, x.length ≤ 610) := hBs rfl
      clear HQ hBs hQn
      have HL33 : ∀ a n c, (bc (ofL m) ++ [Value.slice a n c]).length = 33 := fun a n c => by rw [List.length_append, bc_length, hnm]; rfl
      have HRT : Hid (R = if ofL m ≠ dd Kc (ofL h) then ([], 6) else if allB T q = true then (m ++ (sizeL q.length ++ (outL T q).flatten), 0) else ([], 4)) := by show _ = _; rw [hR]; simp only [srvR, ne_eq, not_true_eq_false, if_false]; rfl
      clear hR
      have HKT : Hid (KT Kc w) := hkt
      clear hkt
      have hHB : (ofL m).data.toList = m := ofL_data m
      have HMD : Hid ((ofL m).data.toList = m) := hHB
      clear hHB
      generalize ofL h = hb at h1 hh HRT
      generalize ofL m = nm at h3 hnm HL33 HRT HMD
      go_enter Tryd.func21, Tryd.ntmps21
      go_upto_region 2 with (go_at_call 32; go_must (refine h1.mono ?_); rintro e w1 ⟨v, rfl, ho1, hb1⟩; obtain ⟨a1, c1, rfl, hr1⟩ := own_sv ho1; have HR1 := (show Hid (0 < T.length → ∃ b o, a1 = some ⟨b, o, none⟩ ∧ SRow w1 b o (T.map ofL)) from hr1); have HB1 := (show Hid (Below w.heap.size w w1) from hb1); clear ho1 hb1 hr1)
      obtain ⟨W2, hW2⟩ : ∃ W, W = w1.alloc (.cells #[.string hb, .slice a1 T.length c1] 76) := ⟨_, rfl⟩
      have hb2 : Below w1.heap.size w1 W2 := by rw [hW2]; exact (Below.refl _ _).alloc (Nat.le_refl _) _
      have hz2 : W2.heap.size = w1.heap.size + 1 := by rw [hW2]; simp
      have HX0 : Hid (W2.cell? ⟨w1.heap.size, 0, none⟩ = some (.string hb)) := by show _ = _; rw [hW2]; simp [go_sem]
      have HX1 : Hid (W2.cell? ⟨w1.heap.size, 1, none⟩ = some (.slice a1 T.length c1)) := by show _ = _; rw [hW2]; simp [go_sem]
      have HB2 : Hid (Below w1.heap.size w1 W2) := hb2
      rw [← hW2]
      clear hW2 hb2 h1
      have h3' := h3 W2
      clear h3
      go_upto_region 5 with (first
        | (go_at_call 37; go_must (refine h3'.mono ?_); rintro e w3 ⟨v2, rfl, ho3, hb3⟩; obtain ⟨a2, c2, rfl, hr2⟩ := own_nv ho3; have HR2 := (show Hid (0 < q.length → ∃ b o, a2 = some ⟨b, o, none⟩ ∧ VRow w3 b o (natV q)) from hr2); have HB3 := (show Hid (Below W2.heap.size W2 w3) from hb3); clear ho3 hb3 hr2)
        | (refine wpList_store_list rfl 88 _ _ rfl w3.heap.size 0 (bc nm ++ [Value.slice a2 q.length c2]) rfl rfl ?_ ?_ (bc_slice_one nm a2 q.length c2) ?_; rw [HL33 a2 q.length c2]; exact there_new w3 88 (#[.int .u8 0, .int .u8 0, .int .u8 0, .int .u8 0, .int .u8 0, .int .u8 0, .int .u8 0, .int .u8 0, .int .u8 0, .int .u8 0, .int .u8 0, .int .u8 0, .int .u8 0, .int .u8 0, .int .u8 0, .int .u8 0, .int .u8 0, .int .u8 0, .int .u8 0, .int .u8 0, .int .u8 0, .int .u8 0, .int .u8 0, .int .u8 0, .int .u8 0, .int .u8 0, .int .u8 0, .int .u8 0, .int .u8 0, .int .u8 0, .int .u8 0, .int .u8 0, .slice none 0 0] : Array Value).toList; rw [HL33 a2 q.length c2]; kernel_rfl))
      obtain ⟨W4, hW4⟩ : ∃ W, W = (w3.alloc (.cells #[.int .u8 0, .int .u8 0, .int .u8 0, .int .u8 0, .int .u8 0, .int .u8 0, .int .u8 0, .int .u8 0, .int .u8 0, .int .u8 0, .int .u8 0, .int .u8 0, .int .u8 0, .int .u8 0, .int .u8 0, .int .u8 0, .int .u8 0, .int .u8 0, .int .u8 0, .int .u8 0, .int .u8 0, .int .u8 0, .int .u8 0, .int .u8 0, .int .u8 0, .int .u8 0, .int .u8 0, .int .u8 0, .int .u8 0, .int .u8 0, .int .u8 0, .int .u8 0, .slice none 0 0] 88)).setCells w3.heap.size 0 (bc nm ++ [Value.slice a2 q.length c2]) := ⟨_, rfl⟩
      have hb4 : Below w3.heap.size w3 W4 := by rw [hW4]; exact below_setCells ((Below.refl _ _).alloc (Nat.le_refl _) _) _ (Nat.le_refl _) _ _
      have HRG : Hid (W4.rangeAt w3.heap.size 0 (bc nm ++ [Value.slice a2 q.length c2])) := by show World.rangeAt _ _ _ _; rw [hW4]; exact World.rangeAt_setCells_same _ _ _ _ (by rw [HL33 a2 q.length c2]; exact there_new w3 88 (#[.int .u8 0, .int .u8 0, .int .u8 0, .int .u8 0, .int .u8 0, .int .u8 0, .int .u8 0, .int .u8 0, .int .u8 0, .int .u8 0, .int .u8 0, .int .u8 0, .int .u8 0, .int .u8 0, .int .u8 0, .int .u8 0, .int .u8 0, .int .u8 0, .int .u8 0, .int .u8 0, .int .u8 0, .int .u8 0, .int .u8 0, .int .u8 0, .int .u8 0, .int .u8 0, .int .u8 0, .int .u8 0, .int .u8 0, .int .u8 0, .int .u8 0, .int .u8 0, .slice none 0 0] : Array Value).toList)
      have hs3 := HB3.out.size
      have HBC : Hid (Below W2.heap.size W2 W4) := HB3.out.trans (hb4.mono hs3)
      have hs4 := hb4.size
      have x0 : W4.cell? ⟨w1.heap.size, 0, none⟩ = some (.string hb) := by rw [HBC.out.cell (p := ⟨w1.heap.size, 0, none⟩) (by show w1.heap.size < _; omega)]; exact HX0.out
      have x1 : W4.cell? ⟨w1.heap.size, 1, none⟩ = some (.slice a1 T.length c1) := by rw [HBC.out.cell (p := ⟨w1.heap.size, 1, none⟩) (by show w1.heap.size < _; omega)]; exact HX1.out
      have HBW : Hid (Below w.heap.size w W4) := (HB1.out.trans (HB2.out.mono HB1.out.size)).trans (HBC.out.mono (by have := HB1.out.size; omega))
      have HB14 : Hid (Below w1.heap.size w1 W4) := HB2.out.trans (HBC.out.mono (by omega))
      have hk4 : KT Kc W4 := HKT.out.later HBW.out hpos
      have hr14 : 0 < T.length → ∃ b o, a1 = some ⟨b, o, none⟩ ∧ SRow W4 b o (T.map ofL) := fun h0 => by
        obtain ⟨b, o, ha, hs⟩ := HR1.out h0
        exact ⟨b, o, ha, hs.later HB14.out (hs.lt (by simpa using h0))⟩
      have hr24 : 0 < q.length → ∃ b o, a2 = some ⟨b, o, none⟩ ∧ VRow W4 b o (natV q) := fun h0 => by
        obtain ⟨b, o, ha, hs⟩ := HR2.out h0
        exact ⟨b, o, ha, hs.later hb4 (hs.lt (by simp [natV]; exact h0))⟩
      rw [← hW4]
      clear hW4 hb4 HX0 HX1 HB2 HBC HB3 HR1 HR2 HB1 h3'
      by_cases hn : nm = dd Kc hb
      · have hA := answer_same Kc hb nm T q a1 a2 c1 c2 _ (show Hid _ from rfl) W4 hk4 hnm hh hn hr14 hr24 hq16
        have HRE : Hid (R = if allB T q = true then (m ++ (sizeL q.length ++ (outL T q).flatten), 0) else ([], 4)) := by show _ = _; rw [HRT.out, if_neg (by simpa using hn)]
        clear hn HRT hk4 hr14 hr24 HKT
        cases hall : allB T q with
        | true =>
          have h5 := hA.mono (R' := fun x w' => ∃ v, x = .returned (.tuple #[.agg (bc nm ++ [v]).toArray, .int .i64 0]) ∧ w'.ownsRow W4.heap.size 9 1 v q.length (strB (outL T q)) ∧ Below W4.heap.size W4 w') (fun x w' hx => by
            rcases hx with ⟨_, h⟩ | ⟨h0, _⟩
            · exact h
            · rw [hall] at h0; cases h0)
          have HRR : Hid (R = (m ++ (sizeL q.length ++ (outL T q).flatten), 0)) := by show _ = _; rw [HRE.out, if_pos hall]
          have hol : (outL T q).length = q.length := by simp [outL]
          have HOSM : Hid (∀ x ∈ outL T q, x.length ≤ 610) := fun x hx => by
            obtain ⟨i, hi, rfl⟩ := List.mem_map.1 hx
            have hi2 : i < T.length := by simpa using List.all_eq_true.1 hall i hi
            rw [List.getD, List.getElem?_eq_getElem hi2]
            exact HSM.out _ (List.getElem_mem hi2)
          have HTX : Hid (∀ (W : World) (a : Option Addr) (c : Nat), W.ownsRow W4.heap.size 9 1 (.slice a q.length c) q.length (strB (outL T q)) → ∀ W', Below W.heap.size W W' → Calls Tryd.prog 40 #[.agg (bc nm ++ [Value.slice a q.length c]).toArray] W' fun x w' => x = .returned (.string (ofL (m ++ (sizeL q.length ++ (outL T q).flatten)))) ∧ Below W'.heap.size W' w') := fun W a c ho W' hW' => by
            have hsv : SVal W (.slice a q.length c) ((outL T q).map ofL) := own_sval (l := (outL T q).map ofL) (by rw [List.length_map, hol]; exact ho)
            have := rpText_any nm hnm (outL T q) (.slice a q.length c) _ (show Hid _ from rfl) W' (hsv.later hW') (by omega) HOSM.out
            rw [hol, HMD.out, List.append_assoc] at this
            exact this
          clear hA HRE hall HSM HOSM hol
          have HL33' := HL33
          go_upto_region 8 with (first
            | (refine wpList_load_mid rfl 88 _ rfl w3.heap.size 0 rfl (bc nm ++ [Value.slice a2 q.length c2]) _ ?_ Tryd.underlying88 rfl ?_ ?_; exact HRG.out; rw [HL33 a2 q.length c2]; kernel_rfl)
            | (go_at_call 39; go_must (refine h5.mono ?_); rintro e w5 ⟨v5, rfl, ho5, hb5⟩; obtain ⟨a5, n5, c5, rfl⟩ := own_slice ho5; have HO5 := (show Hid (w5.ownsRow W4.heap.size 9 1 (.slice a5 n5 c5) q.length (strB (outL T q))) from ho5); have HB5 := (show Hid (Below W4.heap.size W4 w5) from hb5); clear ho5 hb5)
            | (refine wpList_store_list rfl 94 _ _ rfl w5.heap.size 0 (bc nm ++ [Value.slice a5 n5 c5]) rfl rfl ?_ ?_ (bc_slice_one nm a5 n5 c5) ?_; rw [HL33 a5 n5 c5]; exact there_new w5 94 (#[.int .u8 0, .int .u8 0, .int .u8 0, .int .u8 0, .int .u8 0, .int .u8 0, .int .u8 0, .int .u8 0, .int .u8 0, .int .u8 0, .int .u8 0, .int .u8 0, .int .u8 0, .int .u8 0, .int .u8 0, .int .u8 0, .int .u8 0, .int .u8 0, .int .u8 0, .int .u8 0, .int .u8 0, .int .u8 0, .int .u8 0, .int .u8 0, .int .u8 0, .int .u8 0, .int .u8 0, .int .u8 0, .int .u8 0, .int .u8 0, .int .u8 0, .int .u8 0, .slice none 0 0] : Array Value).toList; rw [HL33 a5 n5 c5]; kernel_rfl))
          obtain ⟨W6, hW6⟩ : ∃ W, W = (w5.alloc (.cells #[.int .u8 0, .int .u8 0, .int .u8 0, .int .u8 0, .int .u8 0, .int .u8 0, .int .u8 0, .int .u8 0, .int .u8 0, .int .u8 0, .int .u8 0, .int .u8 0, .int .u8 0, .int .u8 0, .int .u8 0, .int .u8 0, .int .u8 0, .int .u8 0, .int .u8 0, .int .u8 0, .int .u8 0, .int .u8 0, .int .u8 0, .int .u8 0, .int .u8 0, .int .u8 0, .int .u8 0, .int .u8 0, .int .u8 0, .int .u8 0, .int .u8 0, .int .u8 0, .slice none 0 0] 94)).setCells w5.heap.size 0 (bc nm ++ [Value.slice a5 n5 c5]) := ⟨_, rfl⟩
          have hb6 : Below w5.heap.size w5 W6 := by rw [hW6]; exact below_setCells ((Below.refl _ _).alloc (Nat.le_refl _) _) _ (Nat.le_refl _) _ _
          have HRG6 : Hid (W6.rangeAt w5.heap.size 0 (bc nm ++ [Value.slice a5 n5 c5])) := by show World.rangeAt _ _ _ _; rw [hW6]; exact World.rangeAt_setCells_same _ _ _ _ (by rw [HL33 a5 n5 c5]; exact there_new w5 94 (#[.int .u8 0, .int .u8 0, .int .u8 0, .int .u8 0, .int .u8 0, .int .u8 0, .int .u8 0, .int .u8 0, .int .u8 0, .int .u8 0, .int .u8 0, .int .u8 0, .int .u8 0, .int .u8 0, .int .u8 0, .int .u8 0, .int .u8 0, .int .u8 0, .int .u8 0, .int .u8 0, .int .u8 0, .int .u8 0, .int .u8 0, .int .u8 0, .int .u8 0, .int .u8 0, .int .u8 0, .int .u8 0, .int .u8 0, .int .u8 0, .int .u8 0, .int .u8 0, .slice none 0 0] : Array Value).toList)
          have hn5 : n5 = q.length := by
            rcases HO5.out.2 with ⟨hv, h0⟩ | ⟨g, cap, cur, hv, _⟩
            · injection hv with _ e _; omega
            · injection hv with _ e _
          subst hn5
          have HT6 : Hid (Calls Tryd.prog 40 #[.agg (bc nm ++ [Value.slice a5 q.length c5]).toArray] W6 fun x w' => x = .returned (.string (ofL (m ++ (sizeL q.length ++ (outL T q).flatten)))) ∧ Below W6.heap.size W6 w') := HTX.out w5 a5 c5 HO5.out W6 hb6
          have HB6 : Hid (Below w.heap.size w W6) := (HBW.out.trans (HB5.out.mono HBW.out.size)).trans (hb6.mono (by have := HB5.out.size; have := HBW.out.size; omega))
          rw [← hW6]
          clear hW6 hb6 h5 HTX HO5 HB5 x0 x1
          go_wp2_with (first
            | (refine wpList_load_mid rfl 94 _ rfl w5.heap.size 0 rfl (bc nm ++ [Value.slice a5 q.length c5]) _ ?_ Tryd.underlying94 rfl ?_ ?_; exact HRG6.out; rw [HL33 a5 q.length c5]; kernel_rfl)
            | (go_at_call 40; go_must (refine HT6.out.mono ?_); rintro e w7 ⟨rfl, hb7⟩; have HB7 := (show Hid (Below W6.heap.size W6 w7) from hb7); clear hb7))
          go_ret2
          exact ⟨by rw [HRR.out]; rfl, HB6.out.trans (HB7.out.mono HB6.out.size)⟩
        | false =>
          have h5 := hA.mono (R' := fun x w' => x = .returned (.tuple #[.agg zR.toArray, .int .i64 4]) ∧ Below W4.heap.size W4 w') (fun x w' hx => by
            rcases hx with ⟨h0, _⟩ | ⟨_, h⟩
            · rw [hall] at h0; cases h0
            · exact h)
          have HRR : Hid (R = ([], 4)) := by show _ = _; rw [HRE.out, if_neg (by rw [hall]; simp)]
          clear hA HRE hall HSM
          go_wp2_with (first
            | (refine wpList_load_mid rfl 88 _ rfl w3.heap.size 0 rfl (bc nm ++ [Value.slice a2 q.length c2]) _ ?_ Tryd.underlying88 rfl ?_ ?_; exact HRG.out; rw [HL33 a2 q.length c2]; kernel_rfl)
            | (go_at_call 39; go_must (refine h5.mono ?_); rintro e w5 ⟨rfl, hb5⟩; have HB5 := (show Hid (Below W4.heap.size W4 w5) from hb5); clear hb5)
            | (refine wpList_store_list rfl 94 _ _ rfl w5.heap.size 0 zR rfl rfl ?_ (by kernel_rfl) zR_one ?_; exact there_new w5 94 (#[.int .u8 0, .int .u8 0, .int .u8 0, .int .u8 0, .int .u8 0, .int .u8 0, .int .u8 0, .int .u8 0, .int .u8 0, .int .u8 0, .int .u8 0, .int .u8 0, .int .u8 0, .int .u8 0, .int .u8 0, .int .u8 0, .int .u8 0, .int .u8 0, .int .u8 0, .int .u8 0, .int .u8 0, .int .u8 0, .int .u8 0, .int .u8 0, .int .u8 0, .int .u8 0, .int .u8 0, .int .u8 0, .int .u8 0, .int .u8 0, .int .u8 0, .int .u8 0, .slice none 0 0] : Array Value).toList))
          go_ret2
          refine ⟨by rw [HRR.out]; rfl, ?_⟩
          exact below_setCells ((HBW.out.trans (HB5.out.mono HBW.out.size)).alloc (by have := HB5.out.size; have := HBW.out.size; omega) _) _ (by have := HB5.out.size; have := HBW.out.size; omega) _ _
      · have h5 := answer_other Kc hb nm T q a1 a2 c1 c2 _ (show Hid _ from rfl) W4 hk4 hnm hh hn
        have HRR : Hid (R = ([], 6)) := by show _ = _; rw [HRT.out, if_pos (by simpa using hn)]
        clear hn HRT hk4 hr14 hr24 HKT HSM
        go_wp2_with (first
          | (refine wpList_load_mid rfl 88 _ rfl w3.heap.size 0 rfl (bc nm ++ [Value.slice a2 q.length c2]) _ ?_ Tryd.underlying88 rfl ?_ ?_; exact HRG.out; rw [HL33 a2 q.length c2]; kernel_rfl)
          | (go_at_call 39; go_must (refine h5.mono ?_); rintro e w5 ⟨rfl, hb5⟩; have HB5 := (show Hid (Below W4.heap.size W4 w5) from hb5); clear hb5)
          | (refine wpList_store_list rfl 94 _ _ rfl w5.heap.size 0 zR rfl rfl ?_ (by kernel_rfl) zR_one ?_; exact there_new w5 94 (#[.int .u8 0, .int .u8 0, .int .u8 0, .int .u8 0, .int .u8 0, .int .u8 0, .int .u8 0, .int .u8 0, .int .u8 0, .int .u8 0, .int .u8 0, .int .u8 0, .int .u8 0, .int .u8 0, .int .u8 0, .int .u8 0, .int .u8 0, .int .u8 0, .int .u8 0, .int .u8 0, .int .u8 0, .int .u8 0, .int .u8 0, .int .u8 0, .int .u8 0, .int .u8 0, .int .u8 0, .int .u8 0, .int .u8 0, .int .u8 0, .int .u8 0, .int .u8 0, .slice none 0 0] : Array Value).toList))
        go_ret2
        refine ⟨by rw [HRR.out]; rfl, ?_⟩
        exact below_setCells ((HBW.out.trans (HB5.out.mono HBW.out.size)).alloc (by have := HB5.out.size; have := HBW.out.size; omega) _) _ (by have := HB5.out.size; have := HBW.out.size; omega) _ _
    · have h3 := fun W => (HQ W).mono (R' := fun x w' => x = .returned (.tuple #[.agg zR.toArray, .int .i64 d]) ∧ Below W.heap.size W w') (fun x w' hx => by rw [if_neg hd] at hx; exact hx)
      have hRR : R = ([], d) := by rw [hR]; simp [srvR, hd]
      rw [hRR]
      clear hR hRR hkt HQ hBs hQn
      generalize ofL h = hb at h1 hh
      go_enter Tryd.func21, Tryd.ntmps21
      go_upto_region 2 with (go_at_call 32; go_must (refine h1.mono ?_); rintro e w1 ⟨v, rfl, ho1, hb1⟩; obtain ⟨a1, c1, rfl, hr1⟩ := own_sv ho1; have HB1 := (show Hid (Below w.heap.size w w1) from hb1); clear ho1 hb1 hr1)
      obtain ⟨W2, hW2⟩ : ∃ W, W = w1.alloc (.cells #[.string hb, .slice a1 T.length c1] 76) := ⟨_, rfl⟩
      have HB2 : Hid (Below w1.heap.size w1 W2) := by show Below _ _ _; rw [hW2]; exact (Below.refl _ _).alloc (Nat.le_refl _) _
      rw [← hW2]
      clear hW2 h1
      have h3' := h3 W2
      clear h3
      go_wp2_with (first
        | (go_at_call 37; go_must (refine h3'.mono ?_); rintro e w3 ⟨rfl, hb3⟩; have HB3 := (show Hid (Below W2.heap.size W2 w3) from hb3); clear hb3)
        | (refine wpList_store_list rfl 88 _ _ rfl w3.heap.size 0 zR rfl rfl ?_ (by kernel_rfl) zR_one ?_; exact there_new w3 88 (#[.int .u8 0, .int .u8 0, .int .u8 0, .int .u8 0, .int .u8 0, .int .u8 0, .int .u8 0, .int .u8 0, .int .u8 0, .int .u8 0, .int .u8 0, .int .u8 0, .int .u8 0, .int .u8 0, .int .u8 0, .int .u8 0, .int .u8 0, .int .u8 0, .int .u8 0, .int .u8 0, .int .u8 0, .int .u8 0, .int .u8 0, .int .u8 0, .int .u8 0, .int .u8 0, .int .u8 0, .int .u8 0, .int .u8 0, .int .u8 0, .int .u8 0, .int .u8 0, .slice none 0 0] : Array Value).toList))
      go_ret2
      refine ⟨rfl, ?_⟩
      exact (below_setCells ((((HB1.out.trans (HB2.out.mono HB1.out.size)).trans (HB3.out.mono (by have := HB1.out.size; have := HB2.out.size; omega)))).alloc (by have := HB1.out.size; have := HB2.out.size; have := HB3.out.size; omega) _) _ (by have := HB1.out.size; have := HB2.out.size; have := HB3.out.size; omega) _ _)
  · have h1 := HB.mono (R' := fun x w' => x = .returned (.tuple #[.agg #[.string ⟨#[]⟩, .slice none 0 0], .int .i64 c]) ∧ Below w.heap.size w w') (fun x w' hx => by rw [if_neg hc] at hx; exact hx)
    have hRR : R = ([], c) := by rw [hR]; simp [srvR, hc]
    rw [hRR]
    clear hR hRR HB HQ hkt hBs hQn
    go_enter Tryd.func21, Tryd.ntmps21
    go_wp2_with (go_at_call 32; go_must (refine h1.mono ?_); rintro e w1 ⟨rfl, hb1⟩; have HB1 := (show Hid (Below w.heap.size w w1) from hb1); clear hb1)
    go_ret2
    exact ⟨rfl, HB1.out.alloc HB1.out.size _⟩
end Go.Proofs.YtkmalggeieiepabDoor
set_option linter.unusedSimpArgs false
namespace Go.Proofs.YtkmalggeieiepabDoor
open Go.RowKit

/-- a block told shortly, or what is wrong. -/
def encR (dg : ByteArray → ByteArray) (B : List UInt8 × (List (List UInt8) × Int)) (n : Nat) (al : List Int) : List UInt8 × Int :=
  if B.2.2 ≠ 0 then ([], B.2.2) else if alE B.2.1.length al ≠ 0 then ([], alE B.2.1.length al) else (encL (fun x => shortL dg (ofL B.1) (ofL (le n 8)) (ofL x)) B.1 (le n 8) B.2.1 al, 0)
theorem enc_eq (Kc : Nat → Int) (h : List UInt8) (n : Nat) (T : List (List UInt8)) (al : List Int) (hE : alE T.length al = 0) :
    sbL h n ((oth al 0 T).map (idOf Kc (sg Kc (ofL h ++ ofL (le n 8))))) (plc al 0 T) = encL (fun x => shortL (sg Kc) (ofL h) (ofL (le n 8)) (ofL x)) h (le n 8) T al := by
  unfold sbL encL
  rw [plc_len T al hE, List.length_map, List.map_map]
  have e : ((fun x => le x 6) ∘ idOf Kc (sg Kc (ofL h ++ ofL (le n 8)))) = fun x => shortL (sg Kc) (ofL h) (ofL (le n 8)) (ofL x) := by
    funext x
    show le (idOf Kc (sg Kc (ofL h ++ ofL (le n 8))) x) 6 = _
    unfold idOf shortL
    exact le_mod 6 _
  rw [e]
  simp only [List.append_assoc]

set_option maxRecDepth 10000 in
set_option maxHeartbeats 4000000 in
theorem encode_any (Kc : Nat → Int) (s : ByteArray) (n : Nat) (al : List Int) (v : Value) (w : World) (hkt : KT Kc w) (hl : s.size ≤ maxLen) (hn : U64 n) (hv : VVal w v (intV al)) (hal : al.length ≤ 1048576) :
    Calls Tryd.prog 20 #[.string s, .int .u64 (n : Int), v] w fun x w' => x = .returned (.tuple #[.string (ofL (encR (sg Kc) (rMsg 80 s.data.toList) n al).1), .int .i64 (encR (sg Kc) (rMsg 80 s.data.toList) n al).2]) ∧ Below w.heap.size w w' := by
  have hpos : 0 < w.heap.size := World.block_lt_of_cell? w _ (hkt 0 (by omega))
  have HB := readB_any s w hl
  have hB80 : (rMsg 80 s.data.toList).2.2 = 0 → (rMsg 80 s.data.toList).1.length = 80 := rMsg_head 80 _
  have hBs : (rMsg 80 s.data.toList).2.2 = 0 → ∀ x ∈ (rMsg 80 s.data.toList).2.1, x.length ≤ 610 := rMsg_small 80 _
  have hBl : (rMsg 80 s.data.toList).2.1.length ≤ 16 := rMsg_len 80 _
  generalize rMsg 80 s.data.toList = B at HB hB80 hBs hBl
  obtain ⟨h, T, c⟩ := B
  obtain ⟨R, hR⟩ : ∃ R, R = encR (sg Kc) (h, T, c) n al := ⟨_, rfl⟩
  rw [← hR]
  clear hl
  by_cases hc : c = 0
  · subst hc
    have h1 := HB.mono (R' := fun x w' => ∃ v, x = .returned (.tuple #[.agg #[.string (ofL h), v], .int .i64 0]) ∧ w'.ownsRow w.heap.size 9 1 v T.length (strB T) ∧ Below w.heap.size w w') (fun x w' hx => by rw [if_pos rfl] at hx; exact hx)
    have hh : h.length = 80 := hB80 rfl
    have hT : T.length ≤ 16 := hBl
    have hS : ∀ x ∈ T, x.length ≤ 610 := hBs rfl
    have HV : Hid (VVal w v (intV al)) := hv
    have HKT : Hid (KT Kc w) := hkt
    clear HB hB80 hBs hBl hv hkt
    have HCK : Hid (∀ W, Below w.heap.size w W → Calls Tryd.prog 34 #[v, .int .i64 (T.length : Int)] W fun e w' => e = .returned (.int .i64 (alE T.length al)) ∧ W = w') := fun W hW => (checkAlong_any al T.length v W (HV.out.later hW) hal).mono fun e w' ⟨h1, h2⟩ => ⟨h1, h2.symm⟩
    by_cases hE : alE T.length al = 0
    · have HRR : Hid (R = (sbL h n ((oth al 0 T).map (idOf Kc (sg Kc (ofL h ++ ofL (le n 8))))) (plc al 0 T), 0)) := by show _ = _; rw [enc_eq Kc h n T al hE, hR]; simp [encR, hE]
      have hps : ∀ j (hj : j < (plc al 0 T).length), nxt 0 ((plc al 0 T).take j) ≤ (plc al 0 T)[j].1 ∧ (plc al 0 T)[j].1 < 16 ∧ (plc al 0 T)[j].2.length ≤ 610 := fun j hj => by
        have hm := plc_mem al T 0 _ (List.getElem_mem hj)
        exact ⟨plc_nxt al T 0 j hj, by omega, hS _ hm.2.2⟩
      have hhs : (ofL h).size = 80 := by rw [ofL_size]; exact hh
      have hid : (ofL h).data.toList = h := ofL_data h
      have HSH : Hid (∀ (W : World) (a1 : Option Addr) (c1 : Nat), Below w.heap.size w W → (0 < T.length → ∃ b o, a1 = some ⟨b, o, none⟩ ∧ SRow W b o (T.map ofL)) → Calls Tryd.prog 35 #[.agg #[.string (ofL h), .slice a1 T.length c1], .int .u64 (n : Int), v] W fun x w' => ∃ v3 v4, x = .returned (.agg #[.string (ofL h), .int .u64 (n : Int), v3, v4]) ∧ w'.ownsRow W.heap.size 24 1 v3 ((oth al 0 T).map (idOf Kc (sg Kc (ofL h ++ ofL (le n 8))))).length (idV ((oth al 0 T).map (idOf Kc (sg Kc (ofL h ++ ofL (le n 8)))))) ∧ w'.ownsRow W.heap.size 127 2 v4 (plc al 0 T).length (plV (plc al 0 T)) ∧ Below W.heap.size W w') := fun W a1 c1 hW hr1 => shorten_any Kc (ofL h) n T al a1 c1 v W (HKT.out.later hW hpos) (by omega) hn hr1 hT hS (HV.out.later hW) hal
      have HTX : Hid (∀ (W : World) (B : Nat) (v3 v4 : Value), W.ownsRow B 24 1 v3 ((oth al 0 T).map (idOf Kc (sg Kc (ofL h ++ ofL (le n 8))))).length (idV ((oth al 0 T).map (idOf Kc (sg Kc (ofL h ++ ofL (le n 8)))))) → W.ownsRow B 127 2 v4 (plc al 0 T).length (plV (plc al 0 T)) → Calls Tryd.prog 36 #[.agg #[.string (ofL h), .int .u64 (n : Int), v3, v4]] W fun x w' => x = .returned (.string (ofL (sbL h n ((oth al 0 T).map (idOf Kc (sg Kc (ofL h ++ ofL (le n 8))))) (plc al 0 T)))) ∧ Below W.heap.size W w') := fun W B v3 v4 h3 h4 => by
        have := sbText_any (ofL h) n _ _ v3 v4 W B h3 h4 (by omega) (by omega) hn (by rw [List.length_map]; have := oth_le al T 0; omega) (fun x hx => by
          obtain ⟨y, _, rfl⟩ := List.mem_map.1 hx
          unfold U64 idOf
          exact Nat.lt_of_lt_of_le (Nat.mod_lt _ (by omega)) (by omega)) (by have := plc_le al T 0; omega) hps
        rw [hid] at this
        exact this
      rw [hE] at HCK
      clear hE hR hps hhs hid hS hn HV
      generalize (oth al 0 T).map (idOf Kc (sg Kc (ofL h ++ ofL (le n 8)))) = ids at HSH HTX HRR
      generalize plc al 0 T = ps at HSH HTX HRR
      generalize sbL h n ids ps = SB at HTX HRR
      generalize ofL h = hb at h1 HSH HTX
      generalize (n : Int) = NI at HSH HTX ⊢
      go_enter Tryd.func20, Tryd.ntmps20
      go_upto_region 2 with (go_at_call 32; go_must (refine h1.mono ?_); rintro e w1 ⟨v1, rfl, ho1, hb1⟩; obtain ⟨a1, c1, rfl, hr1⟩ := own_sv ho1; have HR1 := (show Hid (0 < T.length → ∃ b o, a1 = some ⟨b, o, none⟩ ∧ SRow w1 b o (T.map ofL)) from hr1); have HB1 := (show Hid (Below w.heap.size w w1) from hb1); clear ho1 hb1 hr1)
      obtain ⟨W2, hW2⟩ : ∃ W, W = w1.alloc (.cells #[.string hb, .slice a1 T.length c1] 76) := ⟨_, rfl⟩
      have hb2 : Below w1.heap.size w1 W2 := by rw [hW2]; exact (Below.refl _ _).alloc (Nat.le_refl _) _
      have x0 : W2.cell? ⟨w1.heap.size, 0, none⟩ = some (.string hb) := by rw [hW2]; simp [go_sem]
      have x1 : W2.cell? ⟨w1.heap.size, 1, none⟩ = some (.slice a1 T.length c1) := by rw [hW2]; simp [go_sem]
      have HBW : Hid (Below w.heap.size w W2) := HB1.out.trans (hb2.mono HB1.out.size)
      have hr2 : 0 < T.length → ∃ b o, a1 = some ⟨b, o, none⟩ ∧ SRow W2 b o (T.map ofL) := fun h0 => by
        obtain ⟨b, o, ha, hs⟩ := HR1.out h0
        exact ⟨b, o, ha, hs.later hb2 (hs.lt (by simpa using h0))⟩
      have h5 := HSH.out W2 a1 c1 HBW.out hr2
      have h4 := HCK.out W2 HBW.out
      rw [← hW2]
      clear hW2 hb2 h1 HSH HCK HR1 hr2 HB1
      go_upto_region 7 with (go_at_call 34; go_must (refine h4.mono ?_); rintro e w' ⟨rfl, rfl⟩)
      clear h4
      go_wp2_with (first
        | (go_at_call 35; go_must (refine h5.mono ?_); rintro e w5 ⟨v3, v4, rfl, ho3, ho4, hb5⟩; have h6 := HTX.out w5 _ v3 v4 ho3 ho4; have HB5 := (show Hid (Below W2.heap.size W2 w5) from hb5); clear ho3 ho4 hb5)
        | (go_at_call 36; go_must (refine h6.mono ?_); rintro e w6 ⟨rfl, hb6⟩; have HB6 := (show Hid (Below w5.heap.size w5 w6) from hb6); clear hb6))
      go_ret2
      refine ⟨by rw [HRR.out]; rfl, ?_⟩
      have k1 := HBW.out.size
      have k2 := HB5.out.size
      exact (HBW.out.trans (HB5.out.mono k1)).trans (HB6.out.mono (by omega))
    · have HRR : Hid (R = ([], alE T.length al)) := by show _ = _; rw [hR]; simp [encR, hE]
      clear hR hS hn HV HKT hh hT
      generalize alE T.length al = E at HCK hE HRR
      generalize ofL h = hb at h1
      go_enter Tryd.func20, Tryd.ntmps20
      go_upto_region 2 with (go_at_call 32; go_must (refine h1.mono ?_); rintro e w1 ⟨v1, rfl, ho1, hb1⟩; obtain ⟨a1, c1, rfl, hr1⟩ := own_sv ho1; have HB1 := (show Hid (Below w.heap.size w w1) from hb1); clear ho1 hb1 hr1)
      obtain ⟨W2, hW2⟩ : ∃ W, W = w1.alloc (.cells #[.string hb, .slice a1 T.length c1] 76) := ⟨_, rfl⟩
      have hb2 : Below w1.heap.size w1 W2 := by rw [hW2]; exact (Below.refl _ _).alloc (Nat.le_refl _) _
      have x1 : W2.cell? ⟨w1.heap.size, 1, none⟩ = some (.slice a1 T.length c1) := by rw [hW2]; simp [go_sem]
      have HBW : Hid (Below w.heap.size w W2) := HB1.out.trans (hb2.mono HB1.out.size)
      have h4 := HCK.out W2 HBW.out
      rw [← hW2]
      clear hW2 hb2 h1 HCK HB1
      go_wp2_with (go_at_call 34; go_must (refine h4.mono ?_); rintro e w' ⟨rfl, rfl⟩)
      go_ret2
      exact ⟨by rw [HRR.out]; rfl, HBW.out⟩
  · have h1 := HB.mono (R' := fun x w' => x = .returned (.tuple #[.agg #[.string ⟨#[]⟩, .slice none 0 0], .int .i64 c]) ∧ Below w.heap.size w w') (fun x w' hx => by rw [if_neg hc] at hx; exact hx)
    have hRR : R = ([], c) := by rw [hR]; simp [encR, hc]
    rw [hRR]
    clear hR hRR HB hkt hBs hB80 hBl hv hn
    go_enter Tryd.func20, Tryd.ntmps20
    go_wp2_with (go_at_call 32; go_must (refine h1.mono ?_); rintro e w1 ⟨rfl, hb1⟩; have HB1 := (show Hid (Below w.heap.size w w1) from hb1); clear hb1)
    go_ret2
    exact ⟨rfl, HB1.out.alloc HB1.out.size _⟩
end Go.Proofs.YtkmalggeieiepabDoor
namespace Go.Proofs.YtkmalggeieiepabDoor
open Go.RowKit
set_option maxRecDepth 100000

/-- Known's block. -/
def knH : List UInt8 := kbL 36 4 ++ knR.data.toList ++ kbL 12 5
def knB : List UInt8 := knH ++ [UInt8.ofNat 3] ++ catL [ofL (txL 1), ofL (txL 2), ofL (txL 3)]
theorem kn_blk : blkL kcT [ofL (txL 1), ofL (txL 2), ofL (txL 3)] 4 = knB := by
  have e := kn_root
  unfold blkL
  rw [show [ofL (txL 1), ofL (txL 2), ofL (txL 3)].map (dd kcT) = [dd kcT (ofL (txL 1)), dd kcT (ofL (txL 2)), dd kcT (ofL (txL 3))] from rfl, e]
  rfl
theorem kn_twin : (rootF (dd kcT) ([ofL (txL 1), ofL (txL 2), ofL (txL 3)].map (dd kcT)) false).2 = false := by
  rw [show [ofL (txL 1), ofL (txL 2), ofL (txL 3)].map (dd kcT) = [dd kcT (ofL (txL 1)), dd kcT (ofL (txL 2)), dd kcT (ofL (txL 3))] from rfl, kn_root]
theorem kn_msg : rMsg 80 knB = (knH, ([txL 1, txL 2, txL 3], 0)) := by kernel_rfl
theorem kn_msgx : (rMsg 80 (knB ++ [120])).2.2 = 5 := by kernel_rfl
theorem kn_cut : (rMsg 80 (knB.take 100)).2.2 = 1 := by kernel_rfl
theorem knB_len : knB.length = 643 := by kernel_rfl
theorem knH_take : knB.take 80 = knH := by kernel_rfl
/-- what is told of places sent along. -/
theorem kn_enc (n : Nat) (al : List Int) : encR (sg kcT) (rMsg 80 knB) n al = if alE 3 al ≠ 0 then ([], alE 3 al) else (encL (fun x => shortL (sg kcT) (ofL knH) (ofL (le n 8)) (ofL x)) knH (le n 8) [txL 1, txL 2, txL 3] al, 0) := by
  rw [kn_msg]; rfl
theorem kn_encx (n : Nat) (al : List Int) : encR (sg kcT) (rMsg 80 (knB ++ [120])) n al = ([], 5) := by
  unfold encR
  rw [kn_msgx]; rfl
theorem kn_enc_ne (sh : List UInt8 → List UInt8) (n : List UInt8) (l : List (List UInt8)) (al : List Int) : encL sh knH n l al ≠ [] := by
  intro h
  have h1 := congrArg List.length h
  unfold encL at h1
  have h2 : knH.length = 80 := by kernel_rfl
  simp only [List.length_append, h2, List.length_nil] at h1
  omega
/-- what is told of a request. -/
theorem kn_srv (Q : List UInt8 × (List Nat × Int)) : srvR (dd kcT) (rMsg 80 knB) Q = if Q.2.2 ≠ 0 then ([], Q.2.2) else if Q.1 ≠ knN then ([], 6) else if Q.2.1.all (fun i => decide (i < 3)) = true then (Q.1 ++ (sizeL Q.2.1.length ++ (outL [txL 1, txL 2, txL 3] Q.2.1).flatten), 0) else ([], 4) := by
  rw [kn_msg]
  have e : dd kcT (ofL knH) = ofL knN := kn_name
  have f : (ofL Q.1 ≠ ofL knN) = (Q.1 ≠ knN) := propext ⟨fun h k => h (by rw [k]), fun h k => h (ofL_inj k)⟩
  unfold srvR
  simp only [e, f]
  rfl
theorem kn_srvx (Q : List UInt8 × (List Nat × Int)) : srvR (dd kcT) (rMsg 80 (knB.take 100)) Q = ([], 1) := by
  unfold srvR
  rw [kn_cut]; rfl
/-- Known's two tables. -/
def knA : List (List Int × Int) := [([], 11), ([1], 11), ([0, 0], 11), ([0, 2, 1], 11), ([3], 4), ([0, -1], 4), ([1, 3], 4), ([0, 2], 0), ([0, 1, 2], 0)]
def knN2 : List UInt8 := knN.drop 1
def knQ : List (List UInt8 × Int) := [(knN ++ [1, 0], 0), (knN ++ [1, 2], 0), (knN ++ [3, 0, 0, 0], 0), (knN ++ [1, 3], 4), (knN ++ [1, 16], 4), (knN ++ [0], 3), (knN ++ [1], 1), (knN ++ [1, 0, 0], 5), (knN2 ++ [120, 1, 0], 6), (knN2 ++ [120, 1, 3], 6), (knN2 ++ [120, 1, 16], 4), (knN ++ [17], 3)]
/-- the error, and whether something is told. -/
def Told (r : List UInt8 × Int) (e : Int) : Prop := r.2 = e ∧ ((e = 0 ∧ r.1 ≠ []) ∨ (e ≠ 0 ∧ r.1 = []))
theorem told_enc (al : List Int) (e : Int) (he : alE 3 al = e) (n : Nat) : Told (encR (sg kcT) (rMsg 80 knB) n al) e := by
  rw [kn_enc, he]
  by_cases h : e = 0
  · rw [if_neg (fun k => k h)]
    exact ⟨h.symm, .inl ⟨h, kn_enc_ne _ _ _ _⟩⟩
  · rw [if_pos h]
    exact ⟨rfl, .inr ⟨h, rfl⟩⟩
theorem told_all (n j : Nat) (al : List Int) (e : Int) (h : knA[j]? = some (al, e)) : Told (encR (sg kcT) (rMsg 80 knB) n al) e := by
  refine told_enc al e ?_ n
  have hj : j < 9 := (List.getElem?_eq_some_iff.1 h).1
  match j, hj with
  | 0, _ => cases h; decide
  | 1, _ => cases h; decide
  | 2, _ => cases h; decide
  | 3, _ => cases h; decide
  | 4, _ => cases h; decide
  | 5, _ => cases h; decide
  | 6, _ => cases h; decide
  | 7, _ => cases h; decide
  | 8, _ => cases h; decide
theorem told_no (Q : List UInt8 × (List Nat × Int)) (e : Int) (h : Q.2.2 = e) (h0 : e ≠ 0) : Told (srvR (dd kcT) (rMsg 80 knB) Q) e := by
  rw [kn_srv, if_pos (by rw [h]; exact h0), h]
  exact ⟨rfl, .inr ⟨h0, rfl⟩⟩
theorem told_six (Q : List UInt8 × (List Nat × Int)) (h : Q.2.2 = 0) (h1 : Q.1 ≠ knN) : Told (srvR (dd kcT) (rMsg 80 knB) Q) 6 := by
  rw [kn_srv, if_neg (fun k => k h), if_pos h1]
  exact ⟨rfl, .inr ⟨by decide, rfl⟩⟩
theorem told_four (Q : List UInt8 × (List Nat × Int)) (h : Q.2.2 = 0) (h1 : Q.1 = knN) (h2 : Q.2.1.all (fun i => decide (i < 3)) = false) : Told (srvR (dd kcT) (rMsg 80 knB) Q) 4 := by
  rw [kn_srv, if_neg (fun k => k h), if_neg (fun k => k h1), if_neg (by rw [h2]; decide)]
  exact ⟨rfl, .inr ⟨by decide, rfl⟩⟩
theorem told_ok (Q : List UInt8 × (List Nat × Int)) (h : Q.2.2 = 0) (h1 : Q.1 = knN) (h2 : Q.2.1.all (fun i => decide (i < 3)) = true) : Told (srvR (dd kcT) (rMsg 80 knB) Q) 0 := by
  rw [kn_srv, if_neg (fun k => k h), if_neg (fun k => k h1), if_pos h2]
  refine ⟨rfl, .inl ⟨rfl, fun k => ?_⟩⟩
  have := congrArg List.length k
  rw [h1] at this
  simp only [List.length_append, knN_len, List.length_nil] at this
  omega
theorem told_srv (j : Nat) (t : List UInt8) (e : Int) (h : knQ[j]? = some (t, e)) : Told (srvR (dd kcT) (rMsg 80 knB) (rReq t)) e := by
  have hj : j < 12 := (List.getElem?_eq_some_iff.1 h).1
  match j, hj with
  | 0, _ => cases h; exact told_ok _ (by kernel_rfl) (by kernel_rfl) (by kernel_rfl)
  | 1, _ => cases h; exact told_ok _ (by kernel_rfl) (by kernel_rfl) (by kernel_rfl)
  | 2, _ => cases h; exact told_ok _ (by kernel_rfl) (by kernel_rfl) (by kernel_rfl)
  | 3, _ => cases h; exact told_four _ (by kernel_rfl) (by kernel_rfl) (by kernel_rfl)
  | 4, _ => cases h; exact told_no _ _ (by kernel_rfl) (by decide)
  | 5, _ => cases h; exact told_no _ _ (by kernel_rfl) (by decide)
  | 6, _ => cases h; exact told_no _ _ (by kernel_rfl) (by decide)
  | 7, _ => cases h; exact told_no _ _ (by kernel_rfl) (by decide)
  | 8, _ => cases h; exact told_six _ (by kernel_rfl) (by rw [show (rReq (knN2 ++ [120, 1, 0])).1 = knN.drop 1 ++ [120] by kernel_rfl]; exact knN_ne)
  | 9, _ => cases h; exact told_six _ (by kernel_rfl) (by rw [show (rReq (knN2 ++ [120, 1, 3])).1 = knN.drop 1 ++ [120] by kernel_rfl]; exact knN_ne)
  | 10, _ => cases h; exact told_no _ _ (by kernel_rfl) (by decide)
  | 11, _ => cases h; exact told_no _ _ (by kernel_rfl) (by decide)
end Go.Proofs.YtkmalggeieiepabDoor
