import Derived.Test.YtkmalggeieiepaaDoorCuE
import Derived.WalkKit
import Derived.WalkSpells
import Derived.WalkLawsBesides
import Derived.Deep.DeepCutAuto
import Derived.Defers
import Derived.Recover
namespace Go.Proofs.YtkmalggeieiepaaDoor
open Go.RowKit

set_option maxRecDepth 10000 in
set_option maxHeartbeats 1000000 in
theorem catch_panicking (p : Addr) (x c : Int) (w : World) (hc : w.cell? p = some (.int .i64 x)) (hz : w.frozen? p = false) :
    CallsD Tryd.prog 52 #[.pointer (some p)] (.panicking [{ v := .iface 26 (.int .i64 c), recovered := false }]) w fun e u' w' =>
      e = .returned (.tuple #[]) ∧ u' = .panicking [{ v := .iface 26 (.int .i64 c), recovered := true }] ∧ w' = w.setCell p (.int .i64 c) := by
  have hta : ∀ w : World, (Instr.typeAssert (.iface 26 (.int .i64 c)) 20 26 true).run Tryd.prog w = .ok (.tuple #[.int .i64 c, .bool true]) w := fun _ => by kernel_rfl
  refine callsD_of_wpS Tryd.func52 rfl fun c₀ cs hu => ?_
  apply wpS_seq
  apply wpS_region
  simp [wpOpsS, go_sem, recoverD, hu, Tryd.ntmps52, Exit.thenS, Array.replicate, List.replicate]
  refine wpS_of_wp ?_
  go_wp2
  exact ⟨rfl, _, rfl, _, results_none rfl _ _ _, rfl, rfl, rfl⟩

set_option maxRecDepth 10000 in
set_option maxHeartbeats 1000000 in
theorem catch_idle (p : Addr) (w : World) :
    CallsD Tryd.prog 52 #[.pointer (some p)] .returning w fun e u' w' => e = .returned (.tuple #[]) ∧ u' = .returning ∧ w' = w := by
  refine callsD_of_wpS Tryd.func52 rfl fun c₀ cs hu => ?_
  apply wpS_seq
  apply wpS_region
  simp [wpOpsS, go_sem, recoverD, hu, Tryd.ntmps52, Exit.thenS, Array.replicate, List.replicate]
  refine wpS_of_wp ?_
  go_wp2
  refine ⟨rfl, .returning, ?_, _, results_none rfl _ _ _, rfl, rfl, rfl⟩
  cases c₀
  simp_all

theorem Cu.new (w : World) (s : ByteArray) (T g : Nat) (hg : g = w.heap.size) : Cu (w.alloc (.cells #[.string s, .int .i64 0] T)) g s.data.toList s.data.toList := by
  subst hg
  refine ⟨?_, ⟨0, Nat.zero_le _, rfl, ?_⟩, ?_⟩
  · rw [ofL_of]; simp [go_sem]
  · simp [go_sem]
  · simp [go_sem]

set_option maxRecDepth 10000 in
set_option maxHeartbeats 1000000 in
theorem read_any (s : ByteArray) (w : World) (hl : s.size ≤ maxLen) :
    Calls Tryd.prog 25 #[.string s, .func (.func 26) #[] #[]] w fun x w' =>
      x = .returned (.tuple #[.string (if txErr s.data.toList = 0 then s else ByteArray.empty), .int .i64 (txErr s.data.toList)]) ∧ Below w.heap.size w w' := by
  obtain ⟨W0, hW0⟩ : ∃ W, W = (w.alloc (.cells #[.int .i64 0] 26)).alloc (.cells #[.string s, .int .i64 0] 107) := ⟨_, rfl⟩
  have hCu : Cu W0 (w.heap.size + 1) s.data.toList s.data.toList := by rw [hW0]; exact Cu.new _ s _ _ (by simp)
  have HB0 : Hid (Below w.heap.size w W0) := by show Below _ _ _; rw [hW0]; exact ((Below.refl _ _).alloc (Nat.le_refl _) _).alloc (by simp) _
  have hz0 : w.heap.size + 2 = W0.heap.size := by rw [hW0]; simp
  have hv0 : W0.cell? ⟨w.heap.size, 0, none⟩ = some (.int .i64 0) := by rw [hW0]; simp [go_sem]
  have hf0 : W0.frozen? ⟨w.heap.size, 0, none⟩ = false := by rw [hW0]; simp [go_sem]
  have HK : Hid (∀ w1, Mov (w.heap.size + 1) W0 w1 → w1.cell? ⟨w.heap.size, 0, none⟩ = some (.int .i64 0) ∧ w1.frozen? ⟨w.heap.size, 0, none⟩ = false ∧ Below w.heap.size w w1) := by
    intro w1 hm
    have hb : Below (w.heap.size + 1) W0 w1 := hm.below (Nat.le_refl _) (by omega)
    exact ⟨by rw [hb.cell (p := ⟨w.heap.size, 0, none⟩) (Nat.lt_succ_self _)]; exact hv0, by rw [hb.frozen (p := ⟨w.heap.size, 0, none⟩) (Nat.lt_succ_self _)]; exact hf0, HB0.out.trans (hb.mono (by omega))⟩
  have ht := cuTx_any (w.heap.size + 1) s.data.toList s.data.toList W0 hCu hl
  have hmf : ∀ (fn : Fn) (first cap : Array Value) (w : World), (Instr.makeFunc fn first cap).run Tryd.prog w = .ok (.func fn first cap) w := fun _ _ _ _ => rfl
  have HE : Hid (txErr s.data.toList = (rDone (rTx (s.data.toList, 0))).2) := rfl
  have HS : Hid ((rTx (s.data.toList, 0)).1 = [] → ofL (s.data.toList.take (s.data.toList.length - (rTx (s.data.toList, 0)).1.length)) = s) := fun e => by
    rw [e, List.length_nil, Nat.sub_zero, List.take_length, ofL_of]
  clear hCu hl hv0 hf0 hz0
  generalize ofL (s.data.toList.take (s.data.toList.length - (rTx (s.data.toList, 0)).1.length)) = t0 at ht HS
  generalize rTx (s.data.toList, 0) = p at ht HE HS
  obtain ⟨m, c⟩ := p
  by_cases hr : c = 0
  · subst hr
    have h1 := calls_ok ht rfl
    have he := fun (W : World) (hc : Cu W (w.heap.size + 1) s.data.toList m) => cuEnd_any (w.heap.size + 1) s.data.toList m W hc
    clear ht
    by_cases hm : m = []
    · subst hm
      have e5 : rDone ([], 0) = ([], 0) := by simp [rDone]
      rw [e5] at he
      have hE0 : txErr s.data.toList = 0 := by rw [HE.out, e5]
      have hts : t0 = s := HS.out rfl
      have h2 := fun (W : World) (hc : Cu W (w.heap.size + 1) s.data.toList []) => calls_ok (he W hc) rfl
      rw [hE0, if_pos rfl]
      subst hts
      clear he e5 HE HS hE0
      go_enter_defers Tryd.func25, Tryd.ntmps25
      go_upto_region 3 with fail
      rw [← hW0]
      clear hW0
      go_upto_region 5 with (first
        | (go_at_call 26; go_must (refine h1.mono ?_); rintro x w1 ⟨rfl, hc1, hm1⟩; have HC1 := (show Hid (Cu w1 (w.heap.size + 1) _ []) from hc1); have HM1 := (show Hid (Mov (w.heap.size + 1) W0 w1) from hm1); clear hc1 hm1)
        | (go_at_call 53; go_must (refine (h2 _ HC1.out).mono ?_); rintro x w2 ⟨rfl, hc2, hm2⟩; have HM2 := (show Hid (Mov (w.heap.size + 1) W0 w2) from HM1.out.trans hm2); clear hc2 hm2))
      obtain ⟨k1, k2, k3⟩ := HK.out w2 HM2.out
      have HB2 : Hid (Below w.heap.size w w2) := k3
      clear k3
      go_wp2
      refine leaves_cons (f := 52) (args := #[.pointer (some ⟨w.heap.size, 0, none⟩)]) (by simp) (by simp [go_sem]) ?_
      refine (catch_idle ⟨w.heap.size, 0, none⟩ _).mono ?_
      rintro e u' w'' ⟨rfl, rfl, rfl⟩
      simp [Leaves, settle, results, Tryd.results25, go_sem, k1]
      exact HB2.out.setCell (Nat.le_refl _) _
    · have e5 : rDone (m, 0) = (m, 5) := by simp [rDone, hm]
      rw [e5] at he
      have hE0 : txErr s.data.toList = 5 := by rw [HE.out, e5]
      have h2 := fun (W : World) (hc : Cu W (w.heap.size + 1) s.data.toList m) => calls_no (he W hc) (by simp)
      rw [hE0, if_neg (by omega)]
      clear he e5 HE HS hE0
      go_enter_defers Tryd.func25, Tryd.ntmps25
      go_upto_region 3 with fail
      rw [← hW0]
      clear hW0
      go_wp2_with (first
        | (go_at_call 26; go_must (refine h1.mono ?_); rintro x w1 ⟨rfl, hc1, hm1⟩; have HC1 := (show Hid (Cu w1 (w.heap.size + 1) _ m) from hc1); have HM1 := (show Hid (Mov (w.heap.size + 1) W0 w1) from hm1); clear hc1 hm1)
        | (go_at_call 53; go_must (refine (h2 _ HC1.out).mono ?_); rintro x w2 ⟨rfl, hm2⟩; have HMX := (show Hid (Mov (w.heap.size + 1) W0 w2) from HM1.out.trans hm2); clear hm2))
      obtain ⟨k1, k2, k3⟩ := HK.out _ HMX.out
      refine leaves_cons (f := 52) (args := #[.pointer (some ⟨w.heap.size, 0, none⟩)]) (by simp) (by simp [go_sem]) ?_
      refine (catch_panicking ⟨w.heap.size, 0, none⟩ 0 5 _ k1 k2).mono ?_
      rintro e u' w'' ⟨rfl, rfl, rfl⟩
      simp [Leaves, settle, results, Tryd.results25, go_sem, k1]
      exact ⟨rfl, k3.setCell (Nat.le_refl _) _⟩
  · have h1 := calls_no ht hr
    have hE0 : txErr s.data.toList = c := by rw [HE.out]; exact stick_done (m, c) hr
    rw [hE0, if_neg hr]
    clear ht HE HS hE0
    go_enter_defers Tryd.func25, Tryd.ntmps25
    go_upto_region 3 with fail
    rw [← hW0]
    clear hW0
    go_wp2_with (go_at_call 26; go_must (refine h1.mono ?_); rintro x w1 ⟨rfl, hm1⟩; have HMX := (show Hid (Mov (w.heap.size + 1) W0 w1) from hm1); clear hm1)
    obtain ⟨k1, k2, k3⟩ := HK.out _ HMX.out
    refine leaves_cons (f := 52) (args := #[.pointer (some ⟨w.heap.size, 0, none⟩)]) (by simp) (by simp [go_sem]) ?_
    refine (catch_panicking ⟨w.heap.size, 0, none⟩ 0 c _ k1 k2).mono ?_
    rintro e u' w'' ⟨rfl, rfl, rfl⟩
    simp [Leaves, settle, results, Tryd.results25, go_sem, k1]
    exact ⟨rfl, k3.setCell (Nat.le_refl _) _⟩
end Go.Proofs.YtkmalggeieiepaaDoor
