import Derived.Test.YtkmalggeieiepaaDoorCuB
import Derived.Test.YtkmalggeieiepaaDoorAnyA
import Derived.WalkKit
import Derived.WalkSpells
import Derived.WalkLawsBesides
import Derived.Deep.DeepCutAuto
import Derived.Deep.QuietTactic
import Derived.BigQuiet
import Derived.Deep.RegionWith
set_option linter.unusedSimpArgs false
namespace Go.Proofs.YtkmalggeieiepaaDoor
open Go.RowKit

theorem Cu.drew {w : World} {g : Nat} {l m : List UInt8} (h : Cu w g l m) : Cu w.drew g l m := ⟨h.s, h.e, h.ef⟩
theorem Mov.undrew {g : Nat} {w w' : World} (h : Mov g w.drew w') : Mov g w w' := ⟨h.os, h.tape, h.output, h.size, h.block⟩
theorem Got.not_out {g : Nat} {l : List UInt8} {w w' : World} {v : Value} {r : List UInt8 × Int} (h : Got g l w v r .outgrown w') : False := by
  obtain ⟨_, hx⟩ := h
  by_cases hr : r.2 = 0
  · rw [if_pos hr] at hx; cases hx.1
  · rw [if_neg hr] at hx; cases hx
theorem rScript_of (m : List UInt8) : rScript (m, 0) = (rTake (rWithin 0 40 (m, 0)).1 (rWithin 0 40 (m, 0)).2).2 := rfl

set_option maxRecDepth 10000 in
set_option maxHeartbeats 1000000 in
theorem cuScript_any (g : Nat) (l m : List UInt8) (w : World) (h : Cu w g l m) (hl : l.length ≤ maxLen) :
    Calls Tryd.prog 85 #[.pointer (some ⟨g, 0, none⟩)] w (Got g l w (.tuple #[]) (rScript (m, 0))) := by
  have hz := cuSize_any g 0 40 l m w.drew h.drew hl
  have hq := rWithin_hi 0 40 (m, 0)
  rw [rScript_of]
  clear h
  generalize rWithin 0 40 (m, 0) = p at hz hq
  obtain ⟨q, r⟩ := p
  have hq' : q ≤ 40 := hq
  clear hq
  go_enter Tryd.func85, Tryd.ntmps85
  refine q_frame (fun A HFR => ?_)
  have hsz : A.tmps.size = 11 := by rw [HFR.out]; rfl
  have h0 : A.eval (.tmp 0) = .pointer (some ⟨g, 0, none⟩) := by rw [HFR.out]; rfl
  have hdf : A.defers = [] := by rw [HFR.out]
  refine wp_region_any (by kernel_rfl) ?_
  refine wpAny_take (i := 0) (v := (.pointer (some ⟨g, 0, none⟩))) rfl (by kernel_rfl) (by kernel_rfl) (by kernel_rfl) (fun _ _ _ h => h) (Or.inl ⟨by rfl, fun W => ?_⟩) ?_
  · exact q_run1 0 (.pointer (some ⟨g, 0, none⟩)) (by simp only [q_same, q_ne, q_sz, hsz, h0, ne_eq, Nat.reduceEqDiff, not_false_eq_true, Nat.reduceLT]) (fun ρ _ _ e1 => by simp [go_sem, e1])
  change wpAny _ _ _ _ _ _ (Act.put _ (some 2) _) _
  refine wpAny_take (i := 1) (v := (.pointer (some ⟨g, 0, none⟩))) rfl (by kernel_rfl) (by kernel_rfl) (by kernel_rfl) (fun _ _ _ h => h) (Or.inl ⟨by rfl, fun W => ?_⟩) ?_
  · exact q_run1 2 (.pointer (some ⟨g, 0, none⟩)) (by simp only [q_same, q_ne, q_sz, hsz, h0, ne_eq, Nat.reduceEqDiff, not_false_eq_true, Nat.reduceLT]) (fun ρ _ _ e1 => by simp [go_sem, e1])
  change wpAny _ _ _ _ _ _ (Act.put _ (some 3) _) _
  refine wpAny_take (i := 2) (v := (.pointer (some ⟨g, 0, none⟩))) rfl (by kernel_rfl) (by kernel_rfl) (by kernel_rfl) (fun _ _ _ h => h) (Or.inl ⟨by rfl, fun W => ?_⟩) ?_
  · exact q_run1 3 (.pointer (some ⟨g, 0, none⟩)) (by simp only [q_same, q_ne, q_sz, hsz, h0, ne_eq, Nat.reduceEqDiff, not_false_eq_true, Nat.reduceLT]) (fun ρ _ _ e1 => by simp [go_sem, e1])
  change wpAny _ _ _ _ _ _ (Act.put _ (some 4) _) _
  refine wpAny_take (i := 3) (v := (.pointer (some ⟨g, 0, none⟩))) rfl (by kernel_rfl) (by kernel_rfl) (by kernel_rfl) (fun _ _ _ h => h) (Or.inl ⟨by rfl, fun W => ?_⟩) ?_
  · exact q_run1 0 (.pointer (some ⟨g, 0, none⟩)) (by simp only [q_same, q_ne, q_sz, hsz, h0, ne_eq, Nat.reduceEqDiff, not_false_eq_true, Nat.reduceLT]) (fun ρ _ _ e1 => by simp [go_sem, e1])
  change wpAny _ _ _ _ _ _ (Act.put _ (some 5) _) _
  refine wpAny_take (i := 4) (v := (.pointer (some ⟨g, 0, none⟩))) rfl (by kernel_rfl) (by kernel_rfl) (by kernel_rfl) (fun _ _ _ h => h) (Or.inl ⟨by rfl, fun W => ?_⟩) ?_
  · exact q_run1 5 (.pointer (some ⟨g, 0, none⟩)) (by simp only [q_same, q_ne, q_sz, hsz, h0, ne_eq, Nat.reduceEqDiff, not_false_eq_true, Nat.reduceLT]) (fun ρ _ _ e1 => by simp [go_sem, e1])
  change wpAny _ _ _ _ _ _ (Act.put _ (some 6) _) _
  refine wpAny_take (i := 5) (v := (.pointer (some ⟨g, 0, none⟩))) rfl (by kernel_rfl) (by kernel_rfl) (by kernel_rfl) (fun _ _ _ h => h) (Or.inl ⟨by rfl, fun W => ?_⟩) ?_
  · exact q_run1 6 (.pointer (some ⟨g, 0, none⟩)) (by simp only [q_same, q_ne, q_sz, hsz, h0, ne_eq, Nat.reduceEqDiff, not_false_eq_true, Nat.reduceLT]) (fun ρ _ _ e1 => by simp [go_sem, e1])
  change wpAny _ _ _ _ _ _ (Act.put _ (some 7) _) _
  refine q_call 6 84 #[.pointer (some ⟨g, 0, none⟩), .int .u64 0, .int .u64 40] _ (by kernel_rfl) rfl rfl ?_ hz ?_ ?_ ?_
  · exact q_run1 7 (.pointer (some ⟨g, 0, none⟩)) (by simp only [q_same, q_ne, q_sz, hsz, h0, ne_eq, Nat.reduceEqDiff, not_false_eq_true, Nat.reduceLT]) (fun ρ hc hf e1 => by simp [go_sem, hc, hf, e1])
  · intro v w1 hx
    change wpAny _ _ _ _ _ _ (Act.put _ (some 8) _) _
    obtain ⟨hm1, hx⟩ := hx
    by_cases hr : r.2 = 0
    · rw [if_pos hr] at hx
      obtain ⟨hv, hc1⟩ := hx
      injection hv with hv
      subst hv
      obtain ⟨m1, c1⟩ := r
      have hr' : c1 = 0 := hr
      subst hr'
      clear hr
      have ht := cuTake_any g q l m1 w1 hc1 hl
      have hw : IntKind.i64.wrap (q : Int) = (q : Int) := by rw [IntKind.wrap_i64]; omega
      refine q_one 7 (.int .i64 (IntKind.i64.wrap (q : Int))) w1 (by kernel_rfl) rfl rfl ?_ ?_
      · exact q_run1 8 (.int .u64 (q : Int)) (by simp only [q_same, q_ne, q_sz, hsz, h0, ne_eq, Nat.reduceEqDiff, not_false_eq_true, Nat.reduceLT]) (fun ρ _ _ e1 => by simp [go_sem, e1])
      change wpAny _ _ _ _ _ _ (Act.put _ (some 9) _) _
      refine q_call 8 54 #[.pointer (some ⟨g, 0, none⟩), .int .i64 (IntKind.i64.wrap (q : Int))] _ (by kernel_rfl) rfl rfl ?_ (by rw [hw]; exact ht) ?_ ?_ ?_
      · exact q_run2 4 9 (.pointer (some ⟨g, 0, none⟩)) (.int .i64 (IntKind.i64.wrap (q : Int))) (by simp only [q_same, q_ne, q_sz, hsz, h0, ne_eq, Nat.reduceEqDiff, not_false_eq_true, Nat.reduceLT]) (by simp only [q_same, q_ne, q_sz, hsz, h0, ne_eq, Nat.reduceEqDiff, not_false_eq_true, Nat.reduceLT]) (fun ρ _ hf e1 e2 => by simp [go_sem, hf, e1, e2])
      · intro v w2 hx
        refine wpAny_done (by kernel_rfl) ?_ _
        obtain ⟨hm2, hx⟩ := hx
        have hr2 : (rTake q (m1, 0)).2.2 = 0 := by
          rcases Decidable.em ((rTake q (m1, 0)).2.2 = 0) with e | e
          · exact e
          · rw [if_neg e] at hx; cases hx
        rw [if_pos hr2] at hx
        refine q_done0 (by kernel_rfl) (by simp only [q_def]; exact hdf) (Got.ok hr2 (hm1.undrew.trans hm2) hx.2)
      · intro ch w2 hx
        obtain ⟨hm2, hx⟩ := hx
        have hr2 : (rTake q (m1, 0)).2.2 ≠ 0 := fun e => by rw [if_pos e] at hx; cases hx.1
        rw [if_neg hr2] at hx
        injection hx with hx
        subst hx
        refine q_panic (by simp only [q_def]; exact hdf) (Got.no rfl hr2 (hm1.undrew.trans hm2))
      · intro w2 hx
        exact Got.not_out hx
    · rw [if_neg hr] at hx
      cases hx
  · intro ch w1 hx
    obtain ⟨hm1, hx⟩ := hx
    by_cases hr : r.2 = 0
    · rw [if_pos hr] at hx
      cases hx.1
    · rw [if_neg hr] at hx
      injection hx with hx
      subst hx
      refine q_panic (by simp only [q_def]; exact hdf) (Got.no (stick_take q r hr) hr hm1.undrew)
  · intro w1 hx
    exact Got.not_out hx
end Go.Proofs.YtkmalggeieiepaaDoor
