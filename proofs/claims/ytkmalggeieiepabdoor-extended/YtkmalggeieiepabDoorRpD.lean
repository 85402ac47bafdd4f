import Derived.Test.YtkmalggeieiepabDoorRpC
import Derived.WalkKit
import Derived.WalkSpells
import Derived.WalkLawsBesides
import Derived.Deep.MidRow
import Derived.Deep.DeepCutAuto
import Derived.Deep.LoopGhost
import Derived.Deep.QuietTactic
import Derived.BigQuiet
import Derived.OwnWalk
import Derived.OrdersHeld
import Derived.Deep.AppendLies
import Derived.Deep.RegionHeld3
set_option linter.unusedSimpArgs false
namespace Go.Proofs.YtkmalggeieiepabDoor
open Go.RowKit

theorem own_cap {w : World} {base e size g n cap : Nat} {xs : List Value} (h : w.ownsRow base e size (.slice (some ⟨g, 0, none⟩) n cap) n xs) : n ≤ cap := by
  rcases h.2 with ⟨hv, _⟩ | ⟨g', cap', cur, hv, _, _, hc, _⟩
  · cases hv
  · injection hv with _ _ e3
    omega
/-- the row above is under way. -/
structure Up (Kc : Nat → Int) (w wx : World) (b : Nat) (U : List ByteArray) (tw : Bool) (r up : List ByteArray) (o' cap' : Nat) (av : Value) (t : Bool) : Prop where
  hcap : r.length ≤ cap'
  htw : (t || twinL r) = tw
  hup : up ++ upL (dd Kc) (evL r) = U
  r32 : ∀ s ∈ r, s.size = 32
  u32 : ∀ s ∈ up, s.size = 32
  hrow : DRow wx b o' r
  hown : wx.ownsRow w.heap.size 59 32 av up.length (flatD up)
  hbel : Below w.heap.size w wx

set_option maxRecDepth 10000 in
set_option maxHeartbeats 4000000 in
theorem pairUp_any (Kc : Nat → Int) (m : List ByteArray) (b o cap : Nat) (w : World) (hrow : DRow w b o m) (hne : 0 < m.length) (hlen : m.length ≤ 300) (hcap : m.length ≤ cap) (h32 : ∀ s ∈ m, s.size = 32) (hkt : KT Kc w) :
    Calls Tryd.prog 56 #[.slice (some ⟨b, o, none⟩) m.length cap] w fun e w' => ∃ g cap', e = .returned (.tuple #[.slice (some ⟨g, 0, none⟩) (upL (dd Kc) (evL m)).length cap', .bool (twinL m)]) ∧ (upL (dd Kc) (evL m)).length ≤ cap' ∧ DRow w' g 0 (upL (dd Kc) (evL m)) ∧ Below w.heap.size w w' := by
  obtain ⟨i0, hi, hz0, hz1, hz2⟩ := info_parts infoDig
  have hbw : b < w.heap.size := hrow.lt hne h32
  have hUl : (upL (dd Kc) (evL m)).length = (m.length + m.length % 2) / 2 := by rw [upL_length, evL_length]
  obtain ⟨U, hU⟩ : ∃ U, U = upL (dd Kc) (evL m) := ⟨_, rfl⟩
  obtain ⟨tw, htw⟩ : ∃ t, t = twinL m := ⟨_, rfl⟩
  rw [← hU, ← htw]
  rw [← hU] at hUl
  have HI : Hid (∀ wx, Below w.heap.size w wx → ∀ av, wx.ownsRow w.heap.size 59 32 av 0 [] → Up Kc w wx b U tw m [] o cap av false) := fun wx hb av ho => ⟨hcap, by rw [htw]; rfl, by rw [hU]; rfl, h32, (fun s hs => by cases hs), hrow.later hb hbw, ho, hb⟩
  have HKT : Hid (∀ wx, Below w.heap.size w wx → KT Kc wx) := fun wx hb => hkt.later hb (World.block_lt_of_cell? w _ (hkt 0 (by omega)))
  obtain ⟨n, hn⟩ : ∃ n, n = m.length := ⟨_, rfl⟩
  rw [← hn]
  rw [← hn] at hne hlen hUl
  have HN : Hid (n = m.length) := hn
  have HUL : Hid (U.length = (n + n % 2) / 2) := hUl
  have HQ : Hid (((n : Int) + 1) / 2 = (((n + 1) / 2 : Nat) : Int)) := by show _ = _; omega
  clear hrow h32 hkt hU htw hUl hcap hn
  go_enter Tryd.func56, Tryd.ntmps56
  go_upto_region 2 with (refine wpList_make_own _ rfl _ _ 72 rfl w.heap.size 59 i0 _ 32 Tryd.underlying72 hi hz0 hz1 .i64 .i64 _ ((n + 1) / 2) rfl rfl ?_ (by rw [hz2]; omega) (by unfold maxLen; omega) (Nat.le_refl _) ?_; exact HQ.out; intro w1 ho hgr; have HO := (show Hid (w1.ownsRow w.heap.size 59 32 _ 0 []) from ho); have HB := (show Hid (Below w.heap.size w w1) from (Below.refl _ _).grown hgr (Nat.le_refl _) (fun k hk => by cases hk)); clear ho hgr)
  go_loopg [0, 4, 5] n (fun g rv av tv wx => ∃ (r up : List ByteArray) (o' cap' : Nat) (t : Bool) (v : Value), rv = .slice (some ⟨b, o', none⟩) g cap' ∧ v = av ∧ tv = .bool t ∧ r.length = g ∧ up.length + g ≤ 301 ∧ Up Kc w wx b U tw r up o' cap' v t)
  case atStart => exact ⟨m, [], o, cap, false, _, rfl, rfl, rfl, HN.out.symm, by simp; omega, HI.out _ HB.out _ HO.out⟩
  case round =>
    have HINF : Hid (Tryd.prog.info? 59 = some i0 ∧ i0.zero = some (Value.agg (wl IntKind.u8 (fun _ => 0) 32).toArray) ∧ i0.size = 32 ∧ i0.bytes = 32) := ⟨hi, hz0, hz1, hz2⟩
    clear HB HO HI HQ hi hz0 hz1 hz2
    obtain ⟨r, up, o', cap', t, v, rfl, rfl, rfl, hrl, hul, hUp⟩ := hrel
    have HUP : Hid (Up Kc w wr b U tw r up o' cap' v t) := hUp
    clear hUp
    by_cases h1 : 1 < gk
    · obtain ⟨x, y, r', rfl⟩ : ∃ x y r', r = x :: y :: r' := by
        match r, hrl with
        | x :: y :: r', _ => exact ⟨x, y, r', rfl⟩
        | [_], h => simp at h; omega
        | [], h => simp at h; omega
      have hx : x.size = 32 := HUP.out.r32 x List.mem_cons_self
      have hy : y.size = 32 := HUP.out.r32 y (List.mem_cons_of_mem _ List.mem_cons_self)
      have k1 : (1 : Int) < (gk : Int) := by omega
      have k0 : (0 : Int) < (gk : Int) := by omega
      have kne : ¬ gk = 0 := by omega
      have rx : wr.rangeAt b o' (bc x) := HUP.out.hrow 0 (by simp)
      have ry : wr.rangeAt b (o' + 32) (bc y) := HUP.out.hrow 1 (by simp)
      obtain ⟨t2, ht2⟩ : ∃ t2, t2 = (t || (x.data.toList == y.data.toList)) := ⟨_, rfl⟩
      have HT2 : Hid (t2 = (t || (x.data.toList == y.data.toList))) := ht2
      have HX : Hid (wr.rangeAt b o' (bc x)) := rx
      have HY : Hid (wr.rangeAt b (o' + 32) (bc y)) := ry
      have lx : (bc x).length = 32 := by rw [bc_length, hx]
      have ly : (bc y).length = 32 := by rw [bc_length, hy]
      have sx : (Tryd.prog.info? 59).map (·.size) = some (bc x).length := by rw [lx]; exact sizeDig
      have sy : (Tryd.prog.info? 59).map (·.size) = some (bc y).length := by rw [ly]; exact sizeDig
      have ox := bc_one x
      have oy := bc_one y
      have ud := Tryd.underlying59
      have heq : ∀ W : World, (binOp .eql 59 (.agg (bc x).toArray) (.agg (bc y).toArray)).run Tryd.prog W = .ok (.bool (x.data.toList == y.data.toList)) W := fun W => eql_d x y hx hy W
      have HRL : Hid (r'.length + 2 = gk) := by have := hrl; simp at this; exact this
      clear ht2 hrl
      go_upto_region 4 with fail
      go_cut [5] (fun tv wx => tv = .bool t2 ∧ ∃ q, wx = wr.drewN q)
      case first =>
        generalize (x.data.toList == y.data.toList) = E at heq HT2
        cases t
        · refine q_frame (fun A HFR => ?_)
          have hsz : A.tmps.size = 57 := by rw [HFR.out]; rfl
          have h0 : A.eval (.tmp 0) = .slice (some ⟨b, o', none⟩) gk cap' := by rw [HFR.out]; rfl
          have h5 : A.eval (.tmp 5) = .bool false := by rw [HFR.out]; rfl
          refine wp_region_held_drew (S := fun w' => w'.rangeAt b o' (bc x) ∧ w'.rangeAt b (o' + 32) (bc y)) (by kernel_rfl) ⟨rx, ry⟩ (fun hS => ?_)
          refine wpAnyH_take (i := 0) (v := (.bool false)) rfl (by kernel_rfl) (by kernel_rfl) (by kernel_rfl) (fun _ _ _ h => h) (Or.inl ⟨(by rfl), fun W _ => q_run1 5 (.bool false) (by simp only [q_same, q_ne, q_sz, hsz, h0, h5, ne_eq, Nat.reduceEqDiff, not_false_eq_true, Nat.reduceLT]) (fun ρ hc _ e1 => by simp [go_sem, hc, e1])⟩) hS ?_
          change wpAnyH _ _ _ _ _ _ _ (Act.put _ (some 16) _) _
          refine wpAnyH_take (i := 1) (v := (.bool false)) rfl (by kernel_rfl) (by kernel_rfl) (by kernel_rfl) (fun _ _ _ h => h) (Or.inl ⟨(by rfl), fun W _ => q_run1 16 (.bool false) (by simp only [q_same, q_ne, q_sz, hsz, h0, h5, ne_eq, Nat.reduceEqDiff, not_false_eq_true, Nat.reduceLT]) (fun ρ hc _ e1 => by simp [go_sem, hc, e1])⟩) hS ?_
          change wpAnyH _ _ _ _ _ _ _ (Act.put _ (some 17) _) _
          refine wpAnyH_take (i := 2) (v := (.slice (some ⟨b, o', none⟩) gk cap')) rfl (by kernel_rfl) (by kernel_rfl) (by kernel_rfl) (fun _ _ _ h => h) (Or.inl ⟨(q_wanted 1 17 false rfl (by kernel_rfl) (by simp only [q_sz, hsz]; omega) (by simp only [q_same, q_ne, q_sz, hsz, h0, h5, ne_eq, Nat.reduceEqDiff, not_false_eq_true, Nat.reduceLT])), fun W _ => q_run1 0 (.slice (some ⟨b, o', none⟩) gk cap') (by simp only [q_same, q_ne, q_sz, hsz, h0, h5, ne_eq, Nat.reduceEqDiff, not_false_eq_true, Nat.reduceLT]) (fun ρ hc _ e1 => by simp [go_sem, hc, e1])⟩) hS ?_
          change wpAnyH _ _ _ _ _ _ _ (Act.put _ (some 18) _) _
          refine wpAnyH_take (i := 3) (v := (.pointer (some ⟨b, o', none⟩))) rfl (by kernel_rfl) (by kernel_rfl) (by kernel_rfl) (fun _ _ _ h => h) (Or.inl ⟨(q_wanted 1 17 false rfl (by kernel_rfl) (by simp only [q_sz, hsz]; omega) (by simp only [q_same, q_ne, q_sz, hsz, h0, h5, ne_eq, Nat.reduceEqDiff, not_false_eq_true, Nat.reduceLT])), fun W _ => q_run1 18 (.slice (some ⟨b, o', none⟩) gk cap') (by simp only [q_same, q_ne, q_sz, hsz, h0, h5, ne_eq, Nat.reduceEqDiff, not_false_eq_true, Nat.reduceLT]) (fun ρ hc _ e1 => by simp [go_sem, hc, e1, kne])⟩) hS ?_
          change wpAnyH _ _ _ _ _ _ _ (Act.put _ (some 19) _) _
          refine wpAnyH_take (i := 4) (v := (.agg (bc x).toArray)) rfl (by kernel_rfl) (by kernel_rfl) (by kernel_rfl) (fun _ _ _ h => h) (yieldsIf_load_mid (q_wanted 1 17 false rfl (by kernel_rfl) (by simp only [q_sz, hsz]; omega) (by simp only [q_same, q_ne, q_sz, hsz, h0, h5, ne_eq, Nat.reduceEqDiff, not_false_eq_true, Nat.reduceLT])) 59 _ rfl b o' (by simp only [q_same, q_ne, q_sz, hsz, h0, h5, ne_eq, Nat.reduceEqDiff, not_false_eq_true, Nat.reduceLT]) (bc x) _ (fun W hW => hW.1) ud rfl sx) hS ?_
          change wpAnyH _ _ _ _ _ _ _ (Act.put _ (some 20) _) _
          refine wpAnyH_take (i := 5) (v := (.slice (some ⟨b, o', none⟩) gk cap')) rfl (by kernel_rfl) (by kernel_rfl) (by kernel_rfl) (fun _ _ _ h => h) (Or.inl ⟨(q_wanted 1 17 false rfl (by kernel_rfl) (by simp only [q_sz, hsz]; omega) (by simp only [q_same, q_ne, q_sz, hsz, h0, h5, ne_eq, Nat.reduceEqDiff, not_false_eq_true, Nat.reduceLT])), fun W _ => q_run1 0 (.slice (some ⟨b, o', none⟩) gk cap') (by simp only [q_same, q_ne, q_sz, hsz, h0, h5, ne_eq, Nat.reduceEqDiff, not_false_eq_true, Nat.reduceLT]) (fun ρ hc _ e1 => by simp [go_sem, hc, e1])⟩) hS ?_
          change wpAnyH _ _ _ _ _ _ _ (Act.put _ (some 21) _) _
          refine wpAnyH_take (i := 6) (v := (.pointer (some ⟨b, o' + 32, none⟩))) rfl (by kernel_rfl) (by kernel_rfl) (by kernel_rfl) (fun _ _ _ h => h) (Or.inl ⟨(q_wanted 1 17 false rfl (by kernel_rfl) (by simp only [q_sz, hsz]; omega) (by simp only [q_same, q_ne, q_sz, hsz, h0, h5, ne_eq, Nat.reduceEqDiff, not_false_eq_true, Nat.reduceLT])), fun W _ => q_run1 21 (.slice (some ⟨b, o', none⟩) gk cap') (by simp only [q_same, q_ne, q_sz, hsz, h0, h5, ne_eq, Nat.reduceEqDiff, not_false_eq_true, Nat.reduceLT]) (fun ρ hc _ e1 => by simp [go_sem, hc, e1, k1])⟩) hS ?_
          change wpAnyH _ _ _ _ _ _ _ (Act.put _ (some 22) _) _
          refine wpAnyH_take (i := 7) (v := (.agg (bc y).toArray)) rfl (by kernel_rfl) (by kernel_rfl) (by kernel_rfl) (fun _ _ _ h => h) (yieldsIf_load_mid (q_wanted 1 17 false rfl (by kernel_rfl) (by simp only [q_sz, hsz]; omega) (by simp only [q_same, q_ne, q_sz, hsz, h0, h5, ne_eq, Nat.reduceEqDiff, not_false_eq_true, Nat.reduceLT])) 59 _ rfl b (o' + 32) (by simp only [q_same, q_ne, q_sz, hsz, h0, h5, ne_eq, Nat.reduceEqDiff, not_false_eq_true, Nat.reduceLT]) (bc y) _ (fun W hW => hW.2) ud rfl sy) hS ?_
          change wpAnyH _ _ _ _ _ _ _ (Act.put _ (some 23) _) _
          refine wpAnyH_take (i := 8) (v := (.bool E)) rfl (by kernel_rfl) (by kernel_rfl) (by kernel_rfl) (fun _ _ _ h => h) (Or.inl ⟨(q_wanted 1 17 false rfl (by kernel_rfl) (by simp only [q_sz, hsz]; omega) (by simp only [q_same, q_ne, q_sz, hsz, h0, h5, ne_eq, Nat.reduceEqDiff, not_false_eq_true, Nat.reduceLT])), fun W _ => q_run2 20 23 (.agg (bc x).toArray) (.agg (bc y).toArray) (by simp only [q_same, q_ne, q_sz, hsz, h0, h5, ne_eq, Nat.reduceEqDiff, not_false_eq_true, Nat.reduceLT]) (by simp only [q_same, q_ne, q_sz, hsz, h0, h5, ne_eq, Nat.reduceEqDiff, not_false_eq_true, Nat.reduceLT]) (fun ρ hc _ e1 e2 => by simp [go_sem, hc, e1, e2, heq])⟩) hS ?_
          change wpAnyH _ _ _ _ _ _ _ (Act.put _ (some 24) _) _
          refine wpAnyH_take (i := 9) (v := (.bool E)) rfl (by kernel_rfl) (by kernel_rfl) (by kernel_rfl) (fun _ _ _ h => h) (Or.inl ⟨(by rfl), fun W _ => q_run2 17 24 (.bool false) (.bool E) (by simp only [q_same, q_ne, q_sz, hsz, h0, h5, ne_eq, Nat.reduceEqDiff, not_false_eq_true, Nat.reduceLT]) (by simp only [q_same, q_ne, q_sz, hsz, h0, h5, ne_eq, Nat.reduceEqDiff, not_false_eq_true, Nat.reduceLT]) (fun ρ hc _ e1 e2 => by simp [go_sem, hc, e1, e2])⟩) hS ?_
          change wpAnyH _ _ _ _ _ _ _ (Act.put _ (some 25) _) _
          refine qH_one 10 (.bool E) _ (by kernel_rfl) rfl rfl (q_run1 25 (.bool E) (by simp only [q_same, q_ne, q_sz, hsz, h0, h5, ne_eq, Nat.reduceEqDiff, not_false_eq_true, Nat.reduceLT]) (fun ρ hc _ e1 => by simp [go_sem, e1])) hS ?_
          change wpAnyH _ _ _ _ _ _ _ (Act.put _ (some 5) _) _
          refine wpAnyH_done (by kernel_rfl) ?_ _
          have hfr := HFR.out
          clear HFR hsz h0 h5
          subst hfr
          simp only [Act.put, List.setIfInBounds_toArray, List.set_cons_zero, List.set_cons_succ]
          go_wp2_with fail
          go_meet
          exact ⟨by rw [HT2.out]; rfl, 1, rfl⟩
        · go_quiet (fail)
          go_wp2
          go_meet
          exact ⟨by rw [HT2.out]; rfl, _, rfl⟩
      case rest =>
        obtain ⟨rfl, q, rfl⟩ := hcut
        obtain ⟨hi, hz0, hz1, hz2⟩ := HINF.out
        obtain ⟨d, hd⟩ : ∃ d, d = dd Kc (x ++ y) := ⟨_, rfl⟩
        have hd32 : d.size = 32 := by rw [hd]; exact dd_size _ _
        have hbr : b < wr.heap.size := Nat.lt_of_lt_of_le hbw HUP.out.hbel.size
        have HB0 : Below wr.heap.size wr (wr.drewN q).drew := ⟨rfl, rfl, rfl, Nat.le_refl _, fun _ _ => rfl⟩
        go_upto_region 5 with fail
        refine q_frame (fun A HFR => ?_)
        have hsz : A.tmps.size = 57 := by rw [HFR.out]; rfl
        have h0 : A.eval (.tmp 0) = .slice (some ⟨b, o', none⟩) gk cap' := by rw [HFR.out]; rfl
        have h4 : A.eval (.tmp 4) = v := by rw [HFR.out]; rfl
        refine wp_region_held_drew (S := fun w' => w'.rangeAt b o' (bc x) ∧ w'.rangeAt b (o' + 32) (bc y)) (by kernel_rfl) ⟨rx, ry⟩ (fun hS => ?_)
        refine wpAnyH_take (i := 0) (v := v) rfl (by kernel_rfl) (by kernel_rfl) (by kernel_rfl) (fun _ _ _ h => h) (Or.inl ⟨by rfl, fun W _ => q_run1 4 v (by simp only [q_same, q_ne, q_sz, hsz, h0, h4, ne_eq, Nat.reduceEqDiff, not_false_eq_true, Nat.reduceLT]) (fun ρ hc _ e1 => by simp [go_sem, hc, e1])⟩) hS ?_
        change wpAnyH _ _ _ _ _ _ _ (Act.put _ (some 26) _) _
        refine wpAnyH_take (i := 1) (v := (.slice (some ⟨b, o', none⟩) gk cap')) rfl (by kernel_rfl) (by kernel_rfl) (by kernel_rfl) (fun _ _ _ h => h) (Or.inl ⟨by rfl, fun W _ => q_run1 0 (.slice (some ⟨b, o', none⟩) gk cap') (by simp only [q_same, q_ne, q_sz, hsz, h0, h4, ne_eq, Nat.reduceEqDiff, not_false_eq_true, Nat.reduceLT]) (fun ρ hc _ e1 => by simp [go_sem, hc, e1])⟩) hS ?_
        change wpAnyH _ _ _ _ _ _ _ (Act.put _ (some 27) _) _
        refine wpAnyH_take (i := 2) (v := (.pointer (some ⟨b, o', none⟩))) rfl (by kernel_rfl) (by kernel_rfl) (by kernel_rfl) (fun _ _ _ h => h) (Or.inl ⟨by rfl, fun W _ => q_run1 27 (.slice (some ⟨b, o', none⟩) gk cap') (by simp only [q_same, q_ne, q_sz, hsz, h0, h4, ne_eq, Nat.reduceEqDiff, not_false_eq_true, Nat.reduceLT]) (fun ρ hc _ e1 => by simp [go_sem, hc, e1, kne])⟩) hS ?_
        change wpAnyH _ _ _ _ _ _ _ (Act.put _ (some 28) _) _
        refine wpAnyH_take (i := 3) (v := (aggD x)) rfl (by kernel_rfl) (by kernel_rfl) (by kernel_rfl) (fun _ _ _ h => h) (yieldsIf_load_mid (by rfl) 59 _ rfl b o' (by simp only [q_same, q_ne, q_sz, hsz, h0, h4, ne_eq, Nat.reduceEqDiff, not_false_eq_true, Nat.reduceLT]) (bc x) _ (fun W hW => hW.1) ud rfl sx) hS ?_
        change wpAnyH _ _ _ _ _ _ _ (Act.put _ (some 29) _) _
        refine wpAnyH_take (i := 5) (v := (.slice (some ⟨b, o', none⟩) gk cap')) rfl (by kernel_rfl) (by kernel_rfl) (by kernel_rfl) (fun _ _ _ h => h) (Or.inl ⟨by rfl, fun W _ => q_run1 0 (.slice (some ⟨b, o', none⟩) gk cap') (by simp only [q_same, q_ne, q_sz, hsz, h0, h4, ne_eq, Nat.reduceEqDiff, not_false_eq_true, Nat.reduceLT]) (fun ρ hc _ e1 => by simp [go_sem, hc, e1])⟩) hS ?_
        change wpAnyH _ _ _ _ _ _ _ (Act.put _ (some 31) _) _
        refine wpAnyH_take (i := 6) (v := (.pointer (some ⟨b, o' + 32, none⟩))) rfl (by kernel_rfl) (by kernel_rfl) (by kernel_rfl) (fun _ _ _ h => h) (Or.inl ⟨by rfl, fun W _ => q_run1 31 (.slice (some ⟨b, o', none⟩) gk cap') (by simp only [q_same, q_ne, q_sz, hsz, h0, h4, ne_eq, Nat.reduceEqDiff, not_false_eq_true, Nat.reduceLT]) (fun ρ hc _ e1 => by simp [go_sem, hc, e1, k1])⟩) hS ?_
        change wpAnyH _ _ _ _ _ _ _ (Act.put _ (some 32) _) _
        refine wpAnyH_take (i := 7) (v := (aggD y)) rfl (by kernel_rfl) (by kernel_rfl) (by kernel_rfl) (fun _ _ _ h => h) (yieldsIf_load_mid (by rfl) 59 _ rfl b (o' + 32) (by simp only [q_same, q_ne, q_sz, hsz, h0, h4, ne_eq, Nat.reduceEqDiff, not_false_eq_true, Nat.reduceLT]) (bc y) _ (fun W hW => hW.2) ud rfl sy) hS ?_
        change wpAnyH _ _ _ _ _ _ _ (Act.put _ (some 33) _) _
        refine qH_call 4 23 #[aggD x] _ (by kernel_rfl) rfl rfl (q_run1 29 (aggD x) (by simp only [q_same, q_ne, q_sz, hsz, h0, h4, ne_eq, Nat.reduceEqDiff, not_false_eq_true, Nat.reduceLT]) (fun ρ _ hf e1 => by simp [go_sem, hf, e1])) (calls_val (text_d x hx _)) ?_
        rintro _ w1 ⟨rfl, hb1⟩
        have HB1 : Below wr.heap.size wr w1 := HB0.trans (hb1.mono (Nat.le_refl _))
        have hS1 : w1.rangeAt b o' (bc x) ∧ w1.rangeAt b (o' + 32) (bc y) := ⟨range_later rx HB1 hbr, range_later ry HB1 hbr⟩
        refine ⟨hS1, ?_⟩
        change wpAnyH _ _ _ _ _ _ _ (Act.put _ (some 30) _) _
        refine qH_call 8 23 #[aggD y] _ (by kernel_rfl) rfl rfl (q_run1 33 (aggD y) (by simp only [q_same, q_ne, q_sz, hsz, h0, h4, ne_eq, Nat.reduceEqDiff, not_false_eq_true, Nat.reduceLT]) (fun ρ _ hf e1 => by simp [go_sem, hf, e1])) (calls_val (text_d y hy _)) ?_
        rintro _ w2 ⟨rfl, hb2⟩
        have HB2 : Below wr.heap.size wr w2 := HB1.trans (hb2.mono HB1.size)
        have hS2 : w2.rangeAt b o' (bc x) ∧ w2.rangeAt b (o' + 32) (bc y) := ⟨range_later rx HB2 hbr, range_later ry HB2 hbr⟩
        refine ⟨hS2, ?_⟩
        change wpAnyH _ _ _ _ _ _ _ (Act.put _ (some 34) _) _
        have HB3 : Below wr.heap.size wr (w2.alloc (.cells #[.string x, .string y] 9)) := HB2.alloc HB2.size _
        have hS3 : (w2.alloc (.cells #[.string x, .string y] 9)).rangeAt b o' (bc x) ∧ (w2.alloc (.cells #[.string x, .string y] 9)).rangeAt b (o' + 32) (bc y) := ⟨range_later rx HB3 hbr, range_later ry HB3 hbr⟩
        refine qH_one 9 (.slice (some ⟨w2.heap.size, 0, none⟩) 2 2) _ (by kernel_rfl) rfl rfl (q_run2 30 34 (.string x) (.string y) (by simp only [q_same, q_ne, q_sz, hsz, h0, h4, ne_eq, Nat.reduceEqDiff, not_false_eq_true, Nat.reduceLT]) (by simp only [q_same, q_ne, q_sz, hsz, h0, h4, ne_eq, Nat.reduceEqDiff, not_false_eq_true, Nat.reduceLT]) (fun ρ _ _ e1 e2 => by simp [go_sem, e1, e2])) hS3 ?_
        change wpAnyH _ _ _ _ _ _ _ (Act.put _ (some 35) _) _
        refine qH_call 10 27 #[.slice (some ⟨w2.heap.size, 0, none⟩) 2 2] _ (by kernel_rfl) rfl rfl (q_run1 35 (.slice (some ⟨w2.heap.size, 0, none⟩) 2 2) (by simp only [q_same, q_ne, q_sz, hsz, h0, h4, ne_eq, Nat.reduceEqDiff, not_false_eq_true, Nat.reduceLT]) (fun ρ _ hf e1 => by simp [go_sem, hf, e1])) (calls_val (double_two Kc x y w2 (HKT.out _ (HUP.out.hbel.trans (HB2.mono HUP.out.hbel.size))) (by rw [sizes_append x y hx hy]; omega))) ?_
        rintro _ w4 ⟨rfl, hb4⟩
        have HB4 : Below wr.heap.size wr w4 := HB2.trans (hb4.mono HB2.size)
        have hS4 : w4.rangeAt b o' (bc x) ∧ w4.rangeAt b (o' + 32) (bc y) := ⟨range_later rx HB4 hbr, range_later ry HB4 hbr⟩
        refine ⟨hS4, ?_⟩
        rw [← hd]
        change wpAnyH _ _ _ _ _ _ _ (Act.put _ (some 36) _) _
        obtain ⟨W5, hW5⟩ : ∃ W, W = w4.alloc (.cells (bc d).toArray 59) := ⟨_, rfl⟩
        have HB5 : Below wr.heap.size wr W5 := by rw [hW5]; exact HB4.alloc HB4.size _
        have hS5 : W5.rangeAt b o' (bc x) ∧ W5.rangeAt b (o' + 32) (bc y) := ⟨range_later rx HB5 hbr, range_later ry HB5 hbr⟩
        have hnew : W5.heap[w4.heap.size]? = some (.cells (bc d).toArray 59 (0, 0)) := by rw [hW5]; exact heap_alloc_new w4 _
        refine qH_one 11 (.slice (some ⟨w4.heap.size, 0, none⟩) 1 1) W5 (by kernel_rfl) rfl rfl (by rw [hW5]; exact run_build_d d hd32 w4 rfl (by simp only [q_same, q_ne, q_sz, hsz, h0, h4, ne_eq, Nat.reduceEqDiff, not_false_eq_true, Nat.reduceLT])) hS5 ?_
        change wpAnyH _ _ _ _ _ _ _ (Act.put _ (some 37) _) _
        have hown5 := own_after HUP.out.hown HB5
        have hzz := HUP.out.hbel.size
        have hz5 := HB5.size
        have hul' : up.length + 1 ≤ 301 := by omega
        refine wpAnyH_ready (rs := [12]) (by kernel_rfl) (by simp) (AllReadyH.cons rfl (fun K hK => ?_) AllReadyH.nil)
        refine step_append_lies _ rfl (.tmp 26) (.tmp 37) 72 rfl w.heap.size 59 i0 (.agg (wl .u8 (fun _ => 0) 32).toArray) 32 32 Tryd.underlying72 hi hz0 hz1 hz2 (by kernel_rfl) (by decide) v up.length (flatD up) (by simp only [q_same, q_ne, q_sz, hsz, h0, h4, ne_eq, Nat.reduceEqDiff, not_false_eq_true, Nat.reduceLT]) hown5 ⟨w4.heap.size, 0, none⟩ 1 1 (bc d) (by simp only [q_same, q_ne, q_sz, hsz, h0, h4, ne_eq, Nat.reduceEqDiff, not_false_eq_true, Nat.reduceLT]) (by rw [bc_length, hd32]) (news_d hnew) (bc_one d) (by omega) (by unfold maxLen; omega) (by omega) (by omega) _ rfl ?_
        intro g6 c6 w6 ho6 hgr6 _ _
        have HB6 : Below w.heap.size W5 w6 := (Below.refl _ _).grown hgr6 (by omega) (ownB_ge hown5)
        have HB7 : Below w.heap.size w w6 := HUP.out.hbel.trans ((HB5.mono hzz).trans HB6)
        have hS6 : w6.rangeAt b o' (bc x) ∧ w6.rangeAt b (o' + 32) (bc y) := ⟨range_later hS5.1 HB6 hbw, range_later hS5.2 HB6 hbw⟩
        refine hK.out _ _ hS6 (fun _ => ?_)
        change wpAnyH _ _ _ _ _ _ _ (Act.put _ (some 38) _) _
        refine qH_one 13 (.slice (some ⟨g6, 0, none⟩) (up.length + 1) c6) w6 (by kernel_rfl) rfl rfl (q_run1 38 (.slice (some ⟨g6, 0, none⟩) (up.length + 1) c6) (by simp only [q_same, q_ne, q_sz, hsz, h0, h4, ne_eq, Nat.reduceEqDiff, not_false_eq_true, Nat.reduceLT]) (fun ρ _ _ e1 => by simp [go_sem, e1])) hS6 ?_
        change wpAnyH _ _ _ _ _ _ _ (Act.put _ (some 4) _) _
        refine wpAnyH_done (by kernel_rfl) ?_ _
        have HNX : Hid (Up Kc w w6 b U tw r' (up ++ [d]) (o' + 64) (cap' - 2) (.slice (some ⟨g6, 0, none⟩) (up.length + 1) c6) t2) := by
          have hU0 := HUP.out
          refine ⟨?_, ?_, ?_, ?_, ?_, ?_, ?_, HB7⟩
          · have := hU0.hcap; simp at this; omega
          · have := hU0.htw; rw [HT2.out, ← this]; simp only [twinL, toL, Bool.or_assoc]
          · have := hU0.hup; rw [upev_cons2, ← hd] at this; rw [← this]; simp
          · exact fun s hs => hU0.r32 s (List.mem_cons_of_mem _ (List.mem_cons_of_mem _ hs))
          · intro s hs
            rcases List.mem_append.1 hs with h | h
            · exact hU0.u32 s h
            · simp at h; rw [h]; exact hd32
          · exact (hU0.hrow.later ((HB5.mono hzz).trans HB6) hbw).drop
          · rw [flatD_snoc, show (up ++ [d]).length = up.length + 1 by simp]; exact ho6
        have hfr := HFR.out
        have k2 : (2 : Int) ≤ (gk : Int) := by omega
        have k3 : (gk : Int) ≤ (cap' : Int) := by have h1 := HUP.out.hcap; have h2 := HRL.out; simp at h1; omega
        clear HFR hsz h0 h4 hS hS1 hS2 hS3 hS4 hS5 hS6 rx ry ud sx sy ox oy lx ly HB0 HB1 HB2 HB3 HB4 HB5 HB6 HB7 hi hz0 hz1 hz2 hb1 hb2 hb4 hown5 ho6 hgr6 hnew hW5 hzz hz5 hd heq
        subst hfr
        simp only [Act.put, List.setIfInBounds_toArray, List.set_cons_zero, List.set_cons_succ]
        have hgk : gk - 2 < gk := by omega
        go_wp2
        · go_roundg (gk - 2)
          case measure => exact hgk
          case rel =>
            have h1 := HRL.out
            have hN := HNX.out
            have hr0 : r' = [] := List.eq_nil_of_length_eq_zero (by have := hN.hcap; omega)
            refine ⟨r', up ++ [d], o', 0, t2, _, rfl, rfl, rfl, by omega, by simp; omega, ?_⟩
            exact ⟨by rw [hr0]; exact Nat.le_refl _, hN.htw, hN.hup, hN.r32, hN.u32, fun i hi => by rw [hr0] at hi; simp at hi, hN.hown, hN.hbel⟩
        · go_roundg (gk - 2)
          case measure => exact hgk
          case rel =>
            have h1 := HRL.out
            exact ⟨r', up ++ [d], o' + 64, cap' - 2, t2, _, rfl, rfl, rfl, by omega, by simp; omega, HNX.out⟩
    · have h0 : ¬ ((1 : Int) < (gk : Int)) := by omega
      by_cases h1' : gk = 1
      · subst h1'
        obtain ⟨x, rfl⟩ : ∃ x, r = [x] := by
          match r, hrl with
          | [x], _ => exact ⟨x, rfl⟩
          | [], h => simp at h
          | _ :: _ :: _, h => simp at h
        have hx : x.size = 32 := HUP.out.r32 x List.mem_cons_self
        have rx : wr.rangeAt b o' (bc x) := HUP.out.hrow 0 (by simp)
        have lx : (bc x).length = 32 := by rw [bc_length, hx]
        have sx : (Tryd.prog.info? 59).map (·.size) = some (bc x).length := by rw [lx]; exact sizeDig
        have ud := Tryd.underlying59
        have kne : ¬ (1 = 0) := by omega
        clear h0
        obtain ⟨hi, hz0, hz1, hz2⟩ := HINF.out
        obtain ⟨d, hd⟩ : ∃ d, d = dd Kc (x ++ x) := ⟨_, rfl⟩
        have hd32 : d.size = 32 := by rw [hd]; exact dd_size _ _
        have hbr : b < wr.heap.size := Nat.lt_of_lt_of_le hbw HUP.out.hbel.size
        have HB0 : Below wr.heap.size wr wr.drew := ⟨rfl, rfl, rfl, Nat.le_refl _, fun _ _ => rfl⟩
        go_upto_region 7 with fail
        refine q_frame (fun A HFR => ?_)
        have hsz : A.tmps.size = 57 := by rw [HFR.out]; rfl
        have h0 : A.eval (.tmp 0) = .slice (some ⟨b, o', none⟩) 1 cap' := by rw [HFR.out]; rfl
        have h4 : A.eval (.tmp 4) = v := by rw [HFR.out]; rfl
        refine wp_region_held_drew (S := fun w' => w'.rangeAt b o' (bc x) ∧ w'.rangeAt b (o') (bc x)) (by kernel_rfl) ⟨rx, rx⟩ (fun hS => ?_)
        refine wpAnyH_take (i := 0) (v := v) rfl (by kernel_rfl) (by kernel_rfl) (by kernel_rfl) (fun _ _ _ h => h) (Or.inl ⟨by rfl, fun W _ => q_run1 4 v (by simp only [q_same, q_ne, q_sz, hsz, h0, h4, ne_eq, Nat.reduceEqDiff, not_false_eq_true, Nat.reduceLT]) (fun ρ hc _ e1 => by simp [go_sem, hc, e1])⟩) hS ?_
        change wpAnyH _ _ _ _ _ _ _ (Act.put _ (some 42) _) _
        refine wpAnyH_take (i := 1) (v := (.slice (some ⟨b, o', none⟩) 1 cap')) rfl (by kernel_rfl) (by kernel_rfl) (by kernel_rfl) (fun _ _ _ h => h) (Or.inl ⟨by rfl, fun W _ => q_run1 0 (.slice (some ⟨b, o', none⟩) 1 cap') (by simp only [q_same, q_ne, q_sz, hsz, h0, h4, ne_eq, Nat.reduceEqDiff, not_false_eq_true, Nat.reduceLT]) (fun ρ hc _ e1 => by simp [go_sem, hc, e1])⟩) hS ?_
        change wpAnyH _ _ _ _ _ _ _ (Act.put _ (some 43) _) _
        refine wpAnyH_take (i := 2) (v := (.pointer (some ⟨b, o', none⟩))) rfl (by kernel_rfl) (by kernel_rfl) (by kernel_rfl) (fun _ _ _ h => h) (Or.inl ⟨by rfl, fun W _ => q_run1 43 (.slice (some ⟨b, o', none⟩) 1 cap') (by simp only [q_same, q_ne, q_sz, hsz, h0, h4, ne_eq, Nat.reduceEqDiff, not_false_eq_true, Nat.reduceLT]) (fun ρ hc _ e1 => by simp [go_sem, hc, e1, kne])⟩) hS ?_
        change wpAnyH _ _ _ _ _ _ _ (Act.put _ (some 44) _) _
        refine wpAnyH_take (i := 3) (v := (aggD x)) rfl (by kernel_rfl) (by kernel_rfl) (by kernel_rfl) (fun _ _ _ h => h) (yieldsIf_load_mid (by rfl) 59 _ rfl b o' (by simp only [q_same, q_ne, q_sz, hsz, h0, h4, ne_eq, Nat.reduceEqDiff, not_false_eq_true, Nat.reduceLT]) (bc x) _ (fun W hW => hW.1) ud rfl sx) hS ?_
        change wpAnyH _ _ _ _ _ _ _ (Act.put _ (some 45) _) _
        refine wpAnyH_take (i := 5) (v := (.slice (some ⟨b, o', none⟩) 1 cap')) rfl (by kernel_rfl) (by kernel_rfl) (by kernel_rfl) (fun _ _ _ h => h) (Or.inl ⟨by rfl, fun W _ => q_run1 0 (.slice (some ⟨b, o', none⟩) 1 cap') (by simp only [q_same, q_ne, q_sz, hsz, h0, h4, ne_eq, Nat.reduceEqDiff, not_false_eq_true, Nat.reduceLT]) (fun ρ hc _ e1 => by simp [go_sem, hc, e1])⟩) hS ?_
        change wpAnyH _ _ _ _ _ _ _ (Act.put _ (some 47) _) _
        refine wpAnyH_take (i := 6) (v := (.pointer (some ⟨b, o', none⟩))) rfl (by kernel_rfl) (by kernel_rfl) (by kernel_rfl) (fun _ _ _ h => h) (Or.inl ⟨by rfl, fun W _ => q_run1 47 (.slice (some ⟨b, o', none⟩) 1 cap') (by simp only [q_same, q_ne, q_sz, hsz, h0, h4, ne_eq, Nat.reduceEqDiff, not_false_eq_true, Nat.reduceLT]) (fun ρ hc _ e1 => by simp [go_sem, hc, e1, kne])⟩) hS ?_
        change wpAnyH _ _ _ _ _ _ _ (Act.put _ (some 48) _) _
        refine wpAnyH_take (i := 7) (v := (aggD x)) rfl (by kernel_rfl) (by kernel_rfl) (by kernel_rfl) (fun _ _ _ h => h) (yieldsIf_load_mid (by rfl) 59 _ rfl b (o') (by simp only [q_same, q_ne, q_sz, hsz, h0, h4, ne_eq, Nat.reduceEqDiff, not_false_eq_true, Nat.reduceLT]) (bc x) _ (fun W hW => hW.2) ud rfl sx) hS ?_
        change wpAnyH _ _ _ _ _ _ _ (Act.put _ (some 49) _) _
        refine qH_call 4 23 #[aggD x] _ (by kernel_rfl) rfl rfl (q_run1 45 (aggD x) (by simp only [q_same, q_ne, q_sz, hsz, h0, h4, ne_eq, Nat.reduceEqDiff, not_false_eq_true, Nat.reduceLT]) (fun ρ _ hf e1 => by simp [go_sem, hf, e1])) (calls_val (text_d x hx _)) ?_
        rintro _ w1 ⟨rfl, hb1⟩
        have HB1 : Below wr.heap.size wr w1 := HB0.trans (hb1.mono (Nat.le_refl _))
        have hS1 : w1.rangeAt b o' (bc x) ∧ w1.rangeAt b (o') (bc x) := ⟨range_later rx HB1 hbr, range_later rx HB1 hbr⟩
        refine ⟨hS1, ?_⟩
        change wpAnyH _ _ _ _ _ _ _ (Act.put _ (some 46) _) _
        refine qH_call 8 23 #[aggD x] _ (by kernel_rfl) rfl rfl (q_run1 49 (aggD x) (by simp only [q_same, q_ne, q_sz, hsz, h0, h4, ne_eq, Nat.reduceEqDiff, not_false_eq_true, Nat.reduceLT]) (fun ρ _ hf e1 => by simp [go_sem, hf, e1])) (calls_val (text_d x hx _)) ?_
        rintro _ w2 ⟨rfl, hb2⟩
        have HB2 : Below wr.heap.size wr w2 := HB1.trans (hb2.mono HB1.size)
        have hS2 : w2.rangeAt b o' (bc x) ∧ w2.rangeAt b (o') (bc x) := ⟨range_later rx HB2 hbr, range_later rx HB2 hbr⟩
        refine ⟨hS2, ?_⟩
        change wpAnyH _ _ _ _ _ _ _ (Act.put _ (some 50) _) _
        have HB3 : Below wr.heap.size wr (w2.alloc (.cells #[.string x, .string x] 9)) := HB2.alloc HB2.size _
        have hS3 : (w2.alloc (.cells #[.string x, .string x] 9)).rangeAt b o' (bc x) ∧ (w2.alloc (.cells #[.string x, .string x] 9)).rangeAt b (o') (bc x) := ⟨range_later rx HB3 hbr, range_later rx HB3 hbr⟩
        refine qH_one 9 (.slice (some ⟨w2.heap.size, 0, none⟩) 2 2) _ (by kernel_rfl) rfl rfl (q_run2 46 50 (.string x) (.string x) (by simp only [q_same, q_ne, q_sz, hsz, h0, h4, ne_eq, Nat.reduceEqDiff, not_false_eq_true, Nat.reduceLT]) (by simp only [q_same, q_ne, q_sz, hsz, h0, h4, ne_eq, Nat.reduceEqDiff, not_false_eq_true, Nat.reduceLT]) (fun ρ _ _ e1 e2 => by simp [go_sem, e1, e2])) hS3 ?_
        change wpAnyH _ _ _ _ _ _ _ (Act.put _ (some 51) _) _
        refine qH_call 10 27 #[.slice (some ⟨w2.heap.size, 0, none⟩) 2 2] _ (by kernel_rfl) rfl rfl (q_run1 51 (.slice (some ⟨w2.heap.size, 0, none⟩) 2 2) (by simp only [q_same, q_ne, q_sz, hsz, h0, h4, ne_eq, Nat.reduceEqDiff, not_false_eq_true, Nat.reduceLT]) (fun ρ _ hf e1 => by simp [go_sem, hf, e1])) (calls_val (double_two Kc x x w2 (HKT.out _ (HUP.out.hbel.trans (HB2.mono HUP.out.hbel.size))) (by rw [sizes_append x x hx hx]; omega))) ?_
        rintro _ w4 ⟨rfl, hb4⟩
        have HB4 : Below wr.heap.size wr w4 := HB2.trans (hb4.mono HB2.size)
        have hS4 : w4.rangeAt b o' (bc x) ∧ w4.rangeAt b (o') (bc x) := ⟨range_later rx HB4 hbr, range_later rx HB4 hbr⟩
        refine ⟨hS4, ?_⟩
        rw [← hd]
        change wpAnyH _ _ _ _ _ _ _ (Act.put _ (some 52) _) _
        obtain ⟨W5, hW5⟩ : ∃ W, W = w4.alloc (.cells (bc d).toArray 59) := ⟨_, rfl⟩
        have HB5 : Below wr.heap.size wr W5 := by rw [hW5]; exact HB4.alloc HB4.size _
        have hS5 : W5.rangeAt b o' (bc x) ∧ W5.rangeAt b (o') (bc x) := ⟨range_later rx HB5 hbr, range_later rx HB5 hbr⟩
        have hnew : W5.heap[w4.heap.size]? = some (.cells (bc d).toArray 59 (0, 0)) := by rw [hW5]; exact heap_alloc_new w4 _
        refine qH_one 11 (.slice (some ⟨w4.heap.size, 0, none⟩) 1 1) W5 (by kernel_rfl) rfl rfl (by rw [hW5]; exact run_build_d d hd32 w4 rfl (by simp only [q_same, q_ne, q_sz, hsz, h0, h4, ne_eq, Nat.reduceEqDiff, not_false_eq_true, Nat.reduceLT])) hS5 ?_
        change wpAnyH _ _ _ _ _ _ _ (Act.put _ (some 53) _) _
        have hown5 := own_after HUP.out.hown HB5
        have hzz := HUP.out.hbel.size
        have hz5 := HB5.size
        have hul' : up.length + 1 ≤ 301 := by omega
        refine wpAnyH_ready (rs := [12]) (by kernel_rfl) (by simp) (AllReadyH.cons rfl (fun K hK => ?_) AllReadyH.nil)
        refine step_append_lies _ rfl (.tmp 42) (.tmp 53) 72 rfl w.heap.size 59 i0 (.agg (wl .u8 (fun _ => 0) 32).toArray) 32 32 Tryd.underlying72 hi hz0 hz1 hz2 (by kernel_rfl) (by decide) v up.length (flatD up) (by simp only [q_same, q_ne, q_sz, hsz, h0, h4, ne_eq, Nat.reduceEqDiff, not_false_eq_true, Nat.reduceLT]) hown5 ⟨w4.heap.size, 0, none⟩ 1 1 (bc d) (by simp only [q_same, q_ne, q_sz, hsz, h0, h4, ne_eq, Nat.reduceEqDiff, not_false_eq_true, Nat.reduceLT]) (by rw [bc_length, hd32]) (news_d hnew) (bc_one d) (by omega) (by unfold maxLen; omega) (by omega) (by omega) _ rfl ?_
        intro g6 c6 w6 ho6 hgr6 _ _
        have HB6 : Below w.heap.size W5 w6 := (Below.refl _ _).grown hgr6 (by omega) (ownB_ge hown5)
        have HB7 : Below w.heap.size w w6 := HUP.out.hbel.trans ((HB5.mono hzz).trans HB6)
        have hS6 : w6.rangeAt b o' (bc x) ∧ w6.rangeAt b (o') (bc x) := ⟨range_later hS5.1 HB6 hbw, range_later hS5.2 HB6 hbw⟩
        refine hK.out _ _ hS6 (fun _ => ?_)
        change wpAnyH _ _ _ _ _ _ _ (Act.put _ (some 54) _) _
        refine qH_one 13 (.slice (some ⟨g6, 0, none⟩) (up.length + 1) c6) w6 (by kernel_rfl) rfl rfl (q_run1 54 (.slice (some ⟨g6, 0, none⟩) (up.length + 1) c6) (by simp only [q_same, q_ne, q_sz, hsz, h0, h4, ne_eq, Nat.reduceEqDiff, not_false_eq_true, Nat.reduceLT]) (fun ρ _ _ e1 => by simp [go_sem, e1])) hS6 ?_
        change wpAnyH _ _ _ _ _ _ _ (Act.put _ (some 4) _) _
        refine wpAnyH_done (by kernel_rfl) ?_ _
        have HFIN : Hid (up ++ [d] = U ∧ (∀ s ∈ up ++ [d], s.size = 32) ∧ w6.ownsRow w.heap.size 59 32 (.slice (some ⟨g6, 0, none⟩) (up.length + 1) c6) (up.length + 1) (flatD (up ++ [d])) ∧ Below w.heap.size w w6 ∧ t = tw) := by
          have hU0 := HUP.out
          refine ⟨?_, ?_, ?_, HB7, ?_⟩
          · have := hU0.hup; rw [upev_one, ← hd] at this; exact this
          · intro s hs
            rcases List.mem_append.1 hs with h | h
            · exact hU0.u32 s h
            · simp at h; rw [h]; exact hd32
          · rw [flatD_snoc]; exact ho6
          · have := hU0.htw; simp [twinL] at this; exact this
        have hfr := HFR.out
        clear HFR hsz h0 h4 hS hS1 hS2 hS3 hS4 hS5 hS6 rx ud sx lx HB0 HB1 HB2 HB3 HB4 HB5 HB6 HB7 hi hz0 hz1 hz2 hb1 hb2 hb4 hown5 ho6 hgr6 hnew hW5 hzz hz5 hd
        subst hfr
        simp only [Act.put, List.setIfInBounds_toArray, List.set_cons_zero, List.set_cons_succ]
        go_wp2
        go_ret2
        obtain ⟨f1, f2, f3, f4, f5⟩ := HFIN.out
        have hl : U.length = up.length + 1 := by rw [← f1]; simp
        rw [f1] at f2 f3
        refine ⟨g6, c6, by rw [hl, f5]; rfl, by rw [hl]; exact own_cap f3, ?_, f4⟩
        exact own_drow hl f2 f3
      · have h2' : gk = 0 := by omega
        subst h2'
        have hr0 : r = [] := List.eq_nil_of_length_eq_zero hrl
        subst hr0
        have HFIN : Hid (up = U ∧ (∀ s ∈ up, s.size = 32) ∧ wr.ownsRow w.heap.size 59 32 v up.length (flatD up) ∧ Below w.heap.size w wr ∧ t = tw) := by
          have hU0 := HUP.out
          refine ⟨?_, hU0.u32, hU0.hown, hU0.hbel, ?_⟩
          · have := hU0.hup; rw [upev_nil, List.append_nil] at this; exact this
          · have := hU0.htw; simp [twinL] at this; exact this
        clear HUP hrl hul HINF
        go_wp2
        go_ret2
        obtain ⟨f1, f2, f3, f4, f5⟩ := HFIN.out
        rw [f1] at f2 f3
        obtain ⟨g, c, rfl, _, _⟩ := f3.form (by have := HUL.out; omega)
        refine ⟨g, c, by rw [f5]; rfl, own_cap f3, own_drow rfl f2 f3, f4⟩
end Go.Proofs.YtkmalggeieiepabDoor
