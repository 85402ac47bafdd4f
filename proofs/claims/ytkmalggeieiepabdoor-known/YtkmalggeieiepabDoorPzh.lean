import Derived.Test.YtkmalggeieiepabDoorPzd
import Derived.WalkKit
import Derived.WalkSpells
import Derived.WalkLawsBesides
import Derived.Deep.MidRow
import Derived.Deep.DeepCutAuto
import Derived.Deep.LoopGhost
import Derived.Deep.QuietTactic
import Derived.BigQuiet
import Derived.OwnWalk
import Derived.OrdersHeld
import Derived.Deep.AppendLies
import Derived.Deep.RegionHeld3
import Derived.Test.YtkmalggeieiepabDoorPzc
import Derived.Test.YtkmalggeieiepabDoorPzf
import Derived.Test.YtkmalggeieiepabDoorPzg
import Derived.Test.YtkmalggeieiepabDoorTxtA
import Derived.Lib.AppendStr
import Derived.Test.YtkmalggeieiepabDoorPzb
set_option linter.unusedSimpArgs false
namespace Go.Proofs.YtkmalggeieiepabDoor
open Go.RowKit

theorem own_cap {w : World} {base e size g n cap : Nat} {xs : List Value} (h : w.ownsRow base e size (.slice (some ⟨g, 0, none⟩) n cap) n xs) : n ≤ cap := by
  rcases h.2 with ⟨hv, _⟩ | ⟨g', cap', cur, hv, _, _, hc, _⟩
  · cases hv
  · injection hv with _ _ e3
    omega
/-- the row above is under way. -/
structure Up (Kc : Nat → Int) (w wx : World) (b : Nat) (U : List ByteArray) (tw : Bool) (r up : List ByteArray) (o' cap' : Nat) (av : Value) (t : Bool) : Prop where
  hcap : r.length ≤ cap'
  htw : (t || twinL r) = tw
  hup : up ++ upL (dd Kc) (evL r) = U
  r32 : ∀ s ∈ r, s.size = 32
  u32 : ∀ s ∈ up, s.size = 32
  hrow : DRow wx b o' r
  hown : wx.ownsRow w.heap.size 59 32 av up.length (flatD up)
  hbel : Below w.heap.size w wx

set_option maxRecDepth 10000 in
set_option maxHeartbeats 4000000 in
theorem pairUp_any (Kc : Nat → Int) (m : List ByteArray) (b o cap : Nat) (w : World) (hrow : DRow w b o m) (hne : 0 < m.length) (hlen : m.length ≤ 300) (hcap : m.length ≤ cap) (h32 : ∀ s ∈ m, s.size = 32) (hkt : KT Kc w) :
    Calls Tryd.prog 56 #[.slice (some ⟨b, o, none⟩) m.length cap] w fun e w' => ∃ g cap', e = .returned (.tuple #[.slice (some ⟨g, 0, none⟩) (upL (dd Kc) (evL m)).length cap', .bool (twinL m)]) ∧ (upL (dd Kc) (evL m)).length ≤ cap' ∧ DRow w' g 0 (upL (dd Kc) (evL m)) ∧ Below w.heap.size w w' := by
  obtain ⟨i0, hi, hz0, hz1, hz2⟩ := info_parts infoDig
  have hbw : b < w.heap.size := hrow.lt hne h32
  have hUl : (upL (dd Kc) (evL m)).length = (m.length + m.length % 2) / 2 := by rw [upL_length, evL_length]
  obtain ⟨U, hU⟩ : ∃ U, U = upL (dd Kc) (evL m) := ⟨_, rfl⟩
  obtain ⟨tw, htw⟩ : ∃ t, t = twinL m := ⟨_, rfl⟩
  rw [← hU, ← htw]
  rw [← hU] at hUl
  have HI : Hid (∀ wx, Below w.heap.size w wx → ∀ av, wx.ownsRow w.heap.size 59 32 av 0 [] → Up Kc w wx b U tw m [] o cap av false) := fun wx hb av ho => ⟨hcap, by rw [htw]; rfl, by rw [hU]; rfl, h32, (fun s hs => by cases hs), hrow.later hb hbw, ho, hb⟩
  have HKT : Hid (∀ wx, Below w.heap.size w wx → KT Kc wx) := fun wx hb => hkt.later hb (World.block_lt_of_cell? w _ (hkt 0 (by omega)))
  obtain ⟨n, hn⟩ : ∃ n, n = m.length := ⟨_, rfl⟩
  rw [← hn]
  rw [← hn] at hne hlen hUl
  have HN : Hid (n = m.length) := hn
  have HUL : Hid (U.length = (n + n % 2) / 2) := hUl
  have HQ : Hid (((n : Int) + 1) / 2 = (((n + 1) / 2 : Nat) : Int)) := by show _ = _; omega
  clear hrow h32 hkt hU htw hUl hcap hn
  go_enter Tryd.func56, Tryd.ntmps56
  go_upto_region 2 with (refine wpList_make_own _ rfl _ _ 72 rfl w.heap.size 59 i0 _ 32 Tryd.underlying72 hi hz0 hz1 .i64 .i64 _ ((n + 1) / 2) rfl rfl ?_ (by rw [hz2]; omega) (by unfold maxLen; omega) (Nat.le_refl _) ?_; exact HQ.out; intro w1 ho hgr; have HO := (show Hid (w1.ownsRow w.heap.size 59 32 _ 0 []) from ho); have HB := (show Hid (Below w.heap.size w w1) from (Below.refl _ _).grown hgr (Nat.le_refl _) (fun k hk => by cases hk)); clear ho hgr)
  go_loopg [0, 4, 5] n (fun g rv av tv wx => ∃ (r up : List ByteArray) (o' cap' : Nat) (t : Bool) (v : Value), rv = .slice (some ⟨b, o', none⟩) g cap' ∧ v = av ∧ tv = .bool t ∧ r.length = g ∧ up.length + g ≤ 301 ∧ Up Kc w wx b U tw r up o' cap' v t)
  case atStart => exact ⟨m, [], o, cap, false, _, rfl, rfl, rfl, HN.out.symm, by simp; omega, HI.out _ HB.out _ HO.out⟩
  case round =>
    have HINF : Hid (Tryd.prog.info? 59 = some i0 ∧ i0.zero = some (Value.agg (wl IntKind.u8 (fun _ => 0) 32).toArray) ∧ i0.size = 32 ∧ i0.bytes = 32) := ⟨hi, hz0, hz1, hz2⟩
    clear HB HO HI HQ hi hz0 hz1 hz2
    obtain ⟨r, up, o', cap', t, v, rfl, rfl, rfl, hrl, hul, hUp⟩ := hrel
    have HUP : Hid (Up Kc w wr b U tw r up o' cap' v t) := hUp
    clear hUp
    by_cases h1 : 1 < gk
    · obtain ⟨x, y, r', rfl⟩ : ∃ x y r', r = x :: y :: r' := by
        match r, hrl with
        | x :: y :: r', _ => exact ⟨x, y, r', rfl⟩
        | [_], h => simp at h; omega
        | [], h => simp at h; omega
      have hx : x.size = 32 := HUP.out.r32 x List.mem_cons_self
      have hy : y.size = 32 := HUP.out.r32 y (List.mem_cons_of_mem _ List.mem_cons_self)
      have k1 : (1 : Int) < (gk : Int) := by omega
      have k0 : (0 : Int) < (gk : Int) := by omega
      have kne : ¬ gk = 0 := by omega
      have rx : wr.rangeAt b o' (bc x) := HUP.out.hrow 0 (by simp)
      have ry : wr.rangeAt b (o' + 32) (bc y) := HUP.out.hrow 1 (by simp)
      obtain ⟨t2, ht2⟩ : ∃ t2, t2 = (t || (x.data.toList == y.data.toList)) := ⟨_, rfl⟩
      have HT2 : Hid (t2 = (t || (x.data.toList == y.data.toList))) := ht2
      have HX : Hid (wr.rangeAt b o' (bc x)) := rx
      have HY : Hid (wr.rangeAt b (o' + 32) (bc y)) := ry
      have lx : (bc x).length = 32 := by rw [bc_length, hx]
      have ly : (bc y).length = 32 := by rw [bc_length, hy]
      have sx : (Tryd.prog.info? 59).map (·.size) = some (bc x).length := by rw [lx]; exact sizeDig
      have sy : (Tryd.prog.info? 59).map (·.size) = some (bc y).length := by rw [ly]; exact sizeDig
      have ox := bc_one x
      have oy := bc_one y
      have ud := Tryd.underlying59
      have heq : ∀ W : World, (binOp .eql 59 (.agg (bc x).toArray) (.agg (bc y).toArray)).run Tryd.prog W = .ok (.bool (x.data.toList == y.data.toList)) W := fun W => eql_d x y hx hy W
      have HRL : Hid (r'.length + 2 = gk) := by have := hrl; simp at this; exact this
      clear ht2 hrl
      go_upto_region 4 with fail
      go_cut [5] (fun tv wx => tv = .bool t2 ∧ ∃ q, wx = wr.drewN q)
      case first =>
        generalize (x.data.toList == y.data.toList) = E at heq HT2
        cases t
        · refine q_frame (fun A HFR => ?_)
          have hsz : A.tmps.size = 57 := by rw [HFR.out]; rfl
          have h0 : A.eval (.tmp 0) = .slice (some ⟨b, o', none⟩) gk cap' := by rw [HFR.out]; rfl
          have h5 : A.eval (.tmp 5) = .bool false := by rw [HFR.out]; rfl
          refine wp_region_held_drew (S := fun w' => w'.rangeAt b o' (bc x) ∧ w'.rangeAt b (o' + 32) (bc y)) (by kernel_rfl) ⟨rx, ry⟩ (fun hS => ?_)
          refine wpAnyH_take (i := 0) (v := (.bool false)) rfl (by kernel_rfl) (by kernel_rfl) (by kernel_rfl) (fun _ _ _ h => h) (Or.inl ⟨(by rfl), fun W _ => q_run1 5 (.bool false) (by simp only [q_same, q_ne, q_sz, hsz, h0, h5, ne_eq, Nat.reduceEqDiff, not_false_eq_true, Nat.reduceLT]) (fun ρ hc _ e1 => by simp [go_sem, hc, e1])⟩) hS ?_
          change wpAnyH _ _ _ _ _ _ _ (Act.put _ (some 16) _) _
          refine wpAnyH_take (i := 1) (v := (.bool false)) rfl (by kernel_rfl) (by kernel_rfl) (by kernel_rfl) (fun _ _ _ h => h) (Or.inl ⟨(by rfl), fun W _ => q_run1 16 (.bool false) (by simp only [q_same, q_ne, q_sz, hsz, h0, h5, ne_eq, Nat.reduceEqDiff, not_false_eq_true, Nat.reduceLT]) (fun ρ hc _ e1 => by simp [go_sem, hc, e1])⟩) hS ?_
          change wpAnyH _ _ _ _ _ _ _ (Act.put _ (some 17) _) _
          refine wpAnyH_take (i := 2) (v := (.slice (some ⟨b, o', none⟩) gk cap')) rfl (by kernel_rfl) (by kernel_rfl) (by kernel_rfl) (fun _ _ _ h => h) (Or.inl ⟨(q_wanted 1 17 false rfl (by kernel_rfl) (by simp only [q_sz, hsz]; omega) (by simp only [q_same, q_ne, q_sz, hsz, h0, h5, ne_eq, Nat.reduceEqDiff, not_false_eq_true, Nat.reduceLT])), fun W _ => q_run1 0 (.slice (some ⟨b, o', none⟩) gk cap') (by simp only [q_same, q_ne, q_sz, hsz, h0, h5, ne_eq, Nat.reduceEqDiff, not_false_eq_true, Nat.reduceLT]) (fun ρ hc _ e1 => by simp [go_sem, hc, e1])⟩) hS ?_
          change wpAnyH _ _ _ _ _ _ _ (Act.put _ (some 18) _) _
          refine wpAnyH_take (i := 3) (v := (.pointer (some ⟨b, o', none⟩))) rfl (by kernel_rfl) (by kernel_rfl) (by kernel_rfl) (fun _ _ _ h => h) (Or.inl ⟨(q_wanted 1 17 false rfl (by kernel_rfl) (by simp only [q_sz, hsz]; omega) (by simp only [q_same, q_ne, q_sz, hsz, h0, h5, ne_eq, Nat.reduceEqDiff, not_false_eq_true, Nat.reduceLT])), fun W _ => q_run1 18 (.slice (some ⟨b, o', none⟩) gk cap') (by simp only [q_same, q_ne, q_sz, hsz, h0, h5, ne_eq, Nat.reduceEqDiff, not_false_eq_true, Nat.reduceLT]) (fun ρ hc _ e1 => by simp [go_sem, hc, e1, kne])⟩) hS ?_
          change wpAnyH _ _ _ _ _ _ _ (Act.put _ (some 19) _) _
          refine wpAnyH_take (i := 4) (v := (.agg (bc x).toArray)) rfl (by kernel_rfl) (by kernel_rfl) (by kernel_rfl) (fun _ _ _ h => h) (yieldsIf_load_mid (q_wanted 1 17 false rfl (by kernel_rfl) (by simp only [q_sz, hsz]; omega) (by simp only [q_same, q_ne, q_sz, hsz, h0, h5, ne_eq, Nat.reduceEqDiff, not_false_eq_true, Nat.reduceLT])) 59 _ rfl b o' (by simp only [q_same, q_ne, q_sz, hsz, h0, h5, ne_eq, Nat.reduceEqDiff, not_false_eq_true, Nat.reduceLT]) (bc x) _ (fun W hW => hW.1) ud rfl sx) hS ?_
          change wpAnyH _ _ _ _ _ _ _ (Act.put _ (some 20) _) _
          refine wpAnyH_take (i := 5) (v := (.slice (some ⟨b, o', none⟩) gk cap')) rfl (by kernel_rfl) (by kernel_rfl) (by kernel_rfl) (fun _ _ _ h => h) (Or.inl ⟨(q_wanted 1 17 false rfl (by kernel_rfl) (by simp only [q_sz, hsz]; omega) (by simp only [q_same, q_ne, q_sz, hsz, h0, h5, ne_eq, Nat.reduceEqDiff, not_false_eq_true, Nat.reduceLT])), fun W _ => q_run1 0 (.slice (some ⟨b, o', none⟩) gk cap') (by simp only [q_same, q_ne, q_sz, hsz, h0, h5, ne_eq, Nat.reduceEqDiff, not_false_eq_true, Nat.reduceLT]) (fun ρ hc _ e1 => by simp [go_sem, hc, e1])⟩) hS ?_
          change wpAnyH _ _ _ _ _ _ _ (Act.put _ (some 21) _) _
          refine wpAnyH_take (i := 6) (v := (.pointer (some ⟨b, o' + 32, none⟩))) rfl (by kernel_rfl) (by kernel_rfl) (by kernel_rfl) (fun _ _ _ h => h) (Or.inl ⟨(q_wanted 1 17 false rfl (by kernel_rfl) (by simp only [q_sz, hsz]; omega) (by simp only [q_same, q_ne, q_sz, hsz, h0, h5, ne_eq, Nat.reduceEqDiff, not_false_eq_true, Nat.reduceLT])), fun W _ => q_run1 21 (.slice (some ⟨b, o', none⟩) gk cap') (by simp only [q_same, q_ne, q_sz, hsz, h0, h5, ne_eq, Nat.reduceEqDiff, not_false_eq_true, Nat.reduceLT]) (fun ρ hc _ e1 => by simp [go_sem, hc, e1, k1])⟩) hS ?_
          change wpAnyH _ _ _ _ _ _ _ (Act.put _ (some 22) _) _
          refine wpAnyH_take (i := 7) (v := (.agg (bc y).toArray)) rfl (by kernel_rfl) (by kernel_rfl) (by kernel_rfl) (fun _ _ _ h => h) (yieldsIf_load_mid (q_wanted 1 17 false rfl (by kernel_rfl) (by simp only [q_sz, hsz]; omega) (by simp only [q_same, q_ne, q_sz, hsz, h0, h5, ne_eq, Nat.reduceEqDiff, not_false_eq_true, Nat.reduceLT])) 59 _ rfl b (o' + 32) (by simp only [q_same, q_ne, q_sz, hsz, h0, h5, ne_eq, Nat.reduceEqDiff, not_false_eq_true, Nat.reduceLT]) (bc y) _ (fun W hW => hW.2) ud rfl sy) hS ?_
          change wpAnyH _ _ _ _ _ _ _ (Act.put _ (some 23) _) _
          refine wpAnyH_take (i := 8) (v := (.bool E)) rfl (by kernel_rfl) (by kernel_rfl) (by kernel_rfl) (fun _ _ _ h => h) (Or.inl ⟨(q_wanted 1 17 false rfl (by kernel_rfl) (by simp only [q_sz, hsz]; omega) (by simp only [q_same, q_ne, q_sz, hsz, h0, h5, ne_eq, Nat.reduceEqDiff, not_false_eq_true, Nat.reduceLT])), fun W _ => q_run2 20 23 (.agg (bc x).toArray) (.agg (bc y).toArray) (by simp only [q_same, q_ne, q_sz, hsz, h0, h5, ne_eq, Nat.reduceEqDiff, not_false_eq_true, Nat.reduceLT]) (by simp only [q_same, q_ne, q_sz, hsz, h0, h5, ne_eq, Nat.reduceEqDiff, not_false_eq_true, Nat.reduceLT]) (fun ρ hc _ e1 e2 => by simp [go_sem, hc, e1, e2, heq])⟩) hS ?_
          change wpAnyH _ _ _ _ _ _ _ (Act.put _ (some 24) _) _
          refine wpAnyH_take (i := 9) (v := (.bool E)) rfl (by kernel_rfl) (by kernel_rfl) (by kernel_rfl) (fun _ _ _ h => h) (Or.inl ⟨(by rfl), fun W _ => q_run2 17 24 (.bool false) (.bool E) (by simp only [q_same, q_ne, q_sz, hsz, h0, h5, ne_eq, Nat.reduceEqDiff, not_false_eq_true, Nat.reduceLT]) (by simp only [q_same, q_ne, q_sz, hsz, h0, h5, ne_eq, Nat.reduceEqDiff, not_false_eq_true, Nat.reduceLT]) (fun ρ hc _ e1 e2 => by simp [go_sem, hc, e1, e2])⟩) hS ?_
          change wpAnyH _ _ _ _ _ _ _ (Act.put _ (some 25) _) _
          refine qH_one 10 (.bool E) _ (by kernel_rfl) rfl rfl (q_run1 25 (.bool E) (by simp only [q_same, q_ne, q_sz, hsz, h0, h5, ne_eq, Nat.reduceEqDiff, not_false_eq_true, Nat.reduceLT]) (fun ρ hc _ e1 => by simp [go_sem, e1])) hS ?_
          change wpAnyH _ _ _ _ _ _ _ (Act.put _ (some 5) _) _
          refine wpAnyH_done (by kernel_rfl) ?_ _
          have hfr := HFR.out
          clear HFR hsz h0 h5
          subst hfr
          simp only [Act.put, List.setIfInBounds_toArray, List.set_cons_zero, List.set_cons_succ]
          go_wp2_with fail
          go_meet
          exact ⟨by rw [HT2.out]; rfl, 1, rfl⟩
        · go_quiet (fail)
          go_wp2
          go_meet
          exact ⟨by rw [HT2.out]; rfl, _, rfl⟩
      case rest =>
        obtain ⟨rfl, q, rfl⟩ := hcut
        obtain ⟨hi, hz0, hz1, hz2⟩ := HINF.out
        obtain ⟨d, hd⟩ : ∃ d, d = dd Kc (x ++ y) := ⟨_, rfl⟩
        have hd32 : d.size = 32 := by rw [hd]; exact dd_size _ _
        have hbr : b < wr.heap.size := Nat.lt_of_lt_of_le hbw HUP.out.hbel.size
        have HB0 : Below wr.heap.size wr (wr.drewN q).drew := ⟨rfl, rfl, rfl, Nat.le_refl _, fun _ _ => rfl⟩
        go_upto_region 5 with fail
        refine q_frame (fun A HFR => ?_)
        have hsz : A.tmps.size = 57 := by rw [HFR.out]; rfl
        have h0 : A.eval (.tmp 0) = .slice (some ⟨b, o', none⟩) gk cap' := by rw [HFR.out]; rfl
        have h4 : A.eval (.tmp 4) = v := by rw [HFR.out]; rfl
        refine wp_region_held_drew (S := fun w' => w'.rangeAt b o' (bc x) ∧ w'.rangeAt b (o' + 32) (bc y)) (by kernel_rfl) ⟨rx, ry⟩ (fun hS => ?_)
        refine wpAnyH_take (i := 0) (v := v) rfl (by kernel_rfl) (by kernel_rfl) (by kernel_rfl) (fun _ _ _ h => h) (Or.inl ⟨by rfl, fun W _ => q_run1 4 v (by simp only [q_same, q_ne, q_sz, hsz, h0, h4, ne_eq, Nat.reduceEqDiff, not_false_eq_true, Nat.reduceLT]) (fun ρ hc _ e1 => by simp [go_sem, hc, e1])⟩) hS ?_
        change wpAnyH _ _ _ _ _ _ _ (Act.put _ (some 26) _) _
        refine wpAnyH_take (i := 1) (v := (.slice (some ⟨b, o', none⟩) gk cap')) rfl (by kernel_rfl) (by kernel_rfl) (by kernel_rfl) (fun _ _ _ h => h) (Or.inl ⟨by rfl, fun W _ => q_run1 0 (.slice (some ⟨b, o', none⟩) gk cap') (by simp only [q_same, q_ne, q_sz, hsz, h0, h4, ne_eq, Nat.reduceEqDiff, not_false_eq_true, Nat.reduceLT]) (fun ρ hc _ e1 => by simp [go_sem, hc, e1])⟩) hS ?_
        change wpAnyH _ _ _ _ _ _ _ (Act.put _ (some 27) _) _
        refine wpAnyH_take (i := 2) (v := (.pointer (some ⟨b, o', none⟩))) rfl (by kernel_rfl) (by kernel_rfl) (by kernel_rfl) (fun _ _ _ h => h) (Or.inl ⟨by rfl, fun W _ => q_run1 27 (.slice (some ⟨b, o', none⟩) gk cap') (by simp only [q_same, q_ne, q_sz, hsz, h0, h4, ne_eq, Nat.reduceEqDiff, not_false_eq_true, Nat.reduceLT]) (fun ρ hc _ e1 => by simp [go_sem, hc, e1, kne])⟩) hS ?_
        change wpAnyH _ _ _ _ _ _ _ (Act.put _ (some 28) _) _
        refine wpAnyH_take (i := 3) (v := (aggD x)) rfl (by kernel_rfl) (by kernel_rfl) (by kernel_rfl) (fun _ _ _ h => h) (yieldsIf_load_mid (by rfl) 59 _ rfl b o' (by simp only [q_same, q_ne, q_sz, hsz, h0, h4, ne_eq, Nat.reduceEqDiff, not_false_eq_true, Nat.reduceLT]) (bc x) _ (fun W hW => hW.1) ud rfl sx) hS ?_
        change wpAnyH _ _ _ _ _ _ _ (Act.put _ (some 29) _) _
        refine wpAnyH_take (i := 5) (v := (.slice (some ⟨b, o', none⟩) gk cap')) rfl (by kernel_rfl) (by kernel_rfl) (by kernel_rfl) (fun _ _ _ h => h) (Or.inl ⟨by rfl, fun W _ => q_run1 0 (.slice (some ⟨b, o', none⟩) gk cap') (by simp only [q_same, q_ne, q_sz, hsz, h0, h4, ne_eq, Nat.reduceEqDiff, not_false_eq_true, Nat.reduceLT]) (fun ρ hc _ e1 => by simp [go_sem, hc, e1])⟩) hS ?_
        change wpAnyH _ _ _ _ _ _ _ (Act.put _ (some 31) _) _
        refine wpAnyH_take (i := 6) (v := (.pointer (some ⟨b, o' + 32, none⟩))) rfl (by kernel_rfl) (by kernel_rfl) (by kernel_rfl) (fun _ _ _ h => h) (Or.inl ⟨by rfl, fun W _ => q_run1 31 (.slice (some ⟨b, o', none⟩) gk cap') (by simp only [q_same, q_ne, q_sz, hsz, h0, h4, ne_eq, Nat.reduceEqDiff, not_false_eq_true, Nat.reduceLT]) (fun ρ hc _ e1 => by simp [go_sem, hc, e1, k1])⟩) hS ?_
        change wpAnyH _ _ _ _ _ _ _ (Act.put _ (some 32) _) _
        refine wpAnyH_take (i := 7) (v := (aggD y)) rfl (by kernel_rfl) (by kernel_rfl) (by kernel_rfl) (fun _ _ _ h => h) (yieldsIf_load_mid (by rfl) 59 _ rfl b (o' + 32) (by simp only [q_same, q_ne, q_sz, hsz, h0, h4, ne_eq, Nat.reduceEqDiff, not_false_eq_true, Nat.reduceLT]) (bc y) _ (fun W hW => hW.2) ud rfl sy) hS ?_
        change wpAnyH _ _ _ _ _ _ _ (Act.put _ (some 33) _) _
        refine qH_call 4 23 #[aggD x] _ (by kernel_rfl) rfl rfl (q_run1 29 (aggD x) (by simp only [q_same, q_ne, q_sz, hsz, h0, h4, ne_eq, Nat.reduceEqDiff, not_false_eq_true, Nat.reduceLT]) (fun ρ _ hf e1 => by simp [go_sem, hf, e1])) (calls_val (text_d x hx _)) ?_
        rintro _ w1 ⟨rfl, hb1⟩
        have HB1 : Below wr.heap.size wr w1 := HB0.trans (hb1.mono (Nat.le_refl _))
        have hS1 : w1.rangeAt b o' (bc x) ∧ w1.rangeAt b (o' + 32) (bc y) := ⟨range_later rx HB1 hbr, range_later ry HB1 hbr⟩
        refine ⟨hS1, ?_⟩
        change wpAnyH _ _ _ _ _ _ _ (Act.put _ (some 30) _) _
        refine qH_call 8 23 #[aggD y] _ (by kernel_rfl) rfl rfl (q_run1 33 (aggD y) (by simp only [q_same, q_ne, q_sz, hsz, h0, h4, ne_eq, Nat.reduceEqDiff, not_false_eq_true, Nat.reduceLT]) (fun ρ _ hf e1 => by simp [go_sem, hf, e1])) (calls_val (text_d y hy _)) ?_
        rintro _ w2 ⟨rfl, hb2⟩
        have HB2 : Below wr.heap.size wr w2 := HB1.trans (hb2.mono HB1.size)
        have hS2 : w2.rangeAt b o' (bc x) ∧ w2.rangeAt b (o' + 32) (bc y) := ⟨range_later rx HB2 hbr, range_later ry HB2 hbr⟩
        refine ⟨hS2, ?_⟩
        change wpAnyH _ _ _ _ _ _ _ (Act.put _ (some 34) _) _
        have HB3 : Below wr.heap.size wr (w2.alloc (.cells #[.string x, .string y] 9)) := HB2.alloc HB2.size _
        have hS3 : (w2.alloc (.cells #[.string x, .string y] 9)).rangeAt b o' (bc x) ∧ (w2.alloc (.cells #[.string x, .string y] 9)).rangeAt b (o' + 32) (bc y) := ⟨range_later rx HB3 hbr, range_later ry HB3 hbr⟩
        refine qH_one 9 (.slice (some ⟨w2.heap.size, 0, none⟩) 2 2) _ (by kernel_rfl) rfl rfl (q_run2 30 34 (.string x) (.string y) (by simp only [q_same, q_ne, q_sz, hsz, h0, h4, ne_eq, Nat.reduceEqDiff, not_false_eq_true, Nat.reduceLT]) (by simp only [q_same, q_ne, q_sz, hsz, h0, h4, ne_eq, Nat.reduceEqDiff, not_false_eq_true, Nat.reduceLT]) (fun ρ _ _ e1 e2 => by simp [go_sem, e1, e2])) hS3 ?_
        change wpAnyH _ _ _ _ _ _ _ (Act.put _ (some 35) _) _
        refine qH_call 10 27 #[.slice (some ⟨w2.heap.size, 0, none⟩) 2 2] _ (by kernel_rfl) rfl rfl (q_run1 35 (.slice (some ⟨w2.heap.size, 0, none⟩) 2 2) (by simp only [q_same, q_ne, q_sz, hsz, h0, h4, ne_eq, Nat.reduceEqDiff, not_false_eq_true, Nat.reduceLT]) (fun ρ _ hf e1 => by simp [go_sem, hf, e1])) (calls_val (double_two Kc x y w2 (HKT.out _ (HUP.out.hbel.trans (HB2.mono HUP.out.hbel.size))) (by rw [sizes_append x y hx hy]; omega))) ?_
        rintro _ w4 ⟨rfl, hb4⟩
        have HB4 : Below wr.heap.size wr w4 := HB2.trans (hb4.mono HB2.size)
        have hS4 : w4.rangeAt b o' (bc x) ∧ w4.rangeAt b (o' + 32) (bc y) := ⟨range_later rx HB4 hbr, range_later ry HB4 hbr⟩
        refine ⟨hS4, ?_⟩
        rw [← hd]
        change wpAnyH _ _ _ _ _ _ _ (Act.put _ (some 36) _) _
        obtain ⟨W5, hW5⟩ : ∃ W, W = w4.alloc (.cells (bc d).toArray 59) := ⟨_, rfl⟩
        have HB5 : Below wr.heap.size wr W5 := by rw [hW5]; exact HB4.alloc HB4.size _
        have hS5 : W5.rangeAt b o' (bc x) ∧ W5.rangeAt b (o' + 32) (bc y) := ⟨range_later rx HB5 hbr, range_later ry HB5 hbr⟩
        have hnew : W5.heap[w4.heap.size]? = some (.cells (bc d).toArray 59 (0, 0)) := by rw [hW5]; exact heap_alloc_new w4 _
        refine qH_one 11 (.slice (some ⟨w4.heap.size, 0, none⟩) 1 1) W5 (by kernel_rfl) rfl rfl (by rw [hW5]; exact run_build_d d hd32 w4 rfl (by simp only [q_same, q_ne, q_sz, hsz, h0, h4, ne_eq, Nat.reduceEqDiff, not_false_eq_true, Nat.reduceLT])) hS5 ?_
        change wpAnyH _ _ _ _ _ _ _ (Act.put _ (some 37) _) _
        have hown5 := own_after HUP.out.hown HB5
        have hzz := HUP.out.hbel.size
        have hz5 := HB5.size
        have hul' : up.length + 1 ≤ 301 := by omega
        refine wpAnyH_ready (rs := [12]) (by kernel_rfl) (by simp) (AllReadyH.cons rfl (fun K hK => ?_) AllReadyH.nil)
        refine step_append_lies _ rfl (.tmp 26) (.tmp 37) 72 rfl w.heap.size 59 i0 (.agg (wl .u8 (fun _ => 0) 32).toArray) 32 32 Tryd.underlying72 hi hz0 hz1 hz2 (by kernel_rfl) (by decide) v up.length (flatD up) (by simp only [q_same, q_ne, q_sz, hsz, h0, h4, ne_eq, Nat.reduceEqDiff, not_false_eq_true, Nat.reduceLT]) hown5 ⟨w4.heap.size, 0, none⟩ 1 1 (bc d) (by simp only [q_same, q_ne, q_sz, hsz, h0, h4, ne_eq, Nat.reduceEqDiff, not_false_eq_true, Nat.reduceLT]) (by rw [bc_length, hd32]) (news_d hnew) (bc_one d) (by omega) (by unfold maxLen; omega) (by omega) (by omega) _ rfl ?_
        intro g6 c6 w6 ho6 hgr6 _ _
        have HB6 : Below w.heap.size W5 w6 := (Below.refl _ _).grown hgr6 (by omega) (ownB_ge hown5)
        have HB7 : Below w.heap.size w w6 := HUP.out.hbel.trans ((HB5.mono hzz).trans HB6)
        have hS6 : w6.rangeAt b o' (bc x) ∧ w6.rangeAt b (o' + 32) (bc y) := ⟨range_later hS5.1 HB6 hbw, range_later hS5.2 HB6 hbw⟩
        refine hK.out _ _ hS6 (fun _ => ?_)
        change wpAnyH _ _ _ _ _ _ _ (Act.put _ (some 38) _) _
        refine qH_one 13 (.slice (some ⟨g6, 0, none⟩) (up.length + 1) c6) w6 (by kernel_rfl) rfl rfl (q_run1 38 (.slice (some ⟨g6, 0, none⟩) (up.length + 1) c6) (by simp only [q_same, q_ne, q_sz, hsz, h0, h4, ne_eq, Nat.reduceEqDiff, not_false_eq_true, Nat.reduceLT]) (fun ρ _ _ e1 => by simp [go_sem, e1])) hS6 ?_
        change wpAnyH _ _ _ _ _ _ _ (Act.put _ (some 4) _) _
        refine wpAnyH_done (by kernel_rfl) ?_ _
        have HNX : Hid (Up Kc w w6 b U tw r' (up ++ [d]) (o' + 64) (cap' - 2) (.slice (some ⟨g6, 0, none⟩) (up.length + 1) c6) t2) := by
          have hU0 := HUP.out
          refine ⟨?_, ?_, ?_, ?_, ?_, ?_, ?_, HB7⟩
          · have := hU0.hcap; simp at this; omega
          · have := hU0.htw; rw [HT2.out, ← this]; simp only [twinL, toL, Bool.or_assoc]
          · have := hU0.hup; rw [upev_cons2, ← hd] at this; rw [← this]; simp
          · exact fun s hs => hU0.r32 s (List.mem_cons_of_mem _ (List.mem_cons_of_mem _ hs))
          · intro s hs
            rcases List.mem_append.1 hs with h | h
            · exact hU0.u32 s h
            · simp at h; rw [h]; exact hd32
          · exact (hU0.hrow.later ((HB5.mono hzz).trans HB6) hbw).drop
          · rw [flatD_snoc, show (up ++ [d]).length = up.length + 1 by simp]; exact ho6
        have hfr := HFR.out
        have k2 : (2 : Int) ≤ (gk : Int) := by omega
        have k3 : (gk : Int) ≤ (cap' : Int) := by have h1 := HUP.out.hcap; have h2 := HRL.out; simp at h1; omega
        clear HFR hsz h0 h4 hS hS1 hS2 hS3 hS4 hS5 hS6 rx ry ud sx sy ox oy lx ly HB0 HB1 HB2 HB3 HB4 HB5 HB6 HB7 hi hz0 hz1 hz2 hb1 hb2 hb4 hown5 ho6 hgr6 hnew hW5 hzz hz5 hd heq
        subst hfr
        simp only [Act.put, List.setIfInBounds_toArray, List.set_cons_zero, List.set_cons_succ]
        have hgk : gk - 2 < gk := by omega
        go_wp2
        · go_roundg (gk - 2)
          case measure => exact hgk
          case rel =>
            have h1 := HRL.out
            have hN := HNX.out
            have hr0 : r' = [] := List.eq_nil_of_length_eq_zero (by have := hN.hcap; omega)
            refine ⟨r', up ++ [d], o', 0, t2, _, rfl, rfl, rfl, by omega, by simp; omega, ?_⟩
            exact ⟨by rw [hr0]; exact Nat.le_refl _, hN.htw, hN.hup, hN.r32, hN.u32, fun i hi => by rw [hr0] at hi; simp at hi, hN.hown, hN.hbel⟩
        · go_roundg (gk - 2)
          case measure => exact hgk
          case rel =>
            have h1 := HRL.out
            exact ⟨r', up ++ [d], o' + 64, cap' - 2, t2, _, rfl, rfl, rfl, by omega, by simp; omega, HNX.out⟩
    · have h0 : ¬ ((1 : Int) < (gk : Int)) := by omega
      by_cases h1' : gk = 1
      · subst h1'
        obtain ⟨x, rfl⟩ : ∃ x, r = [x] := by
          match r, hrl with
          | [x], _ => exact ⟨x, rfl⟩
          | [], h => simp at h
          | _ :: _ :: _, h => simp at h
        have hx : x.size = 32 := HUP.out.r32 x List.mem_cons_self
        have rx : wr.rangeAt b o' (bc x) := HUP.out.hrow 0 (by simp)
        have lx : (bc x).length = 32 := by rw [bc_length, hx]
        have sx : (Tryd.prog.info? 59).map (·.size) = some (bc x).length := by rw [lx]; exact sizeDig
        have ud := Tryd.underlying59
        have kne : ¬ (1 = 0) := by omega
        clear h0
        obtain ⟨hi, hz0, hz1, hz2⟩ := HINF.out
        obtain ⟨d, hd⟩ : ∃ d, d = dd Kc (x ++ x) := ⟨_, rfl⟩
        have hd32 : d.size = 32 := by rw [hd]; exact dd_size _ _
        have hbr : b < wr.heap.size := Nat.lt_of_lt_of_le hbw HUP.out.hbel.size
        have HB0 : Below wr.heap.size wr wr.drew := ⟨rfl, rfl, rfl, Nat.le_refl _, fun _ _ => rfl⟩
        go_upto_region 7 with fail
        refine q_frame (fun A HFR => ?_)
        have hsz : A.tmps.size = 57 := by rw [HFR.out]; rfl
        have h0 : A.eval (.tmp 0) = .slice (some ⟨b, o', none⟩) 1 cap' := by rw [HFR.out]; rfl
        have h4 : A.eval (.tmp 4) = v := by rw [HFR.out]; rfl
        refine wp_region_held_drew (S := fun w' => w'.rangeAt b o' (bc x) ∧ w'.rangeAt b (o') (bc x)) (by kernel_rfl) ⟨rx, rx⟩ (fun hS => ?_)
        refine wpAnyH_take (i := 0) (v := v) rfl (by kernel_rfl) (by kernel_rfl) (by kernel_rfl) (fun _ _ _ h => h) (Or.inl ⟨by rfl, fun W _ => q_run1 4 v (by simp only [q_same, q_ne, q_sz, hsz, h0, h4, ne_eq, Nat.reduceEqDiff, not_false_eq_true, Nat.reduceLT]) (fun ρ hc _ e1 => by simp [go_sem, hc, e1])⟩) hS ?_
        change wpAnyH _ _ _ _ _ _ _ (Act.put _ (some 42) _) _
        refine wpAnyH_take (i := 1) (v := (.slice (some ⟨b, o', none⟩) 1 cap')) rfl (by kernel_rfl) (by kernel_rfl) (by kernel_rfl) (fun _ _ _ h => h) (Or.inl ⟨by rfl, fun W _ => q_run1 0 (.slice (some ⟨b, o', none⟩) 1 cap') (by simp only [q_same, q_ne, q_sz, hsz, h0, h4, ne_eq, Nat.reduceEqDiff, not_false_eq_true, Nat.reduceLT]) (fun ρ hc _ e1 => by simp [go_sem, hc, e1])⟩) hS ?_
        change wpAnyH _ _ _ _ _ _ _ (Act.put _ (some 43) _) _
        refine wpAnyH_take (i := 2) (v := (.pointer (some ⟨b, o', none⟩))) rfl (by kernel_rfl) (by kernel_rfl) (by kernel_rfl) (fun _ _ _ h => h) (Or.inl ⟨by rfl, fun W _ => q_run1 43 (.slice (some ⟨b, o', none⟩) 1 cap') (by simp only [q_same, q_ne, q_sz, hsz, h0, h4, ne_eq, Nat.reduceEqDiff, not_false_eq_true, Nat.reduceLT]) (fun ρ hc _ e1 => by simp [go_sem, hc, e1, kne])⟩) hS ?_
        change wpAnyH _ _ _ _ _ _ _ (Act.put _ (some 44) _) _
        refine wpAnyH_take (i := 3) (v := (aggD x)) rfl (by kernel_rfl) (by kernel_rfl) (by kernel_rfl) (fun _ _ _ h => h) (yieldsIf_load_mid (by rfl) 59 _ rfl b o' (by simp only [q_same, q_ne, q_sz, hsz, h0, h4, ne_eq, Nat.reduceEqDiff, not_false_eq_true, Nat.reduceLT]) (bc x) _ (fun W hW => hW.1) ud rfl sx) hS ?_
        change wpAnyH _ _ _ _ _ _ _ (Act.put _ (some 45) _) _
        refine wpAnyH_take (i := 5) (v := (.slice (some ⟨b, o', none⟩) 1 cap')) rfl (by kernel_rfl) (by kernel_rfl) (by kernel_rfl) (fun _ _ _ h => h) (Or.inl ⟨by rfl, fun W _ => q_run1 0 (.slice (some ⟨b, o', none⟩) 1 cap') (by simp only [q_same, q_ne, q_sz, hsz, h0, h4, ne_eq, Nat.reduceEqDiff, not_false_eq_true, Nat.reduceLT]) (fun ρ hc _ e1 => by simp [go_sem, hc, e1])⟩) hS ?_
        change wpAnyH _ _ _ _ _ _ _ (Act.put _ (some 47) _) _
        refine wpAnyH_take (i := 6) (v := (.pointer (some ⟨b, o', none⟩))) rfl (by kernel_rfl) (by kernel_rfl) (by kernel_rfl) (fun _ _ _ h => h) (Or.inl ⟨by rfl, fun W _ => q_run1 47 (.slice (some ⟨b, o', none⟩) 1 cap') (by simp only [q_same, q_ne, q_sz, hsz, h0, h4, ne_eq, Nat.reduceEqDiff, not_false_eq_true, Nat.reduceLT]) (fun ρ hc _ e1 => by simp [go_sem, hc, e1, kne])⟩) hS ?_
        change wpAnyH _ _ _ _ _ _ _ (Act.put _ (some 48) _) _
        refine wpAnyH_take (i := 7) (v := (aggD x)) rfl (by kernel_rfl) (by kernel_rfl) (by kernel_rfl) (fun _ _ _ h => h) (yieldsIf_load_mid (by rfl) 59 _ rfl b (o') (by simp only [q_same, q_ne, q_sz, hsz, h0, h4, ne_eq, Nat.reduceEqDiff, not_false_eq_true, Nat.reduceLT]) (bc x) _ (fun W hW => hW.2) ud rfl sx) hS ?_
        change wpAnyH _ _ _ _ _ _ _ (Act.put _ (some 49) _) _
        refine qH_call 4 23 #[aggD x] _ (by kernel_rfl) rfl rfl (q_run1 45 (aggD x) (by simp only [q_same, q_ne, q_sz, hsz, h0, h4, ne_eq, Nat.reduceEqDiff, not_false_eq_true, Nat.reduceLT]) (fun ρ _ hf e1 => by simp [go_sem, hf, e1])) (calls_val (text_d x hx _)) ?_
        rintro _ w1 ⟨rfl, hb1⟩
        have HB1 : Below wr.heap.size wr w1 := HB0.trans (hb1.mono (Nat.le_refl _))
        have hS1 : w1.rangeAt b o' (bc x) ∧ w1.rangeAt b (o') (bc x) := ⟨range_later rx HB1 hbr, range_later rx HB1 hbr⟩
        refine ⟨hS1, ?_⟩
        change wpAnyH _ _ _ _ _ _ _ (Act.put _ (some 46) _) _
        refine qH_call 8 23 #[aggD x] _ (by kernel_rfl) rfl rfl (q_run1 49 (aggD x) (by simp only [q_same, q_ne, q_sz, hsz, h0, h4, ne_eq, Nat.reduceEqDiff, not_false_eq_true, Nat.reduceLT]) (fun ρ _ hf e1 => by simp [go_sem, hf, e1])) (calls_val (text_d x hx _)) ?_
        rintro _ w2 ⟨rfl, hb2⟩
        have HB2 : Below wr.heap.size wr w2 := HB1.trans (hb2.mono HB1.size)
        have hS2 : w2.rangeAt b o' (bc x) ∧ w2.rangeAt b (o') (bc x) := ⟨range_later rx HB2 hbr, range_later rx HB2 hbr⟩
        refine ⟨hS2, ?_⟩
        change wpAnyH _ _ _ _ _ _ _ (Act.put _ (some 50) _) _
        have HB3 : Below wr.heap.size wr (w2.alloc (.cells #[.string x, .string x] 9)) := HB2.alloc HB2.size _
        have hS3 : (w2.alloc (.cells #[.string x, .string x] 9)).rangeAt b o' (bc x) ∧ (w2.alloc (.cells #[.string x, .string x] 9)).rangeAt b (o') (bc x) := ⟨range_later rx HB3 hbr, range_later rx HB3 hbr⟩
        refine qH_one 9 (.slice (some ⟨w2.heap.size, 0, none⟩) 2 2) _ (by kernel_rfl) rfl rfl (q_run2 46 50 (.string x) (.string x) (by simp only [q_same, q_ne, q_sz, hsz, h0, h4, ne_eq, Nat.reduceEqDiff, not_false_eq_true, Nat.reduceLT]) (by simp only [q_same, q_ne, q_sz, hsz, h0, h4, ne_eq, Nat.reduceEqDiff, not_false_eq_true, Nat.reduceLT]) (fun ρ _ _ e1 e2 => by simp [go_sem, e1, e2])) hS3 ?_
        change wpAnyH _ _ _ _ _ _ _ (Act.put _ (some 51) _) _
        refine qH_call 10 27 #[.slice (some ⟨w2.heap.size, 0, none⟩) 2 2] _ (by kernel_rfl) rfl rfl (q_run1 51 (.slice (some ⟨w2.heap.size, 0, none⟩) 2 2) (by simp only [q_same, q_ne, q_sz, hsz, h0, h4, ne_eq, Nat.reduceEqDiff, not_false_eq_true, Nat.reduceLT]) (fun ρ _ hf e1 => by simp [go_sem, hf, e1])) (calls_val (double_two Kc x x w2 (HKT.out _ (HUP.out.hbel.trans (HB2.mono HUP.out.hbel.size))) (by rw [sizes_append x x hx hx]; omega))) ?_
        rintro _ w4 ⟨rfl, hb4⟩
        have HB4 : Below wr.heap.size wr w4 := HB2.trans (hb4.mono HB2.size)
        have hS4 : w4.rangeAt b o' (bc x) ∧ w4.rangeAt b (o') (bc x) := ⟨range_later rx HB4 hbr, range_later rx HB4 hbr⟩
        refine ⟨hS4, ?_⟩
        rw [← hd]
        change wpAnyH _ _ _ _ _ _ _ (Act.put _ (some 52) _) _
        obtain ⟨W5, hW5⟩ : ∃ W, W = w4.alloc (.cells (bc d).toArray 59) := ⟨_, rfl⟩
        have HB5 : Below wr.heap.size wr W5 := by rw [hW5]; exact HB4.alloc HB4.size _
        have hS5 : W5.rangeAt b o' (bc x) ∧ W5.rangeAt b (o') (bc x) := ⟨range_later rx HB5 hbr, range_later rx HB5 hbr⟩
        have hnew : W5.heap[w4.heap.size]? = some (.cells (bc d).toArray 59 (0, 0)) := by rw [hW5]; exact heap_alloc_new w4 _
        refine qH_one 11 (.slice (some ⟨w4.heap.size, 0, none⟩) 1 1) W5 (by kernel_rfl) rfl rfl (by rw [hW5]; exact run_build_d d hd32 w4 rfl (by simp only [q_same, q_ne, q_sz, hsz, h0, h4, ne_eq, Nat.reduceEqDiff, not_false_eq_true, Nat.reduceLT])) hS5 ?_
        change wpAnyH _ _ _ _ _ _ _ (Act.put _ (some 53) _) _
        have hown5 := own_after HUP.out.hown HB5
        have hzz := HUP.out.hbel.size
        have hz5 := HB5.size
        have hul' : up.length + 1 ≤ 301 := by omega
        refine wpAnyH_ready (rs := [12]) (by kernel_rfl) (by simp) (AllReadyH.cons rfl (fun K hK => ?_) AllReadyH.nil)
        refine step_append_lies _ rfl (.tmp 42) (.tmp 53) 72 rfl w.heap.size 59 i0 (.agg (wl .u8 (fun _ => 0) 32).toArray) 32 32 Tryd.underlying72 hi hz0 hz1 hz2 (by kernel_rfl) (by decide) v up.length (flatD up) (by simp only [q_same, q_ne, q_sz, hsz, h0, h4, ne_eq, Nat.reduceEqDiff, not_false_eq_true, Nat.reduceLT]) hown5 ⟨w4.heap.size, 0, none⟩ 1 1 (bc d) (by simp only [q_same, q_ne, q_sz, hsz, h0, h4, ne_eq, Nat.reduceEqDiff, not_false_eq_true, Nat.reduceLT]) (by rw [bc_length, hd32]) (news_d hnew) (bc_one d) (by omega) (by unfold maxLen; omega) (by omega) (by omega) _ rfl ?_
        intro g6 c6 w6 ho6 hgr6 _ _
        have HB6 : Below w.heap.size W5 w6 := (Below.refl _ _).grown hgr6 (by omega) (ownB_ge hown5)
        have HB7 : Below w.heap.size w w6 := HUP.out.hbel.trans ((HB5.mono hzz).trans HB6)
        have hS6 : w6.rangeAt b o' (bc x) ∧ w6.rangeAt b (o') (bc x) := ⟨range_later hS5.1 HB6 hbw, range_later hS5.2 HB6 hbw⟩
        refine hK.out _ _ hS6 (fun _ => ?_)
        change wpAnyH _ _ _ _ _ _ _ (Act.put _ (some 54) _) _
        refine qH_one 13 (.slice (some ⟨g6, 0, none⟩) (up.length + 1) c6) w6 (by kernel_rfl) rfl rfl (q_run1 54 (.slice (some ⟨g6, 0, none⟩) (up.length + 1) c6) (by simp only [q_same, q_ne, q_sz, hsz, h0, h4, ne_eq, Nat.reduceEqDiff, not_false_eq_true, Nat.reduceLT]) (fun ρ _ _ e1 => by simp [go_sem, e1])) hS6 ?_
        change wpAnyH _ _ _ _ _ _ _ (Act.put _ (some 4) _) _
        refine wpAnyH_done (by kernel_rfl) ?_ _
        have HFIN : Hid (up ++ [d] = U ∧ (∀ s ∈ up ++ [d], s.size = 32) ∧ w6.ownsRow w.heap.size 59 32 (.slice (some ⟨g6, 0, none⟩) (up.length + 1) c6) (up.length + 1) (flatD (up ++ [d])) ∧ Below w.heap.size w w6 ∧ t = tw) := by
          have hU0 := HUP.out
          refine ⟨?_, ?_, ?_, HB7, ?_⟩
          · have := hU0.hup; rw [upev_one, ← hd] at this; exact this
          · intro s hs
            rcases List.mem_append.1 hs with h | h
            · exact hU0.u32 s h
            · simp at h; rw [h]; exact hd32
          · rw [flatD_snoc]; exact ho6
          · have := hU0.htw; simp [twinL] at this; exact this
        have hfr := HFR.out
        clear HFR hsz h0 h4 hS hS1 hS2 hS3 hS4 hS5 hS6 rx ud sx lx HB0 HB1 HB2 HB3 HB4 HB5 HB6 HB7 hi hz0 hz1 hz2 hb1 hb2 hb4 hown5 ho6 hgr6 hnew hW5 hzz hz5 hd
        subst hfr
        simp only [Act.put, List.setIfInBounds_toArray, List.set_cons_zero, List.set_cons_succ]
        go_wp2
        go_ret2
        obtain ⟨f1, f2, f3, f4, f5⟩ := HFIN.out
        have hl : U.length = up.length + 1 := by rw [← f1]; simp
        rw [f1] at f2 f3
        refine ⟨g6, c6, by rw [hl, f5]; rfl, by rw [hl]; exact own_cap f3, ?_, f4⟩
        exact own_drow hl f2 f3
      · have h2' : gk = 0 := by omega
        subst h2'
        have hr0 : r = [] := List.eq_nil_of_length_eq_zero hrl
        subst hr0
        have HFIN : Hid (up = U ∧ (∀ s ∈ up, s.size = 32) ∧ wr.ownsRow w.heap.size 59 32 v up.length (flatD up) ∧ Below w.heap.size w wr ∧ t = tw) := by
          have hU0 := HUP.out
          refine ⟨?_, hU0.u32, hU0.hown, hU0.hbel, ?_⟩
          · have := hU0.hup; rw [upev_nil, List.append_nil] at this; exact this
          · have := hU0.htw; simp [twinL] at this; exact this
        clear HUP hrl hul HINF
        go_wp2
        go_ret2
        obtain ⟨f1, f2, f3, f4, f5⟩ := HFIN.out
        rw [f1] at f2 f3
        obtain ⟨g, c, rfl, _, _⟩ := f3.form (by have := HUL.out; omega)
        refine ⟨g, c, by rw [f5]; rfl, own_cap f3, own_drow rfl f2 f3, f4⟩
end Go.Proofs.YtkmalggeieiepabDoor
namespace Go.Proofs.YtkmalggeieiepabDoor
open Go.RowKit

theorem up_all {p : ByteArray → Prop} (d : ByteArray → ByteArray) (hd : ∀ t, p (d t)) : ∀ l : List ByteArray, ∀ s ∈ upL d l, p s
  | [], s, h => by cases h
  | [_], s, h => by cases h
  | a :: b :: r, s, h => by
    rcases List.mem_cons.1 h with rfl | h
    · exact hd _
    · exact up_all d hd r s h

/-- the root is under way. -/
structure Rt (Kc : Nat → Int) (w wx : World) (R : ByteArray × Bool) (m : List ByteArray) (b' o' cap' : Nat) (t : Bool) : Prop where
  hne : 0 < m.length
  hlen : m.length ≤ 300
  hcap : m.length ≤ cap'
  h32 : ∀ s ∈ m, s.size = 32
  hrow : DRow wx b' o' m
  hR : rootF (dd Kc) m t = R
  harr : Arr .u8 wx w.heap.size (fun _ => 0) 32
  hbel : Below w.heap.size w wx

set_option maxRecDepth 10000 in
set_option maxHeartbeats 2000000 in
theorem hroot_any (Kc : Nat → Int) (l : List ByteArray) (b o cap : Nat) (w : World) (hrow : DRow w b o l) (hne : 0 < l.length) (hlen : l.length ≤ 300) (hcap : l.length ≤ cap) (h32 : ∀ s ∈ l, s.size = 32) (hkt : KT Kc w) :
    Calls Tryd.prog 31 #[.slice (some ⟨b, o, none⟩) l.length cap] w fun e w' => e = .returned (.tuple #[aggD (rootF (dd Kc) l false).1, .bool (rootF (dd Kc) l false).2]) ∧ (rootF (dd Kc) l false).1.size = 32 ∧ Below w.heap.size w w' := by
  have hbw : b < w.heap.size := hrow.lt hne h32
  obtain ⟨n, hn⟩ : ∃ n, n = l.length := ⟨_, rfl⟩
  have HP : Hid (∀ (m : List ByteArray) (b o cap : Nat) (W : World), DRow W b o m → 0 < m.length → m.length ≤ 300 → m.length ≤ cap → (∀ s ∈ m, s.size = 32) → Below w.heap.size w W → Calls Tryd.prog 56 #[.slice (some ⟨b, o, none⟩) m.length cap] W fun e w' => ∃ g cap', e = .returned (.tuple #[.slice (some ⟨g, 0, none⟩) (upL (dd Kc) (evL m)).length cap', .bool (twinL m)]) ∧ (upL (dd Kc) (evL m)).length ≤ cap' ∧ DRow w' g 0 (upL (dd Kc) (evL m)) ∧ Below W.heap.size W w') :=
    fun m b o cap W h1 h2 h3 h4 h5 h6 => pairUp_any Kc m b o cap W h1 h2 h3 h4 h5 (hkt.later h6 (World.block_lt_of_cell? w _ (hkt 0 (by omega))))
  obtain ⟨R, hR⟩ : ∃ R, R = rootF (dd Kc) l false := ⟨_, rfl⟩
  rw [← hR]
  have hlz : ((l.length : Int) == 0) = false := by rw [beq_eq_false_iff_ne]; omega
  go_enter Tryd.func31, Tryd.ntmps31
  go_upto_region 1 with fail
  obtain ⟨W0, hW0⟩ : ∃ W, W = w.alloc (.cells #[.int .u8 0, .int .u8 0, .int .u8 0, .int .u8 0, .int .u8 0, .int .u8 0, .int .u8 0, .int .u8 0, .int .u8 0, .int .u8 0, .int .u8 0, .int .u8 0, .int .u8 0, .int .u8 0, .int .u8 0, .int .u8 0, .int .u8 0, .int .u8 0, .int .u8 0, .int .u8 0, .int .u8 0, .int .u8 0, .int .u8 0, .int .u8 0, .int .u8 0, .int .u8 0, .int .u8 0, .int .u8 0, .int .u8 0, .int .u8 0, .int .u8 0, .int .u8 0] 59) := ⟨_, rfl⟩
  have hA0 : Arr .u8 W0 w.heap.size (fun _ => 0) 32 := by rw [hW0]; exact Arr.new w _ 32 _ _ (by rfl)
  have hB0 : Below w.heap.size w W0 := by rw [hW0]; exact (Below.refl _ _).alloc (Nat.le_refl _) _
  have HS : Hid (Rt Kc w W0 R l b o cap false) := ⟨hne, hlen, hcap, h32, hrow.later hB0 hbw, hR.symm, hA0, hB0⟩
  have HLN : Hid (l.length = n) := hn.symm
  rw [← hW0]
  rw [← hn] at hlz
  rw [← hn]
  clear hW0 hA0 hB0 hR hrow h32 hkt hcap hbw hne hlen hn
  go_upto_region 4 with fail
  go_loopg [4, 5, 6, 7] n (fun g rv tv _ _ wx => ∃ (m : List ByteArray) (b' o' cap' : Nat) (t : Bool), rv = .slice (some ⟨b', o', none⟩) g cap' ∧ tv = .bool t ∧ m.length = g ∧ Rt Kc w wx R m b' o' cap' t)
  case atStart => exact ⟨l, b, o, cap, false, rfl, rfl, HLN.out, HS.out⟩
  case round =>
    clear HS HLN hlz
    obtain ⟨m, b', o', cap', t, rfl, rfl, hml, hrt⟩ := hrel
    have HRT : Hid (Rt Kc w wr R m b' o' cap' t) := hrt
    have hne := hrt.hne
    rw [hml] at hne
    by_cases h1 : 1 < gk
    · have k1 : (1 : Int) < (gk : Int) := by omega
      have hc := HP.out m b' o' cap' wr hrt.hrow hrt.hne hrt.hlen hrt.hcap hrt.h32 hrt.hbel
      have hup : (upL (dd Kc) (evL m)).length < m.length ∧ 0 < (upL (dd Kc) (evL m)).length := up_lt (dd Kc) m (by omega)
      have HUPL : Hid ((upL (dd Kc) (evL m)).length < gk) := by show _ < _; omega
      have HNX : Hid (∀ (g cap'' : Nat) (w' : World), (upL (dd Kc) (evL m)).length ≤ cap'' → DRow w' g 0 (upL (dd Kc) (evL m)) → Below wr.heap.size wr w' → Rt Kc w w' R (upL (dd Kc) (evL m)) g 0 cap'' (t || twinL m)) := fun g cap'' w' hc' hd' hb' => by
        have h := HRT.out
        have hz := h.hbel.size
        refine ⟨hup.2, by have := h.hlen; omega, hc', up_all (p := fun s => s.size = 32) (dd Kc) (dd_size Kc) _, hd', ?_, h.harr.later hb' (h.harr.lt (by omega)), h.hbel.trans (hb'.mono hz)⟩
        rw [← rootF_up (dd Kc) m t (by omega)]; exact h.hR
      rw [hml] at hc
      clear hrt HRT hup hml
      generalize upL (dd Kc) (evL m) = U at hc HUPL HNX
      generalize twinL m = T at hc HNX
      cases t
      · go_wp2_with (go_at_call 56; go_must (refine hc.mono ?_); rintro e w1 ⟨g1, c1, rfl, hc1, hd1, hb1⟩; have HN1 := (show Hid (Rt Kc w w1 R U g1 0 c1 (false || T)) from HNX.out g1 c1 w1 hc1 hd1 hb1); clear hc1 hd1 hb1)
        go_roundg U.length
        case measure => exact HUPL.out
        case rel => exact ⟨U, g1, 0, c1, false || T, rfl, by simp, rfl, HN1.out⟩
      · go_wp2_with (go_at_call 56; go_must (refine hc.mono ?_); rintro e w1 ⟨g1, c1, rfl, hc1, hd1, hb1⟩; have HN1 := (show Hid (Rt Kc w w1 R U g1 0 c1 (true || T)) from HNX.out g1 c1 w1 hc1 hd1 hb1); clear hc1 hd1 hb1)
        go_roundg U.length
        case measure => exact HUPL.out
        case rel => exact ⟨U, g1, 0, c1, true || T, rfl, by simp, rfl, HN1.out⟩
    · have hg1 : gk = 1 := by omega
      subst hg1
      obtain ⟨x, rfl⟩ : ∃ x, m = [x] := by
        match m, hml with
        | [x], _ => exact ⟨x, rfl⟩
        | [], h => simp at h
        | _ :: _ :: _, h => simp at h
      have hx : x.size = 32 := hrt.h32 x List.mem_cons_self
      have HX : Hid (wr.rangeAt b' o' (wl .u8 (byF x) 32)) := by show wr.rangeAt _ _ _; rw [← bc_wl x 32 hx]; exact hrt.hrow 0 (by simp)
      have HRE : Hid (R = (x, t)) := by show R = _; rw [← hrt.hR]; exact rootF_one (dd Kc) [x] t rfl
      have HA : Hid (Arr .u8 wr w.heap.size (fun _ => 0) 32) := hrt.harr
      have HB : Hid (Below w.heap.size w wr) := hrt.hbel
      have HX2 : Hid (aggD x = .agg (wl .u8 (byF x) 32).toArray ∧ x.size = 32) := ⟨by unfold aggD; rw [bc_wl x 32 hx], hx⟩
      clear hrt HRT hml hne hx
      go_wp2_with (first
        | (refine wpList_load_mid rfl 59 _ rfl b' o' rfl (wl .u8 (byF x) 32) _ HX.out Tryd.underlying59 rfl ?_ ?_; (rw [wl_length]; exact sizeDig))
        | (refine wpList_store_arr rfl 59 _ _ rfl w.heap.size .u8 (fun _ => 0) (byF x) 32 rfl rfl ?_ sizeDig ?_; exact HA.out))
      refine bodyPost_ret (results_arr2 Tryd.results31 _ _ w.heap.size .u8 (byF x) 32 _ _ rfl rfl (HA.out.all _) Tryd.underlying59 rfl sizeDig) rfl ⟨by rw [HRE.out, HX2.out.1]; rfl, by rw [HRE.out]; exact HX2.out.2, ?_⟩
      exact below_setCells HB.out _ (Nat.le_refl _) _ _
end Go.Proofs.YtkmalggeieiepabDoor
namespace Go.Proofs.YtkmalggeieiepabDoor
open Go.RowKit

theorem wpList_build_d {ops : Array Oper} {rest : List Oper} {o : Oper} {a : Act} {w : World} {Q : Exit → Act → World → Prop} (hg : o.guard = none) (k : Nat) (ho : o.op = .buildSlice 72 1 #[(0, .tmp k)]) (d : ByteArray) (hd : d.size = 32) (hv : a.eval (.tmp k) = aggD d)
    (h : wpList Tryd.prog ops Q rest (a.put o.dst (.slice (some ⟨w.heap.size, 0, none⟩) 1 1)) (w.alloc (.cells (bc d).toArray 59))) : wpList Tryd.prog ops Q (o :: rest) a w := by
  refine wpList_plain hg fun K hK => ?_
  unfold Oper.wp
  rw [run_build_d d hd w ho hv]
  exact hK _ _ h
theorem rootL_size (d : ByteArray → ByteArray) (hd : ∀ t, (d t).size = 32) : ∀ (n : Nat) (l : List ByteArray) (t : Bool), 0 < l.length → l.length ≤ n + 1 → (∀ s ∈ l, s.size = 32) → (rootL d n l t).1.size = 32 := by
  have one : ∀ l : List ByteArray, 0 < l.length → (∀ s ∈ l, s.size = 32) → (l.getD 0 ByteArray.empty).size = 32 := fun l h0 h => by
    cases l with
    | nil => simp at h0
    | cons x l => exact h x List.mem_cons_self
  intro n
  induction n with
  | zero => intro l t h0 _ h; exact one l h0 h
  | succ n ih =>
    intro l t h0 h1 h
    show (if 1 < l.length then rootL d n (upL d (evL l)) (t || twinL l) else (l.getD 0 ByteArray.empty, t)).1.size = 32
    by_cases h2 : 1 < l.length
    · rw [if_pos h2]
      have := up_lt d l h2
      exact ih _ _ this.2 (by omega) (up_all (p := fun s => s.size = 32) d hd _)
    · rw [if_neg h2]; exact one l h0 h
theorem rootF_size (d : ByteArray → ByteArray) (hd : ∀ t, (d t).size = 32) (l : List ByteArray) (t : Bool) (h0 : 0 < l.length) (h : ∀ s ∈ l, s.size = 32) : (rootF d l t).1.size = 32 := rootL_size d hd l.length l t h0 (by omega) h
/-- what Root answers. -/
def rootRes (Kc : Nat → Int) (l : List ByteArray) : Array Value :=
  if l.length ≠ 0 ∧ ∀ s ∈ l, s.size = 32 then #[.string (rootF (dd Kc) l false).1, .bool (rootF (dd Kc) l false).2, .int .i64 0] else #[.string ByteArray.empty, .bool false, .int .i64 3]
theorem results3 {fn : Func} {t u v : Tmp} (h : fn.results = #[.tmp t, .tmp u, .tmp v]) (tmps : Array Value) (P : Program) (w : World) :
    (results fn tmps).run P w = .ok (.tuple #[tmps.getD t undef, tmps.getD u undef, tmps.getD v undef]) w := by
  simp [results, h]

theorem rroot_nil (Kc : Nat → Int) (a : Option Addr) (cap : Nat) (w : World) :
    Calls Tryd.prog 18 #[.slice a 0 cap] w fun e w' => e = .returned (.tuple (rootRes Kc [])) ∧ Below w.heap.size w w' := by
  have e0 : rootRes Kc [] = #[.string ByteArray.empty, .bool false, .int .i64 3] := by simp [rootRes]
  rw [e0]
  go_enter Tryd.func18, Tryd.ntmps18
  go_wp2
  refine bodyPost_ret (results3 Tryd.results18 _ _ _) rfl ⟨rfl, Below.refl _ _⟩

set_option maxRecDepth 10000 in
set_option maxHeartbeats 2000000 in
theorem rroot_any (Kc : Nat → Int) (l : List ByteArray) (b o cap : Nat) (w : World) (hrow : SRow w b o l) (hne : 0 < l.length) (hlen : l.length ≤ 300) (hkt : KT Kc w) :
    Calls Tryd.prog 18 #[.slice (some ⟨b, o, none⟩) l.length cap] w fun e w' => e = .returned (.tuple (rootRes Kc l)) ∧ Below w.heap.size w w' := by
  obtain ⟨i0, hi, hz0, hz1, hz2⟩ := info_parts infoDig
  have HINF : Hid (Tryd.prog.info? 59 = some i0 ∧ i0.zero = some (Value.agg (wl IntKind.u8 (fun _ => 0) 32).toArray) ∧ i0.size = 32 ∧ i0.bytes = 32) := ⟨hi, hz0, hz1, hz2⟩
  have hbw : b < w.heap.size := hrow.lt hne
  have HROW : Hid (∀ wx, Below w.heap.size w wx → SRow wx b o l) := fun wx hb => hrow.later hb hbw
  have HKT : Hid (∀ wx, Below w.heap.size w wx → KT Kc wx) := fun wx hb => hkt.later hb (World.block_lt_of_cell? w _ (hkt 0 (by omega)))
  obtain ⟨n, hn⟩ : ∃ n, n = l.length := ⟨_, rfl⟩
  have HN : Hid (n = l.length) := hn
  have hlz : ((n : Int) == 0) = false := by rw [beq_eq_false_iff_ne]; omega
  rw [← hn]
  rw [← hn] at hne hlen
  clear hi hz0 hz1 hz2 hrow hkt hn
  go_enter Tryd.func18, Tryd.ntmps18
  go_upto_region 5 with fail
  go_loopg [5, 7, 8, 9, 17] n (fun g dv _ _ _ iv wx => ∃ (k : Nat) (v : Value), k + g = n ∧ iv = .int .i64 (k : Int) ∧ v = dv ∧ wx.ownsRow w.heap.size 59 32 v k (flatD (l.take k)) ∧ (∀ s ∈ l.take k, s.size = 32) ∧ Below w.heap.size w wx)
  case atStart => exact ⟨0, _, by omega, rfl, rfl, World.ownsRow_nil _ _ _ _, (fun s hs => by simp at hs), Below.refl _ _⟩
  case round =>
    obtain ⟨k, v, hkn, rfl, rfl, hown, h32, hbel⟩ := hrel
    have HOWN : Hid (wr.ownsRow w.heap.size 59 32 v k (flatD (l.take k))) := hown
    have H32 : Hid (∀ s ∈ l.take k, s.size = 32) := h32
    have HB : Hid (Below w.heap.size w wr) := hbel
    have HKN : Hid (k + gk = n) := hkn
    clear hown h32 hbel hlz
    by_cases hlt : k < n
    · have k1 : (k : Int) < (n : Int) := by omega
      have hkl : k < l.length := by have := HN.out; omega
      obtain ⟨s, hs⟩ : ∃ s, s = l[k] := ⟨_, rfl⟩
      have HSK : Hid (l.take (k + 1) = l.take k ++ [s]) := by show _ = _; rw [hs, List.take_succ_eq_append_getElem hkl]
      have HSM : Hid (s ∈ l) := by show _ ∈ _; rw [hs]; exact List.getElem_mem hkl
      have cs : wr.cell? ⟨b, o + k, none⟩ = some (.string s) := by rw [hs]; exact HROW.out wr HB.out k hkl
      clear hs hkl hkn
      by_cases h : s.size = 32
      · have HD : Hid (∀ W, Calls Tryd.prog 29 #[.string s] W fun e w' => e = .returned (.tuple #[.agg (wl .u8 (byF s) 32).toArray, .bool true]) ∧ Below W.heap.size W w') := fun W => by
          have := digestOf_ok s W h
          unfold aggD at this; rw [bc_wl s 32 h] at this; exact this
        go_upto_region 7 with fail
        clear cs
        go_upto_region 8 with (first
          | (go_at_call 29; go_must (refine (HD.out _).mono ?_); rintro e w1 ⟨rfl, hb1⟩; have HB1 := (show Hid (Below w.heap.size w w1) from HB.out.trans (hb1.mono HB.out.size)); have HB1r := (show Hid (Below wr.heap.size wr w1) from hb1); clear hb1)
          | (refine wpList_store_arr rfl 59 _ _ rfl w1.heap.size .u8 (fun _ => 0) (byF s) 32 rfl rfl ?_ sizeDig ?_; exact Arr.new _ _ 32 _ _ (by rfl)))
        obtain ⟨W2, hW2⟩ : ∃ W, W = (w1.alloc (.cells #[.int .u8 0, .int .u8 0, .int .u8 0, .int .u8 0, .int .u8 0, .int .u8 0, .int .u8 0, .int .u8 0, .int .u8 0, .int .u8 0, .int .u8 0, .int .u8 0, .int .u8 0, .int .u8 0, .int .u8 0, .int .u8 0, .int .u8 0, .int .u8 0, .int .u8 0, .int .u8 0, .int .u8 0, .int .u8 0, .int .u8 0, .int .u8 0, .int .u8 0, .int .u8 0, .int .u8 0, .int .u8 0, .int .u8 0, .int .u8 0, .int .u8 0, .int .u8 0] 59)).setCells w1.heap.size 0 (wl .u8 (byF s) 32) := ⟨_, rfl⟩
        have HX : Hid (W2.rangeAt w1.heap.size 0 (bc s)) := by
          show W2.rangeAt _ _ _
          rw [hW2, bc_wl s 32 h]; exact ((Arr.new w1 (fun _ => 0) 32 #[.int .u8 0, .int .u8 0, .int .u8 0, .int .u8 0, .int .u8 0, .int .u8 0, .int .u8 0, .int .u8 0, .int .u8 0, .int .u8 0, .int .u8 0, .int .u8 0, .int .u8 0, .int .u8 0, .int .u8 0, .int .u8 0, .int .u8 0, .int .u8 0, .int .u8 0, .int .u8 0, .int .u8 0, .int .u8 0, .int .u8 0, .int .u8 0, .int .u8 0, .int .u8 0, .int .u8 0, .int .u8 0, .int .u8 0, .int .u8 0, .int .u8 0, .int .u8 0] 59 (by rfl)).all (byF s)).range
        have HB2 : Hid (Below wr.heap.size wr W2) := by
          show Below _ _ _
          rw [hW2]; exact below_setCells (HB1r.out.alloc HB1r.out.size _) _ HB1r.out.size _ _
        rw [← hW2]
        clear hW2 HD HB1 HB1r
        have hnew : ∀ W : World, (W.alloc (.cells (bc s).toArray 59)).heap[W.heap.size]? = some (.cells (bc s).toArray 59 (0, 0)) := fun W => heap_alloc_new W _
        have HB3 : Hid (Below wr.heap.size wr (W2.alloc (.cells (bc s).toArray 59))) := HB2.out.alloc HB2.out.size _
        have HO3 : Hid ((W2.alloc (.cells (bc s).toArray 59)).ownsRow w.heap.size 59 32 v k (flatD (l.take k))) := own_after HOWN.out HB3.out
        have HNW : Hid (∀ j u, (bc s)[j]? = some u → (W2.alloc (.cells (bc s).toArray 59)).cell? ((⟨W2.heap.size, 0, none⟩ : Addr).add j) = some u) := news_d (hnew W2)
        have HSS : Hid (s.size = 32) := h
        have HZ : Hid (w.heap.size ≤ (W2.alloc (.cells (bc s).toArray 59)).heap.size) := by
          have h1 := HB.out.size
          have h2 := HB3.out.size
          show _ ≤ _; omega
        clear hnew h
        go_upto_region 11 with (first
          | (refine wpList_load_mid rfl 59 _ rfl w1.heap.size 0 rfl (bc s) _ HX.out Tryd.underlying59 rfl ?_ ?_; (rw [bc_length, HSS.out]; exact sizeDig))
          | (refine wpList_build_d rfl 29 rfl s HSS.out rfl ?_)
          | (at_builtin; go_must (refine wpList_append_lies _ rfl _ _ 72 rfl w.heap.size 59 i0 (.agg (wl .u8 (fun _ => 0) 32).toArray) 32 32 Tryd.underlying72 HINF.out.1 HINF.out.2.1 HINF.out.2.2.1 HINF.out.2.2.2 (by kernel_rfl) (by decide) v k (flatD (l.take k)) rfl HO3.out ⟨W2.heap.size, 0, none⟩ 1 1 (bc s) rfl (by rw [bc_length, HSS.out]) HNW.out (bc_one s) (by omega) (by unfold maxLen; omega) (by omega) HZ.out _ rfl ?_); intro g4 c4 w4 ho hgr hat hlt4; have HO4 := (show Hid (w4.ownsRow w.heap.size 59 32 (.slice (some ⟨g4, 0, none⟩) (k + 1) c4) (k + 1) (flatD (l.take k) ++ bc s)) from ho); have HB4 := (show Hid (Below w.heap.size w w4) from (HB.out.trans (HB3.out.mono HB.out.size)).grown hgr HZ.out (ownB_ge HO3.out)); clear ho hgr hat hlt4))
        go_wp2
        go_roundg (gk - 1)
        case measure => have := HKN.out; omega
        case rel =>
          have hk := HKN.out
          refine ⟨k + 1, _, by omega, by go_num, rfl, ?_, ?_, HB4.out⟩
          · rw [HSK.out, flatD_snoc]; exact HO4.out
          · rw [HSK.out]
            intro x hx
            rcases List.mem_append.1 hx with hx | hx
            · exact H32.out x hx
            · simp at hx; rw [hx]; exact HSS.out
      · have HD : Hid (∀ W, Calls Tryd.prog 29 #[.string s] W fun e w' => e = .returned (.tuple #[.agg (wl .u8 (fun _ => 0) 32).toArray, .bool false]) ∧ Below W.heap.size W w') := fun W => digestOf_no s W h
        have HE : Hid (rootRes Kc l = #[.string ByteArray.empty, .bool false, .int .i64 3]) := by
          show _ = _
          unfold rootRes; rw [if_neg (fun h2 => h (h2.2 s HSM.out))]
        go_upto_region 7 with fail
        clear cs
        go_wp2_with (first
          | (go_at_call 29; go_must (refine (HD.out _).mono ?_); rintro e w1 ⟨rfl, hb1⟩; have HB1 := (show Hid (Below w.heap.size w w1) from HB.out.trans (hb1.mono HB.out.size)); clear hb1)
          | (refine wpList_store_arr rfl 59 _ _ rfl w1.heap.size .u8 (fun _ => 0) (fun _ => 0) 32 rfl rfl ?_ sizeDig ?_; exact Arr.new _ _ 32 _ _ (by rfl)))
        refine bodyPost_ret (results3 Tryd.results18 _ _ _) rfl ⟨by rw [HE.out]; rfl, ?_⟩
        exact below_setCells (HB1.out.alloc HB1.out.size _) _ HB1.out.size _ _
    · have hkn' : k = n := by omega
      subst hkn'
      have htk : l.take k = l := by rw [HN.out]; exact List.take_length
      have HE : Hid (rootRes Kc l = #[.string (rootF (dd Kc) l false).1, .bool (rootF (dd Kc) l false).2, .int .i64 0]) := by
        have h := H32.out
        rw [htk] at h
        show _ = _
        unfold rootRes; rw [if_pos ⟨by have := HN.out; omega, h⟩]
      obtain ⟨g, c, rfl, _, _⟩ := HOWN.out.form hne
      have hroot := by
        have h := HOWN.out
        have h2 := H32.out
        rw [htk] at h h2
        exact hroot_any Kc l g 0 c wr (own_drow HN.out.symm h2 h) (by rw [← HN.out]; exact hne) (by rw [← HN.out]; exact hlen) (by rw [← HN.out]; exact own_cap HOWN.out) h2 (HKT.out wr HB.out)
      rw [← HN.out] at hroot
      have hlz2 : ¬ ((k : Int) < (k : Int)) := by omega
      have hRs : (rootF (dd Kc) l false).1.size = 32 := by
        have h2 := H32.out
        rw [htk] at h2
        exact rootF_size (dd Kc) (dd_size Kc) l false (by rw [← HN.out]; exact hne) h2
      clear HOWN H32 HROW htk hlt hkn HKN
      generalize rootF (dd Kc) l false = R at hroot HE hRs
      have HRS : Hid (aggD R.1 = .agg (wl .u8 (byF R.1) 32).toArray ∧ R.1.size = 32) := ⟨by unfold aggD; rw [bc_wl R.1 32 hRs], hRs⟩
      rw [HRS.out.1] at hroot
      have HTX : Hid (∀ W, Calls Tryd.prog 23 #[.agg (wl .u8 (byF R.1) 32).toArray] W fun e w' => e = .returned (.string R.1) ∧ Below W.heap.size W w') := fun W => by
        have := text_d R.1 hRs W
        rw [HRS.out.1] at this; exact this
      clear hRs HRS
      go_upto_region 13 with (first
        | (go_at_call 31; go_must (refine hroot.mono ?_); rintro e w1 ⟨rfl, _, hb1⟩; have HB1 := (show Hid (Below w.heap.size w w1) from HB.out.trans (hb1.mono HB.out.size)); clear hb1)
        | (refine wpList_store_arr rfl 59 _ _ rfl w1.heap.size .u8 (fun _ => 0) (byF R.1) 32 rfl rfl ?_ sizeDig ?_; exact Arr.new _ _ 32 _ _ (by rfl)))
      obtain ⟨W2, hW2⟩ : ∃ W, W = (w1.alloc (.cells #[.int .u8 0, .int .u8 0, .int .u8 0, .int .u8 0, .int .u8 0, .int .u8 0, .int .u8 0, .int .u8 0, .int .u8 0, .int .u8 0, .int .u8 0, .int .u8 0, .int .u8 0, .int .u8 0, .int .u8 0, .int .u8 0, .int .u8 0, .int .u8 0, .int .u8 0, .int .u8 0, .int .u8 0, .int .u8 0, .int .u8 0, .int .u8 0, .int .u8 0, .int .u8 0, .int .u8 0, .int .u8 0, .int .u8 0, .int .u8 0, .int .u8 0, .int .u8 0] 59)).setCells w1.heap.size 0 (wl .u8 (byF R.1) 32) := ⟨_, rfl⟩
      have HX : Hid (Arr .u8 W2 w1.heap.size (byF R.1) 32) := by
        show Arr _ _ _ _ _
        rw [hW2]; exact (Arr.new w1 (fun _ => 0) 32 #[.int .u8 0, .int .u8 0, .int .u8 0, .int .u8 0, .int .u8 0, .int .u8 0, .int .u8 0, .int .u8 0, .int .u8 0, .int .u8 0, .int .u8 0, .int .u8 0, .int .u8 0, .int .u8 0, .int .u8 0, .int .u8 0, .int .u8 0, .int .u8 0, .int .u8 0, .int .u8 0, .int .u8 0, .int .u8 0, .int .u8 0, .int .u8 0, .int .u8 0, .int .u8 0, .int .u8 0, .int .u8 0, .int .u8 0, .int .u8 0, .int .u8 0, .int .u8 0] 59 (by rfl)).all (byF R.1)
      have HB2 : Hid (Below w.heap.size w W2) := by
        show Below _ _ _
        rw [hW2]; exact below_setCells (HB1.out.alloc HB1.out.size _) _ HB1.out.size _ _
      rw [← hW2]
      clear hW2 HB1
      go_wp2_with (first
        | (refine wpList_load_arr rfl 59 _ rfl w1.heap.size rfl .u8 (byF R.1) 32 _ ?_ Tryd.underlying59 rfl sizeDig ?_; exact HX.out)
        | (go_at_call 23; go_must (refine (HTX.out _).mono ?_); rintro e w3 ⟨rfl, hb3⟩; have HB3 := (show Hid (Below w.heap.size w w3) from HB2.out.trans (hb3.mono HB2.out.size)); clear hb3))
      refine bodyPost_ret (results3 Tryd.results18 _ _ _) rfl ⟨by rw [HE.out]; rfl, HB3.out⟩
end Go.Proofs.YtkmalggeieiepabDoor
namespace Go.Proofs.YtkmalggeieiepabDoor
open Go.RowKit

/-- a slice of these texts. -/
def SVal (w : World) (v : Value) (l : List ByteArray) : Prop := ∃ (a : Option Addr) (cap : Nat), v = .slice a l.length cap ∧ l.length ≤ cap ∧ (0 < l.length → ∃ b o, a = some ⟨b, o, none⟩ ∧ SRow w b o l)
theorem SVal.later {w w' : World} {v : Value} {l : List ByteArray} (h : SVal w v l) (hb : Below w.heap.size w w') : SVal w' v l := by
  obtain ⟨a, cap, hv, hc, hr⟩ := h
  refine ⟨a, cap, hv, hc, fun h0 => ?_⟩
  obtain ⟨b, o, ha, hs⟩ := hr h0
  exact ⟨b, o, ha, hs.later hb (hs.lt h0)⟩
theorem own_sval {w : World} {base e : Nat} {v : Value} {l : List ByteArray} (h : w.ownsRow base e 1 v l.length (strV l)) : SVal w v l := by
  have h' := h
  rcases h.2 with ⟨hv, h0⟩ | ⟨g, cap, cur, hv, _, _, hle, _⟩
  · exact ⟨none, 0, by rw [hv, h0], by omega, fun h1 => by omega⟩
  · subst hv
    exact ⟨_, cap, rfl, hle, fun _ => ⟨g, 0, rfl, own_srow rfl h'⟩⟩

end Go.Proofs.YtkmalggeieiepabDoor
set_option linter.unusedSimpArgs false
set_option linter.unusedVariables false
namespace Go.Proofs.YtkmalggeieiepabDoor
open Go.RowKit

theorem one_s3 (W : World) (s : ByteArray) : ∀ j u, [Value.string s][j]? = some u → (W.alloc (.cells #[.string s] 9)).cell? ((⟨W.heap.size, 0, none⟩ : Addr).add j) = some u := World.news_of_block (heap_alloc_new W _)
theorem one_sc3 (s : ByteArray) : ∀ u ∈ [Value.string s], u.oneCell' = true := by intro u hu; simp at hu; subst hu; rfl
theorem results4 {fn : Func} {t u v x : Tmp} (h : fn.results = #[.tmp t, .tmp u, .tmp v, .tmp x]) (tmps : Array Value) (P : Program) (w : World) :
    (results fn tmps).run P w = .ok (.tuple #[tmps.getD t undef, tmps.getD u undef, tmps.getD v undef, tmps.getD x undef]) w := by
  simp [results, h]
/-- a block's bytes. -/
def blkL (Kc : Nat → Int) (ts : List ByteArray) (seed : Int) : List UInt8 :=
  kbL 36 seed ++ (rootF (dd Kc) (ts.map (dd Kc)) false).1.data.toList ++ kbL 12 (seed + 1) ++ [UInt8.ofNat ts.length] ++ catL ts

set_option maxRecDepth 10000 in
set_option maxHeartbeats 4000000 in
theorem block_any (Kc : Nat → Int) (ts : List ByteArray) (seed : Int) (b o cap : Nat) (w : World) (hkt : KT Kc w) (hrow : SRow w b o ts) (h0 : 0 < ts.length) (h16 : ts.length ≤ 16) (hok : ∀ t ∈ ts, txErr t.data.toList = 0) (hs1 : -1000 ≤ seed) (hs2 : seed ≤ 1000) :
    Calls Tryd.prog 19 #[.slice (some ⟨b, o, none⟩) ts.length cap, .int .i64 seed] w fun e w' => (∃ v, e = .returned (.tuple #[.string (ofL (blkL Kc ts seed)), v, .bool (rootF (dd Kc) (ts.map (dd Kc)) false).2, .bool true])) ∧ Below w.heap.size w w' := by
  obtain ⟨i0, hi, hz0, hz1, hz2⟩ := info_parts infoStr
  have hpos : 0 < w.heap.size := World.block_lt_of_cell? w _ (hkt 0 (by omega))
  have hbw : b < w.heap.size := hrow.lt h0
  have HROW : Hid (SRow w b o ts) := hrow
  have HKT : Hid (∀ V, Below w.heap.size w V → KT Kc V) := fun V hV => hkt.later hV hpos
  have HOK : Hid (∀ t ∈ ts, txErr t.data.toList = 0) := hok
  have HSM : Hid (∀ t ∈ ts, t.size ≤ 610) := fun t ht => by have h1 := txErr_len _ (hok t ht); exact h1
  have HBL : Hid (blkL Kc ts seed = kbL 36 seed ++ (rootF (dd Kc) (ts.map (dd Kc)) false).1.data.toList ++ kbL 12 (seed + 1) ++ [UInt8.ofNat ts.length] ++ catL ts) := rfl
  have HRS : Hid ((rootF (dd Kc) (ts.map (dd Kc)) false).1.size = 32) := rootF_size (dd Kc) (dd_size Kc) _ false (by simpa using h0) (fun s hs => by obtain ⟨t, _, rfl⟩ := List.mem_map.1 hs; exact dd_size Kc t)
  have HRT : Hid (∀ (g c : Nat) (V : World), SRow V g 0 (ts.map (dd Kc)) → Below w.heap.size w V → Calls Tryd.prog 18 #[.slice (some ⟨g, 0, none⟩) ts.length c] V fun e w' => e = .returned (.tuple #[.string (rootF (dd Kc) (ts.map (dd Kc)) false).1, .bool (rootF (dd Kc) (ts.map (dd Kc)) false).2, .int .i64 0]) ∧ Below V.heap.size V w') := fun g c V hr hV => by
    have h := rroot_any Kc (ts.map (dd Kc)) g 0 c V hr (by simpa using h0) (by simp; omega) (hkt.later hV hpos)
    rw [List.length_map] at h
    have e : rootRes Kc (ts.map (dd Kc)) = #[.string (rootF (dd Kc) (ts.map (dd Kc)) false).1, .bool (rootF (dd Kc) (ts.map (dd Kc)) false).2, .int .i64 0] := by
      unfold rootRes
      rw [if_pos ⟨by simp; exact fun h => by rw [h] at h0; simp at h0, fun s hs => by obtain ⟨t, _, rfl⟩ := List.mem_map.1 hs; exact dd_size Kc t⟩]
    rw [e] at h; exact h
  have hni : (ts.length : Int) ≤ 16 := by omega
  generalize blkL Kc ts seed = BL at HBL ⊢
  generalize rootF (dd Kc) (ts.map (dd Kc)) false = RF at HBL HRS HRT ⊢
  obtain ⟨R, tw⟩ := RF
  clear hrow hkt hok
  go_enter Tryd.func19, Tryd.ntmps19
  go_upto_region 4 with fail
  go_loopg [20, 8, 9] ts.length (fun g iv idv sv wx => ∃ j : Nat, j + g = ts.length ∧ iv = .int .i64 (j : Int) ∧ sv = .string (ofL (catL (ts.take j))) ∧ wx.ownsRow w.heap.size 9 1 idv j (strV ((ts.take j).map (dd Kc))) ∧ Below w.heap.size w wx)
  case atStart => exact ⟨0, by omega, rfl, rfl, World.ownsRow_nil _ _ _ _, Below.refl _ _⟩
  case round =>
    obtain ⟨j, hjg, rfl, rfl, hown, hb⟩ := hrel
    have HB : Hid (Below w.heap.size w wr) := hb
    have HJ : Hid (j + gk = ts.length) := hjg
    have HO : Hid (wr.ownsRow w.heap.size 9 1 u8 j (strV ((ts.take j).map (dd Kc)))) := hown
    have hcl := catL_le (ts.take j) 610 (fun s hs => HSM.out s (List.mem_of_mem_take hs))
    rw [List.length_take] at hcl
    have hcz : (ofL (catL (ts.take j))).size ≤ 16 * 610 := by
      rw [ofL_size]
      have h1 : min j ts.length * 610 ≤ 16 * 610 := Nat.mul_le_mul_right _ (by omega)
      omega
    clear hcl
    by_cases hlt : j < ts.length
    · have hji : (j : Int) < (ts.length : Int) := by omega
      have dj := HROW.out j hlt
      rw [← hb.cell (p := ⟨b, o + j, none⟩) hbw] at dj
      have HSN : Hid (ofL (catL (ts.take j)) ++ ts[j] = ofL (catL (ts.take (j + 1)))) := by
        show _ = _
        rw [catL_snoc ts j hlt, ← ofL_append, ofL_of]
      have HDN : Hid ((ts.take (j + 1)).map (dd Kc) = (ts.take j).map (dd Kc) ++ [dd Kc ts[j]]) := by
        show _ = _
        rw [List.take_succ_eq_append_getElem hlt, List.map_append]; rfl
      have ht0 := HOK.out ts[j] (List.getElem_mem hlt)
      have hts := HSM.out ts[j] (List.getElem_mem hlt)
      have HTI : Hid (Calls Tryd.prog 12 #[.string ts[j]] wr fun e w' => e = .returned (.tuple #[.string (dd Kc ts[j]), .int .i64 0]) ∧ Below wr.heap.size wr w') := by
        have := txid_any Kc ts[j] wr (HKT.out wr hb) (by unfold maxLen; omega)
        rw [show txid Kc ts[j] = dd Kc ts[j] by simp [txid, ht0, dd], ht0] at this; exact this
      have hdz : (dd Kc ts[j]).size = 32 := dd_size Kc _
      generalize dd Kc ts[j] = d at HTI HDN hdz
      generalize ts[j] = t at dj HSN hts HTI
      generalize ofL (catL (ts.take j)) = S at HSN hcz ⊢
      clear ht0 hown hjg hb
      have hadd : (S ++ t).size ≤ 20000 := by rw [ByteArray.size_append]; omega
      go_wp2_with (first
        | (go_at_call 12; go_must (refine HTI.out.mono ?_); rintro e w2 ⟨rfl, hb2⟩; have HB2 := (show Hid (Below wr.heap.size wr w2) from hb2); clear hb2)
        | (at_builtin; go_must (refine wpList_append_lies _ rfl _ _ 30 rfl w.heap.size 9 i0 (.string ByteArray.empty) 1 16 Tryd.underlying30 hi hz0 hz1 hz2 rfl (by decide) u8 j (strV ((ts.take j).map (dd Kc))) rfl (own_after (own_after HO.out HB2.out) ((Below.refl _ w2).alloc (Nat.le_refl _) (.cells #[.string d] 9))) ⟨w2.heap.size, 0, none⟩ 1 1 [.string d] rfl rfl (one_s3 w2 d) (one_sc3 d) (by omega) (by unfold maxLen; omega) (by omega) (Nat.le_trans HB.out.size (Nat.le_trans HB2.out.size (by simp))) _ rfl ?_); intro g4 c4 w4 ho4 hg4 hb4 _; have HO4 := (show Hid (w4.ownsRow w.heap.size 9 1 (.slice (some ⟨g4, 0, none⟩) (j + 1) c4) (j + 1) (strV ((ts.take j).map (dd Kc)) ++ [.string d])) from ho4); have HG4 := (show Hid ((w2.alloc (.cells #[.string d] 9)).grownBy w4 (u8 : Value).ownBlock) from hg4); clear ho4 hg4 hb4))
      go_roundg (gk - 1)
      case measure => have := HJ.out; omega
      case rel =>
        have := HJ.out
        refine ⟨j + 1, by omega, by go_num, by rw [HSN.out], ?_, ?_⟩
        · rw [HDN.out, show strV ((ts.take j).map (dd Kc) ++ [d]) = strV ((ts.take j).map (dd Kc)) ++ [.string d] by simp [strV]]; exact HO4.out
        · exact ((HB.out.trans (HB2.out.mono HB.out.size)).alloc (Nat.le_trans HB.out.size HB2.out.size) _).grown HG4.out (Nat.le_trans HB.out.size (Nat.le_trans HB2.out.size (by simp))) (ownB_ge HO.out)
    · obtain rfl : j = ts.length := by have := HJ.out; omega
      have hji : ¬ ((ts.length : Int) < (ts.length : Int)) := by omega
      rw [List.take_length] at hown hcz ⊢
      obtain ⟨g, c, hu8⟩ : ∃ g c, u8 = .slice (some ⟨g, 0, none⟩) ts.length c := by
        rcases hown.2 with ⟨_, hn⟩ | ⟨g, c, cur, hv, _⟩
        · omega
        · exact ⟨g, c, hv⟩
      subst hu8
      have hsr : SRow wr g 0 (ts.map (dd Kc)) := own_srow (by simp) hown
      have HRT2 : Hid (Calls Tryd.prog 18 #[.slice (some ⟨g, 0, none⟩) ts.length c] wr fun e w' => e = .returned (.tuple #[.string R, .bool tw, .int .i64 0]) ∧ Below wr.heap.size wr w') := HRT.out g c wr hsr hb
      obtain ⟨A, hA⟩ : ∃ A, A = ofL (kbL 36 seed) := ⟨_, rfl⟩
      obtain ⟨Z, hZ⟩ : ∃ Z, Z = ofL (kbL 12 (seed + 1)) := ⟨_, rfl⟩
      have zA : A.size = 36 := by rw [hA, ofL_size, kbL_length]
      have zZ : Z.size = 12 := by rw [hZ, ofL_size, kbL_length]
      have zR : R.size = 32 := HRS.out
      have HA : Hid (∀ V, Calls Tryd.prog 17 #[.int .i64 36, .int .i64 seed] V fun e w' => e = .returned (.string A) ∧ Below V.heap.size V w') := fun V => by rw [hA]; exact bytesX_any 36 seed V (by omega)
      have HZ : Hid (∀ V, Calls Tryd.prog 17 #[.int .i64 12, .int .i64 (seed + 1)] V fun e w' => e = .returned (.string Z) ∧ Below V.heap.size V w') := fun V => by rw [hZ]; exact bytesX_any 12 (seed + 1) V (by omega)
      have zAR : (A ++ R).size = 68 := by rw [ByteArray.size_append]; omega
      have zh : (A ++ R ++ Z).size = 80 := by rw [ByteArray.size_append]; omega
      obtain ⟨U, hU⟩ : ∃ U, U = ofL [UInt8.ofNat ts.length] := ⟨_, rfl⟩
      have zU : U.size = 1 := by rw [hU]; rfl
      have hstr : ∀ W : World, (convert 23 9 (.slice (some ⟨W.heap.size, 0, none⟩) 1 1)).run Tryd.prog (W.alloc (.cells #[.int .u8 (ts.length : Int)] 5)) = .ok (.string U) (W.alloc (.cells #[.int .u8 (ts.length : Int)] 5)) := fun W => by
        have := str1L W (ts.length : Int) (by omega) (by omega)
        rw [show (ts.length : Int).toNat = ts.length by omega, ← hU] at this; exact this
      have hq8 : IntKind.u8.wrap (ts.length : Int) = (ts.length : Int) := by rw [IntKind.wrap_u8]; omega
      have hq8b : (ts.length : Int) % 256 = (ts.length : Int) := by omega
      have HFIN : Hid (A ++ R ++ Z ++ U ++ ofL (catL ts) = ofL BL) := by
        show _ = _
        rw [HBL.out, hA, hZ, hU, ← ofL_append, ← ofL_append, ← ofL_append, ← ofL_append, ofL_of]
      have hy1 : IntKind.i64.wrap (seed + 1) = seed + 1 := by rw [IntKind.wrap_i64]; omega
      obtain ⟨S, hS⟩ : ∃ S, S = ofL (catL ts) := ⟨_, rfl⟩
      rw [← hS] at HFIN hcz ⊢
      have M1 : Hid True := trivial
      clear hjg hb hown hsr hA hZ hU hS HRT HKT HOK HSM HROW HO HJ
      go_upto_region 13 with (go_at_call 18; go_must (refine HRT2.out.mono ?_); rintro e w5 ⟨rfl, hb5⟩; have HB5 := (show Hid (Below w.heap.size w w5) from HB.out.trans (hb5.mono HB.out.size)); clear hb5)
      go_upto_region 14 with (first
        | (go_at_call 17; have _m := M1; go_must (refine (HA.out _).mono ?_); rintro e w6 ⟨rfl, hb6⟩; have HB6 := (show Hid (Below w.heap.size w w6) from HB5.out.trans (hb6.mono HB5.out.size)); clear hb6 M1 _m)
        | (go_at_call 17; go_must (refine (HZ.out _).mono ?_); rintro e w7 ⟨rfl, hb7⟩; have HB7 := (show Hid (Below w.heap.size w w7) from HB6.out.trans (hb7.mono HB6.out.size)); clear hb7))
      generalize A ++ R ++ Z = HH at zh HFIN ⊢
      have zHU : (HH ++ U).size = 81 := by rw [ByteArray.size_append]; omega
      have zHS : (HH ++ U ++ S).size ≤ 10000 := by rw [ByteArray.size_append]; omega
      go_wp2
      refine bodyPost_ret (results4 Tryd.results19 _ _ _) rfl ⟨⟨.slice (some ⟨g, 0, none⟩) ts.length c, ?_⟩, HB7.out.alloc HB7.out.size _⟩
      rw [← HFIN.out]
      rfl
end Go.Proofs.YtkmalggeieiepabDoor
namespace Go.Proofs.YtkmalggeieiepabDoor
open Go.RowKit

/-- the j-th byte of a number. -/
def byN (n j : Nat) : Int := ((n / 256 ^ j % 256 : Nat) : Int)
theorem le_bytes (n : Nat) : ∀ k, lsOf (byN n) k = le n k := by
  intro k
  induction k generalizing n with
  | zero => rfl
  | succ k ih =>
    have h := ih (n / 256)
    unfold lsOf at h ⊢
    rw [List.range_succ_eq_map, List.map_cons, List.map_map]
    show _ = UInt8.ofNat n :: le (n / 256) k
    rw [← h]
    congr 1
    · rw [← UInt8.toNat_inj]; simp [byN]; omega
    · apply List.map_congr_left
      intro j _
      show UInt8.ofNat (byN n (j + 1)).toNat = UInt8.ofNat (byN (n / 256) j).toNat
      unfold byN
      rw [Nat.pow_succ, Nat.mul_comm, ← Nat.div_div_eq_div_mul]
theorem str_congr (f g : Nat → Int) (n : Nat) (h : ∀ j, j < n → f j = g j) : strOf f n = strOf g n := by
  unfold strOf lsOf
  congr 2
  apply List.map_congr_left
  intro j hj
  rw [h j (by simpa using hj)]
theorem mk_bytes (n : Nat) (hn : n ≤ 8) (W : World) : (Instr.makeSlice 23 (.int .i64 (n : Int)) (.int .i64 (n : Int))).run Tryd.prog W = .ok (.slice (some ⟨W.heap.size, 0, none⟩) n n) (W.alloc (.cells (wl .u8 (fun _ => 0) n).toArray 5)) := by
  have h : n = 0 ∨ n = 1 ∨ n = 2 ∨ n = 3 ∨ n = 4 ∨ n = 5 ∨ n = 6 ∨ n = 7 ∨ n = 8 := by omega
  rcases h with rfl | rfl | rfl | rfl | rfl | rfl | rfl | rfl | rfl <;> exact (show (_ : Result Value) = _ by kernel_rfl)

set_option maxRecDepth 10000 in
set_option maxHeartbeats 1000000 in
theorem inBytes_any (n k : Nat) (w : World) (hn : U64 n) (hk : 0 < k) (hk8 : k ≤ 8) :
    Calls Tryd.prog 90 #[.int .u64 (n : Int), .int .i64 (k : Int)] w fun x w' => x = .returned (.string (ofL (le n k))) ∧ Below w.heap.size w w' := by
  have hm := mk_bytes k hk8
  obtain ⟨W0, hW0⟩ : ∃ W, W = w.alloc (.cells (wl .u8 (fun _ => 0) k).toArray 5) := ⟨_, rfl⟩
  have HA0 : Hid (Arr .u8 W0 w.heap.size (fun _ => 0) k) := by show Arr _ _ _ _ _; rw [hW0]; exact Arr.new w _ k _ _ rfl
  have HB0 : Hid (Below w.heap.size w W0) := by show Below _ _ _; rw [hW0]; exact (Below.refl _ _).alloc (Nat.le_refl _) _
  have hm0 := hm w
  rw [← hW0] at hm0
  clear hm hW0
  unfold U64 at hn
  go_enter Tryd.func90, Tryd.ntmps90
  go_upto_region 3 with fail
  clear hm0
  go_loopg [0, 11] k (fun g nv i wx => ∃ j : Nat, ∃ f : Nat → Int, j + g = k ∧ nv = .int .u64 ((n / 256 ^ j : Nat) : Int) ∧ i = .int .i64 (j : Int) ∧ (∀ t, t < j → f t = byN n t) ∧ (∀ t, 0 ≤ f t ∧ f t < 256) ∧ Arr .u8 wx w.heap.size f k ∧ Below w.heap.size w wx)
  case atStart => exact ⟨0, fun _ => 0, by omega, by simp, rfl, fun _ h => by omega, fun _ => by simp, HA0.out, HB0.out⟩
  case round =>
    clear HA0 HB0
    obtain ⟨j, f, hj, rfl, rfl, hf, hfb, hA, hB⟩ := hrel
    have HA : Hid (Arr .u8 wr w.heap.size f k) := hA
    have HB : Hid (Below w.heap.size w wr) := hB
    have HF : Hid (∀ t, t < j → f t = byN n t) := hf
    have HFB : Hid (∀ t, 0 ≤ f t ∧ f t < 256) := hfb
    clear hB hf hfb
    by_cases hlt : j < k
    · obtain ⟨cj, fj⟩ := hA j hlt
      have hji : (j : Int) < (k : Int) := by omega
      have HN1 : Hid (n / 256 ^ (j + 1) = n / 256 ^ j / 256) := by show _ = _; rw [Nat.pow_succ, Nat.div_div_eq_div_mul]
      have HBY : Hid (byN n j = ((n / 256 ^ j % 256 : Nat) : Int)) := rfl
      have hle : n / 256 ^ j < 18446744073709551616 := Nat.lt_of_le_of_lt (Nat.div_le_self _ _) hn
      generalize n / 256 ^ j = N at *
      have hNi : (N : Int) < 18446744073709551616 := by omega
      clear hA
      go_wp2
      go_roundg (gk - 1)
      case measure => omega
      case rel =>
        refine ⟨j + 1, upd f j (byN n j), by omega, ?_, by go_num, ?_, ?_, ?_, HB.out.setCell (Nat.le_refl _) _⟩
        · rw [HN1.out]; go_num
        · intro t ht
          by_cases h2 : t = j
          · subst h2; exact upd_same _ _ _
          · rw [upd_other _ _ _ _ h2]; exact HF.out t (by omega)
        · intro t
          by_cases h2 : t = j
          · subst h2; rw [upd_same, HBY.out]; omega
          · rw [upd_other _ _ _ _ h2]; exact HFB.out t
        · have := HA.out.set j hlt (byN n j)
          have e : ((N % 256 : Nat) : Int) = (N : Int) % 256 := by omega
          rw [HBY.out, e] at this ⊢
          exact this
    · obtain rfl : j = k := by omega
      have hst := str_arr wr w.heap.size f j HA.out HFB.out j
      have HS : Hid (strOf f j = ofL (le n j)) := by
        show _ = _
        rw [str_congr f (byN n) j HF.out]
        unfold strOf ofL
        rw [le_bytes]
      generalize strOf f j = S at hst HS
      clear hA
      go_wp2
      go_ret
      exact ⟨by rw [HS.out]; rfl, HB.out⟩
end Go.Proofs.YtkmalggeieiepabDoor
namespace Go.Proofs.YtkmalggeieiepabDoor
open Go.RowKit

theorem catL_len (l : List ByteArray) (hn : l.length ≤ 16) (hN : ∀ s ∈ l, s.size ≤ 1048576) : (sizeL l.length ++ catL l).length ≤ 16777216 + 9 := by
  have h1 := sizeL_le l.length
  have h2 := catL_le l 1048576 hN
  rw [List.length_append]
  have h3 : l.length * 1048576 ≤ 16 * 1048576 := Nat.mul_le_mul_right _ hn
  omega
/-- values lie in a row; a slice of these values. -/
def VRow (w : World) (b o : Nat) (l : List Value) : Prop := ∀ j (h : j < l.length), w.cell? ⟨b, o + j, none⟩ = some l[j]
theorem VRow.later {w w' : World} {b o : Nat} {l : List Value} {B : Nat} (h : VRow w b o l) (hb : Below B w w') (hB : b < B) : VRow w' b o l := fun j hj => by
  rw [hb.cell (p := ⟨b, o + j, none⟩) hB]; exact h j hj
theorem VRow.lt {w : World} {b o : Nat} {l : List Value} (h : VRow w b o l) (hn : 0 < l.length) : b < w.heap.size := World.block_lt_of_cell? w _ (h 0 hn)
def VVal (w : World) (v : Value) (l : List Value) : Prop := ∃ (a : Option Addr) (cap : Nat), v = .slice a l.length cap ∧ l.length ≤ cap ∧ (0 < l.length → ∃ b o, a = some ⟨b, o, none⟩ ∧ VRow w b o l)
theorem VVal.later {w w' : World} {v : Value} {l : List Value} (h : VVal w v l) (hb : Below w.heap.size w w') : VVal w' v l := by
  obtain ⟨a, cap, hv, hc, hr⟩ := h
  refine ⟨a, cap, hv, hc, fun h0 => ?_⟩
  obtain ⟨b, o, ha, hs⟩ := hr h0
  exact ⟨b, o, ha, hs.later hb (hs.lt h0)⟩
theorem own_vrow {w : World} {base e g cap n : Nat} {l : List Value} (hn : l.length = n) (h : w.ownsRow base e 1 (.slice (some ⟨g, 0, none⟩) n cap) n l) : VRow w g 0 l := by
  obtain ⟨_, h2⟩ := h
  rcases h2 with ⟨hv, _⟩ | ⟨g', cap', cur, hv, _, hg, _, _, _, ht⟩
  · cases hv
  · injection hv with e1 e2 e3
    injection e1 with e4
    injection e4 with e5
    subst e5
    intro j hj
    rw [Nat.zero_add, cell_of_row w g j cur _ _ hg]
    have h3 : (cur.toList.take (n * 1))[j]? = l[j]? := by rw [ht]
    rw [List.getElem?_take, if_pos (by omega)] at h3
    rw [← Array.getElem?_toList, h3, List.getElem?_eq_getElem hj]
theorem own_vval {w : World} {base e : Nat} {v : Value} {l : List Value} (h : w.ownsRow base e 1 v l.length l) : VVal w v l := by
  have h' := h
  rcases h.2 with ⟨hv, h0⟩ | ⟨g, cap, cur, hv, _, _, hle, _⟩
  · exact ⟨none, 0, by rw [hv, h0], by omega, fun h1 => by omega⟩
  · subst hv
    exact ⟨_, cap, rfl, hle, fun _ => ⟨g, 0, rfl, own_vrow rfl h'⟩⟩
/-- numbers as values. -/
def natV (l : List Nat) : List Value := l.map fun x : Nat => .int .i64 (x : Int)
def intV (l : List Int) : List Value := l.map fun x => .int .i64 x
end Go.Proofs.YtkmalggeieiepabDoor
namespace Go.Proofs.YtkmalggeieiepabDoor
open Go.RowKit

theorem results_mid {P : Program} {fn : Func} {p : Tmp} {ty : TypeId} (h : fn.results = #[.cell p ty]) (tmps : Array Value) (w : World) (g : Nat) (cs : List Value) (d : TypeDesc)
    (hp : tmps.getD p undef = .pointer (some ⟨g, 0, none⟩)) (hc : w.rangeAt g 0 cs) (hu : P.underlying ty = some d) (hd : d.isRow = true) (hi : (P.info? ty).map (·.size) = some cs.length) :
    (results fn tmps).run P w = .ok (.agg cs.toArray) w := by
  have hp' : tmps[p]?.getD undef = .pointer (some ⟨g, 0, none⟩) := by simpa using hp
  simp [results, h, hp', asAddr, run_loadVar_mid w g 0 ty cs d hc hu hd hi]
theorem range2 {w : World} {b : Nat} {x y : Value} (h0 : w.cell? ⟨b, 0, none⟩ = some x) (h1 : w.cell? ⟨b, 1, none⟩ = some y) : w.rangeAt b 0 [x, y] := fun j v hv => by
  match j, hv with
  | 0, hv => rw [Nat.zero_add]; simp at hv; subst hv; exact h0
  | 1, hv => rw [Nat.zero_add]; simp at hv; subst hv; exact h1
theorem own_slice {w : World} {base e size n : Nat} {v : Value} {xs : List Value} (h : w.ownsRow base e size v n xs) : ∃ a m c, v = .slice a m c := by
  rcases h.2 with ⟨rfl, _⟩ | ⟨g, cap, cur, rfl, _⟩
  · exact ⟨_, _, _, rfl⟩
  · exact ⟨_, _, _, rfl⟩
end Go.Proofs.YtkmalggeieiepabDoor
