import Derived.Test.YtkmalggeieiepaaDoorSve
import Derived.Test.YtkmalggeieiepaaDoorSvc
import Derived.Test.YtkmalggeieiepaaDoorSvb
import Derived.WalkKit
import Derived.WalkSpells
import Derived.WalkLawsBesides
import Derived.Deep.DeepCutAuto
import Derived.Deep.AppendLies
import Derived.Deep.RegionHeld3
import Derived.OrdersHeld
import Derived.Test.YtkmalggeieiepaaDoorSvd
import Derived.Deep.MidRow
set_option linter.unusedSimpArgs false
namespace Go.Proofs.YtkmalggeieiepaaDoor
open Go.RowKit

theorem Cu.laterB {w w' : World} {g B : Nat} {l m : List UInt8} (h : Cu w g l m) (hb : Below B w w') (hg : g < B) : Cu w' g l m := by
  obtain ⟨a, h1, h2, h3⟩ := h.e
  exact ⟨by rw [hb.cell (p := ⟨g, 0, none⟩) hg]; exact h.s, ⟨a, h1, h2, by rw [hb.cell (p := ⟨g, 1, none⟩) hg]; exact h3⟩, by rw [hb.frozen (p := ⟨g, 1, none⟩) hg]; exact h.ef⟩
theorem Cu.mov {w w' : World} {g b : Nat} {l m : List UInt8} (h : Cu w g l m) (hm : Mov b w w') (hg : g ≠ b) : Cu w' g l m := by
  have hl := h.lt
  have hb := hm.block g hl hg
  obtain ⟨a, h1, h2, h3⟩ := h.e
  exact ⟨by rw [World.cell?_of_block hb]; exact h.s, ⟨a, h1, h2, by rw [World.cell?_of_block hb]; exact h3⟩, by rw [World.frozen?_of_block hb]; exact h.ef⟩

/-- as it was but for one block, and those from B on. -/
structure Mv (g B : Nat) (w w' : World) : Prop where
  os : w'.os = w.os
  tape : w'.tape = w.tape
  output : w'.output = w.output
  size : w.heap.size ≤ w'.heap.size
  block : ∀ k, k < B → k ≠ g → w'.heap[k]? = w.heap[k]?
theorem Mv.refl (g B : Nat) (w : World) : Mv g B w w := ⟨rfl, rfl, rfl, Nat.le_refl _, fun _ _ _ => rfl⟩
theorem Mv.mov {g B : Nat} {a b c : World} (h : Mv g B a b) (k : Mov g b c) (hB : B ≤ b.heap.size) : Mv g B a c :=
  ⟨k.os.trans h.os, k.tape.trans h.tape, k.output.trans h.output, Nat.le_trans h.size k.size, fun i hi hg => (k.block i (by omega) hg).trans (h.block i hi hg)⟩
theorem Mv.later {g B B' : Nat} {a b c : World} (h : Mv g B a b) (k : Below B' b c) (hB : B ≤ B') : Mv g B a c :=
  ⟨k.os.trans h.os, k.tape.trans h.tape, k.output.trans h.output, Nat.le_trans h.size k.size, fun i hi hg => (k.block i (by omega)).trans (h.block i hi hg)⟩
theorem Mv.set {g B b : Nat} {a w : World} (h : Mv g B a w) (i : Nat) (u : Value) (hb : B ≤ b) : Mv g B a (w.setCell ⟨b, i, none⟩ u) :=
  ⟨h.os, h.tape, h.output, by simpa using h.size, fun k hk hg => (Below.heap_setCell w ⟨b, i, none⟩ u k (by show k ≠ b; omega)).trans (h.block k hk hg)⟩
theorem Mv.drew {g B : Nat} {a w : World} (h : Mv g B a w) : Mv g B a w.drew := ⟨h.os, h.tape, h.output, h.size, h.block⟩
theorem Mv.below {g B : Nat} {a w : World} (h : Mv g B a w) {k : Nat} (hk : k ≤ g) (hB : g ≤ B) : Below k a w := ⟨h.os, h.tape, h.output, h.size, fun i hi => h.block i (by omega) (by omega)⟩
/-- transactions that are being read: the variable lies in block b, the reader in block g. -/
structure Bk (w0 W : World) (g b : Nat) (l m : List UInt8) (v : Value) (out : List (List UInt8)) : Prop where
  cu : Cu W g l m
  c1 : W.cell? ⟨b, 0, none⟩ = some v
  f1 : W.frozen? ⟨b, 0, none⟩ = false
  own : W.ownsRow (b + 1) 9 1 v out.length (strB out)
  gb : g < b
  bel : Mv g b w0 W
theorem Bk.mov {w0 W w' : World} {g b : Nat} {l m m' : List UInt8} {v : Value} {out : List (List UInt8)} (H : Bk w0 W g b l m v out) (hm : Mov g W w') (hc : Cu w' g l m') : Bk w0 w' g b l m' v out := by
  have hl : b < W.heap.size := World.block_lt_of_cell? W _ H.c1
  have hgb := H.gb
  have hb := hm.block b hl (by omega)
  exact ⟨hc, by rw [World.cell?_of_block hb]; exact H.c1, by rw [World.frozen?_of_block hb]; exact H.f1, own_mov H.own hm (by omega), H.gb, H.bel.mov hm (by omega)⟩

set_option maxRecDepth 10000 in
set_option maxHeartbeats 2000000 in
theorem blk1_any (w0 w : World) (g b : Nat) (l m : List UInt8) (v : Value) (out : List (List UInt8)) (H : Bk w0 w g b l m v out) (hl : l.length ≤ maxLen) (hn : out.length ≤ 16) :
    Calls Tryd.prog 87 #[.pointer (some ⟨g, 0, none⟩), .pointer (some ⟨b, 0, none⟩)] w fun x w' =>
      if (rTx (m, 0)).2 = 0 then x = .returned (.tuple #[]) ∧ ∃ v', Bk w0 w' g b l (rTx (m, 0)).1 v' (out ++ [txB (m, 0)]) else x = .panicked [{ v := .iface 26 (.int .i64 (rTx (m, 0)).2), recovered := false }] ∧ Mv g b w0 w' := by
  obtain ⟨i0, hi, hz0, hz1, hz2⟩ := info_parts infoStr
  have HD : Bk w0 w.drew g b l m v out := ⟨H.cu.drew, H.c1, H.f1, H.own, H.gb, H.bel.drew⟩
  have ht : Calls Tryd.prog 26 #[.pointer (some ⟨g, 0, none⟩)] w.drew (Got g l w.drew (.string (ofL (txB (m, 0)))) (rTx (m, 0))) := cuTx_any g l m w.drew HD.cu hl
  have hc1 := HD.c1
  have hgb := H.gb
  clear H
  generalize txB (m, 0) = tb at ht
  generalize rTx (m, 0) = r at ht
  obtain ⟨m1, c1⟩ := r
  go_enter Tryd.func87, Tryd.ntmps87
  refine q_frame (fun A HFR => ?_)
  have hsz : A.tmps.size = 8 := by rw [HFR.out]; rfl
  have h0 : A.eval (.tmp 0) = .pointer (some ⟨g, 0, none⟩) := by rw [HFR.out]; rfl
  have h1 : A.eval (.tmp 1) = .pointer (some ⟨b, 0, none⟩) := by rw [HFR.out]; rfl
  have hdf : A.defers = [] := by rw [HFR.out]
  refine wp_region_T (k := 5) (S := fun w' => w'.cell? ⟨b, 0, none⟩ = some v) (by kernel_rfl) hc1 (fun hS => ?_)
  refine wpAnyT_take (i := 0) (v := v) rfl (by kernel_rfl) (by kernel_rfl) (by kernel_rfl) (by kernel_rfl) (fun _ _ _ h => h) (Or.inl ⟨by rfl, fun W hW => q_run1 1 (.pointer (some ⟨b, 0, none⟩)) (by simp only [q_same, q_ne, q_sz, hsz, h0, h1, ne_eq, Nat.reduceEqDiff, not_false_eq_true, Nat.reduceLT]) (fun ρ hc _ e1 => by simp [go_sem, hc, e1, hW])⟩) hS ?_
  change wpAnyT _ _ _ _ _ _ _ _ (Act.put _ (some 3) _) _
  refine wpAnyT_take (i := 1) (v := (.pointer (some ⟨g, 0, none⟩))) rfl (by kernel_rfl) (by kernel_rfl) (by kernel_rfl) (by kernel_rfl) (fun _ _ _ h => h) (Or.inl ⟨by rfl, fun W _ => q_run1 0 (.pointer (some ⟨g, 0, none⟩)) (by simp only [q_same, q_ne, q_sz, hsz, h0, h1, ne_eq, Nat.reduceEqDiff, not_false_eq_true, Nat.reduceLT]) (fun ρ hc _ e1 => by simp [go_sem, hc, e1])⟩) hS ?_
  change wpAnyT _ _ _ _ _ _ _ _ (Act.put _ (some 4) _) _
  refine qT_call 2 26 #[.pointer (some ⟨g, 0, none⟩)] _ (by kernel_rfl) rfl rfl (q_run1 4 (.pointer (some ⟨g, 0, none⟩)) (by simp only [q_same, q_ne, q_sz, hsz, h0, h1, ne_eq, Nat.reduceEqDiff, not_false_eq_true, Nat.reduceLT]) (fun ρ _ hf e1 => by simp [go_sem, hf, e1])) ht ?_ ?_ ?_
  · intro u w1 hx
    obtain ⟨hm1, hx⟩ := hx
    by_cases hr : c1 = 0
    · subst hr
      rw [if_pos rfl] at hx
      obtain ⟨hv, hcu⟩ := hx
      injection hv with hv
      subst hv
      have H1 := HD.mov hm1 hcu
      refine ⟨fun _ => H1.c1, ?_⟩
      change wpAnyT _ _ _ _ _ _ _ _ (Act.put _ (some 5) _) _
      have hb1 : b < w1.heap.size := World.block_lt_of_cell? w1 _ H1.c1
      have HB2 : Below w1.heap.size w1 (w1.alloc (.cells #[.string (ofL tb)] 9)) := (Below.refl _ _).alloc (Nat.le_refl _) _
      have hS2 : (w1.alloc (.cells #[.string (ofL tb)] 9)).cell? ⟨b, 0, none⟩ = some v := by rw [HB2.cell (p := ⟨b, 0, none⟩) hb1]; exact H1.c1
      refine qT_one 3 (.slice (some ⟨w1.heap.size, 0, none⟩) 1 1) _ (by kernel_rfl) rfl rfl (q_run1 5 (.string (ofL tb)) (by simp only [q_same, q_ne, q_sz, hsz, h0, h1, ne_eq, Nat.reduceEqDiff, not_false_eq_true, Nat.reduceLT]) (fun ρ _ _ e1 => by simp [go_sem, e1])) (fun _ => hS2) ?_
      change wpAnyT _ _ _ _ _ _ _ _ (Act.put _ (some 6) _) _
      refine qT_step 4 (by kernel_rfl) rfl (fun K hK => ?_)
      refine step_append_lies _ rfl (.tmp 3) (.tmp 6) 30 rfl (b + 1) 9 i0 (.string ByteArray.empty) 1 16 Tryd.underlying30 hi hz0 hz1 hz2 rfl (by decide) v out.length (strB out) (by simp only [q_same, q_ne, q_sz, hsz, h0, h1, ne_eq, Nat.reduceEqDiff, not_false_eq_true, Nat.reduceLT]) (H1.own.alloc _) ⟨w1.heap.size, 0, none⟩ 1 1 [.string (ofL tb)] (by simp only [q_same, q_ne, q_sz, hsz, h0, h1, ne_eq, Nat.reduceEqDiff, not_false_eq_true, Nat.reduceLT]) rfl (one_new w1 _ _) (one_str _) (by omega) (by unfold maxLen; omega) (by omega) (by simp; omega) _ rfl ?_
      intro g4 c4 w4 ho hgr hat hlt4
      have HB4 : Below (b + 1) w1 w4 := ((Below.refl (b + 1) w1).alloc (by omega) _).grown hgr (by simp; omega) (ownBlock_ge H1.own)
      have hS4 : w4.cell? ⟨b, 0, none⟩ = some v := by rw [HB4.cell (p := ⟨b, 0, none⟩) (Nat.lt_succ_self _)]; exact H1.c1
      have hF4 : w4.frozen? ⟨b, 0, none⟩ = false := by rw [HB4.frozen (p := ⟨b, 0, none⟩) (Nat.lt_succ_self _)]; exact H1.f1
      refine hK.out _ _ (fun _ => hS4) ?_
      change wpAnyT _ _ _ _ _ _ _ _ (Act.put _ (some 7) _) _
      have hb4 : b < w4.heap.size := World.block_lt_of_cell? w4 _ hS4
      have HM5 : Mov b w4 (w4.setCell ⟨b, 0, none⟩ (.slice (some ⟨g4, 0, none⟩) (out.length + 1) c4)) := (Mov.refl b w4).set 0 _
      refine qT_skip 5 (w4.setCell ⟨b, 0, none⟩ (.slice (some ⟨g4, 0, none⟩) (out.length + 1) c4)) (by kernel_rfl) rfl rfl (q_run2 1 7 (.pointer (some ⟨b, 0, none⟩)) (.slice (some ⟨g4, 0, none⟩) (out.length + 1) c4) (by simp only [q_same, q_ne, q_sz, hsz, h0, h1, ne_eq, Nat.reduceEqDiff, not_false_eq_true, Nat.reduceLT]) (by simp only [q_same, q_ne, q_sz, hsz, h0, h1, ne_eq, Nat.reduceEqDiff, not_false_eq_true, Nat.reduceLT]) (fun ρ hc _ e1 e2 => by simp [go_sem, hc, e1, e2, hS4, hF4])) (fun h => absurd rfl h) ?_
      refine wpAnyT_done (by kernel_rfl) ?_ _
      refine q_done0 rfl (by simp only [q_def]; exact hdf) ?_
      rw [if_pos rfl]
      refine ⟨rfl, .slice (some ⟨g4, 0, none⟩) (out.length + 1) c4, ?_⟩
      have hl1 := H1.cu.lt
      refine ⟨(H1.cu.laterB HB4 (by omega)).mov HM5 (by omega), World.cell?_setCell_same _ _ _ hS4, ?_, ?_, hgb, ?_⟩
      · simp only [World.frozen?_setCell]; exact hF4
      · rw [List.length_append, strB_snoc]; exact own_mov ho HM5 (Nat.lt_succ_self _)
      · exact (H1.bel.later HB4 (by omega)).set 0 _ (Nat.le_refl _)
    · rw [if_neg hr] at hx; cases hx
  · intro ch w1 hx
    obtain ⟨hm1, hx⟩ := hx
    by_cases hr : c1 = 0
    · subst hr; rw [if_pos rfl] at hx; cases hx.1
    · rw [if_neg hr] at hx
      injection hx with hx
      subst hx
      refine q_panic (by simp only [q_def]; exact hdf) ?_
      rw [if_neg hr]
      exact ⟨rfl, HD.bel.mov hm1 (Nat.le_of_lt (World.block_lt_of_cell? _ _ HD.c1))⟩
  · intro w1 hx; exact hx.not_out.elim
end Go.Proofs.YtkmalggeieiepaaDoor
namespace Go.Proofs.YtkmalggeieiepaaDoor
open Go.RowKit

/-- it leaves by this error. -/
abbrev Pan (c : Int) : Ending := .panicked [{ v := .iface 26 (.int .i64 c), recovered := false }]
set_option maxRecDepth 10000 in
set_option maxHeartbeats 1000000 in
theorem sev_no (g : Nat) (lo hi : Int) (fv : Value) (w : World) (Q : World → Prop) (E : Int)
    (h1 : Calls Tryd.prog 84 #[.pointer (some ⟨g, 0, none⟩), .int .u64 lo, .int .u64 hi] w fun x w' => x = .panicked [{ v := .iface 26 (.int .i64 E), recovered := false }] ∧ Q w') :
    Calls Tryd.prog 55 #[.pointer (some ⟨g, 0, none⟩), .int .u64 lo, .int .u64 hi, fv] w fun x w' => x = .panicked [{ v := .iface 26 (.int .i64 E), recovered := false }] ∧ Q w' := by
  go_enter Tryd.func55, Tryd.ntmps55
  go_wp2_with (go_at_call 84; go_must (refine h1.mono ?_); rintro x w1 ⟨rfl, hq1⟩)
  exact ⟨rfl, rfl, hq1⟩

set_option maxRecDepth 10000 in
theorem sevBlk (w0 w : World) (g b : Nat) (l m : List UInt8) (v : Value) (H : Bk w0 w g b l m v []) (hl : l.length ≤ maxLen) :
    Calls Tryd.prog 55 #[.pointer (some ⟨g, 0, none⟩), .int .u64 1, .int .u64 16, .func (.func 87) #[] #[.pointer (some ⟨b, 0, none⟩)]] w fun x w' =>
      if (rTxs (rWithin 1 16 (m, 0)).1 (rWithin 1 16 (m, 0)).2).2.2 = 0 then x = .returned (.tuple #[]) ∧ ∃ v, Bk w0 w' g b l (rTxs (rWithin 1 16 (m, 0)).1 (rWithin 1 16 (m, 0)).2).2.1 v (rTxs (rWithin 1 16 (m, 0)).1 (rWithin 1 16 (m, 0)).2).1
      else x = Pan (rTxs (rWithin 1 16 (m, 0)).1 (rWithin 1 16 (m, 0)).2).2.2 ∧ Mv g b w0 w' := by
  have hz := cuSize_any g 1 16 l m w H.cu hl
  have hq : (rWithin 1 16 (m, 0)).1 ≤ 16 := rWithin_hi 1 16 (m, 0)
  have hgw := H.cu.lt
  generalize rWithin 1 16 (m, 0) = p at hz hq
  obtain ⟨q, m1, c1⟩ := p
  by_cases hr : c1 = 0
  · subst hr
    obtain ⟨R, hR⟩ : ∃ R, R = rTxs q (m1, 0) := ⟨_, rfl⟩
    have h1 := calls_ok hz rfl
    have hs := sevB_any g q 1 16 (.pointer (some ⟨b, 0, none⟩)) w
      (fun j W => ∃ m out v, Bk w0 W g b l m v out ∧ out.length + j ≤ 16 ∧ (out ++ (rTxs j (m, 0)).1, (rTxs j (m, 0)).2) = R) (fun W => Mv g b w0 W) R.2.2 hq
      (h1.mono fun x w' ⟨hx, hc, hm⟩ => ⟨hx, m1, [], v, H.mov hm hc, by simpa using hq, by rw [hR]; rfl⟩)
      (show Hid _ from fun j W hK => by
        obtain ⟨m2, out, v2, hB, hj, hE⟩ := hK
        have hb := blk1_any w0 W g b l m2 v2 out hB hl (by omega)
        have hE2 : (out ++ (txB (m2, 0) :: (rTxs j (rTx (m2, 0))).1), (rTxs j (rTx (m2, 0))).2) = R := by
          rw [← hE]; show _ = (out ++ (if (0 : Int) = 0 then _ else _ : List (List UInt8) × (List UInt8 × Int)).1, (if (0 : Int) = 0 then _ else _ : List (List UInt8) × (List UInt8 × Int)).2)
          rw [if_pos rfl]
        generalize txB (m2, 0) = tb at hb hE2
        generalize rTx (m2, 0) = r at hb hE2
        obtain ⟨m3, c3⟩ := r
        by_cases h3 : c3 = 0
        · subst h3
          refine .inl (hb.mono fun x w' hx => ?_)
          rw [if_pos rfl] at hx
          obtain ⟨hx, v3, hB3⟩ := hx
          exact ⟨hx, m3, out ++ [tb], v3, hB3, by simp; omega, by rw [← hE2]; simp⟩
        · have hRc : R.2.2 = c3 := by rw [← hE2, rTxs_bad j (m3, c3) h3]
          refine .inr ⟨by rw [hRc]; exact h3, hb.mono fun x w' hx => ?_⟩
          rw [if_neg h3] at hx
          rw [hRc]; exact hx)
    rw [← hR]
    refine hs.mono fun x w' hx => ?_
    rcases hx with ⟨hx, m2, out, v2, hB, _, hE⟩ | ⟨hE, hx, hb⟩
    · have e1 : R = (out, (m2, 0)) := by rw [← hE]; simp [rTxs]
      rw [e1, if_pos rfl]
      exact ⟨hx, v2, hB⟩
    · rw [if_neg hE]
      exact ⟨hx, hb⟩
  · have h1 := calls_no hz hr
    rw [rTxs_bad q (m1, c1) hr]
    refine (sev_no g 1 16 _ w (fun W => Mv g b w0 W) c1 (h1.mono fun x w' ⟨hx, hm⟩ => ⟨hx, H.bel.mov hm (Nat.le_of_lt (World.block_lt_of_cell? _ _ H.c1))⟩)).mono fun x w' hx => ?_
    rw [if_neg hr]
    exact hx

theorem header_any (g : Nat) (l m : List UInt8) (w : World) (h : Cu w g l m) (hl : l.length ≤ maxLen) :
    Calls Tryd.prog 63 #[.pointer (some ⟨g, 0, none⟩)] w (Got g l w (.string (ofL (rTake 80 (m, 0)).1)) (rTake 80 (m, 0)).2) := by
  have ht := cuTake_any g 80 l m w h hl
  clear h hl
  generalize rTake 80 (m, 0) = p at ht
  obtain ⟨t, r⟩ := p
  by_cases hr : r.2 = 0
  · have h1 := calls_ok ht hr
    clear ht
    go_enter Tryd.func63, Tryd.ntmps63
    go_wp2_with (go_at_call 54; go_must (refine h1.mono ?_); rintro x w1 ⟨rfl, hc1, hm1⟩)
    go_ret
    exact Got.ok hr hm1 hc1
  · have h1 := calls_no ht hr
    clear ht
    go_enter Tryd.func63, Tryd.ntmps63
    go_wp2_with (go_at_call 54; go_must (refine h1.mono ?_); rintro x w1 ⟨rfl, hm1⟩)
    exact ⟨rfl, Got.no rfl hr hm1⟩

/-- transactions, their number ahead. -/
def rTrs (m : List UInt8) : List (List UInt8) × (List UInt8 × Int) := rTxs (rWithin 1 16 (m, 0)).1 (rWithin 1 16 (m, 0)).2

set_option maxRecDepth 10000 in
set_option maxHeartbeats 2000000 in
theorem cuTrs_any (g : Nat) (l m : List UInt8) (w : World) (h : Cu w g l m) (hl : l.length ≤ maxLen) :
    Calls Tryd.prog 64 #[.pointer (some ⟨g, 0, none⟩)] w fun x w' =>
      if (rTrs m).2.2 = 0 then ∃ v, x = .returned v ∧ Cu w' g l (rTrs m).2.1 ∧ w'.ownsRow (w.heap.size + 1) 9 1 v (rTrs m).1.length (strB (rTrs m).1) ∧ Mv g w.heap.size w w'
      else x = Pan (rTrs m).2.2 ∧ Mv g w.heap.size w w' := by
  obtain ⟨W1, hW1⟩ : ∃ W, W = w.alloc (.cells #[.slice none 0 0] 30) := ⟨_, rfl⟩
  have hgw := h.lt
  have HB1 : Below w.heap.size w W1 := by rw [hW1]; exact (Below.refl _ _).alloc (Nat.le_refl _) _
  have c10 : W1.cell? ⟨w.heap.size, 0, none⟩ = some (.slice none 0 0) := by rw [hW1]; simp [go_sem]
  have f10 : W1.frozen? ⟨w.heap.size, 0, none⟩ = false := by rw [hW1]; simp [go_sem]
  have HBK : Bk w W1 g w.heap.size l m (.slice none 0 0) [] := ⟨h.later HB1, c10, f10, World.ownsRow_nil _ _ _ _, hgw, (Mv.refl _ _ _).later HB1 (Nat.le_refl _)⟩
  have hsv := sevBlk w W1 g w.heap.size l m (.slice none 0 0) HBK hl
  have hmf : ∀ (fn : Fn) (first cap : Array Value) (w : World), (Instr.makeFunc fn first cap).run Tryd.prog w = .ok (.func fn first cap) w := fun _ _ _ _ => rfl
  clear HBK c10 f10 HB1
  have HE : Hid (rTrs m = rTxs (rWithin 1 16 (m, 0)).1 (rWithin 1 16 (m, 0)).2) := rfl
  generalize rTrs m = M at HE
  generalize rTxs (rWithin 1 16 (m, 0)).1 (rWithin 1 16 (m, 0)).2 = R at hsv HE
  obtain ⟨T, m2, c2⟩ := R
  have hM : M = (T, m2, c2) := HE.out
  subst hM
  clear HE h
  by_cases hr2 : c2 = 0
  · subst hr2
    have h2 := hsv.mono (R' := fun x w' => x = .returned (.tuple #[]) ∧ ∃ v, Bk w w' g w.heap.size l m2 v T) (fun x w' hx => by rw [if_pos rfl] at hx; exact hx)
    clear hsv
    have hmain : Calls Tryd.prog 64 #[.pointer (some ⟨g, 0, none⟩)] w fun x w' => ∃ v, x = .returned v ∧ Cu w' g l m2 ∧ w'.ownsRow (w.heap.size + 1) 9 1 v T.length (strB T) ∧ Mv g w.heap.size w w' := by
      go_enter Tryd.func64, Tryd.ntmps64
      go_upto_region 2 with fail
      rw [← hW1]
      clear hW1
      go_upto_region 3 with (go_at_call 55; go_must (refine h2.mono ?_); rintro x w3 ⟨rfl, v, hB3⟩; have HB3 := (show Hid _ from hB3); clear hB3)
      have d1 := HB3.out.c1
      clear h2
      obtain ⟨va, vn, vc, rfl⟩ := own_slice HB3.out.own
      go_wp2
      go_ret
      exact ⟨.slice va vn vc, rfl, HB3.out.cu, HB3.out.own, HB3.out.bel⟩
    exact hmain.mono fun x w' hx => by rw [if_pos rfl]; exact hx
  · have h2 := hsv.mono (R' := fun x w' => x = .panicked [{ v := .iface 26 (.int .i64 c2), recovered := false }] ∧ Mv g w.heap.size w w') (fun x w' hx => by rw [if_neg hr2] at hx; exact hx)
    clear hsv
    have hmain : Calls Tryd.prog 64 #[.pointer (some ⟨g, 0, none⟩)] w fun x w' => x = Pan c2 ∧ Mv g w.heap.size w w' := by
      go_enter Tryd.func64, Tryd.ntmps64
      go_upto_region 2 with fail
      rw [← hW1]
      clear hW1
      go_wp2_with (go_at_call 55; go_must (refine h2.mono ?_); rintro x w3 ⟨rfl, hv3⟩)
      exact ⟨rfl, rfl, hv3⟩
    exact hmain.mono fun x w' hx => by rw [if_neg hr2]; exact hx

/-- a header, and transactions. -/
def rBlk (m : List UInt8) : List UInt8 × (List (List UInt8) × (List UInt8 × Int)) :=
  ((rTake 80 (m, 0)).1, rTxs (rWithin 1 16 (rTake 80 (m, 0)).2).1 (rWithin 1 16 (rTake 80 (m, 0)).2).2)
theorem rMsg_blk (m : List UInt8) : rMsg 80 m = ((rBlk m).1, ((rBlk m).2.1, (rDone (rBlk m).2.2).2)) := rfl
theorem within_bad (lo hi : Nat) (m : List UInt8) (c : Int) (h : c ≠ 0) : (rWithin lo hi (m, c)).2.2 = c := stick_within lo hi (m, c) h

set_option maxRecDepth 10000 in
set_option maxHeartbeats 2000000 in
theorem cuBlock_any (g : Nat) (l m : List UInt8) (w : World) (h : Cu w g l m) (hl : l.length ≤ maxLen) :
    Calls Tryd.prog 33 #[.pointer (some ⟨g, 0, none⟩)] w fun x w' =>
      if (rBlk m).2.2.2 = 0 then ∃ v, x = .returned (.agg #[.string (ofL (rBlk m).1), v]) ∧ Cu w' g l (rBlk m).2.2.1 ∧ w'.ownsRow w.heap.size 9 1 v (rBlk m).2.1.length (strB (rBlk m).2.1) ∧ Below g w w'
      else x = Pan (rBlk m).2.2.2 ∧ Below g w w' := by
  obtain ⟨W1, hW1⟩ : ∃ W, W = (w.alloc (.cells #[.string ⟨#[]⟩, .slice none 0 0] 65)).alloc (.cells #[.string ⟨#[]⟩, .slice none 0 0] 65) := ⟨_, rfl⟩
  have hgw := h.lt
  have HB1 : Hid (Below w.heap.size w W1) := by show Below _ _ _; rw [hW1]; exact ((Below.refl _ _).alloc (Nat.le_refl _) _).alloc (by simp) _
  have hz1 : W1.heap.size = w.heap.size + 2 := by rw [hW1]; simp
  have c10 : W1.cell? ⟨w.heap.size + 1, 0, none⟩ = some (.string ⟨#[]⟩) := by rw [hW1]; simp [go_sem]
  have c11 : W1.cell? ⟨w.heap.size + 1, 1, none⟩ = some (.slice none 0 0) := by rw [hW1]; simp [go_sem]
  have f10 : W1.frozen? ⟨w.heap.size + 1, 0, none⟩ = false := by rw [hW1]; simp [go_sem]
  have f11 : W1.frozen? ⟨w.heap.size + 1, 1, none⟩ = false := by rw [hW1]; simp [go_sem]
  have c00 : W1.cell? ⟨w.heap.size, 0, none⟩ = some (.string ⟨#[]⟩) := by rw [hW1]; simp [go_sem]
  have c01 : W1.cell? ⟨w.heap.size, 1, none⟩ = some (.slice none 0 0) := by rw [hW1]; simp [go_sem]
  have f00 : W1.frozen? ⟨w.heap.size, 0, none⟩ = false := by rw [hW1]; simp [go_sem]
  have f01 : W1.frozen? ⟨w.heap.size, 1, none⟩ = false := by rw [hW1]; simp [go_sem]
  have hh := header_any g l m W1 (h.later HB1.out) hl
  have HMV : Hid (∀ w2, Mov g W1 w2 → Below g w w2) := fun w2 hm => (HB1.out.mono (Nat.le_of_lt hgw)).trans (hm.below (Nat.le_refl _) (by omega))
  have HE : Hid (rBlk m = ((rTake 80 (m, 0)).1, rTxs (rWithin 1 16 (rTake 80 (m, 0)).2).1 (rWithin 1 16 (rTake 80 (m, 0)).2).2)) := rfl
  generalize rBlk m = M at HE
  clear h
  generalize rTake 80 (m, 0) = p at hh HE
  obtain ⟨t, m1, c1⟩ := p
  by_cases hr : c1 = 0
  · subst hr
    have h1 := calls_ok hh rfl
    clear hh
    -- behind the header's store
    have HS2 : Hid (∀ w2, Mov g W1 w2 → Cu w2 g l m1 → Cu (w2.setCell ⟨w.heap.size + 1, 0, none⟩ (.string (ofL t))) g l m1 ∧ w2.cell? ⟨w.heap.size + 1, 0, none⟩ = some (.string ⟨#[]⟩) ∧ w2.frozen? ⟨w.heap.size + 1, 0, none⟩ = false) := by
      intro w2 hm hc
      have hb := hm.block (w.heap.size + 1) (by omega) (by omega)
      exact ⟨hc.mov ((Mov.refl (w.heap.size + 1) w2).set 0 _) (by omega), by rw [World.cell?_of_block hb]; exact c10, by rw [World.frozen?_of_block hb]; exact f10⟩
    -- behind the transactions' reading
    have HRS : Hid (∀ w2 w3, Mov g W1 w2 → Mv g (w2.setCell ⟨w.heap.size + 1, 0, none⟩ (.string (ofL t))).heap.size (w2.setCell ⟨w.heap.size + 1, 0, none⟩ (.string (ofL t))) w3 → (w3.cell? ⟨w.heap.size, 0, none⟩ = some (.string ⟨#[]⟩) ∧ w3.cell? ⟨w.heap.size, 1, none⟩ = some (.slice none 0 0) ∧ w3.frozen? ⟨w.heap.size, 0, none⟩ = false ∧ w3.frozen? ⟨w.heap.size, 1, none⟩ = false) ∧ (w3.cell? ⟨w.heap.size + 1, 0, none⟩ = some (.string (ofL t)) ∧ w3.cell? ⟨w.heap.size + 1, 1, none⟩ = some (.slice none 0 0) ∧ w3.frozen? ⟨w.heap.size + 1, 0, none⟩ = false ∧ w3.frozen? ⟨w.heap.size + 1, 1, none⟩ = false) ∧ Below g w w3 ∧ w.heap.size + 2 ≤ w2.heap.size) := by
      intro w2 w3 hm hv
      have hsz2 := hm.size
      have hb0 := hm.block w.heap.size (by omega) (by omega)
      have hbn := hm.block (w.heap.size + 1) (by omega) (by omega)
      have hb1 : w3.heap[w.heap.size]? = W1.heap[w.heap.size]? := by
        rw [hv.block w.heap.size (by simp; omega) (by omega), ← hb0]
        exact Below.heap_setCell w2 ⟨w.heap.size + 1, 0, none⟩ _ w.heap.size (by simp)
      have hb2 : w3.heap[w.heap.size + 1]? = (w2.setCell ⟨w.heap.size + 1, 0, none⟩ (.string (ofL t))).heap[w.heap.size + 1]? := hv.block (w.heap.size + 1) (by simp; omega) (by omega)
      have k0 : w2.cell? ⟨w.heap.size + 1, 0, none⟩ = some (.string ⟨#[]⟩) := by rw [World.cell?_of_block hbn]; exact c10
      have hs : Below g w2 (w2.setCell ⟨w.heap.size + 1, 0, none⟩ (.string (ofL t))) := ((Mov.refl (w.heap.size + 1) w2).set 0 _).below (by omega) (by omega)
      refine ⟨⟨by rw [World.cell?_of_block hb1]; exact c00, by rw [World.cell?_of_block hb1]; exact c01, by rw [World.frozen?_of_block hb1]; exact f00, by rw [World.frozen?_of_block hb1]; exact f01⟩, ⟨?_, ?_, ?_, ?_⟩, (HMV.out w2 hm).trans (hs.trans (hv.below (Nat.le_refl _) (by simp; omega))), by omega⟩
      · rw [World.cell?_of_block hb2]; exact World.cell?_setCell_same _ _ _ k0
      · rw [World.cell?_of_block hb2, World.cell?_setCell_other _ _ _ _ (by simp), World.cell?_of_block hbn]; exact c11
      · rw [World.frozen?_of_block hb2]; simp only [World.frozen?_setCell]; rw [World.frozen?_of_block hbn]; exact f10
      · rw [World.frozen?_of_block hb2]; simp only [World.frozen?_setCell]; rw [World.frozen?_of_block hbn]; exact f11
    have hsv := fun (w2 : World) (hc : Cu (w2.setCell ⟨w.heap.size + 1, 0, none⟩ (.string (ofL t))) g l m1) => cuTrs_any g l m1 _ hc hl
    have HE2 : Hid (M = (t, rTrs m1)) := HE.out
    clear HE c10 c11 f10 f11 c00 c01 f00 f01
    generalize rTrs m1 = R at hsv HE2
    obtain ⟨T, m2, c2⟩ := R
    have hM : M = (t, T, m2, c2) := HE2.out
    subst hM
    clear HE2
    by_cases hr2 : c2 = 0
    · subst hr2
      have h2 := fun (w2 : World) (hc : Cu (w2.setCell ⟨w.heap.size + 1, 0, none⟩ (.string (ofL t))) g l m1) => (hsv w2 hc).mono (R' := fun x w' => ∃ v, x = .returned v ∧ Cu w' g l m2 ∧ w'.ownsRow ((w2.setCell ⟨w.heap.size + 1, 0, none⟩ (.string (ofL t))).heap.size + 1) 9 1 v T.length (strB T) ∧ Mv g (w2.setCell ⟨w.heap.size + 1, 0, none⟩ (.string (ofL t))).heap.size (w2.setCell ⟨w.heap.size + 1, 0, none⟩ (.string (ofL t))) w') (fun x w' hx => by rw [if_pos rfl] at hx; exact hx)
      clear hsv
      have hmain : Calls Tryd.prog 33 #[.pointer (some ⟨g, 0, none⟩)] w fun x w' => ∃ v, x = .returned (.agg #[.string (ofL t), v]) ∧ Cu w' g l m2 ∧ w'.ownsRow w.heap.size 9 1 v T.length (strB T) ∧ Below g w w' := by
       go_enter Tryd.func33, Tryd.ntmps33
       go_upto_region 2 with fail
       rw [← hW1]
       clear hW1
       go_upto_region 3 with (go_at_call 63; go_must (refine h1.mono ?_); rintro x w1 ⟨rfl, hc1, hm1⟩; obtain ⟨hB1, k0, kf⟩ := HS2.out _ hm1 hc1; have HB2 := (show Hid _ from hB1); have HM1 := (show Hid (Mov g W1 w1) from hm1); clear hc1 hm1 hB1)
       clear HS2 k0 kf
       go_upto_region 4 with (go_at_call 64; go_must (refine (h2 _ HB2.out).mono ?_); rintro x w3 ⟨v, rfl, hc3, ho3, hv3⟩; obtain ⟨va, vn, vc, rfl⟩ := own_slice ho3; obtain ⟨⟨r0, r1, r2, r3⟩, ⟨s0, s1, s2, s3⟩, hbel, hge⟩ := HRS.out _ w3 HM1.out hv3; have HC3 := (show Hid _ from hc3); have HO3 := (show Hid _ from ho3); have HBL := (show Hid (Below g w w3) from hbel); have HGE := (show Hid _ from hge); clear hc3 ho3 hv3 hbel hge)
       clear HB2 HM1 HRS h1 h2
       go_wp2
       have hgl := HC3.out.lt
       have hM1 : Mov (w.heap.size + 1) w3 (w3.setCell ⟨w.heap.size + 1, 1, none⟩ (.slice va vn vc)) := (Mov.refl _ _).set 1 _
       have hM : Mov w.heap.size (w3.setCell ⟨w.heap.size + 1, 1, none⟩ (.slice va vn vc)) (((w3.setCell ⟨w.heap.size + 1, 1, none⟩ (.slice va vn vc)).setCell ⟨w.heap.size, 0, none⟩ (.string (ofL t))).setCell ⟨w.heap.size, 1, none⟩ (.slice va vn vc)) := ((Mov.refl _ _).set 0 _).set 1 _
       have hge := HGE.out
       refine bodyPost_ret (results_mid Tryd.results33 _ _ w.heap.size [.string (ofL t), .slice va vn vc] _ rfl (range2 ?_ ?_) Tryd.underlying65 rfl (by kernel_rfl)) rfl ⟨.slice va vn vc, rfl, (HC3.out.mov hM1 (by omega)).mov hM (by omega), own_base (own_mov (own_mov HO3.out hM1 (by simp; omega)) hM (by simp; omega)) (by simp; omega), HBL.out.trans ((hM1.below (by omega) (by omega)).trans (hM.below (by omega) (by simp; omega)))⟩
       · rw [World.cell?_setCell_other _ _ _ _ (by simp)]; exact World.cell?_setCell_same _ _ _ (by rw [World.cell?_setCell_other _ _ _ _ (by simp)]; exact r0)
       · exact World.cell?_setCell_same _ _ _ (by rw [World.cell?_setCell_other _ _ _ _ (by simp), World.cell?_setCell_other _ _ _ _ (by simp)]; exact r1)
      exact hmain.mono fun x w' hx => by rw [if_pos rfl]; exact hx
    · have h2 := fun (w2 : World) (hc : Cu (w2.setCell ⟨w.heap.size + 1, 0, none⟩ (.string (ofL t))) g l m1) => (hsv w2 hc).mono (R' := fun x w' => x = .panicked [{ v := .iface 26 (.int .i64 c2), recovered := false }] ∧ Mv g (w2.setCell ⟨w.heap.size + 1, 0, none⟩ (.string (ofL t))).heap.size (w2.setCell ⟨w.heap.size + 1, 0, none⟩ (.string (ofL t))) w') (fun x w' hx => by rw [if_neg hr2] at hx; exact hx)
      clear hsv
      have hmain : Calls Tryd.prog 33 #[.pointer (some ⟨g, 0, none⟩)] w fun x w' => x = Pan c2 ∧ Below g w w' := by
       go_enter Tryd.func33, Tryd.ntmps33
       go_upto_region 2 with fail
       rw [← hW1]
       clear hW1
       go_upto_region 3 with (go_at_call 63; go_must (refine h1.mono ?_); rintro x w1 ⟨rfl, hc1, hm1⟩; obtain ⟨hB1, k0, kf⟩ := HS2.out _ hm1 hc1; have HB2 := (show Hid _ from hB1); have HM1 := (show Hid (Mov g W1 w1) from hm1); clear hc1 hm1 hB1)
       clear HS2 k0 kf
       go_wp2_with (go_at_call 64; go_must (refine (h2 _ HB2.out).mono ?_); rintro x w3 ⟨rfl, hv3⟩)
       exact ⟨rfl, rfl, (HRS.out _ w3 HM1.out hv3).2.2.1⟩
      exact hmain.mono fun x w' hx => by rw [if_neg hr2]; exact hx
  · have h1 := calls_no hh hr
    have hM : M.2.2.2 = c1 := by rw [HE.out]; show (rTxs (rWithin 1 16 (m1, c1)).1 (rWithin 1 16 (m1, c1)).2).2.2 = c1; rw [rTxs_bad _ _ (by rw [within_bad 1 16 m1 c1 hr]; exact hr), within_bad 1 16 m1 c1 hr]
    rw [hM]
    clear hh HE hM c10 c11 f10 f11 c00 c01 f00 f01
    have hmain : Calls Tryd.prog 33 #[.pointer (some ⟨g, 0, none⟩)] w fun x w' => x = Pan c1 ∧ Below g w w' := by
      go_enter Tryd.func33, Tryd.ntmps33
      go_upto_region 2 with fail
      rw [← hW1]
      clear hW1
      go_wp2_with (go_at_call 63; go_must (refine h1.mono ?_); rintro x w1 ⟨rfl, hm1⟩)
      exact ⟨rfl, rfl, HMV.out _ hm1⟩
    exact hmain.mono fun x w' hx => by rw [if_neg hr]; exact hx
end Go.Proofs.YtkmalggeieiepaaDoor
namespace Go.Proofs.YtkmalggeieiepaaDoor
open Go.RowKit

set_option maxRecDepth 10000 in
set_option maxHeartbeats 1000000 in
theorem cuIndex_any (g next : Nat) (l m : List UInt8) (w : World) (h : Cu w g l m) (hl : l.length ≤ maxLen) (hx : next ≤ 16) :
    Calls Tryd.prog 78 #[.pointer (some ⟨g, 0, none⟩), .int .i64 (next : Int), .int .i64 16] w (Got g l w (.int .i64 ((rIndex next 16 (m, 0)).1 : Int)) (rIndex next 16 (m, 0)).2) := by
  have hz := cuAny_any g l m w h hl
  have HE : Hid (rIndex next 16 (m, 0) = if (rSize (m, 0)).2.2 ≠ 0 then (0, (rSize (m, 0)).2) else if 16 ≤ (rSize (m, 0)).1 ∨ 16 ≤ (rSize (m, 0)).1 + next then (0, ((rSize (m, 0)).2.1, 4)) else (next + (rSize (m, 0)).1, (rSize (m, 0)).2)) := rfl
  clear h hl
  generalize rIndex next 16 (m, 0) = I at HE
  generalize rSize (m, 0) = p at hz HE
  obtain ⟨x, m1, c1⟩ := p
  obtain ⟨X, hX⟩ : ∃ X : Int, X = (x : Int) := ⟨_, rfl⟩
  have hz' : Calls Tryd.prog 95 #[.pointer (some ⟨g, 0, none⟩)] w (Got g l w (.int .u64 X) (m1, c1)) := by rw [hX]; exact hz
  clear hz
  have X0 : 0 ≤ X := by omega
  have L0 : (0 : Int) ≤ (next : Int) := by omega
  have L1 : (next : Int) ≤ 16 := by omega
  have hw : IntKind.u64.wrap (16 - (next : Int)) = 16 - (next : Int) := by rw [IntKind.wrap_u64]; omega
  have hw2 : IntKind.i64.wrap (16 - (next : Int)) = 16 - (next : Int) := by rw [IntKind.wrap_i64]; omega
  by_cases hr : c1 = 0
  · subst hr
    have h1 := calls_ok hz' rfl
    clear hz'
    by_cases hb : 16 ≤ x + next
    · have e : I = (0, (m1, 4)) := by rw [HE.out]; simp [hb]
      rw [e]
      have hge : 16 - (next : Int) ≤ X := by omega
      clear hb hX e HE
      generalize (next : Int) = LO at *
      go_enter Tryd.func78, Tryd.ntmps78
      go_wp2_with (go_at_call 95; go_must (refine h1.mono ?_); rintro y w1 ⟨rfl, hc1, hm1⟩)
      exact ⟨rfl, Got.no rfl (by omega) hm1⟩
    · have e : I = (next + x, (m1, 0)) := by rw [HE.out]; have h2 : ¬ (16 ≤ x ∨ 16 ≤ x + next) := by omega
                                             simp [h2]
      rw [e]
      have hge : ¬ (16 - (next : Int) ≤ X) := by omega
      have hX1 : X ≤ 16 := by omega
      have hw3 : IntKind.i64.wrap X = X := by rw [IntKind.wrap_i64]; omega
      have hw4 : IntKind.i64.wrap ((next : Int) + X) = (next : Int) + X := by rw [IntKind.wrap_i64]; omega
      have hNX : ((next + x : Nat) : Int) = (next : Int) + X := by omega
      rw [hNX]
      clear hb hX e HE hNX
      generalize (next : Int) = LO at *
      go_enter Tryd.func78, Tryd.ntmps78
      go_wp2_with (go_at_call 95; go_must (refine h1.mono ?_); rintro y w1 ⟨rfl, hc1, hm1⟩)
      go_ret
      exact Got.ok rfl hm1 hc1
  · have h1 := calls_no hz' hr
    have e : I = (0, (m1, c1)) := by rw [HE.out]; simp [hr]
    rw [e]
    clear hz' hX e HE
    go_enter Tryd.func78, Tryd.ntmps78
    go_wp2_with (go_at_call 95; go_must (refine h1.mono ?_); rintro y w1 ⟨rfl, hm1⟩)
    exact ⟨rfl, Got.no rfl hr hm1⟩

/-- a request that is being read: its variable lies in block b, the next place in block n. -/
structure Rk (w0 W : World) (g b n : Nat) (l m : List UInt8) (nm : ByteArray) (v : Value) (x : Nat) (out : List Nat) : Prop where
  cu : Cu W g l m
  c0 : W.rangeAt b 0 (bc nm)
  c1 : W.cell? ⟨b, 32, none⟩ = some v
  f1 : W.frozen? ⟨b, 32, none⟩ = false
  cn : W.cell? ⟨n, 0, none⟩ = some (.int .i64 (x : Int))
  fn : W.frozen? ⟨n, 0, none⟩ = false
  own : W.ownsRow (n + 1) 3 1 v out.length (natV out)
  gb : g < b
  bn : b < n
  bel : Mv g b w0 W
theorem Rk.mov {w0 W w' : World} {g b n : Nat} {l m m' : List UInt8} {nm : ByteArray} {v : Value} {x : Nat} {out : List Nat} (H : Rk w0 W g b n l m nm v x out) (hm : Mov g W w') (hc : Cu w' g l m') : Rk w0 w' g b n l m' nm v x out := by
  have hl : b < W.heap.size := World.block_lt_of_cell? W _ H.c1
  have hl2 : n < W.heap.size := World.block_lt_of_cell? W _ H.cn
  have h1 := H.gb
  have h2 := H.bn
  have hb := hm.block b hl (by omega)
  have hn := hm.block n hl2 (by omega)
  exact ⟨hc, fun j u hu => by rw [World.cell?_of_block hb]; exact H.c0 j u hu, by rw [World.cell?_of_block hb]; exact H.c1, by rw [World.frozen?_of_block hb]; exact H.f1, by rw [World.cell?_of_block hn]; exact H.cn, by rw [World.frozen?_of_block hn]; exact H.fn, own_mov H.own hm (by omega), H.gb, H.bn, H.bel.mov hm (by omega)⟩

set_option maxRecDepth 10000 in
set_option maxHeartbeats 2000000 in
theorem rq1_any (w0 w : World) (g b n : Nat) (l m : List UInt8) (nm : ByteArray) (v : Value) (x : Nat) (out : List Nat) (H : Rk w0 w g b n l m nm v x out) (hnm : nm.size = 32) (hl : l.length ≤ maxLen) (hn : out.length ≤ 16) (hx : x ≤ 16) :
    Calls Tryd.prog 77 #[.pointer (some ⟨g, 0, none⟩), .pointer (some ⟨n, 0, none⟩), .pointer (some ⟨b, 0, none⟩)] w fun e w' =>
      if (rIndex x 16 (m, 0)).2.2 = 0 then e = .returned (.tuple #[]) ∧ ∃ v', Rk w0 w' g b n l (rIndex x 16 (m, 0)).2.1 nm v' ((rIndex x 16 (m, 0)).1 + 1) (out ++ [(rIndex x 16 (m, 0)).1]) else e = Pan (rIndex x 16 (m, 0)).2.2 ∧ Mv g b w0 w' := by
  obtain ⟨i0, hi, hz0, hz1, hz2⟩ := info_parts infoInt
  have ht := cuIndex_any g x l m w H.cu hl hx
  have hy := rIndex_lt x (m, 0)
  have HH : Hid (Rk w0 w g b n l m nm v x out) := H
  have cn := H.cn
  have h1 := H.gb
  have h2 := H.bn
  clear H
  generalize rIndex x 16 (m, 0) = p at ht hy
  obtain ⟨y, m1, c1⟩ := p
  have hy16 : y < 16 := hy
  clear hy
  by_cases hr : c1 = 0
  · subst hr
    have hc := calls_ok ht rfl
    have hmain : Calls Tryd.prog 77 #[.pointer (some ⟨g, 0, none⟩), .pointer (some ⟨n, 0, none⟩), .pointer (some ⟨b, 0, none⟩)] w fun e w' => e = .returned (.tuple #[]) ∧ ∃ v', Rk w0 w' g b n l m1 nm v' (y + 1) (out ++ [y]) := by
      clear ht
      go_enter Tryd.func77, Tryd.ntmps77
      go_upto_region 1 with (go_at_call 78; go_must (refine hc.mono ?_); rintro e w1 ⟨rfl, hcu, hm1⟩; have HK1 := (show Hid (Rk w0 w1 g b n l m1 nm v x out) from HH.out.mov hm1 hcu); clear hcu hm1)
      clear cn HH hc
      have d1 := HK1.out.c1
      have e1 := HK1.out.f1
      have hnw : n < w1.heap.size := World.block_lt_of_cell? w1 _ HK1.out.cn
      obtain ⟨va, vn, vc, rfl⟩ := own_slice HK1.out.own
      have HO := (show Hid (w1.ownsRow (n + 1) 3 1 (.slice va vn vc) out.length (natV out)) from HK1.out.own)
      go_upto_region 2 with (at_builtin; go_must (refine wpList_append_lies _ rfl _ _ 37 rfl (n + 1) 3 i0 (.int .i64 0) 1 8 Tryd.underlying37 hi hz0 hz1 hz2 rfl (by decide) (.slice va vn vc) out.length (natV out) rfl (HO.out.alloc _) ⟨w1.heap.size, 0, none⟩ 1 1 [.int .i64 (y : Int)] rfl rfl (one_new w1 _ _) (one_cell _) (by omega) (by unfold maxLen; omega) (by omega) (by simp; omega) _ rfl ?_); intro g4 c4 w4 ho hgr hat hlt4; have HO4 : Hid (w4.ownsRow (n + 1) 3 1 (.slice (some ⟨g4, 0, none⟩) (out.length + 1) c4) (out.length + 1) (natV out ++ [.int .i64 (y : Int)])) := ho; have HB4 : Hid (Below (n + 1) w1 w4) := ((Below.refl (n + 1) w1).alloc (by omega) _).grown hgr (by simp; omega) (ownBlock_ge HO.out); have d4 : w4.cell? ⟨b, 32, none⟩ = some (.slice va vn vc) := (by rw [HB4.out.cell (p := ⟨b, 32, none⟩) (by show b < n + 1; omega)]; exact d1); have e4 : w4.frozen? ⟨b, 32, none⟩ = false := (by rw [HB4.out.frozen (p := ⟨b, 32, none⟩) (by show b < n + 1; omega)]; exact e1); clear ho hgr hat hlt4)
      have dn : (w4.setCell ⟨b, 32, none⟩ (.slice (some ⟨g4, 0, none⟩) (out.length + 1) c4)).cell? ⟨n, 0, none⟩ = some (.int .i64 (x : Int)) := by
        rw [World.cell?_setCell_other _ _ _ _ (by simp), HB4.out.cell (p := ⟨n, 0, none⟩) (Nat.lt_succ_self _)]; exact HK1.out.cn
      have en : (w4.setCell ⟨b, 32, none⟩ (.slice (some ⟨g4, 0, none⟩) (out.length + 1) c4)).frozen? ⟨n, 0, none⟩ = false := by
        simp only [World.frozen?_setCell]; rw [HB4.out.frozen (p := ⟨n, 0, none⟩) (Nat.lt_succ_self _)]; exact HK1.out.fn
      obtain ⟨W5, hW5⟩ : ∃ W, W = w4.setCell ⟨b, 32, none⟩ (.slice (some ⟨g4, 0, none⟩) (out.length + 1) c4) := ⟨_, rfl⟩
      have HW5 := (show Hid (W5 = w4.setCell ⟨b, 32, none⟩ (.slice (some ⟨g4, 0, none⟩) (out.length + 1) c4)) from hW5)
      have HD4 := (show Hid (w4.cell? ⟨b, 32, none⟩ = some (.slice va vn vc)) from d4)
      have HE4 := (show Hid (w4.frozen? ⟨b, 32, none⟩ = false) from e4)
      rw [← hW5] at dn en ⊢
      clear hW5 d4 e4 d1 e1
      go_wp2
      go_end0
      have hyw : IntKind.i64.wrap ((y : Int) + 1) = ((y + 1 : Nat) : Int) := by rw [IntKind.wrap_i64]; omega
      refine ⟨rfl, .slice (some ⟨g4, 0, none⟩) (out.length + 1) c4, ?_⟩
      have HM5 : Mov b w4 W5 := by rw [HW5.out]; exact (Mov.refl b w4).set 32 _
      have HM6 : ∀ u, Mov n W5 (W5.setCell ⟨n, 0, none⟩ u) := fun u => (Mov.refl n W5).set 0 u
      have hbz : b < W5.heap.size := by have := HM5.size; have := HB4.out.size; omega
      have hk : ∀ u, (W5.setCell ⟨n, 0, none⟩ u).heap[b]? = W5.heap[b]? := fun u => (HM6 u).block b hbz (by omega)
      refine ⟨((HK1.out.cu.laterB HB4.out (by omega)).mov HM5 (by omega)).mov (HM6 _) (by omega), ?_, ?_, ?_, ?_, ?_, ?_, h1, h2, ?_⟩
      · intro j u hu
        have hj : j < 32 := by have := (List.getElem?_eq_some_iff.1 hu).1; rw [bc_length, hnm] at this; exact this
        rw [World.cell?_of_block (hk _), HW5.out, World.cell?_setCell_other _ _ _ _ (by intro h; injection h with _ h2; omega), HB4.out.cell (p := ⟨b, 0 + j, none⟩) (by show b < n + 1; omega)]
        exact HK1.out.c0 j u hu
      · rw [World.cell?_of_block (hk _), HW5.out]; exact World.cell?_setCell_same _ _ _ HD4.out
      · rw [World.frozen?_of_block (hk _), HW5.out]; simp only [World.frozen?_setCell]; exact HE4.out
      · first | exact World.cell?_setCell_same _ _ _ dn | (rw [← hyw]; exact World.cell?_setCell_same _ _ _ dn)
      · simp only [World.frozen?_setCell]; exact en
      · rw [List.length_append, show natV (out ++ [y]) = natV out ++ [.int .i64 (y : Int)] by simp [natV]]
        exact own_mov (own_mov HO4.out HM5 (by omega)) (HM6 _) (Nat.lt_succ_self _)
      · rw [HW5.out]; exact ((HK1.out.bel.later HB4.out (by omega)).set 32 _ (Nat.le_refl _)).set 0 _ (by omega)
    exact hmain.mono fun e w' he => by rw [if_pos rfl]; exact he
  · have hc := calls_no ht hr
    have hmain : Calls Tryd.prog 77 #[.pointer (some ⟨g, 0, none⟩), .pointer (some ⟨n, 0, none⟩), .pointer (some ⟨b, 0, none⟩)] w fun e w' => e = Pan c1 ∧ Mv g b w0 w' := by
      clear ht
      have hbw : b < w.heap.size := World.block_lt_of_cell? w _ HH.out.c1
      go_enter Tryd.func77, Tryd.ntmps77
      go_wp2_with (go_at_call 78; go_must (refine hc.mono ?_); rintro e w1 ⟨rfl, hm1⟩)
      exact ⟨rfl, rfl, HH.out.bel.mov hm1 (by omega)⟩
    exact hmain.mono fun e w' he => by rw [if_neg hr]; exact he

theorem mov_setCells {g b : Nat} {a w : World} (h : Mov g a w) (hb : a.heap.size ≤ b) (vs : List Value) (o : Nat) : Mov g a (w.setCells b o vs) := h.onB (below_setCells (Below.refl a.heap.size w) b hb vs o)

set_option maxRecDepth 10000 in
set_option maxHeartbeats 2000000 in
theorem nameOf_any (g : Nat) (l m : List UInt8) (w : World) (h : Cu w g l m) (hl : l.length ≤ maxLen) :
    Calls Tryd.prog 76 #[.pointer (some ⟨g, 0, none⟩)] w fun x w' => if (rTake 32 (m, 0)).2.2 = 0 then x = .returned (aggD (ofL (rTake 32 (m, 0)).1)) ∧ Cu w' g l (rTake 32 (m, 0)).2.1 ∧ Mov g w w' else x = Pan (rTake 32 (m, 0)).2.2 ∧ Mov g w w' := by
  obtain ⟨W1, hW1⟩ : ∃ W, W = w.alloc (.cells #[.int .u8 0, .int .u8 0, .int .u8 0, .int .u8 0, .int .u8 0, .int .u8 0, .int .u8 0, .int .u8 0, .int .u8 0, .int .u8 0, .int .u8 0, .int .u8 0, .int .u8 0, .int .u8 0, .int .u8 0, .int .u8 0, .int .u8 0, .int .u8 0, .int .u8 0, .int .u8 0, .int .u8 0, .int .u8 0, .int .u8 0, .int .u8 0, .int .u8 0, .int .u8 0, .int .u8 0, .int .u8 0, .int .u8 0, .int .u8 0, .int .u8 0, .int .u8 0] 43) := ⟨_, rfl⟩
  have HA : Hid (Arr .u8 W1 w.heap.size (fun _ => 0) 32) := by show Arr _ _ _ _ _; rw [hW1]; exact Arr.new _ _ 32 _ _ (by rfl)
  have HB1 : Hid (Below w.heap.size w W1) := by show Below _ _ _; rw [hW1]; exact (Below.refl _ _).alloc (Nat.le_refl _) _
  have hz1 : W1.heap.size = w.heap.size + 1 := by rw [hW1]; simp
  have ht := cuTake_any g 32 l m W1 (h.later HB1.out) hl
  have hful := rTake_full 32 (m, 0)
  have hgw := h.lt
  clear h hl
  generalize rTake 32 (m, 0) = p at ht hful
  obtain ⟨t, m1, c1⟩ := p
  by_cases hr : c1 = 0
  · subst hr
    have h1 := calls_ok ht rfl
    have hts : (ofL t).size = 32 := by rw [ofL_size]; exact hful rfl
    have HE : Hid (aggD (ofL t) = .agg (wl .u8 (byF (ofL t)) 32).toArray) := by show _ = _; unfold aggD; rw [bc_wl _ 32 hts]
    have HD : Hid (∀ W, Calls Tryd.prog 30 #[.string (ofL t)] W fun e w' => e = .returned (.tuple #[.agg (wl .u8 (byF (ofL t)) 32).toArray, .bool true]) ∧ Below W.heap.size W w') := fun W => by
      have := digestOf_ok (ofL t) W hts
      rw [HE.out] at this; exact this
    have hmain : Calls Tryd.prog 76 #[.pointer (some ⟨g, 0, none⟩)] w fun x w' => x = .returned (.agg (wl .u8 (byF (ofL t)) 32).toArray) ∧ Cu w' g l m1 ∧ Mov g w w' := by
      clear ht hful HE
      generalize byF (ofL t) = f at HD
      generalize ofL t = s at h1 HD hts
      go_enter Tryd.func76, Tryd.ntmps76
      go_upto_region 1 with fail
      rw [← hW1]
      clear hW1
      go_upto_region 2 with (first
        | (go_at_call 54; go_must (refine h1.mono ?_); rintro x w2 ⟨rfl, hc2, hm2⟩; have HC2 := (show Hid (Cu w2 g l m1) from hc2); have HM2 := (show Hid (Mov g W1 w2) from hm2); clear hc2 hm2)
        | (go_at_call 30; go_must (refine (HD.out _).mono ?_); rintro x w3 ⟨rfl, hb3⟩; have HC3 := (show Hid (Cu w3 g l m1) from HC2.out.later hb3); have HM3 := (show Hid (Mov g W1 w3) from HM2.out.onB (hb3.mono HM2.out.size)); clear hb3)
        | (refine wpList_store_arr rfl 43 _ _ rfl w3.heap.size .u8 (fun _ => 0) f 32 rfl rfl ?_ (by kernel_rfl) ?_; exact Arr.new _ _ 32 _ _ (by rfl)))
      obtain ⟨W4, hW4⟩ : ∃ W, W = (w3.alloc (.cells #[.int .u8 0, .int .u8 0, .int .u8 0, .int .u8 0, .int .u8 0, .int .u8 0, .int .u8 0, .int .u8 0, .int .u8 0, .int .u8 0, .int .u8 0, .int .u8 0, .int .u8 0, .int .u8 0, .int .u8 0, .int .u8 0, .int .u8 0, .int .u8 0, .int .u8 0, .int .u8 0, .int .u8 0, .int .u8 0, .int .u8 0, .int .u8 0, .int .u8 0, .int .u8 0, .int .u8 0, .int .u8 0, .int .u8 0, .int .u8 0, .int .u8 0, .int .u8 0] 43)).setCells w3.heap.size 0 (wl .u8 f 32) := ⟨_, rfl⟩
      have HA4 : Hid (Arr .u8 W4 w3.heap.size f 32) := by show Arr _ _ _ _ _; rw [hW4]; exact (Arr.new w3 (fun _ => 0) 32 _ _ (by rfl)).all _
      have HB4 : Hid (Below w3.heap.size w3 W4) := by show Below _ _ _; rw [hW4]; exact below_setCells ((Below.refl _ _).alloc (Nat.le_refl _) _) _ (Nat.le_refl _) _ _
      rw [← hW4]
      clear hW4
      have hsz := HM3.out.size
      have HR4 : Hid (Arr .u8 W4 w.heap.size (fun _ => 0) 32) := by
        have hb : w3.heap[w.heap.size]? = W1.heap[w.heap.size]? := HM3.out.block w.heap.size (by omega) (by omega)
        have h3 : Arr .u8 w3 w.heap.size (fun _ => 0) 32 := fun j hj => ⟨by rw [World.cell?_of_block hb]; exact (HA.out j hj).1, by rw [World.frozen?_of_block hb]; exact (HA.out j hj).2⟩
        exact h3.later HB4.out (by omega)
      go_wp2_with (first
        | (refine wpList_load_arr rfl 43 _ rfl w3.heap.size rfl .u8 f 32 _ ?_ Tryd.underlying43 rfl (by kernel_rfl) ?_; exact HA4.out)
        | (refine wpList_store_arr rfl 43 _ _ rfl w.heap.size .u8 (fun _ => 0) f 32 rfl rfl ?_ (by kernel_rfl) ?_; exact HR4.out))
      have HBs : Below w.heap.size W4 (W4.setCells w.heap.size 0 (wl .u8 f 32)) := below_setCells (Below.refl _ _) _ (Nat.le_refl _) _ _
      refine bodyPost_ret (results_arr Tryd.results76 _ _ w.heap.size .u8 f 32 _ rfl (HR4.out.all _) Tryd.underlying43 rfl (by kernel_rfl)) rfl ⟨rfl, (HC3.out.later HB4.out).laterB HBs hgw, ?_⟩
      have hB1 := HB1.out
      have hM : Mov g w w3 := ⟨HM3.out.os.trans hB1.os, HM3.out.tape.trans hB1.tape, HM3.out.output.trans hB1.output, by omega, fun k hk hg => (HM3.out.block k (by omega) hg).trans (hB1.block k hk)⟩
      exact (hM.onB (HB4.out.mono (by omega))).onB HBs
    refine hmain.mono fun x w' hx => ?_
    rw [if_pos rfl, HE.out]; exact hx
  · have h1 := calls_no ht hr
    have hmain : Calls Tryd.prog 76 #[.pointer (some ⟨g, 0, none⟩)] w fun x w' => x = Pan c1 ∧ Mov g w w' := by
      clear ht hful
      go_enter Tryd.func76, Tryd.ntmps76
      go_upto_region 1 with fail
      rw [← hW1]
      clear hW1
      go_wp2_with (go_at_call 54; go_must (refine h1.mono ?_); rintro x w2 ⟨rfl, hm2⟩)
      have hB1 := HB1.out
      exact ⟨rfl, rfl, ⟨hm2.os.trans hB1.os, hm2.tape.trans hB1.tape, hm2.output.trans hB1.output, by have := hm2.size; omega, fun k hk hg => (hm2.block k (by omega) hg).trans (hB1.block k hk)⟩⟩
    exact hmain.mono fun x w' hx => by rw [if_neg hr]; exact hx
end Go.Proofs.YtkmalggeieiepaaDoor
namespace Go.Proofs.YtkmalggeieiepaaDoor
open Go.RowKit

set_option maxRecDepth 10000 in
theorem sevReq (w0 w : World) (g b n : Nat) (l m : List UInt8) (nm : ByteArray) (v : Value) (H : Rk w0 w g b n l m nm v 0 []) (hnm : nm.size = 32) (hl : l.length ≤ maxLen) :
    Calls Tryd.prog 55 #[.pointer (some ⟨g, 0, none⟩), .int .u64 1, .int .u64 16, .func (.func 77) #[] #[.pointer (some ⟨n, 0, none⟩), .pointer (some ⟨b, 0, none⟩)]] w fun x w' =>
      if (rIdxs (rWithin 1 16 (m, 0)).1 0 (rWithin 1 16 (m, 0)).2).2.2 = 0 then x = .returned (.tuple #[]) ∧ ∃ v y, Rk w0 w' g b n l (rIdxs (rWithin 1 16 (m, 0)).1 0 (rWithin 1 16 (m, 0)).2).2.1 nm v y (rIdxs (rWithin 1 16 (m, 0)).1 0 (rWithin 1 16 (m, 0)).2).1
      else x = Pan (rIdxs (rWithin 1 16 (m, 0)).1 0 (rWithin 1 16 (m, 0)).2).2.2 ∧ Mv g b w0 w' := by
  have hz := cuSize_any g 1 16 l m w H.cu hl
  have hq : (rWithin 1 16 (m, 0)).1 ≤ 16 := rWithin_hi 1 16 (m, 0)
  generalize rWithin 1 16 (m, 0) = p at hz hq
  obtain ⟨q, m1, c1⟩ := p
  by_cases hr : c1 = 0
  · subst hr
    obtain ⟨R, hR⟩ : ∃ R, R = rIdxs q 0 (m1, 0) := ⟨_, rfl⟩
    have h1 := calls_ok hz rfl
    have hs := sevR_any g q 1 16 (.pointer (some ⟨n, 0, none⟩)) (.pointer (some ⟨b, 0, none⟩)) w
      (fun j W => ∃ m out v x, Rk w0 W g b n l m nm v x out ∧ x ≤ 16 ∧ out.length + j ≤ 16 ∧ (out ++ (rIdxs j x (m, 0)).1, (rIdxs j x (m, 0)).2) = R) (fun W => Mv g b w0 W) R.2.2 hq
      (h1.mono fun x w' ⟨hx, hc, hm⟩ => ⟨hx, m1, [], v, 0, H.mov hm hc, by omega, by simpa using hq, by rw [hR]; rfl⟩)
      (show Hid _ from fun j W hK => by
        obtain ⟨m2, out, v2, x, hB, hx16, hj, hE⟩ := hK
        have hb := rq1_any w0 W g b n l m2 nm v2 x out hB hnm hl (by omega) hx16
        have hlt := rIndex_lt x (m2, 0)
        have hE2 : (out ++ ((rIndex x 16 (m2, 0)).1 :: (rIdxs j ((rIndex x 16 (m2, 0)).1 + 1) (rIndex x 16 (m2, 0)).2).1), (rIdxs j ((rIndex x 16 (m2, 0)).1 + 1) (rIndex x 16 (m2, 0)).2).2) = R := by
          rw [← hE]; show _ = (out ++ (if (0 : Int) = 0 then _ else _ : List Nat × (List UInt8 × Int)).1, (if (0 : Int) = 0 then _ else _ : List Nat × (List UInt8 × Int)).2)
          rw [if_pos rfl]
        generalize rIndex x 16 (m2, 0) = r at hb hE2 hlt
        obtain ⟨y, m3, c3⟩ := r
        have hy16 : y < 16 := hlt
        by_cases h3 : c3 = 0
        · subst h3
          refine .inl (hb.mono fun x w' hx => ?_)
          rw [if_pos rfl] at hx
          obtain ⟨hx, v3, hB3⟩ := hx
          exact ⟨hx, m3, out ++ [y], v3, y + 1, hB3, by omega, by simp; omega, by rw [← hE2]; simp⟩
        · have hRc : R.2.2 = c3 := by rw [← hE2, rIdxs_bad j (y + 1) (m3, c3) h3]
          refine .inr ⟨by rw [hRc]; exact h3, hb.mono fun x w' hx => ?_⟩
          rw [if_neg h3] at hx
          rw [hRc]; exact hx)
    rw [← hR]
    refine hs.mono fun x w' hx => ?_
    rcases hx with ⟨hx, m2, out, v2, y, hB, _, _, hE⟩ | ⟨hE, hx, hb⟩
    · have e1 : R = (out, (m2, 0)) := by rw [← hE]; simp [rIdxs]
      rw [e1, if_pos rfl]
      exact ⟨hx, v2, y, hB⟩
    · rw [if_neg hE]
      exact ⟨hx, hb⟩
  · have h1 := calls_no hz hr
    rw [rIdxs_bad q 0 (m1, c1) hr]
    refine (sev_no g 1 16 _ w (fun W => Mv g b w0 W) c1 (h1.mono fun x w' ⟨hx, hm⟩ => ⟨hx, H.bel.mov hm (Nat.le_of_lt (World.block_lt_of_cell? _ _ H.c1))⟩)).mono fun x w' hx => ?_
    rw [if_neg hr]
    exact hx

/-- a name, and indexes. -/
def rRqs (m : List UInt8) : List UInt8 × (List Nat × (List UInt8 × Int)) :=
  ((rTake 32 (m, 0)).1, rIdxs (rWithin 1 16 (rTake 32 (m, 0)).2).1 0 (rWithin 1 16 (rTake 32 (m, 0)).2).2)
theorem rReq_rqs (m : List UInt8) : rReq m = ((rRqs m).1, ((rRqs m).2.1, (rDone (rRqs m).2.2).2)) := rfl
theorem range_join {w : World} {g : Nat} {a : List Value} {x : Value} (h : w.rangeAt g 0 a) (hx : w.cell? ⟨g, a.length, none⟩ = some x) : w.rangeAt g 0 (a ++ [x]) := fun j v hv => by
  rw [Nat.zero_add]
  by_cases hj : j < a.length
  · rw [List.getElem?_append_left hj] at hv
    have := h j v hv
    rw [Nat.zero_add] at this; exact this
  · have hj2 : j = a.length := by have := (List.getElem?_eq_some_iff.1 hv).1; simp at this; omega
    subst hj2
    simp at hv; subst hv; exact hx
theorem there_block {w w' : World} {b o n : Nat} (h : w.there b o n) (hb : w'.heap[b]? = w.heap[b]?) : w'.there b o n := fun j hj => by
  rw [World.cell?_of_block hb, World.frozen?_of_block hb]; exact h j hj
theorem range_block {w w' : World} {b o : Nat} {cs : List Value} (h : w.rangeAt b o cs) (hb : w'.heap[b]? = w.heap[b]?) : w'.rangeAt b o cs := fun j v hv => by
  rw [World.cell?_of_block hb]; exact h j v hv
theorem there_new (w : World) (T : Nat) (cs : List Value) : (w.alloc (.cells cs.toArray T)).there w.heap.size 0 cs.length := fun j hj => by
  have h := heap_alloc_new w (.cells cs.toArray T)
  refine ⟨?_, ?_⟩
  · have := World.rangeAt_of_block h 0 cs.length j cs[j] (by simp [hj])
    rw [this]; rfl
  · unfold World.frozen?
    rw [h]
    simp
theorem setCells_block (w : World) (b k : Nat) (hk : k ≠ b) : ∀ (vs : List Value) (o : Nat), (w.setCells b o vs).heap[k]? = w.heap[k]? := by
  intro vs
  induction vs generalizing w with
  | nil => intro o; rfl
  | cons v vs ih => intro o; rw [World.setCells, ih, Below.heap_setCell w ⟨b, o, none⟩ v k hk]
theorem mov_cells (w : World) (b : Nat) (vs : List Value) (o : Nat) : Mov b w (w.setCells b o vs) := by
  have h := below_setCells (Below.refl 0 w) b (Nat.zero_le _) vs o
  exact ⟨h.os, h.tape, h.output, h.size, fun k _ hk => setCells_block w b k hk vs o⟩

theorem wpList_store_list {P : Program} {ops : Array Oper} {rest : List Oper} {op : Oper} {a : Act} {w : World} {Q : Exit → Act → World → Prop} (hgd : op.guard = none) (ty : TypeId) (x y : Operand) (ho : op.op = .store ty x y)
    (g o : Nat) (cs : List Value) (hx : a.eval x = .pointer (some ⟨g, o, none⟩)) (hy : a.eval y = .agg cs.toArray) (ht : w.there g o cs.length) (hi : (P.info? ty).map (·.size) = some cs.length) (h1 : ∀ v ∈ cs, v.oneCell' = true)
    (h : wpList P ops Q rest (a.put op.dst undef) (w.setCells g o cs)) : wpList P ops Q (op :: rest) a w :=
  wpList_store_mid hgd ty x y ho g o cs.toArray hx hy (by rw [List.size_toArray]; exact ht) (by rw [List.size_toArray]; exact hi) (all_oneCell_toArray h1) (by simpa using h)
theorem there_sub {w : World} {b o n k m : Nat} (h : w.there b o n) (hk : k + m ≤ n) : w.there b (o + k) m := fun j hj => by
  have := h (k + j) (by omega)
  rw [← Nat.add_assoc] at this; exact this
theorem bc_slice_one (d : ByteArray) (a : Option Addr) (n c : Nat) : ∀ u ∈ bc d ++ [Value.slice a n c], u.oneCell' = true := by
  intro u hu
  rcases List.mem_append.1 hu with h | h
  · exact bc_one d u h
  · simp at h; subst h; rfl

set_option maxRecDepth 10000 in
set_option maxHeartbeats 4000000 in
theorem cuRequest_any (g : Nat) (l m : List UInt8) (w : World) (h : Cu w g l m) (hl : l.length ≤ maxLen) :
    Calls Tryd.prog 43 #[.pointer (some ⟨g, 0, none⟩)] w fun x w' =>
      if (rRqs m).2.2.2 = 0 then ∃ v, x = .returned (.agg (bc (ofL (rRqs m).1) ++ [v]).toArray) ∧ Cu w' g l (rRqs m).2.2.1 ∧ w'.ownsRow w.heap.size 3 1 v (rRqs m).2.1.length (natV (rRqs m).2.1) ∧ Below g w w'
      else x = Pan (rRqs m).2.2.2 ∧ Below g w w' := by
  obtain ⟨W1, hW1⟩ : ∃ W, W = (w.alloc (.cells #[.int .u8 0, .int .u8 0, .int .u8 0, .int .u8 0, .int .u8 0, .int .u8 0, .int .u8 0, .int .u8 0, .int .u8 0, .int .u8 0, .int .u8 0, .int .u8 0, .int .u8 0, .int .u8 0, .int .u8 0, .int .u8 0, .int .u8 0, .int .u8 0, .int .u8 0, .int .u8 0, .int .u8 0, .int .u8 0, .int .u8 0, .int .u8 0, .int .u8 0, .int .u8 0, .int .u8 0, .int .u8 0, .int .u8 0, .int .u8 0, .int .u8 0, .int .u8 0, .slice none 0 0] 83)).alloc (.cells #[.int .u8 0, .int .u8 0, .int .u8 0, .int .u8 0, .int .u8 0, .int .u8 0, .int .u8 0, .int .u8 0, .int .u8 0, .int .u8 0, .int .u8 0, .int .u8 0, .int .u8 0, .int .u8 0, .int .u8 0, .int .u8 0, .int .u8 0, .int .u8 0, .int .u8 0, .int .u8 0, .int .u8 0, .int .u8 0, .int .u8 0, .int .u8 0, .int .u8 0, .int .u8 0, .int .u8 0, .int .u8 0, .int .u8 0, .int .u8 0, .int .u8 0, .int .u8 0, .slice none 0 0] 83) := ⟨_, rfl⟩
  have hgw := h.lt
  have HB1 : Hid (Below w.heap.size w W1) := by show Below _ _ _; rw [hW1]; exact ((Below.refl _ _).alloc (Nat.le_refl _) _).alloc (by simp) _
  have hz1 : W1.heap.size = w.heap.size + 2 := by rw [hW1]; simp
  have t1 : W1.there (w.heap.size + 1) 0 33 := by
    have := there_new (w.alloc (.cells #[.int .u8 0, .int .u8 0, .int .u8 0, .int .u8 0, .int .u8 0, .int .u8 0, .int .u8 0, .int .u8 0, .int .u8 0, .int .u8 0, .int .u8 0, .int .u8 0, .int .u8 0, .int .u8 0, .int .u8 0, .int .u8 0, .int .u8 0, .int .u8 0, .int .u8 0, .int .u8 0, .int .u8 0, .int .u8 0, .int .u8 0, .int .u8 0, .int .u8 0, .int .u8 0, .int .u8 0, .int .u8 0, .int .u8 0, .int .u8 0, .int .u8 0, .int .u8 0, .slice none 0 0] 83)) 83 (#[.int .u8 0, .int .u8 0, .int .u8 0, .int .u8 0, .int .u8 0, .int .u8 0, .int .u8 0, .int .u8 0, .int .u8 0, .int .u8 0, .int .u8 0, .int .u8 0, .int .u8 0, .int .u8 0, .int .u8 0, .int .u8 0, .int .u8 0, .int .u8 0, .int .u8 0, .int .u8 0, .int .u8 0, .int .u8 0, .int .u8 0, .int .u8 0, .int .u8 0, .int .u8 0, .int .u8 0, .int .u8 0, .int .u8 0, .int .u8 0, .int .u8 0, .int .u8 0, .slice none 0 0] : Array Value).toList
    rw [hW1]; simpa using this
  have t0 : W1.there w.heap.size 0 33 := by
    have := there_new w 83 (#[.int .u8 0, .int .u8 0, .int .u8 0, .int .u8 0, .int .u8 0, .int .u8 0, .int .u8 0, .int .u8 0, .int .u8 0, .int .u8 0, .int .u8 0, .int .u8 0, .int .u8 0, .int .u8 0, .int .u8 0, .int .u8 0, .int .u8 0, .int .u8 0, .int .u8 0, .int .u8 0, .int .u8 0, .int .u8 0, .int .u8 0, .int .u8 0, .int .u8 0, .int .u8 0, .int .u8 0, .int .u8 0, .int .u8 0, .int .u8 0, .int .u8 0, .int .u8 0, .slice none 0 0] : Array Value).toList
    rw [hW1]; exact World.there_alloc (by simpa using this) _
  have c1 : W1.cell? ⟨w.heap.size + 1, 32, none⟩ = some (.slice none 0 0) := by rw [hW1]; simp [go_sem]
  have hh := nameOf_any g l m W1 (h.later HB1.out) hl
  have hful := rTake_full 32 (m, 0)
  have HMV : Hid (∀ w2, Mov g W1 w2 → Below g w w2) := fun w2 hm => (HB1.out.mono (Nat.le_of_lt hgw)).trans (hm.below (Nat.le_refl _) (by omega))
  have HE : Hid (rRqs m = ((rTake 32 (m, 0)).1, rIdxs (rWithin 1 16 (rTake 32 (m, 0)).2).1 0 (rWithin 1 16 (rTake 32 (m, 0)).2).2)) := rfl
  generalize rRqs m = M at HE
  clear h
  generalize rTake 32 (m, 0) = p at hh HE hful
  obtain ⟨t, m1, d1⟩ := p
  by_cases hr : d1 = 0
  · subst hr
    have h1 := hh.mono (R' := fun x w' => x = .returned (aggD (ofL t)) ∧ Cu w' g l m1 ∧ Mov g W1 w') (fun x w' hx => by rw [if_pos rfl] at hx; exact hx)
    have hts : (ofL t).size = 32 := by rw [ofL_size]; exact hful rfl
    have HE2 : Hid (M = (t, rIdxs (rWithin 1 16 (m1, 0)).1 0 (rWithin 1 16 (m1, 0)).2)) := HE.out
    clear hh hful HE
    have hM1 : M.1 = t := by rw [HE2.out]
    rw [hM1]
    generalize ofL t = nm at h1 hts
    obtain ⟨R, hR⟩ : ∃ R, R = rIdxs (rWithin 1 16 (m1, 0)).1 0 (rWithin 1 16 (m1, 0)).2 := ⟨_, rfl⟩
    have hM2 : M.2 = R := by rw [HE2.out, hR]
    rw [hM2]
    have HSV : Hid (∀ (W : World) (n : Nat), Rk W W g (w.heap.size + 1) n l m1 nm (.slice none 0 0) 0 [] → Calls Tryd.prog 55 #[.pointer (some ⟨g, 0, none⟩), .int .u64 1, .int .u64 16, .func (.func 77) #[] #[.pointer (some ⟨n, 0, none⟩), .pointer (some ⟨w.heap.size + 1, 0, none⟩)]] W fun x w' => if R.2.2 = 0 then x = .returned (.tuple #[]) ∧ ∃ v y, Rk W w' g (w.heap.size + 1) n l R.2.1 nm v y R.1 else x = Pan R.2.2 ∧ Mv g (w.heap.size + 1) W w') := fun W n hK => by rw [hR]; exact sevReq W W g (w.heap.size + 1) n l m1 nm _ hK hts hl
    clear HE2 hM1 hM2 hR
    have hmf : ∀ (fn : Fn) (first cap : Array Value) (w : World), (Instr.makeFunc fn first cap).run Tryd.prog w = .ok (.func fn first cap) w := fun _ _ _ _ => rfl
    have HT1 : Hid (W1.there (w.heap.size + 1) 0 33) := t1
    have HT0 : Hid (W1.there w.heap.size 0 33) := t0
    have HC1 : Hid (W1.cell? ⟨w.heap.size + 1, 32, none⟩ = some (.slice none 0 0)) := c1
    clear t1 t0 c1
    have hbl := bc_length nm
    obtain ⟨T, m2, d2⟩ := R
    by_cases hr2 : d2 = 0
    · subst hr2
      have HS2 : Hid (∀ (W : World) (n : Nat), Rk W W g (w.heap.size + 1) n l m1 nm (.slice none 0 0) 0 [] → Calls Tryd.prog 55 #[.pointer (some ⟨g, 0, none⟩), .int .u64 1, .int .u64 16, .func (.func 77) #[] #[.pointer (some ⟨n, 0, none⟩), .pointer (some ⟨w.heap.size + 1, 0, none⟩)]] W fun x w' => x = .returned (.tuple #[]) ∧ ∃ v y, Rk W w' g (w.heap.size + 1) n l m2 nm v y T) := fun W n hK => (HSV.out W n hK).mono (fun x w' hx => by rw [if_pos rfl] at hx; exact hx)
      clear HSV
      have hmain : Calls Tryd.prog 43 #[.pointer (some ⟨g, 0, none⟩)] w fun x w' => ∃ v, x = .returned (.agg (bc nm ++ [v]).toArray) ∧ Cu w' g l m2 ∧ w'.ownsRow w.heap.size 3 1 v T.length (natV T) ∧ Below g w w' := by
        go_enter Tryd.func43, Tryd.ntmps43
        go_upto_region 2 with fail
        rw [← hW1]
        clear hW1
        go_upto_region 3 with (first
          | (go_at_call 76; go_must (refine h1.mono ?_); rintro x w2 ⟨rfl, hc2, hm2⟩; have HC2 := (show Hid (Cu w2 g l m1) from hc2); have HM2 := (show Hid (Mov g W1 w2) from hm2); have hbk : w2.heap[w.heap.size + 1]? = W1.heap[w.heap.size + 1]? := hm2.block _ (by omega) (by omega); have HT2 := (show Hid (w2.there (w.heap.size + 1) 0 33) from there_block HT1.out hbk); have HK2 := (show Hid (w2.heap[w.heap.size + 1]? = W1.heap[w.heap.size + 1]?) from hbk); clear hc2 hm2 hbk)
          | (refine wpList_store_list rfl 43 _ _ rfl (w.heap.size + 1) 0 (bc nm) rfl rfl ?_ ?_ (bc_one nm) ?_; exact there_sub (k := 0) HT2.out (by rw [bc_length, hts]; omega); rw [bc_length, hts]; kernel_rfl))
        obtain ⟨W3, hW3⟩ : ∃ W, W = w2.setCells (w.heap.size + 1) 0 (bc nm) := ⟨_, rfl⟩
        have hM3 : Mov (w.heap.size + 1) w2 W3 := by rw [hW3]; exact mov_cells _ _ _ _
        have hs2 := HM2.out.size
        have hs3 := hM3.size
        have HCU3 : Hid (Cu W3 g l m1) := HC2.out.mov hM3 (by omega)
        have HRG3 : Hid (W3.rangeAt (w.heap.size + 1) 0 (bc nm)) := by show World.rangeAt _ _ _ _; rw [hW3]; exact World.rangeAt_setCells_same _ _ _ _ (there_sub (k := 0) HT2.out (by rw [bc_length, hts]; omega))
        have HT3 : Hid (W3.there (w.heap.size + 1) 0 33) := by show World.there _ _ _ _; rw [hW3]; exact World.there_setCells HT2.out _ _ _
        have HS3 : Hid (W3.cell? ⟨w.heap.size + 1, 32, none⟩ = some (.slice none 0 0)) := by
          show _ = _
          rw [hW3, World.cell?_setCells_out _ _ _ _ _ (fun _ _ => .inr (by rw [bc_length, hts]; show 0 + 32 ≤ 32; omega)), World.cell?_of_block HK2.out]; exact HC1.out
        have HR3 : Hid (W3.heap[w.heap.size]? = W1.heap[w.heap.size]?) := (hM3.block _ (by omega) (by omega)).trans (HM2.out.block _ (by omega) (by omega))
        have HB3 : Hid (Below g w W3) := (HMV.out w2 HM2.out).trans (hM3.below (by omega) (by omega))
        rw [← hW3]
        clear hW3 hM3 HC2 HM2 HT2 HK2
        go_upto_region 4 with fail
        obtain ⟨W5, hW5⟩ : ∃ W, W = W3.alloc (.cells #[.int .i64 0] 3) := ⟨_, rfl⟩
        have hb5 : Below W3.heap.size W3 W5 := by rw [hW5]; exact (Below.refl _ _).alloc (Nat.le_refl _) _
        have hbw : w.heap.size + 1 < W3.heap.size := by omega
        have HRK : Hid (Rk W5 W5 g (w.heap.size + 1) W3.heap.size l m1 nm (.slice none 0 0) 0 []) := by
          refine ⟨HCU3.out.later hb5, range_later HRG3.out hb5 hbw, ?_, ?_, ?_, ?_, World.ownsRow_nil _ _ _ _, by omega, hbw, Mv.refl _ _ _⟩
          · rw [hb5.cell (p := ⟨w.heap.size + 1, 32, none⟩) hbw]; exact HS3.out
          · rw [hb5.frozen (p := ⟨w.heap.size + 1, 32, none⟩) hbw]; have := (HT3.out 32 (by omega)).2; rw [Nat.zero_add] at this; exact this
          · rw [hW5]; simp [go_sem]
          · rw [hW5]; simp [go_sem]
        have HR5 : Hid (W5.heap[w.heap.size]? = W1.heap[w.heap.size]?) := (hb5.block _ (by omega)).trans HR3.out
        have HB5 : Hid (Below g w W5) := HB3.out.trans (hb5.mono (by omega))
        have hz5 := hb5.size
        rw [← hW5]
        clear hW5 hb5 HCU3 HRG3 HT3 HS3 HR3 HB3
        have h2 := HS2.out W5 W3.heap.size HRK.out
        go_upto_region 5 with (go_at_call 55; go_must (refine h2.mono ?_); rintro x w6 ⟨rfl, v, y, hK6⟩; have HK6 := (show Hid (Rk W5 w6 g (w.heap.size + 1) W3.heap.size l m2 nm v y T) from hK6); clear hK6)
        clear h2 HS2
        obtain ⟨va, vn, vc, rfl⟩ := own_slice HK6.out.own
        have HRJ : Hid (w6.rangeAt (w.heap.size + 1) 0 (bc nm ++ [Value.slice va vn vc])) := range_join HK6.out.c0 (by rw [bc_length, hts]; exact HK6.out.c1)
        have HT6 : Hid (w6.there w.heap.size 0 33) := there_block HT0.out ((HK6.out.bel.block _ (by omega) (by omega)).trans HR5.out)
        have HL33 : Hid ((bc nm ++ [Value.slice va vn vc]).length = 33) := by show _ = _; rw [List.length_append, bc_length, hts]; rfl
        go_wp2_with (first
          | (refine wpList_load_mid rfl 83 _ rfl (w.heap.size + 1) 0 rfl (bc nm ++ [Value.slice va vn vc]) _ ?_ Tryd.underlying83 rfl ?_ ?_; exact HRJ.out; rw [HL33.out]; kernel_rfl)
          | (refine wpList_store_list rfl 83 _ _ rfl w.heap.size 0 (bc nm ++ [Value.slice va vn vc]) rfl rfl ?_ ?_ (bc_slice_one nm va vn vc) ?_; rw [HL33.out]; exact HT6.out; rw [HL33.out]; kernel_rfl))
        have hM7 : Mov w.heap.size w6 (w6.setCells w.heap.size 0 (bc nm ++ [Value.slice va vn vc])) := mov_cells _ _ _ _
        have h6 := HK6.out.bel.size
        refine bodyPost_ret (results_mid Tryd.results43 _ _ w.heap.size (bc nm ++ [Value.slice va vn vc]) _ rfl (World.rangeAt_setCells_same _ _ _ _ (by rw [HL33.out]; exact HT6.out)) Tryd.underlying83 rfl (by rw [HL33.out]; kernel_rfl)) rfl ⟨.slice va vn vc, rfl, HK6.out.cu.mov hM7 (by omega), own_base (own_mov HK6.out.own hM7 (by omega)) (by omega), ?_⟩
        exact (HB5.out.trans (HK6.out.bel.below (Nat.le_refl _) (by omega))).trans (hM7.below (by omega) (by omega))
      exact hmain.mono fun x w' hx => by rw [if_pos rfl]; exact hx
    · have HS2 : Hid (∀ (W : World) (n : Nat), Rk W W g (w.heap.size + 1) n l m1 nm (.slice none 0 0) 0 [] → Calls Tryd.prog 55 #[.pointer (some ⟨g, 0, none⟩), .int .u64 1, .int .u64 16, .func (.func 77) #[] #[.pointer (some ⟨n, 0, none⟩), .pointer (some ⟨w.heap.size + 1, 0, none⟩)]] W fun x w' => x = .panicked [{ v := .iface 26 (.int .i64 d2), recovered := false }] ∧ Mv g (w.heap.size + 1) W w') := fun W n hK => (HSV.out W n hK).mono (fun x w' hx => by rw [if_neg hr2] at hx; exact hx)
      clear HSV
      have hmain : Calls Tryd.prog 43 #[.pointer (some ⟨g, 0, none⟩)] w fun x w' => x = Pan d2 ∧ Below g w w' := by
        go_enter Tryd.func43, Tryd.ntmps43
        go_upto_region 2 with fail
        rw [← hW1]
        clear hW1
        go_upto_region 3 with (first
          | (go_at_call 76; go_must (refine h1.mono ?_); rintro x w2 ⟨rfl, hc2, hm2⟩; have HC2 := (show Hid (Cu w2 g l m1) from hc2); have HM2 := (show Hid (Mov g W1 w2) from hm2); have hbk : w2.heap[w.heap.size + 1]? = W1.heap[w.heap.size + 1]? := hm2.block _ (by omega) (by omega); have HT2 := (show Hid (w2.there (w.heap.size + 1) 0 33) from there_block HT1.out hbk); have HK2 := (show Hid (w2.heap[w.heap.size + 1]? = W1.heap[w.heap.size + 1]?) from hbk); clear hc2 hm2 hbk)
          | (refine wpList_store_list rfl 43 _ _ rfl (w.heap.size + 1) 0 (bc nm) rfl rfl ?_ ?_ (bc_one nm) ?_; exact there_sub (k := 0) HT2.out (by rw [bc_length, hts]; omega); rw [bc_length, hts]; kernel_rfl))
        obtain ⟨W3, hW3⟩ : ∃ W, W = w2.setCells (w.heap.size + 1) 0 (bc nm) := ⟨_, rfl⟩
        have hM3 : Mov (w.heap.size + 1) w2 W3 := by rw [hW3]; exact mov_cells _ _ _ _
        have hs2 := HM2.out.size
        have hs3 := hM3.size
        have HCU3 : Hid (Cu W3 g l m1) := HC2.out.mov hM3 (by omega)
        have HRG3 : Hid (W3.rangeAt (w.heap.size + 1) 0 (bc nm)) := by show World.rangeAt _ _ _ _; rw [hW3]; exact World.rangeAt_setCells_same _ _ _ _ (there_sub (k := 0) HT2.out (by rw [bc_length, hts]; omega))
        have HT3 : Hid (W3.there (w.heap.size + 1) 0 33) := by show World.there _ _ _ _; rw [hW3]; exact World.there_setCells HT2.out _ _ _
        have HS3 : Hid (W3.cell? ⟨w.heap.size + 1, 32, none⟩ = some (.slice none 0 0)) := by
          show _ = _
          rw [hW3, World.cell?_setCells_out _ _ _ _ _ (fun _ _ => .inr (by rw [bc_length, hts]; show 0 + 32 ≤ 32; omega)), World.cell?_of_block HK2.out]; exact HC1.out
        have HR3 : Hid (W3.heap[w.heap.size]? = W1.heap[w.heap.size]?) := (hM3.block _ (by omega) (by omega)).trans (HM2.out.block _ (by omega) (by omega))
        have HB3 : Hid (Below g w W3) := (HMV.out w2 HM2.out).trans (hM3.below (by omega) (by omega))
        rw [← hW3]
        clear hW3 hM3 HC2 HM2 HT2 HK2
        go_upto_region 4 with fail
        obtain ⟨W5, hW5⟩ : ∃ W, W = W3.alloc (.cells #[.int .i64 0] 3) := ⟨_, rfl⟩
        have hb5 : Below W3.heap.size W3 W5 := by rw [hW5]; exact (Below.refl _ _).alloc (Nat.le_refl _) _
        have hbw : w.heap.size + 1 < W3.heap.size := by omega
        have HRK : Hid (Rk W5 W5 g (w.heap.size + 1) W3.heap.size l m1 nm (.slice none 0 0) 0 []) := by
          refine ⟨HCU3.out.later hb5, range_later HRG3.out hb5 hbw, ?_, ?_, ?_, ?_, World.ownsRow_nil _ _ _ _, by omega, hbw, Mv.refl _ _ _⟩
          · rw [hb5.cell (p := ⟨w.heap.size + 1, 32, none⟩) hbw]; exact HS3.out
          · rw [hb5.frozen (p := ⟨w.heap.size + 1, 32, none⟩) hbw]; have := (HT3.out 32 (by omega)).2; rw [Nat.zero_add] at this; exact this
          · rw [hW5]; simp [go_sem]
          · rw [hW5]; simp [go_sem]
        have HR5 : Hid (W5.heap[w.heap.size]? = W1.heap[w.heap.size]?) := (hb5.block _ (by omega)).trans HR3.out
        have HB5 : Hid (Below g w W5) := HB3.out.trans (hb5.mono (by omega))
        have hz5 := hb5.size
        rw [← hW5]
        clear hW5 hb5 HCU3 HRG3 HT3 HS3 HR3 HB3
        have h2 := HS2.out W5 W3.heap.size HRK.out
        go_wp2_with (go_at_call 55; go_must (refine h2.mono ?_); rintro x w6 ⟨rfl, hv6⟩)
        exact ⟨rfl, rfl, HB5.out.trans (hv6.below (Nat.le_refl _) (by omega))⟩
      exact hmain.mono fun x w' hx => by rw [if_neg hr2]; exact hx
  · have h1 := hh.mono (R' := fun x w' => x = .panicked [{ v := .iface 26 (.int .i64 d1), recovered := false }] ∧ Mov g W1 w') (fun x w' hx => by rw [if_neg hr] at hx; exact hx)
    have hM : M.2.2.2 = d1 := by rw [HE.out]; show (rIdxs (rWithin 1 16 (m1, d1)).1 0 (rWithin 1 16 (m1, d1)).2).2.2 = d1; rw [rIdxs_bad _ _ _ (by rw [within_bad 1 16 m1 d1 hr]; exact hr), within_bad 1 16 m1 d1 hr]
    rw [hM]
    have hmain : Calls Tryd.prog 43 #[.pointer (some ⟨g, 0, none⟩)] w fun x w' => x = Pan d1 ∧ Below g w w' := by
      clear hh HE hM t1 t0 c1 hful
      go_enter Tryd.func43, Tryd.ntmps43
      go_upto_region 2 with fail
      rw [← hW1]
      clear hW1
      go_wp2_with (go_at_call 76; go_must (refine h1.mono ?_); rintro x w2 ⟨rfl, hm2⟩)
      exact ⟨rfl, rfl, HMV.out _ hm2⟩
    exact hmain.mono fun x w' hx => by rw [if_neg hr]; exact hx
end Go.Proofs.YtkmalggeieiepaaDoor
