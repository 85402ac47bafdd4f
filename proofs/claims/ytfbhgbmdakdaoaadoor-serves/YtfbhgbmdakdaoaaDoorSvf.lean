import Derived.Test.YtfbhgbmdakdaoaaDoorSve
import Derived.Test.YtfbhgbmdakdaoaaDoorSvd
import Derived.WalkKit
import Derived.WalkSpells
import Derived.WalkLawsBesides
import Derived.Deep.MidRow
import Derived.Deep.DeepCutAuto
import Derived.Deep.AppendLies
import Derived.Deep.LoopGhost
import Derived.Laws.Tables
namespace Go.Proofs.YtfbhgbmdakdaoaaDoor
open Go.RowKit

set_option maxRecDepth 10000 in
set_option maxHeartbeats 1000000 in
theorem cuIndex_any (g next : Nat) (l m : List UInt8) (w : World) (h : Cu w g l m) (hl : l.length ≤ maxLen) (hx : next ≤ 16) :
    Calls Tryd.prog 77 #[.pointer (some ⟨g, 0, none⟩), .int .i64 (next : Int), .int .i64 16] w (Got g l w (.int .i64 ((rIndex next 16 (m, 0)).1 : Int)) (rIndex next 16 (m, 0)).2) := by
  have hz := cuAny_any g l m w h hl
  have HE : Hid (rIndex next 16 (m, 0) = if (rSize (m, 0)).2.2 ≠ 0 then (0, (rSize (m, 0)).2) else if 16 ≤ (rSize (m, 0)).1 ∨ 16 ≤ (rSize (m, 0)).1 + next then (0, ((rSize (m, 0)).2.1, 4)) else (next + (rSize (m, 0)).1, (rSize (m, 0)).2)) := rfl
  clear h hl
  generalize rIndex next 16 (m, 0) = I at HE
  generalize rSize (m, 0) = p at hz HE
  obtain ⟨x, m1, c1⟩ := p
  obtain ⟨X, hX⟩ : ∃ X : Int, X = (x : Int) := ⟨_, rfl⟩
  have hz' : Calls Tryd.prog 92 #[.pointer (some ⟨g, 0, none⟩)] w (Got g l w (.int .u64 X) (m1, c1)) := by rw [hX]; exact hz
  clear hz
  have X0 : 0 ≤ X := by omega
  have L0 : (0 : Int) ≤ (next : Int) := by omega
  have L1 : (next : Int) ≤ 16 := by omega
  have hw : IntKind.u64.wrap (16 - (next : Int)) = 16 - (next : Int) := by rw [IntKind.wrap_u64]; omega
  have hw2 : IntKind.i64.wrap (16 - (next : Int)) = 16 - (next : Int) := by rw [IntKind.wrap_i64]; omega
  by_cases hr : c1 = 0
  · subst hr
    have h1 := calls_ok hz' rfl
    clear hz'
    by_cases hb : 16 ≤ x + next
    · have e : I = (0, (m1, 4)) := by rw [HE.out]; simp [hb]
      rw [e]
      have hge : 16 - (next : Int) ≤ X := by omega
      clear hb hX e HE
      generalize (next : Int) = LO at *
      go_enter Tryd.func77, Tryd.ntmps77
      go_wp2_with (go_at_call 92; go_must (refine h1.mono ?_); rintro y w1 ⟨rfl, hc1, hm1⟩)
      exact ⟨rfl, Got.no rfl (by omega) hm1⟩
    · have e : I = (next + x, (m1, 0)) := by rw [HE.out]; have h2 : ¬ (16 ≤ x ∨ 16 ≤ x + next) := by omega
                                             simp [h2]
      rw [e]
      have hge : ¬ (16 - (next : Int) ≤ X) := by omega
      have hX1 : X ≤ 16 := by omega
      have hw3 : IntKind.i64.wrap X = X := by rw [IntKind.wrap_i64]; omega
      have hw4 : IntKind.i64.wrap ((next : Int) + X) = (next : Int) + X := by rw [IntKind.wrap_i64]; omega
      have hNX : ((next + x : Nat) : Int) = (next : Int) + X := by omega
      rw [hNX]
      clear hb hX e HE hNX
      generalize (next : Int) = LO at *
      go_enter Tryd.func77, Tryd.ntmps77
      go_wp2_with (go_at_call 92; go_must (refine h1.mono ?_); rintro y w1 ⟨rfl, hc1, hm1⟩)
      go_ret
      exact Got.ok rfl hm1 hc1
  · have h1 := calls_no hz' hr
    have e : I = (0, (m1, c1)) := by rw [HE.out]; simp [hr]
    rw [e]
    clear hz' hX e HE
    go_enter Tryd.func77, Tryd.ntmps77
    go_wp2_with (go_at_call 92; go_must (refine h1.mono ?_); rintro y w1 ⟨rfl, hm1⟩)
    exact ⟨rfl, Got.no rfl hr hm1⟩

/-- a request that is being read: its variable lies in block b, the next place in block n. -/
structure Rk (w0 W : World) (g b n : Nat) (l m : List UInt8) (nm : ByteArray) (v : Value) (x : Nat) (out : List Nat) : Prop where
  cu : Cu W g l m
  c0 : W.rangeAt b 0 (bc nm)
  c1 : W.cell? ⟨b, 32, none⟩ = some v
  f1 : W.frozen? ⟨b, 32, none⟩ = false
  cn : W.cell? ⟨n, 0, none⟩ = some (.int .i64 (x : Int))
  fn : W.frozen? ⟨n, 0, none⟩ = false
  own : W.ownsRow (n + 1) 3 1 v out.length (natV out)
  gb : g < b
  bn : b < n
  bel : Mv g b w0 W
theorem Rk.mov {w0 W w' : World} {g b n : Nat} {l m m' : List UInt8} {nm : ByteArray} {v : Value} {x : Nat} {out : List Nat} (H : Rk w0 W g b n l m nm v x out) (hm : Mov g W w') (hc : Cu w' g l m') : Rk w0 w' g b n l m' nm v x out := by
  have hl : b < W.heap.size := World.block_lt_of_cell? W _ H.c1
  have hl2 : n < W.heap.size := World.block_lt_of_cell? W _ H.cn
  have h1 := H.gb
  have h2 := H.bn
  have hb := hm.block b hl (by omega)
  have hn := hm.block n hl2 (by omega)
  exact ⟨hc, fun j u hu => by rw [World.cell?_of_block hb]; exact H.c0 j u hu, by rw [World.cell?_of_block hb]; exact H.c1, by rw [World.frozen?_of_block hb]; exact H.f1, by rw [World.cell?_of_block hn]; exact H.cn, by rw [World.frozen?_of_block hn]; exact H.fn, own_mov H.own hm (by omega), H.gb, H.bn, H.bel.mov hm (by omega)⟩

set_option maxRecDepth 10000 in
set_option maxHeartbeats 2000000 in
theorem rq1_any (w0 w : World) (g b n : Nat) (l m : List UInt8) (nm : ByteArray) (v : Value) (x : Nat) (out : List Nat) (H : Rk w0 w g b n l m nm v x out) (hnm : nm.size = 32) (hl : l.length ≤ maxLen) (hn : out.length ≤ 16) (hx : x ≤ 16) :
    Calls Tryd.prog 76 #[.pointer (some ⟨g, 0, none⟩), .pointer (some ⟨n, 0, none⟩), .pointer (some ⟨b, 0, none⟩)] w fun e w' =>
      if (rIndex x 16 (m, 0)).2.2 = 0 then e = .returned (.tuple #[]) ∧ ∃ v', Rk w0 w' g b n l (rIndex x 16 (m, 0)).2.1 nm v' ((rIndex x 16 (m, 0)).1 + 1) (out ++ [(rIndex x 16 (m, 0)).1]) else e = Pan (rIndex x 16 (m, 0)).2.2 ∧ Mv g b w0 w' := by
  obtain ⟨i0, hi, hz0, hz1, hz2⟩ := info_parts infoInt
  have ht := cuIndex_any g x l m w H.cu hl hx
  have hy := rIndex_lt x (m, 0)
  have HH : Hid (Rk w0 w g b n l m nm v x out) := H
  have cn := H.cn
  have h1 := H.gb
  have h2 := H.bn
  clear H
  generalize rIndex x 16 (m, 0) = p at ht hy
  obtain ⟨y, m1, c1⟩ := p
  have hy16 : y < 16 := hy
  clear hy
  by_cases hr : c1 = 0
  · subst hr
    have hc := calls_ok ht rfl
    have hmain : Calls Tryd.prog 76 #[.pointer (some ⟨g, 0, none⟩), .pointer (some ⟨n, 0, none⟩), .pointer (some ⟨b, 0, none⟩)] w fun e w' => e = .returned (.tuple #[]) ∧ ∃ v', Rk w0 w' g b n l m1 nm v' (y + 1) (out ++ [y]) := by
      clear ht
      go_enter Tryd.func76, Tryd.ntmps76
      go_upto_region 1 with (go_at_call 77; go_must (refine hc.mono ?_); rintro e w1 ⟨rfl, hcu, hm1⟩; have HK1 := (show Hid (Rk w0 w1 g b n l m1 nm v x out) from HH.out.mov hm1 hcu); clear hcu hm1)
      clear cn HH hc
      have d1 := HK1.out.c1
      have e1 := HK1.out.f1
      have hnw : n < w1.heap.size := World.block_lt_of_cell? w1 _ HK1.out.cn
      obtain ⟨va, vn, vc, rfl⟩ := own_slice HK1.out.own
      have HO := (show Hid (w1.ownsRow (n + 1) 3 1 (.slice va vn vc) out.length (natV out)) from HK1.out.own)
      go_upto_region 2 with (at_builtin; go_must (refine wpList_append_lies _ rfl _ _ 37 rfl (n + 1) 3 i0 (.int .i64 0) 1 8 Tryd.underlying37 hi hz0 hz1 hz2 rfl (by decide) (.slice va vn vc) out.length (natV out) rfl (HO.out.alloc _) ⟨w1.heap.size, 0, none⟩ 1 1 [.int .i64 (y : Int)] rfl rfl (one_new w1 _ _) (one_cell _) (by omega) (by unfold maxLen; omega) (by omega) (by simp; omega) _ rfl ?_); intro g4 c4 w4 ho hgr hat hlt4; have HO4 : Hid (w4.ownsRow (n + 1) 3 1 (.slice (some ⟨g4, 0, none⟩) (out.length + 1) c4) (out.length + 1) (natV out ++ [.int .i64 (y : Int)])) := ho; have HB4 : Hid (Below (n + 1) w1 w4) := ((Below.refl (n + 1) w1).alloc (by omega) _).grown hgr (by simp; omega) (ownBlock_ge HO.out); have d4 : w4.cell? ⟨b, 32, none⟩ = some (.slice va vn vc) := (by rw [HB4.out.cell (p := ⟨b, 32, none⟩) (by show b < n + 1; omega)]; exact d1); have e4 : w4.frozen? ⟨b, 32, none⟩ = false := (by rw [HB4.out.frozen (p := ⟨b, 32, none⟩) (by show b < n + 1; omega)]; exact e1); clear ho hgr hat hlt4)
      have dn : (w4.setCell ⟨b, 32, none⟩ (.slice (some ⟨g4, 0, none⟩) (out.length + 1) c4)).cell? ⟨n, 0, none⟩ = some (.int .i64 (x : Int)) := by
        rw [World.cell?_setCell_other _ _ _ _ (by simp), HB4.out.cell (p := ⟨n, 0, none⟩) (Nat.lt_succ_self _)]; exact HK1.out.cn
      have en : (w4.setCell ⟨b, 32, none⟩ (.slice (some ⟨g4, 0, none⟩) (out.length + 1) c4)).frozen? ⟨n, 0, none⟩ = false := by
        simp only [World.frozen?_setCell]; rw [HB4.out.frozen (p := ⟨n, 0, none⟩) (Nat.lt_succ_self _)]; exact HK1.out.fn
      obtain ⟨W5, hW5⟩ : ∃ W, W = w4.setCell ⟨b, 32, none⟩ (.slice (some ⟨g4, 0, none⟩) (out.length + 1) c4) := ⟨_, rfl⟩
      have HW5 := (show Hid (W5 = w4.setCell ⟨b, 32, none⟩ (.slice (some ⟨g4, 0, none⟩) (out.length + 1) c4)) from hW5)
      have HD4 := (show Hid (w4.cell? ⟨b, 32, none⟩ = some (.slice va vn vc)) from d4)
      have HE4 := (show Hid (w4.frozen? ⟨b, 32, none⟩ = false) from e4)
      rw [← hW5] at dn en ⊢
      clear hW5 d4 e4 d1 e1
      go_wp2
      go_end0
      have hyw : IntKind.i64.wrap ((y : Int) + 1) = ((y + 1 : Nat) : Int) := by rw [IntKind.wrap_i64]; omega
      refine ⟨rfl, .slice (some ⟨g4, 0, none⟩) (out.length + 1) c4, ?_⟩
      have HM5 : Mov b w4 W5 := by rw [HW5.out]; exact (Mov.refl b w4).set 32 _
      have HM6 : ∀ u, Mov n W5 (W5.setCell ⟨n, 0, none⟩ u) := fun u => (Mov.refl n W5).set 0 u
      have hbz : b < W5.heap.size := by have := HM5.size; have := HB4.out.size; omega
      have hk : ∀ u, (W5.setCell ⟨n, 0, none⟩ u).heap[b]? = W5.heap[b]? := fun u => (HM6 u).block b hbz (by omega)
      refine ⟨((HK1.out.cu.laterB HB4.out (by omega)).mov HM5 (by omega)).mov (HM6 _) (by omega), ?_, ?_, ?_, ?_, ?_, ?_, h1, h2, ?_⟩
      · intro j u hu
        have hj : j < 32 := by have := (List.getElem?_eq_some_iff.1 hu).1; rw [bc_length, hnm] at this; exact this
        rw [World.cell?_of_block (hk _), HW5.out, World.cell?_setCell_other _ _ _ _ (by intro h; injection h with _ h2; omega), HB4.out.cell (p := ⟨b, 0 + j, none⟩) (by show b < n + 1; omega)]
        exact HK1.out.c0 j u hu
      · rw [World.cell?_of_block (hk _), HW5.out]; exact World.cell?_setCell_same _ _ _ HD4.out
      · rw [World.frozen?_of_block (hk _), HW5.out]; simp only [World.frozen?_setCell]; exact HE4.out
      · first | exact World.cell?_setCell_same _ _ _ dn | (rw [← hyw]; exact World.cell?_setCell_same _ _ _ dn)
      · simp only [World.frozen?_setCell]; exact en
      · rw [List.length_append, show natV (out ++ [y]) = natV out ++ [.int .i64 (y : Int)] by simp [natV]]
        exact own_mov (own_mov HO4.out HM5 (by omega)) (HM6 _) (Nat.lt_succ_self _)
      · rw [HW5.out]; exact ((HK1.out.bel.later HB4.out (by omega)).set 32 _ (Nat.le_refl _)).set 0 _ (by omega)
    exact hmain.mono fun e w' he => by rw [if_pos rfl]; exact he
  · have hc := calls_no ht hr
    have hmain : Calls Tryd.prog 76 #[.pointer (some ⟨g, 0, none⟩), .pointer (some ⟨n, 0, none⟩), .pointer (some ⟨b, 0, none⟩)] w fun e w' => e = Pan c1 ∧ Mv g b w0 w' := by
      clear ht
      have hbw : b < w.heap.size := World.block_lt_of_cell? w _ HH.out.c1
      go_enter Tryd.func76, Tryd.ntmps76
      go_wp2_with (go_at_call 77; go_must (refine hc.mono ?_); rintro e w1 ⟨rfl, hm1⟩)
      exact ⟨rfl, rfl, HH.out.bel.mov hm1 (by omega)⟩
    exact hmain.mono fun e w' he => by rw [if_neg hr]; exact he

theorem mov_setCells {g b : Nat} {a w : World} (h : Mov g a w) (hb : a.heap.size ≤ b) (vs : List Value) (o : Nat) : Mov g a (w.setCells b o vs) := h.onB (below_setCells (Below.refl a.heap.size w) b hb vs o)

set_option maxRecDepth 10000 in
set_option maxHeartbeats 2000000 in
theorem nameOf_any (g : Nat) (l m : List UInt8) (w : World) (h : Cu w g l m) (hl : l.length ≤ maxLen) :
    Calls Tryd.prog 75 #[.pointer (some ⟨g, 0, none⟩)] w fun x w' => if (rTake 32 (m, 0)).2.2 = 0 then x = .returned (aggD (ofL (rTake 32 (m, 0)).1)) ∧ Cu w' g l (rTake 32 (m, 0)).2.1 ∧ Mov g w w' else x = Pan (rTake 32 (m, 0)).2.2 ∧ Mov g w w' := by
  obtain ⟨W1, hW1⟩ : ∃ W, W = w.alloc (.cells #[.int .u8 0, .int .u8 0, .int .u8 0, .int .u8 0, .int .u8 0, .int .u8 0, .int .u8 0, .int .u8 0, .int .u8 0, .int .u8 0, .int .u8 0, .int .u8 0, .int .u8 0, .int .u8 0, .int .u8 0, .int .u8 0, .int .u8 0, .int .u8 0, .int .u8 0, .int .u8 0, .int .u8 0, .int .u8 0, .int .u8 0, .int .u8 0, .int .u8 0, .int .u8 0, .int .u8 0, .int .u8 0, .int .u8 0, .int .u8 0, .int .u8 0, .int .u8 0] 43) := ⟨_, rfl⟩
  have HA : Hid (Arr .u8 W1 w.heap.size (fun _ => 0) 32) := by show Arr _ _ _ _ _; rw [hW1]; exact Arr.new _ _ 32 _ _ (by rfl)
  have HB1 : Hid (Below w.heap.size w W1) := by show Below _ _ _; rw [hW1]; exact (Below.refl _ _).alloc (Nat.le_refl _) _
  have hz1 : W1.heap.size = w.heap.size + 1 := by rw [hW1]; simp
  have ht := cuTake_any g 32 l m W1 (h.later HB1.out) hl
  have hful := rTake_full 32 (m, 0)
  have hgw := h.lt
  clear h hl
  generalize rTake 32 (m, 0) = p at ht hful
  obtain ⟨t, m1, c1⟩ := p
  by_cases hr : c1 = 0
  · subst hr
    have h1 := calls_ok ht rfl
    have hts : (ofL t).size = 32 := by rw [ofL_size]; exact hful rfl
    have HE : Hid (aggD (ofL t) = .agg (wl .u8 (byF (ofL t)) 32).toArray) := by show _ = _; unfold aggD; rw [bc_wl _ 32 hts]
    have HD : Hid (∀ W, Calls Tryd.prog 30 #[.string (ofL t)] W fun e w' => e = .returned (.tuple #[.agg (wl .u8 (byF (ofL t)) 32).toArray, .bool true]) ∧ Below W.heap.size W w') := fun W => by
      have := digestOf_ok (ofL t) W hts
      rw [HE.out] at this; exact this
    have hmain : Calls Tryd.prog 75 #[.pointer (some ⟨g, 0, none⟩)] w fun x w' => x = .returned (.agg (wl .u8 (byF (ofL t)) 32).toArray) ∧ Cu w' g l m1 ∧ Mov g w w' := by
      clear ht hful HE
      generalize byF (ofL t) = f at HD
      generalize ofL t = s at h1 HD hts
      go_enter Tryd.func75, Tryd.ntmps75
      go_upto_region 1 with fail
      rw [← hW1]
      clear hW1
      go_upto_region 2 with (first
        | (go_at_call 54; go_must (refine h1.mono ?_); rintro x w2 ⟨rfl, hc2, hm2⟩; have HC2 := (show Hid (Cu w2 g l m1) from hc2); have HM2 := (show Hid (Mov g W1 w2) from hm2); clear hc2 hm2)
        | (go_at_call 30; go_must (refine (HD.out _).mono ?_); rintro x w3 ⟨rfl, hb3⟩; have HC3 := (show Hid (Cu w3 g l m1) from HC2.out.later hb3); have HM3 := (show Hid (Mov g W1 w3) from HM2.out.onB (hb3.mono HM2.out.size)); clear hb3)
        | (refine wpList_store_arr rfl 43 _ _ rfl w3.heap.size .u8 (fun _ => 0) f 32 rfl rfl ?_ (by kernel_rfl) ?_; exact Arr.new _ _ 32 _ _ (by rfl)))
      obtain ⟨W4, hW4⟩ : ∃ W, W = (w3.alloc (.cells #[.int .u8 0, .int .u8 0, .int .u8 0, .int .u8 0, .int .u8 0, .int .u8 0, .int .u8 0, .int .u8 0, .int .u8 0, .int .u8 0, .int .u8 0, .int .u8 0, .int .u8 0, .int .u8 0, .int .u8 0, .int .u8 0, .int .u8 0, .int .u8 0, .int .u8 0, .int .u8 0, .int .u8 0, .int .u8 0, .int .u8 0, .int .u8 0, .int .u8 0, .int .u8 0, .int .u8 0, .int .u8 0, .int .u8 0, .int .u8 0, .int .u8 0, .int .u8 0] 43)).setCells w3.heap.size 0 (wl .u8 f 32) := ⟨_, rfl⟩
      have HA4 : Hid (Arr .u8 W4 w3.heap.size f 32) := by show Arr _ _ _ _ _; rw [hW4]; exact (Arr.new w3 (fun _ => 0) 32 _ _ (by rfl)).all _
      have HB4 : Hid (Below w3.heap.size w3 W4) := by show Below _ _ _; rw [hW4]; exact below_setCells ((Below.refl _ _).alloc (Nat.le_refl _) _) _ (Nat.le_refl _) _ _
      rw [← hW4]
      clear hW4
      have hsz := HM3.out.size
      have HR4 : Hid (Arr .u8 W4 w.heap.size (fun _ => 0) 32) := by
        have hb : w3.heap[w.heap.size]? = W1.heap[w.heap.size]? := HM3.out.block w.heap.size (by omega) (by omega)
        have h3 : Arr .u8 w3 w.heap.size (fun _ => 0) 32 := fun j hj => ⟨by rw [World.cell?_of_block hb]; exact (HA.out j hj).1, by rw [World.frozen?_of_block hb]; exact (HA.out j hj).2⟩
        exact h3.later HB4.out (by omega)
      go_wp2_with (first
        | (refine wpList_load_arr rfl 43 _ rfl w3.heap.size rfl .u8 f 32 _ ?_ Tryd.underlying43 rfl (by kernel_rfl) ?_; exact HA4.out)
        | (refine wpList_store_arr rfl 43 _ _ rfl w.heap.size .u8 (fun _ => 0) f 32 rfl rfl ?_ (by kernel_rfl) ?_; exact HR4.out))
      have HBs : Below w.heap.size W4 (W4.setCells w.heap.size 0 (wl .u8 f 32)) := below_setCells (Below.refl _ _) _ (Nat.le_refl _) _ _
      refine bodyPost_ret (results_arr Tryd.results75 _ _ w.heap.size .u8 f 32 _ rfl (HR4.out.all _) Tryd.underlying43 rfl (by kernel_rfl)) rfl ⟨rfl, (HC3.out.later HB4.out).laterB HBs hgw, ?_⟩
      have hB1 := HB1.out
      have hM : Mov g w w3 := ⟨HM3.out.os.trans hB1.os, HM3.out.tape.trans hB1.tape, HM3.out.output.trans hB1.output, by omega, fun k hk hg => (HM3.out.block k (by omega) hg).trans (hB1.block k hk)⟩
      exact (hM.onB (HB4.out.mono (by omega))).onB HBs
    refine hmain.mono fun x w' hx => ?_
    rw [if_pos rfl, HE.out]; exact hx
  · have h1 := calls_no ht hr
    have hmain : Calls Tryd.prog 75 #[.pointer (some ⟨g, 0, none⟩)] w fun x w' => x = Pan c1 ∧ Mov g w w' := by
      clear ht hful
      go_enter Tryd.func75, Tryd.ntmps75
      go_upto_region 1 with fail
      rw [← hW1]
      clear hW1
      go_wp2_with (go_at_call 54; go_must (refine h1.mono ?_); rintro x w2 ⟨rfl, hm2⟩)
      have hB1 := HB1.out
      exact ⟨rfl, rfl, ⟨hm2.os.trans hB1.os, hm2.tape.trans hB1.tape, hm2.output.trans hB1.output, by have := hm2.size; omega, fun k hk hg => (hm2.block k (by omega) hg).trans (hB1.block k hk)⟩⟩
    exact hmain.mono fun x w' hx => by rw [if_neg hr]; exact hx
end Go.Proofs.YtfbhgbmdakdaoaaDoor
namespace Go.Proofs.YtfbhgbmdakdaoaaDoor
open Go.RowKit

set_option maxRecDepth 10000 in
theorem sevReq (w0 w : World) (g b n : Nat) (l m : List UInt8) (nm : ByteArray) (v : Value) (H : Rk w0 w g b n l m nm v 0 []) (hnm : nm.size = 32) (hl : l.length ≤ maxLen) :
    Calls Tryd.prog 55 #[.pointer (some ⟨g, 0, none⟩), .int .u64 1, .int .u64 16, .func (.func 76) #[] #[.pointer (some ⟨n, 0, none⟩), .pointer (some ⟨b, 0, none⟩)]] w fun x w' =>
      if (rIdxs (rWithin 1 16 (m, 0)).1 0 (rWithin 1 16 (m, 0)).2).2.2 = 0 then x = .returned (.tuple #[]) ∧ ∃ v y, Rk w0 w' g b n l (rIdxs (rWithin 1 16 (m, 0)).1 0 (rWithin 1 16 (m, 0)).2).2.1 nm v y (rIdxs (rWithin 1 16 (m, 0)).1 0 (rWithin 1 16 (m, 0)).2).1
      else x = Pan (rIdxs (rWithin 1 16 (m, 0)).1 0 (rWithin 1 16 (m, 0)).2).2.2 ∧ Mv g b w0 w' := by
  have hz := cuSize_any g 1 16 l m w H.cu hl
  have hq : (rWithin 1 16 (m, 0)).1 ≤ 16 := rWithin_hi 1 16 (m, 0)
  generalize rWithin 1 16 (m, 0) = p at hz hq
  obtain ⟨q, m1, c1⟩ := p
  by_cases hr : c1 = 0
  · subst hr
    obtain ⟨R, hR⟩ : ∃ R, R = rIdxs q 0 (m1, 0) := ⟨_, rfl⟩
    have h1 := calls_ok hz rfl
    have hs := sevR_any g q 1 16 (.pointer (some ⟨n, 0, none⟩)) (.pointer (some ⟨b, 0, none⟩)) w
      (fun j W => ∃ m out v x, Rk w0 W g b n l m nm v x out ∧ x ≤ 16 ∧ out.length + j ≤ 16 ∧ (out ++ (rIdxs j x (m, 0)).1, (rIdxs j x (m, 0)).2) = R) (fun W => Mv g b w0 W) R.2.2 hq
      (h1.mono fun x w' ⟨hx, hc, hm⟩ => ⟨hx, m1, [], v, 0, H.mov hm hc, by omega, by simpa using hq, by rw [hR]; rfl⟩)
      (show Hid _ from fun j W hK => by
        obtain ⟨m2, out, v2, x, hB, hx16, hj, hE⟩ := hK
        have hb := rq1_any w0 W g b n l m2 nm v2 x out hB hnm hl (by omega) hx16
        have hlt := rIndex_lt x (m2, 0)
        have hE2 : (out ++ ((rIndex x 16 (m2, 0)).1 :: (rIdxs j ((rIndex x 16 (m2, 0)).1 + 1) (rIndex x 16 (m2, 0)).2).1), (rIdxs j ((rIndex x 16 (m2, 0)).1 + 1) (rIndex x 16 (m2, 0)).2).2) = R := by
          rw [← hE]; show _ = (out ++ (if (0 : Int) = 0 then _ else _ : List Nat × (List UInt8 × Int)).1, (if (0 : Int) = 0 then _ else _ : List Nat × (List UInt8 × Int)).2)
          rw [if_pos rfl]
        generalize rIndex x 16 (m2, 0) = r at hb hE2 hlt
        obtain ⟨y, m3, c3⟩ := r
        have hy16 : y < 16 := hlt
        by_cases h3 : c3 = 0
        · subst h3
          refine .inl (hb.mono fun x w' hx => ?_)
          rw [if_pos rfl] at hx
          obtain ⟨hx, v3, hB3⟩ := hx
          exact ⟨hx, m3, out ++ [y], v3, y + 1, hB3, by omega, by simp; omega, by rw [← hE2]; simp⟩
        · have hRc : R.2.2 = c3 := by rw [← hE2, rIdxs_bad j (y + 1) (m3, c3) h3]
          refine .inr ⟨by rw [hRc]; exact h3, hb.mono fun x w' hx => ?_⟩
          rw [if_neg h3] at hx
          rw [hRc]; exact hx)
    rw [← hR]
    refine hs.mono fun x w' hx => ?_
    rcases hx with ⟨hx, m2, out, v2, y, hB, _, _, hE⟩ | ⟨hE, hx, hb⟩
    · have e1 : R = (out, (m2, 0)) := by rw [← hE]; simp [rIdxs]
      rw [e1, if_pos rfl]
      exact ⟨hx, v2, y, hB⟩
    · rw [if_neg hE]
      exact ⟨hx, hb⟩
  · have h1 := calls_no hz hr
    rw [rIdxs_bad q 0 (m1, c1) hr]
    refine (sev_no g 1 16 _ w (fun W => Mv g b w0 W) c1 (h1.mono fun x w' ⟨hx, hm⟩ => ⟨hx, H.bel.mov hm (Nat.le_of_lt (World.block_lt_of_cell? _ _ H.c1))⟩)).mono fun x w' hx => ?_
    rw [if_neg hr]
    exact hx

/-- a name, and indexes. -/
def rRqs (m : List UInt8) : List UInt8 × (List Nat × (List UInt8 × Int)) :=
  ((rTake 32 (m, 0)).1, rIdxs (rWithin 1 16 (rTake 32 (m, 0)).2).1 0 (rWithin 1 16 (rTake 32 (m, 0)).2).2)
theorem rReq_rqs (m : List UInt8) : rReq m = ((rRqs m).1, ((rRqs m).2.1, (rDone (rRqs m).2.2).2)) := rfl
theorem range_join {w : World} {g : Nat} {a : List Value} {x : Value} (h : w.rangeAt g 0 a) (hx : w.cell? ⟨g, a.length, none⟩ = some x) : w.rangeAt g 0 (a ++ [x]) := fun j v hv => by
  rw [Nat.zero_add]
  by_cases hj : j < a.length
  · rw [List.getElem?_append_left hj] at hv
    have := h j v hv
    rw [Nat.zero_add] at this; exact this
  · have hj2 : j = a.length := by have := (List.getElem?_eq_some_iff.1 hv).1; simp at this; omega
    subst hj2
    simp at hv; subst hv; exact hx
theorem there_block {w w' : World} {b o n : Nat} (h : w.there b o n) (hb : w'.heap[b]? = w.heap[b]?) : w'.there b o n := fun j hj => by
  rw [World.cell?_of_block hb, World.frozen?_of_block hb]; exact h j hj
theorem range_block {w w' : World} {b o : Nat} {cs : List Value} (h : w.rangeAt b o cs) (hb : w'.heap[b]? = w.heap[b]?) : w'.rangeAt b o cs := fun j v hv => by
  rw [World.cell?_of_block hb]; exact h j v hv
theorem there_new (w : World) (T : Nat) (cs : List Value) : (w.alloc (.cells cs.toArray T)).there w.heap.size 0 cs.length := fun j hj => by
  have h := heap_alloc_new w (.cells cs.toArray T)
  refine ⟨?_, ?_⟩
  · have := World.rangeAt_of_block h 0 cs.length j cs[j] (by simp [hj])
    rw [this]; rfl
  · unfold World.frozen?
    rw [h]
    simp
theorem setCells_block (w : World) (b k : Nat) (hk : k ≠ b) : ∀ (vs : List Value) (o : Nat), (w.setCells b o vs).heap[k]? = w.heap[k]? := by
  intro vs
  induction vs generalizing w with
  | nil => intro o; rfl
  | cons v vs ih => intro o; rw [World.setCells, ih, Below.heap_setCell w ⟨b, o, none⟩ v k hk]
theorem mov_cells (w : World) (b : Nat) (vs : List Value) (o : Nat) : Mov b w (w.setCells b o vs) := by
  have h := below_setCells (Below.refl 0 w) b (Nat.zero_le _) vs o
  exact ⟨h.os, h.tape, h.output, h.size, fun k _ hk => setCells_block w b k hk vs o⟩

theorem wpList_store_list {P : Program} {ops : Array Oper} {rest : List Oper} {op : Oper} {a : Act} {w : World} {Q : Exit → Act → World → Prop} (hgd : op.guard = none) (ty : TypeId) (x y : Operand) (ho : op.op = .store ty x y)
    (g o : Nat) (cs : List Value) (hx : a.eval x = .pointer (some ⟨g, o, none⟩)) (hy : a.eval y = .agg cs.toArray) (ht : w.there g o cs.length) (hi : (P.info? ty).map (·.size) = some cs.length) (h1 : ∀ v ∈ cs, v.oneCell' = true)
    (h : wpList P ops Q rest (a.put op.dst undef) (w.setCells g o cs)) : wpList P ops Q (op :: rest) a w :=
  wpList_store_mid hgd ty x y ho g o cs.toArray hx hy (by rw [List.size_toArray]; exact ht) (by rw [List.size_toArray]; exact hi) (all_oneCell_toArray h1) (by simpa using h)
theorem there_sub {w : World} {b o n k m : Nat} (h : w.there b o n) (hk : k + m ≤ n) : w.there b (o + k) m := fun j hj => by
  have := h (k + j) (by omega)
  rw [← Nat.add_assoc] at this; exact this
theorem bc_slice_one (d : ByteArray) (a : Option Addr) (n c : Nat) : ∀ u ∈ bc d ++ [Value.slice a n c], u.oneCell' = true := by
  intro u hu
  rcases List.mem_append.1 hu with h | h
  · exact bc_one d u h
  · simp at h; subst h; rfl

set_option maxRecDepth 10000 in
set_option maxHeartbeats 4000000 in
theorem cuRequest_any (g : Nat) (l m : List UInt8) (w : World) (h : Cu w g l m) (hl : l.length ≤ maxLen) :
    Calls Tryd.prog 43 #[.pointer (some ⟨g, 0, none⟩)] w fun x w' =>
      if (rRqs m).2.2.2 = 0 then ∃ v, x = .returned (.agg (bc (ofL (rRqs m).1) ++ [v]).toArray) ∧ Cu w' g l (rRqs m).2.2.1 ∧ w'.ownsRow w.heap.size 3 1 v (rRqs m).2.1.length (natV (rRqs m).2.1) ∧ Below g w w'
      else x = Pan (rRqs m).2.2.2 ∧ Below g w w' := by
  obtain ⟨W1, hW1⟩ : ∃ W, W = (w.alloc (.cells #[.int .u8 0, .int .u8 0, .int .u8 0, .int .u8 0, .int .u8 0, .int .u8 0, .int .u8 0, .int .u8 0, .int .u8 0, .int .u8 0, .int .u8 0, .int .u8 0, .int .u8 0, .int .u8 0, .int .u8 0, .int .u8 0, .int .u8 0, .int .u8 0, .int .u8 0, .int .u8 0, .int .u8 0, .int .u8 0, .int .u8 0, .int .u8 0, .int .u8 0, .int .u8 0, .int .u8 0, .int .u8 0, .int .u8 0, .int .u8 0, .int .u8 0, .int .u8 0, .slice none 0 0] 83)).alloc (.cells #[.int .u8 0, .int .u8 0, .int .u8 0, .int .u8 0, .int .u8 0, .int .u8 0, .int .u8 0, .int .u8 0, .int .u8 0, .int .u8 0, .int .u8 0, .int .u8 0, .int .u8 0, .int .u8 0, .int .u8 0, .int .u8 0, .int .u8 0, .int .u8 0, .int .u8 0, .int .u8 0, .int .u8 0, .int .u8 0, .int .u8 0, .int .u8 0, .int .u8 0, .int .u8 0, .int .u8 0, .int .u8 0, .int .u8 0, .int .u8 0, .int .u8 0, .int .u8 0, .slice none 0 0] 83) := ⟨_, rfl⟩
  have hgw := h.lt
  have HB1 : Hid (Below w.heap.size w W1) := by show Below _ _ _; rw [hW1]; exact ((Below.refl _ _).alloc (Nat.le_refl _) _).alloc (by simp) _
  have hz1 : W1.heap.size = w.heap.size + 2 := by rw [hW1]; simp
  have t1 : W1.there (w.heap.size + 1) 0 33 := by
    have := there_new (w.alloc (.cells #[.int .u8 0, .int .u8 0, .int .u8 0, .int .u8 0, .int .u8 0, .int .u8 0, .int .u8 0, .int .u8 0, .int .u8 0, .int .u8 0, .int .u8 0, .int .u8 0, .int .u8 0, .int .u8 0, .int .u8 0, .int .u8 0, .int .u8 0, .int .u8 0, .int .u8 0, .int .u8 0, .int .u8 0, .int .u8 0, .int .u8 0, .int .u8 0, .int .u8 0, .int .u8 0, .int .u8 0, .int .u8 0, .int .u8 0, .int .u8 0, .int .u8 0, .int .u8 0, .slice none 0 0] 83)) 83 (#[.int .u8 0, .int .u8 0, .int .u8 0, .int .u8 0, .int .u8 0, .int .u8 0, .int .u8 0, .int .u8 0, .int .u8 0, .int .u8 0, .int .u8 0, .int .u8 0, .int .u8 0, .int .u8 0, .int .u8 0, .int .u8 0, .int .u8 0, .int .u8 0, .int .u8 0, .int .u8 0, .int .u8 0, .int .u8 0, .int .u8 0, .int .u8 0, .int .u8 0, .int .u8 0, .int .u8 0, .int .u8 0, .int .u8 0, .int .u8 0, .int .u8 0, .int .u8 0, .slice none 0 0] : Array Value).toList
    rw [hW1]; simpa using this
  have t0 : W1.there w.heap.size 0 33 := by
    have := there_new w 83 (#[.int .u8 0, .int .u8 0, .int .u8 0, .int .u8 0, .int .u8 0, .int .u8 0, .int .u8 0, .int .u8 0, .int .u8 0, .int .u8 0, .int .u8 0, .int .u8 0, .int .u8 0, .int .u8 0, .int .u8 0, .int .u8 0, .int .u8 0, .int .u8 0, .int .u8 0, .int .u8 0, .int .u8 0, .int .u8 0, .int .u8 0, .int .u8 0, .int .u8 0, .int .u8 0, .int .u8 0, .int .u8 0, .int .u8 0, .int .u8 0, .int .u8 0, .int .u8 0, .slice none 0 0] : Array Value).toList
    rw [hW1]; exact World.there_alloc (by simpa using this) _
  have c1 : W1.cell? ⟨w.heap.size + 1, 32, none⟩ = some (.slice none 0 0) := by rw [hW1]; simp [go_sem]
  have hh := nameOf_any g l m W1 (h.later HB1.out) hl
  have hful := rTake_full 32 (m, 0)
  have HMV : Hid (∀ w2, Mov g W1 w2 → Below g w w2) := fun w2 hm => (HB1.out.mono (Nat.le_of_lt hgw)).trans (hm.below (Nat.le_refl _) (by omega))
  have HE : Hid (rRqs m = ((rTake 32 (m, 0)).1, rIdxs (rWithin 1 16 (rTake 32 (m, 0)).2).1 0 (rWithin 1 16 (rTake 32 (m, 0)).2).2)) := rfl
  generalize rRqs m = M at HE
  clear h
  generalize rTake 32 (m, 0) = p at hh HE hful
  obtain ⟨t, m1, d1⟩ := p
  by_cases hr : d1 = 0
  · subst hr
    have h1 := hh.mono (R' := fun x w' => x = .returned (aggD (ofL t)) ∧ Cu w' g l m1 ∧ Mov g W1 w') (fun x w' hx => by rw [if_pos rfl] at hx; exact hx)
    have hts : (ofL t).size = 32 := by rw [ofL_size]; exact hful rfl
    have HE2 : Hid (M = (t, rIdxs (rWithin 1 16 (m1, 0)).1 0 (rWithin 1 16 (m1, 0)).2)) := HE.out
    clear hh hful HE
    have hM1 : M.1 = t := by rw [HE2.out]
    rw [hM1]
    generalize ofL t = nm at h1 hts
    obtain ⟨R, hR⟩ : ∃ R, R = rIdxs (rWithin 1 16 (m1, 0)).1 0 (rWithin 1 16 (m1, 0)).2 := ⟨_, rfl⟩
    have hM2 : M.2 = R := by rw [HE2.out, hR]
    rw [hM2]
    have HSV : Hid (∀ (W : World) (n : Nat), Rk W W g (w.heap.size + 1) n l m1 nm (.slice none 0 0) 0 [] → Calls Tryd.prog 55 #[.pointer (some ⟨g, 0, none⟩), .int .u64 1, .int .u64 16, .func (.func 76) #[] #[.pointer (some ⟨n, 0, none⟩), .pointer (some ⟨w.heap.size + 1, 0, none⟩)]] W fun x w' => if R.2.2 = 0 then x = .returned (.tuple #[]) ∧ ∃ v y, Rk W w' g (w.heap.size + 1) n l R.2.1 nm v y R.1 else x = Pan R.2.2 ∧ Mv g (w.heap.size + 1) W w') := fun W n hK => by rw [hR]; exact sevReq W W g (w.heap.size + 1) n l m1 nm _ hK hts hl
    clear HE2 hM1 hM2 hR
    have hmf : ∀ (fn : Fn) (first cap : Array Value) (w : World), (Instr.makeFunc fn first cap).run Tryd.prog w = .ok (.func fn first cap) w := fun _ _ _ _ => rfl
    have HT1 : Hid (W1.there (w.heap.size + 1) 0 33) := t1
    have HT0 : Hid (W1.there w.heap.size 0 33) := t0
    have HC1 : Hid (W1.cell? ⟨w.heap.size + 1, 32, none⟩ = some (.slice none 0 0)) := c1
    clear t1 t0 c1
    have hbl := bc_length nm
    obtain ⟨T, m2, d2⟩ := R
    by_cases hr2 : d2 = 0
    · subst hr2
      have HS2 : Hid (∀ (W : World) (n : Nat), Rk W W g (w.heap.size + 1) n l m1 nm (.slice none 0 0) 0 [] → Calls Tryd.prog 55 #[.pointer (some ⟨g, 0, none⟩), .int .u64 1, .int .u64 16, .func (.func 76) #[] #[.pointer (some ⟨n, 0, none⟩), .pointer (some ⟨w.heap.size + 1, 0, none⟩)]] W fun x w' => x = .returned (.tuple #[]) ∧ ∃ v y, Rk W w' g (w.heap.size + 1) n l m2 nm v y T) := fun W n hK => (HSV.out W n hK).mono (fun x w' hx => by rw [if_pos rfl] at hx; exact hx)
      clear HSV
      have hmain : Calls Tryd.prog 43 #[.pointer (some ⟨g, 0, none⟩)] w fun x w' => ∃ v, x = .returned (.agg (bc nm ++ [v]).toArray) ∧ Cu w' g l m2 ∧ w'.ownsRow w.heap.size 3 1 v T.length (natV T) ∧ Below g w w' := by
        go_enter Tryd.func43, Tryd.ntmps43
        go_upto_region 2 with fail
        rw [← hW1]
        clear hW1
        go_upto_region 3 with (first
          | (go_at_call 75; go_must (refine h1.mono ?_); rintro x w2 ⟨rfl, hc2, hm2⟩; have HC2 := (show Hid (Cu w2 g l m1) from hc2); have HM2 := (show Hid (Mov g W1 w2) from hm2); have hbk : w2.heap[w.heap.size + 1]? = W1.heap[w.heap.size + 1]? := hm2.block _ (by omega) (by omega); have HT2 := (show Hid (w2.there (w.heap.size + 1) 0 33) from there_block HT1.out hbk); have HK2 := (show Hid (w2.heap[w.heap.size + 1]? = W1.heap[w.heap.size + 1]?) from hbk); clear hc2 hm2 hbk)
          | (refine wpList_store_list rfl 43 _ _ rfl (w.heap.size + 1) 0 (bc nm) rfl rfl ?_ ?_ (bc_one nm) ?_; exact there_sub (k := 0) HT2.out (by rw [bc_length, hts]; omega); rw [bc_length, hts]; kernel_rfl))
        obtain ⟨W3, hW3⟩ : ∃ W, W = w2.setCells (w.heap.size + 1) 0 (bc nm) := ⟨_, rfl⟩
        have hM3 : Mov (w.heap.size + 1) w2 W3 := by rw [hW3]; exact mov_cells _ _ _ _
        have hs2 := HM2.out.size
        have hs3 := hM3.size
        have HCU3 : Hid (Cu W3 g l m1) := HC2.out.mov hM3 (by omega)
        have HRG3 : Hid (W3.rangeAt (w.heap.size + 1) 0 (bc nm)) := by show World.rangeAt _ _ _ _; rw [hW3]; exact World.rangeAt_setCells_same _ _ _ _ (there_sub (k := 0) HT2.out (by rw [bc_length, hts]; omega))
        have HT3 : Hid (W3.there (w.heap.size + 1) 0 33) := by show World.there _ _ _ _; rw [hW3]; exact World.there_setCells HT2.out _ _ _
        have HS3 : Hid (W3.cell? ⟨w.heap.size + 1, 32, none⟩ = some (.slice none 0 0)) := by
          show _ = _
          rw [hW3, World.cell?_setCells_out _ _ _ _ _ (fun _ _ => .inr (by rw [bc_length, hts]; show 0 + 32 ≤ 32; omega)), World.cell?_of_block HK2.out]; exact HC1.out
        have HR3 : Hid (W3.heap[w.heap.size]? = W1.heap[w.heap.size]?) := (hM3.block _ (by omega) (by omega)).trans (HM2.out.block _ (by omega) (by omega))
        have HB3 : Hid (Below g w W3) := (HMV.out w2 HM2.out).trans (hM3.below (by omega) (by omega))
        rw [← hW3]
        clear hW3 hM3 HC2 HM2 HT2 HK2
        go_upto_region 4 with fail
        obtain ⟨W5, hW5⟩ : ∃ W, W = W3.alloc (.cells #[.int .i64 0] 3) := ⟨_, rfl⟩
        have hb5 : Below W3.heap.size W3 W5 := by rw [hW5]; exact (Below.refl _ _).alloc (Nat.le_refl _) _
        have hbw : w.heap.size + 1 < W3.heap.size := by omega
        have HRK : Hid (Rk W5 W5 g (w.heap.size + 1) W3.heap.size l m1 nm (.slice none 0 0) 0 []) := by
          refine ⟨HCU3.out.later hb5, range_later HRG3.out hb5 hbw, ?_, ?_, ?_, ?_, World.ownsRow_nil _ _ _ _, by omega, hbw, Mv.refl _ _ _⟩
          · rw [hb5.cell (p := ⟨w.heap.size + 1, 32, none⟩) hbw]; exact HS3.out
          · rw [hb5.frozen (p := ⟨w.heap.size + 1, 32, none⟩) hbw]; have := (HT3.out 32 (by omega)).2; rw [Nat.zero_add] at this; exact this
          · rw [hW5]; simp [go_sem]
          · rw [hW5]; simp [go_sem]
        have HR5 : Hid (W5.heap[w.heap.size]? = W1.heap[w.heap.size]?) := (hb5.block _ (by omega)).trans HR3.out
        have HB5 : Hid (Below g w W5) := HB3.out.trans (hb5.mono (by omega))
        have hz5 := hb5.size
        rw [← hW5]
        clear hW5 hb5 HCU3 HRG3 HT3 HS3 HR3 HB3
        have h2 := HS2.out W5 W3.heap.size HRK.out
        go_upto_region 5 with (go_at_call 55; go_must (refine h2.mono ?_); rintro x w6 ⟨rfl, v, y, hK6⟩; have HK6 := (show Hid (Rk W5 w6 g (w.heap.size + 1) W3.heap.size l m2 nm v y T) from hK6); clear hK6)
        clear h2 HS2
        obtain ⟨va, vn, vc, rfl⟩ := own_slice HK6.out.own
        have HRJ : Hid (w6.rangeAt (w.heap.size + 1) 0 (bc nm ++ [Value.slice va vn vc])) := range_join HK6.out.c0 (by rw [bc_length, hts]; exact HK6.out.c1)
        have HT6 : Hid (w6.there w.heap.size 0 33) := there_block HT0.out ((HK6.out.bel.block _ (by omega) (by omega)).trans HR5.out)
        have HL33 : Hid ((bc nm ++ [Value.slice va vn vc]).length = 33) := by show _ = _; rw [List.length_append, bc_length, hts]; rfl
        go_wp2_with (first
          | (refine wpList_load_mid rfl 83 _ rfl (w.heap.size + 1) 0 rfl (bc nm ++ [Value.slice va vn vc]) _ ?_ Tryd.underlying83 rfl ?_ ?_; exact HRJ.out; rw [HL33.out]; kernel_rfl)
          | (refine wpList_store_list rfl 83 _ _ rfl w.heap.size 0 (bc nm ++ [Value.slice va vn vc]) rfl rfl ?_ ?_ (bc_slice_one nm va vn vc) ?_; rw [HL33.out]; exact HT6.out; rw [HL33.out]; kernel_rfl))
        have hM7 : Mov w.heap.size w6 (w6.setCells w.heap.size 0 (bc nm ++ [Value.slice va vn vc])) := mov_cells _ _ _ _
        have h6 := HK6.out.bel.size
        refine bodyPost_ret (results_mid Tryd.results43 _ _ w.heap.size (bc nm ++ [Value.slice va vn vc]) _ rfl (World.rangeAt_setCells_same _ _ _ _ (by rw [HL33.out]; exact HT6.out)) Tryd.underlying83 rfl (by rw [HL33.out]; kernel_rfl)) rfl ⟨.slice va vn vc, rfl, HK6.out.cu.mov hM7 (by omega), own_base (own_mov HK6.out.own hM7 (by omega)) (by omega), ?_⟩
        exact (HB5.out.trans (HK6.out.bel.below (Nat.le_refl _) (by omega))).trans (hM7.below (by omega) (by omega))
      exact hmain.mono fun x w' hx => by rw [if_pos rfl]; exact hx
    · have HS2 : Hid (∀ (W : World) (n : Nat), Rk W W g (w.heap.size + 1) n l m1 nm (.slice none 0 0) 0 [] → Calls Tryd.prog 55 #[.pointer (some ⟨g, 0, none⟩), .int .u64 1, .int .u64 16, .func (.func 76) #[] #[.pointer (some ⟨n, 0, none⟩), .pointer (some ⟨w.heap.size + 1, 0, none⟩)]] W fun x w' => x = .panicked [{ v := .iface 26 (.int .i64 d2), recovered := false }] ∧ Mv g (w.heap.size + 1) W w') := fun W n hK => (HSV.out W n hK).mono (fun x w' hx => by rw [if_neg hr2] at hx; exact hx)
      clear HSV
      have hmain : Calls Tryd.prog 43 #[.pointer (some ⟨g, 0, none⟩)] w fun x w' => x = Pan d2 ∧ Below g w w' := by
        go_enter Tryd.func43, Tryd.ntmps43
        go_upto_region 2 with fail
        rw [← hW1]
        clear hW1
        go_upto_region 3 with (first
          | (go_at_call 75; go_must (refine h1.mono ?_); rintro x w2 ⟨rfl, hc2, hm2⟩; have HC2 := (show Hid (Cu w2 g l m1) from hc2); have HM2 := (show Hid (Mov g W1 w2) from hm2); have hbk : w2.heap[w.heap.size + 1]? = W1.heap[w.heap.size + 1]? := hm2.block _ (by omega) (by omega); have HT2 := (show Hid (w2.there (w.heap.size + 1) 0 33) from there_block HT1.out hbk); have HK2 := (show Hid (w2.heap[w.heap.size + 1]? = W1.heap[w.heap.size + 1]?) from hbk); clear hc2 hm2 hbk)
          | (refine wpList_store_list rfl 43 _ _ rfl (w.heap.size + 1) 0 (bc nm) rfl rfl ?_ ?_ (bc_one nm) ?_; exact there_sub (k := 0) HT2.out (by rw [bc_length, hts]; omega); rw [bc_length, hts]; kernel_rfl))
        obtain ⟨W3, hW3⟩ : ∃ W, W = w2.setCells (w.heap.size + 1) 0 (bc nm) := ⟨_, rfl⟩
        have hM3 : Mov (w.heap.size + 1) w2 W3 := by rw [hW3]; exact mov_cells _ _ _ _
        have hs2 := HM2.out.size
        have hs3 := hM3.size
        have HCU3 : Hid (Cu W3 g l m1) := HC2.out.mov hM3 (by omega)
        have HRG3 : Hid (W3.rangeAt (w.heap.size + 1) 0 (bc nm)) := by show World.rangeAt _ _ _ _; rw [hW3]; exact World.rangeAt_setCells_same _ _ _ _ (there_sub (k := 0) HT2.out (by rw [bc_length, hts]; omega))
        have HT3 : Hid (W3.there (w.heap.size + 1) 0 33) := by show World.there _ _ _ _; rw [hW3]; exact World.there_setCells HT2.out _ _ _
        have HS3 : Hid (W3.cell? ⟨w.heap.size + 1, 32, none⟩ = some (.slice none 0 0)) := by
          show _ = _
          rw [hW3, World.cell?_setCells_out _ _ _ _ _ (fun _ _ => .inr (by rw [bc_length, hts]; show 0 + 32 ≤ 32; omega)), World.cell?_of_block HK2.out]; exact HC1.out
        have HR3 : Hid (W3.heap[w.heap.size]? = W1.heap[w.heap.size]?) := (hM3.block _ (by omega) (by omega)).trans (HM2.out.block _ (by omega) (by omega))
        have HB3 : Hid (Below g w W3) := (HMV.out w2 HM2.out).trans (hM3.below (by omega) (by omega))
        rw [← hW3]
        clear hW3 hM3 HC2 HM2 HT2 HK2
        go_upto_region 4 with fail
        obtain ⟨W5, hW5⟩ : ∃ W, W = W3.alloc (.cells #[.int .i64 0] 3) := ⟨_, rfl⟩
        have hb5 : Below W3.heap.size W3 W5 := by rw [hW5]; exact (Below.refl _ _).alloc (Nat.le_refl _) _
        have hbw : w.heap.size + 1 < W3.heap.size := by omega
        have HRK : Hid (Rk W5 W5 g (w.heap.size + 1) W3.heap.size l m1 nm (.slice none 0 0) 0 []) := by
          refine ⟨HCU3.out.later hb5, range_later HRG3.out hb5 hbw, ?_, ?_, ?_, ?_, World.ownsRow_nil _ _ _ _, by omega, hbw, Mv.refl _ _ _⟩
          · rw [hb5.cell (p := ⟨w.heap.size + 1, 32, none⟩) hbw]; exact HS3.out
          · rw [hb5.frozen (p := ⟨w.heap.size + 1, 32, none⟩) hbw]; have := (HT3.out 32 (by omega)).2; rw [Nat.zero_add] at this; exact this
          · rw [hW5]; simp [go_sem]
          · rw [hW5]; simp [go_sem]
        have HR5 : Hid (W5.heap[w.heap.size]? = W1.heap[w.heap.size]?) := (hb5.block _ (by omega)).trans HR3.out
        have HB5 : Hid (Below g w W5) := HB3.out.trans (hb5.mono (by omega))
        have hz5 := hb5.size
        rw [← hW5]
        clear hW5 hb5 HCU3 HRG3 HT3 HS3 HR3 HB3
        have h2 := HS2.out W5 W3.heap.size HRK.out
        go_wp2_with (go_at_call 55; go_must (refine h2.mono ?_); rintro x w6 ⟨rfl, hv6⟩)
        exact ⟨rfl, rfl, HB5.out.trans (hv6.below (Nat.le_refl _) (by omega))⟩
      exact hmain.mono fun x w' hx => by rw [if_neg hr2]; exact hx
  · have h1 := hh.mono (R' := fun x w' => x = .panicked [{ v := .iface 26 (.int .i64 d1), recovered := false }] ∧ Mov g W1 w') (fun x w' hx => by rw [if_neg hr] at hx; exact hx)
    have hM : M.2.2.2 = d1 := by rw [HE.out]; show (rIdxs (rWithin 1 16 (m1, d1)).1 0 (rWithin 1 16 (m1, d1)).2).2.2 = d1; rw [rIdxs_bad _ _ _ (by rw [within_bad 1 16 m1 d1 hr]; exact hr), within_bad 1 16 m1 d1 hr]
    rw [hM]
    have hmain : Calls Tryd.prog 43 #[.pointer (some ⟨g, 0, none⟩)] w fun x w' => x = Pan d1 ∧ Below g w w' := by
      clear hh HE hM t1 t0 c1 hful
      go_enter Tryd.func43, Tryd.ntmps43
      go_upto_region 2 with fail
      rw [← hW1]
      clear hW1
      go_wp2_with (go_at_call 75; go_must (refine h1.mono ?_); rintro x w2 ⟨rfl, hm2⟩)
      exact ⟨rfl, rfl, HMV.out _ hm2⟩
    exact hmain.mono fun x w' hx => by rw [if_neg hr]; exact hx
end Go.Proofs.YtfbhgbmdakdaoaaDoor
set_option linter.unusedSimpArgs false
namespace Go.Proofs.YtfbhgbmdakdaoaaDoor
open Go.RowKit

theorem neq_d (a b : ByteArray) (ha : a.size = 32) (hb : b.size = 32) (w : World) : (binOp .neq 43 (aggD a) (aggD b)).run Tryd.prog w = .ok (.bool (!(a.data.toList == b.data.toList))) w := by
  have h : (Op.equalIn 10000 43 (.agg (bc a).toArray) (.agg (bc b).toArray)).run Tryd.prog w = .ok (a.data.toList == b.data.toList) w := run_equalIn_bytes (P := Tryd.prog) w 9998 43 5 32 Tryd.underlying43 Tryd.underlying5 sz8 a.data.toList b.data.toList ha hb
  show (binOp .neq 43 (.agg (bc a).toArray) (.agg (bc b).toArray)).run _ _ = _
  rw [run_neq_struct, h]
  rfl
theorem built_rp (cs : List Value) (h : cs.length = 32) : Tryd.prog.built 89 [(0, .agg cs.toArray)] = some (cs ++ [Value.slice none 0 0]).toArray := by
  match cs, h with
  | [a0, a1, a2, a3, a4, a5, a6, a7, a8, a9, a10, a11, a12, a13, a14, a15, a16, a17, a18, a19, a20, a21, a22, a23, a24, a25, a26, a27, a28, a29, a30, a31], _ => exact (show (_ : Option (Array Value)) = _ by kernel_rfl)
theorem built_rp0 : Tryd.prog.built 89 [] = some #[.int .u8 0, .int .u8 0, .int .u8 0, .int .u8 0, .int .u8 0, .int .u8 0, .int .u8 0, .int .u8 0, .int .u8 0, .int .u8 0, .int .u8 0, .int .u8 0, .int .u8 0, .int .u8 0, .int .u8 0, .int .u8 0, .int .u8 0, .int .u8 0, .int .u8 0, .int .u8 0, .int .u8 0, .int .u8 0, .int .u8 0, .int .u8 0, .int .u8 0, .int .u8 0, .int .u8 0, .int .u8 0, .int .u8 0, .int .u8 0, .int .u8 0, .int .u8 0, .slice none 0 0] := by kernel_rfl
theorem results_midt {P : Program} {fn : Func} {p t : Tmp} {ty : TypeId} (h : fn.results = #[.cell p ty, .tmp t]) (tmps : Array Value) (w : World) (g : Nat) (cs : List Value) (d : TypeDesc) (u : Value)
    (hp : tmps.getD p undef = .pointer (some ⟨g, 0, none⟩)) (ht : tmps.getD t undef = u) (hc : w.rangeAt g 0 cs) (hu : P.underlying ty = some d) (hd : d.isRow = true) (hi : (P.info? ty).map (·.size) = some cs.length) :
    (results fn tmps).run P w = .ok (.tuple #[.agg cs.toArray, u]) w := by
  have hp' : tmps[p]?.getD undef = .pointer (some ⟨g, 0, none⟩) := by simpa using hp
  have ht' : tmps[t]?.getD undef = u := by simpa using ht
  simp [results, h, hp', ht', asAddr, run_loadVar_mid w g 0 ty cs d hc hu hd hi]
def zR : List Value := (#[.int .u8 0, .int .u8 0, .int .u8 0, .int .u8 0, .int .u8 0, .int .u8 0, .int .u8 0, .int .u8 0, .int .u8 0, .int .u8 0, .int .u8 0, .int .u8 0, .int .u8 0, .int .u8 0, .int .u8 0, .int .u8 0, .int .u8 0, .int .u8 0, .int .u8 0, .int .u8 0, .int .u8 0, .int .u8 0, .int .u8 0, .int .u8 0, .int .u8 0, .int .u8 0, .int .u8 0, .int .u8 0, .int .u8 0, .int .u8 0, .int .u8 0, .int .u8 0, .slice none 0 0] : Array Value).toList
theorem zR_one : ∀ v ∈ zR, v.oneCell' = true := by
  intro v hv
  simp only [zR, List.mem_cons, List.not_mem_nil, or_false] at hv
  rcases hv with h | h | h | h | h | h | h | h | h | h | h | h | h | h | h | h | h | h | h | h | h | h | h | h | h | h | h | h | h | h | h | h | h <;> (subst h; rfl)
set_option maxRecDepth 10000 in
set_option maxHeartbeats 2000000 in
theorem answer_other (Kc : Nat → Int) (h nm : ByteArray) (T : List (List UInt8)) (q : List Nat) (a1 a2 : Option Addr) (c1 c2 : Nat) (SQ : Array Value) (HSQ : Hid (SQ = (bc nm ++ [Value.slice a2 q.length c2]).toArray)) (w : World) (hkt : KT Kc w) (hnm : nm.size = 32) (hh : h.size ≤ 1000) (hx : ¬ nm = dd Kc h) :
    Calls Tryd.prog 44 #[.agg #[.string h, .slice a1 T.length c1], .agg SQ] w fun x w' => x = .returned (.tuple #[.agg zR.toArray, .int .i64 6]) ∧ Below w.heap.size w w' := by
  obtain ⟨W1, hW1⟩ : ∃ W, W = ((w.alloc (.cells #[.string h, .slice a1 T.length c1] 65)).alloc (.cells SQ 83)).alloc (.cells #[.int .u8 0, .int .u8 0, .int .u8 0, .int .u8 0, .int .u8 0, .int .u8 0, .int .u8 0, .int .u8 0, .int .u8 0, .int .u8 0, .int .u8 0, .int .u8 0, .int .u8 0, .int .u8 0, .int .u8 0, .int .u8 0, .int .u8 0, .int .u8 0, .int .u8 0, .int .u8 0, .int .u8 0, .int .u8 0, .int .u8 0, .int .u8 0, .int .u8 0, .int .u8 0, .int .u8 0, .int .u8 0, .int .u8 0, .int .u8 0, .int .u8 0, .int .u8 0, .slice none 0 0] 89) := ⟨_, rfl⟩
  have HB1 : Hid (Below w.heap.size w W1) := by show Below _ _ _; rw [hW1]; exact (((Below.refl _ _).alloc (Nat.le_refl _) _).alloc (by simp) _).alloc (by simp; omega) _
  have hz1 : W1.heap.size = w.heap.size + 3 := by rw [hW1]; simp
  have c0 : W1.cell? ⟨w.heap.size, 0, none⟩ = some (.string h) := by rw [hW1]; simp [go_sem]
  have c1' : W1.cell? ⟨w.heap.size, 1, none⟩ = some (.slice a1 T.length c1) := by rw [hW1]; simp [go_sem]
  have hrq : W1.rangeAt (w.heap.size + 1) 0 (bc nm ++ [.slice a2 q.length c2]) := by
    have := range_new (w.alloc (.cells #[.string h, .slice a1 T.length c1] 65)) (bc nm ++ [.slice a2 q.length c2]) 83 SQ HSQ.out
    rw [hW1]; exact World.rangeAt_alloc (by simpa using this) _
  have htr : W1.there (w.heap.size + 2) 0 33 := by
    have := there_new ((w.alloc (.cells #[.string h, .slice a1 T.length c1] 65)).alloc (.cells SQ 83)) 89 (#[.int .u8 0, .int .u8 0, .int .u8 0, .int .u8 0, .int .u8 0, .int .u8 0, .int .u8 0, .int .u8 0, .int .u8 0, .int .u8 0, .int .u8 0, .int .u8 0, .int .u8 0, .int .u8 0, .int .u8 0, .int .u8 0, .int .u8 0, .int .u8 0, .int .u8 0, .int .u8 0, .int .u8 0, .int .u8 0, .int .u8 0, .int .u8 0, .int .u8 0, .int .u8 0, .int .u8 0, .int .u8 0, .int .u8 0, .int .u8 0, .int .u8 0, .int .u8 0, .slice none 0 0] : Array Value).toList
    rw [hW1]; simpa using this
  obtain ⟨hqa, hqb⟩ := range_app hrq
  rw [bc_length, hnm] at hqb
  have hq32 : W1.cell? ⟨w.heap.size + 1, 32, none⟩ = some (.slice a2 q.length c2) := hqb 0 _ rfl
  have HF : Hid (∀ W, Below (w.heap.size + 2) W1 W → W.cell? ⟨w.heap.size, 0, none⟩ = some (.string h) ∧ W.cell? ⟨w.heap.size, 1, none⟩ = some (.slice a1 T.length c1) ∧ W.rangeAt (w.heap.size + 1) 0 (bc nm) ∧ W.cell? ⟨w.heap.size + 1, 32, none⟩ = some (.slice a2 q.length c2)) := fun W hW =>
    ⟨by rw [hW.cell (p := ⟨w.heap.size, 0, none⟩) (by show w.heap.size < _; omega)]; exact c0, by rw [hW.cell (p := ⟨w.heap.size, 1, none⟩) (by show w.heap.size < _; omega)]; exact c1', range_later hqa hW (by omega), by rw [hW.cell (p := ⟨w.heap.size + 1, 32, none⟩) (by show w.heap.size + 1 < _; omega)]; exact hq32⟩
  have HTR : Hid (∀ W, Below W1.heap.size W1 W → W.there (w.heap.size + 2) 0 33) := fun W hW => there_block htr (hW.block _ (by omega))
  have hpos : 0 < w.heap.size := World.block_lt_of_cell? w _ (hkt 0 (by omega))
  have HNM : Hid (∀ W, Below W1.heap.size W1 W → Calls Tryd.prog 78 #[.string h] W fun e w' => e = .returned (aggD (dd Kc h)) ∧ Below W.heap.size W w') := fun W hW => hdName_any Kc h W (hkt.later (HB1.out.trans (hW.mono (by omega))) hpos) (by omega)
  have hb0 : ∀ W, (Instr.build 89 #[]).run Tryd.prog W = .ok (.agg #[.int .u8 0, .int .u8 0, .int .u8 0, .int .u8 0, .int .u8 0, .int .u8 0, .int .u8 0, .int .u8 0, .int .u8 0, .int .u8 0, .int .u8 0, .int .u8 0, .int .u8 0, .int .u8 0, .int .u8 0, .int .u8 0, .int .u8 0, .int .u8 0, .int .u8 0, .int .u8 0, .int .u8 0, .int .u8 0, .int .u8 0, .int .u8 0, .int .u8 0, .int .u8 0, .int .u8 0, .int .u8 0, .int .u8 0, .int .u8 0, .int .u8 0, .int .u8 0, .slice none 0 0]) W := fun W => run_build W _ _ _ built_rp0
  have hbl : (bc nm).length = 32 := by rw [bc_length, hnm]
  have hb1 : ∀ W, (Instr.build 89 #[(0, aggD nm)]).run Tryd.prog W = .ok (.agg (bc nm ++ [Value.slice none 0 0]).toArray) W := fun W => run_build W _ _ _ (built_rp (bc nm) hbl)
  have HB0 : Below W1.heap.size W1 W1.drew := ⟨rfl, rfl, rfl, Nat.le_refl _, fun _ _ => rfl⟩
  clear c0 c1' hrq htr hqa hqb hq32 hkt
  have hEQ : (!(nm.data.toList == (dd Kc h).data.toList)) = true := by
    have : (nm.data.toList == (dd Kc h).data.toList) = false := by
      rw [beq_eq_false_iff_ne]
      intro e; exact hx (by rw [← ofL_of nm, ← ofL_of (dd Kc h), e])
    rw [this]; rfl
  have heq : ∀ W : World, (binOp .neq 43 (.agg (bc nm).toArray) (.agg (bc (dd Kc h)).toArray)).run Tryd.prog W = .ok (.bool true) W := fun W => by have := neq_d nm (dd Kc h) hnm (dd_size Kc h) W; rw [hEQ] at this; exact this
  clear hEQ
  go_enter Tryd.func44, Tryd.ntmps44
  go_upto_region 1 with fail
  rw [← hW1]
  clear hW1
  refine q_frame (fun A HFR => ?_)
  have hsz : A.tmps.size = 44 := by rw [HFR.out]; rfl
  have h2 : A.eval (.tmp 2) = .pointer (some ⟨w.heap.size, 0, none⟩) := by rw [HFR.out]; rfl
  have h3 : A.eval (.tmp 3) = .pointer (some ⟨w.heap.size + 1, 0, none⟩) := by rw [HFR.out]; rfl
  refine wp_region_held_drew (S := fun W => W.cell? ⟨w.heap.size, 0, none⟩ = some (.string h) ∧ W.rangeAt (w.heap.size + 1) 0 (bc nm)) (by kernel_rfl) ⟨(HF.out _ (HB0.mono (by omega))).1, (HF.out _ (HB0.mono (by omega))).2.2.1⟩ (fun hS => ?_)
  refine wpAnyH_take (i := 0) (v := (.pointer (some ⟨w.heap.size + 1, 0, none⟩))) rfl (by kernel_rfl) (by kernel_rfl) (by kernel_rfl) (fun _ _ _ h => h) (Or.inl ⟨by rfl, fun W _ => q_run1 3 (.pointer (some ⟨w.heap.size + 1, 0, none⟩)) (by simp only [q_same, q_ne, q_sz, hsz, h2, h3, ne_eq, Nat.reduceEqDiff, not_false_eq_true, Nat.reduceLT]) (fun ρ hc hf e1 => by simp [go_sem, hc, hf, e1])⟩) hS ?_
  change wpAnyH _ _ _ _ _ _ _ (Act.put _ (some 9) _) _
  refine wpAnyH_take (i := 1) (v := aggD nm) rfl (by kernel_rfl) (by kernel_rfl) (by kernel_rfl) (fun _ _ _ h => h) (yieldsIf_load_mid (by rfl) 43 _ rfl (w.heap.size + 1) 0 (by simp only [q_same, q_ne, q_sz, hsz, h2, h3, ne_eq, Nat.reduceEqDiff, not_false_eq_true, Nat.reduceLT]) (bc nm) _ (fun W hW => hW.2) Tryd.underlying43 rfl (by rw [hbl]; kernel_rfl)) hS ?_
  change wpAnyH _ _ _ _ _ _ _ (Act.put _ (some 10) _) _
  refine wpAnyH_take (i := 2) (v := (.pointer (some ⟨w.heap.size, 0, none⟩))) rfl (by kernel_rfl) (by kernel_rfl) (by kernel_rfl) (fun _ _ _ h => h) (Or.inl ⟨by rfl, fun W _ => q_run1 2 (.pointer (some ⟨w.heap.size, 0, none⟩)) (by simp only [q_same, q_ne, q_sz, hsz, h2, h3, ne_eq, Nat.reduceEqDiff, not_false_eq_true, Nat.reduceLT]) (fun ρ hc hf e1 => by simp [go_sem, hc, hf, e1])⟩) hS ?_
  change wpAnyH _ _ _ _ _ _ _ (Act.put _ (some 11) _) _
  refine wpAnyH_take (i := 3) (v := (.string h)) rfl (by kernel_rfl) (by kernel_rfl) (by kernel_rfl) (fun _ _ _ h => h) (Or.inl ⟨by rfl, fun W hW => q_run1 11 (.pointer (some ⟨w.heap.size, 0, none⟩)) (by simp only [q_same, q_ne, q_sz, hsz, h2, h3, ne_eq, Nat.reduceEqDiff, not_false_eq_true, Nat.reduceLT]) (fun ρ hc hf e1 => by simp [go_sem, hc, hf, e1, hW.1])⟩) hS ?_
  change wpAnyH _ _ _ _ _ _ _ (Act.put _ (some 12) _) _
  refine qH_call 4 78 #[.string h] _ (by kernel_rfl) rfl rfl (q_run1 12 (.string h) (by simp only [q_same, q_ne, q_sz, hsz, h2, h3, ne_eq, Nat.reduceEqDiff, not_false_eq_true, Nat.reduceLT]) (fun ρ hc hf e1 => by simp [go_sem, hc, hf, e1])) (calls_val (HNM.out _ HB0)) ?_
  rintro _ w2 ⟨rfl, hb2⟩
  have HB2 : Below W1.heap.size W1 w2 := HB0.trans hb2
  have hS2 : w2.cell? ⟨w.heap.size, 0, none⟩ = some (.string h) ∧ w2.rangeAt (w.heap.size + 1) 0 (bc nm) := ⟨(HF.out _ (HB2.mono (by omega))).1, (HF.out _ (HB2.mono (by omega))).2.2.1⟩
  refine ⟨hS2, ?_⟩
  change wpAnyH _ _ _ _ _ _ _ (Act.put _ (some 13) _) _
  refine qH_one 5 (.bool true) w2 (by kernel_rfl) rfl rfl (q_run2 10 13 (.agg (bc nm).toArray) (.agg (bc (dd Kc h)).toArray) (by simp only [q_same, q_ne, q_sz, hsz, h2, h3, aggD, ne_eq, Nat.reduceEqDiff, not_false_eq_true, Nat.reduceLT]) (by simp only [q_same, q_ne, q_sz, hsz, h2, h3, aggD, ne_eq, Nat.reduceEqDiff, not_false_eq_true, Nat.reduceLT]) (fun ρ hc hf e1 e2 => by simp [go_sem, hc, e1, e2, heq])) hS2 ?_
  change wpAnyH _ _ _ _ _ _ _ (Act.put _ (some 14) _) _
  refine wpAnyH_done (by kernel_rfl) ?_ _
  have HB2' : Hid (Below W1.heap.size W1 w2) := HB2
  have hfr := HFR.out
  clear HFR hsz h2 h3 hS hS2 HB0 HB2 hb2 HNM heq
  subst hfr
  simp only [Act.put, List.setIfInBounds_toArray, List.set_cons_zero, List.set_cons_succ]
  have HT2 : Hid (w2.there (w.heap.size + 2) 0 33) := HTR.out _ HB2'.out
  go_wp2_with (refine wpList_store_list rfl 89 _ _ rfl (w.heap.size + 2) 0 zR rfl rfl ?_ (by kernel_rfl) zR_one ?_; exact HT2.out)
  refine bodyPost_ret (results_midt Tryd.results44 _ _ (w.heap.size + 2) zR _ _ rfl rfl (World.rangeAt_setCells_same _ _ _ _ HT2.out) Tryd.underlying89 rfl (by kernel_rfl)) rfl ⟨rfl, ?_⟩
  exact below_setCells (HB1.out.trans (HB2'.out.mono (by omega))) _ (by omega) _ _
end Go.Proofs.YtfbhgbmdakdaoaaDoor
set_option linter.unusedSimpArgs false
namespace Go.Proofs.YtfbhgbmdakdaoaaDoor
open Go.RowKit

/-- each place is one of the block. -/
def allB (T : List (List UInt8)) (q : List Nat) : Bool := q.all (fun i => decide (i < T.length))
theorem wpList_build1 {P : Program} {ops : Array Oper} {rest : List Oper} {op : Oper} {a : Act} {w : World} {Q : Exit → Act → World → Prop} (hgd : op.guard = none) (ty : TypeId) (k : Nat) (ho : op.op = .build ty #[(0, .tmp k)]) (u : Value) (hu : a.eval (.tmp k) = u)
    (cells : Array Value) (hb : ∀ W, (Instr.build ty #[(0, u)]).run P W = .ok (.agg cells) W) (h : wpList P ops Q rest (a.put op.dst (.agg cells)) w) : wpList P ops Q (op :: rest) a w :=
  wpList_plain hgd fun K hK => by
    unfold Oper.wp execOp
    simp only [ho, List.map_toArray, List.map_cons, List.map_nil, hu, Sem.run_bind, hb, Result.andThen_ok]
    exact hK _ _ h

set_option maxRecDepth 10000 in
set_option maxHeartbeats 2000000 in
theorem answer_same (Kc : Nat → Int) (h nm : ByteArray) (T : List (List UInt8)) (q : List Nat) (a1 a2 : Option Addr) (c1 c2 : Nat) (SQ : Array Value) (HSQ : Hid (SQ = (bc nm ++ [Value.slice a2 q.length c2]).toArray)) (w : World) (hkt : KT Kc w) (hnm : nm.size = 32) (hh : h.size ≤ 1000) (hx : nm = dd Kc h) (hr1 : 0 < T.length → ∃ b o, a1 = some ⟨b, o, none⟩ ∧ SRow w b o (T.map ofL)) (hr2 : 0 < q.length → ∃ b o, a2 = some ⟨b, o, none⟩ ∧ VRow w b o (natV q)) (hq16 : q.length ≤ 16) :
    Calls Tryd.prog 44 #[.agg #[.string h, .slice a1 T.length c1], .agg SQ] w fun x w' => (allB T q = true ∧ ∃ v, x = .returned (.tuple #[.agg (bc nm ++ [v]).toArray, .int .i64 0]) ∧ w'.ownsRow w.heap.size 9 1 v q.length (strB (outL T q)) ∧ Below w.heap.size w w') ∨ (allB T q = false ∧ x = .returned (.tuple #[.agg zR.toArray, .int .i64 4]) ∧ Below w.heap.size w w') := by
  obtain ⟨W1, hW1⟩ : ∃ W, W = ((w.alloc (.cells #[.string h, .slice a1 T.length c1] 65)).alloc (.cells SQ 83)).alloc (.cells #[.int .u8 0, .int .u8 0, .int .u8 0, .int .u8 0, .int .u8 0, .int .u8 0, .int .u8 0, .int .u8 0, .int .u8 0, .int .u8 0, .int .u8 0, .int .u8 0, .int .u8 0, .int .u8 0, .int .u8 0, .int .u8 0, .int .u8 0, .int .u8 0, .int .u8 0, .int .u8 0, .int .u8 0, .int .u8 0, .int .u8 0, .int .u8 0, .int .u8 0, .int .u8 0, .int .u8 0, .int .u8 0, .int .u8 0, .int .u8 0, .int .u8 0, .int .u8 0, .slice none 0 0] 89) := ⟨_, rfl⟩
  have HB1 : Hid (Below w.heap.size w W1) := by show Below _ _ _; rw [hW1]; exact (((Below.refl _ _).alloc (Nat.le_refl _) _).alloc (by simp) _).alloc (by simp; omega) _
  have hz1 : W1.heap.size = w.heap.size + 3 := by rw [hW1]; simp
  have c0 : W1.cell? ⟨w.heap.size, 0, none⟩ = some (.string h) := by rw [hW1]; simp [go_sem]
  have c1' : W1.cell? ⟨w.heap.size, 1, none⟩ = some (.slice a1 T.length c1) := by rw [hW1]; simp [go_sem]
  have hrq : W1.rangeAt (w.heap.size + 1) 0 (bc nm ++ [.slice a2 q.length c2]) := by
    have := range_new (w.alloc (.cells #[.string h, .slice a1 T.length c1] 65)) (bc nm ++ [.slice a2 q.length c2]) 83 SQ HSQ.out
    rw [hW1]; exact World.rangeAt_alloc (by simpa using this) _
  have htr : W1.there (w.heap.size + 2) 0 33 := by
    have := there_new ((w.alloc (.cells #[.string h, .slice a1 T.length c1] 65)).alloc (.cells SQ 83)) 89 (#[.int .u8 0, .int .u8 0, .int .u8 0, .int .u8 0, .int .u8 0, .int .u8 0, .int .u8 0, .int .u8 0, .int .u8 0, .int .u8 0, .int .u8 0, .int .u8 0, .int .u8 0, .int .u8 0, .int .u8 0, .int .u8 0, .int .u8 0, .int .u8 0, .int .u8 0, .int .u8 0, .int .u8 0, .int .u8 0, .int .u8 0, .int .u8 0, .int .u8 0, .int .u8 0, .int .u8 0, .int .u8 0, .int .u8 0, .int .u8 0, .int .u8 0, .int .u8 0, .slice none 0 0] : Array Value).toList
    rw [hW1]; simpa using this
  obtain ⟨hqa, hqb⟩ := range_app hrq
  rw [bc_length, hnm] at hqb
  have hq32 : W1.cell? ⟨w.heap.size + 1, 32, none⟩ = some (.slice a2 q.length c2) := hqb 0 _ rfl
  have HF : Hid (∀ W, Below (w.heap.size + 2) W1 W → W.cell? ⟨w.heap.size, 0, none⟩ = some (.string h) ∧ W.cell? ⟨w.heap.size, 1, none⟩ = some (.slice a1 T.length c1) ∧ W.rangeAt (w.heap.size + 1) 0 (bc nm) ∧ W.cell? ⟨w.heap.size + 1, 32, none⟩ = some (.slice a2 q.length c2)) := fun W hW =>
    ⟨by rw [hW.cell (p := ⟨w.heap.size, 0, none⟩) (by show w.heap.size < _; omega)]; exact c0, by rw [hW.cell (p := ⟨w.heap.size, 1, none⟩) (by show w.heap.size < _; omega)]; exact c1', range_later hqa hW (by omega), by rw [hW.cell (p := ⟨w.heap.size + 1, 32, none⟩) (by show w.heap.size + 1 < _; omega)]; exact hq32⟩
  have HTR : Hid (∀ W, Below W1.heap.size W1 W → W.there (w.heap.size + 2) 0 33) := fun W hW => there_block htr (hW.block _ (by omega))
  have hpos : 0 < w.heap.size := World.block_lt_of_cell? w _ (hkt 0 (by omega))
  have HNM : Hid (∀ W, Below W1.heap.size W1 W → Calls Tryd.prog 78 #[.string h] W fun e w' => e = .returned (aggD (dd Kc h)) ∧ Below W.heap.size W w') := fun W hW => hdName_any Kc h W (hkt.later (HB1.out.trans (hW.mono (by omega))) hpos) (by omega)
  have hb0 : ∀ W, (Instr.build 89 #[]).run Tryd.prog W = .ok (.agg #[.int .u8 0, .int .u8 0, .int .u8 0, .int .u8 0, .int .u8 0, .int .u8 0, .int .u8 0, .int .u8 0, .int .u8 0, .int .u8 0, .int .u8 0, .int .u8 0, .int .u8 0, .int .u8 0, .int .u8 0, .int .u8 0, .int .u8 0, .int .u8 0, .int .u8 0, .int .u8 0, .int .u8 0, .int .u8 0, .int .u8 0, .int .u8 0, .int .u8 0, .int .u8 0, .int .u8 0, .int .u8 0, .int .u8 0, .int .u8 0, .int .u8 0, .int .u8 0, .slice none 0 0]) W := fun W => run_build W _ _ _ built_rp0
  have hbl : (bc nm).length = 32 := by rw [bc_length, hnm]
  have hb1 : ∀ W, (Instr.build 89 #[(0, .agg (bc nm).toArray)]).run Tryd.prog W = .ok (.agg (bc nm ++ [Value.slice none 0 0]).toArray) W := fun W => run_build W _ _ _ (built_rp (bc nm) hbl)
  have HB0 : Below W1.heap.size W1 W1.drew := ⟨rfl, rfl, rfl, Nat.le_refl _, fun _ _ => rfl⟩
  clear c0 c1' hrq htr hqa hqb hq32 hkt
  obtain ⟨i0, hi, hz0, hzz1, hzz2⟩ := info_parts infoStr
  have hEQ : (!(nm.data.toList == (dd Kc h).data.toList)) = false := by rw [← hx]; simp
  have heq : ∀ W : World, (binOp .neq 43 (.agg (bc nm).toArray) (.agg (bc (dd Kc h)).toArray)).run Tryd.prog W = .ok (.bool false) W := fun W => by have := neq_d nm (dd Kc h) hnm (dd_size Kc h) W; rw [hEQ] at this; exact this
  have HR1 : Hid (0 < T.length → ∃ b o, a1 = some ⟨b, o, none⟩ ∧ SRow w b o (T.map ofL)) := hr1
  have HR2 : Hid (0 < q.length → ∃ b o, a2 = some ⟨b, o, none⟩ ∧ VRow w b o (natV q)) := hr2
  clear hEQ hr1 hr2 hx
  go_enter Tryd.func44, Tryd.ntmps44
  go_upto_region 1 with fail
  rw [← hW1]
  clear hW1
  refine q_frame (fun A HFR => ?_)
  have hsz : A.tmps.size = 44 := by rw [HFR.out]; rfl
  have h2 : A.eval (.tmp 2) = .pointer (some ⟨w.heap.size, 0, none⟩) := by rw [HFR.out]; rfl
  have h3 : A.eval (.tmp 3) = .pointer (some ⟨w.heap.size + 1, 0, none⟩) := by rw [HFR.out]; rfl
  refine wp_region_held_drew (S := fun W => W.cell? ⟨w.heap.size, 0, none⟩ = some (.string h) ∧ W.rangeAt (w.heap.size + 1) 0 (bc nm)) (by kernel_rfl) ⟨(HF.out _ (HB0.mono (by omega))).1, (HF.out _ (HB0.mono (by omega))).2.2.1⟩ (fun hS => ?_)
  refine wpAnyH_take (i := 0) (v := (.pointer (some ⟨w.heap.size + 1, 0, none⟩))) rfl (by kernel_rfl) (by kernel_rfl) (by kernel_rfl) (fun _ _ _ h => h) (Or.inl ⟨by rfl, fun W _ => q_run1 3 (.pointer (some ⟨w.heap.size + 1, 0, none⟩)) (by simp only [q_same, q_ne, q_sz, hsz, h2, h3, ne_eq, Nat.reduceEqDiff, not_false_eq_true, Nat.reduceLT]) (fun ρ hc hf e1 => by simp [go_sem, hc, hf, e1])⟩) hS ?_
  change wpAnyH _ _ _ _ _ _ _ (Act.put _ (some 9) _) _
  refine wpAnyH_take (i := 1) (v := aggD nm) rfl (by kernel_rfl) (by kernel_rfl) (by kernel_rfl) (fun _ _ _ h => h) (yieldsIf_load_mid (by rfl) 43 _ rfl (w.heap.size + 1) 0 (by simp only [q_same, q_ne, q_sz, hsz, h2, h3, ne_eq, Nat.reduceEqDiff, not_false_eq_true, Nat.reduceLT]) (bc nm) _ (fun W hW => hW.2) Tryd.underlying43 rfl (by rw [hbl]; kernel_rfl)) hS ?_
  change wpAnyH _ _ _ _ _ _ _ (Act.put _ (some 10) _) _
  refine wpAnyH_take (i := 2) (v := (.pointer (some ⟨w.heap.size, 0, none⟩))) rfl (by kernel_rfl) (by kernel_rfl) (by kernel_rfl) (fun _ _ _ h => h) (Or.inl ⟨by rfl, fun W _ => q_run1 2 (.pointer (some ⟨w.heap.size, 0, none⟩)) (by simp only [q_same, q_ne, q_sz, hsz, h2, h3, ne_eq, Nat.reduceEqDiff, not_false_eq_true, Nat.reduceLT]) (fun ρ hc hf e1 => by simp [go_sem, hc, hf, e1])⟩) hS ?_
  change wpAnyH _ _ _ _ _ _ _ (Act.put _ (some 11) _) _
  refine wpAnyH_take (i := 3) (v := (.string h)) rfl (by kernel_rfl) (by kernel_rfl) (by kernel_rfl) (fun _ _ _ h => h) (Or.inl ⟨by rfl, fun W hW => q_run1 11 (.pointer (some ⟨w.heap.size, 0, none⟩)) (by simp only [q_same, q_ne, q_sz, hsz, h2, h3, ne_eq, Nat.reduceEqDiff, not_false_eq_true, Nat.reduceLT]) (fun ρ hc hf e1 => by simp [go_sem, hc, hf, e1, hW.1])⟩) hS ?_
  change wpAnyH _ _ _ _ _ _ _ (Act.put _ (some 12) _) _
  refine qH_call 4 78 #[.string h] _ (by kernel_rfl) rfl rfl (q_run1 12 (.string h) (by simp only [q_same, q_ne, q_sz, hsz, h2, h3, ne_eq, Nat.reduceEqDiff, not_false_eq_true, Nat.reduceLT]) (fun ρ hc hf e1 => by simp [go_sem, hc, hf, e1])) (calls_val (HNM.out _ HB0)) ?_
  rintro _ w2 ⟨rfl, hb2⟩
  have HB2 : Below W1.heap.size W1 w2 := HB0.trans hb2
  have hS2 : w2.cell? ⟨w.heap.size, 0, none⟩ = some (.string h) ∧ w2.rangeAt (w.heap.size + 1) 0 (bc nm) := ⟨(HF.out _ (HB2.mono (by omega))).1, (HF.out _ (HB2.mono (by omega))).2.2.1⟩
  refine ⟨hS2, ?_⟩
  change wpAnyH _ _ _ _ _ _ _ (Act.put _ (some 13) _) _
  refine qH_one 5 (.bool false) w2 (by kernel_rfl) rfl rfl (q_run2 10 13 (.agg (bc nm).toArray) (.agg (bc (dd Kc h)).toArray) (by simp only [q_same, q_ne, q_sz, hsz, h2, h3, aggD, ne_eq, Nat.reduceEqDiff, not_false_eq_true, Nat.reduceLT]) (by simp only [q_same, q_ne, q_sz, hsz, h2, h3, aggD, ne_eq, Nat.reduceEqDiff, not_false_eq_true, Nat.reduceLT]) (fun ρ hc hf e1 e2 => by simp [go_sem, hc, e1, e2, heq])) hS2 ?_
  change wpAnyH _ _ _ _ _ _ _ (Act.put _ (some 14) _) _
  refine wpAnyH_done (by kernel_rfl) ?_ _
  have HB2' : Hid (Below W1.heap.size W1 w2) := HB2
  have hfr := HFR.out
  clear HFR hsz h2 h3 hS hS2 HB0 HB2 hb2 HNM heq
  subst hfr
  simp only [Act.put, List.setIfInBounds_toArray, List.set_cons_zero, List.set_cons_succ]
  have hs2 := HB2'.out.size
  have HRQ : Hid (w2.rangeAt (w.heap.size + 1) 0 (bc nm)) := (HF.out _ (HB2'.out.mono (by omega))).2.2.1
  have HL33 : Hid ((bc nm ++ [Value.slice none 0 0]).length = 33) := by show _ = _; rw [List.length_append, hbl]; rfl
  have HB1B : Hid (∀ W, (Instr.build 89 #[(0, .agg (bc nm).toArray)]).run Tryd.prog W = .ok (.agg (bc nm ++ [Value.slice none 0 0]).toArray) W) := hb1
  clear hb1
  go_upto_region 4 with (first
    | (refine wpList_build1 rfl 89 17 rfl (.agg (bc nm).toArray) rfl _ HB1B.out ?_)
    | (refine wpList_load_mid rfl 43 _ rfl (w.heap.size + 1) 0 rfl (bc nm) _ ?_ Tryd.underlying43 rfl ?_ ?_; exact HRQ.out; rw [hbl]; kernel_rfl)
    | (refine wpList_store_list rfl 89 _ _ rfl w2.heap.size 0 (bc nm ++ [Value.slice none 0 0]) rfl rfl ?_ ?_ (bc_slice_one nm none 0 0) ?_; rw [HL33.out]; exact there_new w2 89 (#[.int .u8 0, .int .u8 0, .int .u8 0, .int .u8 0, .int .u8 0, .int .u8 0, .int .u8 0, .int .u8 0, .int .u8 0, .int .u8 0, .int .u8 0, .int .u8 0, .int .u8 0, .int .u8 0, .int .u8 0, .int .u8 0, .int .u8 0, .int .u8 0, .int .u8 0, .int .u8 0, .int .u8 0, .int .u8 0, .int .u8 0, .int .u8 0, .int .u8 0, .int .u8 0, .int .u8 0, .int .u8 0, .int .u8 0, .int .u8 0, .int .u8 0, .int .u8 0, .slice none 0 0] : Array Value).toList; rw [HL33.out]; kernel_rfl))
  obtain ⟨W4, hW4⟩ : ∃ W, W = (w2.alloc (.cells #[.int .u8 0, .int .u8 0, .int .u8 0, .int .u8 0, .int .u8 0, .int .u8 0, .int .u8 0, .int .u8 0, .int .u8 0, .int .u8 0, .int .u8 0, .int .u8 0, .int .u8 0, .int .u8 0, .int .u8 0, .int .u8 0, .int .u8 0, .int .u8 0, .int .u8 0, .int .u8 0, .int .u8 0, .int .u8 0, .int .u8 0, .int .u8 0, .int .u8 0, .int .u8 0, .int .u8 0, .int .u8 0, .int .u8 0, .int .u8 0, .int .u8 0, .int .u8 0, .slice none 0 0] 89)).setCells w2.heap.size 0 (bc nm ++ [Value.slice none 0 0]) := ⟨_, rfl⟩
  have ht4 : (w2.alloc (.cells #[.int .u8 0, .int .u8 0, .int .u8 0, .int .u8 0, .int .u8 0, .int .u8 0, .int .u8 0, .int .u8 0, .int .u8 0, .int .u8 0, .int .u8 0, .int .u8 0, .int .u8 0, .int .u8 0, .int .u8 0, .int .u8 0, .int .u8 0, .int .u8 0, .int .u8 0, .int .u8 0, .int .u8 0, .int .u8 0, .int .u8 0, .int .u8 0, .int .u8 0, .int .u8 0, .int .u8 0, .int .u8 0, .int .u8 0, .int .u8 0, .int .u8 0, .int .u8 0, .slice none 0 0] 89)).there w2.heap.size 0 33 := there_new w2 89 (#[.int .u8 0, .int .u8 0, .int .u8 0, .int .u8 0, .int .u8 0, .int .u8 0, .int .u8 0, .int .u8 0, .int .u8 0, .int .u8 0, .int .u8 0, .int .u8 0, .int .u8 0, .int .u8 0, .int .u8 0, .int .u8 0, .int .u8 0, .int .u8 0, .int .u8 0, .int .u8 0, .int .u8 0, .int .u8 0, .int .u8 0, .int .u8 0, .int .u8 0, .int .u8 0, .int .u8 0, .int .u8 0, .int .u8 0, .int .u8 0, .int .u8 0, .int .u8 0, .slice none 0 0] : Array Value).toList
  have hr4 : W4.rangeAt w2.heap.size 0 (bc nm ++ [Value.slice none 0 0]) := by rw [hW4]; exact World.rangeAt_setCells_same _ _ _ _ (by rw [HL33.out]; exact ht4)
  have ht4' : W4.there w2.heap.size 0 33 := by rw [hW4]; exact World.there_setCells ht4 _ _ _
  have hb4 : Below w2.heap.size w2 W4 := by rw [hW4]; exact below_setCells ((Below.refl _ _).alloc (Nat.le_refl _) _) _ (Nat.le_refl _) _ _
  obtain ⟨hra, hrb⟩ := range_app hr4
  rw [hbl] at hrb
  have HCA : Hid (W4.rangeAt w2.heap.size 0 (bc nm)) := hra
  have HCB : Hid (W4.cell? ⟨w2.heap.size, 32, none⟩ = some (.slice none 0 0)) := hrb 0 _ rfl
  have HCF : Hid (W4.frozen? ⟨w2.heap.size, 32, none⟩ = false) := by have := (ht4' 32 (by omega)).2; rw [Nat.zero_add] at this; exact this
  have HB4 : Hid (Below W1.heap.size W1 W4) := HB2'.out.trans (hb4.mono hs2)
  rw [← hW4]
  clear hW4 ht4 ht4' hr4 hb4 hra hrb HRQ
  have hq32 := (HF.out W4 (HB4.out.mono (by omega))).2.2.2
  have hz4 := HB4.out.size
  have HZ2 : Hid (W1.heap.size ≤ w2.heap.size) := hs2
  go_upto_region 5 with fail
  clear hq32
  go_loopg [22] q.length (fun g i wx => ∃ j : Nat, ∃ v : Value, j + g = q.length ∧ i = .int .i64 (j : Int) ∧ (∀ (k : Nat) (hk : k < q.length), k < j → q[k] < T.length) ∧ wx.cell? ⟨w2.heap.size, 32, none⟩ = some v ∧ wx.frozen? ⟨w2.heap.size, 32, none⟩ = false ∧ wx.rangeAt w2.heap.size 0 (bc nm) ∧ wx.ownsRow (w2.heap.size + 1) 9 1 v j (strB (outL T (q.take j))) ∧ Below w2.heap.size W4 wx)
  case atStart => exact ⟨0, .slice none 0 0, by omega, rfl, fun _ _ h => by omega, HCB.out, HCF.out, HCA.out, World.ownsRow_nil _ _ _ _, Below.refl _ _⟩
  case round =>
    clear HCB HCF HCA
    obtain ⟨j, v, hjg, rfl, hall, hcv, hfv, hrn, hown, hb⟩ := hrel
    have HALL : Hid (∀ (k : Nat) (hk : k < q.length), k < j → q[k] < T.length) := hall
    have HO : Hid (wr.ownsRow (w2.heap.size + 1) 9 1 v j (strB (outL T (q.take j)))) := hown
    have HBB : Hid (Below w2.heap.size W4 wr) := hb
    have HB14 : Hid (Below W1.heap.size W1 wr) := HB4.out.trans (hb.mono HZ2.out)
    have HJ : Hid (j + gk = q.length) := hjg
    have HRN : Hid (wr.rangeAt w2.heap.size 0 (bc nm)) := hrn
    have hkw : w2.heap.size < wr.heap.size := World.block_lt_of_cell? wr _ hcv
    obtain ⟨va, vn, vc, rfl⟩ := own_slice hown
    have HCV : Hid (wr.cell? ⟨w2.heap.size, 32, none⟩ = some (.slice va vn vc)) := hcv
    have HFV : Hid (wr.frozen? ⟨w2.heap.size, 32, none⟩ = false) := hfv
    clear hall hown hb hrn hcv hfv
    obtain ⟨_, hp1, _, _⟩ := HF.out wr (HB14.out.mono (by omega))
    have HTW : Hid (wr.there (w.heap.size + 2) 0 33) := HTR.out _ HB14.out
    have HWW : Hid (Below w.heap.size w wr) := HB1.out.trans (HB14.out.mono (by omega))
    by_cases hlt : j < q.length
    · obtain ⟨b2, o2, rfl, hrow2⟩ := HR2.out (by omega)
      have hb2w := hrow2.lt (by simp [natV]; omega)
      have cj : wr.cell? ⟨b2, o2 + j, none⟩ = some (.int .i64 (q[j] : Int)) := by
        have := (hrow2.later HWW.out hb2w) j (by simp [natV]; omega)
        rw [this]; simp [natV]
      have hji : (j : Int) < (q.length : Int) := by omega
      have HSN := (show Hid (outL T (q.take (j + 1)) = outL T (q.take j) ++ [T.getD q[j] []]) from outL_snoc T q j hlt)
      have HSTEP := (show Hid (q[j] < T.length → ∀ (k : Nat) (hk : k < q.length), k < j + 1 → q[k] < T.length) from fun h k hk hk2 => by
        rcases Nat.lt_or_ge k j with h3 | h3
        · exact HALL.out k hk h3
        · obtain rfl : k = j := by omega
          exact h)
      have HBAD := (show Hid (T.length ≤ q[j] → ¬ q.all (fun i => decide (i < T.length)) = true) from all_not q T.length j hlt)
      generalize q[j] = x at cj HSN HSTEP HBAD
      clear hrow2
      by_cases hx : x < T.length
      · obtain ⟨b1, o1, rfl, hrow1⟩ := HR1.out (by omega)
        have hb1w := hrow1.lt (by simp; omega)
        have cx : ∀ W, Below w.heap.size w W → W.cell? ⟨b1, o1 + x, none⟩ = some (.string (ofL (T.getD x []))) := fun W hW => by
          have := (hrow1.later hW hb1w) x (by simp; omega)
          rw [this]; simp [List.getD, hx]
        have HCX : Hid (∀ W, Below w.heap.size w W → W.cell? ⟨b1, o1 + x, none⟩ = some (.string (ofL (T.getD x [])))) := cx
        have hxi : (x : Int) < (T.length : Int) := by omega
        have hxn : ¬ ((T.length : Int) ≤ (x : Int)) := by omega
        generalize T.getD x [] = tx at HCX HSN
        clear cx hrow1 HBAD HALL
        go_upto_region 9 with fail
        clear hp1 cj
        have HB0 : Below wr.heap.size wr wr.drew := ⟨rfl, rfl, rfl, Nat.le_refl _, fun _ _ => rfl⟩
        refine q_frame (fun A HFR => ?_)
        have hsz : A.tmps.size = 44 := by rw [HFR.out]; rfl
        have h2 : A.eval (.tmp 2) = .pointer (some ⟨w.heap.size, 0, none⟩) := by rw [HFR.out]; rfl
        have h6 : A.eval (.tmp 6) = .pointer (some ⟨w2.heap.size, 0, none⟩) := by rw [HFR.out]; rfl
        have h8 : A.eval (.tmp 8) = .int .i64 (x : Int) := by rw [HFR.out]; rfl
        have HS0 : ∀ W, Below w2.heap.size W4 W → W.cell? ⟨w2.heap.size, 32, none⟩ = some (.slice va vn vc) → (W.cell? ⟨w2.heap.size, 32, none⟩ = some (.slice va vn vc) ∧ W.cell? ⟨w.heap.size, 1, none⟩ = some (.slice (some ⟨b1, o1, none⟩) T.length c1) ∧ W.cell? ⟨b1, o1 + x, none⟩ = some (.string (ofL tx))) := fun W hW hc => by
          have hW1 : Below W1.heap.size W1 W := HB4.out.trans (hW.mono HZ2.out)
          exact ⟨hc, (HF.out W (hW1.mono (by omega))).2.1, HCX.out W (HB1.out.trans (hW1.mono (by omega)))⟩
        refine wp_region_T (k := 10) (S := fun W => W.cell? ⟨w2.heap.size, 32, none⟩ = some (.slice va vn vc) ∧ W.cell? ⟨w.heap.size, 1, none⟩ = some (.slice (some ⟨b1, o1, none⟩) T.length c1) ∧ W.cell? ⟨b1, o1 + x, none⟩ = some (.string (ofL tx))) (by kernel_rfl) (HS0 _ (HBB.out.trans (HB0.mono (Nat.le_of_lt hkw))) HCV.out) (fun hS => ?_)
        have kix : wr.heap.size = wr.heap.size := rfl
        refine wpAnyT_take (i := 0) (v := (.pointer (some ⟨w2.heap.size, 32, none⟩))) rfl (by kernel_rfl) (by kernel_rfl) (by kernel_rfl) (by kernel_rfl) (fun _ _ _ h => h) (Or.inl ⟨by rfl, fun W _ => q_run1 6 (.pointer (some ⟨w2.heap.size, 0, none⟩)) (by simp only [q_same, q_ne, q_sz, hsz, h2, h6, h8, ne_eq, Nat.reduceEqDiff, not_false_eq_true, Nat.reduceLT]) (fun ρ hc hf e1 => by simp [go_sem, hc, hf, e1])⟩) hS ?_
        change wpAnyT _ _ _ _ _ _ _ _ (Act.put _ (some 32) _) _
        refine wpAnyT_take (i := 1) (v := (.slice va vn vc)) rfl (by kernel_rfl) (by kernel_rfl) (by kernel_rfl) (by kernel_rfl) (fun _ _ _ h => h) (Or.inl ⟨by rfl, fun W hW => q_run1 32 (.pointer (some ⟨w2.heap.size, 32, none⟩)) (by simp only [q_same, q_ne, q_sz, hsz, h2, h6, h8, ne_eq, Nat.reduceEqDiff, not_false_eq_true, Nat.reduceLT]) (fun ρ hc hf e1 => by simp [go_sem, hc, hf, e1, hW.1])⟩) hS ?_
        change wpAnyT _ _ _ _ _ _ _ _ (Act.put _ (some 33) _) _
        refine wpAnyT_take (i := 2) (v := (.pointer (some ⟨w.heap.size, 1, none⟩))) rfl (by kernel_rfl) (by kernel_rfl) (by kernel_rfl) (by kernel_rfl) (fun _ _ _ h => h) (Or.inl ⟨by rfl, fun W _ => q_run1 2 (.pointer (some ⟨w.heap.size, 0, none⟩)) (by simp only [q_same, q_ne, q_sz, hsz, h2, h6, h8, ne_eq, Nat.reduceEqDiff, not_false_eq_true, Nat.reduceLT]) (fun ρ hc hf e1 => by simp [go_sem, hc, hf, e1])⟩) hS ?_
        change wpAnyT _ _ _ _ _ _ _ _ (Act.put _ (some 34) _) _
        refine wpAnyT_take (i := 3) (v := (.slice (some ⟨b1, o1, none⟩) T.length c1)) rfl (by kernel_rfl) (by kernel_rfl) (by kernel_rfl) (by kernel_rfl) (fun _ _ _ h => h) (Or.inl ⟨by rfl, fun W hW => q_run1 34 (.pointer (some ⟨w.heap.size, 1, none⟩)) (by simp only [q_same, q_ne, q_sz, hsz, h2, h6, h8, ne_eq, Nat.reduceEqDiff, not_false_eq_true, Nat.reduceLT]) (fun ρ hc hf e1 => by simp [go_sem, hc, hf, e1, hW.2.1])⟩) hS ?_
        change wpAnyT _ _ _ _ _ _ _ _ (Act.put _ (some 35) _) _
        refine wpAnyT_take (i := 4) (v := (.int .i64 (x : Int))) rfl (by kernel_rfl) (by kernel_rfl) (by kernel_rfl) (by kernel_rfl) (fun _ _ _ h => h) (Or.inl ⟨by rfl, fun W _ => q_run1 8 (.int .i64 (x : Int)) (by simp only [q_same, q_ne, q_sz, hsz, h2, h6, h8, ne_eq, Nat.reduceEqDiff, not_false_eq_true, Nat.reduceLT]) (fun ρ hc hf e1 => by simp [go_sem, hc, hf, e1])⟩) hS ?_
        change wpAnyT _ _ _ _ _ _ _ _ (Act.put _ (some 36) _) _
        refine wpAnyT_take (i := 5) (v := (.pointer (some ⟨b1, o1 + x, none⟩))) rfl (by kernel_rfl) (by kernel_rfl) (by kernel_rfl) (by kernel_rfl) (fun _ _ _ h => h) (Or.inl ⟨by rfl, fun W _ => q_run2 35 36 (.slice (some ⟨b1, o1, none⟩) T.length c1) (.int .i64 (x : Int)) (by simp only [q_same, q_ne, q_sz, hsz, h2, h6, h8, ne_eq, Nat.reduceEqDiff, not_false_eq_true, Nat.reduceLT]) (by simp only [q_same, q_ne, q_sz, hsz, h2, h6, h8, ne_eq, Nat.reduceEqDiff, not_false_eq_true, Nat.reduceLT]) (fun ρ hc hf e1 e2 => by simp [go_sem, hc, hf, e1, e2, hxi])⟩) hS ?_
        change wpAnyT _ _ _ _ _ _ _ _ (Act.put _ (some 37) _) _
        refine wpAnyT_take (i := 6) (v := (.string (ofL tx))) rfl (by kernel_rfl) (by kernel_rfl) (by kernel_rfl) (by kernel_rfl) (fun _ _ _ h => h) (Or.inl ⟨by rfl, fun W hW => q_run1 37 (.pointer (some ⟨b1, o1 + x, none⟩)) (by simp only [q_same, q_ne, q_sz, hsz, h2, h6, h8, ne_eq, Nat.reduceEqDiff, not_false_eq_true, Nat.reduceLT]) (fun ρ hc hf e1 => by simp [go_sem, hc, hf, e1, hW.2.2])⟩) hS ?_
        change wpAnyT _ _ _ _ _ _ _ _ (Act.put _ (some 38) _) _
        have HBA : Below wr.heap.size wr (wr.drew.alloc (.cells #[.string (ofL tx)] 9)) := HB0.alloc (Nat.le_refl _) _
        have hSA := HS0 _ (HBB.out.trans (HBA.mono (Nat.le_of_lt hkw))) (by rw [HBA.cell (p := ⟨w2.heap.size, 32, none⟩) hkw]; exact HCV.out)
        refine qT_one 7 (.slice (some ⟨wr.heap.size, 0, none⟩) 1 1) (wr.drew.alloc (.cells #[.string (ofL tx)] 9)) (by kernel_rfl) rfl rfl (q_run1 38 (.string (ofL tx)) (by simp only [q_same, q_ne, q_sz, hsz, h2, h6, h8, ne_eq, Nat.reduceEqDiff, not_false_eq_true, Nat.reduceLT]) (fun ρ hc hf e1 => by simp [go_sem, hc, hf, e1])) (fun _ => hSA) ?_
        change wpAnyT _ _ _ _ _ _ _ _ (Act.put _ (some 39) _) _
        refine qT_step 8 (by kernel_rfl) rfl (fun K hK => ?_)
        refine step_append_lies _ rfl (.tmp 33) (.tmp 39) 30 rfl (w2.heap.size + 1) 9 i0 (.string ByteArray.empty) 1 16 Tryd.underlying30 hi hz0 hzz1 hzz2 rfl (by decide) (.slice va vn vc) j (strB (outL T (q.take j))) (by simp only [q_same, q_ne, q_sz, hsz, h2, h6, h8, ne_eq, Nat.reduceEqDiff, not_false_eq_true, Nat.reduceLT]) (World.ownsRow.alloc (w := wr.drew) HO.out _) ⟨wr.heap.size, 0, none⟩ 1 1 [.string (ofL tx)] (by simp only [q_same, q_ne, q_sz, hsz, h2, h6, h8, ne_eq, Nat.reduceEqDiff, not_false_eq_true, Nat.reduceLT]) rfl (one_new wr.drew _ _) (one_str _) (by omega) (by unfold maxLen; omega) (by omega) (by simp; omega) _ rfl ?_
        intro g6 c6 w6 ho6 hgr6 _ _
        have HB6 : Below (w2.heap.size + 1) wr w6 := (HBA.mono (by omega)).grown hgr6 (by simp; omega) (ownBlock_ge HO.out)
        have hc6 : w6.cell? ⟨w2.heap.size, 32, none⟩ = some (.slice va vn vc) := by rw [HB6.cell (p := ⟨w2.heap.size, 32, none⟩) (Nat.lt_succ_self _)]; exact HCV.out
        have hf6 : w6.frozen? ⟨w2.heap.size, 32, none⟩ = false := by rw [HB6.frozen (p := ⟨w2.heap.size, 32, none⟩) (Nat.lt_succ_self _)]; exact HFV.out
        have hS6 := HS0 w6 (HBB.out.trans (HB6.mono (Nat.le_succ _))) hc6
        refine hK.out _ _ (fun _ => hS6) ?_
        change wpAnyT _ _ _ _ _ _ _ _ (Act.put _ (some 40) _) _
        refine qT_one 9 (.pointer (some ⟨w2.heap.size, 32, none⟩)) w6 (by kernel_rfl) rfl rfl (q_run1 6 (.pointer (some ⟨w2.heap.size, 0, none⟩)) (by simp only [q_same, q_ne, q_sz, hsz, h2, h6, h8, ne_eq, Nat.reduceEqDiff, not_false_eq_true, Nat.reduceLT]) (fun ρ hc hf e1 => by simp [go_sem, hc, hf, e1])) (fun _ => hS6) ?_
        change wpAnyT _ _ _ _ _ _ _ _ (Act.put _ (some 41) _) _
        refine qT_skip 10 (w6.setCell ⟨w2.heap.size, 32, none⟩ (.slice (some ⟨g6, 0, none⟩) (j + 1) c6)) (by kernel_rfl) rfl rfl (q_run2 41 40 (.pointer (some ⟨w2.heap.size, 32, none⟩)) (.slice (some ⟨g6, 0, none⟩) (j + 1) c6) (by simp only [q_same, q_ne, q_sz, hsz, h2, h6, h8, ne_eq, Nat.reduceEqDiff, not_false_eq_true, Nat.reduceLT]) (by simp only [q_same, q_ne, q_sz, hsz, h2, h6, h8, ne_eq, Nat.reduceEqDiff, not_false_eq_true, Nat.reduceLT]) (fun ρ hc hf e1 e2 => by simp [go_sem, hc, hf, e1, e2, hc6, hf6])) (fun h => absurd rfl h) ?_
        refine wpAnyT_done (by kernel_rfl) ?_ _
        have HM7 : Mov w2.heap.size w6 (w6.setCell ⟨w2.heap.size, 32, none⟩ (.slice (some ⟨g6, 0, none⟩) (j + 1) c6)) := (Mov.refl w2.heap.size w6).set 32 _
        have HX1 : Hid ((w6.setCell ⟨w2.heap.size, 32, none⟩ (.slice (some ⟨g6, 0, none⟩) (j + 1) c6)).cell? ⟨w2.heap.size, 32, none⟩ = some (.slice (some ⟨g6, 0, none⟩) (j + 1) c6)) := World.cell?_setCell_same _ _ _ hc6
        have HX2 : Hid ((w6.setCell ⟨w2.heap.size, 32, none⟩ (.slice (some ⟨g6, 0, none⟩) (j + 1) c6)).frozen? ⟨w2.heap.size, 32, none⟩ = false) := by show _ = _; simp only [World.frozen?_setCell]; exact hf6
        have HX3 : Hid ((w6.setCell ⟨w2.heap.size, 32, none⟩ (.slice (some ⟨g6, 0, none⟩) (j + 1) c6)).rangeAt w2.heap.size 0 (bc nm)) := fun i u hu => by
          have hi2 : i < 32 := by have := (List.getElem?_eq_some_iff.1 hu).1; rw [hbl] at this; exact this
          rw [World.cell?_setCell_other _ _ _ _ (by intro h; injection h with _ h2; omega)]
          exact (range_later HRN.out HB6 (Nat.lt_succ_self _)) i u hu
        have HX4 : Hid ((w6.setCell ⟨w2.heap.size, 32, none⟩ (.slice (some ⟨g6, 0, none⟩) (j + 1) c6)).ownsRow (w2.heap.size + 1) 9 1 (.slice (some ⟨g6, 0, none⟩) (j + 1) c6) (j + 1) (strB (outL T (q.take (j + 1))))) := by
          show World.ownsRow _ _ _ _ _ _ _
          rw [HSN.out, strB_snoc]; exact own_mov ho6 HM7 (Nat.lt_succ_self _)
        have HX5 : Hid (Below w2.heap.size W4 (w6.setCell ⟨w2.heap.size, 32, none⟩ (.slice (some ⟨g6, 0, none⟩) (j + 1) c6))) := (HBB.out.trans (HB6.mono (Nat.le_succ _))).setCell (Nat.le_refl _) _
        have hfr := HFR.out
        clear HFR hsz h2 h6 h8 hS hSA hS6 HS0 HB0 HBA HB6 HM7 hc6 hf6 ho6 hgr6 HCX kix
        generalize w6.setCell ⟨w2.heap.size, 32, none⟩ (.slice (some ⟨g6, 0, none⟩) (j + 1) c6) = W7 at HX1 HX2 HX3 HX4 HX5
        subst hfr
        simp only [Act.put, List.setIfInBounds_toArray, List.set_cons_zero, List.set_cons_succ]
        go_wp2
        go_roundg (gk - 1)
        case measure => have := HJ.out; omega
        case rel =>
          have h1 := HJ.out
          exact ⟨j + 1, .slice (some ⟨g6, 0, none⟩) (j + 1) c6, by omega, by go_num, HSTEP.out hx, HX1.out, HX2.out, HX3.out, HX4.out, HX5.out⟩
      · have hxi : ¬ ((x : Int) < (T.length : Int)) := by omega
        have hxj : (T.length : Int) ≤ (x : Int) := by omega
        have HNA : Hid (allB T q = false) := Bool.eq_false_iff.2 (HBAD.out (by omega))
        clear hjg HALL HSN HBAD HSTEP
        go_wp2_with (refine wpList_store_list rfl 89 _ _ rfl (w.heap.size + 2) 0 zR rfl rfl ?_ (by kernel_rfl) zR_one ?_; exact HTW.out)
        refine bodyPost_ret (results_midt Tryd.results44 _ _ (w.heap.size + 2) zR _ _ rfl rfl (World.rangeAt_setCells_same _ _ _ _ HTW.out) Tryd.underlying89 rfl (by kernel_rfl)) rfl (.inr ⟨HNA.out, rfl, ?_⟩)
        exact below_setCells HWW.out _ (by omega) _ _
    · obtain rfl : j = q.length := by omega
      have hok : q.all (fun i => decide (i < T.length)) = true := all_take q T.length (fun k hk => HALL.out k hk hk)
      have HOK : Hid (allB T q = true) := hok
      rw [List.take_length] at HO
      have HRJ : Hid (wr.rangeAt w2.heap.size 0 (bc nm ++ [Value.slice va vn vc])) := range_join HRN.out (by rw [hbl]; exact HCV.out)
      have HL2 : Hid ((bc nm ++ [Value.slice va vn vc]).length = 33) := by show _ = _; rw [List.length_append, hbl]; rfl
      clear hok hjg HALL hp1
      go_wp2_with (first
        | (refine wpList_load_mid rfl 89 _ rfl w2.heap.size 0 rfl (bc nm ++ [Value.slice va vn vc]) _ ?_ Tryd.underlying89 rfl ?_ ?_; exact HRJ.out; rw [HL2.out]; kernel_rfl)
        | (refine wpList_store_list rfl 89 _ _ rfl (w.heap.size + 2) 0 (bc nm ++ [Value.slice va vn vc]) rfl rfl ?_ ?_ (bc_slice_one nm va vn vc) ?_; rw [HL2.out]; exact HTW.out; rw [HL2.out]; kernel_rfl))
      have hM7 : Mov (w.heap.size + 2) wr (wr.setCells (w.heap.size + 2) 0 (bc nm ++ [Value.slice va vn vc])) := mov_cells _ _ _ _
      refine bodyPost_ret (results_midt Tryd.results44 _ _ (w.heap.size + 2) (bc nm ++ [Value.slice va vn vc]) _ _ rfl rfl (World.rangeAt_setCells_same _ _ _ _ (by rw [HL2.out]; exact HTW.out)) Tryd.underlying89 rfl (by rw [HL2.out]; kernel_rfl)) rfl (.inl ⟨HOK.out, .slice va vn vc, rfl, own_base (own_mov HO.out hM7 (by have := HZ2.out; omega)) (by have := HZ2.out; omega), below_setCells HWW.out _ (by omega) _ _⟩)
end Go.Proofs.YtfbhgbmdakdaoaaDoor
