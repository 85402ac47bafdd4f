import Derived.Test.YtkmalggeieiepabDoorPzj
import Derived.WalkKit
import Derived.WalkSpells
import Derived.WalkLawsBesides
import Derived.Deep.MidRow
import Derived.Deep.DeepCutAuto
import Derived.Deep.AppendLies
import Derived.Deep.LoopGhost
namespace Go.Proofs.YtkmalggeieiepabDoor
open Go.RowKit

set_option maxRecDepth 10000 in
set_option maxHeartbeats 1000000 in
theorem cuIndex_any (g next : Nat) (l m : List UInt8) (w : World) (h : Cu w g l m) (hl : l.length ≤ maxLen) (hx : next ≤ 16) :
    Calls Tryd.prog 70 #[.pointer (some ⟨g, 0, none⟩), .int .i64 (next : Int), .int .i64 16] w (Got g l w (.int .i64 ((rIndex next 16 (m, 0)).1 : Int)) (rIndex next 16 (m, 0)).2) := by
  have hz := cuAny_any g l m w h hl
  have HE : Hid (rIndex next 16 (m, 0) = if (rSize (m, 0)).2.2 ≠ 0 then (0, (rSize (m, 0)).2) else if 16 ≤ (rSize (m, 0)).1 ∨ 16 ≤ (rSize (m, 0)).1 + next then (0, ((rSize (m, 0)).2.1, 4)) else (next + (rSize (m, 0)).1, (rSize (m, 0)).2)) := rfl
  clear h hl
  generalize rIndex next 16 (m, 0) = I at HE
  generalize rSize (m, 0) = p at hz HE
  obtain ⟨x, m1, c1⟩ := p
  obtain ⟨X, hX⟩ : ∃ X : Int, X = (x : Int) := ⟨_, rfl⟩
  have hz' : Calls Tryd.prog 93 #[.pointer (some ⟨g, 0, none⟩)] w (Got g l w (.int .u64 X) (m1, c1)) := by rw [hX]; exact hz
  clear hz
  have X0 : 0 ≤ X := by omega
  have L0 : (0 : Int) ≤ (next : Int) := by omega
  have L1 : (next : Int) ≤ 16 := by omega
  have hw : IntKind.u64.wrap (16 - (next : Int)) = 16 - (next : Int) := by rw [IntKind.wrap_u64]; omega
  have hw2 : IntKind.i64.wrap (16 - (next : Int)) = 16 - (next : Int) := by rw [IntKind.wrap_i64]; omega
  by_cases hr : c1 = 0
  · subst hr
    have h1 := calls_ok hz' rfl
    clear hz'
    by_cases hb : 16 ≤ x + next
    · have e : I = (0, (m1, 4)) := by rw [HE.out]; simp [hb]
      rw [e]
      have hge : 16 - (next : Int) ≤ X := by omega
      clear hb hX e HE
      generalize (next : Int) = LO at *
      go_enter Tryd.func70, Tryd.ntmps70
      go_wp2_with (go_at_call 93; go_must (refine h1.mono ?_); rintro y w1 ⟨rfl, hc1, hm1⟩)
      exact ⟨rfl, Got.no rfl (by omega) hm1⟩
    · have e : I = (next + x, (m1, 0)) := by rw [HE.out]; have h2 : ¬ (16 ≤ x ∨ 16 ≤ x + next) := by omega
                                             simp [h2]
      rw [e]
      have hge : ¬ (16 - (next : Int) ≤ X) := by omega
      have hX1 : X ≤ 16 := by omega
      have hw3 : IntKind.i64.wrap X = X := by rw [IntKind.wrap_i64]; omega
      have hw4 : IntKind.i64.wrap ((next : Int) + X) = (next : Int) + X := by rw [IntKind.wrap_i64]; omega
      have hNX : ((next + x : Nat) : Int) = (next : Int) + X := by omega
      rw [hNX]
      clear hb hX e HE hNX
      generalize (next : Int) = LO at *
      go_enter Tryd.func70, Tryd.ntmps70
      go_wp2_with (go_at_call 93; go_must (refine h1.mono ?_); rintro y w1 ⟨rfl, hc1, hm1⟩)
      go_ret
      exact Got.ok rfl hm1 hc1
  · have h1 := calls_no hz' hr
    have e : I = (0, (m1, c1)) := by rw [HE.out]; simp [hr]
    rw [e]
    clear hz' hX e HE
    go_enter Tryd.func70, Tryd.ntmps70
    go_wp2_with (go_at_call 93; go_must (refine h1.mono ?_); rintro y w1 ⟨rfl, hm1⟩)
    exact ⟨rfl, Got.no rfl hr hm1⟩

/-- a request that is being read: its variable lies in block b, the next place in block n. -/
structure Rk (w0 W : World) (g b n : Nat) (l m : List UInt8) (nm : ByteArray) (v : Value) (x : Nat) (out : List Nat) : Prop where
  cu : Cu W g l m
  c0 : W.rangeAt b 0 (bc nm)
  c1 : W.cell? ⟨b, 32, none⟩ = some v
  f1 : W.frozen? ⟨b, 32, none⟩ = false
  cn : W.cell? ⟨n, 0, none⟩ = some (.int .i64 (x : Int))
  fn : W.frozen? ⟨n, 0, none⟩ = false
  own : W.ownsRow (n + 1) 3 1 v out.length (natV out)
  gb : g < b
  bn : b < n
  bel : Mv g b w0 W
theorem Rk.mov {w0 W w' : World} {g b n : Nat} {l m m' : List UInt8} {nm : ByteArray} {v : Value} {x : Nat} {out : List Nat} (H : Rk w0 W g b n l m nm v x out) (hm : Mov g W w') (hc : Cu w' g l m') : Rk w0 w' g b n l m' nm v x out := by
  have hl : b < W.heap.size := World.block_lt_of_cell? W _ H.c1
  have hl2 : n < W.heap.size := World.block_lt_of_cell? W _ H.cn
  have h1 := H.gb
  have h2 := H.bn
  have hb := hm.block b hl (by omega)
  have hn := hm.block n hl2 (by omega)
  exact ⟨hc, fun j u hu => by rw [World.cell?_of_block hb]; exact H.c0 j u hu, by rw [World.cell?_of_block hb]; exact H.c1, by rw [World.frozen?_of_block hb]; exact H.f1, by rw [World.cell?_of_block hn]; exact H.cn, by rw [World.frozen?_of_block hn]; exact H.fn, own_mov H.own hm (by omega), H.gb, H.bn, H.bel.mov hm (by omega)⟩

set_option maxRecDepth 10000 in
set_option maxHeartbeats 2000000 in
theorem rq1_any (w0 w : World) (g b n : Nat) (l m : List UInt8) (nm : ByteArray) (v : Value) (x : Nat) (out : List Nat) (H : Rk w0 w g b n l m nm v x out) (hnm : nm.size = 32) (hl : l.length ≤ maxLen) (hn : out.length ≤ 16) (hx : x ≤ 16) :
    Calls Tryd.prog 69 #[.pointer (some ⟨g, 0, none⟩), .pointer (some ⟨n, 0, none⟩), .pointer (some ⟨b, 0, none⟩)] w fun e w' =>
      if (rIndex x 16 (m, 0)).2.2 = 0 then e = .returned (.tuple #[]) ∧ ∃ v', Rk w0 w' g b n l (rIndex x 16 (m, 0)).2.1 nm v' ((rIndex x 16 (m, 0)).1 + 1) (out ++ [(rIndex x 16 (m, 0)).1]) else e = Pan (rIndex x 16 (m, 0)).2.2 ∧ Mv g b w0 w' := by
  obtain ⟨i0, hi, hz0, hz1, hz2⟩ := info_parts infoInt
  have ht := cuIndex_any g x l m w H.cu hl hx
  have hy := rIndex_lt x (m, 0)
  have HH : Hid (Rk w0 w g b n l m nm v x out) := H
  have cn := H.cn
  have h1 := H.gb
  have h2 := H.bn
  clear H
  generalize rIndex x 16 (m, 0) = p at ht hy
  obtain ⟨y, m1, c1⟩ := p
  have hy16 : y < 16 := hy
  clear hy
  by_cases hr : c1 = 0
  · subst hr
    have hc := calls_ok ht rfl
    have hmain : Calls Tryd.prog 69 #[.pointer (some ⟨g, 0, none⟩), .pointer (some ⟨n, 0, none⟩), .pointer (some ⟨b, 0, none⟩)] w fun e w' => e = .returned (.tuple #[]) ∧ ∃ v', Rk w0 w' g b n l m1 nm v' (y + 1) (out ++ [y]) := by
      clear ht
      go_enter Tryd.func69, Tryd.ntmps69
      go_upto_region 1 with (go_at_call 70; go_must (refine hc.mono ?_); rintro e w1 ⟨rfl, hcu, hm1⟩; have HK1 := (show Hid (Rk w0 w1 g b n l m1 nm v x out) from HH.out.mov hm1 hcu); clear hcu hm1)
      clear cn HH hc
      have d1 := HK1.out.c1
      have e1 := HK1.out.f1
      have hnw : n < w1.heap.size := World.block_lt_of_cell? w1 _ HK1.out.cn
      obtain ⟨va, vn, vc, rfl⟩ := own_slice HK1.out.own
      have HO := (show Hid (w1.ownsRow (n + 1) 3 1 (.slice va vn vc) out.length (natV out)) from HK1.out.own)
      go_upto_region 2 with (at_builtin; go_must (refine wpList_append_lies _ rfl _ _ 27 rfl (n + 1) 3 i0 (.int .i64 0) 1 8 Tryd.underlying27 hi hz0 hz1 hz2 rfl (by decide) (.slice va vn vc) out.length (natV out) rfl (HO.out.alloc _) ⟨w1.heap.size, 0, none⟩ 1 1 [.int .i64 (y : Int)] rfl rfl (one_new w1 _ _) (one_cell _) (by omega) (by unfold maxLen; omega) (by omega) (by simp; omega) _ rfl ?_); intro g4 c4 w4 ho hgr hat hlt4; have HO4 : Hid (w4.ownsRow (n + 1) 3 1 (.slice (some ⟨g4, 0, none⟩) (out.length + 1) c4) (out.length + 1) (natV out ++ [.int .i64 (y : Int)])) := ho; have HB4 : Hid (Below (n + 1) w1 w4) := ((Below.refl (n + 1) w1).alloc (by omega) _).grown hgr (by simp; omega) (ownBlock_ge HO.out); have d4 : w4.cell? ⟨b, 32, none⟩ = some (.slice va vn vc) := (by rw [HB4.out.cell (p := ⟨b, 32, none⟩) (by show b < n + 1; omega)]; exact d1); have e4 : w4.frozen? ⟨b, 32, none⟩ = false := (by rw [HB4.out.frozen (p := ⟨b, 32, none⟩) (by show b < n + 1; omega)]; exact e1); clear ho hgr hat hlt4)
      have dn : (w4.setCell ⟨b, 32, none⟩ (.slice (some ⟨g4, 0, none⟩) (out.length + 1) c4)).cell? ⟨n, 0, none⟩ = some (.int .i64 (x : Int)) := by
        rw [World.cell?_setCell_other _ _ _ _ (by simp), HB4.out.cell (p := ⟨n, 0, none⟩) (Nat.lt_succ_self _)]; exact HK1.out.cn
      have en : (w4.setCell ⟨b, 32, none⟩ (.slice (some ⟨g4, 0, none⟩) (out.length + 1) c4)).frozen? ⟨n, 0, none⟩ = false := by
        simp only [World.frozen?_setCell]; rw [HB4.out.frozen (p := ⟨n, 0, none⟩) (Nat.lt_succ_self _)]; exact HK1.out.fn
      obtain ⟨W5, hW5⟩ : ∃ W, W = w4.setCell ⟨b, 32, none⟩ (.slice (some ⟨g4, 0, none⟩) (out.length + 1) c4) := ⟨_, rfl⟩
      have HW5 := (show Hid (W5 = w4.setCell ⟨b, 32, none⟩ (.slice (some ⟨g4, 0, none⟩) (out.length + 1) c4)) from hW5)
      have HD4 := (show Hid (w4.cell? ⟨b, 32, none⟩ = some (.slice va vn vc)) from d4)
      have HE4 := (show Hid (w4.frozen? ⟨b, 32, none⟩ = false) from e4)
      rw [← hW5] at dn en ⊢
      clear hW5 d4 e4 d1 e1
      go_wp2
      go_end0
      have hyw : IntKind.i64.wrap ((y : Int) + 1) = ((y + 1 : Nat) : Int) := by rw [IntKind.wrap_i64]; omega
      refine ⟨rfl, .slice (some ⟨g4, 0, none⟩) (out.length + 1) c4, ?_⟩
      have HM5 : Mov b w4 W5 := by rw [HW5.out]; exact (Mov.refl b w4).set 32 _
      have HM6 : ∀ u, Mov n W5 (W5.setCell ⟨n, 0, none⟩ u) := fun u => (Mov.refl n W5).set 0 u
      have hbz : b < W5.heap.size := by have := HM5.size; have := HB4.out.size; omega
      have hk : ∀ u, (W5.setCell ⟨n, 0, none⟩ u).heap[b]? = W5.heap[b]? := fun u => (HM6 u).block b hbz (by omega)
      refine ⟨((HK1.out.cu.laterB HB4.out (by omega)).mov HM5 (by omega)).mov (HM6 _) (by omega), ?_, ?_, ?_, ?_, ?_, ?_, h1, h2, ?_⟩
      · intro j u hu
        have hj : j < 32 := by have := (List.getElem?_eq_some_iff.1 hu).1; rw [bc_length, hnm] at this; exact this
        rw [World.cell?_of_block (hk _), HW5.out, World.cell?_setCell_other _ _ _ _ (by intro h; injection h with _ h2; omega), HB4.out.cell (p := ⟨b, 0 + j, none⟩) (by show b < n + 1; omega)]
        exact HK1.out.c0 j u hu
      · rw [World.cell?_of_block (hk _), HW5.out]; exact World.cell?_setCell_same _ _ _ HD4.out
      · rw [World.frozen?_of_block (hk _), HW5.out]; simp only [World.frozen?_setCell]; exact HE4.out
      · first | exact World.cell?_setCell_same _ _ _ dn | (rw [← hyw]; exact World.cell?_setCell_same _ _ _ dn)
      · simp only [World.frozen?_setCell]; exact en
      · rw [List.length_append, show natV (out ++ [y]) = natV out ++ [.int .i64 (y : Int)] by simp [natV]]
        exact own_mov (own_mov HO4.out HM5 (by omega)) (HM6 _) (Nat.lt_succ_self _)
      · rw [HW5.out]; exact ((HK1.out.bel.later HB4.out (by omega)).set 32 _ (Nat.le_refl _)).set 0 _ (by omega)
    exact hmain.mono fun e w' he => by rw [if_pos rfl]; exact he
  · have hc := calls_no ht hr
    have hmain : Calls Tryd.prog 69 #[.pointer (some ⟨g, 0, none⟩), .pointer (some ⟨n, 0, none⟩), .pointer (some ⟨b, 0, none⟩)] w fun e w' => e = Pan c1 ∧ Mv g b w0 w' := by
      clear ht
      have hbw : b < w.heap.size := World.block_lt_of_cell? w _ HH.out.c1
      go_enter Tryd.func69, Tryd.ntmps69
      go_wp2_with (go_at_call 70; go_must (refine hc.mono ?_); rintro e w1 ⟨rfl, hm1⟩)
      exact ⟨rfl, rfl, HH.out.bel.mov hm1 (by omega)⟩
    exact hmain.mono fun e w' he => by rw [if_neg hr]; exact he

theorem mov_setCells {g b : Nat} {a w : World} (h : Mov g a w) (hb : a.heap.size ≤ b) (vs : List Value) (o : Nat) : Mov g a (w.setCells b o vs) := h.onB (below_setCells (Below.refl a.heap.size w) b hb vs o)

set_option maxRecDepth 10000 in
set_option maxHeartbeats 2000000 in
theorem nameOf_any (g : Nat) (l m : List UInt8) (w : World) (h : Cu w g l m) (hl : l.length ≤ maxLen) :
    Calls Tryd.prog 68 #[.pointer (some ⟨g, 0, none⟩)] w fun x w' => if (rTake 32 (m, 0)).2.2 = 0 then x = .returned (aggD (ofL (rTake 32 (m, 0)).1)) ∧ Cu w' g l (rTake 32 (m, 0)).2.1 ∧ Mov g w w' else x = Pan (rTake 32 (m, 0)).2.2 ∧ Mov g w w' := by
  obtain ⟨W1, hW1⟩ : ∃ W, W = w.alloc (.cells #[.int .u8 0, .int .u8 0, .int .u8 0, .int .u8 0, .int .u8 0, .int .u8 0, .int .u8 0, .int .u8 0, .int .u8 0, .int .u8 0, .int .u8 0, .int .u8 0, .int .u8 0, .int .u8 0, .int .u8 0, .int .u8 0, .int .u8 0, .int .u8 0, .int .u8 0, .int .u8 0, .int .u8 0, .int .u8 0, .int .u8 0, .int .u8 0, .int .u8 0, .int .u8 0, .int .u8 0, .int .u8 0, .int .u8 0, .int .u8 0, .int .u8 0, .int .u8 0] 59) := ⟨_, rfl⟩
  have HA : Hid (Arr .u8 W1 w.heap.size (fun _ => 0) 32) := by show Arr _ _ _ _ _; rw [hW1]; exact Arr.new _ _ 32 _ _ (by rfl)
  have HB1 : Hid (Below w.heap.size w W1) := by show Below _ _ _; rw [hW1]; exact (Below.refl _ _).alloc (Nat.le_refl _) _
  have hz1 : W1.heap.size = w.heap.size + 1 := by rw [hW1]; simp
  have ht := cuTake_any g 32 l m W1 (h.later HB1.out) hl
  have hful := rTake_full 32 (m, 0)
  have hgw := h.lt
  clear h hl
  generalize rTake 32 (m, 0) = p at ht hful
  obtain ⟨t, m1, c1⟩ := p
  by_cases hr : c1 = 0
  · subst hr
    have h1 := calls_ok ht rfl
    have hts : (ofL t).size = 32 := by rw [ofL_size]; exact hful rfl
    have HE : Hid (aggD (ofL t) = .agg (wl .u8 (byF (ofL t)) 32).toArray) := by show _ = _; unfold aggD; rw [bc_wl _ 32 hts]
    have HD : Hid (∀ W, Calls Tryd.prog 29 #[.string (ofL t)] W fun e w' => e = .returned (.tuple #[.agg (wl .u8 (byF (ofL t)) 32).toArray, .bool true]) ∧ Below W.heap.size W w') := fun W => by
      have := digestOf_ok (ofL t) W hts
      rw [HE.out] at this; exact this
    have hmain : Calls Tryd.prog 68 #[.pointer (some ⟨g, 0, none⟩)] w fun x w' => x = .returned (.agg (wl .u8 (byF (ofL t)) 32).toArray) ∧ Cu w' g l m1 ∧ Mov g w w' := by
      clear ht hful HE
      generalize byF (ofL t) = f at HD
      generalize ofL t = s at h1 HD hts
      go_enter Tryd.func68, Tryd.ntmps68
      go_upto_region 1 with fail
      rw [← hW1]
      clear hW1
      go_upto_region 2 with (first
        | (go_at_call 49; go_must (refine h1.mono ?_); rintro x w2 ⟨rfl, hc2, hm2⟩; have HC2 := (show Hid (Cu w2 g l m1) from hc2); have HM2 := (show Hid (Mov g W1 w2) from hm2); clear hc2 hm2)
        | (go_at_call 29; go_must (refine (HD.out _).mono ?_); rintro x w3 ⟨rfl, hb3⟩; have HC3 := (show Hid (Cu w3 g l m1) from HC2.out.later hb3); have HM3 := (show Hid (Mov g W1 w3) from HM2.out.onB (hb3.mono HM2.out.size)); clear hb3)
        | (refine wpList_store_arr rfl 59 _ _ rfl w3.heap.size .u8 (fun _ => 0) f 32 rfl rfl ?_ (by kernel_rfl) ?_; exact Arr.new _ _ 32 _ _ (by rfl)))
      obtain ⟨W4, hW4⟩ : ∃ W, W = (w3.alloc (.cells #[.int .u8 0, .int .u8 0, .int .u8 0, .int .u8 0, .int .u8 0, .int .u8 0, .int .u8 0, .int .u8 0, .int .u8 0, .int .u8 0, .int .u8 0, .int .u8 0, .int .u8 0, .int .u8 0, .int .u8 0, .int .u8 0, .int .u8 0, .int .u8 0, .int .u8 0, .int .u8 0, .int .u8 0, .int .u8 0, .int .u8 0, .int .u8 0, .int .u8 0, .int .u8 0, .int .u8 0, .int .u8 0, .int .u8 0, .int .u8 0, .int .u8 0, .int .u8 0] 59)).setCells w3.heap.size 0 (wl .u8 f 32) := ⟨_, rfl⟩
      have HA4 : Hid (Arr .u8 W4 w3.heap.size f 32) := by show Arr _ _ _ _ _; rw [hW4]; exact (Arr.new w3 (fun _ => 0) 32 _ _ (by rfl)).all _
      have HB4 : Hid (Below w3.heap.size w3 W4) := by show Below _ _ _; rw [hW4]; exact below_setCells ((Below.refl _ _).alloc (Nat.le_refl _) _) _ (Nat.le_refl _) _ _
      rw [← hW4]
      clear hW4
      have hsz := HM3.out.size
      have HR4 : Hid (Arr .u8 W4 w.heap.size (fun _ => 0) 32) := by
        have hb : w3.heap[w.heap.size]? = W1.heap[w.heap.size]? := HM3.out.block w.heap.size (by omega) (by omega)
        have h3 : Arr .u8 w3 w.heap.size (fun _ => 0) 32 := fun j hj => ⟨by rw [World.cell?_of_block hb]; exact (HA.out j hj).1, by rw [World.frozen?_of_block hb]; exact (HA.out j hj).2⟩
        exact h3.later HB4.out (by omega)
      go_wp2_with (first
        | (refine wpList_load_arr rfl 59 _ rfl w3.heap.size rfl .u8 f 32 _ ?_ Tryd.underlying59 rfl (by kernel_rfl) ?_; exact HA4.out)
        | (refine wpList_store_arr rfl 59 _ _ rfl w.heap.size .u8 (fun _ => 0) f 32 rfl rfl ?_ (by kernel_rfl) ?_; exact HR4.out))
      have HBs : Below w.heap.size W4 (W4.setCells w.heap.size 0 (wl .u8 f 32)) := below_setCells (Below.refl _ _) _ (Nat.le_refl _) _ _
      refine bodyPost_ret (results_arr Tryd.results68 _ _ w.heap.size .u8 f 32 _ rfl (HR4.out.all _) Tryd.underlying59 rfl (by kernel_rfl)) rfl ⟨rfl, (HC3.out.later HB4.out).laterB HBs hgw, ?_⟩
      have hB1 := HB1.out
      have hM : Mov g w w3 := ⟨HM3.out.os.trans hB1.os, HM3.out.tape.trans hB1.tape, HM3.out.output.trans hB1.output, by omega, fun k hk hg => (HM3.out.block k (by omega) hg).trans (hB1.block k hk)⟩
      exact (hM.onB (HB4.out.mono (by omega))).onB HBs
    refine hmain.mono fun x w' hx => ?_
    rw [if_pos rfl, HE.out]; exact hx
  · have h1 := calls_no ht hr
    have hmain : Calls Tryd.prog 68 #[.pointer (some ⟨g, 0, none⟩)] w fun x w' => x = Pan c1 ∧ Mov g w w' := by
      clear ht hful
      go_enter Tryd.func68, Tryd.ntmps68
      go_upto_region 1 with fail
      rw [← hW1]
      clear hW1
      go_wp2_with (go_at_call 49; go_must (refine h1.mono ?_); rintro x w2 ⟨rfl, hm2⟩)
      have hB1 := HB1.out
      exact ⟨rfl, rfl, ⟨hm2.os.trans hB1.os, hm2.tape.trans hB1.tape, hm2.output.trans hB1.output, by have := hm2.size; omega, fun k hk hg => (hm2.block k (by omega) hg).trans (hB1.block k hk)⟩⟩
    exact hmain.mono fun x w' hx => by rw [if_neg hr]; exact hx
end Go.Proofs.YtkmalggeieiepabDoor
namespace Go.Proofs.YtkmalggeieiepabDoor
open Go.RowKit

set_option maxRecDepth 10000 in
theorem sevReq (w0 w : World) (g b n : Nat) (l m : List UInt8) (nm : ByteArray) (v : Value) (H : Rk w0 w g b n l m nm v 0 []) (hnm : nm.size = 32) (hl : l.length ≤ maxLen) :
    Calls Tryd.prog 50 #[.pointer (some ⟨g, 0, none⟩), .int .u64 1, .int .u64 16, .func (.func 69) #[] #[.pointer (some ⟨n, 0, none⟩), .pointer (some ⟨b, 0, none⟩)]] w fun x w' =>
      if (rIdxs (rWithin 1 16 (m, 0)).1 0 (rWithin 1 16 (m, 0)).2).2.2 = 0 then x = .returned (.tuple #[]) ∧ ∃ v y, Rk w0 w' g b n l (rIdxs (rWithin 1 16 (m, 0)).1 0 (rWithin 1 16 (m, 0)).2).2.1 nm v y (rIdxs (rWithin 1 16 (m, 0)).1 0 (rWithin 1 16 (m, 0)).2).1
      else x = Pan (rIdxs (rWithin 1 16 (m, 0)).1 0 (rWithin 1 16 (m, 0)).2).2.2 ∧ Mv g b w0 w' := by
  have hz := cuSize_any g 1 16 l m w H.cu hl
  have hq : (rWithin 1 16 (m, 0)).1 ≤ 16 := rWithin_hi 1 16 (m, 0)
  generalize rWithin 1 16 (m, 0) = p at hz hq
  obtain ⟨q, m1, c1⟩ := p
  by_cases hr : c1 = 0
  · subst hr
    obtain ⟨R, hR⟩ : ∃ R, R = rIdxs q 0 (m1, 0) := ⟨_, rfl⟩
    have h1 := calls_ok hz rfl
    have hs := sevR_any g q 1 16 (.pointer (some ⟨n, 0, none⟩)) (.pointer (some ⟨b, 0, none⟩)) w
      (fun j W => ∃ m out v x, Rk w0 W g b n l m nm v x out ∧ x ≤ 16 ∧ out.length + j ≤ 16 ∧ (out ++ (rIdxs j x (m, 0)).1, (rIdxs j x (m, 0)).2) = R) (fun W => Mv g b w0 W) R.2.2 hq
      (h1.mono fun x w' ⟨hx, hc, hm⟩ => ⟨hx, m1, [], v, 0, H.mov hm hc, by omega, by simpa using hq, by rw [hR]; rfl⟩)
      (show Hid _ from fun j W hK => by
        obtain ⟨m2, out, v2, x, hB, hx16, hj, hE⟩ := hK
        have hb := rq1_any w0 W g b n l m2 nm v2 x out hB hnm hl (by omega) hx16
        have hlt := rIndex_lt x (m2, 0)
        have hE2 : (out ++ ((rIndex x 16 (m2, 0)).1 :: (rIdxs j ((rIndex x 16 (m2, 0)).1 + 1) (rIndex x 16 (m2, 0)).2).1), (rIdxs j ((rIndex x 16 (m2, 0)).1 + 1) (rIndex x 16 (m2, 0)).2).2) = R := by
          rw [← hE]; show _ = (out ++ (if (0 : Int) = 0 then _ else _ : List Nat × (List UInt8 × Int)).1, (if (0 : Int) = 0 then _ else _ : List Nat × (List UInt8 × Int)).2)
          rw [if_pos rfl]
        generalize rIndex x 16 (m2, 0) = r at hb hE2 hlt
        obtain ⟨y, m3, c3⟩ := r
        have hy16 : y < 16 := hlt
        by_cases h3 : c3 = 0
        · subst h3
          refine .inl (hb.mono fun x w' hx => ?_)
          rw [if_pos rfl] at hx
          obtain ⟨hx, v3, hB3⟩ := hx
          exact ⟨hx, m3, out ++ [y], v3, y + 1, hB3, by omega, by simp; omega, by rw [← hE2]; simp⟩
        · have hRc : R.2.2 = c3 := by rw [← hE2, rIdxs_bad j (y + 1) (m3, c3) h3]
          refine .inr ⟨by rw [hRc]; exact h3, hb.mono fun x w' hx => ?_⟩
          rw [if_neg h3] at hx
          rw [hRc]; exact hx)
    rw [← hR]
    refine hs.mono fun x w' hx => ?_
    rcases hx with ⟨hx, m2, out, v2, y, hB, _, _, hE⟩ | ⟨hE, hx, hb⟩
    · have e1 : R = (out, (m2, 0)) := by rw [← hE]; simp [rIdxs]
      rw [e1, if_pos rfl]
      exact ⟨hx, v2, y, hB⟩
    · rw [if_neg hE]
      exact ⟨hx, hb⟩
  · have h1 := calls_no hz hr
    rw [rIdxs_bad q 0 (m1, c1) hr]
    refine (sev_no g 1 16 _ w (fun W => Mv g b w0 W) c1 (h1.mono fun x w' ⟨hx, hm⟩ => ⟨hx, H.bel.mov hm (Nat.le_of_lt (World.block_lt_of_cell? _ _ H.c1))⟩)).mono fun x w' hx => ?_
    rw [if_neg hr]
    exact hx

/-- a name, and indexes. -/
def rRqs (m : List UInt8) : List UInt8 × (List Nat × (List UInt8 × Int)) :=
  ((rTake 32 (m, 0)).1, rIdxs (rWithin 1 16 (rTake 32 (m, 0)).2).1 0 (rWithin 1 16 (rTake 32 (m, 0)).2).2)
theorem rReq_rqs (m : List UInt8) : rReq m = ((rRqs m).1, ((rRqs m).2.1, (rDone (rRqs m).2.2).2)) := rfl
theorem range_join {w : World} {g : Nat} {a : List Value} {x : Value} (h : w.rangeAt g 0 a) (hx : w.cell? ⟨g, a.length, none⟩ = some x) : w.rangeAt g 0 (a ++ [x]) := fun j v hv => by
  rw [Nat.zero_add]
  by_cases hj : j < a.length
  · rw [List.getElem?_append_left hj] at hv
    have := h j v hv
    rw [Nat.zero_add] at this; exact this
  · have hj2 : j = a.length := by have := (List.getElem?_eq_some_iff.1 hv).1; simp at this; omega
    subst hj2
    simp at hv; subst hv; exact hx
theorem there_block {w w' : World} {b o n : Nat} (h : w.there b o n) (hb : w'.heap[b]? = w.heap[b]?) : w'.there b o n := fun j hj => by
  rw [World.cell?_of_block hb, World.frozen?_of_block hb]; exact h j hj
theorem range_block {w w' : World} {b o : Nat} {cs : List Value} (h : w.rangeAt b o cs) (hb : w'.heap[b]? = w.heap[b]?) : w'.rangeAt b o cs := fun j v hv => by
  rw [World.cell?_of_block hb]; exact h j v hv
theorem there_new (w : World) (T : Nat) (cs : List Value) : (w.alloc (.cells cs.toArray T)).there w.heap.size 0 cs.length := fun j hj => by
  have h := heap_alloc_new w (.cells cs.toArray T)
  refine ⟨?_, ?_⟩
  · have := World.rangeAt_of_block h 0 cs.length j cs[j] (by simp [hj])
    rw [this]; rfl
  · unfold World.frozen?
    rw [h]
    simp
theorem setCells_block (w : World) (b k : Nat) (hk : k ≠ b) : ∀ (vs : List Value) (o : Nat), (w.setCells b o vs).heap[k]? = w.heap[k]? := by
  intro vs
  induction vs generalizing w with
  | nil => intro o; rfl
  | cons v vs ih => intro o; rw [World.setCells, ih, Below.heap_setCell w ⟨b, o, none⟩ v k hk]
theorem mov_cells (w : World) (b : Nat) (vs : List Value) (o : Nat) : Mov b w (w.setCells b o vs) := by
  have h := below_setCells (Below.refl 0 w) b (Nat.zero_le _) vs o
  exact ⟨h.os, h.tape, h.output, h.size, fun k _ hk => setCells_block w b k hk vs o⟩

theorem wpList_store_list {P : Program} {ops : Array Oper} {rest : List Oper} {op : Oper} {a : Act} {w : World} {Q : Exit → Act → World → Prop} (hgd : op.guard = none) (ty : TypeId) (x y : Operand) (ho : op.op = .store ty x y)
    (g o : Nat) (cs : List Value) (hx : a.eval x = .pointer (some ⟨g, o, none⟩)) (hy : a.eval y = .agg cs.toArray) (ht : w.there g o cs.length) (hi : (P.info? ty).map (·.size) = some cs.length) (h1 : ∀ v ∈ cs, v.oneCell' = true)
    (h : wpList P ops Q rest (a.put op.dst undef) (w.setCells g o cs)) : wpList P ops Q (op :: rest) a w :=
  wpList_store_mid hgd ty x y ho g o cs.toArray hx hy (by rw [List.size_toArray]; exact ht) (by rw [List.size_toArray]; exact hi) (all_oneCell_toArray h1) (by simpa using h)
theorem there_sub {w : World} {b o n k m : Nat} (h : w.there b o n) (hk : k + m ≤ n) : w.there b (o + k) m := fun j hj => by
  have := h (k + j) (by omega)
  rw [← Nat.add_assoc] at this; exact this
theorem bc_slice_one (d : ByteArray) (a : Option Addr) (n c : Nat) : ∀ u ∈ bc d ++ [Value.slice a n c], u.oneCell' = true := by
  intro u hu
  rcases List.mem_append.1 hu with h | h
  · exact bc_one d u h
  · simp at h; subst h; rfl

set_option maxRecDepth 10000 in
set_option maxHeartbeats 4000000 in
theorem cuRequest_any (g : Nat) (l m : List UInt8) (w : World) (h : Cu w g l m) (hl : l.length ≤ maxLen) :
    Calls Tryd.prog 38 #[.pointer (some ⟨g, 0, none⟩)] w fun x w' =>
      if (rRqs m).2.2.2 = 0 then ∃ v, x = .returned (.agg (bc (ofL (rRqs m).1) ++ [v]).toArray) ∧ Cu w' g l (rRqs m).2.2.1 ∧ w'.ownsRow w.heap.size 3 1 v (rRqs m).2.1.length (natV (rRqs m).2.1) ∧ Below g w w'
      else x = Pan (rRqs m).2.2.2 ∧ Below g w w' := by
  obtain ⟨W1, hW1⟩ : ∃ W, W = (w.alloc (.cells #[.int .u8 0, .int .u8 0, .int .u8 0, .int .u8 0, .int .u8 0, .int .u8 0, .int .u8 0, .int .u8 0, .int .u8 0, .int .u8 0, .int .u8 0, .int .u8 0, .int .u8 0, .int .u8 0, .int .u8 0, .int .u8 0, .int .u8 0, .int .u8 0, .int .u8 0, .int .u8 0, .int .u8 0, .int .u8 0, .int .u8 0, .int .u8 0, .int .u8 0, .int .u8 0, .int .u8 0, .int .u8 0, .int .u8 0, .int .u8 0, .int .u8 0, .int .u8 0, .slice none 0 0] 88)).alloc (.cells #[.int .u8 0, .int .u8 0, .int .u8 0, .int .u8 0, .int .u8 0, .int .u8 0, .int .u8 0, .int .u8 0, .int .u8 0, .int .u8 0, .int .u8 0, .int .u8 0, .int .u8 0, .int .u8 0, .int .u8 0, .int .u8 0, .int .u8 0, .int .u8 0, .int .u8 0, .int .u8 0, .int .u8 0, .int .u8 0, .int .u8 0, .int .u8 0, .int .u8 0, .int .u8 0, .int .u8 0, .int .u8 0, .int .u8 0, .int .u8 0, .int .u8 0, .int .u8 0, .slice none 0 0] 88) := ⟨_, rfl⟩
  have hgw := h.lt
  have HB1 : Hid (Below w.heap.size w W1) := by show Below _ _ _; rw [hW1]; exact ((Below.refl _ _).alloc (Nat.le_refl _) _).alloc (by simp) _
  have hz1 : W1.heap.size = w.heap.size + 2 := by rw [hW1]; simp
  have t1 : W1.there (w.heap.size + 1) 0 33 := by
    have := there_new (w.alloc (.cells #[.int .u8 0, .int .u8 0, .int .u8 0, .int .u8 0, .int .u8 0, .int .u8 0, .int .u8 0, .int .u8 0, .int .u8 0, .int .u8 0, .int .u8 0, .int .u8 0, .int .u8 0, .int .u8 0, .int .u8 0, .int .u8 0, .int .u8 0, .int .u8 0, .int .u8 0, .int .u8 0, .int .u8 0, .int .u8 0, .int .u8 0, .int .u8 0, .int .u8 0, .int .u8 0, .int .u8 0, .int .u8 0, .int .u8 0, .int .u8 0, .int .u8 0, .int .u8 0, .slice none 0 0] 88)) 88 (#[.int .u8 0, .int .u8 0, .int .u8 0, .int .u8 0, .int .u8 0, .int .u8 0, .int .u8 0, .int .u8 0, .int .u8 0, .int .u8 0, .int .u8 0, .int .u8 0, .int .u8 0, .int .u8 0, .int .u8 0, .int .u8 0, .int .u8 0, .int .u8 0, .int .u8 0, .int .u8 0, .int .u8 0, .int .u8 0, .int .u8 0, .int .u8 0, .int .u8 0, .int .u8 0, .int .u8 0, .int .u8 0, .int .u8 0, .int .u8 0, .int .u8 0, .int .u8 0, .slice none 0 0] : Array Value).toList
    rw [hW1]; simpa using this
  have t0 : W1.there w.heap.size 0 33 := by
    have := there_new w 88 (#[.int .u8 0, .int .u8 0, .int .u8 0, .int .u8 0, .int .u8 0, .int .u8 0, .int .u8 0, .int .u8 0, .int .u8 0, .int .u8 0, .int .u8 0, .int .u8 0, .int .u8 0, .int .u8 0, .int .u8 0, .int .u8 0, .int .u8 0, .int .u8 0, .int .u8 0, .int .u8 0, .int .u8 0, .int .u8 0, .int .u8 0, .int .u8 0, .int .u8 0, .int .u8 0, .int .u8 0, .int .u8 0, .int .u8 0, .int .u8 0, .int .u8 0, .int .u8 0, .slice none 0 0] : Array Value).toList
    rw [hW1]; exact World.there_alloc (by simpa using this) _
  have c1 : W1.cell? ⟨w.heap.size + 1, 32, none⟩ = some (.slice none 0 0) := by rw [hW1]; simp [go_sem]
  have hh := nameOf_any g l m W1 (h.later HB1.out) hl
  have hful := rTake_full 32 (m, 0)
  have HMV : Hid (∀ w2, Mov g W1 w2 → Below g w w2) := fun w2 hm => (HB1.out.mono (Nat.le_of_lt hgw)).trans (hm.below (Nat.le_refl _) (by omega))
  have HE : Hid (rRqs m = ((rTake 32 (m, 0)).1, rIdxs (rWithin 1 16 (rTake 32 (m, 0)).2).1 0 (rWithin 1 16 (rTake 32 (m, 0)).2).2)) := rfl
  generalize rRqs m = M at HE
  clear h
  generalize rTake 32 (m, 0) = p at hh HE hful
  obtain ⟨t, m1, d1⟩ := p
  by_cases hr : d1 = 0
  · subst hr
    have h1 := hh.mono (R' := fun x w' => x = .returned (aggD (ofL t)) ∧ Cu w' g l m1 ∧ Mov g W1 w') (fun x w' hx => by rw [if_pos rfl] at hx; exact hx)
    have hts : (ofL t).size = 32 := by rw [ofL_size]; exact hful rfl
    have HE2 : Hid (M = (t, rIdxs (rWithin 1 16 (m1, 0)).1 0 (rWithin 1 16 (m1, 0)).2)) := HE.out
    clear hh hful HE
    have hM1 : M.1 = t := by rw [HE2.out]
    rw [hM1]
    generalize ofL t = nm at h1 hts
    obtain ⟨R, hR⟩ : ∃ R, R = rIdxs (rWithin 1 16 (m1, 0)).1 0 (rWithin 1 16 (m1, 0)).2 := ⟨_, rfl⟩
    have hM2 : M.2 = R := by rw [HE2.out, hR]
    rw [hM2]
    have HSV : Hid (∀ (W : World) (n : Nat), Rk W W g (w.heap.size + 1) n l m1 nm (.slice none 0 0) 0 [] → Calls Tryd.prog 50 #[.pointer (some ⟨g, 0, none⟩), .int .u64 1, .int .u64 16, .func (.func 69) #[] #[.pointer (some ⟨n, 0, none⟩), .pointer (some ⟨w.heap.size + 1, 0, none⟩)]] W fun x w' => if R.2.2 = 0 then x = .returned (.tuple #[]) ∧ ∃ v y, Rk W w' g (w.heap.size + 1) n l R.2.1 nm v y R.1 else x = Pan R.2.2 ∧ Mv g (w.heap.size + 1) W w') := fun W n hK => by rw [hR]; exact sevReq W W g (w.heap.size + 1) n l m1 nm _ hK hts hl
    clear HE2 hM1 hM2 hR
    have hmf : ∀ (fn : Fn) (first cap : Array Value) (w : World), (Instr.makeFunc fn first cap).run Tryd.prog w = .ok (.func fn first cap) w := fun _ _ _ _ => rfl
    have HT1 : Hid (W1.there (w.heap.size + 1) 0 33) := t1
    have HT0 : Hid (W1.there w.heap.size 0 33) := t0
    have HC1 : Hid (W1.cell? ⟨w.heap.size + 1, 32, none⟩ = some (.slice none 0 0)) := c1
    clear t1 t0 c1
    have hbl := bc_length nm
    obtain ⟨T, m2, d2⟩ := R
    by_cases hr2 : d2 = 0
    · subst hr2
      have HS2 : Hid (∀ (W : World) (n : Nat), Rk W W g (w.heap.size + 1) n l m1 nm (.slice none 0 0) 0 [] → Calls Tryd.prog 50 #[.pointer (some ⟨g, 0, none⟩), .int .u64 1, .int .u64 16, .func (.func 69) #[] #[.pointer (some ⟨n, 0, none⟩), .pointer (some ⟨w.heap.size + 1, 0, none⟩)]] W fun x w' => x = .returned (.tuple #[]) ∧ ∃ v y, Rk W w' g (w.heap.size + 1) n l m2 nm v y T) := fun W n hK => (HSV.out W n hK).mono (fun x w' hx => by rw [if_pos rfl] at hx; exact hx)
      clear HSV
      have hmain : Calls Tryd.prog 38 #[.pointer (some ⟨g, 0, none⟩)] w fun x w' => ∃ v, x = .returned (.agg (bc nm ++ [v]).toArray) ∧ Cu w' g l m2 ∧ w'.ownsRow w.heap.size 3 1 v T.length (natV T) ∧ Below g w w' := by
        go_enter Tryd.func38, Tryd.ntmps38
        go_upto_region 2 with fail
        rw [← hW1]
        clear hW1
        go_upto_region 3 with (first
          | (go_at_call 68; go_must (refine h1.mono ?_); rintro x w2 ⟨rfl, hc2, hm2⟩; have HC2 := (show Hid (Cu w2 g l m1) from hc2); have HM2 := (show Hid (Mov g W1 w2) from hm2); have hbk : w2.heap[w.heap.size + 1]? = W1.heap[w.heap.size + 1]? := hm2.block _ (by omega) (by omega); have HT2 := (show Hid (w2.there (w.heap.size + 1) 0 33) from there_block HT1.out hbk); have HK2 := (show Hid (w2.heap[w.heap.size + 1]? = W1.heap[w.heap.size + 1]?) from hbk); clear hc2 hm2 hbk)
          | (refine wpList_store_list rfl 59 _ _ rfl (w.heap.size + 1) 0 (bc nm) rfl rfl ?_ ?_ (bc_one nm) ?_; exact there_sub (k := 0) HT2.out (by rw [bc_length, hts]; omega); rw [bc_length, hts]; kernel_rfl))
        obtain ⟨W3, hW3⟩ : ∃ W, W = w2.setCells (w.heap.size + 1) 0 (bc nm) := ⟨_, rfl⟩
        have hM3 : Mov (w.heap.size + 1) w2 W3 := by rw [hW3]; exact mov_cells _ _ _ _
        have hs2 := HM2.out.size
        have hs3 := hM3.size
        have HCU3 : Hid (Cu W3 g l m1) := HC2.out.mov hM3 (by omega)
        have HRG3 : Hid (W3.rangeAt (w.heap.size + 1) 0 (bc nm)) := by show World.rangeAt _ _ _ _; rw [hW3]; exact World.rangeAt_setCells_same _ _ _ _ (there_sub (k := 0) HT2.out (by rw [bc_length, hts]; omega))
        have HT3 : Hid (W3.there (w.heap.size + 1) 0 33) := by show World.there _ _ _ _; rw [hW3]; exact World.there_setCells HT2.out _ _ _
        have HS3 : Hid (W3.cell? ⟨w.heap.size + 1, 32, none⟩ = some (.slice none 0 0)) := by
          show _ = _
          rw [hW3, World.cell?_setCells_out _ _ _ _ _ (fun _ _ => .inr (by rw [bc_length, hts]; show 0 + 32 ≤ 32; omega)), World.cell?_of_block HK2.out]; exact HC1.out
        have HR3 : Hid (W3.heap[w.heap.size]? = W1.heap[w.heap.size]?) := (hM3.block _ (by omega) (by omega)).trans (HM2.out.block _ (by omega) (by omega))
        have HB3 : Hid (Below g w W3) := (HMV.out w2 HM2.out).trans (hM3.below (by omega) (by omega))
        rw [← hW3]
        clear hW3 hM3 HC2 HM2 HT2 HK2
        go_upto_region 4 with fail
        obtain ⟨W5, hW5⟩ : ∃ W, W = W3.alloc (.cells #[.int .i64 0] 3) := ⟨_, rfl⟩
        have hb5 : Below W3.heap.size W3 W5 := by rw [hW5]; exact (Below.refl _ _).alloc (Nat.le_refl _) _
        have hbw : w.heap.size + 1 < W3.heap.size := by omega
        have HRK : Hid (Rk W5 W5 g (w.heap.size + 1) W3.heap.size l m1 nm (.slice none 0 0) 0 []) := by
          refine ⟨HCU3.out.later hb5, range_later HRG3.out hb5 hbw, ?_, ?_, ?_, ?_, World.ownsRow_nil _ _ _ _, by omega, hbw, Mv.refl _ _ _⟩
          · rw [hb5.cell (p := ⟨w.heap.size + 1, 32, none⟩) hbw]; exact HS3.out
          · rw [hb5.frozen (p := ⟨w.heap.size + 1, 32, none⟩) hbw]; have := (HT3.out 32 (by omega)).2; rw [Nat.zero_add] at this; exact this
          · rw [hW5]; simp [go_sem]
          · rw [hW5]; simp [go_sem]
        have HR5 : Hid (W5.heap[w.heap.size]? = W1.heap[w.heap.size]?) := (hb5.block _ (by omega)).trans HR3.out
        have HB5 : Hid (Below g w W5) := HB3.out.trans (hb5.mono (by omega))
        have hz5 := hb5.size
        rw [← hW5]
        clear hW5 hb5 HCU3 HRG3 HT3 HS3 HR3 HB3
        have h2 := HS2.out W5 W3.heap.size HRK.out
        go_upto_region 5 with (go_at_call 50; go_must (refine h2.mono ?_); rintro x w6 ⟨rfl, v, y, hK6⟩; have HK6 := (show Hid (Rk W5 w6 g (w.heap.size + 1) W3.heap.size l m2 nm v y T) from hK6); clear hK6)
        clear h2 HS2
        obtain ⟨va, vn, vc, rfl⟩ := own_slice HK6.out.own
        have HRJ : Hid (w6.rangeAt (w.heap.size + 1) 0 (bc nm ++ [Value.slice va vn vc])) := range_join HK6.out.c0 (by rw [bc_length, hts]; exact HK6.out.c1)
        have HT6 : Hid (w6.there w.heap.size 0 33) := there_block HT0.out ((HK6.out.bel.block _ (by omega) (by omega)).trans HR5.out)
        have HL33 : Hid ((bc nm ++ [Value.slice va vn vc]).length = 33) := by show _ = _; rw [List.length_append, bc_length, hts]; rfl
        go_wp2_with (first
          | (refine wpList_load_mid rfl 88 _ rfl (w.heap.size + 1) 0 rfl (bc nm ++ [Value.slice va vn vc]) _ ?_ Tryd.underlying88 rfl ?_ ?_; exact HRJ.out; rw [HL33.out]; kernel_rfl)
          | (refine wpList_store_list rfl 88 _ _ rfl w.heap.size 0 (bc nm ++ [Value.slice va vn vc]) rfl rfl ?_ ?_ (bc_slice_one nm va vn vc) ?_; rw [HL33.out]; exact HT6.out; rw [HL33.out]; kernel_rfl))
        have hM7 : Mov w.heap.size w6 (w6.setCells w.heap.size 0 (bc nm ++ [Value.slice va vn vc])) := mov_cells _ _ _ _
        have h6 := HK6.out.bel.size
        refine bodyPost_ret (results_mid Tryd.results38 _ _ w.heap.size (bc nm ++ [Value.slice va vn vc]) _ rfl (World.rangeAt_setCells_same _ _ _ _ (by rw [HL33.out]; exact HT6.out)) Tryd.underlying88 rfl (by rw [HL33.out]; kernel_rfl)) rfl ⟨.slice va vn vc, rfl, HK6.out.cu.mov hM7 (by omega), own_base (own_mov HK6.out.own hM7 (by omega)) (by omega), ?_⟩
        exact (HB5.out.trans (HK6.out.bel.below (Nat.le_refl _) (by omega))).trans (hM7.below (by omega) (by omega))
      exact hmain.mono fun x w' hx => by rw [if_pos rfl]; exact hx
    · have HS2 : Hid (∀ (W : World) (n : Nat), Rk W W g (w.heap.size + 1) n l m1 nm (.slice none 0 0) 0 [] → Calls Tryd.prog 50 #[.pointer (some ⟨g, 0, none⟩), .int .u64 1, .int .u64 16, .func (.func 69) #[] #[.pointer (some ⟨n, 0, none⟩), .pointer (some ⟨w.heap.size + 1, 0, none⟩)]] W fun x w' => x = .panicked [{ v := .iface 32 (.int .i64 d2), recovered := false }] ∧ Mv g (w.heap.size + 1) W w') := fun W n hK => (HSV.out W n hK).mono (fun x w' hx => by rw [if_neg hr2] at hx; exact hx)
      clear HSV
      have hmain : Calls Tryd.prog 38 #[.pointer (some ⟨g, 0, none⟩)] w fun x w' => x = Pan d2 ∧ Below g w w' := by
        go_enter Tryd.func38, Tryd.ntmps38
        go_upto_region 2 with fail
        rw [← hW1]
        clear hW1
        go_upto_region 3 with (first
          | (go_at_call 68; go_must (refine h1.mono ?_); rintro x w2 ⟨rfl, hc2, hm2⟩; have HC2 := (show Hid (Cu w2 g l m1) from hc2); have HM2 := (show Hid (Mov g W1 w2) from hm2); have hbk : w2.heap[w.heap.size + 1]? = W1.heap[w.heap.size + 1]? := hm2.block _ (by omega) (by omega); have HT2 := (show Hid (w2.there (w.heap.size + 1) 0 33) from there_block HT1.out hbk); have HK2 := (show Hid (w2.heap[w.heap.size + 1]? = W1.heap[w.heap.size + 1]?) from hbk); clear hc2 hm2 hbk)
          | (refine wpList_store_list rfl 59 _ _ rfl (w.heap.size + 1) 0 (bc nm) rfl rfl ?_ ?_ (bc_one nm) ?_; exact there_sub (k := 0) HT2.out (by rw [bc_length, hts]; omega); rw [bc_length, hts]; kernel_rfl))
        obtain ⟨W3, hW3⟩ : ∃ W, W = w2.setCells (w.heap.size + 1) 0 (bc nm) := ⟨_, rfl⟩
        have hM3 : Mov (w.heap.size + 1) w2 W3 := by rw [hW3]; exact mov_cells _ _ _ _
        have hs2 := HM2.out.size
        have hs3 := hM3.size
        have HCU3 : Hid (Cu W3 g l m1) := HC2.out.mov hM3 (by omega)
        have HRG3 : Hid (W3.rangeAt (w.heap.size + 1) 0 (bc nm)) := by show World.rangeAt _ _ _ _; rw [hW3]; exact World.rangeAt_setCells_same _ _ _ _ (there_sub (k := 0) HT2.out (by rw [bc_length, hts]; omega))
        have HT3 : Hid (W3.there (w.heap.size + 1) 0 33) := by show World.there _ _ _ _; rw [hW3]; exact World.there_setCells HT2.out _ _ _
        have HS3 : Hid (W3.cell? ⟨w.heap.size + 1, 32, none⟩ = some (.slice none 0 0)) := by
          show _ = _
          rw [hW3, World.cell?_setCells_out _ _ _ _ _ (fun _ _ => .inr (by rw [bc_length, hts]; show 0 + 32 ≤ 32; omega)), World.cell?_of_block HK2.out]; exact HC1.out
        have HR3 : Hid (W3.heap[w.heap.size]? = W1.heap[w.heap.size]?) := (hM3.block _ (by omega) (by omega)).trans (HM2.out.block _ (by omega) (by omega))
        have HB3 : Hid (Below g w W3) := (HMV.out w2 HM2.out).trans (hM3.below (by omega) (by omega))
        rw [← hW3]
        clear hW3 hM3 HC2 HM2 HT2 HK2
        go_upto_region 4 with fail
        obtain ⟨W5, hW5⟩ : ∃ W, W = W3.alloc (.cells #[.int .i64 0] 3) := ⟨_, rfl⟩
        have hb5 : Below W3.heap.size W3 W5 := by rw [hW5]; exact (Below.refl _ _).alloc (Nat.le_refl _) _
        have hbw : w.heap.size + 1 < W3.heap.size := by omega
        have HRK : Hid (Rk W5 W5 g (w.heap.size + 1) W3.heap.size l m1 nm (.slice none 0 0) 0 []) := by
          refine ⟨HCU3.out.later hb5, range_later HRG3.out hb5 hbw, ?_, ?_, ?_, ?_, World.ownsRow_nil _ _ _ _, by omega, hbw, Mv.refl _ _ _⟩
          · rw [hb5.cell (p := ⟨w.heap.size + 1, 32, none⟩) hbw]; exact HS3.out
          · rw [hb5.frozen (p := ⟨w.heap.size + 1, 32, none⟩) hbw]; have := (HT3.out 32 (by omega)).2; rw [Nat.zero_add] at this; exact this
          · rw [hW5]; simp [go_sem]
          · rw [hW5]; simp [go_sem]
        have HR5 : Hid (W5.heap[w.heap.size]? = W1.heap[w.heap.size]?) := (hb5.block _ (by omega)).trans HR3.out
        have HB5 : Hid (Below g w W5) := HB3.out.trans (hb5.mono (by omega))
        have hz5 := hb5.size
        rw [← hW5]
        clear hW5 hb5 HCU3 HRG3 HT3 HS3 HR3 HB3
        have h2 := HS2.out W5 W3.heap.size HRK.out
        go_wp2_with (go_at_call 50; go_must (refine h2.mono ?_); rintro x w6 ⟨rfl, hv6⟩)
        exact ⟨rfl, rfl, HB5.out.trans (hv6.below (Nat.le_refl _) (by omega))⟩
      exact hmain.mono fun x w' hx => by rw [if_neg hr2]; exact hx
  · have h1 := hh.mono (R' := fun x w' => x = .panicked [{ v := .iface 32 (.int .i64 d1), recovered := false }] ∧ Mov g W1 w') (fun x w' hx => by rw [if_neg hr] at hx; exact hx)
    have hM : M.2.2.2 = d1 := by rw [HE.out]; show (rIdxs (rWithin 1 16 (m1, d1)).1 0 (rWithin 1 16 (m1, d1)).2).2.2 = d1; rw [rIdxs_bad _ _ _ (by rw [within_bad 1 16 m1 d1 hr]; exact hr), within_bad 1 16 m1 d1 hr]
    rw [hM]
    have hmain : Calls Tryd.prog 38 #[.pointer (some ⟨g, 0, none⟩)] w fun x w' => x = Pan d1 ∧ Below g w w' := by
      clear hh HE hM t1 t0 c1 hful
      go_enter Tryd.func38, Tryd.ntmps38
      go_upto_region 2 with fail
      rw [← hW1]
      clear hW1
      go_wp2_with (go_at_call 68; go_must (refine h1.mono ?_); rintro x w2 ⟨rfl, hm2⟩)
      exact ⟨rfl, rfl, HMV.out _ hm2⟩
    exact hmain.mono fun x w' hx => by rw [if_neg hr]; exact hx
end Go.Proofs.YtkmalggeieiepabDoor
set_option linter.unusedSimpArgs false
namespace Go.Proofs.YtkmalggeieiepabDoor
open Go.RowKit

/-- a row stays while another of another kind grows. -/
theorem own_apart {w w' : World} {b1 e1 s1 n1 b2 e2 s2 n2 : Nat} {v1 v2 : Value} {x1 x2 : List Value} (h1 : w.ownsRow b1 e1 s1 v1 n1 x1) (h2 : w.ownsRow b2 e2 s2 v2 n2 x2) (hne : e1 ≠ e2) (hg : w.grownBy w' v2.ownBlock) : w'.ownsRow b1 e1 s1 v1 n1 x1 := by
  refine ⟨h1.1, ?_⟩
  rcases h1.2 with hn | ⟨g, cap, cur, hv, hbg, hgg, rest⟩
  · exact .inl hn
  · have hl : g < w.heap.size := (own_lt h1 g (by rw [hv]; rfl)).2.1
    refine .inr ⟨g, cap, cur, hv, hbg, ?_, rest⟩
    rw [hg.block g hl (fun e => ?_)]
    · exact hgg
    · obtain ⟨_, _, C, hC⟩ := own_lt h2 g e.symm
      rw [hgg] at hC
      injection hC with hC
      injection hC with _ h _
      exact hne h
/-- numbers of eight bytes; places and transactions, in a row. -/
def idV (l : List Nat) : List Value := l.map fun x : Nat => Value.int .u64 (x : Int)
def plV (l : List (Nat × List UInt8)) : List Value := l.flatMap fun p => [Value.int .i64 (p.1 : Int), .string (ofL p.2)]
theorem idV_snoc (l : List Nat) (x : Nat) : idV (l ++ [x]) = idV l ++ [.int .u64 (x : Int)] := by simp [idV]
theorem plV_snoc (l : List (Nat × List UInt8)) (p : Nat × List UInt8) : plV (l ++ [p]) = plV l ++ [.int .i64 (p.1 : Int), .string (ofL p.2)] := by simp [plV]
theorem infoU64 : (Tryd.prog.info? 24).map (fun i => (i.zero, i.size, i.bytes)) = some (some (.int .u64 0), 1, 8) := by kernel_rfl
theorem infoPl : (Tryd.prog.info? 127).map (fun i => (i.zero, i.size, i.bytes)) = some (some (.agg #[.int .i64 0, .string ⟨#[]⟩]), 2, 24) := by kernel_rfl
theorem one_u64 (x : Int) : ∀ u ∈ [Value.int .u64 x], u.oneCell' = true := by
  intro u hu; simp at hu; subst hu; rfl
theorem two_pl (x : Int) (s : ByteArray) : ∀ u ∈ [Value.int .i64 x, .string s], u.oneCell' = true := by
  intro u hu; simp at hu; rcases hu with rfl | rfl <;> rfl
theorem two_new (w : World) (x y : Value) (T : Nat) : ∀ j u, [x, y][j]? = some u → (w.alloc (.cells #[x, y] T)).cell? ((⟨w.heap.size, 0, none⟩ : Addr).add j) = some u := by
  intro j u hj
  match j, hj with
  | 0, hj => simp at hj; subst hj; simp [Addr.add]
  | 1, hj => simp at hj; subst hj; simp [Addr.add]
theorem double_dd (Kc : Nat → Int) (s : ByteArray) (w : World) (hkt : KT Kc w) (hs : s.size ≤ 1099511627776) :
    Calls Tryd.prog 27 #[.slice (some ⟨w.heap.size, 0, none⟩) 1 1] (w.alloc (.cells #[.string s] 9)) fun e w' => e = .returned (aggD (dd Kc s)) ∧ Below w.heap.size w w' := by
  refine (double_one Kc s w hkt hs).mono fun e w' ⟨h1, h2⟩ => ⟨?_, h2⟩
  rw [h1]; unfold aggD dd; rw [bc_strOf (dbl Kc s.data.toList) 32 (shaF_lt Kc _)]
/-- the short id of a transaction. -/
def idOf (Kc : Nat → Int) (D : ByteArray) (x : List UInt8) : Nat := sipN (key1 D) (key2 D) (dd Kc (ofL x)) % 281474976710656
theorem Mv.mov' {g B : Nat} {a b c : World} (h : Mv g B a b) (k : Mov g b c) (hs : B ≤ b.heap.size := by omega) : Mv g B a c := h.mov k hs
/-- a short block in the making: it lies in block K; the key in block KB. -/
structure Sk (w0 W : World) (K KB : Nat) (h : ByteArray) (n : Int) (k1 k2 : Nat) (v3 v4 : Value) (ids : List Nat) (ps : List (Nat × List UInt8)) : Prop where
  c0 : W.cell? ⟨K, 0, none⟩ = some (.string h)
  c1 : W.cell? ⟨K, 1, none⟩ = some (.int .u64 n)
  c2 : W.cell? ⟨K, 2, none⟩ = some v3
  c3 : W.cell? ⟨K, 3, none⟩ = some v4
  f2 : W.frozen? ⟨K, 2, none⟩ = false
  f3 : W.frozen? ⟨K, 3, none⟩ = false
  ky : W.rangeAt KB 0 [.int .u64 (k1 : Int), .int .u64 (k2 : Int)]
  o3 : W.ownsRow (KB + 1) 24 1 v3 ids.length (idV ids)
  o4 : W.ownsRow (KB + 1) 127 2 v4 ps.length (plV ps)
  kk : K < KB
  bel : Mv K (KB + 1) w0 W

end Go.Proofs.YtkmalggeieiepabDoor
set_option linter.unusedSimpArgs false
namespace Go.Proofs.YtkmalggeieiepabDoor
open Go.RowKit

theorem Sk.lt {w0 W : World} {K KB : Nat} {h : ByteArray} {n : Int} {k1 k2 : Nat} {v3 v4 : Value} {ids : List Nat} {ps : List (Nat × List UInt8)} (H : Sk w0 W K KB h n k1 k2 v3 v4 ids ps) : KB < W.heap.size := by
  have := H.ky 0 _ rfl
  exact World.block_lt_of_cell? W _ this
/-- what a new row of transactions does to it. -/
theorem Sk.place {w0 W w6 : World} {K KB : Nat} {h : ByteArray} {n : Int} {k1 k2 : Nat} {v3 v4 : Value} {ids : List Nat} {ps : List (Nat × List UInt8)} (H : Sk w0 W K KB h n k1 k2 v3 v4 ids ps) (p : Nat × List UInt8) (u : Value)
    (hb : Below (KB + 1) W w6) (ho : w6.ownsRow (KB + 1) 127 2 u (ps.length + 1) (plV ps ++ [.int .i64 (p.1 : Int), .string (ofL p.2)])) (h3 : w6.ownsRow (KB + 1) 24 1 v3 ids.length (idV ids)) :
    Sk w0 (w6.setCell ⟨K, 3, none⟩ u) K KB h n k1 k2 v3 u ids (ps ++ [p]) := by
  have hkk := H.kk
  have hM : Mov K w6 (w6.setCell ⟨K, 3, none⟩ u) := (Mov.refl K w6).set 3 u
  have hc : ∀ i v, W.cell? ⟨K, i, none⟩ = some v → w6.cell? ⟨K, i, none⟩ = some v := fun i v hv => by rw [hb.cell (p := ⟨K, i, none⟩) (by show K < KB + 1; omega)]; exact hv
  have hf : ∀ i, W.frozen? ⟨K, i, none⟩ = false → w6.frozen? ⟨K, i, none⟩ = false := fun i hv => by rw [hb.frozen (p := ⟨K, i, none⟩) (by show K < KB + 1; omega)]; exact hv
  have hl := H.lt
  have h6 := hb.size
  refine ⟨?_, ?_, ?_, World.cell?_setCell_same _ _ _ (hc 3 _ H.c3), ?_, ?_, range_block (range_later H.ky hb (by omega)) (hM.block KB (by omega) (by omega)), own_mov h3 hM (by omega), ?_, H.kk, (H.bel.later hb (Nat.le_refl _)).mov' hM⟩
  · rw [World.cell?_setCell_other _ _ _ _ (by simp)]; exact hc 0 _ H.c0
  · rw [World.cell?_setCell_other _ _ _ _ (by simp)]; exact hc 1 _ H.c1
  · rw [World.cell?_setCell_other _ _ _ _ (by simp)]; exact hc 2 _ H.c2
  · simp only [World.frozen?_setCell]; exact hf 2 H.f2
  · simp only [World.frozen?_setCell]; exact hf 3 H.f3
  · rw [plV_snoc, List.length_append]; exact own_mov ho hM (by omega)
theorem Sk.id {w0 W w6 : World} {K KB : Nat} {h : ByteArray} {n : Int} {k1 k2 : Nat} {v3 v4 : Value} {ids : List Nat} {ps : List (Nat × List UInt8)} (H : Sk w0 W K KB h n k1 k2 v3 v4 ids ps) (x : Nat) (u : Value)
    (hb : Below (KB + 1) W w6) (ho : w6.ownsRow (KB + 1) 24 1 u (ids.length + 1) (idV ids ++ [.int .u64 (x : Int)])) (h4 : w6.ownsRow (KB + 1) 127 2 v4 ps.length (plV ps)) :
    Sk w0 (w6.setCell ⟨K, 2, none⟩ u) K KB h n k1 k2 u v4 (ids ++ [x]) ps := by
  have hkk := H.kk
  have hM : Mov K w6 (w6.setCell ⟨K, 2, none⟩ u) := (Mov.refl K w6).set 2 u
  have hc : ∀ i v, W.cell? ⟨K, i, none⟩ = some v → w6.cell? ⟨K, i, none⟩ = some v := fun i v hv => by rw [hb.cell (p := ⟨K, i, none⟩) (by show K < KB + 1; omega)]; exact hv
  have hf : ∀ i, W.frozen? ⟨K, i, none⟩ = false → w6.frozen? ⟨K, i, none⟩ = false := fun i hv => by rw [hb.frozen (p := ⟨K, i, none⟩) (by show K < KB + 1; omega)]; exact hv
  have hl := H.lt
  have h6 := hb.size
  refine ⟨?_, ?_, World.cell?_setCell_same _ _ _ (hc 2 _ H.c2), ?_, ?_, ?_, range_block (range_later H.ky hb (by omega)) (hM.block KB (by omega) (by omega)), ?_, own_mov h4 hM (by omega), H.kk, (H.bel.later hb (Nat.le_refl _)).mov' hM⟩
  · rw [World.cell?_setCell_other _ _ _ _ (by simp)]; exact hc 0 _ H.c0
  · rw [World.cell?_setCell_other _ _ _ _ (by simp)]; exact hc 1 _ H.c1
  · rw [World.cell?_setCell_other _ _ _ _ (by simp)]; exact hc 3 _ H.c3
  · simp only [World.frozen?_setCell]; exact hf 2 H.f2
  · simp only [World.frozen?_setCell]; exact hf 3 H.f3
  · rw [idV_snoc, List.length_append]; exact own_mov ho hM (by omega)

set_option maxRecDepth 10000 in
set_option maxHeartbeats 4000000 in
theorem shorten_any (Kc : Nat → Int) (h : ByteArray) (n : Nat) (T : List (List UInt8)) (al : List Int) (a1 : Option Addr) (c1 : Nat) (v : Value) (w : World) (hkt : KT Kc w) (hh : h.size ≤ 1000) (hn : U64 n) (hr1 : 0 < T.length → ∃ b o, a1 = some ⟨b, o, none⟩ ∧ SRow w b o (T.map ofL)) (hT : T.length ≤ 16) (hS : ∀ x ∈ T, x.length ≤ 610) (hv : VVal w v (intV al)) (hal : al.length ≤ 1048576) :
    Calls Tryd.prog 35 #[.agg #[.string h, .slice a1 T.length c1], .int .u64 (n : Int), v] w fun x w' => ∃ v3 v4, x = .returned (.agg #[.string h, .int .u64 (n : Int), v3, v4]) ∧ w'.ownsRow w.heap.size 24 1 v3 ((oth al 0 T).map (idOf Kc (sg Kc (h ++ ofL (le n 8))))).length (idV ((oth al 0 T).map (idOf Kc (sg Kc (h ++ ofL (le n 8)))))) ∧ w'.ownsRow w.heap.size 127 2 v4 (plc al 0 T).length (plV (plc al 0 T)) ∧ Below w.heap.size w w' := by
  obtain ⟨i3, hi3, hz30, hz31, hz32⟩ := info_parts infoU64
  obtain ⟨i4, hi4, hz40, hz41, hz42⟩ := info_parts infoPl
  have hpos : 0 < w.heap.size := World.block_lt_of_cell? w _ (hkt 0 (by omega))
  obtain ⟨D, hD⟩ : ∃ D, D = sg Kc (h ++ ofL (le n 8)) := ⟨_, rfl⟩
  obtain ⟨W2, hW2⟩ : ∃ W, W = ((w.alloc (.cells #[.string h, .slice a1 T.length c1] 76)).alloc (.cells #[.string ⟨#[]⟩, .int .u64 0, .slice none 0 0, .slice none 0 0] 85)).alloc (.cells #[.string h, .int .u64 (n : Int), .slice none 0 0, .slice none 0 0] 85) := ⟨_, rfl⟩
  have HB2 : Hid (Below w.heap.size w W2) := by show Below _ _ _; rw [hW2]; exact (((Below.refl _ _).alloc (Nat.le_refl _) _).alloc (by simp) _).alloc (by simp; omega) _
  have hz2 : W2.heap.size = w.heap.size + 3 := by rw [hW2]; simp
  have p0 : W2.cell? ⟨w.heap.size, 0, none⟩ = some (.string h) := by rw [hW2]; simp [go_sem]
  have p1 : W2.cell? ⟨w.heap.size, 1, none⟩ = some (.slice a1 T.length c1) := by rw [hW2]; simp [go_sem]
  have k0 : W2.cell? ⟨w.heap.size + 2, 0, none⟩ = some (.string h) := by rw [hW2]; simp [go_sem]
  have k1 : W2.cell? ⟨w.heap.size + 2, 1, none⟩ = some (.int .u64 (n : Int)) := by rw [hW2]; simp [go_sem]
  have k2 : W2.cell? ⟨w.heap.size + 2, 2, none⟩ = some (.slice none 0 0) := by rw [hW2]; simp [go_sem]
  have k3 : W2.cell? ⟨w.heap.size + 2, 3, none⟩ = some (.slice none 0 0) := by rw [hW2]; simp [go_sem]
  have f2 : W2.frozen? ⟨w.heap.size + 2, 2, none⟩ = false := by rw [hW2]; simp [go_sem]
  have f3 : W2.frozen? ⟨w.heap.size + 2, 3, none⟩ = false := by rw [hW2]; simp [go_sem]
  have htr : W2.there (w.heap.size + 1) 0 4 := by
    have := there_new (w.alloc (.cells #[.string h, .slice a1 T.length c1] 76)) 85 [.string ⟨#[]⟩, .int .u64 0, .slice none 0 0, .slice none 0 0]
    rw [hW2]; exact World.there_alloc (by simpa using this) _
  have HKY := shortKey_any Kc h n W2 (hkt.later HB2.out hpos) hh hn
  rw [← hD] at HKY ⊢
  have HKT : Hid (∀ W, Below w.heap.size w W → KT Kc W) := fun W hW => hkt.later hW hpos
  have HR1 : Hid (0 < T.length → ∃ b o, a1 = some ⟨b, o, none⟩ ∧ SRow w b o (T.map ofL)) := hr1
  have HS : Hid (∀ x ∈ T, x.length ≤ 610) := hS
  have HV : Hid (VVal w v (intV al)) := hv
  have HP0 : Hid (W2.cell? ⟨w.heap.size, 0, none⟩ = some (.string h)) := p0
  have HP1 : Hid (W2.cell? ⟨w.heap.size, 1, none⟩ = some (.slice a1 T.length c1)) := p1
  have HTR : Hid (W2.there (w.heap.size + 1) 0 4) := htr
  have HK : Hid (∀ w3, Below W2.heap.size W2 w3 → Sk (w3.alloc (.cells #[.int .u64 (key1 D : Int), .int .u64 (key2 D : Int)] 123)) (w3.alloc (.cells #[.int .u64 (key1 D : Int), .int .u64 (key2 D : Int)] 123)) (w.heap.size + 2) w3.heap.size h (n : Int) (key1 D) (key2 D) (.slice none 0 0) (.slice none 0 0) [] []) := fun w3 hb3 => by
    have h3 := hb3.size
    have hb4 : Below W2.heap.size W2 (w3.alloc (.cells #[.int .u64 (key1 D : Int), .int .u64 (key2 D : Int)] 123)) := hb3.alloc h3 _
    exact ⟨by rw [hb4.cell (p := ⟨w.heap.size + 2, 0, none⟩) (by show w.heap.size + 2 < _; omega)]; exact k0, by rw [hb4.cell (p := ⟨w.heap.size + 2, 1, none⟩) (by show w.heap.size + 2 < _; omega)]; exact k1, by rw [hb4.cell (p := ⟨w.heap.size + 2, 2, none⟩) (by show w.heap.size + 2 < _; omega)]; exact k2, by rw [hb4.cell (p := ⟨w.heap.size + 2, 3, none⟩) (by show w.heap.size + 2 < _; omega)]; exact k3, by rw [hb4.frozen (p := ⟨w.heap.size + 2, 2, none⟩) (by show w.heap.size + 2 < _; omega)]; exact f2, by rw [hb4.frozen (p := ⟨w.heap.size + 2, 3, none⟩) (by show w.heap.size + 2 < _; omega)]; exact f3, range_new w3 _ _ _ rfl, World.ownsRow_nil _ _ _ _, World.ownsRow_nil _ _ _ _, by omega, Mv.refl _ _ _⟩
  have hE : ∀ x, idOf Kc D x = sipN (key1 D) (key2 D) (dd Kc (ofL x)) % 281474976710656 := fun _ => rfl
  have HE : Hid (∀ x, idOf Kc D x = sipN (key1 D) (key2 D) (dd Kc (ofL x)) % 281474976710656) := hE
  have HNI : Hid (0 ≤ (n : Int)) := by show 0 ≤ (n : Int); omega
  obtain ⟨NI, hNI⟩ : ∃ NI : Int, NI = (n : Int) := ⟨_, rfl⟩
  rw [← hNI] at HKY HK hW2 ⊢
  clear p0 p1 k0 k1 k2 k3 f2 f3 htr hkt hr1 hS hv hD hE hn hNI HNI
  generalize key1 D = d1 at HKY HK HE
  generalize key2 D = d2 at HKY HK HE
  go_enter Tryd.func35, Tryd.ntmps35
  go_upto_region 2 with fail
  rw [← hW2]
  clear hW2
  have p0 := HP0.out
  go_upto_region 3 with (go_at_call 60; go_must (refine HKY.mono ?_); rintro e w3 ⟨rfl, hb3⟩; have HB3 := (show Hid (Below W2.heap.size W2 w3) from hb3); clear hb3)
  have HSK := (show Hid _ from HK.out w3 HB3.out)
  have hb4 : Below W2.heap.size W2 (w3.alloc (.cells #[.int .u64 (d1 : Int), .int .u64 (d2 : Int)] 123)) := HB3.out.alloc HB3.out.size _
  have hz3 := HB3.out.size
  obtain ⟨W4, hW4⟩ : ∃ W, W = w3.alloc (.cells #[.int .u64 (d1 : Int), .int .u64 (d2 : Int)] 123) := ⟨_, rfl⟩
  rw [← hW4] at HSK hb4 ⊢
  have HB4 : Hid (Below W2.heap.size W2 W4) := hb4
  have q1 : W4.cell? ⟨w.heap.size, 1, none⟩ = some (.slice a1 T.length c1) := by rw [hb4.cell (p := ⟨w.heap.size, 1, none⟩) (by show w.heap.size < _; omega)]; exact HP1.out
  clear hW4 p0 HKY HK HP0 HB3 hb4
  go_upto_region 4 with fail
  clear q1
  go_loopg [22] T.length (fun g i wx => ∃ j : Nat, ∃ v3 v4 : Value, j + g = T.length ∧ i = .int .i64 (j : Int) ∧ Sk W4 wx (w.heap.size + 2) w3.heap.size h NI d1 d2 v3 v4 ((oth al 0 (T.take j)).map (idOf Kc D)) (plc al 0 (T.take j)))
  case atStart => exact ⟨0, _, _, by omega, rfl, by simpa [oth, plc] using HSK.out⟩
  case round =>
    clear HSK
    obtain ⟨j, v3, v4, hjg, rfl, hsk⟩ := hrel
    obtain ⟨v3a, v3n, v3c, rfl⟩ := own_slice hsk.o3
    obtain ⟨v4a, v4n, v4c, rfl⟩ := own_slice hsk.o4
    have HSR : Hid (Sk W4 wr (w.heap.size + 2) w3.heap.size h NI d1 d2 (.slice v3a v3n v3c) (.slice v4a v4n v4c) ((oth al 0 (T.take j)).map (idOf Kc D)) (plc al 0 (T.take j))) := hsk
    have HJ : Hid (j + gk = T.length) := hjg
    have HBK : Hid (Below (w.heap.size + 2) W2 wr) := (HB4.out.mono (by omega)).trans (hsk.bel.below (Nat.le_refl _) (by omega))
    have HWW : Hid (Below w.heap.size w wr) := HB2.out.trans (HBK.out.mono (by omega))
    have hkl := hsk.lt
    have hKBle : w3.heap.size + 1 ≤ wr.heap.size := hkl
    have HLO : Hid (((oth al 0 (T.take j)).map (idOf Kc D)).length ≤ 16) := by
      show _ ≤ _
      have := oth_le al (T.take j) 0
      rw [List.length_take] at this
      rw [List.length_map]; omega
    have HLP : Hid ((plc al 0 (T.take j)).length ≤ 16) := by
      show _ ≤ _
      have := plc_le al (T.take j) 0
      rw [List.length_take] at this; omega
    clear hsk
    by_cases hlt : j < T.length
    · obtain ⟨b1, o1, rfl, hrow1⟩ := HR1.out (by omega)
      have hb1w := hrow1.lt (by simp; omega)
      have cj : wr.cell? ⟨b1, o1 + j, none⟩ = some (.string (ofL T[j])) := by
        have := (hrow1.later HWW.out hb1w) j (by simp; omega)
        rw [this]; simp
      have hji : (j : Int) < (T.length : Int) := by omega
      have HCT : Hid (Calls Tryd.prog 61 #[v, .int .i64 (j : Int)] wr fun e w' => e = .returned (.bool (decide ((j : Int) ∈ al))) ∧ wr = w') := (contains_ints al (j : Int) v wr (HV.out.later HWW.out) hal).mono fun e w' ⟨h1, h2⟩ => ⟨h1, h2.symm⟩
      have HTS := (show Hid (T[j].length ≤ 610) from HS.out _ (List.getElem_mem hlt))
      by_cases hm : (j : Int) ∈ al
      · have HPT := (show Hid (plc al 0 (T.take (j + 1)) = plc al 0 (T.take j) ++ [(j, T[j])]) from plc_in al T j hlt hm)
        have HOT := (show Hid (oth al 0 (T.take (j + 1)) = oth al 0 (T.take j)) from oth_in al T j hlt hm)
        have hdc : decide ((j : Int) ∈ al) = true := decide_eq_true hm
        rw [hdc] at HCT
        have HPL : Hid (∀ u w6, Below (w3.heap.size + 1) wr w6 → w6.ownsRow (w3.heap.size + 1) 127 2 u ((plc al 0 (T.take j)).length + 1) (plV (plc al 0 (T.take j)) ++ [.int .i64 (j : Int), .string (ofL T[j])]) → w6.ownsRow (w3.heap.size + 1) 24 1 (.slice v3a v3n v3c) ((oth al 0 (T.take j)).map (idOf Kc D)).length (idV ((oth al 0 (T.take j)).map (idOf Kc D))) → Sk W4 (w6.setCell ⟨w.heap.size + 2, 3, none⟩ u) (w.heap.size + 2) w3.heap.size h NI d1 d2 (.slice v3a v3n v3c) u ((oth al 0 (T.take j)).map (idOf Kc D)) (plc al 0 (T.take j) ++ [(j, T[j])])) := fun u w6 hb ho h3 => HSR.out.place (j, T[j]) u hb ho h3
        generalize T[j] = tx at cj HPT HPL
        obtain ⟨tb, htb⟩ : ∃ t, t = ofL tx := ⟨_, rfl⟩
        rw [← htb] at cj HPL
        clear htb hm hdc hrow1 hjg
        go_upto_region 7 with (go_at_call 61; go_must (refine HCT.out.mono ?_); rintro e w' ⟨rfl, rfl⟩)
        have c3 := HSR.out.c3
        have HO4 : Hid (wr.ownsRow (w3.heap.size + 1) 127 2 (.slice v4a v4n v4c) (plc al 0 (T.take j)).length (plV (plc al 0 (T.take j)))) := HSR.out.o4
        go_upto_region 9 with (at_builtin; go_must (refine wpList_append_lies _ rfl _ _ 83 rfl (w3.heap.size + 1) 127 i4 (.agg #[.int .i64 0, .string ⟨#[]⟩]) 2 24 Tryd.underlying83 hi4 hz40 hz41 hz42 rfl (by decide) (.slice v4a v4n v4c) (plc al 0 (T.take j)).length (plV (plc al 0 (T.take j))) rfl (HO4.out.alloc _) ⟨wr.heap.size, 0, none⟩ 1 1 [.int .i64 (j : Int), .string tb] rfl rfl (two_new wr _ _ _) (two_pl _ _) (by omega) (by have := HLP.out; unfold maxLen; omega) (by have := HLP.out; omega) (by simp; omega) _ rfl ?_); intro g6 c6 w6 ho6 hgr6 hat6 hlt6; have HO6 := (show Hid (w6.ownsRow (w3.heap.size + 1) 127 2 (.slice (some ⟨g6, 0, none⟩) ((plc al 0 (T.take j)).length + 1) c6) ((plc al 0 (T.take j)).length + 1) (plV (plc al 0 (T.take j)) ++ [.int .i64 (j : Int), .string tb])) from ho6); have HB6 := (show Hid (Below (w3.heap.size + 1) wr w6) from ((Below.refl (w3.heap.size + 1) wr).alloc hKBle _).grown hgr6 (by simp; omega) (ownBlock_ge HO4.out)); have HO3 := (show Hid (w6.ownsRow (w3.heap.size + 1) 24 1 (.slice v3a v3n v3c) ((oth al 0 (T.take j)).map (idOf Kc D)).length (idV ((oth al 0 (T.take j)).map (idOf Kc D)))) from own_apart (HSR.out.o3.alloc _) (HO4.out.alloc _) (by decide) hgr6); have c6' : w6.cell? ⟨w.heap.size + 2, 3, none⟩ = some (.slice v4a v4n v4c) := (by rw [HB6.out.cell (p := ⟨w.heap.size + 2, 3, none⟩) (by show w.heap.size + 2 < _; omega)]; exact HSR.out.c3); have f6' : w6.frozen? ⟨w.heap.size + 2, 3, none⟩ = false := (by rw [HB6.out.frozen (p := ⟨w.heap.size + 2, 3, none⟩) (by show w.heap.size + 2 < _; omega)]; exact HSR.out.f3); clear ho6 hgr6 hat6 hlt6)
        have HNX := (show Hid _ from HPL.out _ w6 HB6.out HO6.out HO3.out)
        clear c3 c6' f6' HPL HO6 HO3 HO4
        generalize w6.setCell ⟨w.heap.size + 2, 3, none⟩ (.slice (some ⟨g6, 0, none⟩) ((plc al 0 (T.take j)).length + 1) c6) = W9 at HNX ⊢
        go_wp2
        go_roundg (gk - 1)
        case measure => have := HJ.out; omega
        case rel =>
          have h1 := HJ.out
          refine ⟨j + 1, .slice v3a v3n v3c, .slice (some ⟨g6, 0, none⟩) ((plc al 0 (T.take j)).length + 1) c6, by omega, by go_num, ?_⟩
          rw [HOT.out, HPT.out]
          exact HNX.out
      · have HPT := (show Hid (plc al 0 (T.take (j + 1)) = plc al 0 (T.take j)) from plc_out al T j hlt hm)
        have HOT := (show Hid (oth al 0 (T.take (j + 1)) = oth al 0 (T.take j) ++ [T[j]]) from oth_out al T j hlt hm)
        have hdc : decide ((j : Int) ∈ al) = false := decide_eq_false hm
        rw [hdc] at HCT
        generalize T[j] = tx at cj HOT HTS
        have HEX : Hid ((idOf Kc D tx : Int) = ((sipN d1 d2 (dd Kc (ofL tx)) % 281474976710656 : Nat) : Int)) := by show _ = _; rw [HE.out]
        have HDB : Hid (Calls Tryd.prog 27 #[.slice (some ⟨wr.heap.size, 0, none⟩) 1 1] (wr.drew.alloc (.cells #[.string (ofL tx)] 9)) fun e w' => e = .returned (aggD (dd Kc (ofL tx))) ∧ Below wr.drew.heap.size wr.drew w') := double_dd Kc (ofL tx) wr.drew (HKT.out _ HWW.out.drew) (by rw [ofL_size]; have := HTS.out; omega)
        clear hm hdc hrow1 hjg
        go_upto_region 8 with (go_at_call 61; go_must (refine HCT.out.mono ?_); rintro e w' ⟨rfl, rfl⟩)
        clear cj
        have HB0 : Below wr.heap.size wr wr.drew := ⟨rfl, rfl, rfl, Nat.le_refl _, fun _ _ => rfl⟩
        refine q_frame (fun A HFR => ?_)
        have hsz : A.tmps.size = 50 := by rw [HFR.out]; rfl
        have h7 : A.eval (.tmp 7) = .pointer (some ⟨w.heap.size + 2, 0, none⟩) := by rw [HFR.out]; rfl
        have h8 : A.eval (.tmp 8) = .pointer (some ⟨w3.heap.size, 0, none⟩) := by rw [HFR.out]; rfl
        have h10 : A.eval (.tmp 10) = .string (ofL tx) := by rw [HFR.out]; rfl
        have HS0 : ∀ W, Below (w3.heap.size + 1) wr W → (W.cell? ⟨w.heap.size + 2, 2, none⟩ = some (.slice v3a v3n v3c) ∧ W.rangeAt w3.heap.size 0 [.int .u64 (d1 : Int), .int .u64 (d2 : Int)]) := fun W hW =>
          ⟨by rw [hW.cell (p := ⟨w.heap.size + 2, 2, none⟩) (by show w.heap.size + 2 < _; omega)]; exact HSR.out.c2, range_later HSR.out.ky hW (Nat.lt_succ_self _)⟩
        · refine wp_region_T (k := 10) (S := fun W => W.cell? ⟨w.heap.size + 2, 2, none⟩ = some (.slice v3a v3n v3c) ∧ W.rangeAt w3.heap.size 0 [.int .u64 (d1 : Int), .int .u64 (d2 : Int)]) (by kernel_rfl) (HS0 _ (HB0.mono hKBle)) (fun hS => ?_)
          refine wpAnyT_take (i := 0) (v := (.pointer (some ⟨w.heap.size + 2, 2, none⟩))) rfl (by kernel_rfl) (by kernel_rfl) (by kernel_rfl) (by kernel_rfl) (fun _ _ _ h => h) (Or.inl ⟨by rfl, fun W _ => q_run1 7 (.pointer (some ⟨w.heap.size + 2, 0, none⟩)) (by simp only [q_same, q_ne, q_sz, hsz, h7, h8, h10, ne_eq, Nat.reduceEqDiff, not_false_eq_true, Nat.reduceLT]) (fun ρ hc hf e1 => by simp [go_sem, hc, hf, e1])⟩) hS ?_
          change wpAnyT _ _ _ _ _ _ _ _ (Act.put _ (some 38) _) _
          refine wpAnyT_take (i := 1) (v := (.slice v3a v3n v3c)) rfl (by kernel_rfl) (by kernel_rfl) (by kernel_rfl) (by kernel_rfl) (fun _ _ _ h => h) (Or.inl ⟨by rfl, fun W hW => q_run1 38 (.pointer (some ⟨w.heap.size + 2, 2, none⟩)) (by simp only [q_same, q_ne, q_sz, hsz, h7, h8, h10, ne_eq, Nat.reduceEqDiff, not_false_eq_true, Nat.reduceLT]) (fun ρ hc hf e1 => by simp [go_sem, hc, hf, e1, hW.1])⟩) hS ?_
          change wpAnyT _ _ _ _ _ _ _ _ (Act.put _ (some 39) _) _
          refine wpAnyT_take (i := 2) (v := .agg #[.int .u64 (d1 : Int), .int .u64 (d2 : Int)]) rfl (by kernel_rfl) (by kernel_rfl) (by kernel_rfl) (by kernel_rfl) (fun _ _ _ h => h) (yieldsIf_load_mid (by rfl) 123 _ rfl w3.heap.size 0 (by simp only [q_same, q_ne, q_sz, hsz, h7, h8, h10, ne_eq, Nat.reduceEqDiff, not_false_eq_true, Nat.reduceLT]) [.int .u64 (d1 : Int), .int .u64 (d2 : Int)] _ (fun W hW => hW.2) Tryd.underlying123 rfl (by kernel_rfl)) hS ?_
          change wpAnyT _ _ _ _ _ _ _ _ (Act.put _ (some 40) _) _
          refine wpAnyT_take (i := 3) (v := (.string (ofL tx))) rfl (by kernel_rfl) (by kernel_rfl) (by kernel_rfl) (by kernel_rfl) (fun _ _ _ h => h) (Or.inl ⟨by rfl, fun W _ => q_run1 10 (.string (ofL tx)) (by simp only [q_same, q_ne, q_sz, hsz, h7, h8, h10, ne_eq, Nat.reduceEqDiff, not_false_eq_true, Nat.reduceLT]) (fun ρ hc hf e1 => by simp [go_sem, hc, hf, e1])⟩) hS ?_
          change wpAnyT _ _ _ _ _ _ _ _ (Act.put _ (some 41) _) _
          have HBA : Below wr.heap.size wr (wr.drew.alloc (.cells #[.string (ofL tx)] 9)) := HB0.alloc (Nat.le_refl _) _
          refine qT_one 4 (.slice (some ⟨wr.heap.size, 0, none⟩) 1 1) (wr.drew.alloc (.cells #[.string (ofL tx)] 9)) (by kernel_rfl) rfl rfl (q_run1 41 (.string (ofL tx)) (by simp only [q_same, q_ne, q_sz, hsz, h7, h8, h10, ne_eq, Nat.reduceEqDiff, not_false_eq_true, Nat.reduceLT]) (fun ρ hc hf e1 => by simp [go_sem, hc, hf, e1])) (fun _ => HS0 _ (HBA.mono hKBle)) ?_
          change wpAnyT _ _ _ _ _ _ _ _ (Act.put _ (some 42) _) _
          refine qT_call 5 27 #[.slice (some ⟨wr.heap.size, 0, none⟩) 1 1] _ (by kernel_rfl) rfl rfl (q_run1 42 (.slice (some ⟨wr.heap.size, 0, none⟩) 1 1) (by simp only [q_same, q_ne, q_sz, hsz, h7, h8, h10, ne_eq, Nat.reduceEqDiff, not_false_eq_true, Nat.reduceLT]) (fun ρ hc hf e1 => by simp [go_sem, hc, hf, e1])) (HDB.out) ?_ (fun ch w' h => by cases h.1) (fun w' h => by cases h.1)
          rintro _ w5 ⟨hv5, hb5⟩
          obtain rfl := returned_inj hv5
          have HB5 : Below wr.heap.size wr w5 := HB0.trans hb5
          refine ⟨fun _ => HS0 _ (HB5.mono hKBle), ?_⟩
          change wpAnyT _ _ _ _ _ _ _ _ (Act.put _ (some 43) _) _
          refine qT_call 6 62 #[.agg #[.int .u64 (d1 : Int), .int .u64 (d2 : Int)], aggD (dd Kc (ofL tx))] _ (by kernel_rfl) rfl rfl (q_run2 40 43 (.agg #[.int .u64 (d1 : Int), .int .u64 (d2 : Int)]) (aggD (dd Kc (ofL tx))) (by simp only [q_same, q_ne, q_sz, hsz, h7, h8, h10, ne_eq, Nat.reduceEqDiff, not_false_eq_true, Nat.reduceLT]) (by simp only [q_same, q_ne, q_sz, hsz, h7, h8, h10, ne_eq, Nat.reduceEqDiff, not_false_eq_true, Nat.reduceLT]) (fun ρ hc hf e1 e2 => by simp [go_sem, hc, hf, e1, e2])) (shortID_any d1 d2 (dd Kc (ofL tx)) (dd_size Kc _) w5) ?_ (fun ch w' h => by cases h.1) (fun w' h => by cases h.1)
          rintro _ w6 ⟨hv6, hb6⟩
          obtain rfl := returned_inj hv6
          have HB6 : Below wr.heap.size wr w6 := HB5.trans (hb6.mono HB5.size)
          refine ⟨fun _ => HS0 _ (HB6.mono hKBle), ?_⟩
          change wpAnyT _ _ _ _ _ _ _ _ (Act.put _ (some 44) _) _
          rw [← HEX.out]
          have hz6 := HB6.size
          have HBC : Below wr.heap.size wr (w6.alloc (.cells #[.int .u64 (idOf Kc D tx : Int)] 24)) := HB6.alloc hz6 _
          refine qT_one 7 (.slice (some ⟨w6.heap.size, 0, none⟩) 1 1) (w6.alloc (.cells #[.int .u64 (idOf Kc D tx : Int)] 24)) (by kernel_rfl) rfl rfl (q_run1 44 (.int .u64 (idOf Kc D tx : Int)) (by simp only [q_same, q_ne, q_sz, hsz, h7, h8, h10, ne_eq, Nat.reduceEqDiff, not_false_eq_true, Nat.reduceLT]) (fun ρ hc hf e1 => by simp [go_sem, hc, hf, e1])) (fun _ => HS0 _ (HBC.mono hKBle)) ?_
          change wpAnyT _ _ _ _ _ _ _ _ (Act.put _ (some 45) _) _
          have ho3 := own_later (own_later HSR.out.o3 HB6) ((Below.refl _ _).alloc (Nat.le_refl _) (.cells #[.int .u64 (idOf Kc D tx : Int)] 24))
          have ho4 := own_later (own_later HSR.out.o4 HB6) ((Below.refl _ _).alloc (Nat.le_refl _) (.cells #[.int .u64 (idOf Kc D tx : Int)] 24))
          refine qT_step 8 (by kernel_rfl) rfl (fun K hK => ?_)
          refine step_append_lies _ rfl (.tmp 39) (.tmp 45) 82 rfl (w3.heap.size + 1) 24 i3 (.int .u64 0) 1 8 Tryd.underlying82 hi3 hz30 hz31 hz32 rfl (by decide) (.slice v3a v3n v3c) ((oth al 0 (T.take j)).map (idOf Kc D)).length (idV ((oth al 0 (T.take j)).map (idOf Kc D))) (by simp only [q_same, q_ne, q_sz, hsz, h7, h8, h10, ne_eq, Nat.reduceEqDiff, not_false_eq_true, Nat.reduceLT]) ho3 ⟨w6.heap.size, 0, none⟩ 1 1 [.int .u64 (idOf Kc D tx : Int)] (by simp only [q_same, q_ne, q_sz, hsz, h7, h8, h10, ne_eq, Nat.reduceEqDiff, not_false_eq_true, Nat.reduceLT]) rfl (one_new w6 _ _) (one_u64 _) (by omega) (by have := HLO.out; unfold maxLen; omega) (by have := HLO.out; omega) (by simp; omega) _ rfl ?_
          intro g8 c8 w8 ho8 hgr8 _ _
          have HB8 : Below (w3.heap.size + 1) wr w8 := (HBC.mono hKBle).grown hgr8 (by simp; omega) (ownBlock_ge HSR.out.o3)
          have hc8 : w8.cell? ⟨w.heap.size + 2, 2, none⟩ = some (.slice v3a v3n v3c) := by rw [HB8.cell (p := ⟨w.heap.size + 2, 2, none⟩) (by show w.heap.size + 2 < _; omega)]; exact HSR.out.c2
          have hf8 : w8.frozen? ⟨w.heap.size + 2, 2, none⟩ = false := by rw [HB8.frozen (p := ⟨w.heap.size + 2, 2, none⟩) (by show w.heap.size + 2 < _; omega)]; exact HSR.out.f2
          have hS8 := HS0 w8 HB8
          refine hK.out _ _ (fun _ => hS8) ?_
          change wpAnyT _ _ _ _ _ _ _ _ (Act.put _ (some 46) _) _
          refine qT_one 9 (.pointer (some ⟨w.heap.size + 2, 2, none⟩)) w8 (by kernel_rfl) rfl rfl (q_run1 7 (.pointer (some ⟨w.heap.size + 2, 0, none⟩)) (by simp only [q_same, q_ne, q_sz, hsz, h7, h8, h10, ne_eq, Nat.reduceEqDiff, not_false_eq_true, Nat.reduceLT]) (fun ρ hc hf e1 => by simp [go_sem, hc, hf, e1])) (fun _ => hS8) ?_
          change wpAnyT _ _ _ _ _ _ _ _ (Act.put _ (some 47) _) _
          refine qT_skip 10 (w8.setCell ⟨w.heap.size + 2, 2, none⟩ (.slice (some ⟨g8, 0, none⟩) (((oth al 0 (T.take j)).map (idOf Kc D)).length + 1) c8)) (by kernel_rfl) rfl rfl (q_run2 47 46 (.pointer (some ⟨w.heap.size + 2, 2, none⟩)) (.slice (some ⟨g8, 0, none⟩) (((oth al 0 (T.take j)).map (idOf Kc D)).length + 1) c8) (by simp only [q_same, q_ne, q_sz, hsz, h7, h8, h10, ne_eq, Nat.reduceEqDiff, not_false_eq_true, Nat.reduceLT]) (by simp only [q_same, q_ne, q_sz, hsz, h7, h8, h10, ne_eq, Nat.reduceEqDiff, not_false_eq_true, Nat.reduceLT]) (fun ρ hc hf e1 e2 => by simp [go_sem, hc, hf, e1, e2, hc8, hf8])) (fun h => absurd rfl h) ?_
          refine wpAnyT_done (by kernel_rfl) ?_ _
          have HNX : Hid (Sk W4 (w8.setCell ⟨w.heap.size + 2, 2, none⟩ (.slice (some ⟨g8, 0, none⟩) (((oth al 0 (T.take j)).map (idOf Kc D)).length + 1) c8)) (w.heap.size + 2) w3.heap.size h NI d1 d2 (.slice (some ⟨g8, 0, none⟩) (((oth al 0 (T.take j)).map (idOf Kc D)).length + 1) c8) (.slice v4a v4n v4c) ((oth al 0 (T.take j)).map (idOf Kc D) ++ [idOf Kc D tx]) (plc al 0 (T.take j))) :=
            HSR.out.id _ _ HB8 ho8 (own_apart ho4 ho3 (by decide) hgr8)
          have hfr := HFR.out
          clear HFR hsz h7 h8 h10 hS hS8 HS0 HB0 HBA HB5 HB6 HBC HB8 hc8 hf8 ho8 hgr8 ho3 ho4 hb5 hb6 hv5 hv6 hKBle hz6
          generalize w8.setCell ⟨w.heap.size + 2, 2, none⟩ (.slice (some ⟨g8, 0, none⟩) (((oth al 0 (T.take j)).map (idOf Kc D)).length + 1) c8) = W9 at HNX
          subst hfr
          simp only [Act.put, List.setIfInBounds_toArray, List.set_cons_zero, List.set_cons_succ]
          go_wp2
          go_roundg (gk - 1)
          case measure => have := HJ.out; omega
          case rel =>
            have h1 := HJ.out
            refine ⟨j + 1, .slice (some ⟨g8, 0, none⟩) (((oth al 0 (T.take j)).map (idOf Kc D)).length + 1) c8, .slice v4a v4n v4c, by omega, by go_num, ?_⟩
            rw [HOT.out, HPT.out, List.map_append]
            exact HNX.out
    · obtain rfl : j = T.length := by omega
      have hsk := HSR.out
      rw [List.take_length] at hsk
      have HSE : Hid (Sk W4 wr (w.heap.size + 2) w3.heap.size h NI d1 d2 (.slice v3a v3n v3c) (.slice v4a v4n v4c) ((oth al 0 T).map (idOf Kc D)) (plc al 0 T)) := hsk
      have HRG : Hid (wr.rangeAt (w.heap.size + 2) 0 [.string h, .int .u64 NI, .slice v3a v3n v3c, .slice v4a v4n v4c]) := fun i u hu => by
        rw [Nat.zero_add]
        match i, hu with
        | 0, hu => simp at hu; subst hu; exact hsk.c0
        | 1, hu => simp at hu; subst hu; exact hsk.c1
        | 2, hu => simp at hu; subst hu; exact hsk.c2
        | 3, hu => simp at hu; subst hu; exact hsk.c3
      have HTH : Hid (wr.there (w.heap.size + 1) 0 4) := there_block HTR.out (HBK.out.block _ (by omega))
      clear hsk hjg
      go_wp2_with (first
        | (refine wpList_load_mid rfl 85 _ rfl (w.heap.size + 2) 0 rfl [.string h, .int .u64 NI, .slice v3a v3n v3c, .slice v4a v4n v4c] _ ?_ Tryd.underlying85 rfl (by kernel_rfl) ?_; exact HRG.out)
        | (refine wpList_store_list rfl 85 _ _ rfl (w.heap.size + 1) 0 [.string h, .int .u64 NI, .slice v3a v3n v3c, .slice v4a v4n v4c] rfl rfl ?_ (by kernel_rfl) (by intro u hu; simp at hu; rcases hu with rfl | rfl | rfl | rfl <;> rfl) ?_; exact HTH.out))
      have hM7 : Mov (w.heap.size + 1) wr (wr.setCells (w.heap.size + 1) 0 [.string h, .int .u64 NI, .slice v3a v3n v3c, .slice v4a v4n v4c]) := mov_cells _ _ _ _
      refine bodyPost_ret (results_mid Tryd.results35 _ _ (w.heap.size + 1) [.string h, .int .u64 NI, .slice v3a v3n v3c, .slice v4a v4n v4c] _ rfl (World.rangeAt_setCells_same _ _ _ _ HTH.out) Tryd.underlying85 rfl (by kernel_rfl)) rfl ⟨_, _, rfl, own_base (own_mov HSE.out.o3 hM7 (by omega)) (by omega), own_base (own_mov HSE.out.o4 hM7 (by omega)) (by omega), below_setCells HWW.out _ (by omega) _ _⟩
end Go.Proofs.YtkmalggeieiepabDoor
