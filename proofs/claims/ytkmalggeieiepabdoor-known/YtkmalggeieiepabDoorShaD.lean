import Derived.Test.YtkmalggeieiepabDoorShaC
import Derived.WalkKit
import Derived.WalkSpells
import Derived.WalkLawsBesides
import Derived.Deep.MidRow
import Derived.Deep.LoopGhost
import Derived.Deep.DeepCutAuto
import Derived.Deep.QuietTactic
import Derived.BigQuiet
namespace Go.Proofs.YtkmalggeieiepabDoor
open Go.RowKit

/-- a byte of the digest. -/
def dgF (s : Nat → Int) (k : Nat) : Int := s (k / 4) / 2 ^ (24 - 8 * (k % 4)) % 256

set_option maxRecDepth 10000 in
set_option maxHeartbeats 1000000 in
theorem flatten_any (s : Nat → Int) (hs : ∀ j, IsW (s j)) (SR : Array Value) (HSR : Hid (SR = (wl .u32 s 8).toArray)) (w : World) :
    Calls Tryd.prog 43 #[.agg SR] w fun e w' => e = .returned (.agg (wl .u8 (dgF s) 32).toArray) ∧ Below w.heap.size w w' := by
  go_enter Tryd.func43, Tryd.ntmps43
  go_upto_region 1 with fail
  go_cut [3] (fun p wx => p = .pointer (some ⟨w.heap.size + 2, 0, none⟩) ∧ Arr .u32 wx w.heap.size s 8 ∧ Arr .u8 wx (w.heap.size + 1) (fun _ => 0) 32 ∧ Arr .u8 wx (w.heap.size + 2) (fun _ => 0) 32 ∧ Below w.heap.size w wx)
  case first =>
    go_wp2
    go_meet
    refine ⟨rfl, ?_, ?_, ?_, ?_⟩
    · exact ((Arr.new w _ 8 _ _ HSR.out).alloc (by omega) _).alloc (by omega) _
    · exact (Arr.newAt (w.alloc _) (fun _ => 0) 32 (w.heap.size + 1) _ _ (by rfl) (by simp)).alloc (by omega) _
    · exact (Arr.newAt ((w.alloc _).alloc _) (fun _ => 0) 32 (w.heap.size + 2) _ _ (by rfl) (by simp))
    · exact (((Below.refl _ _).alloc (Nat.le_refl _) _).alloc (by simp) _).alloc (by simp; omega) _
  case rest =>
  obtain ⟨rfl, hA, hB, hC, hbel⟩ := hcut
  have HA : Hid (Arr .u32 wc w.heap.size s 8) := hA
  have HB : Hid (Arr .u8 wc (w.heap.size + 1) (fun _ => 0) 32) := hB
  have HC : Hid (Arr .u8 wc (w.heap.size + 2) (fun _ => 0) 32) := hC
  have HL : Hid (Below w.heap.size w wc) := hbel
  clear hA hB hC hbel
  go_upto_region 3 with fail
  go_loopg [5] 32 (fun g i wx => ∃ n : Nat, ∃ f : Nat → Int, n + g = 32 ∧ i = .int .i64 n ∧ (∀ j, j < n → f j = dgF s j) ∧ Arr .u8 wx (w.heap.size + 2) f 32 ∧ Arr .u32 wx w.heap.size s 8 ∧ Arr .u8 wx (w.heap.size + 1) (fun _ => 0) 32 ∧ Below w.heap.size w wx)
  case atStart => exact ⟨0, fun _ => 0, rfl, rfl, fun j hj => by omega, HC.out, HA.out, HB.out, HL.out⟩
  case round =>
    clear HA HB HC HL
    obtain ⟨n, f, hng, rfl, hlo, hC, hA, hB, hbel⟩ := hrel
    have HA : Hid (Arr .u32 wr w.heap.size s 8) := hA
    have HB : Hid (Arr .u8 wr (w.heap.size + 1) (fun _ => 0) 32) := hB
    have HC : Hid (Arr .u8 wr (w.heap.size + 2) f 32) := hC
    have HL : Hid (Below w.heap.size w wr) := hbel
    have HN : Hid (n + gk = 32) := hng
    have HLO : Hid (∀ j, j < n → f j = dgF s j) := hlo
    clear hB hbel hng
    by_cases hlt : n < 32
    · have ca := (hA (n / 4) (by omega)).1
      obtain ⟨cd, fd⟩ := hC n hlt
      obtain ⟨s0, s1⟩ := hs (n / 4)
      have HD : Hid (dgF s n = s (n / 4) / 2 ^ (24 - 8 * (n % 4)) % 256) := rfl
      clear hA hC hlo
      generalize s (n / 4) = x at ca s0 s1 HD
      generalize f n = y at cd
      go_wp2
      go_roundg (gk - 1)
      case measure => have := HN.out; omega
      case rel =>
        have hnn := HN.out
        refine ⟨n + 1, upd f n (dgF s n), by omega, by go_num, ?_, ?_, ?_, ?_, ?_⟩
        · intro j hj
          by_cases e : j = n
          · subst e; rw [upd_same]
          · rw [upd_other _ _ _ _ e, HLO.out j (by omega)]
        · rw [HD.out]; exact HC.out.set n hlt _
        · exact HA.out.far _ _ (by simp)
        · exact HB.out.far _ _ (by simp)
        · exact HL.out.setCell (by simp) _
    · go_upto_region 7 with fail
      have hn8 : n = 32 := by have := HN.out; omega
      have HC2 : Hid (Arr .u8 wr (w.heap.size + 2) (dgF s) 32) := HC.out.congr (fun j hj => hlo j (by omega))
      clear hlo hA hC hn8
      go_wp2_with (first
        | (refine wpList_load_arr rfl 59 _ rfl (w.heap.size + 2) rfl .u8 (dgF s) 32 _ HC2.out Tryd.underlying59 rfl (by kernel_rfl) ?_)
        | (refine wpList_store_arr rfl 59 _ _ rfl (w.heap.size + 1) .u8 (fun _ => 0) (dgF s) 32 rfl rfl HB.out (by kernel_rfl) ?_))
      have hres := HB.out.all (dgF s)
      refine bodyPost_ret (v := .agg (wl .u8 (dgF s) 32).toArray) (results_arr Tryd.results43 _ _ (w.heap.size + 1) .u8 (dgF s) 32 _ rfl hres Tryd.underlying59 rfl (by kernel_rfl)) rfl ⟨rfl, ?_⟩
      exact below_setCells HL.out _ (by omega) _ _

/-- bytes of a list, as a function. -/
def bfn (l : List UInt8) (j : Nat) : Nat := (l.getD j 0).toNat
theorem bfn_lt (l : List UInt8) (j : Nat) : bfn l j < 256 := (l.getD j 0).toNat_lt
/-- one byte more. -/
def putF (Kc : Nat → Int) (p : (Nat → Int) × List UInt8) (c : UInt8) : (Nat → Int) × List UInt8 :=
  if p.2.length = 63 then (mixF Kc (bfn (p.2 ++ [c])) p.1, []) else (p.1, p.2 ++ [c])
/-- what Sum works on lies in memory. -/
structure Mem (w : World) (gB gF gS : Nat) (p : (Nat → Int) × List UInt8) : Prop where
  st : Arr .u32 w gS p.1 8
  ok : ∀ j, IsW (p.1 j)
  fill : w.cell? ⟨gF, 0, none⟩ = some (.int .i64 (p.2.length : Int))
  free : w.frozen? ⟨gF, 0, none⟩ = false
  less : p.2.length < 64
  blk : ∃ f : Nat → Int, Arr .u8 w gB f 64 ∧ ∀ j, j < p.2.length → f j = byteI (bfn p.2) j
theorem bfn_snoc (l : List UInt8) (c : UInt8) (j : Nat) (h : j < l.length) : bfn (l ++ [c]) j = bfn l j := by
  unfold bfn; rw [List.getD_eq_getElem?_getD, List.getD_eq_getElem?_getD, List.getElem?_append_left h]
theorem bfn_last (l : List UInt8) (c : UInt8) : bfn (l ++ [c]) l.length = c.toNat := by
  unfold bfn; simp

set_option maxRecDepth 10000 in
set_option maxHeartbeats 1000000 in
theorem put_any (Kc : Nat → Int) (c : UInt8) (p : (Nat → Int) × List UInt8) (gB gF gS B : Nat) (w : World) (hm : Mem w gB gF gS p) (hkt : KT Kc w) (hpos : 0 < B) (h1 : B ≤ gB) (h2 : B ≤ gF) (h3 : B ≤ gS) (n1 : gB ≠ gF) (n2 : gB ≠ gS) (n3 : gF ≠ gS) :
    Calls Tryd.prog 41 #[.int .u8 (c.toNat : Int), .pointer (some ⟨gB, 0, none⟩), .pointer (some ⟨gF, 0, none⟩), .pointer (some ⟨gS, 0, none⟩)] w fun e w' => e = .returned (.tuple #[]) ∧ Mem w' gB gF gS (putF Kc p c) ∧ Below B w w' := by
  obtain ⟨s, l⟩ := p
  obtain ⟨hS, hok, hF, fF, hlen, f, hB, hfl⟩ := hm
  dsimp only at hS hok hF hlen hfl
  obtain ⟨cB, fB⟩ := hB l.length hlen
  have HS : Hid (Arr .u32 w gS s 8) := hS
  have HB : Hid (Arr .u8 w gB f 64) := hB
  have HFL : Hid (∀ j, j < l.length → f j = byteI (bfn l) j) := hfl
  have HOK : Hid (∀ j, IsW (s j)) := hok
  have HKT : Hid (KT Kc w) := hkt
  have lS := hS.lt (by omega)
  have lB := hB.lt (by omega)
  have lF := World.block_lt_of_cell? w _ hF
  generalize hy : f l.length = y at cB
  clear hS hok hB hfl hkt hy
  have n1' := n1.symm
  have n2' := n2.symm
  have n3' := n3.symm
  by_cases h63 : l.length = 63
  · have hbf : ∀ j, j < 64 → upd f 63 (c.toNat : Int) j = byteI (bfn (l ++ [c])) j := by
      intro j hj
      by_cases e : j = 63
      · subst e; rw [upd_same]; unfold byteI; rw [← h63, bfn_last]
      · rw [upd_other _ _ _ _ e, HFL.out j (by omega)]; unfold byteI; rw [bfn_snoc l c j (by omega)]
    rw [h63] at hF cB fB
    have e0 : putF Kc (s, l) c = (mixF Kc (bfn (l ++ [c])) s, []) := by unfold putF; rw [if_pos h63]
    rw [e0]
    clear h63 hlen HFL e0
    have eB : Hid (Arr .u8 ((w.setCell ⟨gB, 63, none⟩ (.int .u8 (c.toNat : Int))).setCell ⟨gF, 0, none⟩ (.int .i64 64)) gB (byteI (bfn (l ++ [c]))) 64) := ((HB.out.set 63 (by omega) _).far _ _ (by simpa using n1')).congr hbf
    have eS : Hid (Arr .u32 ((w.setCell ⟨gB, 63, none⟩ (.int .u8 (c.toNat : Int))).setCell ⟨gF, 0, none⟩ (.int .i64 64)) gS s 8) := ((HS.out.far _ _ (by simpa using n2)).far _ _ (by simpa using n3))
    have eL : Hid (Below B w ((w.setCell ⟨gB, 63, none⟩ (.int .u8 (c.toNat : Int))).setCell ⟨gF, 0, none⟩ (.int .i64 64))) := ((Below.refl _ _).setCell h1 _).setCell h2 _
    have eZ : Hid (((w.setCell ⟨gB, 63, none⟩ (.int .u8 (c.toNat : Int))).setCell ⟨gF, 0, none⟩ (.int .i64 64)).heap.size = w.heap.size) := by simp [Hid]
    have eK := HKT.out.later eL.out hpos
    have hF2 : Hid (((w.setCell ⟨gB, 63, none⟩ (.int .u8 (c.toNat : Int))).setCell ⟨gF, 0, none⟩ (.int .i64 64)).cell? ⟨gF, 0, none⟩ = some (.int .i64 64)) := by
      refine scSame _ _ _ ?_; rw [World.cell?_setCell_other, hF]; rfl; (intro e; injection e with e1; exact n1 e1)
    have fF2 : Hid (((w.setCell ⟨gB, 63, none⟩ (.int .u8 (c.toNat : Int))).setCell ⟨gF, 0, none⟩ (.int .i64 64)).frozen? ⟨gF, 0, none⟩ = false) := by simpa [Hid] using fF
    have hmix := mix_any Kc s (bfn (l ++ [c])) (bfn_lt _) HOK.out _ _ rfl rfl _ eK (by rw [eZ.out]; omega)
    clear eK hbf
    go_enter Tryd.func41, Tryd.ntmps41
    go_upto_region 3 with fail
    generalize (w.setCell ⟨gB, 63, none⟩ (.int .u8 (c.toNat : Int))).setCell ⟨gF, 0, none⟩ (.int .i64 64) = W1 at eB eS eL eZ hF2 fF2 hmix
    have HK2 : Hid (∀ w2, Below W1.heap.size W1 w2 → Arr .u32 w2 gS s 8 ∧ (w2.setCells gS 0 (wl .u32 (mixF Kc (bfn (l ++ [c])) s) 8)).cell? ⟨gF, 0, none⟩ = some (.int .i64 64) ∧ (w2.setCells gS 0 (wl .u32 (mixF Kc (bfn (l ++ [c])) s) 8)).frozen? ⟨gF, 0, none⟩ = false) := by
      intro w2 hb2
      have hlF := World.block_lt_of_cell? W1 _ hF2.out
      refine ⟨eS.out.later hb2 (eS.out.lt (by omega)), ?_, ?_⟩
      · rw [cell_setCells_far _ _ _ _ n3', hb2.cell (p := ⟨gF, 0, none⟩) hlF]; exact hF2.out
      · rw [World.frozen?_setCells, hb2.frozen (p := ⟨gF, 0, none⟩) hlF]; exact fF2.out
    go_wp2_with (first
      | (go_at_call 42; go_must (refine hmix.mono ?_); rintro e w2 ⟨rfl, hb2⟩; obtain ⟨S2', hF3, fF3⟩ := HK2.out w2 hb2; have H2 : Hid (Below W1.heap.size W1 w2) := hb2; have S2 : Hid (Arr .u32 w2 gS s 8) := S2'; clear hb2 S2')
      | (refine wpList_load_arr rfl 99 _ rfl gS rfl .u32 s 8 _ ?_ Tryd.underlying99 rfl (by kernel_rfl) ?_; exact eS.out)
      | (refine wpList_load_arr rfl 100 _ rfl gB rfl .u8 (byteI (bfn (l ++ [c]))) 64 _ ?_ Tryd.underlying100 rfl (by kernel_rfl) ?_; exact eB.out)
      | (refine wpList_store_arr rfl 99 _ _ rfl gS .u32 s (mixF Kc (bfn (l ++ [c])) s) 8 rfl rfl ?_ (by kernel_rfl) ?_; exact S2.out))
    go_end0
    have hz := H2.out.size
    have hz1 := eZ.out
    refine ⟨rfl, ⟨(S2.out.all _).far _ _ n3, mixF_ok _ _ _, ?_, by simpa using fF3, by simp, ?_⟩, ?_⟩
    · rw [scSame]
      · rfl
      · rw [hF3]; rfl
    · exact ⟨_, ((eB.out.later H2.out (eB.out.lt (by omega))).setsFar _ _ n2).far _ _ n1', fun j hj => by simp at hj⟩
    · exact (below_setCells (eL.out.trans (H2.out.mono (by omega))) gS h3 _ _).setCell h2 _
  · have hlt : (l.length : Int) < 63 := by omega
    go_enter Tryd.func41, Tryd.ntmps41
    go_wp2
    go_end0
    have e0 : putF Kc (s, l) c = (s, l ++ [c]) := by unfold putF; rw [if_neg h63]
    rw [e0]
    refine ⟨rfl, ⟨(HS.out.far _ _ n2).far _ _ n3, HOK.out, ?_, by simpa using fF, by simp; omega, ?_⟩, ((Below.refl _ _).setCell h1 _).setCell h2 _⟩
    · rw [scSame]
      · simp
      · rw [World.cell?_setCell_other, hF]; rfl; (intro e; injection e with e1; exact n1 e1)
    · refine ⟨upd f l.length (c.toNat : Int), (HB.out.set l.length hlen _).far _ _ n1', ?_⟩
      intro j hj
      by_cases e : j = l.length
      · subst e; rw [upd_same]; unfold byteI; rw [bfn_last]
      · have hj2 : j < l.length := by simp at hj; omega
        rw [upd_other _ _ _ _ e, HFL.out j hj2]; unfold byteI; rw [bfn_snoc l c j hj2]
end Go.Proofs.YtkmalggeieiepabDoor
