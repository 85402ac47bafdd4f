import Derived.Test.YtkmalggeieiepabDoorRpD
import Derived.WalkKit
import Derived.WalkSpells
import Derived.WalkLawsBesides
import Derived.Deep.MidRow
import Derived.Deep.DeepCutAuto
import Derived.Deep.LoopGhost
namespace Go.Proofs.YtkmalggeieiepabDoor
open Go.RowKit

theorem up_all {p : ByteArray → Prop} (d : ByteArray → ByteArray) (hd : ∀ t, p (d t)) : ∀ l : List ByteArray, ∀ s ∈ upL d l, p s
  | [], s, h => by cases h
  | [_], s, h => by cases h
  | a :: b :: r, s, h => by
    rcases List.mem_cons.1 h with rfl | h
    · exact hd _
    · exact up_all d hd r s h

/-- the root is under way. -/
structure Rt (Kc : Nat → Int) (w wx : World) (R : ByteArray × Bool) (m : List ByteArray) (b' o' cap' : Nat) (t : Bool) : Prop where
  hne : 0 < m.length
  hlen : m.length ≤ 300
  hcap : m.length ≤ cap'
  h32 : ∀ s ∈ m, s.size = 32
  hrow : DRow wx b' o' m
  hR : rootF (dd Kc) m t = R
  harr : Arr .u8 wx w.heap.size (fun _ => 0) 32
  hbel : Below w.heap.size w wx

set_option maxRecDepth 10000 in
set_option maxHeartbeats 2000000 in
theorem hroot_any (Kc : Nat → Int) (l : List ByteArray) (b o cap : Nat) (w : World) (hrow : DRow w b o l) (hne : 0 < l.length) (hlen : l.length ≤ 300) (hcap : l.length ≤ cap) (h32 : ∀ s ∈ l, s.size = 32) (hkt : KT Kc w) :
    Calls Tryd.prog 31 #[.slice (some ⟨b, o, none⟩) l.length cap] w fun e w' => e = .returned (.tuple #[aggD (rootF (dd Kc) l false).1, .bool (rootF (dd Kc) l false).2]) ∧ (rootF (dd Kc) l false).1.size = 32 ∧ Below w.heap.size w w' := by
  have hbw : b < w.heap.size := hrow.lt hne h32
  obtain ⟨n, hn⟩ : ∃ n, n = l.length := ⟨_, rfl⟩
  have HP : Hid (∀ (m : List ByteArray) (b o cap : Nat) (W : World), DRow W b o m → 0 < m.length → m.length ≤ 300 → m.length ≤ cap → (∀ s ∈ m, s.size = 32) → Below w.heap.size w W → Calls Tryd.prog 56 #[.slice (some ⟨b, o, none⟩) m.length cap] W fun e w' => ∃ g cap', e = .returned (.tuple #[.slice (some ⟨g, 0, none⟩) (upL (dd Kc) (evL m)).length cap', .bool (twinL m)]) ∧ (upL (dd Kc) (evL m)).length ≤ cap' ∧ DRow w' g 0 (upL (dd Kc) (evL m)) ∧ Below W.heap.size W w') :=
    fun m b o cap W h1 h2 h3 h4 h5 h6 => pairUp_any Kc m b o cap W h1 h2 h3 h4 h5 (hkt.later h6 (World.block_lt_of_cell? w _ (hkt 0 (by omega))))
  obtain ⟨R, hR⟩ : ∃ R, R = rootF (dd Kc) l false := ⟨_, rfl⟩
  rw [← hR]
  have hlz : ((l.length : Int) == 0) = false := by rw [beq_eq_false_iff_ne]; omega
  go_enter Tryd.func31, Tryd.ntmps31
  go_upto_region 1 with fail
  obtain ⟨W0, hW0⟩ : ∃ W, W = w.alloc (.cells #[.int .u8 0, .int .u8 0, .int .u8 0, .int .u8 0, .int .u8 0, .int .u8 0, .int .u8 0, .int .u8 0, .int .u8 0, .int .u8 0, .int .u8 0, .int .u8 0, .int .u8 0, .int .u8 0, .int .u8 0, .int .u8 0, .int .u8 0, .int .u8 0, .int .u8 0, .int .u8 0, .int .u8 0, .int .u8 0, .int .u8 0, .int .u8 0, .int .u8 0, .int .u8 0, .int .u8 0, .int .u8 0, .int .u8 0, .int .u8 0, .int .u8 0, .int .u8 0] 59) := ⟨_, rfl⟩
  have hA0 : Arr .u8 W0 w.heap.size (fun _ => 0) 32 := by rw [hW0]; exact Arr.new w _ 32 _ _ (by rfl)
  have hB0 : Below w.heap.size w W0 := by rw [hW0]; exact (Below.refl _ _).alloc (Nat.le_refl _) _
  have HS : Hid (Rt Kc w W0 R l b o cap false) := ⟨hne, hlen, hcap, h32, hrow.later hB0 hbw, hR.symm, hA0, hB0⟩
  have HLN : Hid (l.length = n) := hn.symm
  rw [← hW0]
  rw [← hn] at hlz
  rw [← hn]
  clear hW0 hA0 hB0 hR hrow h32 hkt hcap hbw hne hlen hn
  go_upto_region 4 with fail
  go_loopg [4, 5, 6, 7] n (fun g rv tv _ _ wx => ∃ (m : List ByteArray) (b' o' cap' : Nat) (t : Bool), rv = .slice (some ⟨b', o', none⟩) g cap' ∧ tv = .bool t ∧ m.length = g ∧ Rt Kc w wx R m b' o' cap' t)
  case atStart => exact ⟨l, b, o, cap, false, rfl, rfl, HLN.out, HS.out⟩
  case round =>
    clear HS HLN hlz
    obtain ⟨m, b', o', cap', t, rfl, rfl, hml, hrt⟩ := hrel
    have HRT : Hid (Rt Kc w wr R m b' o' cap' t) := hrt
    have hne := hrt.hne
    rw [hml] at hne
    by_cases h1 : 1 < gk
    · have k1 : (1 : Int) < (gk : Int) := by omega
      have hc := HP.out m b' o' cap' wr hrt.hrow hrt.hne hrt.hlen hrt.hcap hrt.h32 hrt.hbel
      have hup : (upL (dd Kc) (evL m)).length < m.length ∧ 0 < (upL (dd Kc) (evL m)).length := up_lt (dd Kc) m (by omega)
      have HUPL : Hid ((upL (dd Kc) (evL m)).length < gk) := by show _ < _; omega
      have HNX : Hid (∀ (g cap'' : Nat) (w' : World), (upL (dd Kc) (evL m)).length ≤ cap'' → DRow w' g 0 (upL (dd Kc) (evL m)) → Below wr.heap.size wr w' → Rt Kc w w' R (upL (dd Kc) (evL m)) g 0 cap'' (t || twinL m)) := fun g cap'' w' hc' hd' hb' => by
        have h := HRT.out
        have hz := h.hbel.size
        refine ⟨hup.2, by have := h.hlen; omega, hc', up_all (p := fun s => s.size = 32) (dd Kc) (dd_size Kc) _, hd', ?_, h.harr.later hb' (h.harr.lt (by omega)), h.hbel.trans (hb'.mono hz)⟩
        rw [← rootF_up (dd Kc) m t (by omega)]; exact h.hR
      rw [hml] at hc
      clear hrt HRT hup hml
      generalize upL (dd Kc) (evL m) = U at hc HUPL HNX
      generalize twinL m = T at hc HNX
      cases t
      · go_wp2_with (go_at_call 56; go_must (refine hc.mono ?_); rintro e w1 ⟨g1, c1, rfl, hc1, hd1, hb1⟩; have HN1 := (show Hid (Rt Kc w w1 R U g1 0 c1 (false || T)) from HNX.out g1 c1 w1 hc1 hd1 hb1); clear hc1 hd1 hb1)
        go_roundg U.length
        case measure => exact HUPL.out
        case rel => exact ⟨U, g1, 0, c1, false || T, rfl, by simp, rfl, HN1.out⟩
      · go_wp2_with (go_at_call 56; go_must (refine hc.mono ?_); rintro e w1 ⟨g1, c1, rfl, hc1, hd1, hb1⟩; have HN1 := (show Hid (Rt Kc w w1 R U g1 0 c1 (true || T)) from HNX.out g1 c1 w1 hc1 hd1 hb1); clear hc1 hd1 hb1)
        go_roundg U.length
        case measure => exact HUPL.out
        case rel => exact ⟨U, g1, 0, c1, true || T, rfl, by simp, rfl, HN1.out⟩
    · have hg1 : gk = 1 := by omega
      subst hg1
      obtain ⟨x, rfl⟩ : ∃ x, m = [x] := by
        match m, hml with
        | [x], _ => exact ⟨x, rfl⟩
        | [], h => simp at h
        | _ :: _ :: _, h => simp at h
      have hx : x.size = 32 := hrt.h32 x List.mem_cons_self
      have HX : Hid (wr.rangeAt b' o' (wl .u8 (byF x) 32)) := by show wr.rangeAt _ _ _; rw [← bc_wl x 32 hx]; exact hrt.hrow 0 (by simp)
      have HRE : Hid (R = (x, t)) := by show R = _; rw [← hrt.hR]; exact rootF_one (dd Kc) [x] t rfl
      have HA : Hid (Arr .u8 wr w.heap.size (fun _ => 0) 32) := hrt.harr
      have HB : Hid (Below w.heap.size w wr) := hrt.hbel
      have HX2 : Hid (aggD x = .agg (wl .u8 (byF x) 32).toArray ∧ x.size = 32) := ⟨by unfold aggD; rw [bc_wl x 32 hx], hx⟩
      clear hrt HRT hml hne hx
      go_wp2_with (first
        | (refine wpList_load_mid rfl 59 _ rfl b' o' rfl (wl .u8 (byF x) 32) _ HX.out Tryd.underlying59 rfl ?_ ?_; (rw [wl_length]; exact sizeDig))
        | (refine wpList_store_arr rfl 59 _ _ rfl w.heap.size .u8 (fun _ => 0) (byF x) 32 rfl rfl ?_ sizeDig ?_; exact HA.out))
      refine bodyPost_ret (results_arr2 Tryd.results31 _ _ w.heap.size .u8 (byF x) 32 _ _ rfl rfl (HA.out.all _) Tryd.underlying59 rfl sizeDig) rfl ⟨by rw [HRE.out, HX2.out.1]; rfl, by rw [HRE.out]; exact HX2.out.2, ?_⟩
      exact below_setCells HB.out _ (Nat.le_refl _) _ _
end Go.Proofs.YtkmalggeieiepabDoor
