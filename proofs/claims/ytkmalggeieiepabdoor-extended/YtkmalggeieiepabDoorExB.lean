import Derived.Test.YtkmalggeieiepabDoorExA
import Derived.WalkKit
import Derived.WalkSpells
import Derived.WalkLawsBesides
import Derived.Deep.LoopGhost
import Derived.Deep.DeepCutAuto
import Derived.OneCell
import Derived.OwnWalk
import Derived.Deep.AppendLies
import Derived.OrdersHeld
import Derived.Deep.RegionHeld3
set_option linter.unusedSimpArgs false
namespace Go.Proofs.YtkmalggeieiepabDoor
open Go.RowKit

theorem kown_set {w : World} {base e g n cap : Nat} {xs : List Value} (h : w.ownsRow base e 1 (.slice (some ⟨g, 0, none⟩) n cap) n xs) (i : Nat) (hi : i < n) (u : Value) : (w.setCell ⟨g, i, none⟩ u).ownsRow base e 1 (.slice (some ⟨g, 0, none⟩) n cap) n (xs.set i u) := by
  obtain ⟨h1, h2⟩ := h
  refine ⟨by rw [List.length_set]; exact h1, ?_⟩
  rcases h2 with ⟨hv, _⟩ | ⟨g', cap', cur, hv, hb, hg, hc, hm, hs, ht⟩
  · cases hv
  · injection hv with e1 e2 e3
    injection e1 with e4
    injection e4 with e5
    subst e5 e3
    refine .inr ⟨g, cap, cur.setIfInBounds i u, rfl, hb, heap_setCell_same w g i cur e u hg, hc, hm, by simpa using hs, ?_⟩
    rw [← ht, Nat.mul_one]
    apply List.ext_getElem?
    intro j
    simp only [List.getElem?_take, List.getElem?_set, Array.toList_setIfInBounds, List.length_take]
    by_cases hj : j < n
    · rw [if_pos hj, if_pos hj]
      by_cases hij : i = j
      · subst hij
        have : i < cur.toList.length := by rw [Array.length_toList, hs]; omega
        rw [if_pos rfl, if_pos rfl, if_pos this, if_pos (by omega)]
      · rw [if_neg hij, if_neg hij]
    · rw [if_neg hj, if_neg (by omega), if_neg hj]
/-- the two lists are under way. -/
structure El (w wx : World) (ka kb : Nat) (la lb : List ByteArray) (av bv : Value) : Prop where
  ha : la.length = ka
  hb : lb.length = kb
  a32 : ∀ s ∈ la, s.size = 32
  b32 : ∀ s ∈ lb, s.size = 32
  oa : wx.ownsRow w.heap.size 9 1 av ka (strV la)
  ob : wx.ownsRow w.heap.size 9 1 bv kb (strV lb)
  hd : ∀ x, av.ownBlock = some x → bv.ownBlock ≠ some x
  bel : Below w.heap.size w wx
theorem El.swap {w wx : World} {ka kb : Nat} {la lb : List ByteArray} {av bv : Value} (h : El w wx ka kb la lb av bv) : El w wx kb ka lb la bv av := ⟨h.hb, h.ha, h.b32, h.a32, h.ob, h.oa, fun x hx hy => h.hd x hy hx, h.bel⟩
theorem El.later {w wx wy : World} {ka kb : Nat} {la lb : List ByteArray} {av bv : Value} (h : El w wx ka kb la lb av bv) (hb : Below wx.heap.size wx wy) : El w wy ka kb la lb av bv := ⟨h.ha, h.hb, h.a32, h.b32, own_after h.oa hb, own_after h.ob hb, h.hd, h.bel.trans (hb.mono h.bel.size)⟩
theorem kown_lt {w : World} {base e size n : Nat} {v : Value} {xs : List Value} (h : w.ownsRow base e size v n xs) : ∀ k, v.ownBlock = some k → k < w.heap.size := by
  intro k hk
  rcases h.2 with ⟨rfl, _⟩ | ⟨g, cap, cur, rfl, _, hg, _⟩
  · simp [Value.ownBlock] at hk
  · simp [Value.ownBlock] at hk; subst hk; exact lt_of_block hg
theorem one_s (W : World) (s : ByteArray) : ∀ j u, [Value.string s][j]? = some u → (W.alloc (.cells #[.string s] 9)).cell? ((⟨W.heap.size, 0, none⟩ : Addr).add j) = some u := World.news_of_block (heap_alloc_new W _)
theorem one_sc (s : ByteArray) : ∀ u ∈ [Value.string s], u.oneCell' = true := by intro u hu; simp at hu; subst hu; rfl
theorem own_grown {w w' : World} {base e size n : Nat} {v : Value} {xs : List Value} {row : Option Nat} (h : w.ownsRow base e size v n xs) (hg : w.grownBy w' row) (hne : v.ownBlock = none ∨ v.ownBlock ≠ row) : w'.ownsRow base e size v n xs := by
  obtain ⟨h1, h2⟩ := h
  refine ⟨h1, ?_⟩
  rcases h2 with h2 | ⟨g, cap, cur, hv, hb, hh, r⟩
  · exact .inl h2
  · subst hv
    refine .inr ⟨g, cap, cur, rfl, hb, ?_, r⟩
    rw [hg.block g (lt_of_block hh) (fun e => ?_)]; exact hh
    rcases hne with hne | hne
    · cases hne
    · exact hne e

theorem El.appA {w W4 w5 : World} {ka kb g5 c5 H : Nat} {la lb : List ByteArray} {a b : Value} {d : ByteArray} (h : El w W4 ka kb la lb a b) (ho : w5.ownsRow w.heap.size 9 1 (.slice (some ⟨g5, 0, none⟩) (ka + 1) c5) (ka + 1) (strV la ++ [.string d])) (hgr : W4.grownBy w5 a.ownBlock) (hat : a.ownBlock = some g5 ∨ g5 = H) (hH : W4.heap.size = H) (hd : d.size = 32) :
    El w w5 (ka + 1) kb (la ++ [d]) lb (.slice (some ⟨g5, 0, none⟩) (ka + 1) c5) b := by
  refine ⟨by simp [h.ha], h.hb, ?_, h.b32, ?_, ?_, ?_, ?_⟩
  · intro s hs
    rcases List.mem_append.1 hs with h1 | h1
    · exact h.a32 s h1
    · simp at h1; rw [h1]; exact hd
  · rw [show strV (la ++ [d]) = strV la ++ [.string d] by simp [strV]]; exact ho
  · refine own_grown h.ob hgr ?_
    cases hb : b.ownBlock with
    | none => exact .inl rfl
    | some x => exact .inr (fun e => h.hd x e.symm hb)
  · intro x hx hb
    have hx' : g5 = x := by simpa [Value.ownBlock] using hx
    subst hx'
    rcases hat with h1 | h1
    · exact h.hd g5 h1 hb
    · have := kown_lt h.ob g5 hb; omega
  · exact h.bel.grown hgr h.bel.size (ownB_ge h.oa)
theorem El.setB {w wx : World} {ka kb g c i : Nat} {la lb : List ByteArray} {a : Value} (h : El w wx ka kb la lb a (.slice (some ⟨g, 0, none⟩) kb c)) (hi : i < kb) (d : ByteArray) (hd : d.size = 32) :
    El w (wx.setCell ⟨g, i, none⟩ (.string d)) ka kb la (lb.set i d) a (.slice (some ⟨g, 0, none⟩) kb c) := by
  refine ⟨h.ha, by rw [List.length_set]; exact h.hb, h.a32, ?_, ?_, ?_, h.hd, ?_⟩
  · intro s hs
    rcases List.mem_or_eq_of_mem_set hs with h1 | h1
    · exact h.b32 s h1
    · rw [h1]; exact hd
  · exact ownsRow_setCell_other h.oa (fun e => h.hd g e rfl) _
  · have := kown_set h.ob i hi (.string d)
    rw [show strV (lb.set i d) = (strV lb).set i (.string d) by simp [strV, List.map_set]]; exact this
  · exact h.bel.setCell (ownB_ge h.ob g rfl) _
theorem q_stepv {P : Program} {ops : Array Oper} {o : Oper} {a : Act} {w : World} {K : Act → World → Prop} {Q : Exit → Act → World → Prop} {E : Prop} (v : Value) (w' : World) (hg : o.guard = none)
    (h : (execOp a.eval o).run P w = .ok (.value v) w') (hk : K (a.put o.dst v) w') : if Region.wanted o (yielded ops a.tmps) = true then Oper.wp P o a w K Q else E := by
  have hw : Region.wanted o (yielded ops a.tmps) = true := by simp [Region.wanted, hg]
  rw [if_pos hw]
  unfold Oper.wp; rw [h]; exact hk
theorem srow_of {w : World} {base g cap n : Nat} {l : List ByteArray} (hn : l.length = n) (h : w.ownsRow base 9 1 (.slice (some ⟨g, 0, none⟩) n cap) n (strV l)) : SRow w g 0 l := own_srow hn h
theorem own_free {w : World} {base e g cap n i : Nat} {xs : List Value} (h : w.ownsRow base e 1 (.slice (some ⟨g, 0, none⟩) n cap) n xs) (_ : i < n) : w.frozen? ⟨g, i, none⟩ = false := by
  rcases h.2 with ⟨hv, _⟩ | ⟨g', cap', cur, hv, _, hg, _⟩
  · cases hv
  · injection hv with e1
    injection e1 with e4
    injection e4 with e5
    subst e5
    exact frozen_of_row _ _ _ _ _ hg

theorem srow6 {v6 : World} {base g6 c6 m : Nat} {lq : List ByteArray} {z : ByteArray} (h : v6.ownsRow base 9 1 (.slice (some ⟨g6, 0, none⟩) (0 + m + 1) c6) (0 + m + 1) ([] ++ strV lq ++ [.string z])) (hl : lq.length = m) : SRow v6 g6 0 (lq ++ [z]) := by
  have e : [] ++ strV lq ++ [Value.string z] = strV (lq ++ [z]) := by simp [strV]
  rw [e] at h
  exact own_srow (by simp [hl]) h
theorem own3 {vq : World} {base g c : Nat} {l : List ByteArray} {z : ByteArray} (h : vq.ownsRow base 9 1 (.slice (some ⟨g, 0, none⟩) (2 + 1) c) (2 + 1) (strV l ++ [.string z])) : vq.ownsRow base 9 1 (.slice (some ⟨g, 0, none⟩) 3 c) 3 (strV (l ++ [z])) := by
  have e : strV l ++ [Value.string z] = strV (l ++ [z]) := by simp [strV]
  rw [e] at h
  exact h
theorem odd_facts (Kc : Nat → Int) (w vq : World) (lo : List ByteArray) (z : ByteArray) (gq cq m base : Nat)
    (hroot : Hid (∀ (l : List ByteArray) (b o cap : Nat) (W : World), SRow W b o l → 0 < l.length → l.length ≤ 300 → Below w.heap.size w W → Calls Tryd.prog 18 #[.slice (some ⟨b, o, none⟩) l.length cap] W fun e w' => e = .returned (.tuple (rootRes Kc l)) ∧ Below W.heap.size W w'))
    (hoq : vq.ownsRow base 9 1 (.slice (some ⟨gq, 0, none⟩) m cq) m (strV (lo ++ [z]))) (hbq : Below w.heap.size w vq) (hm : (lo ++ [z]).length = m) (hodd : m % 2 = 1) (h1 : 1 < m) (h18 : m ≤ 18) (h32 : ∀ s ∈ lo ++ [z], s.size = 32) :
    ∃ (X : ByteArray) (tX : Bool), Hid (∀ W, Below vq.heap.size vq W → Calls Tryd.prog 18 #[.slice (some ⟨gq, 0, none⟩) m cq] W fun e w' => e = .returned (.tuple #[.string X, .bool tX, .int .i64 0]) ∧ Below W.heap.size W w')
      ∧ Hid (∀ (W : World) (g c : Nat), Below vq.heap.size vq W → SRow W g 0 (lo ++ [z] ++ [z]) → Calls Tryd.prog 18 #[.slice (some ⟨g, 0, none⟩) (0 + m + 1) c] W fun e w' => e = .returned (.tuple #[.string X, .bool true, .int .i64 0]) ∧ Below W.heap.size W w')
      ∧ Hid (∀ W, Below vq.heap.size vq W → W.cell? ⟨gq, m - 1, none⟩ = some (.string z)) ∧ Hid (∀ W, Below vq.heap.size vq W → SRow W gq 0 (lo ++ [z])) := by
  have hB : ∀ W, Below vq.heap.size vq W → Below w.heap.size w W := fun W hb => hbq.trans (hb.mono hbq.size)
  have hS : ∀ W, Below vq.heap.size vq W → SRow W gq 0 (lo ++ [z]) := fun W hb => srow_of hm (own_after hoq hb)
  have e1 : rootRes Kc (lo ++ [z]) = #[.string (rootF (dd Kc) (lo ++ [z]) false).1, .bool (rootF (dd Kc) (lo ++ [z]) false).2, .int .i64 0] := by unfold rootRes; rw [if_pos ⟨by omega, h32⟩]
  have h32' : ∀ s ∈ lo ++ [z] ++ [z], s.size = 32 := fun s hs => by
    rcases List.mem_append.1 hs with h | h
    · exact h32 s h
    · simp at h; rw [h]; exact h32 z (by simp)
  have hl2 : (lo ++ [z] ++ [z]).length = 0 + m + 1 := by rw [List.length_append, hm]; simp
  have e2 : rootRes Kc (lo ++ [z] ++ [z]) = #[.string (rootF (dd Kc) (lo ++ [z]) false).1, .bool true, .int .i64 0] := by
    unfold rootRes; rw [if_pos ⟨by rw [hl2]; omega, h32'⟩, root_odd (dd Kc) lo z (by rw [hm]; exact hodd) (by rw [hm]; exact h1)]
  refine ⟨(rootF (dd Kc) (lo ++ [z]) false).1, (rootF (dd Kc) (lo ++ [z]) false).2, fun W hb => ?_, fun W g c hb hr => ?_, fun W hb => ?_, hS⟩
  · have h := hroot.out (lo ++ [z]) gq 0 cq W (hS W hb) (by omega) (by omega) (hB W hb)
    rw [e1, hm] at h; exact h
  · have h := hroot.out (lo ++ [z] ++ [z]) g 0 c W hr (by rw [hl2]; omega) (by rw [hl2]; omega) (hB W hb)
    rw [e2, hl2] at h; exact h
  · have h := hS W hb (m - 1) (by omega)
    rw [Nat.zero_add] at h
    rw [h]
    congr 2
    have hlo : lo.length = m - 1 := by simp at hm; omega
    simp [← hlo]

set_option maxRecDepth 10000 in
set_option maxHeartbeats 4000000 in
theorem extended_walk (Kc : Nat → Int) (c n : Int) (w : World) (h1 : -9223372036854775808 ≤ n) (h2 : n ≤ 9223372036854775807) (hkt : KT Kc w) :
    Calls Tryd.prog 5 #[.int .i64 c, .int .i64 n] w fun e w' => e = .returned (.bool true) ∧ Below w.heap.size w w' := by
  obtain ⟨i0, hi, hz0, hz1, hz2⟩ := info_parts infoStr
  have hpos : 0 < w.heap.size := World.block_lt_of_cell? w _ (hkt 0 (by omega))
  have HSUM : Hid (∀ (s : ByteArray) (W : World), s.size ≤ 64 → Below w.heap.size w W → Calls Tryd.prog 7 #[.string s] W fun e w' => e = .returned (.string (strOf (shaF Kc s.data.toList) 32)) ∧ Below W.heap.size W w') := fun s W hs hb => relaySum_any Kc s W (hkt.later hb hpos) (Nat.lt_of_lt_of_le hpos hb.size) (by omega)
  have HROOT : Hid (∀ (l : List ByteArray) (b o cap : Nat) (W : World), SRow W b o l → 0 < l.length → l.length ≤ 300 → Below w.heap.size w W → Calls Tryd.prog 18 #[.slice (some ⟨b, o, none⟩) l.length cap] W fun e w' => e = .returned (.tuple (rootRes Kc l)) ∧ Below W.heap.size W w') := fun l b o cap W h1 h2 h3 h4 => rroot_any Kc l b o cap W h1 h2 h3 (hkt.later h4 hpos)
  have HPK := pick_any n w h1 h2
  have H3 : Hid (∀ (x : Int) (W : World), Calls Tryd.prog 17 #[.int .i64 3, .int .i64 x] W fun e w' => (∃ s : ByteArray, s.size = 3 ∧ e = .returned (.string s)) ∧ Below W.heap.size W w') := fun x W => kbytes_any 3 x W (by omega)
  have H2 : Hid (∀ (x : Int) (W : World), Calls Tryd.prog 17 #[.int .i64 2, .int .i64 x] W fun e w' => (∃ s : ByteArray, s.size = 2 ∧ e = .returned (.string s)) ∧ Below W.heap.size W w') := fun x W => kbytes_any 2 x W (by omega)
  clear hkt hpos h1 h2
  go_enter Tryd.func5, Tryd.ntmps5
  go_upto_region 1 with fail
  go_cut [1] (fun nv wx => ∃ (N r : Nat), nv = .int .i64 (N : Int) ∧ N = 2 ^ r ∧ r < 5 ∧ wx = w)
  case first =>
    go_wp2_with (go_at_call 14; go_must (refine HPK.mono ?_); rintro e w1 ⟨⟨r, hr, rfl⟩, rfl⟩)
    go_meet
    refine ⟨2 ^ r, r, ?_, rfl, hr, rfl⟩
    have hr' : r = 0 ∨ r = 1 ∨ r = 2 ∨ r = 3 ∨ r = 4 := by omega
    rcases hr' with rfl | rfl | rfl | rfl | rfl <;> (congr 1; unfold wrap64; omega)
  case rest =>
  obtain ⟨N, r, rfl, hN, hr, hwc⟩ := hcut
  subst hwc
  obtain ⟨wstart, hws⟩ : ∃ v, v = wc := ⟨_, rfl⟩
  subst hws
  have HNR : Hid (N = 2 ^ r) := hN
  have hN1 : 1 ≤ N := by rw [hN]; exact Nat.one_le_two_pow
  have hN16 : N ≤ 16 := by
    have hr' : r = 0 ∨ r = 1 ∨ r = 2 ∨ r = 3 ∨ r = 4 := by omega
    rcases hr' with rfl | rfl | rfl | rfl | rfl <;> (rw [hN]; decide)
  clear hN hr HPK
  go_upto_region 4 with fail
  go_loopg [5, 6, 7, 26] N (fun g av bv _ iv wx => ∃ (k : Nat) (la lb : List ByteArray) (a b : Value), k + g = N ∧ iv = .int .i64 (k : Int) ∧ a = av ∧ b = bv ∧ El wstart wx k k la lb a b)
  case atStart => exact ⟨0, [], [], _, _, by omega, rfl, rfl, rfl, rfl, rfl, (fun s hs => by cases hs), (fun s hs => by cases hs), World.ownsRow_nil _ _ _ _, World.ownsRow_nil _ _ _ _, (fun x hx => by cases hx), Below.refl _ _⟩
  case round =>
    obtain ⟨k, la, lb, a, b, hkn, rfl, rfl, rfl, hel⟩ := hrel
    have HEL : Hid (El wstart wr k k la lb a b) := hel
    have HKN : Hid (k + gk = N) := hkn
    clear hel
    by_cases hlt : k < N
    · have k1 : (k : Int) < (N : Int) := by omega
      clear hkn hlt
      go_upto_region 6 with fail
      have H3a := H3
      go_upto_region 7 with (first
        | (go_at_call 17; refine (H3a.out _ _).mono ?_; rintro e w1 ⟨⟨s1, hs1, rfl⟩, hb1⟩; have HB1 := (show Hid (Below wr.heap.size wr w1) from hb1); clear hb1 H3a)
        | (go_at_call 17; go_must (refine (H2.out _ _).mono ?_); rintro e w2 ⟨⟨s2, hs2, rfl⟩, hb2⟩; have HB2 := (show Hid (Below wr.heap.size wr w2) from HB1.out.trans (hb2.mono HB1.out.size)); clear hb2)
        | (go_at_call 7; go_must (refine (HSUM.out _ _ (by rw [ByteArray.size_append, ByteArray.size_append, hs1, hs2]; decide) (HEL.out.bel.trans (HB2.out.mono HEL.out.bel.size))).mono ?_); rintro e w3 ⟨rfl, hb3⟩; have HB3 := (show Hid (Below wr.heap.size wr w3) from HB2.out.trans (hb3.mono HB2.out.size)); have HD1 := (show Hid ((strOf (shaF Kc (s1 ++ { data := #[97] } ++ s2).data.toList) 32).size = 32) from strOf_size _ _); clear hb3; generalize strOf (shaF Kc (s1 ++ { data := #[97] } ++ s2).data.toList) 32 = d1 at HD1; have HL4 := (show Hid (El wstart (w3.alloc (.cells #[.string d1] 9)) k k la lb a b) from HEL.out.later (HB3.out.alloc HB3.out.size _)))
        | (at_builtin; go_must (refine wpList_append_lies _ rfl _ _ 30 rfl wstart.heap.size 9 i0 (.string ByteArray.empty) 1 16 Tryd.underlying30 hi hz0 hz1 hz2 rfl (by decide) a k (strV la) rfl HL4.out.oa ⟨w3.heap.size, 0, none⟩ 1 1 [.string d1] rfl rfl (one_s w3 d1) (one_sc d1) (by omega) (by unfold maxLen; omega) (by omega) (Nat.le_trans HL4.out.bel.size (Nat.le_refl _)) _ rfl ?_); intro g5 c5 w5 ho hgr hat hlt4; have HL5 := (show Hid (El wstart w5 (k + 1) k (la ++ [d1]) lb (.slice (some ⟨g5, 0, none⟩) (k + 1) c5) b) from HL4.out.appA ho hgr hat rfl HD1.out); clear ho hgr hat hlt4))
      clear HEL HB1 HB2 HB3 HL4 hs1 hs2 HD1
      have H3a := H3
      go_upto_region 8 with (first
        | (go_at_call 17; refine (H3a.out _ _).mono ?_; rintro e w6 ⟨⟨s3, hs3, rfl⟩, hb1⟩; have HB6 := (show Hid (Below w5.heap.size w5 w6) from hb1); clear hb1 H3a)
        | (go_at_call 17; go_must (refine (H2.out _ _).mono ?_); rintro e w7 ⟨⟨s4, hs4, rfl⟩, hb2⟩; have HB7 := (show Hid (Below w5.heap.size w5 w7) from HB6.out.trans (hb2.mono HB6.out.size)); clear hb2)
        | (go_at_call 7; go_must (refine (HSUM.out _ _ (by rw [ByteArray.size_append, ByteArray.size_append, hs3, hs4]; decide) (HL5.out.bel.trans (HB7.out.mono HL5.out.bel.size))).mono ?_); rintro e w8 ⟨rfl, hb3⟩; have HB8 := (show Hid (Below w5.heap.size w5 w8) from HB7.out.trans (hb3.mono HB7.out.size)); have HD2 := (show Hid ((strOf (shaF Kc (s3 ++ { data := #[98] } ++ s4).data.toList) 32).size = 32) from strOf_size _ _); clear hb3; generalize strOf (shaF Kc (s3 ++ { data := #[98] } ++ s4).data.toList) 32 = d2 at HD2; have HL8 := (show Hid (El wstart (w8.alloc (.cells #[.string d2] 9)) (k + 1) k (la ++ [d1]) lb (.slice (some ⟨g5, 0, none⟩) (k + 1) c5) b) from HL5.out.later (HB8.out.alloc HB8.out.size _)))
        | (at_builtin; go_must (refine wpList_append_lies _ rfl _ _ 30 rfl wstart.heap.size 9 i0 (.string ByteArray.empty) 1 16 Tryd.underlying30 hi hz0 hz1 hz2 rfl (by decide) b k (strV lb) rfl HL8.out.ob ⟨w8.heap.size, 0, none⟩ 1 1 [.string d2] rfl rfl (one_s w8 d2) (one_sc d2) (by omega) (by unfold maxLen; omega) (by omega) (Nat.le_trans HL8.out.bel.size (Nat.le_refl _)) _ rfl ?_); intro g9 c9 w9 ho hgr hat hlt4; have HL9 := (show Hid (El wstart w9 (k + 1) (k + 1) (la ++ [d1]) (lb ++ [d2]) (.slice (some ⟨g5, 0, none⟩) (k + 1) c5) (.slice (some ⟨g9, 0, none⟩) (k + 1) c9)) from (HL8.out.swap.appA ho hgr hat rfl HD2.out).swap); clear ho hgr hat hlt4))
      clear HL5 HB6 HB7 HB8 HL8 hs3 hs4 HD2
      generalize la ++ [d1] = la' at HL9
      generalize lb ++ [d2] = lb' at HL9
      have HK1 : Hid (k < N) := by show k < N; omega
      by_cases hk2 : 2 ≤ k
      · have hl' := HL9.out.hb
        have hr' := srow_of hl' HL9.out.ob
        obtain ⟨y, hy⟩ : ∃ y, y = lb'[k - 1]'(by omega) := ⟨_, rfl⟩
        have cy : w9.cell? ⟨g9, k - 1, none⟩ = some (.string y) := by rw [hy]; have := hr' (k - 1) (by omega); rw [Nat.zero_add] at this; exact this
        have ck : ∃ u, w9.cell? ⟨g9, k, none⟩ = some u := ⟨_, by have := hr' k (by omega); rw [Nat.zero_add] at this; exact this⟩
        obtain ⟨u, ck⟩ := ck
        have fk : w9.frozen? ⟨g9, k, none⟩ = false := own_free HL9.out.ob (by omega)
        have HY : Hid (y.size = 32) := by show _ = _; rw [hy]; exact HL9.out.b32 _ (List.getElem_mem _)
        have HNX : Hid (El wstart (w9.setCell ⟨g9, k, none⟩ (.string y)) (k + 1) (k + 1) la' (lb'.set k y) (.slice (some ⟨g5, 0, none⟩) (k + 1) c5) (.slice (some ⟨g9, 0, none⟩) (k + 1) c9)) := HL9.out.setB (by omega) y HY.out
        have kk : (k : Int) - 1 = ((k - 1 : Nat) : Int) := by omega
        clear hl' hr' hy HY
        go_wp2
        all_goals
          go_roundg (gk - 1)
          case measure => have := HKN.out; have := HK1.out; omega
          case rel =>
            have h := HKN.out
            have h' := HK1.out
            first
              | exact ⟨k + 1, la', lb'.set k y, _, _, by omega, by go_num, rfl, rfl, HNX.out⟩
              | exact ⟨k + 1, la', lb', _, _, by omega, by go_num, rfl, rfl, HL9.out⟩
      · go_wp2
        all_goals
          go_roundg (gk - 1)
          case measure => have := HKN.out; have := HK1.out; omega
          case rel =>
            have h := HKN.out
            have h' := HK1.out
            exact ⟨k + 1, la', lb', _, _, by omega, by go_num, rfl, rfl, HL9.out⟩
    · have hk : k = N := by omega
      subst hk
      clear HKN hlt hkn H3 H2
      obtain ⟨ga, ca, rfl, _, _⟩ := HEL.out.oa.form hN1
      obtain ⟨gb, cb, rfl, _, _⟩ := HEL.out.ob.form hN1
      have hla := HEL.out.ha
      have hlb := HEL.out.hb
      have HRA : Hid (∀ wx, Below wr.heap.size wr wx → SRow wx ga 0 la) := fun wx hb => srow_of hla (own_after HEL.out.oa hb)
      have HRB : Hid (∀ wx, Below wr.heap.size wr wx → SRow wx gb 0 lb) := fun wx hb => srow_of hlb (own_after HEL.out.ob hb)
      obtain ⟨y0, hy0⟩ : ∃ y, y = lb[0]'(by omega) := ⟨_, rfl⟩
      obtain ⟨x0, hx0⟩ : ∃ x, x = la[0]'(by omega) := ⟨_, rfl⟩
      have HY0 : Hid (∀ wx, Below wr.heap.size wr wx → wx.cell? ⟨gb, 0, none⟩ = some (.string y0)) := fun wx hb => by have := HRB.out wx hb 0 (by omega); rw [Nat.zero_add, ← hy0] at this; exact this
      have HX0 : Hid (∀ wx, Below wr.heap.size wr wx → wx.cell? ⟨ga, 0, none⟩ = some (.string x0)) := fun wx hb => by have := HRA.out wx hb 0 (by omega); rw [Nat.zero_add, ← hx0] at this; exact this
      have hy32 : y0.size = 32 := by rw [hy0]; exact HEL.out.b32 _ (List.getElem_mem _)
      have cy0 := HY0.out wr (Below.refl _ _)
      have EA : rootRes Kc la = #[.string (rootF (dd Kc) la false).1, .bool (rootF (dd Kc) la false).2, .int .i64 0] := by unfold rootRes; rw [if_pos ⟨by omega, HEL.out.a32⟩]
      have EB : rootRes Kc lb = #[.string (rootF (dd Kc) lb false).1, .bool (rootF (dd Kc) lb false).2, .int .i64 0] := by unfold rootRes; rw [if_pos ⟨by omega, HEL.out.b32⟩]
      have ab32 : ∀ s ∈ la ++ lb, s.size = 32 := fun s hs => by
        rcases List.mem_append.1 hs with h | h
        · exact HEL.out.a32 s h
        · exact HEL.out.b32 s h
      have EAB : rootRes Kc (la ++ lb) = #[.string (dd Kc ((rootF (dd Kc) la false).1 ++ (rootF (dd Kc) lb false).1)), .bool (((rootF (dd Kc) la false).2 || (rootF (dd Kc) lb false).2) || ((rootF (dd Kc) la false).1.toList == (rootF (dd Kc) lb false).1.toList)), .int .i64 0] := by
        unfold rootRes
        rw [if_pos ⟨by rw [List.length_append]; omega, ab32⟩, root_pow (dd Kc) r la lb (by rw [hla]; exact HNR.out) (by rw [hlb]; exact HNR.out)]
      have s1 : (rootF (dd Kc) la false).1.size = 32 := rootF_size (dd Kc) (dd_size Kc) la false (by omega) HEL.out.a32
      have s2 : (rootF (dd Kc) lb false).1.size = 32 := rootF_size (dd Kc) (dd_size Kc) lb false (by omega) HEL.out.b32
      have H1N : Hid (k = 1 → rootF (dd Kc) la false = (x0, false)) := fun h => by
        have h1 : la.length = 1 := by omega
        rw [rootF_one (dd Kc) la false h1, hx0, List.getD, List.getElem?_eq_getElem (by omega)]; rfl
      have HRTA : Hid (∀ wx, Below wr.heap.size wr wx → Calls Tryd.prog 18 #[.slice (some ⟨ga, 0, none⟩) k ca] wx fun e w' => e = .returned (.tuple #[.string (rootF (dd Kc) la false).1, .bool (rootF (dd Kc) la false).2, .int .i64 0]) ∧ Below wx.heap.size wx w') := fun wx hb => by
        have h := HROOT.out la ga 0 ca wx (HRA.out wx hb) (by omega) (by omega) (HEL.out.bel.trans (hb.mono HEL.out.bel.size))
        rw [EA, hla] at h; exact h
      have HRTB : Hid (∀ wx, Below wr.heap.size wr wx → Calls Tryd.prog 18 #[.slice (some ⟨gb, 0, none⟩) k cb] wx fun e w' => e = .returned (.tuple #[.string (rootF (dd Kc) lb false).1, .bool (rootF (dd Kc) lb false).2, .int .i64 0]) ∧ Below wx.heap.size wx w') := fun wx hb => by
        have h := HROOT.out lb gb 0 cb wx (HRB.out wx hb) (by omega) (by omega) (HEL.out.bel.trans (hb.mono HEL.out.bel.size))
        rw [EB, hlb] at h; exact h
      have HRTC : Hid (∀ (wx : World) (g c : Nat), Below wr.heap.size wr wx → SRow wx g 0 (la ++ lb) → Calls Tryd.prog 18 #[.slice (some ⟨g, 0, none⟩) (k + k) c] wx fun e w' => e = .returned (.tuple #[.string (dd Kc ((rootF (dd Kc) la false).1 ++ (rootF (dd Kc) lb false).1)), .bool (((rootF (dd Kc) la false).2 || (rootF (dd Kc) lb false).2) || ((rootF (dd Kc) la false).1.toList == (rootF (dd Kc) lb false).1.toList)), .int .i64 0]) ∧ Below wx.heap.size wx w') := fun wx g c hb hr => by
        have h := HROOT.out (la ++ lb) g 0 c wx hr (by rw [List.length_append]; omega) (by rw [List.length_append]; omega) (HEL.out.bel.trans (hb.mono HEL.out.bel.size))
        rw [EAB, List.length_append, hla, hlb] at h; exact h
      have HS2 : Hid (∀ (x y : ByteArray) (W : World), x.size = 32 → y.size = 32 → Below wr.heap.size wr W → Calls Tryd.prog 7 #[.string (x ++ y)] W fun e w' => e = .returned (.string (strOf (shaF Kc (x ++ y).data.toList) 32)) ∧ Below W.heap.size W w') := fun x y W hx hy hb => HSUM.out _ W (by rw [ByteArray.size_append]; omega) (HEL.out.bel.trans (hb.mono HEL.out.bel.size))
      have hyb : ((y0.size : Int) != 32) = false := by rw [hy32]; rfl
      clear EA EB EAB ab32 hx0 hy0
      generalize rootF (dd Kc) la false = RA at HRTA HRTC s1 H1N
      generalize rootF (dd Kc) lb false = RB at HRTB HRTC s2
      obtain ⟨ra, ta⟩ := RA
      obtain ⟨rb, tb⟩ := RB
      have HQ1 : Hid (∀ W, Below wr.heap.size wr W → Calls Tryd.prog 7 #[.string (ra ++ rb)] W fun e w' => e = .returned (.string (strOf (shaF Kc (ra ++ rb).data.toList) 32)) ∧ Below W.heap.size W w') := fun W hb => HS2.out ra rb W s1 s2 hb
      have HQ2 : Hid (∀ W, Below wr.heap.size wr W → Calls Tryd.prog 7 #[.string (strOf (shaF Kc (ra ++ rb).data.toList) 32)] W fun e w' => e = .returned (.string (dd Kc (ra ++ rb))) ∧ Below W.heap.size W w') := fun W hb => HSUM.out _ W (by rw [strOf_size]; omega) (HEL.out.bel.trans (hb.mono HEL.out.bel.size))
      generalize dd Kc (ra ++ rb) = D at HRTC HQ2
      obtain ⟨WB, HWB⟩ : ∃ WB, Hid (WB = (ta || tb || (ra.toList == rb.toList))) := ⟨_, rfl⟩
      have HRTD : Hid (∀ (wx : World) (g c : Nat), Below wr.heap.size wr wx → SRow wx g 0 (la ++ lb) → Calls Tryd.prog 18 #[.slice (some ⟨g, 0, none⟩) (k + k) c] wx fun e w' => e = .returned (.tuple #[.string D, .bool WB, .int .i64 0]) ∧ Below wx.heap.size wx w') := by
        show ∀ (wx : World) (g c : Nat), _
        rw [HWB.out]; exact HRTC.out
      clear HRTC
      generalize strOf (shaF Kc (ra ++ rb).data.toList) 32 = D1 at HQ1 HQ2
      clear HS2
      have hlz : ¬ ((k : Int) < (k : Int)) := by omega
      go_upto_region 13 with fail
      clear cy0
      go_upto_region 14 with (go_at_call 18; go_must (refine (HRTA.out _ (Below.refl _ _)).mono ?_); rintro e v1 ⟨rfl, hb1⟩; have HV1 := (show Hid (Below wr.heap.size wr v1) from hb1); clear hb1)
      go_upto_region 15 with (go_at_call 18; go_must (refine (HRTB.out _ HV1.out).mono ?_); rintro e v2 ⟨rfl, hb1⟩; have HV2 := (show Hid (Below wr.heap.size wr v2) from HV1.out.trans (hb1.mono HV1.out.size)); clear hb1)
      clear HV1
      have M1 : Hid True := trivial
      go_upto_region 16 with (first
        | (at_builtin; have _m := M1; go_must (refine wpList_append_lies _ rfl _ _ 30 rfl wr.heap.size 9 i0 (.string ByteArray.empty) 1 16 Tryd.underlying30 hi hz0 hz1 hz2 rfl (by decide) (.slice none 0 0) 0 [] rfl (World.ownsRow_nil _ _ _ _) ⟨ga, 0, none⟩ k ca (strV la) rfl (by simp [strV, hla]) (srow_news (HRA.out _ HV2.out)) (str_one la) (by omega) (by unfold maxLen; omega) (by omega) HV2.out.size _ rfl ?_); intro g3 c3 v3 ho hgr hat hlt; clear M1 _m; have HO3 := (show Hid (v3.ownsRow wr.heap.size 9 1 (.slice (some ⟨g3, 0, none⟩) k c3) k (strV la)) from (by have h := ho; rw [Nat.zero_add, List.nil_append] at h; exact h)); have HV3 := (show Hid (Below wr.heap.size wr v3) from HV2.out.grown hgr HV2.out.size (fun k hk => by cases hk)); clear ho hgr hat hlt)
        | (at_builtin; go_must (refine wpList_append_lies _ rfl _ _ 30 rfl wr.heap.size 9 i0 (.string ByteArray.empty) 1 16 Tryd.underlying30 hi hz0 hz1 hz2 rfl (by decide) (.slice (some ⟨g3, 0, none⟩) k c3) k (strV la) rfl HO3.out ⟨gb, 0, none⟩ k cb (strV lb) rfl (by simp [strV, hlb]) (srow_news (HRB.out _ HV3.out)) (str_one lb) (by omega) (by unfold maxLen; omega) (by omega) HV3.out.size _ rfl ?_); intro g4 c4 v4 ho hgr hat hlt; have HS4 := (show Hid (SRow v4 g4 0 (la ++ lb)) from own_srow (n := k + k) (by rw [List.length_append, hla, hlb]) (by rw [show strV (la ++ lb) = strV la ++ strV lb by simp [strV]]; exact ho)); have HV4 := (show Hid (Below wr.heap.size wr v4) from HV3.out.grown hgr HV3.out.size (ownB_ge HO3.out)); clear ho hgr hat hlt)
        | (go_at_call 18; go_must (refine (HRTD.out _ g4 c4 HV4.out HS4.out).mono ?_); rintro e v5 ⟨rfl, hb1⟩; have HV5 := (show Hid (Below wr.heap.size wr v5) from HV4.out.trans (hb1.mono HV4.out.size)); clear hb1))
      clear HV2 HV3 HV4 HS4 HO3
      go_cut [119] (fun tv wx => tv = .bool false ∧ wx = v5)
      case first =>
        by_cases hk1 : k = 1
        · have hra := H1N.out hk1
          injection hra with e1 e2
          subst e1 e2 hk1
          have cx := HX0.out v5 HV5.out
          go_wp2
          go_meet
          exact ⟨by simp, rfl⟩
        · have hk1' : ((k : Int) == 1) = false := by rw [beq_eq_false_iff_ne]; omega
          go_wp2
          go_meet
          exact ⟨by simp, rfl⟩
      case rest =>
      obtain ⟨rfl, rfl⟩ := hcut
      go_upto_region 18 with fail
      go_cut [139] (fun tv wx => tv = .bool false ∧ Below wr.heap.size wr wx)
      case first =>
        have M1 : Hid True := trivial
        cases ta <;> cases tb
        all_goals
          go_wp2_with (first
            | (go_at_call 7; have _m := M1; go_must (refine (HQ1.out _ HV5.out).mono ?_); rintro e v6 ⟨rfl, hb1⟩; have HV6 := (show Hid (Below wr.heap.size wr v6) from HV5.out.trans (hb1.mono HV5.out.size)); clear hb1 M1 _m)
            | (go_at_call 7; go_must (refine (HQ2.out _ HV6.out).mono ?_); rintro e v7 ⟨rfl, hb1⟩; have HV7 := (show Hid (Below wr.heap.size wr v7) from HV6.out.trans (hb1.mono HV6.out.size)); clear hb1))
          go_meet
          refine ⟨?_, HV7.out⟩
          rw [HWB.out]
          generalize (ra.toList == rb.toList) = E
          cases E <;> rfl
      -- TAIL
      case rest =>
      obtain ⟨rfl, hb6⟩ := hcut
      have HW6 : Hid (Below wr.heap.size wr wc) := hb6
      clear hb6 HQ1 HQ2 HWB H1N HX0
      go_upto_region 20 with fail
      go_cut [17] (fun ov wx => ∃ g c, ov = .slice (some ⟨g, 0, none⟩) (k + 1) c ∧ wx.ownsRow wr.heap.size 9 1 (.slice (some ⟨g, 0, none⟩) (k + 1) c) (k + 1) (strV (la ++ [y0])) ∧ Below wr.heap.size wr wx)
      case first =>
        have HB0 : Below wr.heap.size wr wc.drew := HW6.out.drew
        have kne : ¬ k = 0 := by omega
        refine q_frame (fun A HFR => ?_)
        have hsz : A.tmps.size = 192 := by rw [HFR.out]; rfl
        have h5 : A.eval (.tmp 5) = .slice (some ⟨ga, 0, none⟩) k ca := by rw [HFR.out]; rfl
        have h6 : A.eval (.tmp 6) = .slice (some ⟨gb, 0, none⟩) k cb := by rw [HFR.out]; rfl
        refine wp_region_held_drew (S := fun W => W.cell? ⟨gb, 0, none⟩ = some (.string y0)) (by kernel_rfl) (HY0.out _ HB0) (fun hS => ?_)
        refine wpAnyH_take (i := 0) (v := (.slice (some ⟨ga, 0, none⟩) k ca)) rfl (by kernel_rfl) (by kernel_rfl) (by kernel_rfl) (fun _ _ _ h => h) (Or.inl ⟨by rfl, fun W _ => q_run1 5 (.slice (some ⟨ga, 0, none⟩) k ca) (by simp only [q_same, q_ne, q_sz, hsz, h5, h6, ne_eq, Nat.reduceEqDiff, not_false_eq_true, Nat.reduceLT]) (fun ρ hc _ e1 => by simp [go_sem, hc, e1])⟩) hS ?_
        change wpAnyH _ _ _ _ _ _ _ (Act.put _ (some 140) _) _
        refine wpAnyH_take (i := 2) (v := (.slice (some ⟨gb, 0, none⟩) k cb)) rfl (by kernel_rfl) (by kernel_rfl) (by kernel_rfl) (fun _ _ _ h => h) (Or.inl ⟨by rfl, fun W _ => q_run1 6 (.slice (some ⟨gb, 0, none⟩) k cb) (by simp only [q_same, q_ne, q_sz, hsz, h5, h6, ne_eq, Nat.reduceEqDiff, not_false_eq_true, Nat.reduceLT]) (fun ρ hc _ e1 => by simp [go_sem, hc, e1])⟩) hS ?_
        change wpAnyH _ _ _ _ _ _ _ (Act.put _ (some 142) _) _
        refine wpAnyH_take (i := 3) (v := (.pointer (some ⟨gb, 0, none⟩))) rfl (by kernel_rfl) (by kernel_rfl) (by kernel_rfl) (fun _ _ _ h => h) (Or.inl ⟨by rfl, fun W _ => q_run1 142 (.slice (some ⟨gb, 0, none⟩) k cb) (by simp only [q_same, q_ne, q_sz, hsz, h5, h6, ne_eq, Nat.reduceEqDiff, not_false_eq_true, Nat.reduceLT]) (fun ρ hc _ e1 => by simp [go_sem, hc, e1, kne])⟩) hS ?_
        change wpAnyH _ _ _ _ _ _ _ (Act.put _ (some 143) _) _
        refine wpAnyH_take (i := 4) (v := (.string y0)) rfl (by kernel_rfl) (by kernel_rfl) (by kernel_rfl) (fun _ _ _ h => h) (Or.inl ⟨by rfl, fun W hW => q_run1 143 (.pointer (some ⟨gb, 0, none⟩)) (by simp only [q_same, q_ne, q_sz, hsz, h5, h6, ne_eq, Nat.reduceEqDiff, not_false_eq_true, Nat.reduceLT]) (fun ρ hc _ e1 => by simp [go_sem, hc, e1, hW])⟩) hS ?_
        change wpAnyH _ _ _ _ _ _ _ (Act.put _ (some 144) _) _
        refine wpAnyH_ready (rs := [1, 5]) (by kernel_rfl) (by simp) (AllReadyH.cons rfl (fun K hK => ?_) (AllReadyH.cons rfl (fun K hK => ?_) AllReadyH.nil))
        ·
          refine step_append_lies _ rfl (.const (.slice none 0 0)) (.tmp 140) 30 rfl wr.heap.size 9 i0 (.string ByteArray.empty) 1 16 Tryd.underlying30 hi hz0 hz1 hz2 rfl (by decide) (.slice none 0 0) 0 [] rfl (World.ownsRow_nil _ _ _ _) ⟨ga, 0, none⟩ k ca (strV la) (by simp only [q_same, q_ne, q_sz, hsz, h5, h6, ne_eq, Nat.reduceEqDiff, not_false_eq_true, Nat.reduceLT]) (by simp [strV, hla]) (srow_news (HRA.out _ HB0)) (str_one la) (by omega) (by unfold maxLen; omega) (by omega) HB0.size _ rfl ?_
          intro g3 c3 v3 ho3 hgr3 _ _
          have HV3 : Below wr.heap.size wr v3 := HB0.grown hgr3 HB0.size (fun x hx => by cases hx)
          refine hK.out _ _ (HY0.out v3 HV3) (fun _ => ?_)
          change wpAnyH _ _ _ _ _ _ _ (Act.put _ (some 141) _) _
          have HV4 : Below wr.heap.size wr (v3.alloc (.cells #[.string y0] 9)) := HV3.alloc HV3.size _
          refine qH_one 5 (.slice (some ⟨v3.heap.size, 0, none⟩) 1 1) _ (by kernel_rfl) rfl rfl (q_run1 144 (.string y0) (by simp only [q_same, q_ne, q_sz, hsz, h5, h6, ne_eq, Nat.reduceEqDiff, not_false_eq_true, Nat.reduceLT]) (fun ρ _ _ e1 => by simp [go_sem, e1])) (HY0.out _ HV4) ?_
          change wpAnyH _ _ _ _ _ _ _ (Act.put _ (some 145) _) _
          have ho4 := own_after ho3 ((Below.refl _ v3).alloc (Nat.le_refl _) (.cells #[.string y0] 9))
          refine wpAnyH_ready (rs := [6]) (by kernel_rfl) (by simp) (AllReadyH.cons rfl (fun K hK => ?_) AllReadyH.nil)
          refine step_append_lies _ rfl (.tmp 141) (.tmp 145) 30 rfl wr.heap.size 9 i0 (.string ByteArray.empty) 1 16 Tryd.underlying30 hi hz0 hz1 hz2 rfl (by decide) (.slice (some ⟨g3, 0, none⟩) (0 + k) c3) (0 + k) ([] ++ strV la) (by simp only [q_same, q_ne, q_sz, hsz, h5, h6, ne_eq, Nat.reduceEqDiff, not_false_eq_true, Nat.reduceLT]) ho4 ⟨v3.heap.size, 0, none⟩ 1 1 [.string y0] (by simp only [q_same, q_ne, q_sz, hsz, h5, h6, ne_eq, Nat.reduceEqDiff, not_false_eq_true, Nat.reduceLT]) rfl (one_s v3 y0) (one_sc y0) (by omega) (by unfold maxLen; omega) (by omega) HV4.size _ rfl ?_
          intro g6 c6 v6 ho6 hgr6 _ _
          have HV6 : Below wr.heap.size wr v6 := HV4.grown hgr6 HV4.size (ownB_ge ho4)
          refine hK.out _ _ (HY0.out v6 HV6) (fun _ => ?_)
          change wpAnyH _ _ _ _ _ _ _ (Act.put _ (some 146) _) _
          refine qH_one 7 (.slice (some ⟨g6, 0, none⟩) (0 + k + 1) c6) v6 (by kernel_rfl) rfl rfl (q_run1 146 (.slice (some ⟨g6, 0, none⟩) (0 + k + 1) c6) (by simp only [q_same, q_ne, q_sz, hsz, h5, h6, ne_eq, Nat.reduceEqDiff, not_false_eq_true, Nat.reduceLT]) (fun ρ _ _ e1 => by simp [go_sem, e1])) (HY0.out v6 HV6) ?_
          change wpAnyH _ _ _ _ _ _ _ (Act.put _ (some 17) _) _
          refine wpAnyH_done (by kernel_rfl) ?_ _
          have HFIN : Hid (v6.ownsRow wr.heap.size 9 1 (.slice (some ⟨g6, 0, none⟩) (k + 1) c6) (k + 1) (strV (la ++ [y0])) ∧ Below wr.heap.size wr v6) := by
            refine ⟨?_, HV6⟩
            have h := ho6
            rw [Nat.zero_add, List.nil_append] at h
            rw [show strV (la ++ [y0]) = strV la ++ [.string y0] by simp [strV]]; exact h
          have hfr := HFR.out
          clear HFR hsz h5 h6 ho6 hgr6 HV6
          subst hfr
          simp only [Act.put, List.setIfInBounds_toArray, List.set_cons_zero, List.set_cons_succ]
          go_wp2_with fail
          go_meet
          exact ⟨g6, c6, by rw [Nat.zero_add], HFIN.out.1, HFIN.out.2⟩
        ·
          refine q_stepv (.slice (some ⟨wc.heap.size, 0, none⟩) 1 1) (wc.drew.alloc (.cells #[.string y0] 9)) rfl (q_run1 144 (.string y0) (by simp only [q_same, q_ne, q_sz, hsz, h5, h6, ne_eq, Nat.reduceEqDiff, not_false_eq_true, Nat.reduceLT]) (fun ρ _ _ e1 => by simp [go_sem, e1])) ?_
          have HV1 : Below wr.heap.size wr (wc.drew.alloc (.cells #[.string y0] 9)) := HB0.alloc HB0.size _
          refine hK.out _ _ (HY0.out _ HV1) (fun _ => ?_)
          change wpAnyH _ _ _ _ _ _ _ (Act.put _ (some 145) _) _
          refine wpAnyH_ready (rs := [1]) (by kernel_rfl) (by simp) (AllReadyH.cons rfl (fun K hK => ?_) AllReadyH.nil)
          refine step_append_lies _ rfl (.const (.slice none 0 0)) (.tmp 140) 30 rfl wr.heap.size 9 i0 (.string ByteArray.empty) 1 16 Tryd.underlying30 hi hz0 hz1 hz2 rfl (by decide) (.slice none 0 0) 0 [] rfl (World.ownsRow_nil _ _ _ _) ⟨ga, 0, none⟩ k ca (strV la) (by simp only [q_same, q_ne, q_sz, hsz, h5, h6, ne_eq, Nat.reduceEqDiff, not_false_eq_true, Nat.reduceLT]) (by simp [strV, hla]) (srow_news (HRA.out _ HV1)) (str_one la) (by omega) (by unfold maxLen; omega) (by omega) HV1.size _ rfl ?_
          intro g3 c3 v3 ho3 hgr3 _ _
          have HV3 : Below wr.heap.size wr v3 := HV1.grown hgr3 HV1.size (fun x hx => by cases hx)
          have hnews : ∀ j u, [Value.string y0][j]? = some u → v3.cell? ((⟨wc.heap.size, 0, none⟩ : Addr).add j) = some u := fun j u hu => by
            have h1 := one_s wc.drew y0 j u hu
            rw [Addr.add_mid] at h1 ⊢
            rw [hgr3.cell_far _ (by simp) (by simp [Value.ownBlock])]; exact h1
          refine hK.out _ _ (HY0.out v3 HV3) (fun _ => ?_)
          change wpAnyH _ _ _ _ _ _ _ (Act.put _ (some 141) _) _
          refine wpAnyH_ready (rs := [6]) (by kernel_rfl) (by simp) (AllReadyH.cons rfl (fun K hK => ?_) AllReadyH.nil)
          refine step_append_lies _ rfl (.tmp 141) (.tmp 145) 30 rfl wr.heap.size 9 i0 (.string ByteArray.empty) 1 16 Tryd.underlying30 hi hz0 hz1 hz2 rfl (by decide) (.slice (some ⟨g3, 0, none⟩) (0 + k) c3) (0 + k) ([] ++ strV la) (by simp only [q_same, q_ne, q_sz, hsz, h5, h6, ne_eq, Nat.reduceEqDiff, not_false_eq_true, Nat.reduceLT]) ho3 ⟨wc.heap.size, 0, none⟩ 1 1 [.string y0] (by simp only [q_same, q_ne, q_sz, hsz, h5, h6, ne_eq, Nat.reduceEqDiff, not_false_eq_true, Nat.reduceLT]) rfl hnews (one_sc y0) (by omega) (by unfold maxLen; omega) (by omega) HV3.size _ rfl ?_
          intro g6 c6 v6 ho6 hgr6 _ _
          have HV6 : Below wr.heap.size wr v6 := HV3.grown hgr6 HV3.size (ownB_ge ho3)
          refine hK.out _ _ (HY0.out v6 HV6) (fun _ => ?_)
          change wpAnyH _ _ _ _ _ _ _ (Act.put _ (some 146) _) _
          refine qH_one 7 (.slice (some ⟨g6, 0, none⟩) (0 + k + 1) c6) v6 (by kernel_rfl) rfl rfl (q_run1 146 (.slice (some ⟨g6, 0, none⟩) (0 + k + 1) c6) (by simp only [q_same, q_ne, q_sz, hsz, h5, h6, ne_eq, Nat.reduceEqDiff, not_false_eq_true, Nat.reduceLT]) (fun ρ _ _ e1 => by simp [go_sem, e1])) (HY0.out v6 HV6) ?_
          change wpAnyH _ _ _ _ _ _ _ (Act.put _ (some 17) _) _
          refine wpAnyH_done (by kernel_rfl) ?_ _
          have HFIN : Hid (v6.ownsRow wr.heap.size 9 1 (.slice (some ⟨g6, 0, none⟩) (k + 1) c6) (k + 1) (strV (la ++ [y0])) ∧ Below wr.heap.size wr v6) := by
            refine ⟨?_, HV6⟩
            have h := ho6
            rw [Nat.zero_add, List.nil_append] at h
            rw [show strV (la ++ [y0]) = strV la ++ [.string y0] by simp [strV]]; exact h
          have hfr := HFR.out
          clear HFR hsz h5 h6 ho6 hgr6 HV6
          subst hfr
          simp only [Act.put, List.setIfInBounds_toArray, List.set_cons_zero, List.set_cons_succ]
          go_wp2_with fail
          go_meet
          exact ⟨g6, c6, by rw [Nat.zero_add], HFIN.out.1, HFIN.out.2⟩
      -- TAIL2
      case rest =>
      obtain ⟨go, co, rfl, hoo, hbo⟩ := hcut
      have HOO : Hid (wc.ownsRow wr.heap.size 9 1 (.slice (some ⟨go, 0, none⟩) (k + 1) co) (k + 1) (strV (la ++ [y0]))) := hoo
      have HBO : Hid (Below wr.heap.size wr wc) := hbo
      have HA32 : Hid (∀ s ∈ la ++ [y0], s.size = 32) := fun s hs => by
        rcases List.mem_append.1 hs with h | h
        · exact HEL.out.a32 s h
        · simp at h; rw [h]; exact hy32
      clear hoo hbo HW6
      by_cases hk1 : k = 1
      · subst hk1
        have hz31 : (y0.extract 1 32).size = 31 := by rw [ByteArray.size_extract]; omega
        have cy := HY0.out wc HBO.out
        go_upto_region 23 with (at_builtin; refine wpList_append_lies _ rfl _ _ 30 rfl wr.heap.size 9 i0 (.string ByteArray.empty) 1 16 Tryd.underlying30 hi hz0 hz1 hz2 rfl (by decide) (.slice (some ⟨go, 0, none⟩) 2 co) 2 (strV (la ++ [y0])) rfl ?_ ⟨wc.heap.size, 0, none⟩ 1 1 [.string (y0.extract 1 32 ++ { data := #[120] })] rfl rfl ?_ (one_sc _) (by omega) (by unfold maxLen; omega) (by omega) ?_ _ rfl ?_; exact own_after HOO.out ((Below.refl _ wc).alloc (Nat.le_refl _) _); exact one_s wc _; exact (HBO.out.alloc HBO.out.size _).size; intro gq cq vq ho hgr hat hlt; obtain ⟨z, HZ32, HOQ⟩ : ∃ z : ByteArray, Hid (z.size = 32) ∧ Hid (vq.ownsRow wr.heap.size 9 1 (.slice (some ⟨gq, 0, none⟩) 3 cq) 3 (strV (la ++ [y0] ++ [z]))) := ⟨_, (by show _ = _; rw [ByteArray.size_append, hz31]; rfl), own3 ho⟩; have HBQ := (show Hid (Below wr.heap.size wr vq) from (HBO.out.alloc HBO.out.size _).grown hgr (HBO.out.alloc HBO.out.size _).size (fun k hk => ownB_ge HOO.out k hk)); clear ho hgr hat hlt)
        clear cy hz31
        obtain ⟨lo, hlo⟩ : ∃ lo, lo = la ++ [y0] := ⟨_, rfl⟩
        rw [← hlo] at HOQ
        have hlq : (lo ++ [z]).length = 3 := by rw [hlo]; simp [hla]
        have H32 : Hid (∀ s ∈ lo ++ [z], s.size = 32) := fun s hs => by
          rcases List.mem_append.1 hs with h | h
          · rw [hlo] at h; exact HA32.out s h
          · simp at h; rw [h]; exact HZ32.out
        obtain ⟨m, hm⟩ : ∃ m, m = 3 := ⟨_, rfl⟩
        have hodd : m % 2 = 1 := by omega
        have hm1 : 1 < m := by omega
        have hm18 : m ≤ 18 := by omega
        rw [← hm] at HOQ hlq
        rw [← hm]
        clear hm hlo HA32 HZ32 HOO HBO HY0 HRA HRB HRTA HRTB HRTD HSUM hla hlb hy32 hyb s1 s2 HV5
        obtain ⟨X, tX, HR1, HR2, HZQ, HRQ⟩ := odd_facts Kc _ vq lo z gq cq m wr.heap.size HROOT HOQ.out (HEL.out.bel.trans (HBQ.out.mono HEL.out.bel.size)) hlq hodd hm1 hm18 H32.out
        have HFS : Hid (∀ W, Below vq.heap.size vq W → Below wstart.heap.size wstart W) := fun W hb => HEL.out.bel.trans ((HBQ.out.trans (hb.mono HBQ.out.size)).mono HEL.out.bel.size)
        clear HROOT HEL HOQ HBQ H32
        generalize lo ++ [z] = lq at HR1 HR2 HRQ hlq
        go_upto_region 24 with (go_at_call 18; go_must (refine (HR1.out _ (Below.refl _ _)).mono ?_); rintro e v7 ⟨rfl, hb7⟩; have HV7 := (show Hid (Below vq.heap.size vq v7) from hb7); clear hb7)
        have HB0 : Below vq.heap.size vq v7.drew := HV7.out.drew
        refine q_frame (fun A HFR => ?_)
        have hsz : A.tmps.size = 192 := by rw [HFR.out]; rfl
        have h17 : A.eval (.tmp 17) = .slice (some ⟨gq, 0, none⟩) m cq := by rw [HFR.out]; rfl
        have HKW : Hid (IntKind.i64.wrap ((m : Int) - 1) = ((m - 1 : Nat) : Int)) := by show _ = _; rw [IntKind.wrap_i64]; omega
        have HKL : Hid (m - 1 < m) := by show _ < _; omega
        refine wp_region_held_drew (S := fun W => W.cell? ⟨gq, m - 1, none⟩ = some (.string z)) (by kernel_rfl) (HZQ.out _ HB0) (fun hS => ?_)
        refine wpAnyH_take (i := 0) (v := (.slice (some ⟨gq, 0, none⟩) m cq)) rfl (by kernel_rfl) (by kernel_rfl) (by kernel_rfl) (fun _ _ _ h => h) (Or.inl ⟨by rfl, fun W _ => q_run1 17 (.slice (some ⟨gq, 0, none⟩) m cq) (by simp only [q_same, q_ne, q_sz, hsz, h17, ne_eq, Nat.reduceEqDiff, not_false_eq_true, Nat.reduceLT]) (fun ρ hc _ e1 => by simp [go_sem, hc, e1])⟩) hS ?_
        change wpAnyH _ _ _ _ _ _ _ (Act.put _ (some 164) _) _
        refine wpAnyH_take (i := 2) (v := (.slice (some ⟨gq, 0, none⟩) m cq)) rfl (by kernel_rfl) (by kernel_rfl) (by kernel_rfl) (fun _ _ _ h => h) (Or.inl ⟨by rfl, fun W _ => q_run1 17 (.slice (some ⟨gq, 0, none⟩) m cq) (by simp only [q_same, q_ne, q_sz, hsz, h17, ne_eq, Nat.reduceEqDiff, not_false_eq_true, Nat.reduceLT]) (fun ρ hc _ e1 => by simp [go_sem, hc, e1])⟩) hS ?_
        change wpAnyH _ _ _ _ _ _ _ (Act.put _ (some 166) _) _
        refine wpAnyH_take (i := 3) (v := (.slice (some ⟨gq, 0, none⟩) m cq)) rfl (by kernel_rfl) (by kernel_rfl) (by kernel_rfl) (fun _ _ _ h => h) (Or.inl ⟨by rfl, fun W _ => q_run1 17 (.slice (some ⟨gq, 0, none⟩) m cq) (by simp only [q_same, q_ne, q_sz, hsz, h17, ne_eq, Nat.reduceEqDiff, not_false_eq_true, Nat.reduceLT]) (fun ρ hc _ e1 => by simp [go_sem, hc, e1])⟩) hS ?_
        change wpAnyH _ _ _ _ _ _ _ (Act.put _ (some 167) _) _
        refine wpAnyH_take (i := 4) (v := (.int .i64 (m : Int))) rfl (by kernel_rfl) (by kernel_rfl) (by kernel_rfl) (fun _ _ _ h => h) (Or.inl ⟨by rfl, fun W _ => q_run1 167 (.slice (some ⟨gq, 0, none⟩) m cq) (by simp only [q_same, q_ne, q_sz, hsz, h17, ne_eq, Nat.reduceEqDiff, not_false_eq_true, Nat.reduceLT]) (fun ρ hc _ e1 => by simp [go_sem, hc, e1])⟩) hS ?_
        change wpAnyH _ _ _ _ _ _ _ (Act.put _ (some 168) _) _
        refine wpAnyH_take (i := 5) (v := (.int .i64 ((m - 1 : Nat) : Int))) rfl (by kernel_rfl) (by kernel_rfl) (by kernel_rfl) (fun _ _ _ h => h) (Or.inl ⟨by rfl, fun W _ => q_run1 168 (.int .i64 (m : Int)) (by simp only [q_same, q_ne, q_sz, hsz, h17, ne_eq, Nat.reduceEqDiff, not_false_eq_true, Nat.reduceLT]) (fun ρ hc _ e1 => by simp [go_sem, hc, e1, HKW.out])⟩) hS ?_
        change wpAnyH _ _ _ _ _ _ _ (Act.put _ (some 169) _) _
        refine wpAnyH_take (i := 6) (v := (.pointer (some ⟨gq, m - 1, none⟩))) rfl (by kernel_rfl) (by kernel_rfl) (by kernel_rfl) (fun _ _ _ h => h) (Or.inl ⟨by rfl, fun W _ => q_run2 166 169 (.slice (some ⟨gq, 0, none⟩) m cq) (.int .i64 ((m - 1 : Nat) : Int)) (by simp only [q_same, q_ne, q_sz, hsz, h17, ne_eq, Nat.reduceEqDiff, not_false_eq_true, Nat.reduceLT]) (by simp only [q_same, q_ne, q_sz, hsz, h17, ne_eq, Nat.reduceEqDiff, not_false_eq_true, Nat.reduceLT]) (fun ρ hc _ e1 e2 => by simp [go_sem, hc, e1, e2, HKL.out])⟩) hS ?_
        change wpAnyH _ _ _ _ _ _ _ (Act.put _ (some 170) _) _
        refine wpAnyH_take (i := 7) (v := (.string z)) rfl (by kernel_rfl) (by kernel_rfl) (by kernel_rfl) (fun _ _ _ h => h) (Or.inl ⟨by rfl, fun W hW => q_run1 170 (.pointer (some ⟨gq, m - 1, none⟩)) (by simp only [q_same, q_ne, q_sz, hsz, h17, ne_eq, Nat.reduceEqDiff, not_false_eq_true, Nat.reduceLT]) (fun ρ hc _ e1 => by simp [go_sem, hc, e1, hW])⟩) hS ?_
        change wpAnyH _ _ _ _ _ _ _ (Act.put _ (some 171) _) _
        refine wpAnyH_ready (rs := [1, 8]) (by kernel_rfl) (by simp) (AllReadyH.cons rfl (fun K hK => ?_) (AllReadyH.cons rfl (fun K hK => ?_) AllReadyH.nil))
        ·
          refine step_append_lies _ rfl (.const (.slice none 0 0)) (.tmp 164) 30 rfl vq.heap.size 9 i0 (.string ByteArray.empty) 1 16 Tryd.underlying30 hi hz0 hz1 hz2 rfl (by decide) (.slice none 0 0) 0 [] rfl (World.ownsRow_nil _ _ _ _) ⟨gq, 0, none⟩ m cq (strV lq) (by simp only [q_same, q_ne, q_sz, hsz, h17, ne_eq, Nat.reduceEqDiff, not_false_eq_true, Nat.reduceLT]) (by simp [strV, hlq]) (srow_news (HRQ.out _ HB0)) (str_one lq) (by omega) (by unfold maxLen; omega) (by omega) HB0.size _ rfl ?_
          intro g3 c3 v3 ho3 hgr3 _ _
          have HV3 : Below vq.heap.size vq v3 := HB0.grown hgr3 HB0.size (fun x hx => by cases hx)
          refine hK.out _ _ (HZQ.out v3 HV3) (fun _ => ?_)
          change wpAnyH _ _ _ _ _ _ _ (Act.put _ (some 165) _) _
          have HV4 : Below vq.heap.size vq (v3.alloc (.cells #[.string z] 9)) := HV3.alloc HV3.size _
          refine qH_one 8 (.slice (some ⟨v3.heap.size, 0, none⟩) 1 1) _ (by kernel_rfl) rfl rfl (q_run1 171 (.string z) (by simp only [q_same, q_ne, q_sz, hsz, h17, ne_eq, Nat.reduceEqDiff, not_false_eq_true, Nat.reduceLT]) (fun ρ _ _ e1 => by simp [go_sem, e1])) (HZQ.out _ HV4) ?_
          change wpAnyH _ _ _ _ _ _ _ (Act.put _ (some 172) _) _
          have ho4 := own_after ho3 ((Below.refl _ v3).alloc (Nat.le_refl _) (.cells #[.string z] 9))
          refine wpAnyH_ready (rs := [9]) (by kernel_rfl) (by simp) (AllReadyH.cons rfl (fun K hK => ?_) AllReadyH.nil)
          refine step_append_lies _ rfl (.tmp 165) (.tmp 172) 30 rfl vq.heap.size 9 i0 (.string ByteArray.empty) 1 16 Tryd.underlying30 hi hz0 hz1 hz2 rfl (by decide) (.slice (some ⟨g3, 0, none⟩) (0 + m) c3) (0 + m) ([] ++ strV lq) (by simp only [q_same, q_ne, q_sz, hsz, h17, ne_eq, Nat.reduceEqDiff, not_false_eq_true, Nat.reduceLT]) ho4 ⟨v3.heap.size, 0, none⟩ 1 1 [.string z] (by simp only [q_same, q_ne, q_sz, hsz, h17, ne_eq, Nat.reduceEqDiff, not_false_eq_true, Nat.reduceLT]) rfl (one_s v3 z) (one_sc z) (by omega) (by unfold maxLen; omega) (by omega) HV4.size _ rfl ?_
          intro g6 c6 v6 ho6 hgr6 _ _
          have HV6 : Below vq.heap.size vq v6 := HV4.grown hgr6 HV4.size (ownB_ge ho4)
          refine hK.out _ _ (HZQ.out v6 HV6) (fun _ => ?_)
          change wpAnyH _ _ _ _ _ _ _ (Act.put _ (some 173) _) _
          have hs6 : SRow v6 g6 0 (lq ++ [z]) := srow6 ho6 hlq
          refine qH_call 10 18 #[.slice (some ⟨g6, 0, none⟩) (0 + m + 1) c6] _ (by kernel_rfl) rfl rfl (q_run1 173 (.slice (some ⟨g6, 0, none⟩) (0 + m + 1) c6) (by simp only [q_same, q_ne, q_sz, hsz, h17, ne_eq, Nat.reduceEqDiff, not_false_eq_true, Nat.reduceLT]) (fun ρ _ hf e1 => by simp [go_sem, hf, e1])) (calls_val (HR2.out v6 g6 c6 HV6 hs6)) ?_
          rintro _ v8 ⟨rfl, hb8⟩
          have HV8 : Below vq.heap.size vq v8 := HV6.trans (hb8.mono HV6.size)
          have hS8 := HZQ.out v8 HV8
          refine ⟨hS8, ?_⟩
          change wpAnyH _ _ _ _ _ _ _ (Act.put _ (some 174) _) _
          refine wpAnyH_take (i := 11) (v := (.tuple #[.string X, .bool true, .int .i64 0])) rfl (by kernel_rfl) (by kernel_rfl) (by kernel_rfl) (fun _ _ _ h => h) (Or.inl ⟨by rfl, fun W _ => q_run1 174 (.tuple #[.string X, .bool true, .int .i64 0]) (by simp only [q_same, q_ne, q_sz, hsz, h17, ne_eq, Nat.reduceEqDiff, not_false_eq_true, Nat.reduceLT]) (fun ρ hc _ e1 => by simp [go_sem, hc, e1])⟩) hS8 ?_
          change wpAnyH _ _ _ _ _ _ _ (Act.put _ (some 163) _) _
          refine wpAnyH_take (i := 12) (v := (.string X)) rfl (by kernel_rfl) (by kernel_rfl) (by kernel_rfl) (fun _ _ _ h => h) (Or.inl ⟨by rfl, fun W _ => q_run1 163 (.tuple #[.string X, .bool true, .int .i64 0]) (by simp only [q_same, q_ne, q_sz, hsz, h17, ne_eq, Nat.reduceEqDiff, not_false_eq_true, Nat.reduceLT]) (fun ρ hc _ e1 => by simp [go_sem, hc, e1])⟩) hS8 ?_
          change wpAnyH _ _ _ _ _ _ _ (Act.put _ (some 175) _) _
          refine wpAnyH_take (i := 13) (v := (.bool true)) rfl (by kernel_rfl) (by kernel_rfl) (by kernel_rfl) (fun _ _ _ h => h) (Or.inl ⟨by rfl, fun W _ => q_run1 163 (.tuple #[.string X, .bool true, .int .i64 0]) (by simp only [q_same, q_ne, q_sz, hsz, h17, ne_eq, Nat.reduceEqDiff, not_false_eq_true, Nat.reduceLT]) (fun ρ hc _ e1 => by simp [go_sem, hc, e1])⟩) hS8 ?_
          change wpAnyH _ _ _ _ _ _ _ (Act.put _ (some 176) _) _
          refine wpAnyH_take (i := 14) (v := (.int .i64 0)) rfl (by kernel_rfl) (by kernel_rfl) (by kernel_rfl) (fun _ _ _ h => h) (Or.inl ⟨by rfl, fun W _ => q_run1 163 (.tuple #[.string X, .bool true, .int .i64 0]) (by simp only [q_same, q_ne, q_sz, hsz, h17, ne_eq, Nat.reduceEqDiff, not_false_eq_true, Nat.reduceLT]) (fun ρ hc _ e1 => by simp [go_sem, hc, e1])⟩) hS8 ?_
          change wpAnyH _ _ _ _ _ _ _ (Act.put _ (some 177) _) _
          refine qH_one 15 (.string X) v8 (by kernel_rfl) rfl rfl (q_run1 175 (.string X) (by simp only [q_same, q_ne, q_sz, hsz, h17, ne_eq, Nat.reduceEqDiff, not_false_eq_true, Nat.reduceLT]) (fun ρ _ _ e1 => by simp [go_sem, e1])) hS8 ?_
          change wpAnyH _ _ _ _ _ _ _ (Act.put _ (some 20) _) _
          refine qH_one 16 (.bool true) v8 (by kernel_rfl) rfl rfl (q_run1 176 (.bool true) (by simp only [q_same, q_ne, q_sz, hsz, h17, ne_eq, Nat.reduceEqDiff, not_false_eq_true, Nat.reduceLT]) (fun ρ _ _ e1 => by simp [go_sem, e1])) hS8 ?_
          change wpAnyH _ _ _ _ _ _ _ (Act.put _ (some 21) _) _
          refine qH_one 17 (.int .i64 0) v8 (by kernel_rfl) rfl rfl (q_run1 177 (.int .i64 0) (by simp only [q_same, q_ne, q_sz, hsz, h17, ne_eq, Nat.reduceEqDiff, not_false_eq_true, Nat.reduceLT]) (fun ρ _ _ e1 => by simp [go_sem, e1])) hS8 ?_
          change wpAnyH _ _ _ _ _ _ _ (Act.put _ (some 13) _) _
          refine wpAnyH_done (by kernel_rfl) ?_ _
          have HFIN : Hid (Below vq.heap.size vq v8) := HV8
          have hfr := HFR.out
          clear HFR hsz h17 ho6 hgr6 HV6 HV8 hS8 hs6 hb8
          subst hfr
          simp only [Act.put, List.setIfInBounds_toArray, List.set_cons_zero, List.set_cons_succ]
          go_wp2
          go_ret
          exact ⟨by simp, HFS.out v8 HFIN.out⟩
        ·
          refine q_stepv (.slice (some ⟨v7.heap.size, 0, none⟩) 1 1) (v7.drew.alloc (.cells #[.string z] 9)) rfl (q_run1 171 (.string z) (by simp only [q_same, q_ne, q_sz, hsz, h17, ne_eq, Nat.reduceEqDiff, not_false_eq_true, Nat.reduceLT]) (fun ρ _ _ e1 => by simp [go_sem, e1])) ?_
          have HV1 : Below vq.heap.size vq (v7.drew.alloc (.cells #[.string z] 9)) := HB0.alloc HB0.size _
          refine hK.out _ _ (HZQ.out _ HV1) (fun _ => ?_)
          change wpAnyH _ _ _ _ _ _ _ (Act.put _ (some 172) _) _
          refine wpAnyH_ready (rs := [1]) (by kernel_rfl) (by simp) (AllReadyH.cons rfl (fun K hK => ?_) AllReadyH.nil)
          refine step_append_lies _ rfl (.const (.slice none 0 0)) (.tmp 164) 30 rfl vq.heap.size 9 i0 (.string ByteArray.empty) 1 16 Tryd.underlying30 hi hz0 hz1 hz2 rfl (by decide) (.slice none 0 0) 0 [] rfl (World.ownsRow_nil _ _ _ _) ⟨gq, 0, none⟩ m cq (strV lq) (by simp only [q_same, q_ne, q_sz, hsz, h17, ne_eq, Nat.reduceEqDiff, not_false_eq_true, Nat.reduceLT]) (by simp [strV, hlq]) (srow_news (HRQ.out _ HV1)) (str_one lq) (by omega) (by unfold maxLen; omega) (by omega) HV1.size _ rfl ?_
          intro g3 c3 v3 ho3 hgr3 _ _
          have HV3 : Below vq.heap.size vq v3 := HV1.grown hgr3 HV1.size (fun x hx => by cases hx)
          have hnews : ∀ j u, [Value.string z][j]? = some u → v3.cell? ((⟨v7.heap.size, 0, none⟩ : Addr).add j) = some u := fun j u hu => by
            have h1 := one_s v7.drew z j u hu
            rw [Addr.add_mid] at h1 ⊢
            rw [hgr3.cell_far _ (by simp) (by simp [Value.ownBlock])]; exact h1
          refine hK.out _ _ (HZQ.out v3 HV3) (fun _ => ?_)
          change wpAnyH _ _ _ _ _ _ _ (Act.put _ (some 165) _) _
          refine wpAnyH_ready (rs := [9]) (by kernel_rfl) (by simp) (AllReadyH.cons rfl (fun K hK => ?_) AllReadyH.nil)
          refine step_append_lies _ rfl (.tmp 165) (.tmp 172) 30 rfl vq.heap.size 9 i0 (.string ByteArray.empty) 1 16 Tryd.underlying30 hi hz0 hz1 hz2 rfl (by decide) (.slice (some ⟨g3, 0, none⟩) (0 + m) c3) (0 + m) ([] ++ strV lq) (by simp only [q_same, q_ne, q_sz, hsz, h17, ne_eq, Nat.reduceEqDiff, not_false_eq_true, Nat.reduceLT]) ho3 ⟨v7.heap.size, 0, none⟩ 1 1 [.string z] (by simp only [q_same, q_ne, q_sz, hsz, h17, ne_eq, Nat.reduceEqDiff, not_false_eq_true, Nat.reduceLT]) rfl hnews (one_sc z) (by omega) (by unfold maxLen; omega) (by omega) HV3.size _ rfl ?_
          intro g6 c6 v6 ho6 hgr6 _ _
          have HV6 : Below vq.heap.size vq v6 := HV3.grown hgr6 HV3.size (ownB_ge ho3)
          refine hK.out _ _ (HZQ.out v6 HV6) (fun _ => ?_)
          change wpAnyH _ _ _ _ _ _ _ (Act.put _ (some 173) _) _
          have hs6 : SRow v6 g6 0 (lq ++ [z]) := srow6 ho6 hlq
          refine qH_call 10 18 #[.slice (some ⟨g6, 0, none⟩) (0 + m + 1) c6] _ (by kernel_rfl) rfl rfl (q_run1 173 (.slice (some ⟨g6, 0, none⟩) (0 + m + 1) c6) (by simp only [q_same, q_ne, q_sz, hsz, h17, ne_eq, Nat.reduceEqDiff, not_false_eq_true, Nat.reduceLT]) (fun ρ _ hf e1 => by simp [go_sem, hf, e1])) (calls_val (HR2.out v6 g6 c6 HV6 hs6)) ?_
          rintro _ v8 ⟨rfl, hb8⟩
          have HV8 : Below vq.heap.size vq v8 := HV6.trans (hb8.mono HV6.size)
          have hS8 := HZQ.out v8 HV8
          refine ⟨hS8, ?_⟩
          change wpAnyH _ _ _ _ _ _ _ (Act.put _ (some 174) _) _
          refine wpAnyH_take (i := 11) (v := (.tuple #[.string X, .bool true, .int .i64 0])) rfl (by kernel_rfl) (by kernel_rfl) (by kernel_rfl) (fun _ _ _ h => h) (Or.inl ⟨by rfl, fun W _ => q_run1 174 (.tuple #[.string X, .bool true, .int .i64 0]) (by simp only [q_same, q_ne, q_sz, hsz, h17, ne_eq, Nat.reduceEqDiff, not_false_eq_true, Nat.reduceLT]) (fun ρ hc _ e1 => by simp [go_sem, hc, e1])⟩) hS8 ?_
          change wpAnyH _ _ _ _ _ _ _ (Act.put _ (some 163) _) _
          refine wpAnyH_take (i := 12) (v := (.string X)) rfl (by kernel_rfl) (by kernel_rfl) (by kernel_rfl) (fun _ _ _ h => h) (Or.inl ⟨by rfl, fun W _ => q_run1 163 (.tuple #[.string X, .bool true, .int .i64 0]) (by simp only [q_same, q_ne, q_sz, hsz, h17, ne_eq, Nat.reduceEqDiff, not_false_eq_true, Nat.reduceLT]) (fun ρ hc _ e1 => by simp [go_sem, hc, e1])⟩) hS8 ?_
          change wpAnyH _ _ _ _ _ _ _ (Act.put _ (some 175) _) _
          refine wpAnyH_take (i := 13) (v := (.bool true)) rfl (by kernel_rfl) (by kernel_rfl) (by kernel_rfl) (fun _ _ _ h => h) (Or.inl ⟨by rfl, fun W _ => q_run1 163 (.tuple #[.string X, .bool true, .int .i64 0]) (by simp only [q_same, q_ne, q_sz, hsz, h17, ne_eq, Nat.reduceEqDiff, not_false_eq_true, Nat.reduceLT]) (fun ρ hc _ e1 => by simp [go_sem, hc, e1])⟩) hS8 ?_
          change wpAnyH _ _ _ _ _ _ _ (Act.put _ (some 176) _) _
          refine wpAnyH_take (i := 14) (v := (.int .i64 0)) rfl (by kernel_rfl) (by kernel_rfl) (by kernel_rfl) (fun _ _ _ h => h) (Or.inl ⟨by rfl, fun W _ => q_run1 163 (.tuple #[.string X, .bool true, .int .i64 0]) (by simp only [q_same, q_ne, q_sz, hsz, h17, ne_eq, Nat.reduceEqDiff, not_false_eq_true, Nat.reduceLT]) (fun ρ hc _ e1 => by simp [go_sem, hc, e1])⟩) hS8 ?_
          change wpAnyH _ _ _ _ _ _ _ (Act.put _ (some 177) _) _
          refine qH_one 15 (.string X) v8 (by kernel_rfl) rfl rfl (q_run1 175 (.string X) (by simp only [q_same, q_ne, q_sz, hsz, h17, ne_eq, Nat.reduceEqDiff, not_false_eq_true, Nat.reduceLT]) (fun ρ _ _ e1 => by simp [go_sem, e1])) hS8 ?_
          change wpAnyH _ _ _ _ _ _ _ (Act.put _ (some 20) _) _
          refine qH_one 16 (.bool true) v8 (by kernel_rfl) rfl rfl (q_run1 176 (.bool true) (by simp only [q_same, q_ne, q_sz, hsz, h17, ne_eq, Nat.reduceEqDiff, not_false_eq_true, Nat.reduceLT]) (fun ρ _ _ e1 => by simp [go_sem, e1])) hS8 ?_
          change wpAnyH _ _ _ _ _ _ _ (Act.put _ (some 21) _) _
          refine qH_one 17 (.int .i64 0) v8 (by kernel_rfl) rfl rfl (q_run1 177 (.int .i64 0) (by simp only [q_same, q_ne, q_sz, hsz, h17, ne_eq, Nat.reduceEqDiff, not_false_eq_true, Nat.reduceLT]) (fun ρ _ _ e1 => by simp [go_sem, e1])) hS8 ?_
          change wpAnyH _ _ _ _ _ _ _ (Act.put _ (some 13) _) _
          refine wpAnyH_done (by kernel_rfl) ?_ _
          have HFIN : Hid (Below vq.heap.size vq v8) := HV8
          have hfr := HFR.out
          clear HFR hsz h17 ho6 hgr6 HV6 HV8 hS8 hs6 hb8
          subst hfr
          simp only [Act.put, List.setIfInBounds_toArray, List.set_cons_zero, List.set_cons_succ]
          go_wp2
          go_ret
          exact ⟨by simp, HFS.out v8 HFIN.out⟩
      · have hk1' : ((k : Int) == 1) = false := by rw [beq_eq_false_iff_ne]; omega
        have hodd : (k + 1) % 2 = 1 := by
          have h := HNR.out
          cases r with
          | zero => simp at h; omega
          | succ r => rw [Nat.pow_succ] at h; omega
        go_upto_region 23 with fail
        obtain ⟨m, hm⟩ : ∃ m, m = k + 1 := ⟨_, rfl⟩
        obtain ⟨vq, hvq⟩ : ∃ v, v = wc := ⟨_, rfl⟩
        obtain ⟨gq, hgq⟩ : ∃ v, v = go := ⟨_, rfl⟩
        obtain ⟨cq, hcq⟩ : ∃ v, v = co := ⟨_, rfl⟩
        subst hvq hgq hcq
        obtain ⟨lo, hlo⟩ : ∃ lo, lo = la := ⟨_, rfl⟩
        obtain ⟨z, hz⟩ : ∃ z, z = y0 := ⟨_, rfl⟩
        have HOQ := HOO
        have HBQ := HBO
        have H32 := HA32
        rw [← hlo, ← hz] at HOQ H32
        have hlq : (lo ++ [z]).length = k + 1 := by rw [hlo]; simp [hla]
        have hm1 : 1 < k + 1 := by omega
        have hm18 : k + 1 ≤ 18 := by omega
        rw [← hm] at HOQ hlq hm1 hm18 hodd
        rw [← hm]
        clear hm hlo hz HA32 HOO HBO HY0 HRA HRB HRTA HRTB HRTD HSUM hla hlb hy32 hyb s1 s2 HV5
        obtain ⟨X, tX, HR1, HR2, HZQ, HRQ⟩ := odd_facts Kc _ vq lo z gq cq m wr.heap.size HROOT HOQ.out (HEL.out.bel.trans (HBQ.out.mono HEL.out.bel.size)) hlq hodd hm1 hm18 H32.out
        have HFS : Hid (∀ W, Below vq.heap.size vq W → Below wstart.heap.size wstart W) := fun W hb => HEL.out.bel.trans ((HBQ.out.trans (hb.mono HBQ.out.size)).mono HEL.out.bel.size)
        clear HROOT HEL HOQ HBQ H32
        generalize lo ++ [z] = lq at HR1 HR2 HRQ hlq
        go_upto_region 24 with (go_at_call 18; go_must (refine (HR1.out _ (Below.refl _ _)).mono ?_); rintro e v7 ⟨rfl, hb7⟩; have HV7 := (show Hid (Below vq.heap.size vq v7) from hb7); clear hb7)
        have HB0 : Below vq.heap.size vq v7.drew := HV7.out.drew
        refine q_frame (fun A HFR => ?_)
        have hsz : A.tmps.size = 192 := by rw [HFR.out]; rfl
        have h17 : A.eval (.tmp 17) = .slice (some ⟨gq, 0, none⟩) m cq := by rw [HFR.out]; rfl
        have HKW : Hid (IntKind.i64.wrap ((m : Int) - 1) = ((m - 1 : Nat) : Int)) := by show _ = _; rw [IntKind.wrap_i64]; omega
        have HKL : Hid (m - 1 < m) := by show _ < _; omega
        refine wp_region_held_drew (S := fun W => W.cell? ⟨gq, m - 1, none⟩ = some (.string z)) (by kernel_rfl) (HZQ.out _ HB0) (fun hS => ?_)
        refine wpAnyH_take (i := 0) (v := (.slice (some ⟨gq, 0, none⟩) m cq)) rfl (by kernel_rfl) (by kernel_rfl) (by kernel_rfl) (fun _ _ _ h => h) (Or.inl ⟨by rfl, fun W _ => q_run1 17 (.slice (some ⟨gq, 0, none⟩) m cq) (by simp only [q_same, q_ne, q_sz, hsz, h17, ne_eq, Nat.reduceEqDiff, not_false_eq_true, Nat.reduceLT]) (fun ρ hc _ e1 => by simp [go_sem, hc, e1])⟩) hS ?_
        change wpAnyH _ _ _ _ _ _ _ (Act.put _ (some 164) _) _
        refine wpAnyH_take (i := 2) (v := (.slice (some ⟨gq, 0, none⟩) m cq)) rfl (by kernel_rfl) (by kernel_rfl) (by kernel_rfl) (fun _ _ _ h => h) (Or.inl ⟨by rfl, fun W _ => q_run1 17 (.slice (some ⟨gq, 0, none⟩) m cq) (by simp only [q_same, q_ne, q_sz, hsz, h17, ne_eq, Nat.reduceEqDiff, not_false_eq_true, Nat.reduceLT]) (fun ρ hc _ e1 => by simp [go_sem, hc, e1])⟩) hS ?_
        change wpAnyH _ _ _ _ _ _ _ (Act.put _ (some 166) _) _
        refine wpAnyH_take (i := 3) (v := (.slice (some ⟨gq, 0, none⟩) m cq)) rfl (by kernel_rfl) (by kernel_rfl) (by kernel_rfl) (fun _ _ _ h => h) (Or.inl ⟨by rfl, fun W _ => q_run1 17 (.slice (some ⟨gq, 0, none⟩) m cq) (by simp only [q_same, q_ne, q_sz, hsz, h17, ne_eq, Nat.reduceEqDiff, not_false_eq_true, Nat.reduceLT]) (fun ρ hc _ e1 => by simp [go_sem, hc, e1])⟩) hS ?_
        change wpAnyH _ _ _ _ _ _ _ (Act.put _ (some 167) _) _
        refine wpAnyH_take (i := 4) (v := (.int .i64 (m : Int))) rfl (by kernel_rfl) (by kernel_rfl) (by kernel_rfl) (fun _ _ _ h => h) (Or.inl ⟨by rfl, fun W _ => q_run1 167 (.slice (some ⟨gq, 0, none⟩) m cq) (by simp only [q_same, q_ne, q_sz, hsz, h17, ne_eq, Nat.reduceEqDiff, not_false_eq_true, Nat.reduceLT]) (fun ρ hc _ e1 => by simp [go_sem, hc, e1])⟩) hS ?_
        change wpAnyH _ _ _ _ _ _ _ (Act.put _ (some 168) _) _
        refine wpAnyH_take (i := 5) (v := (.int .i64 ((m - 1 : Nat) : Int))) rfl (by kernel_rfl) (by kernel_rfl) (by kernel_rfl) (fun _ _ _ h => h) (Or.inl ⟨by rfl, fun W _ => q_run1 168 (.int .i64 (m : Int)) (by simp only [q_same, q_ne, q_sz, hsz, h17, ne_eq, Nat.reduceEqDiff, not_false_eq_true, Nat.reduceLT]) (fun ρ hc _ e1 => by simp [go_sem, hc, e1, HKW.out])⟩) hS ?_
        change wpAnyH _ _ _ _ _ _ _ (Act.put _ (some 169) _) _
        refine wpAnyH_take (i := 6) (v := (.pointer (some ⟨gq, m - 1, none⟩))) rfl (by kernel_rfl) (by kernel_rfl) (by kernel_rfl) (fun _ _ _ h => h) (Or.inl ⟨by rfl, fun W _ => q_run2 166 169 (.slice (some ⟨gq, 0, none⟩) m cq) (.int .i64 ((m - 1 : Nat) : Int)) (by simp only [q_same, q_ne, q_sz, hsz, h17, ne_eq, Nat.reduceEqDiff, not_false_eq_true, Nat.reduceLT]) (by simp only [q_same, q_ne, q_sz, hsz, h17, ne_eq, Nat.reduceEqDiff, not_false_eq_true, Nat.reduceLT]) (fun ρ hc _ e1 e2 => by simp [go_sem, hc, e1, e2, HKL.out])⟩) hS ?_
        change wpAnyH _ _ _ _ _ _ _ (Act.put _ (some 170) _) _
        refine wpAnyH_take (i := 7) (v := (.string z)) rfl (by kernel_rfl) (by kernel_rfl) (by kernel_rfl) (fun _ _ _ h => h) (Or.inl ⟨by rfl, fun W hW => q_run1 170 (.pointer (some ⟨gq, m - 1, none⟩)) (by simp only [q_same, q_ne, q_sz, hsz, h17, ne_eq, Nat.reduceEqDiff, not_false_eq_true, Nat.reduceLT]) (fun ρ hc _ e1 => by simp [go_sem, hc, e1, hW])⟩) hS ?_
        change wpAnyH _ _ _ _ _ _ _ (Act.put _ (some 171) _) _
        refine wpAnyH_ready (rs := [1, 8]) (by kernel_rfl) (by simp) (AllReadyH.cons rfl (fun K hK => ?_) (AllReadyH.cons rfl (fun K hK => ?_) AllReadyH.nil))
        ·
          refine step_append_lies _ rfl (.const (.slice none 0 0)) (.tmp 164) 30 rfl vq.heap.size 9 i0 (.string ByteArray.empty) 1 16 Tryd.underlying30 hi hz0 hz1 hz2 rfl (by decide) (.slice none 0 0) 0 [] rfl (World.ownsRow_nil _ _ _ _) ⟨gq, 0, none⟩ m cq (strV lq) (by simp only [q_same, q_ne, q_sz, hsz, h17, ne_eq, Nat.reduceEqDiff, not_false_eq_true, Nat.reduceLT]) (by simp [strV, hlq]) (srow_news (HRQ.out _ HB0)) (str_one lq) (by omega) (by unfold maxLen; omega) (by omega) HB0.size _ rfl ?_
          intro g3 c3 v3 ho3 hgr3 _ _
          have HV3 : Below vq.heap.size vq v3 := HB0.grown hgr3 HB0.size (fun x hx => by cases hx)
          refine hK.out _ _ (HZQ.out v3 HV3) (fun _ => ?_)
          change wpAnyH _ _ _ _ _ _ _ (Act.put _ (some 165) _) _
          have HV4 : Below vq.heap.size vq (v3.alloc (.cells #[.string z] 9)) := HV3.alloc HV3.size _
          refine qH_one 8 (.slice (some ⟨v3.heap.size, 0, none⟩) 1 1) _ (by kernel_rfl) rfl rfl (q_run1 171 (.string z) (by simp only [q_same, q_ne, q_sz, hsz, h17, ne_eq, Nat.reduceEqDiff, not_false_eq_true, Nat.reduceLT]) (fun ρ _ _ e1 => by simp [go_sem, e1])) (HZQ.out _ HV4) ?_
          change wpAnyH _ _ _ _ _ _ _ (Act.put _ (some 172) _) _
          have ho4 := own_after ho3 ((Below.refl _ v3).alloc (Nat.le_refl _) (.cells #[.string z] 9))
          refine wpAnyH_ready (rs := [9]) (by kernel_rfl) (by simp) (AllReadyH.cons rfl (fun K hK => ?_) AllReadyH.nil)
          refine step_append_lies _ rfl (.tmp 165) (.tmp 172) 30 rfl vq.heap.size 9 i0 (.string ByteArray.empty) 1 16 Tryd.underlying30 hi hz0 hz1 hz2 rfl (by decide) (.slice (some ⟨g3, 0, none⟩) (0 + m) c3) (0 + m) ([] ++ strV lq) (by simp only [q_same, q_ne, q_sz, hsz, h17, ne_eq, Nat.reduceEqDiff, not_false_eq_true, Nat.reduceLT]) ho4 ⟨v3.heap.size, 0, none⟩ 1 1 [.string z] (by simp only [q_same, q_ne, q_sz, hsz, h17, ne_eq, Nat.reduceEqDiff, not_false_eq_true, Nat.reduceLT]) rfl (one_s v3 z) (one_sc z) (by omega) (by unfold maxLen; omega) (by omega) HV4.size _ rfl ?_
          intro g6 c6 v6 ho6 hgr6 _ _
          have HV6 : Below vq.heap.size vq v6 := HV4.grown hgr6 HV4.size (ownB_ge ho4)
          refine hK.out _ _ (HZQ.out v6 HV6) (fun _ => ?_)
          change wpAnyH _ _ _ _ _ _ _ (Act.put _ (some 173) _) _
          have hs6 : SRow v6 g6 0 (lq ++ [z]) := srow6 ho6 hlq
          refine qH_call 10 18 #[.slice (some ⟨g6, 0, none⟩) (0 + m + 1) c6] _ (by kernel_rfl) rfl rfl (q_run1 173 (.slice (some ⟨g6, 0, none⟩) (0 + m + 1) c6) (by simp only [q_same, q_ne, q_sz, hsz, h17, ne_eq, Nat.reduceEqDiff, not_false_eq_true, Nat.reduceLT]) (fun ρ _ hf e1 => by simp [go_sem, hf, e1])) (calls_val (HR2.out v6 g6 c6 HV6 hs6)) ?_
          rintro _ v8 ⟨rfl, hb8⟩
          have HV8 : Below vq.heap.size vq v8 := HV6.trans (hb8.mono HV6.size)
          have hS8 := HZQ.out v8 HV8
          refine ⟨hS8, ?_⟩
          change wpAnyH _ _ _ _ _ _ _ (Act.put _ (some 174) _) _
          refine wpAnyH_take (i := 11) (v := (.tuple #[.string X, .bool true, .int .i64 0])) rfl (by kernel_rfl) (by kernel_rfl) (by kernel_rfl) (fun _ _ _ h => h) (Or.inl ⟨by rfl, fun W _ => q_run1 174 (.tuple #[.string X, .bool true, .int .i64 0]) (by simp only [q_same, q_ne, q_sz, hsz, h17, ne_eq, Nat.reduceEqDiff, not_false_eq_true, Nat.reduceLT]) (fun ρ hc _ e1 => by simp [go_sem, hc, e1])⟩) hS8 ?_
          change wpAnyH _ _ _ _ _ _ _ (Act.put _ (some 163) _) _
          refine wpAnyH_take (i := 12) (v := (.string X)) rfl (by kernel_rfl) (by kernel_rfl) (by kernel_rfl) (fun _ _ _ h => h) (Or.inl ⟨by rfl, fun W _ => q_run1 163 (.tuple #[.string X, .bool true, .int .i64 0]) (by simp only [q_same, q_ne, q_sz, hsz, h17, ne_eq, Nat.reduceEqDiff, not_false_eq_true, Nat.reduceLT]) (fun ρ hc _ e1 => by simp [go_sem, hc, e1])⟩) hS8 ?_
          change wpAnyH _ _ _ _ _ _ _ (Act.put _ (some 175) _) _
          refine wpAnyH_take (i := 13) (v := (.bool true)) rfl (by kernel_rfl) (by kernel_rfl) (by kernel_rfl) (fun _ _ _ h => h) (Or.inl ⟨by rfl, fun W _ => q_run1 163 (.tuple #[.string X, .bool true, .int .i64 0]) (by simp only [q_same, q_ne, q_sz, hsz, h17, ne_eq, Nat.reduceEqDiff, not_false_eq_true, Nat.reduceLT]) (fun ρ hc _ e1 => by simp [go_sem, hc, e1])⟩) hS8 ?_
          change wpAnyH _ _ _ _ _ _ _ (Act.put _ (some 176) _) _
          refine wpAnyH_take (i := 14) (v := (.int .i64 0)) rfl (by kernel_rfl) (by kernel_rfl) (by kernel_rfl) (fun _ _ _ h => h) (Or.inl ⟨by rfl, fun W _ => q_run1 163 (.tuple #[.string X, .bool true, .int .i64 0]) (by simp only [q_same, q_ne, q_sz, hsz, h17, ne_eq, Nat.reduceEqDiff, not_false_eq_true, Nat.reduceLT]) (fun ρ hc _ e1 => by simp [go_sem, hc, e1])⟩) hS8 ?_
          change wpAnyH _ _ _ _ _ _ _ (Act.put _ (some 177) _) _
          refine qH_one 15 (.string X) v8 (by kernel_rfl) rfl rfl (q_run1 175 (.string X) (by simp only [q_same, q_ne, q_sz, hsz, h17, ne_eq, Nat.reduceEqDiff, not_false_eq_true, Nat.reduceLT]) (fun ρ _ _ e1 => by simp [go_sem, e1])) hS8 ?_
          change wpAnyH _ _ _ _ _ _ _ (Act.put _ (some 20) _) _
          refine qH_one 16 (.bool true) v8 (by kernel_rfl) rfl rfl (q_run1 176 (.bool true) (by simp only [q_same, q_ne, q_sz, hsz, h17, ne_eq, Nat.reduceEqDiff, not_false_eq_true, Nat.reduceLT]) (fun ρ _ _ e1 => by simp [go_sem, e1])) hS8 ?_
          change wpAnyH _ _ _ _ _ _ _ (Act.put _ (some 21) _) _
          refine qH_one 17 (.int .i64 0) v8 (by kernel_rfl) rfl rfl (q_run1 177 (.int .i64 0) (by simp only [q_same, q_ne, q_sz, hsz, h17, ne_eq, Nat.reduceEqDiff, not_false_eq_true, Nat.reduceLT]) (fun ρ _ _ e1 => by simp [go_sem, e1])) hS8 ?_
          change wpAnyH _ _ _ _ _ _ _ (Act.put _ (some 13) _) _
          refine wpAnyH_done (by kernel_rfl) ?_ _
          have HFIN : Hid (Below vq.heap.size vq v8) := HV8
          have hfr := HFR.out
          clear HFR hsz h17 ho6 hgr6 HV6 HV8 hS8 hs6 hb8
          subst hfr
          simp only [Act.put, List.setIfInBounds_toArray, List.set_cons_zero, List.set_cons_succ]
          go_wp2
          go_ret
          exact ⟨by simp, HFS.out v8 HFIN.out⟩
        ·
          refine q_stepv (.slice (some ⟨v7.heap.size, 0, none⟩) 1 1) (v7.drew.alloc (.cells #[.string z] 9)) rfl (q_run1 171 (.string z) (by simp only [q_same, q_ne, q_sz, hsz, h17, ne_eq, Nat.reduceEqDiff, not_false_eq_true, Nat.reduceLT]) (fun ρ _ _ e1 => by simp [go_sem, e1])) ?_
          have HV1 : Below vq.heap.size vq (v7.drew.alloc (.cells #[.string z] 9)) := HB0.alloc HB0.size _
          refine hK.out _ _ (HZQ.out _ HV1) (fun _ => ?_)
          change wpAnyH _ _ _ _ _ _ _ (Act.put _ (some 172) _) _
          refine wpAnyH_ready (rs := [1]) (by kernel_rfl) (by simp) (AllReadyH.cons rfl (fun K hK => ?_) AllReadyH.nil)
          refine step_append_lies _ rfl (.const (.slice none 0 0)) (.tmp 164) 30 rfl vq.heap.size 9 i0 (.string ByteArray.empty) 1 16 Tryd.underlying30 hi hz0 hz1 hz2 rfl (by decide) (.slice none 0 0) 0 [] rfl (World.ownsRow_nil _ _ _ _) ⟨gq, 0, none⟩ m cq (strV lq) (by simp only [q_same, q_ne, q_sz, hsz, h17, ne_eq, Nat.reduceEqDiff, not_false_eq_true, Nat.reduceLT]) (by simp [strV, hlq]) (srow_news (HRQ.out _ HV1)) (str_one lq) (by omega) (by unfold maxLen; omega) (by omega) HV1.size _ rfl ?_
          intro g3 c3 v3 ho3 hgr3 _ _
          have HV3 : Below vq.heap.size vq v3 := HV1.grown hgr3 HV1.size (fun x hx => by cases hx)
          have hnews : ∀ j u, [Value.string z][j]? = some u → v3.cell? ((⟨v7.heap.size, 0, none⟩ : Addr).add j) = some u := fun j u hu => by
            have h1 := one_s v7.drew z j u hu
            rw [Addr.add_mid] at h1 ⊢
            rw [hgr3.cell_far _ (by simp) (by simp [Value.ownBlock])]; exact h1
          refine hK.out _ _ (HZQ.out v3 HV3) (fun _ => ?_)
          change wpAnyH _ _ _ _ _ _ _ (Act.put _ (some 165) _) _
          refine wpAnyH_ready (rs := [9]) (by kernel_rfl) (by simp) (AllReadyH.cons rfl (fun K hK => ?_) AllReadyH.nil)
          refine step_append_lies _ rfl (.tmp 165) (.tmp 172) 30 rfl vq.heap.size 9 i0 (.string ByteArray.empty) 1 16 Tryd.underlying30 hi hz0 hz1 hz2 rfl (by decide) (.slice (some ⟨g3, 0, none⟩) (0 + m) c3) (0 + m) ([] ++ strV lq) (by simp only [q_same, q_ne, q_sz, hsz, h17, ne_eq, Nat.reduceEqDiff, not_false_eq_true, Nat.reduceLT]) ho3 ⟨v7.heap.size, 0, none⟩ 1 1 [.string z] (by simp only [q_same, q_ne, q_sz, hsz, h17, ne_eq, Nat.reduceEqDiff, not_false_eq_true, Nat.reduceLT]) rfl hnews (one_sc z) (by omega) (by unfold maxLen; omega) (by omega) HV3.size _ rfl ?_
          intro g6 c6 v6 ho6 hgr6 _ _
          have HV6 : Below vq.heap.size vq v6 := HV3.grown hgr6 HV3.size (ownB_ge ho3)
          refine hK.out _ _ (HZQ.out v6 HV6) (fun _ => ?_)
          change wpAnyH _ _ _ _ _ _ _ (Act.put _ (some 173) _) _
          have hs6 : SRow v6 g6 0 (lq ++ [z]) := srow6 ho6 hlq
          refine qH_call 10 18 #[.slice (some ⟨g6, 0, none⟩) (0 + m + 1) c6] _ (by kernel_rfl) rfl rfl (q_run1 173 (.slice (some ⟨g6, 0, none⟩) (0 + m + 1) c6) (by simp only [q_same, q_ne, q_sz, hsz, h17, ne_eq, Nat.reduceEqDiff, not_false_eq_true, Nat.reduceLT]) (fun ρ _ hf e1 => by simp [go_sem, hf, e1])) (calls_val (HR2.out v6 g6 c6 HV6 hs6)) ?_
          rintro _ v8 ⟨rfl, hb8⟩
          have HV8 : Below vq.heap.size vq v8 := HV6.trans (hb8.mono HV6.size)
          have hS8 := HZQ.out v8 HV8
          refine ⟨hS8, ?_⟩
          change wpAnyH _ _ _ _ _ _ _ (Act.put _ (some 174) _) _
          refine wpAnyH_take (i := 11) (v := (.tuple #[.string X, .bool true, .int .i64 0])) rfl (by kernel_rfl) (by kernel_rfl) (by kernel_rfl) (fun _ _ _ h => h) (Or.inl ⟨by rfl, fun W _ => q_run1 174 (.tuple #[.string X, .bool true, .int .i64 0]) (by simp only [q_same, q_ne, q_sz, hsz, h17, ne_eq, Nat.reduceEqDiff, not_false_eq_true, Nat.reduceLT]) (fun ρ hc _ e1 => by simp [go_sem, hc, e1])⟩) hS8 ?_
          change wpAnyH _ _ _ _ _ _ _ (Act.put _ (some 163) _) _
          refine wpAnyH_take (i := 12) (v := (.string X)) rfl (by kernel_rfl) (by kernel_rfl) (by kernel_rfl) (fun _ _ _ h => h) (Or.inl ⟨by rfl, fun W _ => q_run1 163 (.tuple #[.string X, .bool true, .int .i64 0]) (by simp only [q_same, q_ne, q_sz, hsz, h17, ne_eq, Nat.reduceEqDiff, not_false_eq_true, Nat.reduceLT]) (fun ρ hc _ e1 => by simp [go_sem, hc, e1])⟩) hS8 ?_
          change wpAnyH _ _ _ _ _ _ _ (Act.put _ (some 175) _) _
          refine wpAnyH_take (i := 13) (v := (.bool true)) rfl (by kernel_rfl) (by kernel_rfl) (by kernel_rfl) (fun _ _ _ h => h) (Or.inl ⟨by rfl, fun W _ => q_run1 163 (.tuple #[.string X, .bool true, .int .i64 0]) (by simp only [q_same, q_ne, q_sz, hsz, h17, ne_eq, Nat.reduceEqDiff, not_false_eq_true, Nat.reduceLT]) (fun ρ hc _ e1 => by simp [go_sem, hc, e1])⟩) hS8 ?_
          change wpAnyH _ _ _ _ _ _ _ (Act.put _ (some 176) _) _
          refine wpAnyH_take (i := 14) (v := (.int .i64 0)) rfl (by kernel_rfl) (by kernel_rfl) (by kernel_rfl) (fun _ _ _ h => h) (Or.inl ⟨by rfl, fun W _ => q_run1 163 (.tuple #[.string X, .bool true, .int .i64 0]) (by simp only [q_same, q_ne, q_sz, hsz, h17, ne_eq, Nat.reduceEqDiff, not_false_eq_true, Nat.reduceLT]) (fun ρ hc _ e1 => by simp [go_sem, hc, e1])⟩) hS8 ?_
          change wpAnyH _ _ _ _ _ _ _ (Act.put _ (some 177) _) _
          refine qH_one 15 (.string X) v8 (by kernel_rfl) rfl rfl (q_run1 175 (.string X) (by simp only [q_same, q_ne, q_sz, hsz, h17, ne_eq, Nat.reduceEqDiff, not_false_eq_true, Nat.reduceLT]) (fun ρ _ _ e1 => by simp [go_sem, e1])) hS8 ?_
          change wpAnyH _ _ _ _ _ _ _ (Act.put _ (some 20) _) _
          refine qH_one 16 (.bool true) v8 (by kernel_rfl) rfl rfl (q_run1 176 (.bool true) (by simp only [q_same, q_ne, q_sz, hsz, h17, ne_eq, Nat.reduceEqDiff, not_false_eq_true, Nat.reduceLT]) (fun ρ _ _ e1 => by simp [go_sem, e1])) hS8 ?_
          change wpAnyH _ _ _ _ _ _ _ (Act.put _ (some 21) _) _
          refine qH_one 17 (.int .i64 0) v8 (by kernel_rfl) rfl rfl (q_run1 177 (.int .i64 0) (by simp only [q_same, q_ne, q_sz, hsz, h17, ne_eq, Nat.reduceEqDiff, not_false_eq_true, Nat.reduceLT]) (fun ρ _ _ e1 => by simp [go_sem, e1])) hS8 ?_
          change wpAnyH _ _ _ _ _ _ _ (Act.put _ (some 13) _) _
          refine wpAnyH_done (by kernel_rfl) ?_ _
          have HFIN : Hid (Below vq.heap.size vq v8) := HV8
          have hfr := HFR.out
          clear HFR hsz h17 ho6 hgr6 HV6 HV8 hS8 hs6 hb8
          subst hfr
          simp only [Act.put, List.setIfInBounds_toArray, List.set_cons_zero, List.set_cons_succ]
          go_wp2
          go_ret
          exact ⟨by simp, HFS.out v8 HFIN.out⟩
end Go.Proofs.YtkmalggeieiepabDoor
