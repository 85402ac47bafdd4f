import Derived.Test.YtkmalggeieiepaaGreatDoorRefD
import Derived.Test.YtkmalggeieiepaaGreatDoorRefE
import Derived.WalkKit
import Derived.WalkSpells
import Derived.WalkLawsBesides
import Derived.Deep.LoopGhost
import Derived.Deep.DeepCutAuto
import Derived.Deep.RegionLaw
import Derived.Deep.AppendLies
namespace Go.Proofs.YtkmalggeieiepaaGreatDoor
open Go.RowKit
set_option maxRecDepth 10000

def rootsK : List Int := [5411319704, 6194414737, 7344290767, 8215976869, 9551921755, 10098905585, 11043570340, 11460697813, 12214315672, 13195500289, 13492127166, 14311783875, 14809980276, 15046980094, 15499789991, 16133124468, 16720292289, 16907126662, 17444216262, 17784676812, 17950125167, 18429019306, 18734950876, 19175934170, 19734090066, 20001703533, 20132865992, 20390182855, 20516441075, 20764397895, 21588763473, 21813078375, 22141143685, 22248366392, 22769593852, 22871018771, 23170020180, 23461497531, 23651862830, 23931792517, 24205322401, 24295138891, 24734567280, 24820601251, 24990902297, 25075189284, 25569408389, 26045227120, 26200031510, 26276752392, 26428864332, 26653801653, 26727943347, 27092625994, 27306805839, 27517677555, 27725365998, 27793908591, 27997534228, 28131656200, 28198240250, 28526537963, 28973835255, 29099129074]
def rootsH : List Int := [6074000999, 7439101573, 9603838834, 11363415354, 14244795007, 15485724812, 17708603819, 18721328409]
def wordsK : List Int := [1116352408, 1899447441, 3049323471, 3921009573, 961987163, 1508970993, 2453635748, 2870763221, 3624381080, 310598401, 607225278, 1426881987, 1925078388, 2162078206, 2614888103, 3248222580, 3835390401, 4022224774, 264347078, 604807628, 770255983, 1249150122, 1555081692, 1996064986, 2554220882, 2821834349, 2952996808, 3210313671, 3336571891, 3584528711, 113926993, 338241895, 666307205, 773529912, 1294757372, 1396182291, 1695183700, 1986661051, 2177026350, 2456956037, 2730485921, 2820302411, 3259730800, 3345764771, 3516065817, 3600352804, 4094571909, 275423344, 430227734, 506948616, 659060556, 883997877, 958139571, 1322822218, 1537002063, 1747873779, 1955562222, 2024104815, 2227730452, 2361852424, 2428436474, 2756734187, 3204031479, 3329325298]
def wordsH : List Int := [1779033703, 3144134277, 1013904242, 2773480762, 1359893119, 2600822924, 528734635, 1541459225]
theorem sq_mono (a b : Int) (h0 : 0 ≤ a) (h : a ≤ b) : a * a ≤ b * b := Int.mul_le_mul h h h0 (by omega)
theorem cb_mono (a b : Int) (h0 : 0 ≤ a) (h : a ≤ b) : a * a * a ≤ b * b * b := Int.mul_le_mul (sq_mono a b h0 h) h h0 (Int.mul_nonneg (by omega) (by omega))
theorem sq_one (r c G : Int) (r0 : 0 ≤ r) (c0 : 0 ≤ c) (h1 : r * r ≤ G) (h2 : G < (r + 1) * (r + 1)) (h3 : c * c ≤ G) (h4 : G < (c + 1) * (c + 1)) : r = c := by
  rcases Int.lt_trichotomy r c with h | h | h
  · have := sq_mono (r + 1) c (by omega) (by omega); omega
  · exact h
  · have := sq_mono (c + 1) r (by omega) (by omega); omega
theorem cb_one (r c G : Int) (r0 : 0 ≤ r) (c0 : 0 ≤ c) (h1 : r * r * r ≤ G) (h2 : G < (r + 1) * (r + 1) * (r + 1)) (h3 : c * c * c ≤ G) (h4 : G < (c + 1) * (c + 1) * (c + 1)) : r = c := by
  rcases Int.lt_trichotomy r c with h | h | h
  · have := cb_mono (r + 1) c (by omega) (by omega); omega
  · exact h
  · have := cb_mono (c + 1) r (by omega) (by omega); omega
def okK (k : Nat) : Bool := let r := rootsK.getD k 0; let p := (prs 312).getD k 0
  decide (0 ≤ r) && decide (r * r * r ≤ p * pw 6) && decide (p * pw 6 < (r + 1) * (r + 1) * (r + 1)) && decide (r % 4294967296 = wordsK.getD k 0) && decide (0 ≤ p) && decide (p ≤ 400)
def okH (k : Nat) : Bool := let r := rootsH.getD k 0; let p := (prs 312).getD k 0
  decide (0 ≤ r) && decide (r * r ≤ p * pw 4) && decide (p * pw 4 < (r + 1) * (r + 1)) && decide (r % 4294967296 = wordsH.getD k 0) && decide (0 ≤ p) && decide (p ≤ 400)
theorem okK_all : (List.range 64).all okK = true := by kernel_rfl
theorem okH_all : (List.range 8).all okH = true := by kernel_rfl
theorem rootK_at (k : Nat) (hk : k < 64) (w : World) :
    Calls Tryz.prog 15 #[.int .i64 ((prs 312).getD k 0), .int .i64 3] w fun e w' => e = .returned (.int .i64 (wordsK.getD k 0)) ∧ Below w.heap.size w w' := by
  have h := List.all_eq_true.1 okK_all k (by simpa using hk)
  simp only [okK, Bool.and_eq_true, decide_eq_true_eq] at h
  obtain ⟨⟨⟨⟨⟨h0, h1⟩, h2⟩, h3⟩, h4⟩, h5⟩ := h
  refine (root3_any _ w h4 h5).mono ?_
  rintro e w' ⟨r, rfl, r0, r1, r2, hb⟩
  have := cb_one r _ _ r0 h0 r1 r2 h1 h2
  exact ⟨by rw [this, h3], hb⟩
theorem rootH_at (k : Nat) (hk : k < 8) (w : World) :
    Calls Tryz.prog 15 #[.int .i64 ((prs 312).getD k 0), .int .i64 2] w fun e w' => e = .returned (.int .i64 (wordsH.getD k 0)) ∧ Below w.heap.size w w' := by
  have h := List.all_eq_true.1 okH_all k (by simpa using hk)
  simp only [okH, Bool.and_eq_true, decide_eq_true_eq] at h
  obtain ⟨⟨⟨⟨⟨h0, h1⟩, h2⟩, h3⟩, h4⟩, h5⟩ := h
  refine (root2_any _ w h4 h5).mono ?_
  rintro e w' ⟨r, rfl, r0, r1, r2, hb⟩
  have := sq_one r _ _ r0 h0 r1 r2 h1 h2
  exact ⟨by rw [this, h3], hb⟩
/-- a row is there still. -/
theorem own_later {w w' : World} {base e size n : Nat} {v : Value} {xs : List Value} (h : w.ownsRow base e size v n xs) (hb : Below w.heap.size w w') : w'.ownsRow base e size v n xs := by
  refine ⟨h.1, ?_⟩
  rcases h.2 with hn | ⟨g, cap, cur, hv, hbg, hg, rest⟩
  · exact .inl hn
  · have hlt : g < w.heap.size := by
      rcases Nat.lt_or_ge g w.heap.size with h1 | h1
      · exact h1
      · rw [Array.getElem?_eq_none h1] at hg; cases hg
    exact .inr ⟨g, cap, cur, hv, hbg, by rw [hb.block g hlt]; exact hg, rest⟩
/-- the tables under way. -/
structure Tab (w wx : World) (k m gP cP : Nat) (vK vH : Value) : Prop where
  cK : wx.cell? ⟨w.heap.size, 1, none⟩ = some vK
  cH : wx.cell? ⟨w.heap.size, 0, none⟩ = some vH
  fK : wx.frozen? ⟨w.heap.size, 1, none⟩ = false
  fH : wx.frozen? ⟨w.heap.size, 0, none⟩ = false
  oK : wx.ownsRow (w.heap.size + 1) 3 1 vK k (ivals (wordsK.take k))
  oH : wx.ownsRow (w.heap.size + 1) 3 1 vH m (ivals (wordsH.take m))
  oP : wx.ownsRow (w.heap.size + 1) 3 1 (.slice (some ⟨gP, 0, none⟩) 64 cP) 64 (ivals (prs 312))
  dKH : vK.ownBlock = none ∨ vK.ownBlock ≠ vH.ownBlock
  dKP : vK.ownBlock ≠ some gP
  dHP : vH.ownBlock ≠ some gP
  below : Below w.heap.size w wx

theorem own_set {w : World} {base e size n : Nat} {v : Value} {xs : List Value} (h : w.ownsRow base e size v n xs) (a : Addr) (u : Value) (ha : a.block < base) : (w.setCell a u).ownsRow base e size v n xs := by
  refine ⟨h.1, ?_⟩
  rcases h.2 with hn | ⟨g, cap, cur, hv, hbg, hg, rest⟩
  · exact .inl hn
  · exact .inr ⟨g, cap, cur, hv, hbg, by rw [heap_setCell_other _ _ _ _ (by omega)]; exact hg, rest⟩
theorem Tab.later {w wx w2 : World} {k m gP cP : Nat} {vK vH : Value} (h : Tab w wx k m gP cP vK vH) (hb : Below wx.heap.size wx w2) : Tab w w2 k m gP cP vK vH := by
  have l := World.block_lt_of_cell? wx _ h.cK
  have hz := h.below.size
  exact ⟨by rw [hb.cell (p := ⟨w.heap.size, 1, none⟩) l]; exact h.cK, by rw [hb.cell (p := ⟨w.heap.size, 0, none⟩) l]; exact h.cH, by rw [hb.frozen (p := ⟨w.heap.size, 1, none⟩) l]; exact h.fK, by rw [hb.frozen (p := ⟨w.heap.size, 0, none⟩) l]; exact h.fH,
    own_later h.oK hb, own_later h.oH hb, own_later h.oP hb, h.dKH, h.dKP, h.dHP, h.below.trans (hb.mono hz)⟩
theorem Tab.drew {w wx : World} {k m gP cP : Nat} {vK vH : Value} (h : Tab w wx k m gP cP vK vH) : Tab w wx.drew k m gP cP vK vH :=
  h.later (Below.refl _ _).drew
theorem grown_below {w w' : World} {row : Option Nat} {B : Nat} {a : World} (h : Below B a w) (hg : w.grownBy w' row) (hB : B ≤ w.heap.size) (hr : ∀ k, row = some k → B ≤ k) : Below B a w' := h.grown hg hB hr
theorem Tab.appK {w w3 w4 : World} {k m gP cP g cap : Nat} {vK vH : Value} (h : Tab w w3 k m gP cP vK vH)
    (ho : w4.ownsRow (w.heap.size + 1) 3 1 (.slice (some ⟨g, 0, none⟩) (k + 1) cap) (k + 1) (ivals (wordsK.take k) ++ [.int .i64 (wordsK.getD k 0)]))
    (hgr : w3.grownBy w4 vK.ownBlock) (hg : vK.ownBlock = some g ∨ g = w3.heap.size) (hk : k < 64) :
    w4.cell? ⟨w.heap.size, 1, none⟩ = some vK ∧ w4.frozen? ⟨w.heap.size, 1, none⟩ = false ∧ Tab w (w4.setCell ⟨w.heap.size, 1, none⟩ (.slice (some ⟨g, 0, none⟩) (k + 1) cap)) (k + 1) m gP cP (.slice (some ⟨g, 0, none⟩) (k + 1) cap) vH := by
  have l := World.block_lt_of_cell? w3 _ h.cK
  have lK := h.oK.lt
  have lH := h.oH.lt
  have lP := h.oP.lt gP rfl
  have hne : some w.heap.size ≠ vK.ownBlock := by
    intro e; have := lK _ e.symm; omega
  have c1 : w4.cell? ⟨w.heap.size, 1, none⟩ = some vK := by rw [hgr.cell_far ⟨w.heap.size, 1, none⟩ l hne]; exact h.cK
  have c0 : w4.cell? ⟨w.heap.size, 0, none⟩ = some vH := by rw [hgr.cell_far ⟨w.heap.size, 0, none⟩ l hne]; exact h.cH
  have f1 : w4.frozen? ⟨w.heap.size, 1, none⟩ = false := by rw [hgr.frozen_far ⟨w.heap.size, 1, none⟩ l hne]; exact h.fK
  have f0 : w4.frozen? ⟨w.heap.size, 0, none⟩ = false := by rw [hgr.frozen_far ⟨w.heap.size, 0, none⟩ l hne]; exact h.fH
  have hzz := h.below.size
  refine ⟨c1, f1, ?_⟩
  refine ⟨?_, ?_, by simpa using f1, by simpa using f0, ?_, ?_, ?_, ?_, ?_, h.dHP, ?_⟩
  · rw [scSame]; rw [c1]; rfl
  · rw [World.cell?_setCell_other, c0]; intro e; injection e with _ e2; cases e2
  · refine own_set ?_ _ _ (by simp)
    have e : ivals (wordsK.take (k + 1)) = ivals (wordsK.take k) ++ [.int .i64 (wordsK.getD k 0)] := by
      have hl : k < wordsK.length := by show k < 64; exact hk
      unfold ivals
      rw [List.take_succ_eq_append_getElem hl, List.map_append, List.getD_eq_getElem?_getD, List.getElem?_eq_getElem hl]; rfl
    rw [e]; exact ho
  · refine own_set (h.oH.kept hgr ?_) _ _ (by simp)
    rcases h.dKH with e | e
    · rw [e]; rcases hv : vH.ownBlock with _ | q
      · exact .inl rfl
      · exact .inr (by simp)
    · exact .inr (Ne.symm e)
  · refine own_set (h.oP.kept hgr (.inr ?_)) _ _ (by simp)
    exact Ne.symm h.dKP
  · right
    show some g ≠ vH.ownBlock
    rcases hg with e | e
    · rcases h.dKH with e2 | e2
      · rw [e2] at e; cases e
      · rw [← e]; exact e2
    · intro e3; have := lH g e3.symm; omega
  · show some g ≠ some gP
    rcases hg with e | e
    · rw [← e]; exact h.dKP
    · intro e3; injection e3 with e4; omega
  · exact (grown_below h.below hgr (by omega) (fun q hq => by have := lK q hq; omega)).setCell (Nat.le_refl _) _
theorem Tab.appH {w w3 w4 : World} {k m gP cP g cap : Nat} {vK vH : Value} (h : Tab w w3 k m gP cP vK vH)
    (ho : w4.ownsRow (w.heap.size + 1) 3 1 (.slice (some ⟨g, 0, none⟩) (m + 1) cap) (m + 1) (ivals (wordsH.take m) ++ [.int .i64 (wordsH.getD m 0)]))
    (hgr : w3.grownBy w4 vH.ownBlock) (hg : vH.ownBlock = some g ∨ g = w3.heap.size) (hk : m < 8) :
    w4.cell? ⟨w.heap.size, 0, none⟩ = some vH ∧ w4.frozen? ⟨w.heap.size, 0, none⟩ = false ∧ Tab w (w4.setCell ⟨w.heap.size, 0, none⟩ (.slice (some ⟨g, 0, none⟩) (m + 1) cap)) k (m + 1) gP cP vK (.slice (some ⟨g, 0, none⟩) (m + 1) cap) := by
  have l := World.block_lt_of_cell? w3 _ h.cK
  have lK := h.oK.lt
  have lH := h.oH.lt
  have lP := h.oP.lt gP rfl
  have hne : some w.heap.size ≠ vH.ownBlock := by
    intro e; have := lH _ e.symm; omega
  have c1 : w4.cell? ⟨w.heap.size, 1, none⟩ = some vK := by rw [hgr.cell_far ⟨w.heap.size, 1, none⟩ l hne]; exact h.cK
  have c0 : w4.cell? ⟨w.heap.size, 0, none⟩ = some vH := by rw [hgr.cell_far ⟨w.heap.size, 0, none⟩ l hne]; exact h.cH
  have f1 : w4.frozen? ⟨w.heap.size, 1, none⟩ = false := by rw [hgr.frozen_far ⟨w.heap.size, 1, none⟩ l hne]; exact h.fK
  have f0 : w4.frozen? ⟨w.heap.size, 0, none⟩ = false := by rw [hgr.frozen_far ⟨w.heap.size, 0, none⟩ l hne]; exact h.fH
  have hzz := h.below.size
  have hKH : vK.ownBlock = none ∨ vK.ownBlock ≠ vH.ownBlock := h.dKH
  refine ⟨c0, f0, ?_⟩
  refine ⟨?_, ?_, by simpa using f1, by simpa using f0, ?_, ?_, ?_, ?_, h.dKP, ?_, ?_⟩
  · rw [World.cell?_setCell_other, c1]; intro e; injection e with _ e2; cases e2
  · rw [scSame]; rw [c0]; rfl
  · exact own_set (h.oK.kept hgr hKH) _ _ (by simp)
  · refine own_set ?_ _ _ (by simp)
    have e : ivals (wordsH.take (m + 1)) = ivals (wordsH.take m) ++ [.int .i64 (wordsH.getD m 0)] := by
      have hl : m < wordsH.length := by show m < 8; exact hk
      unfold ivals
      rw [List.take_succ_eq_append_getElem hl, List.map_append, List.getD_eq_getElem?_getD, List.getElem?_eq_getElem hl]; rfl
    rw [e]; exact ho
  · refine own_set (h.oP.kept hgr (.inr ?_)) _ _ (by simp)
    exact Ne.symm h.dHP
  · rcases hv : vK.ownBlock with _ | q
    · exact .inl rfl
    · right
      show some q ≠ some g
      rcases hg with e | e
      · rcases hKH with e2 | e2
        · rw [e2] at hv; cases hv
        · rw [hv, e] at e2; exact e2
      · intro e3; injection e3 with e4; have := lK q hv; omega
  · show some g ≠ some gP
    rcases hg with e | e
    · rw [← e]; exact h.dHP
    · intro e3; injection e3 with e4; omega
  · exact (grown_below h.below hgr (by omega) (fun q hq => by have := lH q hq; omega)).setCell (Nat.le_refl _) _

set_option maxHeartbeats 1000000 in
theorem newTables_any (w : World) :
    Calls Tryz.prog 11 #[] w fun e w' => ∃ vK vH gP cP, e = .returned (.pointer (some ⟨w.heap.size, 0, none⟩)) ∧ Tab w w' 64 8 gP cP vK vH := by
  obtain ⟨i0, hi, hz0, hz1, hz2⟩ := info_parts infoInt
  go_enter Tryz.func11, Tryz.ntmps11
  go_upto_region 3 with (go_at_call 14; go_must (refine (primes_any _).mono ?_); rintro e w1 ⟨vP, rfl, hown, hb⟩; have HO : Hid (w1.ownsRow (w.alloc (.cells #[.slice none 0 0, .slice none 0 0] 38)).heap.size 3 1 vP 64 (ivals (prs 312))) := hown; have HB : Hid (Below (w.alloc (.cells #[.slice none 0 0, .slice none 0 0] 38)).heap.size (w.alloc (.cells #[.slice none 0 0, .slice none 0 0] 38)) w1) := hb; obtain ⟨gP, cP, rfl, _, _⟩ := hown.form (by omega); clear hown hb)
  have hz : (w.alloc (.cells #[.slice none 0 0, .slice none 0 0] 38)).heap.size = w.heap.size + 1 := by simp
  have HT0 : Hid (Tab w w1 0 0 gP cP (.slice none 0 0) (.slice none 0 0)) := by
    have hb := HB.out
    have ho := HO.out
    rw [hz] at ho
    have hw : w.heap.size < (w.alloc (.cells #[.slice none 0 0, .slice none 0 0] 38)).heap.size := by omega
    refine ⟨?_, ?_, ?_, ?_, World.ownsRow_nil _ _ _ _, World.ownsRow_nil _ _ _ _, ho, .inl rfl, by simp [Value.ownBlock], by simp [Value.ownBlock], ((Below.refl _ _).alloc (Nat.le_refl _) _).trans (hb.mono (by omega))⟩
    · rw [hb.cell (p := ⟨w.heap.size, 1, none⟩) hw]; simp [go_sem]
    · rw [hb.cell (p := ⟨w.heap.size, 0, none⟩) hw]; simp [go_sem]
    · rw [hb.frozen (p := ⟨w.heap.size, 1, none⟩) hw]; simp [go_sem]
    · rw [hb.frozen (p := ⟨w.heap.size, 0, none⟩) hw]; simp [go_sem]
  clear HO HB hz
  go_loopg [8] 64 (fun g i wx => ∃ k : Nat, ∃ vK vH : Value, k + g = 64 ∧ i = .int .i64 k ∧ Tab w wx k (min k 8) gP cP vK vH)
  case atStart => exact ⟨0, _, _, rfl, rfl, HT0.out⟩
  case round =>
    clear HT0
    obtain ⟨k, vK, vH, hk, rfl, hT⟩ := hrel
    have HK : Hid (k + gk = 64) := hk
    have HT : Hid (Tab w wr k (min k 8) gP cP vK vH) := hT
    clear hk
    by_cases hlt : k < 64
    · have hcP := own_cell hT.oP rfl k (by rw [prs_312]; exact hlt)
      have hcK := hT.cK
      have hfK := hT.fK
      clear hT
      obtain ⟨P, hP⟩ : ∃ P, P = (prs 312).getD k 0 := ⟨_, rfl⟩
      rw [← hP] at hcP
      have HP : Hid (P = (prs 312).getD k 0) := hP
      have hroot := fun W => rootK_at k hlt W
      rw [← hP] at hroot
      obtain ⟨c, hc⟩ : ∃ c, c = wordsK.getD k 0 := ⟨_, rfl⟩
      rw [← hc] at hroot
      have HC : Hid (c = wordsK.getD k 0) := hc
      clear hP hc
      go_upto_region 5 with fail
      go_cut [] (fun wx => ∃ vK' : Value, Tab w wx (k + 1) (min k 8) gP cP vK' vH)
      case first =>
        go_region_law (first | (go_simp; go_at_call 15; refine (hroot _).mono ?_; rintro e w2 ⟨rfl, hb2⟩; have HT2 : Hid (Tab w w2 k (min k 8) gP cP vK vH) := HT.out.drew.later hb2; have c2 := HT2.out.cK; have c3 := fun o => (HT2.out.later ((Below.refl w2.heap.size w2).alloc (Nat.le_refl _) o)).cK; clear hb2; dsimp only) | (refine step_append_lies _ rfl (.tmp 17) (.tmp 20) 36 rfl (w.heap.size + 1) 3 i0 (.int .i64 0) 1 8 Tryz.underlying36 hi hz0 hz1 hz2 rfl (by decide) vK k (ivals (wordsK.take k)) (by simp [Act.eval]) (HT2.out.oK.alloc _) ⟨w2.heap.size, 0, none⟩ 1 1 [.int .i64 c] (by simp [Act.eval]) rfl (one_new w2 _ _) (one_cell _) (by omega) (by unfold maxLen; omega) (by omega) (by have := HT2.out.below.size; have := World.block_lt_of_cell? _ _ HT2.out.cK; simp; omega) _ rfl ?_; intro g cap w4 ho hgr hg hlt4; obtain ⟨c4, f4, HT4⟩ := Tab.appK (HT2.out.later ((Below.refl _ _).alloc (Nat.le_refl _) _)) (by rw [← HC.out]; exact ho) hgr hg hlt; have HT5 : Hid (Tab w (w4.setCell ⟨w.heap.size, 1, none⟩ (.slice (some ⟨g, 0, none⟩) (k + 1) cap)) (k + 1) (min k 8) gP cP (.slice (some ⟨g, 0, none⟩) (k + 1) cap) vH) := HT4; clear ho hgr hg hlt4 HT4))
        all_goals (go_wp2_with fail; go_meet; exact ⟨_, HT5.out⟩)
      case rest =>
      clear HT hcK hfK hroot HC hcP
      obtain ⟨vK', hT⟩ := hcut
      have HT : Hid (Tab w wc (k + 1) (min k 8) gP cP vK' vH) := hT
      by_cases h8 : k < 8
      · have hm : min k 8 = k := by omega
        rw [hm] at hT
        have HT1 : Hid (Tab w wc (k + 1) k gP cP vK' vH) := hT
        have hcH := hT.cH
        have hfH := hT.fH
        have hroot := fun W => rootH_at k h8 W
        rw [← HP.out] at hroot
        obtain ⟨c, hc⟩ : ∃ c, c = wordsH.getD k 0 := ⟨_, rfl⟩
        rw [← hc] at hroot
        have HC : Hid (c = wordsH.getD k 0) := hc
        clear hT hc hm HT
        go_upto_region 7 with fail
        go_region_law (first | (go_simp; go_at_call 15; refine (hroot _).mono ?_; rintro e w2 ⟨rfl, hb2⟩; have HT2 : Hid (Tab w w2 (k + 1) k gP cP vK' vH) := HT1.out.drew.later hb2; have c2 := HT2.out.cH; have c3 := fun o => (HT2.out.later ((Below.refl w2.heap.size w2).alloc (Nat.le_refl _) o)).cH; clear hb2; dsimp only) | (refine step_append_lies _ rfl (.tmp 30) (.tmp 33) 36 rfl (w.heap.size + 1) 3 i0 (.int .i64 0) 1 8 Tryz.underlying36 hi hz0 hz1 hz2 rfl (by decide) vH k (ivals (wordsH.take k)) (by simp [Act.eval]) (HT2.out.oH.alloc _) ⟨w2.heap.size, 0, none⟩ 1 1 [.int .i64 c] (by simp [Act.eval]) rfl (one_new w2 _ _) (one_cell _) (by omega) (by unfold maxLen; omega) (by omega) (by have := HT2.out.below.size; have := World.block_lt_of_cell? _ _ HT2.out.cK; simp; omega) _ rfl ?_; intro g cap w4 ho hgr hg hlt4; obtain ⟨c4, f4, HT4⟩ := Tab.appH (HT2.out.later ((Below.refl _ _).alloc (Nat.le_refl _) _)) (by rw [← HC.out]; exact ho) hgr hg h8; have HT5 : Hid (Tab w (w4.setCell ⟨w.heap.size, 0, none⟩ (.slice (some ⟨g, 0, none⟩) (k + 1) cap)) (k + 1) (k + 1) gP cP vK' (.slice (some ⟨g, 0, none⟩) (k + 1) cap)) := HT4; clear ho hgr hg hlt4 HT4))
        all_goals
          go_wp2
          go_roundg (gk - 1)
          case measure => have := HK.out; omega
          case rel =>
            have hkk := HK.out
            have e : min (k + 1) 8 = k + 1 := by omega
            exact ⟨k + 1, vK', _, by omega, by go_num, by rw [e]; exact HT5.out⟩
      · clear hT
        go_wp2
        go_roundg (gk - 1)
        case measure => have := HK.out; omega
        case rel =>
          have hkk := HK.out
          have e : min (k + 1) 8 = min k 8 := by omega
          refine ⟨k + 1, vK', vH, by omega, by go_num, ?_⟩
          rw [e]; exact HT.out
    · have hk64 : k = 64 := by have := HK.out; omega
      subst hk64
      clear hT
      go_wp2
      go_ret
      exact ⟨vK, vH, gP, cP, rfl, HT.out⟩
end Go.Proofs.YtkmalggeieiepaaGreatDoor
