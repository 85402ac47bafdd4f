import Derived.Test.YtkmalggeieiepabDoorPzb
import Derived.WalkKit
import Derived.WalkSpells
import Derived.WalkLawsBesides
import Derived.Deep.LoopGhost
import Derived.Deep.DeepCutAuto
import Derived.Deep.RegionLaw
import Derived.Deep.AppendLies
import Derived.Test.YtkmalggeieiepabDoorRows
import Derived.Test.YtkmalggeieiepabDoorShaM
import Derived.Deep.QuietTactic
import Derived.BigQuiet
import Derived.RegionTactic
import Derived.Orders
import Derived.Test.YtkmalggeieiepabDoorPza
import Derived.Test.YtkmalggeieiepabDoorTxtA
import Derived.Deep.MidRow
namespace Go.Proofs.YtkmalggeieiepabDoor
open Go.RowKit
set_option maxRecDepth 10000

def rootsK : List Int := [5411319704, 6194414737, 7344290767, 8215976869, 9551921755, 10098905585, 11043570340, 11460697813, 12214315672, 13195500289, 13492127166, 14311783875, 14809980276, 15046980094, 15499789991, 16133124468, 16720292289, 16907126662, 17444216262, 17784676812, 17950125167, 18429019306, 18734950876, 19175934170, 19734090066, 20001703533, 20132865992, 20390182855, 20516441075, 20764397895, 21588763473, 21813078375, 22141143685, 22248366392, 22769593852, 22871018771, 23170020180, 23461497531, 23651862830, 23931792517, 24205322401, 24295138891, 24734567280, 24820601251, 24990902297, 25075189284, 25569408389, 26045227120, 26200031510, 26276752392, 26428864332, 26653801653, 26727943347, 27092625994, 27306805839, 27517677555, 27725365998, 27793908591, 27997534228, 28131656200, 28198240250, 28526537963, 28973835255, 29099129074]
def rootsH : List Int := [6074000999, 7439101573, 9603838834, 11363415354, 14244795007, 15485724812, 17708603819, 18721328409]
def wordsK : List Int := [1116352408, 1899447441, 3049323471, 3921009573, 961987163, 1508970993, 2453635748, 2870763221, 3624381080, 310598401, 607225278, 1426881987, 1925078388, 2162078206, 2614888103, 3248222580, 3835390401, 4022224774, 264347078, 604807628, 770255983, 1249150122, 1555081692, 1996064986, 2554220882, 2821834349, 2952996808, 3210313671, 3336571891, 3584528711, 113926993, 338241895, 666307205, 773529912, 1294757372, 1396182291, 1695183700, 1986661051, 2177026350, 2456956037, 2730485921, 2820302411, 3259730800, 3345764771, 3516065817, 3600352804, 4094571909, 275423344, 430227734, 506948616, 659060556, 883997877, 958139571, 1322822218, 1537002063, 1747873779, 1955562222, 2024104815, 2227730452, 2361852424, 2428436474, 2756734187, 3204031479, 3329325298]
def wordsH : List Int := [1779033703, 3144134277, 1013904242, 2773480762, 1359893119, 2600822924, 528734635, 1541459225]
theorem sq_mono (a b : Int) (h0 : 0 ≤ a) (h : a ≤ b) : a * a ≤ b * b := Int.mul_le_mul h h h0 (by omega)
theorem cb_mono (a b : Int) (h0 : 0 ≤ a) (h : a ≤ b) : a * a * a ≤ b * b * b := Int.mul_le_mul (sq_mono a b h0 h) h h0 (Int.mul_nonneg (by omega) (by omega))
theorem sq_one (r c G : Int) (r0 : 0 ≤ r) (c0 : 0 ≤ c) (h1 : r * r ≤ G) (h2 : G < (r + 1) * (r + 1)) (h3 : c * c ≤ G) (h4 : G < (c + 1) * (c + 1)) : r = c := by
  rcases Int.lt_trichotomy r c with h | h | h
  · have := sq_mono (r + 1) c (by omega) (by omega); omega
  · exact h
  · have := sq_mono (c + 1) r (by omega) (by omega); omega
theorem cb_one (r c G : Int) (r0 : 0 ≤ r) (c0 : 0 ≤ c) (h1 : r * r * r ≤ G) (h2 : G < (r + 1) * (r + 1) * (r + 1)) (h3 : c * c * c ≤ G) (h4 : G < (c + 1) * (c + 1) * (c + 1)) : r = c := by
  rcases Int.lt_trichotomy r c with h | h | h
  · have := cb_mono (r + 1) c (by omega) (by omega); omega
  · exact h
  · have := cb_mono (c + 1) r (by omega) (by omega); omega
def okK (k : Nat) : Bool := let r := rootsK.getD k 0; let p := (prs 312).getD k 0
  decide (0 ≤ r) && decide (r * r * r ≤ p * pw 6) && decide (p * pw 6 < (r + 1) * (r + 1) * (r + 1)) && decide (r % 4294967296 = wordsK.getD k 0) && decide (0 ≤ p) && decide (p ≤ 400)
def okH (k : Nat) : Bool := let r := rootsH.getD k 0; let p := (prs 312).getD k 0
  decide (0 ≤ r) && decide (r * r ≤ p * pw 4) && decide (p * pw 4 < (r + 1) * (r + 1)) && decide (r % 4294967296 = wordsH.getD k 0) && decide (0 ≤ p) && decide (p ≤ 400)
theorem okK_all : (List.range 64).all okK = true := by kernel_rfl
theorem okH_all : (List.range 8).all okH = true := by kernel_rfl
/-- a row is there still. -/
theorem own_later {w w' : World} {base e size n : Nat} {v : Value} {xs : List Value} (h : w.ownsRow base e size v n xs) (hb : Below w.heap.size w w') : w'.ownsRow base e size v n xs := by
  refine ⟨h.1, ?_⟩
  rcases h.2 with hn | ⟨g, cap, cur, hv, hbg, hg, rest⟩
  · exact .inl hn
  · have hlt : g < w.heap.size := by
      rcases Nat.lt_or_ge g w.heap.size with h1 | h1
      · exact h1
      · rw [Array.getElem?_eq_none h1] at hg; cases hg
    exact .inr ⟨g, cap, cur, hv, hbg, by rw [hb.block g hlt]; exact hg, rest⟩
/-- the tables under way. -/
structure Tab (w wx : World) (k m gP cP : Nat) (vK vH : Value) : Prop where
  cK : wx.cell? ⟨w.heap.size, 1, none⟩ = some vK
  cH : wx.cell? ⟨w.heap.size, 0, none⟩ = some vH
  fK : wx.frozen? ⟨w.heap.size, 1, none⟩ = false
  fH : wx.frozen? ⟨w.heap.size, 0, none⟩ = false
  oK : wx.ownsRow (w.heap.size + 1) 3 1 vK k (ivals (wordsK.take k))
  oH : wx.ownsRow (w.heap.size + 1) 3 1 vH m (ivals (wordsH.take m))
  oP : wx.ownsRow (w.heap.size + 1) 3 1 (.slice (some ⟨gP, 0, none⟩) 64 cP) 64 (ivals (prs 312))
  dKH : vK.ownBlock = none ∨ vK.ownBlock ≠ vH.ownBlock
  dKP : vK.ownBlock ≠ some gP
  dHP : vH.ownBlock ≠ some gP
  below : Below w.heap.size w wx

theorem own_set {w : World} {base e size n : Nat} {v : Value} {xs : List Value} (h : w.ownsRow base e size v n xs) (a : Addr) (u : Value) (ha : a.block < base) : (w.setCell a u).ownsRow base e size v n xs := by
  refine ⟨h.1, ?_⟩
  rcases h.2 with hn | ⟨g, cap, cur, hv, hbg, hg, rest⟩
  · exact .inl hn
  · exact .inr ⟨g, cap, cur, hv, hbg, by rw [heap_setCell_other _ _ _ _ (by omega)]; exact hg, rest⟩
theorem Tab.later {w wx w2 : World} {k m gP cP : Nat} {vK vH : Value} (h : Tab w wx k m gP cP vK vH) (hb : Below wx.heap.size wx w2) : Tab w w2 k m gP cP vK vH := by
  have l := World.block_lt_of_cell? wx _ h.cK
  have hz := h.below.size
  exact ⟨by rw [hb.cell (p := ⟨w.heap.size, 1, none⟩) l]; exact h.cK, by rw [hb.cell (p := ⟨w.heap.size, 0, none⟩) l]; exact h.cH, by rw [hb.frozen (p := ⟨w.heap.size, 1, none⟩) l]; exact h.fK, by rw [hb.frozen (p := ⟨w.heap.size, 0, none⟩) l]; exact h.fH,
    own_later h.oK hb, own_later h.oH hb, own_later h.oP hb, h.dKH, h.dKP, h.dHP, h.below.trans (hb.mono hz)⟩
theorem Tab.drew {w wx : World} {k m gP cP : Nat} {vK vH : Value} (h : Tab w wx k m gP cP vK vH) : Tab w wx.drew k m gP cP vK vH :=
  h.later (Below.refl _ _).drew
theorem grown_below {w w' : World} {row : Option Nat} {B : Nat} {a : World} (h : Below B a w) (hg : w.grownBy w' row) (hB : B ≤ w.heap.size) (hr : ∀ k, row = some k → B ≤ k) : Below B a w' := h.grown hg hB hr
theorem Tab.appK {w w3 w4 : World} {k m gP cP g cap : Nat} {vK vH : Value} (h : Tab w w3 k m gP cP vK vH)
    (ho : w4.ownsRow (w.heap.size + 1) 3 1 (.slice (some ⟨g, 0, none⟩) (k + 1) cap) (k + 1) (ivals (wordsK.take k) ++ [.int .i64 (wordsK.getD k 0)]))
    (hgr : w3.grownBy w4 vK.ownBlock) (hg : vK.ownBlock = some g ∨ g = w3.heap.size) (hk : k < 64) :
    w4.cell? ⟨w.heap.size, 1, none⟩ = some vK ∧ w4.frozen? ⟨w.heap.size, 1, none⟩ = false ∧ Tab w (w4.setCell ⟨w.heap.size, 1, none⟩ (.slice (some ⟨g, 0, none⟩) (k + 1) cap)) (k + 1) m gP cP (.slice (some ⟨g, 0, none⟩) (k + 1) cap) vH := by
  have l := World.block_lt_of_cell? w3 _ h.cK
  have lK := h.oK.lt
  have lH := h.oH.lt
  have lP := h.oP.lt gP rfl
  have hne : some w.heap.size ≠ vK.ownBlock := by
    intro e; have := lK _ e.symm; omega
  have c1 : w4.cell? ⟨w.heap.size, 1, none⟩ = some vK := by rw [hgr.cell_far ⟨w.heap.size, 1, none⟩ l hne]; exact h.cK
  have c0 : w4.cell? ⟨w.heap.size, 0, none⟩ = some vH := by rw [hgr.cell_far ⟨w.heap.size, 0, none⟩ l hne]; exact h.cH
  have f1 : w4.frozen? ⟨w.heap.size, 1, none⟩ = false := by rw [hgr.frozen_far ⟨w.heap.size, 1, none⟩ l hne]; exact h.fK
  have f0 : w4.frozen? ⟨w.heap.size, 0, none⟩ = false := by rw [hgr.frozen_far ⟨w.heap.size, 0, none⟩ l hne]; exact h.fH
  have hzz := h.below.size
  refine ⟨c1, f1, ?_⟩
  refine ⟨?_, ?_, by simpa using f1, by simpa using f0, ?_, ?_, ?_, ?_, ?_, h.dHP, ?_⟩
  · rw [scSame]; rw [c1]; rfl
  · rw [World.cell?_setCell_other, c0]; intro e; injection e with _ e2; cases e2
  · refine own_set ?_ _ _ (by simp)
    have e : ivals (wordsK.take (k + 1)) = ivals (wordsK.take k) ++ [.int .i64 (wordsK.getD k 0)] := by
      have hl : k < wordsK.length := by show k < 64; exact hk
      unfold ivals
      rw [List.take_succ_eq_append_getElem hl, List.map_append, List.getD_eq_getElem?_getD, List.getElem?_eq_getElem hl]; rfl
    rw [e]; exact ho
  · refine own_set (h.oH.kept hgr ?_) _ _ (by simp)
    rcases h.dKH with e | e
    · rw [e]; rcases hv : vH.ownBlock with _ | q
      · exact .inl rfl
      · exact .inr (by simp)
    · exact .inr (Ne.symm e)
  · refine own_set (h.oP.kept hgr (.inr ?_)) _ _ (by simp)
    exact Ne.symm h.dKP
  · right
    show some g ≠ vH.ownBlock
    rcases hg with e | e
    · rcases h.dKH with e2 | e2
      · rw [e2] at e; cases e
      · rw [← e]; exact e2
    · intro e3; have := lH g e3.symm; omega
  · show some g ≠ some gP
    rcases hg with e | e
    · rw [← e]; exact h.dKP
    · intro e3; injection e3 with e4; omega
  · exact (grown_below h.below hgr (by omega) (fun q hq => by have := lK q hq; omega)).setCell (Nat.le_refl _) _
theorem Tab.appH {w w3 w4 : World} {k m gP cP g cap : Nat} {vK vH : Value} (h : Tab w w3 k m gP cP vK vH)
    (ho : w4.ownsRow (w.heap.size + 1) 3 1 (.slice (some ⟨g, 0, none⟩) (m + 1) cap) (m + 1) (ivals (wordsH.take m) ++ [.int .i64 (wordsH.getD m 0)]))
    (hgr : w3.grownBy w4 vH.ownBlock) (hg : vH.ownBlock = some g ∨ g = w3.heap.size) (hk : m < 8) :
    w4.cell? ⟨w.heap.size, 0, none⟩ = some vH ∧ w4.frozen? ⟨w.heap.size, 0, none⟩ = false ∧ Tab w (w4.setCell ⟨w.heap.size, 0, none⟩ (.slice (some ⟨g, 0, none⟩) (m + 1) cap)) k (m + 1) gP cP vK (.slice (some ⟨g, 0, none⟩) (m + 1) cap) := by
  have l := World.block_lt_of_cell? w3 _ h.cK
  have lK := h.oK.lt
  have lH := h.oH.lt
  have lP := h.oP.lt gP rfl
  have hne : some w.heap.size ≠ vH.ownBlock := by
    intro e; have := lH _ e.symm; omega
  have c1 : w4.cell? ⟨w.heap.size, 1, none⟩ = some vK := by rw [hgr.cell_far ⟨w.heap.size, 1, none⟩ l hne]; exact h.cK
  have c0 : w4.cell? ⟨w.heap.size, 0, none⟩ = some vH := by rw [hgr.cell_far ⟨w.heap.size, 0, none⟩ l hne]; exact h.cH
  have f1 : w4.frozen? ⟨w.heap.size, 1, none⟩ = false := by rw [hgr.frozen_far ⟨w.heap.size, 1, none⟩ l hne]; exact h.fK
  have f0 : w4.frozen? ⟨w.heap.size, 0, none⟩ = false := by rw [hgr.frozen_far ⟨w.heap.size, 0, none⟩ l hne]; exact h.fH
  have hzz := h.below.size
  have hKH : vK.ownBlock = none ∨ vK.ownBlock ≠ vH.ownBlock := h.dKH
  refine ⟨c0, f0, ?_⟩
  refine ⟨?_, ?_, by simpa using f1, by simpa using f0, ?_, ?_, ?_, ?_, h.dKP, ?_, ?_⟩
  · rw [World.cell?_setCell_other, c1]; intro e; injection e with _ e2; cases e2
  · rw [scSame]; rw [c0]; rfl
  · exact own_set (h.oK.kept hgr hKH) _ _ (by simp)
  · refine own_set ?_ _ _ (by simp)
    have e : ivals (wordsH.take (m + 1)) = ivals (wordsH.take m) ++ [.int .i64 (wordsH.getD m 0)] := by
      have hl : m < wordsH.length := by show m < 8; exact hk
      unfold ivals
      rw [List.take_succ_eq_append_getElem hl, List.map_append, List.getD_eq_getElem?_getD, List.getElem?_eq_getElem hl]; rfl
    rw [e]; exact ho
  · refine own_set (h.oP.kept hgr (.inr ?_)) _ _ (by simp)
    exact Ne.symm h.dHP
  · rcases hv : vK.ownBlock with _ | q
    · exact .inl rfl
    · right
      show some q ≠ some g
      rcases hg with e | e
      · rcases hKH with e2 | e2
        · rw [e2] at hv; cases hv
        · rw [hv, e] at e2; exact e2
      · intro e3; injection e3 with e4; have := lK q hv; omega
  · show some g ≠ some gP
    rcases hg with e | e
    · rw [← e]; exact h.dHP
    · intro e3; injection e3 with e4; omega
  · exact (grown_below h.below hgr (by omega) (fun q hq => by have := lH q hq; omega)).setCell (Nat.le_refl _) _

end Go.Proofs.YtkmalggeieiepabDoor
namespace Go.Proofs.YtkmalggeieiepabDoor
open Go.RowKit

def strV (l : List ByteArray) : List Value := l.map Value.string
/-- two that stand side by side are the same. -/
def twinL : List ByteArray → Bool
  | a :: b :: r => (a.toList == b.toList) || twinL r
  | _ => false
/-- the last one once more, where they are odd. -/
def evL (l : List ByteArray) : List ByteArray := if l.length % 2 = 1 then l ++ [l.getD (l.length - 1) ByteArray.empty] else l
/-- the next height. -/
def upL (dd : ByteArray → ByteArray) : List ByteArray → List ByteArray
  | a :: b :: r => dd (a ++ b) :: upL dd r
  | _ => []
def rootL (dd : ByteArray → ByteArray) : Nat → List ByteArray → Bool → ByteArray × Bool
  | 0, l, t => (l.getD 0 ByteArray.empty, t)
  | n + 1, l, t => if 1 < l.length then rootL dd n (upL dd (evL l)) (t || twinL l) else (l.getD 0 ByteArray.empty, t)
theorem upL_length (dd : ByteArray → ByteArray) : ∀ l : List ByteArray, (upL dd l).length = l.length / 2
  | [] => rfl
  | [_] => by simp [upL]
  | a :: b :: r => by simp only [upL, List.length_cons, upL_length dd r]; omega
theorem evL_length (l : List ByteArray) : (evL l).length = l.length + l.length % 2 := by
  unfold evL
  split
  · rename_i h; simp [h]
  · omega
theorem up_lt (dd : ByteArray → ByteArray) (l : List ByteArray) (h : 1 < l.length) : (upL dd (evL l)).length < l.length ∧ 0 < (upL dd (evL l)).length := by
  rw [upL_length, evL_length]; omega
theorem rootL_fuel (dd : ByteArray → ByteArray) : ∀ (n m : Nat) (l : List ByteArray) (t : Bool), l.length ≤ n + 1 → l.length ≤ m + 1 → rootL dd n l t = rootL dd m l t := by
  intro n
  induction n with
  | zero =>
    intro m l t h1 _
    cases m with
    | zero => rfl
    | succ m => show _ = if 1 < l.length then _ else _; rw [if_neg (by omega)]; rfl
  | succ n ih =>
    intro m l t h1 h2
    show (if 1 < l.length then _ else _) = _
    by_cases h : 1 < l.length
    · rw [if_pos h]
      cases m with
      | zero => omega
      | succ m =>
        show _ = if 1 < l.length then _ else _
        rw [if_pos h]
        have := (up_lt dd l h).1
        exact ih m _ _ (by omega) (by omega)
    · rw [if_neg h]
      cases m with
      | zero => rfl
      | succ m => show _ = if 1 < l.length then _ else _; rw [if_neg h]
/-- the root, and whether there are twins. -/
def rootF (dd : ByteArray → ByteArray) (l : List ByteArray) (t : Bool) : ByteArray × Bool := rootL dd l.length l t
theorem rootF_one (dd : ByteArray → ByteArray) (l : List ByteArray) (t : Bool) (h : l.length = 1) : rootF dd l t = (l.getD 0 ByteArray.empty, t) := by
  unfold rootF; rw [h]; show (if 1 < l.length then _ else _) = _; rw [if_neg (by omega)]
theorem rootF_up (dd : ByteArray → ByteArray) (l : List ByteArray) (t : Bool) (h : 1 < l.length) : rootF dd l t = rootF dd (upL dd (evL l)) (t || twinL l) := by
  unfold rootF
  obtain ⟨n, hn⟩ : ∃ n, l.length = n + 1 := ⟨l.length - 1, by omega⟩
  rw [hn]
  show (if 1 < l.length then _ else _) = _
  rw [if_pos h]
  have := (up_lt dd l h).1
  exact rootL_fuel dd _ _ _ _ (by omega) (by omega)
theorem twinL_drop (l : List ByteArray) (i : Nat) (h : i + 1 < l.length) : twinL (l.drop i) = ((l[i].toList == l[i + 1].toList) || twinL (l.drop (i + 2))) := by
  rw [List.drop_eq_getElem_cons (by omega), List.drop_eq_getElem_cons (i := i + 1) (by omega)]; rfl
theorem twinL_end (l : List ByteArray) (i : Nat) (h : l.length ≤ i + 1) : twinL (l.drop i) = false := by
  have hl : (l.drop i).length ≤ 1 := by rw [List.length_drop]; omega
  match l.drop i, hl with
  | [], _ => rfl
  | [_], _ => rfl
theorem upL_drop (dd : ByteArray → ByteArray) (l : List ByteArray) (i : Nat) (h : i + 1 < l.length) : upL dd (l.drop i) = dd (l[i] ++ l[i + 1]) :: upL dd (l.drop (i + 2)) := by
  rw [List.drop_eq_getElem_cons (by omega), List.drop_eq_getElem_cons (i := i + 1) (by omega)]; rfl
/-- texts lie in a row. -/
def SRow (w : World) (b o : Nat) (l : List ByteArray) : Prop := ∀ j (h : j < l.length), w.cell? ⟨b, o + j, none⟩ = some (.string l[j])
theorem SRow.later {w w' : World} {b o : Nat} {l : List ByteArray} {B : Nat} (h : SRow w b o l) (hb : Below B w w') (hB : b < B) : SRow w' b o l := fun j hj => by
  rw [hb.cell (p := ⟨b, o + j, none⟩) hB]; exact h j hj
theorem SRow.lt {w : World} {b o : Nat} {l : List ByteArray} (h : SRow w b o l) (hn : 0 < l.length) : b < w.heap.size := World.block_lt_of_cell? w _ (h 0 hn)
theorem infoStr : (Tryd.prog.info? 9).map (fun i => (i.zero, i.size, i.bytes)) = some (some (.string ByteArray.empty), 1, 16) := by kernel_rfl
theorem str_one (l : List ByteArray) : ∀ u ∈ strV l, u.oneCell' = true := by
  intro u hu; obtain ⟨s, _, rfl⟩ := List.mem_map.1 hu; rfl
theorem own_srow {w : World} {base e g cap n : Nat} {l : List ByteArray} (hn : l.length = n) (h : w.ownsRow base e 1 (.slice (some ⟨g, 0, none⟩) n cap) n (strV l)) : SRow w g 0 l := by
  obtain ⟨_, h2⟩ := h
  rcases h2 with ⟨hv, _⟩ | ⟨g', cap', cur, hv, _, hg, _, _, _, ht⟩
  · cases hv
  · injection hv with e1 e2 e3
    injection e1 with e4
    injection e4 with e5
    subst e5
    intro j hj
    rw [Nat.zero_add, cell_of_row w g j cur _ _ hg]
    have h3 : (cur.toList.take (n * 1))[j]? = (strV l)[j]? := by rw [ht]
    rw [List.getElem?_take, if_pos (by omega)] at h3
    rw [← Array.getElem?_toList, h3]
    simp [strV, hj]
theorem srow_news {w : World} {b o : Nat} {l : List ByteArray} (h : SRow w b o l) : ∀ j u, (strV l)[j]? = some u → w.cell? ((⟨b, o, none⟩ : Addr).add j) = some u := by
  intro j u hu
  have hj : j < l.length := by have := (List.getElem?_eq_some_iff.1 hu).1; simpa [strV] using this
  rw [Addr.add_mid, h j hj]
  simpa [strV, hj] using hu
end Go.Proofs.YtkmalggeieiepabDoor
namespace Go.Proofs.YtkmalggeieiepabDoor
open Go.RowKit

theorem one_str (s : ByteArray) : ∀ u ∈ [Value.string s], u.oneCell' = true := by
  intro u hu; simp at hu; subst hu; rfl
theorem upL_32 (dd : ByteArray → ByteArray) (hdd : ∀ s, (dd s).size = 32) : ∀ l : List ByteArray, ∀ s ∈ upL dd l, s.size = 32
  | [], s, hs => by simp [upL] at hs
  | [_], s, hs => by simp [upL] at hs
  | a :: b :: r, s, hs => by
    simp only [upL, List.mem_cons] at hs
    rcases hs with rfl | hs
    · exact hdd _
    · exact upL_32 dd hdd r s hs
theorem evL_32 (l : List ByteArray) (h : ∀ s ∈ l, s.size = 32) : ∀ s ∈ evL l, s.size = 32 := by
  intro s hs
  unfold evL at hs
  split at hs
  · rename_i hodd
    rcases List.mem_append.1 hs with h1 | h1
    · exact h s h1
    · simp at h1
      subst h1
      have hlt : l.length - 1 < l.length := by omega
      rw [List.getElem?_eq_getElem hlt]
      exact h _ (List.getElem_mem hlt)
  · exact h s hs

end Go.Proofs.YtkmalggeieiepabDoor
namespace Go.Proofs.YtkmalggeieiepabDoor
open Go.RowKit

theorem Rd.laterB {w w' : World} {g B : Nat} {l : List UInt8} {e : Int} (h : Rd w g l e) (hb : Below B w w') (hg : g < B) : Rd w' g l e :=
  ⟨by rw [hb.cell (p := ⟨g, 0, none⟩) hg]; exact h.s, by rw [hb.frozen (p := ⟨g, 0, none⟩) hg]; exact h.sf, by rw [hb.cell (p := ⟨g, 1, none⟩) hg]; exact h.e, by rw [hb.frozen (p := ⟨g, 1, none⟩) hg]; exact h.ef⟩
theorem Mov.onB {g : Nat} {a b c : World} (h : Mov g a b) (k : Below a.heap.size b c) : Mov g a c :=
  ⟨k.os.trans h.os, k.tape.trans h.tape, k.output.trans h.output, Nat.le_trans h.size k.size, fun i hi hg => (k.block i hi).trans (h.block i hi hg)⟩
theorem own_mov {w w' : World} {base e size n g : Nat} {v : Value} {xs : List Value} (h : w.ownsRow base e size v n xs) (hm : Mov g w w') (hg : g < base) : w'.ownsRow base e size v n xs := by
  refine ⟨h.1, ?_⟩
  rcases h.2 with hn | ⟨g', cap, cur, hv, hbg, hg', rest⟩
  · exact .inl hn
  · have hl : g' < w.heap.size := by
      rcases Nat.lt_or_ge g' w.heap.size with h | h
      · exact h
      · rw [Array.getElem?_eq_none h] at hg'; cases hg'
    exact .inr ⟨g', cap, cur, hv, hbg, by rw [hm.block g' hl (by omega)]; exact hg', rest⟩

/-- the bytes of the transaction that is read. -/
def txB (r : List UInt8 × Int) : List UInt8 := r.1.take (r.1.length - (rTx r).1.length)
def rTxs : Nat → List UInt8 × Int → List (List UInt8) × (List UInt8 × Int)
  | 0, r => ([], r)
  | n + 1, r => if r.2 = 0 then (txB r :: (rTxs n (rTx r)).1, (rTxs n (rTx r)).2) else ([], r)
theorem rTxs_bad (n : Nat) (r : List UInt8 × Int) (h : ¬ r.2 = 0) : rTxs n r = ([], r) := by
  cases n with
  | zero => rfl
  | succ n => show (if r.2 = 0 then _ else _) = _; rw [if_neg h]
def strB (l : List (List UInt8)) : List Value := strV (l.map ofL)

end Go.Proofs.YtkmalggeieiepabDoor
namespace Go.Proofs.YtkmalggeieiepabDoor
open Go.RowKit

def rIndex (next bound : Nat) (r : List UInt8 × Int) : Nat × (List UInt8 × Int) :=
  if (rSize r).2.2 ≠ 0 then (0, (rSize r).2) else if bound ≤ (rSize r).1 ∨ bound ≤ (rSize r).1 + next then (0, ((rSize r).2.1, 4)) else (next + (rSize r).1, (rSize r).2)

/-- texts one behind the other. -/
def catL (l : List ByteArray) : List UInt8 := l.flatMap fun s => s.data.toList
theorem catL_snoc (l : List ByteArray) (j : Nat) (h : j < l.length) : catL (l.take (j + 1)) = catL (l.take j) ++ l[j].data.toList := by
  unfold catL; rw [List.take_succ_eq_append_getElem h, List.flatMap_append, List.flatMap_singleton]
theorem catL_le (l : List ByteArray) (N : Nat) (h : ∀ s ∈ l, s.size ≤ N) : (catL l).length ≤ l.length * N := by
  induction l with
  | nil => simp [catL]
  | cons a l ih =>
    have h1 := h a (by simp)
    have h2 := ih (fun s hs => h s (by simp [hs]))
    have h3 : a.data.toList.length = a.size := rfl
    simp only [catL, List.flatMap_cons, List.length_append, List.length_cons, Nat.succ_mul] at *
    omega
theorem sizeL_le (n : Nat) : (sizeL n).length ≤ 9 := by
  unfold sizeL
  split
  · rw [le_length]; omega
  · split
    · rw [List.length_cons, le_length]; omega
    · split
      · rw [List.length_cons, le_length]; omega
      · rw [List.length_cons, le_length]; omega

end Go.Proofs.YtkmalggeieiepabDoor
namespace Go.Proofs.YtkmalggeieiepabDoor
open Go.RowKit

/-- a frame under one name. -/
theorem q_frame {C : Code} {P : Program} {Q : Exit → Act → World → Prop} {a : Act} {w : World} (h : ∀ A, Hid (A = a) → C.wp P Q A w) : C.wp P Q a w := h a rfl
theorem q_same (a : Act) (d : Nat) (v : Value) (h : d < a.tmps.size) : (a.put (some d) v).eval (.tmp d) = v := by simp [Act.put, Act.eval, h]
theorem q_ne (a : Act) (d e : Nat) (v : Value) (h : d ≠ e) : (a.put (some d) v).eval (.tmp e) = a.eval (.tmp e) := by simp [Act.put, Act.eval, h]
theorem q_sz (a : Act) (d : Nat) (v : Value) : (a.put (some d) v).tmps.size = a.tmps.size := by simp [Act.put]
theorem q_run1 {P : Program} {o : Oper} {a : Act} {W W' : World} {r : Next} (s : Nat) (us : Value) (hs : a.eval (.tmp s) = us)
    (h : ∀ ρ : Operand → Value, (∀ c, ρ (.const c) = c) → (∀ n, ρ (.func n) = .func (.func n) #[] #[]) → ρ (.tmp s) = us → (execOp ρ o).run P W = .ok r W') : (execOp a.eval o).run P W = .ok r W' := h a.eval (fun _ => rfl) (fun _ => rfl) hs
theorem q_run2 {P : Program} {o : Oper} {a : Act} {W W' : World} {r : Next} (s t : Nat) (us ut : Value) (hs : a.eval (.tmp s) = us) (ht : a.eval (.tmp t) = ut)
    (h : ∀ ρ : Operand → Value, (∀ c, ρ (.const c) = c) → (∀ n, ρ (.func n) = .func (.func n) #[] #[]) → ρ (.tmp s) = us → ρ (.tmp t) = ut → (execOp ρ o).run P W = .ok r W') : (execOp a.eval o).run P W = .ok r W' := h a.eval (fun _ => rfl) (fun _ => rfl) hs ht
/-- the one operation that may come up yields a value. -/
theorem q_one {P : Program} {md : Region.Mode} {ops : Array Oper} {Q : Exit → Act → World → Prop} {fuel : Nat} {listed : Array Bool} {a : Act} {w : World} (i : Nat) {o : Oper} (v : Value) (w' : World) (hr : Region.ready md ops listed = [i]) (hi : ops[i]? = some o) (hg : o.guard = none)
    (h : (execOp a.eval o).run P w = .ok (.value v) w') (hk : wpAny P md ops Q fuel (listed.setIfInBounds i true) (a.put o.dst v) w') : wpAny P md ops Q (fuel + 1) listed a w := by
  refine wpAny_ready hr (by simp) (AllReady.cons hi (fun K hK => ?_) AllReady.nil)
  have hw : Region.wanted o (yielded ops a.tmps) = true := by simp [Region.wanted, hg]
  rw [if_pos hw]
  unfold Oper.wp; rw [h]; exact hK _ _ hk
/-- the one operation that may come up is a call. -/
theorem q_call {P : Program} {md : Region.Mode} {ops : Array Oper} {Q : Exit → Act → World → Prop} {fuel : Nat} {listed : Array Bool} {a : Act} {w : World} (i : Nat) {o : Oper} (f : FuncId) (args : Array Value) (R : Ending → World → Prop) (hr : Region.ready md ops listed = [i]) (hi : ops[i]? = some o) (hg : o.guard = none)
    (h : (execOp a.eval o).run P w = .ok (.enter f args) w) (hc : Calls P f args w R)
    (hk : ∀ v w', R (.returned v) w' → wpAny P md ops Q fuel (listed.setIfInBounds i true) (a.put o.dst v) w') (hp : ∀ ch w', R (.panicked ch) w' → Q (.panic ch) a w') (ho : ∀ w', R .outgrown w' → False) : wpAny P md ops Q (fuel + 1) listed a w := by
  refine wpAny_ready hr (by simp) (AllReady.cons hi (fun K hK => ?_) AllReady.nil)
  have hw : Region.wanted o (yielded ops a.tmps) = true := by simp [Region.wanted, hg]
  rw [if_pos hw]
  unfold Oper.wp; rw [h]
  show Calls _ _ _ _ _
  refine hc.mono fun x w' hx => ?_
  cases x with
  | returned v => exact hK _ _ (hk v w' hx)
  | panicked ch => exact hp ch w' hx
  | outgrown => exact (ho w' hx).elim
theorem q_def (a : Act) (d : Option Nat) (v : Value) : (a.put d v).defers = a.defers := by cases d <;> rfl
theorem q_panic {P : Program} {fn : Func} {R : Ending → World → Prop} {ch : List PanicEntry} {a : Act} {w : World} (hd : a.defers = []) (h : R (.panicked ch) w) : bodyPost P fn R (.panic ch) a w := ⟨hd, h⟩
theorem q_done0 {P : Program} {fn : Func} {R : Ending → World → Prop} {a : Act} {w : World} (hr : fn.results = #[]) (hd : a.defers = []) (h : R (.returned (.tuple #[])) w) : bodyPost P fn R .normal a w := ⟨hd, .tuple #[], results_none hr _ _ _, h⟩
end Go.Proofs.YtkmalggeieiepabDoor
namespace Go.Proofs.YtkmalggeieiepabDoor
open Go.RowKit

/-- bytes made of a number. -/
def kbF (c k : Int) : Int := wrap64 (wrap64 (wrap64 (c * (k + 7)) + wrap64 (k * k)) + wrap64 (wrap64 (c.tdiv 256) * (k + 1))) % 256
def kbL (n : Nat) (c : Int) : List UInt8 := (List.range n).map fun k : Nat => UInt8.ofNat (kbF c (k : Int)).toNat
theorem kbL_succ (n : Nat) (c : Int) : kbL (n + 1) c = kbL n c ++ [UInt8.ofNat (kbF c (n : Int)).toNat] := by simp [kbL, List.range_succ]
theorem kbL_length (n : Nat) (c : Int) : (kbL n c).length = n := by simp [kbL]
/-- which of n. -/
def pk (c : Int) (n : Nat) : Nat := ((if c < 0 then -(c + 1) else c) % (n : Int)).toNat
theorem pk_lt (c : Int) (n : Nat) (h : 0 < n) : pk c n < n := by
  unfold pk
  have := Int.emod_lt_of_pos (if c < 0 then -(c + 1) else c) (show (0 : Int) < (n : Int) by omega)
  have := Int.emod_nonneg (if c < 0 then -(c + 1) else c) (show (n : Int) ≠ 0 by omega)
  omega

set_option maxRecDepth 10000 in
theorem pickX_any (c : Int) (n : Nat) (w : World) (h1 : -9223372036854775808 ≤ c) (h2 : c ≤ 9223372036854775807) (hn : 0 < n) (hn2 : n ≤ 1000) :
    Calls Tryd.prog 14 #[.int .i64 c, .int .i64 (n : Int)] w fun e w' => e = .returned (.int .i64 (pk c n : Int)) ∧ w = w' := by
  have hni : ¬ ((n : Int) = 0) := by omega
  have hnb : ((n : Int) == 0) = false := by rw [beq_eq_false_iff_ne]; exact hni
  have hp := pk_lt c n hn
  by_cases h : c < 0
  · have hw1 : wrap64 (c + 1) = c + 1 := by unfold wrap64; omega
    have hw2 : wrap64 (-(c + 1)) = -(c + 1) := by unfold wrap64; omega
    have e1 : (-(c + 1)).tmod (n : Int) = (pk c n : Int) := by
      unfold pk; rw [if_pos h, Int.tmod_eq_emod_of_nonneg (by omega), Int.toNat_of_nonneg (Int.emod_nonneg _ hni)]
    have e2 : wrap64 (pk c n : Int) = (pk c n : Int) := by unfold wrap64; omega
    have e3 : -(c + 1).tmod (n : Int) = (pk c n : Int) := by rw [← Int.neg_tmod]; exact e1
    go_enter Tryd.func14, Tryd.ntmps14
    go_wp2
    go_ret
    exact ⟨rfl, rfl⟩
  · have e1 : c.tmod (n : Int) = (pk c n : Int) := by
      unfold pk; rw [if_neg h, Int.tmod_eq_emod_of_nonneg (by omega), Int.toNat_of_nonneg (Int.emod_nonneg _ hni)]
    have e2 : wrap64 (pk c n : Int) = (pk c n : Int) := by unfold wrap64; omega
    go_enter Tryd.func14, Tryd.ntmps14
    go_wp2
    go_ret
    exact ⟨rfl, rfl⟩

set_option maxRecDepth 10000 in
set_option maxHeartbeats 1000000 in
theorem bytesX_any (n : Nat) (c : Int) (w : World) (hn : n ≤ 1000) :
    Calls Tryd.prog 17 #[.int .i64 (n : Int), .int .i64 c] w fun e w' => e = .returned (.string (ofL (kbL n c))) ∧ Below w.heap.size w w' := by
  go_enter Tryd.func17, Tryd.ntmps17
  go_upto_region 3 with fail
  go_loopg [5, 6, 8] n (fun g sv _ iv wx => ∃ k : Nat, k + g = n ∧ iv = .int .i64 (k : Int) ∧ sv = .string (ofL (kbL k c)) ∧ Below w.heap.size w wx)
  case atStart => exact ⟨0, by omega, rfl, rfl, Below.refl _ _⟩
  case round =>
    obtain ⟨k, hkn, rfl, rfl, hb⟩ := hrel
    have HB : Hid (Below w.heap.size w wr) := hb
    have HKN : Hid (k + gk = n) := hkn
    have hs3 : (ofL (kbL k c)).size ≤ 1000 := by rw [ofL_size, kbL_length]; omega
    have HSN : Hid (ofL (kbL k c) ++ ofL [UInt8.ofNat (kbF c (k : Int)).toNat] = ofL (kbL (k + 1) c)) := by show _ = _; rw [kbL_succ, ofL_append]
    clear hb hkn
    by_cases hlt : k < n
    · have k1 : (k : Int) < (n : Int) := by omega
      have k2 : (k : Int) ≤ 1000 := by omega
      have hstr := str1L wr (kbF c (k : Int)) (by unfold kbF; omega) (by unfold kbF; omega)
      unfold kbF at hstr
      generalize ofL (kbL k c) = S at hs3 HSN ⊢
      have HSZ : Hid ((ofL [UInt8.ofNat (kbF c (k : Int)).toNat]).size = 1) := rfl
      unfold kbF at HSN HSZ
      generalize ofL [UInt8.ofNat (wrap64 (wrap64 (wrap64 (c * ((k : Int) + 7)) + wrap64 ((k : Int) * (k : Int))) + wrap64 (wrap64 (c.tdiv 256) * ((k : Int) + 1))) % 256).toNat] = U at hstr HSN HSZ
      have hus := HSZ.out
      go_wp2
      go_roundg (gk - 1)
      case measure => have := HKN.out; omega
      case rel =>
        have h := HKN.out
        exact ⟨k + 1, by omega, by go_num, by rw [← HSN.out], HB.out.alloc HB.out.size _⟩
    · have k1 : ¬ ((k : Int) < (n : Int)) := by omega
      obtain rfl : k = n := by have := HKN.out; omega
      go_wp2
      go_ret
      exact ⟨rfl, HB.out⟩
end Go.Proofs.YtkmalggeieiepabDoor
namespace Go.Proofs.YtkmalggeieiepabDoor
open Go.RowKit

/-- the double digest's bytes. -/
def dbl (Kc : Nat → Int) (l : List UInt8) : Nat → Int := shaF Kc (strOf (shaF Kc l) 32).data.toList
theorem strOf_size (f : Nat → Int) (n : Nat) : (strOf f n).size = n := by simp [strOf, lsOf, ByteArray.size]
theorem shaF_lt (Kc : Nat → Int) (l : List UInt8) (j : Nat) : 0 ≤ shaF Kc l j ∧ shaF Kc l j < 256 := dgF_lt _ j
theorem sum_one (Kc : Nat → Int) (s : ByteArray) (w : World) (hkt : KT Kc w) (hpos : 0 < w.heap.size) (hs : s.size ≤ 1099511627776) :
    Calls Tryd.prog 22 #[.slice (some ⟨w.heap.size, 0, none⟩) 1 1] (w.alloc (.cells #[.string s] 9)) fun e w' => e = .returned (.agg (wl .u8 (shaF Kc s.data.toList) 32).toArray) ∧ Below w.heap.size w w' := by
  have hT : Texts (w.alloc (.cells #[.string s] 9)) w.heap.size [s] := by
    intro j hj
    obtain rfl : j = 0 := by simp at hj; exact hj
    simp [go_sem]
  have hc : cat [s] = s.data.toList := by simp [cat]
  have hl : s.data.toList.length = s.size := rfl
  have hcall := sum_any Kc [s] w.heap.size (w.alloc (.cells #[.string s] 9)) hT (by simp) (hkt.later ((Below.refl _ _).alloc (Nat.le_refl _) _) hpos) (by rw [hc, hl]; exact hs) (by simp)
  rw [hc] at hcall
  refine hcall.mono fun e w' ⟨h1, h2⟩ => ⟨h1, ?_⟩
  exact ((Below.refl _ _).alloc (Nat.le_refl _) _).trans (h2.mono (by simp))

set_option maxRecDepth 10000 in
set_option maxHeartbeats 1000000 in
theorem double_any (Kc : Nat → Int) (ts : List ByteArray) (gT : Nat) (w : World) (hT : Texts w gT ts) (hlt : gT < w.heap.size) (hkt : KT Kc w) (hn : (cat ts).length ≤ 1099511627776) (hn2 : ts.length ≤ 1099511627776) :
    Calls Tryd.prog 27 #[.slice (some ⟨gT, 0, none⟩) ts.length ts.length] w fun e w' => e = .returned (.agg (wl .u8 (dbl Kc (cat ts)) 32).toArray) ∧ Below w.heap.size w w' := by
  have hpos : 0 < w.heap.size := World.block_lt_of_cell? w _ (hkt 0 (by omega))
  go_enter Tryd.func27, Tryd.ntmps27
  go_upto_region 1 with fail
  obtain ⟨W1, hW1⟩ : ∃ W, W = w.alloc (.cells (Array.replicate 32 (.int .u8 0)) 59) := ⟨_, rfl⟩
  have HA : Hid (Arr .u8 W1 w.heap.size (fun _ => 0) 32) := by show Arr _ _ _ _ _; rw [hW1]; exact Arr.new _ _ 32 _ _ (by rfl)
  have HB1 : Hid (Below w.heap.size w W1) := by show Below _ _ _; rw [hW1]; exact (Below.refl _ _).alloc (Nat.le_refl _) _
  have hz1 : W1.heap.size = w.heap.size + 1 := by rw [hW1]; simp
  have H1 : Hid (Calls Tryd.prog 22 #[.slice (some ⟨gT, 0, none⟩) ts.length ts.length] W1 fun e w' => e = .returned (.agg (wl .u8 (shaF Kc (cat ts)) 32).toArray) ∧ Below W1.heap.size W1 w') :=
    sum_any Kc ts gT W1 (fun j hj => by rw [HB1.out.cell (p := ⟨gT, j, none⟩) hlt]; exact hT j hj) (by omega) (hkt.later HB1.out hpos) hn hn2
  have HTX : Hid (∀ W, Calls Tryd.prog 23 #[.agg (wl .u8 (shaF Kc (cat ts)) 32).toArray] W fun e w' => e = .returned (.string (strOf (shaF Kc (cat ts)) 32)) ∧ Below W.heap.size W w') := fun W => text_any (shaF Kc (cat ts)) (shaF_lt Kc _) _ rfl W
  have H2 : Hid (∀ W, Below w.heap.size w W → Calls Tryd.prog 22 #[.slice (some ⟨W.heap.size, 0, none⟩) 1 1] (W.alloc (.cells #[.string (strOf (shaF Kc (cat ts)) 32)] 9)) fun e w' => e = .returned (.agg (wl .u8 (dbl Kc (cat ts)) 32).toArray) ∧ Below W.heap.size W w') :=
    fun W hW => sum_one Kc _ W (hkt.later hW hpos) (Nat.lt_of_lt_of_le hpos hW.size) (by rw [strOf_size]; omega)
  have HR : Hid (∀ W, Below W1.heap.size W1 W → Arr .u8 W w.heap.size (fun _ => 0) 32) := fun W hW => HA.out.later hW (by omega)
  have hW1' : w.alloc (.cells #[.int .u8 0, .int .u8 0, .int .u8 0, .int .u8 0, .int .u8 0, .int .u8 0, .int .u8 0, .int .u8 0, .int .u8 0, .int .u8 0, .int .u8 0, .int .u8 0, .int .u8 0, .int .u8 0, .int .u8 0, .int .u8 0, .int .u8 0, .int .u8 0, .int .u8 0, .int .u8 0, .int .u8 0, .int .u8 0, .int .u8 0, .int .u8 0, .int .u8 0, .int .u8 0, .int .u8 0, .int .u8 0, .int .u8 0, .int .u8 0, .int .u8 0, .int .u8 0] 59) = W1 := by rw [hW1]; rfl
  rw [hW1']
  have HZ1 : Hid (W1.heap.size = w.heap.size + 1) := hz1
  clear hW1 hW1' HA hkt hT hn hn2 hlt hpos hz1
  generalize (wl .u8 (shaF Kc (cat ts)) 32).toArray = S1 at H1 HTX
  generalize strOf (shaF Kc (cat ts)) 32 = t1 at HTX H2
  go_wp2_with (first
    | (go_at_call 22; refine H1.out.mono ?_; rintro e w2 ⟨rfl, hb2⟩; have HB2 := (show Hid (Below W1.heap.size W1 w2) from hb2); clear hb2 H1)
    | (go_at_call 23; go_must (refine (HTX.out _).mono ?_); rintro e w3 ⟨rfl, hb3⟩; have HB3 := (show Hid (Below W1.heap.size W1 w3) from HB2.out.trans (hb3.mono HB2.out.size)); clear hb3)
    | (go_at_call 22; go_must (refine (H2.out _ (HB1.out.trans (HB3.out.mono (by have := HZ1.out; omega)))).mono ?_); rintro e w4 ⟨rfl, hb4⟩; have HB4 := (show Hid (Below W1.heap.size W1 w4) from HB3.out.trans (hb4.mono HB3.out.size)); clear hb4)
    | (refine wpList_store_arr rfl 59 _ _ rfl w.heap.size .u8 (fun _ => 0) (dbl Kc (cat ts)) 32 rfl rfl ?_ (by kernel_rfl) ?_; exact HR.out _ HB4.out))
  refine bodyPost_ret (v := .agg (wl .u8 (dbl Kc (cat ts)) 32).toArray) (results_arr Tryd.results27 _ _ w.heap.size .u8 (dbl Kc (cat ts)) 32 _ rfl ((HR.out _ HB4.out).all _) Tryd.underlying59 rfl (by kernel_rfl)) rfl ⟨rfl, ?_⟩
  exact below_setCells (HB1.out.trans (HB4.out.mono (by have := HZ1.out; omega))) _ (Nat.le_refl _) _ _

/-- of one text. -/
theorem double_one (Kc : Nat → Int) (s : ByteArray) (w : World) (hkt : KT Kc w) (hs : s.size ≤ 1099511627776) :
    Calls Tryd.prog 27 #[.slice (some ⟨w.heap.size, 0, none⟩) 1 1] (w.alloc (.cells #[.string s] 9)) fun e w' => e = .returned (.agg (wl .u8 (dbl Kc s.data.toList) 32).toArray) ∧ Below w.heap.size w w' := by
  have hT : Texts (w.alloc (.cells #[.string s] 9)) w.heap.size [s] := by
    intro j hj
    obtain rfl : j = 0 := by simp at hj; exact hj
    simp [go_sem]
  have hc : cat [s] = s.data.toList := by simp [cat]
  have hl : s.data.toList.length = s.size := rfl
  have hpos : 0 < w.heap.size := World.block_lt_of_cell? w _ (hkt 0 (by omega))
  have hcall := double_any Kc [s] w.heap.size (w.alloc (.cells #[.string s] 9)) hT (by simp) (hkt.later ((Below.refl _ _).alloc (Nat.le_refl _) _) hpos) (by rw [hc, hl]; exact hs) (by simp)
  rw [hc] at hcall
  refine hcall.mono fun e w' ⟨h1, h2⟩ => ⟨h1, ?_⟩
  exact ((Below.refl _ _).alloc (Nat.le_refl _) _).trans (h2.mono (by simp))
end Go.Proofs.YtkmalggeieiepabDoor
