import Derived.Test.YtkmalggeieiepabDoorPya
import Derived.WalkKit
import Derived.WalkSpells
import Derived.WalkLawsBesides
import Derived.Deep.LoopGhost
import Derived.Deep.DeepCutAuto
import Derived.Test.YtkmalggeieiepabDoorRows
import Derived.Test.YtkmalggeieiepabDoorShaM
import Derived.Deep.RegionLaw
import Derived.Deep.AppendLies
import Derived.Deep.QuietTactic
import Derived.BigQuiet
namespace Go.Proofs.YtkmalggeieiepabDoor
open Go.RowKit

def powI (X : Int) : Nat → Int
  | 0 => 1
  | n + 1 => powI X n * X
/-- three digits. -/
def dg3 (X : Int) : Nat → Int
  | 0 => X % 65536
  | 1 => X / 65536 % 65536
  | _ => X / 65536 / 65536
theorem dg3_dig (X : Int) (h0 : 0 ≤ X) (h1 : X < 281474976710656) : Dig (dg3 X) 3 := by
  intro j hj
  match j, hj with
  | 0, _ => show 0 ≤ X % 65536 ∧ X % 65536 < 65536; omega
  | 1, _ => show 0 ≤ X / 65536 % 65536 ∧ X / 65536 % 65536 < 65536; omega
  | 2, _ => show 0 ≤ X / 65536 / 65536 ∧ X / 65536 / 65536 < 65536; omega
theorem dg3_val (X : Int) : vV (dg3 X) 3 = X := by
  show 0 + X % 65536 * 1 + X / 65536 % 65536 * (1 * 65536) + X / 65536 / 65536 * (1 * 65536 * 65536) = X
  omega
theorem half_pow (e : Nat) : (2 : Int) ^ e / 2 = if e = 0 then 0 else 2 ^ (e - 1) := by
  match e with
  | 0 => rfl
  | n + 1 => rw [if_neg (by omega), Int.pow_succ]; show 2 ^ n * 2 / 2 = 2 ^ n; omega

end Go.Proofs.YtkmalggeieiepabDoor
namespace Go.Proofs.YtkmalggeieiepabDoor
open Go.RowKit
set_option maxRecDepth 10000

/-- one number tried. -/
def stepP (l : List Int) (p : Int) : List Int := if l.all (fun q => p % q != 0) then l ++ [p] else l
/-- the primes below p. -/
def prs : Nat → List Int
  | 0 => []
  | n + 1 => if n < 2 then prs n else stepP (prs n) n
theorem stepP_len (l : List Int) (p : Int) : l.length ≤ (stepP l p).length := by unfold stepP; split <;> simp
theorem prs_mono (a b : Nat) (h : a ≤ b) : (prs a).length ≤ (prs b).length := by
  induction b with
  | zero => obtain rfl : a = 0 := by omega
            exact Nat.le_refl _
  | succ b ih =>
    by_cases e : a = b + 1
    · subst e; exact Nat.le_refl _
    · refine Nat.le_trans (ih (by omega)) ?_
      simp only [prs]; split
      · exact Nat.le_refl _
      · exact stepP_len _ _
theorem prs_311 : (prs 311).length = 63 := by kernel_rfl
theorem prs_312 : (prs 312).length = 64 := by kernel_rfl
theorem prs_bd (n : Nat) : ∀ q ∈ prs n, 2 ≤ q ∧ q < n := by
  induction n with
  | zero => intro q hq; simp [prs] at hq
  | succ n ih =>
    intro q hq
    simp only [prs] at hq
    by_cases e : n < 2
    · rw [if_pos e] at hq; have := ih q hq; omega
    · rw [if_neg e] at hq
      unfold stepP at hq
      split at hq
      · rcases List.mem_append.1 hq with h | h
        · have := ih q h; omega
        · simp at h; omega
      · have := ih q hq; omega
theorem prs_step (n : Nat) (h : 2 ≤ n) : prs (n + 1) = stepP (prs n) n := by simp only [prs]; rw [if_neg (by omega)]

def ivals (l : List Int) : List Value := l.map (Value.int .i64)
/-- a row of the call's own, read. -/
theorem own_cell {w : World} {base : Nat} {l : List Int} {g cap n : Nat} (h : w.ownsRow base 3 1 (.slice (some ⟨g, 0, none⟩) n cap) n (ivals l)) (hn : n = l.length) (j : Nat) (hj : j < l.length) : w.cell? ⟨g, j, none⟩ = some (.int .i64 (l.getD j 0)) := by
  obtain ⟨_, h2⟩ := h
  rcases h2 with ⟨hv, _⟩ | ⟨g', cap', cur, hv, _, hg, _, _, _, ht⟩
  · cases hv
  · injection hv with e1 e2 e3
    injection e1 with e4
    injection e4 with e5
    subst e5
    rw [cell_of_row w g j cur _ _ hg]
    have h3 : (cur.toList.take (n * 1))[j]? = (ivals l)[j]? := by rw [ht]
    rw [List.getElem?_take, if_pos (by omega)] at h3
    rw [← Array.getElem?_toList, h3]
    simp [ivals, hj]

theorem infoInt : (Tryd.prog.info? 3).map (fun i => (i.zero, i.size, i.bytes)) = some (some (.int .i64 0), 1, 8) := by kernel_rfl
theorem one_new (w : World) (x : Value) (T : Nat) : ∀ j u, [x][j]? = some u → (w.alloc (.cells #[x] T)).cell? ((⟨w.heap.size, 0, none⟩ : Addr).add j) = some u := by
  intro j u hj
  match j, hj with
  | 0, hj => simp at hj; subst hj; simp [Addr.add]
theorem one_cell (x : Int) : ∀ u ∈ [Value.int .i64 x], u.oneCell' = true := by
  intro u hu; simp at hu; subst hu; rfl
theorem ownBlock_ge {w : World} {base e size n : Nat} {v : Value} {xs : List Value} (h : w.ownsRow base e size v n xs) : ∀ k, v.ownBlock = some k → base ≤ k := by
  intro k hk
  rcases h.2 with ⟨rfl, _⟩ | ⟨g, cap, cur, rfl, hb, _⟩
  · simp [Value.ownBlock] at hk
  · simp [Value.ownBlock] at hk; omega

end Go.Proofs.YtkmalggeieiepabDoor
namespace Go.Proofs.YtkmalggeieiepabDoor
open Go.RowKit
set_option maxRecDepth 10000

def rootsK : List Int := [5411319704, 6194414737, 7344290767, 8215976869, 9551921755, 10098905585, 11043570340, 11460697813, 12214315672, 13195500289, 13492127166, 14311783875, 14809980276, 15046980094, 15499789991, 16133124468, 16720292289, 16907126662, 17444216262, 17784676812, 17950125167, 18429019306, 18734950876, 19175934170, 19734090066, 20001703533, 20132865992, 20390182855, 20516441075, 20764397895, 21588763473, 21813078375, 22141143685, 22248366392, 22769593852, 22871018771, 23170020180, 23461497531, 23651862830, 23931792517, 24205322401, 24295138891, 24734567280, 24820601251, 24990902297, 25075189284, 25569408389, 26045227120, 26200031510, 26276752392, 26428864332, 26653801653, 26727943347, 27092625994, 27306805839, 27517677555, 27725365998, 27793908591, 27997534228, 28131656200, 28198240250, 28526537963, 28973835255, 29099129074]
def rootsH : List Int := [6074000999, 7439101573, 9603838834, 11363415354, 14244795007, 15485724812, 17708603819, 18721328409]
def wordsK : List Int := [1116352408, 1899447441, 3049323471, 3921009573, 961987163, 1508970993, 2453635748, 2870763221, 3624381080, 310598401, 607225278, 1426881987, 1925078388, 2162078206, 2614888103, 3248222580, 3835390401, 4022224774, 264347078, 604807628, 770255983, 1249150122, 1555081692, 1996064986, 2554220882, 2821834349, 2952996808, 3210313671, 3336571891, 3584528711, 113926993, 338241895, 666307205, 773529912, 1294757372, 1396182291, 1695183700, 1986661051, 2177026350, 2456956037, 2730485921, 2820302411, 3259730800, 3345764771, 3516065817, 3600352804, 4094571909, 275423344, 430227734, 506948616, 659060556, 883997877, 958139571, 1322822218, 1537002063, 1747873779, 1955562222, 2024104815, 2227730452, 2361852424, 2428436474, 2756734187, 3204031479, 3329325298]
def wordsH : List Int := [1779033703, 3144134277, 1013904242, 2773480762, 1359893119, 2600822924, 528734635, 1541459225]
theorem sq_mono (a b : Int) (h0 : 0 ≤ a) (h : a ≤ b) : a * a ≤ b * b := Int.mul_le_mul h h h0 (by omega)
theorem cb_mono (a b : Int) (h0 : 0 ≤ a) (h : a ≤ b) : a * a * a ≤ b * b * b := Int.mul_le_mul (sq_mono a b h0 h) h h0 (Int.mul_nonneg (by omega) (by omega))
theorem sq_one (r c G : Int) (r0 : 0 ≤ r) (c0 : 0 ≤ c) (h1 : r * r ≤ G) (h2 : G < (r + 1) * (r + 1)) (h3 : c * c ≤ G) (h4 : G < (c + 1) * (c + 1)) : r = c := by
  rcases Int.lt_trichotomy r c with h | h | h
  · have := sq_mono (r + 1) c (by omega) (by omega); omega
  · exact h
  · have := sq_mono (c + 1) r (by omega) (by omega); omega
theorem cb_one (r c G : Int) (r0 : 0 ≤ r) (c0 : 0 ≤ c) (h1 : r * r * r ≤ G) (h2 : G < (r + 1) * (r + 1) * (r + 1)) (h3 : c * c * c ≤ G) (h4 : G < (c + 1) * (c + 1) * (c + 1)) : r = c := by
  rcases Int.lt_trichotomy r c with h | h | h
  · have := cb_mono (r + 1) c (by omega) (by omega); omega
  · exact h
  · have := cb_mono (c + 1) r (by omega) (by omega); omega
def okK (k : Nat) : Bool := let r := rootsK.getD k 0; let p := (prs 312).getD k 0
  decide (0 ≤ r) && decide (r * r * r ≤ p * pw 6) && decide (p * pw 6 < (r + 1) * (r + 1) * (r + 1)) && decide (r % 4294967296 = wordsK.getD k 0) && decide (0 ≤ p) && decide (p ≤ 400)
def okH (k : Nat) : Bool := let r := rootsH.getD k 0; let p := (prs 312).getD k 0
  decide (0 ≤ r) && decide (r * r ≤ p * pw 4) && decide (p * pw 4 < (r + 1) * (r + 1)) && decide (r % 4294967296 = wordsH.getD k 0) && decide (0 ≤ p) && decide (p ≤ 400)
theorem okK_all : (List.range 64).all okK = true := by kernel_rfl
theorem okH_all : (List.range 8).all okH = true := by kernel_rfl
/-- a row is there still. -/
theorem own_later {w w' : World} {base e size n : Nat} {v : Value} {xs : List Value} (h : w.ownsRow base e size v n xs) (hb : Below w.heap.size w w') : w'.ownsRow base e size v n xs := by
  refine ⟨h.1, ?_⟩
  rcases h.2 with hn | ⟨g, cap, cur, hv, hbg, hg, rest⟩
  · exact .inl hn
  · have hlt : g < w.heap.size := by
      rcases Nat.lt_or_ge g w.heap.size with h1 | h1
      · exact h1
      · rw [Array.getElem?_eq_none h1] at hg; cases hg
    exact .inr ⟨g, cap, cur, hv, hbg, by rw [hb.block g hlt]; exact hg, rest⟩
/-- the tables under way. -/
structure Tab (w wx : World) (k m gP cP : Nat) (vK vH : Value) : Prop where
  cK : wx.cell? ⟨w.heap.size, 1, none⟩ = some vK
  cH : wx.cell? ⟨w.heap.size, 0, none⟩ = some vH
  fK : wx.frozen? ⟨w.heap.size, 1, none⟩ = false
  fH : wx.frozen? ⟨w.heap.size, 0, none⟩ = false
  oK : wx.ownsRow (w.heap.size + 1) 3 1 vK k (ivals (wordsK.take k))
  oH : wx.ownsRow (w.heap.size + 1) 3 1 vH m (ivals (wordsH.take m))
  oP : wx.ownsRow (w.heap.size + 1) 3 1 (.slice (some ⟨gP, 0, none⟩) 64 cP) 64 (ivals (prs 312))
  dKH : vK.ownBlock = none ∨ vK.ownBlock ≠ vH.ownBlock
  dKP : vK.ownBlock ≠ some gP
  dHP : vH.ownBlock ≠ some gP
  below : Below w.heap.size w wx

theorem own_set {w : World} {base e size n : Nat} {v : Value} {xs : List Value} (h : w.ownsRow base e size v n xs) (a : Addr) (u : Value) (ha : a.block < base) : (w.setCell a u).ownsRow base e size v n xs := by
  refine ⟨h.1, ?_⟩
  rcases h.2 with hn | ⟨g, cap, cur, hv, hbg, hg, rest⟩
  · exact .inl hn
  · exact .inr ⟨g, cap, cur, hv, hbg, by rw [heap_setCell_other _ _ _ _ (by omega)]; exact hg, rest⟩
theorem Tab.later {w wx w2 : World} {k m gP cP : Nat} {vK vH : Value} (h : Tab w wx k m gP cP vK vH) (hb : Below wx.heap.size wx w2) : Tab w w2 k m gP cP vK vH := by
  have l := World.block_lt_of_cell? wx _ h.cK
  have hz := h.below.size
  exact ⟨by rw [hb.cell (p := ⟨w.heap.size, 1, none⟩) l]; exact h.cK, by rw [hb.cell (p := ⟨w.heap.size, 0, none⟩) l]; exact h.cH, by rw [hb.frozen (p := ⟨w.heap.size, 1, none⟩) l]; exact h.fK, by rw [hb.frozen (p := ⟨w.heap.size, 0, none⟩) l]; exact h.fH,
    own_later h.oK hb, own_later h.oH hb, own_later h.oP hb, h.dKH, h.dKP, h.dHP, h.below.trans (hb.mono hz)⟩
theorem Tab.drew {w wx : World} {k m gP cP : Nat} {vK vH : Value} (h : Tab w wx k m gP cP vK vH) : Tab w wx.drew k m gP cP vK vH :=
  h.later (Below.refl _ _).drew
theorem grown_below {w w' : World} {row : Option Nat} {B : Nat} {a : World} (h : Below B a w) (hg : w.grownBy w' row) (hB : B ≤ w.heap.size) (hr : ∀ k, row = some k → B ≤ k) : Below B a w' := h.grown hg hB hr
theorem Tab.appK {w w3 w4 : World} {k m gP cP g cap : Nat} {vK vH : Value} (h : Tab w w3 k m gP cP vK vH)
    (ho : w4.ownsRow (w.heap.size + 1) 3 1 (.slice (some ⟨g, 0, none⟩) (k + 1) cap) (k + 1) (ivals (wordsK.take k) ++ [.int .i64 (wordsK.getD k 0)]))
    (hgr : w3.grownBy w4 vK.ownBlock) (hg : vK.ownBlock = some g ∨ g = w3.heap.size) (hk : k < 64) :
    w4.cell? ⟨w.heap.size, 1, none⟩ = some vK ∧ w4.frozen? ⟨w.heap.size, 1, none⟩ = false ∧ Tab w (w4.setCell ⟨w.heap.size, 1, none⟩ (.slice (some ⟨g, 0, none⟩) (k + 1) cap)) (k + 1) m gP cP (.slice (some ⟨g, 0, none⟩) (k + 1) cap) vH := by
  have l := World.block_lt_of_cell? w3 _ h.cK
  have lK := h.oK.lt
  have lH := h.oH.lt
  have lP := h.oP.lt gP rfl
  have hne : some w.heap.size ≠ vK.ownBlock := by
    intro e; have := lK _ e.symm; omega
  have c1 : w4.cell? ⟨w.heap.size, 1, none⟩ = some vK := by rw [hgr.cell_far ⟨w.heap.size, 1, none⟩ l hne]; exact h.cK
  have c0 : w4.cell? ⟨w.heap.size, 0, none⟩ = some vH := by rw [hgr.cell_far ⟨w.heap.size, 0, none⟩ l hne]; exact h.cH
  have f1 : w4.frozen? ⟨w.heap.size, 1, none⟩ = false := by rw [hgr.frozen_far ⟨w.heap.size, 1, none⟩ l hne]; exact h.fK
  have f0 : w4.frozen? ⟨w.heap.size, 0, none⟩ = false := by rw [hgr.frozen_far ⟨w.heap.size, 0, none⟩ l hne]; exact h.fH
  have hzz := h.below.size
  refine ⟨c1, f1, ?_⟩
  refine ⟨?_, ?_, by simpa using f1, by simpa using f0, ?_, ?_, ?_, ?_, ?_, h.dHP, ?_⟩
  · rw [scSame]; rw [c1]; rfl
  · rw [World.cell?_setCell_other, c0]; intro e; injection e with _ e2; cases e2
  · refine own_set ?_ _ _ (by simp)
    have e : ivals (wordsK.take (k + 1)) = ivals (wordsK.take k) ++ [.int .i64 (wordsK.getD k 0)] := by
      have hl : k < wordsK.length := by show k < 64; exact hk
      unfold ivals
      rw [List.take_succ_eq_append_getElem hl, List.map_append, List.getD_eq_getElem?_getD, List.getElem?_eq_getElem hl]; rfl
    rw [e]; exact ho
  · refine own_set (h.oH.kept hgr ?_) _ _ (by simp)
    rcases h.dKH with e | e
    · rw [e]; rcases hv : vH.ownBlock with _ | q
      · exact .inl rfl
      · exact .inr (by simp)
    · exact .inr (Ne.symm e)
  · refine own_set (h.oP.kept hgr (.inr ?_)) _ _ (by simp)
    exact Ne.symm h.dKP
  · right
    show some g ≠ vH.ownBlock
    rcases hg with e | e
    · rcases h.dKH with e2 | e2
      · rw [e2] at e; cases e
      · rw [← e]; exact e2
    · intro e3; have := lH g e3.symm; omega
  · show some g ≠ some gP
    rcases hg with e | e
    · rw [← e]; exact h.dKP
    · intro e3; injection e3 with e4; omega
  · exact (grown_below h.below hgr (by omega) (fun q hq => by have := lK q hq; omega)).setCell (Nat.le_refl _) _
theorem Tab.appH {w w3 w4 : World} {k m gP cP g cap : Nat} {vK vH : Value} (h : Tab w w3 k m gP cP vK vH)
    (ho : w4.ownsRow (w.heap.size + 1) 3 1 (.slice (some ⟨g, 0, none⟩) (m + 1) cap) (m + 1) (ivals (wordsH.take m) ++ [.int .i64 (wordsH.getD m 0)]))
    (hgr : w3.grownBy w4 vH.ownBlock) (hg : vH.ownBlock = some g ∨ g = w3.heap.size) (hk : m < 8) :
    w4.cell? ⟨w.heap.size, 0, none⟩ = some vH ∧ w4.frozen? ⟨w.heap.size, 0, none⟩ = false ∧ Tab w (w4.setCell ⟨w.heap.size, 0, none⟩ (.slice (some ⟨g, 0, none⟩) (m + 1) cap)) k (m + 1) gP cP vK (.slice (some ⟨g, 0, none⟩) (m + 1) cap) := by
  have l := World.block_lt_of_cell? w3 _ h.cK
  have lK := h.oK.lt
  have lH := h.oH.lt
  have lP := h.oP.lt gP rfl
  have hne : some w.heap.size ≠ vH.ownBlock := by
    intro e; have := lH _ e.symm; omega
  have c1 : w4.cell? ⟨w.heap.size, 1, none⟩ = some vK := by rw [hgr.cell_far ⟨w.heap.size, 1, none⟩ l hne]; exact h.cK
  have c0 : w4.cell? ⟨w.heap.size, 0, none⟩ = some vH := by rw [hgr.cell_far ⟨w.heap.size, 0, none⟩ l hne]; exact h.cH
  have f1 : w4.frozen? ⟨w.heap.size, 1, none⟩ = false := by rw [hgr.frozen_far ⟨w.heap.size, 1, none⟩ l hne]; exact h.fK
  have f0 : w4.frozen? ⟨w.heap.size, 0, none⟩ = false := by rw [hgr.frozen_far ⟨w.heap.size, 0, none⟩ l hne]; exact h.fH
  have hzz := h.below.size
  have hKH : vK.ownBlock = none ∨ vK.ownBlock ≠ vH.ownBlock := h.dKH
  refine ⟨c0, f0, ?_⟩
  refine ⟨?_, ?_, by simpa using f1, by simpa using f0, ?_, ?_, ?_, ?_, h.dKP, ?_, ?_⟩
  · rw [World.cell?_setCell_other, c1]; intro e; injection e with _ e2; cases e2
  · rw [scSame]; rw [c0]; rfl
  · exact own_set (h.oK.kept hgr hKH) _ _ (by simp)
  · refine own_set ?_ _ _ (by simp)
    have e : ivals (wordsH.take (m + 1)) = ivals (wordsH.take m) ++ [.int .i64 (wordsH.getD m 0)] := by
      have hl : m < wordsH.length := by show m < 8; exact hk
      unfold ivals
      rw [List.take_succ_eq_append_getElem hl, List.map_append, List.getD_eq_getElem?_getD, List.getElem?_eq_getElem hl]; rfl
    rw [e]; exact ho
  · refine own_set (h.oP.kept hgr (.inr ?_)) _ _ (by simp)
    exact Ne.symm h.dHP
  · rcases hv : vK.ownBlock with _ | q
    · exact .inl rfl
    · right
      show some q ≠ some g
      rcases hg with e | e
      · rcases hKH with e2 | e2
        · rw [e2] at hv; cases hv
        · rw [hv, e] at e2; exact e2
      · intro e3; injection e3 with e4; have := lK q hv; omega
  · show some g ≠ some gP
    rcases hg with e | e
    · rw [← e]; exact h.dHP
    · intro e3; injection e3 with e4; omega
  · exact (grown_below h.below hgr (by omega) (fun q hq => by have := lH q hq; omega)).setCell (Nat.le_refl _) _

end Go.Proofs.YtkmalggeieiepabDoor
namespace Go.Proofs.YtkmalggeieiepabDoor
open Go.RowKit

def strV (l : List ByteArray) : List Value := l.map Value.string
/-- two that stand side by side are the same. -/
def twinL : List ByteArray → Bool
  | a :: b :: r => (a.toList == b.toList) || twinL r
  | _ => false
/-- the last one once more, where they are odd. -/
def evL (l : List ByteArray) : List ByteArray := if l.length % 2 = 1 then l ++ [l.getD (l.length - 1) ByteArray.empty] else l
/-- the next height. -/
def upL (dd : ByteArray → ByteArray) : List ByteArray → List ByteArray
  | a :: b :: r => dd (a ++ b) :: upL dd r
  | _ => []
def rootL (dd : ByteArray → ByteArray) : Nat → List ByteArray → Bool → ByteArray × Bool
  | 0, l, t => (l.getD 0 ByteArray.empty, t)
  | n + 1, l, t => if 1 < l.length then rootL dd n (upL dd (evL l)) (t || twinL l) else (l.getD 0 ByteArray.empty, t)
theorem upL_length (dd : ByteArray → ByteArray) : ∀ l : List ByteArray, (upL dd l).length = l.length / 2
  | [] => rfl
  | [_] => by simp [upL]
  | a :: b :: r => by simp only [upL, List.length_cons, upL_length dd r]; omega
theorem evL_length (l : List ByteArray) : (evL l).length = l.length + l.length % 2 := by
  unfold evL
  split
  · rename_i h; simp [h]
  · omega
theorem up_lt (dd : ByteArray → ByteArray) (l : List ByteArray) (h : 1 < l.length) : (upL dd (evL l)).length < l.length ∧ 0 < (upL dd (evL l)).length := by
  rw [upL_length, evL_length]; omega
theorem rootL_fuel (dd : ByteArray → ByteArray) : ∀ (n m : Nat) (l : List ByteArray) (t : Bool), l.length ≤ n + 1 → l.length ≤ m + 1 → rootL dd n l t = rootL dd m l t := by
  intro n
  induction n with
  | zero =>
    intro m l t h1 _
    cases m with
    | zero => rfl
    | succ m => show _ = if 1 < l.length then _ else _; rw [if_neg (by omega)]; rfl
  | succ n ih =>
    intro m l t h1 h2
    show (if 1 < l.length then _ else _) = _
    by_cases h : 1 < l.length
    · rw [if_pos h]
      cases m with
      | zero => omega
      | succ m =>
        show _ = if 1 < l.length then _ else _
        rw [if_pos h]
        have := (up_lt dd l h).1
        exact ih m _ _ (by omega) (by omega)
    · rw [if_neg h]
      cases m with
      | zero => rfl
      | succ m => show _ = if 1 < l.length then _ else _; rw [if_neg h]
/-- the root, and whether there are twins. -/
def rootF (dd : ByteArray → ByteArray) (l : List ByteArray) (t : Bool) : ByteArray × Bool := rootL dd l.length l t
theorem rootF_one (dd : ByteArray → ByteArray) (l : List ByteArray) (t : Bool) (h : l.length = 1) : rootF dd l t = (l.getD 0 ByteArray.empty, t) := by
  unfold rootF; rw [h]; show (if 1 < l.length then _ else _) = _; rw [if_neg (by omega)]
theorem rootF_up (dd : ByteArray → ByteArray) (l : List ByteArray) (t : Bool) (h : 1 < l.length) : rootF dd l t = rootF dd (upL dd (evL l)) (t || twinL l) := by
  unfold rootF
  obtain ⟨n, hn⟩ : ∃ n, l.length = n + 1 := ⟨l.length - 1, by omega⟩
  rw [hn]
  show (if 1 < l.length then _ else _) = _
  rw [if_pos h]
  have := (up_lt dd l h).1
  exact rootL_fuel dd _ _ _ _ (by omega) (by omega)
theorem twinL_drop (l : List ByteArray) (i : Nat) (h : i + 1 < l.length) : twinL (l.drop i) = ((l[i].toList == l[i + 1].toList) || twinL (l.drop (i + 2))) := by
  rw [List.drop_eq_getElem_cons (by omega), List.drop_eq_getElem_cons (i := i + 1) (by omega)]; rfl
theorem twinL_end (l : List ByteArray) (i : Nat) (h : l.length ≤ i + 1) : twinL (l.drop i) = false := by
  have hl : (l.drop i).length ≤ 1 := by rw [List.length_drop]; omega
  match l.drop i, hl with
  | [], _ => rfl
  | [_], _ => rfl
theorem upL_drop (dd : ByteArray → ByteArray) (l : List ByteArray) (i : Nat) (h : i + 1 < l.length) : upL dd (l.drop i) = dd (l[i] ++ l[i + 1]) :: upL dd (l.drop (i + 2)) := by
  rw [List.drop_eq_getElem_cons (by omega), List.drop_eq_getElem_cons (i := i + 1) (by omega)]; rfl
/-- texts lie in a row. -/
def SRow (w : World) (b o : Nat) (l : List ByteArray) : Prop := ∀ j (h : j < l.length), w.cell? ⟨b, o + j, none⟩ = some (.string l[j])
theorem SRow.later {w w' : World} {b o : Nat} {l : List ByteArray} {B : Nat} (h : SRow w b o l) (hb : Below B w w') (hB : b < B) : SRow w' b o l := fun j hj => by
  rw [hb.cell (p := ⟨b, o + j, none⟩) hB]; exact h j hj
theorem SRow.lt {w : World} {b o : Nat} {l : List ByteArray} (h : SRow w b o l) (hn : 0 < l.length) : b < w.heap.size := World.block_lt_of_cell? w _ (h 0 hn)
theorem infoStr : (Tryd.prog.info? 9).map (fun i => (i.zero, i.size, i.bytes)) = some (some (.string ByteArray.empty), 1, 16) := by kernel_rfl
theorem str_one (l : List ByteArray) : ∀ u ∈ strV l, u.oneCell' = true := by
  intro u hu; obtain ⟨s, _, rfl⟩ := List.mem_map.1 hu; rfl
theorem own_srow {w : World} {base e g cap n : Nat} {l : List ByteArray} (hn : l.length = n) (h : w.ownsRow base e 1 (.slice (some ⟨g, 0, none⟩) n cap) n (strV l)) : SRow w g 0 l := by
  obtain ⟨_, h2⟩ := h
  rcases h2 with ⟨hv, _⟩ | ⟨g', cap', cur, hv, _, hg, _, _, _, ht⟩
  · cases hv
  · injection hv with e1 e2 e3
    injection e1 with e4
    injection e4 with e5
    subst e5
    intro j hj
    rw [Nat.zero_add, cell_of_row w g j cur _ _ hg]
    have h3 : (cur.toList.take (n * 1))[j]? = (strV l)[j]? := by rw [ht]
    rw [List.getElem?_take, if_pos (by omega)] at h3
    rw [← Array.getElem?_toList, h3]
    simp [strV, hj]
theorem srow_news {w : World} {b o : Nat} {l : List ByteArray} (h : SRow w b o l) : ∀ j u, (strV l)[j]? = some u → w.cell? ((⟨b, o, none⟩ : Addr).add j) = some u := by
  intro j u hu
  have hj : j < l.length := by have := (List.getElem?_eq_some_iff.1 hu).1; simpa [strV] using this
  rw [Addr.add_mid, h j hj]
  simpa [strV, hj] using hu
end Go.Proofs.YtkmalggeieiepabDoor
namespace Go.Proofs.YtkmalggeieiepabDoor
open Go.RowKit

theorem one_str (s : ByteArray) : ∀ u ∈ [Value.string s], u.oneCell' = true := by
  intro u hu; simp at hu; subst hu; rfl
theorem upL_32 (dd : ByteArray → ByteArray) (hdd : ∀ s, (dd s).size = 32) : ∀ l : List ByteArray, ∀ s ∈ upL dd l, s.size = 32
  | [], s, hs => by simp [upL] at hs
  | [_], s, hs => by simp [upL] at hs
  | a :: b :: r, s, hs => by
    simp only [upL, List.mem_cons] at hs
    rcases hs with rfl | hs
    · exact hdd _
    · exact upL_32 dd hdd r s hs
theorem evL_32 (l : List ByteArray) (h : ∀ s ∈ l, s.size = 32) : ∀ s ∈ evL l, s.size = 32 := by
  intro s hs
  unfold evL at hs
  split at hs
  · rename_i hodd
    rcases List.mem_append.1 hs with h1 | h1
    · exact h s h1
    · simp at h1
      subst h1
      have hlt : l.length - 1 < l.length := by omega
      rw [List.getElem?_eq_getElem hlt]
      exact h _ (List.getElem_mem hlt)
  · exact h s hs

end Go.Proofs.YtkmalggeieiepabDoor
