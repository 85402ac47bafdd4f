import Derived.Test.YtkmalggeieiepaaGreatDoorShaF
import Derived.Test.YtkmalggeieiepaaGreatDoorRefA
import Derived.Test.YtkmalggeieiepaaGreatDoorRefF
import Derived.Laws.BitsAllLaws
namespace Go.Proofs.YtkmalggeieiepaaGreatDoor
open Go.RowKit

theorem i64_xor_nat (a b : Nat) (ha : a < 4294967296) (hb : b < 4294967296) : bits .xor .i64 (a : Int) (b : Int) = ((a ^^^ b : Nat) : Int) := by
  have hx : a ^^^ b < 2 ^ 32 := Nat.xor_lt_two_pow (by omega) (by omega)
  show IntKind.i64.wrap ((BitVec.ofInt 64 (a : Int) ^^^ BitVec.ofInt 64 (b : Int)).toNat : Int) = _
  rw [BitVec.toNat_xor, BitVec.ofInt_natCast, BitVec.ofInt_natCast, BitVec.toNat_ofNat, BitVec.toNat_ofNat, Nat.mod_eq_of_lt (by omega), Nat.mod_eq_of_lt (by omega), IntKind.wrap_i64]
  omega
theorem same_xor (a b : Int) (ha : IsW a) (hb : IsW b) : bits .xor .i64 a b = bits .xor .u32 a b := by
  obtain ⟨a0, a1⟩ := ha
  obtain ⟨b0, b1⟩ := hb
  obtain ⟨x, rfl⟩ := Int.eq_ofNat_of_zero_le a0
  obtain ⟨y, rfl⟩ := Int.eq_ofNat_of_zero_le b0
  rw [i64_xor_nat x y (by omega) (by omega), u32_xor_nat x y (by omega) (by omega)]
theorem isW_div (x q : Int) (hx : IsW x) (hq : 0 < q) : IsW (x / q) := by
  obtain ⟨h0, h1⟩ := hx
  exact ⟨Int.ediv_nonneg h0 (by omega), Int.lt_of_le_of_lt (Int.ediv_le_self _ h0) h1⟩
theorem sg0_i (x : Int) (hx : IsW x) : bits .xor .i64 (bits .xor .i64 (rr 7 x) (rr 18 x)) (x / 8) = sg0 x := by
  rw [same_xor _ _ (isW_rr _ _) (isW_rr _ _), same_xor _ _ (isW_bits _ _ _) (isW_div _ _ hx (by omega))]; rfl
theorem sg1_i (x : Int) (hx : IsW x) : bits .xor .i64 (bits .xor .i64 (rr 17 x) (rr 19 x)) (x / 1024) = sg1 x := by
  rw [same_xor _ _ (isW_rr _ _) (isW_rr _ _), same_xor _ _ (isW_bits _ _ _) (isW_div _ _ hx (by omega))]; rfl
theorem sS1_i (x : Int) : bits .xor .i64 (bits .xor .i64 (rr 6 x) (rr 11 x)) (rr 25 x) = sS1 x := by
  rw [same_xor _ _ (isW_rr _ _) (isW_rr _ _), same_xor _ _ (isW_bits _ _ _) (isW_rr _ _)]; rfl
theorem sS0_i (x : Int) : bits .xor .i64 (bits .xor .i64 (rr 2 x) (rr 13 x)) (rr 22 x) = sS0 x := by
  rw [same_xor _ _ (isW_rr _ _) (isW_rr _ _), same_xor _ _ (isW_bits _ _ _) (isW_rr _ _)]; rfl
theorem sub_xor (e : Nat) (he : e < 4294967296) : 4294967295 - e = 4294967295 ^^^ e := by
  apply Nat.eq_of_testBit_eq
  intro i
  rw [Nat.testBit_xor, show 4294967295 - e = 2 ^ 32 - (e + 1) by omega, Nat.testBit_two_pow_sub_succ (by omega), show (4294967295 : Nat) = 2 ^ 32 - 1 by decide, Nat.testBit_two_pow_sub_one]
  by_cases h : i < 32
  · simp [h]
  · have h2 : 2 ^ 32 ≤ 2 ^ i := Nat.pow_le_pow_right (by decide) (by omega)
    have : e.testBit i = false := Nat.testBit_lt_two_pow (by omega)
    simp [h, this]
theorem pick_nat (e f g : Nat) (he : e < 4294967296) : (e &&& f) ||| ((4294967295 - e) &&& g) = (e &&& f) ^^^ ((4294967295 ^^^ e) &&& g) := by
  rw [← sub_xor e he]
  apply Nat.eq_of_testBit_eq
  intro i
  rw [Nat.testBit_xor, Nat.testBit_or, Nat.testBit_and, Nat.testBit_and, show 4294967295 - e = 2 ^ 32 - (e + 1) by omega, Nat.testBit_two_pow_sub_succ (by omega)]
  cases e.testBit i <;> cases f.testBit i <;> cases g.testBit i <;> cases decide (i < 32) <;> rfl
theorem most_nat (a b c : Nat) : (a &&& b) ||| (a &&& c) ||| (b &&& c) = (a &&& b) ^^^ (a &&& c) ^^^ (b &&& c) := by
  apply Nat.eq_of_testBit_eq
  intro i
  simp only [Nat.testBit_xor, Nat.testBit_or, Nat.testBit_and]
  cases a.testBit i <;> cases b.testBit i <;> cases c.testBit i <;> rfl
theorem cH_i (e f g : Int) (he : IsW e) (hf : IsW f) (hg : IsW g) : bits .or .i64 (bits .and .i64 e f) (bits .and .i64 (4294967295 - e) g) = cH e f g := by
  obtain ⟨e0, e1⟩ := he
  obtain ⟨f0, f1⟩ := hf
  obtain ⟨g0, g1⟩ := hg
  obtain ⟨x, rfl⟩ := Int.eq_ofNat_of_zero_le e0
  obtain ⟨y, rfl⟩ := Int.eq_ofNat_of_zero_le f0
  obtain ⟨z, rfl⟩ := Int.eq_ofNat_of_zero_le g0
  have hx : x < 4294967296 := by omega
  have hy : y < 4294967296 := by omega
  have hz : z < 4294967296 := by omega
  have e2 : (4294967295 - (x : Int)) = ((4294967295 - x : Nat) : Int) := by omega
  have hxy : x &&& y < 2 ^ 32 := Nat.and_lt_two_pow _ (by omega)
  have hxz : (4294967295 - x) &&& z < 2 ^ 32 := Nat.and_lt_two_pow _ (by omega)
  have hxo : 4294967295 ^^^ x < 2 ^ 32 := Nat.xor_lt_two_pow (by omega) (by omega)
  have hxz2 : (4294967295 ^^^ x) &&& z < 2 ^ 32 := Nat.and_lt_two_pow _ (by omega)
  unfold cH
  have e3 : bits .xor .u32 4294967295 (x : Int) = ((4294967295 ^^^ x : Nat) : Int) := u32_xor_nat 4294967295 x (by omega) hx
  rw [e2, i64_and_nat x y (by omega) (by omega), i64_and_nat _ z (by omega) (by omega), i64_or_nat _ _ (by omega) (by omega), u32_and_nat x y hx hy, e3, u32_and_nat _ z (by omega) hz, u32_xor_nat _ _ (by omega) (by omega), pick_nat x y z hx]
theorem mJ_i (a b c : Int) (ha : IsW a) (hb : IsW b) (hc : IsW c) : bits .or .i64 (bits .or .i64 (bits .and .i64 a b) (bits .and .i64 a c)) (bits .and .i64 b c) = mJ a b c := by
  obtain ⟨e0, e1⟩ := ha
  obtain ⟨f0, f1⟩ := hb
  obtain ⟨g0, g1⟩ := hc
  obtain ⟨x, rfl⟩ := Int.eq_ofNat_of_zero_le e0
  obtain ⟨y, rfl⟩ := Int.eq_ofNat_of_zero_le f0
  obtain ⟨z, rfl⟩ := Int.eq_ofNat_of_zero_le g0
  have hx : x < 4294967296 := by omega
  have hy : y < 4294967296 := by omega
  have hz : z < 4294967296 := by omega
  have hxy : x &&& y < 2 ^ 32 := Nat.and_lt_two_pow _ (by omega)
  have hxz : x &&& z < 2 ^ 32 := Nat.and_lt_two_pow _ (by omega)
  have hyz : y &&& z < 2 ^ 32 := Nat.and_lt_two_pow _ (by omega)
  have ho : (x &&& y) ||| (x &&& z) < 2 ^ 32 := Nat.or_lt_two_pow hxy hxz
  have hxo : (x &&& y) ^^^ (x &&& z) < 2 ^ 32 := Nat.xor_lt_two_pow hxy hxz
  unfold mJ
  rw [i64_and_nat x y (by omega) (by omega), i64_and_nat x z (by omega) (by omega), i64_and_nat y z (by omega) (by omega), i64_or_nat _ _ (by omega) (by omega), i64_or_nat _ _ (by omega) (by omega),
    u32_and_nat x y hx hy, u32_and_nat x z hx hz, u32_and_nat y z hy hz, u32_xor_nat _ _ (by omega) (by omega), u32_xor_nat _ _ (by omega) (by omega), most_nat x y z]

theorem feed_short (Kc : Nat → Int) (s : Nat → Int) : ∀ (l acc : List UInt8), acc.length + l.length < 64 → feed Kc (s, acc) l = (s, acc ++ l) := by
  intro l
  induction l with
  | nil => intro acc _; simp [feed]
  | cons c l ih =>
    intro acc h
    show feed Kc (putF Kc (s, acc) c) l = _
    have e : putF Kc (s, acc) c = (s, acc ++ [c]) := by
      unfold putF; rw [if_neg (by simp at h ⊢; omega)]
    rw [e, ih _ (by simp at h ⊢; omega)]; simp
theorem feed_block (Kc : Nat → Int) (s : Nat → Int) (l : List UInt8) (h : l.length = 64) : feed Kc (s, []) l = (mixF Kc (bfn l) s, []) := by
  have e : l = l.take 63 ++ [l[63]] := by
    have h2 := List.take_succ_eq_append_getElem (l := l) (i := 63) (by omega)
    rw [← h2, List.take_of_length_le (by omega)]
  have h63 : (l.take 63).length = 63 := by simp; omega
  rw [e, feed_snoc, feed_short Kc s (l.take 63) [] (by simp; omega)]
  unfold putF
  rw [if_pos (by simp; omega)]; simp
theorem feed_first (Kc : Nat → Int) (s : Nat → Int) (l : List UInt8) (h : 64 ≤ l.length) : feed Kc (s, []) l = feed Kc (mixF Kc (bfn (l.take 64)) s, []) (l.drop 64) := by
  have e := feed_append Kc (s, []) (l.take 64) (l.drop 64)
  rw [List.take_append_drop] at e
  rw [e, feed_block Kc s (l.take 64) (by simp; omega)]
theorem bfn_take (t : ByteArray) (j : Nat) (h : j < 64) (hj : j < t.size) : (bfn (t.data.toList.take 64) j : Int) = (t[j].toNat : Int) := by
  unfold bfn
  have hl : j < t.data.toList.length := hj
  rw [List.getD_eq_getElem?_getD, List.getElem?_take, if_pos h, List.getElem?_eq_getElem hl]
  rfl
theorem pt4 (b : Nat → Nat) (k : Nat) : (pt b k 4 : Int) = (b (4 * k) : Int) * 16777216 + (b (4 * k + 1) : Int) * 65536 + (b (4 * k + 2) : Int) * 256 + (b (4 * k + 3) : Int) := by
  simp only [pt]
  rw [Nat.add_zero]
  omega
/-- a row of the call's own. -/
theorem own_arr {w : World} {base e g cap n : Nat} {f : Nat → Int} (h : w.ownsRow base e 1 (.slice (some ⟨g, 0, none⟩) n cap) n (wl .i64 f n)) : Arr .i64 w g f n := by
  obtain ⟨_, h2⟩ := h
  rcases h2 with ⟨hv, _⟩ | ⟨g', cap', cur, hv, _, hg, _, _, _, ht⟩
  · cases hv
  · injection hv with e1 e2 e3
    injection e1 with e4
    injection e4 with e5
    subst e5
    intro j hj
    refine ⟨?_, frozen_of_row _ _ _ _ _ hg⟩
    rw [cell_of_row w g j cur _ _ hg]
    have h3 : (cur.toList.take (n * 1))[j]? = (wl .i64 f n)[j]? := by rw [ht]
    rw [List.getElem?_take, if_pos (by omega), wl_get _ _ _ _ hj] at h3
    rw [← Array.getElem?_toList, h3]
theorem wl_snoc (K : IntKind) (f : Nat → Int) (n : Nat) : wl K f (n + 1) = wl K f n ++ [.int K (f n)] := by simp [wl, List.range_succ]
/-- the table's words. -/
def kcR (i : Nat) : Int := wordsK.getD i 0
/-- the tables lie there. -/
def HasTab (w : World) (gt : Nat) : Prop := ∃ gK cK gH cG, w.cell? ⟨gt, 1, none⟩ = some (.slice (some ⟨gK, 0, none⟩) 64 cK) ∧ w.cell? ⟨gt, 0, none⟩ = some (.slice (some ⟨gH, 0, none⟩) 8 cG) ∧ (∀ j, j < 64 → w.cell? ⟨gK, j, none⟩ = some (.int .i64 (kcR j))) ∧ (∀ j, j < 8 → w.cell? ⟨gH, j, none⟩ = some (.int .i64 (ini8 j)))
theorem HasTab.later {w w' : World} {gt : Nat} (h : HasTab w gt) (hb : Below w.heap.size w w') : HasTab w' gt := by
  obtain ⟨gK, cK, gH, cG, h1, h2, h3, h4⟩ := h
  have l1 := World.block_lt_of_cell? w _ h1
  have l3 := World.block_lt_of_cell? w _ (h3 0 (by omega))
  have l4 := World.block_lt_of_cell? w _ (h4 0 (by omega))
  exact ⟨gK, cK, gH, cG, by rw [hb.cell (p := ⟨gt, 1, none⟩) l1]; exact h1, by rw [hb.cell (p := ⟨gt, 0, none⟩) l1]; exact h2, fun j hj => by rw [hb.cell (p := ⟨gK, j, none⟩) l3]; exact h3 j hj, fun j hj => by rw [hb.cell (p := ⟨gH, j, none⟩) l4]; exact h4 j hj⟩
theorem wordsH_ini (j : Nat) (hj : j < 8) : wordsH.getD j 0 = ini8 j := by
  match j, hj with
  | 0, _ => rfl
  | 1, _ => rfl
  | 2, _ => rfl
  | 3, _ => rfl
  | 4, _ => rfl
  | 5, _ => rfl
  | 6, _ => rfl
  | 7, _ => rfl
theorem newTables_has (w : World) :
    Calls Tryz.prog 11 #[] w fun e w' => e = .returned (.pointer (some ⟨w.heap.size, 0, none⟩)) ∧ HasTab w' w.heap.size ∧ Below w.heap.size w w' := by
  refine (newTables_any w).mono ?_
  rintro e w' ⟨vK, vH, gP, cP, rfl, hT⟩
  have hK := hT.oK
  have hH := hT.oH
  obtain ⟨gK, cK, rfl, _, _⟩ := hK.form (by omega)
  obtain ⟨gH, cG, rfl, _, _⟩ := hH.form (by omega)
  refine ⟨rfl, ⟨gK, cK, gH, cG, hT.cK, hT.cH, ?_, ?_⟩, hT.below⟩
  · intro j hj
    exact own_cell hK rfl j hj
  · intro j hj
    rw [← wordsH_ini j hj]
    exact own_cell hH rfl j hj
end Go.Proofs.YtkmalggeieiepaaGreatDoor
