import Derived.Test.YtkmalggeieiepabDoorDbA
import Derived.Test.YtkmalggeieiepabDoorRtA
import Derived.WalkKit
import Derived.WalkSpells
import Derived.WalkLawsBesides
import Derived.Deep.MidRow
import Derived.Deep.DeepCutAuto
import Derived.Lib.LazyBuf
import Derived.Stop.BytesEq
import Derived.OwnWalk
namespace Go.Proofs.YtkmalggeieiepabDoor
open Go.RowKit

/-- a text's bytes in memory. -/
def bc (d : ByteArray) : List Value := d.data.toList.map fun x => Value.int .u8 (x.toNat : Int)
theorem bc_length (d : ByteArray) : (bc d).length = d.size := by simp [bc]
theorem bc_one (d : ByteArray) : ∀ u ∈ bc d, u.oneCell' = true := by
  intro u hu; simp [bc] at hu; obtain ⟨x, _, rfl⟩ := hu; rfl
def byF (d : ByteArray) : Nat → Int := fun j => ((d.data.toList.getD j 0).toNat : Int)
theorem byF_lt (d : ByteArray) (j : Nat) : 0 ≤ byF d j ∧ byF d j < 256 := by
  have := (d.data.toList.getD j 0).toNat_lt
  unfold byF; omega
theorem lsz (d : ByteArray) : d.data.toList.length = d.size := rfl
theorem bc_wl (d : ByteArray) (n : Nat) (h : d.size = n) : bc d = wl .u8 (byF d) n := by
  apply List.ext_getElem
  · rw [bc_length, wl_length, h]
  · intro j h1 h2
    rw [bc_length] at h1
    have hj : j < d.data.toList.length := h1
    simp [bc, wl, byF, h1]
theorem strOf_byF (d : ByteArray) (n : Nat) (h : d.size = n) : strOf (byF d) n = d := by
  apply ByteArray.ext
  apply Array.ext'
  show lsOf (byF d) n = d.data.toList
  apply List.ext_getElem
  · simp [lsOf]; exact h.symm
  · intro j h1 h2
    have h3 : j < d.data.size := h2
    simp only [lsOf, byF, List.getD, List.getElem_map, List.getElem_range, List.getElem?_eq_getElem h2, Option.getD_some]
    simp
theorem bc_strOf (f : Nat → Int) (n : Nat) (hf : ∀ j, 0 ≤ f j ∧ f j < 256) : bc (strOf f n) = wl .u8 f n := by
  have e : (strOf f n).data.toList = lsOf f n := rfl
  unfold bc
  rw [e]
  unfold lsOf wl
  rw [List.map_map]
  apply List.map_congr_left
  intro j _
  have := hf j
  simp; omega
/-- a digest as a value. -/
def aggD (d : ByteArray) : Value := .agg (bc d).toArray
/-- the double digest, as a text. -/
def dd (Kc : Nat → Int) (t : ByteArray) : ByteArray := strOf (dbl Kc t.data.toList) 32
theorem dd_size (Kc : Nat → Int) (t : ByteArray) : (dd Kc t).size = 32 := strOf_size _ _

theorem text_d (d : ByteArray) (hd : d.size = 32) (w : World) :
    Calls Tryd.prog 23 #[aggD d] w fun e w' => e = .returned (.string d) ∧ Below w.heap.size w w' := by
  have h := text_any (byF d) (byF_lt d) (bc d).toArray (by show _ = _; rw [bc_wl d 32 hd]) w
  rw [strOf_byF d 32 hd] at h
  exact h
theorem double_two (Kc : Nat → Int) (a b : ByteArray) (w : World) (hkt : KT Kc w) (hs : (a ++ b).size ≤ 1099511627776) :
    Calls Tryd.prog 27 #[.slice (some ⟨w.heap.size, 0, none⟩) 2 2] (w.alloc (.cells #[.string a, .string b] 9)) fun e w' => e = .returned (aggD (dd Kc (a ++ b))) ∧ Below w.heap.size w w' := by
  have hT : Texts (w.alloc (.cells #[.string a, .string b] 9)) w.heap.size [a, b] := by
    intro j hj
    have hj' : j = 0 ∨ j = 1 := by simp at hj; omega
    rcases hj' with rfl | rfl
    · simp [go_sem]
    · simp [go_sem]
  have hc : cat [a, b] = (a ++ b).data.toList := by simp [cat, ByteArray.data_append]
  have hl : (a ++ b).data.toList.length = (a ++ b).size := rfl
  have hpos : 0 < w.heap.size := World.block_lt_of_cell? w _ (hkt 0 (by omega))
  have hcall := double_any Kc [a, b] w.heap.size (w.alloc (.cells #[.string a, .string b] 9)) hT (by simp) (hkt.later ((Below.refl _ _).alloc (Nat.le_refl _) _) hpos) (by rw [hc, hl]; exact hs) (by simp)
  rw [hc] at hcall
  refine hcall.mono fun e w' ⟨h1, h2⟩ => ⟨?_, ?_⟩
  · rw [h1]; unfold aggD dd; rw [bc_strOf (dbl Kc (a ++ b).data.toList) 32 (fun j => shaF_lt Kc _ j)]
  · exact ((Below.refl _ _).alloc (Nat.le_refl _) _).trans (h2.mono (by simp))
theorem sz8 : ∀ w : World, (Go.sizeOf 5).run Tryd.prog w = .ok 1 w := fun _ => by kernel_rfl
theorem eql_d (a b : ByteArray) (ha : a.size = 32) (hb : b.size = 32) (w : World) : (binOp .eql 59 (aggD a) (aggD b)).run Tryd.prog w = .ok (.bool (a.data.toList == b.data.toList)) w :=
  run_eql_bytes w 59 5 32 Tryd.underlying59 Tryd.underlying5 sz8 a.data.toList b.data.toList ha hb

/-- digests in a row. -/
def DRow (w : World) (b o : Nat) (ds : List ByteArray) : Prop := ∀ i (h : i < ds.length), w.rangeAt b (o + 32 * i) (bc ds[i])
theorem DRow.lt {w : World} {b o : Nat} {ds : List ByteArray} (h : DRow w b o ds) (hn : 0 < ds.length) (h32 : ∀ s ∈ ds, s.size = 32) : b < w.heap.size := by
  have hs : (ds[0]).size = 32 := h32 _ (List.getElem_mem hn)
  have hl : 0 < (bc ds[0]).length := by rw [bc_length, hs]; omega
  exact World.block_lt_of_cell? w _ (h 0 hn 0 _ (List.getElem?_eq_getElem hl))
theorem range_later {w w' : World} {b o : Nat} {cs : List Value} {B : Nat} (h : w.rangeAt b o cs) (hb : Below B w w') (hB : b < B) : w'.rangeAt b o cs := fun j v hv => by
  rw [hb.cell (p := ⟨b, o + j, none⟩) hB]; exact h j v hv
theorem DRow.later {w w' : World} {b o : Nat} {ds : List ByteArray} {B : Nat} (h : DRow w b o ds) (hb : Below B w w') (hB : b < B) : DRow w' b o ds := fun i hi => range_later (h i hi) hb hB
theorem DRow.drop {w : World} {b o : Nat} {x y : ByteArray} {ds : List ByteArray} (h : DRow w b o (x :: y :: ds)) : DRow w b (o + 64) ds := fun i hi => by
  have := h (i + 2) (by simp; omega)
  simp only [List.getElem_cons_succ] at this
  rw [show o + 64 + 32 * i = o + 32 * (i + 2) by omega]; exact this
def flatD (ds : List ByteArray) : List Value := (ds.map bc).flatten
theorem flatD_snoc (ds : List ByteArray) (d : ByteArray) : flatD (ds ++ [d]) = flatD ds ++ bc d := by simp [flatD]
theorem flatD_length (ds : List ByteArray) (h32 : ∀ s ∈ ds, s.size = 32) : (flatD ds).length = ds.length * 32 := by
  induction ds with
  | nil => rfl
  | cons d ds ih =>
    have h1 := ih (fun s hs => h32 s (List.mem_cons_of_mem _ hs))
    have h2 : (bc d).length = 32 := by rw [bc_length]; exact h32 d List.mem_cons_self
    show (bc d ++ flatD ds).length = _
    rw [List.length_append, h1, h2, List.length_cons]; omega
theorem flatD_get (ds : List ByteArray) (h32 : ∀ s ∈ ds, s.size = 32) : ∀ i (h : i < ds.length) j v, (bc ds[i])[j]? = some v → (flatD ds)[32 * i + j]? = some v := by
  induction ds with
  | nil => intro i h; simp at h
  | cons d ds ih =>
    intro i h j v hv
    have h2 : (bc d).length = 32 := by rw [bc_length]; exact h32 d List.mem_cons_self
    show (bc d ++ flatD ds)[32 * i + j]? = some v
    cases i with
    | zero =>
      have hj := (List.getElem?_eq_some_iff.1 hv).1
      simp only [List.getElem_cons_zero] at hv hj
      rw [Nat.mul_zero, Nat.zero_add, List.getElem?_append_left hj]; exact hv
    | succ i =>
      simp only [List.getElem_cons_succ] at hv
      rw [List.getElem?_append_right (by omega), h2, show 32 * (i + 1) + j - 32 = 32 * i + j by omega]
      exact ih (fun s hs => h32 s (List.mem_cons_of_mem _ hs)) i (by simpa using h) j v hv
theorem own_drow {w : World} {base e g cap n : Nat} {ds : List ByteArray} (hn : ds.length = n) (h32 : ∀ s ∈ ds, s.size = 32) (h : w.ownsRow base e 32 (.slice (some ⟨g, 0, none⟩) n cap) n (flatD ds)) : DRow w g 0 ds := by
  obtain ⟨_, h2⟩ := h
  rcases h2 with ⟨hv, _⟩ | ⟨g', cap', cur, hv, _, hg, _, _, _, ht⟩
  · cases hv
  · injection hv with e1 e2 e3
    injection e1 with e4
    injection e4 with e5
    subst e5
    intro i hi j v hvv
    rw [cell_of_row w g (0 + 32 * i + j) cur _ _ hg]
    have h4 := flatD_get ds h32 i hi j v hvv
    have h5 := (List.getElem?_eq_some_iff.1 h4).1
    rw [flatD_length ds h32] at h5
    have h3 : (cur.toList.take (n * 32))[32 * i + j]? = (flatD ds)[32 * i + j]? := by rw [ht]
    rw [List.getElem?_take, if_pos (by omega), h4] at h3
    rw [← Array.getElem?_toList, Nat.zero_add]
    exact h3
theorem own_after {w w' : World} {base e size n : Nat} {v : Value} {xs : List Value} (h : w.ownsRow base e size v n xs) (hb : Below w.heap.size w w') : w'.ownsRow base e size v n xs := by
  refine ⟨h.1, ?_⟩
  rcases h.2 with hn | ⟨g, cap, cur, hv, hbg, hg, rest⟩
  · exact .inl hn
  · have hlt : g < w.heap.size := by
      rcases Nat.lt_or_ge g w.heap.size with h1 | h1
      · exact h1
      · rw [Array.getElem?_eq_none h1] at hg; cases hg
    exact .inr ⟨g, cap, cur, hv, hbg, by rw [hb.block g hlt]; exact hg, rest⟩
theorem ownB_ge {w : World} {base e size n : Nat} {v : Value} {xs : List Value} (h : w.ownsRow base e size v n xs) : ∀ k, v.ownBlock = some k → base ≤ k := by
  intro k hk
  rcases h.2 with ⟨rfl, _⟩ | ⟨g, cap, cur, rfl, hb, _⟩
  · simp [Value.ownBlock] at hk
  · simp [Value.ownBlock] at hk; omega
theorem infoDig : (Tryd.prog.info? 59).map (fun i => (i.zero, i.size, i.bytes)) = some (some (.agg (wl .u8 (fun _ => 0) 32).toArray), 32, 32) := by kernel_rfl
theorem sizeDig : (Tryd.prog.info? 59).map (·.size) = some 32 := by kernel_rfl
theorem news_d {w : World} {g : Nat} {d : ByteArray} {T : Nat} (h : w.heap[g]? = some (.cells (bc d).toArray T (0, 0))) : ∀ j u, (bc d)[j]? = some u → w.cell? ((⟨g, 0, none⟩ : Addr).add j) = some u := fun j u hu => World.news_of_block h j u (by simpa using hu)
end Go.Proofs.YtkmalggeieiepabDoor
