import Derived.Test.YtkmalggeieiepabDoorPzc
import Derived.WalkKit
import Derived.WalkSpells
import Derived.WalkLawsBesides
import Derived.Deep.MidRow
import Derived.Deep.DeepCutAuto
import Derived.Lib.LazyBuf
import Derived.Stop.BytesEq
import Derived.OwnWalk
import Derived.Great.BuildSlice
import Derived.OrdersHeld
import Derived.Deep.AppendLies
import Derived.Deep.RegionHeld3
namespace Go.Proofs.YtkmalggeieiepabDoor
open Go.RowKit

/-- a text's bytes in memory. -/
def bc (d : ByteArray) : List Value := d.data.toList.map fun x => Value.int .u8 (x.toNat : Int)
theorem bc_length (d : ByteArray) : (bc d).length = d.size := by simp [bc]
theorem bc_one (d : ByteArray) : ∀ u ∈ bc d, u.oneCell' = true := by
  intro u hu; simp [bc] at hu; obtain ⟨x, _, rfl⟩ := hu; rfl
def byF (d : ByteArray) : Nat → Int := fun j => ((d.data.toList.getD j 0).toNat : Int)
theorem byF_lt (d : ByteArray) (j : Nat) : 0 ≤ byF d j ∧ byF d j < 256 := by
  have := (d.data.toList.getD j 0).toNat_lt
  unfold byF; omega
theorem lsz (d : ByteArray) : d.data.toList.length = d.size := rfl
theorem bc_wl (d : ByteArray) (n : Nat) (h : d.size = n) : bc d = wl .u8 (byF d) n := by
  apply List.ext_getElem
  · rw [bc_length, wl_length, h]
  · intro j h1 h2
    rw [bc_length] at h1
    have hj : j < d.data.toList.length := h1
    simp [bc, wl, byF, h1]
theorem strOf_byF (d : ByteArray) (n : Nat) (h : d.size = n) : strOf (byF d) n = d := by
  apply ByteArray.ext
  apply Array.ext'
  show lsOf (byF d) n = d.data.toList
  apply List.ext_getElem
  · simp [lsOf]; exact h.symm
  · intro j h1 h2
    have h3 : j < d.data.size := h2
    simp only [lsOf, byF, List.getD, List.getElem_map, List.getElem_range, List.getElem?_eq_getElem h2, Option.getD_some]
    simp
theorem bc_strOf (f : Nat → Int) (n : Nat) (hf : ∀ j, 0 ≤ f j ∧ f j < 256) : bc (strOf f n) = wl .u8 f n := by
  have e : (strOf f n).data.toList = lsOf f n := rfl
  unfold bc
  rw [e]
  unfold lsOf wl
  rw [List.map_map]
  apply List.map_congr_left
  intro j _
  have := hf j
  simp; omega
/-- a digest as a value. -/
def aggD (d : ByteArray) : Value := .agg (bc d).toArray
/-- the double digest, as a text. -/
def dd (Kc : Nat → Int) (t : ByteArray) : ByteArray := strOf (dbl Kc t.data.toList) 32
theorem dd_size (Kc : Nat → Int) (t : ByteArray) : (dd Kc t).size = 32 := strOf_size _ _

theorem text_d (d : ByteArray) (hd : d.size = 32) (w : World) :
    Calls Tryd.prog 23 #[aggD d] w fun e w' => e = .returned (.string d) ∧ Below w.heap.size w w' := by
  have h := text_any (byF d) (byF_lt d) (bc d).toArray (by show _ = _; rw [bc_wl d 32 hd]) w
  rw [strOf_byF d 32 hd] at h
  exact h
theorem double_two (Kc : Nat → Int) (a b : ByteArray) (w : World) (hkt : KT Kc w) (hs : (a ++ b).size ≤ 1099511627776) :
    Calls Tryd.prog 27 #[.slice (some ⟨w.heap.size, 0, none⟩) 2 2] (w.alloc (.cells #[.string a, .string b] 9)) fun e w' => e = .returned (aggD (dd Kc (a ++ b))) ∧ Below w.heap.size w w' := by
  have hT : Texts (w.alloc (.cells #[.string a, .string b] 9)) w.heap.size [a, b] := by
    intro j hj
    have hj' : j = 0 ∨ j = 1 := by simp at hj; omega
    rcases hj' with rfl | rfl
    · simp [go_sem]
    · simp [go_sem]
  have hc : cat [a, b] = (a ++ b).data.toList := by simp [cat, ByteArray.data_append]
  have hl : (a ++ b).data.toList.length = (a ++ b).size := rfl
  have hpos : 0 < w.heap.size := World.block_lt_of_cell? w _ (hkt 0 (by omega))
  have hcall := double_any Kc [a, b] w.heap.size (w.alloc (.cells #[.string a, .string b] 9)) hT (by simp) (hkt.later ((Below.refl _ _).alloc (Nat.le_refl _) _) hpos) (by rw [hc, hl]; exact hs) (by simp)
  rw [hc] at hcall
  refine hcall.mono fun e w' ⟨h1, h2⟩ => ⟨?_, ?_⟩
  · rw [h1]; unfold aggD dd; rw [bc_strOf (dbl Kc (a ++ b).data.toList) 32 (fun j => shaF_lt Kc _ j)]
  · exact ((Below.refl _ _).alloc (Nat.le_refl _) _).trans (h2.mono (by simp))
theorem sz8 : ∀ w : World, (Go.sizeOf 5).run Tryd.prog w = .ok 1 w := fun _ => by kernel_rfl
theorem eql_d (a b : ByteArray) (ha : a.size = 32) (hb : b.size = 32) (w : World) : (binOp .eql 59 (aggD a) (aggD b)).run Tryd.prog w = .ok (.bool (a.data.toList == b.data.toList)) w :=
  run_eql_bytes w 59 5 32 Tryd.underlying59 Tryd.underlying5 sz8 a.data.toList b.data.toList ha hb

/-- digests in a row. -/
def DRow (w : World) (b o : Nat) (ds : List ByteArray) : Prop := ∀ i (h : i < ds.length), w.rangeAt b (o + 32 * i) (bc ds[i])
theorem DRow.lt {w : World} {b o : Nat} {ds : List ByteArray} (h : DRow w b o ds) (hn : 0 < ds.length) (h32 : ∀ s ∈ ds, s.size = 32) : b < w.heap.size := by
  have hs : (ds[0]).size = 32 := h32 _ (List.getElem_mem hn)
  have hl : 0 < (bc ds[0]).length := by rw [bc_length, hs]; omega
  exact World.block_lt_of_cell? w _ (h 0 hn 0 _ (List.getElem?_eq_getElem hl))
theorem range_later {w w' : World} {b o : Nat} {cs : List Value} {B : Nat} (h : w.rangeAt b o cs) (hb : Below B w w') (hB : b < B) : w'.rangeAt b o cs := fun j v hv => by
  rw [hb.cell (p := ⟨b, o + j, none⟩) hB]; exact h j v hv
theorem DRow.later {w w' : World} {b o : Nat} {ds : List ByteArray} {B : Nat} (h : DRow w b o ds) (hb : Below B w w') (hB : b < B) : DRow w' b o ds := fun i hi => range_later (h i hi) hb hB
theorem DRow.drop {w : World} {b o : Nat} {x y : ByteArray} {ds : List ByteArray} (h : DRow w b o (x :: y :: ds)) : DRow w b (o + 64) ds := fun i hi => by
  have := h (i + 2) (by simp; omega)
  simp only [List.getElem_cons_succ] at this
  rw [show o + 64 + 32 * i = o + 32 * (i + 2) by omega]; exact this
def flatD (ds : List ByteArray) : List Value := (ds.map bc).flatten
theorem flatD_snoc (ds : List ByteArray) (d : ByteArray) : flatD (ds ++ [d]) = flatD ds ++ bc d := by simp [flatD]
theorem flatD_length (ds : List ByteArray) (h32 : ∀ s ∈ ds, s.size = 32) : (flatD ds).length = ds.length * 32 := by
  induction ds with
  | nil => rfl
  | cons d ds ih =>
    have h1 := ih (fun s hs => h32 s (List.mem_cons_of_mem _ hs))
    have h2 : (bc d).length = 32 := by rw [bc_length]; exact h32 d List.mem_cons_self
    show (bc d ++ flatD ds).length = _
    rw [List.length_append, h1, h2, List.length_cons]; omega
theorem flatD_get (ds : List ByteArray) (h32 : ∀ s ∈ ds, s.size = 32) : ∀ i (h : i < ds.length) j v, (bc ds[i])[j]? = some v → (flatD ds)[32 * i + j]? = some v := by
  induction ds with
  | nil => intro i h; simp at h
  | cons d ds ih =>
    intro i h j v hv
    have h2 : (bc d).length = 32 := by rw [bc_length]; exact h32 d List.mem_cons_self
    show (bc d ++ flatD ds)[32 * i + j]? = some v
    cases i with
    | zero =>
      have hj := (List.getElem?_eq_some_iff.1 hv).1
      simp only [List.getElem_cons_zero] at hv hj
      rw [Nat.mul_zero, Nat.zero_add, List.getElem?_append_left hj]; exact hv
    | succ i =>
      simp only [List.getElem_cons_succ] at hv
      rw [List.getElem?_append_right (by omega), h2, show 32 * (i + 1) + j - 32 = 32 * i + j by omega]
      exact ih (fun s hs => h32 s (List.mem_cons_of_mem _ hs)) i (by simpa using h) j v hv
theorem own_drow {w : World} {base e g cap n : Nat} {ds : List ByteArray} (hn : ds.length = n) (h32 : ∀ s ∈ ds, s.size = 32) (h : w.ownsRow base e 32 (.slice (some ⟨g, 0, none⟩) n cap) n (flatD ds)) : DRow w g 0 ds := by
  obtain ⟨_, h2⟩ := h
  rcases h2 with ⟨hv, _⟩ | ⟨g', cap', cur, hv, _, hg, _, _, _, ht⟩
  · cases hv
  · injection hv with e1 e2 e3
    injection e1 with e4
    injection e4 with e5
    subst e5
    intro i hi j v hvv
    rw [cell_of_row w g (0 + 32 * i + j) cur _ _ hg]
    have h4 := flatD_get ds h32 i hi j v hvv
    have h5 := (List.getElem?_eq_some_iff.1 h4).1
    rw [flatD_length ds h32] at h5
    have h3 : (cur.toList.take (n * 32))[32 * i + j]? = (flatD ds)[32 * i + j]? := by rw [ht]
    rw [List.getElem?_take, if_pos (by omega), h4] at h3
    rw [← Array.getElem?_toList, Nat.zero_add]
    exact h3
theorem own_after {w w' : World} {base e size n : Nat} {v : Value} {xs : List Value} (h : w.ownsRow base e size v n xs) (hb : Below w.heap.size w w') : w'.ownsRow base e size v n xs := by
  refine ⟨h.1, ?_⟩
  rcases h.2 with hn | ⟨g, cap, cur, hv, hbg, hg, rest⟩
  · exact .inl hn
  · have hlt : g < w.heap.size := by
      rcases Nat.lt_or_ge g w.heap.size with h1 | h1
      · exact h1
      · rw [Array.getElem?_eq_none h1] at hg; cases hg
    exact .inr ⟨g, cap, cur, hv, hbg, by rw [hb.block g hlt]; exact hg, rest⟩
theorem ownB_ge {w : World} {base e size n : Nat} {v : Value} {xs : List Value} (h : w.ownsRow base e size v n xs) : ∀ k, v.ownBlock = some k → base ≤ k := by
  intro k hk
  rcases h.2 with ⟨rfl, _⟩ | ⟨g, cap, cur, rfl, hb, _⟩
  · simp [Value.ownBlock] at hk
  · simp [Value.ownBlock] at hk; omega
theorem infoDig : (Tryd.prog.info? 59).map (fun i => (i.zero, i.size, i.bytes)) = some (some (.agg (wl .u8 (fun _ => 0) 32).toArray), 32, 32) := by kernel_rfl
theorem sizeDig : (Tryd.prog.info? 59).map (·.size) = some 32 := by kernel_rfl
theorem news_d {w : World} {g : Nat} {d : ByteArray} {T : Nat} (h : w.heap[g]? = some (.cells (bc d).toArray T (0, 0))) : ∀ j u, (bc d)[j]? = some u → w.cell? ((⟨g, 0, none⟩ : Addr).add j) = some u := fun j u hu => World.news_of_block h j u (by simpa using hu)
end Go.Proofs.YtkmalggeieiepabDoor
namespace Go.Proofs.YtkmalggeieiepabDoor
open Go.RowKit

theorem results_arr2 {P : Program} {fn : Func} {p t : Tmp} {ty : TypeId} (h : fn.results = #[.cell p ty, .tmp t]) (tmps : Array Value) (w : World) (g : Nat) (K : IntKind) (f : Nat → Int) (n : Nat) (d : TypeDesc) (u : Value)
    (hp : tmps.getD p undef = .pointer (some ⟨g, 0, none⟩)) (ht : tmps.getD t undef = u) (hg : Arr K w g f n) (hu : P.underlying ty = some d) (hd : d.isRow = true) (hi : (P.info? ty).map (·.size) = some n) :
    (results fn tmps).run P w = .ok (.tuple #[.agg (wl K f n).toArray, u]) w := by
  have hp' : tmps[p]?.getD undef = .pointer (some ⟨g, 0, none⟩) := by simpa using hp
  have ht' : tmps[t]?.getD undef = u := by simpa using ht
  simp [results, h, hp', ht', asAddr, run_loadVar_mid w g 0 ty (wl K f n) d hg.range hu hd (by rw [wl_length]; exact hi)]

set_option maxRecDepth 10000 in
set_option maxHeartbeats 1000000 in
theorem digestOf_no (s : ByteArray) (w : World) (h : s.size ≠ 32) :
    Calls Tryd.prog 29 #[.string s] w fun e w' => e = .returned (.tuple #[.agg (wl .u8 (fun _ => 0) 32).toArray, .bool false]) ∧ Below w.heap.size w w' := by
  have hi : ¬ ((s.size : Int) = 32) := by omega
  go_enter Tryd.func29, Tryd.ntmps29
  go_upto_region 2 with fail
  obtain ⟨W0, hW0⟩ : ∃ W, W = (w.alloc (.cells #[.int .u8 0, .int .u8 0, .int .u8 0, .int .u8 0, .int .u8 0, .int .u8 0, .int .u8 0, .int .u8 0, .int .u8 0, .int .u8 0, .int .u8 0, .int .u8 0, .int .u8 0, .int .u8 0, .int .u8 0, .int .u8 0, .int .u8 0, .int .u8 0, .int .u8 0, .int .u8 0, .int .u8 0, .int .u8 0, .int .u8 0, .int .u8 0, .int .u8 0, .int .u8 0, .int .u8 0, .int .u8 0, .int .u8 0, .int .u8 0, .int .u8 0, .int .u8 0] 59)).alloc (.cells #[.int .u8 0, .int .u8 0, .int .u8 0, .int .u8 0, .int .u8 0, .int .u8 0, .int .u8 0, .int .u8 0, .int .u8 0, .int .u8 0, .int .u8 0, .int .u8 0, .int .u8 0, .int .u8 0, .int .u8 0, .int .u8 0, .int .u8 0, .int .u8 0, .int .u8 0, .int .u8 0, .int .u8 0, .int .u8 0, .int .u8 0, .int .u8 0, .int .u8 0, .int .u8 0, .int .u8 0, .int .u8 0, .int .u8 0, .int .u8 0, .int .u8 0, .int .u8 0] 59) := ⟨_, rfl⟩
  have HA : Hid (Arr .u8 W0 w.heap.size (fun _ => 0) 32) := by show Arr _ _ _ _ _; rw [hW0]; exact (Arr.new w _ 32 _ _ (by rfl)).alloc (by omega) _
  have HA2 : Hid (Arr .u8 W0 (w.heap.size + 1) (fun _ => 0) 32) := by show Arr _ _ _ _ _; rw [hW0]; exact Arr.newAt _ _ 32 _ _ _ (by rfl) (by simp)
  have HB : Hid (Below w.heap.size w W0) := by show Below _ _ _; rw [hW0]; exact ((Below.refl _ _).alloc (Nat.le_refl _) _).alloc (by simp) _
  rw [← hW0]
  clear hW0
  go_wp2_with (first
    | (refine wpList_load_arr rfl 59 _ rfl (w.heap.size + 1) rfl .u8 (fun _ => 0) 32 _ ?_ Tryd.underlying59 rfl sizeDig ?_; exact HA2.out)
    | (refine wpList_store_arr rfl 59 _ _ rfl w.heap.size .u8 (fun _ => 0) (fun _ => 0) 32 rfl rfl ?_ sizeDig ?_; exact HA.out))
  refine bodyPost_ret (results_arr2 Tryd.results29 _ _ w.heap.size .u8 (fun _ => 0) 32 _ _ rfl rfl (HA.out.all _) Tryd.underlying59 rfl sizeDig) rfl ⟨rfl, ?_⟩
  exact below_setCells HB.out _ (Nat.le_refl _) _ _

set_option maxRecDepth 10000 in
set_option maxHeartbeats 1000000 in
theorem digestOf_ok (s : ByteArray) (w : World) (h : s.size = 32) :
    Calls Tryd.prog 29 #[.string s] w fun e w' => e = .returned (.tuple #[aggD s, .bool true]) ∧ Below w.heap.size w w' := by
  have hi : ((s.size : Int) = 32) := by omega
  have HE : Hid (aggD s = .agg (wl .u8 (byF s) 32).toArray) := by show _ = _; unfold aggD; rw [bc_wl s 32 h]
  rw [HE.out]
  clear HE
  go_enter Tryd.func29, Tryd.ntmps29
  go_upto_region 2 with fail
  obtain ⟨W0, hW0⟩ : ∃ W, W = (w.alloc (.cells #[.int .u8 0, .int .u8 0, .int .u8 0, .int .u8 0, .int .u8 0, .int .u8 0, .int .u8 0, .int .u8 0, .int .u8 0, .int .u8 0, .int .u8 0, .int .u8 0, .int .u8 0, .int .u8 0, .int .u8 0, .int .u8 0, .int .u8 0, .int .u8 0, .int .u8 0, .int .u8 0, .int .u8 0, .int .u8 0, .int .u8 0, .int .u8 0, .int .u8 0, .int .u8 0, .int .u8 0, .int .u8 0, .int .u8 0, .int .u8 0, .int .u8 0, .int .u8 0] 59)).alloc (.cells #[.int .u8 0, .int .u8 0, .int .u8 0, .int .u8 0, .int .u8 0, .int .u8 0, .int .u8 0, .int .u8 0, .int .u8 0, .int .u8 0, .int .u8 0, .int .u8 0, .int .u8 0, .int .u8 0, .int .u8 0, .int .u8 0, .int .u8 0, .int .u8 0, .int .u8 0, .int .u8 0, .int .u8 0, .int .u8 0, .int .u8 0, .int .u8 0, .int .u8 0, .int .u8 0, .int .u8 0, .int .u8 0, .int .u8 0, .int .u8 0, .int .u8 0, .int .u8 0] 59) := ⟨_, rfl⟩
  have HA : Hid (Arr .u8 W0 w.heap.size (fun _ => 0) 32) := by show Arr _ _ _ _ _; rw [hW0]; exact (Arr.new w _ 32 _ _ (by rfl)).alloc (by omega) _
  have HA2 : Hid (Arr .u8 W0 (w.heap.size + 1) (fun _ => 0) 32) := by show Arr _ _ _ _ _; rw [hW0]; exact Arr.newAt _ _ 32 _ _ _ (by rfl) (by simp)
  have HB : Hid (Below w.heap.size w W0) := by show Below _ _ _; rw [hW0]; exact ((Below.refl _ _).alloc (Nat.le_refl _) _).alloc (by simp) _
  rw [← hW0]
  clear hW0
  have HA3 : Hid (Arr .u8 (W0.setCells (w.heap.size + 1) 0 (bc s)) (w.heap.size + 1) (byF s) 32) := by
    show Arr _ _ _ _ _; rw [bc_wl s 32 h]; exact HA2.out.all _
  have HA4 : Hid (Arr .u8 (W0.setCells (w.heap.size + 1) 0 (bc s)) w.heap.size (fun _ => 0) 32) := HA.out.setsFar _ _ (by omega)
  have HB2 : Hid (Below w.heap.size w (W0.setCells (w.heap.size + 1) 0 (bc s))) := below_setCells HB.out _ (by omega) _ _
  have HC : Hid (∀ j, j < s.size → (W0.cell? ⟨w.heap.size + 1, 0 + j, none⟩).isSome = true) := fun j hj => by rw [Nat.zero_add, (HA2.out j (by omega)).1]; rfl
  have HF : Hid (∀ j, j < s.size → W0.frozen? ⟨w.heap.size + 1, 0 + j, none⟩ = false) := fun j hj => by rw [Nat.zero_add]; exact (HA2.out j (by omega)).2
  have hcp : (Builtin.copy_ #[23, 9] 3 #[.slice (some ⟨w.heap.size + 1, 0, none⟩) 32 32, .string s]).run Tryd.prog W0 = .ok (.int .i64 32) (W0.setCells (w.heap.size + 1) 0 (bc s)) := by
    rw [run_copy_string W0 23 9 3 5 (w.heap.size + 1) 0 32 32 s Tryd.underlying23 sz8 (by omega) HC.out HF.out, h]; rfl
  generalize W0.setCells (w.heap.size + 1) 0 (bc s) = W1 at HA3 HA4 HB2 hcp
  clear HA HA2 HB HC HF
  go_upto_region 4 with fail
  go_wp2_with (first
    | (refine wpList_load_arr rfl 59 _ rfl (w.heap.size + 1) rfl .u8 (byF s) 32 _ ?_ Tryd.underlying59 rfl sizeDig ?_; exact HA3.out)
    | (refine wpList_store_arr rfl 59 _ _ rfl w.heap.size .u8 (fun _ => 0) (byF s) 32 rfl rfl ?_ sizeDig ?_; exact HA4.out))
  refine bodyPost_ret (results_arr2 Tryd.results29 _ _ w.heap.size .u8 (byF s) 32 _ _ rfl rfl (HA4.out.all _) Tryd.underlying59 rfl sizeDig) rfl ⟨rfl, ?_⟩
  exact below_setCells HB2.out _ (Nat.le_refl _) _ _
end Go.Proofs.YtkmalggeieiepabDoor
namespace Go.Proofs.YtkmalggeieiepabDoor
open Go.RowKit

theorem fold_set : ∀ (l pre post : List Value), post.length = l.length → List.foldl (fun (cs : Array Value) (x : Value × Nat) => cs.setIfInBounds x.2 x.1) (pre ++ post).toArray (l.zipIdx pre.length) = (pre ++ l).toArray := by
  intro l
  induction l with
  | nil => intro pre post h; cases post with
    | nil => rfl
    | cons _ _ => simp at h
  | cons v l ih =>
    intro pre post h
    cases post with
    | nil => simp at h
    | cons u post =>
      have h2 := ih (pre ++ [v]) post (by simpa using h)
      rw [List.length_append, List.length_singleton] at h2
      rw [List.zipIdx_cons, List.foldl_cons]
      have e : (pre ++ u :: post).toArray.setIfInBounds pre.length v = (pre ++ [v] ++ post).toArray := by simp
      rw [e, h2]; simp
theorem build_d (d : ByteArray) (hd : d.size = 32) (w : World) : (Instr.buildSlice 72 1 #[(0, aggD d)]).run Tryd.prog w = .ok (.slice (some ⟨w.heap.size, 0, none⟩) 1 1) (w.alloc (.cells (bc d).toArray 59)) := by
  obtain ⟨i0, hi, hz0, hz1, hz2⟩ := info_parts infoDig
  have hl : (bc d).length = 32 := by rw [bc_length, hd]
  refine run_buildSlice w 72 59 1 _ _ i0 _ Tryd.underlying72 hi hz0 (by rw [hz1]; omega) (by rw [hz1]; omega) ?_
  rw [hz1]
  have h := fold_set (bc d) [] (wl .u8 (fun _ => 0) 32) (by rw [hl, wl_length])
  have e1 : (aggD d).cells = (bc d).toArray := rfl
  have e2 : ((Array.range (1 * 32)).map fun x => (Value.agg (wl IntKind.u8 (fun _ => 0) 32).toArray).cells[x % (Value.agg (wl IntKind.u8 (fun _ => 0) 32).toArray).cells.size]!) = (wl .u8 (fun _ => 0) 32).toArray := by kernel_rfl
  simp only [e2]
  simp [Instr.fill, e1, hl]
  exact ⟨by rw [wl_length]; omega, by simpa using h⟩

theorem run_build_d {ρ : Operand → Value} {o : Oper} {k : Nat} (d : ByteArray) (hd : d.size = 32) (W : World) (ho : o.op = .buildSlice 72 1 #[(0, .tmp k)]) (e1 : ρ (.tmp k) = aggD d) :
    (execOp ρ o).run Tryd.prog W = .ok (.value (.slice (some ⟨W.heap.size, 0, none⟩) 1 1)) (W.alloc (.cells (bc d).toArray 59)) := by
  unfold execOp
  simp only [ho, Sem.run_bind, List.map_toArray, List.map_cons, List.map_nil, e1, build_d d hd W, Result.andThen_ok]
  rfl
theorem q_wanted {o : Oper} {ops : Array Oper} {A : Act} (j d : Nat) (b : Bool) (hg : o.guard = some (j, b)) (hd : (ops[j]?).bind (·.dst) = some d) (hlt : d < A.tmps.size) (hv : A.eval (.tmp d) = .bool b) : Region.wanted o (yielded ops A.tmps) = true := by
  have h2 : A.tmps[d]? = some (.bool b) := by
    simp [Act.eval] at hv
    rw [Array.getElem?_eq_getElem hlt] at hv ⊢
    simpa using hv
  simp [Region.wanted, hg, yielded, hd, h2]
/-- the one operation that may come up yields a value: S held. -/
theorem qH_one {P : Program} {md : Region.Mode} {ops : Array Oper} {Q : Exit → Act → World → Prop} {S : World → Prop} {fuel : Nat} {listed : Array Bool} {a : Act} {w : World} (i : Nat) {o : Oper} (v : Value) (w' : World) (hr : Region.ready md ops listed = [i]) (hi : ops[i]? = some o) (hg : o.guard = none)
    (h : (execOp a.eval o).run P w = .ok (.value v) w') (hS : S w') (hk : wpAnyH P md ops Q S fuel (listed.setIfInBounds i true) (a.put o.dst v) w') : wpAnyH P md ops Q S (fuel + 1) listed a w := by
  refine wpAnyH_ready hr (by simp) (AllReadyH.cons hi (fun K hK => ?_) AllReadyH.nil)
  have hw : Region.wanted o (yielded ops a.tmps) = true := by simp [Region.wanted, hg]
  rw [if_pos hw]
  unfold Oper.wp; rw [h]; exact hK.out _ _ hS (fun _ => hk)
theorem qH_step {P : Program} {ops : Array Oper} {o : Oper} {a : Act} {w : World} {K : Act → World → Prop} {Q : Exit → Act → World → Prop} {E : Prop} (f : FuncId) (args : Array Value) (R : Value → World → Prop) (hg : o.guard = none)
    (h : (execOp a.eval o).run P w = .ok (.enter f args) w) (hc : Calls P f args w fun e w' => ∃ v, e = .returned v ∧ R v w') (hk : ∀ v w', R v w' → K (a.put o.dst v) w') :
    if Region.wanted o (yielded ops a.tmps) = true then Oper.wp P o a w K Q else E := by
  have hw : Region.wanted o (yielded ops a.tmps) = true := by simp [Region.wanted, hg]
  rw [if_pos hw]
  unfold Oper.wp; rw [h]
  show Calls _ _ _ _ _
  refine hc.mono fun x w' hx => ?_
  obtain ⟨v, rfl, hR⟩ := hx
  exact hk v w' hR
/-- .. a call. -/
theorem qH_call {P : Program} {md : Region.Mode} {ops : Array Oper} {Q : Exit → Act → World → Prop} {S : World → Prop} {fuel : Nat} {listed : Array Bool} {a : Act} {w : World} (i : Nat) {o : Oper} (f : FuncId) (args : Array Value) (R : Value → World → Prop) (hr : Region.ready md ops listed = [i]) (hi : ops[i]? = some o) (hg : o.guard = none)
    (h : (execOp a.eval o).run P w = .ok (.enter f args) w) (hc : Calls P f args w fun e w' => ∃ v, e = .returned v ∧ R v w')
    (hk : ∀ v w', R v w' → S w' ∧ wpAnyH P md ops Q S fuel (listed.setIfInBounds i true) (a.put o.dst v) w') : wpAnyH P md ops Q S (fuel + 1) listed a w := by
  refine wpAnyH_ready hr (by simp) (AllReadyH.cons hi (fun K hK => ?_) AllReadyH.nil)
  exact qH_step f args R hg h hc (fun v w' hR => hK.out _ _ (hk v w' hR).1 (fun _ => (hk v w' hR).2))
/-- two calls, either first. -/
theorem qH_calls {P : Program} {md : Region.Mode} {ops : Array Oper} {Q : Exit → Act → World → Prop} {S : World → Prop} {fuel : Nat} {listed : Array Bool} {a : Act} {w : World} (i j : Nat) {o p : Oper} (f f' : FuncId) (args args' : Array Value) (R R' : Value → World → Prop) (hr : Region.ready md ops listed = [i, j]) (hi : ops[i]? = some o) (hg : o.guard = none) (hj : ops[j]? = some p) (hgj : p.guard = none)
    (h : (execOp a.eval o).run P w = .ok (.enter f args) w) (h' : (execOp a.eval p).run P w = .ok (.enter f' args') w)
    (hc : Calls P f args w fun e w' => ∃ v, e = .returned v ∧ R v w') (hc' : Calls P f' args' w fun e w' => ∃ v, e = .returned v ∧ R' v w')
    (hk : ∀ v w', R v w' → S w' ∧ wpAnyH P md ops Q S fuel (listed.setIfInBounds i true) (a.put o.dst v) w')
    (hk' : ∀ v w', R' v w' → S w' ∧ wpAnyH P md ops Q S fuel (listed.setIfInBounds j true) (a.put p.dst v) w') : wpAnyH P md ops Q S (fuel + 1) listed a w := by
  refine wpAnyH_ready hr (by simp) (AllReadyH.cons hi (fun K hK => ?_) (AllReadyH.cons hj (fun K hK => ?_) AllReadyH.nil))
  · exact qH_step f args R hg h hc (fun v w' hR => hK.out _ _ (hk v w' hR).1 (fun _ => (hk v w' hR).2))
  · exact qH_step f' args' R' hgj h' hc' (fun v w' hR => hK.out _ _ (hk' v w' hR).1 (fun _ => (hk' v w' hR).2))
set_option linter.unusedVariables false in
theorem calls_val {P : Program} {f : FuncId} {args : Array Value} {w : World} {v : Value} {R : World → Prop} (h : Calls P f args w fun e w' => e = .returned v ∧ R w') : Calls P f args w fun e w' => ∃ u, e = .returned u ∧ u = v ∧ R w' := h.mono fun e w' ⟨h1, h2⟩ => ⟨v, h1, rfl, h2⟩
theorem sizes_append (a b : ByteArray) (ha : a.size = 32) (hb : b.size = 32) : (a ++ b).size = 64 := by rw [ByteArray.size_append]; omega
theorem evL_cons2 (a b : ByteArray) (r : List ByteArray) : evL (a :: b :: r) = a :: b :: evL r := by
  unfold evL
  by_cases h : r.length % 2 = 1
  · rw [if_pos (by simp; omega), if_pos h]
    have h0 : 0 < r.length := by omega
    have e : (a :: b :: r).getD ((a :: b :: r).length - 1) ByteArray.empty = r.getD (r.length - 1) ByteArray.empty := by
      rw [show (a :: b :: r).length - 1 = (r.length - 1) + 1 + 1 by simp; omega]
      rfl
    rw [e]; rfl
  · rw [if_neg (by simp; omega), if_neg h]
theorem upev_cons2 (d : ByteArray → ByteArray) (a b : ByteArray) (r : List ByteArray) : upL d (evL (a :: b :: r)) = d (a ++ b) :: upL d (evL r) := by rw [evL_cons2]; rfl
theorem upev_one (d : ByteArray → ByteArray) (a : ByteArray) : upL d (evL [a]) = [d (a ++ a)] := rfl
theorem upev_nil (d : ByteArray → ByteArray) : upL d (evL []) = [] := rfl
theorem toL (s : ByteArray) : s.toList = s.data.toList := by obtain ⟨⟨l⟩⟩ := s; simp
end Go.Proofs.YtkmalggeieiepabDoor
