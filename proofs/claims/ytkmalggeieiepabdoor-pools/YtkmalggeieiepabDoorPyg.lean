import Derived.Test.YtkmalggeieiepabDoorPyb
import Derived.Test.YtkmalggeieiepabDoorPyd
import Derived.Test.YtkmalggeieiepabDoorPyf
import Derived.Deep.Upon
import Derived.Deep.AppendLies
import Derived.WalkKit
import Derived.WalkSpells
import Derived.WalkLawsBesides
import Derived.Deep.LoopGhost
import Derived.Deep.DeepCutAuto
import Derived.Deep.CutBlock
import Derived.OrdersHeld
import Derived.Deep.RegionHeld3
import Derived.Test.YtkmalggeieiepabDoorRows
import Derived.Test.YtkmalggeieiepabDoorTie
import Derived.Test.YtkmalggeieiepabDoorCards
import Derived.ProofKit
import Derived.OpenShut
import Derived.LaidMore
import Derived.Lib.LaidTab
import Derived.ChangeOld
import Derived.ChangeSlices
import Derived.Below
import Derived.SevenTiedAt
namespace Go.Proofs.YtkmalggeieiepabDoor
open Go.RowKit

/-- a slice of these texts. -/
def SVal (w : World) (v : Value) (l : List ByteArray) : Prop := ∃ (a : Option Addr) (cap : Nat), v = .slice a l.length cap ∧ l.length ≤ cap ∧ (0 < l.length → ∃ b o, a = some ⟨b, o, none⟩ ∧ SRow w b o l)
theorem SVal.later {w w' : World} {v : Value} {l : List ByteArray} (h : SVal w v l) (hb : Below w.heap.size w w') : SVal w' v l := by
  obtain ⟨a, cap, hv, hc, hr⟩ := h
  refine ⟨a, cap, hv, hc, fun h0 => ?_⟩
  obtain ⟨b, o, ha, hs⟩ := hr h0
  exact ⟨b, o, ha, hs.later hb (hs.lt h0)⟩
theorem own_sval {w : World} {base e : Nat} {v : Value} {l : List ByteArray} (h : w.ownsRow base e 1 v l.length (strV l)) : SVal w v l := by
  have h' := h
  rcases h.2 with ⟨hv, h0⟩ | ⟨g, cap, cur, hv, _, _, hle, _⟩
  · exact ⟨none, 0, by rw [hv, h0], by omega, fun h1 => by omega⟩
  · subst hv
    exact ⟨_, cap, rfl, hle, fun _ => ⟨g, 0, rfl, own_srow rfl h'⟩⟩

end Go.Proofs.YtkmalggeieiepabDoor
set_option linter.unusedVariables false
namespace Go.Proofs.YtkmalggeieiepabDoor
open Go.RowKit Go.Sort

theorem own_stay2 {W W' : World} {base e size n : Nat} {v : Value} {xs : List Value} (h : W.ownsRow base e size v n xs) (hb : ∀ b, v.ownBlock = some b → W'.heap[b]? = W.heap[b]?) : W'.ownsRow base e size v n xs := by
  refine ⟨h.1, ?_⟩
  rcases h.2 with h1 | ⟨g, cap, cur, rfl, h2, h3, h4⟩
  · exact .inl h1
  · exact .inr ⟨g, cap, cur, rfl, h2, (hb g rfl).trans h3, h4⟩
theorem own_low {W : World} {base base' e size n : Nat} {v : Value} {xs : List Value} (h : W.ownsRow base e size v n xs) (hb : base' ≤ base) : W.ownsRow base' e size v n xs := by
  refine ⟨h.1, ?_⟩
  rcases h.2 with h1 | ⟨g, cap, cur, rfl, h2, h3, h4⟩
  · exact .inl h1
  · exact .inr ⟨g, cap, cur, rfl, Nat.le_trans hb h2, h3, h4⟩
theorem own_lt {W : World} {base e size n : Nat} {v : Value} {xs : List Value} (h : W.ownsRow base e size v n xs) : ∀ b, v.ownBlock = some b → base ≤ b ∧ b < W.heap.size := by
  intro b hb
  rcases h.2 with ⟨hv, _⟩ | ⟨g, cap, cur, hv, h1, h2, _⟩
  · rw [hv] at hb; cases hb
  · rw [hv] at hb
    injection hb with hb
    subst hb
    exact ⟨h1, (Array.getElem?_eq_some_iff.1 h2).1⟩
/-- a receiver's pool, and the list that is kept of it beside. -/
structure Pst (W0 W : World) (gx : Nat) (lp lr : List ByteArray) (tv : Value) : Prop where
  bel : Below W0.heap.size W0 W
  ge : W0.heap.size ≤ gx
  pool : ∃ mb, PoolAt W gx mb lp ∧ ∀ b, mb = some b → W0.heap.size ≤ b ∧ tv.ownBlock ≠ some b
  row : W.ownsRow W0.heap.size 9 1 tv lr.length (strV lr)
  ne : tv.ownBlock ≠ some gx
section
variable {W0 W W' : World} {gx : Nat} {lp lr : List ByteArray} {tv : Value}
theorem Pst.keep (h : Pst W0 W gx lp lr tv) (hb : Below W.heap.size W W') : Pst W0 W' gx lp lr tv := by
  obtain ⟨mb, h1, h2⟩ := h.pool
  exact ⟨h.bel.trans (hb.mono h.bel.size), h.ge, ⟨mb, h1.later hb, h2⟩, own_after h.row hb, h.ne⟩
theorem Pst.perm (h : Pst W0 W gx lp lr tv) {l : List ByteArray} (hp : lp.Perm l) : Pst W0 W gx l lr tv := by
  obtain ⟨mb, h1, h2⟩ := h.pool
  exact ⟨h.bel, h.ge, ⟨mb, h1.perm hp, h2⟩, h.row, h.ne⟩
theorem Pst.nodup (h : Pst W0 W gx lp lr tv) : lp.Nodup := by
  obtain ⟨mb, h1, _⟩ := h.pool
  exact h1.nodup
theorem Pst.all (h : Pst W0 W gx lp lr tv) : ∀ d ∈ lp, d.size = 32 := by
  obtain ⟨mb, h1, _⟩ := h.pool
  exact h1.all
/-- the pool has turned, and nothing else. -/
theorem Pst.turn (h : Pst W0 W gx lp lr tv) {mb mb' : Option Nat} {l : List ByteArray} (h2 : ∀ b, mb = some b → W0.heap.size ≤ b ∧ tv.ownBlock ≠ some b) (hP : PoolAt W' gx mb' l) (hO : Only gx mb W W') (hm : mb' = mb ∨ ∃ b, mb' = some b ∧ W.heap.size ≤ b) : Pst W0 W' gx l lr tv := by
  refine ⟨?_, h.ge, ⟨mb', hP, fun b hb => ?_⟩, own_stay2 h.row fun b hb => ?_, h.ne⟩
  · refine h.bel.trans ⟨hO.os, hO.tape, hO.output, hO.size, fun k hk => hO.block k (Nat.lt_of_lt_of_le hk h.bel.size) (fun e => by have := h.ge; omega) (fun e => by have := (h2 k e.symm).1; omega)⟩
  · rcases hm with hm | ⟨b', hm, hs⟩
    · exact h2 b (hm ▸ hb)
    · rw [hm] at hb
      injection hb with hb
      subst hb
      exact ⟨Nat.le_trans h.bel.size hs, fun e => by have := (own_lt h.row _ e).2; omega⟩
  · have hl := (own_lt h.row b hb).2
    exact hO.block b hl (fun e => h.ne (e ▸ hb)) (fun e => (h2 b e.symm).2 hb)
theorem Pst.add (h : Pst W0 W gx lp lr tv) (Kc : Nat → Int) (hkt : KT Kc W) (s d : ByteArray) (hm : s.size ≤ maxLen) (h0 : txErr s.data.toList = 0) (hd : d = dd Kc s) (hl : lp.length ≤ 20) (r : Int) (L : List ByteArray)
    (HR : (mem d lp = true ∧ r = 10 ∧ L = lp) ∨ (mem d lp = false ∧ 20 ≤ lp.length ∧ r = 9 ∧ L = lp) ∨ (mem d lp = false ∧ lp.length < 20 ∧ r = 0 ∧ L = d :: lp)) :
    Calls Tryd.prog 13 #[.pointer (some ⟨gx, 0, none⟩), .string s] W fun e w' => e = .returned (.int .i64 r) ∧ Pst W0 w' gx L lr tv := by
  obtain ⟨mb, h1, h2⟩ := h.pool
  refine (padd_yes Kc s d W gx mb lp h1 hkt hm h0 hd hl r L HR).mono fun e w' hx => ?_
  obtain ⟨e1, mb', e2, e3, e4⟩ := hx
  exact ⟨e1, h.turn h2 e2 e3 e4⟩
theorem Pst.drop (h : Pst W0 W gx lp lr tv) (d : ByteArray) (hd : d.size = 32) :
    Calls Tryd.prog 15 #[.pointer (some ⟨gx, 0, none⟩), .string d] W fun e w' => e = .returned (.bool (mem d lp)) ∧ Pst W0 w' gx (del d lp) lr tv := by
  obtain ⟨mb, h1, h2⟩ := h.pool
  refine (pdrop_yes d W gx mb lp h1 hd).mono fun e w' hx => ?_
  obtain ⟨e1, e2, e3⟩ := hx
  exact ⟨e1, h.turn h2 e2 e3 (.inl rfl)⟩
/-- digests, rising, as texts. -/
def idl (l : List ByteArray) : List ByteArray := (sortD l).map ofL
theorem idl_len (l : List ByteArray) : (idl l).length = l.length := by simp [idl, sortD]
theorem idl_mem (l : List ByteArray) (d : ByteArray) (h : d ∈ idl l) : d ∈ l := by
  obtain ⟨x, hx, rfl⟩ := List.mem_map.1 h
  have h1 := List.mem_mergeSort.1 hx
  obtain ⟨e, he, rfl⟩ := List.mem_map.1 h1
  rw [ofL_of]; exact he
theorem idl_rise (l : List ByteArray) (hn : l.Nodup) : (idl l).Pairwise fun a b => a.data.toList < b.data.toList := by
  have tr : ∀ a b c : List UInt8, decide (a ≤ b) = true → decide (b ≤ c) = true → decide (a ≤ c) = true := fun a b c h1 h2 => by simp only [decide_eq_true_eq] at *; exact List.le_trans h1 h2
  have tot : ∀ a b : List UInt8, (decide (a ≤ b) || decide (b ≤ a)) = true := fun a b => by simp only [Bool.or_eq_true, decide_eq_true_eq]; exact List.le_total a b
  have h1 : (sortD l).Pairwise fun a b => decide (a ≤ b) = true := List.pairwise_mergeSort tr tot _
  have h2 : (sortD l).Nodup := by
    refine (List.mergeSort_perm _ _).nodup_iff.2 ?_
    exact List.pairwise_map.2 (hn.imp fun {a b} hab e => hab (ba_eq e))
  have h3 : (sortD l).Pairwise fun a b => a < b := (h1.and h2).imp fun {a b} hab => by
    rcases List.le_iff_lt_or_eq.1 (of_decide_eq_true hab.1) with h | h
    · exact h
    · exact absurd h hab.2
  exact List.pairwise_map.2 h3
theorem Pst.ids (h : Pst W0 W gx lp lr tv) (hl : lp.length ≤ 20) :
    Calls Tryd.prog 16 #[.pointer (some ⟨gx, 0, none⟩)] W fun e w' => ∃ g cap : Nat, e = .returned (.slice (some ⟨g, 0, none⟩) lp.length cap) ∧ SRow w' g 0 (idl lp) ∧ Pst W0 w' gx lp lr tv := by
  obtain ⟨mb, h1, h2⟩ := h.pool
  refine (pids_any W gx mb lp h1 hl).mono fun e w' hx => ?_
  obtain ⟨g, cap, e1, e2, e3⟩ := hx
  have e4 : (sortD lp).map encStr = strV (idl lp) := by
    unfold strV idl
    rw [List.map_map]
    rfl
  rw [e4] at e2
  exact ⟨g, cap, e1, own_srow (idl_len lp) e2, h.keep e3⟩
/-- one more in the list beside. -/
theorem Pst.app (h : Pst W0 W gx lp lr tv) {tv' : Value} {lr' : List ByteArray} (hg : W.grownBy W' tv.ownBlock) (ho : W'.ownsRow W0.heap.size 9 1 tv' lr'.length (strV lr')) (ht : tv'.ownBlock = tv.ownBlock ∨ ∃ g, tv'.ownBlock = some g ∧ W.heap.size ≤ g) : Pst W0 W' gx lp lr' tv' := by
  obtain ⟨mb, h1, h2⟩ := h.pool
  have hgx := h1.lt
  refine ⟨h.bel.grown hg h.bel.size (ownB_ge h.row), h.ge, ⟨mb, h1.stay (hg.block gx hgx (fun e => h.ne e.symm)) (fun b hb => hg.block b (h1.bsome b hb).1 (fun e => (h2 b hb).2 e.symm)), fun b hb => ⟨(h2 b hb).1, ?_⟩⟩, ho, ?_⟩
  · rcases ht with ht | ⟨g, ht, hs⟩
    · rw [ht]; exact (h2 b hb).2
    · rw [ht]; intro e; injection e with e; have := (h1.bsome b hb).1; omega
  · rcases ht with ht | ⟨g, ht, hs⟩
    · rw [ht]; exact h.ne
    · rw [ht]; intro e; injection e with e; omega
/-- another list beside, of new memory. -/
theorem Pst.fresh (h : Pst W0 W gx lp lr tv) {tv' : Value} {lr' : List ByteArray} (hb : Below W.heap.size W W') (ho : W'.ownsRow W.heap.size 9 1 tv' lr'.length (strV lr')) : Pst W0 W' gx lp lr' tv' := by
  obtain ⟨mb, h1, h2⟩ := h.pool
  refine ⟨h.bel.trans (hb.mono h.bel.size), h.ge, ⟨mb, h1.later hb, fun b hb' => ⟨(h2 b hb').1, fun e => ?_⟩⟩, own_low ho h.bel.size, fun e => ?_⟩
  · have := (own_lt ho b e).1
    have := (h1.bsome b hb').1
    omega
  · have := (own_lt ho gx e).1
    have := h1.lt
    omega
end
theorem del_at : ∀ (l : List ByteArray) (i : Nat) (d : ByteArray), l.Nodup → l[i]? = some d → del d l = l.take i ++ l.drop (i + 1)
  | [], i, d, _, h => by simp at h
  | x :: l, 0, d, hn, h => by
    obtain rfl : x = d := by simpa using h
    have hx : x ∉ l := (List.nodup_cons.1 hn).1
    show List.filter _ (x :: l) = _
    rw [List.filter_cons]
    simp only [BEq.rfl, Bool.not_true, Bool.false_eq_true, if_false, List.take_zero, List.nil_append, List.drop_succ_cons, List.drop_zero]
    exact del_out hx
  | x :: l, i + 1, d, hn, h => by
    have h' : l[i]? = some d := by simpa using h
    have hx : x ≠ d := fun e => (List.nodup_cons.1 hn).1 (e ▸ List.mem_of_getElem? h')
    have ih := del_at l i d (List.nodup_cons.1 hn).2 h'
    show List.filter _ (x :: l) = _
    rw [List.filter_cons]
    have hb : (x.data.toList == d.data.toList) = false := by
      rw [Bool.eq_false_iff]; exact fun e => hx ((ba_beq x d).1 e)
    rw [hb]
    simp only [Bool.not_false, if_true, List.take_succ_cons, List.drop_succ_cons, List.cons_append]
    exact congrArg _ ih
theorem mem_take (d : ByteArray) (l : List ByteArray) (j : Nat) (h : j < l.length) : mem d (l.take (j + 1)) = (mem d (l.take j) || (l[j].data.toList == d.data.toList)) := by
  unfold mem
  rw [List.take_succ_eq_append_getElem h, List.any_append]
  simp
/-- ints lie in a row. -/
def IRow (w : World) (b o : Nat) (l : List Int) : Prop := ∀ j x, l[j]? = some x → w.cell? ⟨b, o + j, none⟩ = some (.int .i64 x)
def InR (l : List Int) : Prop := ∀ x ∈ l, -9223372036854775808 ≤ x ∧ x ≤ 9223372036854775807

/-- texts appended to a row of the call's own, few or none: in a region that draws. -/
theorem step_append_sval {w : World} {ops : Array Oper} {o : Oper} {a : Act} {K : Act → World → Prop} {Q : Exit → Act → World → Prop} {E : Prop} (hgd : o.guard = none) (s x : Operand)
    (ho : o.op = .call { callee := .builtin .append, args := #[s, x], argTypes := #[30, 30] })
    (base : Nat) (v : Value) (xs : List ByteArray) (hs : a.eval s = v) (hown : w.ownsRow base 9 1 v xs.length (strV xs))
    (xv : Value) (ys : List ByteArray) (hx : a.eval x = xv) (hv : SVal w xv ys) (hb : base ≤ w.heap.size) (hn : xs.length + ys.length ≤ 1048576)
    (h : ∀ u w', w'.ownsRow base 9 1 u (xs ++ ys).length (strV (xs ++ ys)) → Below base w w' → K (a.put o.dst u) w') : if Region.wanted o (yielded ops a.tmps) = true then Oper.wp Tryd.prog o a w K Q else E := by
  obtain ⟨i0, hi, hz0, hz1, hz2⟩ := info_parts infoStr
  obtain ⟨ao, cap, rfl, _, hr⟩ := hv
  by_cases h0 : 0 < ys.length
  · obtain ⟨b, off, rfl, hrow⟩ := hr h0
    refine step_append_lies _ hgd s x 30 ho base 9 i0 (.string ByteArray.empty) 1 16 Tryd.underlying30 hi hz0 hz1 hz2 rfl (by decide) v xs.length (strV xs) hs hown ⟨b, off, none⟩ ys.length cap (strV ys) hx (by simp [strV]) (srow_news hrow) (str_one _) h0 (by unfold maxLen; omega) (by omega) hb _ rfl ?_
    intro g c w' h1 h2 _ _
    refine h _ w' ?_ ((Below.refl base w).grown h2 hb (ownB_ge hown))
    rw [List.length_append, show strV (xs ++ ys) = strV xs ++ strV ys by simp [strV]]; exact h1
  · have hy : ys = [] := List.eq_nil_of_length_eq_zero (by omega)
    subst hy
    obtain ⟨g', n', c', hv', hle⟩ : ∃ g n c, v = .slice g n c ∧ n ≤ c := by
      rcases hown.2 with ⟨hv, _⟩ | ⟨g, cap, cur, hv, _, _, hle, _⟩
      · exact ⟨_, _, _, hv, Nat.le_refl _⟩
      · exact ⟨_, _, _, hv, hle⟩
    have hsrc : Src Tryd.prog i0.size 30 (.slice ao ([] : List ByteArray).length cap) 0 [] w := by
      cases ao with
      | none => exact Src.ofNil w Tryd.underlying30 cap
      | some ad => exact Src.ofSlice w Tryd.underlying30 ad 0 cap [] (by simp) (fun j u hu => by simp at hu) (fun u hu => by simp at hu)
    have hr2 := run_append_nothing w 30 30 o.type 9 i0 Tryd.underlying30 hi g' n' c' hle (.slice ao ([] : List ByteArray).length cap) hsrc
    have hfin := h v w (by rw [List.append_nil]; exact hown) (Below.refl _ _)
    have hw : Region.wanted o (yielded ops a.tmps) = true := by simp [Region.wanted, hgd]
    rw [if_pos hw]
    unfold Oper.wp execOp
    rw [hv'] at hs hfin
    simp only [ho, resolve, invoke, builtin, Sem.run_bind, Sem.run_pure, Result.andThen_ok, List.map_toArray, List.map_cons, List.map_nil, hs, hx, hr2]
    exact hfin
theorem newRecK_any (W : World) : Calls Tryd.prog 10 #[] W fun e w' => e = .returned (.pointer (some ⟨W.heap.size, 0, none⟩)) ∧ w' = W.alloc (.cells #[.map none, .pointer none] 41) := by
  go_enter Tryd.func10, Tryd.ntmps10
  go_wp2
  go_ret
  first | exact ⟨rfl, rfl⟩ | simp
theorem Pst.first (W : World) : Pst W (W.alloc (.cells #[.map none, .pointer none] 41)) W.heap.size [] [] (.slice none 0 0) :=
  ⟨(Below.refl _ _).alloc (Nat.le_refl _) _, Nat.le_refl _, ⟨none, ⟨by simp [go_sem], by simp [go_sem], .inl ⟨rfl, rfl⟩⟩, fun b hb => by cases hb⟩, World.ownsRow_nil _ _ _ _, by simp [Value.ownBlock]⟩
end Go.Proofs.YtkmalggeieiepabDoor
set_option linter.unusedSimpArgs false
set_option linter.unusedVariables false
namespace Go.Proofs.YtkmalggeieiepabDoor
open Go.RowKit

theorem one_s2 (W : World) (s : ByteArray) : ∀ j u, [Value.string s][j]? = some u → (W.alloc (.cells #[.string s] 9)).cell? ((⟨W.heap.size, 0, none⟩ : Addr).add j) = some u := World.news_of_block (heap_alloc_new W _)
theorem one_sc2 (s : ByteArray) : ∀ u ∈ [Value.string s], u.oneCell' = true := by intro u hu; simp at hu; subst hu; rfl
theorem srow_take {w : World} {b o : Nat} {l : List ByteArray} (h : SRow w b o l) (k : Nat) : SRow w b o (l.take k) := fun j hj => by
  rw [List.length_take] at hj
  rw [List.getElem_take]; exact h j (by omega)
theorem srow_drop {w : World} {b o : Nat} {l : List ByteArray} (h : SRow w b o l) (k : Nat) : SRow w b (o + k) (l.drop k) := fun j hj => by
  rw [List.length_drop] at hj
  rw [List.getElem_drop, show o + k + j = o + (k + j) by omega]; exact h (k + j) (by omega)
theorem blessK : ∀ (x y : List UInt8), Op.bytesLess x y = decide (x < y)
  | [], [] => by simp [Op.bytesLess]
  | _ :: _, [] => by simp [Op.bytesLess]
  | [], _ :: _ => by simp [Op.bytesLess]
  | a :: x, b :: y => by
    rw [Op.bytesLess, blessK x y]
    simp only [List.cons_lt_cons_iff]
    by_cases h1 : a < b <;> by_cases h2 : a = b <;> by_cases h3 : x < y <;> simp [h1, h2, h3]

set_option maxRecDepth 10000 in
set_option maxHeartbeats 8000000 in
theorem pools_walk (Kc : Nat → Int) (sl dl : List Int) (a1 a2 : Option Addr) (c1 c2 : Nat) (w : World) (hkt : KT Kc w)
    (hs : 0 < sl.length → ∃ b o, a1 = some ⟨b, o, none⟩ ∧ IRow w b o sl ∧ b < w.heap.size) (hd : 0 < dl.length → ∃ b o, a2 = some ⟨b, o, none⟩ ∧ IRow w b o dl ∧ b < w.heap.size) (hsr : InR sl) (hdr : InR dl) :
    Calls Tryd.prog 4 #[.slice a1 sl.length c1, .slice a2 dl.length c2] w fun e w' => e = .returned (.bool true) ∧ Below w.heap.size w w' := by
  have hpos : 0 < w.heap.size := World.block_lt_of_cell? w _ (hkt 0 (by omega))
  have HS : Hid (0 < sl.length → ∃ b o, a1 = some ⟨b, o, none⟩ ∧ IRow w b o sl ∧ b < w.heap.size) := hs
  have HDR : Hid (0 < dl.length → ∃ b o, a2 = some ⟨b, o, none⟩ ∧ IRow w b o dl ∧ b < w.heap.size) := hd
  have HSR : Hid (InR sl) := hsr
  have HDI : Hid (InR dl) := hdr
  have HKT : Hid (KT Kc w) := hkt
  clear hs hd hsr hdr hkt
  by_cases g1 : 200 < sl.length
  · have g1' : (200 : Int) < (sl.length : Int) := by omega
    go_enter Tryd.func4, Tryd.ntmps4
    go_wp2
    go_ret
    exact ⟨rfl, Below.refl _ _⟩
  · have g1' : ¬ ((200 : Int) < (sl.length : Int)) := by omega
    by_cases g2 : 200 < dl.length
    · have g2' : (200 : Int) < (dl.length : Int) := by omega
      go_enter Tryd.func4, Tryd.ntmps4
      go_wp2
      go_ret
      exact ⟨rfl, Below.refl _ _⟩
    · have g2' : ¬ ((200 : Int) < (dl.length : Int)) := by omega
      obtain ⟨W1, hW1⟩ : ∃ V, V = w.alloc (.cells #[.map none, .pointer none] 41) := ⟨_, rfl⟩
      have hP0 := Pst.first w
      have hnr := newRecK_any w
      rw [← hW1] at hP0
      have hnr2 : Calls Tryd.prog 10 #[] w fun e w' => e = .returned (.pointer (some ⟨w.heap.size, 0, none⟩)) ∧ W1 = w' := hnr.mono fun e w' hx => ⟨hx.1, by rw [hW1, hx.2]⟩
      obtain ⟨gx, hgx⟩ : ∃ g, g = w.heap.size := ⟨_, rfl⟩
      have HP0 : Hid (Pst w W1 gx [] [] (.slice none 0 0)) := by rw [hgx]; exact hP0
      have HNR : Hid (Calls Tryd.prog 10 #[] w fun e w' => e = .returned (.pointer (some ⟨gx, 0, none⟩)) ∧ W1 = w') := by rw [hgx]; exact hnr2
      clear hW1 hP0 hnr hnr2 hgx
      go_enter Tryd.func4, Tryd.ntmps4
      go_upto_region 8 with (go_at_call 10; go_must (refine HNR.out.mono ?_); rintro e w' ⟨rfl, rfl⟩)
      go_loopg [36, 6] sl.length (fun g iv tv wx => ∃ (k : Nat) (l : List ByteArray), k + g = sl.length ∧ iv = .int .i64 (k : Int) ∧ Pst w wx gx l l tv ∧ l.length ≤ 20)
      case atStart => exact ⟨0, [], by omega, rfl, HP0.out, by simp⟩
      case round =>
        clear HP0 HNR
        obtain ⟨k, l, hkg, rfl, hP, hl⟩ := hrel
        obtain ⟨ta, tc, rfl, htc, htr⟩ := own_sval hP.row
        obtain ⟨G, HG⟩ : ∃ G, Hid (G = gk ∧ k + G = sl.length) := ⟨gk, rfl, hkg⟩
        have HP : Hid (Pst w wr gx l l (.slice ta l.length tc)) := hP
        have HBR : Hid (Below w.heap.size w wr) := hP.bel
        by_cases hlt : k < sl.length
        · obtain ⟨b, o, rfl, hrow, hbl⟩ := HS.out (by omega)
          obtain ⟨x, hx⟩ : ∃ x, sl[k]? = some x := ⟨_, List.getElem?_eq_getElem hlt⟩
          have d0 : wr.cell? ⟨b, o + k, none⟩ = some (.int .i64 x) := by rw [HBR.out.cell (p := ⟨b, o + k, none⟩) hbl]; exact hrow k x hx
          have hki : (k : Int) < (sl.length : Int) := by omega
          obtain ⟨hx1, hx2⟩ := HSR.out x (List.mem_of_getElem? hx)
          obtain ⟨s, hs⟩ : ∃ s, s = ofL (txL x) := ⟨_, rfl⟩
          have hs0 : txErr s.data.toList = 0 := by rw [hs, ofL_data]; exact txL_ok x
          have hsm : s.size ≤ maxLen := by have h1 := txErr_len _ hs0; have h2 : s.data.toList.length = s.size := rfl; unfold maxLen; omega
          obtain ⟨d, hdd⟩ : ∃ d, d = dd Kc s := ⟨_, rfl⟩
          have HTX : Hid (Calls Tryd.prog 11 #[.int .i64 x] wr fun e w' => e = .returned (.string s) ∧ Below wr.heap.size wr w') := by rw [hs]; exact txK_any x wr hx1 hx2
          have HTI : Hid (∀ V, Below wr.heap.size wr V → Calls Tryd.prog 12 #[.string s] V fun e w' => e = .returned (.tuple #[.string d, .int .i64 0]) ∧ Below V.heap.size V w') := fun V hV => by
            have := txid_any Kc s V (HKT.out.later (HBR.out.trans (hV.mono HBR.out.size)) hpos) hsm
            rw [show txid Kc s = d by rw [hdd]; simp [txid, hs0, dd], hs0] at this; exact this
          have HD : Hid (d = dd Kc s ∧ txErr s.data.toList = 0 ∧ s.size ≤ maxLen ∧ d.size = 32) := ⟨hdd, hs0, hsm, by rw [hdd]; exact dd_size Kc s⟩
          clear hs hs0 hsm hdd hx hrow hkg hP
          go_upto_region 15 with (first
            | (go_at_call 11; go_must (refine HTX.out.mono ?_); rintro e w1 ⟨rfl, hb1⟩; have HB1 := (show Hid (Below wr.heap.size wr w1) from hb1); clear hb1)
            | (go_at_call 12; go_must (refine (HTI.out _ HB1.out).mono ?_); rintro e w2 ⟨rfl, hb2⟩; have HB2 := (show Hid (Below wr.heap.size wr w2) from HB1.out.trans (hb2.mono HB1.out.size)); clear hb2))
          have HP2 : Hid (Pst w w2 gx l l (.slice ta l.length tc)) := HP.out.keep HB2.out
          clear HTX HTI d0 HB1
          have HTR : Hid (∀ j (h : j < l.length), ∃ tb tp, ta = some ⟨tb, tp, none⟩ ∧ w2.cell? ⟨tb, tp + j, none⟩ = some (.string l[j])) := fun j h => by
            obtain ⟨a3, c3, e3, _, r3⟩ := own_sval HP2.out.row
            obtain ⟨tb, tp, e4, r4⟩ := r3 (by omega)
            injection e3 with e3 _ _
            exact ⟨tb, tp, e3.trans e4, r4 j h⟩
          clear htr
          have hlb : (l.length : Int) ≤ 20 := by omega
          go_upto_region 16 with fail
          go_loopg [52, 12] l.length (fun g iv hv wx => ∃ (j : Nat), j + g = l.length ∧ iv = .int .i64 (j : Int) ∧ hv = .bool (mem d (l.take j)) ∧ wx = w2)
          case atStart => exact ⟨0, by omega, rfl, rfl, rfl⟩
          case round =>
            obtain ⟨j, hjg, rfl, rfl, hwx⟩ := hrel
            subst hwx
            have HJ : Hid (j + gk = l.length) := hjg
            by_cases hjl : j < l.length
            · clear HDR HDI HS HSR HKT HP HP2 HBR HB2 HD HG
              obtain ⟨tb, tp, rfl, dj⟩ := HTR.out j hjl
              have hji : (j : Int) < (l.length : Int) := by omega
              have hmt := mem_take d l j hjl
              have HMT : Hid (mem d (l.take (j + 1)) = (mem d (l.take j) || (l[j].data.toList == d.data.toList))) := hmt
              have heq0 : (l[j].toList == d.toList) = (l[j].data.toList == d.data.toList) := by rw [toL, toL]
              generalize mem d (l.take j) = m0 at HMT ⊢
              generalize (l[j].data.toList == d.data.toList) = m1 at HMT heq0
              generalize l[j] = u at dj heq0
              clear hmt hjg
              cases m0 with
              | true =>
                go_wp2
                go_roundg (gk - 1)
                case measure => have := HJ.out; omega
                case rel =>
                  have := HJ.out
                  exact ⟨j + 1, by omega, by go_num, by rw [HMT.out]; simp, rfl⟩
              | false =>
                cases m1 with
                | true =>
                  go_wp2
                  go_roundg (gk - 1)
                  case measure => have := HJ.out; omega
                  case rel =>
                    have := HJ.out
                    exact ⟨j + 1, by omega, by go_num, by rw [HMT.out]; simp, rfl⟩
                | false =>
                  go_wp2
                  go_roundg (gk - 1)
                  case measure => have := HJ.out; omega
                  case rel =>
                    have := HJ.out
                    exact ⟨j + 1, by omega, by go_num, by rw [HMT.out]; simp, rfl⟩
            · have hji : ¬ ((j : Int) < (l.length : Int)) := by omega
              obtain rfl : j = l.length := by have := HJ.out; omega
              rw [List.take_length]
              clear hjg HJ HTR
              go_upto_region 20 with fail
              obtain ⟨r, L, HRL⟩ : ∃ (r : Int) (L : List ByteArray), Hid ((mem d l = true ∧ r = 10 ∧ L = l) ∨ (mem d l = false ∧ 20 ≤ l.length ∧ r = 9 ∧ L = l) ∨ (mem d l = false ∧ l.length < 20 ∧ r = 0 ∧ L = d :: l)) := by
                by_cases q1 : mem d l = true
                · exact ⟨10, l, .inl ⟨q1, rfl, rfl⟩⟩
                · by_cases q2 : 20 ≤ l.length
                  · exact ⟨9, l, .inr (.inl ⟨by simpa using q1, q2, rfl, rfl⟩)⟩
                  · exact ⟨0, d :: l, .inr (.inr ⟨by simpa using q1, by omega, rfl, rfl⟩)⟩
              have HADD : Hid (Calls Tryd.prog 13 #[.pointer (some ⟨gx, 0, none⟩), .string s] wr fun e w' => e = .returned (.int .i64 r) ∧ Pst w w' gx L l (.slice ta l.length tc)) := by
                obtain ⟨q1, q2, q3, q4⟩ := HD.out
                exact HP2.out.add Kc (HKT.out.later HP2.out.bel hpos) s d q3 q2 q1 hl r L HRL.out
              go_upto_block 4 with (go_at_call 13; go_must (refine HADD.out.mono ?_); rintro e w3 ⟨rfl, hp3⟩; have HP3 := (show Hid (Pst w w3 gx L l (.slice ta l.length tc)) from hp3); clear hp3)
              clear HADD HP HP2 HB2
              go_cut [6, 11, 12] (fun tv _ _ wx => ∃ l1 : List ByteArray, Pst w wx gx l1 l1 tv ∧ l1.length ≤ 20)
              case first =>
                clear HDR HDI HS HSR HKT HBR HG HD
                obtain ⟨i0, hi, hz0, hz1, hz2⟩ := info_parts infoStr
                rcases HRL.out with ⟨q1, q2, q3⟩ | ⟨q1, q2, q3, q4⟩ | ⟨q1, q2, q3, q4⟩
                · rw [q1, q2]
                  have HP3b := (show Hid (Pst w w3 gx l l (.slice ta l.length tc)) from q3 ▸ HP3.out)
                  clear HRL
                  go_wp2
                  go_meet
                  exact ⟨l, HP3b.out, hl⟩
                · rw [q1, q3]
                  have HP3b := (show Hid (Pst w w3 gx l l (.slice ta l.length tc)) from q4 ▸ HP3.out)
                  have h20 : l.length = 20 := by omega
                  have h20i : (l.length : Int) = 20 := by omega
                  have h20b : ((l.length : Int) == 20) = true := by rw [h20i]; rfl
                  clear HRL q2
                  go_wp2
                  go_meet
                  exact ⟨l, HP3b.out, hl⟩
                · rw [q1, q3]
                  have h20i : ¬ ((l.length : Int) = 20) := by omega
                  have h20b : ((l.length : Int) == 20) = false := by rw [beq_eq_false_iff_ne]; exact h20i
                  have HL20 : Hid (l.length < 20) := q2
                  have HP3a : Hid (Pst w (w3.alloc (.cells #[.string d] 9)) gx (d :: l) l (.slice ta l.length tc)) := (show Pst w w3 gx (d :: l) l (.slice ta l.length tc) from q4 ▸ HP3.out).keep ((Below.refl _ _).alloc (Nat.le_refl _) _)
                  clear HRL q2
                  go_wp2_with (at_builtin; go_must (refine wpList_append_lies _ rfl _ _ 30 rfl w.heap.size 9 i0 (.string ByteArray.empty) 1 16 Tryd.underlying30 hi hz0 hz1 hz2 rfl (by decide) (.slice ta l.length tc) l.length (strV l) rfl HP3a.out.row ⟨w3.heap.size, 0, none⟩ 1 1 [.string d] rfl rfl (one_s2 w3 d) (one_sc2 d) (by omega) (by unfold maxLen; omega) (by omega) HP3a.out.bel.size _ rfl ?_); intro g4 c4 w4 ho4 hg4 hb4 _; have HO4 := (show Hid (w4.ownsRow w.heap.size 9 1 (.slice (some ⟨g4, 0, none⟩) (l.length + 1) c4) (l.length + 1) (strV l ++ [.string d])) from ho4); have HG4 := (show Hid ((w3.alloc (.cells #[.string d] 9)).grownBy w4 (Value.slice ta l.length tc).ownBlock) from hg4); have HB4 := (show Hid ((Value.slice ta l.length tc).ownBlock = some g4 ∨ g4 = (w3.alloc (.cells #[.string d] 9)).heap.size) from hb4); clear ho4 hg4 hb4)
                  go_meet
                  refine ⟨l ++ [d], ?_, by have := HL20.out; simp; omega⟩
                  have h5 : Pst w w4 gx (d :: l) (l ++ [d]) (.slice (some ⟨g4, 0, none⟩) (l.length + 1) c4) := HP3a.out.app HG4.out (by
                    have h6 := HO4.out
                    rw [List.length_append, show strV (l ++ [d]) = strV l ++ [.string d] by simp [strV]]; exact h6) (by
                    rcases HB4.out with h7 | h7
                    · exact .inl h7.symm
                    · exact .inr ⟨g4, rfl, Nat.le_of_eq h7.symm⟩)
                  exact h5.perm (List.perm_append_singleton d l).symm
              case rest =>
                obtain ⟨l1, hP4, hl1⟩ := hcut
                obtain ⟨ta1, tc1, rfl, htc1, _⟩ := own_sval hP4.row
                have HP4 : Hid (Pst w wc gx l1 l1 (.slice ta1 l1.length tc1)) := hP4
                clear hP4 HP3 HRL hl htc hlb HD
                have hl1i : (l1.length : Int) ≤ 20 := by omega
                go_upto_region 30 with fail
                go_cut [101] (fun cv wx => ∃ c : Bool, cv = .bool c ∧ (c = true → k < dl.length ∧ 0 < l1.length) ∧ wx = wc)
                case first =>
                  clear HG HS HSR HKT
                  by_cases hk : k < dl.length
                  · have hkd : (k : Int) < (dl.length : Int) := by omega
                    obtain ⟨b2, o2, rfl, hrow2, hbl2⟩ := HDR.out (by omega)
                    obtain ⟨y, hy⟩ : ∃ y, dl[k]? = some y := ⟨_, List.getElem?_eq_getElem hk⟩
                    have dk : wc.cell? ⟨b2, o2 + k, none⟩ = some (.int .i64 y) := by rw [HP4.out.bel.cell (p := ⟨b2, o2 + k, none⟩) hbl2]; exact hrow2 k y hy
                    clear HDR HDI hrow2 hy
                    by_cases h0 : 0 < l1.length
                    · have h0i : (0 : Int) < (l1.length : Int) := by omega
                      go_wp2
                      all_goals
                        go_meet
                        exact ⟨_, rfl, fun _ => ⟨hk, h0⟩, rfl⟩
                    · have h0i : ¬ ((0 : Int) < (l1.length : Int)) := by omega
                      go_wp2
                      all_goals
                        go_meet
                        exact ⟨false, rfl, (fun h => by cases h), rfl⟩
                  · have hkd : ¬ ((k : Int) < (dl.length : Int)) := by omega
                    clear HDR HDI
                    go_wp2
                    all_goals
                      go_meet
                      exact ⟨false, rfl, (fun h => by cases h), rfl⟩
                case rest =>
                  obtain ⟨c, rfl, hc, hwc⟩ := hcut
                  subst hwc
                  go_upto_if 101 with fail
                  go_cut [6] (fun tv wx => ∃ l2 : List ByteArray, Pst w wx gx l2 l2 tv ∧ l2.length ≤ 20)
                  case first =>
                    clear HG HS HSR HKT
                    cases c with
                    | false =>
                      go_wp2
                      go_meet
                      exact ⟨_, HP4.out, hl1⟩
                    | true =>
                      obtain ⟨hk, h0⟩ := hc rfl
                      have hkd : (k : Int) < (dl.length : Int) := by omega
                      obtain ⟨b2, o2, rfl, hrow2, hbl2⟩ := HDR.out (by omega)
                      obtain ⟨y, hy⟩ : ∃ y, dl[k]? = some y := ⟨_, List.getElem?_eq_getElem hk⟩
                      have dk := hrow2 k y hy
                      rw [← HP4.out.bel.cell (p := ⟨b2, o2 + k, none⟩) hbl2] at dk
                      obtain ⟨hy1, hy2⟩ := HDI.out y (List.mem_of_getElem? hy)
                      obtain ⟨i, hie⟩ : ∃ i, i = pk y l1.length := ⟨_, rfl⟩
                      have hil : i < l1.length := by rw [hie]; exact pk_lt y l1.length h0
                      have HPK : Hid (∀ V, Calls Tryd.prog 14 #[.int .i64 y, .int .i64 (l1.length : Int)] V fun e w' => e = .returned (.int .i64 (i : Int)) ∧ V = w') := fun V => by rw [hie]; exact pickX_any y l1.length V hy1 hy2 h0 (by omega)
                      obtain ⟨a3, c3, e3, hcl, r3⟩ := own_sval HP4.out.row
                      injection e3 with e3 e31 e32
                      obtain ⟨tb, tp, e4, r4⟩ := r3 h0
                      obtain rfl := e3.trans e4
                      subst e32
                      clear e31
                      obtain ⟨d1, hd1⟩ : ∃ d, l1[i]? = some d := ⟨_, List.getElem?_eq_getElem hil⟩
                      have di := r4 i hil
                      rw [show l1[i] = d1 from (List.getElem_eq_iff hil).2 hd1] at di
                      have HSV : Hid (SRow _ tb tp l1) := r4
                      clear HDR HDI hrow2 hy hie hc e4 r3 r4 e3
                      have hii : (i : Int) < (l1.length : Int) := by omega
                      have hnt : ¬ (tc1 < i) := by omega
                      have hci : (l1.length : Int) ≤ (tc1 : Int) := by omega
                      have yk : IntKind.i64.wrap ((i : Int) + 1) = (i : Int) + 1 := by rw [IntKind.wrap_i64]; omega
                      have nk : ((i : Int) + 1).toNat = i + 1 := by omega
                      have hi1 : (i : Int) + 1 ≤ (l1.length : Int) := by omega
                      have hi0 : (0 : Int) ≤ (i : Int) + 1 := by omega
                      go_upto_region 33 with (go_at_call 14; go_must (refine (HPK.out _).mono ?_); rintro e w' ⟨rfl, rfl⟩)
                      clear HPK dk di
                      go_cut [6] (fun tv wx => Pst w wx gx l1 (l1.take i ++ l1.drop (i + 1)) tv)
                      case first =>
                        refine q_frame (fun A HFR => ?_)
                        have hsz : A.tmps.size = 181 := by rw [HFR.out]; rfl
                        have h6 : A.eval (.tmp 6) = .slice (some ⟨tb, tp, none⟩) l1.length tc1 := by rw [HFR.out]; rfl
                        have h15 : A.eval (.tmp 15) = .int .i64 (i : Int) := by rw [HFR.out]; rfl
                        refine wp_region_any (by kernel_rfl) ?_
                        refine wpAny_take (i := 0) (v := (.slice (some ⟨tb, tp, none⟩) l1.length tc1)) rfl (by kernel_rfl) (by kernel_rfl) (by kernel_rfl) (fun _ _ _ h => h) (Or.inl ⟨by rfl, fun W => q_run1 6 (.slice (some ⟨tb, tp, none⟩) l1.length tc1) (by simp only [q_same, q_ne, q_sz, hsz, h6, h15, ne_eq, Nat.reduceEqDiff, not_false_eq_true, Nat.reduceLT]) (fun ρ hc hf e1 => by simp [go_sem, hc, hf, e1])⟩) ?_
                        change wpAny _ _ _ _ _ _ (Act.put _ (some 113) _) _
                        refine wpAny_take (i := 1) (v := (.int .i64 (i : Int))) rfl (by kernel_rfl) (by kernel_rfl) (by kernel_rfl) (fun _ _ _ h => h) (Or.inl ⟨by rfl, fun W => q_run1 15 (.int .i64 (i : Int)) (by simp only [q_same, q_ne, q_sz, hsz, h6, h15, ne_eq, Nat.reduceEqDiff, not_false_eq_true, Nat.reduceLT]) (fun ρ hc hf e1 => by simp [go_sem, hc, hf, e1])⟩) ?_
                        change wpAny _ _ _ _ _ _ (Act.put _ (some 114) _) _
                        refine wpAny_take (i := 2) (v := (.slice (some ⟨tb, tp, none⟩) i tc1)) rfl (by kernel_rfl) (by kernel_rfl) (by kernel_rfl) (fun _ _ _ h => h) (Or.inl ⟨by rfl, fun W => q_run2 113 114 (.slice (some ⟨tb, tp, none⟩) l1.length tc1) (.int .i64 (i : Int)) (by simp only [q_same, q_ne, q_sz, hsz, h6, h15, ne_eq, Nat.reduceEqDiff, not_false_eq_true, Nat.reduceLT]) (by simp only [q_same, q_ne, q_sz, hsz, h6, h15, ne_eq, Nat.reduceEqDiff, not_false_eq_true, Nat.reduceLT]) (fun ρ hc hf e1 e2 => by simp [go_sem, hc, hf, e1, e2, hii, hci, hcl, hil, hnt])⟩) ?_
                        change wpAny _ _ _ _ _ _ (Act.put _ (some 115) _) _
                        refine wpAny_take (i := 4) (v := (.slice (some ⟨tb, tp, none⟩) l1.length tc1)) rfl (by kernel_rfl) (by kernel_rfl) (by kernel_rfl) (fun _ _ _ h => h) (Or.inl ⟨by rfl, fun W => q_run1 6 (.slice (some ⟨tb, tp, none⟩) l1.length tc1) (by simp only [q_same, q_ne, q_sz, hsz, h6, h15, ne_eq, Nat.reduceEqDiff, not_false_eq_true, Nat.reduceLT]) (fun ρ hc hf e1 => by simp [go_sem, hc, hf, e1])⟩) ?_
                        change wpAny _ _ _ _ _ _ (Act.put _ (some 117) _) _
                        refine wpAny_take (i := 5) (v := (.int .i64 (i : Int))) rfl (by kernel_rfl) (by kernel_rfl) (by kernel_rfl) (fun _ _ _ h => h) (Or.inl ⟨by rfl, fun W => q_run1 15 (.int .i64 (i : Int)) (by simp only [q_same, q_ne, q_sz, hsz, h6, h15, ne_eq, Nat.reduceEqDiff, not_false_eq_true, Nat.reduceLT]) (fun ρ hc hf e1 => by simp [go_sem, hc, hf, e1])⟩) ?_
                        change wpAny _ _ _ _ _ _ (Act.put _ (some 118) _) _
                        refine wpAny_take (i := 6) (v := (.int .i64 ((i : Int) + 1))) rfl (by kernel_rfl) (by kernel_rfl) (by kernel_rfl) (fun _ _ _ h => h) (Or.inl ⟨by rfl, fun W => q_run1 118 (.int .i64 (i : Int)) (by simp only [q_same, q_ne, q_sz, hsz, h6, h15, ne_eq, Nat.reduceEqDiff, not_false_eq_true, Nat.reduceLT]) (fun ρ hc hf e1 => by simp [go_sem, hc, hf, e1, yk])⟩) ?_
                        change wpAny _ _ _ _ _ _ (Act.put _ (some 119) _) _
                        refine wpAny_take (i := 7) (v := (.slice (if tc1 = i + 1 then some ⟨tb, tp, none⟩ else some ⟨tb, tp + (i + 1), none⟩) (l1.length - (i + 1)) (tc1 - (i + 1)))) rfl (by kernel_rfl) (by kernel_rfl) (by kernel_rfl) (fun _ _ _ h => h) (Or.inl ⟨by rfl, fun W => q_run2 117 119 (.slice (some ⟨tb, tp, none⟩) l1.length tc1) (.int .i64 ((i : Int) + 1)) (by simp only [q_same, q_ne, q_sz, hsz, h6, h15, ne_eq, Nat.reduceEqDiff, not_false_eq_true, Nat.reduceLT]) (by simp only [q_same, q_ne, q_sz, hsz, h6, h15, ne_eq, Nat.reduceEqDiff, not_false_eq_true, Nat.reduceLT]) (fun ρ hc hf e1 e2 => by simp [go_sem, hc, hf, e1, e2, hi1, hci, nk, hi0, hcl, hil])⟩) ?_
                        change wpAny _ _ _ _ _ _ (Act.put _ (some 120) _) _
                        have HBd : Below wc.heap.size wc wc.drew := ⟨rfl, rfl, rfl, Nat.le_refl _, fun _ _ => rfl⟩
                        have hlt1 := HSV.out.lt h0
                        refine wpAny_ready (rs := [3]) (by kernel_rfl) (by simp) (AllReady.cons rfl (fun K hK => ?_) AllReady.nil)
                        refine step_append_sval rfl (.const (.slice none 0 0)) (.tmp 115) rfl wc.heap.size (.slice none 0 0) [] rfl (World.ownsRow_nil _ _ _ _) (.slice (some ⟨tb, tp, none⟩) i tc1) (l1.take i) (by simp only [q_same, q_ne, q_sz, hsz, h6, h15, ne_eq, Nat.reduceEqDiff, not_false_eq_true, Nat.reduceLT]) ⟨some ⟨tb, tp, none⟩, tc1, by rw [List.length_take, Nat.min_eq_left (by omega)], by rw [List.length_take]; omega, fun _ => ⟨tb, tp, rfl, srow_take (SRow.later HSV.out HBd hlt1) i⟩⟩ (Nat.le_refl _) (by simp; omega) ?_
                        intro u2 v2 ho2 hb2
                        refine hK _ _ ?_
                        change wpAny _ _ _ _ _ _ (Act.put _ (some 116) _) _
                        have HB2 : Below wc.heap.size wc v2 := HBd.trans hb2
                        refine wpAny_ready (rs := [8]) (by kernel_rfl) (by simp) (AllReady.cons rfl (fun K hK => ?_) AllReady.nil)
                        refine step_append_sval rfl (.tmp 116) (.tmp 120) rfl wc.heap.size u2 ([] ++ l1.take i) (by simp only [q_same, q_ne, q_sz, hsz, h6, h15, ne_eq, Nat.reduceEqDiff, not_false_eq_true, Nat.reduceLT]) ho2 (.slice (if tc1 = i + 1 then some ⟨tb, tp, none⟩ else some ⟨tb, tp + (i + 1), none⟩) (l1.length - (i + 1)) (tc1 - (i + 1))) (l1.drop (i + 1)) (by simp only [q_same, q_ne, q_sz, hsz, h6, h15, ne_eq, Nat.reduceEqDiff, not_false_eq_true, Nat.reduceLT]) ⟨_, tc1 - (i + 1), by rw [List.length_drop], by rw [List.length_drop]; omega, fun h1 => ⟨tb, tp + (i + 1), if_neg (by rw [List.length_drop] at h1; omega), srow_drop (SRow.later HSV.out HB2 hlt1) (i + 1)⟩⟩ HB2.size (by simp; omega) ?_
                        intro u3 v3 ho3 hb3
                        refine hK _ _ ?_
                        change wpAny _ _ _ _ _ _ (Act.put _ (some 121) _) _
                        have HB3 : Below wc.heap.size wc v3 := HB2.trans hb3
                        refine wpAny_take (i := 9) (v := u3) rfl (by kernel_rfl) (by kernel_rfl) (by kernel_rfl) (fun _ _ _ h => h) (Or.inl ⟨by rfl, fun W => q_run1 121 u3 (by simp only [q_same, q_ne, q_sz, hsz, h6, h15, ne_eq, Nat.reduceEqDiff, not_false_eq_true, Nat.reduceLT]) (fun ρ hc hf e1 => by simp [go_sem, hc, hf, e1])⟩) ?_
                        change wpAny _ _ _ _ _ _ (Act.put _ (some 6) _) _
                        refine wpAny_done (by kernel_rfl) ?_ _
                        have HFIN : Hid (Pst w v3 gx l1 (l1.take i ++ l1.drop (i + 1)) u3) := HP4.out.fresh HB3 (by rw [List.nil_append] at ho3; exact ho3)
                        have hfr := HFR.out
                        clear HFR hsz h6 h15 ho2 ho3 hb2 hb3 HBd HB2 HB3
                        subst hfr
                        simp only [Act.put, List.setIfInBounds_toArray, List.set_cons_zero, List.set_cons_succ]
                        go_wp2_with fail
                        all_goals
                          go_meet
                          exact HFIN.out
                      case rest =>
                        have HP5 : Hid (Pst w wc gx l1 (l1.take i ++ l1.drop (i + 1)) u6) := hcut
                        have hnd := HP4.out.nodup
                        have hd32 : d1.size = 32 := HP4.out.all d1 (List.mem_of_getElem? hd1)
                        have hm1 : mem d1 l1 = true := (mem_iff _ _).2 (List.mem_of_getElem? hd1)
                        have HE : Hid (del d1 l1 = l1.take i ++ l1.drop (i + 1)) := del_at l1 i d1 hnd hd1
                        have hm2 : mem d1 (del d1 l1) = false := by
                          rw [Bool.eq_false_iff]; exact fun h => ((mem_del _ _ _).1 ((mem_iff _ _).1 h)).2 rfl
                        have HL2 : Hid ((l1.take i ++ l1.drop (i + 1)).length ≤ 20) := by
                          show _ ≤ _
                          rw [List.length_append, List.length_take, List.length_drop]; omega
                        have HD1 : Hid (Calls Tryd.prog 15 #[.pointer (some ⟨gx, 0, none⟩), .string d1] wc fun e w' => e = .returned (.bool true) ∧ Pst w w' gx (del d1 l1) (l1.take i ++ l1.drop (i + 1)) u6) := by
                          have := HP5.out.drop d1 hd32
                          rw [hm1] at this; exact this
                        have HD2 : Hid (∀ V, Pst w V gx (del d1 l1) (l1.take i ++ l1.drop (i + 1)) u6 → Calls Tryd.prog 15 #[.pointer (some ⟨gx, 0, none⟩), .string d1] V fun e w' => e = .returned (.bool false) ∧ Pst w w' gx (del d1 l1) (l1.take i ++ l1.drop (i + 1)) u6) := fun V hV => by
                          have := hV.drop d1 hd32
                          rw [hm2, del_out (fun h => by rw [(mem_iff _ _).2 h] at hm2; cases hm2)] at this; exact this
                        clear hcut HP4 HSV hnd hm1 hm2 HP5 hd32 hd1
                        generalize l1.take i ++ l1.drop (i + 1) = l2 at HD1 HD2 HE HL2
                        rw [HE.out] at HD1 HD2
                        go_wp2_with (first
                          | (go_at_call 15; have _m := HD1; go_must (refine HD1.out.mono ?_); rintro e w5 ⟨rfl, hp5⟩; have HP5 := (show Hid (Pst w w5 gx l2 l2 u6) from hp5); clear hp5 HD1 _m)
                          | (go_at_call 15; go_must (refine (HD2.out _ HP5.out).mono ?_); rintro e w6 ⟨rfl, hp6⟩; have HP6 := (show Hid (Pst w w6 gx l2 l2 u6) from hp6); clear hp6))
                        go_meet
                        exact ⟨l2, HP6.out, HL2.out⟩
                  case rest =>
                    obtain ⟨l2, hP7, hl2⟩ := hcut
                    obtain ⟨ta2, tc2, rfl, htc2, _⟩ := own_sval hP7.row
                    have HID : Hid (Calls Tryd.prog 16 #[.pointer (some ⟨gx, 0, none⟩)] wc fun e w' => ∃ g cap : Nat, e = .returned (.slice (some ⟨g, 0, none⟩) l2.length cap) ∧ SRow w' g 0 (idl l2) ∧ Pst w w' gx l2 l2 (.slice ta2 l2.length tc2)) := hP7.ids hl2
                    have HN : Hid (l2.Nodup) := hP7.nodup
                    clear hP7 HP4 hc HDR HDI HS HSR HKT hl1 hl1i htc1
                    go_upto_region 40 with (go_at_call 16; go_must (refine HID.out.mono ?_); rintro e w9 ⟨g9, cap9, rfl, hrow9, hp9⟩; have HR9 := (show Hid (SRow w9 g9 0 (idl l2)) from hrow9); have HP9 := (show Hid (Pst w w9 gx l2 l2 (.slice ta2 l2.length tc2)) from hp9); clear hrow9 hp9)
                    have hl2i : (l2.length : Int) ≤ 20 := by omega
                    have hil2 := idl_len l2
                    have HTR : Hid (∀ j (h : j < l2.length), ∃ tb tp, ta2 = some ⟨tb, tp, none⟩ ∧ w9.cell? ⟨tb, tp + j, none⟩ = some (.string l2[j])) := fun j h => by
                      obtain ⟨a3, c3, e3, _, r3⟩ := own_sval HP9.out.row
                      obtain ⟨tb, tp, e4, r4⟩ := r3 (by omega)
                      injection e3 with e3 _ _
                      exact ⟨tb, tp, e3.trans e4, r4 j h⟩
                    have HI : Hid (∀ j (h : j < l2.length), ∃ x, (idl l2)[j]? = some x ∧ mem x l2 = true ∧ w9.cell? ⟨g9, j, none⟩ = some (.string x)) := fun j h => by
                      have hj : j < (idl l2).length := by rw [idl_len]; exact h
                      refine ⟨(idl l2)[j], List.getElem?_eq_getElem hj, (mem_iff _ _).2 (idl_mem l2 _ (List.getElem_mem hj)), ?_⟩
                      have := HR9.out j hj
                      rw [Nat.zero_add] at this; exact this
                    have HRI : Hid (∀ j x y, (idl l2)[j]? = some x → (idl l2)[j + 1]? = some y → Op.bytesLess x.toList y.toList = true) := fun j x y hx hy => by
                      have hp := idl_rise l2 HN.out
                      rw [toL, toL, blessK, decide_eq_true_eq]
                      obtain ⟨h1, rfl⟩ := List.getElem?_eq_some_iff.1 hx
                      obtain ⟨h2, rfl⟩ := List.getElem?_eq_some_iff.1 hy
                      exact List.pairwise_iff_getElem.1 hp j (j + 1) h1 h2 (by omega)
                    clear HID HN HR9
                    go_loopg [146] l2.length (fun g iv wx => ∃ j : Nat, j + g = l2.length ∧ iv = .int .i64 (j : Int) ∧ wx = w9)
                    case atStart => exact ⟨0, by omega, rfl, rfl⟩
                    case round =>
                      obtain ⟨j, hjg, rfl, hwx⟩ := hrel
                      subst hwx
                      obtain ⟨G3, HG3⟩ : ∃ G3, Hid (G3 = gk ∧ j + G3 = l2.length) := ⟨gk, rfl, hjg⟩
                      by_cases hjl : j < l2.length
                      · have hji : (j : Int) < (l2.length : Int) := by omega
                        obtain ⟨x3, hx3, hmx, dj⟩ := HI.out j hjl
                        have HMX : Hid (mem x3 l2 = true) := hmx
                        clear hjg hmx
                        go_upto_region 44 with fail
                        go_loopg [153, 20] l2.length (fun g iv hv wx => ∃ (q : Nat), q + g = l2.length ∧ iv = .int .i64 (q : Int) ∧ hv = .bool (mem x3 (l2.take q)) ∧ wx = wr)
                        case atStart => exact ⟨0, by omega, rfl, rfl, rfl⟩
                        case round =>
                          obtain ⟨q, hqg, rfl, rfl, hwx⟩ := hrel
                          subst hwx
                          have HQ : Hid (q + gk = l2.length) := hqg
                          by_cases hql : q < l2.length
                          · clear HI HRI HP9 HG HG3 HBR HMX
                            obtain ⟨tb, tp, rfl, dq⟩ := HTR.out q hql
                            have hqi : (q : Int) < (l2.length : Int) := by omega
                            have hmt := mem_take x3 l2 q hql
                            have HMT : Hid (mem x3 (l2.take (q + 1)) = (mem x3 (l2.take q) || (l2[q].data.toList == x3.data.toList))) := hmt
                            have heq0 : (l2[q].toList == x3.toList) = (l2[q].data.toList == x3.data.toList) := by rw [toL, toL]
                            generalize mem x3 (l2.take q) = m0 at HMT ⊢
                            generalize (l2[q].data.toList == x3.data.toList) = m1 at HMT heq0
                            generalize l2[q] = u at dq heq0
                            clear hmt hqg
                            cases m0 with
                            | true =>
                              go_wp2
                              go_roundg (gk - 1)
                              case measure => have := HQ.out; omega
                              case rel =>
                                have := HQ.out
                                exact ⟨q + 1, by omega, by go_num, by rw [HMT.out]; simp, rfl⟩
                            | false =>
                              cases m1 with
                              | true =>
                                go_wp2
                                go_roundg (gk - 1)
                                case measure => have := HQ.out; omega
                                case rel =>
                                  have := HQ.out
                                  exact ⟨q + 1, by omega, by go_num, by rw [HMT.out]; simp, rfl⟩
                              | false =>
                                go_wp2
                                go_roundg (gk - 1)
                                case measure => have := HQ.out; omega
                                case rel =>
                                  have := HQ.out
                                  exact ⟨q + 1, by omega, by go_num, by rw [HMT.out]; simp, rfl⟩
                          · have hqi : ¬ ((q : Int) < (l2.length : Int)) := by omega
                            obtain rfl : q = l2.length := by have := HQ.out; omega
                            rw [List.take_length, HMX.out]
                            clear hqg HQ HTR
                            cases j with
                            | zero =>
                              clear HI HRI HG HP9 HBR
                              go_wp2
                              go_roundg (G3 - 1)
                              case measure => have := HG3.out; omega
                              case rel =>
                                have := HG3.out
                                exact ⟨1, by omega, by go_num, rfl⟩
                            | succ j0 =>
                              obtain ⟨y3, hy3, _, dp⟩ := HI.out j0 (by omega)
                              have hles := HRI.out j0 y3 x3 hy3 hx3
                              have hj0 : (0 : Int) < ((j0 + 1 : Nat) : Int) := by omega
                              have hsub : IntKind.i64.wrap (((j0 + 1 : Nat) : Int) - 1) = (j0 : Int) := by rw [IntKind.wrap_i64]; omega
                              have hsub2 : ((j0 + 1 : Nat) : Int) - 1 = (j0 : Int) := by omega
                              have hj0l : (j0 : Int) < (l2.length : Int) := by omega
                              clear HI HRI HG HP9 HBR hx3 hy3
                              go_wp2
                              go_roundg (G3 - 1)
                              case measure => have := HG3.out; omega
                              case rel =>
                                have := HG3.out
                                exact ⟨j0 + 2, by omega, by go_num, rfl⟩
                      · have hji : ¬ ((j : Int) < (l2.length : Int)) := by omega
                        clear hjg
                        go_wp2
                        go_roundg (G - 1)
                        case measure => have := HG.out; omega
                        case rel =>
                          have := HG.out
                          exact ⟨k + 1, l2, by omega, by go_num, HP9.out, hl2⟩
        · have hki : ¬ ((k : Int) < (sl.length : Int)) := by omega
          clear hkg
          go_wp2
          go_ret
          exact ⟨rfl, HBR.out⟩
end Go.Proofs.YtkmalggeieiepabDoor
namespace Go.Proofs.YtkmalggeieiepabDoor
open Go.ChangeShapes Go.WideShapes Go.ChangeAt Go.RowKit
set_option linter.unusedVariables false
set_option maxRecDepth 100000

def ktabP : List Int := [1116352408, 1899447441, 3049323471, 3921009573, 961987163, 1508970993, 2453635748, 2870763221, 3624381080, 310598401, 607225278, 1426881987, 1925078388, 2162078206, 2614888103, 3248222580, 3835390401, 4022224774, 264347078, 604807628, 770255983, 1249150122, 1555081692, 1996064986, 2554220882, 2821834349, 2952996808, 3210313671, 3336571891, 3584528711, 113926993, 338241895, 666307205, 773529912, 1294757372, 1396182291, 1695183700, 1986661051, 2177026350, 2456956037, 2730485921, 2820302411, 3259730800, 3345764771, 3516065817, 3600352804, 4094571909, 275423344, 430227734, 506948616, 659060556, 883997877, 958139571, 1322822218, 1537002063, 1747873779, 1955562222, 2024104815, 2227730452, 2361852424, 2428436474, 2756734187, 3204031479, 3329325298]
def kcP (i : Nat) : Int := ktabP.getD i 0
theorem ownVP : ownKnob Tryd.prog.godebug = none := by kernel_rfl
theorem gWordsP : Tryd.prog.globalNamed "compact/hashes.roundWords" = some 0 := by kernel_rfl
theorem tWordsP : (Tryd.prog.globals[0]?).map (·.type) = some 135 := by kernel_rfl
theorem laidOutP : laidOutB Tryd.prog = true := by kernel_rfl
theorem cellsIntP : Tryd.prog.cellsOf 3 = 1 := by kernel_rfl
theorem door_metP (os : Os) (args : Array Value) : laidMetH Tryd.prog Rows.poolsRow.laid ((World.doorLaid Tryd.prog 400 os).forCall (fun _ _ => 0) ⟨#[], args, []⟩).memory :=
  laidMetH_of_parts3 (fuel := 8) (laidMet_of_run' 8 (by kernel_rfl) (by kernel_rfl)) (by kernel_rfl) (by kernel_rfl)
theorem kt_ofP {W : World} (h : laidMetH Tryd.prog Rows.poolsRow.laid W) : KT kcP W := by
  rw [MakeChecks.laidMetH_plain _ _ _ (by kernel_rfl)] at h
  have h2 : laidMet Tryd.prog (("compact/hashes.roundWords", Lib.tabData .u32 ktabP) :: []) W := h
  have hT := Lib.tabIs_of_head gWordsP tWordsP Tryd.underlying135 Tryd.underlying97 (by kernel_rfl) (by kernel_rfl) h2
  exact fun i hi => hT.cell gWordsP i hi

/-- ints that came in. -/
theorem open_row {H : Type} {enc : TypeId × Value → H} {w : World} {base : Nat} {spare : Nat → Bool} {held : Bool} {fuel : Nat} {v : Value} {x : DataW H × List MemPlace} (h : DataW.trod enc Tryd.prog w base spare held fuel 27 [v] = some x) :
    ∃ (a : Option Addr) (cap : Nat) (l : List Int), v = .slice a l.length cap ∧ (0 < l.length → ∃ b o, a = some ⟨b, o, none⟩ ∧ IRow w b o l ∧ b < w.heap.size) ∧ InR l := by
  rcases open_ints Tryd.underlying27 Tryd.underlying3 cellsIntP h with ⟨hcs, _⟩ | ⟨a, len, cap, zs, hcs, _, hl, _, hz2, _, hcell, hwf⟩
  · injection hcs with hcs
    subst hcs
    exact ⟨none, 0, [], rfl, fun h => by simp at h, fun x hx => by simp at hx⟩
  · injection hcs with hcs
    subst hcs
    have hsl : len ≤ zs.length := by rw [hz2]; split <;> omega
    have hlen : (zs.take len).length = len := by rw [List.length_take]; omega
    refine ⟨some a, cap, zs.take len, by rw [hlen], fun h0 => ?_, fun x hx => ?_⟩
    · rw [hlen] at h0
      obtain ⟨b, o, sp⟩ := a
      have hc0 := hcell 0 (by omega)
      have hsp : sp = none := by
        cases sp with
        | none => rfl
        | some x =>
          exfalso
          have : (⟨b, o, some x⟩ : Addr).add 0 = ⟨b, o, some x⟩ := rfl
          rw [this] at hc0
          unfold World.cell? at hc0
          split at hc0
          · simp at hc0
          · cases hc0
      subst hsp
      refine ⟨b, o, rfl, fun j x hx => ?_, ?_⟩
      · have hj : j < len := by have := (List.getElem?_eq_some_iff.1 hx).1; omega
        have h1 := hcell j (by omega)
        rw [Addr.add_mid] at h1
        rw [h1]
        rw [List.getElem?_take, if_pos hj] at hx
        simp [List.getD, hx]
      · rw [Addr.add_mid] at hc0
        exact World.block_lt_of_cell? w _ hc0
    · have hw := hwf x (List.mem_of_mem_take hx)
      have e1 : IntKind.i64.min = -9223372036854775808 := by decide
      have e2 : IntKind.i64.max = 9223372036854775807 := by decide
      simp only [Lit.wf, e1, e2, Bool.and_eq_true, decide_eq_true_eq] at hw
      exact hw

theorem pools_lifted (os : Os) (started : os.Started) (H : Type) (enc : TypeId × Value → H) :
    ReturnsInHanded {} Tryd.checked os 4 .any (fun w args => (Rows.poolsSpec.pre enc Tryd.prog Tryd.f4 [] false w args ∧ laidMetH Tryd.prog Rows.poolsRow.laid w) ∧ sizedMet enc Tryd.prog Tryd.f4 (OpenSpec.ofChange Rows.poolsSpec) false w args)
      (Rows.poolsSpec.post enc Tryd.prog Tryd.f4 false true false false) := by
  refine returnsInHanded_of_change_and (C := Tryd.checked) (X := fun w _ => laidMetH Tryd.prog Rows.poolsRow.laid w) (fun _ _ _ hh h => h.of_heap hh) ownVP started (by kernel_rfl) Tryd.func4
    (ChangeSpec.witness_shaped (enc := enc) (C := Tryd.checked) (os := os) (X := fun w _ => laidMetH Tryd.prog Rows.poolsRow.laid w) false (World.doorLaid Tryd.prog 400 os) #[.slice none 0 0, .slice none 0 0] 8 rfl (World.shaped_of_RefB (by kernel_rfl) (by kernel_rfl)) (by kernel_rfl) (by kernel_rfl) (by kernel_rfl) (door_metP os _)) ?_
  intro W base args ds gs before hval0 hW _ _ hL _
  have hval : ∀ (j : Nat) t v, Tryd.f4.params[j]? = some t → args[j]? = some v → Value.okWide Tryd.prog W .any base t v := hval0
  have hW' := hW
  obtain ⟨p, q, hA0, hV, rfl, hfz, hnd⟩ := hW
  have hA : DataW.TrodAll enc Tryd.prog W 0 (fun _ => true) true Tryd.f4.params.toList args.toList ds p := hA0
  rw [Tryd.params4] at hA hval
  obtain ⟨v0, vs0, d0, ds0, p0, q0, hargs, rfl, rfl, h0, r0⟩ := trodAll_cons hA
  obtain ⟨v1, vs1, d1, ds1, p1, q1, rfl, rfl, rfl, h1, r1⟩ := trodAll_cons r0
  obtain ⟨rfl, rfl, rfl⟩ := trodAll_nil r1
  obtain rfl : args = #[v0, v1] := by cases args; simp_all
  obtain ⟨rfl, rfl⟩ := trodVars_none hV
  obtain ⟨x0, n0, k0, rfl⟩ := okWide_slice Tryd.underlying27 (hval 0 27 v0 rfl rfl)
  obtain ⟨x1, n1, k1, rfl⟩ := okWide_slice Tryd.underlying27 (hval 1 27 v1 rfl rfl)
  have h0k := h0
  have h1k := h1
  obtain ⟨fuel0, hf0⟩ := h0
  obtain ⟨fuel1, hf1⟩ := h1
  have hkt := kt_ofP hL
  clear hA0 hval0
  simp only [List.append_nil] at hW'
  have hlt0 : ∀ x ∈ p0, x.block < W.heap.size := fun x hx => by simpa using hW'.lt x (by simp [hx])
  have hlt1 : ∀ x ∈ p1, x.block < W.heap.size := fun x hx => by simpa using hW'.lt x (by simp [hx])
  obtain ⟨a0, c0, l0, e0, hr0, hi0⟩ := open_row hf0
  obtain ⟨a1, c1, l1, e1, hr1, hi1⟩ := open_row hf1
  injection e0 with e01 e02 e03
  subst e01 e02 e03
  injection e1 with e11 e12 e13
  subst e11 e12 e13
  refine (pools_walk kcP l0 l1 x0 x1 k0 k1 W hkt hr0 hr1 hi0 hi1).mono fun e W' ⟨he, bel⟩ => ?_
  subst he
  exact ⟨_, rfl, _, _, _, [], _, [], hW', trodAll_mk1 (shut_bool Tryd.underlying4 _), (trodAll_cons_mk (Below.trod laidOutP (by kernel_rfl) (of_decide_eq_true (by kernel_rfl)) h0k bel hlt0) (trodAll_mk1 (Below.trod laidOutP (by kernel_rfl) (of_decide_eq_true (by kernel_rfl)) h1k bel hlt1))), rfl, bel.frame _, fun h => by cases h⟩

theorem pools_holds : Rows.PoolsSaid :=
  OpenClaim.holds_of_wide 4 Tryd.f4 rfl rfl rfl rfl rfl rfl rfl ⟨rfl, rfl, rfl, rfl, rfl⟩ rfl rfl rfl rfl rfl (by kernel_rfl) Tryd.func4 (by kernel_rfl)
    (of_decide_eq_true (by kernel_rfl)) (by unfold Func.isWrapper; first | (rw [if_pos (by decide +kernel)]; kernel_rfl) | (rw [if_neg (by decide +kernel)]; exact ⟨rfl, rfl⟩))
    (fun os started H enc _ => pools_lifted os started H enc)

theorem pools_card : Rows.PoolsCardSaid :=
  Claim7.holds_tied_plain_at .later [] [.data] true _ _
    pools_holds (fun _ h => by cases h) (by kernel_rfl) (fun _ h => by cases h) pools_row_tie rfl ⟨rfl, rfl⟩ (by kernel_rfl) rfl
    (fun f fn hf hfn => by
      obtain rfl : f = 4 := Option.some.inj ((show Tryd.prog.funcNamed "compact/compactkeep.Pools" = some 4 by kernel_rfl).symm.trans hf) |>.symm
      obtain rfl : fn = Tryd.f4 := (Option.some.inj (Tryd.func4.symm.trans hfn)).symm
      exact ⟨by kernel_rfl, fun j t ht => by
        rw [Tryd.params4] at ht
        match j, ht with
        | 0, ht => cases ht; first | rfl | kernel_rfl | decide
        | 1, ht => cases ht; first | rfl | kernel_rfl | decide
        | n + 2, ht => simp at ht⟩)
    (by kernel_rfl)
#print axioms pools_card
end Go.Proofs.YtkmalggeieiepabDoor
