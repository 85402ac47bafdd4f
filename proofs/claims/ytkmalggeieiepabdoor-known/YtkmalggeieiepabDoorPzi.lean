import Derived.Test.YtkmalggeieiepabDoorPzc
import Derived.WalkKit
import Derived.WalkSpells
import Derived.WalkLawsBesides
import Derived.OrdersHeld
import Derived.Deep.RegionHeld
import Derived.Deep.AppendLies
import Derived.Test.YtkmalggeieiepabDoorRows
import Derived.Test.YtkmalggeieiepabDoorShaM
import Derived.Below
import Derived.Test.YtkmalggeieiepabDoorPza
import Derived.Lib.Strings
import Derived.Deep.QuietTactic
import Derived.BigQuiet
import Derived.Deep.LoopGhost
import Derived.Deep.DeepCutAuto
import Derived.Test.YtkmalggeieiepabDoorPzh
import Derived.Test.YtkmalggeieiepabDoorPzd
import Derived.Deep.MidRow
import Derived.Lib.AppendStr
import Derived.OwnWalk
namespace Go.Proofs.YtkmalggeieiepabDoor
open Go Go.RowKit

section
variable {P : Program} {ops : Array Oper} {Q : Exit → Act → World → Prop} {md : Region.Mode} {S : World → Prop} {k : Nat}

/-- whatever order is picked: S holds behind each operation that comes up, but for the last one, number k. -/
def wpAnyT (P : Program) (md : Region.Mode) (ops : Array Oper) (Q : Exit → Act → World → Prop) (S : World → Prop) (k : Nat) : Nat → Array Bool → Act → World → Prop
  | 0, listed, a, w => Region.ready md ops listed = [] ∧ Q .normal a w
  | fuel + 1, listed, a, w =>
    (Region.ready md ops listed = [] → Q .normal a w) ∧
    ∀ i ∈ Region.ready md ops listed, wpOp P ops Q i (fun a' w' => (i ≠ k → S w') ∧ wpAnyT P md ops Q S k fuel (listed.setIfInBounds i true) a' w') a w
theorem wpAny_of_T : ∀ (fuel : Nat) (listed : Array Bool) (a : Act) (w : World), wpAnyT P md ops Q S k fuel listed a w → wpAny P md ops Q fuel listed a w
  | 0, _, _, _, h => h
  | fuel + 1, _, _, _, h => ⟨h.1, fun i hi => wpOp_mono (fun a' w' h' => wpAny_of_T fuel _ a' w' h'.2) (h.2 i hi)⟩
/-- k waits for i. -/
def waits (md : Region.Mode) (ops : Array Oper) (k i : Nat) : Bool := match ops[k]? with
  | some o => o.after.any fun e => Region.binds md e && e.on == i
  | none => false
theorem waits_not {i : Nat} {listed : Array Bool} (hw : waits md ops k i = true) (hr : i ∈ Region.ready md ops listed) (hk : k ∈ Region.ready md ops listed) : False := by
  obtain ⟨_, ok, hok, hall⟩ := mem_ready.1 hk
  unfold waits at hw
  rw [hok] at hw
  obtain ⟨j, hj, h2⟩ := Array.any_iff_exists.1 hw
  have he : ok.after[j] ∈ ok.after := Array.getElem_mem _
  simp only [Bool.and_eq_true, beq_iff_eq] at h2
  have h1 := hall _ he h2.2.2.1
  have h0 := (mem_ready.1 hr).1
  rw [h2.2.2.2] at h1
  rcases Nat.lt_or_ge i listed.size with h' | h'
  · simp [h'] at h0 h1; rw [h0] at h1; cases h1
  · simp [Array.getElem?_eq_none h'] at h1
theorem wpAnyT_first {i : Nat} {oi : Oper} {v : Value} (hi : ops[i]? = some oi) (hsel : ∀ (j : Nat) (o : Oper) cs b, ops[j]? = some o → o.op ≠ .select cs b)
    (hQ : ∀ c a w, Q (.panic c) (a.put oi.dst v) w → Q (.panic c) a w) (hwk : waits md ops k i = true) :
    ∀ (fuel : Nat) (listed : Array Bool) (a : Act) (w : World),
      (∀ j oj, ops[j]? = some oj → j ≠ i → listed.getD j true = false → (∀ e ∈ oj.after, Region.binds md e = true → e.on ≠ i) → oi.apart ops oj = true) →
      i ∈ Region.ready md ops listed → YieldsIf P ops S oi v a → S w →
      wpAnyT P md ops Q S k fuel (listed.setIfInBounds i true) (a.put oi.dst v) w → wpAnyT P md ops Q S k (fuel + 1) listed a w := by
  intro fuel
  induction fuel with
  | zero =>
    intro listed a w _ hr hy hS H
    refine ⟨fun h => (by rw [h] at hr; cases hr), fun j hj => ?_⟩
    by_cases hji : j = i
    · subst hji; exact hy.wpOp hi hS ⟨fun _ => hS, H⟩
    · have := ready_mono hj hji
      rw [H.1] at this
      cases this
  | succ fuel ih =>
    intro listed a w hfree hr hy hS H
    refine ⟨fun h => (by rw [h] at hr; cases hr), fun j hj => ?_⟩
    by_cases hji : j = i
    · subst hji; exact hy.wpOp hi hS ⟨fun _ => hS, H⟩
    · have hjk : j ≠ k := fun e => waits_not hwk hr (e ▸ hj)
      have h1 := H.2 j (ready_mono hj hji)
      obtain ⟨hjun, oj, hoj, hall⟩ := mem_ready.1 hj
      have hnot : ∀ e ∈ oj.after, Region.binds md e = true → e.on ≠ i := fun e he hb heq => by
        have h1 := hall e he hb
        have h0 := (mem_ready.1 hr).1
        rw [heq] at h1
        rcases Nat.lt_or_ge i listed.size with h' | h'
        · simp [h'] at h0 h1; rw [h0] at h1; cases h1
        · simp [Array.getElem?_eq_none h'] at h1
      have h2 := wpOp_putIf hoj (hfree j oj hoj hji hjun hnot) (fun cs b => hsel i oi cs b hi) (fun cs b => hsel j oj cs b hoj) hQ hy h1
      have hfree' : ∀ k ok, ops[k]? = some ok → k ≠ i → (listed.setIfInBounds j true).getD k true = false →
          (∀ e ∈ ok.after, Region.binds md e = true → e.on ≠ i) → oi.apart ops ok = true := fun k ok hk hki hun hno => by
        refine hfree k ok hk hki ?_ hno
        by_cases hjk : j = k
        · subst hjk; exact hjun
        · rw [getD_set_ne true hjk] at hun; exact hun
      refine wpOp_mono (fun a' w' h3 => ⟨h3.2.1, ih (listed.setIfInBounds j true) a' w' hfree' (ready_mono hr (Ne.symm hji)) h3.1 (h3.2.1 hjk) ?_⟩) h2
      rw [Array.setIfInBounds_comm _ _ hji]
      exact h3.2.2
theorem wpAnyT_take {i : Nat} {oi : Oper} {v : Value} {fuel : Nat} {listed : Array Bool} {a : Act} {w : World} (hi : ops[i]? = some oi)
    (hs : Region.noSelect ops = true) (hf : Region.free md ops listed i = true) (hr : (Region.ready md ops listed).contains i = true) (hwk : waits md ops k i = true)
    (hQ : ∀ c a w, Q (.panic c) (a.put oi.dst v) w → Q (.panic c) a w) (hy : YieldsIf P ops S oi v a) (hS : S w)
    (h : wpAnyT P md ops Q S k fuel (listed.setIfInBounds i true) (a.put oi.dst v) w) : wpAnyT P md ops Q S k (fuel + 1) listed a w :=
  wpAnyT_first hi (Region.noSelect_spec hs) hQ hwk fuel listed a w (Region.free_spec hi hf) (by simpa using hr) hy hS h
theorem wpAnyT_one {i : Nat} {fuel : Nat} {listed : Array Bool} {a : Act} {w : World} (hr : Region.ready md ops listed = [i])
    (h : wpOp P ops Q i (fun a' w' => (i ≠ k → S w') ∧ wpAnyT P md ops Q S k fuel (listed.setIfInBounds i true) a' w') a w) : wpAnyT P md ops Q S k (fuel + 1) listed a w :=
  ⟨fun h0 => absurd (hr ▸ h0) (by simp), fun j hj => by
    rw [hr] at hj
    obtain rfl : j = i := by simpa using hj
    exact h⟩
theorem wpAnyT_done {listed : Array Bool} {a : Act} {w : World} (hr : Region.ready md ops listed = []) (h : Q .normal a w) :
    ∀ fuel, wpAnyT P md ops Q S k fuel listed a w
  | 0 => ⟨hr, h⟩
  | _ + 1 => ⟨fun _ => h, by rw [hr]; simp⟩
theorem wp_region_T {id : Nat} {a : Act} {w : World} (hm : P.follows .mixedOrders = true) (hS : S w.drew)
    (h : S w.drew → wpAnyT P .any ops Q S k ops.size (Array.replicate ops.size false) a w.drew) : (Code.region id ops true).wp P Q a w :=
  wp_region_any hm (wpAny_of_T _ _ _ _ (h hS))
/-- the one operation that may come up yields a value. -/
theorem qT_one {fuel : Nat} {listed : Array Bool} {a : Act} {w : World} (i : Nat) {o : Oper} (v : Value) (w' : World) (hr : Region.ready md ops listed = [i]) (hi : ops[i]? = some o) (hg : o.guard = none)
    (h : (execOp a.eval o).run P w = .ok (.value v) w') (hS : i ≠ k → S w') (hk : wpAnyT P md ops Q S k fuel (listed.setIfInBounds i true) (a.put o.dst v) w') : wpAnyT P md ops Q S k (fuel + 1) listed a w := by
  refine wpAnyT_one hr ?_
  unfold wpOp
  simp only [hi]
  have hw : Region.wanted o (yielded ops a.tmps) = true := by simp [Region.wanted, hg]
  rw [if_pos hw]
  refine .inl ?_
  unfold Oper.wp; rw [h]; exact ⟨hS, hk⟩
/-- .. a store. -/
theorem qT_skip {fuel : Nat} {listed : Array Bool} {a : Act} {w : World} (i : Nat) {o : Oper} (w' : World) (hr : Region.ready md ops listed = [i]) (hi : ops[i]? = some o) (hg : o.guard = none)
    (h : (execOp a.eval o).run P w = .ok .skip w') (hS : i ≠ k → S w') (hk : wpAnyT P md ops Q S k fuel (listed.setIfInBounds i true) (a.put o.dst undef) w') : wpAnyT P md ops Q S k (fuel + 1) listed a w := by
  refine wpAnyT_one hr ?_
  unfold wpOp
  simp only [hi]
  have hw : Region.wanted o (yielded ops a.tmps) = true := by simp [Region.wanted, hg]
  rw [if_pos hw]
  refine .inl ?_
  unfold Oper.wp; rw [h]; exact ⟨hS, hk⟩
/-- .. a call, which may leave by a panic. -/
theorem qT_call {fuel : Nat} {listed : Array Bool} {a : Act} {w : World} (i : Nat) {o : Oper} (f : FuncId) (args : Array Value) (R : Ending → World → Prop) (hr : Region.ready md ops listed = [i]) (hi : ops[i]? = some o) (hg : o.guard = none)
    (h : (execOp a.eval o).run P w = .ok (.enter f args) w) (hc : Calls P f args w R)
    (hk : ∀ v w', R (.returned v) w' → (i ≠ k → S w') ∧ wpAnyT P md ops Q S k fuel (listed.setIfInBounds i true) (a.put o.dst v) w') (hp : ∀ ch w', R (.panicked ch) w' → Q (.panic ch) a w') (ho : ∀ w', R .outgrown w' → False) : wpAnyT P md ops Q S k (fuel + 1) listed a w := by
  refine wpAnyT_one hr ?_
  unfold wpOp
  simp only [hi]
  have hw : Region.wanted o (yielded ops a.tmps) = true := by simp [Region.wanted, hg]
  rw [if_pos hw]
  refine .inl ?_
  unfold Oper.wp; rw [h]
  show Calls _ _ _ _ _
  refine hc.mono fun x w' hx => ?_
  cases x with
  | returned v => exact hk v w' hx
  | panicked ch => exact hp ch w' hx
  | outgrown => exact (ho w' hx).elim
/-- .. an append, told by a law on the plain step. -/
theorem qT_step {fuel : Nat} {listed : Array Bool} {a : Act} {w : World} (i : Nat) {o : Oper} (hr : Region.ready md ops listed = [i]) (hi : ops[i]? = some o)
    (h : ∀ K : Act → World → Prop, Hid (∀ a' w', (i ≠ k → S w') → (wpAnyT P md ops Q S k fuel (listed.setIfInBounds i true) a' w') → K a' w') → if Region.wanted o (yielded ops a.tmps) = true then Oper.wp P o a w K Q else K (a.put o.dst undef) w) : wpAnyT P md ops Q S k (fuel + 1) listed a w := by
  refine wpAnyT_one hr ?_
  have h2 := h (fun a' w' => (i ≠ k → S w') ∧ wpAnyT P md ops Q S k fuel (listed.setIfInBounds i true) a' w') (fun a' w' h1 h2 => ⟨h1, h2⟩)
  unfold wpOp
  simp only [hi]
  split
  · rename_i hw
    rw [if_pos hw] at h2
    exact .inl h2
  · rename_i hw
    rw [if_neg hw] at h2
    exact h2
end
end Go.Proofs.YtkmalggeieiepabDoor
namespace Go.Proofs.YtkmalggeieiepabDoor
open Go.RowKit

end Go.Proofs.YtkmalggeieiepabDoor
namespace Go.Proofs.YtkmalggeieiepabDoor
open Go.RowKit

/-- words worked in till nothing is left. -/
def absR (v : St) (l : List UInt8) : St :=
  if _h : 8 ≤ l.length then absR (wrd v (num (l.take 8))) (l.drop 8) else v
  termination_by l.length
  decreasing_by simp; omega
theorem absR_word (v : St) (l : List UInt8) (h : 8 ≤ l.length) : absR v l = absR (wrd v (num (l.take 8))) (l.drop 8) := by
  rw [absR]; simp [h]
theorem absR_nil (v : St) : absR v [] = v := by rw [absR]; simp
theorem num_zeros (j : Nat) : num (List.replicate j 0) = 0 := by
  induction j with
  | zero => rfl
  | succ j ih => simp [List.replicate_succ, num, ih]
theorem num_last (l : List UInt8) (j : Nat) (b : UInt8) (h : l.length + j = 7) : num (l ++ List.replicate j 0 ++ [b]) = num l + 72057594037927936 * b.toNat := by
  rw [num_append, num_append, num_zeros]
  have e : (l ++ List.replicate j 0).length = 7 := by simp [h]
  rw [e]; simp [num]
theorem lastW_eq (n : Nat) (l : List UInt8) (h : l.length ≤ 7) : lastW n l = ((num l + 72057594037927936 * (UInt8.ofNat n).toNat : Nat) : Int) := by
  have h1 := num_lt l
  have h2 : 256 ^ l.length ≤ 256 ^ 7 := Nat.pow_le_pow_right (by omega) h
  have h3 : 256 ^ 7 = 72057594037927936 := by decide
  have h4 : (UInt8.ofNat n).toNat = n % 256 := by simp
  unfold lastW
  rw [h4, IntKind.wrap_u64, IntKind.wrap_u64]
  have h5 : (↑n % 18446744073709551616 * 72057594037927936 : Int) % 18446744073709551616 = ((n % 256 * 72057594037927936 : Nat) : Int) := by omega
  rw [h5]
  rw [bits_join .u64 64 (by decide) (fun n h h' => by rw [IntKind.wrap_u64]; omega) 56 _ _ (by omega) (by omega) (by omega) (by omega) (by omega) (by omega)]
  omega
theorem absR_pad (n : Nat) (j : Nat) : ∀ (m : Nat) (v : St) (l : List UInt8), l.length = m → (l.length + j + 1) % 8 = 0 → j < 8 → absR v (l ++ List.replicate j 0 ++ [UInt8.ofNat n]) = absorb n v l := by
  intro m
  induction m using Nat.strongRecOn with
  | ind m ih =>
    intro v l hl hm hj
    by_cases h8 : 8 ≤ l.length
    · rw [absorb_word n v l h8, absR_word _ _ (by simp; omega)]
      have e1 : (l ++ List.replicate j 0 ++ [UInt8.ofNat n]).take 8 = l.take 8 := by rw [List.append_assoc, List.take_append_of_le_length h8]
      have e2 : (l ++ List.replicate j 0 ++ [UInt8.ofNat n]).drop 8 = l.drop 8 ++ List.replicate j 0 ++ [UInt8.ofNat n] := by rw [List.append_assoc, List.drop_append_of_le_length h8, List.append_assoc]
      rw [e1, e2]
      exact ih (l.drop 8).length (by simp; omega) _ _ rfl (by simp; omega) hj
    · have e : (l ++ List.replicate j 0 ++ [UInt8.ofNat n]).length = 8 := by simp; omega
      rw [absorb_last n v l h8, absR_word _ _ (by omega)]
      rw [List.take_of_length_le (by omega), List.drop_of_length_le (by omega), absR_nil, lastW_eq n l (by omega), num_last l j _ (by omega)]

theorem sapp_toList (t : ByteArray) (b : UInt8) : (t ++ ⟨#[b]⟩ : ByteArray).data.toList = t.data.toList ++ [b] := by
  rw [ByteArray.data_append]; simp
theorem sapp_size (t : ByteArray) (b : UInt8) : (t ++ ⟨#[b]⟩ : ByteArray).size = t.size + 1 := by
  rw [ByteArray.size_append]; rfl
theorem stoList_eq (s : ByteArray) : s.toList = s.data.toList := by
  obtain ⟨⟨l⟩⟩ := s
  simp
theorem ssome_left (t : ByteArray) (h : 8 ≤ t.size) : t.toList.isEmpty = false := by
  rw [stoList_eq]
  have hl : t.data.toList.length = t.size := rfl
  cases e : t.data.toList with
  | nil => rw [e] at hl; simp at hl; omega
  | cons a l => rfl
theorem snone_left (t : ByteArray) (h : t.size = 0) : t.toList.isEmpty = true := by
  rw [stoList_eq]
  have hl : t.data.toList.length = t.size := rfl
  cases e : t.data.toList with
  | nil => rfl
  | cons a l => rw [e] at hl; simp at hl; omega
theorem At4.set0 {w : World} {b : Nat} {v : St} (h : At4 w b v) (x : Int) : At4 (w.setCell ⟨b, 0, none⟩ (.int .u64 x)) b ⟨x, v.b, v.c, v.d⟩ := by
  obtain ⟨h0, h1, h2, h3⟩ := h
  simp [At4, sc_same, World.cell?_setCell_other, h0, h1, h2, h3]
theorem At4.set2 {w : World} {b : Nat} {v : St} (h : At4 w b v) (x : Int) : At4 (w.setCell ⟨b, 2, none⟩ (.int .u64 x)) b ⟨v.a, v.b, x, v.d⟩ := by
  obtain ⟨h0, h1, h2, h3⟩ := h
  simp [At4, sc_same, World.cell?_setCell_other, h0, h1, h2, h3]
theorem At4.set3 {w : World} {b : Nat} {v : St} (h : At4 w b v) (x : Int) : At4 (w.setCell ⟨b, 3, none⟩ (.int .u64 x)) b ⟨v.a, v.b, v.c, x⟩ := by
  obtain ⟨h0, h1, h2, h3⟩ := h
  simp [At4, sc_same, World.cell?_setCell_other, h0, h1, h2, h3]
theorem Free4.set {w : World} {b : Nat} (h : Free4 w b) (a : Addr) (v : Value) : Free4 (w.setCell a v) b := by
  simpa [Free4] using h
theorem n_uesp : num [117, 101, 115, 112, 101, 109, 111, 115] = 8317987319222330741 := by decide
theorem n_modn : num [109, 111, 100, 110, 97, 114, 111, 100] = 7237128888997146477 := by decide
theorem n_aren : num [97, 114, 101, 110, 101, 103, 121, 108] = 7816392313619706465 := by decide
theorem n_sety : num [115, 101, 116, 121, 98, 100, 101, 116] = 8387220255154660723 := by decide
end Go.Proofs.YtkmalggeieiepabDoor
namespace Go.Proofs.YtkmalggeieiepabDoor
open Go.RowKit

end Go.Proofs.YtkmalggeieiepabDoor
namespace Go.Proofs.YtkmalggeieiepabDoor
open Go.RowKit

end Go.Proofs.YtkmalggeieiepabDoor
namespace Go.Proofs.YtkmalggeieiepabDoor
open Go.RowKit

/-- one byte, as a string. -/
theorem sstr1 (W : World) (x : Int) (h0 : 0 ≤ x) (h1 : x < 256) : (convert 23 9 (.slice (some ⟨W.heap.size, 0, none⟩) 1 1)).run Tryd.prog (W.alloc (.cells #[.int .u8 x] 5)) = .ok (.string ⟨#[UInt8.ofNat x.toNat]⟩) (W.alloc (.cells #[.int .u8 x] 5)) := by
  have e : ((UInt8.ofNat x.toNat).toNat : Int) = x := by simp; omega
  have := run_convert_bytes_back (P := Tryd.prog) (W.alloc (.cells #[.int .u8 x] 5)) 23 9 5 ⟨W.heap.size, 0, none⟩ 1 [UInt8.ofNat x.toNat] Tryd.underlying23 Tryd.underlying5 Tryd.underlying9
  refine this (fun j hj => ?_)
  obtain rfl : j = 0 := by simpa using hj
  simp only [List.getElem_cons_zero, e]
  simp [Addr.add, go_sem]

end Go.Proofs.YtkmalggeieiepabDoor
namespace Go.Proofs.YtkmalggeieiepabDoor
open Go.RowKit

/-- the two halves of a key. -/
def key1 (d : ByteArray) : Nat := num (d.extract 0 8).data.toList
def key2 (d : ByteArray) : Nat := num (d.extract 8 16).data.toList

theorem fin_ok (v : St) : 0 ≤ fin v ∧ fin v < 18446744073709551616 := by
  have h : ∀ (o : BinOp) (x y : Int), 0 ≤ bits o .u64 x y ∧ bits o .u64 x y < 18446744073709551616 := fun o x y => by
    have : ∀ z : Int, 0 ≤ IntKind.u64.wrap z ∧ IntKind.u64.wrap z < 18446744073709551616 := fun z => by rw [IntKind.wrap_u64]; omega
    exact this _
  unfold fin
  generalize rnds 4 _ = u
  exact h _ _ _
/-- SipHash of a text, by a key. -/
def sipN (k l : Nat) (s : ByteArray) : Nat := (fin (absorb s.size (ini (k : Int) (l : Int)) s.data.toList)).toNat
theorem sipN_ok (k l : Nat) (s : ByteArray) : U64 (sipN k l s) := by
  have := fin_ok (absorb s.size (ini (k : Int) (l : Int)) s.data.toList)
  unfold U64 sipN; omega
theorem sipN_int (k l : Nat) (s : ByteArray) : (sipN k l s : Int) = fin (absorb s.size (ini (k : Int) (l : Int)) s.data.toList) := by
  have := fin_ok (absorb s.size (ini (k : Int) (l : Int)) s.data.toList)
  unfold sipN; omega
/-- a short id. -/
def shortL (dg : ByteArray → ByteArray) (h n tx : ByteArray) : List UInt8 := le (sipN (key1 (dg (h ++ n))) (key2 (dg (h ++ n))) (dg (dg tx))) 6

end Go.Proofs.YtkmalggeieiepabDoor
set_option linter.unusedSimpArgs false
namespace Go.Proofs.YtkmalggeieiepabDoor
open Go.RowKit

/-- the digest as a text. -/
def sg (Kc : Nat → Int) (t : ByteArray) : ByteArray := strOf (shaF Kc t.data.toList) 32
theorem sg_size (Kc : Nat → Int) (t : ByteArray) : (sg Kc t).size = 32 := strOf_size _ _
theorem dd_sg (Kc : Nat → Int) (t : ByteArray) : dd Kc t = sg Kc (sg Kc t) := rfl

set_option maxRecDepth 10000 in
set_option maxHeartbeats 1000000 in
theorem hdName_any (Kc : Nat → Int) (h : ByteArray) (w : World) (hkt : KT Kc w) (hs : h.size ≤ 1099511627776) :
    Calls Tryd.prog 71 #[.string h] w fun e w' => e = .returned (aggD (dd Kc h)) ∧ Below w.heap.size w w' := by
  have hpos : 0 < w.heap.size := World.block_lt_of_cell? w _ (hkt 0 (by omega))
  have HE : Hid (aggD (dd Kc h) = .agg (wl .u8 (dbl Kc h.data.toList) 32).toArray) := by show _ = _; unfold aggD dd; rw [bc_strOf (dbl Kc h.data.toList) 32 (shaF_lt Kc _)]
  rw [HE.out]
  obtain ⟨W1, hW1⟩ : ∃ W, W = w.alloc (.cells #[.int .u8 0, .int .u8 0, .int .u8 0, .int .u8 0, .int .u8 0, .int .u8 0, .int .u8 0, .int .u8 0, .int .u8 0, .int .u8 0, .int .u8 0, .int .u8 0, .int .u8 0, .int .u8 0, .int .u8 0, .int .u8 0, .int .u8 0, .int .u8 0, .int .u8 0, .int .u8 0, .int .u8 0, .int .u8 0, .int .u8 0, .int .u8 0, .int .u8 0, .int .u8 0, .int .u8 0, .int .u8 0, .int .u8 0, .int .u8 0, .int .u8 0, .int .u8 0] 59) := ⟨_, rfl⟩
  have HA : Hid (Arr .u8 W1 w.heap.size (fun _ => 0) 32) := by show Arr _ _ _ _ _; rw [hW1]; exact Arr.new _ _ 32 _ _ (by rfl)
  have HB1 : Hid (Below w.heap.size w W1) := by show Below _ _ _; rw [hW1]; exact (Below.refl _ _).alloc (Nat.le_refl _) _
  have HZ1 : Hid (W1.heap.size = w.heap.size + 1) := by show _ = _; rw [hW1]; simp
  have hd := double_one Kc h W1 (hkt.later HB1.out hpos) hs
  clear hkt hs HE
  generalize dbl Kc h.data.toList = f at hd
  go_enter Tryd.func71, Tryd.ntmps71
  go_upto_region 1 with fail
  rw [← hW1]
  clear hW1
  go_wp2_with (first
    | (go_at_call 27; go_must (refine hd.mono ?_); rintro e w2 ⟨rfl, hb2⟩; have HB2 := (show Hid (Below W1.heap.size W1 w2) from hb2); have HA2 := (show Hid (Arr .u8 w2 w.heap.size (fun _ => 0) 32) from HA.out.later hb2 (by have := HZ1.out; omega)); clear hb2)
    | (refine wpList_store_arr rfl 59 _ _ rfl w.heap.size .u8 (fun _ => 0) f 32 rfl rfl ?_ (by kernel_rfl) ?_; exact HA2.out))
  refine bodyPost_ret (results_arr Tryd.results71 _ _ w.heap.size .u8 f 32 _ rfl (HA2.out.all _) Tryd.underlying59 rfl (by kernel_rfl)) rfl ⟨rfl, ?_⟩
  exact below_setCells (HB1.out.trans (HB2.out.mono (by have := HZ1.out; omega))) _ (Nat.le_refl _) _ _
/-- a digest of two texts. -/
theorem sum_two (Kc : Nat → Int) (s t : ByteArray) (w : World) (hkt : KT Kc w) (hs : (s ++ t).size ≤ 1099511627776) :
    Calls Tryd.prog 22 #[.slice (some ⟨w.heap.size, 0, none⟩) 2 2] (w.alloc (.cells #[.string s, .string t] 9)) fun e w' => e = .returned (aggD (sg Kc (s ++ t))) ∧ Below w.heap.size w w' := by
  have hpos : 0 < w.heap.size := World.block_lt_of_cell? w _ (hkt 0 (by omega))
  have hT : Texts (w.alloc (.cells #[.string s, .string t] 9)) w.heap.size [s, t] := by
    intro j hj
    have : j = 0 ∨ j = 1 := by simp at hj; omega
    rcases this with rfl | rfl <;> simp [go_sem]
  have hc : cat [s, t] = (s ++ t).data.toList := by simp [cat, ByteArray.data_append]
  have hl : (s ++ t).data.toList.length = (s ++ t).size := rfl
  have hcall := sum_any Kc [s, t] w.heap.size (w.alloc (.cells #[.string s, .string t] 9)) hT (by simp) (hkt.later ((Below.refl _ _).alloc (Nat.le_refl _) _) hpos) (by rw [hc, hl]; exact hs) (by simp)
  rw [hc] at hcall
  refine hcall.mono fun e w' ⟨h1, h2⟩ => ⟨?_, ?_⟩
  · rw [h1]; unfold aggD sg; rw [bc_strOf _ _ (shaF_lt Kc _)]
  · exact ((Below.refl _ _).alloc (Nat.le_refl _) _).trans (h2.mono (by simp))

theorem run_store_cells {P : Program} {w : World} {ρ : Operand → Value} {o : Oper} (ty : TypeId) (x y : Operand) (ho : o.op = .store ty x y) (g off : Nat) (cs : List Value) (hx : ρ x = .pointer (some ⟨g, off, none⟩)) (hy : ρ y = .agg cs.toArray)
    (ht : w.there g off cs.length) (hi : (P.info? ty).map (·.size) = some cs.length) (h1 : ∀ v ∈ cs, v.oneCell' = true) : (execOp ρ o).run P w = .ok .skip (w.setCells g off cs) := by
  have h := run_storeVar_mid (P := P) w g off ty cs.toArray (by simpa using ht) (by simpa using hi) (all_oneCell_toArray h1)
  unfold execOp
  simp only [ho, hx, hy, Instr.storeAt, Instr.sureAddr, Sem.run_bind, Sem.run_pure, Result.andThen_ok, h]
theorem returned_inj {v u : Value} (h : Ending.returned v = .returned u) : v = u := by injection h

set_option maxRecDepth 10000 in
set_option maxHeartbeats 2000000 in
theorem shortKey_any (Kc : Nat → Int) (h : ByteArray) (n : Nat) (w : World) (hkt : KT Kc w) (hh : h.size ≤ 1000) (hn : U64 n) :
    Calls Tryd.prog 60 #[.string h, .int .u64 (n : Int)] w fun e w' => e = .returned (.agg #[.int .u64 (key1 (sg Kc (h ++ ofL (le n 8))) : Int), .int .u64 (key2 (sg Kc (h ++ ofL (le n 8))) : Int)]) ∧ Below w.heap.size w w' := by
  have hpos : 0 < w.heap.size := World.block_lt_of_cell? w _ (hkt 0 (by omega))
  obtain ⟨W1, hW1⟩ : ∃ W, W = w.alloc (.cells #[.int .u64 0, .int .u64 0] 123) := ⟨_, rfl⟩
  have HB1 : Hid (Below w.heap.size w W1) := by show Below _ _ _; rw [hW1]; exact (Below.refl _ _).alloc (Nat.le_refl _) _
  have hz1 : W1.heap.size = w.heap.size + 1 := by rw [hW1]; simp
  have hN := inBytes_any n 8 W1 hn (by omega) (by omega)
  have hz8 : (ofL (le n 8)).size = 8 := by rw [ofL_size, le_length]
  have HS : Hid (∀ W, Below w.heap.size w W → Calls Tryd.prog 22 #[.slice (some ⟨W.heap.size, 0, none⟩) 2 2] (W.alloc (.cells #[.string h, .string (ofL (le n 8))] 9)) fun e w' => e = .returned (aggD (sg Kc (h ++ ofL (le n 8)))) ∧ Below W.heap.size W w') := fun W hW => sum_two Kc h _ W (hkt.later hW hpos) (by rw [ByteArray.size_append]; omega)
  have HTX : Hid (∀ W, Calls Tryd.prog 23 #[aggD (sg Kc (h ++ ofL (le n 8)))] W fun e w' => e = .returned (.string (sg Kc (h ++ ofL (le n 8)))) ∧ Below W.heap.size W w') := fun W => text_d _ (sg_size _ _) W
  have hd := sg_size Kc (h ++ ofL (le n 8))
  have HC : Hid (∀ W, Below W1.heap.size W1 W → W.cell? ⟨w.heap.size, 0, none⟩ = some (.int .u64 0) ∧ W.cell? ⟨w.heap.size, 1, none⟩ = some (.int .u64 0) ∧ W.frozen? ⟨w.heap.size, 0, none⟩ = false ∧ W.frozen? ⟨w.heap.size, 1, none⟩ = false) := fun W hW =>
    ⟨by rw [hW.cell (p := ⟨w.heap.size, 0, none⟩) (by show w.heap.size < _; omega), hW1]; simp [go_sem], by rw [hW.cell (p := ⟨w.heap.size, 1, none⟩) (by show w.heap.size < _; omega), hW1]; simp [go_sem], by rw [hW.frozen (p := ⟨w.heap.size, 0, none⟩) (by show w.heap.size < _; omega), hW1]; simp [go_sem], by rw [hW.frozen (p := ⟨w.heap.size, 1, none⟩) (by show w.heap.size < _; omega), hW1]; simp [go_sem]⟩
  clear hkt hh hn hz8
  generalize sg Kc (h ++ ofL (le n 8)) = d at HS HTX hd
  generalize ofL (le n 8) = nb at hN HS
  have HK1 : Hid (key1 d = num (d.extract 0 8).data.toList) := rfl
  have HK2 : Hid (key2 d = num (d.extract 8 16).data.toList) := rfl
  obtain ⟨a1, x1⟩ : ∃ a, d.extract 0 8 = a := ⟨_, rfl⟩
  obtain ⟨a2, x2⟩ : ∃ a, d.extract 8 16 = a := ⟨_, rfl⟩
  have z1 : a1.size ≤ 8 := by rw [← x1, ByteArray.size_extract]; omega
  have z2 : a2.size ≤ 8 := by rw [← x2, ByteArray.size_extract]; omega
  rw [x1] at HK1
  rw [x2] at HK2
  obtain ⟨nmf, hnm⟩ : ∃ nm : ByteArray → Int, nm = fun s => (num s.data.toList : Int) := ⟨_, rfl⟩
  have HN : Hid (∀ (s : ByteArray) (W : World), s.size ≤ 8 → Calls Tryd.prog 45 #[.string s] W fun e w' => e = .returned (.int .u64 (nmf s)) ∧ w' = W) := fun s W hs => by rw [hnm]; exact lowest_any s W hs
  have HE1 : Hid (nmf a1 = (key1 d : Int)) := by show _ = _; rw [HK1.out, hnm]
  have HE2 : Hid (nmf a2 = (key2 d : Int)) := by show _ = _; rw [HK2.out, hnm]
  clear hnm HK1 HK2
  have hdi : (d.size : Int) = 32 := by omega
  go_enter Tryd.func60, Tryd.ntmps60
  go_upto_region 1 with fail
  rw [← hW1]
  clear hW1
  go_upto_region 2 with (first
    | (go_at_call 90; go_must (refine hN.mono ?_); rintro e w2 ⟨rfl, hb2⟩; have HB2 := (show Hid (Below W1.heap.size W1 w2) from hb2); clear hb2)
    | (go_at_call 22; go_must (refine (HS.out _ (HB1.out.trans (HB2.out.mono (by omega)))).mono ?_); rintro e w3 ⟨rfl, hb3⟩; have HB3 := (show Hid (Below W1.heap.size W1 w3) from HB2.out.trans (hb3.mono HB2.out.size)); clear hb3)
    | (go_at_call 23; go_must (refine (HTX.out _).mono ?_); rintro e w4 ⟨rfl, hb4⟩; have HB4 := (show Hid (Below W1.heap.size W1 w4) from HB3.out.trans (hb4.mono HB3.out.size)); clear hb4))
  obtain ⟨c0, c1, f0, f1⟩ := HC.out w4 HB4.out
  clear HS HTX HC hN
  refine q_frame (fun A HFR => ?_)
  have hsz : A.tmps.size = 19 := by rw [HFR.out]; rfl
  have h4 : A.eval (.tmp 4) = .pointer (some ⟨w.heap.size, 0, none⟩) := by rw [HFR.out]; rfl
  have h5 : A.eval (.tmp 5) = .string d := by rw [HFR.out]; rfl
  refine wp_region_T (k := 7) (S := fun _ => True) (by kernel_rfl) trivial (fun hS => ?_)
  refine wpAnyT_take (i := 0) (v := (.string d)) rfl (by kernel_rfl) (by kernel_rfl) (by kernel_rfl) (by kernel_rfl) (fun _ _ _ h => h) (Or.inl ⟨by rfl, fun W _ => q_run1 5 (.string d) (by simp only [q_same, q_ne, q_sz, hsz, h4, h5, ne_eq, Nat.reduceEqDiff, not_false_eq_true, Nat.reduceLT]) (fun ρ hc hf e1 => by simp [go_sem, hc, hf, e1])⟩) hS ?_
  change wpAnyT _ _ _ _ _ _ _ _ (Act.put _ (some 12) _) _
  refine wpAnyT_take (i := 3) (v := (.string d)) rfl (by kernel_rfl) (by kernel_rfl) (by kernel_rfl) (by kernel_rfl) (fun _ _ _ h => h) (Or.inl ⟨by rfl, fun W _ => q_run1 5 (.string d) (by simp only [q_same, q_ne, q_sz, hsz, h4, h5, ne_eq, Nat.reduceEqDiff, not_false_eq_true, Nat.reduceLT]) (fun ρ hc hf e1 => by simp [go_sem, hc, hf, e1])⟩) hS ?_
  change wpAnyT _ _ _ _ _ _ _ _ (Act.put _ (some 15) _) _
  refine wpAnyT_take (i := 1) (v := (.string a1)) rfl (by kernel_rfl) (by kernel_rfl) (by kernel_rfl) (by kernel_rfl) (fun _ _ _ h => h) (Or.inl ⟨by rfl, fun W _ => q_run1 12 (.string d) (by simp only [q_same, q_ne, q_sz, hsz, h4, h5, ne_eq, Nat.reduceEqDiff, not_false_eq_true, Nat.reduceLT]) (fun ρ hc hf e1 => by simp [go_sem, hc, hf, e1, hdi, x1])⟩) hS ?_
  change wpAnyT _ _ _ _ _ _ _ _ (Act.put _ (some 13) _) _
  refine wpAnyT_take (i := 4) (v := (.string a2)) rfl (by kernel_rfl) (by kernel_rfl) (by kernel_rfl) (by kernel_rfl) (fun _ _ _ h => h) (Or.inl ⟨by rfl, fun W _ => q_run1 15 (.string d) (by simp only [q_same, q_ne, q_sz, hsz, h4, h5, ne_eq, Nat.reduceEqDiff, not_false_eq_true, Nat.reduceLT]) (fun ρ hc hf e1 => by simp [go_sem, hc, hf, e1, hdi, x2])⟩) hS ?_
  change wpAnyT _ _ _ _ _ _ _ _ (Act.put _ (some 16) _) _
  refine qT_call 2 45 #[.string a1] _ (by kernel_rfl) rfl rfl (q_run1 13 (.string a1) (by simp only [q_same, q_ne, q_sz, hsz, h4, h5, ne_eq, Nat.reduceEqDiff, not_false_eq_true, Nat.reduceLT]) (fun ρ hc hf e1 => by simp [go_sem, hc, hf, e1])) (HN.out a1 _ z1) ?_ (fun ch w' h => by cases h.1) (fun w' h => by cases h.1)
  rintro _ _ ⟨hv, rfl⟩
  obtain rfl := returned_inj hv
  refine ⟨fun _ => trivial, ?_⟩
  change wpAnyT _ _ _ _ _ _ _ _ (Act.put _ (some 14) _) _
  refine qT_call 5 45 #[.string a2] _ (by kernel_rfl) rfl rfl (q_run1 16 (.string a2) (by simp only [q_same, q_ne, q_sz, hsz, h4, h5, ne_eq, Nat.reduceEqDiff, not_false_eq_true, Nat.reduceLT]) (fun ρ hc hf e1 => by simp [go_sem, hc, hf, e1])) (HN.out a2 _ z2) ?_ (fun ch w' h => by cases h.1) (fun w' h => by cases h.1)
  rintro _ _ ⟨hv, rfl⟩
  obtain rfl := returned_inj hv
  refine ⟨fun _ => trivial, ?_⟩
  change wpAnyT _ _ _ _ _ _ _ _ (Act.put _ (some 17) _) _
  refine qT_one 6 (.agg #[.int .u64 (nmf a1), .int .u64 (nmf a2)]) w4.drew (by kernel_rfl) rfl rfl (q_run2 14 17 (.int .u64 (nmf a1)) (.int .u64 (nmf a2)) (by simp only [q_same, q_ne, q_sz, hsz, h4, h5, ne_eq, Nat.reduceEqDiff, not_false_eq_true, Nat.reduceLT]) (by simp only [q_same, q_ne, q_sz, hsz, h4, h5, ne_eq, Nat.reduceEqDiff, not_false_eq_true, Nat.reduceLT]) (fun ρ hc hf e1 e2 => by simp [go_sem, hc, hf, e1, e2])) (fun _ => trivial) ?_
  change wpAnyT _ _ _ _ _ _ _ _ (Act.put _ (some 18) _) _
  have ht : w4.drew.there w.heap.size 0 2 := fun j hj => by
    have : j = 0 ∨ j = 1 := by omega
    rcases this with rfl | rfl
    · exact ⟨by rw [Nat.zero_add]; show (w4.cell? _).isSome = true; rw [c0]; rfl, by rw [Nat.zero_add]; exact f0⟩
    · exact ⟨by rw [Nat.zero_add]; show (w4.cell? _).isSome = true; rw [c1]; rfl, by rw [Nat.zero_add]; exact f1⟩
  refine qT_skip 7 (w4.drew.setCells w.heap.size 0 [.int .u64 (nmf a1), .int .u64 (nmf a2)]) (by kernel_rfl) rfl rfl (run_store_cells 123 (.tmp 4) (.tmp 18) rfl w.heap.size 0 [.int .u64 (nmf a1), .int .u64 (nmf a2)] (by simp only [q_same, q_ne, q_sz, hsz, h4, h5, ne_eq, Nat.reduceEqDiff, not_false_eq_true, Nat.reduceLT]) (by simp only [q_same, q_ne, q_sz, hsz, h4, h5, ne_eq, Nat.reduceEqDiff, not_false_eq_true, Nat.reduceLT]) ht (by kernel_rfl) (by intro v hv; simp at hv; rcases hv with rfl | rfl <;> rfl)) (fun h => absurd rfl h) ?_
  refine wpAnyT_done (by kernel_rfl) ?_ _
  have HRG : Hid ((w4.drew.setCells w.heap.size 0 [.int .u64 (nmf a1), .int .u64 (nmf a2)]).rangeAt w.heap.size 0 [.int .u64 (nmf a1), .int .u64 (nmf a2)]) := World.rangeAt_setCells_same _ _ _ _ ht
  have HBF : Hid (Below w.heap.size w (w4.drew.setCells w.heap.size 0 [.int .u64 (nmf a1), .int .u64 (nmf a2)])) := below_setCells ((HB1.out.trans (HB4.out.mono (by omega))).drew) _ (Nat.le_refl _) _ _
  have hfr := HFR.out
  clear HFR hsz h4 h5 ht c0 c1 f0 f1
  subst hfr
  simp only [Act.put, List.setIfInBounds_toArray, List.set_cons_zero, List.set_cons_succ]
  generalize w4.drew.setCells w.heap.size 0 [.int .u64 (nmf a1), .int .u64 (nmf a2)] = WF at HRG HBF
  go_wp2
  refine bodyPost_ret (results_mid Tryd.results60 _ _ w.heap.size [.int .u64 (nmf a1), .int .u64 (nmf a2)] _ rfl HRG.out Tryd.underlying123 rfl (by kernel_rfl)) rfl ⟨?_, HBF.out⟩
  rw [← HE1.out, ← HE2.out]
end Go.Proofs.YtkmalggeieiepabDoor
namespace Go.Proofs.YtkmalggeieiepabDoor
open Go.RowKit

/-- block k is a row of bytes. -/
def IsB (w : World) (k : Nat) : Prop := ∃ C fz, w.heap[k]? = some (.cells C 5 fz)
/-- as it was but for block g, rows of bytes behind it, and new blocks. -/
structure Fr (g : Nat) (w w' : World) : Prop where
  os : w'.os = w.os
  tape : w'.tape = w.tape
  output : w'.output = w.output
  size : w.heap.size ≤ w'.heap.size
  block : ∀ k, k < w.heap.size → k ≠ g → (k < g ∨ ¬ IsB w k) → w'.heap[k]? = w.heap[k]?
theorem Fr.refl (g : Nat) (w : World) : Fr g w w := ⟨rfl, rfl, rfl, Nat.le_refl _, fun _ _ _ _ => rfl⟩
theorem Fr.trans {g : Nat} {a b c : World} (h : Fr g a b) (k : Fr g b c) : Fr g a c :=
  ⟨k.os.trans h.os, k.tape.trans h.tape, k.output.trans h.output, Nat.le_trans h.size k.size, fun i hi hg hB => by
    have h1 := h.block i hi hg hB
    exact (k.block i (Nat.lt_of_lt_of_le hi h.size) hg (hB.imp id (fun hn hb => hn (by obtain ⟨C, fz, e⟩ := hb; exact ⟨C, fz, by rw [← h1]; exact e⟩)))).trans h1⟩
theorem Fr.later {g : Nat} {a b c : World} (h : Fr g a b) (k : Below a.heap.size b c) : Fr g a c :=
  ⟨k.os.trans h.os, k.tape.trans h.tape, k.output.trans h.output, Nat.le_trans h.size k.size, fun i hi hg hB => (k.block i hi).trans (h.block i hi hg hB)⟩
theorem Fr.below {g : Nat} {w w' : World} (h : Fr g w w') (hg : g ≤ w.heap.size) {B : Nat} (hB : B ≤ g) : Below B w w' :=
  ⟨h.os, h.tape, h.output, h.size, fun k hk => h.block k (by omega) (by omega) (.inl (by omega))⟩
/-- a writer that has told these bytes lies in block g. -/
def Wr (w : World) (g : Nat) (l : List UInt8) : Prop := ∃ v, w.cell? ⟨g, 0, none⟩ = some v ∧ w.frozen? ⟨g, 0, none⟩ = false ∧ w.ownsRow (g + 1) 5 1 v l.length (Lib.strCells (ofL l))
theorem Wr.lt {w : World} {g : Nat} {l : List UInt8} (h : Wr w g l) : g < w.heap.size := by
  obtain ⟨v, h1, _⟩ := h
  exact World.block_lt_of_cell? w _ h1
theorem own_lt {w : World} {base e size n : Nat} {v : Value} {xs : List Value} (h : w.ownsRow base e size v n xs) : ∀ k, v.ownBlock = some k → base ≤ k ∧ k < w.heap.size ∧ ∃ C, w.heap[k]? = some (.cells C e (0, 0)) := by
  intro k hk
  rcases h.2 with ⟨rfl, _⟩ | ⟨g, cap, cur, rfl, hb, hg, _⟩
  · cases hk
  · injection hk with hk
    have hk' : g = k := hk
    subst hk'
    refine ⟨hb, ?_, cur, hg⟩
    rcases Nat.lt_or_ge g w.heap.size with h | h
    · exact h
    · rw [Array.getElem?_eq_none h] at hg; cases hg
theorem Wr.later {w w' : World} {g : Nat} {l : List UInt8} (h : Wr w g l) (hb : Below w.heap.size w w') : Wr w' g l := by
  have hl := h.lt
  obtain ⟨v, h1, h2, h3⟩ := h
  exact ⟨v, by rw [hb.cell (p := ⟨g, 0, none⟩) hl]; exact h1, by rw [hb.frozen (p := ⟨g, 0, none⟩) hl]; exact h2, own_later h3 hb⟩
theorem strCells_append (a b : List UInt8) : Lib.strCells (ofL (a ++ b)) = Lib.strCells (ofL a) ++ Lib.strCells (ofL b) := by
  unfold Lib.strCells; rw [ofL_data, ofL_data, ofL_data, List.map_append]
theorem infoByte : (Tryd.prog.info? 5).map (fun i => (i.zero, i.size, i.bytes)) = some (some (.int .u8 0), 1, 1) := by kernel_rfl

set_option maxRecDepth 10000 in
set_option maxHeartbeats 1000000 in
theorem wText_any (g : Nat) (l : List UInt8) (s : ByteArray) (w : World) (h : Wr w g l) (hn : l.length ≤ 1048576000) (hs : s.size ≤ 1048576000) :
    Calls Tryd.prog 63 #[.pointer (some ⟨g, 0, none⟩), .string s] w fun x w' => x = .returned (.tuple #[]) ∧ Wr w' g (l ++ s.data.toList) ∧ Fr g w w' := by
  obtain ⟨i0, hi, hz0, hz1, hz2⟩ := info_parts infoByte
  obtain ⟨v, c0, f0, ho⟩ := h
  have HO : Hid (w.ownsRow (g + 1) 5 1 v l.length (Lib.strCells (ofL l))) := ho
  have hg := World.block_lt_of_cell? w _ c0
  have hgl : g < w.heap.size := hg
  have HFB : Hid (∀ k, v.ownBlock = some k → g + 1 ≤ k ∧ k < w.heap.size ∧ ∃ C, w.heap[k]? = some (.cells C 5 (0, 0))) := own_lt ho
  clear hg
  obtain ⟨va, vn, vc, rfl⟩ := own_slice ho
  clear ho
  go_enter Tryd.func63, Tryd.ntmps63
  have HNE : Hid (some g ≠ (Value.slice va vn vc).ownBlock) := fun e => by have := (HFB.out g e.symm).1; omega
  go_wp2_with (at_builtin; go_must (refine Lib.wpList_append_own_string w rfl _ _ 23 9 rfl (g + 1) 5 i0 Tryd.underlying23 Tryd.underlying9 hi hz0 hz1 hz2 (.slice va vn vc) l.length (Lib.strCells (ofL l)) rfl HO.out s rfl (by unfold maxLen; omega) (by omega) (by omega) ?_); intro v' w' ho' hgr hnil; clear hnil; obtain ⟨va', vn', vc', rfl⟩ := own_slice ho'; have HO' := (show Hid (w'.ownsRow (g + 1) 5 1 (.slice va' vn' vc') (l.length + s.size) (Lib.strCells (ofL l) ++ Lib.strCells s)) from ho'); have HGR := (show Hid (w.grownBy w' (Value.slice va vn vc).ownBlock) from hgr); have c1 : w'.cell? ⟨g, 0, none⟩ = some (.slice va vn vc) := hgr.cell c0 HNE.out; have f1 : w'.frozen? ⟨g, 0, none⟩ = false := (by rw [World.frozen?_of_block (hgr.block g hgl HNE.out)]; exact f0); clear ho' hgr)
  go_end0
  refine ⟨rfl, ⟨.slice va' vn' vc', World.cell?_setCell_same _ _ _ c1, by simp only [World.frozen?_setCell]; exact f1, ?_⟩, ?_⟩
  · have h2 : Lib.strCells (ofL (l ++ s.data.toList)) = Lib.strCells (ofL l) ++ Lib.strCells s := by rw [strCells_append, ofL_of]
    rw [h2, List.length_append, show s.data.toList.length = s.size from rfl]
    exact own_mov HO'.out ((Mov.refl g w').set 0 _) (Nat.lt_succ_self _)
  · have hG := HGR.out
    refine ⟨hG.os, hG.tape, hG.output, by simpa using hG.size, fun k hk hkg hB => ?_⟩
    rw [Below.heap_setCell w' ⟨g, 0, none⟩ _ k hkg]
    refine hG.block k hk (fun e => ?_)
    obtain ⟨h1, _, C, h3⟩ := HFB.out k e.symm
    rcases hB with hB | hB
    · omega
    · exact hB ⟨C, _, h3⟩

set_option maxHeartbeats 1000000 in
theorem wNumber_any (g n k : Nat) (l : List UInt8) (w : World) (h : Wr w g l) (hl : l.length ≤ 1048576000) (hn : U64 n) (hk : 0 < k) (hk8 : k ≤ 8) :
    Calls Tryd.prog 64 #[.pointer (some ⟨g, 0, none⟩), .int .u64 (n : Int), .int .i64 (k : Int)] w fun x w' => x = .returned (.tuple #[]) ∧ Wr w' g (l ++ le n k) ∧ Fr g w w' := by
  have h1 := inBytes_any n k w hn hk hk8
  have HT : Hid (∀ W, Below w.heap.size w W → Calls Tryd.prog 63 #[.pointer (some ⟨g, 0, none⟩), .string (ofL (le n k))] W fun x w' => x = .returned (.tuple #[]) ∧ Wr w' g (l ++ le n k) ∧ Fr g w w') := fun W hW =>
    (wText_any g l (ofL (le n k)) W (h.later hW) hl (by rw [ofL_size, le_length]; omega)).mono fun x w' ⟨h1, h2, h3⟩ => ⟨h1, by rw [ofL_data] at h2; exact h2, ((Fr.refl g w).later hW).trans h3⟩
  clear h
  go_enter Tryd.func64, Tryd.ntmps64
  go_wp2_with (first
    | (go_at_call 90; go_must (refine h1.mono ?_); rintro x w1 ⟨rfl, hb1⟩; have HB1 := (show Hid (Below w.heap.size w w1) from hb1); clear hb1)
    | (go_at_call 63; go_must (refine (HT.out _ HB1.out).mono ?_); rintro x w2 ⟨rfl, hw2, hf2⟩))
  go_end0
  exact ⟨rfl, hw2, hf2⟩

set_option maxHeartbeats 1000000 in
theorem wSize_small (g n : Nat) (l : List UInt8) (w : World) (h : Wr w g l) (hl : l.length ≤ 1048576000) (hn : n < 253) :
    Calls Tryd.prog 92 #[.pointer (some ⟨g, 0, none⟩), .int .u64 (n : Int)] w fun x w' => x = .returned (.tuple #[]) ∧ Wr w' g (l ++ sizeL n) ∧ Fr g w w' := by
  have h1 := wNumber_any g n 1 l w h hl (by unfold U64; omega) (by omega) (by omega)
  have e : sizeL n = le n 1 := by simp [sizeL, hn]
  have hi : (n : Int) < 253 := by omega
  rw [e]
  clear h e
  go_enter Tryd.func92, Tryd.ntmps92
  go_wp2_with (go_at_call 64; go_must (refine h1.mono ?_); rintro x w2 ⟨rfl, hw2, hf2⟩)
  go_end0
  exact ⟨rfl, hw2, hf2⟩
theorem wCount_small (g n : Nat) (l : List UInt8) (w : World) (h : Wr w g l) (hl : l.length ≤ 1048576000) (hn : n < 253) :
    Calls Tryd.prog 65 #[.pointer (some ⟨g, 0, none⟩), .int .i64 (n : Int)] w fun x w' => x = .returned (.tuple #[]) ∧ Wr w' g (l ++ sizeL n) ∧ Fr g w w' := by
  have h1 := wSize_small g n l w h hl hn
  have hi : (n : Int) < 253 := by omega
  have hw : IntKind.u64.wrap (n : Int) = (n : Int) := by rw [IntKind.wrap_u64]; omega
  clear h
  go_enter Tryd.func65, Tryd.ntmps65
  go_wp2_with (go_at_call 92; go_must (refine h1.mono ?_); rintro x w2 ⟨rfl, hw2, hf2⟩)
  go_end0
  exact ⟨rfl, hw2, hf2⟩
/-- what was told, as a text. -/
theorem Wr.text {w : World} {g : Nat} {l : List UInt8} (h : Wr w g l) (h0 : 0 < l.length) : ∃ b c, w.cell? ⟨g, 0, none⟩ = some (.slice (some ⟨b, 0, none⟩) l.length c) ∧ (convert 23 9 (.slice (some ⟨b, 0, none⟩) l.length c)).run Tryd.prog w = .ok (.string (ofL l)) w := by
  obtain ⟨v, h1, _, h3⟩ := h
  have h3' := h3
  rcases h3.2 with ⟨_, hz⟩ | ⟨b, cap, cur, hv, _, _, _⟩
  · omega
  · subst hv
    refine ⟨b, cap, h1, ?_⟩
    have hr := own_vrow (by rw [Lib.strCells_length, ofL_size]) h3'
    have := run_convert_bytes_back (P := Tryd.prog) w 23 9 5 ⟨b, 0, none⟩ cap l Tryd.underlying23 Tryd.underlying5 Tryd.underlying9 (fun j hj => by
      have := hr j (by rw [Lib.strCells_length, ofL_size]; exact hj)
      rw [Addr.add_mid, this]
      simp [Lib.strCells, ofL])
    exact this
/-- a new writer. -/
theorem Wr.new (w : World) (T : Nat) (g : Nat) (hg : g = w.heap.size) : Wr (w.alloc (.cells #[.slice none 0 0] T)) g [] := by
  subst hg
  exact ⟨.slice none 0 0, by simp [go_sem], by simp [go_sem], World.ownsRow_nil _ _ _ _⟩
end Go.Proofs.YtkmalggeieiepabDoor
namespace Go.Proofs.YtkmalggeieiepabDoor
open Go.RowKit

theorem own_base {w : World} {b b' e size n : Nat} {v : Value} {xs : List Value} (h : w.ownsRow b e size v n xs) (hb : b' ≤ b) : w.ownsRow b' e size v n xs := by
  refine ⟨h.1, ?_⟩
  rcases h.2 with hn | ⟨g, cap, cur, hv, hbg, rest⟩
  · exact .inl hn
  · exact .inr ⟨g, cap, cur, hv, Nat.le_trans hb hbg, rest⟩
/-- so many bytes, then from one to sixteen transactions: what was read of each, and what is wrong. -/
def rMsg (n : Nat) (l : List UInt8) : List UInt8 × (List (List UInt8) × Int) :=
  ((rTake n (l, 0)).1, ((rTxs (rWithin 1 16 (rTake n (l, 0)).2).1 (rWithin 1 16 (rTake n (l, 0)).2).2).1, (rDone (rTxs (rWithin 1 16 (rTake n (l, 0)).2).1 (rWithin 1 16 (rTake n (l, 0)).2).2).2).2))

end Go.Proofs.YtkmalggeieiepabDoor
namespace Go.Proofs.YtkmalggeieiepabDoor
open Go.RowKit

/-- indexes, so many, from the next that could be. -/
def rIdxs : Nat → Nat → List UInt8 × Int → List Nat × (List UInt8 × Int)
  | 0, _, r => ([], r)
  | n + 1, k, r => if r.2 = 0 then ((rIndex k 16 r).1 :: (rIdxs n ((rIndex k 16 r).1 + 1) (rIndex k 16 r).2).1, (rIdxs n ((rIndex k 16 r).1 + 1) (rIndex k 16 r).2).2) else ([], r)
theorem rIdxs_bad (n k : Nat) (r : List UInt8 × Int) (h : ¬ r.2 = 0) : rIdxs n k r = ([], r) := by
  cases n with
  | zero => rfl
  | succ n => show (if r.2 = 0 then _ else _) = _; rw [if_neg h]
/-- a request: of which block, which places, and what is wrong. -/
def rReq (l : List UInt8) : List UInt8 × (List Nat × Int) :=
  ((rTake 32 (l, 0)).1, ((rIdxs (rWithin 1 16 (rTake 32 (l, 0)).2).1 0 (rWithin 1 16 (rTake 32 (l, 0)).2).2).1, (rDone (rIdxs (rWithin 1 16 (rTake 32 (l, 0)).2).1 0 (rWithin 1 16 (rTake 32 (l, 0)).2).2).2).2))
theorem rIndex_lt (k : Nat) (r : List UInt8 × Int) : (rIndex k 16 r).1 < 16 := by
  unfold rIndex
  split
  · omega
  · split
    · omega
    · show k + _ < 16; omega
theorem rIdxs_lt : ∀ (n k : Nat) (r : List UInt8 × Int), ∀ x ∈ (rIdxs n k r).1, x < 16
  | 0, _, _, x, hx => by simp [rIdxs] at hx
  | n + 1, k, r, x, hx => by
    unfold rIdxs at hx
    split at hx
    · rcases List.mem_cons.1 hx with rfl | h
      · exact rIndex_lt k r
      · exact rIdxs_lt n _ _ x h
    · simp at hx
theorem rIdxs_len : ∀ (n k : Nat) (r : List UInt8 × Int), (rIdxs n k r).1.length ≤ n
  | 0, _, _ => by simp [rIdxs]
  | n + 1, k, r => by
    unfold rIdxs
    split
    · have := rIdxs_len n ((rIndex k 16 r).1 + 1) (rIndex k 16 r).2
      simp only [List.length_cons]; omega
    · simp
theorem rTxs_len : ∀ (n : Nat) (r : List UInt8 × Int), (rTxs n r).1.length ≤ n
  | 0, _ => by simp [rTxs]
  | n + 1, r => by
    unfold rTxs
    split
    · have := rTxs_len n (rTx r)
      simp only [List.length_cons]; omega
    · simp
theorem stick_tx : ∀ r : List UInt8 × Int, r.2 ≠ 0 → (rTx r).2 ≠ 0 := fun r hr h => hr (eats_tx r h).1
theorem rTxs_small : ∀ (n : Nat) (r : List UInt8 × Int), (rTxs n r).2.2 = 0 → ∀ t ∈ (rTxs n r).1, t.length ≤ 610
  | 0, _, _, x, hx => by simp [rTxs] at hx
  | n + 1, r, h0, x, hx => by
    unfold rTxs at hx h0
    split at hx
    · rename_i hr
      rw [if_pos hr] at h0
      rcases List.mem_cons.1 hx with rfl | h
      · have h1 : (rTx r).2 = 0 := Classical.byContradiction fun h2 => by rw [rTxs_bad n (rTx r) h2] at h0; exact h2 h0
        have h3 := (eats_tx r h1).2
        unfold txB; rw [List.length_take]; omega
      · exact rTxs_small n _ h0 x h
    · simp at hx

theorem rTake_len (n : Nat) (r : List UInt8 × Int) : (rTake n r).1.length ≤ n := by
  unfold rTake
  split
  · simp
  · split
    · simp
    · simp; omega
theorem rTake_full (n : Nat) (r : List UInt8 × Int) (h : (rTake n r).2.2 = 0) : (rTake n r).1.length = n := by
  unfold rTake at h ⊢
  by_cases h1 : r.2 = 0
  · simp only [h1, ne_eq, not_true_eq_false, if_false] at h ⊢
    by_cases h2 : r.1.length < n
    · simp [h2] at h
    · simp only [h2, if_false]; simp; omega
  · simp [h1] at h
theorem rDone_ok (r : List UInt8 × Int) (h : (rDone r).2 = 0) : r.2 = 0 := by
  unfold rDone at h
  split at h
  · rename_i h1; exact h1.1
  · exact h
theorem rMsg_small (n : Nat) (l : List UInt8) (h : (rMsg n l).2.2 = 0) : ∀ x ∈ (rMsg n l).2.1, x.length ≤ 610 := rTxs_small _ _ (rDone_ok _ h)
theorem rMsg_len (n : Nat) (l : List UInt8) : (rMsg n l).2.1.length ≤ 16 := Nat.le_trans (rTxs_len _ _) (rWithin_hi 1 16 _)
theorem rReq_len (l : List UInt8) : (rReq l).2.1.length ≤ 16 := Nat.le_trans (rIdxs_len _ _ _) (rWithin_hi 1 16 _)
theorem rTxs_ok (n : Nat) (r : List UInt8 × Int) (h : (rTxs n r).2.2 = 0) : r.2 = 0 := Classical.byContradiction fun h2 => by rw [rTxs_bad n r h2] at h; exact h2 h
theorem rIdxs_ok (n k : Nat) (r : List UInt8 × Int) (h : (rIdxs n k r).2.2 = 0) : r.2 = 0 := Classical.byContradiction fun h2 => by rw [rIdxs_bad n k r h2] at h; exact h2 h
theorem rMsg_head (n : Nat) (l : List UInt8) (h : (rMsg n l).2.2 = 0) : (rMsg n l).1.length = n := rTake_full n _ (eats_within 1 16 _ (rTxs_ok _ _ (rDone_ok _ h))).1
theorem rReq_head (l : List UInt8) (h : (rReq l).2.2 = 0) : (rReq l).1.length = 32 := rTake_full 32 _ (eats_within 1 16 _ (rIdxs_ok _ _ _ (rDone_ok _ h))).1

/-- what is wrong with one of the places that are to be sent along, behind another. -/
def alR (n : Nat) : Int → List Int → Int
  | _, [] => 0
  | p, x :: l => if x < 0 ∨ (n : Int) ≤ x then 4 else if x ≤ p then 11 else alR n x l
def alE (n : Nat) (l : List Int) : Int := if alR n (-1) l ≠ 0 then alR n (-1) l else if l.length = 0 ∨ l.headD 0 ≠ 0 then 11 else 0
/-- the one ahead. -/
def ahead (l : List Int) (i : Nat) : Int := if i = 0 then -1 else l.getD (i - 1) 0
theorem alR_step (n : Nat) (l : List Int) (i : Nat) (h : i < l.length) : alR n (ahead l i) (l.drop i) = if l[i] < 0 ∨ (n : Int) ≤ l[i] then 4 else if l[i] ≤ ahead l i then 11 else alR n (ahead l (i + 1)) (l.drop (i + 1)) := by
  rw [List.drop_eq_getElem_cons h]
  show (if _ then _ else if _ then _ else _) = _
  have : ahead l (i + 1) = l[i] := by simp [ahead, h]
  rw [this]
def Rise : Int → List Int → Prop
  | _, [] => True
  | p, x :: l => p < x ∧ Rise x l
theorem alR_ok (n : Nat) : ∀ (l : List Int) (p : Int), alR n p l = 0 → Rise p l ∧ ∀ x ∈ l, 0 ≤ x ∧ x < (n : Int)
  | [], _, _ => ⟨trivial, by simp⟩
  | x :: l, p, h => by
    unfold alR at h
    by_cases h1 : x < 0 ∨ (n : Int) ≤ x
    · rw [if_pos h1] at h; omega
    · rw [if_neg h1] at h
      by_cases h2 : x ≤ p
      · rw [if_pos h2] at h; omega
      · rw [if_neg h2] at h
        obtain ⟨h3, h4⟩ := alR_ok n l x h
        refine ⟨⟨by omega, h3⟩, ?_⟩
        intro y hy
        rcases List.mem_cons.1 hy with rfl | hy
        · omega
        · exact h4 y hy
theorem Rise.gt : ∀ {l : List Int} {p : Int}, Rise p l → ∀ x ∈ l, p < x
  | [], _, _, x, hx => by simp at hx
  | y :: l, p, h, x, hx => by
    rcases List.mem_cons.1 hx with rfl | hx
    · exact h.1
    · have := Rise.gt h.2 x hx; have := h.1; omega
theorem alE_ok (n : Nat) (l : List Int) (h : alE n l = 0) : alR n (-1) l = 0 ∧ l ≠ [] ∧ l.headD 0 = 0 := by
  unfold alE at h
  by_cases h1 : alR n (-1) l = 0
  · rw [if_neg (by omega)] at h
    by_cases h2 : l.length = 0 ∨ l.headD 0 ≠ 0
    · rw [if_pos h2] at h; omega
    · refine ⟨h1, ?_, ?_⟩
      · intro h3; rw [h3] at h2; simp at h2
      · exact Classical.byContradiction fun h3 => h2 (.inr h3)
  · rw [if_pos h1] at h; omega

/-- those that are sent along, with their places; the others. -/
def plc (al : List Int) : Nat → List (List UInt8) → List (Nat × List UInt8)
  | _, [] => []
  | i, x :: l => if (i : Int) ∈ al then (i, x) :: plc al (i + 1) l else plc al (i + 1) l
def oth (al : List Int) : Nat → List (List UInt8) → List (List UInt8)
  | _, [] => []
  | i, x :: l => if (i : Int) ∈ al then oth al (i + 1) l else x :: oth al (i + 1) l
theorem plc_append (al : List Int) : ∀ (a b : List (List UInt8)) (i : Nat), plc al i (a ++ b) = plc al i a ++ plc al (i + a.length) b
  | [], b, i => by simp [plc]
  | x :: a, b, i => by
    have := plc_append al a b (i + 1)
    simp only [List.cons_append, plc, List.length_cons]
    rw [this, show i + 1 + a.length = i + (a.length + 1) by omega]
    split <;> simp
theorem oth_append (al : List Int) : ∀ (a b : List (List UInt8)) (i : Nat), oth al i (a ++ b) = oth al i a ++ oth al (i + a.length) b
  | [], b, i => by simp [oth]
  | x :: a, b, i => by
    have := oth_append al a b (i + 1)
    simp only [List.cons_append, oth, List.length_cons]
    rw [this, show i + 1 + a.length = i + (a.length + 1) by omega]
    split <;> simp
theorem take_snoc {α : Type} (l : List α) (k : Nat) (h : k < l.length) : l.take (k + 1) = l.take k ++ [l[k]] := List.take_succ_eq_append_getElem h
theorem plc_in (al : List Int) (l : List (List UInt8)) (k : Nat) (h : k < l.length) (hk : (k : Int) ∈ al) : plc al 0 (l.take (k + 1)) = plc al 0 (l.take k) ++ [(k, l[k])] := by
  rw [take_snoc l k h, plc_append, List.length_take, Nat.zero_add, Nat.min_eq_left (Nat.le_of_lt h)]
  simp [plc, hk]
theorem plc_out (al : List Int) (l : List (List UInt8)) (k : Nat) (h : k < l.length) (hk : ¬ (k : Int) ∈ al) : plc al 0 (l.take (k + 1)) = plc al 0 (l.take k) := by
  rw [take_snoc l k h, plc_append, List.length_take, Nat.zero_add, Nat.min_eq_left (Nat.le_of_lt h)]
  simp [plc, hk]
theorem oth_in (al : List Int) (l : List (List UInt8)) (k : Nat) (h : k < l.length) (hk : (k : Int) ∈ al) : oth al 0 (l.take (k + 1)) = oth al 0 (l.take k) := by
  rw [take_snoc l k h, oth_append, List.length_take, Nat.zero_add, Nat.min_eq_left (Nat.le_of_lt h)]
  simp [oth, hk]
theorem oth_out (al : List Int) (l : List (List UInt8)) (k : Nat) (h : k < l.length) (hk : ¬ (k : Int) ∈ al) : oth al 0 (l.take (k + 1)) = oth al 0 (l.take k) ++ [l[k]] := by
  rw [take_snoc l k h, oth_append, List.length_take, Nat.zero_add, Nat.min_eq_left (Nat.le_of_lt h)]
  simp [oth, hk]
theorem plc_congr (a b : List Int) : ∀ (l : List (List UInt8)) (i : Nat), (∀ j : Nat, i ≤ j → ((j : Int) ∈ a ↔ (j : Int) ∈ b)) → plc a i l = plc b i l
  | [], _, _ => rfl
  | x :: l, i, h => by
    have h1 := h i (Nat.le_refl _)
    have h2 := plc_congr a b l (i + 1) (fun j hj => h j (by omega))
    unfold plc
    rw [h2]
    by_cases h3 : (i : Int) ∈ a
    · rw [if_pos h3, if_pos (h1.1 h3)]
    · rw [if_neg h3, if_neg (fun h4 => h3 (h1.2 h4))]
theorem plc_rise : ∀ (l : List (List UInt8)) (i : Nat) (al : List Int), Rise ((i : Int) - 1) al → (∀ x ∈ al, x < (i : Int) + l.length) → (plc al i l).length = al.length
  | [], i, al, hr, hn => by
    cases al with
    | nil => rfl
    | cons x al => have h1 := hr.1; have h2 := hn x (by simp); simp at h2; omega
  | x :: l, i, al, hr, hn => by
    cases al with
    | nil =>
      unfold plc
      rw [if_neg (by simp)]
      exact plc_rise l (i + 1) [] trivial (by simp)
    | cons y al =>
      have hgt := Rise.gt hr.2
      by_cases hy : (i : Int) = y
      · unfold plc
        rw [if_pos (by simp [hy])]
        have hc : plc (y :: al) (i + 1) l = plc al (i + 1) l := plc_congr _ _ l (i + 1) (fun j hj => by
          have : (j : Int) ≠ y := by omega
          simp [this])
        rw [hc, List.length_cons, List.length_cons, plc_rise l (i + 1) al (by rw [show ((i + 1 : Nat) : Int) - 1 = y by omega]; exact hr.2) (fun z hz => by have := hn z (by simp [hz]); simp at this; omega)]
      · have hlt : (i : Int) < y := by have := hr.1; omega
        have hni : ¬ (i : Int) ∈ y :: al := by
          intro h
          rcases List.mem_cons.1 h with h | h
          · exact hy h
          · have := hgt _ h; omega
        unfold plc
        rw [if_neg hni]
        refine plc_rise l (i + 1) (y :: al) ⟨by omega, hr.2⟩ (fun z hz => ?_)
        have := hn z hz; simp at this; omega
theorem plc_len (l : List (List UInt8)) (al : List Int) (h : alE l.length al = 0) : (plc al 0 l).length = al.length := by
  obtain ⟨h1, _, _⟩ := alE_ok _ _ h
  obtain ⟨h2, h3⟩ := alR_ok _ _ _ h1
  exact plc_rise l 0 al h2 (fun x hx => by have := (h3 x hx).2; simpa using this)
theorem plc_le (al : List Int) : ∀ (l : List (List UInt8)) (i : Nat), (plc al i l).length ≤ l.length
  | [], _ => by simp [plc]
  | x :: l, i => by
    have := plc_le al l (i + 1)
    unfold plc; split
    · simp only [List.length_cons]; omega
    · simp only [List.length_cons]; omega
theorem oth_le (al : List Int) : ∀ (l : List (List UInt8)) (i : Nat), (oth al i l).length ≤ l.length
  | [], _ => by simp [oth]
  | x :: l, i => by
    have := oth_le al l (i + 1)
    unfold oth; split
    · simp only [List.length_cons]; omega
    · simp only [List.length_cons]; omega
theorem plc_mem (al : List Int) : ∀ (l : List (List UInt8)) (i : Nat), ∀ p ∈ plc al i l, i ≤ p.1 ∧ p.1 < i + l.length ∧ p.2 ∈ l
  | [], _, p, hp => by simp [plc] at hp
  | x :: l, i, p, hp => by
    unfold plc at hp
    have ih := plc_mem al l (i + 1)
    split at hp
    · rcases List.mem_cons.1 hp with rfl | hp
      · exact ⟨Nat.le_refl _, by simp, by simp⟩
      · obtain ⟨h1, h2, h3⟩ := ih p hp
        exact ⟨by omega, by simp only [List.length_cons]; omega, by simp [h3]⟩
    · obtain ⟨h1, h2, h3⟩ := ih p hp
      exact ⟨by omega, by simp only [List.length_cons]; omega, by simp [h3]⟩
theorem oth_mem (al : List Int) : ∀ (l : List (List UInt8)) (i : Nat), ∀ t ∈ oth al i l, t ∈ l
  | [], _, p, hp => by simp [oth] at hp
  | x :: l, i, p, hp => by
    unfold oth at hp
    have ih := oth_mem al l (i + 1)
    split at hp
    · simp [ih p hp]
    · rcases List.mem_cons.1 hp with rfl | hp
      · simp
      · simp [ih p hp]
/-- transactions told behind their places. -/
def wrt : Nat → List (Nat × List UInt8) → List UInt8
  | _, [] => []
  | n, p :: l => sizeL (p.1 - n) ++ p.2 ++ wrt (p.1 + 1) l
def nxt : Nat → List (Nat × List UInt8) → Nat
  | n, [] => n
  | _, p :: l => nxt (p.1 + 1) l
theorem wrt_append : ∀ (a b : List (Nat × List UInt8)) (n : Nat), wrt n (a ++ b) = wrt n a ++ wrt (nxt n a) b
  | [], b, n => by simp [wrt, nxt]
  | p :: a, b, n => by simp [wrt, nxt, wrt_append a b (p.1 + 1)]
theorem nxt_append : ∀ (a b : List (Nat × List UInt8)) (n : Nat), nxt n (a ++ b) = nxt (nxt n a) b
  | [], b, n => by simp [nxt]
  | p :: a, b, n => by simp [nxt, nxt_append a b (p.1 + 1)]
theorem nxt_le (M : Nat) : ∀ (a : List (Nat × List UInt8)) (n : Nat), n ≤ M → (∀ p ∈ a, p.1 < M) → nxt n a ≤ M
  | [], n, h, _ => h
  | p :: a, n, h, hm => nxt_le M a (p.1 + 1) (hm p (by simp)) (fun q hq => hm q (by simp [hq]))
theorem nxt_plc (al : List Int) (l : List (List UInt8)) (k : Nat) (h : k ≤ l.length) : nxt 0 (plc al 0 (l.take k)) ≤ k :=
  nxt_le k _ 0 (Nat.zero_le _) (fun p hp => by have := (plc_mem al _ 0 p hp).2.1; rw [List.length_take] at this; omega)
theorem wrt_le (N : Nat) : ∀ (a : List (Nat × List UInt8)) (n : Nat), (∀ p ∈ a, p.2.length ≤ N) → (wrt n a).length ≤ a.length * (N + 9)
  | [], n, _ => by simp [wrt]
  | p :: a, n, hm => by
    have h1 := wrt_le N a (p.1 + 1) (fun q hq => hm q (by simp [hq]))
    have h2 := hm p (by simp)
    have h3 := sizeL_le (p.1 - n)
    simp only [wrt, List.length_append, List.length_cons, Nat.succ_mul]
    omega
/-- a short block: of a header, a number, the transactions, and the places of those that are sent along. -/
def encL (sh : List UInt8 → List UInt8) (h n : List UInt8) (l : List (List UInt8)) (al : List Int) : List UInt8 :=
  h ++ n ++ (sizeL (oth al 0 l).length ++ ((oth al 0 l).map sh).flatten) ++ (sizeL al.length ++ wrt 0 (plc al 0 l))
end Go.Proofs.YtkmalggeieiepabDoor
namespace Go.Proofs.YtkmalggeieiepabDoor
open Go.RowKit

theorem rIndex_le (k b : Nat) (r : List UInt8 × Int) : (rIndex k b r).2.1.length ≤ r.1.length := by
  have := rSize_le r
  unfold rIndex
  split
  · exact this
  · split
    · exact this
    · exact this

end Go.Proofs.YtkmalggeieiepabDoor
