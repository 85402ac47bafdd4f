import Derived.Test.YtkmalggeieiepaaGreatDoorPxb
import Derived.Test.YtkmalggeieiepaaGreatDoorPxc
import Derived.Lib.Strings
import Derived.WalkKit
import Derived.WalkSpells
import Derived.WalkLawsBesides
import Derived.Deep.DeepCutAuto
import Derived.Deep.QuietTactic
import Derived.BigQuiet
import Derived.Deep.RegionWith
import Derived.Test.YtkmalggeieiepaaGreatDoorPxa
import Derived.Deep.LoopGhost
import Derived.Defers
import Derived.Recover
import Derived.Deep.MidRow
import Derived.Great.BuildSlice
import Derived.OrdersHeld
import Derived.Deep.AppendLies
import Derived.Deep.RegionHeld3
namespace Go.Proofs.YtkmalggeieiepaaGreatDoor
open Go.RowKit

theorem bless : ∀ (x y : List UInt8), Op.bytesLess x y = decide (x < y)
  | [], [] => by simp [Op.bytesLess]
  | _ :: _, [] => by simp [Op.bytesLess]
  | [], _ :: _ => by simp [Op.bytesLess]
  | a :: x, b :: y => by
    rw [Op.bytesLess, bless x y]
    simp only [List.cons_lt_cons_iff]
    by_cases h1 : a < b <;> by_cases h2 : a = b <;> by_cases h3 : x < y <;> simp [h1, h2, h3]
theorem lt_irr (a : List UInt8) : ¬ a < a := List.lt_irrefl a
theorem lt_tr {a b c : List UInt8} (h : a < b) (k : b < c) : a < c := List.lt_trans h k
theorem lt_or (a b : List UInt8) (h : ¬ a < b) (k : a ≠ b) : b < a := by
  rcases List.le_iff_lt_or_eq.1 (List.not_lt.1 h) with h1 | h1
  · exact h1
  · exact absurd h1.symm k
/-- a pool that rises. -/
def Rise (dd : ByteArray → ByteArray) (p : List ByteArray) : Prop := p.Pairwise fun a b => (dd a).data.toList < (dd b).data.toList
theorem atL_cons (dd : ByteArray → ByteArray) (id x : ByteArray) (l : List ByteArray) (n : Nat) : atL dd id (x :: l) n = if (dd x).data.toList < id.data.toList then atL dd id l (n + 1) else (n, (dd x).data.toList == id.data.toList) := by
  show (if Op.bytesLess (dd x).toList id.toList = true then atL dd id l (n + 1) else (n, (dd x).toList == id.toList)) = _
  rw [bless, Lib.toList_data, Lib.toList_data]
  by_cases h : (dd x).data.toList < id.data.toList
  · simp [h]
  · simp [h]
theorem at_shift (dd : ByteArray → ByteArray) (id : ByteArray) : ∀ (p : List ByteArray) (n : Nat), atL dd id p n = ((atL dd id p 0).1 + n, (atL dd id p 0).2)
  | [], n => by simp [atL]
  | x :: l, n => by
    rw [atL_cons, atL_cons]
    by_cases h : (dd x).data.toList < id.data.toList
    · rw [if_pos h, if_pos h, at_shift dd id l (n + 1), at_shift dd id l (0 + 1)]; simp; omega
    · rw [if_neg h, if_neg h]; simp
theorem mem_cons (d e : ByteArray) (l : List ByteArray) : mem d (e :: l) = ((e.data.toList == d.data.toList) || mem d l) := by simp [mem]
theorem at_mem (dd : ByteArray → ByteArray) (id : ByteArray) : ∀ (p : List ByteArray), Rise dd p → (atL dd id p 0).2 = mem id (p.map dd)
  | [], _ => rfl
  | x :: l, h => by
    obtain ⟨h1, h2⟩ := List.pairwise_cons.1 h
    rw [atL_cons, List.map_cons, mem_cons]
    by_cases hx : (dd x).data.toList < id.data.toList
    · rw [if_pos hx, at_shift, at_mem dd id l h2]
      have hne : ((dd x).data.toList == id.data.toList) = false := by
        rw [beq_eq_false_iff_ne]; intro e; rw [e] at hx; exact lt_irr _ hx
      rw [hne, Bool.false_or]
    · rw [if_neg hx]
      by_cases he : (dd x).data.toList = id.data.toList
      · simp [he]
      · have hlt := lt_or _ _ hx he
        have hm : mem id (l.map dd) = false := by
          cases hm : mem id (l.map dd)
          · rfl
          · obtain ⟨y, hy, hyd⟩ := List.mem_map.1 ((mem_iff _ _).1 hm)
            have := lt_tr hlt (h1 y hy)
            rw [hyd] at this; exact absurd this (lt_irr _)
        rw [hm]; simp
theorem at_ins (dd : ByteArray → ByteArray) (tx : ByteArray) : ∀ (p : List ByteArray), Rise dd p → (atL dd (dd tx) p 0).2 = false → Rise dd ((p.take (atL dd (dd tx) p 0).1 ++ [tx]) ++ p.drop (atL dd (dd tx) p 0).1)
  | [], _, _ => by simp [Rise]
  | x :: l, h, hf => by
    obtain ⟨h1, h2⟩ := List.pairwise_cons.1 h
    rw [atL_cons] at hf ⊢
    by_cases hx : (dd x).data.toList < (dd tx).data.toList
    · rw [if_pos hx, at_shift] at hf
      rw [if_pos hx, at_shift]
      have ih := at_ins dd tx l h2 hf
      simp only [Nat.zero_add, List.take_succ_cons, List.drop_succ_cons, List.cons_append]
      refine List.pairwise_cons.2 ⟨fun y hy => ?_, ih⟩
      rcases List.mem_append.1 hy with hy | hy
      · rcases List.mem_append.1 hy with hy | hy
        · exact h1 y (List.mem_of_mem_take hy)
        · simp at hy; rw [hy]; exact hx
      · exact h1 y (List.mem_of_mem_drop hy)
    · rw [if_neg hx] at hf
      rw [if_neg hx]
      have hlt := lt_or _ _ hx (by simpa using hf)
      simp only [List.take_zero, List.nil_append, List.drop_zero, List.cons_append]
      exact List.pairwise_cons.2 ⟨fun y hy => by
        rcases List.mem_cons.1 hy with rfl | hy
        · exact hlt
        · exact lt_tr hlt (h1 y hy), h⟩
theorem at_del (dd : ByteArray → ByteArray) (id : ByteArray) : ∀ (p : List ByteArray), Rise dd p → (atL dd id p 0).2 = true → (p.take (atL dd id p 0).1 ++ p.drop ((atL dd id p 0).1 + 1)).map dd = del id (p.map dd)
  | [], _, h => by simp [atL] at h
  | x :: l, h, hf => by
    obtain ⟨h1, h2⟩ := List.pairwise_cons.1 h
    rw [atL_cons] at hf ⊢
    by_cases hx : (dd x).data.toList < id.data.toList
    · rw [if_pos hx, at_shift] at hf
      rw [if_pos hx, at_shift]
      have ih := at_del dd id l h2 hf
      simp only [Nat.zero_add, List.take_succ_cons, List.drop_succ_cons, List.cons_append, List.map_cons]
      rw [ih]
      have hne : (!((dd x).data.toList == id.data.toList)) = true := by
        rw [Bool.not_eq_true', beq_eq_false_iff_ne]; intro e; rw [e] at hx; exact lt_irr _ hx
      unfold del
      rw [List.filter_cons_of_pos (p := fun e : ByteArray => !(e.data.toList == id.data.toList)) (a := dd x) hne]
    · rw [if_neg hx] at hf
      rw [if_neg hx]
      have he : dd x = id := (ba_beq _ _).1 hf
      simp only [List.take_zero, List.nil_append, Nat.zero_add, List.drop_succ_cons, List.drop_zero, List.map_cons]
      have hn : id ∉ l.map dd := fun hm => by
        obtain ⟨y, hy, hyd⟩ := List.mem_map.1 hm
        have := h1 y hy
        rw [hyd, he] at this; exact lt_irr _ this
      have hne : ¬ ((!((dd x).data.toList == id.data.toList)) = true) := by rw [show ((dd x).data.toList == id.data.toList) = true from hf]; simp
      have e2 : del id (dd x :: l.map dd) = del id (l.map dd) := by unfold del; rw [List.filter_cons_of_neg (p := fun e : ByteArray => !(e.data.toList == id.data.toList)) (a := dd x) hne]
      rw [e2, del_out hn]
theorem Rise.dropL {dd : ByteArray → ByteArray} {id : ByteArray} {p : List ByteArray} (h : Rise dd p) : Rise dd (dropL dd id p) ∧ (dropL dd id p).map dd = del id (p.map dd) ∧ (dropL dd id p).length ≤ p.length ∧ ∀ s ∈ dropL dd id p, s ∈ p := by
  unfold Go.Proofs.YtkmalggeieiepaaGreatDoor.dropL
  by_cases hf : (atL dd id p 0).2 = true
  · rw [if_pos hf]
    have hsub : (p.take (atL dd id p 0).1 ++ p.drop ((atL dd id p 0).1 + 1)).Sublist p := by
      have h1 : (p.drop ((atL dd id p 0).1 + 1)).Sublist (p.drop (atL dd id p 0).1) := by
        rw [← List.drop_drop]; exact List.drop_sublist _ _
      have := (List.Sublist.refl (p.take (atL dd id p 0).1)).append h1
      rwa [List.take_append_drop] at this
    exact ⟨List.Pairwise.sublist hsub h, at_del dd id p h hf, hsub.length_le, fun s hs => hsub.subset hs⟩
  · rw [if_neg hf]
    refine ⟨h, ?_, Nat.le_refl _, fun s hs => hs⟩
    rw [at_mem dd id p h] at hf
    exact (del_out (fun hm => hf ((mem_iff _ _).2 hm))).symm
theorem Rise.sorted {dd : ByteArray → ByteArray} {p : List ByteArray} (h : Rise dd p) : sortD (p.map dd) = p.map fun s => (dd s).data.toList := by
  unfold sortD
  rw [List.map_map]
  exact List.mergeSort_of_pairwise (List.pairwise_map.2 (h.imp fun {a b} hab => by simpa using List.le_of_lt hab))
theorem Rise.nodup {dd : ByteArray → ByteArray} {p : List ByteArray} (h : Rise dd p) : (p.map dd).Nodup :=
  List.pairwise_map.2 (h.imp fun {a b} hab e => by rw [e] at hab; exact lt_irr _ hab)
theorem Rise.addP {dd : ByteArray → ByteArray} {tx : ByteArray} {p : List ByteArray} (h : Rise dd p) : Rise dd (addP dd tx p) := by
  unfold Go.Proofs.YtkmalggeieiepaaGreatDoor.addP
  by_cases he : addE dd tx p = 0
  · rw [if_pos he]
    refine at_ins dd tx p h ?_
    cases hf : (atL dd (dd tx) p 0).2
    · rfl
    · exfalso
      unfold addE at he
      by_cases h1 : txErr tx.data.toList ≠ 0
      · rw [if_pos h1] at he; exact h1 he
      · rw [if_neg h1, if_pos hf] at he; cases he
  · rw [if_neg he]; exact h
end Go.Proofs.YtkmalggeieiepaaGreatDoor
namespace Go.Proofs.YtkmalggeieiepaaGreatDoor
open Go.RowKit

theorem le_num : ∀ t : List UInt8, le (num t) t.length = t
  | [] => rfl
  | c :: t => by
    have h := c.toNat_lt
    have e1 : UInt8.ofNat (num (c :: t)) = c := by
      rw [← UInt8.toNat_inj]; simp [num]
    have e2 : num (c :: t) / 256 = num t := by simp only [num]; omega
    show UInt8.ofNat (num (c :: t)) :: le (num (c :: t) / 256) t.length = c :: t
    rw [e1, e2, le_num t]
/-- the least that wants so many bytes. -/
def leastOf (c : UInt8) : Nat := if c = 253 then 253 else if c = 254 then 65536 else if c = 255 then 4294967296 else 0
theorem size_told (c : UInt8) (t : List UInt8) (hm : manyOf c ≠ 0) (ht : t.length = manyOf c) : (sizeL (num t) = c :: t) ↔ ¬ num t < leastOf c := by
  have hn := num_lt t
  have hle := le_num t
  rw [ht] at hn hle
  have hc : c = 253 ∨ c = 254 ∨ c = 255 := by
    unfold manyOf at hm
    by_cases h1 : c = 253
    · exact .inl h1
    · by_cases h2 : c = 254
      · exact .inr (.inl h2)
      · by_cases h3 : c = 255
        · exact .inr (.inr h3)
        · simp [h1, h2, h3] at hm
  rcases hc with rfl | rfl | rfl
  · have m : manyOf 253 = 2 := rfl
    have k : leastOf 253 = 253 := rfl
    rw [m] at hn hle
    rw [k]
    have hn' : num t < 65536 := by simpa using hn
    constructor
    · intro h h2
      have : sizeL (num t) = le (num t) 1 := by simp [sizeL, h2]
      rw [this] at h
      have := congrArg List.length h
      rw [le_length] at this
      simp [m] at ht
      simp [ht] at this
    · intro h
      have : sizeL (num t) = 253 :: le (num t) 2 := by simp [sizeL, h, hn']
      rw [this, hle]
  · have m : manyOf 254 = 4 := rfl
    have k : leastOf 254 = 65536 := rfl
    rw [m] at hn hle
    rw [k]
    have hn' : num t < 4294967296 := by simpa using hn
    constructor
    · intro h h2
      unfold sizeL at h
      by_cases h1 : num t < 253
      · rw [if_pos h1] at h
        have := congrArg List.length h
        rw [le_length] at this
        simp [m] at ht
        simp [ht] at this
      · rw [if_neg h1, if_pos h2] at h
        injection h with h3
        exact absurd h3 (by decide)
    · intro h
      have : sizeL (num t) = 254 :: le (num t) 4 := by
        unfold sizeL; rw [if_neg (by omega), if_neg h, if_pos hn']
      rw [this, hle]
  · have m : manyOf 255 = 8 := rfl
    have k : leastOf 255 = 4294967296 := rfl
    rw [m] at hn hle
    rw [k]
    constructor
    · intro h h2
      unfold sizeL at h
      by_cases h1 : num t < 253
      · rw [if_pos h1] at h
        have := congrArg List.length h
        rw [le_length] at this
        simp [m] at ht
        simp [ht] at this
      · by_cases h3 : num t < 65536
        · rw [if_neg h1, if_pos h3] at h
          injection h with h4
          exact absurd h4 (by decide)
        · rw [if_neg h1, if_neg h3, if_pos h2] at h
          injection h with h4
          exact absurd h4 (by decide)
    · intro h
      have : sizeL (num t) = 255 :: le (num t) 8 := by
        unfold sizeL; rw [if_neg (by omega), if_neg (by omega), if_neg h]
      rw [this, hle]
/-- a fault stays. -/
def Stick (f : List UInt8 × Int → List UInt8 × Int) : Prop := ∀ r, r.2 ≠ 0 → (f r).2 = r.2
theorem Stick.comp {f g : List UInt8 × Int → List UInt8 × Int} (hf : Stick f) (hg : Stick g) : Stick (fun r => g (f r)) := fun r hr => by
  have h := hf r hr
  show (g (f r)).2 = r.2
  rw [hg (f r) (by rw [h]; exact hr), h]
theorem stick_take (n : Nat) : Stick (fun r => (rTake n r).2) := fun r hr => by simp [rTake, hr]
theorem stick_size : Stick (fun r => (rSize r).2) := fun r hr => by simp [rSize, hr]
theorem stick_within (lo hi : Nat) : Stick (fun r => (rWithin lo hi r).2) := fun r hr => by
  have h := stick_size r hr
  have h2 : (rSize r).2.2 ≠ 0 := by rw [show (rSize r).2.2 = r.2 from h]; exact hr
  show (rWithin lo hi r).2.2 = r.2
  unfold rWithin; rw [if_pos h2]; exact h
theorem stick_script : Stick rScript := fun r hr => by
  have h := stick_within 0 40 r hr
  show (rTake (rWithin 0 40 r).1 (rWithin 0 40 r).2).2.2 = r.2
  rw [stick_take _ (rWithin 0 40 r).2 (by rw [show (rWithin 0 40 r).2.2 = r.2 from h]; exact hr)]; exact h
theorem stick_in : Stick rIn := ((stick_take 36).comp stick_script).comp (stick_take 4)
theorem stick_out : Stick rOut := (stick_take 8).comp stick_script
theorem stick_rep {f : List UInt8 × Int → List UInt8 × Int} (hf : Stick f) : ∀ k, Stick (rep f k)
  | 0 => fun _ _ => rfl
  | k + 1 => hf.comp (stick_rep hf k)
theorem stick_reps {f : List UInt8 × Int → List UInt8 × Int} (hf : Stick f) (lo hi : Nat) : Stick (fun r => rep f (rWithin lo hi r).1 (rWithin lo hi r).2) := fun r hr => by
  have h := stick_within lo hi r hr
  show (rep f (rWithin lo hi r).1 (rWithin lo hi r).2).2 = r.2
  rw [stick_rep hf _ (rWithin lo hi r).2 (by rw [show (rWithin lo hi r).2.2 = r.2 from h]; exact hr)]; exact h
theorem stick_done : Stick rDone := fun r hr => by simp [rDone, hr]
end Go.Proofs.YtkmalggeieiepaaGreatDoor
namespace Go.Proofs.YtkmalggeieiepaaGreatDoor
open Go.RowKit

/-- a cursor lies in block g, ahead of m. -/
structure Cu (w : World) (g : Nat) (l m : List UInt8) : Prop where
  s : w.cell? ⟨g, 0, none⟩ = some (.string (ofL l))
  e : ∃ a : Nat, a ≤ l.length ∧ m = l.drop a ∧ w.cell? ⟨g, 1, none⟩ = some (.int .i64 (a : Int))
  ef : w.frozen? ⟨g, 1, none⟩ = false
theorem Cu.lt {w : World} {g : Nat} {l m : List UInt8} (h : Cu w g l m) : g < w.heap.size := World.block_lt_of_cell? w _ h.s
theorem Cu.later {w w' : World} {g : Nat} {l m : List UInt8} (h : Cu w g l m) (hb : Below w.heap.size w w') : Cu w' g l m := by
  have hl := h.lt
  obtain ⟨a, h1, h2, h3⟩ := h.e
  exact ⟨by rw [hb.cell (p := ⟨g, 0, none⟩) hl]; exact h.s, ⟨a, h1, h2, by rw [hb.cell (p := ⟨g, 1, none⟩) hl]; exact h3⟩, by rw [hb.frozen (p := ⟨g, 1, none⟩) hl]; exact h.ef⟩
theorem Cu.setA {w : World} {g : Nat} {l m : List UInt8} (h : Cu w g l m) (b : Nat) (hb : b ≤ l.length) : Cu (w.setCell ⟨g, 1, none⟩ (.int .i64 (b : Int))) g l (l.drop b) := by
  obtain ⟨a, _, _, h3⟩ := h.e
  refine ⟨?_, ⟨b, hb, rfl, World.cell?_setCell_same _ _ _ h3⟩, ?_⟩
  · rw [World.cell?_setCell_other _ _ _ _ (by simp)]; exact h.s
  · simp only [World.frozen?_setCell]; exact h.ef
theorem Cu.drewN {w : World} {g : Nat} {l m : List UInt8} (h : Cu w g l m) (n : Nat) : Cu (w.drewN n) g l m := ⟨h.s, h.e, h.ef⟩
/-- it leaves by a panic of this error. -/
def Errn (c : Int) : Ending := .panicked [{ v := .iface 49 (.int .i64 c), recovered := false }]
/-- a part was read, or it left. -/
def Got (g : Nat) (l : List UInt8) (w : World) (v : Value) (r : List UInt8 × Int) (x : Ending) (w' : World) : Prop :=
  Mov g w w' ∧ (if r.2 = 0 then x = .returned v ∧ Cu w' g l r.1 else x = Errn r.2)

theorem Got.ok {g : Nat} {l : List UInt8} {w w' : World} {v : Value} {r : List UInt8 × Int} (hr : r.2 = 0) (hm : Mov g w w') (hc : Cu w' g l r.1) : Got g l w v r (.returned v) w' := ⟨hm, by rw [if_pos hr]; exact ⟨rfl, hc⟩⟩
theorem Got.no {g : Nat} {l : List UInt8} {w w' : World} {v : Value} {r : List UInt8 × Int} {c : Int} (hr : r.2 = c) (hc : c ≠ 0) (hm : Mov g w w') : Got g l w v r (.panicked [{ v := .iface 49 (.int .i64 c), recovered := false }]) w' := ⟨hm, by rw [if_neg (by rw [hr]; exact hc), hr]; rfl⟩
theorem calls_ok {f : FuncId} {vs : Array Value} {g : Nat} {l : List UInt8} {w0 w : World} {v : Value} {r : List UInt8 × Int} (h : Calls Tryz.prog f vs w0 (Got g l w v r)) (hr : r.2 = 0) : Calls Tryz.prog f vs w0 fun x w' => x = .returned v ∧ Cu w' g l r.1 ∧ Mov g w w' :=
  h.mono fun x w' hx => by
    obtain ⟨hm, h2⟩ := hx
    rw [if_pos hr] at h2
    exact ⟨h2.1, h2.2, hm⟩
theorem calls_no {f : FuncId} {vs : Array Value} {g : Nat} {l : List UInt8} {w0 w : World} {v : Value} {r : List UInt8 × Int} (h : Calls Tryz.prog f vs w0 (Got g l w v r)) (hr : r.2 ≠ 0) : Calls Tryz.prog f vs w0 fun x w' => x = .panicked [{ v := .iface 49 (.int .i64 r.2), recovered := false }] ∧ Mov g w w' :=
  h.mono fun x w' hx => by
    obtain ⟨hm, h2⟩ := hx
    rw [if_neg hr] at h2
    exact ⟨h2, hm⟩
theorem Mov.drewN {g : Nat} {a w : World} (h : Mov g a w) (n : Nat) : Mov g a (w.drewN n) := ⟨h.os, h.tape, h.output, h.size, h.block⟩
theorem Mov.drew {g : Nat} {a w : World} (h : Mov g a w) : Mov g a w.drew := ⟨h.os, h.tape, h.output, h.size, h.block⟩

set_option maxRecDepth 10000 in
theorem cuTake_any (g n : Nat) (l m : List UInt8) (w : World) (h : Cu w g l m) (hl : l.length ≤ maxLen) :
    Calls Tryz.prog 60 #[.pointer (some ⟨g, 0, none⟩), .int .i64 (n : Int)] w (Got g l w (.string (ofL (rTake n (m, 0)).1)) (rTake n (m, 0)).2) := by
  have HR : Hid (Cu w g l m) := h
  have d0 := h.s
  obtain ⟨a, ha, hm, d1⟩ := h.e
  have d2 := h.ef
  have hsz := ofL_size l
  have hml : m.length = l.length - a := by rw [hm]; simp
  clear h
  by_cases hlt : m.length < n
  · have e3 : rTake n (m, 0) = ([], (m, 1)) := by simp [rTake, hlt]
    rw [e3]
    have hgt : wrap64 ((l.length : Int) - (a : Int)) < (n : Int) := by unfold wrap64; unfold maxLen at hl; omega
    go_enter Tryz.func60, Tryz.ntmps60
    go_wp2
    go_quiet (fail)
    go_wp2
    exact ⟨rfl, Got.no rfl (by omega) ((Mov.refl _ _).drewN _)⟩
  · have e3 : rTake n (m, 0) = (m.take n, (m.drop n, 0)) := by simp [rTake, hlt]
    rw [e3]
    have hgt : ¬ (wrap64 ((l.length : Int) - (a : Int)) < (n : Int)) := by unfold wrap64; unfold maxLen at hl; omega
    have hw : wrap64 ((a : Int) + (n : Int)) = ((a + n : Nat) : Int) := by unfold wrap64; unfold maxLen at hl; omega
    have x1 : (ofL l).extract a (a + n) = ofL (m.take n) := by rw [ofL_extract, hm]; congr 2; omega
    have b1 : (a : Int) ≤ ((a + n : Nat) : Int) := by omega
    have b2 : ((a + n : Nat) : Int) ≤ (l.length : Int) := by omega
    go_enter Tryz.func60, Tryz.ntmps60
    go_wp2
    go_quiet (fail)
    go_wp2
    go_quiet (fail)
    go_wp2
    go_ret
    have hd : m.drop n = l.drop (a + n) := by rw [hm, List.drop_drop]
    show Got _ _ _ _ _ (Ending.returned (Value.string ((ofL l).extract a (a + n)))) _
    rw [x1, hd]
    exact Got.ok rfl ((((Mov.refl _ _).drewN _).set 1 _).drewN _) (((HR.out.drewN _).setA (a + n) (by omega)).drewN _)

set_option maxRecDepth 10000 in
theorem cuEnd_any (g : Nat) (l m : List UInt8) (w : World) (h : Cu w g l m) :
    Calls Tryz.prog 59 #[.pointer (some ⟨g, 0, none⟩)] w (Got g l w (.tuple #[]) (rDone (m, 0))) := by
  have HR : Hid (Cu w g l m) := h
  have d0 := h.s
  obtain ⟨a, ha, hm, d1⟩ := h.e
  have hsz := ofL_size l
  have hml : m.length = l.length - a := by rw [hm]; simp
  clear h
  by_cases hlt : a < l.length
  · have hne : m ≠ [] := fun e => by rw [e] at hml; simp at hml; omega
    have e3 : rDone (m, 0) = (m, 5) := by simp [rDone, hne]
    rw [e3]
    have hgt : (a : Int) < (l.length : Int) := by omega
    go_enter Tryz.func59, Tryz.ntmps59
    go_wp2
    go_quiet (fail)
    go_wp2
    exact ⟨rfl, Got.no rfl (by omega) ((Mov.refl _ _).drewN _)⟩
  · have hne : m = [] := List.eq_nil_of_length_eq_zero (by omega)
    have e3 : rDone (m, 0) = (m, 0) := by simp [rDone, hne]
    rw [e3]
    have hgt : ¬ ((a : Int) < (l.length : Int)) := by omega
    go_enter Tryz.func59, Tryz.ntmps59
    go_wp2
    go_quiet (fail)
    go_wp2
    go_end0
    exact Got.ok rfl ((Mov.refl _ _).drewN _) (HR.out.drewN _)

/-- a size of so many bytes. -/
def rLong (k b : Nat) (m : List UInt8) : Nat × (List UInt8 × Int) :=
  if m.length < k then (0, (m, 1)) else (num (m.take k), (m.drop k, if num (m.take k) < b then 2 else 0))
set_option maxRecDepth 10000 in
theorem cuLong_any (g k b : Nat) (l m : List UInt8) (w : World) (h : Cu w g l m) (hl : l.length ≤ maxLen) (hk : k ≤ 8) :
    Calls Tryz.prog 140 #[.pointer (some ⟨g, 0, none⟩), .int .i64 (k : Int), .int .u64 (b : Int)] w (Got g l w (.int .u64 ((rLong k b m).1 : Int)) (rLong k b m).2) := by
  have hT := cuTake_any g k l m w h hl
  clear h
  by_cases hlt : m.length < k
  · have e3 : rTake k (m, 0) = ([], (m, 1)) := by simp [rTake, hlt]
    have e4 : rLong k b m = (0, (m, 1)) := by simp [rLong, hlt]
    rw [e3] at hT
    rw [e4]
    have hN := calls_no hT (by simp)
    clear hT
    go_enter Tryz.func140, Tryz.ntmps140
    go_wp2_with (go_at_call 60; go_must (refine hN.mono ?_); rintro x w1 ⟨rfl, hm1⟩)
    exact ⟨rfl, Got.no rfl (by omega) hm1⟩
  · have e3 : rTake k (m, 0) = (m.take k, (m.drop k, 0)) := by simp [rTake, hlt]
    have e4 : rLong k b m = (num (m.take k), (m.drop k, if num (m.take k) < b then 2 else 0)) := by simp [rLong, hlt]
    rw [e3] at hT
    rw [e4]
    have hN := calls_ok hT rfl
    have hL := fun W => lowest_any (ofL (m.take k)) W (by rw [ofL_size]; simp; omega)
    rw [ofL_data] at hL
    clear hT e3 e4
    generalize num (m.take k) = N at hL
    by_cases hb : N < b
    · have hb' : (N : Int) < (b : Int) := by omega
      rw [if_pos hb]
      go_enter Tryz.func140, Tryz.ntmps140
      go_wp2_with (first | (go_at_call 60; go_must (refine hN.mono ?_); rintro x w1 ⟨rfl, hc1, hm1⟩) | (go_at_call 73; go_must (refine (hL _).mono ?_); rintro x w2 ⟨rfl, rfl⟩))
      exact ⟨rfl, Got.no rfl (by omega) hm1⟩
    · have hb' : ¬ ((N : Int) < (b : Int)) := by omega
      rw [if_neg hb]
      go_enter Tryz.func140, Tryz.ntmps140
      go_wp2_with (first | (go_at_call 60; go_must (refine hN.mono ?_); rintro x w1 ⟨rfl, hc1, hm1⟩) | (go_at_call 73; go_must (refine (hL _).mono ?_); rintro x w2 ⟨rfl, rfl⟩))
      go_ret
      exact Got.ok rfl hm1 hc1
end Go.Proofs.YtkmalggeieiepaaGreatDoor
namespace Go.Proofs.YtkmalggeieiepaaGreatDoor
open Go.RowKit

theorem rSize_long (c : UInt8) (m : List UInt8) (hm : manyOf c ≠ 0) : rSize (c :: m, 0) = rLong (manyOf c) (leastOf c) m := by
  show (if manyOf c = 0 then _ else _ : Nat × (List UInt8 × Int)) = _
  rw [if_neg hm]
  unfold rLong
  by_cases h : m.length < manyOf c
  · rw [if_pos h, if_pos h]
  · rw [if_neg h, if_neg h]
    have hs := size_told c (m.take (manyOf c)) hm (by simp; omega)
    by_cases h2 : num (m.take (manyOf c)) < leastOf c
    · rw [if_pos h2, if_neg (fun e => (hs.1 e) h2)]
    · rw [if_neg h2, if_pos (hs.2 h2)]

set_option maxRecDepth 10000 in
set_option maxHeartbeats 1000000 in
theorem cuAny_any (g : Nat) (l m : List UInt8) (w : World) (h : Cu w g l m) (hl : l.length ≤ maxLen) :
    Calls Tryz.prog 116 #[.pointer (some ⟨g, 0, none⟩)] w (Got g l w (.int .u64 ((rSize (m, 0)).1 : Int)) (rSize (m, 0)).2) := by
  have hT := cuTake_any g 1 l m w h hl
  clear h
  cases m with
  | nil =>
    have e1 : rTake 1 ([], 0) = ([], ([], 1)) := by simp [rTake]
    have e2 : rSize ([], 0) = (0, ([], 1)) := by simp [rSize]
    rw [e1] at hT
    rw [e2]
    have hN := calls_no hT (by simp)
    clear hT
    go_enter Tryz.func116, Tryz.ntmps116
    go_wp2_with (go_at_call 60; go_must (refine hN.mono ?_); rintro x w1 ⟨rfl, hm1⟩)
    exact ⟨rfl, Got.no rfl (by omega) hm1⟩
  | cons c m =>
    have e1 : rTake 1 (c :: m, 0) = ([c], (m, 0)) := by simp [rTake]
    rw [e1] at hT
    have hN := calls_ok hT rfl
    have hL := fun W => lowest_any (ofL [c]) W (by rw [ofL_size]; simp)
    rw [ofL_data] at hL
    clear hT e1
    by_cases c1 : c = 253
    · subst c1
      have hz := fun (W : World) (hc : Cu W g l m) => cuLong_any g 2 253 l m W hc hl (by omega)
      have e2 : rSize (253 :: m, 0) = rLong 2 253 m := rSize_long 253 m (by decide)
      rw [e2]
      have hn : num [(253 : UInt8)] = 253 := rfl
      rw [hn] at hL
      clear e2 hn hl
      generalize rLong 2 253 m = p at hz
      obtain ⟨q, r⟩ := p
      by_cases hr : r.2 = 0
      · have hz2 := fun (W : World) (hc : Cu W g l m) => calls_ok (hz W hc) hr
        have HZ : Hid (∀ W, Cu W g l m → Calls Tryz.prog 140 #[.pointer (some ⟨g, 0, none⟩), .int .i64 2, .int .u64 253] W fun x w' => x = .returned (.int .u64 (q : Int)) ∧ Cu w' g l r.1 ∧ Mov g W w') := hz2
        clear hz hz2
        go_enter Tryz.func116, Tryz.ntmps116
        go_wp2_with (first
          | (go_at_call 60; go_must (refine hN.mono ?_); rintro x w1 ⟨rfl, hc1, hm1⟩; have HC1 := (show Hid (Cu w1 g l m) from hc1); have HM1 := (show Hid (Mov g w w1) from hm1); clear hc1 hm1)
          | (go_at_call 73; go_must (refine (hL _).mono ?_); rintro x w1 ⟨rfl, rfl⟩)
          | (go_at_call 140; go_must (refine (HZ.out _ HC1.out).mono ?_); rintro x w3 ⟨rfl, hc3, hm3⟩; have HC3 := (show Hid (Cu w3 g l r.1) from hc3); have HM3 := (show Hid (Mov g w1 w3) from hm3); clear hc3 hm3))
        go_ret
        exact Got.ok hr (HM1.out.trans HM3.out) HC3.out
      · have hz2 := fun (W : World) (hc : Cu W g l m) => calls_no (hz W hc) hr
        have HZ : Hid (∀ W, Cu W g l m → Calls Tryz.prog 140 #[.pointer (some ⟨g, 0, none⟩), .int .i64 2, .int .u64 253] W fun x w' => x = .panicked [{ v := .iface 49 (.int .i64 r.2), recovered := false }] ∧ Mov g W w') := hz2
        clear hz hz2
        go_enter Tryz.func116, Tryz.ntmps116
        go_wp2_with (first
          | (go_at_call 60; go_must (refine hN.mono ?_); rintro x w1 ⟨rfl, hc1, hm1⟩; have HC1 := (show Hid (Cu w1 g l m) from hc1); have HM1 := (show Hid (Mov g w w1) from hm1); clear hc1 hm1)
          | (go_at_call 73; go_must (refine (hL _).mono ?_); rintro x w1 ⟨rfl, rfl⟩)
          | (go_at_call 140; go_must (refine (HZ.out _ HC1.out).mono ?_); rintro x w3 ⟨rfl, hm3⟩; have HM3 := (show Hid (Mov g w1 w3) from hm3); clear hm3))
        exact ⟨rfl, Got.no rfl hr (HM1.out.trans HM3.out)⟩
    · by_cases c2 : c = 254
      · subst c2
        have hz := fun (W : World) (hc : Cu W g l m) => cuLong_any g 4 65536 l m W hc hl (by omega)
        have e2 : rSize (254 :: m, 0) = rLong 4 65536 m := rSize_long 254 m (by decide)
        rw [e2]
        have hn : num [(254 : UInt8)] = 254 := rfl
        rw [hn] at hL
        clear e2 hn hl
        generalize rLong 4 65536 m = p at hz
        obtain ⟨q, r⟩ := p
        by_cases hr : r.2 = 0
        · have hz2 := fun (W : World) (hc : Cu W g l m) => calls_ok (hz W hc) hr
          have HZ : Hid (∀ W, Cu W g l m → Calls Tryz.prog 140 #[.pointer (some ⟨g, 0, none⟩), .int .i64 4, .int .u64 65536] W fun x w' => x = .returned (.int .u64 (q : Int)) ∧ Cu w' g l r.1 ∧ Mov g W w') := hz2
          clear hz hz2
          go_enter Tryz.func116, Tryz.ntmps116
          go_wp2_with (first
            | (go_at_call 60; go_must (refine hN.mono ?_); rintro x w1 ⟨rfl, hc1, hm1⟩; have HC1 := (show Hid (Cu w1 g l m) from hc1); have HM1 := (show Hid (Mov g w w1) from hm1); clear hc1 hm1)
            | (go_at_call 73; go_must (refine (hL _).mono ?_); rintro x w1 ⟨rfl, rfl⟩)
            | (go_at_call 140; go_must (refine (HZ.out _ HC1.out).mono ?_); rintro x w3 ⟨rfl, hc3, hm3⟩; have HC3 := (show Hid (Cu w3 g l r.1) from hc3); have HM3 := (show Hid (Mov g w1 w3) from hm3); clear hc3 hm3))
          go_ret
          exact Got.ok hr (HM1.out.trans HM3.out) HC3.out
        · have hz2 := fun (W : World) (hc : Cu W g l m) => calls_no (hz W hc) hr
          have HZ : Hid (∀ W, Cu W g l m → Calls Tryz.prog 140 #[.pointer (some ⟨g, 0, none⟩), .int .i64 4, .int .u64 65536] W fun x w' => x = .panicked [{ v := .iface 49 (.int .i64 r.2), recovered := false }] ∧ Mov g W w') := hz2
          clear hz hz2
          go_enter Tryz.func116, Tryz.ntmps116
          go_wp2_with (first
            | (go_at_call 60; go_must (refine hN.mono ?_); rintro x w1 ⟨rfl, hc1, hm1⟩; have HC1 := (show Hid (Cu w1 g l m) from hc1); have HM1 := (show Hid (Mov g w w1) from hm1); clear hc1 hm1)
            | (go_at_call 73; go_must (refine (hL _).mono ?_); rintro x w1 ⟨rfl, rfl⟩)
            | (go_at_call 140; go_must (refine (HZ.out _ HC1.out).mono ?_); rintro x w3 ⟨rfl, hm3⟩; have HM3 := (show Hid (Mov g w1 w3) from hm3); clear hm3))
          exact ⟨rfl, Got.no rfl hr (HM1.out.trans HM3.out)⟩
      · by_cases c3 : c = 255
        · subst c3
          have hz := fun (W : World) (hc : Cu W g l m) => cuLong_any g 8 4294967296 l m W hc hl (by omega)
          have e2 : rSize (255 :: m, 0) = rLong 8 4294967296 m := rSize_long 255 m (by decide)
          rw [e2]
          have hn : num [(255 : UInt8)] = 255 := rfl
          rw [hn] at hL
          clear e2 hn hl
          generalize rLong 8 4294967296 m = p at hz
          obtain ⟨q, r⟩ := p
          by_cases hr : r.2 = 0
          · have hz2 := fun (W : World) (hc : Cu W g l m) => calls_ok (hz W hc) hr
            have HZ : Hid (∀ W, Cu W g l m → Calls Tryz.prog 140 #[.pointer (some ⟨g, 0, none⟩), .int .i64 8, .int .u64 4294967296] W fun x w' => x = .returned (.int .u64 (q : Int)) ∧ Cu w' g l r.1 ∧ Mov g W w') := hz2
            clear hz hz2
            go_enter Tryz.func116, Tryz.ntmps116
            go_wp2_with (first
              | (go_at_call 60; go_must (refine hN.mono ?_); rintro x w1 ⟨rfl, hc1, hm1⟩; have HC1 := (show Hid (Cu w1 g l m) from hc1); have HM1 := (show Hid (Mov g w w1) from hm1); clear hc1 hm1)
              | (go_at_call 73; go_must (refine (hL _).mono ?_); rintro x w1 ⟨rfl, rfl⟩)
              | (go_at_call 140; go_must (refine (HZ.out _ HC1.out).mono ?_); rintro x w3 ⟨rfl, hc3, hm3⟩; have HC3 := (show Hid (Cu w3 g l r.1) from hc3); have HM3 := (show Hid (Mov g w1 w3) from hm3); clear hc3 hm3))
            go_ret
            exact Got.ok hr (HM1.out.trans HM3.out) HC3.out
          · have hz2 := fun (W : World) (hc : Cu W g l m) => calls_no (hz W hc) hr
            have HZ : Hid (∀ W, Cu W g l m → Calls Tryz.prog 140 #[.pointer (some ⟨g, 0, none⟩), .int .i64 8, .int .u64 4294967296] W fun x w' => x = .panicked [{ v := .iface 49 (.int .i64 r.2), recovered := false }] ∧ Mov g W w') := hz2
            clear hz hz2
            go_enter Tryz.func116, Tryz.ntmps116
            go_wp2_with (first
              | (go_at_call 60; go_must (refine hN.mono ?_); rintro x w1 ⟨rfl, hc1, hm1⟩; have HC1 := (show Hid (Cu w1 g l m) from hc1); have HM1 := (show Hid (Mov g w w1) from hm1); clear hc1 hm1)
              | (go_at_call 73; go_must (refine (hL _).mono ?_); rintro x w1 ⟨rfl, rfl⟩)
              | (go_at_call 140; go_must (refine (HZ.out _ HC1.out).mono ?_); rintro x w3 ⟨rfl, hm3⟩; have HM3 := (show Hid (Mov g w1 w3) from hm3); clear hm3))
            exact ⟨rfl, Got.no rfl hr (HM1.out.trans HM3.out)⟩
        · have hm : manyOf c = 0 := by simp [manyOf, c1, c2, c3]
          have e2 : rSize (c :: m, 0) = (c.toNat, (m, 0)) := by simp [rSize, hm]
          rw [e2]
          have hn : num [c] = c.toNat := by simp [num]
          rw [hn] at hL
          have n1 : ¬ ((c.toNat : Int) = 253) := fun h => c1 (by rw [← UInt8.toNat_inj]; simp; omega)
          have n2 : ¬ ((c.toNat : Int) = 254) := fun h => c2 (by rw [← UInt8.toNat_inj]; simp; omega)
          have n3 : ¬ ((c.toNat : Int) = 255) := fun h => c3 (by rw [← UInt8.toNat_inj]; simp; omega)
          clear c1 c2 c3 hm e2 hn
          generalize (c.toNat : Int) = C at hL n1 n2 n3
          go_enter Tryz.func116, Tryz.ntmps116
          go_wp2_with (first
            | (go_at_call 60; go_must (refine hN.mono ?_); rintro x w1 ⟨rfl, hc1, hm1⟩; have HC1 := (show Hid (Cu w1 g l m) from hc1); have HM1 := (show Hid (Mov g w w1) from hm1); clear hc1 hm1)
            | (go_at_call 73; go_must (refine (hL _).mono ?_); rintro x w1 ⟨rfl, rfl⟩))
          go_ret
          exact Got.ok rfl HM1.out HC1.out

set_option maxRecDepth 10000 in
theorem cuSize_any (g lo hi : Nat) (l m : List UInt8) (w : World) (h : Cu w g l m) (hl : l.length ≤ maxLen) :
    Calls Tryz.prog 75 #[.pointer (some ⟨g, 0, none⟩), .int .u64 (lo : Int), .int .u64 (hi : Int)] w (Got g l w (.int .u64 ((rWithin lo hi (m, 0)).1 : Int)) (rWithin lo hi (m, 0)).2) := by
  have hz := cuAny_any g l m w h hl
  have HE : rWithin lo hi (m, 0) = if (rSize (m, 0)).2.2 ≠ 0 then (0, (rSize (m, 0)).2) else if (rSize (m, 0)).1 < lo ∨ hi < (rSize (m, 0)).1 then (0, ((rSize (m, 0)).2.1, 3)) else rSize (m, 0) := rfl
  rw [HE]
  clear h HE hl
  generalize rSize (m, 0) = p at hz
  obtain ⟨q, r⟩ := p
  by_cases hr : r.2 = 0
  · have hN := calls_ok hz hr
    clear hz
    rw [if_neg (fun h => h hr)]
    by_cases hb : q < lo ∨ hi < q
    · rw [if_pos hb]
      by_cases h1 : q < lo
      · have i1 : (q : Int) < (lo : Int) := by omega
        go_enter Tryz.func75, Tryz.ntmps75
        go_wp2_with (go_at_call 116; go_must (refine hN.mono ?_); rintro x w1 ⟨rfl, hc1, hm1⟩)
        exact ⟨rfl, Got.no rfl (by omega) hm1⟩
      · have i1 : ¬ ((q : Int) < (lo : Int)) := by omega
        have i2 : (hi : Int) < (q : Int) := by omega
        go_enter Tryz.func75, Tryz.ntmps75
        go_wp2_with (go_at_call 116; go_must (refine hN.mono ?_); rintro x w1 ⟨rfl, hc1, hm1⟩)
        exact ⟨rfl, Got.no rfl (by omega) hm1⟩
    · rw [if_neg hb]
      have i1 : ¬ ((q : Int) < (lo : Int)) := by omega
      have i2 : ¬ ((hi : Int) < (q : Int)) := by omega
      go_enter Tryz.func75, Tryz.ntmps75
      go_wp2_with (go_at_call 116; go_must (refine hN.mono ?_); rintro x w1 ⟨rfl, hc1, hm1⟩)
      go_ret
      exact Got.ok hr hm1 hc1
  · have hN := calls_no hz hr
    clear hz
    rw [if_pos hr]
    go_enter Tryz.func75, Tryz.ntmps75
    go_wp2_with (go_at_call 116; go_must (refine hN.mono ?_); rintro x w1 ⟨rfl, hm1⟩)
    exact ⟨rfl, Got.no rfl hr hm1⟩
end Go.Proofs.YtkmalggeieiepaaGreatDoor
set_option linter.unusedSimpArgs false
namespace Go.Proofs.YtkmalggeieiepaaGreatDoor
open Go.RowKit

theorem Cu.drew {w : World} {g : Nat} {l m : List UInt8} (h : Cu w g l m) : Cu w.drew g l m := ⟨h.s, h.e, h.ef⟩
theorem Mov.undrew {g : Nat} {w w' : World} (h : Mov g w.drew w') : Mov g w w' := ⟨h.os, h.tape, h.output, h.size, h.block⟩
theorem Got.not_out {g : Nat} {l : List UInt8} {w w' : World} {v : Value} {r : List UInt8 × Int} (h : Got g l w v r .outgrown w') : False := by
  obtain ⟨_, hx⟩ := h
  by_cases hr : r.2 = 0
  · rw [if_pos hr] at hx; cases hx.1
  · rw [if_neg hr] at hx; cases hx
theorem rScript_of (m : List UInt8) : rScript (m, 0) = (rTake (rWithin 0 40 (m, 0)).1 (rWithin 0 40 (m, 0)).2).2 := rfl

set_option maxRecDepth 10000 in
set_option maxHeartbeats 1000000 in
theorem cuScript_any (g : Nat) (l m : List UInt8) (w : World) (h : Cu w g l m) (hl : l.length ≤ maxLen) :
    Calls Tryz.prog 100 #[.pointer (some ⟨g, 0, none⟩)] w (Got g l w (.tuple #[]) (rScript (m, 0))) := by
  have hz := cuSize_any g 0 40 l m w.drew h.drew hl
  have hq := rWithin_hi 0 40 (m, 0)
  rw [rScript_of]
  clear h
  generalize rWithin 0 40 (m, 0) = p at hz hq
  obtain ⟨q, r⟩ := p
  have hq' : q ≤ 40 := hq
  clear hq
  go_enter Tryz.func100, Tryz.ntmps100
  refine q_frame (fun A HFR => ?_)
  have hsz : A.tmps.size = 11 := by rw [HFR.out]; rfl
  have h0 : A.eval (.tmp 0) = .pointer (some ⟨g, 0, none⟩) := by rw [HFR.out]; rfl
  have hdf : A.defers = [] := by rw [HFR.out]
  refine wp_region_any (by kernel_rfl) ?_
  refine wpAny_take (i := 0) (v := (.pointer (some ⟨g, 0, none⟩))) rfl (by kernel_rfl) (by kernel_rfl) (by kernel_rfl) (fun _ _ _ h => h) (Or.inl ⟨by rfl, fun W => ?_⟩) ?_
  · exact q_run1 0 (.pointer (some ⟨g, 0, none⟩)) (by simp only [q_same, q_ne, q_sz, hsz, h0, ne_eq, Nat.reduceEqDiff, not_false_eq_true, Nat.reduceLT]) (fun ρ _ _ e1 => by simp [go_sem, e1])
  change wpAny _ _ _ _ _ _ (Act.put _ (some 2) _) _
  refine wpAny_take (i := 1) (v := (.pointer (some ⟨g, 0, none⟩))) rfl (by kernel_rfl) (by kernel_rfl) (by kernel_rfl) (fun _ _ _ h => h) (Or.inl ⟨by rfl, fun W => ?_⟩) ?_
  · exact q_run1 2 (.pointer (some ⟨g, 0, none⟩)) (by simp only [q_same, q_ne, q_sz, hsz, h0, ne_eq, Nat.reduceEqDiff, not_false_eq_true, Nat.reduceLT]) (fun ρ _ _ e1 => by simp [go_sem, e1])
  change wpAny _ _ _ _ _ _ (Act.put _ (some 3) _) _
  refine wpAny_take (i := 2) (v := (.pointer (some ⟨g, 0, none⟩))) rfl (by kernel_rfl) (by kernel_rfl) (by kernel_rfl) (fun _ _ _ h => h) (Or.inl ⟨by rfl, fun W => ?_⟩) ?_
  · exact q_run1 3 (.pointer (some ⟨g, 0, none⟩)) (by simp only [q_same, q_ne, q_sz, hsz, h0, ne_eq, Nat.reduceEqDiff, not_false_eq_true, Nat.reduceLT]) (fun ρ _ _ e1 => by simp [go_sem, e1])
  change wpAny _ _ _ _ _ _ (Act.put _ (some 4) _) _
  refine wpAny_take (i := 3) (v := (.pointer (some ⟨g, 0, none⟩))) rfl (by kernel_rfl) (by kernel_rfl) (by kernel_rfl) (fun _ _ _ h => h) (Or.inl ⟨by rfl, fun W => ?_⟩) ?_
  · exact q_run1 0 (.pointer (some ⟨g, 0, none⟩)) (by simp only [q_same, q_ne, q_sz, hsz, h0, ne_eq, Nat.reduceEqDiff, not_false_eq_true, Nat.reduceLT]) (fun ρ _ _ e1 => by simp [go_sem, e1])
  change wpAny _ _ _ _ _ _ (Act.put _ (some 5) _) _
  refine wpAny_take (i := 4) (v := (.pointer (some ⟨g, 0, none⟩))) rfl (by kernel_rfl) (by kernel_rfl) (by kernel_rfl) (fun _ _ _ h => h) (Or.inl ⟨by rfl, fun W => ?_⟩) ?_
  · exact q_run1 5 (.pointer (some ⟨g, 0, none⟩)) (by simp only [q_same, q_ne, q_sz, hsz, h0, ne_eq, Nat.reduceEqDiff, not_false_eq_true, Nat.reduceLT]) (fun ρ _ _ e1 => by simp [go_sem, e1])
  change wpAny _ _ _ _ _ _ (Act.put _ (some 6) _) _
  refine wpAny_take (i := 5) (v := (.pointer (some ⟨g, 0, none⟩))) rfl (by kernel_rfl) (by kernel_rfl) (by kernel_rfl) (fun _ _ _ h => h) (Or.inl ⟨by rfl, fun W => ?_⟩) ?_
  · exact q_run1 6 (.pointer (some ⟨g, 0, none⟩)) (by simp only [q_same, q_ne, q_sz, hsz, h0, ne_eq, Nat.reduceEqDiff, not_false_eq_true, Nat.reduceLT]) (fun ρ _ _ e1 => by simp [go_sem, e1])
  change wpAny _ _ _ _ _ _ (Act.put _ (some 7) _) _
  refine q_call 6 75 #[.pointer (some ⟨g, 0, none⟩), .int .u64 0, .int .u64 40] _ (by kernel_rfl) rfl rfl ?_ hz ?_ ?_ ?_
  · exact q_run1 7 (.pointer (some ⟨g, 0, none⟩)) (by simp only [q_same, q_ne, q_sz, hsz, h0, ne_eq, Nat.reduceEqDiff, not_false_eq_true, Nat.reduceLT]) (fun ρ hc hf e1 => by simp [go_sem, hc, hf, e1])
  · intro v w1 hx
    change wpAny _ _ _ _ _ _ (Act.put _ (some 8) _) _
    obtain ⟨hm1, hx⟩ := hx
    by_cases hr : r.2 = 0
    · rw [if_pos hr] at hx
      obtain ⟨hv, hc1⟩ := hx
      injection hv with hv
      subst hv
      obtain ⟨m1, c1⟩ := r
      have hr' : c1 = 0 := hr
      subst hr'
      clear hr
      have ht := cuTake_any g q l m1 w1 hc1 hl
      have hw : IntKind.i64.wrap (q : Int) = (q : Int) := by rw [IntKind.wrap_i64]; omega
      refine q_one 7 (.int .i64 (IntKind.i64.wrap (q : Int))) w1 (by kernel_rfl) rfl rfl ?_ ?_
      · exact q_run1 8 (.int .u64 (q : Int)) (by simp only [q_same, q_ne, q_sz, hsz, h0, ne_eq, Nat.reduceEqDiff, not_false_eq_true, Nat.reduceLT]) (fun ρ _ _ e1 => by simp [go_sem, e1])
      change wpAny _ _ _ _ _ _ (Act.put _ (some 9) _) _
      refine q_call 8 60 #[.pointer (some ⟨g, 0, none⟩), .int .i64 (IntKind.i64.wrap (q : Int))] _ (by kernel_rfl) rfl rfl ?_ (by rw [hw]; exact ht) ?_ ?_ ?_
      · exact q_run2 4 9 (.pointer (some ⟨g, 0, none⟩)) (.int .i64 (IntKind.i64.wrap (q : Int))) (by simp only [q_same, q_ne, q_sz, hsz, h0, ne_eq, Nat.reduceEqDiff, not_false_eq_true, Nat.reduceLT]) (by simp only [q_same, q_ne, q_sz, hsz, h0, ne_eq, Nat.reduceEqDiff, not_false_eq_true, Nat.reduceLT]) (fun ρ _ hf e1 e2 => by simp [go_sem, hf, e1, e2])
      · intro v w2 hx
        refine wpAny_done (by kernel_rfl) ?_ _
        obtain ⟨hm2, hx⟩ := hx
        have hr2 : (rTake q (m1, 0)).2.2 = 0 := by
          rcases Decidable.em ((rTake q (m1, 0)).2.2 = 0) with e | e
          · exact e
          · rw [if_neg e] at hx; cases hx
        rw [if_pos hr2] at hx
        refine q_done0 (by kernel_rfl) (by simp only [q_def]; exact hdf) (Got.ok hr2 (hm1.undrew.trans hm2) hx.2)
      · intro ch w2 hx
        obtain ⟨hm2, hx⟩ := hx
        have hr2 : (rTake q (m1, 0)).2.2 ≠ 0 := fun e => by rw [if_pos e] at hx; cases hx.1
        rw [if_neg hr2] at hx
        injection hx with hx
        subst hx
        refine q_panic (by simp only [q_def]; exact hdf) (Got.no rfl hr2 (hm1.undrew.trans hm2))
      · intro w2 hx
        exact Got.not_out hx
    · rw [if_neg hr] at hx
      cases hx
  · intro ch w1 hx
    obtain ⟨hm1, hx⟩ := hx
    by_cases hr : r.2 = 0
    · rw [if_pos hr] at hx
      cases hx.1
    · rw [if_neg hr] at hx
      injection hx with hx
      subst hx
      refine q_panic (by simp only [q_def]; exact hdf) (Got.no (stick_take q r hr) hr hm1.undrew)
  · intro w1 hx
    exact Got.not_out hx
end Go.Proofs.YtkmalggeieiepaaGreatDoor
namespace Go.Proofs.YtkmalggeieiepaaGreatDoor
open Go.RowKit

theorem rIn_of (m : List UInt8) : rIn (m, 0) = (rTake 4 (rScript (rTake 36 (m, 0)).2)).2 := rfl
theorem rOut_of (m : List UInt8) : rOut (m, 0) = rScript (rTake 8 (m, 0)).2 := rfl

set_option maxRecDepth 10000 in
set_option maxHeartbeats 1000000 in
theorem cuIn_any (g : Nat) (l m : List UInt8) (w : World) (h : Cu w g l m) (hl : l.length ≤ maxLen) :
    Calls Tryz.prog 62 #[.pointer (some ⟨g, 0, none⟩)] w (Got g l w (.tuple #[]) (rIn (m, 0))) := by
  have ht := cuTake_any g 36 l m w h hl
  rw [rIn_of]
  clear h
  generalize rTake 36 (m, 0) = p at ht
  obtain ⟨t1, m1, c1⟩ := p
  by_cases hr : c1 = 0
  · subst hr
    have h1 := calls_ok ht rfl
    have hs := fun (W : World) (hc : Cu W g l m1) => cuScript_any g l m1 W hc hl
    clear ht
    show Calls _ _ _ _ (Got g l w (.tuple #[]) (rTake 4 (rScript (m1, 0))).2)
    generalize rScript (m1, 0) = r at hs
    obtain ⟨m2, c2⟩ := r
    by_cases hr : c2 = 0
    · subst hr
      have h2 := fun (W : World) (hc : Cu W g l m1) => calls_ok (hs W hc) rfl
      have hq := fun (W : World) (hc : Cu W g l m2) => cuTake_any g 4 l m2 W hc hl
      clear hs hl
      generalize rTake 4 (m2, 0) = p at hq
      obtain ⟨t3, r3⟩ := p
      by_cases hr : r3.2 = 0
      · have h3 := fun (W : World) (hc : Cu W g l m2) => calls_ok (hq W hc) hr
        clear hq
        go_enter Tryz.func62, Tryz.ntmps62
        go_upto_region 1 with (go_at_call 60; go_must (refine h1.mono ?_); rintro x w1 ⟨rfl, hc1, hm1⟩; have HC1 := (show Hid (Cu w1 g l m1) from hc1); have HM1 := (show Hid (Mov g w w1) from hm1); clear hc1 hm1)
        go_upto_region 2 with (go_at_call 100; go_must (refine (h2 _ HC1.out).mono ?_); rintro x w2 ⟨rfl, hc2, hm2⟩; have HC2 := (show Hid (Cu w2 g l m2) from hc2); have HM2 := (show Hid (Mov g w1 w2) from hm2); clear hc2 hm2)
        go_wp2_with (go_at_call 60; go_must (refine (h3 _ HC2.out).mono ?_); rintro x w3 ⟨rfl, hc3, hm3⟩)
        go_end0
        exact Got.ok hr (HM1.out.trans (HM2.out.trans hm3)) hc3
      · have h3 := fun (W : World) (hc : Cu W g l m2) => calls_no (hq W hc) hr
        clear hq
        go_enter Tryz.func62, Tryz.ntmps62
        go_upto_region 1 with (go_at_call 60; go_must (refine h1.mono ?_); rintro x w1 ⟨rfl, hc1, hm1⟩; have HC1 := (show Hid (Cu w1 g l m1) from hc1); have HM1 := (show Hid (Mov g w w1) from hm1); clear hc1 hm1)
        go_upto_region 2 with (go_at_call 100; go_must (refine (h2 _ HC1.out).mono ?_); rintro x w2 ⟨rfl, hc2, hm2⟩; have HC2 := (show Hid (Cu w2 g l m2) from hc2); have HM2 := (show Hid (Mov g w1 w2) from hm2); clear hc2 hm2)
        go_wp2_with (go_at_call 60; go_must (refine (h3 _ HC2.out).mono ?_); rintro x w3 ⟨rfl, hm3⟩)
        exact ⟨rfl, Got.no rfl hr (HM1.out.trans (HM2.out.trans hm3))⟩
    · have h2 := fun (W : World) (hc : Cu W g l m1) => calls_no (hs W hc) hr
      have HE : Hid ((rTake 4 (m2, c2)).2.2 = c2) := stick_take 4 (m2, c2) hr
      clear hs hl
      generalize (rTake 4 (m2, c2)).2 = r3 at HE
      go_enter Tryz.func62, Tryz.ntmps62
      go_upto_region 1 with (go_at_call 60; go_must (refine h1.mono ?_); rintro x w1 ⟨rfl, hc1, hm1⟩; have HC1 := (show Hid (Cu w1 g l m1) from hc1); have HM1 := (show Hid (Mov g w w1) from hm1); clear hc1 hm1)
      go_wp2_with (go_at_call 100; go_must (refine (h2 _ HC1.out).mono ?_); rintro x w2 ⟨rfl, hm2⟩)
      exact ⟨rfl, Got.no HE.out hr (HM1.out.trans hm2)⟩
  · have h1 := calls_no ht hr
    have HE : Hid ((rTake 4 (rScript (m1, c1))).2.2 = c1) := ((stick_script.comp (stick_take 4)) (m1, c1) hr : _)
    clear ht hl
    show Calls _ _ _ _ (Got g l w (.tuple #[]) (rTake 4 (rScript (m1, c1))).2)
    generalize (rTake 4 (rScript (m1, c1))).2 = r3 at HE
    go_enter Tryz.func62, Tryz.ntmps62
    go_wp2_with (go_at_call 60; go_must (refine h1.mono ?_); rintro x w1 ⟨rfl, hm1⟩)
    exact ⟨rfl, Got.no HE.out hr hm1⟩

set_option maxRecDepth 10000 in
set_option maxHeartbeats 1000000 in
theorem cuOut_any (g : Nat) (l m : List UInt8) (w : World) (h : Cu w g l m) (hl : l.length ≤ maxLen) :
    Calls Tryz.prog 63 #[.pointer (some ⟨g, 0, none⟩)] w (Got g l w (.tuple #[]) (rOut (m, 0))) := by
  have ht := cuTake_any g 8 l m w h hl
  rw [rOut_of]
  clear h
  generalize rTake 8 (m, 0) = p at ht
  obtain ⟨t1, m1, c1⟩ := p
  by_cases hr : c1 = 0
  · subst hr
    have h1 := calls_ok ht rfl
    have hs := fun (W : World) (hc : Cu W g l m1) => cuScript_any g l m1 W hc hl
    clear ht hl
    show Calls _ _ _ _ (Got g l w (.tuple #[]) (rScript (m1, 0)))
    generalize rScript (m1, 0) = r at hs
    by_cases hr : r.2 = 0
    · have h2 := fun (W : World) (hc : Cu W g l m1) => calls_ok (hs W hc) hr
      clear hs
      go_enter Tryz.func63, Tryz.ntmps63
      go_upto_region 1 with (go_at_call 60; go_must (refine h1.mono ?_); rintro x w1 ⟨rfl, hc1, hm1⟩; have HC1 := (show Hid (Cu w1 g l m1) from hc1); have HM1 := (show Hid (Mov g w w1) from hm1); clear hc1 hm1)
      go_wp2_with (go_at_call 100; go_must (refine (h2 _ HC1.out).mono ?_); rintro x w2 ⟨rfl, hc2, hm2⟩)
      go_end0
      exact Got.ok hr (HM1.out.trans hm2) hc2
    · have h2 := fun (W : World) (hc : Cu W g l m1) => calls_no (hs W hc) hr
      clear hs
      go_enter Tryz.func63, Tryz.ntmps63
      go_upto_region 1 with (go_at_call 60; go_must (refine h1.mono ?_); rintro x w1 ⟨rfl, hc1, hm1⟩; have HC1 := (show Hid (Cu w1 g l m1) from hc1); have HM1 := (show Hid (Mov g w w1) from hm1); clear hc1 hm1)
      go_wp2_with (go_at_call 100; go_must (refine (h2 _ HC1.out).mono ?_); rintro x w2 ⟨rfl, hm2⟩)
      exact ⟨rfl, Got.no rfl hr (HM1.out.trans hm2)⟩
  · have h1 := calls_no ht hr
    have HE : Hid ((rScript (m1, c1)).2 = c1) := stick_script (m1, c1) hr
    clear ht hl
    show Calls _ _ _ _ (Got g l w (.tuple #[]) (rScript (m1, c1)))
    generalize rScript (m1, c1) = r3 at HE
    go_enter Tryz.func63, Tryz.ntmps63
    go_wp2_with (go_at_call 60; go_must (refine h1.mono ?_); rintro x w1 ⟨rfl, hm1⟩)
    exact ⟨rfl, Got.no HE.out hr hm1⟩

set_option maxRecDepth 10000 in
set_option maxHeartbeats 1000000 in
theorem cuIns_any (g : Nat) (l m : List UInt8) (w : World) (h : Cu w g l m) (hl : l.length ≤ maxLen) :
    Calls Tryz.prog 61 #[.pointer (some ⟨g, 0, none⟩), .int .u64 1, .int .u64 4, .func (.func 62) #[] #[]] w (Got g l w (.tuple #[]) (rep rIn (rWithin 1 4 (m, 0)).1 (rWithin 1 4 (m, 0)).2)) := by
  have hz := cuSize_any g 1 4 l m w h hl
  have hq := rWithin_hi 1 4 (m, 0)
  have HP : Hid (∀ (W : World) (m : List UInt8), Cu W g l m → Calls Tryz.prog 62 #[.pointer (some ⟨g, 0, none⟩)] W (Got g l W (.tuple #[]) (rIn (m, 0)))) := fun W m hc => cuIn_any g l m W hc hl
  clear h hl
  generalize rWithin 1 4 (m, 0) = p at hz hq
  obtain ⟨q, m1, c1⟩ := p
  have hq' : q ≤ 4 := hq
  clear hq
  by_cases hr : c1 = 0
  · subst hr
    have h1 := calls_ok hz rfl
    clear hz
    show Calls _ _ _ _ (Got g l w (.tuple #[]) (rep rIn q (m1, 0)))
    obtain ⟨R, HR⟩ : ∃ R, Hid (R = rep rIn q (m1, 0)) := ⟨_, rfl⟩
    rw [← HR.out]
    go_enter Tryz.func61, Tryz.ntmps61
    go_upto_region 1 with (go_at_call 75; go_must (refine h1.mono ?_); rintro x w1 ⟨rfl, hc1, hm1⟩; have HC1 := (show Hid (Cu w1 g l m1) from hc1); have HM1 := (show Hid (Mov g w w1) from hm1); clear hc1 hm1)
    go_loopg [14] q (fun g' iv wx => ∃ k : Nat, ∃ m : List UInt8, k + g' = q ∧ iv = .int .u64 (k : Int) ∧ rep rIn g' (m, 0) = R ∧ Cu wx g l m ∧ Mov g w wx)
    case atStart => exact ⟨0, m1, by omega, rfl, HR.out.symm, HC1.out, HM1.out⟩
    case round =>
      clear HC1 HM1 HR
      obtain ⟨k, m2, hk, rfl, hrep, hc, hm⟩ := hrel
      have HC : Hid (Cu wr g l m2) := hc
      have HM : Hid (Mov g w wr) := hm
      have HE : Hid (rep rIn gk (m2, 0) = R) := hrep
      clear hc hm hrep
      by_cases h0 : gk = 0
      · subst h0
        have hlt : ¬ ((k : Int) < (q : Int)) := by omega
        have hE : (m2, 0) = R := HE.out
        go_wp2
        go_end0
        rw [← hE]
        exact Got.ok rfl HM.out HC.out
      · obtain ⟨j, rfl⟩ : ∃ j, gk = j + 1 := ⟨gk - 1, by omega⟩
        have hlt : (k : Int) < (q : Int) := by omega
        have hp := HP.out wr m2 HC.out
        have HE2 : Hid (rep rIn j (rIn (m2, 0)) = R) := HE.out
        clear HE
        generalize rIn (m2, 0) = r at hp HE2
        obtain ⟨m3, c3⟩ := r
        by_cases hr : c3 = 0
        · subst hr
          have h3 := calls_ok hp rfl
          clear hp
          go_wp2_with (go_at_call 62; go_must (refine h3.mono ?_); rintro x w3 ⟨rfl, hc3, hm3⟩; have HC3 := (show Hid (Cu w3 g l m3) from hc3); have HM3 := (show Hid (Mov g wr w3) from hm3); clear hc3 hm3)
          go_roundg j
          case measure => omega
          case rel => exact ⟨k + 1, m3, by omega, by go_num, HE2.out, HC3.out, HM.out.trans HM3.out⟩
        · have h3 := calls_no hp hr
          have hR : R.2 = c3 := by rw [← HE2.out]; exact stick_rep stick_in j (m3, c3) hr
          clear hp
          go_wp2_with (go_at_call 62; go_must (refine h3.mono ?_); rintro x w3 ⟨rfl, hm3⟩)
          exact ⟨rfl, Got.no hR hr (HM.out.trans hm3)⟩
  · have h1 := calls_no hz hr
    have HE : Hid ((rep rIn q (m1, c1)).2 = c1) := stick_rep stick_in q (m1, c1) hr
    clear hz
    show Calls _ _ _ _ (Got g l w (.tuple #[]) (rep rIn q (m1, c1)))
    generalize rep rIn q (m1, c1) = r3 at HE
    go_enter Tryz.func61, Tryz.ntmps61
    go_wp2_with (go_at_call 75; go_must (refine h1.mono ?_); rintro x w1 ⟨rfl, hm1⟩)
    exact ⟨rfl, Got.no HE.out hr hm1⟩

set_option maxRecDepth 10000 in
set_option maxHeartbeats 1000000 in
theorem cuOuts_any (g : Nat) (l m : List UInt8) (w : World) (h : Cu w g l m) (hl : l.length ≤ maxLen) :
    Calls Tryz.prog 61 #[.pointer (some ⟨g, 0, none⟩), .int .u64 1, .int .u64 4, .func (.func 63) #[] #[]] w (Got g l w (.tuple #[]) (rep rOut (rWithin 1 4 (m, 0)).1 (rWithin 1 4 (m, 0)).2)) := by
  have hz := cuSize_any g 1 4 l m w h hl
  have hq := rWithin_hi 1 4 (m, 0)
  have HP : Hid (∀ (W : World) (m : List UInt8), Cu W g l m → Calls Tryz.prog 63 #[.pointer (some ⟨g, 0, none⟩)] W (Got g l W (.tuple #[]) (rOut (m, 0)))) := fun W m hc => cuOut_any g l m W hc hl
  clear h hl
  generalize rWithin 1 4 (m, 0) = p at hz hq
  obtain ⟨q, m1, c1⟩ := p
  have hq' : q ≤ 4 := hq
  clear hq
  by_cases hr : c1 = 0
  · subst hr
    have h1 := calls_ok hz rfl
    clear hz
    show Calls _ _ _ _ (Got g l w (.tuple #[]) (rep rOut q (m1, 0)))
    obtain ⟨R, HR⟩ : ∃ R, Hid (R = rep rOut q (m1, 0)) := ⟨_, rfl⟩
    rw [← HR.out]
    go_enter Tryz.func61, Tryz.ntmps61
    go_upto_region 1 with (go_at_call 75; go_must (refine h1.mono ?_); rintro x w1 ⟨rfl, hc1, hm1⟩; have HC1 := (show Hid (Cu w1 g l m1) from hc1); have HM1 := (show Hid (Mov g w w1) from hm1); clear hc1 hm1)
    go_loopg [14] q (fun g' iv wx => ∃ k : Nat, ∃ m : List UInt8, k + g' = q ∧ iv = .int .u64 (k : Int) ∧ rep rOut g' (m, 0) = R ∧ Cu wx g l m ∧ Mov g w wx)
    case atStart => exact ⟨0, m1, by omega, rfl, HR.out.symm, HC1.out, HM1.out⟩
    case round =>
      clear HC1 HM1 HR
      obtain ⟨k, m2, hk, rfl, hrep, hc, hm⟩ := hrel
      have HC : Hid (Cu wr g l m2) := hc
      have HM : Hid (Mov g w wr) := hm
      have HE : Hid (rep rOut gk (m2, 0) = R) := hrep
      clear hc hm hrep
      by_cases h0 : gk = 0
      · subst h0
        have hlt : ¬ ((k : Int) < (q : Int)) := by omega
        have hE : (m2, 0) = R := HE.out
        go_wp2
        go_end0
        rw [← hE]
        exact Got.ok rfl HM.out HC.out
      · obtain ⟨j, rfl⟩ : ∃ j, gk = j + 1 := ⟨gk - 1, by omega⟩
        have hlt : (k : Int) < (q : Int) := by omega
        have hp := HP.out wr m2 HC.out
        have HE2 : Hid (rep rOut j (rOut (m2, 0)) = R) := HE.out
        clear HE
        generalize rOut (m2, 0) = r at hp HE2
        obtain ⟨m3, c3⟩ := r
        by_cases hr : c3 = 0
        · subst hr
          have h3 := calls_ok hp rfl
          clear hp
          go_wp2_with (go_at_call 63; go_must (refine h3.mono ?_); rintro x w3 ⟨rfl, hc3, hm3⟩; have HC3 := (show Hid (Cu w3 g l m3) from hc3); have HM3 := (show Hid (Mov g wr w3) from hm3); clear hc3 hm3)
          go_roundg j
          case measure => omega
          case rel => exact ⟨k + 1, m3, by omega, by go_num, HE2.out, HC3.out, HM.out.trans HM3.out⟩
        · have h3 := calls_no hp hr
          have hR : R.2 = c3 := by rw [← HE2.out]; exact stick_rep stick_out j (m3, c3) hr
          clear hp
          go_wp2_with (go_at_call 63; go_must (refine h3.mono ?_); rintro x w3 ⟨rfl, hm3⟩)
          exact ⟨rfl, Got.no hR hr (HM.out.trans hm3)⟩
  · have h1 := calls_no hz hr
    have HE : Hid ((rep rOut q (m1, c1)).2 = c1) := stick_rep stick_out q (m1, c1) hr
    clear hz
    show Calls _ _ _ _ (Got g l w (.tuple #[]) (rep rOut q (m1, c1)))
    generalize rep rOut q (m1, c1) = r3 at HE
    go_enter Tryz.func61, Tryz.ntmps61
    go_wp2_with (go_at_call 75; go_must (refine h1.mono ?_); rintro x w1 ⟨rfl, hm1⟩)
    exact ⟨rfl, Got.no HE.out hr hm1⟩
end Go.Proofs.YtkmalggeieiepaaGreatDoor
namespace Go.Proofs.YtkmalggeieiepaaGreatDoor
open Go.RowKit

theorem rTx_of (m : List UInt8) : rTx (m, 0) = (rTake 4 (rOuts (rIns (rTake 4 (m, 0)).2))).2 := rfl
theorem stick_ins : Stick rIns := stick_reps stick_in 1 4
theorem stick_outs : Stick rOuts := stick_reps stick_out 1 4

set_option maxRecDepth 10000 in
set_option maxHeartbeats 2000000 in
theorem cuTx_any (g : Nat) (l m : List UInt8) (w : World) (h : Cu w g l m) (hl : l.length ≤ maxLen) :
    Calls Tryz.prog 34 #[.pointer (some ⟨g, 0, none⟩)] w (Got g l w (.string (ofL (m.take (m.length - (rTx (m, 0)).1.length)))) (rTx (m, 0))) := by
  have ht := cuTake_any g 4 l m w h hl
  have hle := rTx_le (m, 0)
  obtain ⟨a, ha, hma, d1⟩ := h.e
  obtain ⟨R, HR⟩ : ∃ R, Hid (R = rTx (m, 0)) := ⟨_, rfl⟩
  rw [← HR.out]
  rw [← HR.out] at hle
  have HR1 : Hid (R = (rTake 4 (rOuts (rIns (rTake 4 (m, 0)).2))).2) := by show _ = _; rw [HR.out]; rfl
  clear h HR
  generalize rTake 4 (m, 0) = p at ht HR1
  obtain ⟨t1, m1, c1⟩ := p
  by_cases hr : c1 = 0
  · subst hr
    have h1 := calls_ok ht rfl
    have hs : ∀ (W : World), Cu W g l m1 → Calls Tryz.prog 61 #[.pointer (some ⟨g, 0, none⟩), .int .u64 1, .int .u64 4, .func (.func 62) #[] #[]] W (Got g l W (.tuple #[]) (rIns (m1, 0))) := fun W hc => cuIns_any g l m1 W hc hl
    clear ht
    have HR2 : Hid (R = (rTake 4 (rOuts (rIns (m1, 0)))).2) := HR1.out
    clear HR1
    generalize rIns (m1, 0) = r at hs HR2
    obtain ⟨m2, c2⟩ := r
    by_cases hr : c2 = 0
    · subst hr
      have h2 := fun (W : World) (hc : Cu W g l m1) => calls_ok (hs W hc) rfl
      have hs2 : ∀ (W : World), Cu W g l m2 → Calls Tryz.prog 61 #[.pointer (some ⟨g, 0, none⟩), .int .u64 1, .int .u64 4, .func (.func 63) #[] #[]] W (Got g l W (.tuple #[]) (rOuts (m2, 0))) := fun W hc => cuOuts_any g l m2 W hc hl
      clear hs
      generalize rOuts (m2, 0) = r at hs2 HR2
      obtain ⟨m3, c3⟩ := r
      by_cases hr : c3 = 0
      · subst hr
        have h3 := fun (W : World) (hc : Cu W g l m2) => calls_ok (hs2 W hc) rfl
        have hs3 : ∀ (W : World), Cu W g l m3 → Calls Tryz.prog 60 #[.pointer (some ⟨g, 0, none⟩), .int .i64 4] W (Got g l W (.string (ofL (rTake 4 (m3, 0)).1)) (rTake 4 (m3, 0)).2) := fun W hc => cuTake_any g 4 l m3 W hc hl
        clear hs2
        generalize rTake 4 (m3, 0) = p at hs3 HR2
        obtain ⟨t4, m4, c4⟩ := p
        have hR : R = (m4, c4) := HR2.out
        clear HR2
        subst hR
        have hle' : m4.length ≤ m.length := hle
        clear hle
        by_cases hr : c4 = 0
        · subst hr
          have h4 := fun (W : World) (hc : Cu W g l m3) => calls_ok (hs3 W hc) rfl
          clear hs3
          go_enter Tryz.func34, Tryz.ntmps34
          go_upto_region 3 with (go_at_call 60; go_must (refine h1.mono ?_); rintro x w1 ⟨rfl, hc1, hm1⟩; have HC1 := (show Hid (Cu w1 g l m1) from hc1); have HM1 := (show Hid (Mov g w w1) from hm1); clear hc1 hm1)
          go_upto_region 4 with (go_at_call 61; go_must (refine (h2 _ HC1.out).mono ?_); rintro x w2 ⟨rfl, hc2, hm2⟩; have HC2 := (show Hid (Cu w2 g l m2) from hc2); have HM2 := (show Hid (Mov g w w2) from HM1.out.trans hm2); clear hc2 hm2)
          go_upto_region 5 with (go_at_call 61; go_must (refine (h3 _ HC2.out).mono ?_); rintro x w3 ⟨rfl, hc3, hm3⟩; have HC3 := (show Hid (Cu w3 g l m3) from hc3); have HM3 := (show Hid (Mov g w w3) from HM2.out.trans hm3); clear hc3 hm3)
          go_upto_region 6 with (go_at_call 60; go_must (refine (h4 _ HC3.out).mono ?_); rintro x w4 ⟨rfl, hc4, hm4⟩; have HC4 := (show Hid (Cu w4 g l m4) from hc4); have HM4 := (show Hid (Mov g w w4) from HM3.out.trans hm4); clear hc4 hm4)
          have e0 := HC4.out.s
          obtain ⟨b, hb, hmb, e1⟩ := HC4.out.e
          have hsz := ofL_size l
          have hml : m.length = l.length - a := by rw [hma]; simp
          have hm4 : m4.length = l.length - b := by rw [hmb]; simp
          have b1 : (a : Int) ≤ (b : Int) := by omega
          have b2 : (b : Int) ≤ (l.length : Int) := by omega
          have HX : Hid ((ofL l).extract a b = ofL (m.take (m.length - m4.length))) := by
            show _ = _
            rw [ofL_extract, hml, hm4, hma]; congr 2; omega
          clear h1 h2 h3 h4 HC1 HC2 HC3 HM1 HM2 HM3 hml hm4 hmb hma d1
          go_quiet (fail)
          go_wp2
          go_ret
          show Got g l w (.string (ofL (m.take (m.length - m4.length)))) (m4, 0) (Ending.returned (Value.string ((ofL l).extract a b))) _
          rw [HX.out]
          exact Got.ok rfl (HM4.out.drewN _) (HC4.out.drewN _)
        · have h4 := fun (W : World) (hc : Cu W g l m3) => calls_no (hs3 W hc) hr
          clear hs3 hma
          go_enter Tryz.func34, Tryz.ntmps34
          go_upto_region 3 with (go_at_call 60; go_must (refine h1.mono ?_); rintro x w1 ⟨rfl, hc1, hm1⟩; have HC1 := (show Hid (Cu w1 g l m1) from hc1); have HM1 := (show Hid (Mov g w w1) from hm1); clear hc1 hm1)
          go_upto_region 4 with (go_at_call 61; go_must (refine (h2 _ HC1.out).mono ?_); rintro x w2 ⟨rfl, hc2, hm2⟩; have HC2 := (show Hid (Cu w2 g l m2) from hc2); have HM2 := (show Hid (Mov g w w2) from HM1.out.trans hm2); clear hc2 hm2)
          go_upto_region 5 with (go_at_call 61; go_must (refine (h3 _ HC2.out).mono ?_); rintro x w3 ⟨rfl, hc3, hm3⟩; have HC3 := (show Hid (Cu w3 g l m3) from hc3); have HM3 := (show Hid (Mov g w w3) from HM2.out.trans hm3); clear hc3 hm3)
          go_wp2_with (go_at_call 60; go_must (refine (h4 _ HC3.out).mono ?_); rintro x w4 ⟨rfl, hm4⟩)
          exact ⟨rfl, Got.no rfl hr (HM3.out.trans hm4)⟩
      · have h3 := fun (W : World) (hc : Cu W g l m2) => calls_no (hs2 W hc) hr
        have HE : Hid (R.2 = c3) := by show _ = _; rw [HR2.out]; exact stick_take 4 (m3, c3) hr
        clear hs2 HR2 hma hle
        go_enter Tryz.func34, Tryz.ntmps34
        go_upto_region 3 with (go_at_call 60; go_must (refine h1.mono ?_); rintro x w1 ⟨rfl, hc1, hm1⟩; have HC1 := (show Hid (Cu w1 g l m1) from hc1); have HM1 := (show Hid (Mov g w w1) from hm1); clear hc1 hm1)
        go_upto_region 4 with (go_at_call 61; go_must (refine (h2 _ HC1.out).mono ?_); rintro x w2 ⟨rfl, hc2, hm2⟩; have HC2 := (show Hid (Cu w2 g l m2) from hc2); have HM2 := (show Hid (Mov g w w2) from HM1.out.trans hm2); clear hc2 hm2)
        go_wp2_with (go_at_call 61; go_must (refine (h3 _ HC2.out).mono ?_); rintro x w3 ⟨rfl, hm3⟩)
        exact ⟨rfl, Got.no HE.out hr (HM2.out.trans hm3)⟩
    · have h2 := fun (W : World) (hc : Cu W g l m1) => calls_no (hs W hc) hr
      have HE : Hid (R.2 = c2) := by show _ = _; rw [HR2.out]; exact (stick_outs.comp (stick_take 4)) (m2, c2) hr
      clear hs HR2 hma hle
      go_enter Tryz.func34, Tryz.ntmps34
      go_upto_region 3 with (go_at_call 60; go_must (refine h1.mono ?_); rintro x w1 ⟨rfl, hc1, hm1⟩; have HC1 := (show Hid (Cu w1 g l m1) from hc1); have HM1 := (show Hid (Mov g w w1) from hm1); clear hc1 hm1)
      go_wp2_with (go_at_call 61; go_must (refine (h2 _ HC1.out).mono ?_); rintro x w2 ⟨rfl, hm2⟩)
      exact ⟨rfl, Got.no HE.out hr (HM1.out.trans hm2)⟩
  · have h1 := calls_no ht hr
    have HE : Hid (R.2 = c1) := by show _ = _; rw [HR1.out]; exact ((stick_ins.comp stick_outs).comp (stick_take 4)) (m1, c1) hr
    clear ht HR1 hma hle
    go_enter Tryz.func34, Tryz.ntmps34
    go_wp2_with (go_at_call 60; go_must (refine h1.mono ?_); rintro x w1 ⟨rfl, hm1⟩)
    exact ⟨rfl, Got.no HE.out hr hm1⟩
end Go.Proofs.YtkmalggeieiepaaGreatDoor
namespace Go.Proofs.YtkmalggeieiepaaGreatDoor
open Go.RowKit

set_option maxRecDepth 10000 in
set_option maxHeartbeats 1000000 in
theorem catch_panicking (p : Addr) (x c : Int) (w : World) (hc : w.cell? p = some (.int .i64 x)) (hz : w.frozen? p = false) :
    CallsD Tryz.prog 58 #[.pointer (some p)] (.panicking [{ v := .iface 49 (.int .i64 c), recovered := false }]) w fun e u' w' =>
      e = .returned (.tuple #[]) ∧ u' = .panicking [{ v := .iface 49 (.int .i64 c), recovered := true }] ∧ w' = w.setCell p (.int .i64 c) := by
  have hta : ∀ w : World, (Instr.typeAssert (.iface 49 (.int .i64 c)) 20 49 true).run Tryz.prog w = .ok (.tuple #[.int .i64 c, .bool true]) w := fun _ => by kernel_rfl
  refine callsD_of_wpS Tryz.func58 rfl fun c₀ cs hu => ?_
  apply wpS_seq
  apply wpS_region
  simp [wpOpsS, go_sem, recoverD, hu, Tryz.ntmps58, Exit.thenS, Array.replicate, List.replicate]
  refine wpS_of_wp ?_
  go_wp2
  exact ⟨rfl, _, rfl, _, results_none rfl _ _ _, rfl, rfl, rfl⟩

set_option maxRecDepth 10000 in
set_option maxHeartbeats 1000000 in
theorem catch_idle (p : Addr) (w : World) :
    CallsD Tryz.prog 58 #[.pointer (some p)] .returning w fun e u' w' => e = .returned (.tuple #[]) ∧ u' = .returning ∧ w' = w := by
  refine callsD_of_wpS Tryz.func58 rfl fun c₀ cs hu => ?_
  apply wpS_seq
  apply wpS_region
  simp [wpOpsS, go_sem, recoverD, hu, Tryz.ntmps58, Exit.thenS, Array.replicate, List.replicate]
  refine wpS_of_wp ?_
  go_wp2
  refine ⟨rfl, .returning, ?_, _, results_none rfl _ _ _, rfl, rfl, rfl⟩
  cases c₀
  simp_all

theorem Cu.new (w : World) (s : ByteArray) (T g : Nat) (hg : g = w.heap.size) : Cu (w.alloc (.cells #[.string s, .int .i64 0] T)) g s.data.toList s.data.toList := by
  subst hg
  refine ⟨?_, ⟨0, Nat.zero_le _, rfl, ?_⟩, ?_⟩
  · rw [ofL_of]; simp [go_sem]
  · simp [go_sem]
  · simp [go_sem]

set_option maxRecDepth 10000 in
set_option maxHeartbeats 1000000 in
theorem read_any (s : ByteArray) (w : World) (hl : s.size ≤ maxLen) :
    Calls Tryz.prog 33 #[.string s, .func (.func 34) #[] #[]] w fun x w' =>
      x = .returned (.tuple #[.string (if txErr s.data.toList = 0 then s else ByteArray.empty), .int .i64 (txErr s.data.toList)]) ∧ Below w.heap.size w w' := by
  obtain ⟨W0, hW0⟩ : ∃ W, W = (w.alloc (.cells #[.int .i64 0] 49)).alloc (.cells #[.string s, .int .i64 0] 125) := ⟨_, rfl⟩
  have hCu : Cu W0 (w.heap.size + 1) s.data.toList s.data.toList := by rw [hW0]; exact Cu.new _ s _ _ (by simp)
  have HB0 : Hid (Below w.heap.size w W0) := by show Below _ _ _; rw [hW0]; exact ((Below.refl _ _).alloc (Nat.le_refl _) _).alloc (by simp) _
  have hz0 : w.heap.size + 2 = W0.heap.size := by rw [hW0]; simp
  have hv0 : W0.cell? ⟨w.heap.size, 0, none⟩ = some (.int .i64 0) := by rw [hW0]; simp [go_sem]
  have hf0 : W0.frozen? ⟨w.heap.size, 0, none⟩ = false := by rw [hW0]; simp [go_sem]
  have HK : Hid (∀ w1, Mov (w.heap.size + 1) W0 w1 → w1.cell? ⟨w.heap.size, 0, none⟩ = some (.int .i64 0) ∧ w1.frozen? ⟨w.heap.size, 0, none⟩ = false ∧ Below w.heap.size w w1) := by
    intro w1 hm
    have hb : Below (w.heap.size + 1) W0 w1 := hm.below (Nat.le_refl _) (by omega)
    exact ⟨by rw [hb.cell (p := ⟨w.heap.size, 0, none⟩) (Nat.lt_succ_self _)]; exact hv0, by rw [hb.frozen (p := ⟨w.heap.size, 0, none⟩) (Nat.lt_succ_self _)]; exact hf0, HB0.out.trans (hb.mono (by omega))⟩
  have ht := cuTx_any (w.heap.size + 1) s.data.toList s.data.toList W0 hCu hl
  have hmf : ∀ (fn : Fn) (first cap : Array Value) (w : World), (Instr.makeFunc fn first cap).run Tryz.prog w = .ok (.func fn first cap) w := fun _ _ _ _ => rfl
  have HE : Hid (txErr s.data.toList = (rDone (rTx (s.data.toList, 0))).2) := rfl
  have HS : Hid ((rTx (s.data.toList, 0)).1 = [] → ofL (s.data.toList.take (s.data.toList.length - (rTx (s.data.toList, 0)).1.length)) = s) := fun e => by
    rw [e, List.length_nil, Nat.sub_zero, List.take_length, ofL_of]
  clear hCu hl hv0 hf0 hz0
  generalize ofL (s.data.toList.take (s.data.toList.length - (rTx (s.data.toList, 0)).1.length)) = t0 at ht HS
  generalize rTx (s.data.toList, 0) = p at ht HE HS
  obtain ⟨m, c⟩ := p
  by_cases hr : c = 0
  · subst hr
    have h1 := calls_ok ht rfl
    have he := fun (W : World) (hc : Cu W (w.heap.size + 1) s.data.toList m) => cuEnd_any (w.heap.size + 1) s.data.toList m W hc
    clear ht
    by_cases hm : m = []
    · subst hm
      have e5 : rDone ([], 0) = ([], 0) := by simp [rDone]
      rw [e5] at he
      have hE0 : txErr s.data.toList = 0 := by rw [HE.out, e5]
      have hts : t0 = s := HS.out rfl
      have h2 := fun (W : World) (hc : Cu W (w.heap.size + 1) s.data.toList []) => calls_ok (he W hc) rfl
      rw [hE0, if_pos rfl]
      subst hts
      clear he e5 HE HS hE0
      go_enter_defers Tryz.func33, Tryz.ntmps33
      go_upto_region 3 with fail
      rw [← hW0]
      clear hW0
      go_upto_region 5 with (first
        | (go_at_call 34; go_must (refine h1.mono ?_); rintro x w1 ⟨rfl, hc1, hm1⟩; have HC1 := (show Hid (Cu w1 (w.heap.size + 1) _ []) from hc1); have HM1 := (show Hid (Mov (w.heap.size + 1) W0 w1) from hm1); clear hc1 hm1)
        | (go_at_call 59; go_must (refine (h2 _ HC1.out).mono ?_); rintro x w2 ⟨rfl, hc2, hm2⟩; have HM2 := (show Hid (Mov (w.heap.size + 1) W0 w2) from HM1.out.trans hm2); clear hc2 hm2))
      obtain ⟨k1, k2, k3⟩ := HK.out w2 HM2.out
      have HB2 : Hid (Below w.heap.size w w2) := k3
      clear k3
      go_wp2
      refine leaves_cons (f := 58) (args := #[.pointer (some ⟨w.heap.size, 0, none⟩)]) (by simp) (by simp [go_sem]) ?_
      refine (catch_idle ⟨w.heap.size, 0, none⟩ _).mono ?_
      rintro e u' w'' ⟨rfl, rfl, rfl⟩
      simp [Leaves, settle, results, Tryz.results33, go_sem, k1]
      exact HB2.out.setCell (Nat.le_refl _) _
    · have e5 : rDone (m, 0) = (m, 5) := by simp [rDone, hm]
      rw [e5] at he
      have hE0 : txErr s.data.toList = 5 := by rw [HE.out, e5]
      have h2 := fun (W : World) (hc : Cu W (w.heap.size + 1) s.data.toList m) => calls_no (he W hc) (by simp)
      rw [hE0, if_neg (by omega)]
      clear he e5 HE HS hE0
      go_enter_defers Tryz.func33, Tryz.ntmps33
      go_upto_region 3 with fail
      rw [← hW0]
      clear hW0
      go_wp2_with (first
        | (go_at_call 34; go_must (refine h1.mono ?_); rintro x w1 ⟨rfl, hc1, hm1⟩; have HC1 := (show Hid (Cu w1 (w.heap.size + 1) _ m) from hc1); have HM1 := (show Hid (Mov (w.heap.size + 1) W0 w1) from hm1); clear hc1 hm1)
        | (go_at_call 59; go_must (refine (h2 _ HC1.out).mono ?_); rintro x w2 ⟨rfl, hm2⟩; have HMX := (show Hid (Mov (w.heap.size + 1) W0 w2) from HM1.out.trans hm2); clear hm2))
      obtain ⟨k1, k2, k3⟩ := HK.out _ HMX.out
      refine leaves_cons (f := 58) (args := #[.pointer (some ⟨w.heap.size, 0, none⟩)]) (by simp) (by simp [go_sem]) ?_
      refine (catch_panicking ⟨w.heap.size, 0, none⟩ 0 5 _ k1 k2).mono ?_
      rintro e u' w'' ⟨rfl, rfl, rfl⟩
      simp [Leaves, settle, results, Tryz.results33, go_sem, k1]
      exact ⟨rfl, k3.setCell (Nat.le_refl _) _⟩
  · have h1 := calls_no ht hr
    have hE0 : txErr s.data.toList = c := by rw [HE.out]; exact stick_done (m, c) hr
    rw [hE0, if_neg hr]
    clear ht HE HS hE0
    go_enter_defers Tryz.func33, Tryz.ntmps33
    go_upto_region 3 with fail
    rw [← hW0]
    clear hW0
    go_wp2_with (go_at_call 34; go_must (refine h1.mono ?_); rintro x w1 ⟨rfl, hm1⟩; have HMX := (show Hid (Mov (w.heap.size + 1) W0 w1) from hm1); clear hm1)
    obtain ⟨k1, k2, k3⟩ := HK.out _ HMX.out
    refine leaves_cons (f := 58) (args := #[.pointer (some ⟨w.heap.size, 0, none⟩)]) (by simp) (by simp [go_sem]) ?_
    refine (catch_panicking ⟨w.heap.size, 0, none⟩ 0 c _ k1 k2).mono ?_
    rintro e u' w'' ⟨rfl, rfl, rfl⟩
    simp [Leaves, settle, results, Tryz.results33, go_sem, k1]
    exact ⟨rfl, k3.setCell (Nat.le_refl _) _⟩
end Go.Proofs.YtkmalggeieiepaaGreatDoor
namespace Go.Proofs.YtkmalggeieiepaaGreatDoor
open Go.RowKit

theorem fold_set : ∀ (l pre post : List Value), post.length = l.length → List.foldl (fun (cs : Array Value) (x : Value × Nat) => cs.setIfInBounds x.2 x.1) (pre ++ post).toArray (l.zipIdx pre.length) = (pre ++ l).toArray := by
  intro l
  induction l with
  | nil => intro pre post h; cases post with
    | nil => rfl
    | cons _ _ => simp at h
  | cons v l ih =>
    intro pre post h
    cases post with
    | nil => simp at h
    | cons u post =>
      have h2 := ih (pre ++ [v]) post (by simpa using h)
      rw [List.length_append, List.length_singleton] at h2
      rw [List.zipIdx_cons, List.foldl_cons]
      have e : (pre ++ u :: post).toArray.setIfInBounds pre.length v = (pre ++ [v] ++ post).toArray := by simp
      rw [e, h2]; simp
theorem build_d (d : ByteArray) (hd : d.size = 32) (w : World) : (Instr.buildSlice 150 1 #[(0, aggD d)]).run Tryz.prog w = .ok (.slice (some ⟨w.heap.size, 0, none⟩) 1 1) (w.alloc (.cells (bc d).toArray 76)) := by
  obtain ⟨i0, hi, hz0, hz1, hz2⟩ := info_parts infoDig
  have hl : (bc d).length = 32 := by rw [bc_length, hd]
  refine run_buildSlice w 150 76 1 _ _ i0 _ Tryz.underlying150 hi hz0 (by rw [hz1]; omega) (by rw [hz1]; omega) ?_
  rw [hz1]
  have h := fold_set (bc d) [] (wl .u8 (fun _ => 0) 32) (by rw [hl, wl_length])
  have e1 : (aggD d).cells = (bc d).toArray := rfl
  have e2 : ((Array.range (1 * 32)).map fun x => (Value.agg (wl IntKind.u8 (fun _ => 0) 32).toArray).cells[x % (Value.agg (wl IntKind.u8 (fun _ => 0) 32).toArray).cells.size]!) = (wl .u8 (fun _ => 0) 32).toArray := by kernel_rfl
  simp only [e2]
  simp [Instr.fill, e1, hl]
  exact ⟨by rw [wl_length]; omega, by simpa using h⟩

theorem run_build_d {ρ : Operand → Value} {o : Oper} {k : Nat} (d : ByteArray) (hd : d.size = 32) (W : World) (ho : o.op = .buildSlice 150 1 #[(0, .tmp k)]) (e1 : ρ (.tmp k) = aggD d) :
    (execOp ρ o).run Tryz.prog W = .ok (.value (.slice (some ⟨W.heap.size, 0, none⟩) 1 1)) (W.alloc (.cells (bc d).toArray 76)) := by
  unfold execOp
  simp only [ho, Sem.run_bind, List.map_toArray, List.map_cons, List.map_nil, e1, build_d d hd W, Result.andThen_ok]
  rfl
theorem q_wanted {o : Oper} {ops : Array Oper} {A : Act} (j d : Nat) (b : Bool) (hg : o.guard = some (j, b)) (hd : (ops[j]?).bind (·.dst) = some d) (hlt : d < A.tmps.size) (hv : A.eval (.tmp d) = .bool b) : Region.wanted o (yielded ops A.tmps) = true := by
  have h2 : A.tmps[d]? = some (.bool b) := by
    simp [Act.eval] at hv
    rw [Array.getElem?_eq_getElem hlt] at hv ⊢
    simpa using hv
  simp [Region.wanted, hg, yielded, hd, h2]
/-- the one operation that may come up yields a value: S held. -/
theorem qH_one {P : Program} {md : Region.Mode} {ops : Array Oper} {Q : Exit → Act → World → Prop} {S : World → Prop} {fuel : Nat} {listed : Array Bool} {a : Act} {w : World} (i : Nat) {o : Oper} (v : Value) (w' : World) (hr : Region.ready md ops listed = [i]) (hi : ops[i]? = some o) (hg : o.guard = none)
    (h : (execOp a.eval o).run P w = .ok (.value v) w') (hS : S w') (hk : wpAnyH P md ops Q S fuel (listed.setIfInBounds i true) (a.put o.dst v) w') : wpAnyH P md ops Q S (fuel + 1) listed a w := by
  refine wpAnyH_ready hr (by simp) (AllReadyH.cons hi (fun K hK => ?_) AllReadyH.nil)
  have hw : Region.wanted o (yielded ops a.tmps) = true := by simp [Region.wanted, hg]
  rw [if_pos hw]
  unfold Oper.wp; rw [h]; exact hK.out _ _ hS (fun _ => hk)
theorem qH_step {P : Program} {ops : Array Oper} {o : Oper} {a : Act} {w : World} {K : Act → World → Prop} {Q : Exit → Act → World → Prop} {E : Prop} (f : FuncId) (args : Array Value) (R : Value → World → Prop) (hg : o.guard = none)
    (h : (execOp a.eval o).run P w = .ok (.enter f args) w) (hc : Calls P f args w fun e w' => ∃ v, e = .returned v ∧ R v w') (hk : ∀ v w', R v w' → K (a.put o.dst v) w') :
    if Region.wanted o (yielded ops a.tmps) = true then Oper.wp P o a w K Q else E := by
  have hw : Region.wanted o (yielded ops a.tmps) = true := by simp [Region.wanted, hg]
  rw [if_pos hw]
  unfold Oper.wp; rw [h]
  show Calls _ _ _ _ _
  refine hc.mono fun x w' hx => ?_
  obtain ⟨v, rfl, hR⟩ := hx
  exact hk v w' hR
/-- .. a call. -/
theorem qH_call {P : Program} {md : Region.Mode} {ops : Array Oper} {Q : Exit → Act → World → Prop} {S : World → Prop} {fuel : Nat} {listed : Array Bool} {a : Act} {w : World} (i : Nat) {o : Oper} (f : FuncId) (args : Array Value) (R : Value → World → Prop) (hr : Region.ready md ops listed = [i]) (hi : ops[i]? = some o) (hg : o.guard = none)
    (h : (execOp a.eval o).run P w = .ok (.enter f args) w) (hc : Calls P f args w fun e w' => ∃ v, e = .returned v ∧ R v w')
    (hk : ∀ v w', R v w' → S w' ∧ wpAnyH P md ops Q S fuel (listed.setIfInBounds i true) (a.put o.dst v) w') : wpAnyH P md ops Q S (fuel + 1) listed a w := by
  refine wpAnyH_ready hr (by simp) (AllReadyH.cons hi (fun K hK => ?_) AllReadyH.nil)
  exact qH_step f args R hg h hc (fun v w' hR => hK.out _ _ (hk v w' hR).1 (fun _ => (hk v w' hR).2))
/-- two calls, either first. -/
theorem qH_calls {P : Program} {md : Region.Mode} {ops : Array Oper} {Q : Exit → Act → World → Prop} {S : World → Prop} {fuel : Nat} {listed : Array Bool} {a : Act} {w : World} (i j : Nat) {o p : Oper} (f f' : FuncId) (args args' : Array Value) (R R' : Value → World → Prop) (hr : Region.ready md ops listed = [i, j]) (hi : ops[i]? = some o) (hg : o.guard = none) (hj : ops[j]? = some p) (hgj : p.guard = none)
    (h : (execOp a.eval o).run P w = .ok (.enter f args) w) (h' : (execOp a.eval p).run P w = .ok (.enter f' args') w)
    (hc : Calls P f args w fun e w' => ∃ v, e = .returned v ∧ R v w') (hc' : Calls P f' args' w fun e w' => ∃ v, e = .returned v ∧ R' v w')
    (hk : ∀ v w', R v w' → S w' ∧ wpAnyH P md ops Q S fuel (listed.setIfInBounds i true) (a.put o.dst v) w')
    (hk' : ∀ v w', R' v w' → S w' ∧ wpAnyH P md ops Q S fuel (listed.setIfInBounds j true) (a.put p.dst v) w') : wpAnyH P md ops Q S (fuel + 1) listed a w := by
  refine wpAnyH_ready hr (by simp) (AllReadyH.cons hi (fun K hK => ?_) (AllReadyH.cons hj (fun K hK => ?_) AllReadyH.nil))
  · exact qH_step f args R hg h hc (fun v w' hR => hK.out _ _ (hk v w' hR).1 (fun _ => (hk v w' hR).2))
  · exact qH_step f' args' R' hgj h' hc' (fun v w' hR => hK.out _ _ (hk' v w' hR).1 (fun _ => (hk' v w' hR).2))
set_option linter.unusedVariables false in
theorem calls_val {P : Program} {f : FuncId} {args : Array Value} {w : World} {v : Value} {R : World → Prop} (h : Calls P f args w fun e w' => e = .returned v ∧ R w') : Calls P f args w fun e w' => ∃ u, e = .returned u ∧ u = v ∧ R w' := h.mono fun e w' ⟨h1, h2⟩ => ⟨v, h1, rfl, h2⟩
theorem sizes_append (a b : ByteArray) (ha : a.size = 32) (hb : b.size = 32) : (a ++ b).size = 64 := by rw [ByteArray.size_append]; omega
theorem evL_cons2 (a b : ByteArray) (r : List ByteArray) : evL (a :: b :: r) = a :: b :: evL r := by
  unfold evL
  by_cases h : r.length % 2 = 1
  · rw [if_pos (by simp; omega), if_pos h]
    have h0 : 0 < r.length := by omega
    have e : (a :: b :: r).getD ((a :: b :: r).length - 1) ByteArray.empty = r.getD (r.length - 1) ByteArray.empty := by
      rw [show (a :: b :: r).length - 1 = (r.length - 1) + 1 + 1 by simp; omega]
      rfl
    rw [e]; rfl
  · rw [if_neg (by simp; omega), if_neg h]
theorem upev_cons2 (d : ByteArray → ByteArray) (a b : ByteArray) (r : List ByteArray) : upL d (evL (a :: b :: r)) = d (a ++ b) :: upL d (evL r) := by rw [evL_cons2]; rfl
theorem upev_one (d : ByteArray → ByteArray) (a : ByteArray) : upL d (evL [a]) = [d (a ++ a)] := rfl
theorem upev_nil (d : ByteArray → ByteArray) : upL d (evL []) = [] := rfl
theorem toL (s : ByteArray) : s.toList = s.data.toList := by obtain ⟨⟨l⟩⟩ := s; simp
end Go.Proofs.YtkmalggeieiepaaGreatDoor
