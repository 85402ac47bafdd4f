import Derived.Test.YtkmalggeieiepaaGreatDoorPxa
import Derived.Maps.Range
import Derived.Shelf.Sort.Plain
import Derived.Test.YtkmalggeieiepaaGreatDoorRows
import Derived.Maps.RangeWalk
import Derived.Sort.OwnSorted
import Derived.Sort.KeysCollected
import Derived.WalkKit
import Derived.WalkSpells
import Derived.WalkLawsBesides
import Derived.Deep.DeepCutAuto
import Derived.Deep.MidRow
import Derived.Deep.LoopGhost
namespace Go.Proofs.YtkmalggeieiepaaGreatDoor
open Go.RowKit Go.MapKept
open Go.Maps (Keyed)
set_option maxRecDepth 10000

/-- is it among them? -/
def mem (d : ByteArray) (l : List ByteArray) : Bool := l.any fun e => e.data.toList == d.data.toList
def del (d : ByteArray) (l : List ByteArray) : List ByteArray := l.filter fun e => !(e.data.toList == d.data.toList)
theorem ba_eq {a b : ByteArray} (h : a.data.toList = b.data.toList) : a = b := ByteArray.ext (Array.ext' h)
theorem ba_beq (a b : ByteArray) : (a.data.toList == b.data.toList) = true ↔ a = b := ⟨fun h => ba_eq (by simpa using h), fun h => by rw [h]; simp⟩
theorem mem_iff (d : ByteArray) (l : List ByteArray) : mem d l = true ↔ d ∈ l := by
  unfold mem
  rw [List.any_eq_true]
  exact ⟨fun ⟨x, hx, h⟩ => by rw [← (ba_beq x d).1 h]; exact hx, fun h => ⟨d, h, (ba_beq d d).2 rfl⟩⟩
theorem mem_del (e d : ByteArray) (l : List ByteArray) : e ∈ del d l ↔ e ∈ l ∧ e ≠ d := by
  unfold del
  rw [List.mem_filter]
  constructor
  · rintro ⟨h1, h2⟩; exact ⟨h1, fun h => by rw [(ba_beq e d).2 h] at h2; cases h2⟩
  · rintro ⟨h1, h2⟩; refine ⟨h1, ?_⟩; cases hx : (e.data.toList == d.data.toList)
    · rfl
    · exact absurd ((ba_beq e d).1 hx) h2
theorem del_out {d : ByteArray} {l : List ByteArray} (h : d ∉ l) : del d l = l := by
  unfold del
  rw [List.filter_eq_self]
  intro e he
  cases hx : (e.data.toList == d.data.toList)
  · rfl
  · exact absurd ((ba_beq e d).1 hx ▸ he) h
theorem del_len : ∀ {l : List ByteArray}, l.Nodup → ∀ {d : ByteArray}, d ∈ l → (del d l).length + 1 = l.length
  | [], _, _, h => by simp at h
  | x :: l, hn, d, h => by
    obtain ⟨h1, h2⟩ := List.nodup_cons.1 hn
    by_cases hx : x = d
    · subst hx
      have e : del x (x :: l) = del x l := by unfold del; rw [List.filter_cons_of_neg]; rw [(ba_beq x x).2 rfl]; simp
      rw [e, del_out h1]; rfl
    · have e : del d (x :: l) = x :: del d l := by
        unfold del; rw [List.filter_cons_of_pos]
        cases hy : (x.data.toList == d.data.toList)
        · rfl
        · exact absurd ((ba_beq x d).1 hy) hx
      rcases List.mem_cons.1 h with h | h
      · exact absurd h.symm hx
      · rw [e, List.length_cons, List.length_cons, del_len h2 h]

/-- what a pool's map holds at a digest, in memory. -/
def pEl (p : ByteArray × ByteArray) : Value := .agg (bc p.1 ++ [Value.string p.2]).toArray
open Classical in
noncomputable def RP (v : Value) : Option (DataW Unit × List MemPlace) := if ∃ p : ByteArray × ByteArray, p.1.size = 32 ∧ v = pEl p then some (.lit (.bool true), []) else none
theorem RP_mk (p : ByteArray × ByteArray) (h : p.1.size = 32) : RP (pEl p) = some (.lit (.bool true), []) := by
  unfold RP; rw [if_pos ⟨p, h, rfl⟩]
theorem RP_inv {v : Value} {y : DataW Unit × List MemPlace} (h : RP v = some y) : ∃ p : ByteArray × ByteArray, p.1.size = 32 ∧ v = pEl p ∧ y = (.lit (.bool true), []) := by
  unfold RP at h
  by_cases hp : ∃ p : ByteArray × ByteArray, p.1.size = 32 ∧ v = pEl p
  · rw [if_pos hp] at h
    obtain ⟨p, h1, h2⟩ := hp
    injection h with h
    exact ⟨p, h1, h2, h.symm⟩
  · rw [if_neg hp] at h; cases h
def zeros : ByteArray := ⟨Array.replicate 32 0⟩
theorem zeros_size : zeros.size = 32 := by simp [zeros, ByteArray.size]
theorem zeroEl (w : World) : (zeroValue 79).run Tryz.prog w = .ok (pEl (zeros, ⟨#[]⟩)) w := by kernel_rfl

/-- as it was but for a receiver's block, its map's block, and new ones. -/
structure Only (gx : Nat) (mb : Option Nat) (w w' : World) : Prop where
  os : w'.os = w.os
  tape : w'.tape = w.tape
  output : w'.output = w.output
  size : w.heap.size ≤ w'.heap.size
  block : ∀ k, k < w.heap.size → k ≠ gx → some k ≠ mb → w'.heap[k]? = w.heap[k]?
theorem Only.of_below {gx : Nat} {mb : Option Nat} {w w' : World} (h : Below w.heap.size w w') : Only gx mb w w' := ⟨h.os, h.tape, h.output, h.size, fun k hk _ _ => h.block k hk⟩
theorem Only.after {gx : Nat} {mb : Option Nat} {w a b : World} (h : Only gx mb w a) (k : Below w.heap.size a b) : Only gx mb w b :=
  ⟨k.os.trans h.os, k.tape.trans h.tape, k.output.trans h.output, Nat.le_trans h.size k.size, fun i hi h1 h2 => (k.block i hi).trans (h.block i hi h1 h2)⟩
theorem Only.turned {gx b : Nat} {mb : Option Nat} {w a c : World} (h : Only gx mb w a) (k : a.grownBy c (some b)) (hb : mb = some b ∨ w.heap.size ≤ b) : Only gx mb w c :=
  ⟨k.os.trans h.os, k.tape.trans h.tape, k.output.trans h.output, Nat.le_trans h.size k.size, fun i hi h1 h2 => (k.block i (Nat.lt_of_lt_of_le hi h.size) (fun e => by
    injection e with e
    rcases hb with hb | hb
    · exact h2 (by rw [hb, e])
    · omega)).trans (h.block i hi h1 h2)⟩
theorem Only.set {gx : Nat} {mb : Option Nat} {w a : World} (h : Only gx mb w a) (i : Nat) (u : Value) : Only gx mb w (a.setCell ⟨gx, i, none⟩ u) :=
  ⟨h.os, h.tape, h.output, by simpa using h.size, fun k hk h1 h2 => (Below.heap_setCell a ⟨gx, i, none⟩ u k h1).trans (h.block k hk h1 h2)⟩

/-- the map reads as these digests. -/
structure Rel (D : DataW Unit) (l : List ByteArray) : Prop where
  has : ∀ d : ByteArray, d.size = 32 → (Maps.has D (kd d) = true ↔ d ∈ l)
  size : Maps.size D = l.length
  all : ∀ d ∈ l, d.size = 32
  nodup : l.Nodup
theorem Rel.perm {D : DataW Unit} {l l' : List ByteArray} (h : Rel D l) (p : l.Perm l') : Rel D l' :=
  ⟨fun d hd => (h.has d hd).trans p.mem_iff, h.size.trans p.length_eq, fun d hd => h.all d (p.mem_iff.2 hd), p.nodup_iff.1 h.nodup⟩
/-- a pool: the receiver's block, its map's, the digests of what is in it. -/
structure PoolAt (w : World) (gx : Nat) (mb : Option Nat) (l : List ByteArray) : Prop where
  c : w.cell? ⟨gx, 0, none⟩ = some (.map mb)
  f : w.frozen? ⟨gx, 0, none⟩ = false
  m : (mb = none ∧ l = []) ∨ ∃ b D, mb = some b ∧ w.ownsMap Tryz.prog 76 RP b l.length D ∧ Rel D l
theorem PoolAt.lt {w : World} {gx : Nat} {mb : Option Nat} {l : List ByteArray} (h : PoolAt w gx mb l) : gx < w.heap.size := World.block_lt_of_cell? w _ h.c
theorem PoolAt.perm {w : World} {gx : Nat} {mb : Option Nat} {l l' : List ByteArray} (h : PoolAt w gx mb l) (p : l.Perm l') : PoolAt w gx mb l' :=
  ⟨h.c, h.f, h.m.imp (fun ⟨h1, h2⟩ => ⟨h1, by subst h2; exact p.nil_eq.symm⟩) (fun ⟨b, D, h1, h2, h3⟩ => ⟨b, D, h1, p.length_eq ▸ h2, h3.perm p⟩)⟩
theorem PoolAt.nodup {w : World} {gx : Nat} {mb : Option Nat} {l : List ByteArray} (h : PoolAt w gx mb l) : l.Nodup := by
  rcases h.m with ⟨_, h2⟩ | ⟨_, _, _, _, h3⟩
  · subst h2; exact List.nodup_nil
  · exact h3.nodup
theorem PoolAt.all {w : World} {gx : Nat} {mb : Option Nat} {l : List ByteArray} (h : PoolAt w gx mb l) : ∀ d ∈ l, d.size = 32 := by
  rcases h.m with ⟨_, h2⟩ | ⟨_, _, _, _, h3⟩
  · subst h2; simp
  · exact h3.all
theorem PoolAt.bsome {w : World} {gx : Nat} {mb : Option Nat} {l : List ByteArray} (h : PoolAt w gx mb l) : ∀ b, mb = some b → b < w.heap.size ∧ b ≠ gx := by
  rintro b rfl
  rcases h.m with ⟨h1, _⟩ | ⟨b', D, h1, h2, _⟩
  · cases h1
  · injection h1 with h1
    subst h1
    refine ⟨h2.lt, fun e => ?_⟩
    obtain ⟨es, clock, hb, _⟩ := h2
    have hc := h.c
    subst e
    simp [World.cell?, hb] at hc
/-- it stays while its blocks stay. -/
theorem PoolAt.stay {w w' : World} {gx : Nat} {mb : Option Nat} {l : List ByteArray} (h : PoolAt w gx mb l) (hg : w'.heap[gx]? = w.heap[gx]?) (hm : ∀ b, mb = some b → w'.heap[b]? = w.heap[b]?) : PoolAt w' gx mb l := by
  refine ⟨by rw [World.cell?_of_block hg]; exact h.c, by rw [World.frozen?_of_block hg]; exact h.f, h.m.imp id ?_⟩
  rintro ⟨b, D, h1, ⟨es, clock, hb, r⟩, h3⟩
  exact ⟨b, D, h1, ⟨es, clock, (hm b h1).trans hb, r⟩, h3⟩
theorem PoolAt.later {w w' : World} {gx : Nat} {mb : Option Nat} {l : List ByteArray} (h : PoolAt w gx mb l) (hb : Below w.heap.size w w') : PoolAt w' gx mb l :=
  h.stay (hb.block _ h.lt) (fun b e => hb.block _ (h.bsome b e).1)

theorem under51 : Tryz.prog.underlying 51 = some (.map 76 79) := Tryz.underlying51
theorem own_tight {w : World} {P : Program} {k : TypeId} {R : Value → Option (DataW Unit × List MemPlace)} {b n : Nat} {D : DataW Unit} (h : w.ownsMap P k R b n D) : w.ownsMap P k R b (Maps.size D) D := by
  obtain ⟨es, clock, hb, F, _, rfl⟩ := h
  exact ⟨es, clock, hb, F, by simp [Maps.size, length_sorted], rfl⟩

/-- 'v, ok := m[d]': the same in every world whose map is this one. -/
theorem PoolAt.look {w : World} {gx : Nat} {mb : Option Nat} {l : List ByteArray} (h : PoolAt w gx mb l) (d : ByteArray) (hd : d.size = 32) :
    ∃ p : ByteArray × ByteArray, p.1.size = 32 ∧ ∀ W : World, (∀ b, mb = some b → W.heap[b]? = w.heap[b]?) → (Instr.lookup 51 (.map mb) (aggD d) true).run Tryz.prog W = .ok (.tuple #[pEl p, .bool (mem d l)]) W := by
  rcases h.m with ⟨rfl, rfl⟩ | ⟨b, D, rfl, ⟨es, clock, hb, F, _, hD⟩, hR⟩
  · refine ⟨(zeros, ⟨#[]⟩), zeros_size, fun W _ => ?_⟩
    have := Maps.look_nil (w := W) true kLaw under51 (zeroEl W) (kd_of d hd)
    have e : mem d [] = false := rfl
    rw [e]; simpa using this
  · rcases Maps.fit_look true kLaw under51 (zeroEl w) hb F (kd_of d hd) with ⟨_, hno, hat⟩ | ⟨e0, y, he0, hk0, _, hRv, hat, _⟩
    · have hf : Maps.has D (kd d) = false := by rw [hD]; exact Maps.has_false_of_atKey hat
      have hdl : mem d l = false := by
        cases e : mem d l
        · rfl
        · rw [(hR.has d hd).2 ((mem_iff d l).1 e)] at hf; cases hf
      refine ⟨(zeros, ⟨#[]⟩), zeros_size, fun W hW => ?_⟩
      rcases Maps.fit_look true kLaw under51 (zeroEl W) ((hW b rfl).trans hb) F (kd_of d hd) with ⟨hrun, _, _⟩ | ⟨e1, y1, he1, hk1, _⟩
      · rw [hdl]; simpa using hrun
      · exact absurd hk1 (hno e1 he1)
    · obtain ⟨p, hp, hv, _⟩ := RP_inv hRv
      have hf : Maps.has D (kd d) = true := by rw [hD]; exact Maps.has_true_of_atKey hat
      have hdl : mem d l = true := (mem_iff d l).2 ((hR.has d hd).1 hf)
      refine ⟨p, hp, fun W hW => ?_⟩
      rcases Maps.fit_look true kLaw under51 (zeroEl W) ((hW b rfl).trans hb) F (kd_of d hd) with ⟨_, hno, _⟩ | ⟨e1, y1, he1, hk1, hrun, _⟩
      · exact absurd hk0 (hno e0 he0)
      · have e : e1 = e0 := entry_eq_of_key ((stamped_iff es clock).1 F.stamped).2.2 he1 he0 (hk1.trans hk0.symm)
        rw [hdl, ← hv, ← e]; simpa using hrun

theorem PoolAt.len {w : World} {gx : Nat} {mb : Option Nat} {l : List ByteArray} (h : PoolAt w gx mb l) (ty : TypeId) : (Builtin.len_ #[51] ty #[.map mb]).run Tryz.prog w = .ok (.int .i64 (l.length : Int)) w := by
  rcases h.m with ⟨rfl, rfl⟩ | ⟨b, D, rfl, ho, hR⟩
  · exact Maps.len_nil under51 ty
  · rw [ho.len under51 ty, hR.size]

theorem kd_ne {a b : ByteArray} (ha : a.size = 32) (hb : b.size = 32) (h : a ≠ b) : kd a ≠ kd b := fun e => h (kd_inj ha hb e)
theorem Rel.add {D : DataW Unit} {l : List ByteArray} {d : ByteArray} (h : Rel D l) (hT : Go.Maps.Tidy D) (hd : d.size = 32) (hn : d ∉ l) (x : DataW Unit) : Rel (D.put (kd d) x) (d :: l) := by
  have hf : Maps.has D (kd d) = false := by
    cases e : Maps.has D (kd d)
    · rfl
    · exact absurd ((h.has d hd).1 e) hn
  refine ⟨fun e he => ?_, ?_, fun e he => ?_, List.nodup_cons.2 ⟨hn, h.nodup⟩⟩
  · by_cases hx : e = d
    · subst hx
      simp [Maps.has_put_same hT.isMap (kd_key hd)]
    · rw [Maps.has_put_other (kd_ne he hd hx), h.has e he]; simp [hx]
  · rw [Maps.size_put hT, hf]; simp [h.size]
  · rcases List.mem_cons.1 he with rfl | he
    · exact hd
    · exact h.all e he
theorem Rel.del {D : DataW Unit} {l : List ByteArray} {d : ByteArray} (h : Rel D l) (hT : Go.Maps.Tidy D) (hd : d.size = 32) : Rel (D.del (kd d)) (del d l) := by
  refine ⟨fun e he => ?_, ?_, fun e he => h.all e ((mem_del e d l).1 he).1, h.nodup.filter _⟩
  · by_cases hx : e = d
    · subst hx
      rw [Maps.has_del_same, mem_del]
      simp
    · rw [Maps.has_del_other (kd_ne he hd hx), h.has e he, mem_del]; simp [hx]
  · have hs := Maps.size_del (k := kd d) hT
    by_cases hm : d ∈ l
    · rw [(h.has d hd).2 hm] at hs
      simp only [if_true] at hs
      have := del_len h.nodup hm
      have := h.size; omega
    · have hf : Maps.has D (kd d) = false := by
        cases e : Maps.has D (kd d)
        · rfl
        · exact absurd ((h.has d hd).1 e) hm
      rw [hf] at hs
      rw [del_out hm, ← h.size]; simpa using hs

/-- 'm[d] = ..', where d is not in it. -/
theorem PoolAt.store {w : World} {gx b : Nat} {l : List ByteArray} (h : PoolAt w gx (some b) l) (d : ByteArray) (hd : d.size = 32) (hn : d ∉ l) (hl : l.length < maxLen) (p : ByteArray × ByteArray) (hp : p.1.size = 32) :
    ∃ w', (Instr.mapUpdate 51 (.map (some b)) (aggD d) (pEl p)).run Tryz.prog w = .ok () w' ∧ PoolAt w' gx (some b) (d :: l) ∧ w.grownBy w' (some b) := by
  rcases h.m with ⟨h1, _⟩ | ⟨b', D, h1, ho, hR⟩
  · cases h1
  · injection h1 with h1
    subst h1
    obtain ⟨w', hrun, ho', hg⟩ := ho.update kLaw under51 hl (kd_of d hd) (RP_mk p hp)
    have hbg : gx ≠ b := fun e => (h.bsome b rfl).2 e.symm
    have hbk := hg.block gx h.lt (fun e => hbg (by injection e))
    exact ⟨w', hrun, ⟨by rw [World.cell?_of_block hbk]; exact h.c, by rw [World.frozen?_of_block hbk]; exact h.f, .inr ⟨b, _, rfl, by simpa using ho', hR.add (ho.tidy kLaw) hd hn _⟩⟩, hg⟩
/-- 'delete(m, d)'. -/
theorem PoolAt.drop {w : World} {gx : Nat} {mb : Option Nat} {l : List ByteArray} (h : PoolAt w gx mb l) (d : ByteArray) (hd : d.size = 32) (ty : TypeId) :
    ∃ w', (Builtin.delete_ #[51, 76] ty #[.map mb, aggD d]).run Tryz.prog w = .ok (.tuple #[]) w' ∧ PoolAt w' gx mb (del d l) ∧ (w' = w ∨ ∃ b, mb = some b ∧ w.grownBy w' (some b)) := by
  rcases h.m with ⟨rfl, rfl⟩ | ⟨b, D, rfl, ho, hR⟩
  · exact ⟨w, Maps.drop_nil kLaw under51 (kd_of d hd) ty, h, .inl rfl⟩
  · obtain ⟨w', hrun, ho', ht⟩ := ho.drop kLaw under51 (kd_of d hd) ty
    have hg := ht.grown
    have hbg : gx ≠ b := fun e => (h.bsome b rfl).2 e.symm
    have hbk := hg.block gx h.lt (fun e => hbg (by injection e))
    have hR' := hR.del (ho.tidy kLaw) hd
    exact ⟨w', hrun, ⟨by rw [World.cell?_of_block hbk]; exact h.c, by rw [World.frozen?_of_block hbk]; exact h.f, .inr ⟨b, _, rfl, hR'.size ▸ own_tight ho', hR'⟩⟩, .inr ⟨b, rfl, hg⟩⟩
/-- a new map. -/
theorem PoolAt.made {w : World} {gx : Nat} (h : PoolAt w gx none []) (hg : gx < w.heap.size) : PoolAt ((w.alloc (.map #[] 0)).setCell ⟨gx, 0, none⟩ (.map (some w.heap.size))) gx (some w.heap.size) [] := by
  have hc : (w.alloc (.map #[] 0)).cell? ⟨gx, 0, none⟩ = some (.map none) := by rw [((Below.refl w.heap.size w).alloc (Nat.le_refl _) _).cell (p := ⟨gx, 0, none⟩) hg]; exact h.c
  have hf : (w.alloc (.map #[] 0)).frozen? ⟨gx, 0, none⟩ = false := by rw [((Below.refl w.heap.size w).alloc (Nat.le_refl _) _).frozen (p := ⟨gx, 0, none⟩) hg]; exact h.f
  refine ⟨World.cell?_setCell_same _ _ _ hc, by simp only [World.frozen?_setCell]; exact hf, .inr ⟨w.heap.size, .map [], rfl, (World.ownsMap_made w _ _ RP).setCell (by show w.heap.size ≠ gx; omega) _, ⟨fun d _ => by simp [Maps.has_eq], rfl, by simp, List.nodup_nil⟩⟩⟩
end Go.Proofs.YtkmalggeieiepaaGreatDoor
namespace Go.Proofs.YtkmalggeieiepaaGreatDoor
open Go.Shelf
set_option maxRecDepth 10000
def srtRen : Go.Shelf.Ren := ⟨fun | 190 => 42 | 125 => 70 | 258 => 69 | 128 => 114 | 129 => 115 | 302 => 105 | 303 => 106 | 304 => 107 | 305 => 108 | 306 => 109 | 307 => 110 | 308 => 111 | 309 => 112 | 310 => 113 | 333 => 134 | 329 => 135 | 330 => 136 | 334 => 137 | 335 => 138 | 336 => 139 | 344 => 162 | n => n, fun | 31 => 44 | 9 => 9 | 3 => 3 | 46 => 134 | 0 => 0 | 51 => 166 | 53 => 87 | 4 => 4 | 183 => 176 | 182 => 175 | 131 => 82 | 5 => 5 | 218 => 207 | 222 => 210 | 228 => 230 | 229 => 231 | n => n, fun | n => n⟩
theorem srtLays : Go.Proofs.Lays.n190 Tryz.prog srtRen := {
  mixed := by kernel_rfl
  f125 := Tryz.func70.trans (congrArg some (by kernel_rfl))
  f128 := Tryz.func114.trans (congrArg some (by kernel_rfl))
  f129 := Tryz.func115.trans (congrArg some (by kernel_rfl))
  f190 := Tryz.func42.trans (congrArg some (by kernel_rfl))
  f258 := Tryz.func69.trans (congrArg some (by kernel_rfl))
  f302 := Tryz.func105.trans (congrArg some (by kernel_rfl))
  f303 := Tryz.func106.trans (congrArg some (by kernel_rfl))
  f304 := Tryz.func107.trans (congrArg some (by kernel_rfl))
  f305 := Tryz.func108.trans (congrArg some (by kernel_rfl))
  f306 := Tryz.func109.trans (congrArg some (by kernel_rfl))
  f307 := Tryz.func110.trans (congrArg some (by kernel_rfl))
  f308 := Tryz.func111.trans (congrArg some (by kernel_rfl))
  f309 := Tryz.func112.trans (congrArg some (by kernel_rfl))
  f310 := Tryz.func113.trans (congrArg some (by kernel_rfl))
  f329 := Tryz.func135.trans (congrArg some (by kernel_rfl))
  f330 := Tryz.func136.trans (congrArg some (by kernel_rfl))
  f333 := Tryz.func134.trans (congrArg some (by kernel_rfl))
  f334 := Tryz.func137.trans (congrArg some (by kernel_rfl))
  f335 := Tryz.func138.trans (congrArg some (by kernel_rfl))
  f336 := Tryz.func139.trans (congrArg some (by kernel_rfl))
  f344 := Tryz.func162.trans (congrArg some (by kernel_rfl))
  t0 := Tryz.underlying0
  a0 := Tryz.isAgg0
  z0 := Tryz.sizeOf0
  v0 := Tryz.zeroValue0
  t3 := Tryz.underlying3
  a3 := Tryz.isAgg3
  z3 := Tryz.sizeOf3
  v3 := Tryz.zeroValue3
  t4 := Tryz.underlying4
  a4 := Tryz.isAgg4
  z4 := Tryz.sizeOf4
  v4 := Tryz.zeroValue4
  t5 := Tryz.underlying5
  a5 := Tryz.isAgg5
  z5 := Tryz.sizeOf5
  v5 := Tryz.zeroValue5
  t9 := Tryz.underlying9
  a9 := Tryz.isAgg9
  z9 := Tryz.sizeOf9
  v9 := Tryz.zeroValue9
  t31 := Tryz.underlying44
  a31 := Tryz.isAgg44
  z31 := Tryz.sizeOf44
  v31 := Tryz.zeroValue44
  t46 := Tryz.underlying134
  a46 := Tryz.isAgg134
  z46 := Tryz.sizeOf134
  v46 := Tryz.zeroValue134
  t51 := Tryz.underlying166
  a51 := Tryz.isAgg166
  z51 := Tryz.sizeOf166
  v51 := Tryz.zeroValue166
  t53 := Tryz.underlying87
  a53 := Tryz.isAgg87
  z53 := Tryz.sizeOf87
  v53 := Tryz.zeroValue87
  t131 := Tryz.underlying82
  a131 := Tryz.isAgg82
  z131 := Tryz.sizeOf82
  v131 := Tryz.zeroValue82
  t182 := Tryz.underlying175
  a182 := Tryz.isAgg175
  z182 := Tryz.sizeOf175
  v182 := Tryz.zeroValue175
  t183 := Tryz.underlying176
  a183 := Tryz.isAgg176
  z183 := Tryz.sizeOf176
  v183 := Tryz.zeroValue176
  t218 := Tryz.underlying207
  a218 := Tryz.isAgg207
  z218 := Tryz.sizeOf207
  v218 := Tryz.zeroValue207
  t222 := Tryz.underlying210
  a222 := Tryz.isAgg210
  z222 := Tryz.sizeOf210
  v222 := Tryz.zeroValue210
  t228 := Tryz.underlying230
  a228 := Tryz.isAgg230
  z228 := Tryz.sizeOf230
  v228 := Tryz.zeroValue230
  t229 := Tryz.underlying231
  a229 := Tryz.isAgg231
  z229 := Tryz.sizeOf231
  v229 := Tryz.zeroValue231 }

open Go.Sort Go.RowKit in
theorem sort_any (blk off cap : Nat) (ss : List (List UInt8)) (w : World) (hH : Holds encStr w blk off ss.toArray) (hblk : blk < w.heap.size) (hsz : ss.length < 4611686018427387904) :
    Calls Tryz.prog 42 #[.slice (some ⟨blk, off, none⟩) ss.length cap] w fun e w' =>
      e = .returned (.tuple #[]) ∧ ∃ n os, w' = grow (putRow encStr (Sort.ahead w n) blk off (ss.mergeSort fun x y => decide (x ≤ y)).toArray) os := Any.slices_Sort_string srtLays blk off cap ss w hH hblk hsz
end Go.Proofs.YtkmalggeieiepaaGreatDoor
set_option linter.unusedSimpArgs false
set_option linter.unusedVariables false
namespace Go.Proofs.YtkmalggeieiepaaGreatDoor
open Go.RowKit Go.Sort
set_option maxRecDepth 10000

/-- digests, rising. -/
def sortD (l : List ByteArray) : List (List UInt8) := (l.map fun d => d.data.toList).mergeSort fun x y => decide (x ≤ y)
theorem sortD_perm {l l' : List ByteArray} (h : l.Perm l') : sortD l = sortD l' := mergeSort_of_perm (h.map _)
abbrev D32 : Type := { d : ByteArray // d.size = 32 }
def mkD (d : D32) : Value := .agg (wl .u8 (byF d.1) 32).toArray
theorem mkD_eq (d : D32) : mkD d = aggD d.1 := by unfold mkD aggD; rw [bc_wl d.1 32 d.2]
/-- what was met so far. -/
structure Coll (D : DataW Unit) (left : Lit → Bool) (ss : List ByteArray) : Prop where
  all : ∀ d ∈ ss, d.size = 32
  nodup : ss.Nodup
  iff : ∀ d : ByteArray, d.size = 32 → (d ∈ ss ↔ Maps.has D (kd d) = true ∧ left (kd d) = false)
theorem Coll.start (D : DataW Unit) : Coll D (Maps.has D) [] := ⟨by simp, List.nodup_nil, fun d _ => by simp⟩
theorem Coll.step {D : DataW Unit} {left : Lit → Bool} {ss : List ByteArray} (h : Coll D left ss) {d : ByteArray} (hd : d.size = 32) (hl : left (kd d) = true) (hh : Maps.has D (kd d) = true) : Coll D (fun z => left z && !z.sameKey (kd d)) (ss ++ [d]) := by
  have hn : d ∉ ss := fun hm => by have := ((h.iff d hd).1 hm).2; rw [hl] at this; cases this
  refine ⟨fun e he => ?_, ?_, fun e he => ?_⟩
  · rcases List.mem_append.1 he with he | he
    · exact h.all e he
    · simp at he; rw [he]; exact hd
  · rw [List.nodup_append]
    exact ⟨h.nodup, by simp, fun a ha b hb => by simp at hb; rw [hb]; exact fun e => hn (e ▸ ha)⟩
  · by_cases hx : e = d
    · subst hx
      simp only [List.mem_append, List.mem_singleton, or_true, true_iff]
      exact ⟨hh, by rw [WideAt.sameKey_self (kd_key hd)]; simp⟩
    · rw [Maps.sameKey_ne (kd_ne he hd hx)]
      simp only [List.mem_append, List.mem_singleton, hx, or_false, Bool.not_false, Bool.and_true]
      exact h.iff e he
theorem Coll.perm {D : DataW Unit} {left : Lit → Bool} {ss l : List ByteArray} (h : Coll D left ss) (hR : Rel D l) (h0 : ∀ kl, left kl = false) : ss.Perm l :=
  (List.perm_ext_iff_of_nodup h.nodup hR.nodup).2 fun d =>
    ⟨fun hm => (hR.has d (h.all d hm)).1 ((h.iff d (h.all d hm)).1 hm).1, fun hm => (h.iff d (hR.all d hm)).2 ⟨(hR.has d (hR.all d hm)).2 hm, h0 _⟩⟩

theorem infoS : (Tryz.prog.info? 9).map (fun i => (i.zero, i.size, i.bytes)) = some (some (.string ⟨#[]⟩), 1, 16) := by kernel_rfl
theorem enc_ba (ss : List ByteArray) : (ss.map fun d => d.data.toList).map encStr = ss.map fun d => Value.string d := by
  rw [List.map_map]
  apply List.map_congr_left
  intro d _
  show Value.string ⟨d.data.toList.toArray⟩ = _
  rw [Array.toArray_toList]

set_option maxRecDepth 100000 in
set_option maxHeartbeats 4000000 in
theorem pids_some (w : World) (gx b : Nat) (l : List ByteArray) (hP : PoolAt w gx (some b) l) (hl : l.length ≤ 20) :
    Calls Tryz.prog 22 #[.pointer (some ⟨gx, 0, none⟩)] w fun e w' => ∃ g cap : Nat, e = .returned (.slice (some ⟨g, 0, none⟩) l.length cap) ∧ w'.ownsRow w.heap.size 9 1 (.slice (some ⟨g, 0, none⟩) l.length cap) l.length ((sortD l).map encStr) ∧ Below w.heap.size w w' := by
  obtain ⟨i0, hi, hz0, hz1, hz2⟩ := info_parts infoS
  obtain ⟨D, hown, hR⟩ : ∃ D, w.ownsMap Tryz.prog 76 RP b l.length D ∧ Rel D l := by
    rcases hP.m with ⟨h, _⟩ | ⟨b', D, h, ho, hR⟩
    · cases h
    · injection h with h; subst h; exact ⟨D, ho, hR⟩
  have hbl := hown.lt
  have hc := hP.c
  have hgl := hP.lt
  have HR : Hid (Rel D l) := hR
  have hsD : Maps.size D ≤ 20 := by rw [hR.size]; exact hl
  have HSL : Hid (Maps.size D = l.length) := hR.size
  have HTX : Hid (∀ (d : D32) W, Calls Tryz.prog 41 #[aggD d.1] W fun e w' => e = .returned (.string d.1) ∧ Below W.heap.size W w') := fun d W => text_d d.1 d.2 W
  clear hP hR hl
  go_enter Tryz.func22, Tryz.ntmps22
  go_upto_region 2 with (first
    | (at_len; refine wpList_len_own _ rfl _ 51 rfl 76 79 under51 _ b l.length _ rfl hown ?_)
    | (at_make; refine wpList_make_own _ rfl _ _ 44 rfl w.heap.size 9 i0 (.string ⟨#[]⟩) 1 Tryz.underlying44 hi hz0 hz1 _ _ _ (Maps.size D) rfl rfl rfl (by rw [hz2]; omega) (by unfold maxLen; omega) (Nat.le_refl _) ?_; intro w1 hrow1 hg1))
  have HB1 : Below w.heap.size w w1 := (Below.refl _ _).grown hg1 (Nat.le_refl _) (fun j hj => by cases hj)
  have hc1 : w1.cell? ⟨gx, 0, none⟩ = some (.map (some b)) := by rw [HB1.cell (p := ⟨gx, 0, none⟩) hgl]; exact hc
  have hg1s := hg1.size
  clear hc
  go_upto_region 3 with (first
    | (at_range; go_must (refine wpList_range_own _ rfl _ 51 rfl 76 79 kLaw under51 _ b l.length _ rfl (hown.kept hg1 (by simp)) ?_); intro w0 hrg0 hg0 hs0; go_frame))
  go_loopw [3] (fun vs wr => ∃ (left : Lit → Bool) (cnt : Nat) (ss : List ByteArray) (v : Value), v = vs ∧ wr.ranges Tryz.prog 76 RP b w1.heap.size l.length D left cnt ∧ ss.length + cnt ≤ Maps.size D ∧
      wr.ownsRow w.heap.size 9 1 v ss.length ((ss.map fun d => d.data.toList).map encStr) ∧ v ≠ .slice none 0 0 ∧ Coll D left ss ∧ Below w.heap.size w wr)
    (fun _ wr => wr.rangeLeft b w1.heap.size)
  case atStart =>
    exact ⟨_, _, [], _, rfl, hrg0, by simp, hrow1.kept hg0 (Or.inr (by simp [Value.ownBlock])), by simp, Coll.start D, HB1.grown hg0 hg1.size (fun j hj => by cases hj)⟩
  case round =>
    obtain ⟨left, cnt, ss, v, rfl, hrg, hcs, hrow, hnn, hC, hnx⟩ := hrel
    clear hrow1 hg0 hs0 hrg0 hc1
    go_wp2_with (first
      | (at_next; refine wpList_next_ranges _ rfl _ rfl 76 kLaw RP mkD pEl (fun key kl hk => by obtain ⟨d, h1, h2, _⟩ := key_inv hk; exact ⟨⟨d, h1⟩, by rw [mkD_eq]; exact h2⟩) (fun v y hv => by obtain ⟨p, _, h2, _⟩ := RP_inv hv; exact ⟨p, h2⟩) b w1.heap.size l.length _ _ _ rfl hrg ?_ ?_)
      | go_in)
    · intro hc0 hl0
      rcases hrow.2 with ⟨hnil, _⟩ | ⟨g, cap, cur, rfl, hbase, hb, h1, h2, h3, h4⟩
      · exact absurd hnil hnn
      have hpm : ss.Perm l := hC.perm HR.out hl0
      have hln : ss.length = l.length := hpm.length_eq
      have hH : Holds encStr wr g 0 (ss.map fun d => d.data.toList).toArray := holds_of_block hb (by simpa using h4)
      have hgw : g < wr.heap.size := (Array.getElem?_eq_some_iff.1 hb).1
      have hc := sort_any g 0 cap (ss.map fun d => d.data.toList) wr hH hgw (by rw [List.length_map]; omega)
      rw [List.length_map] at hc
      have HQ : Hid (Calls Tryz.prog 42 #[.slice (some ⟨g, 0, none⟩) ss.length cap] wr fun e w' => e = .returned (.tuple #[]) ∧ w'.ownsRow w.heap.size 9 1 (.slice (some ⟨g, 0, none⟩) l.length cap) l.length ((sortD l).map encStr) ∧ Below w.heap.size w w') := hc.mono fun e w' hx => by
        obtain ⟨hx1, nn, os, hx2⟩ := hx
        refine ⟨hx1, ?_⟩
        rw [hx2, ← sortD_perm hpm, ← hln]
        refine ⟨?_, hnx.grown (grownBy_sorted _) hnx.size (fun j hj => by cases hj; exact hbase)⟩
        have := ownsRow_sorted (ss := ss.map fun d => d.data.toList) (ts := sortD ss) (n := nn) (os := os) (by simp [sortD]) hbase hb (by simpa using h1) (by simpa using h2) (by simpa using h3)
        rw [List.length_map] at this
        exact this
      clear hb h1 h2 h3 h4 hH hrow hC hrg hnx hpm hc
      have HLN : Hid (ss.length = l.length) := hln
      clear hln
      go_wp2_with (go_at_call 42; go_must (refine HQ.out.mono ?_); rintro e w' ⟨rfl, hq1, hq2⟩)
      go_ret
      exact ⟨g, cap, by rw [← HLN.out]; rfl, hq1, hq2⟩
    · intro x hx c1 c2 kl yd yp w2 cnt2 hkey hlk hv hat hrg2 hlt hg2 hs2 hen
      have hkl : kl = kd x := by
        rw [mkD_eq, kd_of x hx] at hkey
        injection hkey with hkey
        exact hkey.symm
      subst hkl
      have hhas : Maps.has D (kd x) = true := Maps.has_true_of_atKey hat
      have hrow2 := hrow.kept hg2 (Or.inr (row_ne_iter hrow hrg).symm)
      clear hs2 hv hkey hat
      have hen2 : (Instr.entry (.pointer (some ⟨w1.heap.size, 0, none⟩))).run Tryz.prog w2 = .ok (.tuple #[.agg (wl .u8 (byF x) 32).toArray, pEl (c1, c2)]) w2 := hen
      clear hen
      have HB2 : Below w.heap.size w w2 := hnx.grown hg2 hnx.size (fun j hj => by cases hj; exact hg1s)
      have hs2 := HB2.size
      go_upto_region 5 with (refine wpList_store_arr rfl 76 _ _ rfl w2.heap.size .u8 (fun _ => 0) (byF x) 32 rfl rfl ?_ sizeDig ?_; exact Arr.new _ _ 32 _ _ (by rfl))
      obtain ⟨W4, hW4⟩ : ∃ W, W = (w2.alloc (.cells #[.int .u8 0, .int .u8 0, .int .u8 0, .int .u8 0, .int .u8 0, .int .u8 0, .int .u8 0, .int .u8 0, .int .u8 0, .int .u8 0, .int .u8 0, .int .u8 0, .int .u8 0, .int .u8 0, .int .u8 0, .int .u8 0, .int .u8 0, .int .u8 0, .int .u8 0, .int .u8 0, .int .u8 0, .int .u8 0, .int .u8 0, .int .u8 0, .int .u8 0, .int .u8 0, .int .u8 0, .int .u8 0, .int .u8 0, .int .u8 0, .int .u8 0, .int .u8 0] 76)).setCells w2.heap.size 0 (wl .u8 (byF x) 32) := ⟨_, rfl⟩
      have HX : Hid (W4.rangeAt w2.heap.size 0 (bc x)) := by
        show W4.rangeAt _ _ _
        rw [hW4, bc_wl x 32 hx]; exact ((Arr.new w2 (fun _ => 0) 32 #[.int .u8 0, .int .u8 0, .int .u8 0, .int .u8 0, .int .u8 0, .int .u8 0, .int .u8 0, .int .u8 0, .int .u8 0, .int .u8 0, .int .u8 0, .int .u8 0, .int .u8 0, .int .u8 0, .int .u8 0, .int .u8 0, .int .u8 0, .int .u8 0, .int .u8 0, .int .u8 0, .int .u8 0, .int .u8 0, .int .u8 0, .int .u8 0, .int .u8 0, .int .u8 0, .int .u8 0, .int .u8 0, .int .u8 0, .int .u8 0, .int .u8 0, .int .u8 0] 76 (by rfl)).all (byF x)).range
      have HB24 : Below w2.heap.size w2 W4 := by rw [hW4]; exact below_setCells ((Below.refl _ _).alloc (Nat.le_refl _) _) _ (Nat.le_refl _) _ _
      rw [← hW4]
      clear hW4 hen2
      have hbl0 : (bc x).length = 32 := by rw [bc_length, hx]
      have HT : Hid (Calls Tryz.prog 41 #[.agg (bc x).toArray] W4 fun e w' => e = .returned (.string x) ∧ Below W4.heap.size W4 w') := text_d x hx W4
      have HG : Hid (∀ W5, Below W4.heap.size W4 W5 → w2.grownBy W5 none) := fun W5 h5 => by
        have h := HB24.trans (h5.mono HB24.size)
        exact ⟨h.os, h.tape, h.output, h.size, fun i hi _ => h.block i hi⟩
      have HRW : Hid (∀ W5, Below W4.heap.size W4 W5 → W5.ownsRow w.heap.size 9 1 v ss.length ((ss.map fun d => d.data.toList).map encStr)) := fun W5 h5 => own_after hrow2 (HB24.trans (h5.mono HB24.size))
      have HZ : Hid (∀ W5, Below W4.heap.size W4 W5 → w.heap.size ≤ W5.heap.size) := fun W5 h5 => by have := HB24.size; have := h5.size; omega
      have hsl : ss.length ≤ 20 := by omega
      go_upto_region 3 with (first
        | (refine wpList_load_mid rfl 76 _ rfl w2.heap.size 0 rfl (bc x) _ HX.out Tryz.underlying76 rfl ?_ ?_; (rw [hbl0]; exact sizeDig))
        | (go_at_call 41; go_must (refine HT.out.mono ?_); rintro e w5 ⟨rfl, hb5⟩; have HB5 := (show Hid (Below W4.heap.size W4 w5) from hb5); clear hb5)
        | (at_builtin; go_must (refine wpList_append_own _ rfl _ _ 44 rfl w.heap.size 9 i0 (.string ⟨#[]⟩) 1 16 Tryz.underlying44 hi hz0 hz1 hz2 rfl (by decide) _ _ _ rfl ((HRW.out w5 HB5.out).alloc _) ⟨w5.heap.size, 0, none⟩ 1 1 [.string x] rfl rfl (cell_one_new _ _ _) (by simp [Value.oneCell']) (by unfold maxLen; omega) (by omega) (by have := HZ.out w5 HB5.out; simp; omega) ?_); intro v' w6 hown' hg6 hnil6; go_frame))
      have hrow5 := HRW.out w5 HB5.out
      have hrg5 := (hrg2.kept (HG.out w5 HB5.out) (by simp) (by simp)).alloc (.cells #[.string x] 9)
      have hrg6 := hrg5.kept hg6 (row_ne_low hrow5 hbl) (row_ne_iter (hrow5.alloc _) hrg5)
      have HB6 : Below w.heap.size w w6 := ((HB2.trans ((HB24.trans (HB5.out.mono HB24.size)).mono hs2)).alloc (HZ.out w5 HB5.out) _).grown hg6 (by have := HZ.out w5 HB5.out; simp; omega) (fun j hj => (hrow5.lt j hj).1)
      clear HX HT HG HRW HZ hbl0 hrow2 hrg2 hrg5
      go_roundw
      case rel =>
        refine ⟨_, cnt2, ss ++ [x], _, rfl, hrg6, by simp; omega, ?_, fun hv' => by have := (hnil6.1 hv').2; omega, hC.step hx hlk hhas, HB6⟩
        have e : Value.string x = encStr x.data.toList := by show _ = Value.string ⟨x.data.toList.toArray⟩; rw [Array.toArray_toList]
        rw [e] at hown'
        simpa using hown'
      case measure => rw [hrg6.left_eq, hrg.left_eq]; exact hlt

set_option maxRecDepth 100000 in
set_option maxHeartbeats 4000000 in
theorem pids_none (w : World) (gx : Nat) (hP : PoolAt w gx none []) :
    Calls Tryz.prog 22 #[.pointer (some ⟨gx, 0, none⟩)] w fun e w' => ∃ g cap : Nat, e = .returned (.slice (some ⟨g, 0, none⟩) 0 cap) ∧ w'.ownsRow w.heap.size 9 1 (.slice (some ⟨g, 0, none⟩) 0 cap) 0 [] ∧ Below w.heap.size w w' := by
  obtain ⟨i0, hi, hz0, hz1, hz2⟩ := info_parts infoS
  have hc := hP.c
  have hgl := hP.lt
  have hln : ∀ ty, (Builtin.len_ #[51] ty #[.map none]).run Tryz.prog w = .ok (.int .i64 0) w := fun ty => Maps.len_nil under51 ty
  clear hP
  go_enter Tryz.func22, Tryz.ntmps22
  go_upto_region 2 with (first
    | (at_make; refine wpList_make_own _ rfl _ _ 44 rfl w.heap.size 9 i0 (.string ⟨#[]⟩) 1 Tryz.underlying44 hi hz0 hz1 _ _ _ 0 rfl rfl rfl (by omega) (Nat.zero_le _) (Nat.le_refl _) ?_; intro w1 hrow1 hg1))
  have HB1 : Below w.heap.size w w1 := (Below.refl _ _).grown hg1 (Nat.le_refl _) (fun j hj => by cases hj)
  have hc1 : w1.cell? ⟨gx, 0, none⟩ = some (.map none) := by rw [HB1.cell (p := ⟨gx, 0, none⟩) hgl]; exact hc
  have hrg := run_range_nilMap (P := Tryz.prog) w1 51 76 79 under51
  have hnx : ∀ ty, (Instr.next (.pointer (some ⟨w1.heap.size, 0, none⟩)) false ty).run Tryz.prog (w1.alloc (.mapIter none 0 #[] 0)) = _ := fun ty => run_next_nilMap _ ty 0 0 #[]
  have hrow2 := hrow1.alloc (.mapIter none 0 #[] 0)
  rcases hrow2.2 with ⟨hnil, _⟩ | ⟨g, cap, cur, hv, hbase, hb, h1, h2, h3, h4⟩
  · cases hnil
  cases hv
  have hH : Holds encStr (w1.alloc (.mapIter none 0 #[] 0)) w.heap.size 0 ([] : List (List UInt8)).toArray := fun j hj => absurd hj (by simp)
  have hs := sort_any w.heap.size 0 0 [] _ hH (Array.getElem?_eq_some_iff.1 hb).1 (by decide)
  have HQ : Hid (Calls Tryz.prog 42 #[.slice (some ⟨w.heap.size, 0, none⟩) 0 0] (w1.alloc (.mapIter none 0 #[] 0)) fun e w' => e = .returned (.tuple #[]) ∧ w'.ownsRow w.heap.size 9 1 (.slice (some ⟨w.heap.size, 0, none⟩) 0 0) 0 [] ∧ Below w.heap.size w w') := hs.mono fun e w' hx => by
    obtain ⟨hx1, nn, os, hx2⟩ := hx
    refine ⟨hx1, ?_⟩
    rw [List.mergeSort_nil] at hx2
    rw [hx2]
    exact ⟨ownsRow_sorted (ss := []) (ts := []) rfl hbase hb h1 h2 h3, (HB1.alloc HB1.size _).grown (grownBy_sorted _) (by have := HB1.size; simp; omega) (fun j hj => by cases hj; exact Nat.le_refl _)⟩
  clear hs hH hb h1 h2 h3 h4 hrow2 hrow1 hc
  go_upto_region 3 with fail
  refine wp_loop_rounds 1 ?_
  rw [rounds_succ]
  go_wp2_with (go_at_call 42; go_must (refine HQ.out.mono ?_); rintro e w' ⟨rfl, hq1, hq2⟩)
  go_ret
  exact ⟨w.heap.size, 0, rfl, hq1, hq2⟩

theorem pids_any (w : World) (gx : Nat) (mb : Option Nat) (l : List ByteArray) (hP : PoolAt w gx mb l) (hl : l.length ≤ 20) :
    Calls Tryz.prog 22 #[.pointer (some ⟨gx, 0, none⟩)] w fun e w' => ∃ g cap : Nat, e = .returned (.slice (some ⟨g, 0, none⟩) l.length cap) ∧ w'.ownsRow w.heap.size 9 1 (.slice (some ⟨g, 0, none⟩) l.length cap) l.length ((sortD l).map encStr) ∧ Below w.heap.size w w' := by
  cases mb with
  | some b => exact pids_some w gx b l hP hl
  | none =>
    have hl0 : l = [] := by
      rcases hP.m with ⟨_, h⟩ | ⟨_, _, h, _⟩
      · exact h
      · cases h
    subst hl0
    refine (pids_none w gx hP).mono fun e w' hx => ?_
    obtain ⟨g, cap, h1, h2, h3⟩ := hx
    refine ⟨g, cap, h1, ?_, h3⟩
    have e0 : sortD [] = [] := by simp [sortD]
    rw [e0]; exact h2
end Go.Proofs.YtkmalggeieiepaaGreatDoor
namespace Go.Proofs.YtkmalggeieiepaaGreatDoor
open Go.RowKit

/-- so many bytes follow a size's first. -/
def manyOf (c : UInt8) : Nat := if c = 253 then 2 else if c = 254 then 4 else if c = 255 then 8 else 0
def rSize (r : List UInt8 × Int) : Nat × (List UInt8 × Int) :=
  if r.2 ≠ 0 then (0, r)
  else match r.1 with
    | [] => (0, ([], 1))
    | c :: l =>
      if manyOf c = 0 then (c.toNat, (l, 0))
      else if l.length < manyOf c then (0, (l, 1))
      else (num (l.take (manyOf c)), (l.drop (manyOf c), if sizeL (num (l.take (manyOf c))) = c :: l.take (manyOf c) then 0 else 2))
theorem idx_one (c : UInt8) (W : World) : (Instr.index 9 (.string (ofL [c])) (.int .i64 0)).run Tryz.prog W = .ok (.int .u8 (c.toNat : Int)) W := by
  rw [run_index_string W 9 (ofL [c]) .i64 _ Tryz.underlying9, dif_pos ⟨by omega, by rw [ofL_size]; simp⟩]
  rfl

theorem text_ne {a b : ByteArray} (h : ¬ a = b) : (a.toList == b.toList) = false := by
  have k : ∀ s : ByteArray, s.toList = s.data.toList := fun s => by obtain ⟨⟨l⟩⟩ := s; simp
  rw [k, k, beq_eq_false_iff_ne]
  exact fun e => h (by rw [← ofL_of a, ← ofL_of b, e])
set_option maxRecDepth 10000 in
set_option maxHeartbeats 1000000 in
theorem size_any (g : Nat) (l : List UInt8) (e : Int) (w : World) (h : Rd w g l e) :
    Calls Tryz.prog 127 #[.pointer (some ⟨g, 0, none⟩)] w fun x w' => x = .returned (.int .u64 ((rSize (l, e)).1 : Int)) ∧ Rd w' g (rSize (l, e)).2.1 (rSize (l, e)).2.2 ∧ Mov g w w' := by
  have HR : Hid (Rd w g l e) := h
  clear h
  have hT := take_any g 1 l e w HR.out
  by_cases he : e = 0
  · subst he
    cases l with
    | nil =>
      have e1 : rTake 1 ([], 0) = ([], ([], 1)) := by simp [rTake]
      have e2 : rSize ([], 0) = (0, ([], 1)) := by simp [rSize]
      rw [e1] at hT
      rw [e2]
      go_enter Tryz.func127, Tryz.ntmps127
      go_upto_region 2 with (go_at_call 87; go_must (refine hT.mono ?_); rintro x w1 ⟨rfl, hr1, hm1⟩; have HR1 := (show Hid (Rd w1 g _ _) from hr1); have HM1 := (show Hid (Mov g w w1) from hm1); clear hr1 hm1)
      have d1 := HR1.out.e
      go_wp2
      go_ret
      exact ⟨rfl, HR1.out, HM1.out⟩
    | cons c l =>
      have e1 : rTake 1 (c :: l, 0) = ([c], (l, 0)) := by simp [rTake]
      rw [e1] at hT
      have hix := idx_one c
      by_cases hm : manyOf c = 0
      · have e2 : rSize (c :: l, 0) = (c.toNat, (l, 0)) := by simp [rSize, hm]
        rw [e2]
        have n1 : ¬ ((c.toNat : Int) = 253) := fun h => by
          have : c = 253 := by rw [← UInt8.toNat_inj]; simp; omega
          subst this; simp [manyOf] at hm
        have n2 : ¬ ((c.toNat : Int) = 254) := fun h => by
          have : c = 254 := by rw [← UInt8.toNat_inj]; simp; omega
          subst this; simp [manyOf] at hm
        have n3 : ¬ ((c.toNat : Int) = 255) := fun h => by
          have : c = 255 := by rw [← UInt8.toNat_inj]; simp; omega
          subst this; simp [manyOf] at hm
        have c0 : 0 ≤ (c.toNat : Int) := by omega
        have c1 : (c.toNat : Int) ≤ 255 := by have := c.toNat_lt; omega
        clear hm
        generalize (c.toNat : Int) = C at hix n1 n2 n3 c0 c1
        go_enter Tryz.func127, Tryz.ntmps127
        go_upto_region 2 with (go_at_call 87; go_must (refine hT.mono ?_); rintro x w1 ⟨rfl, hr1, hm1⟩; have HR1 := (show Hid (Rd w1 g _ _) from hr1); have HM1 := (show Hid (Mov g w w1) from hm1); clear hr1 hm1)
        have d1 := HR1.out.e
        go_wp2
        go_ret
        exact ⟨rfl, HR1.out, HM1.out⟩
      · have hc : (c = 253 ∧ manyOf c = 2) ∨ (c = 254 ∧ manyOf c = 4) ∨ (c = 255 ∧ manyOf c = 8) := by
          unfold manyOf at hm ⊢
          by_cases h1 : c = 253
          · simp [h1]
          · by_cases h2 : c = 254
            · simp [h2]
            · by_cases h3 : c = 255
              · simp [h3]
              · simp [h1, h2, h3] at hm
        have hm8 : manyOf c ≤ 8 := by omega
        have HT2 : Hid (∀ W : World, Rd W g l 0 → Calls Tryz.prog 87 #[.pointer (some ⟨g, 0, none⟩), .int .i64 (manyOf c : Int)] W fun x w' => x = .returned (.string (ofL (rTake (manyOf c) (l, 0)).1)) ∧ Rd w' g (rTake (manyOf c) (l, 0)).2.1 (rTake (manyOf c) (l, 0)).2.2 ∧ Mov g W w') := fun W hW => take_any g (manyOf c) l 0 W hW
        by_cases hlt : l.length < manyOf c
        · have e2 : rSize (c :: l, 0) = (0, (l, 1)) := by simp [rSize, hm, hlt]
          have e3 : rTake (manyOf c) (l, 0) = ([], (l, 1)) := by simp [rTake, hlt]
          have HN : Hid (∀ W : World, Calls Tryz.prog 128 #[.string (ofL [])] W fun x w' => x = .returned (.int .u64 0) ∧ w' = W) := fun W => number_any (ofL []) W (by simp [ofL_size])
          rw [e2]
          rw [e3] at HT2
          clear hlt hm hm8 e1 e2 e3
          rcases hc with ⟨rfl, hmm⟩ | ⟨rfl, hmm⟩ | ⟨rfl, hmm⟩
          all_goals
            rw [hmm] at HT2
            clear hmm
            go_enter Tryz.func127, Tryz.ntmps127
            go_upto_region 2 with (go_at_call 87; go_must (refine hT.mono ?_); rintro x w1 ⟨rfl, hr1, hm1⟩; have HR1 := (show Hid (Rd w1 g _ _) from hr1); have HM1 := (show Hid (Mov g w w1) from hm1); clear hr1 hm1)
            have d1 := HR1.out.e
            go_upto_region 14 with (go_at_call 87; go_must (refine (HT2.out _ HR1.out).mono ?_); rintro x w2 ⟨rfl, hr2, hm2⟩; have HR2 := (show Hid (Rd w2 g _ _) from hr2); have HM2 := (show Hid (Mov g w1 w2) from hm2); clear hr2 hm2 d1)
            have d2 := HR2.out.e
            go_wp2_with (go_at_call 128; go_must (refine (HN.out _).mono ?_); rintro x w3 ⟨rfl, rfl⟩)
            go_ret
            exact ⟨rfl, HR2.out, HM1.out.trans HM2.out⟩
        · have e3 : rTake (manyOf c) (l, 0) = (l.take (manyOf c), (l.drop (manyOf c), 0)) := by simp [rTake, hlt]
          have hul : (l.take (manyOf c)).length = manyOf c := by rw [List.length_take]; omega
          have HE : Hid (rSize (c :: l, 0) = (num (l.take (manyOf c)), (l.drop (manyOf c), if sizeL (num (l.take (manyOf c))) = c :: l.take (manyOf c) then 0 else 2))) := by show _ = _; simp [rSize, hm, hlt]
          rw [e3] at HT2
          generalize l.drop (manyOf c) = r at HT2 HE
          generalize l.take (manyOf c) = u at HT2 HE hul
          have hu8 : u.length ≤ 8 := by omega
          have hU : U64 (num u) := by
            have h1 := num_lt u
            have h2 : 256 ^ u.length ≤ 256 ^ 8 := Nat.pow_le_pow_right (by omega) hu8
            unfold U64; omega
          have HN : Hid (∀ W : World, Calls Tryz.prog 128 #[.string (ofL u)] W fun x w' => x = .returned (.int .u64 (num u : Int)) ∧ w' = W) := fun W => number_any (ofL u) W (by rw [ofL_size]; exact hu8)
          have HZ : Hid (∀ W : World, Calls Tryz.prog 54 #[.int .u64 (num u : Int)] W fun x w' => x = .returned (.string (ofL (sizeL (num u)))) ∧ Below W.heap.size W w') := fun W => Size_any (num u) W hU
          have hz1 : (ofL [c]).size = 1 := rfl
          have hz2 : (ofL u).size ≤ 8 := by rw [ofL_size]; exact hu8
          have hap := ofL_append [c] u
          obtain ⟨X, hX⟩ : ∃ X : Int, X = (num u : Int) := ⟨_, rfl⟩
          rw [← hX] at HN HZ
          have HX : Hid (X = (num u : Int)) := hX
          obtain ⟨Z, hZ⟩ : ∃ Z, Z = ofL (sizeL (num u)) := ⟨_, rfl⟩
          rw [← hZ] at HZ
          by_cases hsame : sizeL (num u) = c :: u
          · have hq : Z = ofL [c] ++ ofL u := by rw [hZ, hsame, hap]; rfl
            have e2 := HE.out
            rw [if_pos hsame] at e2
            rw [e2, ← hX]
            clear hlt hm hm8 e1 e2 e3 HE hX hZ hsame hap hul hu8 hU
            subst hq
            rcases hc with ⟨rfl, hmm⟩ | ⟨rfl, hmm⟩ | ⟨rfl, hmm⟩
            all_goals
              rw [hmm] at HT2
              clear hmm
              go_enter Tryz.func127, Tryz.ntmps127
              go_upto_region 2 with (go_at_call 87; go_must (refine hT.mono ?_); rintro x w1 ⟨rfl, hr1, hm1⟩; have HR1 := (show Hid (Rd w1 g _ _) from hr1); have HM1 := (show Hid (Mov g w w1) from hm1); clear hr1 hm1)
              have d1 := HR1.out.e
              go_upto_region 14 with (go_at_call 87; go_must (refine (HT2.out _ HR1.out).mono ?_); rintro x w2 ⟨rfl, hr2, hm2⟩; have HR2 := (show Hid (Rd w2 g _ _) from hr2); have HM2 := (show Hid (Mov g w1 w2) from hm2); clear hr2 hm2 d1)
              have d2 := HR2.out.e
              go_wp2_with (first | (go_at_call 128; go_must (refine (HN.out _).mono ?_); rintro x w3 ⟨rfl, rfl⟩) | (go_at_call 54; go_must (refine (HZ.out _).mono ?_); rintro x w3 ⟨rfl, hb3⟩; have HR3 := (show Hid (Rd w3 g _ _) from HR2.out.later hb3); have HM3 := (show Hid (Mov g _ w3) from Below.mov hb3 g); clear hb3 d2; have d3 := HR3.out.e))
              go_ret
              exact ⟨rfl, HR3.out, HM1.out.trans (HM2.out.trans HM3.out)⟩
          · have hq : (Z.toList == (ofL [c] ++ ofL u).toList) = false := text_ne (fun h => hsame (ofL_inj (by rw [← hZ, h, hap]; rfl)))
            have e2 := HE.out
            rw [if_neg hsame] at e2
            rw [e2, ← hX]
            clear hlt hm hm8 e1 e2 e3 HE hX hZ hsame hap hul hu8 hU
            have HW : Hid (∀ W : World, Rd W g r 0 → Calls Tryz.prog 89 #[.pointer (some ⟨g, 0, none⟩), .int .i64 2] W fun x w' => x = .returned (.tuple #[]) ∧ Rd w' g r 2 ∧ Mov g W w') := fun W hW => wrong_any g 2 r 0 W hW
            rcases hc with ⟨rfl, hmm⟩ | ⟨rfl, hmm⟩ | ⟨rfl, hmm⟩
            all_goals
              rw [hmm] at HT2
              clear hmm
              go_enter Tryz.func127, Tryz.ntmps127
              go_upto_region 2 with (go_at_call 87; go_must (refine hT.mono ?_); rintro x w1 ⟨rfl, hr1, hm1⟩; have HR1 := (show Hid (Rd w1 g _ _) from hr1); have HM1 := (show Hid (Mov g w w1) from hm1); clear hr1 hm1)
              have d1 := HR1.out.e
              go_upto_region 14 with (go_at_call 87; go_must (refine (HT2.out _ HR1.out).mono ?_); rintro x w2 ⟨rfl, hr2, hm2⟩; have HR2 := (show Hid (Rd w2 g _ _) from hr2); have HM2 := (show Hid (Mov g w1 w2) from hm2); clear hr2 hm2 d1)
              have d2 := HR2.out.e
              go_wp2_with (first | (go_at_call 128; go_must (refine (HN.out _).mono ?_); rintro x w3 ⟨rfl, rfl⟩) | (go_at_call 54; go_must (refine (HZ.out _).mono ?_); rintro x w3 ⟨rfl, hb3⟩; have HR3 := (show Hid (Rd w3 g _ _) from HR2.out.later hb3); have HM3 := (show Hid (Mov g _ w3) from Below.mov hb3 g); clear hb3 d2; have d3 := HR3.out.e) | (go_at_call 89; go_must (refine (HW.out _ HR3.out).mono ?_); rintro x w4 ⟨rfl, hr4, hm4⟩; have HR4 := (show Hid (Rd w4 g _ _) from hr4); have HM4 := (show Hid (Mov g w3 w4) from hm4); clear hr4 hm4))
              go_ret
              exact ⟨rfl, HR4.out, HM1.out.trans (HM2.out.trans (HM3.out.trans HM4.out))⟩
  · have e1 : rTake 1 (l, e) = ([], (l, e)) := by simp [rTake, he]
    have e2 : rSize (l, e) = (0, (l, e)) := by simp [rSize, he]
    rw [e1] at hT
    rw [e2]
    go_enter Tryz.func127, Tryz.ntmps127
    go_upto_region 2 with (go_at_call 87; go_must (refine hT.mono ?_); rintro x w1 ⟨rfl, hr1, hm1⟩; have HR1 := (show Hid (Rd w1 g _ _) from hr1); have HM1 := (show Hid (Mov g w w1) from hm1); clear hr1 hm1)
    have d1 := HR1.out.e
    go_wp2
    go_ret
    exact ⟨rfl, HR1.out, HM1.out⟩
end Go.Proofs.YtkmalggeieiepaaGreatDoor
namespace Go.Proofs.YtkmalggeieiepaaGreatDoor
open Go.RowKit

def rWithin (lo hi : Nat) (r : List UInt8 × Int) : Nat × (List UInt8 × Int) :=
  if (rSize r).2.2 ≠ 0 then (0, (rSize r).2) else if (rSize r).1 < lo ∨ hi < (rSize r).1 then (0, ((rSize r).2.1, 3)) else rSize r
def rDone (r : List UInt8 × Int) : List UInt8 × Int := if r.2 = 0 ∧ r.1 ≠ [] then (r.1, 5) else r

theorem rTake_le (n : Nat) (r : List UInt8 × Int) : (rTake n r).2.1.length ≤ r.1.length := by
  unfold rTake
  split
  · exact Nat.le_refl _
  · split
    · exact Nat.le_refl _
    · simp
theorem rSize_le (r : List UInt8 × Int) : (rSize r).2.1.length ≤ r.1.length := by
  obtain ⟨l, e⟩ := r
  unfold rSize
  split
  · exact Nat.le_refl _
  · cases l with
    | nil => exact Nat.le_refl _
    | cons c l =>
      show (if manyOf c = 0 then _ else _ : Nat × (List UInt8 × Int)).2.1.length ≤ _
      split
      · simp
      · split
        · simp
        · simp; omega
theorem rWithin_le (lo hi : Nat) (r : List UInt8 × Int) : (rWithin lo hi r).2.1.length ≤ r.1.length := by
  have h := rSize_le r
  unfold rWithin
  split
  · exact h
  · split
    · exact h
    · exact h
theorem rWithin_hi (lo hi : Nat) (r : List UInt8 × Int) : (rWithin lo hi r).1 ≤ hi := by
  unfold rWithin
  split
  · exact Nat.zero_le _
  · split
    · exact Nat.zero_le _
    · omega

set_option maxRecDepth 10000 in
set_option maxHeartbeats 1000000 in
theorem within_any (g lo hi : Nat) (l : List UInt8) (e : Int) (w : World) (h : Rd w g l e) (hlo : lo ≤ 1048576) (hhi : hi ≤ 1048576) :
    Calls Tryz.prog 88 #[.pointer (some ⟨g, 0, none⟩), .int .i64 (lo : Int), .int .i64 (hi : Int)] w fun x w' => x = .returned (.int .i64 ((rWithin lo hi (l, e)).1 : Int)) ∧ Rd w' g (rWithin lo hi (l, e)).2.1 (rWithin lo hi (l, e)).2.2 ∧ Mov g w w' := by
  have hS := size_any g l e w h
  have HE : Hid (rWithin lo hi (l, e) = if (rSize (l, e)).2.2 ≠ 0 then (0, (rSize (l, e)).2) else if (rSize (l, e)).1 < lo ∨ hi < (rSize (l, e)).1 then (0, ((rSize (l, e)).2.1, 3)) else rSize (l, e)) := rfl
  clear h
  generalize rSize (l, e) = p at hS HE
  obtain ⟨x, m, c⟩ := p
  obtain ⟨X, hX⟩ : ∃ X : Int, X = (x : Int) := ⟨_, rfl⟩
  have HX : Hid (X = (x : Int)) := hX
  have L0 : (0 : Int) ≤ (lo : Int) := by omega
  have L1 : (lo : Int) ≤ 1048576 := by omega
  have M0 : (0 : Int) ≤ (hi : Int) := by omega
  have M1 : (hi : Int) ≤ 1048576 := by omega
  have X0 : 0 ≤ X := by omega
  have HS : Hid (Calls Tryz.prog 127 #[.pointer (some ⟨g, 0, none⟩)] w fun x w' => x = .returned (.int .u64 X) ∧ Rd w' g m c ∧ Mov g w w') := by rw [hX]; exact hS
  clear hS
  by_cases hc : c = 0
  · subst hc
    have HW : Hid (∀ W : World, Rd W g m 0 → Calls Tryz.prog 89 #[.pointer (some ⟨g, 0, none⟩), .int .i64 3] W fun x w' => x = .returned (.tuple #[]) ∧ Rd w' g m 3 ∧ Mov g W w') := fun W hW => wrong_any g 3 m 0 W hW
    by_cases h1 : x < lo
    · have e2 : rWithin lo hi (l, e) = (0, (m, 3)) := by rw [HE.out]; simp [h1]
      rw [e2]
      have i1 : X < (lo : Int) := by omega
      clear h1 e2 HE hX
      generalize (lo : Int) = LO at *
      generalize (hi : Int) = HI at *
      go_enter Tryz.func88, Tryz.ntmps88
      go_upto_region 2 with (go_at_call 127; go_must (refine HS.out.mono ?_); rintro x w1 ⟨rfl, hr1, hm1⟩; have HR1 := (show Hid (Rd w1 g _ _) from hr1); have HM1 := (show Hid (Mov g w w1) from hm1); clear hr1 hm1)
      have d1 := HR1.out.e
      go_upto_region 4 with (go_at_call 89; go_must (refine (HW.out _ HR1.out).mono ?_); rintro x w4 ⟨rfl, hr4, hm4⟩; have HR4 := (show Hid (Rd w4 g _ _) from hr4); have HM4 := (show Hid (Mov g w1 w4) from hm4); clear hr4 hm4)
      have d4 := HR4.out.e
      go_wp2
      go_ret
      exact ⟨rfl, HR4.out, HM1.out.trans HM4.out⟩
    · by_cases h2 : hi < x
      · have e2 : rWithin lo hi (l, e) = (0, (m, 3)) := by rw [HE.out]; simp [h2]
        rw [e2]
        have i1 : (lo : Int) ≤ X := by omega
        have i2 : (hi : Int) < X := by omega
        clear h1 h2 e2 HE hX
        generalize (lo : Int) = LO at *
        generalize (hi : Int) = HI at *
        go_enter Tryz.func88, Tryz.ntmps88
        go_upto_region 2 with (go_at_call 127; go_must (refine HS.out.mono ?_); rintro x w1 ⟨rfl, hr1, hm1⟩; have HR1 := (show Hid (Rd w1 g _ _) from hr1); have HM1 := (show Hid (Mov g w w1) from hm1); clear hr1 hm1)
        have d1 := HR1.out.e
        go_upto_region 4 with (go_at_call 89; go_must (refine (HW.out _ HR1.out).mono ?_); rintro x w4 ⟨rfl, hr4, hm4⟩; have HR4 := (show Hid (Rd w4 g _ _) from hr4); have HM4 := (show Hid (Mov g w1 w4) from hm4); clear hr4 hm4)
        have d4 := HR4.out.e
        go_wp2
        go_ret
        exact ⟨rfl, HR4.out, HM1.out.trans HM4.out⟩
      · have e2 : rWithin lo hi (l, e) = (x, (m, 0)) := by rw [HE.out]; simp [h1, h2]
        rw [e2, ← hX]
        have i1 : (lo : Int) ≤ X := by omega
        have i2 : X ≤ (hi : Int) := by omega
        clear h1 h2 e2 HE hX
        generalize (lo : Int) = LO at *
        generalize (hi : Int) = HI at *
        go_enter Tryz.func88, Tryz.ntmps88
        go_upto_region 2 with (go_at_call 127; go_must (refine HS.out.mono ?_); rintro x w1 ⟨rfl, hr1, hm1⟩; have HR1 := (show Hid (Rd w1 g _ _) from hr1); have HM1 := (show Hid (Mov g w w1) from hm1); clear hr1 hm1)
        have d1 := HR1.out.e
        go_wp2
        go_ret
        exact ⟨rfl, HR1.out, HM1.out⟩
  · have e2 : rWithin lo hi (l, e) = (0, (m, c)) := by rw [HE.out]; simp [hc]
    rw [e2]
    clear e2 HE hX
    go_enter Tryz.func88, Tryz.ntmps88
    go_upto_region 2 with (go_at_call 127; go_must (refine HS.out.mono ?_); rintro x w1 ⟨rfl, hr1, hm1⟩; have HR1 := (show Hid (Rd w1 g _ _) from hr1); have HM1 := (show Hid (Mov g w w1) from hm1); clear hr1 hm1)
    have d1 := HR1.out.e
    go_wp2
    go_ret
    exact ⟨rfl, HR1.out, HM1.out⟩

set_option maxHeartbeats 1000000 in
theorem done_any (g : Nat) (l : List UInt8) (e : Int) (w : World) (h : Rd w g l e) :
    Calls Tryz.prog 67 #[.pointer (some ⟨g, 0, none⟩)] w fun x w' => x = .returned (.int .i64 (rDone (l, e)).2) ∧ Rd w' g (rDone (l, e)).1 (rDone (l, e)).2 ∧ Mov g w w' := by
  have HR : Hid (Rd w g l e) := h
  have d0 := h.e
  have d1 := h.s
  clear h
  by_cases he : e = 0
  · subst he
    cases l with
    | nil =>
      have e2 : rDone ([], 0) = ([], 0) := by simp [rDone]
      rw [e2]
      have hn : (ofL []).toList = [] := by
        have k : ∀ s : ByteArray, s.toList = s.data.toList := fun s => by obtain ⟨⟨l⟩⟩ := s; simp
        rw [k]; rfl
      go_enter Tryz.func67, Tryz.ntmps67
      go_wp2
      go_ret
      exact ⟨rfl, HR.out, Mov.refl g w⟩
    | cons c l =>
      have e2 : rDone (c :: l, 0) = (c :: l, 5) := by simp [rDone]
      rw [e2]
      have hn : ((ofL (c :: l)).toList.isEmpty) = false := by
        have k : ∀ s : ByteArray, s.toList = s.data.toList := fun s => by obtain ⟨⟨l⟩⟩ := s; simp
        rw [k]; rfl
      have hn2 : ((ofL (c :: l)).toList == (⟨#[]⟩ : ByteArray).toList) = false := text_ne (fun h => by have := congrArg ByteArray.size h; rw [ofL_size] at this; simp at this; exact absurd this (by simp [ByteArray.size]))
      have HW : Hid (Calls Tryz.prog 89 #[.pointer (some ⟨g, 0, none⟩), .int .i64 5] w fun x w' => x = .returned (.tuple #[]) ∧ Rd w' g (c :: l) 5 ∧ Mov g w w') := wrong_any g 5 (c :: l) 0 w HR.out
      go_enter Tryz.func67, Tryz.ntmps67
      go_upto_region 3 with (go_at_call 89; go_must (refine HW.out.mono ?_); rintro x w4 ⟨rfl, hr4, hm4⟩; have HR4 := (show Hid (Rd w4 g _ _) from hr4); have HM4 := (show Hid (Mov g w w4) from hm4); clear hr4 hm4)
      have d4 := HR4.out.e
      go_wp2
      go_ret
      exact ⟨rfl, HR4.out, HM4.out⟩
  · have e2 : rDone (l, e) = (l, e) := by simp [rDone, he]
    rw [e2]
    go_enter Tryz.func67, Tryz.ntmps67
    go_wp2
    go_ret
    exact ⟨rfl, HR.out, Mov.refl g w⟩
end Go.Proofs.YtkmalggeieiepaaGreatDoor
namespace Go.Proofs.YtkmalggeieiepaaGreatDoor
open Go.RowKit

/-- a script, whose size is told ahead. -/
def rScript (r : List UInt8 × Int) : List UInt8 × Int := (rTake (rWithin 0 40 r).1 (rWithin 0 40 r).2).2
def rIn (r : List UInt8 × Int) : List UInt8 × Int := (rTake 4 (rScript (rTake 36 r).2)).2
def rOut (r : List UInt8 × Int) : List UInt8 × Int := rScript (rTake 8 r).2
def rep (f : List UInt8 × Int → List UInt8 × Int) : Nat → List UInt8 × Int → List UInt8 × Int
  | 0, r => r
  | n + 1, r => rep f n (f r)
def rIns (r : List UInt8 × Int) : List UInt8 × Int := rep rIn (rWithin 1 4 r).1 (rWithin 1 4 r).2
def rOuts (r : List UInt8 × Int) : List UInt8 × Int := rep rOut (rWithin 1 4 r).1 (rWithin 1 4 r).2
def rTx (r : List UInt8 × Int) : List UInt8 × Int := (rTake 4 (rOuts (rIns (rTake 4 r).2))).2
theorem rScript_le (r : List UInt8 × Int) : (rScript r).1.length ≤ r.1.length := Nat.le_trans (rTake_le _ _) (rWithin_le _ _ _)
theorem rIn_le (r : List UInt8 × Int) : (rIn r).1.length ≤ r.1.length := Nat.le_trans (rTake_le _ _) (Nat.le_trans (rScript_le _) (rTake_le _ _))
theorem rOut_le (r : List UInt8 × Int) : (rOut r).1.length ≤ r.1.length := Nat.le_trans (rScript_le _) (rTake_le _ _)
theorem rep_le (f : List UInt8 × Int → List UInt8 × Int) (hf : ∀ r, (f r).1.length ≤ r.1.length) (n : Nat) : ∀ r, (rep f n r).1.length ≤ r.1.length := by
  induction n with
  | zero => intro r; exact Nat.le_refl _
  | succ n ih => intro r; exact Nat.le_trans (ih _) (hf r)
theorem rTx_le (r : List UInt8 × Int) : (rTx r).1.length ≤ r.1.length :=
  Nat.le_trans (rTake_le _ _) (Nat.le_trans (rep_le rOut rOut_le _ _) (Nat.le_trans (rWithin_le _ _ _) (Nat.le_trans (rep_le rIn rIn_le _ _) (Nat.le_trans (rWithin_le _ _ _) (rTake_le _ _)))))

theorem take_p (g n : Nat) (r : List UInt8 × Int) (w : World) (h : Rd w g r.1 r.2) :
    Calls Tryz.prog 87 #[.pointer (some ⟨g, 0, none⟩), .int .i64 (n : Int)] w fun x w' => x = .returned (.string (ofL (rTake n r).1)) ∧ Rd w' g (rTake n r).2.1 (rTake n r).2.2 ∧ Mov g w w' := take_any g n r.1 r.2 w h
theorem within_p (g lo hi : Nat) (r : List UInt8 × Int) (w : World) (h : Rd w g r.1 r.2) (hlo : lo ≤ 1048576) (hhi : hi ≤ 1048576) :
    Calls Tryz.prog 88 #[.pointer (some ⟨g, 0, none⟩), .int .i64 (lo : Int), .int .i64 (hi : Int)] w fun x w' => x = .returned (.int .i64 ((rWithin lo hi r).1 : Int)) ∧ Rd w' g (rWithin lo hi r).2.1 (rWithin lo hi r).2.2 ∧ Mov g w w' := within_any g lo hi r.1 r.2 w h hlo hhi

set_option maxRecDepth 10000 in
set_option maxHeartbeats 2000000 in
theorem tx_any (g : Nat) (l : List UInt8) (e : Int) (w : World) (h : Rd w g l e) (hl : l.length ≤ maxLen) :
    Calls Tryz.prog 66 #[.pointer (some ⟨g, 0, none⟩)] w fun x w' => x = .returned (.string (ofL (l.take (l.length - (rTx (l, e)).1.length)))) ∧ Rd w' g (rTx (l, e)).1 (rTx (l, e)).2 ∧ Mov g w w' := by
  have HR : Hid (Rd w g l e) := h
  have d0 := h.s
  clear h
  go_enter Tryz.func66, Tryz.ntmps66
  go_upto_region 3 with (go_at_call 87; go_must (refine (take_p g 4 (l, e) _ HR.out).mono ?_); rintro x w1 ⟨rfl, hr1, hm1⟩; have HR1 := (show Hid (Rd w1 g (rTake 4 (l, e)).2.1 (rTake 4 (l, e)).2.2) from hr1); have HM1 := (show Hid (Mov g w w1) from hm1); clear hr1 hm1)
  obtain ⟨r1, E1⟩ : ∃ r, Hid (r = (rTake 4 (l, e)).2) := ⟨_, rfl⟩
  rw [← E1.out] at HR1
  go_upto_region 4 with (go_at_call 88; go_must (refine (within_p g 1 4 r1 _ HR1.out (by omega) (by omega)).mono ?_); rintro x w2 ⟨rfl, hr2, hm2⟩; have HR2 := (show Hid (Rd w2 g (rWithin 1 4 r1).2.1 (rWithin 1 4 r1).2.2) from hr2); have HM2 := (show Hid (Mov g w1 w2) from hm2); clear hr2 hm2)
  have HM12 : Hid (Mov g w w2) := HM1.out.trans HM2.out
  obtain ⟨R2, E2⟩ : ∃ R, Hid (R = rIns r1) := ⟨_, rfl⟩
  have EP : Hid (rep rIn (rWithin 1 4 r1).1 (rWithin 1 4 r1).2 = R2) := E2.out.symm
  have hn4 := rWithin_hi 1 4 r1
  clear HM1 HM2 HR1 HR
  generalize rWithin 1 4 r1 = p1 at HR2 EP hn4
  obtain ⟨n1, r2⟩ := p1
  have hn4' : n1 ≤ 4 := hn4
  clear hn4
  go_loopg [4] n1 (fun g' nv wx => ∃ r : List UInt8 × Int, nv = .int .i64 (g' : Int) ∧ g' ≤ 4 ∧ rep rIn g' r = R2 ∧ Rd wx g r.1 r.2 ∧ Mov g w wx)
  case atStart => exact ⟨r2, rfl, hn4', EP.out, HR2.out, HM12.out⟩
  case round =>
    clear HM12 HR2 EP hn4'
    obtain ⟨r, rfl, hg4, hrep, hrd, hmv⟩ := hrel
    have HRr : Hid (Rd wr g r.1 r.2) := hrd
    have HMr : Hid (Mov g w wr) := hmv
    have HRE : Hid (rep rIn gk r = R2) := hrep
    clear hrd hmv hrep
    by_cases h0 : gk = 0
    · subst h0
      go_upto_region 10 with (go_at_call 88; go_must (refine (within_p g 1 4 r _ HRr.out (by omega) (by omega)).mono ?_); rintro x w3 ⟨rfl, hr, hm⟩; have HR3 := (show Hid (Rd w3 g (rWithin 1 4 r).2.1 (rWithin 1 4 r).2.2) from hr); have HM3 := (show Hid (Mov g wr w3) from hm); clear hr hm)
      have HM13 : Hid (Mov g w w3) := HMr.out.trans HM3.out
      have hr2 : Hid (r = R2) := HRE.out
      rw [hr2.out] at HR3
      rw [hr2.out]
      obtain ⟨R3, E3⟩ : ∃ R, Hid (R = rOuts R2) := ⟨_, rfl⟩
      have EP : Hid (rep rOut (rWithin 1 4 R2).1 (rWithin 1 4 R2).2 = R3) := E3.out.symm
      have hn4 := rWithin_hi 1 4 R2
      clear HMr HM3 HRr HRE hr2
      generalize rWithin 1 4 R2 = p2 at HR3 EP hn4
      obtain ⟨n2, r3⟩ := p2
      have hn4' : n2 ≤ 4 := hn4
      clear hn4
      go_loopg [5] n2 (fun g' nv wx => ∃ r : List UInt8 × Int, nv = .int .i64 (g' : Int) ∧ g' ≤ 4 ∧ rep rOut g' r = R3 ∧ Rd wx g r.1 r.2 ∧ Mov g w wx)
      case atStart => exact ⟨r3, rfl, hn4', EP.out, HR3.out, HM13.out⟩
      case round =>
        clear HM13 HR3 EP hn4'
        obtain ⟨r, rfl, hg4, hrep, hrd, hmv⟩ := hrel
        have HRr : Hid (Rd wr g r.1 r.2) := hrd
        have HMr : Hid (Mov g w wr) := hmv
        have HRE : Hid (rep rOut gk r = R3) := hrep
        clear hrd hmv hrep
        by_cases h0 : gk = 0
        · subst h0
          have hr3 : Hid (r = R3) := HRE.out
          rw [hr3.out] at HRr
          go_upto_region 15 with (go_at_call 87; go_must (refine (take_p g 4 R3 _ HRr.out).mono ?_); rintro x w5 ⟨rfl, hr, hm⟩; have HR5 := (show Hid (Rd w5 g (rTake 4 R3).2.1 (rTake 4 R3).2.2) from hr); have HM5 := (show Hid (Mov g wr w5) from hm); clear hr hm)
          have HTX : Hid (rTx (l, e) = (rTake 4 R3).2) := by show _ = _; rw [E3.out, E2.out, E1.out]; rfl
          have hle := rTx_le (l, e)
          rw [HTX.out] at hle
          generalize (rTake 4 R3).2 = f at HR5 hle HTX
          obtain ⟨m, c⟩ := f
          have hle' : m.length ≤ l.length := hle
          have d5 : w5.cell? ⟨g, 0, none⟩ = some (.string (ofL m)) := HR5.out.s
          have z1 := ofL_size l
          have z2 := ofL_size m
          obtain ⟨D, hD⟩ : ∃ D, D = l.length - m.length := ⟨_, rfl⟩
          have hDi : (l.length : Int) - (m.length : Int) = (D : Int) := by omega
          have hw64 : wrap64 (D : Int) = (D : Int) := by unfold wrap64; unfold maxLen at hl; omega
          have x1 : (ofL l).extract 0 D = ofL (l.take D) := by rw [ofL_extract]; simp
          have hDl : (D : Int) ≤ (l.length : Int) := by omega
          have HFIN : Hid (Mov g w w5) := HMr.out.trans HM5.out
          have HD : Hid (D = l.length - m.length) := hD
          clear hle hle' HMr HM5 HRr HRE hr3 hD
          go_wp2
          go_ret
          rw [HTX.out]
          refine ⟨?_, HR5.out, HFIN.out⟩
          show _ = Ending.returned (.string (ofL (l.take (l.length - m.length))))
          rw [← HD.out]; rfl
        · obtain ⟨k, rfl⟩ : ∃ k, gk = k + 1 := ⟨gk - 1, by omega⟩
          have hk : (0 : Int) < ((k + 1 : Nat) : Int) := by omega
          go_upto_region 13 with (go_at_call 87; go_must (refine (take_p g 8 r _ HRr.out).mono ?_); rintro x wa ⟨rfl, hr, hm⟩; have HRa := (show Hid (Rd wa g (rTake 8 r).2.1 (rTake 8 r).2.2) from hr); have HMa := (show Hid (Mov g wr wa) from hm); clear hr hm)
          obtain ⟨ra, EA⟩ : ∃ R, Hid (R = (rTake 8 r).2) := ⟨_, rfl⟩
          rw [← EA.out] at HRa
          go_upto_region 11 with (first | (go_at_call 88; go_must (refine (within_p g 0 40 ra _ HRa.out (by omega) (by omega)).mono ?_); rintro x wb ⟨rfl, hr, hm⟩; have HRb := (show Hid (Rd wb g (rWithin 0 40 ra).2.1 (rWithin 0 40 ra).2.2) from hr); have HMb := (show Hid (Mov g wa wb) from hm); clear hr hm) | (go_at_call 87; go_must (refine (take_p g (rWithin 0 40 ra).1 (rWithin 0 40 ra).2 _ HRb.out).mono ?_); rintro x wd ⟨rfl, hr, hm⟩; have HRd := (show Hid (Rd wd g (rTake (rWithin 0 40 ra).1 (rWithin 0 40 ra).2).2.1 (rTake (rWithin 0 40 ra).1 (rWithin 0 40 ra).2).2.2) from hr); have HMd := (show Hid (Mov g wb wd) from hm); clear hr hm))
          go_wp2
          go_roundg k
          case measure => omega
          case rel =>
            refine ⟨rOut r, by go_num, by omega, HRE.out, ?_, HMr.out.trans (HMa.out.trans (HMb.out.trans HMd.out))⟩
            have e : rOut r = rScript ra := by rw [EA.out]; rfl
            rw [e]; exact HRd.out
    · obtain ⟨k, rfl⟩ : ∃ k, gk = k + 1 := ⟨gk - 1, by omega⟩
      have hk : (0 : Int) < ((k + 1 : Nat) : Int) := by omega
      go_upto_region 7 with (go_at_call 87; go_must (refine (take_p g 36 r _ HRr.out).mono ?_); rintro x wa ⟨rfl, hr, hm⟩; have HRa := (show Hid (Rd wa g (rTake 36 r).2.1 (rTake 36 r).2.2) from hr); have HMa := (show Hid (Mov g wr wa) from hm); clear hr hm)
      obtain ⟨ra, EA⟩ : ∃ R, Hid (R = (rTake 36 r).2) := ⟨_, rfl⟩
      rw [← EA.out] at HRa
      obtain ⟨pb, EB⟩ : ∃ R, Hid (R = rWithin 0 40 ra) := ⟨_, rfl⟩
      go_upto_region 8 with (first | (go_at_call 88; go_must (refine (within_p g 0 40 ra _ HRa.out (by omega) (by omega)).mono ?_); rintro x wb ⟨rfl, hr, hm⟩; have HRb := (show Hid (Rd wb g (rWithin 0 40 ra).2.1 (rWithin 0 40 ra).2.2) from hr); have HMb := (show Hid (Mov g wa wb) from hm); clear hr hm) | (go_at_call 87; go_must (refine (take_p g (rWithin 0 40 ra).1 (rWithin 0 40 ra).2 _ HRb.out).mono ?_); rintro x wd ⟨rfl, hr, hm⟩; have HRd := (show Hid (Rd wd g (rTake (rWithin 0 40 ra).1 (rWithin 0 40 ra).2).2.1 (rTake (rWithin 0 40 ra).1 (rWithin 0 40 ra).2).2.2) from hr); have HMd := (show Hid (Mov g wb wd) from hm); clear hr hm))
      obtain ⟨rd, ED⟩ : ∃ R, Hid (R = rScript ra) := ⟨_, rfl⟩
      have HRd2 : Hid (Rd wd g rd.1 rd.2) := by rw [ED.out]; exact HRd.out
      go_upto_region 5 with (go_at_call 87; go_must (refine (take_p g 4 rd _ HRd2.out).mono ?_); rintro x wf ⟨rfl, hr, hm⟩; have HRf := (show Hid (Rd wf g (rTake 4 rd).2.1 (rTake 4 rd).2.2) from hr); have HMf := (show Hid (Mov g wd wf) from hm); clear hr hm)
      go_wp2
      go_roundg k
      case measure => omega
      case rel =>
        refine ⟨rIn r, by go_num, by omega, HRE.out, ?_, HMr.out.trans (HMa.out.trans (HMb.out.trans (HMd.out.trans HMf.out)))⟩
        have e : rIn r = (rTake 4 rd).2 := by rw [ED.out, EA.out]; rfl
        rw [e]; exact HRf.out
end Go.Proofs.YtkmalggeieiepaaGreatDoor
namespace Go.Proofs.YtkmalggeieiepaaGreatDoor
open Go.RowKit

/-- what is wrong with these bytes, as a transaction. -/
def txErr (l : List UInt8) : Int := (rDone (rTx (l, 0))).2
theorem Rd.new (w : World) (s : ByteArray) (T : Nat) : Rd (w.alloc (.cells #[.string s, .int .i64 0] T)) w.heap.size s.data.toList 0 := by
  refine ⟨?_, ?_, ?_, ?_⟩
  · rw [ofL_of]; simp [go_sem]
  · simp [go_sem]
  · simp [go_sem]
  · simp [go_sem]

set_option maxHeartbeats 1000000 in
theorem Tx_any (s : ByteArray) (w : World) (hl : s.size ≤ maxLen) :
    Calls Tryz.prog 37 #[.string s] w fun x w' => x = .returned (.int .i64 (txErr s.data.toList)) ∧ Below w.heap.size w w' := by
  obtain ⟨W0, hW0⟩ : ∃ W, W = w.alloc (.cells #[.string s, .int .i64 0] 130) := ⟨_, rfl⟩
  have HR0 : Hid (Rd W0 w.heap.size s.data.toList 0) := by show Rd _ _ _ _; rw [hW0]; exact Rd.new w s _
  have HT : Hid (Calls Tryz.prog 66 #[.pointer (some ⟨w.heap.size, 0, none⟩)] W0 fun x w' => x = .returned (.string (ofL (s.data.toList.take (s.data.toList.length - (rTx (s.data.toList, 0)).1.length)))) ∧ Rd w' w.heap.size (rTx (s.data.toList, 0)).1 (rTx (s.data.toList, 0)).2 ∧ Mov w.heap.size W0 w') := tx_any w.heap.size s.data.toList 0 W0 HR0.out hl
  have HB0 : Hid (Below w.heap.size w W0) := by show Below _ _ _; rw [hW0]; exact (Below.refl _ _).alloc (Nat.le_refl _) _
  have HE : Hid (txErr s.data.toList = (rDone (rTx (s.data.toList, 0))).2) := rfl
  generalize ofL (s.data.toList.take (s.data.toList.length - (rTx (s.data.toList, 0)).1.length)) = t0 at HT
  generalize rTx (s.data.toList, 0) = p at HT HE
  obtain ⟨m, c⟩ := p
  go_enter Tryz.func37, Tryz.ntmps37
  go_upto_region 2 with fail
  rw [← hW0]
  clear hW0
  go_upto_region 3 with (go_at_call 66; go_must (refine HT.out.mono ?_); rintro x w1 ⟨rfl, hr1, hm1⟩; have HR1 := (show Hid (Rd w1 w.heap.size m c) from hr1); have HM1 := (show Hid (Mov w.heap.size W0 w1) from hm1); clear hr1 hm1)
  go_wp2_with (go_at_call 67; go_must (refine (done_any w.heap.size m c _ HR1.out).mono ?_); rintro x w2 ⟨rfl, hr2, hm2⟩; have HM2 := (show Hid (Mov w.heap.size w1 w2) from hm2); clear hr2 hm2)
  go_ret
  refine ⟨by rw [HE.out]; rfl, HB0.out.trans ?_⟩
  exact (HM1.out.trans HM2.out).below (Nat.le_refl _) HB0.out.size
end Go.Proofs.YtkmalggeieiepaaGreatDoor
namespace Go.Proofs.YtkmalggeieiepaaGreatDoor
open Go.RowKit

/-- what ends well has begun well, and has eaten no more than so many bytes. -/
def Eats (n : Nat) (f : List UInt8 × Int → List UInt8 × Int) : Prop := ∀ r, (f r).2 = 0 → r.2 = 0 ∧ r.1.length ≤ (f r).1.length + n
theorem Eats.mono {n m : Nat} {f : List UInt8 × Int → List UInt8 × Int} (h : Eats n f) (hm : n ≤ m) : Eats m f := fun r hr => ⟨(h r hr).1, by have := (h r hr).2; omega⟩
theorem Eats.comp {n m : Nat} {f g : List UInt8 × Int → List UInt8 × Int} (hf : Eats n f) (hg : Eats m g) : Eats (n + m) (fun r => g (f r)) := fun r hr => by
  obtain ⟨h1, h2⟩ := hg (f r) hr
  obtain ⟨h3, h4⟩ := hf r h1
  exact ⟨h3, by show r.1.length ≤ (g (f r)).1.length + _; omega⟩
theorem eats_take (n : Nat) : Eats n (fun r => (rTake n r).2) := by
  intro r hr
  unfold rTake at hr ⊢
  by_cases h : r.2 = 0
  · simp only [h, ne_eq, not_true_eq_false, if_false] at hr ⊢
    by_cases h2 : r.1.length < n
    · simp [h2] at hr
    · simp only [h2, if_false] at hr ⊢
      refine ⟨trivial, ?_⟩
      simp; omega
  · simp [h] at hr
theorem eats_size : Eats 9 (fun r => (rSize r).2) := by
  rintro ⟨l, e⟩ hr
  unfold rSize at hr ⊢
  by_cases h : e = 0
  · simp only [h, ne_eq, not_true_eq_false, if_false] at hr ⊢
    cases l with
    | nil => simp at hr
    | cons c l =>
      have hm : manyOf c ≤ 8 := by unfold manyOf; split; · omega
                                   split; · omega
                                   split <;> omega
      by_cases h1 : manyOf c = 0
      · simp only [h1, if_true] at hr ⊢
        exact ⟨trivial, by simp⟩
      · simp only [h1, if_false] at hr ⊢
        by_cases h2 : l.length < manyOf c
        · simp [h2] at hr
        · simp only [h2, if_false] at hr ⊢
          refine ⟨trivial, ?_⟩
          simp; omega
  · simp [h] at hr
theorem eats_within (lo hi : Nat) : Eats 9 (fun r => (rWithin lo hi r).2) := by
  intro r hr
  have hs := eats_size r
  unfold rWithin at hr ⊢
  by_cases h : (rSize r).2.2 = 0
  · simp only [h, ne_eq, not_true_eq_false, if_false] at hr ⊢
    by_cases h2 : (rSize r).1 < lo ∨ hi < (rSize r).1
    · simp [h2] at hr
    · simp only [h2, if_false] at hr ⊢
      exact hs h
  · simp [h] at hr
theorem eats_script : Eats 49 rScript := by
  intro r hr
  have h0 := rWithin_hi 0 40 r
  obtain ⟨h1, h2⟩ := eats_take (rWithin 0 40 r).1 (rWithin 0 40 r).2 hr
  obtain ⟨h3, h4⟩ := eats_within 0 40 r h1
  refine ⟨h3, ?_⟩
  show r.1.length ≤ (rTake (rWithin 0 40 r).1 (rWithin 0 40 r).2).2.1.length + 49
  have h2' : (rWithin 0 40 r).2.1.length ≤ (rTake (rWithin 0 40 r).1 (rWithin 0 40 r).2).2.1.length + (rWithin 0 40 r).1 := h2
  have h4' : r.1.length ≤ (rWithin 0 40 r).2.1.length + 9 := h4
  omega
theorem eats_in : Eats 89 rIn := ((eats_take 36).comp eats_script).comp (eats_take 4)
theorem eats_out : Eats 57 rOut := (eats_take 8).comp eats_script
theorem eats_rep {n : Nat} {f : List UInt8 × Int → List UInt8 × Int} (hf : Eats n f) : ∀ k, Eats (k * n) (rep f k)
  | 0 => fun r hr => ⟨hr, by show r.1.length ≤ r.1.length + _; omega⟩
  | k + 1 => by
    have h := hf.comp (eats_rep hf k)
    exact h.mono (by rw [Nat.succ_mul]; omega)
theorem eats_reps {n : Nat} {f : List UInt8 × Int → List UInt8 × Int} (hf : Eats n f) : Eats (9 + 4 * n) (fun r => rep f (rWithin 1 4 r).1 (rWithin 1 4 r).2) := by
  intro r hr
  have h0 := rWithin_hi 1 4 r
  obtain ⟨h1, h2⟩ := eats_rep hf (rWithin 1 4 r).1 (rWithin 1 4 r).2 hr
  obtain ⟨h3, h4⟩ := eats_within 1 4 r h1
  refine ⟨h3, ?_⟩
  have h4' : r.1.length ≤ (rWithin 1 4 r).2.1.length + 9 := h4
  have h5 : (rWithin 1 4 r).1 * n ≤ 4 * n := Nat.mul_le_mul_right n h0
  show r.1.length ≤ (rep f (rWithin 1 4 r).1 (rWithin 1 4 r).2).1.length + (9 + 4 * n)
  omega
theorem eats_tx : Eats 610 rTx := (((eats_take 4).comp (eats_reps eats_in)).comp (eats_reps eats_out)).comp (eats_take 4) |>.mono (by omega)
/-- a transaction is not long. -/
theorem txErr_len (l : List UInt8) (h : txErr l = 0) : l.length ≤ 610 := by
  unfold txErr rDone at h
  by_cases h1 : (rTx (l, 0)).2 = 0 ∧ (rTx (l, 0)).1 ≠ []
  · rw [if_pos h1] at h; cases h
  · rw [if_neg h1] at h
    obtain ⟨_, h2⟩ := eats_tx (l, 0) h
    have h3 : (rTx (l, 0)).1 = [] := by
      rcases Decidable.em ((rTx (l, 0)).1 = []) with e | e
      · exact e
      · exact absurd ⟨h, e⟩ h1
    rw [h3] at h2
    simpa using h2
end Go.Proofs.YtkmalggeieiepaaGreatDoor
