import Derived.Test.YtkmalggeieiepabDoorPyc
import Derived.Maps.RangeWalk
import Derived.Maps.OwnSet
import Derived.DeepKeys4
import Derived.WalkKit
import Derived.WalkSpells
import Derived.WalkLawsBesides
import Derived.Lib.Strings
import Derived.Lib.Walk
import Derived.Lib.BufferWrite
import Derived.Lib.UnsafeStr
import Derived.Laws.MakeOwn
import Derived.Maps.Range
import Derived.Test.YtkmalggeieiepabDoorPyd
import Derived.Deep.DeepCutAuto
import Derived.Deep.QuietTactic
import Derived.BigQuiet
import Derived.Deep.RegionWith
import Derived.Deep.LoopGhost
namespace Go.Proofs.YtkmalggeieiepabDoor
open Go.RowKit Go.WideMaps

set_option maxRecDepth 10000
theorem kLaidOut : laidOutB Tryd.prog = true := by kernel_rfl
theorem kRow : (59 : TypeId) < Tryd.prog.types.size := of_decide_eq_true (by kernel_rfl)
theorem kWide : (match Tryd.prog.underlying 59 with | some (.array _ _) | some (.struct _) => true | _ => false) = true := by rw [Tryd.underlying59]
theorem kLaw : Go.Maps.Keyed Tryd.prog 59 := Go.Maps.Keyed.of_law (deep_law_laid kLaidOut (m := 2) (by omega) kRow (by kernel_rfl) kWide)
theorem kType : Tryd.prog.keyType 59 = true := by kernel_rfl
theorem kCells : Tryd.prog.cellsOf 59 = 32 := by kernel_rfl
theorem kCell : Tryd.prog.cellsOf 5 = 1 := by kernel_rfl

theorem mapM_some {α β : Type} (f : α → Option β) (g : α → β) : ∀ l : List α, (∀ x ∈ l, f x = some (g x)) → l.mapM f = some (l.map g)
  | [], _ => rfl
  | a :: l, h => by
    rw [List.mapM_cons, h a (by simp), mapM_some f g l (fun x hx => h x (by simp [hx]))]; rfl
theorem mapM_each {α β : Type} (f : α → Option β) : ∀ (l : List α) (r : List β), l.mapM f = some r → ∀ x ∈ l, ∃ y, f x = some y
  | [], _, _, x, hx => by simp at hx
  | a :: l, r, h, x, hx => by
    rw [List.mapM_cons] at h
    cases ha : f a with
    | none => rw [ha] at h; cases h
    | some b =>
      rcases List.mem_cons.1 hx with rfl | hx
      · exact ⟨b, ha⟩
      · rw [ha] at h
        cases hl : l.mapM f with
        | none => simp [hl] at h
        | some r' => exact mapM_each f l r' hl x hx

theorem keyOf_dig (v : Value) : keyOf Tryd.prog 59 v = if v.formed Tryd.prog 59 then (Tryd.prog.keyLits (Tryd.prog.types.size + 1) 59 v.cells.toList).map fun ls => .string (keyBytes ls) else none := by
  unfold keyOf
  rw [Tryd.underlying59, kType]
  simp
theorem formed_agg (cs : Array Value) : (Value.agg cs).formed Tryd.prog 59 = (cs.size == 32) := by
  simp [Value.formed, Tryd.underlying59, kCells]
theorem keyLits_dig (d : Nat) (cs : List Value) : Tryd.prog.keyLits (d + 1) 59 cs = if cs.length = 32 then ((List.range 32).mapM fun i => Tryd.prog.keyLits d 5 ((cs.drop (i * 1)).take 1)).map List.flatten else none := by
  rw [Program.keyLits.eq_def]
  simp only [Tryd.underlying59, kCells, kCell]
theorem keyLits_byte (d : Nat) (cs : List Value) : Tryd.prog.keyLits (d + 1) 5 cs = match cs with | [.int q n] => if q = .u8 ∧ (Lit.int .u8 n).wf = true then some [.int .u8 n] else none | _ => none := by
  rw [Program.keyLits.eq_def]
  simp only [Tryd.underlying5]
  rcases cs with _ | ⟨u, _ | ⟨u2, cs⟩⟩
  · rfl
  · cases u <;> rfl
  · cases u <;> rfl
theorem bytes_wf (x : UInt8) : (Lit.int .u8 (x.toNat : Int)).wf = true := by
  have := x.toNat_lt
  have e1 : IntKind.u8.min = 0 := by decide
  have e2 : IntKind.u8.max = 255 := by decide
  simp [Lit.wf, e1, e2]; omega

/-- a digest as a key. -/
noncomputable def kd (d : ByteArray) : Lit := (keyOf Tryd.prog 59 (aggD d)).getD (.bool false)
theorem kd_of (d : ByteArray) (h : d.size = 32) : keyOf Tryd.prog 59 (aggD d) = some (kd d) := by
  have hn : ∃ n, Tryd.prog.types.size = n + 1 := ⟨Tryd.prog.types.size - 1, (Nat.sub_add_cancel (Nat.lt_of_le_of_lt (Nat.zero_le _) kRow)).symm⟩
  obtain ⟨n, hn⟩ := hn
  have hs : ∃ l, keyOf Tryd.prog 59 (aggD d) = some l := by
    have hl : (bc d).length = 32 := by rw [bc_length, h]
    have hm : ((List.range 32).mapM fun i => Tryd.prog.keyLits (n + 1) 5 (((bc d).drop (i * 1)).take 1)) = some ((List.range 32).map fun i => [Lit.int .u8 ((d.data.toList.getD i 0).toNat : Int)]) := by
      refine mapM_some _ (fun i => [Lit.int .u8 ((d.data.toList.getD i 0).toNat : Int)]) _ (fun i hi => ?_)
      have hi2 : i < 32 := by simpa using hi
      have hi3 : i < d.data.toList.length := by rw [lsz, h]; exact hi2
      have e : ((bc d).drop (i * 1)).take 1 = [Value.int .u8 ((d.data.toList.getD i 0).toNat : Int)] := by
        rw [Nat.mul_one, List.drop_eq_getElem_cons (by omega)]
        have hi4 : i < d.data.size := hi3
        simp [bc]
        rw [Array.getElem?_eq_getElem hi4]; rfl
      rw [keyLits_byte, e]
      simp only [true_and]
      rw [if_pos (bytes_wf _)]
    rw [keyOf_dig, aggD, formed_agg, hn]
    refine ⟨Lit.string (keyBytes ((List.range 32).map fun i => [Lit.int .u8 ((d.data.toList.getD i 0).toNat : Int)]).flatten), ?_⟩
    rw [if_pos (by simp [hl])]
    show Option.map _ (Tryd.prog.keyLits (n + 1 + 1) 59 (bc d).toArray.toList) = _
    rw [keyLits_dig, if_pos (by simpa using hl)]
    rw [List.toList_toArray, hm]
    rfl
  obtain ⟨l, hl⟩ := hs
  unfold kd
  rw [hl]; rfl
theorem map_inj {α β : Type} (f : α → β) (hf : ∀ x y, f x = f y → x = y) : ∀ a b : List α, a.map f = b.map f → a = b
  | [], [], _ => rfl
  | [], _ :: _, h => by simp at h
  | _ :: _, [], h => by simp at h
  | x :: a, y :: b, h => by
    simp only [List.map_cons, List.cons.injEq] at h
    rw [hf x y h.1, map_inj f hf a b h.2]
theorem aggD_inj {a b : ByteArray} (h : aggD a = aggD b) : a = b := by
  unfold aggD at h
  injection h with h
  have h2 : bc a = bc b := by simpa using congrArg Array.toList h
  unfold bc at h2
  have h3 : a.data.toList = b.data.toList := map_inj _ (fun x y hxy => by
    simp only [Value.int.injEq, true_and] at hxy
    exact UInt8.toNat_inj.1 (by omega)) _ _ h2
  apply ByteArray.ext
  exact Array.ext' h3
theorem kd_inj {a b : ByteArray} (ha : a.size = 32) (hb : b.size = 32) (h : kd a = kd b) : a = b :=
  aggD_inj (kLaw.inj (kd_of a ha) (h ▸ kd_of b hb))
theorem kd_key {a : ByteArray} (ha : a.size = 32) : WideAt.IsKeyLit (kd a) := kLaw.key (kd_of a ha)
def byteAt (cs : List Value) (i : Nat) : UInt8 := match cs[i]? with
  | some (Value.int _ z) => UInt8.ofNat z.toNat
  | _ => 0
/-- what reads as a key is a digest. -/
theorem key_inv {v : Value} {l : Lit} (h : keyOf Tryd.prog 59 v = some l) : ∃ d : ByteArray, d.size = 32 ∧ v = aggD d ∧ l = kd d := by
  have hn : ∃ n, Tryd.prog.types.size = n + 1 := ⟨Tryd.prog.types.size - 1, (Nat.sub_add_cancel (Nat.lt_of_le_of_lt (Nat.zero_le _) kRow)).symm⟩
  obtain ⟨n, hn⟩ := hn
  have h0 := h
  rw [keyOf_dig] at h
  by_cases hf : v.formed Tryd.prog 59 = true
  · rw [if_pos hf] at h
    obtain ⟨cs, rfl⟩ : ∃ cs, v = .agg cs := by
      cases v <;> simp [Value.formed, Tryd.underlying59] at hf
      exact ⟨_, rfl⟩
    rw [formed_agg] at hf
    have hl : cs.size = 32 := by simpa using hf
    rw [hn] at h
    have h' : Option.map (fun ls => Lit.string (keyBytes ls)) (Tryd.prog.keyLits (n + 1 + 1) 59 cs.toList) = some l := h
    rw [keyLits_dig, if_pos (by simpa using hl)] at h'
    cases hm : ((List.range 32).mapM fun i => Tryd.prog.keyLits (n + 1) 5 ((cs.toList.drop (i * 1)).take 1)) with
    | none => rw [hm] at h'; cases h'
    | some r =>
      have hc : ∀ i, (hi : i < 32) → ∃ x : UInt8, cs.toList[i]'(by simpa [hl] using hi) = .int .u8 (x.toNat : Int) := by
        intro i hi
        obtain ⟨y, hy⟩ := mapM_each _ _ _ hm i (by simpa using hi)
        have hi3 : i < cs.toList.length := by simpa [hl] using hi
        rw [keyLits_byte, Nat.mul_one, List.drop_eq_getElem_cons hi3] at hy
        simp only [List.take_succ_cons, List.take_zero] at hy
        generalize cs.toList[i] = u at hy ⊢
        cases u with
        | int q z =>
          simp only at hy
          by_cases hq : q = .u8 ∧ (Lit.int .u8 z).wf = true
          · obtain ⟨rfl, hw⟩ := hq
            have e1 : IntKind.u8.min = 0 := by decide
            have e2 : IntKind.u8.max = 255 := by decide
            simp [Lit.wf, e1, e2] at hw
            refine ⟨UInt8.ofNat z.toNat, ?_⟩
            simp; omega
          · rw [if_neg hq] at hy; cases hy
        | _ => simp at hy
      refine ⟨⟨((List.range 32).map fun i => byteAt cs.toList i).toArray⟩, by simp [ByteArray.size], ?_, ?_⟩
      · unfold aggD
        congr 1
        apply Array.ext'
        rw [List.toList_toArray]
        apply List.ext_getElem
        · simp [bc, hl]
        · intro i h1 h2
          have hi : i < 32 := by simpa [hl] using h1
          obtain ⟨x, hx⟩ := hc i hi
          have hi3 : i < cs.toList.length := by simpa [hl] using hi
          simp only [bc, List.getElem_map, List.getElem_range, hx, byteAt, List.getElem?_eq_getElem hi3]
          simp
      · have e : aggD (⟨((List.range 32).map fun i => byteAt cs.toList i).toArray⟩ : ByteArray) = .agg cs := by
          unfold aggD
          congr 1
          apply Array.ext'
          rw [List.toList_toArray]
          apply List.ext_getElem
          · simp [bc, hl]
          · intro i h1 h2
            have hi : i < 32 := by simpa [hl] using h2
            obtain ⟨x, hx⟩ := hc i hi
            have hi3 : i < cs.toList.length := by simpa [hl] using hi
            simp only [bc, List.getElem_map, List.getElem_range, hx, byteAt, List.getElem?_eq_getElem hi3]
            simp
        unfold kd
        rw [e, h0]; rfl
  · rw [if_neg hf] at h; cases h
end Go.Proofs.YtkmalggeieiepabDoor
namespace Go.Proofs.YtkmalggeieiepabDoor
open Go.RowKit

theorem infoU8 : (Tryd.prog.info? 5).map (fun i => (i.zero, i.size, i.bytes)) = some (some (.int .u8 0), 1, 1) := by kernel_rfl

set_option maxHeartbeats 4000000 in
set_option maxRecDepth 100000 in
theorem sclone_any (s : ByteArray) (w : World) (hlim : s.size ≤ 281474976710656) :
    Calls Tryd.prog 53 #[.string s] w fun e w' => e = .returned (.string s) ∧ Below w.heap.size w w' := by
  by_cases h0 : s.size = 0
  · have hs : s = ⟨#[]⟩ := by
      apply ByteArray.ext
      exact Array.eq_empty_of_size_eq_zero h0
    subst hs
    go_enter Tryd.func53, Tryd.ntmps53
    go_wp2
    go_ret
    exact ⟨rfl, Below.refl _ _⟩
  · obtain ⟨i0, hi, hz0, hz1, hz2⟩ := info_parts infoU8
    have hinfo : (Tryd.prog.info? 5).map (·.size) = some 1 := by rw [hi]; simp [hz1]
    have hco : Tryd.prog.cellsOf 5 = 1 := kCell
    obtain ⟨M, hM⟩ : ∃ M, M = madeCells (Value.int .u8 0).cells (((s.size : Nat) : Int).toNat * i0.size) := ⟨_, rfl⟩
    have hMs : M.size = s.size := by rw [hM, size_madeCells, hz1]; simp
    have hmk : ∀ W : World, (Instr.makeSlice 23 (.int .i64 (s.size : Int)) (.int .i64 (s.size : Int))).run Tryd.prog W = .ok (.slice (some ⟨W.heap.size, 0, none⟩) s.size s.size) (W.alloc (.cells M 5)) := fun W => by
      have h := run_make (P := Tryd.prog) W 23 5 i0 (.int .u8 0) Tryd.underlying23 hi hz0 .i64 .i64 (s.size : Int) (s.size : Int) (by omega) (by omega) (by rw [hz2]; omega) (by omega)
      rw [← hM] at h
      simpa using h
    clear hM
    have hcp := Lib.run_copy_row_string (P := Tryd.prog) (w.alloc (.cells M 5)) 23 9 3 5 w.heap.size 0 s.size s.size s M 5 Tryd.underlying23 hinfo (heap_alloc_new w _) (Nat.le_refl _) (by omega)
    obtain ⟨Y, hY⟩ : ∃ Y, Y = (M.toList.take 0 ++ Lib.byteCells s.data.toList ++ M.toList.drop (0 + s.size)).toArray := ⟨_, rfl⟩
    rw [← hY] at hcp
    have hYl : Y.toList = Lib.byteCells s.data.toList := by
      rw [hY, List.toList_toArray, List.take_zero, List.nil_append, List.drop_of_length_le (by rw [Array.length_toList]; omega), List.append_nil]
    have hYs : Y.size = s.size := by rw [← Array.length_toList, hYl, Lib.byteCells_length, ← Lib.size_eq]
    have hgY : ((w.alloc (.cells M 5)).setRow w.heap.size Y).heap[w.heap.size]? = some (.cells Y 5 (0, 0)) := setRow_heap _ _ M _ 5 (0, 0) (heap_alloc_new w _)
    have hne : s.data.toList ≠ [] := fun e => h0 (by rw [Lib.size_eq, e]; rfl)
    have hUS := Lib.run_unsafeString_row (P := Tryd.prog) ((w.alloc (.cells M 5)).setRow w.heap.size Y) 141 3 9 5 Tryd.underlying141 hco w.heap.size Y.size (by unfold World.shape?; rw [hgY]) s.data.toList hne (by rw [← Lib.size_eq]; omega) (by rw [← Lib.size_eq]; omega)
      (fun j x hx => Lib.cells_of_row hgY Y.size j _ (by rw [List.take_of_length_le (by rw [Array.length_toList]; exact Nat.le_refl _), hYl]; simp [Lib.byteCells, hx]))
    rw [← Lib.size_eq] at hUS
    clear hY
    go_enter Tryd.func53, Tryd.ntmps53
    go_wp2
    go_ret
    have hb1 : Below w.heap.size w (w.alloc (.cells M 5)) := (Below.refl _ w).alloc (Nat.le_refl _) _
    have hb2 : Below w.heap.size (w.alloc (.cells M 5)) ((w.alloc (.cells M 5)).setRow w.heap.size Y) := ⟨rfl, rfl, rfl, by simp, fun k hk => setRow_other _ _ _ _ (by omega)⟩
    exact ⟨rfl, Lib.below_freeze (hb1.trans hb2) (p := ⟨w.heap.size, 0, none⟩) (Nat.le_refl _) _⟩

theorem clone_any (s : ByteArray) (w : World) (hlim : s.size ≤ 281474976710656) :
    Calls Tryd.prog 28 #[.string s] w fun e w' => e = .returned (.string s) ∧ Below w.heap.size w w' := by
  have h1 := sclone_any s w hlim
  go_enter Tryd.func28, Tryd.ntmps28
  go_wp2_with (go_at_call 53; go_must (refine h1.mono ?_); rintro x w1 ⟨rfl, hb1⟩)
  go_ret
  exact ⟨rfl, hb1⟩
end Go.Proofs.YtkmalggeieiepabDoor
namespace Go.Proofs.YtkmalggeieiepabDoor
open Go.RowKit Go.MapKept
open Go.Maps (Keyed)
set_option maxRecDepth 10000

/-- is it among them? -/
def mem (d : ByteArray) (l : List ByteArray) : Bool := l.any fun e => e.data.toList == d.data.toList
def del (d : ByteArray) (l : List ByteArray) : List ByteArray := l.filter fun e => !(e.data.toList == d.data.toList)
theorem ba_eq {a b : ByteArray} (h : a.data.toList = b.data.toList) : a = b := ByteArray.ext (Array.ext' h)
theorem ba_beq (a b : ByteArray) : (a.data.toList == b.data.toList) = true ↔ a = b := ⟨fun h => ba_eq (by simpa using h), fun h => by rw [h]; simp⟩
theorem mem_iff (d : ByteArray) (l : List ByteArray) : mem d l = true ↔ d ∈ l := by
  unfold mem
  rw [List.any_eq_true]
  exact ⟨fun ⟨x, hx, h⟩ => by rw [← (ba_beq x d).1 h]; exact hx, fun h => ⟨d, h, (ba_beq d d).2 rfl⟩⟩
theorem mem_del (e d : ByteArray) (l : List ByteArray) : e ∈ del d l ↔ e ∈ l ∧ e ≠ d := by
  unfold del
  rw [List.mem_filter]
  constructor
  · rintro ⟨h1, h2⟩; exact ⟨h1, fun h => by rw [(ba_beq e d).2 h] at h2; cases h2⟩
  · rintro ⟨h1, h2⟩; refine ⟨h1, ?_⟩; cases hx : (e.data.toList == d.data.toList)
    · rfl
    · exact absurd ((ba_beq e d).1 hx) h2
theorem del_out {d : ByteArray} {l : List ByteArray} (h : d ∉ l) : del d l = l := by
  unfold del
  rw [List.filter_eq_self]
  intro e he
  cases hx : (e.data.toList == d.data.toList)
  · rfl
  · exact absurd ((ba_beq e d).1 hx ▸ he) h
theorem del_len : ∀ {l : List ByteArray}, l.Nodup → ∀ {d : ByteArray}, d ∈ l → (del d l).length + 1 = l.length
  | [], _, _, h => by simp at h
  | x :: l, hn, d, h => by
    obtain ⟨h1, h2⟩ := List.nodup_cons.1 hn
    by_cases hx : x = d
    · subst hx
      have e : del x (x :: l) = del x l := by unfold del; rw [List.filter_cons_of_neg]; rw [(ba_beq x x).2 rfl]; simp
      rw [e, del_out h1]; rfl
    · have e : del d (x :: l) = x :: del d l := by
        unfold del; rw [List.filter_cons_of_pos]
        cases hy : (x.data.toList == d.data.toList)
        · rfl
        · exact absurd ((ba_beq x d).1 hy) hx
      rcases List.mem_cons.1 h with h | h
      · exact absurd h.symm hx
      · rw [e, List.length_cons, List.length_cons, del_len h2 h]

/-- what a pool's map holds at a digest, in memory. -/
def pEl (p : ByteArray × ByteArray) : Value := .agg (bc p.1 ++ [Value.string p.2]).toArray
open Classical in
noncomputable def RP (v : Value) : Option (DataW Unit × List MemPlace) := if ∃ p : ByteArray × ByteArray, p.1.size = 32 ∧ v = pEl p then some (.lit (.bool true), []) else none
theorem RP_mk (p : ByteArray × ByteArray) (h : p.1.size = 32) : RP (pEl p) = some (.lit (.bool true), []) := by
  unfold RP; rw [if_pos ⟨p, h, rfl⟩]
theorem RP_inv {v : Value} {y : DataW Unit × List MemPlace} (h : RP v = some y) : ∃ p : ByteArray × ByteArray, p.1.size = 32 ∧ v = pEl p ∧ y = (.lit (.bool true), []) := by
  unfold RP at h
  by_cases hp : ∃ p : ByteArray × ByteArray, p.1.size = 32 ∧ v = pEl p
  · rw [if_pos hp] at h
    obtain ⟨p, h1, h2⟩ := hp
    injection h with h
    exact ⟨p, h1, h2, h.symm⟩
  · rw [if_neg hp] at h; cases h
def zeros : ByteArray := ⟨Array.replicate 32 0⟩
theorem zeros_size : zeros.size = 32 := by simp [zeros, ByteArray.size]
theorem zeroEl (w : World) : (zeroValue 67).run Tryd.prog w = .ok (pEl (zeros, ⟨#[]⟩)) w := by kernel_rfl

/-- as it was but for a receiver's block, its map's block, and new ones. -/
structure Only (gx : Nat) (mb : Option Nat) (w w' : World) : Prop where
  os : w'.os = w.os
  tape : w'.tape = w.tape
  output : w'.output = w.output
  size : w.heap.size ≤ w'.heap.size
  block : ∀ k, k < w.heap.size → k ≠ gx → some k ≠ mb → w'.heap[k]? = w.heap[k]?
theorem Only.of_below {gx : Nat} {mb : Option Nat} {w w' : World} (h : Below w.heap.size w w') : Only gx mb w w' := ⟨h.os, h.tape, h.output, h.size, fun k hk _ _ => h.block k hk⟩
theorem Only.after {gx : Nat} {mb : Option Nat} {w a b : World} (h : Only gx mb w a) (k : Below w.heap.size a b) : Only gx mb w b :=
  ⟨k.os.trans h.os, k.tape.trans h.tape, k.output.trans h.output, Nat.le_trans h.size k.size, fun i hi h1 h2 => (k.block i hi).trans (h.block i hi h1 h2)⟩
theorem Only.turned {gx b : Nat} {mb : Option Nat} {w a c : World} (h : Only gx mb w a) (k : a.grownBy c (some b)) (hb : mb = some b ∨ w.heap.size ≤ b) : Only gx mb w c :=
  ⟨k.os.trans h.os, k.tape.trans h.tape, k.output.trans h.output, Nat.le_trans h.size k.size, fun i hi h1 h2 => (k.block i (Nat.lt_of_lt_of_le hi h.size) (fun e => by
    injection e with e
    rcases hb with hb | hb
    · exact h2 (by rw [hb, e])
    · omega)).trans (h.block i hi h1 h2)⟩
theorem Only.set {gx : Nat} {mb : Option Nat} {w a : World} (h : Only gx mb w a) (i : Nat) (u : Value) : Only gx mb w (a.setCell ⟨gx, i, none⟩ u) :=
  ⟨h.os, h.tape, h.output, by simpa using h.size, fun k hk h1 h2 => (Below.heap_setCell a ⟨gx, i, none⟩ u k h1).trans (h.block k hk h1 h2)⟩

/-- the map reads as these digests. -/
structure Rel (D : DataW Unit) (l : List ByteArray) : Prop where
  has : ∀ d : ByteArray, d.size = 32 → (Maps.has D (kd d) = true ↔ d ∈ l)
  size : Maps.size D = l.length
  all : ∀ d ∈ l, d.size = 32
  nodup : l.Nodup
theorem Rel.perm {D : DataW Unit} {l l' : List ByteArray} (h : Rel D l) (p : l.Perm l') : Rel D l' :=
  ⟨fun d hd => (h.has d hd).trans p.mem_iff, h.size.trans p.length_eq, fun d hd => h.all d (p.mem_iff.2 hd), p.nodup_iff.1 h.nodup⟩
/-- a pool: the receiver's block, its map's, the digests of what is in it. -/
structure PoolAt (w : World) (gx : Nat) (mb : Option Nat) (l : List ByteArray) : Prop where
  c : w.cell? ⟨gx, 0, none⟩ = some (.map mb)
  f : w.frozen? ⟨gx, 0, none⟩ = false
  m : (mb = none ∧ l = []) ∨ ∃ b D, mb = some b ∧ w.ownsMap Tryd.prog 59 RP b l.length D ∧ Rel D l
theorem PoolAt.lt {w : World} {gx : Nat} {mb : Option Nat} {l : List ByteArray} (h : PoolAt w gx mb l) : gx < w.heap.size := World.block_lt_of_cell? w _ h.c
theorem PoolAt.perm {w : World} {gx : Nat} {mb : Option Nat} {l l' : List ByteArray} (h : PoolAt w gx mb l) (p : l.Perm l') : PoolAt w gx mb l' :=
  ⟨h.c, h.f, h.m.imp (fun ⟨h1, h2⟩ => ⟨h1, by subst h2; exact p.nil_eq.symm⟩) (fun ⟨b, D, h1, h2, h3⟩ => ⟨b, D, h1, p.length_eq ▸ h2, h3.perm p⟩)⟩
theorem PoolAt.nodup {w : World} {gx : Nat} {mb : Option Nat} {l : List ByteArray} (h : PoolAt w gx mb l) : l.Nodup := by
  rcases h.m with ⟨_, h2⟩ | ⟨_, _, _, _, h3⟩
  · subst h2; exact List.nodup_nil
  · exact h3.nodup
theorem PoolAt.all {w : World} {gx : Nat} {mb : Option Nat} {l : List ByteArray} (h : PoolAt w gx mb l) : ∀ d ∈ l, d.size = 32 := by
  rcases h.m with ⟨_, h2⟩ | ⟨_, _, _, _, h3⟩
  · subst h2; simp
  · exact h3.all
theorem PoolAt.bsome {w : World} {gx : Nat} {mb : Option Nat} {l : List ByteArray} (h : PoolAt w gx mb l) : ∀ b, mb = some b → b < w.heap.size ∧ b ≠ gx := by
  rintro b rfl
  rcases h.m with ⟨h1, _⟩ | ⟨b', D, h1, h2, _⟩
  · cases h1
  · injection h1 with h1
    subst h1
    refine ⟨h2.lt, fun e => ?_⟩
    obtain ⟨es, clock, hb, _⟩ := h2
    have hc := h.c
    subst e
    simp [World.cell?, hb] at hc
/-- it stays while its blocks stay. -/
theorem PoolAt.stay {w w' : World} {gx : Nat} {mb : Option Nat} {l : List ByteArray} (h : PoolAt w gx mb l) (hg : w'.heap[gx]? = w.heap[gx]?) (hm : ∀ b, mb = some b → w'.heap[b]? = w.heap[b]?) : PoolAt w' gx mb l := by
  refine ⟨by rw [World.cell?_of_block hg]; exact h.c, by rw [World.frozen?_of_block hg]; exact h.f, h.m.imp id ?_⟩
  rintro ⟨b, D, h1, ⟨es, clock, hb, r⟩, h3⟩
  exact ⟨b, D, h1, ⟨es, clock, (hm b h1).trans hb, r⟩, h3⟩
theorem PoolAt.later {w w' : World} {gx : Nat} {mb : Option Nat} {l : List ByteArray} (h : PoolAt w gx mb l) (hb : Below w.heap.size w w') : PoolAt w' gx mb l :=
  h.stay (hb.block _ h.lt) (fun b e => hb.block _ (h.bsome b e).1)

theorem under51 : Tryd.prog.underlying 36 = some (.map 59 67) := Tryd.underlying36
theorem own_tight {w : World} {P : Program} {k : TypeId} {R : Value → Option (DataW Unit × List MemPlace)} {b n : Nat} {D : DataW Unit} (h : w.ownsMap P k R b n D) : w.ownsMap P k R b (Maps.size D) D := by
  obtain ⟨es, clock, hb, F, _, rfl⟩ := h
  exact ⟨es, clock, hb, F, by simp [Maps.size, length_sorted], rfl⟩

/-- 'v, ok := m[d]': the same in every world whose map is this one. -/
theorem PoolAt.look {w : World} {gx : Nat} {mb : Option Nat} {l : List ByteArray} (h : PoolAt w gx mb l) (d : ByteArray) (hd : d.size = 32) :
    ∃ p : ByteArray × ByteArray, p.1.size = 32 ∧ ∀ W : World, (∀ b, mb = some b → W.heap[b]? = w.heap[b]?) → (Instr.lookup 36 (.map mb) (aggD d) true).run Tryd.prog W = .ok (.tuple #[pEl p, .bool (mem d l)]) W := by
  rcases h.m with ⟨rfl, rfl⟩ | ⟨b, D, rfl, ⟨es, clock, hb, F, _, hD⟩, hR⟩
  · refine ⟨(zeros, ⟨#[]⟩), zeros_size, fun W _ => ?_⟩
    have := Maps.look_nil (w := W) true kLaw under51 (zeroEl W) (kd_of d hd)
    have e : mem d [] = false := rfl
    rw [e]; simpa using this
  · rcases Maps.fit_look true kLaw under51 (zeroEl w) hb F (kd_of d hd) with ⟨_, hno, hat⟩ | ⟨e0, y, he0, hk0, _, hRv, hat, _⟩
    · have hf : Maps.has D (kd d) = false := by rw [hD]; exact Maps.has_false_of_atKey hat
      have hdl : mem d l = false := by
        cases e : mem d l
        · rfl
        · rw [(hR.has d hd).2 ((mem_iff d l).1 e)] at hf; cases hf
      refine ⟨(zeros, ⟨#[]⟩), zeros_size, fun W hW => ?_⟩
      rcases Maps.fit_look true kLaw under51 (zeroEl W) ((hW b rfl).trans hb) F (kd_of d hd) with ⟨hrun, _, _⟩ | ⟨e1, y1, he1, hk1, _⟩
      · rw [hdl]; simpa using hrun
      · exact absurd hk1 (hno e1 he1)
    · obtain ⟨p, hp, hv, _⟩ := RP_inv hRv
      have hf : Maps.has D (kd d) = true := by rw [hD]; exact Maps.has_true_of_atKey hat
      have hdl : mem d l = true := (mem_iff d l).2 ((hR.has d hd).1 hf)
      refine ⟨p, hp, fun W hW => ?_⟩
      rcases Maps.fit_look true kLaw under51 (zeroEl W) ((hW b rfl).trans hb) F (kd_of d hd) with ⟨_, hno, _⟩ | ⟨e1, y1, he1, hk1, hrun, _⟩
      · exact absurd hk0 (hno e0 he0)
      · have e : e1 = e0 := entry_eq_of_key ((stamped_iff es clock).1 F.stamped).2.2 he1 he0 (hk1.trans hk0.symm)
        rw [hdl, ← hv, ← e]; simpa using hrun

theorem PoolAt.len {w : World} {gx : Nat} {mb : Option Nat} {l : List ByteArray} (h : PoolAt w gx mb l) (ty : TypeId) : (Builtin.len_ #[36] ty #[.map mb]).run Tryd.prog w = .ok (.int .i64 (l.length : Int)) w := by
  rcases h.m with ⟨rfl, rfl⟩ | ⟨b, D, rfl, ho, hR⟩
  · exact Maps.len_nil under51 ty
  · rw [ho.len under51 ty, hR.size]

theorem kd_ne {a b : ByteArray} (ha : a.size = 32) (hb : b.size = 32) (h : a ≠ b) : kd a ≠ kd b := fun e => h (kd_inj ha hb e)
theorem Rel.add {D : DataW Unit} {l : List ByteArray} {d : ByteArray} (h : Rel D l) (hT : Go.Maps.Tidy D) (hd : d.size = 32) (hn : d ∉ l) (x : DataW Unit) : Rel (D.put (kd d) x) (d :: l) := by
  have hf : Maps.has D (kd d) = false := by
    cases e : Maps.has D (kd d)
    · rfl
    · exact absurd ((h.has d hd).1 e) hn
  refine ⟨fun e he => ?_, ?_, fun e he => ?_, List.nodup_cons.2 ⟨hn, h.nodup⟩⟩
  · by_cases hx : e = d
    · subst hx
      simp [Maps.has_put_same hT.isMap (kd_key hd)]
    · rw [Maps.has_put_other (kd_ne he hd hx), h.has e he]; simp [hx]
  · rw [Maps.size_put hT, hf]; simp [h.size]
  · rcases List.mem_cons.1 he with rfl | he
    · exact hd
    · exact h.all e he
theorem Rel.del {D : DataW Unit} {l : List ByteArray} {d : ByteArray} (h : Rel D l) (hT : Go.Maps.Tidy D) (hd : d.size = 32) : Rel (D.del (kd d)) (del d l) := by
  refine ⟨fun e he => ?_, ?_, fun e he => h.all e ((mem_del e d l).1 he).1, h.nodup.filter _⟩
  · by_cases hx : e = d
    · subst hx
      rw [Maps.has_del_same, mem_del]
      simp
    · rw [Maps.has_del_other (kd_ne he hd hx), h.has e he, mem_del]; simp [hx]
  · have hs := Maps.size_del (k := kd d) hT
    by_cases hm : d ∈ l
    · rw [(h.has d hd).2 hm] at hs
      simp only [if_true] at hs
      have := del_len h.nodup hm
      have := h.size; omega
    · have hf : Maps.has D (kd d) = false := by
        cases e : Maps.has D (kd d)
        · rfl
        · exact absurd ((h.has d hd).1 e) hm
      rw [hf] at hs
      rw [del_out hm, ← h.size]; simpa using hs

/-- 'm[d] = ..', where d is not in it. -/
theorem PoolAt.store {w : World} {gx b : Nat} {l : List ByteArray} (h : PoolAt w gx (some b) l) (d : ByteArray) (hd : d.size = 32) (hn : d ∉ l) (hl : l.length < maxLen) (p : ByteArray × ByteArray) (hp : p.1.size = 32) :
    ∃ w', (Instr.mapUpdate 36 (.map (some b)) (aggD d) (pEl p)).run Tryd.prog w = .ok () w' ∧ PoolAt w' gx (some b) (d :: l) ∧ w.grownBy w' (some b) := by
  rcases h.m with ⟨h1, _⟩ | ⟨b', D, h1, ho, hR⟩
  · cases h1
  · injection h1 with h1
    subst h1
    obtain ⟨w', hrun, ho', hg⟩ := ho.update kLaw under51 hl (kd_of d hd) (RP_mk p hp)
    have hbg : gx ≠ b := fun e => (h.bsome b rfl).2 e.symm
    have hbk := hg.block gx h.lt (fun e => hbg (by injection e))
    exact ⟨w', hrun, ⟨by rw [World.cell?_of_block hbk]; exact h.c, by rw [World.frozen?_of_block hbk]; exact h.f, .inr ⟨b, _, rfl, by simpa using ho', hR.add (ho.tidy kLaw) hd hn _⟩⟩, hg⟩
/-- 'delete(m, d)'. -/
theorem PoolAt.drop {w : World} {gx : Nat} {mb : Option Nat} {l : List ByteArray} (h : PoolAt w gx mb l) (d : ByteArray) (hd : d.size = 32) (ty : TypeId) :
    ∃ w', (Builtin.delete_ #[36, 59] ty #[.map mb, aggD d]).run Tryd.prog w = .ok (.tuple #[]) w' ∧ PoolAt w' gx mb (del d l) ∧ (w' = w ∨ ∃ b, mb = some b ∧ w.grownBy w' (some b)) := by
  rcases h.m with ⟨rfl, rfl⟩ | ⟨b, D, rfl, ho, hR⟩
  · exact ⟨w, Maps.drop_nil kLaw under51 (kd_of d hd) ty, h, .inl rfl⟩
  · obtain ⟨w', hrun, ho', ht⟩ := ho.drop kLaw under51 (kd_of d hd) ty
    have hg := ht.grown
    have hbg : gx ≠ b := fun e => (h.bsome b rfl).2 e.symm
    have hbk := hg.block gx h.lt (fun e => hbg (by injection e))
    have hR' := hR.del (ho.tidy kLaw) hd
    exact ⟨w', hrun, ⟨by rw [World.cell?_of_block hbk]; exact h.c, by rw [World.frozen?_of_block hbk]; exact h.f, .inr ⟨b, _, rfl, hR'.size ▸ own_tight ho', hR'⟩⟩, .inr ⟨b, rfl, hg⟩⟩
/-- a new map. -/
theorem PoolAt.made {w : World} {gx : Nat} (h : PoolAt w gx none []) (hg : gx < w.heap.size) : PoolAt ((w.alloc (.map #[] 0)).setCell ⟨gx, 0, none⟩ (.map (some w.heap.size))) gx (some w.heap.size) [] := by
  have hc : (w.alloc (.map #[] 0)).cell? ⟨gx, 0, none⟩ = some (.map none) := by rw [((Below.refl w.heap.size w).alloc (Nat.le_refl _) _).cell (p := ⟨gx, 0, none⟩) hg]; exact h.c
  have hf : (w.alloc (.map #[] 0)).frozen? ⟨gx, 0, none⟩ = false := by rw [((Below.refl w.heap.size w).alloc (Nat.le_refl _) _).frozen (p := ⟨gx, 0, none⟩) hg]; exact h.f
  refine ⟨World.cell?_setCell_same _ _ _ hc, by simp only [World.frozen?_setCell]; exact hf, .inr ⟨w.heap.size, .map [], rfl, (World.ownsMap_made w _ _ RP).setCell (by show w.heap.size ≠ gx; omega) _, ⟨fun d _ => by simp [Maps.has_eq], rfl, by simp, List.nodup_nil⟩⟩⟩
end Go.Proofs.YtkmalggeieiepabDoor
namespace Go.Proofs.YtkmalggeieiepabDoor
open Go.RowKit

/-- a cursor lies in block g, ahead of m. -/
structure Cu (w : World) (g : Nat) (l m : List UInt8) : Prop where
  s : w.cell? ⟨g, 0, none⟩ = some (.string (ofL l))
  e : ∃ a : Nat, a ≤ l.length ∧ m = l.drop a ∧ w.cell? ⟨g, 1, none⟩ = some (.int .i64 (a : Int))
  ef : w.frozen? ⟨g, 1, none⟩ = false
theorem Cu.lt {w : World} {g : Nat} {l m : List UInt8} (h : Cu w g l m) : g < w.heap.size := World.block_lt_of_cell? w _ h.s
theorem Cu.later {w w' : World} {g : Nat} {l m : List UInt8} (h : Cu w g l m) (hb : Below w.heap.size w w') : Cu w' g l m := by
  have hl := h.lt
  obtain ⟨a, h1, h2, h3⟩ := h.e
  exact ⟨by rw [hb.cell (p := ⟨g, 0, none⟩) hl]; exact h.s, ⟨a, h1, h2, by rw [hb.cell (p := ⟨g, 1, none⟩) hl]; exact h3⟩, by rw [hb.frozen (p := ⟨g, 1, none⟩) hl]; exact h.ef⟩
theorem Cu.setA {w : World} {g : Nat} {l m : List UInt8} (h : Cu w g l m) (b : Nat) (hb : b ≤ l.length) : Cu (w.setCell ⟨g, 1, none⟩ (.int .i64 (b : Int))) g l (l.drop b) := by
  obtain ⟨a, _, _, h3⟩ := h.e
  refine ⟨?_, ⟨b, hb, rfl, World.cell?_setCell_same _ _ _ h3⟩, ?_⟩
  · rw [World.cell?_setCell_other _ _ _ _ (by simp)]; exact h.s
  · simp only [World.frozen?_setCell]; exact h.ef
theorem Cu.drewN {w : World} {g : Nat} {l m : List UInt8} (h : Cu w g l m) (n : Nat) : Cu (w.drewN n) g l m := ⟨h.s, h.e, h.ef⟩
/-- it leaves by a panic of this error. -/
def Errn (c : Int) : Ending := .panicked [{ v := .iface 32 (.int .i64 c), recovered := false }]
/-- a part was read, or it left. -/
def Got (g : Nat) (l : List UInt8) (w : World) (v : Value) (r : List UInt8 × Int) (x : Ending) (w' : World) : Prop :=
  Mov g w w' ∧ (if r.2 = 0 then x = .returned v ∧ Cu w' g l r.1 else x = Errn r.2)

theorem Got.ok {g : Nat} {l : List UInt8} {w w' : World} {v : Value} {r : List UInt8 × Int} (hr : r.2 = 0) (hm : Mov g w w') (hc : Cu w' g l r.1) : Got g l w v r (.returned v) w' := ⟨hm, by rw [if_pos hr]; exact ⟨rfl, hc⟩⟩
theorem Got.no {g : Nat} {l : List UInt8} {w w' : World} {v : Value} {r : List UInt8 × Int} {c : Int} (hr : r.2 = c) (hc : c ≠ 0) (hm : Mov g w w') : Got g l w v r (.panicked [{ v := .iface 32 (.int .i64 c), recovered := false }]) w' := ⟨hm, by rw [if_neg (by rw [hr]; exact hc), hr]; rfl⟩
theorem calls_ok {f : FuncId} {vs : Array Value} {g : Nat} {l : List UInt8} {w0 w : World} {v : Value} {r : List UInt8 × Int} (h : Calls Tryd.prog f vs w0 (Got g l w v r)) (hr : r.2 = 0) : Calls Tryd.prog f vs w0 fun x w' => x = .returned v ∧ Cu w' g l r.1 ∧ Mov g w w' :=
  h.mono fun x w' hx => by
    obtain ⟨hm, h2⟩ := hx
    rw [if_pos hr] at h2
    exact ⟨h2.1, h2.2, hm⟩
theorem calls_no {f : FuncId} {vs : Array Value} {g : Nat} {l : List UInt8} {w0 w : World} {v : Value} {r : List UInt8 × Int} (h : Calls Tryd.prog f vs w0 (Got g l w v r)) (hr : r.2 ≠ 0) : Calls Tryd.prog f vs w0 fun x w' => x = .panicked [{ v := .iface 32 (.int .i64 r.2), recovered := false }] ∧ Mov g w w' :=
  h.mono fun x w' hx => by
    obtain ⟨hm, h2⟩ := hx
    rw [if_neg hr] at h2
    exact ⟨h2, hm⟩
theorem Mov.drewN {g : Nat} {a w : World} (h : Mov g a w) (n : Nat) : Mov g a (w.drewN n) := ⟨h.os, h.tape, h.output, h.size, h.block⟩
theorem Mov.drew {g : Nat} {a w : World} (h : Mov g a w) : Mov g a w.drew := ⟨h.os, h.tape, h.output, h.size, h.block⟩

set_option maxRecDepth 10000 in
theorem cuTake_any (g n : Nat) (l m : List UInt8) (w : World) (h : Cu w g l m) (hl : l.length ≤ maxLen) :
    Calls Tryd.prog 49 #[.pointer (some ⟨g, 0, none⟩), .int .i64 (n : Int)] w (Got g l w (.string (ofL (rTake n (m, 0)).1)) (rTake n (m, 0)).2) := by
  have HR : Hid (Cu w g l m) := h
  have d0 := h.s
  obtain ⟨a, ha, hm, d1⟩ := h.e
  have d2 := h.ef
  have hsz := ofL_size l
  have hml : m.length = l.length - a := by rw [hm]; simp
  clear h
  by_cases hlt : m.length < n
  · have e3 : rTake n (m, 0) = ([], (m, 1)) := by simp [rTake, hlt]
    rw [e3]
    have hgt : wrap64 ((l.length : Int) - (a : Int)) < (n : Int) := by unfold wrap64; unfold maxLen at hl; omega
    go_enter Tryd.func49, Tryd.ntmps49
    go_wp2
    go_quiet (fail)
    go_wp2
    exact ⟨rfl, Got.no rfl (by omega) ((Mov.refl _ _).drewN _)⟩
  · have e3 : rTake n (m, 0) = (m.take n, (m.drop n, 0)) := by simp [rTake, hlt]
    rw [e3]
    have hgt : ¬ (wrap64 ((l.length : Int) - (a : Int)) < (n : Int)) := by unfold wrap64; unfold maxLen at hl; omega
    have hw : wrap64 ((a : Int) + (n : Int)) = ((a + n : Nat) : Int) := by unfold wrap64; unfold maxLen at hl; omega
    have x1 : (ofL l).extract a (a + n) = ofL (m.take n) := by rw [ofL_extract, hm]; congr 2; omega
    have b1 : (a : Int) ≤ ((a + n : Nat) : Int) := by omega
    have b2 : ((a + n : Nat) : Int) ≤ (l.length : Int) := by omega
    go_enter Tryd.func49, Tryd.ntmps49
    go_wp2
    go_quiet (fail)
    go_wp2
    go_quiet (fail)
    go_wp2
    go_ret
    have hd : m.drop n = l.drop (a + n) := by rw [hm, List.drop_drop]
    show Got _ _ _ _ _ (Ending.returned (Value.string ((ofL l).extract a (a + n)))) _
    rw [x1, hd]
    exact Got.ok rfl ((((Mov.refl _ _).drewN _).set 1 _).drewN _) (((HR.out.drewN _).setA (a + n) (by omega)).drewN _)

set_option maxRecDepth 10000 in
theorem cuEnd_any (g : Nat) (l m : List UInt8) (w : World) (h : Cu w g l m) :
    Calls Tryd.prog 48 #[.pointer (some ⟨g, 0, none⟩)] w (Got g l w (.tuple #[]) (rDone (m, 0))) := by
  have HR : Hid (Cu w g l m) := h
  have d0 := h.s
  obtain ⟨a, ha, hm, d1⟩ := h.e
  have hsz := ofL_size l
  have hml : m.length = l.length - a := by rw [hm]; simp
  clear h
  by_cases hlt : a < l.length
  · have hne : m ≠ [] := fun e => by rw [e] at hml; simp at hml; omega
    have e3 : rDone (m, 0) = (m, 5) := by simp [rDone, hne]
    rw [e3]
    have hgt : (a : Int) < (l.length : Int) := by omega
    go_enter Tryd.func48, Tryd.ntmps48
    go_wp2
    go_quiet (fail)
    go_wp2
    exact ⟨rfl, Got.no rfl (by omega) ((Mov.refl _ _).drewN _)⟩
  · have hne : m = [] := List.eq_nil_of_length_eq_zero (by omega)
    have e3 : rDone (m, 0) = (m, 0) := by simp [rDone, hne]
    rw [e3]
    have hgt : ¬ ((a : Int) < (l.length : Int)) := by omega
    go_enter Tryd.func48, Tryd.ntmps48
    go_wp2
    go_quiet (fail)
    go_wp2
    go_end0
    exact Got.ok rfl ((Mov.refl _ _).drewN _) (HR.out.drewN _)

/-- a size of so many bytes. -/
def rLong (k b : Nat) (m : List UInt8) : Nat × (List UInt8 × Int) :=
  if m.length < k then (0, (m, 1)) else (num (m.take k), (m.drop k, if num (m.take k) < b then 2 else 0))
set_option maxRecDepth 10000 in
theorem cuLong_any (g k b : Nat) (l m : List UInt8) (w : World) (h : Cu w g l m) (hl : l.length ≤ maxLen) (hk : k ≤ 8) :
    Calls Tryd.prog 100 #[.pointer (some ⟨g, 0, none⟩), .int .i64 (k : Int), .int .u64 (b : Int)] w (Got g l w (.int .u64 ((rLong k b m).1 : Int)) (rLong k b m).2) := by
  have hT := cuTake_any g k l m w h hl
  clear h
  by_cases hlt : m.length < k
  · have e3 : rTake k (m, 0) = ([], (m, 1)) := by simp [rTake, hlt]
    have e4 : rLong k b m = (0, (m, 1)) := by simp [rLong, hlt]
    rw [e3] at hT
    rw [e4]
    have hN := calls_no hT (by simp)
    clear hT
    go_enter Tryd.func100, Tryd.ntmps100
    go_wp2_with (go_at_call 49; go_must (refine hN.mono ?_); rintro x w1 ⟨rfl, hm1⟩)
    exact ⟨rfl, Got.no rfl (by omega) hm1⟩
  · have e3 : rTake k (m, 0) = (m.take k, (m.drop k, 0)) := by simp [rTake, hlt]
    have e4 : rLong k b m = (num (m.take k), (m.drop k, if num (m.take k) < b then 2 else 0)) := by simp [rLong, hlt]
    rw [e3] at hT
    rw [e4]
    have hN := calls_ok hT rfl
    have hL := fun W => lowest_any (ofL (m.take k)) W (by rw [ofL_size]; simp; omega)
    rw [ofL_data] at hL
    clear hT e3 e4
    generalize num (m.take k) = N at hL
    by_cases hb : N < b
    · have hb' : (N : Int) < (b : Int) := by omega
      rw [if_pos hb]
      go_enter Tryd.func100, Tryd.ntmps100
      go_wp2_with (first | (go_at_call 49; go_must (refine hN.mono ?_); rintro x w1 ⟨rfl, hc1, hm1⟩) | (go_at_call 45; go_must (refine (hL _).mono ?_); rintro x w2 ⟨rfl, rfl⟩))
      exact ⟨rfl, Got.no rfl (by omega) hm1⟩
    · have hb' : ¬ ((N : Int) < (b : Int)) := by omega
      rw [if_neg hb]
      go_enter Tryd.func100, Tryd.ntmps100
      go_wp2_with (first | (go_at_call 49; go_must (refine hN.mono ?_); rintro x w1 ⟨rfl, hc1, hm1⟩) | (go_at_call 45; go_must (refine (hL _).mono ?_); rintro x w2 ⟨rfl, rfl⟩))
      go_ret
      exact Got.ok rfl hm1 hc1
end Go.Proofs.YtkmalggeieiepabDoor
namespace Go.Proofs.YtkmalggeieiepabDoor
open Go.RowKit

theorem rSize_long (c : UInt8) (m : List UInt8) (hm : manyOf c ≠ 0) : rSize (c :: m, 0) = rLong (manyOf c) (leastOf c) m := by
  show (if manyOf c = 0 then _ else _ : Nat × (List UInt8 × Int)) = _
  rw [if_neg hm]
  unfold rLong
  by_cases h : m.length < manyOf c
  · rw [if_pos h, if_pos h]
  · rw [if_neg h, if_neg h]
    have hs := size_told c (m.take (manyOf c)) hm (by simp; omega)
    by_cases h2 : num (m.take (manyOf c)) < leastOf c
    · rw [if_pos h2, if_neg (fun e => (hs.1 e) h2)]
    · rw [if_neg h2, if_pos (hs.2 h2)]

set_option maxRecDepth 10000 in
set_option maxHeartbeats 1000000 in
theorem cuAny_any (g : Nat) (l m : List UInt8) (w : World) (h : Cu w g l m) (hl : l.length ≤ maxLen) :
    Calls Tryd.prog 93 #[.pointer (some ⟨g, 0, none⟩)] w (Got g l w (.int .u64 ((rSize (m, 0)).1 : Int)) (rSize (m, 0)).2) := by
  have hT := cuTake_any g 1 l m w h hl
  clear h
  cases m with
  | nil =>
    have e1 : rTake 1 ([], 0) = ([], ([], 1)) := by simp [rTake]
    have e2 : rSize ([], 0) = (0, ([], 1)) := by simp [rSize]
    rw [e1] at hT
    rw [e2]
    have hN := calls_no hT (by simp)
    clear hT
    go_enter Tryd.func93, Tryd.ntmps93
    go_wp2_with (go_at_call 49; go_must (refine hN.mono ?_); rintro x w1 ⟨rfl, hm1⟩)
    exact ⟨rfl, Got.no rfl (by omega) hm1⟩
  | cons c m =>
    have e1 : rTake 1 (c :: m, 0) = ([c], (m, 0)) := by simp [rTake]
    rw [e1] at hT
    have hN := calls_ok hT rfl
    have hL := fun W => lowest_any (ofL [c]) W (by rw [ofL_size]; simp)
    rw [ofL_data] at hL
    clear hT e1
    by_cases c1 : c = 253
    · subst c1
      have hz := fun (W : World) (hc : Cu W g l m) => cuLong_any g 2 253 l m W hc hl (by omega)
      have e2 : rSize (253 :: m, 0) = rLong 2 253 m := rSize_long 253 m (by decide)
      rw [e2]
      have hn : num [(253 : UInt8)] = 253 := rfl
      rw [hn] at hL
      clear e2 hn hl
      generalize rLong 2 253 m = p at hz
      obtain ⟨q, r⟩ := p
      by_cases hr : r.2 = 0
      · have hz2 := fun (W : World) (hc : Cu W g l m) => calls_ok (hz W hc) hr
        have HZ : Hid (∀ W, Cu W g l m → Calls Tryd.prog 100 #[.pointer (some ⟨g, 0, none⟩), .int .i64 2, .int .u64 253] W fun x w' => x = .returned (.int .u64 (q : Int)) ∧ Cu w' g l r.1 ∧ Mov g W w') := hz2
        clear hz hz2
        go_enter Tryd.func93, Tryd.ntmps93
        go_wp2_with (first
          | (go_at_call 49; go_must (refine hN.mono ?_); rintro x w1 ⟨rfl, hc1, hm1⟩; have HC1 := (show Hid (Cu w1 g l m) from hc1); have HM1 := (show Hid (Mov g w w1) from hm1); clear hc1 hm1)
          | (go_at_call 45; go_must (refine (hL _).mono ?_); rintro x w1 ⟨rfl, rfl⟩)
          | (go_at_call 100; go_must (refine (HZ.out _ HC1.out).mono ?_); rintro x w3 ⟨rfl, hc3, hm3⟩; have HC3 := (show Hid (Cu w3 g l r.1) from hc3); have HM3 := (show Hid (Mov g w1 w3) from hm3); clear hc3 hm3))
        go_ret
        exact Got.ok hr (HM1.out.trans HM3.out) HC3.out
      · have hz2 := fun (W : World) (hc : Cu W g l m) => calls_no (hz W hc) hr
        have HZ : Hid (∀ W, Cu W g l m → Calls Tryd.prog 100 #[.pointer (some ⟨g, 0, none⟩), .int .i64 2, .int .u64 253] W fun x w' => x = .panicked [{ v := .iface 32 (.int .i64 r.2), recovered := false }] ∧ Mov g W w') := hz2
        clear hz hz2
        go_enter Tryd.func93, Tryd.ntmps93
        go_wp2_with (first
          | (go_at_call 49; go_must (refine hN.mono ?_); rintro x w1 ⟨rfl, hc1, hm1⟩; have HC1 := (show Hid (Cu w1 g l m) from hc1); have HM1 := (show Hid (Mov g w w1) from hm1); clear hc1 hm1)
          | (go_at_call 45; go_must (refine (hL _).mono ?_); rintro x w1 ⟨rfl, rfl⟩)
          | (go_at_call 100; go_must (refine (HZ.out _ HC1.out).mono ?_); rintro x w3 ⟨rfl, hm3⟩; have HM3 := (show Hid (Mov g w1 w3) from hm3); clear hm3))
        exact ⟨rfl, Got.no rfl hr (HM1.out.trans HM3.out)⟩
    · by_cases c2 : c = 254
      · subst c2
        have hz := fun (W : World) (hc : Cu W g l m) => cuLong_any g 4 65536 l m W hc hl (by omega)
        have e2 : rSize (254 :: m, 0) = rLong 4 65536 m := rSize_long 254 m (by decide)
        rw [e2]
        have hn : num [(254 : UInt8)] = 254 := rfl
        rw [hn] at hL
        clear e2 hn hl
        generalize rLong 4 65536 m = p at hz
        obtain ⟨q, r⟩ := p
        by_cases hr : r.2 = 0
        · have hz2 := fun (W : World) (hc : Cu W g l m) => calls_ok (hz W hc) hr
          have HZ : Hid (∀ W, Cu W g l m → Calls Tryd.prog 100 #[.pointer (some ⟨g, 0, none⟩), .int .i64 4, .int .u64 65536] W fun x w' => x = .returned (.int .u64 (q : Int)) ∧ Cu w' g l r.1 ∧ Mov g W w') := hz2
          clear hz hz2
          go_enter Tryd.func93, Tryd.ntmps93
          go_wp2_with (first
            | (go_at_call 49; go_must (refine hN.mono ?_); rintro x w1 ⟨rfl, hc1, hm1⟩; have HC1 := (show Hid (Cu w1 g l m) from hc1); have HM1 := (show Hid (Mov g w w1) from hm1); clear hc1 hm1)
            | (go_at_call 45; go_must (refine (hL _).mono ?_); rintro x w1 ⟨rfl, rfl⟩)
            | (go_at_call 100; go_must (refine (HZ.out _ HC1.out).mono ?_); rintro x w3 ⟨rfl, hc3, hm3⟩; have HC3 := (show Hid (Cu w3 g l r.1) from hc3); have HM3 := (show Hid (Mov g w1 w3) from hm3); clear hc3 hm3))
          go_ret
          exact Got.ok hr (HM1.out.trans HM3.out) HC3.out
        · have hz2 := fun (W : World) (hc : Cu W g l m) => calls_no (hz W hc) hr
          have HZ : Hid (∀ W, Cu W g l m → Calls Tryd.prog 100 #[.pointer (some ⟨g, 0, none⟩), .int .i64 4, .int .u64 65536] W fun x w' => x = .panicked [{ v := .iface 32 (.int .i64 r.2), recovered := false }] ∧ Mov g W w') := hz2
          clear hz hz2
          go_enter Tryd.func93, Tryd.ntmps93
          go_wp2_with (first
            | (go_at_call 49; go_must (refine hN.mono ?_); rintro x w1 ⟨rfl, hc1, hm1⟩; have HC1 := (show Hid (Cu w1 g l m) from hc1); have HM1 := (show Hid (Mov g w w1) from hm1); clear hc1 hm1)
            | (go_at_call 45; go_must (refine (hL _).mono ?_); rintro x w1 ⟨rfl, rfl⟩)
            | (go_at_call 100; go_must (refine (HZ.out _ HC1.out).mono ?_); rintro x w3 ⟨rfl, hm3⟩; have HM3 := (show Hid (Mov g w1 w3) from hm3); clear hm3))
          exact ⟨rfl, Got.no rfl hr (HM1.out.trans HM3.out)⟩
      · by_cases c3 : c = 255
        · subst c3
          have hz := fun (W : World) (hc : Cu W g l m) => cuLong_any g 8 4294967296 l m W hc hl (by omega)
          have e2 : rSize (255 :: m, 0) = rLong 8 4294967296 m := rSize_long 255 m (by decide)
          rw [e2]
          have hn : num [(255 : UInt8)] = 255 := rfl
          rw [hn] at hL
          clear e2 hn hl
          generalize rLong 8 4294967296 m = p at hz
          obtain ⟨q, r⟩ := p
          by_cases hr : r.2 = 0
          · have hz2 := fun (W : World) (hc : Cu W g l m) => calls_ok (hz W hc) hr
            have HZ : Hid (∀ W, Cu W g l m → Calls Tryd.prog 100 #[.pointer (some ⟨g, 0, none⟩), .int .i64 8, .int .u64 4294967296] W fun x w' => x = .returned (.int .u64 (q : Int)) ∧ Cu w' g l r.1 ∧ Mov g W w') := hz2
            clear hz hz2
            go_enter Tryd.func93, Tryd.ntmps93
            go_wp2_with (first
              | (go_at_call 49; go_must (refine hN.mono ?_); rintro x w1 ⟨rfl, hc1, hm1⟩; have HC1 := (show Hid (Cu w1 g l m) from hc1); have HM1 := (show Hid (Mov g w w1) from hm1); clear hc1 hm1)
              | (go_at_call 45; go_must (refine (hL _).mono ?_); rintro x w1 ⟨rfl, rfl⟩)
              | (go_at_call 100; go_must (refine (HZ.out _ HC1.out).mono ?_); rintro x w3 ⟨rfl, hc3, hm3⟩; have HC3 := (show Hid (Cu w3 g l r.1) from hc3); have HM3 := (show Hid (Mov g w1 w3) from hm3); clear hc3 hm3))
            go_ret
            exact Got.ok hr (HM1.out.trans HM3.out) HC3.out
          · have hz2 := fun (W : World) (hc : Cu W g l m) => calls_no (hz W hc) hr
            have HZ : Hid (∀ W, Cu W g l m → Calls Tryd.prog 100 #[.pointer (some ⟨g, 0, none⟩), .int .i64 8, .int .u64 4294967296] W fun x w' => x = .panicked [{ v := .iface 32 (.int .i64 r.2), recovered := false }] ∧ Mov g W w') := hz2
            clear hz hz2
            go_enter Tryd.func93, Tryd.ntmps93
            go_wp2_with (first
              | (go_at_call 49; go_must (refine hN.mono ?_); rintro x w1 ⟨rfl, hc1, hm1⟩; have HC1 := (show Hid (Cu w1 g l m) from hc1); have HM1 := (show Hid (Mov g w w1) from hm1); clear hc1 hm1)
              | (go_at_call 45; go_must (refine (hL _).mono ?_); rintro x w1 ⟨rfl, rfl⟩)
              | (go_at_call 100; go_must (refine (HZ.out _ HC1.out).mono ?_); rintro x w3 ⟨rfl, hm3⟩; have HM3 := (show Hid (Mov g w1 w3) from hm3); clear hm3))
            exact ⟨rfl, Got.no rfl hr (HM1.out.trans HM3.out)⟩
        · have hm : manyOf c = 0 := by simp [manyOf, c1, c2, c3]
          have e2 : rSize (c :: m, 0) = (c.toNat, (m, 0)) := by simp [rSize, hm]
          rw [e2]
          have hn : num [c] = c.toNat := by simp [num]
          rw [hn] at hL
          have n1 : ¬ ((c.toNat : Int) = 253) := fun h => c1 (by rw [← UInt8.toNat_inj]; simp; omega)
          have n2 : ¬ ((c.toNat : Int) = 254) := fun h => c2 (by rw [← UInt8.toNat_inj]; simp; omega)
          have n3 : ¬ ((c.toNat : Int) = 255) := fun h => c3 (by rw [← UInt8.toNat_inj]; simp; omega)
          clear c1 c2 c3 hm e2 hn
          generalize (c.toNat : Int) = C at hL n1 n2 n3
          go_enter Tryd.func93, Tryd.ntmps93
          go_wp2_with (first
            | (go_at_call 49; go_must (refine hN.mono ?_); rintro x w1 ⟨rfl, hc1, hm1⟩; have HC1 := (show Hid (Cu w1 g l m) from hc1); have HM1 := (show Hid (Mov g w w1) from hm1); clear hc1 hm1)
            | (go_at_call 45; go_must (refine (hL _).mono ?_); rintro x w1 ⟨rfl, rfl⟩))
          go_ret
          exact Got.ok rfl HM1.out HC1.out

set_option maxRecDepth 10000 in
theorem cuSize_any (g lo hi : Nat) (l m : List UInt8) (w : World) (h : Cu w g l m) (hl : l.length ≤ maxLen) :
    Calls Tryd.prog 76 #[.pointer (some ⟨g, 0, none⟩), .int .u64 (lo : Int), .int .u64 (hi : Int)] w (Got g l w (.int .u64 ((rWithin lo hi (m, 0)).1 : Int)) (rWithin lo hi (m, 0)).2) := by
  have hz := cuAny_any g l m w h hl
  have HE : rWithin lo hi (m, 0) = if (rSize (m, 0)).2.2 ≠ 0 then (0, (rSize (m, 0)).2) else if (rSize (m, 0)).1 < lo ∨ hi < (rSize (m, 0)).1 then (0, ((rSize (m, 0)).2.1, 3)) else rSize (m, 0) := rfl
  rw [HE]
  clear h HE hl
  generalize rSize (m, 0) = p at hz
  obtain ⟨q, r⟩ := p
  by_cases hr : r.2 = 0
  · have hN := calls_ok hz hr
    clear hz
    rw [if_neg (fun h => h hr)]
    by_cases hb : q < lo ∨ hi < q
    · rw [if_pos hb]
      by_cases h1 : q < lo
      · have i1 : (q : Int) < (lo : Int) := by omega
        go_enter Tryd.func76, Tryd.ntmps76
        go_wp2_with (go_at_call 93; go_must (refine hN.mono ?_); rintro x w1 ⟨rfl, hc1, hm1⟩)
        exact ⟨rfl, Got.no rfl (by omega) hm1⟩
      · have i1 : ¬ ((q : Int) < (lo : Int)) := by omega
        have i2 : (hi : Int) < (q : Int) := by omega
        go_enter Tryd.func76, Tryd.ntmps76
        go_wp2_with (go_at_call 93; go_must (refine hN.mono ?_); rintro x w1 ⟨rfl, hc1, hm1⟩)
        exact ⟨rfl, Got.no rfl (by omega) hm1⟩
    · rw [if_neg hb]
      have i1 : ¬ ((q : Int) < (lo : Int)) := by omega
      have i2 : ¬ ((hi : Int) < (q : Int)) := by omega
      go_enter Tryd.func76, Tryd.ntmps76
      go_wp2_with (go_at_call 93; go_must (refine hN.mono ?_); rintro x w1 ⟨rfl, hc1, hm1⟩)
      go_ret
      exact Got.ok hr hm1 hc1
  · have hN := calls_no hz hr
    clear hz
    rw [if_pos hr]
    go_enter Tryd.func76, Tryd.ntmps76
    go_wp2_with (go_at_call 93; go_must (refine hN.mono ?_); rintro x w1 ⟨rfl, hm1⟩)
    exact ⟨rfl, Got.no rfl hr hm1⟩
end Go.Proofs.YtkmalggeieiepabDoor
set_option linter.unusedSimpArgs false
namespace Go.Proofs.YtkmalggeieiepabDoor
open Go.RowKit

theorem Cu.drew {w : World} {g : Nat} {l m : List UInt8} (h : Cu w g l m) : Cu w.drew g l m := ⟨h.s, h.e, h.ef⟩
theorem Mov.undrew {g : Nat} {w w' : World} (h : Mov g w.drew w') : Mov g w w' := ⟨h.os, h.tape, h.output, h.size, h.block⟩
theorem Got.not_out {g : Nat} {l : List UInt8} {w w' : World} {v : Value} {r : List UInt8 × Int} (h : Got g l w v r .outgrown w') : False := by
  obtain ⟨_, hx⟩ := h
  by_cases hr : r.2 = 0
  · rw [if_pos hr] at hx; cases hx.1
  · rw [if_neg hr] at hx; cases hx
theorem rScript_of (m : List UInt8) : rScript (m, 0) = (rTake (rWithin 0 40 (m, 0)).1 (rWithin 0 40 (m, 0)).2).2 := rfl

set_option maxRecDepth 10000 in
set_option maxHeartbeats 1000000 in
theorem cuScript_any (g : Nat) (l m : List UInt8) (w : World) (h : Cu w g l m) (hl : l.length ≤ maxLen) :
    Calls Tryd.prog 77 #[.pointer (some ⟨g, 0, none⟩)] w (Got g l w (.tuple #[]) (rScript (m, 0))) := by
  have hz := cuSize_any g 0 40 l m w.drew h.drew hl
  have hq := rWithin_hi 0 40 (m, 0)
  rw [rScript_of]
  clear h
  generalize rWithin 0 40 (m, 0) = p at hz hq
  obtain ⟨q, r⟩ := p
  have hq' : q ≤ 40 := hq
  clear hq
  go_enter Tryd.func77, Tryd.ntmps77
  refine q_frame (fun A HFR => ?_)
  have hsz : A.tmps.size = 11 := by rw [HFR.out]; rfl
  have h0 : A.eval (.tmp 0) = .pointer (some ⟨g, 0, none⟩) := by rw [HFR.out]; rfl
  have hdf : A.defers = [] := by rw [HFR.out]
  refine wp_region_any (by kernel_rfl) ?_
  refine wpAny_take (i := 0) (v := (.pointer (some ⟨g, 0, none⟩))) rfl (by kernel_rfl) (by kernel_rfl) (by kernel_rfl) (fun _ _ _ h => h) (Or.inl ⟨by rfl, fun W => ?_⟩) ?_
  · exact q_run1 0 (.pointer (some ⟨g, 0, none⟩)) (by simp only [q_same, q_ne, q_sz, hsz, h0, ne_eq, Nat.reduceEqDiff, not_false_eq_true, Nat.reduceLT]) (fun ρ _ _ e1 => by simp [go_sem, e1])
  change wpAny _ _ _ _ _ _ (Act.put _ (some 2) _) _
  refine wpAny_take (i := 1) (v := (.pointer (some ⟨g, 0, none⟩))) rfl (by kernel_rfl) (by kernel_rfl) (by kernel_rfl) (fun _ _ _ h => h) (Or.inl ⟨by rfl, fun W => ?_⟩) ?_
  · exact q_run1 2 (.pointer (some ⟨g, 0, none⟩)) (by simp only [q_same, q_ne, q_sz, hsz, h0, ne_eq, Nat.reduceEqDiff, not_false_eq_true, Nat.reduceLT]) (fun ρ _ _ e1 => by simp [go_sem, e1])
  change wpAny _ _ _ _ _ _ (Act.put _ (some 3) _) _
  refine wpAny_take (i := 2) (v := (.pointer (some ⟨g, 0, none⟩))) rfl (by kernel_rfl) (by kernel_rfl) (by kernel_rfl) (fun _ _ _ h => h) (Or.inl ⟨by rfl, fun W => ?_⟩) ?_
  · exact q_run1 3 (.pointer (some ⟨g, 0, none⟩)) (by simp only [q_same, q_ne, q_sz, hsz, h0, ne_eq, Nat.reduceEqDiff, not_false_eq_true, Nat.reduceLT]) (fun ρ _ _ e1 => by simp [go_sem, e1])
  change wpAny _ _ _ _ _ _ (Act.put _ (some 4) _) _
  refine wpAny_take (i := 3) (v := (.pointer (some ⟨g, 0, none⟩))) rfl (by kernel_rfl) (by kernel_rfl) (by kernel_rfl) (fun _ _ _ h => h) (Or.inl ⟨by rfl, fun W => ?_⟩) ?_
  · exact q_run1 0 (.pointer (some ⟨g, 0, none⟩)) (by simp only [q_same, q_ne, q_sz, hsz, h0, ne_eq, Nat.reduceEqDiff, not_false_eq_true, Nat.reduceLT]) (fun ρ _ _ e1 => by simp [go_sem, e1])
  change wpAny _ _ _ _ _ _ (Act.put _ (some 5) _) _
  refine wpAny_take (i := 4) (v := (.pointer (some ⟨g, 0, none⟩))) rfl (by kernel_rfl) (by kernel_rfl) (by kernel_rfl) (fun _ _ _ h => h) (Or.inl ⟨by rfl, fun W => ?_⟩) ?_
  · exact q_run1 5 (.pointer (some ⟨g, 0, none⟩)) (by simp only [q_same, q_ne, q_sz, hsz, h0, ne_eq, Nat.reduceEqDiff, not_false_eq_true, Nat.reduceLT]) (fun ρ _ _ e1 => by simp [go_sem, e1])
  change wpAny _ _ _ _ _ _ (Act.put _ (some 6) _) _
  refine wpAny_take (i := 5) (v := (.pointer (some ⟨g, 0, none⟩))) rfl (by kernel_rfl) (by kernel_rfl) (by kernel_rfl) (fun _ _ _ h => h) (Or.inl ⟨by rfl, fun W => ?_⟩) ?_
  · exact q_run1 6 (.pointer (some ⟨g, 0, none⟩)) (by simp only [q_same, q_ne, q_sz, hsz, h0, ne_eq, Nat.reduceEqDiff, not_false_eq_true, Nat.reduceLT]) (fun ρ _ _ e1 => by simp [go_sem, e1])
  change wpAny _ _ _ _ _ _ (Act.put _ (some 7) _) _
  refine q_call 6 76 #[.pointer (some ⟨g, 0, none⟩), .int .u64 0, .int .u64 40] _ (by kernel_rfl) rfl rfl ?_ hz ?_ ?_ ?_
  · exact q_run1 7 (.pointer (some ⟨g, 0, none⟩)) (by simp only [q_same, q_ne, q_sz, hsz, h0, ne_eq, Nat.reduceEqDiff, not_false_eq_true, Nat.reduceLT]) (fun ρ hc hf e1 => by simp [go_sem, hc, hf, e1])
  · intro v w1 hx
    change wpAny _ _ _ _ _ _ (Act.put _ (some 8) _) _
    obtain ⟨hm1, hx⟩ := hx
    by_cases hr : r.2 = 0
    · rw [if_pos hr] at hx
      obtain ⟨hv, hc1⟩ := hx
      injection hv with hv
      subst hv
      obtain ⟨m1, c1⟩ := r
      have hr' : c1 = 0 := hr
      subst hr'
      clear hr
      have ht := cuTake_any g q l m1 w1 hc1 hl
      have hw : IntKind.i64.wrap (q : Int) = (q : Int) := by rw [IntKind.wrap_i64]; omega
      refine q_one 7 (.int .i64 (IntKind.i64.wrap (q : Int))) w1 (by kernel_rfl) rfl rfl ?_ ?_
      · exact q_run1 8 (.int .u64 (q : Int)) (by simp only [q_same, q_ne, q_sz, hsz, h0, ne_eq, Nat.reduceEqDiff, not_false_eq_true, Nat.reduceLT]) (fun ρ _ _ e1 => by simp [go_sem, e1])
      change wpAny _ _ _ _ _ _ (Act.put _ (some 9) _) _
      refine q_call 8 49 #[.pointer (some ⟨g, 0, none⟩), .int .i64 (IntKind.i64.wrap (q : Int))] _ (by kernel_rfl) rfl rfl ?_ (by rw [hw]; exact ht) ?_ ?_ ?_
      · exact q_run2 4 9 (.pointer (some ⟨g, 0, none⟩)) (.int .i64 (IntKind.i64.wrap (q : Int))) (by simp only [q_same, q_ne, q_sz, hsz, h0, ne_eq, Nat.reduceEqDiff, not_false_eq_true, Nat.reduceLT]) (by simp only [q_same, q_ne, q_sz, hsz, h0, ne_eq, Nat.reduceEqDiff, not_false_eq_true, Nat.reduceLT]) (fun ρ _ hf e1 e2 => by simp [go_sem, hf, e1, e2])
      · intro v w2 hx
        refine wpAny_done (by kernel_rfl) ?_ _
        obtain ⟨hm2, hx⟩ := hx
        have hr2 : (rTake q (m1, 0)).2.2 = 0 := by
          rcases Decidable.em ((rTake q (m1, 0)).2.2 = 0) with e | e
          · exact e
          · rw [if_neg e] at hx; cases hx
        rw [if_pos hr2] at hx
        refine q_done0 (by kernel_rfl) (by simp only [q_def]; exact hdf) (Got.ok hr2 (hm1.undrew.trans hm2) hx.2)
      · intro ch w2 hx
        obtain ⟨hm2, hx⟩ := hx
        have hr2 : (rTake q (m1, 0)).2.2 ≠ 0 := fun e => by rw [if_pos e] at hx; cases hx.1
        rw [if_neg hr2] at hx
        injection hx with hx
        subst hx
        refine q_panic (by simp only [q_def]; exact hdf) (Got.no rfl hr2 (hm1.undrew.trans hm2))
      · intro w2 hx
        exact Got.not_out hx
    · rw [if_neg hr] at hx
      cases hx
  · intro ch w1 hx
    obtain ⟨hm1, hx⟩ := hx
    by_cases hr : r.2 = 0
    · rw [if_pos hr] at hx
      cases hx.1
    · rw [if_neg hr] at hx
      injection hx with hx
      subst hx
      refine q_panic (by simp only [q_def]; exact hdf) (Got.no (stick_take q r hr) hr hm1.undrew)
  · intro w1 hx
    exact Got.not_out hx
end Go.Proofs.YtkmalggeieiepabDoor
namespace Go.Proofs.YtkmalggeieiepabDoor
open Go.RowKit

theorem rIn_of (m : List UInt8) : rIn (m, 0) = (rTake 4 (rScript (rTake 36 (m, 0)).2)).2 := rfl
theorem rOut_of (m : List UInt8) : rOut (m, 0) = rScript (rTake 8 (m, 0)).2 := rfl

set_option maxRecDepth 10000 in
set_option maxHeartbeats 1000000 in
theorem cuIn_any (g : Nat) (l m : List UInt8) (w : World) (h : Cu w g l m) (hl : l.length ≤ maxLen) :
    Calls Tryd.prog 51 #[.pointer (some ⟨g, 0, none⟩)] w (Got g l w (.tuple #[]) (rIn (m, 0))) := by
  have ht := cuTake_any g 36 l m w h hl
  rw [rIn_of]
  clear h
  generalize rTake 36 (m, 0) = p at ht
  obtain ⟨t1, m1, c1⟩ := p
  by_cases hr : c1 = 0
  · subst hr
    have h1 := calls_ok ht rfl
    have hs := fun (W : World) (hc : Cu W g l m1) => cuScript_any g l m1 W hc hl
    clear ht
    show Calls _ _ _ _ (Got g l w (.tuple #[]) (rTake 4 (rScript (m1, 0))).2)
    generalize rScript (m1, 0) = r at hs
    obtain ⟨m2, c2⟩ := r
    by_cases hr : c2 = 0
    · subst hr
      have h2 := fun (W : World) (hc : Cu W g l m1) => calls_ok (hs W hc) rfl
      have hq := fun (W : World) (hc : Cu W g l m2) => cuTake_any g 4 l m2 W hc hl
      clear hs hl
      generalize rTake 4 (m2, 0) = p at hq
      obtain ⟨t3, r3⟩ := p
      by_cases hr : r3.2 = 0
      · have h3 := fun (W : World) (hc : Cu W g l m2) => calls_ok (hq W hc) hr
        clear hq
        go_enter Tryd.func51, Tryd.ntmps51
        go_upto_region 1 with (go_at_call 49; go_must (refine h1.mono ?_); rintro x w1 ⟨rfl, hc1, hm1⟩; have HC1 := (show Hid (Cu w1 g l m1) from hc1); have HM1 := (show Hid (Mov g w w1) from hm1); clear hc1 hm1)
        go_upto_region 2 with (go_at_call 77; go_must (refine (h2 _ HC1.out).mono ?_); rintro x w2 ⟨rfl, hc2, hm2⟩; have HC2 := (show Hid (Cu w2 g l m2) from hc2); have HM2 := (show Hid (Mov g w1 w2) from hm2); clear hc2 hm2)
        go_wp2_with (go_at_call 49; go_must (refine (h3 _ HC2.out).mono ?_); rintro x w3 ⟨rfl, hc3, hm3⟩)
        go_end0
        exact Got.ok hr (HM1.out.trans (HM2.out.trans hm3)) hc3
      · have h3 := fun (W : World) (hc : Cu W g l m2) => calls_no (hq W hc) hr
        clear hq
        go_enter Tryd.func51, Tryd.ntmps51
        go_upto_region 1 with (go_at_call 49; go_must (refine h1.mono ?_); rintro x w1 ⟨rfl, hc1, hm1⟩; have HC1 := (show Hid (Cu w1 g l m1) from hc1); have HM1 := (show Hid (Mov g w w1) from hm1); clear hc1 hm1)
        go_upto_region 2 with (go_at_call 77; go_must (refine (h2 _ HC1.out).mono ?_); rintro x w2 ⟨rfl, hc2, hm2⟩; have HC2 := (show Hid (Cu w2 g l m2) from hc2); have HM2 := (show Hid (Mov g w1 w2) from hm2); clear hc2 hm2)
        go_wp2_with (go_at_call 49; go_must (refine (h3 _ HC2.out).mono ?_); rintro x w3 ⟨rfl, hm3⟩)
        exact ⟨rfl, Got.no rfl hr (HM1.out.trans (HM2.out.trans hm3))⟩
    · have h2 := fun (W : World) (hc : Cu W g l m1) => calls_no (hs W hc) hr
      have HE : Hid ((rTake 4 (m2, c2)).2.2 = c2) := stick_take 4 (m2, c2) hr
      clear hs hl
      generalize (rTake 4 (m2, c2)).2 = r3 at HE
      go_enter Tryd.func51, Tryd.ntmps51
      go_upto_region 1 with (go_at_call 49; go_must (refine h1.mono ?_); rintro x w1 ⟨rfl, hc1, hm1⟩; have HC1 := (show Hid (Cu w1 g l m1) from hc1); have HM1 := (show Hid (Mov g w w1) from hm1); clear hc1 hm1)
      go_wp2_with (go_at_call 77; go_must (refine (h2 _ HC1.out).mono ?_); rintro x w2 ⟨rfl, hm2⟩)
      exact ⟨rfl, Got.no HE.out hr (HM1.out.trans hm2)⟩
  · have h1 := calls_no ht hr
    have HE : Hid ((rTake 4 (rScript (m1, c1))).2.2 = c1) := ((stick_script.comp (stick_take 4)) (m1, c1) hr : _)
    clear ht hl
    show Calls _ _ _ _ (Got g l w (.tuple #[]) (rTake 4 (rScript (m1, c1))).2)
    generalize (rTake 4 (rScript (m1, c1))).2 = r3 at HE
    go_enter Tryd.func51, Tryd.ntmps51
    go_wp2_with (go_at_call 49; go_must (refine h1.mono ?_); rintro x w1 ⟨rfl, hm1⟩)
    exact ⟨rfl, Got.no HE.out hr hm1⟩

set_option maxRecDepth 10000 in
set_option maxHeartbeats 1000000 in
theorem cuOut_any (g : Nat) (l m : List UInt8) (w : World) (h : Cu w g l m) (hl : l.length ≤ maxLen) :
    Calls Tryd.prog 52 #[.pointer (some ⟨g, 0, none⟩)] w (Got g l w (.tuple #[]) (rOut (m, 0))) := by
  have ht := cuTake_any g 8 l m w h hl
  rw [rOut_of]
  clear h
  generalize rTake 8 (m, 0) = p at ht
  obtain ⟨t1, m1, c1⟩ := p
  by_cases hr : c1 = 0
  · subst hr
    have h1 := calls_ok ht rfl
    have hs := fun (W : World) (hc : Cu W g l m1) => cuScript_any g l m1 W hc hl
    clear ht hl
    show Calls _ _ _ _ (Got g l w (.tuple #[]) (rScript (m1, 0)))
    generalize rScript (m1, 0) = r at hs
    by_cases hr : r.2 = 0
    · have h2 := fun (W : World) (hc : Cu W g l m1) => calls_ok (hs W hc) hr
      clear hs
      go_enter Tryd.func52, Tryd.ntmps52
      go_upto_region 1 with (go_at_call 49; go_must (refine h1.mono ?_); rintro x w1 ⟨rfl, hc1, hm1⟩; have HC1 := (show Hid (Cu w1 g l m1) from hc1); have HM1 := (show Hid (Mov g w w1) from hm1); clear hc1 hm1)
      go_wp2_with (go_at_call 77; go_must (refine (h2 _ HC1.out).mono ?_); rintro x w2 ⟨rfl, hc2, hm2⟩)
      go_end0
      exact Got.ok hr (HM1.out.trans hm2) hc2
    · have h2 := fun (W : World) (hc : Cu W g l m1) => calls_no (hs W hc) hr
      clear hs
      go_enter Tryd.func52, Tryd.ntmps52
      go_upto_region 1 with (go_at_call 49; go_must (refine h1.mono ?_); rintro x w1 ⟨rfl, hc1, hm1⟩; have HC1 := (show Hid (Cu w1 g l m1) from hc1); have HM1 := (show Hid (Mov g w w1) from hm1); clear hc1 hm1)
      go_wp2_with (go_at_call 77; go_must (refine (h2 _ HC1.out).mono ?_); rintro x w2 ⟨rfl, hm2⟩)
      exact ⟨rfl, Got.no rfl hr (HM1.out.trans hm2)⟩
  · have h1 := calls_no ht hr
    have HE : Hid ((rScript (m1, c1)).2 = c1) := stick_script (m1, c1) hr
    clear ht hl
    show Calls _ _ _ _ (Got g l w (.tuple #[]) (rScript (m1, c1)))
    generalize rScript (m1, c1) = r3 at HE
    go_enter Tryd.func52, Tryd.ntmps52
    go_wp2_with (go_at_call 49; go_must (refine h1.mono ?_); rintro x w1 ⟨rfl, hm1⟩)
    exact ⟨rfl, Got.no HE.out hr hm1⟩

set_option maxRecDepth 10000 in
set_option maxHeartbeats 1000000 in
theorem cuIns_any (g : Nat) (l m : List UInt8) (w : World) (h : Cu w g l m) (hl : l.length ≤ maxLen) :
    Calls Tryd.prog 50 #[.pointer (some ⟨g, 0, none⟩), .int .u64 1, .int .u64 4, .func (.func 51) #[] #[]] w (Got g l w (.tuple #[]) (rep rIn (rWithin 1 4 (m, 0)).1 (rWithin 1 4 (m, 0)).2)) := by
  have hz := cuSize_any g 1 4 l m w h hl
  have hq := rWithin_hi 1 4 (m, 0)
  have HP : Hid (∀ (W : World) (m : List UInt8), Cu W g l m → Calls Tryd.prog 51 #[.pointer (some ⟨g, 0, none⟩)] W (Got g l W (.tuple #[]) (rIn (m, 0)))) := fun W m hc => cuIn_any g l m W hc hl
  clear h hl
  generalize rWithin 1 4 (m, 0) = p at hz hq
  obtain ⟨q, m1, c1⟩ := p
  have hq' : q ≤ 4 := hq
  clear hq
  by_cases hr : c1 = 0
  · subst hr
    have h1 := calls_ok hz rfl
    clear hz
    show Calls _ _ _ _ (Got g l w (.tuple #[]) (rep rIn q (m1, 0)))
    obtain ⟨R, HR⟩ : ∃ R, Hid (R = rep rIn q (m1, 0)) := ⟨_, rfl⟩
    rw [← HR.out]
    go_enter Tryd.func50, Tryd.ntmps50
    go_upto_region 1 with (go_at_call 76; go_must (refine h1.mono ?_); rintro x w1 ⟨rfl, hc1, hm1⟩; have HC1 := (show Hid (Cu w1 g l m1) from hc1); have HM1 := (show Hid (Mov g w w1) from hm1); clear hc1 hm1)
    go_loopg [14] q (fun g' iv wx => ∃ k : Nat, ∃ m : List UInt8, k + g' = q ∧ iv = .int .u64 (k : Int) ∧ rep rIn g' (m, 0) = R ∧ Cu wx g l m ∧ Mov g w wx)
    case atStart => exact ⟨0, m1, by omega, rfl, HR.out.symm, HC1.out, HM1.out⟩
    case round =>
      clear HC1 HM1 HR
      obtain ⟨k, m2, hk, rfl, hrep, hc, hm⟩ := hrel
      have HC : Hid (Cu wr g l m2) := hc
      have HM : Hid (Mov g w wr) := hm
      have HE : Hid (rep rIn gk (m2, 0) = R) := hrep
      clear hc hm hrep
      by_cases h0 : gk = 0
      · subst h0
        have hlt : ¬ ((k : Int) < (q : Int)) := by omega
        have hE : (m2, 0) = R := HE.out
        go_wp2
        go_end0
        rw [← hE]
        exact Got.ok rfl HM.out HC.out
      · obtain ⟨j, rfl⟩ : ∃ j, gk = j + 1 := ⟨gk - 1, by omega⟩
        have hlt : (k : Int) < (q : Int) := by omega
        have hp := HP.out wr m2 HC.out
        have HE2 : Hid (rep rIn j (rIn (m2, 0)) = R) := HE.out
        clear HE
        generalize rIn (m2, 0) = r at hp HE2
        obtain ⟨m3, c3⟩ := r
        by_cases hr : c3 = 0
        · subst hr
          have h3 := calls_ok hp rfl
          clear hp
          go_wp2_with (go_at_call 51; go_must (refine h3.mono ?_); rintro x w3 ⟨rfl, hc3, hm3⟩; have HC3 := (show Hid (Cu w3 g l m3) from hc3); have HM3 := (show Hid (Mov g wr w3) from hm3); clear hc3 hm3)
          go_roundg j
          case measure => omega
          case rel => exact ⟨k + 1, m3, by omega, by go_num, HE2.out, HC3.out, HM.out.trans HM3.out⟩
        · have h3 := calls_no hp hr
          have hR : R.2 = c3 := by rw [← HE2.out]; exact stick_rep stick_in j (m3, c3) hr
          clear hp
          go_wp2_with (go_at_call 51; go_must (refine h3.mono ?_); rintro x w3 ⟨rfl, hm3⟩)
          exact ⟨rfl, Got.no hR hr (HM.out.trans hm3)⟩
  · have h1 := calls_no hz hr
    have HE : Hid ((rep rIn q (m1, c1)).2 = c1) := stick_rep stick_in q (m1, c1) hr
    clear hz
    show Calls _ _ _ _ (Got g l w (.tuple #[]) (rep rIn q (m1, c1)))
    generalize rep rIn q (m1, c1) = r3 at HE
    go_enter Tryd.func50, Tryd.ntmps50
    go_wp2_with (go_at_call 76; go_must (refine h1.mono ?_); rintro x w1 ⟨rfl, hm1⟩)
    exact ⟨rfl, Got.no HE.out hr hm1⟩

set_option maxRecDepth 10000 in
set_option maxHeartbeats 1000000 in
theorem cuOuts_any (g : Nat) (l m : List UInt8) (w : World) (h : Cu w g l m) (hl : l.length ≤ maxLen) :
    Calls Tryd.prog 50 #[.pointer (some ⟨g, 0, none⟩), .int .u64 1, .int .u64 4, .func (.func 52) #[] #[]] w (Got g l w (.tuple #[]) (rep rOut (rWithin 1 4 (m, 0)).1 (rWithin 1 4 (m, 0)).2)) := by
  have hz := cuSize_any g 1 4 l m w h hl
  have hq := rWithin_hi 1 4 (m, 0)
  have HP : Hid (∀ (W : World) (m : List UInt8), Cu W g l m → Calls Tryd.prog 52 #[.pointer (some ⟨g, 0, none⟩)] W (Got g l W (.tuple #[]) (rOut (m, 0)))) := fun W m hc => cuOut_any g l m W hc hl
  clear h hl
  generalize rWithin 1 4 (m, 0) = p at hz hq
  obtain ⟨q, m1, c1⟩ := p
  have hq' : q ≤ 4 := hq
  clear hq
  by_cases hr : c1 = 0
  · subst hr
    have h1 := calls_ok hz rfl
    clear hz
    show Calls _ _ _ _ (Got g l w (.tuple #[]) (rep rOut q (m1, 0)))
    obtain ⟨R, HR⟩ : ∃ R, Hid (R = rep rOut q (m1, 0)) := ⟨_, rfl⟩
    rw [← HR.out]
    go_enter Tryd.func50, Tryd.ntmps50
    go_upto_region 1 with (go_at_call 76; go_must (refine h1.mono ?_); rintro x w1 ⟨rfl, hc1, hm1⟩; have HC1 := (show Hid (Cu w1 g l m1) from hc1); have HM1 := (show Hid (Mov g w w1) from hm1); clear hc1 hm1)
    go_loopg [14] q (fun g' iv wx => ∃ k : Nat, ∃ m : List UInt8, k + g' = q ∧ iv = .int .u64 (k : Int) ∧ rep rOut g' (m, 0) = R ∧ Cu wx g l m ∧ Mov g w wx)
    case atStart => exact ⟨0, m1, by omega, rfl, HR.out.symm, HC1.out, HM1.out⟩
    case round =>
      clear HC1 HM1 HR
      obtain ⟨k, m2, hk, rfl, hrep, hc, hm⟩ := hrel
      have HC : Hid (Cu wr g l m2) := hc
      have HM : Hid (Mov g w wr) := hm
      have HE : Hid (rep rOut gk (m2, 0) = R) := hrep
      clear hc hm hrep
      by_cases h0 : gk = 0
      · subst h0
        have hlt : ¬ ((k : Int) < (q : Int)) := by omega
        have hE : (m2, 0) = R := HE.out
        go_wp2
        go_end0
        rw [← hE]
        exact Got.ok rfl HM.out HC.out
      · obtain ⟨j, rfl⟩ : ∃ j, gk = j + 1 := ⟨gk - 1, by omega⟩
        have hlt : (k : Int) < (q : Int) := by omega
        have hp := HP.out wr m2 HC.out
        have HE2 : Hid (rep rOut j (rOut (m2, 0)) = R) := HE.out
        clear HE
        generalize rOut (m2, 0) = r at hp HE2
        obtain ⟨m3, c3⟩ := r
        by_cases hr : c3 = 0
        · subst hr
          have h3 := calls_ok hp rfl
          clear hp
          go_wp2_with (go_at_call 52; go_must (refine h3.mono ?_); rintro x w3 ⟨rfl, hc3, hm3⟩; have HC3 := (show Hid (Cu w3 g l m3) from hc3); have HM3 := (show Hid (Mov g wr w3) from hm3); clear hc3 hm3)
          go_roundg j
          case measure => omega
          case rel => exact ⟨k + 1, m3, by omega, by go_num, HE2.out, HC3.out, HM.out.trans HM3.out⟩
        · have h3 := calls_no hp hr
          have hR : R.2 = c3 := by rw [← HE2.out]; exact stick_rep stick_out j (m3, c3) hr
          clear hp
          go_wp2_with (go_at_call 52; go_must (refine h3.mono ?_); rintro x w3 ⟨rfl, hm3⟩)
          exact ⟨rfl, Got.no hR hr (HM.out.trans hm3)⟩
  · have h1 := calls_no hz hr
    have HE : Hid ((rep rOut q (m1, c1)).2 = c1) := stick_rep stick_out q (m1, c1) hr
    clear hz
    show Calls _ _ _ _ (Got g l w (.tuple #[]) (rep rOut q (m1, c1)))
    generalize rep rOut q (m1, c1) = r3 at HE
    go_enter Tryd.func50, Tryd.ntmps50
    go_wp2_with (go_at_call 76; go_must (refine h1.mono ?_); rintro x w1 ⟨rfl, hm1⟩)
    exact ⟨rfl, Got.no HE.out hr hm1⟩
end Go.Proofs.YtkmalggeieiepabDoor
namespace Go.Proofs.YtkmalggeieiepabDoor
open Go.RowKit

theorem rTx_of (m : List UInt8) : rTx (m, 0) = (rTake 4 (rOuts (rIns (rTake 4 (m, 0)).2))).2 := rfl
theorem stick_ins : Stick rIns := stick_reps stick_in 1 4
theorem stick_outs : Stick rOuts := stick_reps stick_out 1 4

set_option maxRecDepth 10000 in
set_option maxHeartbeats 2000000 in
theorem cuTx_any (g : Nat) (l m : List UInt8) (w : World) (h : Cu w g l m) (hl : l.length ≤ maxLen) :
    Calls Tryd.prog 26 #[.pointer (some ⟨g, 0, none⟩)] w (Got g l w (.string (ofL (m.take (m.length - (rTx (m, 0)).1.length)))) (rTx (m, 0))) := by
  have ht := cuTake_any g 4 l m w h hl
  have hle := rTx_le (m, 0)
  obtain ⟨a, ha, hma, d1⟩ := h.e
  obtain ⟨R, HR⟩ : ∃ R, Hid (R = rTx (m, 0)) := ⟨_, rfl⟩
  rw [← HR.out]
  rw [← HR.out] at hle
  have HR1 : Hid (R = (rTake 4 (rOuts (rIns (rTake 4 (m, 0)).2))).2) := by show _ = _; rw [HR.out]; rfl
  clear h HR
  generalize rTake 4 (m, 0) = p at ht HR1
  obtain ⟨t1, m1, c1⟩ := p
  by_cases hr : c1 = 0
  · subst hr
    have h1 := calls_ok ht rfl
    have hs : ∀ (W : World), Cu W g l m1 → Calls Tryd.prog 50 #[.pointer (some ⟨g, 0, none⟩), .int .u64 1, .int .u64 4, .func (.func 51) #[] #[]] W (Got g l W (.tuple #[]) (rIns (m1, 0))) := fun W hc => cuIns_any g l m1 W hc hl
    clear ht
    have HR2 : Hid (R = (rTake 4 (rOuts (rIns (m1, 0)))).2) := HR1.out
    clear HR1
    generalize rIns (m1, 0) = r at hs HR2
    obtain ⟨m2, c2⟩ := r
    by_cases hr : c2 = 0
    · subst hr
      have h2 := fun (W : World) (hc : Cu W g l m1) => calls_ok (hs W hc) rfl
      have hs2 : ∀ (W : World), Cu W g l m2 → Calls Tryd.prog 50 #[.pointer (some ⟨g, 0, none⟩), .int .u64 1, .int .u64 4, .func (.func 52) #[] #[]] W (Got g l W (.tuple #[]) (rOuts (m2, 0))) := fun W hc => cuOuts_any g l m2 W hc hl
      clear hs
      generalize rOuts (m2, 0) = r at hs2 HR2
      obtain ⟨m3, c3⟩ := r
      by_cases hr : c3 = 0
      · subst hr
        have h3 := fun (W : World) (hc : Cu W g l m2) => calls_ok (hs2 W hc) rfl
        have hs3 : ∀ (W : World), Cu W g l m3 → Calls Tryd.prog 49 #[.pointer (some ⟨g, 0, none⟩), .int .i64 4] W (Got g l W (.string (ofL (rTake 4 (m3, 0)).1)) (rTake 4 (m3, 0)).2) := fun W hc => cuTake_any g 4 l m3 W hc hl
        clear hs2
        generalize rTake 4 (m3, 0) = p at hs3 HR2
        obtain ⟨t4, m4, c4⟩ := p
        have hR : R = (m4, c4) := HR2.out
        clear HR2
        subst hR
        have hle' : m4.length ≤ m.length := hle
        clear hle
        by_cases hr : c4 = 0
        · subst hr
          have h4 := fun (W : World) (hc : Cu W g l m3) => calls_ok (hs3 W hc) rfl
          clear hs3
          go_enter Tryd.func26, Tryd.ntmps26
          go_upto_region 3 with (go_at_call 49; go_must (refine h1.mono ?_); rintro x w1 ⟨rfl, hc1, hm1⟩; have HC1 := (show Hid (Cu w1 g l m1) from hc1); have HM1 := (show Hid (Mov g w w1) from hm1); clear hc1 hm1)
          go_upto_region 4 with (go_at_call 50; go_must (refine (h2 _ HC1.out).mono ?_); rintro x w2 ⟨rfl, hc2, hm2⟩; have HC2 := (show Hid (Cu w2 g l m2) from hc2); have HM2 := (show Hid (Mov g w w2) from HM1.out.trans hm2); clear hc2 hm2)
          go_upto_region 5 with (go_at_call 50; go_must (refine (h3 _ HC2.out).mono ?_); rintro x w3 ⟨rfl, hc3, hm3⟩; have HC3 := (show Hid (Cu w3 g l m3) from hc3); have HM3 := (show Hid (Mov g w w3) from HM2.out.trans hm3); clear hc3 hm3)
          go_upto_region 6 with (go_at_call 49; go_must (refine (h4 _ HC3.out).mono ?_); rintro x w4 ⟨rfl, hc4, hm4⟩; have HC4 := (show Hid (Cu w4 g l m4) from hc4); have HM4 := (show Hid (Mov g w w4) from HM3.out.trans hm4); clear hc4 hm4)
          have e0 := HC4.out.s
          obtain ⟨b, hb, hmb, e1⟩ := HC4.out.e
          have hsz := ofL_size l
          have hml : m.length = l.length - a := by rw [hma]; simp
          have hm4 : m4.length = l.length - b := by rw [hmb]; simp
          have b1 : (a : Int) ≤ (b : Int) := by omega
          have b2 : (b : Int) ≤ (l.length : Int) := by omega
          have HX : Hid ((ofL l).extract a b = ofL (m.take (m.length - m4.length))) := by
            show _ = _
            rw [ofL_extract, hml, hm4, hma]; congr 2; omega
          clear h1 h2 h3 h4 HC1 HC2 HC3 HM1 HM2 HM3 hml hm4 hmb hma d1
          go_quiet (fail)
          go_wp2
          go_ret
          show Got g l w (.string (ofL (m.take (m.length - m4.length)))) (m4, 0) (Ending.returned (Value.string ((ofL l).extract a b))) _
          rw [HX.out]
          exact Got.ok rfl (HM4.out.drewN _) (HC4.out.drewN _)
        · have h4 := fun (W : World) (hc : Cu W g l m3) => calls_no (hs3 W hc) hr
          clear hs3 hma
          go_enter Tryd.func26, Tryd.ntmps26
          go_upto_region 3 with (go_at_call 49; go_must (refine h1.mono ?_); rintro x w1 ⟨rfl, hc1, hm1⟩; have HC1 := (show Hid (Cu w1 g l m1) from hc1); have HM1 := (show Hid (Mov g w w1) from hm1); clear hc1 hm1)
          go_upto_region 4 with (go_at_call 50; go_must (refine (h2 _ HC1.out).mono ?_); rintro x w2 ⟨rfl, hc2, hm2⟩; have HC2 := (show Hid (Cu w2 g l m2) from hc2); have HM2 := (show Hid (Mov g w w2) from HM1.out.trans hm2); clear hc2 hm2)
          go_upto_region 5 with (go_at_call 50; go_must (refine (h3 _ HC2.out).mono ?_); rintro x w3 ⟨rfl, hc3, hm3⟩; have HC3 := (show Hid (Cu w3 g l m3) from hc3); have HM3 := (show Hid (Mov g w w3) from HM2.out.trans hm3); clear hc3 hm3)
          go_wp2_with (go_at_call 49; go_must (refine (h4 _ HC3.out).mono ?_); rintro x w4 ⟨rfl, hm4⟩)
          exact ⟨rfl, Got.no rfl hr (HM3.out.trans hm4)⟩
      · have h3 := fun (W : World) (hc : Cu W g l m2) => calls_no (hs2 W hc) hr
        have HE : Hid (R.2 = c3) := by show _ = _; rw [HR2.out]; exact stick_take 4 (m3, c3) hr
        clear hs2 HR2 hma hle
        go_enter Tryd.func26, Tryd.ntmps26
        go_upto_region 3 with (go_at_call 49; go_must (refine h1.mono ?_); rintro x w1 ⟨rfl, hc1, hm1⟩; have HC1 := (show Hid (Cu w1 g l m1) from hc1); have HM1 := (show Hid (Mov g w w1) from hm1); clear hc1 hm1)
        go_upto_region 4 with (go_at_call 50; go_must (refine (h2 _ HC1.out).mono ?_); rintro x w2 ⟨rfl, hc2, hm2⟩; have HC2 := (show Hid (Cu w2 g l m2) from hc2); have HM2 := (show Hid (Mov g w w2) from HM1.out.trans hm2); clear hc2 hm2)
        go_wp2_with (go_at_call 50; go_must (refine (h3 _ HC2.out).mono ?_); rintro x w3 ⟨rfl, hm3⟩)
        exact ⟨rfl, Got.no HE.out hr (HM2.out.trans hm3)⟩
    · have h2 := fun (W : World) (hc : Cu W g l m1) => calls_no (hs W hc) hr
      have HE : Hid (R.2 = c2) := by show _ = _; rw [HR2.out]; exact (stick_outs.comp (stick_take 4)) (m2, c2) hr
      clear hs HR2 hma hle
      go_enter Tryd.func26, Tryd.ntmps26
      go_upto_region 3 with (go_at_call 49; go_must (refine h1.mono ?_); rintro x w1 ⟨rfl, hc1, hm1⟩; have HC1 := (show Hid (Cu w1 g l m1) from hc1); have HM1 := (show Hid (Mov g w w1) from hm1); clear hc1 hm1)
      go_wp2_with (go_at_call 50; go_must (refine (h2 _ HC1.out).mono ?_); rintro x w2 ⟨rfl, hm2⟩)
      exact ⟨rfl, Got.no HE.out hr (HM1.out.trans hm2)⟩
  · have h1 := calls_no ht hr
    have HE : Hid (R.2 = c1) := by show _ = _; rw [HR1.out]; exact ((stick_ins.comp stick_outs).comp (stick_take 4)) (m1, c1) hr
    clear ht HR1 hma hle
    go_enter Tryd.func26, Tryd.ntmps26
    go_wp2_with (go_at_call 49; go_must (refine h1.mono ?_); rintro x w1 ⟨rfl, hm1⟩)
    exact ⟨rfl, Got.no HE.out hr hm1⟩
end Go.Proofs.YtkmalggeieiepabDoor
