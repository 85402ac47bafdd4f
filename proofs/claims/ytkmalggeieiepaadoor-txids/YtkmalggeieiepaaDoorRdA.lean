import Derived.Test.YtkmalggeieiepaaDoorSipEr
import Derived.WalkKit
import Derived.WalkSpells
import Derived.WalkLawsBesides
import Derived.Lib.Strings
import Derived.Below
namespace Go.Proofs.YtkmalggeieiepaaDoor
open Go.RowKit

/-- a text of these bytes. -/
def ofL (l : List UInt8) : ByteArray := ⟨l.toArray⟩
theorem ofL_data (l : List UInt8) : (ofL l).data.toList = l := rfl
theorem ofL_size (l : List UInt8) : (ofL l).size = l.length := by simp [ofL, ByteArray.size]
theorem ofL_of (s : ByteArray) : ofL s.data.toList = s := by apply ByteArray.ext; simp [ofL]
theorem ofL_inj {a b : List UInt8} (h : ofL a = ofL b) : a = b := by rw [← ofL_data a, ← ofL_data b, h]
theorem ofL_append (a b : List UInt8) : ofL a ++ ofL b = ofL (a ++ b) := by
  apply ByteArray.ext; rw [ByteArray.data_append]; simp [ofL]
theorem ofL_extract (l : List UInt8) (a b : Nat) : (ofL l).extract a b = ofL ((l.drop a).take (b - a)) := by
  have h := Lib.extract_data (ofL l) a b
  rw [← ofL_of ((ofL l).extract a b), h, ofL_data]
theorem ofL_get (l : List UInt8) (j : Nat) (h : j < l.length) : (ofL l)[j]'(by rw [ofL_size]; exact h) = l[j] := by
  show l.toArray[j] = l[j]
  simp

/-- as it was but for one block, and new ones. -/
structure Mov (g : Nat) (w w' : World) : Prop where
  os : w'.os = w.os
  tape : w'.tape = w.tape
  output : w'.output = w.output
  size : w.heap.size ≤ w'.heap.size
  block : ∀ k, k < w.heap.size → k ≠ g → w'.heap[k]? = w.heap[k]?
theorem Mov.refl (g : Nat) (w : World) : Mov g w w := ⟨rfl, rfl, rfl, Nat.le_refl _, fun _ _ _ => rfl⟩
theorem Mov.trans {g : Nat} {a b c : World} (h : Mov g a b) (k : Mov g b c) : Mov g a c :=
  ⟨k.os.trans h.os, k.tape.trans h.tape, k.output.trans h.output, Nat.le_trans h.size k.size, fun i hi hg => (k.block i (Nat.lt_of_lt_of_le hi h.size) hg).trans (h.block i hi hg)⟩
theorem Mov.below {g : Nat} {w w' : World} (h : Mov g w w') {B : Nat} (hB : B ≤ g) (hs : B ≤ w.heap.size) : Below B w w' :=
  ⟨h.os, h.tape, h.output, h.size, fun k hk => h.block k (by omega) (by omega)⟩
theorem Below.mov {w w' : World} (h : Below w.heap.size w w') (g : Nat) : Mov g w w' := ⟨h.os, h.tape, h.output, h.size, fun k hk _ => h.block k hk⟩
theorem Mov.set {g : Nat} {a w : World} (h : Mov g a w) (i : Nat) (u : Value) : Mov g a (w.setCell ⟨g, i, none⟩ u) :=
  ⟨h.os, h.tape, h.output, by simpa using h.size, fun k hk hg => (Below.heap_setCell w ⟨g, i, none⟩ u k hg).trans (h.block k hk hg)⟩

/-- a reader lies in block g. -/
structure Rd (w : World) (g : Nat) (l : List UInt8) (e : Int) : Prop where
  s : w.cell? ⟨g, 0, none⟩ = some (.string (ofL l))
  sf : w.frozen? ⟨g, 0, none⟩ = false
  e : w.cell? ⟨g, 1, none⟩ = some (.int .i64 e)
  ef : w.frozen? ⟨g, 1, none⟩ = false
theorem Rd.lt {w : World} {g : Nat} {l : List UInt8} {e : Int} (h : Rd w g l e) : g < w.heap.size := World.block_lt_of_cell? w _ h.s
theorem Rd.later {w w' : World} {g : Nat} {l : List UInt8} {e : Int} (h : Rd w g l e) (hb : Below w.heap.size w w') : Rd w' g l e := by
  have hl := h.lt
  exact ⟨by rw [hb.cell (p := ⟨g, 0, none⟩) hl]; exact h.s, by rw [hb.frozen (p := ⟨g, 0, none⟩) hl]; exact h.sf, by rw [hb.cell (p := ⟨g, 1, none⟩) hl]; exact h.e, by rw [hb.frozen (p := ⟨g, 1, none⟩) hl]; exact h.ef⟩
theorem Rd.setE {w : World} {g : Nat} {l : List UInt8} {e : Int} (h : Rd w g l e) (c : Int) : Rd (w.setCell ⟨g, 1, none⟩ (.int .i64 c)) g l c := by
  refine ⟨?_, ?_, ?_, ?_⟩
  · rw [World.cell?_setCell_other _ _ _ _ (by simp)]; exact h.s
  · simp only [World.frozen?_setCell]; exact h.sf
  · exact World.cell?_setCell_same _ _ _ h.e
  · simp only [World.frozen?_setCell]; exact h.ef
theorem Rd.setS {w : World} {g : Nat} {l : List UInt8} {e : Int} (h : Rd w g l e) (m : List UInt8) : Rd (w.setCell ⟨g, 0, none⟩ (.string (ofL m))) g m e := by
  refine ⟨?_, ?_, ?_, ?_⟩
  · exact World.cell?_setCell_same _ _ _ h.s
  · simp only [World.frozen?_setCell]; exact h.sf
  · rw [World.cell?_setCell_other _ _ _ _ (by simp)]; exact h.e
  · simp only [World.frozen?_setCell]; exact h.ef

/-- what is left to be read, and what was wrong. -/
def rWrong (c : Int) (r : List UInt8 × Int) : List UInt8 × Int := if r.2 = 0 then (r.1, c) else r
def rTake (n : Nat) (r : List UInt8 × Int) : List UInt8 × (List UInt8 × Int) :=
  if r.2 ≠ 0 then ([], r) else if r.1.length < n then ([], (r.1, 1)) else (r.1.take n, (r.1.drop n, r.2))

theorem wrong_any (g : Nat) (c : Int) (l : List UInt8) (e : Int) (w : World) (h : Rd w g l e) :
    Calls Tryd.prog 60 #[.pointer (some ⟨g, 0, none⟩), .int .i64 c] w fun x w' => x = .returned (.tuple #[]) ∧ Rd w' g (rWrong c (l, e)).1 (rWrong c (l, e)).2 ∧ Mov g w w' := by
  have HR : Hid (Rd w g l e) := h
  have h1 := h.e
  have h2 := h.ef
  clear h
  by_cases he : e = 0
  · go_enter Tryd.func60, Tryd.ntmps60
    go_wp2
    go_end0
    refine ⟨rfl, ?_, (Mov.refl g w).set 1 _⟩
    have e2 : rWrong c (l, e) = (l, c) := by simp [rWrong, he]
    rw [e2]; exact HR.out.setE c
  · go_enter Tryd.func60, Tryd.ntmps60
    go_wp2
    go_end0
    refine ⟨rfl, ?_, Mov.refl g w⟩
    have e2 : rWrong c (l, e) = (l, e) := by simp [rWrong, he]
    rw [e2]; exact HR.out

theorem take_any (g n : Nat) (l : List UInt8) (e : Int) (w : World) (h : Rd w g l e) :
    Calls Tryd.prog 58 #[.pointer (some ⟨g, 0, none⟩), .int .i64 (n : Int)] w fun x w' => x = .returned (.string (ofL (rTake n (l, e)).1)) ∧ Rd w' g (rTake n (l, e)).2.1 (rTake n (l, e)).2.2 ∧ Mov g w w' := by
  have HR : Hid (Rd w g l e) := h
  have h1 := h.e
  have h2 := h.s
  have h3 := h.sf
  have hsz := ofL_size l
  clear h
  by_cases he : e = 0
  · subst he
    by_cases hlt : l.length < n
    · have hw := wrong_any g 1 l 0 w HR.out
      have e2 : rWrong 1 (l, 0) = (l, 1) := by simp [rWrong]
      have e3 : rTake n (l, 0) = ([], (l, 1)) := by simp [rTake, hlt]
      rw [e2] at hw
      rw [e3]
      have hgt : (l.length : Int) < (n : Int) := by omega
      go_enter Tryd.func58, Tryd.ntmps58
      go_wp2_with (go_at_call 60; go_must (refine hw.mono ?_); rintro x w1 ⟨rfl, hr1, hm1⟩)
      go_ret
      exact ⟨rfl, hr1, hm1⟩
    · have e3 : rTake n (l, 0) = (l.take n, (l.drop n, 0)) := by simp [rTake, hlt]
      rw [e3]
      have x1 : (ofL l).extract 0 n = ofL (l.take n) := by rw [ofL_extract]; simp
      have x2 : (ofL l).extract n l.length = ofL (l.drop n) := by rw [ofL_extract, List.take_of_length_le (by simp)]
      have hle : (n : Int) ≤ (l.length : Int) := by omega
      have hng : ¬ ((l.length : Int) < (n : Int)) := by omega
      go_enter Tryd.func58, Tryd.ntmps58
      go_wp2
      go_ret
      exact ⟨rfl, HR.out.setS _, (Mov.refl g w).set 0 _⟩
  · have e3 : rTake n (l, e) = ([], (l, e)) := by simp [rTake, he]
    rw [e3]
    go_enter Tryd.func58, Tryd.ntmps58
    go_wp2
    go_ret
    exact ⟨rfl, HR.out, Mov.refl g w⟩
end Go.Proofs.YtkmalggeieiepaaDoor
