import Derived.Test.YtkmalggeieiepaaDoorCuM
import Derived.WalkKit
import Derived.WalkSpells
import Derived.WalkLawsBesides
import Derived.Deep.DeepCutAuto
import Derived.Deep.QuietTactic
import Derived.BigQuiet
namespace Go.Proofs.YtkmalggeieiepaaDoor
open Go.RowKit

/-- a cursor lies in block g, ahead of m. -/
structure Cu (w : World) (g : Nat) (l m : List UInt8) : Prop where
  s : w.cell? ⟨g, 0, none⟩ = some (.string (ofL l))
  e : ∃ a : Nat, a ≤ l.length ∧ m = l.drop a ∧ w.cell? ⟨g, 1, none⟩ = some (.int .i64 (a : Int))
  ef : w.frozen? ⟨g, 1, none⟩ = false
theorem Cu.lt {w : World} {g : Nat} {l m : List UInt8} (h : Cu w g l m) : g < w.heap.size := World.block_lt_of_cell? w _ h.s
theorem Cu.later {w w' : World} {g : Nat} {l m : List UInt8} (h : Cu w g l m) (hb : Below w.heap.size w w') : Cu w' g l m := by
  have hl := h.lt
  obtain ⟨a, h1, h2, h3⟩ := h.e
  exact ⟨by rw [hb.cell (p := ⟨g, 0, none⟩) hl]; exact h.s, ⟨a, h1, h2, by rw [hb.cell (p := ⟨g, 1, none⟩) hl]; exact h3⟩, by rw [hb.frozen (p := ⟨g, 1, none⟩) hl]; exact h.ef⟩
theorem Cu.setA {w : World} {g : Nat} {l m : List UInt8} (h : Cu w g l m) (b : Nat) (hb : b ≤ l.length) : Cu (w.setCell ⟨g, 1, none⟩ (.int .i64 (b : Int))) g l (l.drop b) := by
  obtain ⟨a, _, _, h3⟩ := h.e
  refine ⟨?_, ⟨b, hb, rfl, World.cell?_setCell_same _ _ _ h3⟩, ?_⟩
  · rw [World.cell?_setCell_other _ _ _ _ (by simp)]; exact h.s
  · simp only [World.frozen?_setCell]; exact h.ef
theorem Cu.drewN {w : World} {g : Nat} {l m : List UInt8} (h : Cu w g l m) (n : Nat) : Cu (w.drewN n) g l m := ⟨h.s, h.e, h.ef⟩
/-- it leaves by a panic of this error. -/
def Errn (c : Int) : Ending := .panicked [{ v := .iface 26 (.int .i64 c), recovered := false }]
/-- a part was read, or it left. -/
def Got (g : Nat) (l : List UInt8) (w : World) (v : Value) (r : List UInt8 × Int) (x : Ending) (w' : World) : Prop :=
  Mov g w w' ∧ (if r.2 = 0 then x = .returned v ∧ Cu w' g l r.1 else x = Errn r.2)

theorem Got.ok {g : Nat} {l : List UInt8} {w w' : World} {v : Value} {r : List UInt8 × Int} (hr : r.2 = 0) (hm : Mov g w w') (hc : Cu w' g l r.1) : Got g l w v r (.returned v) w' := ⟨hm, by rw [if_pos hr]; exact ⟨rfl, hc⟩⟩
theorem Got.no {g : Nat} {l : List UInt8} {w w' : World} {v : Value} {r : List UInt8 × Int} {c : Int} (hr : r.2 = c) (hc : c ≠ 0) (hm : Mov g w w') : Got g l w v r (.panicked [{ v := .iface 26 (.int .i64 c), recovered := false }]) w' := ⟨hm, by rw [if_neg (by rw [hr]; exact hc), hr]; rfl⟩
theorem calls_ok {f : FuncId} {vs : Array Value} {g : Nat} {l : List UInt8} {w0 w : World} {v : Value} {r : List UInt8 × Int} (h : Calls Tryd.prog f vs w0 (Got g l w v r)) (hr : r.2 = 0) : Calls Tryd.prog f vs w0 fun x w' => x = .returned v ∧ Cu w' g l r.1 ∧ Mov g w w' :=
  h.mono fun x w' hx => by
    obtain ⟨hm, h2⟩ := hx
    rw [if_pos hr] at h2
    exact ⟨h2.1, h2.2, hm⟩
theorem calls_no {f : FuncId} {vs : Array Value} {g : Nat} {l : List UInt8} {w0 w : World} {v : Value} {r : List UInt8 × Int} (h : Calls Tryd.prog f vs w0 (Got g l w v r)) (hr : r.2 ≠ 0) : Calls Tryd.prog f vs w0 fun x w' => x = .panicked [{ v := .iface 26 (.int .i64 r.2), recovered := false }] ∧ Mov g w w' :=
  h.mono fun x w' hx => by
    obtain ⟨hm, h2⟩ := hx
    rw [if_neg hr] at h2
    exact ⟨h2, hm⟩
theorem Mov.drewN {g : Nat} {a w : World} (h : Mov g a w) (n : Nat) : Mov g a (w.drewN n) := ⟨h.os, h.tape, h.output, h.size, h.block⟩
theorem Mov.drew {g : Nat} {a w : World} (h : Mov g a w) : Mov g a w.drew := ⟨h.os, h.tape, h.output, h.size, h.block⟩

set_option maxRecDepth 10000 in
theorem cuTake_any (g n : Nat) (l m : List UInt8) (w : World) (h : Cu w g l m) (hl : l.length ≤ maxLen) :
    Calls Tryd.prog 54 #[.pointer (some ⟨g, 0, none⟩), .int .i64 (n : Int)] w (Got g l w (.string (ofL (rTake n (m, 0)).1)) (rTake n (m, 0)).2) := by
  have HR : Hid (Cu w g l m) := h
  have d0 := h.s
  obtain ⟨a, ha, hm, d1⟩ := h.e
  have d2 := h.ef
  have hsz := ofL_size l
  have hml : m.length = l.length - a := by rw [hm]; simp
  clear h
  by_cases hlt : m.length < n
  · have e3 : rTake n (m, 0) = ([], (m, 1)) := by simp [rTake, hlt]
    rw [e3]
    have hgt : wrap64 ((l.length : Int) - (a : Int)) < (n : Int) := by unfold wrap64; unfold maxLen at hl; omega
    go_enter Tryd.func54, Tryd.ntmps54
    go_wp2
    go_quiet (fail)
    go_wp2
    exact ⟨rfl, Got.no rfl (by omega) ((Mov.refl _ _).drewN _)⟩
  · have e3 : rTake n (m, 0) = (m.take n, (m.drop n, 0)) := by simp [rTake, hlt]
    rw [e3]
    have hgt : ¬ (wrap64 ((l.length : Int) - (a : Int)) < (n : Int)) := by unfold wrap64; unfold maxLen at hl; omega
    have hw : wrap64 ((a : Int) + (n : Int)) = ((a + n : Nat) : Int) := by unfold wrap64; unfold maxLen at hl; omega
    have x1 : (ofL l).extract a (a + n) = ofL (m.take n) := by rw [ofL_extract, hm]; congr 2; omega
    have b1 : (a : Int) ≤ ((a + n : Nat) : Int) := by omega
    have b2 : ((a + n : Nat) : Int) ≤ (l.length : Int) := by omega
    go_enter Tryd.func54, Tryd.ntmps54
    go_wp2
    go_quiet (fail)
    go_wp2
    go_quiet (fail)
    go_wp2
    go_ret
    have hd : m.drop n = l.drop (a + n) := by rw [hm, List.drop_drop]
    show Got _ _ _ _ _ (Ending.returned (Value.string ((ofL l).extract a (a + n)))) _
    rw [x1, hd]
    exact Got.ok rfl ((((Mov.refl _ _).drewN _).set 1 _).drewN _) (((HR.out.drewN _).setA (a + n) (by omega)).drewN _)

set_option maxRecDepth 10000 in
theorem cuEnd_any (g : Nat) (l m : List UInt8) (w : World) (h : Cu w g l m) :
    Calls Tryd.prog 53 #[.pointer (some ⟨g, 0, none⟩)] w (Got g l w (.tuple #[]) (rDone (m, 0))) := by
  have HR : Hid (Cu w g l m) := h
  have d0 := h.s
  obtain ⟨a, ha, hm, d1⟩ := h.e
  have hsz := ofL_size l
  have hml : m.length = l.length - a := by rw [hm]; simp
  clear h
  by_cases hlt : a < l.length
  · have hne : m ≠ [] := fun e => by rw [e] at hml; simp at hml; omega
    have e3 : rDone (m, 0) = (m, 5) := by simp [rDone, hne]
    rw [e3]
    have hgt : (a : Int) < (l.length : Int) := by omega
    go_enter Tryd.func53, Tryd.ntmps53
    go_wp2
    go_quiet (fail)
    go_wp2
    exact ⟨rfl, Got.no rfl (by omega) ((Mov.refl _ _).drewN _)⟩
  · have hne : m = [] := List.eq_nil_of_length_eq_zero (by omega)
    have e3 : rDone (m, 0) = (m, 0) := by simp [rDone, hne]
    rw [e3]
    have hgt : ¬ ((a : Int) < (l.length : Int)) := by omega
    go_enter Tryd.func53, Tryd.ntmps53
    go_wp2
    go_quiet (fail)
    go_wp2
    go_end0
    exact Got.ok rfl ((Mov.refl _ _).drewN _) (HR.out.drewN _)

/-- a size of so many bytes. -/
def rLong (k b : Nat) (m : List UInt8) : Nat × (List UInt8 × Int) :=
  if m.length < k then (0, (m, 1)) else (num (m.take k), (m.drop k, if num (m.take k) < b then 2 else 0))
set_option maxRecDepth 10000 in
theorem cuLong_any (g k b : Nat) (l m : List UInt8) (w : World) (h : Cu w g l m) (hl : l.length ≤ maxLen) (hk : k ≤ 8) :
    Calls Tryd.prog 99 #[.pointer (some ⟨g, 0, none⟩), .int .i64 (k : Int), .int .u64 (b : Int)] w (Got g l w (.int .u64 ((rLong k b m).1 : Int)) (rLong k b m).2) := by
  have hT := cuTake_any g k l m w h hl
  clear h
  by_cases hlt : m.length < k
  · have e3 : rTake k (m, 0) = ([], (m, 1)) := by simp [rTake, hlt]
    have e4 : rLong k b m = (0, (m, 1)) := by simp [rLong, hlt]
    rw [e3] at hT
    rw [e4]
    have hN := calls_no hT (by simp)
    clear hT
    go_enter Tryd.func99, Tryd.ntmps99
    go_wp2_with (go_at_call 54; go_must (refine hN.mono ?_); rintro x w1 ⟨rfl, hm1⟩)
    exact ⟨rfl, Got.no rfl (by omega) hm1⟩
  · have e3 : rTake k (m, 0) = (m.take k, (m.drop k, 0)) := by simp [rTake, hlt]
    have e4 : rLong k b m = (num (m.take k), (m.drop k, if num (m.take k) < b then 2 else 0)) := by simp [rLong, hlt]
    rw [e3] at hT
    rw [e4]
    have hN := calls_ok hT rfl
    have hL := fun W => lowest_any (ofL (m.take k)) W (by rw [ofL_size]; simp; omega)
    rw [ofL_data] at hL
    clear hT e3 e4
    generalize num (m.take k) = N at hL
    by_cases hb : N < b
    · have hb' : (N : Int) < (b : Int) := by omega
      rw [if_pos hb]
      go_enter Tryd.func99, Tryd.ntmps99
      go_wp2_with (first | (go_at_call 54; go_must (refine hN.mono ?_); rintro x w1 ⟨rfl, hc1, hm1⟩) | (go_at_call 89; go_must (refine (hL _).mono ?_); rintro x w2 ⟨rfl, rfl⟩))
      exact ⟨rfl, Got.no rfl (by omega) hm1⟩
    · have hb' : ¬ ((N : Int) < (b : Int)) := by omega
      rw [if_neg hb]
      go_enter Tryd.func99, Tryd.ntmps99
      go_wp2_with (first | (go_at_call 54; go_must (refine hN.mono ?_); rintro x w1 ⟨rfl, hc1, hm1⟩) | (go_at_call 89; go_must (refine (hL _).mono ?_); rintro x w2 ⟨rfl, rfl⟩))
      go_ret
      exact Got.ok rfl hm1 hc1
end Go.Proofs.YtkmalggeieiepaaDoor
