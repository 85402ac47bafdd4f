import Derived.WalkKit
import Derived.WalkSpells
import Derived.Deep.MidRow
import Derived.Deep.QuietTactic
namespace Go.Proofs.YtkmalggeieiepabDoor
open Go.RowKit

/-- a 32-bit number. -/
def IsW (x : Int) : Prop := 0 ≤ x ∧ x < 4294967296
theorem isW_wrap (x : Int) : IsW (IntKind.u32.wrap x) := by
  unfold IsW; rw [IntKind.wrap_u32]; omega
theorem isW_bits (o : BinOp) (x y : Int) : IsW (bits o .u32 x y) := isW_wrap _
/-- turned right by n. -/
def rr (n : Int) (x : Int) : Int := bits .or .u32 (IntKind.u32.wrap (x * 2 ^ (32 - n).toNat)) (x / 2 ^ n.toNat)
theorem isW_rr (n x : Int) : IsW (rr n x) := isW_wrap _

/-- n cells: numbers of one kind. -/
def wl (K : IntKind) (f : Nat → Int) (n : Nat) : List Value := (List.range n).map fun j => Value.int K (f j)
theorem wl_length (K : IntKind) (f : Nat → Int) (n : Nat) : (wl K f n).length = n := by simp [wl]
theorem wl_get (K : IntKind) (f : Nat → Int) (n j : Nat) (h : j < n) : (wl K f n)[j]? = some (.int K (f j)) := by simp [wl, h]
theorem wl_one (K : IntKind) (f : Nat → Int) (n : Nat) : ∀ v ∈ wl K f n, v.oneCell' = true := by
  intro v hv; simp [wl] at hv; obtain ⟨j, _, rfl⟩ := hv; rfl
theorem wl_congr (K : IntKind) (f g : Nat → Int) (n : Nat) (h : ∀ j, j < n → f j = g j) : wl K f n = wl K g n := by
  unfold wl; apply List.map_congr_left; intro j hj; rw [h j (by simpa using hj)]
def upd (f : Nat → Int) (i : Nat) (x : Int) : Nat → Int := fun j => if j = i then x else f j
theorem upd_same (f : Nat → Int) (i : Nat) (x : Int) : upd f i x i = x := by simp [upd]
theorem upd_other (f : Nat → Int) (i j : Nat) (x : Int) (h : j ≠ i) : upd f i x j = f j := by simp [upd, h]

/-- an array in a block of its own, that may be written. -/
def Arr (K : IntKind) (w : World) (g : Nat) (f : Nat → Int) (n : Nat) : Prop := ∀ j, j < n → w.cell? ⟨g, j, none⟩ = some (.int K (f j)) ∧ w.frozen? ⟨g, j, none⟩ = false
theorem scSame (w : World) (a : Addr) (v : Value) (h : (w.cell? a).isSome = true) : (w.setCell a v).cell? a = some v := by
  obtain ⟨u, hu⟩ := Option.isSome_iff_exists.1 h
  exact World.cell?_setCell_same _ _ _ hu
theorem Arr.range {K : IntKind} {w : World} {g n : Nat} {f : Nat → Int} (h : Arr K w g f n) : w.rangeAt g 0 (wl K f n) := by
  intro j v hv
  have hj : j < n := by have := (List.getElem?_eq_some_iff.1 hv).1; rwa [wl_length] at this
  rw [wl_get K f n j hj] at hv
  rw [Nat.zero_add, (h j hj).1]; exact hv
theorem Arr.there {K : IntKind} {w : World} {g n : Nat} {f : Nat → Int} (h : Arr K w g f n) : w.there g 0 n := by
  intro j hj; rw [Nat.zero_add]; exact ⟨by rw [(h j hj).1]; rfl, (h j hj).2⟩
theorem Arr.congr {K : IntKind} {w : World} {g n : Nat} {f f' : Nat → Int} (h : Arr K w g f n) (e : ∀ j, j < n → f j = f' j) : Arr K w g f' n :=
  fun j hj => by rw [← e j hj]; exact h j hj
theorem Arr.drew {K : IntKind} {w : World} {g n : Nat} {f : Nat → Int} (h : Arr K w g f n) : Arr K w.drew g f n := h
theorem Arr.drewN {K : IntKind} {w : World} {g n : Nat} {f : Nat → Int} (h : Arr K w g f n) (m : Nat) : Arr K (w.drewN m) g f n := h
theorem Arr.set {K : IntKind} {w : World} {g n : Nat} {f : Nat → Int} (h : Arr K w g f n) (i : Nat) (hi : i < n) (x : Int) : Arr K (w.setCell ⟨g, i, none⟩ (.int K x)) g (upd f i x) n := by
  intro j hj
  refine ⟨?_, by simpa using (h j hj).2⟩
  by_cases e : j = i
  · subst e; rw [upd_same, scSame]; rw [(h j hj).1]; rfl
  · rw [upd_other _ _ _ _ e, World.cell?_setCell_other, (h j hj).1]; intro e2; exact e (by injection e2 with _ e3; exact e3.symm)
theorem Arr.far {K : IntKind} {w : World} {g n : Nat} {f : Nat → Int} (h : Arr K w g f n) (a : Addr) (v : Value) (hne : a.block ≠ g) : Arr K (w.setCell a v) g f n := by
  intro j hj
  refine ⟨?_, by simpa using (h j hj).2⟩
  rw [World.cell?_setCell_other, (h j hj).1]; intro e; exact hne (by rw [e])
theorem Arr.lt {K : IntKind} {w : World} {g n : Nat} {f : Nat → Int} (h : Arr K w g f n) (hn : 0 < n) : g < w.heap.size := World.block_lt_of_cell? w _ (h 0 hn).1
theorem Arr.later {K : IntKind} {w w' : World} {g n B : Nat} {f : Nat → Int} (h : Arr K w g f n) (hb : Below B w w') (hg : g < B) : Arr K w' g f n := fun j hj =>
  ⟨by rw [hb.cell (p := ⟨g, j, none⟩) hg]; exact (h j hj).1, by rw [hb.frozen (p := ⟨g, j, none⟩) hg]; exact (h j hj).2⟩
theorem Arr.alloc {K : IntKind} {w : World} {g n : Nat} {f : Nat → Int} (h : Arr K w g f n) (hn : 0 < n) (o : Obj) : Arr K (w.alloc o) g f n :=
  h.later ((Below.refl _ _).alloc (Nat.le_refl _) o) (h.lt hn)
theorem Arr.new {K : IntKind} (w : World) (f : Nat → Int) (n : Nat) (cs : Array Value) (T : Nat) (h : cs = (wl K f n).toArray) : Arr K (w.alloc (.cells cs T)) w.heap.size f n := by
  intro j hj
  subst h
  have := cell_of_row (w.alloc (.cells (wl K f n).toArray T)) w.heap.size j (wl K f n).toArray T (0, 0) (heap_alloc_new w _)
  refine ⟨?_, frozen_of_row _ _ _ _ T (heap_alloc_new w _)⟩
  rw [this]; simp [wl_get K f n j hj]
theorem Arr.newAt {K : IntKind} (w : World) (f : Nat → Int) (n g : Nat) (cs : Array Value) (T : Nat) (h : cs = (wl K f n).toArray) (hg : g = w.heap.size) : Arr K (w.alloc (.cells cs T)) g f n := by
  subst hg; exact Arr.new w f n cs T h
theorem Arr.all {K : IntKind} {w : World} {g n : Nat} {f : Nat → Int} (h : Arr K w g f n) (f' : Nat → Int) : Arr K (w.setCells g 0 (wl K f' n)) g f' n := by
  have h1 := World.rangeAt_setCells_same w g 0 (wl K f' n) (by rw [wl_length]; exact h.there)
  intro j hj
  have := h1 j _ (wl_get K f' n j hj)
  rw [Nat.zero_add] at this
  exact ⟨this, by rw [World.frozen?_setCells]; exact (h j hj).2⟩
theorem Arr.setsFar {K : IntKind} {w : World} {g n : Nat} {f : Nat → Int} (h : Arr K w g f n) (b : Nat) (vs : List Value) (hne : g ≠ b) : Arr K (w.setCells b 0 vs) g f n := by
  have h1 := World.rangeAt_setCells_apart h.range b 0 vs (.inl hne)
  intro j hj
  have := h1 j _ (wl_get K f n j hj)
  rw [Nat.zero_add] at this
  exact ⟨this, by rw [World.frozen?_setCells]; exact (h j hj).2⟩
theorem results_arr {P : Program} {fn : Func} {p : Tmp} {ty : TypeId} (h : fn.results = #[.cell p ty]) (tmps : Array Value) (w : World) (g : Nat) (K : IntKind) (f : Nat → Int) (n : Nat) (d : TypeDesc)
    (hp : tmps.getD p undef = .pointer (some ⟨g, 0, none⟩)) (hg : Arr K w g f n) (hu : P.underlying ty = some d) (hd : d.isRow = true) (hi : (P.info? ty).map (·.size) = some n) :
    (results fn tmps).run P w = .ok (.agg (wl K f n).toArray) w := by
  have hp' : tmps[p]?.getD undef = .pointer (some ⟨g, 0, none⟩) := by simpa using hp
  simp [results, h, hp', asAddr, run_loadVar_mid w g 0 ty (wl K f n) d hg.range hu hd (by rw [wl_length]; exact hi)]
theorem wpList_load_arr {P : Program} {ops : Array Oper} {rest : List Oper} {op : Oper} {a : Act} {w : World} {Q : Exit → Act → World → Prop} (hgd : op.guard = none) (ty : TypeId) (x : Operand) (ho : op.op = .load ty x)
    (g : Nat) (hx : a.eval x = .pointer (some ⟨g, 0, none⟩)) (K : IntKind) (f : Nat → Int) (n : Nat) (d : TypeDesc) (hA : Arr K w g f n)
    (hu : P.underlying ty = some d) (hd : d.isRow = true) (hi : (P.info? ty).map (·.size) = some n)
    (h : wpList P ops Q rest (a.put op.dst (.agg (wl K f n).toArray)) w) : wpList P ops Q (op :: rest) a w :=
  wpList_load_mid hgd ty x ho g 0 hx (wl K f n) d hA.range hu hd (by rw [wl_length]; exact hi) h
theorem wpList_store_arr {P : Program} {ops : Array Oper} {rest : List Oper} {op : Oper} {a : Act} {w : World} {Q : Exit → Act → World → Prop} (hgd : op.guard = none) (ty : TypeId) (x y : Operand) (ho : op.op = .store ty x y)
    (g : Nat) (K : IntKind) (f f' : Nat → Int) (n : Nat) (hx : a.eval x = .pointer (some ⟨g, 0, none⟩)) (hy : a.eval y = .agg (wl K f' n).toArray) (hA : Arr K w g f n)
    (hi : (P.info? ty).map (·.size) = some n)
    (h : wpList P ops Q rest (a.put op.dst undef) (w.setCells g 0 (wl K f' n))) : wpList P ops Q (op :: rest) a w :=
  wpList_store_mid hgd ty x y ho g 0 (wl K f' n).toArray hx hy (by rw [List.size_toArray, wl_length]; exact hA.there) (by rw [List.size_toArray, wl_length]; exact hi) (all_oneCell_toArray (wl_one _ _ _)) (by simpa using h)
theorem below_setCells {B : Nat} {a w : World} (h : Below B a w) (b : Nat) (hb : B ≤ b) : ∀ (vs : List Value) (o : Nat), Below B a (w.setCells b o vs) := by
  intro vs
  induction vs generalizing w with
  | nil => intro o; exact h
  | cons v vs ih => intro o; exact ih (h.setCell hb v) (o + 1)
theorem cell_setCells_far (w : World) (b g j : Nat) (hne : b ≠ g) : ∀ (vs : List Value) (o : Nat), (w.setCells b o vs).cell? ⟨g, j, none⟩ = w.cell? ⟨g, j, none⟩ := by
  intro vs
  induction vs generalizing w with
  | nil => intro o; rfl
  | cons v vs ih => intro o; show ((w.setCell _ v).setCells b (o + 1) vs).cell? _ = _; rw [ih, World.cell?_setCell_other]; intro e; injection e with e1; exact hne e1
theorem size_setCells (w : World) (b : Nat) : ∀ (vs : List Value) (o : Nat), (w.setCells b o vs).heap.size = w.heap.size := by
  intro vs
  induction vs generalizing w with
  | nil => intro o; rfl
  | cons v vs ih => intro o; show ((w.setCell _ v).setCells b (o + 1) vs).heap.size = _; rw [ih]; simp
end Go.Proofs.YtkmalggeieiepabDoor
