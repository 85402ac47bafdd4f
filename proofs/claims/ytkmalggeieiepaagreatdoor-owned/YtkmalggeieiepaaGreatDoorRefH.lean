import Derived.Test.YtkmalggeieiepaaGreatDoorRefG
import Derived.WalkKit
import Derived.WalkSpells
import Derived.WalkLawsBesides
import Derived.Lib.Strings
import Derived.Deep.QuietTactic
import Derived.BigQuiet
import Derived.Deep.LoopGhost
import Derived.Deep.DeepCutAuto
import Derived.Deep.RegionLaw
import Derived.Deep.RegionHeld3
import Derived.Deep.AppendLies
namespace Go.Proofs.YtkmalggeieiepaaGreatDoor
open Go.RowKit

theorem str1 (W : World) (x : Int) (h0 : 0 ≤ x) (h1 : x < 256) : (convert 120 9 (.slice (some ⟨W.heap.size, 0, none⟩) 1 1)).run Tryz.prog (W.alloc (.cells #[.int .u8 x] 5)) = .ok (.string ⟨#[UInt8.ofNat x.toNat]⟩) (W.alloc (.cells #[.int .u8 x] 5)) := by
  have e : ((UInt8.ofNat x.toNat).toNat : Int) = x := by simp; omega
  have := run_convert_bytes_back (P := Tryz.prog) (W.alloc (.cells #[.int .u8 x] 5)) 120 9 5 ⟨W.heap.size, 0, none⟩ 1 [UInt8.ofNat x.toNat] Tryz.underlying120 Tryz.underlying5 Tryz.underlying9
  refine this (fun j hj => ?_)
  obtain rfl : j = 0 := by simpa using hj
  simp only [List.getElem_cons_zero, e]
  simp [Addr.add, go_sem]
theorem app_toList (t : ByteArray) (b : UInt8) : (t ++ ⟨#[b]⟩ : ByteArray).data.toList = t.data.toList ++ [b] := by
  rw [ByteArray.data_append]; simp
theorem app_size (t : ByteArray) (b : UInt8) : (t ++ ⟨#[b]⟩ : ByteArray).size = t.size + 1 := by
  rw [ByteArray.size_append]; rfl
theorem toList_eq (s : ByteArray) : s.toList = s.data.toList := by
  obtain ⟨⟨l⟩⟩ := s
  simp
theorem some_left (t : ByteArray) (h : 0 < t.size) : t.toList.isEmpty = false := by
  rw [toList_eq]
  have hl : t.data.toList.length = t.size := rfl
  cases e : t.data.toList with
  | nil => rw [e] at hl; simp at hl; omega
  | cons a b => rfl
theorem none_left (t : ByteArray) (h : t.size = 0) : t.toList.isEmpty = true := by
  rw [toList_eq]
  have hl : t.data.toList.length = t.size := rfl
  rw [List.eq_nil_of_length_eq_zero (by omega : t.data.toList.length = 0)]; rfl
theorem byte_of (n k : Nat) : UInt8.ofNat (((n : Int) * 8 / 2 ^ k % 256).toNat) = UInt8.ofNat (n * 8 / 2 ^ k) := by
  have e : ((n : Int) * 8 / 2 ^ k % 256).toNat = n * 8 / 2 ^ k % 256 := by
    rw [show ((n : Int) * 8 / 2 ^ k % 256) = ((n * 8 / 2 ^ k % 256 : Nat) : Int) by simp, Int.toNat_natCast]
  rw [e, ← UInt8.toNat_inj]; simp

theorem idx_b (x : ByteArray) (i : Int) (j : Nat) (hi : i = (j : Int)) (hj : j < x.size) (h64 : j < 64) (W : World) : (Instr.index 9 (.string x) (.int .i64 i)).run Tryz.prog W = .ok (.int .u8 (bfn (x.data.toList.take 64) j : Int)) W := by
  subst hi
  rw [run_index_string W 9 x .i64 _ Tryz.underlying9, dif_pos ⟨by omega, by omega⟩, bfn_take x j h64 hj]
  rfl
theorem kcR_ok (k : Nat) (h : k < 64) : IsW (kcR k) := by
  have h0 : ((List.range 64).all fun k => decide (0 ≤ kcR k) && decide (kcR k < 4294967296)) = true := by kernel_rfl
  have h1 := List.all_eq_true.1 h0 k (by simpa using h)
  simp only [Bool.and_eq_true, decide_eq_true_eq] at h1
  exact h1
theorem str4 (W : World) (a b c d : Int) (a0 : 0 ≤ a) (a1 : a < 256) (b0 : 0 ≤ b) (b1 : b < 256) (c0 : 0 ≤ c) (c1 : c < 256) (d0 : 0 ≤ d) (d1 : d < 256) : (convert 120 9 (.slice (some ⟨W.heap.size, 0, none⟩) 4 4)).run Tryz.prog (W.alloc (.cells #[.int .u8 a, .int .u8 b, .int .u8 c, .int .u8 d] 5)) = .ok (.string ⟨#[UInt8.ofNat a.toNat, UInt8.ofNat b.toNat, UInt8.ofNat c.toNat, UInt8.ofNat d.toNat]⟩) (W.alloc (.cells #[.int .u8 a, .int .u8 b, .int .u8 c, .int .u8 d] 5)) := by
  have ea : ((UInt8.ofNat a.toNat).toNat : Int) = a := by simp; omega
  have eb : ((UInt8.ofNat b.toNat).toNat : Int) = b := by simp; omega
  have ec : ((UInt8.ofNat c.toNat).toNat : Int) = c := by simp; omega
  have ed : ((UInt8.ofNat d.toNat).toNat : Int) = d := by simp; omega
  have := run_convert_bytes_back (P := Tryz.prog) (W.alloc (.cells #[.int .u8 a, .int .u8 b, .int .u8 c, .int .u8 d] 5)) 120 9 5 ⟨W.heap.size, 0, none⟩ 4 [UInt8.ofNat a.toNat, UInt8.ofNat b.toNat, UInt8.ofNat c.toNat, UInt8.ofNat d.toNat] Tryz.underlying120 Tryz.underlying5 Tryz.underlying9
  refine this (fun j hj => ?_)
  have hj4 : j < 4 := by simpa using hj
  match j, hj4 with
  | 0, _ => simp only [List.getElem_cons_zero, ea]; simp [Addr.add, go_sem]
  | 1, _ => simp only [List.getElem_cons_succ, List.getElem_cons_zero, eb]; simp [Addr.add, go_sem]
  | 2, _ => simp only [List.getElem_cons_succ, List.getElem_cons_zero, ec]; simp [Addr.add, go_sem]
  | 3, _ => simp only [List.getElem_cons_succ, List.getElem_cons_zero, ed]; simp [Addr.add, go_sem]
theorem lsOf_add4 (f : Nat → Int) (n : Nat) : lsOf f (n + 4) = lsOf f n ++ [UInt8.ofNat (f n).toNat, UInt8.ofNat (f (n + 1)).toNat, UInt8.ofNat (f (n + 2)).toNat, UInt8.ofNat (f (n + 3)).toNat] := by
  unfold lsOf
  rw [List.range_succ, List.range_succ, List.range_succ, List.range_succ]
  simp
theorem strOf_add4 (s : Nat → Int) (n : Nat) : strOf (dgF s) (4 * n) ++ ⟨#[UInt8.ofNat (s n / 16777216 % 256).toNat, UInt8.ofNat (s n / 65536 % 256).toNat, UInt8.ofNat (s n / 256 % 256).toNat, UInt8.ofNat (s n % 256).toNat]⟩ = strOf (dgF s) (4 * (n + 1)) := by
  have e0 : dgF s (4 * n) = s n / 16777216 % 256 := by unfold dgF; rw [show 4 * n / 4 = n by omega, show 4 * n % 4 = 0 by omega]; rfl
  have e1 : dgF s (4 * n + 1) = s n / 65536 % 256 := by unfold dgF; rw [show (4 * n + 1) / 4 = n by omega, show (4 * n + 1) % 4 = 1 by omega]; rfl
  have e2 : dgF s (4 * n + 2) = s n / 256 % 256 := by unfold dgF; rw [show (4 * n + 2) / 4 = n by omega, show (4 * n + 2) % 4 = 2 by omega]; rfl
  have e3 : dgF s (4 * n + 3) = s n % 256 := by unfold dgF; rw [show (4 * n + 3) / 4 = n by omega, show (4 * n + 3) % 4 = 3 by omega]; simp
  rw [show 4 * (n + 1) = 4 * n + 4 by omega]
  unfold strOf
  rw [lsOf_add4, e0, e1, e2, e3]
  apply ByteArray.ext
  rw [ByteArray.data_append]; simp

theorem turn_q (n x : Int) (w w0 : World) (q : Nat) (hw : w = w0.drewN q) (hk : n = 2 ∨ n = 6 ∨ n = 7 ∨ n = 11 ∨ n = 13 ∨ n = 17 ∨ n = 18 ∨ n = 19 ∨ n = 22 ∨ n = 25) (hx : IsW x) :
    Calls Tryz.prog 104 #[.int .i64 x, .int .i64 n] w fun e w' => e = .returned (.int .i64 (rr n x)) ∧ ∃ m, w' = w0.drewN m := by
  refine (turn_any n x w hk hx).mono ?_
  rintro e w' ⟨he, m, hm⟩
  exact ⟨he, q + m, by rw [hm, hw, World.drewN_drewN]⟩
/-- a frame under one name. -/
theorem at_frame {C : Code} {P : Program} {Q : Exit → Act → World → Prop} {a : Act} {w : World} (h : ∀ A, Hid (A = a) → C.wp P Q A w) : C.wp P Q a w := h a rfl
theorem ev_same (a : Act) (d : Nat) (v : Value) (h : d < a.tmps.size) : (a.put (some d) v).eval (.tmp d) = v := by simp [Act.put, Act.eval, h]
theorem ev_ne (a : Act) (d e : Nat) (v : Value) (h : d ≠ e) : (a.put (some d) v).eval (.tmp e) = a.eval (.tmp e) := by simp [Act.put, Act.eval, h]
theorem sz_put (a : Act) (d : Nat) (v : Value) : (a.put (some d) v).tmps.size = a.tmps.size := by simp [Act.put]
theorem run1 {P : Program} {o : Oper} {a : Act} {W W' : World} {v : Value} (s : Nat) (us : Value) (hs : a.eval (.tmp s) = us)
    (h : ∀ ρ : Operand → Value, (∀ c, ρ (.const c) = c) → ρ (.tmp s) = us → (execOp ρ o).run P W = .ok (.value v) W') : (execOp a.eval o).run P W = .ok (.value v) W' := h a.eval (fun _ => rfl) hs
theorem run2 {P : Program} {o : Oper} {a : Act} {W W' : World} {v : Value} (s t : Nat) (us ut : Value) (hs : a.eval (.tmp s) = us) (ht : a.eval (.tmp t) = ut)
    (h : ∀ ρ : Operand → Value, (∀ c, ρ (.const c) = c) → ρ (.tmp s) = us → ρ (.tmp t) = ut → (execOp ρ o).run P W = .ok (.value v) W') : (execOp a.eval o).run P W = .ok (.value v) W' := h a.eval (fun _ => rfl) hs ht
theorem wp_val {P : Program} {o : Oper} {a : Act} {w : World} {K : Act → World → Prop} {Q : Exit → Act → World → Prop} (v : Value) (w' : World) (h : (execOp a.eval o).run P w = .ok (.value v) w') (hk : K (a.put o.dst v) w') : o.wp P a w K Q := by
  unfold Oper.wp; rw [h]; exact hk
theorem step_val {P : Program} {ops : Array Oper} {o : Oper} {a : Act} {w : World} {K : Act → World → Prop} {Q : Exit → Act → World → Prop} {E : Prop} (v : Value) (w' : World) (hg : o.guard = none) (h : (execOp a.eval o).run P w = .ok (.value v) w') (hk : K (a.put o.dst v) w') :
    if Region.wanted o (yielded ops a.tmps) = true then Oper.wp P o a w K Q else E := by
  have hw : Region.wanted o (yielded ops a.tmps) = true := by simp [Region.wanted, hg]
  rw [if_pos hw]
  exact wp_val v w' h hk
theorem any_one {P : Program} {md : Region.Mode} {ops : Array Oper} {Q : Exit → Act → World → Prop} {fuel : Nat} {listed : Array Bool} {a : Act} {w : World} (i : Nat) {o : Oper} (v : Value) (w' : World) (hr : Region.ready md ops listed = [i]) (hi : ops[i]? = some o) (hg : o.guard = none)
    (h : (execOp a.eval o).run P w = .ok (.value v) w') (hk : wpAny P md ops Q fuel (listed.setIfInBounds i true) (a.put o.dst v) w') : wpAny P md ops Q (fuel + 1) listed a w := by
  refine wpAny_ready hr (by simp) (AllReady.cons hi (fun K hK => ?_) AllReady.nil)
  exact step_val v w' hg h (hK _ _ hk)
theorem any_two {P : Program} {md : Region.Mode} {ops : Array Oper} {Q : Exit → Act → World → Prop} {fuel : Nat} {listed : Array Bool} {a : Act} {w : World} (i j : Nat) {o p : Oper} (v u : Value) (w' w'' : World) (hr : Region.ready md ops listed = [i, j]) (hi : ops[i]? = some o) (hg : o.guard = none) (hj : ops[j]? = some p) (hgj : p.guard = none)
    (h : (execOp a.eval o).run P w = .ok (.value v) w') (h' : (execOp a.eval p).run P w = .ok (.value u) w'') (hk : wpAny P md ops Q fuel (listed.setIfInBounds i true) (a.put o.dst v) w') (hk' : wpAny P md ops Q fuel (listed.setIfInBounds j true) (a.put p.dst u) w'') : wpAny P md ops Q (fuel + 1) listed a w := by
  refine wpAny_ready hr (by simp) (AllReady.cons hi (fun K hK => ?_) (AllReady.cons hj (fun K hK => ?_) AllReady.nil))
  · exact step_val v w' hg h (hK _ _ hk)
  · exact step_val u w'' hgj h' (hK _ _ hk')
theorem anyH_one {P : Program} {md : Region.Mode} {ops : Array Oper} {Q : Exit → Act → World → Prop} {S : World → Prop} {fuel : Nat} {listed : Array Bool} {a : Act} {w : World} (i : Nat) {o : Oper} (v : Value) (w' : World) (hr : Region.ready md ops listed = [i]) (hi : ops[i]? = some o) (hg : o.guard = none)
    (h : (execOp a.eval o).run P w = .ok (.value v) w') (hS : S w') (hk : wpAnyH P md ops Q S fuel (listed.setIfInBounds i true) (a.put o.dst v) w') : wpAnyH P md ops Q S (fuel + 1) listed a w := by
  refine wpAnyH_ready hr (by simp) (AllReadyH.cons hi (fun K hK => ?_) AllReadyH.nil)
  exact step_val v w' hg h (hK.out _ _ hS (fun _ => hk))
theorem at_world {C : Code} {P : Program} {Q : Exit → Act → World → Prop} {a : Act} {w : World} (h : ∀ W, Hid (W = w) → C.wp P Q a W) : C.wp P Q a w := h w rfl
theorem run8 {P : Program} {o : Oper} {a : Act} {W W' : World} {v : Value} (t0 t1 t2 t3 t4 t5 t6 t7 : Nat) (u0 u1 u2 u3 u4 u5 u6 u7 : Value) (h0 : a.eval (.tmp t0) = u0) (h1 : a.eval (.tmp t1) = u1) (h2 : a.eval (.tmp t2) = u2) (h3 : a.eval (.tmp t3) = u3) (h4 : a.eval (.tmp t4) = u4) (h5 : a.eval (.tmp t5) = u5) (h6 : a.eval (.tmp t6) = u6) (h7 : a.eval (.tmp t7) = u7)
    (h : ∀ ρ : Operand → Value, (∀ c, ρ (.const c) = c) → ρ (.tmp t0) = u0 → ρ (.tmp t1) = u1 → ρ (.tmp t2) = u2 → ρ (.tmp t3) = u3 → ρ (.tmp t4) = u4 → ρ (.tmp t5) = u5 → ρ (.tmp t6) = u6 → ρ (.tmp t7) = u7 → (execOp ρ o).run P W = .ok (.value v) W') : (execOp a.eval o).run P W = .ok (.value v) W' := h a.eval (fun _ => rfl) h0 h1 h2 h3 h4 h5 h6 h7
theorem seven_alloc {w : World} {g : Nat} {x0 x1 x2 x3 x4 x5 x6 : Int} (h : w.cell? ⟨g, 0, none⟩ = some (.int .i64 x0) ∧ w.cell? ⟨g, 1, none⟩ = some (.int .i64 x1) ∧ w.cell? ⟨g, 2, none⟩ = some (.int .i64 x2) ∧ w.cell? ⟨g, 3, none⟩ = some (.int .i64 x3) ∧ w.cell? ⟨g, 4, none⟩ = some (.int .i64 x4) ∧ w.cell? ⟨g, 5, none⟩ = some (.int .i64 x5) ∧ w.cell? ⟨g, 6, none⟩ = some (.int .i64 x6)) (o : Obj) :
    (w.alloc o).cell? ⟨g, 0, none⟩ = some (.int .i64 x0) ∧ (w.alloc o).cell? ⟨g, 1, none⟩ = some (.int .i64 x1) ∧ (w.alloc o).cell? ⟨g, 2, none⟩ = some (.int .i64 x2) ∧ (w.alloc o).cell? ⟨g, 3, none⟩ = some (.int .i64 x3) ∧ (w.alloc o).cell? ⟨g, 4, none⟩ = some (.int .i64 x4) ∧ (w.alloc o).cell? ⟨g, 5, none⟩ = some (.int .i64 x5) ∧ (w.alloc o).cell? ⟨g, 6, none⟩ = some (.int .i64 x6) := by
  obtain ⟨h0, h1, h2, h3, h4, h5, h6⟩ := h
  have k : ∀ (a : Addr) (u : Value), w.cell? a = some u → (w.alloc o).cell? a = some u := fun a u hu => by rw [World.cell?_alloc_some w a o (by rw [hu]; rfl)]; exact hu
  exact ⟨k _ _ h0, k _ _ h1, k _ _ h2, k _ _ h3, k _ _ h4, k _ _ h5, k _ _ h6⟩
end Go.Proofs.YtkmalggeieiepaaGreatDoor
