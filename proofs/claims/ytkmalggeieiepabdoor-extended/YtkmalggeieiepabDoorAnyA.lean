import Derived.Test.YtkmalggeieiepabDoorRows
import Derived.WalkKit
import Derived.WalkSpells
import Derived.RegionTactic
import Derived.Orders
namespace Go.Proofs.YtkmalggeieiepabDoor
open Go.RowKit

/-- a frame under one name. -/
theorem q_frame {C : Code} {P : Program} {Q : Exit → Act → World → Prop} {a : Act} {w : World} (h : ∀ A, Hid (A = a) → C.wp P Q A w) : C.wp P Q a w := h a rfl
theorem q_same (a : Act) (d : Nat) (v : Value) (h : d < a.tmps.size) : (a.put (some d) v).eval (.tmp d) = v := by simp [Act.put, Act.eval, h]
theorem q_ne (a : Act) (d e : Nat) (v : Value) (h : d ≠ e) : (a.put (some d) v).eval (.tmp e) = a.eval (.tmp e) := by simp [Act.put, Act.eval, h]
theorem q_sz (a : Act) (d : Nat) (v : Value) : (a.put (some d) v).tmps.size = a.tmps.size := by simp [Act.put]
theorem q_run1 {P : Program} {o : Oper} {a : Act} {W W' : World} {r : Next} (s : Nat) (us : Value) (hs : a.eval (.tmp s) = us)
    (h : ∀ ρ : Operand → Value, (∀ c, ρ (.const c) = c) → (∀ n, ρ (.func n) = .func (.func n) #[] #[]) → ρ (.tmp s) = us → (execOp ρ o).run P W = .ok r W') : (execOp a.eval o).run P W = .ok r W' := h a.eval (fun _ => rfl) (fun _ => rfl) hs
theorem q_run2 {P : Program} {o : Oper} {a : Act} {W W' : World} {r : Next} (s t : Nat) (us ut : Value) (hs : a.eval (.tmp s) = us) (ht : a.eval (.tmp t) = ut)
    (h : ∀ ρ : Operand → Value, (∀ c, ρ (.const c) = c) → (∀ n, ρ (.func n) = .func (.func n) #[] #[]) → ρ (.tmp s) = us → ρ (.tmp t) = ut → (execOp ρ o).run P W = .ok r W') : (execOp a.eval o).run P W = .ok r W' := h a.eval (fun _ => rfl) (fun _ => rfl) hs ht
/-- the one operation that may come up yields a value. -/
theorem q_one {P : Program} {md : Region.Mode} {ops : Array Oper} {Q : Exit → Act → World → Prop} {fuel : Nat} {listed : Array Bool} {a : Act} {w : World} (i : Nat) {o : Oper} (v : Value) (w' : World) (hr : Region.ready md ops listed = [i]) (hi : ops[i]? = some o) (hg : o.guard = none)
    (h : (execOp a.eval o).run P w = .ok (.value v) w') (hk : wpAny P md ops Q fuel (listed.setIfInBounds i true) (a.put o.dst v) w') : wpAny P md ops Q (fuel + 1) listed a w := by
  refine wpAny_ready hr (by simp) (AllReady.cons hi (fun K hK => ?_) AllReady.nil)
  have hw : Region.wanted o (yielded ops a.tmps) = true := by simp [Region.wanted, hg]
  rw [if_pos hw]
  unfold Oper.wp; rw [h]; exact hK _ _ hk
/-- the one operation that may come up is a call. -/
theorem q_call {P : Program} {md : Region.Mode} {ops : Array Oper} {Q : Exit → Act → World → Prop} {fuel : Nat} {listed : Array Bool} {a : Act} {w : World} (i : Nat) {o : Oper} (f : FuncId) (args : Array Value) (R : Ending → World → Prop) (hr : Region.ready md ops listed = [i]) (hi : ops[i]? = some o) (hg : o.guard = none)
    (h : (execOp a.eval o).run P w = .ok (.enter f args) w) (hc : Calls P f args w R)
    (hk : ∀ v w', R (.returned v) w' → wpAny P md ops Q fuel (listed.setIfInBounds i true) (a.put o.dst v) w') (hp : ∀ ch w', R (.panicked ch) w' → Q (.panic ch) a w') (ho : ∀ w', R .outgrown w' → False) : wpAny P md ops Q (fuel + 1) listed a w := by
  refine wpAny_ready hr (by simp) (AllReady.cons hi (fun K hK => ?_) AllReady.nil)
  have hw : Region.wanted o (yielded ops a.tmps) = true := by simp [Region.wanted, hg]
  rw [if_pos hw]
  unfold Oper.wp; rw [h]
  show Calls _ _ _ _ _
  refine hc.mono fun x w' hx => ?_
  cases x with
  | returned v => exact hK _ _ (hk v w' hx)
  | panicked ch => exact hp ch w' hx
  | outgrown => exact (ho w' hx).elim
theorem q_def (a : Act) (d : Option Nat) (v : Value) : (a.put d v).defers = a.defers := by cases d <;> rfl
theorem q_panic {P : Program} {fn : Func} {R : Ending → World → Prop} {ch : List PanicEntry} {a : Act} {w : World} (hd : a.defers = []) (h : R (.panicked ch) w) : bodyPost P fn R (.panic ch) a w := ⟨hd, h⟩
theorem q_done0 {P : Program} {fn : Func} {R : Ending → World → Prop} {a : Act} {w : World} (hr : fn.results = #[]) (hd : a.defers = []) (h : R (.returned (.tuple #[])) w) : bodyPost P fn R .normal a w := ⟨hd, .tuple #[], results_none hr _ _ _, h⟩
end Go.Proofs.YtkmalggeieiepabDoor
