import Derived.Test.YtkmalggeieiepaaDoorRdF
namespace Go.Proofs.YtkmalggeieiepaaDoor
open Go.RowKit

/-- what ends well has begun well, and has eaten no more than so many bytes. -/
def Eats (n : Nat) (f : List UInt8 × Int → List UInt8 × Int) : Prop := ∀ r, (f r).2 = 0 → r.2 = 0 ∧ r.1.length ≤ (f r).1.length + n
theorem Eats.mono {n m : Nat} {f : List UInt8 × Int → List UInt8 × Int} (h : Eats n f) (hm : n ≤ m) : Eats m f := fun r hr => ⟨(h r hr).1, by have := (h r hr).2; omega⟩
theorem Eats.comp {n m : Nat} {f g : List UInt8 × Int → List UInt8 × Int} (hf : Eats n f) (hg : Eats m g) : Eats (n + m) (fun r => g (f r)) := fun r hr => by
  obtain ⟨h1, h2⟩ := hg (f r) hr
  obtain ⟨h3, h4⟩ := hf r h1
  exact ⟨h3, by show r.1.length ≤ (g (f r)).1.length + _; omega⟩
theorem eats_take (n : Nat) : Eats n (fun r => (rTake n r).2) := by
  intro r hr
  unfold rTake at hr ⊢
  by_cases h : r.2 = 0
  · simp only [h, ne_eq, not_true_eq_false, if_false] at hr ⊢
    by_cases h2 : r.1.length < n
    · simp [h2] at hr
    · simp only [h2, if_false] at hr ⊢
      refine ⟨trivial, ?_⟩
      simp; omega
  · simp [h] at hr
theorem eats_size : Eats 9 (fun r => (rSize r).2) := by
  rintro ⟨l, e⟩ hr
  unfold rSize at hr ⊢
  by_cases h : e = 0
  · simp only [h, ne_eq, not_true_eq_false, if_false] at hr ⊢
    cases l with
    | nil => simp at hr
    | cons c l =>
      have hm : manyOf c ≤ 8 := by unfold manyOf; split; · omega
                                   split; · omega
                                   split <;> omega
      by_cases h1 : manyOf c = 0
      · simp only [h1, if_true] at hr ⊢
        exact ⟨trivial, by simp⟩
      · simp only [h1, if_false] at hr ⊢
        by_cases h2 : l.length < manyOf c
        · simp [h2] at hr
        · simp only [h2, if_false] at hr ⊢
          refine ⟨trivial, ?_⟩
          simp; omega
  · simp [h] at hr
theorem eats_within (lo hi : Nat) : Eats 9 (fun r => (rWithin lo hi r).2) := by
  intro r hr
  have hs := eats_size r
  unfold rWithin at hr ⊢
  by_cases h : (rSize r).2.2 = 0
  · simp only [h, ne_eq, not_true_eq_false, if_false] at hr ⊢
    by_cases h2 : (rSize r).1 < lo ∨ hi < (rSize r).1
    · simp [h2] at hr
    · simp only [h2, if_false] at hr ⊢
      exact hs h
  · simp [h] at hr
theorem eats_script : Eats 49 rScript := by
  intro r hr
  have h0 := rWithin_hi 0 40 r
  obtain ⟨h1, h2⟩ := eats_take (rWithin 0 40 r).1 (rWithin 0 40 r).2 hr
  obtain ⟨h3, h4⟩ := eats_within 0 40 r h1
  refine ⟨h3, ?_⟩
  show r.1.length ≤ (rTake (rWithin 0 40 r).1 (rWithin 0 40 r).2).2.1.length + 49
  have h2' : (rWithin 0 40 r).2.1.length ≤ (rTake (rWithin 0 40 r).1 (rWithin 0 40 r).2).2.1.length + (rWithin 0 40 r).1 := h2
  have h4' : r.1.length ≤ (rWithin 0 40 r).2.1.length + 9 := h4
  omega
theorem eats_in : Eats 89 rIn := ((eats_take 36).comp eats_script).comp (eats_take 4)
theorem eats_out : Eats 57 rOut := (eats_take 8).comp eats_script
theorem eats_rep {n : Nat} {f : List UInt8 × Int → List UInt8 × Int} (hf : Eats n f) : ∀ k, Eats (k * n) (rep f k)
  | 0 => fun r hr => ⟨hr, by show r.1.length ≤ r.1.length + _; omega⟩
  | k + 1 => by
    have h := hf.comp (eats_rep hf k)
    exact h.mono (by rw [Nat.succ_mul]; omega)
theorem eats_reps {n : Nat} {f : List UInt8 × Int → List UInt8 × Int} (hf : Eats n f) : Eats (9 + 4 * n) (fun r => rep f (rWithin 1 4 r).1 (rWithin 1 4 r).2) := by
  intro r hr
  have h0 := rWithin_hi 1 4 r
  obtain ⟨h1, h2⟩ := eats_rep hf (rWithin 1 4 r).1 (rWithin 1 4 r).2 hr
  obtain ⟨h3, h4⟩ := eats_within 1 4 r h1
  refine ⟨h3, ?_⟩
  have h4' : r.1.length ≤ (rWithin 1 4 r).2.1.length + 9 := h4
  have h5 : (rWithin 1 4 r).1 * n ≤ 4 * n := Nat.mul_le_mul_right n h0
  show r.1.length ≤ (rep f (rWithin 1 4 r).1 (rWithin 1 4 r).2).1.length + (9 + 4 * n)
  omega
theorem eats_tx : Eats 610 rTx := (((eats_take 4).comp (eats_reps eats_in)).comp (eats_reps eats_out)).comp (eats_take 4) |>.mono (by omega)
/-- a transaction is not long. -/
theorem txErr_len (l : List UInt8) (h : txErr l = 0) : l.length ≤ 610 := by
  unfold txErr rDone at h
  by_cases h1 : (rTx (l, 0)).2 = 0 ∧ (rTx (l, 0)).1 ≠ []
  · rw [if_pos h1] at h; cases h
  · rw [if_neg h1] at h
    obtain ⟨_, h2⟩ := eats_tx (l, 0) h
    have h3 : (rTx (l, 0)).1 = [] := by
      rcases Decidable.em ((rTx (l, 0)).1 = []) with e | e
      · exact e
      · exact absurd ⟨h, e⟩ h1
    rw [h3] at h2
    simpa using h2
end Go.Proofs.YtkmalggeieiepaaDoor
