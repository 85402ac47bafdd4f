import Derived.Test.YtkmalggeieiepaaDoorRdG
namespace Go.Proofs.YtkmalggeieiepaaDoor
open Go.RowKit

theorem le_num : ∀ t : List UInt8, le (num t) t.length = t
  | [] => rfl
  | c :: t => by
    have h := c.toNat_lt
    have e1 : UInt8.ofNat (num (c :: t)) = c := by
      rw [← UInt8.toNat_inj]; simp [num]
    have e2 : num (c :: t) / 256 = num t := by simp only [num]; omega
    show UInt8.ofNat (num (c :: t)) :: le (num (c :: t) / 256) t.length = c :: t
    rw [e1, e2, le_num t]
/-- the least that wants so many bytes. -/
def leastOf (c : UInt8) : Nat := if c = 253 then 253 else if c = 254 then 65536 else if c = 255 then 4294967296 else 0
theorem size_told (c : UInt8) (t : List UInt8) (hm : manyOf c ≠ 0) (ht : t.length = manyOf c) : (sizeL (num t) = c :: t) ↔ ¬ num t < leastOf c := by
  have hn := num_lt t
  have hle := le_num t
  rw [ht] at hn hle
  have hc : c = 253 ∨ c = 254 ∨ c = 255 := by
    unfold manyOf at hm
    by_cases h1 : c = 253
    · exact .inl h1
    · by_cases h2 : c = 254
      · exact .inr (.inl h2)
      · by_cases h3 : c = 255
        · exact .inr (.inr h3)
        · simp [h1, h2, h3] at hm
  rcases hc with rfl | rfl | rfl
  · have m : manyOf 253 = 2 := rfl
    have k : leastOf 253 = 253 := rfl
    rw [m] at hn hle
    rw [k]
    have hn' : num t < 65536 := by simpa using hn
    constructor
    · intro h h2
      have : sizeL (num t) = le (num t) 1 := by simp [sizeL, h2]
      rw [this] at h
      have := congrArg List.length h
      rw [le_length] at this
      simp [m] at ht
      simp [ht] at this
    · intro h
      have : sizeL (num t) = 253 :: le (num t) 2 := by simp [sizeL, h, hn']
      rw [this, hle]
  · have m : manyOf 254 = 4 := rfl
    have k : leastOf 254 = 65536 := rfl
    rw [m] at hn hle
    rw [k]
    have hn' : num t < 4294967296 := by simpa using hn
    constructor
    · intro h h2
      unfold sizeL at h
      by_cases h1 : num t < 253
      · rw [if_pos h1] at h
        have := congrArg List.length h
        rw [le_length] at this
        simp [m] at ht
        simp [ht] at this
      · rw [if_neg h1, if_pos h2] at h
        injection h with h3
        exact absurd h3 (by decide)
    · intro h
      have : sizeL (num t) = 254 :: le (num t) 4 := by
        unfold sizeL; rw [if_neg (by omega), if_neg h, if_pos hn']
      rw [this, hle]
  · have m : manyOf 255 = 8 := rfl
    have k : leastOf 255 = 4294967296 := rfl
    rw [m] at hn hle
    rw [k]
    constructor
    · intro h h2
      unfold sizeL at h
      by_cases h1 : num t < 253
      · rw [if_pos h1] at h
        have := congrArg List.length h
        rw [le_length] at this
        simp [m] at ht
        simp [ht] at this
      · by_cases h3 : num t < 65536
        · rw [if_neg h1, if_pos h3] at h
          injection h with h4
          exact absurd h4 (by decide)
        · rw [if_neg h1, if_neg h3, if_pos h2] at h
          injection h with h4
          exact absurd h4 (by decide)
    · intro h
      have : sizeL (num t) = 255 :: le (num t) 8 := by
        unfold sizeL; rw [if_neg (by omega), if_neg (by omega), if_neg h]
      rw [this, hle]
/-- a fault stays. -/
def Stick (f : List UInt8 × Int → List UInt8 × Int) : Prop := ∀ r, r.2 ≠ 0 → (f r).2 = r.2
theorem Stick.comp {f g : List UInt8 × Int → List UInt8 × Int} (hf : Stick f) (hg : Stick g) : Stick (fun r => g (f r)) := fun r hr => by
  have h := hf r hr
  show (g (f r)).2 = r.2
  rw [hg (f r) (by rw [h]; exact hr), h]
theorem stick_take (n : Nat) : Stick (fun r => (rTake n r).2) := fun r hr => by simp [rTake, hr]
theorem stick_size : Stick (fun r => (rSize r).2) := fun r hr => by simp [rSize, hr]
theorem stick_within (lo hi : Nat) : Stick (fun r => (rWithin lo hi r).2) := fun r hr => by
  have h := stick_size r hr
  have h2 : (rSize r).2.2 ≠ 0 := by rw [show (rSize r).2.2 = r.2 from h]; exact hr
  show (rWithin lo hi r).2.2 = r.2
  unfold rWithin; rw [if_pos h2]; exact h
theorem stick_script : Stick rScript := fun r hr => by
  have h := stick_within 0 40 r hr
  show (rTake (rWithin 0 40 r).1 (rWithin 0 40 r).2).2.2 = r.2
  rw [stick_take _ (rWithin 0 40 r).2 (by rw [show (rWithin 0 40 r).2.2 = r.2 from h]; exact hr)]; exact h
theorem stick_in : Stick rIn := ((stick_take 36).comp stick_script).comp (stick_take 4)
theorem stick_out : Stick rOut := (stick_take 8).comp stick_script
theorem stick_rep {f : List UInt8 × Int → List UInt8 × Int} (hf : Stick f) : ∀ k, Stick (rep f k)
  | 0 => fun _ _ => rfl
  | k + 1 => hf.comp (stick_rep hf k)
theorem stick_reps {f : List UInt8 × Int → List UInt8 × Int} (hf : Stick f) (lo hi : Nat) : Stick (fun r => rep f (rWithin lo hi r).1 (rWithin lo hi r).2) := fun r hr => by
  have h := stick_within lo hi r hr
  show (rep f (rWithin lo hi r).1 (rWithin lo hi r).2).2 = r.2
  rw [stick_rep hf _ (rWithin lo hi r).2 (by rw [show (rWithin lo hi r).2.2 = r.2 from h]; exact hr)]; exact h
theorem stick_done : Stick rDone := fun r hr => by simp [rDone, hr]
end Go.Proofs.YtkmalggeieiepaaDoor
