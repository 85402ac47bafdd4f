import Derived.Test.YtkmalggeieiepaaGreatDoorShaM
namespace Go.Proofs.YtkmalggeieiepaaGreatDoor
open Go.RowKit

def pw : Nat → Int
  | 0 => 1
  | n + 1 => pw n * 65536
theorem pw_add (i j : Nat) : pw (i + j) = pw i * pw j := by
  induction j with
  | zero => simp [pw]
  | succ j ih => show pw (i + j) * 65536 = pw i * (pw j * 65536); rw [ih, Int.mul_assoc]
theorem pw_pos (n : Nat) : 0 < pw n := by
  induction n with
  | zero => simp [pw]
  | succ n ih => simp only [pw]; omega
/-- a number out of digits of base 65536, the lowest first. -/
def vV (f : Nat → Int) : Nat → Int
  | 0 => 0
  | n + 1 => vV f n + f n * pw n
def Dig (f : Nat → Int) (n : Nat) : Prop := ∀ j, j < n → 0 ≤ f j ∧ f j < 65536
theorem vV_congr (f g : Nat → Int) (n : Nat) (h : ∀ j, j < n → f j = g j) : vV f n = vV g n := by
  induction n with
  | zero => rfl
  | succ n ih => simp only [vV]; rw [ih (fun j hj => h j (by omega)), h n (by omega)]
theorem vV_upd (f : Nat → Int) (i n : Nat) (x : Int) (h : i < n) : vV (upd f i x) n = vV f n + (x - f i) * pw i := by
  induction n with
  | zero => omega
  | succ n ih =>
    simp only [vV]
    by_cases e : i = n
    · subst e
      rw [vV_congr (upd f i x) f i (fun j hj => upd_other f i j x (by omega)), upd_same]
      grind
    · rw [ih (by omega), upd_other f i n x (by omega)]
      omega
theorem Dig.upd {f : Nat → Int} {n : Nat} (h : Dig f n) (i : Nat) (x : Int) (h0 : 0 ≤ x) (h1 : x < 65536) : Dig (upd f i x) n := by
  intro j hj
  by_cases e : j = i
  · subst e; rw [upd_same]; exact ⟨h0, h1⟩
  · rw [upd_other f i j x e]; exact h j hj
/-- one step of the inner loop. -/
theorem inner_step (o fb : Nat → Int) (N i j : Nat) (x c A : Int) (hij : i + j < N) (h : vV o N + c * pw (i + j) = A + x * vV fb j * pw i) :
    vV (upd o (i + j) ((o (i + j) + x * fb j + c) % 65536)) N + (o (i + j) + x * fb j + c) / 65536 * pw (i + (j + 1)) = A + x * vV fb (j + 1) * pw i := by
  rw [vV_upd o (i + j) N _ hij, show i + (j + 1) = (i + j) + 1 from rfl]
  simp only [pw, vV]
  have e := Int.mul_ediv_add_emod (o (i + j) + x * fb j + c) 65536
  have e2 := pw_add i j
  generalize (o (i + j) + x * fb j + c) / 65536 = q at e
  generalize (o (i + j) + x * fb j + c) % 65536 = r at e
  generalize o (i + j) = y at e
  grind
theorem outer_step (o : Nat → Int) (fa fb : Nat → Int) (N i lb : Nat) (c : Int) (hij : i + lb < N) (hz : o (i + lb) = 0) (h : vV o N + c * pw (i + lb) = vV fa i * vV fb lb + fa i * vV fb lb * pw i) :
    vV (upd o (i + lb) (o (i + lb) + c)) N = vV fa (i + 1) * vV fb lb := by
  rw [vV_upd o (i + lb) N _ hij, hz]
  simp only [vV]
  grind
theorem carry_le (y x z c : Int) (h1 : 0 ≤ y) (h2 : y < 65536) (h3 : 0 ≤ x) (h4 : x < 65536) (h5 : 0 ≤ z) (h6 : z < 65536) (h7 : 0 ≤ c) (h8 : c ≤ 65535) : 0 ≤ x * z ∧ x * z ≤ 4294836225 ∧ (y + x * z + c) / 65536 ≤ 65535 := by
  have hp : 0 ≤ x * z := Int.mul_nonneg h3 h5
  have hq : x * z ≤ 65535 * 65535 := Int.mul_le_mul (by omega) (by omega) h5 (by omega)
  omega
theorem vV_bd (f : Nat → Int) (n : Nat) (h : Dig f n) : 0 ≤ vV f n ∧ vV f n < pw n := by
  induction n with
  | zero => simp [vV, pw]
  | succ n ih =>
    obtain ⟨h0, h1⟩ := ih (fun j hj => h j (by omega))
    obtain ⟨d0, d1⟩ := h n (by omega)
    have hp := pw_pos n
    simp only [vV, pw]
    have e1 : 0 ≤ f n * pw n := Int.mul_nonneg d0 (by omega)
    have e2 : f n * pw n ≤ 65535 * pw n := Int.mul_le_mul_of_nonneg_right (by omega) (by omega)
    omega
theorem vV_top (f g : Nat → Int) (k n : Nat) (hk : k < n) (h : ∀ j, k < j → j < n → f j = g j) : vV f n - vV g n = (vV f k - vV g k) + (f k - g k) * pw k := by
  induction n with
  | zero => omega
  | succ n ih =>
    simp only [vV]
    by_cases e : k = n
    · subst e; grind
    · have h1 := ih (by omega) (fun j hj hjn => h j hj (by omega))
      have h2 := h n (by omega) (by omega)
      rw [h2]; omega
theorem vV_cmp (f g : Nat → Int) (k n : Nat) (hk : k < n) (h : ∀ j, k < j → j < n → f j = g j) (hf : Dig f n) (hg : Dig g n) (hne : f k ≠ g k) : (vV g n < vV f n ↔ g k < f k) := by
  have e := vV_top f g k n hk h
  have b1 := vV_bd f k (fun j hj => hf j (by omega))
  have b2 := vV_bd g k (fun j hj => hg j (by omega))
  have hp := pw_pos k
  constructor
  · intro hlt
    rcases Int.lt_or_gt_of_ne hne with h1 | h1
    · have : (f k - g k) * pw k ≤ (-1) * pw k := Int.mul_le_mul_of_nonneg_right (by omega) (by omega)
      omega
    · exact h1
  · intro h1
    have : 1 * pw k ≤ (f k - g k) * pw k := Int.mul_le_mul_of_nonneg_right (by omega) (by omega)
    omega
theorem vV_pad (f : Nat → Int) (lb n : Nat) (h : lb ≤ n) : vV (fun j => if j < lb then f j else 0) n = vV f lb := by
  induction n with
  | zero => obtain rfl : lb = 0 := by omega
            rfl
  | succ n ih =>
    by_cases e : lb = n + 1
    · subst e; exact vV_congr _ _ _ (fun j hj => by simp [hj])
    · simp only [vV]
      rw [ih (by omega)]
      have : ¬ n < lb := by omega
      simp [this]
end Go.Proofs.YtkmalggeieiepaaGreatDoor
