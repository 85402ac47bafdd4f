import Derived.Test.YtkmalggeieiepabDoorPza
import Derived.WalkKit
import Derived.WalkSpells
import Derived.WalkLawsBesides
import Derived.Deep.LoopGhost
import Derived.Deep.DeepCutAuto
import Derived.Test.YtkmalggeieiepabDoorShaM
import Derived.Test.YtkmalggeieiepabDoorRows
namespace Go.Proofs.YtkmalggeieiepabDoor
open Go.RowKit

/-- a script, whose size is told ahead. -/
def rScript (r : List UInt8 × Int) : List UInt8 × Int := (rTake (rWithin 0 40 r).1 (rWithin 0 40 r).2).2
def rIn (r : List UInt8 × Int) : List UInt8 × Int := (rTake 4 (rScript (rTake 36 r).2)).2
def rOut (r : List UInt8 × Int) : List UInt8 × Int := rScript (rTake 8 r).2
def rep (f : List UInt8 × Int → List UInt8 × Int) : Nat → List UInt8 × Int → List UInt8 × Int
  | 0, r => r
  | n + 1, r => rep f n (f r)
def rIns (r : List UInt8 × Int) : List UInt8 × Int := rep rIn (rWithin 1 4 r).1 (rWithin 1 4 r).2
def rOuts (r : List UInt8 × Int) : List UInt8 × Int := rep rOut (rWithin 1 4 r).1 (rWithin 1 4 r).2
def rTx (r : List UInt8 × Int) : List UInt8 × Int := (rTake 4 (rOuts (rIns (rTake 4 r).2))).2
theorem rScript_le (r : List UInt8 × Int) : (rScript r).1.length ≤ r.1.length := Nat.le_trans (rTake_le _ _) (rWithin_le _ _ _)
theorem rIn_le (r : List UInt8 × Int) : (rIn r).1.length ≤ r.1.length := Nat.le_trans (rTake_le _ _) (Nat.le_trans (rScript_le _) (rTake_le _ _))
theorem rOut_le (r : List UInt8 × Int) : (rOut r).1.length ≤ r.1.length := Nat.le_trans (rScript_le _) (rTake_le _ _)
theorem rep_le (f : List UInt8 × Int → List UInt8 × Int) (hf : ∀ r, (f r).1.length ≤ r.1.length) (n : Nat) : ∀ r, (rep f n r).1.length ≤ r.1.length := by
  induction n with
  | zero => intro r; exact Nat.le_refl _
  | succ n ih => intro r; exact Nat.le_trans (ih _) (hf r)
theorem rTx_le (r : List UInt8 × Int) : (rTx r).1.length ≤ r.1.length :=
  Nat.le_trans (rTake_le _ _) (Nat.le_trans (rep_le rOut rOut_le _ _) (Nat.le_trans (rWithin_le _ _ _) (Nat.le_trans (rep_le rIn rIn_le _ _) (Nat.le_trans (rWithin_le _ _ _) (rTake_le _ _)))))

end Go.Proofs.YtkmalggeieiepabDoor
namespace Go.Proofs.YtkmalggeieiepabDoor
open Go.RowKit

/-- what is wrong with these bytes, as a transaction. -/
def txErr (l : List UInt8) : Int := (rDone (rTx (l, 0))).2
theorem Rd.new (w : World) (s : ByteArray) (T : Nat) : Rd (w.alloc (.cells #[.string s, .int .i64 0] T)) w.heap.size s.data.toList 0 := by
  refine ⟨?_, ?_, ?_, ?_⟩
  · rw [ofL_of]; simp [go_sem]
  · simp [go_sem]
  · simp [go_sem]
  · simp [go_sem]

end Go.Proofs.YtkmalggeieiepabDoor
namespace Go.Proofs.YtkmalggeieiepabDoor
open Go.RowKit

/-- what ends well has begun well, and has eaten no more than so many bytes. -/
def Eats (n : Nat) (f : List UInt8 × Int → List UInt8 × Int) : Prop := ∀ r, (f r).2 = 0 → r.2 = 0 ∧ r.1.length ≤ (f r).1.length + n
theorem Eats.mono {n m : Nat} {f : List UInt8 × Int → List UInt8 × Int} (h : Eats n f) (hm : n ≤ m) : Eats m f := fun r hr => ⟨(h r hr).1, by have := (h r hr).2; omega⟩
theorem Eats.comp {n m : Nat} {f g : List UInt8 × Int → List UInt8 × Int} (hf : Eats n f) (hg : Eats m g) : Eats (n + m) (fun r => g (f r)) := fun r hr => by
  obtain ⟨h1, h2⟩ := hg (f r) hr
  obtain ⟨h3, h4⟩ := hf r h1
  exact ⟨h3, by show r.1.length ≤ (g (f r)).1.length + _; omega⟩
theorem eats_take (n : Nat) : Eats n (fun r => (rTake n r).2) := by
  intro r hr
  unfold rTake at hr ⊢
  by_cases h : r.2 = 0
  · simp only [h, ne_eq, not_true_eq_false, if_false] at hr ⊢
    by_cases h2 : r.1.length < n
    · simp [h2] at hr
    · simp only [h2, if_false] at hr ⊢
      refine ⟨trivial, ?_⟩
      simp; omega
  · simp [h] at hr
theorem eats_size : Eats 9 (fun r => (rSize r).2) := by
  rintro ⟨l, e⟩ hr
  unfold rSize at hr ⊢
  by_cases h : e = 0
  · simp only [h, ne_eq, not_true_eq_false, if_false] at hr ⊢
    cases l with
    | nil => simp at hr
    | cons c l =>
      have hm : manyOf c ≤ 8 := by unfold manyOf; split; · omega
                                   split; · omega
                                   split <;> omega
      by_cases h1 : manyOf c = 0
      · simp only [h1, if_true] at hr ⊢
        exact ⟨trivial, by simp⟩
      · simp only [h1, if_false] at hr ⊢
        by_cases h2 : l.length < manyOf c
        · simp [h2] at hr
        · simp only [h2, if_false] at hr ⊢
          refine ⟨trivial, ?_⟩
          simp; omega
  · simp [h] at hr
theorem eats_within (lo hi : Nat) : Eats 9 (fun r => (rWithin lo hi r).2) := by
  intro r hr
  have hs := eats_size r
  unfold rWithin at hr ⊢
  by_cases h : (rSize r).2.2 = 0
  · simp only [h, ne_eq, not_true_eq_false, if_false] at hr ⊢
    by_cases h2 : (rSize r).1 < lo ∨ hi < (rSize r).1
    · simp [h2] at hr
    · simp only [h2, if_false] at hr ⊢
      exact hs h
  · simp [h] at hr
theorem eats_script : Eats 49 rScript := by
  intro r hr
  have h0 := rWithin_hi 0 40 r
  obtain ⟨h1, h2⟩ := eats_take (rWithin 0 40 r).1 (rWithin 0 40 r).2 hr
  obtain ⟨h3, h4⟩ := eats_within 0 40 r h1
  refine ⟨h3, ?_⟩
  show r.1.length ≤ (rTake (rWithin 0 40 r).1 (rWithin 0 40 r).2).2.1.length + 49
  have h2' : (rWithin 0 40 r).2.1.length ≤ (rTake (rWithin 0 40 r).1 (rWithin 0 40 r).2).2.1.length + (rWithin 0 40 r).1 := h2
  have h4' : r.1.length ≤ (rWithin 0 40 r).2.1.length + 9 := h4
  omega
theorem eats_in : Eats 89 rIn := ((eats_take 36).comp eats_script).comp (eats_take 4)
theorem eats_out : Eats 57 rOut := (eats_take 8).comp eats_script
theorem eats_rep {n : Nat} {f : List UInt8 × Int → List UInt8 × Int} (hf : Eats n f) : ∀ k, Eats (k * n) (rep f k)
  | 0 => fun r hr => ⟨hr, by show r.1.length ≤ r.1.length + _; omega⟩
  | k + 1 => by
    have h := hf.comp (eats_rep hf k)
    exact h.mono (by rw [Nat.succ_mul]; omega)
theorem eats_reps {n : Nat} {f : List UInt8 × Int → List UInt8 × Int} (hf : Eats n f) : Eats (9 + 4 * n) (fun r => rep f (rWithin 1 4 r).1 (rWithin 1 4 r).2) := by
  intro r hr
  have h0 := rWithin_hi 1 4 r
  obtain ⟨h1, h2⟩ := eats_rep hf (rWithin 1 4 r).1 (rWithin 1 4 r).2 hr
  obtain ⟨h3, h4⟩ := eats_within 1 4 r h1
  refine ⟨h3, ?_⟩
  have h4' : r.1.length ≤ (rWithin 1 4 r).2.1.length + 9 := h4
  have h5 : (rWithin 1 4 r).1 * n ≤ 4 * n := Nat.mul_le_mul_right n h0
  show r.1.length ≤ (rep f (rWithin 1 4 r).1 (rWithin 1 4 r).2).1.length + (9 + 4 * n)
  omega
theorem eats_tx : Eats 610 rTx := (((eats_take 4).comp (eats_reps eats_in)).comp (eats_reps eats_out)).comp (eats_take 4) |>.mono (by omega)
/-- a transaction is not long. -/
theorem txErr_len (l : List UInt8) (h : txErr l = 0) : l.length ≤ 610 := by
  unfold txErr rDone at h
  by_cases h1 : (rTx (l, 0)).2 = 0 ∧ (rTx (l, 0)).1 ≠ []
  · rw [if_pos h1] at h; cases h
  · rw [if_neg h1] at h
    obtain ⟨_, h2⟩ := eats_tx (l, 0) h
    have h3 : (rTx (l, 0)).1 = [] := by
      rcases Decidable.em ((rTx (l, 0)).1 = []) with e | e
      · exact e
      · exact absurd ⟨h, e⟩ h1
    rw [h3] at h2
    simpa using h2
end Go.Proofs.YtkmalggeieiepabDoor
namespace Go.Proofs.YtkmalggeieiepabDoor
open Go.RowKit

def pw : Nat → Int
  | 0 => 1
  | n + 1 => pw n * 65536
theorem pw_add (i j : Nat) : pw (i + j) = pw i * pw j := by
  induction j with
  | zero => simp [pw]
  | succ j ih => show pw (i + j) * 65536 = pw i * (pw j * 65536); rw [ih, Int.mul_assoc]
theorem pw_pos (n : Nat) : 0 < pw n := by
  induction n with
  | zero => simp [pw]
  | succ n ih => simp only [pw]; omega
/-- a number out of digits of base 65536, the lowest first. -/
def vV (f : Nat → Int) : Nat → Int
  | 0 => 0
  | n + 1 => vV f n + f n * pw n
def Dig (f : Nat → Int) (n : Nat) : Prop := ∀ j, j < n → 0 ≤ f j ∧ f j < 65536
theorem vV_congr (f g : Nat → Int) (n : Nat) (h : ∀ j, j < n → f j = g j) : vV f n = vV g n := by
  induction n with
  | zero => rfl
  | succ n ih => simp only [vV]; rw [ih (fun j hj => h j (by omega)), h n (by omega)]
theorem vV_upd (f : Nat → Int) (i n : Nat) (x : Int) (h : i < n) : vV (upd f i x) n = vV f n + (x - f i) * pw i := by
  induction n with
  | zero => omega
  | succ n ih =>
    simp only [vV]
    by_cases e : i = n
    · subst e
      rw [vV_congr (upd f i x) f i (fun j hj => upd_other f i j x (by omega)), upd_same]
      grind
    · rw [ih (by omega), upd_other f i n x (by omega)]
      omega
theorem Dig.upd {f : Nat → Int} {n : Nat} (h : Dig f n) (i : Nat) (x : Int) (h0 : 0 ≤ x) (h1 : x < 65536) : Dig (upd f i x) n := by
  intro j hj
  by_cases e : j = i
  · subst e; rw [upd_same]; exact ⟨h0, h1⟩
  · rw [upd_other f i j x e]; exact h j hj
/-- one step of the inner loop. -/
theorem inner_step (o fb : Nat → Int) (N i j : Nat) (x c A : Int) (hij : i + j < N) (h : vV o N + c * pw (i + j) = A + x * vV fb j * pw i) :
    vV (upd o (i + j) ((o (i + j) + x * fb j + c) % 65536)) N + (o (i + j) + x * fb j + c) / 65536 * pw (i + (j + 1)) = A + x * vV fb (j + 1) * pw i := by
  rw [vV_upd o (i + j) N _ hij, show i + (j + 1) = (i + j) + 1 from rfl]
  simp only [pw, vV]
  have e := Int.mul_ediv_add_emod (o (i + j) + x * fb j + c) 65536
  have e2 := pw_add i j
  generalize (o (i + j) + x * fb j + c) / 65536 = q at e
  generalize (o (i + j) + x * fb j + c) % 65536 = r at e
  generalize o (i + j) = y at e
  grind
theorem outer_step (o : Nat → Int) (fa fb : Nat → Int) (N i lb : Nat) (c : Int) (hij : i + lb < N) (hz : o (i + lb) = 0) (h : vV o N + c * pw (i + lb) = vV fa i * vV fb lb + fa i * vV fb lb * pw i) :
    vV (upd o (i + lb) (o (i + lb) + c)) N = vV fa (i + 1) * vV fb lb := by
  rw [vV_upd o (i + lb) N _ hij, hz]
  simp only [vV]
  grind
theorem carry_le (y x z c : Int) (h1 : 0 ≤ y) (h2 : y < 65536) (h3 : 0 ≤ x) (h4 : x < 65536) (h5 : 0 ≤ z) (h6 : z < 65536) (h7 : 0 ≤ c) (h8 : c ≤ 65535) : 0 ≤ x * z ∧ x * z ≤ 4294836225 ∧ (y + x * z + c) / 65536 ≤ 65535 := by
  have hp : 0 ≤ x * z := Int.mul_nonneg h3 h5
  have hq : x * z ≤ 65535 * 65535 := Int.mul_le_mul (by omega) (by omega) h5 (by omega)
  omega
theorem vV_bd (f : Nat → Int) (n : Nat) (h : Dig f n) : 0 ≤ vV f n ∧ vV f n < pw n := by
  induction n with
  | zero => simp [vV, pw]
  | succ n ih =>
    obtain ⟨h0, h1⟩ := ih (fun j hj => h j (by omega))
    obtain ⟨d0, d1⟩ := h n (by omega)
    have hp := pw_pos n
    simp only [vV, pw]
    have e1 : 0 ≤ f n * pw n := Int.mul_nonneg d0 (by omega)
    have e2 : f n * pw n ≤ 65535 * pw n := Int.mul_le_mul_of_nonneg_right (by omega) (by omega)
    omega
theorem vV_top (f g : Nat → Int) (k n : Nat) (hk : k < n) (h : ∀ j, k < j → j < n → f j = g j) : vV f n - vV g n = (vV f k - vV g k) + (f k - g k) * pw k := by
  induction n with
  | zero => omega
  | succ n ih =>
    simp only [vV]
    by_cases e : k = n
    · subst e; grind
    · have h1 := ih (by omega) (fun j hj hjn => h j hj (by omega))
      have h2 := h n (by omega) (by omega)
      rw [h2]; omega
theorem vV_cmp (f g : Nat → Int) (k n : Nat) (hk : k < n) (h : ∀ j, k < j → j < n → f j = g j) (hf : Dig f n) (hg : Dig g n) (hne : f k ≠ g k) : (vV g n < vV f n ↔ g k < f k) := by
  have e := vV_top f g k n hk h
  have b1 := vV_bd f k (fun j hj => hf j (by omega))
  have b2 := vV_bd g k (fun j hj => hg j (by omega))
  have hp := pw_pos k
  constructor
  · intro hlt
    rcases Int.lt_or_gt_of_ne hne with h1 | h1
    · have : (f k - g k) * pw k ≤ (-1) * pw k := Int.mul_le_mul_of_nonneg_right (by omega) (by omega)
      omega
    · exact h1
  · intro h1
    have : 1 * pw k ≤ (f k - g k) * pw k := Int.mul_le_mul_of_nonneg_right (by omega) (by omega)
    omega
theorem vV_pad (f : Nat → Int) (lb n : Nat) (h : lb ≤ n) : vV (fun j => if j < lb then f j else 0) n = vV f lb := by
  induction n with
  | zero => obtain rfl : lb = 0 := by omega
            rfl
  | succ n ih =>
    by_cases e : lb = n + 1
    · subst e; exact vV_congr _ _ _ (fun j hj => by simp [hj])
    · simp only [vV]
      rw [ih (by omega)]
      have : ¬ n < lb := by omega
      simp [this]
end Go.Proofs.YtkmalggeieiepabDoor
namespace Go.Proofs.YtkmalggeieiepabDoor
open Go.RowKit

end Go.Proofs.YtkmalggeieiepabDoor
namespace Go.Proofs.YtkmalggeieiepabDoor
open Go.RowKit

end Go.Proofs.YtkmalggeieiepabDoor
namespace Go.Proofs.YtkmalggeieiepabDoor
open Go.RowKit

def powI (X : Int) : Nat → Int
  | 0 => 1
  | n + 1 => powI X n * X
/-- three digits. -/
def dg3 (X : Int) : Nat → Int
  | 0 => X % 65536
  | 1 => X / 65536 % 65536
  | _ => X / 65536 / 65536
theorem dg3_dig (X : Int) (h0 : 0 ≤ X) (h1 : X < 281474976710656) : Dig (dg3 X) 3 := by
  intro j hj
  match j, hj with
  | 0, _ => show 0 ≤ X % 65536 ∧ X % 65536 < 65536; omega
  | 1, _ => show 0 ≤ X / 65536 % 65536 ∧ X / 65536 % 65536 < 65536; omega
  | 2, _ => show 0 ≤ X / 65536 / 65536 ∧ X / 65536 / 65536 < 65536; omega
theorem dg3_val (X : Int) : vV (dg3 X) 3 = X := by
  show 0 + X % 65536 * 1 + X / 65536 % 65536 * (1 * 65536) + X / 65536 / 65536 * (1 * 65536 * 65536) = X
  omega
theorem half_pow (e : Nat) : (2 : Int) ^ e / 2 = if e = 0 then 0 else 2 ^ (e - 1) := by
  match e with
  | 0 => rfl
  | n + 1 => rw [if_neg (by omega), Int.pow_succ]; show 2 ^ n * 2 / 2 = 2 ^ n; omega

end Go.Proofs.YtkmalggeieiepabDoor
namespace Go.Proofs.YtkmalggeieiepabDoor
open Go.RowKit
set_option maxRecDepth 10000

/-- one number tried. -/
def stepP (l : List Int) (p : Int) : List Int := if l.all (fun q => p % q != 0) then l ++ [p] else l
/-- the primes below p. -/
def prs : Nat → List Int
  | 0 => []
  | n + 1 => if n < 2 then prs n else stepP (prs n) n
theorem stepP_len (l : List Int) (p : Int) : l.length ≤ (stepP l p).length := by unfold stepP; split <;> simp
theorem prs_mono (a b : Nat) (h : a ≤ b) : (prs a).length ≤ (prs b).length := by
  induction b with
  | zero => obtain rfl : a = 0 := by omega
            exact Nat.le_refl _
  | succ b ih =>
    by_cases e : a = b + 1
    · subst e; exact Nat.le_refl _
    · refine Nat.le_trans (ih (by omega)) ?_
      simp only [prs]; split
      · exact Nat.le_refl _
      · exact stepP_len _ _
theorem prs_311 : (prs 311).length = 63 := by kernel_rfl
theorem prs_312 : (prs 312).length = 64 := by kernel_rfl
theorem prs_bd (n : Nat) : ∀ q ∈ prs n, 2 ≤ q ∧ q < n := by
  induction n with
  | zero => intro q hq; simp [prs] at hq
  | succ n ih =>
    intro q hq
    simp only [prs] at hq
    by_cases e : n < 2
    · rw [if_pos e] at hq; have := ih q hq; omega
    · rw [if_neg e] at hq
      unfold stepP at hq
      split at hq
      · rcases List.mem_append.1 hq with h | h
        · have := ih q h; omega
        · simp at h; omega
      · have := ih q hq; omega
theorem prs_step (n : Nat) (h : 2 ≤ n) : prs (n + 1) = stepP (prs n) n := by simp only [prs]; rw [if_neg (by omega)]

def ivals (l : List Int) : List Value := l.map (Value.int .i64)
/-- a row of the call's own, read. -/
theorem own_cell {w : World} {base : Nat} {l : List Int} {g cap n : Nat} (h : w.ownsRow base 3 1 (.slice (some ⟨g, 0, none⟩) n cap) n (ivals l)) (hn : n = l.length) (j : Nat) (hj : j < l.length) : w.cell? ⟨g, j, none⟩ = some (.int .i64 (l.getD j 0)) := by
  obtain ⟨_, h2⟩ := h
  rcases h2 with ⟨hv, _⟩ | ⟨g', cap', cur, hv, _, hg, _, _, _, ht⟩
  · cases hv
  · injection hv with e1 e2 e3
    injection e1 with e4
    injection e4 with e5
    subst e5
    rw [cell_of_row w g j cur _ _ hg]
    have h3 : (cur.toList.take (n * 1))[j]? = (ivals l)[j]? := by rw [ht]
    rw [List.getElem?_take, if_pos (by omega)] at h3
    rw [← Array.getElem?_toList, h3]
    simp [ivals, hj]

theorem infoInt : (Tryd.prog.info? 3).map (fun i => (i.zero, i.size, i.bytes)) = some (some (.int .i64 0), 1, 8) := by kernel_rfl
theorem one_new (w : World) (x : Value) (T : Nat) : ∀ j u, [x][j]? = some u → (w.alloc (.cells #[x] T)).cell? ((⟨w.heap.size, 0, none⟩ : Addr).add j) = some u := by
  intro j u hj
  match j, hj with
  | 0, hj => simp at hj; subst hj; simp [Addr.add]
theorem one_cell (x : Int) : ∀ u ∈ [Value.int .i64 x], u.oneCell' = true := by
  intro u hu; simp at hu; subst hu; rfl
theorem ownBlock_ge {w : World} {base e size n : Nat} {v : Value} {xs : List Value} (h : w.ownsRow base e size v n xs) : ∀ k, v.ownBlock = some k → base ≤ k := by
  intro k hk
  rcases h.2 with ⟨rfl, _⟩ | ⟨g, cap, cur, rfl, hb, _⟩
  · simp [Value.ownBlock] at hk
  · simp [Value.ownBlock] at hk; omega

end Go.Proofs.YtkmalggeieiepabDoor
