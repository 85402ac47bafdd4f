import Derived.Test.YtkmalggeieiepaaDoorSvd
import Derived.WalkKit
import Derived.WalkSpells
import Derived.WalkLawsBesides
import Derived.Deep.MidRow
import Derived.Deep.DeepCutAuto
import Derived.Laws.Bits64b
import Derived.Test.YtkmalggeieiepaaDoorSva
import Derived.Deep.QuietTactic
import Derived.BigQuiet
import Derived.Deep.RegionWith
import Derived.Test.YtkmalggeieiepaaDoorSvc
import Derived.Deep.LoopGhost
import Derived.Test.YtkmalggeieiepaaDoorSvb
set_option linter.unusedSimpArgs false
namespace Go.Proofs.YtkmalggeieiepaaDoor
open Go.RowKit

theorem le_mod : ∀ (k n : Nat), le (n % 256 ^ k) k = le n k
  | 0, _ => rfl
  | k + 1, n => by
    have ih := le_mod k (n / 256)
    have e1 : n % 256 ^ (k + 1) / 256 = n / 256 % 256 ^ k := by
      rw [Nat.pow_succ, Nat.mul_comm, Nat.mod_mul_right_div_self]
    have e2 : UInt8.ofNat (n % 256 ^ (k + 1)) = UInt8.ofNat n := by
      rw [← UInt8.toNat_inj]
      simp only [UInt8.toNat_ofNat']
      exact Nat.mod_mod_of_dvd n (by rw [Nat.pow_succ]; exact Nat.dvd_mul_left _ _)
    show UInt8.ofNat (n % 256 ^ (k + 1)) :: le (n % 256 ^ (k + 1) / 256) k = UInt8.ofNat n :: le (n / 256) k
    rw [e1, e2, ih]
theorem and_mask (n : Nat) (h : U64 n) : bits .and .u64 (n : Int) 281474976710655 = ((n % 281474976710656 : Nat) : Int) := by
  have := bits_and_u64_nat n 281474976710655 h (by omega)
  rw [show ((281474976710655 : Nat) : Int) = 281474976710655 from rfl] at this
  rw [this, show (281474976710655 : Nat) = 2 ^ 48 - 1 from rfl, Nat.and_two_pow_sub_one_eq_mod]

theorem q_run3 {P : Program} {o : Oper} {a : Act} {W W' : World} {r : Next} (s t u : Nat) (us ut uu : Value) (hs : a.eval (.tmp s) = us) (ht : a.eval (.tmp t) = ut) (hu : a.eval (.tmp u) = uu)
    (h : ∀ ρ : Operand → Value, (∀ c, ρ (.const c) = c) → (∀ n, ρ (.func n) = .func (.func n) #[] #[]) → ρ (.tmp s) = us → ρ (.tmp t) = ut → ρ (.tmp u) = uu → (execOp ρ o).run P W = .ok r W') : (execOp a.eval o).run P W = .ok r W' := h a.eval (fun _ => rfl) (fun _ => rfl) hs ht hu

set_option maxRecDepth 10000 in
set_option maxHeartbeats 2000000 in
theorem shortID_any (k l : Nat) (d : ByteArray) (hd : d.size = 32) (w : World) :
    Calls Tryd.prog 67 #[.agg #[.int .u64 (k : Int), .int .u64 (l : Int)], aggD d] w fun e w' => e = .returned (.int .u64 ((sipN k l d % 281474976710656 : Nat) : Int)) ∧ Below w.heap.size w w' := by
  have hm := and_mask (sipN k l d) (sipN_ok k l d)
  have HSP : Hid (∀ W, Calls Tryd.prog 91 #[.int .u64 (k : Int), .int .u64 (l : Int), .string d] W fun e w' => e = .returned (.int .u64 (sipN k l d : Int)) ∧ Below W.heap.size W w') := fun W => by rw [sipN_int]; exact sip_any k l d W (by omega)
  have HTX : Hid (∀ W, Calls Tryd.prog 21 #[aggD d] W fun e w' => e = .returned (.string d) ∧ Below W.heap.size W w') := fun W => text_d d hd W
  have hbl : (bc d).length = 32 := by rw [bc_length, hd]
  have HLD : Hid (aggD d = .agg (bc d).toArray) := rfl
  generalize ((sipN k l d % 281474976710656 : Nat) : Int) = V at hm
  generalize (sipN k l d : Int) = U at hm HSP
  generalize (k : Int) = K at HSP
  generalize (l : Int) = L at HSP
  go_enter Tryd.func67, Tryd.ntmps67
  unfold aggD
  go_upto_region 1 with fail
  obtain ⟨W1, hW1⟩ : ∃ W, W = (w.alloc (.cells #[.int .u64 K, .int .u64 L] 117)).alloc (.cells (bc d).toArray 43) := ⟨_, rfl⟩
  have HB1 : Hid (Below w.heap.size w W1) := by show Below _ _ _; rw [hW1]; exact ((Below.refl _ _).alloc (Nat.le_refl _) _).alloc (by simp) _
  have c0 : W1.cell? ⟨w.heap.size, 0, none⟩ = some (.int .u64 K) := by rw [hW1]; simp [go_sem]
  have c1 : W1.cell? ⟨w.heap.size, 1, none⟩ = some (.int .u64 L) := by rw [hW1]; simp [go_sem]
  have cd : W1.rangeAt (w.heap.size + 1) 0 (bc d) := by rw [hW1]; have := range_new (w.alloc (.cells #[.int .u64 K, .int .u64 L] 117)) (bc d) 43 _ rfl; simpa using this
  have hz1 : W1.heap.size = w.heap.size + 2 := by rw [hW1]; simp
  rw [← hW1]
  clear hW1
  have HST : Hid (∀ W, Below W1.heap.size W1 W → W.cell? ⟨w.heap.size, 0, none⟩ = some (.int .u64 K) ∧ W.cell? ⟨w.heap.size, 1, none⟩ = some (.int .u64 L) ∧ W.rangeAt (w.heap.size + 1) 0 (bc d)) := fun W hW =>
    ⟨by rw [hW.cell (p := ⟨w.heap.size, 0, none⟩) (by show w.heap.size < _; omega)]; exact c0, by rw [hW.cell (p := ⟨w.heap.size, 1, none⟩) (by show w.heap.size < _; omega)]; exact c1, range_later cd hW (by omega)⟩
  have HB0 : Below W1.heap.size W1 W1.drew := ⟨rfl, rfl, rfl, Nat.le_refl _, fun _ _ => rfl⟩
  clear c0 c1 cd
  refine q_frame (fun A HFR => ?_)
  have hsz : A.tmps.size = 13 := by rw [HFR.out]; rfl
  have h2 : A.eval (.tmp 2) = .pointer (some ⟨w.heap.size, 0, none⟩) := by rw [HFR.out]; rfl
  have h3 : A.eval (.tmp 3) = .pointer (some ⟨w.heap.size + 1, 0, none⟩) := by rw [HFR.out]; rfl
  refine wp_region_held_drew (S := fun W => W.cell? ⟨w.heap.size, 0, none⟩ = some (.int .u64 K) ∧ W.cell? ⟨w.heap.size, 1, none⟩ = some (.int .u64 L) ∧ W.rangeAt (w.heap.size + 1) 0 (bc d)) (by kernel_rfl) (HST.out _ HB0) (fun hS => ?_)
  refine wpAnyH_take (i := 0) (v := (.pointer (some ⟨w.heap.size, 0, none⟩))) rfl (by kernel_rfl) (by kernel_rfl) (by kernel_rfl) (fun _ _ _ h => h) (Or.inl ⟨by rfl, fun W _ => q_run1 2 (.pointer (some ⟨w.heap.size, 0, none⟩)) (by simp only [q_same, q_ne, q_sz, hsz, h2, h3, ne_eq, Nat.reduceEqDiff, not_false_eq_true, Nat.reduceLT]) (fun ρ hc hf e1 => by simp [go_sem, hc, hf, e1])⟩) hS ?_
  change wpAnyH _ _ _ _ _ _ _ (Act.put _ (some 5) _) _
  refine wpAnyH_take (i := 1) (v := (.int .u64 K)) rfl (by kernel_rfl) (by kernel_rfl) (by kernel_rfl) (fun _ _ _ h => h) (Or.inl ⟨by rfl, fun W hW => q_run1 5 (.pointer (some ⟨w.heap.size, 0, none⟩)) (by simp only [q_same, q_ne, q_sz, hsz, h2, h3, ne_eq, Nat.reduceEqDiff, not_false_eq_true, Nat.reduceLT]) (fun ρ hc hf e1 => by simp [go_sem, hc, hf, e1, hW.1])⟩) hS ?_
  change wpAnyH _ _ _ _ _ _ _ (Act.put _ (some 6) _) _
  refine wpAnyH_take (i := 2) (v := (.pointer (some ⟨w.heap.size, 1, none⟩))) rfl (by kernel_rfl) (by kernel_rfl) (by kernel_rfl) (fun _ _ _ h => h) (Or.inl ⟨by rfl, fun W _ => q_run1 2 (.pointer (some ⟨w.heap.size, 0, none⟩)) (by simp only [q_same, q_ne, q_sz, hsz, h2, h3, ne_eq, Nat.reduceEqDiff, not_false_eq_true, Nat.reduceLT]) (fun ρ hc hf e1 => by simp [go_sem, hc, hf, e1])⟩) hS ?_
  change wpAnyH _ _ _ _ _ _ _ (Act.put _ (some 7) _) _
  refine wpAnyH_take (i := 3) (v := (.int .u64 L)) rfl (by kernel_rfl) (by kernel_rfl) (by kernel_rfl) (fun _ _ _ h => h) (Or.inl ⟨by rfl, fun W hW => q_run1 7 (.pointer (some ⟨w.heap.size, 1, none⟩)) (by simp only [q_same, q_ne, q_sz, hsz, h2, h3, ne_eq, Nat.reduceEqDiff, not_false_eq_true, Nat.reduceLT]) (fun ρ hc hf e1 => by simp [go_sem, hc, hf, e1, hW.2.1])⟩) hS ?_
  change wpAnyH _ _ _ _ _ _ _ (Act.put _ (some 8) _) _
  refine wpAnyH_take (i := 4) (v := aggD d) rfl (by kernel_rfl) (by kernel_rfl) (by kernel_rfl) (fun _ _ _ h => h) (yieldsIf_load_mid (by rfl) 43 _ rfl (w.heap.size + 1) 0 (by simp only [q_same, q_ne, q_sz, hsz, h2, h3, ne_eq, Nat.reduceEqDiff, not_false_eq_true, Nat.reduceLT]) (bc d) _ (fun W hW => hW.2.2) Tryd.underlying43 rfl (by rw [hbl]; kernel_rfl)) hS ?_
  change wpAnyH _ _ _ _ _ _ _ (Act.put _ (some 9) _) _
  refine qH_call 5 21 #[aggD d] _ (by kernel_rfl) rfl rfl (q_run1 9 (aggD d) (by simp only [q_same, q_ne, q_sz, hsz, h2, h3, ne_eq, Nat.reduceEqDiff, not_false_eq_true, Nat.reduceLT]) (fun ρ hc hf e1 => by simp [go_sem, hc, hf, e1])) (calls_val (HTX.out _)) ?_
  rintro _ w2 ⟨rfl, hb2⟩
  have HB2 : Below W1.heap.size W1 w2 := HB0.trans hb2
  refine ⟨HST.out _ HB2, ?_⟩
  change wpAnyH _ _ _ _ _ _ _ (Act.put _ (some 10) _) _
  refine qH_call 6 91 #[.int .u64 K, .int .u64 L, .string d] _ (by kernel_rfl) rfl rfl (q_run3 6 8 10 (.int .u64 K) (.int .u64 L) (.string d) (by simp only [q_same, q_ne, q_sz, hsz, h2, h3, ne_eq, Nat.reduceEqDiff, not_false_eq_true, Nat.reduceLT]) (by simp only [q_same, q_ne, q_sz, hsz, h2, h3, ne_eq, Nat.reduceEqDiff, not_false_eq_true, Nat.reduceLT]) (by simp only [q_same, q_ne, q_sz, hsz, h2, h3, ne_eq, Nat.reduceEqDiff, not_false_eq_true, Nat.reduceLT]) (fun ρ hc hf e1 e2 e3 => by simp [go_sem, hc, hf, e1, e2, e3])) (calls_val (HSP.out _)) ?_
  rintro _ w3 ⟨rfl, hb3⟩
  have HB3 : Below W1.heap.size W1 w3 := HB2.trans (hb3.mono HB2.size)
  refine ⟨HST.out _ HB3, ?_⟩
  change wpAnyH _ _ _ _ _ _ _ (Act.put _ (some 11) _) _
  refine qH_one 7 (.int .u64 V) w3 (by kernel_rfl) rfl rfl (q_run1 11 (.int .u64 U) (by simp only [q_same, q_ne, q_sz, hsz, h2, h3, ne_eq, Nat.reduceEqDiff, not_false_eq_true, Nat.reduceLT]) (fun ρ hc hf e1 => by simp [go_sem, hc, hf, e1, hm])) (HST.out _ HB3) ?_
  change wpAnyH _ _ _ _ _ _ _ (Act.put _ (some 12) _) _
  refine qH_one 8 (.int .u64 V) w3 (by kernel_rfl) rfl rfl (q_run1 12 (.int .u64 V) (by simp only [q_same, q_ne, q_sz, hsz, h2, h3, ne_eq, Nat.reduceEqDiff, not_false_eq_true, Nat.reduceLT]) (fun ρ hc hf e1 => by simp [go_sem, hc, hf, e1])) (HST.out _ HB3) ?_
  change wpAnyH _ _ _ _ _ _ _ (Act.put _ (some 4) _) _
  refine wpAnyH_done (by kernel_rfl) ?_ _
  have HBF : Hid (Below w.heap.size w w3) := HB1.out.trans (HB3.mono (by omega))
  have hfr := HFR.out
  clear HFR hsz h2 h3 hS HB0 HB2 HB3 hb2 hb3 HST
  subst hfr
  simp only [Act.put, List.setIfInBounds_toArray, List.set_cons_zero, List.set_cons_succ]
  go_wp2
  go_ret
  exact ⟨rfl, HBF.out⟩
end Go.Proofs.YtkmalggeieiepaaDoor
namespace Go.Proofs.YtkmalggeieiepaaDoor
open Go.RowKit

theorem le_num : ∀ t : List UInt8, le (num t) t.length = t
  | [] => rfl
  | c :: t => by
    have h := c.toNat_lt
    have e1 : UInt8.ofNat (num (c :: t)) = c := by
      rw [← UInt8.toNat_inj]; simp [num]
    have e2 : num (c :: t) / 256 = num t := by simp only [num]; omega
    show UInt8.ofNat (num (c :: t)) :: le (num (c :: t) / 256) t.length = c :: t
    rw [e1, e2, le_num t]
/-- the least that wants so many bytes. -/
def leastOf (c : UInt8) : Nat := if c = 253 then 253 else if c = 254 then 65536 else if c = 255 then 4294967296 else 0
theorem size_told (c : UInt8) (t : List UInt8) (hm : manyOf c ≠ 0) (ht : t.length = manyOf c) : (sizeL (num t) = c :: t) ↔ ¬ num t < leastOf c := by
  have hn := num_lt t
  have hle := le_num t
  rw [ht] at hn hle
  have hc : c = 253 ∨ c = 254 ∨ c = 255 := by
    unfold manyOf at hm
    by_cases h1 : c = 253
    · exact .inl h1
    · by_cases h2 : c = 254
      · exact .inr (.inl h2)
      · by_cases h3 : c = 255
        · exact .inr (.inr h3)
        · simp [h1, h2, h3] at hm
  rcases hc with rfl | rfl | rfl
  · have m : manyOf 253 = 2 := rfl
    have k : leastOf 253 = 253 := rfl
    rw [m] at hn hle
    rw [k]
    have hn' : num t < 65536 := by simpa using hn
    constructor
    · intro h h2
      have : sizeL (num t) = le (num t) 1 := by simp [sizeL, h2]
      rw [this] at h
      have := congrArg List.length h
      rw [le_length] at this
      simp [m] at ht
      simp [ht] at this
    · intro h
      have : sizeL (num t) = 253 :: le (num t) 2 := by simp [sizeL, h, hn']
      rw [this, hle]
  · have m : manyOf 254 = 4 := rfl
    have k : leastOf 254 = 65536 := rfl
    rw [m] at hn hle
    rw [k]
    have hn' : num t < 4294967296 := by simpa using hn
    constructor
    · intro h h2
      unfold sizeL at h
      by_cases h1 : num t < 253
      · rw [if_pos h1] at h
        have := congrArg List.length h
        rw [le_length] at this
        simp [m] at ht
        simp [ht] at this
      · rw [if_neg h1, if_pos h2] at h
        injection h with h3
        exact absurd h3 (by decide)
    · intro h
      have : sizeL (num t) = 254 :: le (num t) 4 := by
        unfold sizeL; rw [if_neg (by omega), if_neg h, if_pos hn']
      rw [this, hle]
  · have m : manyOf 255 = 8 := rfl
    have k : leastOf 255 = 4294967296 := rfl
    rw [m] at hn hle
    rw [k]
    constructor
    · intro h h2
      unfold sizeL at h
      by_cases h1 : num t < 253
      · rw [if_pos h1] at h
        have := congrArg List.length h
        rw [le_length] at this
        simp [m] at ht
        simp [ht] at this
      · by_cases h3 : num t < 65536
        · rw [if_neg h1, if_pos h3] at h
          injection h with h4
          exact absurd h4 (by decide)
        · rw [if_neg h1, if_neg h3, if_pos h2] at h
          injection h with h4
          exact absurd h4 (by decide)
    · intro h
      have : sizeL (num t) = 255 :: le (num t) 8 := by
        unfold sizeL; rw [if_neg (by omega), if_neg (by omega), if_neg h]
      rw [this, hle]
/-- a fault stays. -/
def Stick (f : List UInt8 × Int → List UInt8 × Int) : Prop := ∀ r, r.2 ≠ 0 → (f r).2 = r.2
theorem Stick.comp {f g : List UInt8 × Int → List UInt8 × Int} (hf : Stick f) (hg : Stick g) : Stick (fun r => g (f r)) := fun r hr => by
  have h := hf r hr
  show (g (f r)).2 = r.2
  rw [hg (f r) (by rw [h]; exact hr), h]
theorem stick_take (n : Nat) : Stick (fun r => (rTake n r).2) := fun r hr => by simp [rTake, hr]
theorem stick_size : Stick (fun r => (rSize r).2) := fun r hr => by simp [rSize, hr]
theorem stick_within (lo hi : Nat) : Stick (fun r => (rWithin lo hi r).2) := fun r hr => by
  have h := stick_size r hr
  have h2 : (rSize r).2.2 ≠ 0 := by rw [show (rSize r).2.2 = r.2 from h]; exact hr
  show (rWithin lo hi r).2.2 = r.2
  unfold rWithin; rw [if_pos h2]; exact h
theorem stick_script : Stick rScript := fun r hr => by
  have h := stick_within 0 40 r hr
  show (rTake (rWithin 0 40 r).1 (rWithin 0 40 r).2).2.2 = r.2
  rw [stick_take _ (rWithin 0 40 r).2 (by rw [show (rWithin 0 40 r).2.2 = r.2 from h]; exact hr)]; exact h
theorem stick_in : Stick rIn := ((stick_take 36).comp stick_script).comp (stick_take 4)
theorem stick_out : Stick rOut := (stick_take 8).comp stick_script
theorem stick_rep {f : List UInt8 × Int → List UInt8 × Int} (hf : Stick f) : ∀ k, Stick (rep f k)
  | 0 => fun _ _ => rfl
  | k + 1 => hf.comp (stick_rep hf k)
theorem stick_reps {f : List UInt8 × Int → List UInt8 × Int} (hf : Stick f) (lo hi : Nat) : Stick (fun r => rep f (rWithin lo hi r).1 (rWithin lo hi r).2) := fun r hr => by
  have h := stick_within lo hi r hr
  show (rep f (rWithin lo hi r).1 (rWithin lo hi r).2).2 = r.2
  rw [stick_rep hf _ (rWithin lo hi r).2 (by rw [show (rWithin lo hi r).2.2 = r.2 from h]; exact hr)]; exact h
theorem stick_done : Stick rDone := fun r hr => by simp [rDone, hr]
end Go.Proofs.YtkmalggeieiepaaDoor
namespace Go.Proofs.YtkmalggeieiepaaDoor
open Go.RowKit

/-- a cursor lies in block g, ahead of m. -/
structure Cu (w : World) (g : Nat) (l m : List UInt8) : Prop where
  s : w.cell? ⟨g, 0, none⟩ = some (.string (ofL l))
  e : ∃ a : Nat, a ≤ l.length ∧ m = l.drop a ∧ w.cell? ⟨g, 1, none⟩ = some (.int .i64 (a : Int))
  ef : w.frozen? ⟨g, 1, none⟩ = false
theorem Cu.lt {w : World} {g : Nat} {l m : List UInt8} (h : Cu w g l m) : g < w.heap.size := World.block_lt_of_cell? w _ h.s
theorem Cu.later {w w' : World} {g : Nat} {l m : List UInt8} (h : Cu w g l m) (hb : Below w.heap.size w w') : Cu w' g l m := by
  have hl := h.lt
  obtain ⟨a, h1, h2, h3⟩ := h.e
  exact ⟨by rw [hb.cell (p := ⟨g, 0, none⟩) hl]; exact h.s, ⟨a, h1, h2, by rw [hb.cell (p := ⟨g, 1, none⟩) hl]; exact h3⟩, by rw [hb.frozen (p := ⟨g, 1, none⟩) hl]; exact h.ef⟩
theorem Cu.setA {w : World} {g : Nat} {l m : List UInt8} (h : Cu w g l m) (b : Nat) (hb : b ≤ l.length) : Cu (w.setCell ⟨g, 1, none⟩ (.int .i64 (b : Int))) g l (l.drop b) := by
  obtain ⟨a, _, _, h3⟩ := h.e
  refine ⟨?_, ⟨b, hb, rfl, World.cell?_setCell_same _ _ _ h3⟩, ?_⟩
  · rw [World.cell?_setCell_other _ _ _ _ (by simp)]; exact h.s
  · simp only [World.frozen?_setCell]; exact h.ef
theorem Cu.drewN {w : World} {g : Nat} {l m : List UInt8} (h : Cu w g l m) (n : Nat) : Cu (w.drewN n) g l m := ⟨h.s, h.e, h.ef⟩
/-- it leaves by a panic of this error. -/
def Errn (c : Int) : Ending := .panicked [{ v := .iface 26 (.int .i64 c), recovered := false }]
/-- a part was read, or it left. -/
def Got (g : Nat) (l : List UInt8) (w : World) (v : Value) (r : List UInt8 × Int) (x : Ending) (w' : World) : Prop :=
  Mov g w w' ∧ (if r.2 = 0 then x = .returned v ∧ Cu w' g l r.1 else x = Errn r.2)

theorem Got.ok {g : Nat} {l : List UInt8} {w w' : World} {v : Value} {r : List UInt8 × Int} (hr : r.2 = 0) (hm : Mov g w w') (hc : Cu w' g l r.1) : Got g l w v r (.returned v) w' := ⟨hm, by rw [if_pos hr]; exact ⟨rfl, hc⟩⟩
theorem Got.no {g : Nat} {l : List UInt8} {w w' : World} {v : Value} {r : List UInt8 × Int} {c : Int} (hr : r.2 = c) (hc : c ≠ 0) (hm : Mov g w w') : Got g l w v r (.panicked [{ v := .iface 26 (.int .i64 c), recovered := false }]) w' := ⟨hm, by rw [if_neg (by rw [hr]; exact hc), hr]; rfl⟩
theorem calls_ok {f : FuncId} {vs : Array Value} {g : Nat} {l : List UInt8} {w0 w : World} {v : Value} {r : List UInt8 × Int} (h : Calls Tryd.prog f vs w0 (Got g l w v r)) (hr : r.2 = 0) : Calls Tryd.prog f vs w0 fun x w' => x = .returned v ∧ Cu w' g l r.1 ∧ Mov g w w' :=
  h.mono fun x w' hx => by
    obtain ⟨hm, h2⟩ := hx
    rw [if_pos hr] at h2
    exact ⟨h2.1, h2.2, hm⟩
theorem calls_no {f : FuncId} {vs : Array Value} {g : Nat} {l : List UInt8} {w0 w : World} {v : Value} {r : List UInt8 × Int} (h : Calls Tryd.prog f vs w0 (Got g l w v r)) (hr : r.2 ≠ 0) : Calls Tryd.prog f vs w0 fun x w' => x = .panicked [{ v := .iface 26 (.int .i64 r.2), recovered := false }] ∧ Mov g w w' :=
  h.mono fun x w' hx => by
    obtain ⟨hm, h2⟩ := hx
    rw [if_neg hr] at h2
    exact ⟨h2, hm⟩
theorem Mov.drewN {g : Nat} {a w : World} (h : Mov g a w) (n : Nat) : Mov g a (w.drewN n) := ⟨h.os, h.tape, h.output, h.size, h.block⟩
theorem Mov.drew {g : Nat} {a w : World} (h : Mov g a w) : Mov g a w.drew := ⟨h.os, h.tape, h.output, h.size, h.block⟩

set_option maxRecDepth 10000 in
theorem cuTake_any (g n : Nat) (l m : List UInt8) (w : World) (h : Cu w g l m) (hl : l.length ≤ maxLen) :
    Calls Tryd.prog 54 #[.pointer (some ⟨g, 0, none⟩), .int .i64 (n : Int)] w (Got g l w (.string (ofL (rTake n (m, 0)).1)) (rTake n (m, 0)).2) := by
  have HR : Hid (Cu w g l m) := h
  have d0 := h.s
  obtain ⟨a, ha, hm, d1⟩ := h.e
  have d2 := h.ef
  have hsz := ofL_size l
  have hml : m.length = l.length - a := by rw [hm]; simp
  clear h
  by_cases hlt : m.length < n
  · have e3 : rTake n (m, 0) = ([], (m, 1)) := by simp [rTake, hlt]
    rw [e3]
    have hgt : wrap64 ((l.length : Int) - (a : Int)) < (n : Int) := by unfold wrap64; unfold maxLen at hl; omega
    go_enter Tryd.func54, Tryd.ntmps54
    go_wp2
    go_quiet (fail)
    go_wp2
    exact ⟨rfl, Got.no rfl (by omega) ((Mov.refl _ _).drewN _)⟩
  · have e3 : rTake n (m, 0) = (m.take n, (m.drop n, 0)) := by simp [rTake, hlt]
    rw [e3]
    have hgt : ¬ (wrap64 ((l.length : Int) - (a : Int)) < (n : Int)) := by unfold wrap64; unfold maxLen at hl; omega
    have hw : wrap64 ((a : Int) + (n : Int)) = ((a + n : Nat) : Int) := by unfold wrap64; unfold maxLen at hl; omega
    have x1 : (ofL l).extract a (a + n) = ofL (m.take n) := by rw [ofL_extract, hm]; congr 2; omega
    have b1 : (a : Int) ≤ ((a + n : Nat) : Int) := by omega
    have b2 : ((a + n : Nat) : Int) ≤ (l.length : Int) := by omega
    go_enter Tryd.func54, Tryd.ntmps54
    go_wp2
    go_quiet (fail)
    go_wp2
    go_quiet (fail)
    go_wp2
    go_ret
    have hd : m.drop n = l.drop (a + n) := by rw [hm, List.drop_drop]
    show Got _ _ _ _ _ (Ending.returned (Value.string ((ofL l).extract a (a + n)))) _
    rw [x1, hd]
    exact Got.ok rfl ((((Mov.refl _ _).drewN _).set 1 _).drewN _) (((HR.out.drewN _).setA (a + n) (by omega)).drewN _)

set_option maxRecDepth 10000 in
theorem cuEnd_any (g : Nat) (l m : List UInt8) (w : World) (h : Cu w g l m) :
    Calls Tryd.prog 53 #[.pointer (some ⟨g, 0, none⟩)] w (Got g l w (.tuple #[]) (rDone (m, 0))) := by
  have HR : Hid (Cu w g l m) := h
  have d0 := h.s
  obtain ⟨a, ha, hm, d1⟩ := h.e
  have hsz := ofL_size l
  have hml : m.length = l.length - a := by rw [hm]; simp
  clear h
  by_cases hlt : a < l.length
  · have hne : m ≠ [] := fun e => by rw [e] at hml; simp at hml; omega
    have e3 : rDone (m, 0) = (m, 5) := by simp [rDone, hne]
    rw [e3]
    have hgt : (a : Int) < (l.length : Int) := by omega
    go_enter Tryd.func53, Tryd.ntmps53
    go_wp2
    go_quiet (fail)
    go_wp2
    exact ⟨rfl, Got.no rfl (by omega) ((Mov.refl _ _).drewN _)⟩
  · have hne : m = [] := List.eq_nil_of_length_eq_zero (by omega)
    have e3 : rDone (m, 0) = (m, 0) := by simp [rDone, hne]
    rw [e3]
    have hgt : ¬ ((a : Int) < (l.length : Int)) := by omega
    go_enter Tryd.func53, Tryd.ntmps53
    go_wp2
    go_quiet (fail)
    go_wp2
    go_end0
    exact Got.ok rfl ((Mov.refl _ _).drewN _) (HR.out.drewN _)

/-- a size of so many bytes. -/
def rLong (k b : Nat) (m : List UInt8) : Nat × (List UInt8 × Int) :=
  if m.length < k then (0, (m, 1)) else (num (m.take k), (m.drop k, if num (m.take k) < b then 2 else 0))
set_option maxRecDepth 10000 in
theorem cuLong_any (g k b : Nat) (l m : List UInt8) (w : World) (h : Cu w g l m) (hl : l.length ≤ maxLen) (hk : k ≤ 8) :
    Calls Tryd.prog 99 #[.pointer (some ⟨g, 0, none⟩), .int .i64 (k : Int), .int .u64 (b : Int)] w (Got g l w (.int .u64 ((rLong k b m).1 : Int)) (rLong k b m).2) := by
  have hT := cuTake_any g k l m w h hl
  clear h
  by_cases hlt : m.length < k
  · have e3 : rTake k (m, 0) = ([], (m, 1)) := by simp [rTake, hlt]
    have e4 : rLong k b m = (0, (m, 1)) := by simp [rLong, hlt]
    rw [e3] at hT
    rw [e4]
    have hN := calls_no hT (by simp)
    clear hT
    go_enter Tryd.func99, Tryd.ntmps99
    go_wp2_with (go_at_call 54; go_must (refine hN.mono ?_); rintro x w1 ⟨rfl, hm1⟩)
    exact ⟨rfl, Got.no rfl (by omega) hm1⟩
  · have e3 : rTake k (m, 0) = (m.take k, (m.drop k, 0)) := by simp [rTake, hlt]
    have e4 : rLong k b m = (num (m.take k), (m.drop k, if num (m.take k) < b then 2 else 0)) := by simp [rLong, hlt]
    rw [e3] at hT
    rw [e4]
    have hN := calls_ok hT rfl
    have hL := fun W => lowest_any (ofL (m.take k)) W (by rw [ofL_size]; simp; omega)
    rw [ofL_data] at hL
    clear hT e3 e4
    generalize num (m.take k) = N at hL
    by_cases hb : N < b
    · have hb' : (N : Int) < (b : Int) := by omega
      rw [if_pos hb]
      go_enter Tryd.func99, Tryd.ntmps99
      go_wp2_with (first | (go_at_call 54; go_must (refine hN.mono ?_); rintro x w1 ⟨rfl, hc1, hm1⟩) | (go_at_call 89; go_must (refine (hL _).mono ?_); rintro x w2 ⟨rfl, rfl⟩))
      exact ⟨rfl, Got.no rfl (by omega) hm1⟩
    · have hb' : ¬ ((N : Int) < (b : Int)) := by omega
      rw [if_neg hb]
      go_enter Tryd.func99, Tryd.ntmps99
      go_wp2_with (first | (go_at_call 54; go_must (refine hN.mono ?_); rintro x w1 ⟨rfl, hc1, hm1⟩) | (go_at_call 89; go_must (refine (hL _).mono ?_); rintro x w2 ⟨rfl, rfl⟩))
      go_ret
      exact Got.ok rfl hm1 hc1
end Go.Proofs.YtkmalggeieiepaaDoor
namespace Go.Proofs.YtkmalggeieiepaaDoor
open Go.RowKit

theorem rSize_long (c : UInt8) (m : List UInt8) (hm : manyOf c ≠ 0) : rSize (c :: m, 0) = rLong (manyOf c) (leastOf c) m := by
  show (if manyOf c = 0 then _ else _ : Nat × (List UInt8 × Int)) = _
  rw [if_neg hm]
  unfold rLong
  by_cases h : m.length < manyOf c
  · rw [if_pos h, if_pos h]
  · rw [if_neg h, if_neg h]
    have hs := size_told c (m.take (manyOf c)) hm (by simp; omega)
    by_cases h2 : num (m.take (manyOf c)) < leastOf c
    · rw [if_pos h2, if_neg (fun e => (hs.1 e) h2)]
    · rw [if_neg h2, if_pos (hs.2 h2)]

set_option maxRecDepth 10000 in
set_option maxHeartbeats 1000000 in
theorem cuAny_any (g : Nat) (l m : List UInt8) (w : World) (h : Cu w g l m) (hl : l.length ≤ maxLen) :
    Calls Tryd.prog 95 #[.pointer (some ⟨g, 0, none⟩)] w (Got g l w (.int .u64 ((rSize (m, 0)).1 : Int)) (rSize (m, 0)).2) := by
  have hT := cuTake_any g 1 l m w h hl
  clear h
  cases m with
  | nil =>
    have e1 : rTake 1 ([], 0) = ([], ([], 1)) := by simp [rTake]
    have e2 : rSize ([], 0) = (0, ([], 1)) := by simp [rSize]
    rw [e1] at hT
    rw [e2]
    have hN := calls_no hT (by simp)
    clear hT
    go_enter Tryd.func95, Tryd.ntmps95
    go_wp2_with (go_at_call 54; go_must (refine hN.mono ?_); rintro x w1 ⟨rfl, hm1⟩)
    exact ⟨rfl, Got.no rfl (by omega) hm1⟩
  | cons c m =>
    have e1 : rTake 1 (c :: m, 0) = ([c], (m, 0)) := by simp [rTake]
    rw [e1] at hT
    have hN := calls_ok hT rfl
    have hL := fun W => lowest_any (ofL [c]) W (by rw [ofL_size]; simp)
    rw [ofL_data] at hL
    clear hT e1
    by_cases c1 : c = 253
    · subst c1
      have hz := fun (W : World) (hc : Cu W g l m) => cuLong_any g 2 253 l m W hc hl (by omega)
      have e2 : rSize (253 :: m, 0) = rLong 2 253 m := rSize_long 253 m (by decide)
      rw [e2]
      have hn : num [(253 : UInt8)] = 253 := rfl
      rw [hn] at hL
      clear e2 hn hl
      generalize rLong 2 253 m = p at hz
      obtain ⟨q, r⟩ := p
      by_cases hr : r.2 = 0
      · have hz2 := fun (W : World) (hc : Cu W g l m) => calls_ok (hz W hc) hr
        have HZ : Hid (∀ W, Cu W g l m → Calls Tryd.prog 99 #[.pointer (some ⟨g, 0, none⟩), .int .i64 2, .int .u64 253] W fun x w' => x = .returned (.int .u64 (q : Int)) ∧ Cu w' g l r.1 ∧ Mov g W w') := hz2
        clear hz hz2
        go_enter Tryd.func95, Tryd.ntmps95
        go_wp2_with (first
          | (go_at_call 54; go_must (refine hN.mono ?_); rintro x w1 ⟨rfl, hc1, hm1⟩; have HC1 := (show Hid (Cu w1 g l m) from hc1); have HM1 := (show Hid (Mov g w w1) from hm1); clear hc1 hm1)
          | (go_at_call 89; go_must (refine (hL _).mono ?_); rintro x w1 ⟨rfl, rfl⟩)
          | (go_at_call 99; go_must (refine (HZ.out _ HC1.out).mono ?_); rintro x w3 ⟨rfl, hc3, hm3⟩; have HC3 := (show Hid (Cu w3 g l r.1) from hc3); have HM3 := (show Hid (Mov g w1 w3) from hm3); clear hc3 hm3))
        go_ret
        exact Got.ok hr (HM1.out.trans HM3.out) HC3.out
      · have hz2 := fun (W : World) (hc : Cu W g l m) => calls_no (hz W hc) hr
        have HZ : Hid (∀ W, Cu W g l m → Calls Tryd.prog 99 #[.pointer (some ⟨g, 0, none⟩), .int .i64 2, .int .u64 253] W fun x w' => x = .panicked [{ v := .iface 26 (.int .i64 r.2), recovered := false }] ∧ Mov g W w') := hz2
        clear hz hz2
        go_enter Tryd.func95, Tryd.ntmps95
        go_wp2_with (first
          | (go_at_call 54; go_must (refine hN.mono ?_); rintro x w1 ⟨rfl, hc1, hm1⟩; have HC1 := (show Hid (Cu w1 g l m) from hc1); have HM1 := (show Hid (Mov g w w1) from hm1); clear hc1 hm1)
          | (go_at_call 89; go_must (refine (hL _).mono ?_); rintro x w1 ⟨rfl, rfl⟩)
          | (go_at_call 99; go_must (refine (HZ.out _ HC1.out).mono ?_); rintro x w3 ⟨rfl, hm3⟩; have HM3 := (show Hid (Mov g w1 w3) from hm3); clear hm3))
        exact ⟨rfl, Got.no rfl hr (HM1.out.trans HM3.out)⟩
    · by_cases c2 : c = 254
      · subst c2
        have hz := fun (W : World) (hc : Cu W g l m) => cuLong_any g 4 65536 l m W hc hl (by omega)
        have e2 : rSize (254 :: m, 0) = rLong 4 65536 m := rSize_long 254 m (by decide)
        rw [e2]
        have hn : num [(254 : UInt8)] = 254 := rfl
        rw [hn] at hL
        clear e2 hn hl
        generalize rLong 4 65536 m = p at hz
        obtain ⟨q, r⟩ := p
        by_cases hr : r.2 = 0
        · have hz2 := fun (W : World) (hc : Cu W g l m) => calls_ok (hz W hc) hr
          have HZ : Hid (∀ W, Cu W g l m → Calls Tryd.prog 99 #[.pointer (some ⟨g, 0, none⟩), .int .i64 4, .int .u64 65536] W fun x w' => x = .returned (.int .u64 (q : Int)) ∧ Cu w' g l r.1 ∧ Mov g W w') := hz2
          clear hz hz2
          go_enter Tryd.func95, Tryd.ntmps95
          go_wp2_with (first
            | (go_at_call 54; go_must (refine hN.mono ?_); rintro x w1 ⟨rfl, hc1, hm1⟩; have HC1 := (show Hid (Cu w1 g l m) from hc1); have HM1 := (show Hid (Mov g w w1) from hm1); clear hc1 hm1)
            | (go_at_call 89; go_must (refine (hL _).mono ?_); rintro x w1 ⟨rfl, rfl⟩)
            | (go_at_call 99; go_must (refine (HZ.out _ HC1.out).mono ?_); rintro x w3 ⟨rfl, hc3, hm3⟩; have HC3 := (show Hid (Cu w3 g l r.1) from hc3); have HM3 := (show Hid (Mov g w1 w3) from hm3); clear hc3 hm3))
          go_ret
          exact Got.ok hr (HM1.out.trans HM3.out) HC3.out
        · have hz2 := fun (W : World) (hc : Cu W g l m) => calls_no (hz W hc) hr
          have HZ : Hid (∀ W, Cu W g l m → Calls Tryd.prog 99 #[.pointer (some ⟨g, 0, none⟩), .int .i64 4, .int .u64 65536] W fun x w' => x = .panicked [{ v := .iface 26 (.int .i64 r.2), recovered := false }] ∧ Mov g W w') := hz2
          clear hz hz2
          go_enter Tryd.func95, Tryd.ntmps95
          go_wp2_with (first
            | (go_at_call 54; go_must (refine hN.mono ?_); rintro x w1 ⟨rfl, hc1, hm1⟩; have HC1 := (show Hid (Cu w1 g l m) from hc1); have HM1 := (show Hid (Mov g w w1) from hm1); clear hc1 hm1)
            | (go_at_call 89; go_must (refine (hL _).mono ?_); rintro x w1 ⟨rfl, rfl⟩)
            | (go_at_call 99; go_must (refine (HZ.out _ HC1.out).mono ?_); rintro x w3 ⟨rfl, hm3⟩; have HM3 := (show Hid (Mov g w1 w3) from hm3); clear hm3))
          exact ⟨rfl, Got.no rfl hr (HM1.out.trans HM3.out)⟩
      · by_cases c3 : c = 255
        · subst c3
          have hz := fun (W : World) (hc : Cu W g l m) => cuLong_any g 8 4294967296 l m W hc hl (by omega)
          have e2 : rSize (255 :: m, 0) = rLong 8 4294967296 m := rSize_long 255 m (by decide)
          rw [e2]
          have hn : num [(255 : UInt8)] = 255 := rfl
          rw [hn] at hL
          clear e2 hn hl
          generalize rLong 8 4294967296 m = p at hz
          obtain ⟨q, r⟩ := p
          by_cases hr : r.2 = 0
          · have hz2 := fun (W : World) (hc : Cu W g l m) => calls_ok (hz W hc) hr
            have HZ : Hid (∀ W, Cu W g l m → Calls Tryd.prog 99 #[.pointer (some ⟨g, 0, none⟩), .int .i64 8, .int .u64 4294967296] W fun x w' => x = .returned (.int .u64 (q : Int)) ∧ Cu w' g l r.1 ∧ Mov g W w') := hz2
            clear hz hz2
            go_enter Tryd.func95, Tryd.ntmps95
            go_wp2_with (first
              | (go_at_call 54; go_must (refine hN.mono ?_); rintro x w1 ⟨rfl, hc1, hm1⟩; have HC1 := (show Hid (Cu w1 g l m) from hc1); have HM1 := (show Hid (Mov g w w1) from hm1); clear hc1 hm1)
              | (go_at_call 89; go_must (refine (hL _).mono ?_); rintro x w1 ⟨rfl, rfl⟩)
              | (go_at_call 99; go_must (refine (HZ.out _ HC1.out).mono ?_); rintro x w3 ⟨rfl, hc3, hm3⟩; have HC3 := (show Hid (Cu w3 g l r.1) from hc3); have HM3 := (show Hid (Mov g w1 w3) from hm3); clear hc3 hm3))
            go_ret
            exact Got.ok hr (HM1.out.trans HM3.out) HC3.out
          · have hz2 := fun (W : World) (hc : Cu W g l m) => calls_no (hz W hc) hr
            have HZ : Hid (∀ W, Cu W g l m → Calls Tryd.prog 99 #[.pointer (some ⟨g, 0, none⟩), .int .i64 8, .int .u64 4294967296] W fun x w' => x = .panicked [{ v := .iface 26 (.int .i64 r.2), recovered := false }] ∧ Mov g W w') := hz2
            clear hz hz2
            go_enter Tryd.func95, Tryd.ntmps95
            go_wp2_with (first
              | (go_at_call 54; go_must (refine hN.mono ?_); rintro x w1 ⟨rfl, hc1, hm1⟩; have HC1 := (show Hid (Cu w1 g l m) from hc1); have HM1 := (show Hid (Mov g w w1) from hm1); clear hc1 hm1)
              | (go_at_call 89; go_must (refine (hL _).mono ?_); rintro x w1 ⟨rfl, rfl⟩)
              | (go_at_call 99; go_must (refine (HZ.out _ HC1.out).mono ?_); rintro x w3 ⟨rfl, hm3⟩; have HM3 := (show Hid (Mov g w1 w3) from hm3); clear hm3))
            exact ⟨rfl, Got.no rfl hr (HM1.out.trans HM3.out)⟩
        · have hm : manyOf c = 0 := by simp [manyOf, c1, c2, c3]
          have e2 : rSize (c :: m, 0) = (c.toNat, (m, 0)) := by simp [rSize, hm]
          rw [e2]
          have hn : num [c] = c.toNat := by simp [num]
          rw [hn] at hL
          have n1 : ¬ ((c.toNat : Int) = 253) := fun h => c1 (by rw [← UInt8.toNat_inj]; simp; omega)
          have n2 : ¬ ((c.toNat : Int) = 254) := fun h => c2 (by rw [← UInt8.toNat_inj]; simp; omega)
          have n3 : ¬ ((c.toNat : Int) = 255) := fun h => c3 (by rw [← UInt8.toNat_inj]; simp; omega)
          clear c1 c2 c3 hm e2 hn
          generalize (c.toNat : Int) = C at hL n1 n2 n3
          go_enter Tryd.func95, Tryd.ntmps95
          go_wp2_with (first
            | (go_at_call 54; go_must (refine hN.mono ?_); rintro x w1 ⟨rfl, hc1, hm1⟩; have HC1 := (show Hid (Cu w1 g l m) from hc1); have HM1 := (show Hid (Mov g w w1) from hm1); clear hc1 hm1)
            | (go_at_call 89; go_must (refine (hL _).mono ?_); rintro x w1 ⟨rfl, rfl⟩))
          go_ret
          exact Got.ok rfl HM1.out HC1.out

set_option maxRecDepth 10000 in
theorem cuSize_any (g lo hi : Nat) (l m : List UInt8) (w : World) (h : Cu w g l m) (hl : l.length ≤ maxLen) :
    Calls Tryd.prog 84 #[.pointer (some ⟨g, 0, none⟩), .int .u64 (lo : Int), .int .u64 (hi : Int)] w (Got g l w (.int .u64 ((rWithin lo hi (m, 0)).1 : Int)) (rWithin lo hi (m, 0)).2) := by
  have hz := cuAny_any g l m w h hl
  have HE : rWithin lo hi (m, 0) = if (rSize (m, 0)).2.2 ≠ 0 then (0, (rSize (m, 0)).2) else if (rSize (m, 0)).1 < lo ∨ hi < (rSize (m, 0)).1 then (0, ((rSize (m, 0)).2.1, 3)) else rSize (m, 0) := rfl
  rw [HE]
  clear h HE hl
  generalize rSize (m, 0) = p at hz
  obtain ⟨q, r⟩ := p
  by_cases hr : r.2 = 0
  · have hN := calls_ok hz hr
    clear hz
    rw [if_neg (fun h => h hr)]
    by_cases hb : q < lo ∨ hi < q
    · rw [if_pos hb]
      by_cases h1 : q < lo
      · have i1 : (q : Int) < (lo : Int) := by omega
        go_enter Tryd.func84, Tryd.ntmps84
        go_wp2_with (go_at_call 95; go_must (refine hN.mono ?_); rintro x w1 ⟨rfl, hc1, hm1⟩)
        exact ⟨rfl, Got.no rfl (by omega) hm1⟩
      · have i1 : ¬ ((q : Int) < (lo : Int)) := by omega
        have i2 : (hi : Int) < (q : Int) := by omega
        go_enter Tryd.func84, Tryd.ntmps84
        go_wp2_with (go_at_call 95; go_must (refine hN.mono ?_); rintro x w1 ⟨rfl, hc1, hm1⟩)
        exact ⟨rfl, Got.no rfl (by omega) hm1⟩
    · rw [if_neg hb]
      have i1 : ¬ ((q : Int) < (lo : Int)) := by omega
      have i2 : ¬ ((hi : Int) < (q : Int)) := by omega
      go_enter Tryd.func84, Tryd.ntmps84
      go_wp2_with (go_at_call 95; go_must (refine hN.mono ?_); rintro x w1 ⟨rfl, hc1, hm1⟩)
      go_ret
      exact Got.ok hr hm1 hc1
  · have hN := calls_no hz hr
    clear hz
    rw [if_pos hr]
    go_enter Tryd.func84, Tryd.ntmps84
    go_wp2_with (go_at_call 95; go_must (refine hN.mono ?_); rintro x w1 ⟨rfl, hm1⟩)
    exact ⟨rfl, Got.no rfl hr hm1⟩
end Go.Proofs.YtkmalggeieiepaaDoor
set_option linter.unusedSimpArgs false
namespace Go.Proofs.YtkmalggeieiepaaDoor
open Go.RowKit

theorem Cu.drew {w : World} {g : Nat} {l m : List UInt8} (h : Cu w g l m) : Cu w.drew g l m := ⟨h.s, h.e, h.ef⟩
theorem Mov.undrew {g : Nat} {w w' : World} (h : Mov g w.drew w') : Mov g w w' := ⟨h.os, h.tape, h.output, h.size, h.block⟩
theorem Got.not_out {g : Nat} {l : List UInt8} {w w' : World} {v : Value} {r : List UInt8 × Int} (h : Got g l w v r .outgrown w') : False := by
  obtain ⟨_, hx⟩ := h
  by_cases hr : r.2 = 0
  · rw [if_pos hr] at hx; cases hx.1
  · rw [if_neg hr] at hx; cases hx
theorem rScript_of (m : List UInt8) : rScript (m, 0) = (rTake (rWithin 0 40 (m, 0)).1 (rWithin 0 40 (m, 0)).2).2 := rfl

set_option maxRecDepth 10000 in
set_option maxHeartbeats 1000000 in
theorem cuScript_any (g : Nat) (l m : List UInt8) (w : World) (h : Cu w g l m) (hl : l.length ≤ maxLen) :
    Calls Tryd.prog 85 #[.pointer (some ⟨g, 0, none⟩)] w (Got g l w (.tuple #[]) (rScript (m, 0))) := by
  have hz := cuSize_any g 0 40 l m w.drew h.drew hl
  have hq := rWithin_hi 0 40 (m, 0)
  rw [rScript_of]
  clear h
  generalize rWithin 0 40 (m, 0) = p at hz hq
  obtain ⟨q, r⟩ := p
  have hq' : q ≤ 40 := hq
  clear hq
  go_enter Tryd.func85, Tryd.ntmps85
  refine q_frame (fun A HFR => ?_)
  have hsz : A.tmps.size = 11 := by rw [HFR.out]; rfl
  have h0 : A.eval (.tmp 0) = .pointer (some ⟨g, 0, none⟩) := by rw [HFR.out]; rfl
  have hdf : A.defers = [] := by rw [HFR.out]
  refine wp_region_any (by kernel_rfl) ?_
  refine wpAny_take (i := 0) (v := (.pointer (some ⟨g, 0, none⟩))) rfl (by kernel_rfl) (by kernel_rfl) (by kernel_rfl) (fun _ _ _ h => h) (Or.inl ⟨by rfl, fun W => ?_⟩) ?_
  · exact q_run1 0 (.pointer (some ⟨g, 0, none⟩)) (by simp only [q_same, q_ne, q_sz, hsz, h0, ne_eq, Nat.reduceEqDiff, not_false_eq_true, Nat.reduceLT]) (fun ρ _ _ e1 => by simp [go_sem, e1])
  change wpAny _ _ _ _ _ _ (Act.put _ (some 2) _) _
  refine wpAny_take (i := 1) (v := (.pointer (some ⟨g, 0, none⟩))) rfl (by kernel_rfl) (by kernel_rfl) (by kernel_rfl) (fun _ _ _ h => h) (Or.inl ⟨by rfl, fun W => ?_⟩) ?_
  · exact q_run1 2 (.pointer (some ⟨g, 0, none⟩)) (by simp only [q_same, q_ne, q_sz, hsz, h0, ne_eq, Nat.reduceEqDiff, not_false_eq_true, Nat.reduceLT]) (fun ρ _ _ e1 => by simp [go_sem, e1])
  change wpAny _ _ _ _ _ _ (Act.put _ (some 3) _) _
  refine wpAny_take (i := 2) (v := (.pointer (some ⟨g, 0, none⟩))) rfl (by kernel_rfl) (by kernel_rfl) (by kernel_rfl) (fun _ _ _ h => h) (Or.inl ⟨by rfl, fun W => ?_⟩) ?_
  · exact q_run1 3 (.pointer (some ⟨g, 0, none⟩)) (by simp only [q_same, q_ne, q_sz, hsz, h0, ne_eq, Nat.reduceEqDiff, not_false_eq_true, Nat.reduceLT]) (fun ρ _ _ e1 => by simp [go_sem, e1])
  change wpAny _ _ _ _ _ _ (Act.put _ (some 4) _) _
  refine wpAny_take (i := 3) (v := (.pointer (some ⟨g, 0, none⟩))) rfl (by kernel_rfl) (by kernel_rfl) (by kernel_rfl) (fun _ _ _ h => h) (Or.inl ⟨by rfl, fun W => ?_⟩) ?_
  · exact q_run1 0 (.pointer (some ⟨g, 0, none⟩)) (by simp only [q_same, q_ne, q_sz, hsz, h0, ne_eq, Nat.reduceEqDiff, not_false_eq_true, Nat.reduceLT]) (fun ρ _ _ e1 => by simp [go_sem, e1])
  change wpAny _ _ _ _ _ _ (Act.put _ (some 5) _) _
  refine wpAny_take (i := 4) (v := (.pointer (some ⟨g, 0, none⟩))) rfl (by kernel_rfl) (by kernel_rfl) (by kernel_rfl) (fun _ _ _ h => h) (Or.inl ⟨by rfl, fun W => ?_⟩) ?_
  · exact q_run1 5 (.pointer (some ⟨g, 0, none⟩)) (by simp only [q_same, q_ne, q_sz, hsz, h0, ne_eq, Nat.reduceEqDiff, not_false_eq_true, Nat.reduceLT]) (fun ρ _ _ e1 => by simp [go_sem, e1])
  change wpAny _ _ _ _ _ _ (Act.put _ (some 6) _) _
  refine wpAny_take (i := 5) (v := (.pointer (some ⟨g, 0, none⟩))) rfl (by kernel_rfl) (by kernel_rfl) (by kernel_rfl) (fun _ _ _ h => h) (Or.inl ⟨by rfl, fun W => ?_⟩) ?_
  · exact q_run1 6 (.pointer (some ⟨g, 0, none⟩)) (by simp only [q_same, q_ne, q_sz, hsz, h0, ne_eq, Nat.reduceEqDiff, not_false_eq_true, Nat.reduceLT]) (fun ρ _ _ e1 => by simp [go_sem, e1])
  change wpAny _ _ _ _ _ _ (Act.put _ (some 7) _) _
  refine q_call 6 84 #[.pointer (some ⟨g, 0, none⟩), .int .u64 0, .int .u64 40] _ (by kernel_rfl) rfl rfl ?_ hz ?_ ?_ ?_
  · exact q_run1 7 (.pointer (some ⟨g, 0, none⟩)) (by simp only [q_same, q_ne, q_sz, hsz, h0, ne_eq, Nat.reduceEqDiff, not_false_eq_true, Nat.reduceLT]) (fun ρ hc hf e1 => by simp [go_sem, hc, hf, e1])
  · intro v w1 hx
    change wpAny _ _ _ _ _ _ (Act.put _ (some 8) _) _
    obtain ⟨hm1, hx⟩ := hx
    by_cases hr : r.2 = 0
    · rw [if_pos hr] at hx
      obtain ⟨hv, hc1⟩ := hx
      injection hv with hv
      subst hv
      obtain ⟨m1, c1⟩ := r
      have hr' : c1 = 0 := hr
      subst hr'
      clear hr
      have ht := cuTake_any g q l m1 w1 hc1 hl
      have hw : IntKind.i64.wrap (q : Int) = (q : Int) := by rw [IntKind.wrap_i64]; omega
      refine q_one 7 (.int .i64 (IntKind.i64.wrap (q : Int))) w1 (by kernel_rfl) rfl rfl ?_ ?_
      · exact q_run1 8 (.int .u64 (q : Int)) (by simp only [q_same, q_ne, q_sz, hsz, h0, ne_eq, Nat.reduceEqDiff, not_false_eq_true, Nat.reduceLT]) (fun ρ _ _ e1 => by simp [go_sem, e1])
      change wpAny _ _ _ _ _ _ (Act.put _ (some 9) _) _
      refine q_call 8 54 #[.pointer (some ⟨g, 0, none⟩), .int .i64 (IntKind.i64.wrap (q : Int))] _ (by kernel_rfl) rfl rfl ?_ (by rw [hw]; exact ht) ?_ ?_ ?_
      · exact q_run2 4 9 (.pointer (some ⟨g, 0, none⟩)) (.int .i64 (IntKind.i64.wrap (q : Int))) (by simp only [q_same, q_ne, q_sz, hsz, h0, ne_eq, Nat.reduceEqDiff, not_false_eq_true, Nat.reduceLT]) (by simp only [q_same, q_ne, q_sz, hsz, h0, ne_eq, Nat.reduceEqDiff, not_false_eq_true, Nat.reduceLT]) (fun ρ _ hf e1 e2 => by simp [go_sem, hf, e1, e2])
      · intro v w2 hx
        refine wpAny_done (by kernel_rfl) ?_ _
        obtain ⟨hm2, hx⟩ := hx
        have hr2 : (rTake q (m1, 0)).2.2 = 0 := by
          rcases Decidable.em ((rTake q (m1, 0)).2.2 = 0) with e | e
          · exact e
          · rw [if_neg e] at hx; cases hx
        rw [if_pos hr2] at hx
        refine q_done0 (by kernel_rfl) (by simp only [q_def]; exact hdf) (Got.ok hr2 (hm1.undrew.trans hm2) hx.2)
      · intro ch w2 hx
        obtain ⟨hm2, hx⟩ := hx
        have hr2 : (rTake q (m1, 0)).2.2 ≠ 0 := fun e => by rw [if_pos e] at hx; cases hx.1
        rw [if_neg hr2] at hx
        injection hx with hx
        subst hx
        refine q_panic (by simp only [q_def]; exact hdf) (Got.no rfl hr2 (hm1.undrew.trans hm2))
      · intro w2 hx
        exact Got.not_out hx
    · rw [if_neg hr] at hx
      cases hx
  · intro ch w1 hx
    obtain ⟨hm1, hx⟩ := hx
    by_cases hr : r.2 = 0
    · rw [if_pos hr] at hx
      cases hx.1
    · rw [if_neg hr] at hx
      injection hx with hx
      subst hx
      refine q_panic (by simp only [q_def]; exact hdf) (Got.no (stick_take q r hr) hr hm1.undrew)
  · intro w1 hx
    exact Got.not_out hx
end Go.Proofs.YtkmalggeieiepaaDoor
namespace Go.Proofs.YtkmalggeieiepaaDoor
open Go.RowKit

theorem rIn_of (m : List UInt8) : rIn (m, 0) = (rTake 4 (rScript (rTake 36 (m, 0)).2)).2 := rfl
theorem rOut_of (m : List UInt8) : rOut (m, 0) = rScript (rTake 8 (m, 0)).2 := rfl

set_option maxRecDepth 10000 in
set_option maxHeartbeats 1000000 in
theorem cuIn_any (g : Nat) (l m : List UInt8) (w : World) (h : Cu w g l m) (hl : l.length ≤ maxLen) :
    Calls Tryd.prog 56 #[.pointer (some ⟨g, 0, none⟩)] w (Got g l w (.tuple #[]) (rIn (m, 0))) := by
  have ht := cuTake_any g 36 l m w h hl
  rw [rIn_of]
  clear h
  generalize rTake 36 (m, 0) = p at ht
  obtain ⟨t1, m1, c1⟩ := p
  by_cases hr : c1 = 0
  · subst hr
    have h1 := calls_ok ht rfl
    have hs := fun (W : World) (hc : Cu W g l m1) => cuScript_any g l m1 W hc hl
    clear ht
    show Calls _ _ _ _ (Got g l w (.tuple #[]) (rTake 4 (rScript (m1, 0))).2)
    generalize rScript (m1, 0) = r at hs
    obtain ⟨m2, c2⟩ := r
    by_cases hr : c2 = 0
    · subst hr
      have h2 := fun (W : World) (hc : Cu W g l m1) => calls_ok (hs W hc) rfl
      have hq := fun (W : World) (hc : Cu W g l m2) => cuTake_any g 4 l m2 W hc hl
      clear hs hl
      generalize rTake 4 (m2, 0) = p at hq
      obtain ⟨t3, r3⟩ := p
      by_cases hr : r3.2 = 0
      · have h3 := fun (W : World) (hc : Cu W g l m2) => calls_ok (hq W hc) hr
        clear hq
        go_enter Tryd.func56, Tryd.ntmps56
        go_upto_region 1 with (go_at_call 54; go_must (refine h1.mono ?_); rintro x w1 ⟨rfl, hc1, hm1⟩; have HC1 := (show Hid (Cu w1 g l m1) from hc1); have HM1 := (show Hid (Mov g w w1) from hm1); clear hc1 hm1)
        go_upto_region 2 with (go_at_call 85; go_must (refine (h2 _ HC1.out).mono ?_); rintro x w2 ⟨rfl, hc2, hm2⟩; have HC2 := (show Hid (Cu w2 g l m2) from hc2); have HM2 := (show Hid (Mov g w1 w2) from hm2); clear hc2 hm2)
        go_wp2_with (go_at_call 54; go_must (refine (h3 _ HC2.out).mono ?_); rintro x w3 ⟨rfl, hc3, hm3⟩)
        go_end0
        exact Got.ok hr (HM1.out.trans (HM2.out.trans hm3)) hc3
      · have h3 := fun (W : World) (hc : Cu W g l m2) => calls_no (hq W hc) hr
        clear hq
        go_enter Tryd.func56, Tryd.ntmps56
        go_upto_region 1 with (go_at_call 54; go_must (refine h1.mono ?_); rintro x w1 ⟨rfl, hc1, hm1⟩; have HC1 := (show Hid (Cu w1 g l m1) from hc1); have HM1 := (show Hid (Mov g w w1) from hm1); clear hc1 hm1)
        go_upto_region 2 with (go_at_call 85; go_must (refine (h2 _ HC1.out).mono ?_); rintro x w2 ⟨rfl, hc2, hm2⟩; have HC2 := (show Hid (Cu w2 g l m2) from hc2); have HM2 := (show Hid (Mov g w1 w2) from hm2); clear hc2 hm2)
        go_wp2_with (go_at_call 54; go_must (refine (h3 _ HC2.out).mono ?_); rintro x w3 ⟨rfl, hm3⟩)
        exact ⟨rfl, Got.no rfl hr (HM1.out.trans (HM2.out.trans hm3))⟩
    · have h2 := fun (W : World) (hc : Cu W g l m1) => calls_no (hs W hc) hr
      have HE : Hid ((rTake 4 (m2, c2)).2.2 = c2) := stick_take 4 (m2, c2) hr
      clear hs hl
      generalize (rTake 4 (m2, c2)).2 = r3 at HE
      go_enter Tryd.func56, Tryd.ntmps56
      go_upto_region 1 with (go_at_call 54; go_must (refine h1.mono ?_); rintro x w1 ⟨rfl, hc1, hm1⟩; have HC1 := (show Hid (Cu w1 g l m1) from hc1); have HM1 := (show Hid (Mov g w w1) from hm1); clear hc1 hm1)
      go_wp2_with (go_at_call 85; go_must (refine (h2 _ HC1.out).mono ?_); rintro x w2 ⟨rfl, hm2⟩)
      exact ⟨rfl, Got.no HE.out hr (HM1.out.trans hm2)⟩
  · have h1 := calls_no ht hr
    have HE : Hid ((rTake 4 (rScript (m1, c1))).2.2 = c1) := ((stick_script.comp (stick_take 4)) (m1, c1) hr : _)
    clear ht hl
    show Calls _ _ _ _ (Got g l w (.tuple #[]) (rTake 4 (rScript (m1, c1))).2)
    generalize (rTake 4 (rScript (m1, c1))).2 = r3 at HE
    go_enter Tryd.func56, Tryd.ntmps56
    go_wp2_with (go_at_call 54; go_must (refine h1.mono ?_); rintro x w1 ⟨rfl, hm1⟩)
    exact ⟨rfl, Got.no HE.out hr hm1⟩

set_option maxRecDepth 10000 in
set_option maxHeartbeats 1000000 in
theorem cuOut_any (g : Nat) (l m : List UInt8) (w : World) (h : Cu w g l m) (hl : l.length ≤ maxLen) :
    Calls Tryd.prog 57 #[.pointer (some ⟨g, 0, none⟩)] w (Got g l w (.tuple #[]) (rOut (m, 0))) := by
  have ht := cuTake_any g 8 l m w h hl
  rw [rOut_of]
  clear h
  generalize rTake 8 (m, 0) = p at ht
  obtain ⟨t1, m1, c1⟩ := p
  by_cases hr : c1 = 0
  · subst hr
    have h1 := calls_ok ht rfl
    have hs := fun (W : World) (hc : Cu W g l m1) => cuScript_any g l m1 W hc hl
    clear ht hl
    show Calls _ _ _ _ (Got g l w (.tuple #[]) (rScript (m1, 0)))
    generalize rScript (m1, 0) = r at hs
    by_cases hr : r.2 = 0
    · have h2 := fun (W : World) (hc : Cu W g l m1) => calls_ok (hs W hc) hr
      clear hs
      go_enter Tryd.func57, Tryd.ntmps57
      go_upto_region 1 with (go_at_call 54; go_must (refine h1.mono ?_); rintro x w1 ⟨rfl, hc1, hm1⟩; have HC1 := (show Hid (Cu w1 g l m1) from hc1); have HM1 := (show Hid (Mov g w w1) from hm1); clear hc1 hm1)
      go_wp2_with (go_at_call 85; go_must (refine (h2 _ HC1.out).mono ?_); rintro x w2 ⟨rfl, hc2, hm2⟩)
      go_end0
      exact Got.ok hr (HM1.out.trans hm2) hc2
    · have h2 := fun (W : World) (hc : Cu W g l m1) => calls_no (hs W hc) hr
      clear hs
      go_enter Tryd.func57, Tryd.ntmps57
      go_upto_region 1 with (go_at_call 54; go_must (refine h1.mono ?_); rintro x w1 ⟨rfl, hc1, hm1⟩; have HC1 := (show Hid (Cu w1 g l m1) from hc1); have HM1 := (show Hid (Mov g w w1) from hm1); clear hc1 hm1)
      go_wp2_with (go_at_call 85; go_must (refine (h2 _ HC1.out).mono ?_); rintro x w2 ⟨rfl, hm2⟩)
      exact ⟨rfl, Got.no rfl hr (HM1.out.trans hm2)⟩
  · have h1 := calls_no ht hr
    have HE : Hid ((rScript (m1, c1)).2 = c1) := stick_script (m1, c1) hr
    clear ht hl
    show Calls _ _ _ _ (Got g l w (.tuple #[]) (rScript (m1, c1)))
    generalize rScript (m1, c1) = r3 at HE
    go_enter Tryd.func57, Tryd.ntmps57
    go_wp2_with (go_at_call 54; go_must (refine h1.mono ?_); rintro x w1 ⟨rfl, hm1⟩)
    exact ⟨rfl, Got.no HE.out hr hm1⟩

set_option maxRecDepth 10000 in
set_option maxHeartbeats 1000000 in
theorem cuIns_any (g : Nat) (l m : List UInt8) (w : World) (h : Cu w g l m) (hl : l.length ≤ maxLen) :
    Calls Tryd.prog 55 #[.pointer (some ⟨g, 0, none⟩), .int .u64 1, .int .u64 4, .func (.func 56) #[] #[]] w (Got g l w (.tuple #[]) (rep rIn (rWithin 1 4 (m, 0)).1 (rWithin 1 4 (m, 0)).2)) := by
  have hz := cuSize_any g 1 4 l m w h hl
  have hq := rWithin_hi 1 4 (m, 0)
  have HP : Hid (∀ (W : World) (m : List UInt8), Cu W g l m → Calls Tryd.prog 56 #[.pointer (some ⟨g, 0, none⟩)] W (Got g l W (.tuple #[]) (rIn (m, 0)))) := fun W m hc => cuIn_any g l m W hc hl
  clear h hl
  generalize rWithin 1 4 (m, 0) = p at hz hq
  obtain ⟨q, m1, c1⟩ := p
  have hq' : q ≤ 4 := hq
  clear hq
  by_cases hr : c1 = 0
  · subst hr
    have h1 := calls_ok hz rfl
    clear hz
    show Calls _ _ _ _ (Got g l w (.tuple #[]) (rep rIn q (m1, 0)))
    obtain ⟨R, HR⟩ : ∃ R, Hid (R = rep rIn q (m1, 0)) := ⟨_, rfl⟩
    rw [← HR.out]
    go_enter Tryd.func55, Tryd.ntmps55
    go_upto_region 1 with (go_at_call 84; go_must (refine h1.mono ?_); rintro x w1 ⟨rfl, hc1, hm1⟩; have HC1 := (show Hid (Cu w1 g l m1) from hc1); have HM1 := (show Hid (Mov g w w1) from hm1); clear hc1 hm1)
    go_loopg [14] q (fun g' iv wx => ∃ k : Nat, ∃ m : List UInt8, k + g' = q ∧ iv = .int .u64 (k : Int) ∧ rep rIn g' (m, 0) = R ∧ Cu wx g l m ∧ Mov g w wx)
    case atStart => exact ⟨0, m1, by omega, rfl, HR.out.symm, HC1.out, HM1.out⟩
    case round =>
      clear HC1 HM1 HR
      obtain ⟨k, m2, hk, rfl, hrep, hc, hm⟩ := hrel
      have HC : Hid (Cu wr g l m2) := hc
      have HM : Hid (Mov g w wr) := hm
      have HE : Hid (rep rIn gk (m2, 0) = R) := hrep
      clear hc hm hrep
      by_cases h0 : gk = 0
      · subst h0
        have hlt : ¬ ((k : Int) < (q : Int)) := by omega
        have hE : (m2, 0) = R := HE.out
        go_wp2
        go_end0
        rw [← hE]
        exact Got.ok rfl HM.out HC.out
      · obtain ⟨j, rfl⟩ : ∃ j, gk = j + 1 := ⟨gk - 1, by omega⟩
        have hlt : (k : Int) < (q : Int) := by omega
        have hp := HP.out wr m2 HC.out
        have HE2 : Hid (rep rIn j (rIn (m2, 0)) = R) := HE.out
        clear HE
        generalize rIn (m2, 0) = r at hp HE2
        obtain ⟨m3, c3⟩ := r
        by_cases hr : c3 = 0
        · subst hr
          have h3 := calls_ok hp rfl
          clear hp
          go_wp2_with (go_at_call 56; go_must (refine h3.mono ?_); rintro x w3 ⟨rfl, hc3, hm3⟩; have HC3 := (show Hid (Cu w3 g l m3) from hc3); have HM3 := (show Hid (Mov g wr w3) from hm3); clear hc3 hm3)
          go_roundg j
          case measure => omega
          case rel => exact ⟨k + 1, m3, by omega, by go_num, HE2.out, HC3.out, HM.out.trans HM3.out⟩
        · have h3 := calls_no hp hr
          have hR : R.2 = c3 := by rw [← HE2.out]; exact stick_rep stick_in j (m3, c3) hr
          clear hp
          go_wp2_with (go_at_call 56; go_must (refine h3.mono ?_); rintro x w3 ⟨rfl, hm3⟩)
          exact ⟨rfl, Got.no hR hr (HM.out.trans hm3)⟩
  · have h1 := calls_no hz hr
    have HE : Hid ((rep rIn q (m1, c1)).2 = c1) := stick_rep stick_in q (m1, c1) hr
    clear hz
    show Calls _ _ _ _ (Got g l w (.tuple #[]) (rep rIn q (m1, c1)))
    generalize rep rIn q (m1, c1) = r3 at HE
    go_enter Tryd.func55, Tryd.ntmps55
    go_wp2_with (go_at_call 84; go_must (refine h1.mono ?_); rintro x w1 ⟨rfl, hm1⟩)
    exact ⟨rfl, Got.no HE.out hr hm1⟩

set_option maxRecDepth 10000 in
set_option maxHeartbeats 1000000 in
theorem cuOuts_any (g : Nat) (l m : List UInt8) (w : World) (h : Cu w g l m) (hl : l.length ≤ maxLen) :
    Calls Tryd.prog 55 #[.pointer (some ⟨g, 0, none⟩), .int .u64 1, .int .u64 4, .func (.func 57) #[] #[]] w (Got g l w (.tuple #[]) (rep rOut (rWithin 1 4 (m, 0)).1 (rWithin 1 4 (m, 0)).2)) := by
  have hz := cuSize_any g 1 4 l m w h hl
  have hq := rWithin_hi 1 4 (m, 0)
  have HP : Hid (∀ (W : World) (m : List UInt8), Cu W g l m → Calls Tryd.prog 57 #[.pointer (some ⟨g, 0, none⟩)] W (Got g l W (.tuple #[]) (rOut (m, 0)))) := fun W m hc => cuOut_any g l m W hc hl
  clear h hl
  generalize rWithin 1 4 (m, 0) = p at hz hq
  obtain ⟨q, m1, c1⟩ := p
  have hq' : q ≤ 4 := hq
  clear hq
  by_cases hr : c1 = 0
  · subst hr
    have h1 := calls_ok hz rfl
    clear hz
    show Calls _ _ _ _ (Got g l w (.tuple #[]) (rep rOut q (m1, 0)))
    obtain ⟨R, HR⟩ : ∃ R, Hid (R = rep rOut q (m1, 0)) := ⟨_, rfl⟩
    rw [← HR.out]
    go_enter Tryd.func55, Tryd.ntmps55
    go_upto_region 1 with (go_at_call 84; go_must (refine h1.mono ?_); rintro x w1 ⟨rfl, hc1, hm1⟩; have HC1 := (show Hid (Cu w1 g l m1) from hc1); have HM1 := (show Hid (Mov g w w1) from hm1); clear hc1 hm1)
    go_loopg [14] q (fun g' iv wx => ∃ k : Nat, ∃ m : List UInt8, k + g' = q ∧ iv = .int .u64 (k : Int) ∧ rep rOut g' (m, 0) = R ∧ Cu wx g l m ∧ Mov g w wx)
    case atStart => exact ⟨0, m1, by omega, rfl, HR.out.symm, HC1.out, HM1.out⟩
    case round =>
      clear HC1 HM1 HR
      obtain ⟨k, m2, hk, rfl, hrep, hc, hm⟩ := hrel
      have HC : Hid (Cu wr g l m2) := hc
      have HM : Hid (Mov g w wr) := hm
      have HE : Hid (rep rOut gk (m2, 0) = R) := hrep
      clear hc hm hrep
      by_cases h0 : gk = 0
      · subst h0
        have hlt : ¬ ((k : Int) < (q : Int)) := by omega
        have hE : (m2, 0) = R := HE.out
        go_wp2
        go_end0
        rw [← hE]
        exact Got.ok rfl HM.out HC.out
      · obtain ⟨j, rfl⟩ : ∃ j, gk = j + 1 := ⟨gk - 1, by omega⟩
        have hlt : (k : Int) < (q : Int) := by omega
        have hp := HP.out wr m2 HC.out
        have HE2 : Hid (rep rOut j (rOut (m2, 0)) = R) := HE.out
        clear HE
        generalize rOut (m2, 0) = r at hp HE2
        obtain ⟨m3, c3⟩ := r
        by_cases hr : c3 = 0
        · subst hr
          have h3 := calls_ok hp rfl
          clear hp
          go_wp2_with (go_at_call 57; go_must (refine h3.mono ?_); rintro x w3 ⟨rfl, hc3, hm3⟩; have HC3 := (show Hid (Cu w3 g l m3) from hc3); have HM3 := (show Hid (Mov g wr w3) from hm3); clear hc3 hm3)
          go_roundg j
          case measure => omega
          case rel => exact ⟨k + 1, m3, by omega, by go_num, HE2.out, HC3.out, HM.out.trans HM3.out⟩
        · have h3 := calls_no hp hr
          have hR : R.2 = c3 := by rw [← HE2.out]; exact stick_rep stick_out j (m3, c3) hr
          clear hp
          go_wp2_with (go_at_call 57; go_must (refine h3.mono ?_); rintro x w3 ⟨rfl, hm3⟩)
          exact ⟨rfl, Got.no hR hr (HM.out.trans hm3)⟩
  · have h1 := calls_no hz hr
    have HE : Hid ((rep rOut q (m1, c1)).2 = c1) := stick_rep stick_out q (m1, c1) hr
    clear hz
    show Calls _ _ _ _ (Got g l w (.tuple #[]) (rep rOut q (m1, c1)))
    generalize rep rOut q (m1, c1) = r3 at HE
    go_enter Tryd.func55, Tryd.ntmps55
    go_wp2_with (go_at_call 84; go_must (refine h1.mono ?_); rintro x w1 ⟨rfl, hm1⟩)
    exact ⟨rfl, Got.no HE.out hr hm1⟩
end Go.Proofs.YtkmalggeieiepaaDoor
namespace Go.Proofs.YtkmalggeieiepaaDoor
open Go.RowKit

theorem rTx_of (m : List UInt8) : rTx (m, 0) = (rTake 4 (rOuts (rIns (rTake 4 (m, 0)).2))).2 := rfl
theorem stick_ins : Stick rIns := stick_reps stick_in 1 4
theorem stick_outs : Stick rOuts := stick_reps stick_out 1 4

set_option maxRecDepth 10000 in
set_option maxHeartbeats 2000000 in
theorem cuTx_any (g : Nat) (l m : List UInt8) (w : World) (h : Cu w g l m) (hl : l.length ≤ maxLen) :
    Calls Tryd.prog 26 #[.pointer (some ⟨g, 0, none⟩)] w (Got g l w (.string (ofL (m.take (m.length - (rTx (m, 0)).1.length)))) (rTx (m, 0))) := by
  have ht := cuTake_any g 4 l m w h hl
  have hle := rTx_le (m, 0)
  obtain ⟨a, ha, hma, d1⟩ := h.e
  obtain ⟨R, HR⟩ : ∃ R, Hid (R = rTx (m, 0)) := ⟨_, rfl⟩
  rw [← HR.out]
  rw [← HR.out] at hle
  have HR1 : Hid (R = (rTake 4 (rOuts (rIns (rTake 4 (m, 0)).2))).2) := by show _ = _; rw [HR.out]; rfl
  clear h HR
  generalize rTake 4 (m, 0) = p at ht HR1
  obtain ⟨t1, m1, c1⟩ := p
  by_cases hr : c1 = 0
  · subst hr
    have h1 := calls_ok ht rfl
    have hs : ∀ (W : World), Cu W g l m1 → Calls Tryd.prog 55 #[.pointer (some ⟨g, 0, none⟩), .int .u64 1, .int .u64 4, .func (.func 56) #[] #[]] W (Got g l W (.tuple #[]) (rIns (m1, 0))) := fun W hc => cuIns_any g l m1 W hc hl
    clear ht
    have HR2 : Hid (R = (rTake 4 (rOuts (rIns (m1, 0)))).2) := HR1.out
    clear HR1
    generalize rIns (m1, 0) = r at hs HR2
    obtain ⟨m2, c2⟩ := r
    by_cases hr : c2 = 0
    · subst hr
      have h2 := fun (W : World) (hc : Cu W g l m1) => calls_ok (hs W hc) rfl
      have hs2 : ∀ (W : World), Cu W g l m2 → Calls Tryd.prog 55 #[.pointer (some ⟨g, 0, none⟩), .int .u64 1, .int .u64 4, .func (.func 57) #[] #[]] W (Got g l W (.tuple #[]) (rOuts (m2, 0))) := fun W hc => cuOuts_any g l m2 W hc hl
      clear hs
      generalize rOuts (m2, 0) = r at hs2 HR2
      obtain ⟨m3, c3⟩ := r
      by_cases hr : c3 = 0
      · subst hr
        have h3 := fun (W : World) (hc : Cu W g l m2) => calls_ok (hs2 W hc) rfl
        have hs3 : ∀ (W : World), Cu W g l m3 → Calls Tryd.prog 54 #[.pointer (some ⟨g, 0, none⟩), .int .i64 4] W (Got g l W (.string (ofL (rTake 4 (m3, 0)).1)) (rTake 4 (m3, 0)).2) := fun W hc => cuTake_any g 4 l m3 W hc hl
        clear hs2
        generalize rTake 4 (m3, 0) = p at hs3 HR2
        obtain ⟨t4, m4, c4⟩ := p
        have hR : R = (m4, c4) := HR2.out
        clear HR2
        subst hR
        have hle' : m4.length ≤ m.length := hle
        clear hle
        by_cases hr : c4 = 0
        · subst hr
          have h4 := fun (W : World) (hc : Cu W g l m3) => calls_ok (hs3 W hc) rfl
          clear hs3
          go_enter Tryd.func26, Tryd.ntmps26
          go_upto_region 3 with (go_at_call 54; go_must (refine h1.mono ?_); rintro x w1 ⟨rfl, hc1, hm1⟩; have HC1 := (show Hid (Cu w1 g l m1) from hc1); have HM1 := (show Hid (Mov g w w1) from hm1); clear hc1 hm1)
          go_upto_region 4 with (go_at_call 55; go_must (refine (h2 _ HC1.out).mono ?_); rintro x w2 ⟨rfl, hc2, hm2⟩; have HC2 := (show Hid (Cu w2 g l m2) from hc2); have HM2 := (show Hid (Mov g w w2) from HM1.out.trans hm2); clear hc2 hm2)
          go_upto_region 5 with (go_at_call 55; go_must (refine (h3 _ HC2.out).mono ?_); rintro x w3 ⟨rfl, hc3, hm3⟩; have HC3 := (show Hid (Cu w3 g l m3) from hc3); have HM3 := (show Hid (Mov g w w3) from HM2.out.trans hm3); clear hc3 hm3)
          go_upto_region 6 with (go_at_call 54; go_must (refine (h4 _ HC3.out).mono ?_); rintro x w4 ⟨rfl, hc4, hm4⟩; have HC4 := (show Hid (Cu w4 g l m4) from hc4); have HM4 := (show Hid (Mov g w w4) from HM3.out.trans hm4); clear hc4 hm4)
          have e0 := HC4.out.s
          obtain ⟨b, hb, hmb, e1⟩ := HC4.out.e
          have hsz := ofL_size l
          have hml : m.length = l.length - a := by rw [hma]; simp
          have hm4 : m4.length = l.length - b := by rw [hmb]; simp
          have b1 : (a : Int) ≤ (b : Int) := by omega
          have b2 : (b : Int) ≤ (l.length : Int) := by omega
          have HX : Hid ((ofL l).extract a b = ofL (m.take (m.length - m4.length))) := by
            show _ = _
            rw [ofL_extract, hml, hm4, hma]; congr 2; omega
          clear h1 h2 h3 h4 HC1 HC2 HC3 HM1 HM2 HM3 hml hm4 hmb hma d1
          go_quiet (fail)
          go_wp2
          go_ret
          show Got g l w (.string (ofL (m.take (m.length - m4.length)))) (m4, 0) (Ending.returned (Value.string ((ofL l).extract a b))) _
          rw [HX.out]
          exact Got.ok rfl (HM4.out.drewN _) (HC4.out.drewN _)
        · have h4 := fun (W : World) (hc : Cu W g l m3) => calls_no (hs3 W hc) hr
          clear hs3 hma
          go_enter Tryd.func26, Tryd.ntmps26
          go_upto_region 3 with (go_at_call 54; go_must (refine h1.mono ?_); rintro x w1 ⟨rfl, hc1, hm1⟩; have HC1 := (show Hid (Cu w1 g l m1) from hc1); have HM1 := (show Hid (Mov g w w1) from hm1); clear hc1 hm1)
          go_upto_region 4 with (go_at_call 55; go_must (refine (h2 _ HC1.out).mono ?_); rintro x w2 ⟨rfl, hc2, hm2⟩; have HC2 := (show Hid (Cu w2 g l m2) from hc2); have HM2 := (show Hid (Mov g w w2) from HM1.out.trans hm2); clear hc2 hm2)
          go_upto_region 5 with (go_at_call 55; go_must (refine (h3 _ HC2.out).mono ?_); rintro x w3 ⟨rfl, hc3, hm3⟩; have HC3 := (show Hid (Cu w3 g l m3) from hc3); have HM3 := (show Hid (Mov g w w3) from HM2.out.trans hm3); clear hc3 hm3)
          go_wp2_with (go_at_call 54; go_must (refine (h4 _ HC3.out).mono ?_); rintro x w4 ⟨rfl, hm4⟩)
          exact ⟨rfl, Got.no rfl hr (HM3.out.trans hm4)⟩
      · have h3 := fun (W : World) (hc : Cu W g l m2) => calls_no (hs2 W hc) hr
        have HE : Hid (R.2 = c3) := by show _ = _; rw [HR2.out]; exact stick_take 4 (m3, c3) hr
        clear hs2 HR2 hma hle
        go_enter Tryd.func26, Tryd.ntmps26
        go_upto_region 3 with (go_at_call 54; go_must (refine h1.mono ?_); rintro x w1 ⟨rfl, hc1, hm1⟩; have HC1 := (show Hid (Cu w1 g l m1) from hc1); have HM1 := (show Hid (Mov g w w1) from hm1); clear hc1 hm1)
        go_upto_region 4 with (go_at_call 55; go_must (refine (h2 _ HC1.out).mono ?_); rintro x w2 ⟨rfl, hc2, hm2⟩; have HC2 := (show Hid (Cu w2 g l m2) from hc2); have HM2 := (show Hid (Mov g w w2) from HM1.out.trans hm2); clear hc2 hm2)
        go_wp2_with (go_at_call 55; go_must (refine (h3 _ HC2.out).mono ?_); rintro x w3 ⟨rfl, hm3⟩)
        exact ⟨rfl, Got.no HE.out hr (HM2.out.trans hm3)⟩
    · have h2 := fun (W : World) (hc : Cu W g l m1) => calls_no (hs W hc) hr
      have HE : Hid (R.2 = c2) := by show _ = _; rw [HR2.out]; exact (stick_outs.comp (stick_take 4)) (m2, c2) hr
      clear hs HR2 hma hle
      go_enter Tryd.func26, Tryd.ntmps26
      go_upto_region 3 with (go_at_call 54; go_must (refine h1.mono ?_); rintro x w1 ⟨rfl, hc1, hm1⟩; have HC1 := (show Hid (Cu w1 g l m1) from hc1); have HM1 := (show Hid (Mov g w w1) from hm1); clear hc1 hm1)
      go_wp2_with (go_at_call 55; go_must (refine (h2 _ HC1.out).mono ?_); rintro x w2 ⟨rfl, hm2⟩)
      exact ⟨rfl, Got.no HE.out hr (HM1.out.trans hm2)⟩
  · have h1 := calls_no ht hr
    have HE : Hid (R.2 = c1) := by show _ = _; rw [HR1.out]; exact ((stick_ins.comp stick_outs).comp (stick_take 4)) (m1, c1) hr
    clear ht HR1 hma hle
    go_enter Tryd.func26, Tryd.ntmps26
    go_wp2_with (go_at_call 54; go_must (refine h1.mono ?_); rintro x w1 ⟨rfl, hm1⟩)
    exact ⟨rfl, Got.no HE.out hr hm1⟩
end Go.Proofs.YtkmalggeieiepaaDoor
namespace Go.Proofs.YtkmalggeieiepaaDoor
open Go.RowKit

set_option maxRecDepth 10000 in
set_option maxHeartbeats 1000000 in
theorem sevB_any (g q : Nat) (lo hi : Int) (pb : Value) (w : World) (K : Nat → World → Prop) (Q : World → Prop) (E : Int) (hq : q ≤ 16)
    (h1 : Calls Tryd.prog 84 #[.pointer (some ⟨g, 0, none⟩), .int .u64 lo, .int .u64 hi] w fun x w' => x = .returned (.int .u64 (q : Int)) ∧ K q w')
    (HP : Hid (∀ j W, K (j + 1) W → (Calls Tryd.prog 87 #[.pointer (some ⟨g, 0, none⟩), pb] W fun x w' => x = .returned (.tuple #[]) ∧ K j w') ∨ (E ≠ 0 ∧ Calls Tryd.prog 87 #[.pointer (some ⟨g, 0, none⟩), pb] W fun x w' => x = .panicked [{ v := .iface 26 (.int .i64 E), recovered := false }] ∧ Q w'))) :
    Calls Tryd.prog 55 #[.pointer (some ⟨g, 0, none⟩), .int .u64 lo, .int .u64 hi, .func (.func 87) #[] #[pb]] w fun x w' => (x = .returned (.tuple #[]) ∧ K 0 w') ∨ (E ≠ 0 ∧ x = Errn E ∧ Q w') := by
  go_enter Tryd.func55, Tryd.ntmps55
  go_upto_region 1 with (go_at_call 84; go_must (refine h1.mono ?_); rintro x w1 ⟨rfl, hk1⟩; have HK1 := (show Hid (K q w1) from hk1); clear hk1)
  go_loopg [14] q (fun g' iv wx => ∃ k : Nat, k + g' = q ∧ iv = .int .u64 (k : Int) ∧ K g' wx)
  case atStart => exact ⟨0, by omega, rfl, HK1.out⟩
  case round =>
    clear HK1 h1
    obtain ⟨k, hk, rfl, hK⟩ := hrel
    have HK : Hid (K gk wr) := hK
    clear hK
    by_cases h0 : gk = 0
    · subst h0
      have hlt : ¬ ((k : Int) < (q : Int)) := by omega
      go_wp2
      go_end0
      exact .inl ⟨rfl, HK.out⟩
    · obtain ⟨j, rfl⟩ : ∃ j, gk = j + 1 := ⟨gk - 1, by omega⟩
      have hlt : (k : Int) < (q : Int) := by omega
      rcases HP.out j wr HK.out with h3 | ⟨hE, h3⟩
      · go_wp2_with (go_at_call 87; go_must (refine h3.mono ?_); rintro x w3 ⟨rfl, hk3⟩; have HK3 := (show Hid (K j w3) from hk3); clear hk3)
        go_roundg j
        case measure => omega
        case rel => exact ⟨k + 1, by omega, by go_num, HK3.out⟩
      · go_wp2_with (go_at_call 87; go_must (refine h3.mono ?_); rintro x w3 ⟨rfl, hq3⟩)
        exact ⟨rfl, .inr ⟨hE, rfl, hq3⟩⟩

set_option maxRecDepth 10000 in
set_option maxHeartbeats 1000000 in
theorem sevR_any (g q : Nat) (lo hi : Int) (pa pb : Value) (w : World) (K : Nat → World → Prop) (Q : World → Prop) (E : Int) (hq : q ≤ 16)
    (h1 : Calls Tryd.prog 84 #[.pointer (some ⟨g, 0, none⟩), .int .u64 lo, .int .u64 hi] w fun x w' => x = .returned (.int .u64 (q : Int)) ∧ K q w')
    (HP : Hid (∀ j W, K (j + 1) W → (Calls Tryd.prog 77 #[.pointer (some ⟨g, 0, none⟩), pa, pb] W fun x w' => x = .returned (.tuple #[]) ∧ K j w') ∨ (E ≠ 0 ∧ Calls Tryd.prog 77 #[.pointer (some ⟨g, 0, none⟩), pa, pb] W fun x w' => x = .panicked [{ v := .iface 26 (.int .i64 E), recovered := false }] ∧ Q w'))) :
    Calls Tryd.prog 55 #[.pointer (some ⟨g, 0, none⟩), .int .u64 lo, .int .u64 hi, .func (.func 77) #[] #[pa, pb]] w fun x w' => (x = .returned (.tuple #[]) ∧ K 0 w') ∨ (E ≠ 0 ∧ x = Errn E ∧ Q w') := by
  go_enter Tryd.func55, Tryd.ntmps55
  go_upto_region 1 with (go_at_call 84; go_must (refine h1.mono ?_); rintro x w1 ⟨rfl, hk1⟩; have HK1 := (show Hid (K q w1) from hk1); clear hk1)
  go_loopg [14] q (fun g' iv wx => ∃ k : Nat, k + g' = q ∧ iv = .int .u64 (k : Int) ∧ K g' wx)
  case atStart => exact ⟨0, by omega, rfl, HK1.out⟩
  case round =>
    clear HK1 h1
    obtain ⟨k, hk, rfl, hK⟩ := hrel
    have HK : Hid (K gk wr) := hK
    clear hK
    by_cases h0 : gk = 0
    · subst h0
      have hlt : ¬ ((k : Int) < (q : Int)) := by omega
      go_wp2
      go_end0
      exact .inl ⟨rfl, HK.out⟩
    · obtain ⟨j, rfl⟩ : ∃ j, gk = j + 1 := ⟨gk - 1, by omega⟩
      have hlt : (k : Int) < (q : Int) := by omega
      rcases HP.out j wr HK.out with h3 | ⟨hE, h3⟩
      · go_wp2_with (go_at_call 77; go_must (refine h3.mono ?_); rintro x w3 ⟨rfl, hk3⟩; have HK3 := (show Hid (K j w3) from hk3); clear hk3)
        go_roundg j
        case measure => omega
        case rel => exact ⟨k + 1, by omega, by go_num, HK3.out⟩
      · go_wp2_with (go_at_call 77; go_must (refine h3.mono ?_); rintro x w3 ⟨rfl, hq3⟩)
        exact ⟨rfl, .inr ⟨hE, rfl, hq3⟩⟩

end Go.Proofs.YtkmalggeieiepaaDoor
