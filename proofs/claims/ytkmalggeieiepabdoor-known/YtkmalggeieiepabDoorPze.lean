import Derived.Test.YtkmalggeieiepabDoorPzc
import Derived.Test.YtkmalggeieiepabDoorPzd
import Derived.WalkKit
import Derived.WalkSpells
import Derived.WalkLawsBesides
import Derived.Deep.LoopGhost
import Derived.Deep.DeepCutAuto
import Derived.OrdersHeld
import Derived.Deep.RegionHeld3
set_option linter.unusedSimpArgs false
namespace Go.Proofs.YtkmalggeieiepabDoor
open Go.RowKit

theorem one_str8 (W : World) (g : Nat) (x : Int) (h0 : 0 ≤ x) (h1 : x < 256) (hc : W.cell? ⟨g, 0, none⟩ = some (.int .u8 x)) : (convert 23 9 (.slice (some ⟨g, 0, none⟩) 1 1)).run Tryd.prog W = .ok (.string (ofL [UInt8.ofNat x.toNat])) W := by
  have e : ((UInt8.ofNat x.toNat).toNat : Int) = x := by simp; omega
  have := run_convert_bytes_back (P := Tryd.prog) W 23 9 5 ⟨g, 0, none⟩ 1 [UInt8.ofNat x.toNat] Tryd.underlying23 Tryd.underlying5 Tryd.underlying9
  refine this (fun j hj => ?_)
  obtain rfl : j = 0 := by simpa using hj
  simp only [List.getElem_cons_zero, e]
  rw [Addr.add_mid]; exact hc
theorem q_valv {P : Program} {ops : Array Oper} {o : Oper} {a : Act} {w : World} {K : Act → World → Prop} {Q : Exit → Act → World → Prop} {E : Prop} (v : Value) (w' : World) (hg : o.guard = none)
    (h : (execOp a.eval o).run P w = .ok (.value v) w') (hk : K (a.put o.dst v) w') : if Region.wanted o (yielded ops a.tmps) = true then Oper.wp P o a w K Q else E := by
  have hw : Region.wanted o (yielded ops a.tmps) = true := by simp [Region.wanted, hg]
  rw [if_pos hw]
  unfold Oper.wp; rw [h]; exact hk
/-- an input. -/
def inB (seed : Int) (k : Nat) : List UInt8 := kbL 36 (wrap64 (seed + (k : Int))) ++ [UInt8.ofNat (pk (wrap64 (seed + 11 * (k : Int))) 41)] ++ kbL (pk (wrap64 (seed + 11 * (k : Int))) 41) (wrap64 (seed - (k : Int))) ++ kbL 4 (k : Int)
def outB (seed : Int) (k : Nat) : List UInt8 := kbL 8 (wrap64 (seed + 3 * (k : Int))) ++ [UInt8.ofNat (pk (wrap64 (seed + 29 * (k : Int))) 41)] ++ kbL (pk (wrap64 (seed + 29 * (k : Int))) 41) (wrap64 (seed + (k : Int)))
def catK (f : Nat → List UInt8) (n : Nat) : List UInt8 := ((List.range n).map f).flatten
theorem catK_succ (f : Nat → List UInt8) (n : Nat) : catK f (n + 1) = catK f n ++ f n := by simp [catK, List.range_succ]
theorem inB_len (seed : Int) (k : Nat) : (inB seed k).length ≤ 82 := by
  have := pk_lt (wrap64 (seed + 11 * (k : Int))) 41 (by omega)
  simp only [inB, List.length_append, kbL_length, List.length_cons, List.length_nil]; omega
theorem outB_len (seed : Int) (k : Nat) : (outB seed k).length ≤ 50 := by
  have := pk_lt (wrap64 (seed + 29 * (k : Int))) 41 (by omega)
  simp only [outB, List.length_append, kbL_length, List.length_cons, List.length_nil]; omega
theorem catK_len (f : Nat → List UInt8) (N : Nat) (h : ∀ k, (f k).length ≤ N) : ∀ n, (catK f n).length ≤ n * N
  | 0 => by simp [catK]
  | n + 1 => by have := catK_len f N h n; have := h n; rw [catK_succ, List.length_append, Nat.succ_mul]; omega
/-- a transaction, made of a number. -/
def txL (seed : Int) : List UInt8 := kbL 4 seed ++ [UInt8.ofNat (1 + pk seed 4)] ++ catK (inB seed) (1 + pk seed 4) ++ [UInt8.ofNat (1 + pk (seed.tdiv 4) 4)] ++ catK (outB seed) (1 + pk (seed.tdiv 4) 4) ++ kbL 4 seed
theorem wrap_rng (x : Int) : -9223372036854775808 ≤ wrap64 x ∧ wrap64 x ≤ 9223372036854775807 := by unfold wrap64; omega

set_option maxRecDepth 10000 in
set_option maxHeartbeats 4000000 in
theorem txK_any (seed : Int) (w : World) (hs1 : -9223372036854775808 ≤ seed) (hs2 : seed ≤ 9223372036854775807) :
    Calls Tryd.prog 11 #[.int .i64 seed] w fun e w' => e = .returned (.string (ofL (txL seed))) ∧ Below w.heap.size w w' := by
  have HBY : Hid (∀ (n : Nat) (c : Int) (W : World), n ≤ 1000 → Calls Tryd.prog 17 #[.int .i64 (n : Int), .int .i64 c] W fun e w' => e = .returned (.string (ofL (kbL n c))) ∧ Below W.heap.size W w') := fun n c W h => bytesX_any n c W h
  have HP4 : Hid (∀ W, Calls Tryd.prog 14 #[.int .i64 seed, .int .i64 4] W fun e w' => e = .returned (.int .i64 (pk seed 4 : Int)) ∧ W = w') := fun W => pickX_any seed 4 W hs1 hs2 (by omega) (by omega)
  have hp4 := pk_lt seed 4 (by omega)
  have hd4 : -9223372036854775808 ≤ seed.tdiv 4 ∧ seed.tdiv 4 ≤ 9223372036854775807 := by
    have h1 := Int.natAbs_tdiv seed 4
    have h2 : (seed.tdiv 4).natAbs ≤ seed.natAbs := by rw [h1]; exact Nat.div_le_self _ _
    have h3 : (seed.tdiv 4).natAbs ≤ 2305843009213693952 := by rw [h1]; show seed.natAbs / 4 ≤ _; omega
    omega
  have HP5 : Hid (∀ W, Calls Tryd.prog 14 #[.int .i64 (seed.tdiv 4), .int .i64 4] W fun e w' => e = .returned (.int .i64 (pk (seed.tdiv 4) 4 : Int)) ∧ W = w') := fun W => pickX_any (seed.tdiv 4) 4 W hd4.1 hd4.2 (by omega) (by omega)
  have hp5 := pk_lt (seed.tdiv 4) 4 (by omega)
  have HPX : Hid (∀ (c : Int) (W : World), -9223372036854775808 ≤ c → c ≤ 9223372036854775807 → Calls Tryd.prog 14 #[.int .i64 c, .int .i64 41] W fun e w' => e = .returned (.int .i64 (pk c 41 : Int)) ∧ W = w') := fun c W h1 h2 => pickX_any c 41 W h1 h2 (by omega) (by omega)
  have HSX : Hid (∀ (x : Int) (W : World), 0 ≤ x → x < 256 → (convert 23 9 (.slice (some ⟨W.heap.size, 0, none⟩) 1 1)).run Tryd.prog (W.alloc (.cells #[.int .u8 x] 5)) = .ok (.string (ofL [UInt8.ofNat x.toNat])) (W.alloc (.cells #[.int .u8 x] 5))) := fun x W h0 h1 => str1L W x h0 h1
  have HTL : Hid (txL seed = kbL 4 seed ++ [UInt8.ofNat (1 + pk seed 4)] ++ catK (inB seed) (1 + pk seed 4) ++ [UInt8.ofNat (1 + pk (seed.tdiv 4) 4)] ++ catK (outB seed) (1 + pk (seed.tdiv 4) 4) ++ kbL 4 seed) := rfl
  obtain ⟨TL, hTL⟩ : ∃ T, T = txL seed := ⟨_, rfl⟩
  rw [← hTL] at HTL ⊢
  clear hTL hd4
  generalize pk seed 4 = p4 at HP4 hp4 HTL
  generalize pk (seed.tdiv 4) 4 = p5 at HP5 hp5 HTL
  go_enter Tryd.func11, Tryd.ntmps11
  obtain ⟨U1, hU1⟩ : ∃ U, U = ofL [UInt8.ofNat (1 + p4)] := ⟨_, rfl⟩
  have HU1 : Hid (U1 = ofL [UInt8.ofNat (1 + p4)]) := hU1
  have hstr : ∀ W : World, (convert 23 9 (.slice (some ⟨W.heap.size, 0, none⟩) 1 1)).run Tryd.prog (W.alloc (.cells #[.int .u8 (1 + (p4 : Int))] 5)) = .ok (.string U1) (W.alloc (.cells #[.int .u8 (1 + (p4 : Int))] 5)) := fun W => by
    have := HSX.out (1 + (p4 : Int)) W (by omega) (by omega)
    rw [show (1 + (p4 : Int)).toNat = 1 + p4 by omega, ← hU1] at this; exact this
  have hU1s : U1.size = 1 := by rw [hU1]; rfl
  obtain ⟨U2, hU2⟩ : ∃ U, U = ofL [UInt8.ofNat (1 + p5)] := ⟨_, rfl⟩
  have HU2 : Hid (U2 = ofL [UInt8.ofNat (1 + p5)]) := hU2
  have HST2 : Hid (∀ W : World, (convert 23 9 (.slice (some ⟨W.heap.size, 0, none⟩) 1 1)).run Tryd.prog (W.alloc (.cells #[.int .u8 (1 + (p5 : Int))] 5)) = .ok (.string U2) (W.alloc (.cells #[.int .u8 (1 + (p5 : Int))] 5))) := fun W => by
    have := HSX.out (1 + (p5 : Int)) W (by omega) (by omega)
    rw [show (1 + (p5 : Int)).toNat = 1 + p5 by omega, ← hU2] at this; exact this
  have hU2s : U2.size = 1 := by rw [hU2]; rfl
  obtain ⟨A4, hA4⟩ : ∃ A, A = ofL (kbL 4 seed) := ⟨_, rfl⟩
  have HA4 : Hid (A4 = ofL (kbL 4 seed)) := hA4
  have hA4s : A4.size = 4 := by rw [hA4, ofL_size, kbL_length]
  have HB4 : Hid (∀ W : World, Calls Tryd.prog 17 #[.int .i64 4, .int .i64 seed] W fun e w' => e = .returned (.string A4) ∧ Below W.heap.size W w') := fun W => by rw [hA4]; exact HBY.out 4 seed W (by omega)
  clear hU1 hU2 hA4 HSX
  go_upto_region 2 with (first
    | (go_at_call 17; go_must (refine (HB4.out _).mono ?_); rintro e w1 ⟨rfl, hb1⟩; have HB1 := (show Hid (Below w.heap.size w w1) from hb1); clear hb1)
    | (go_at_call 14; go_must (refine (HP4.out _).mono ?_); rintro e w' ⟨rfl, rfl⟩))
  have HB1' : Hid (Below w.heap.size w (w1.alloc (.cells #[.int .u8 (1 + (p4 : Int))] 5))) := HB1.out.alloc HB1.out.size _
  generalize w1.alloc (.cells #[.int .u8 (1 + (p4 : Int))] 5) = W2 at HB1' ⊢
  go_upto_region 3 with (go_at_call 14; go_must (refine (HP4.out _).mono ?_); rintro e w' ⟨rfl, rfl⟩)
  obtain ⟨P1, hP1⟩ : ∃ P, P = kbL 4 seed ++ [UInt8.ofNat (1 + p4)] := ⟨_, rfl⟩
  have HP1E : Hid (P1 = kbL 4 seed ++ [UInt8.ofNat (1 + p4)]) := hP1
  have hAP : A4 ++ U1 = ofL P1 := by rw [HA4.out, HU1.out, ofL_append, hP1]
  have hPl : P1.length = 5 := by rw [hP1, List.length_append, kbL_length]; rfl
  rw [hAP]
  clear hP1 hAP hstr HP4
  go_loopg [3, 20] (1 + p4) (fun g sv iv wx => ∃ k : Nat, k + g = 1 + p4 ∧ sv = .string (ofL (P1 ++ catK (inB seed) k)) ∧ iv = .int .i64 (k : Int) ∧ Below w.heap.size w wx)
  case atStart => exact ⟨0, by omega, by simp [catK], rfl, HB1'.out⟩
  case round =>
    clear HB1' HB1
    obtain ⟨k, hkg, rfl, rfl, hb⟩ := hrel
    have HB : Hid (Below w.heap.size w wr) := hb
    have HK : Hid (k + gk = 1 + p4) := hkg
    have hSl : (ofL (P1 ++ catK (inB seed) k)).size ≤ 5 + 4 * 82 := by
      have h1 := catK_len (inB seed) 82 (inB_len seed) k
      have h2 : k * 82 ≤ 4 * 82 := Nat.mul_le_mul_right _ (by omega)
      rw [ofL_size, List.length_append]; omega
    clear hb
    by_cases hlt : k < 1 + p4
    · have hki : (k : Int) < 1 + (p4 : Int) := by omega
      have hk4 : (k : Int) ≤ 3 := by omega
      obtain ⟨q, hq⟩ : ∃ q, q = pk (wrap64 (seed + 11 * (k : Int))) 41 := ⟨_, rfl⟩
      have hq41 : q < 41 := by rw [hq]; exact pk_lt _ 41 (by omega)
      have HPQ : Hid (∀ W, Calls Tryd.prog 14 #[.int .i64 (wrap64 (seed + 11 * (k : Int))), .int .i64 41] W fun e w' => e = .returned (.int .i64 (q : Int)) ∧ W = w') := fun W => by rw [hq]; exact HPX.out _ W (wrap_rng _).1 (wrap_rng _).2
      obtain ⟨X1, hX1⟩ : ∃ X, wrap64 (seed + (k : Int)) = X := ⟨_, rfl⟩
      obtain ⟨X2, hX2⟩ : ∃ X, wrap64 (seed - (k : Int)) = X := ⟨_, rfl⟩
      have hX1b : IntKind.i64.wrap (seed + (k : Int)) = X1 := (IntWalk.i64_left _).trans hX1
      have hX2b : IntKind.i64.wrap (seed - (k : Int)) = X2 := (IntWalk.i64_left _).trans hX2
      have HIN : Hid (inB seed k = kbL 36 X1 ++ [UInt8.ofNat q] ++ kbL q X2 ++ kbL 4 (k : Int)) := by show _ = _; unfold inB; rw [← hq, hX1, hX2]
      obtain ⟨B1, hB1⟩ : ∃ B, B = ofL (kbL 36 X1) := ⟨_, rfl⟩
      obtain ⟨B2, hB2⟩ : ∃ B, B = ofL (kbL q X2) := ⟨_, rfl⟩
      obtain ⟨B3, hB3⟩ : ∃ B, B = ofL (kbL 4 (k : Int)) := ⟨_, rfl⟩
      obtain ⟨U, hU⟩ : ∃ B, B = ofL [UInt8.ofNat q] := ⟨_, rfl⟩
      have hq0 : (0 : Int) ≤ (q : Int) := by omega
      have hq1 : (q : Int) < 256 := by omega
      have hQ8 : IntKind.u8.wrap (q : Int) = (q : Int) := by rw [IntKind.wrap_u8]; omega
      have hQ8b : (q : Int) % 256 = (q : Int) := by omega
      have z1 : B1.size = 36 := by rw [hB1, ofL_size, kbL_length]
      have z2 : B2.size ≤ 41 := by rw [hB2, ofL_size, kbL_length]; omega
      have z3 : B3.size = 4 := by rw [hB3, ofL_size, kbL_length]
      have zu : U.size = 1 := by rw [hU]; rfl
      have HY1 : Hid (∀ W, Calls Tryd.prog 17 #[.int .i64 36, .int .i64 X1] W fun e w' => e = .returned (.string B1) ∧ Below W.heap.size W w') := fun W => by rw [hB1]; exact HBY.out 36 X1 W (by omega)
      have HY2 : Hid (∀ W, Calls Tryd.prog 17 #[.int .i64 (q : Int), .int .i64 X2] W fun e w' => e = .returned (.string B2) ∧ Below W.heap.size W w') := fun W => by rw [hB2]; exact HBY.out q X2 W (by omega)
      have HY3 : Hid (∀ W, Calls Tryd.prog 17 #[.int .i64 4, .int .i64 (k : Int)] W fun e w' => e = .returned (.string B3) ∧ Below W.heap.size W w') := fun W => by rw [hB3]; exact HBY.out 4 (k : Int) W (by omega)
      have HFS : Hid (ofL (P1 ++ catK (inB seed) k) ++ (B1 ++ U ++ B2 ++ B3) = ofL (P1 ++ catK (inB seed) (k + 1))) := by show _ = _; rw [hB1, hB2, hB3, hU, ofL_append, ofL_append, ofL_append, ofL_append, catK_succ, HIN.out]; simp only [List.append_assoc]
      have hUq : ∀ W g, W.cell? ⟨g, 0, none⟩ = some (.int .u8 (q : Int)) → (convert 23 9 (.slice (some ⟨g, 0, none⟩) 1 1)).run Tryd.prog W = .ok (.string U) W := fun W g hc => by
        have := one_str8 W g (q : Int) hq0 hq1 hc
        rw [show (q : Int).toNat = q by omega, ← hU] at this; exact this
      generalize ofL (P1 ++ catK (inB seed) k) = S at hSl HFS ⊢
      have zS : S.size ≤ 400 := by omega
      have z9 : (B1 ++ U).size = 37 := by rw [ByteArray.size_append]; omega
      have z15 : (B1 ++ U ++ B2).size ≤ 78 := by rw [ByteArray.size_append]; omega
      have z18 : (B1 ++ U ++ B2 ++ B3).size ≤ 82 := by rw [ByteArray.size_append]; omega
      have z19 : (S ++ (B1 ++ U ++ B2 ++ B3)).size ≤ 500 := by rw [ByteArray.size_append]; omega
      clear hq hB1 hB2 hB3 hU hkg HIN
      go_upto_region 6 with (go_at_call 14; go_must (refine (HPQ.out _).mono ?_); rintro e w' ⟨rfl, rfl⟩)
      refine q_frame (fun A HFR => ?_)
      have hsz : A.tmps.size = 93 := by rw [HFR.out]; rfl
      have h0 : A.eval (.tmp 0) = .int .i64 seed := by rw [HFR.out]; rfl
      have h3 : A.eval (.tmp 3) = .string S := by rw [HFR.out]; rfl
      have h4 : A.eval (.tmp 4) = .int .i64 (k : Int) := by rw [HFR.out]; rfl
      have h5 : A.eval (.tmp 5) = .int .i64 (q : Int) := by rw [HFR.out]; rfl
      have HBc : Below wr.heap.size wr wr.drew := ⟨rfl, rfl, rfl, Nat.le_refl _, fun _ _ => rfl⟩
      refine wp_region_any (by kernel_rfl) ?_
      refine wpAny_take (i := 0) (v := (.string S)) rfl (by kernel_rfl) (by kernel_rfl) (by kernel_rfl) (fun _ _ _ h => h) (Or.inl ⟨by rfl, fun W => q_run1 3 (.string S) (by simp only [q_same, q_ne, q_sz, hsz, h0, h3, h4, h5, ne_eq, Nat.reduceEqDiff, not_false_eq_true, Nat.reduceLT]) (fun ρ hc hf e1 => by simp [go_sem, hc, hf, e1])⟩) ?_
      change wpAny _ _ _ _ _ _ (Act.put _ (some 28) _) _
      refine wpAny_take (i := 1) (v := (.int .i64 seed)) rfl (by kernel_rfl) (by kernel_rfl) (by kernel_rfl) (fun _ _ _ h => h) (Or.inl ⟨by rfl, fun W => q_run1 0 (.int .i64 seed) (by simp only [q_same, q_ne, q_sz, hsz, h0, h3, h4, h5, ne_eq, Nat.reduceEqDiff, not_false_eq_true, Nat.reduceLT]) (fun ρ hc hf e1 => by simp [go_sem, hc, hf, e1])⟩) ?_
      change wpAny _ _ _ _ _ _ (Act.put _ (some 29) _) _
      refine wpAny_take (i := 2) (v := (.int .i64 (k : Int))) rfl (by kernel_rfl) (by kernel_rfl) (by kernel_rfl) (fun _ _ _ h => h) (Or.inl ⟨by rfl, fun W => q_run1 4 (.int .i64 (k : Int)) (by simp only [q_same, q_ne, q_sz, hsz, h0, h3, h4, h5, ne_eq, Nat.reduceEqDiff, not_false_eq_true, Nat.reduceLT]) (fun ρ hc hf e1 => by simp [go_sem, hc, hf, e1])⟩) ?_
      change wpAny _ _ _ _ _ _ (Act.put _ (some 30) _) _
      refine wpAny_take (i := 3) (v := (.int .i64 X1)) rfl (by kernel_rfl) (by kernel_rfl) (by kernel_rfl) (fun _ _ _ h => h) (Or.inl ⟨by rfl, fun W => q_run2 29 30 (.int .i64 seed) (.int .i64 (k : Int)) (by simp only [q_same, q_ne, q_sz, hsz, h0, h3, h4, h5, ne_eq, Nat.reduceEqDiff, not_false_eq_true, Nat.reduceLT]) (by simp only [q_same, q_ne, q_sz, hsz, h0, h3, h4, h5, ne_eq, Nat.reduceEqDiff, not_false_eq_true, Nat.reduceLT]) (fun ρ hc hf e1 e2 => by simp [go_sem, hc, hf, e1, e2, hX1, hX1b])⟩) ?_
      change wpAny _ _ _ _ _ _ (Act.put _ (some 31) _) _
      refine wpAny_take (i := 5) (v := (.int .i64 (q : Int))) rfl (by kernel_rfl) (by kernel_rfl) (by kernel_rfl) (fun _ _ _ h => h) (Or.inl ⟨by rfl, fun W => q_run1 5 (.int .i64 (q : Int)) (by simp only [q_same, q_ne, q_sz, hsz, h0, h3, h4, h5, ne_eq, Nat.reduceEqDiff, not_false_eq_true, Nat.reduceLT]) (fun ρ hc hf e1 => by simp [go_sem, hc, hf, e1])⟩) ?_
      change wpAny _ _ _ _ _ _ (Act.put _ (some 33) _) _
      refine wpAny_take (i := 6) (v := (.int .u8 (q : Int))) rfl (by kernel_rfl) (by kernel_rfl) (by kernel_rfl) (fun _ _ _ h => h) (Or.inl ⟨by rfl, fun W => q_run1 33 (.int .i64 (q : Int)) (by simp only [q_same, q_ne, q_sz, hsz, h0, h3, h4, h5, ne_eq, Nat.reduceEqDiff, not_false_eq_true, Nat.reduceLT]) (fun ρ hc hf e1 => by simp [go_sem, hc, hf, e1, hQ8, hQ8b])⟩) ?_
      change wpAny _ _ _ _ _ _ (Act.put _ (some 34) _) _
      refine wpAny_take (i := 10) (v := (.int .i64 (q : Int))) rfl (by kernel_rfl) (by kernel_rfl) (by kernel_rfl) (fun _ _ _ h => h) (Or.inl ⟨by rfl, fun W => q_run1 5 (.int .i64 (q : Int)) (by simp only [q_same, q_ne, q_sz, hsz, h0, h3, h4, h5, ne_eq, Nat.reduceEqDiff, not_false_eq_true, Nat.reduceLT]) (fun ρ hc hf e1 => by simp [go_sem, hc, hf, e1])⟩) ?_
      change wpAny _ _ _ _ _ _ (Act.put _ (some 38) _) _
      refine wpAny_take (i := 11) (v := (.int .i64 seed)) rfl (by kernel_rfl) (by kernel_rfl) (by kernel_rfl) (fun _ _ _ h => h) (Or.inl ⟨by rfl, fun W => q_run1 0 (.int .i64 seed) (by simp only [q_same, q_ne, q_sz, hsz, h0, h3, h4, h5, ne_eq, Nat.reduceEqDiff, not_false_eq_true, Nat.reduceLT]) (fun ρ hc hf e1 => by simp [go_sem, hc, hf, e1])⟩) ?_
      change wpAny _ _ _ _ _ _ (Act.put _ (some 39) _) _
      refine wpAny_take (i := 12) (v := (.int .i64 (k : Int))) rfl (by kernel_rfl) (by kernel_rfl) (by kernel_rfl) (fun _ _ _ h => h) (Or.inl ⟨by rfl, fun W => q_run1 4 (.int .i64 (k : Int)) (by simp only [q_same, q_ne, q_sz, hsz, h0, h3, h4, h5, ne_eq, Nat.reduceEqDiff, not_false_eq_true, Nat.reduceLT]) (fun ρ hc hf e1 => by simp [go_sem, hc, hf, e1])⟩) ?_
      change wpAny _ _ _ _ _ _ (Act.put _ (some 40) _) _
      refine wpAny_take (i := 13) (v := (.int .i64 X2)) rfl (by kernel_rfl) (by kernel_rfl) (by kernel_rfl) (fun _ _ _ h => h) (Or.inl ⟨by rfl, fun W => q_run2 39 40 (.int .i64 seed) (.int .i64 (k : Int)) (by simp only [q_same, q_ne, q_sz, hsz, h0, h3, h4, h5, ne_eq, Nat.reduceEqDiff, not_false_eq_true, Nat.reduceLT]) (by simp only [q_same, q_ne, q_sz, hsz, h0, h3, h4, h5, ne_eq, Nat.reduceEqDiff, not_false_eq_true, Nat.reduceLT]) (fun ρ hc hf e1 e2 => by simp [go_sem, hc, hf, e1, e2, hX2, hX2b])⟩) ?_
      change wpAny _ _ _ _ _ _ (Act.put _ (some 41) _) _
      refine wpAny_take (i := 16) (v := (.int .i64 (k : Int))) rfl (by kernel_rfl) (by kernel_rfl) (by kernel_rfl) (fun _ _ _ h => h) (Or.inl ⟨by rfl, fun W => q_run1 4 (.int .i64 (k : Int)) (by simp only [q_same, q_ne, q_sz, hsz, h0, h3, h4, h5, ne_eq, Nat.reduceEqDiff, not_false_eq_true, Nat.reduceLT]) (fun ρ hc hf e1 => by simp [go_sem, hc, hf, e1])⟩) ?_
      change wpAny _ _ _ _ _ _ (Act.put _ (some 44) _) _
      refine wpAny_ready (rs := [4, 7]) (by kernel_rfl) (by simp) (AllReady.cons rfl (fun K hK => ?_) (AllReady.cons rfl (fun K hK => ?_) AllReady.nil))
      · refine qH_step 17 #[.int .i64 36, .int .i64 X1] _ rfl (q_run1 31 (.int .i64 X1) (by simp only [q_same, q_ne, q_sz, hsz, h0, h3, h4, h5, ne_eq, Nat.reduceEqDiff, not_false_eq_true, Nat.reduceLT]) (fun ρ hc hf e1 => by simp [go_sem, hc, hf, e1])) (calls_val (HY1.out _)) ?_
        rintro _ v1 ⟨rfl, hb1⟩
        replace HBc := HBc.trans (hb1.mono HBc.size)
        clear hb1
        refine hK _ _ ?_
        change wpAny _ _ _ _ _ _ (Act.put _ (some 32) _) _
        refine wpAny_ready (rs := [7, 14]) (by kernel_rfl) (by simp) (AllReady.cons rfl (fun K hK => ?_) (AllReady.cons rfl (fun K hK => ?_) AllReady.nil))
        · refine q_valv (.slice (some ⟨v1.heap.size, 0, none⟩) 1 1) (v1.alloc (.cells #[.int .u8 (q : Int)] 5)) rfl (q_run1 34 (.int .u8 (q : Int)) (by simp only [q_same, q_ne, q_sz, hsz, h0, h3, h4, h5, ne_eq, Nat.reduceEqDiff, not_false_eq_true, Nat.reduceLT]) (fun ρ hc hf e1 => by simp [go_sem, hc, hf, e1])) ?_
          refine hK _ _ ?_
          change wpAny _ _ _ _ _ _ (Act.put _ (some 35) _) _
          replace HBc := HBc.alloc HBc.size (.cells #[.int .u8 (q : Int)] 5)
          have hS : (v1.alloc (.cells #[.int .u8 (q : Int)] 5)).cell? ⟨v1.heap.size, 0, none⟩ = some (.int .u8 (q : Int)) := by simp [go_sem]
          have hSl : v1.heap.size < (v1.alloc (.cells #[.int .u8 (q : Int)] 5)).heap.size := by simp
          refine wpAny_of_held (S := fun W => W.cell? ⟨v1.heap.size, 0, none⟩ = some (.int .u8 (q : Int))) _ _ _ _ ?_
          refine wpAnyH_take (i := 8) (v := (.string U)) rfl (by kernel_rfl) (by kernel_rfl) (by kernel_rfl) (fun _ _ _ h => h) (Or.inl ⟨by rfl, fun W hW => q_run1 35 (.slice (some ⟨v1.heap.size, 0, none⟩) 1 1) (by simp only [q_same, q_ne, q_sz, hsz, h0, h3, h4, h5, ne_eq, Nat.reduceEqDiff, not_false_eq_true, Nat.reduceLT]) (fun ρ hc hf e1 => by simp [go_sem, hc, hf, e1, hUq W _ hW])⟩) hS ?_
          change wpAnyH _ _ _ _ _ _ _ (Act.put _ (some 36) _) _
          refine wpAnyH_take (i := 9) (v := (.string (B1 ++ U))) rfl (by kernel_rfl) (by kernel_rfl) (by kernel_rfl) (fun _ _ _ h => h) (Or.inl ⟨by rfl, fun W _ => q_run2 32 36 (.string B1) (.string U) (by simp only [q_same, q_ne, q_sz, hsz, h0, h3, h4, h5, ne_eq, Nat.reduceEqDiff, not_false_eq_true, Nat.reduceLT]) (by simp only [q_same, q_ne, q_sz, hsz, h0, h3, h4, h5, ne_eq, Nat.reduceEqDiff, not_false_eq_true, Nat.reduceLT]) (fun ρ hc hf e1 e2 => by simp [go_sem, hc, hf, e1, e2]; omega)⟩) hS ?_
          change wpAnyH _ _ _ _ _ _ _ (Act.put _ (some 37) _) _
          refine qH_call 14 17 #[.int .i64 (q : Int), .int .i64 X2] _ (by kernel_rfl) rfl rfl (q_run2 38 41 (.int .i64 (q : Int)) (.int .i64 X2) (by simp only [q_same, q_ne, q_sz, hsz, h0, h3, h4, h5, ne_eq, Nat.reduceEqDiff, not_false_eq_true, Nat.reduceLT]) (by simp only [q_same, q_ne, q_sz, hsz, h0, h3, h4, h5, ne_eq, Nat.reduceEqDiff, not_false_eq_true, Nat.reduceLT]) (fun ρ hc hf e1 e2 => by simp [go_sem, hc, hf, e1, e2])) (calls_val (HY2.out _)) ?_
          rintro _ v2 ⟨rfl, hb2⟩
          replace hS : v2.cell? ⟨v1.heap.size, 0, none⟩ = some (.int .u8 (q : Int)) := by rw [hb2.cell (p := ⟨v1.heap.size, 0, none⟩) hSl]; exact hS
          replace hSl : v1.heap.size < v2.heap.size := Nat.lt_of_lt_of_le hSl hb2.size
          replace HBc := HBc.trans (hb2.mono HBc.size)
          clear hb2
          refine ⟨hS, ?_⟩
          change wpAnyH _ _ _ _ _ _ _ (Act.put _ (some 42) _) _
          refine wpAnyH_take (i := 15) (v := (.string (B1 ++ U ++ B2))) rfl (by kernel_rfl) (by kernel_rfl) (by kernel_rfl) (fun _ _ _ h => h) (Or.inl ⟨by rfl, fun W _ => q_run2 37 42 (.string (B1 ++ U)) (.string B2) (by simp only [q_same, q_ne, q_sz, hsz, h0, h3, h4, h5, ne_eq, Nat.reduceEqDiff, not_false_eq_true, Nat.reduceLT]) (by simp only [q_same, q_ne, q_sz, hsz, h0, h3, h4, h5, ne_eq, Nat.reduceEqDiff, not_false_eq_true, Nat.reduceLT]) (fun ρ hc hf e1 e2 => by simp [go_sem, hc, hf, e1, e2]; omega)⟩) hS ?_
          change wpAnyH _ _ _ _ _ _ _ (Act.put _ (some 43) _) _
          refine qH_call 17 17 #[.int .i64 4, .int .i64 (k : Int)] _ (by kernel_rfl) rfl rfl (q_run1 44 (.int .i64 (k : Int)) (by simp only [q_same, q_ne, q_sz, hsz, h0, h3, h4, h5, ne_eq, Nat.reduceEqDiff, not_false_eq_true, Nat.reduceLT]) (fun ρ hc hf e1 => by simp [go_sem, hc, hf, e1])) (calls_val (HY3.out _)) ?_
          rintro _ v3 ⟨rfl, hb3⟩
          replace hS : v3.cell? ⟨v1.heap.size, 0, none⟩ = some (.int .u8 (q : Int)) := by rw [hb3.cell (p := ⟨v1.heap.size, 0, none⟩) hSl]; exact hS
          replace hSl : v1.heap.size < v3.heap.size := Nat.lt_of_lt_of_le hSl hb3.size
          replace HBc := HBc.trans (hb3.mono HBc.size)
          clear hb3
          refine ⟨hS, ?_⟩
          change wpAnyH _ _ _ _ _ _ _ (Act.put _ (some 45) _) _
          refine wpAnyH_take (i := 18) (v := (.string (B1 ++ U ++ B2 ++ B3))) rfl (by kernel_rfl) (by kernel_rfl) (by kernel_rfl) (fun _ _ _ h => h) (Or.inl ⟨by rfl, fun W _ => q_run2 43 45 (.string (B1 ++ U ++ B2)) (.string B3) (by simp only [q_same, q_ne, q_sz, hsz, h0, h3, h4, h5, ne_eq, Nat.reduceEqDiff, not_false_eq_true, Nat.reduceLT]) (by simp only [q_same, q_ne, q_sz, hsz, h0, h3, h4, h5, ne_eq, Nat.reduceEqDiff, not_false_eq_true, Nat.reduceLT]) (fun ρ hc hf e1 e2 => by simp [go_sem, hc, hf, e1, e2]; omega)⟩) hS ?_
          change wpAnyH _ _ _ _ _ _ _ (Act.put _ (some 46) _) _
          refine wpAnyH_take (i := 19) (v := (.string (S ++ (B1 ++ U ++ B2 ++ B3)))) rfl (by kernel_rfl) (by kernel_rfl) (by kernel_rfl) (fun _ _ _ h => h) (Or.inl ⟨by rfl, fun W _ => q_run2 28 46 (.string S) (.string (B1 ++ U ++ B2 ++ B3)) (by simp only [q_same, q_ne, q_sz, hsz, h0, h3, h4, h5, ne_eq, Nat.reduceEqDiff, not_false_eq_true, Nat.reduceLT]) (by simp only [q_same, q_ne, q_sz, hsz, h0, h3, h4, h5, ne_eq, Nat.reduceEqDiff, not_false_eq_true, Nat.reduceLT]) (fun ρ hc hf e1 e2 => by simp [go_sem, hc, hf, e1, e2]; omega)⟩) hS ?_
          change wpAnyH _ _ _ _ _ _ _ (Act.put _ (some 47) _) _
          refine wpAnyH_take (i := 20) (v := (.string (S ++ (B1 ++ U ++ B2 ++ B3)))) rfl (by kernel_rfl) (by kernel_rfl) (by kernel_rfl) (fun _ _ _ h => h) (Or.inl ⟨by rfl, fun W _ => q_run1 47 (.string (S ++ (B1 ++ U ++ B2 ++ B3))) (by simp only [q_same, q_ne, q_sz, hsz, h0, h3, h4, h5, ne_eq, Nat.reduceEqDiff, not_false_eq_true, Nat.reduceLT]) (fun ρ hc hf e1 => by simp [go_sem, hc, hf, e1])⟩) hS ?_
          change wpAnyH _ _ _ _ _ _ _ (Act.put _ (some 3) _) _
          refine wpAnyH_done (by kernel_rfl) ?_ _
          have HBF : Hid (Below wr.heap.size wr _) := HBc
          have hfr := HFR.out
          clear HFR hsz h0 h3 h4 h5 hS hSl HBc
          subst hfr
          simp only [Act.put, List.setIfInBounds_toArray, List.set_cons_zero, List.set_cons_succ]
          go_wp2
          go_roundg (gk - 1)
          case measure => have := HK.out; omega
          case rel =>
            have h1 := HK.out
            exact ⟨k + 1, by omega, by rw [← HFS.out], by go_num, HB.out.trans (HBF.out.mono HB.out.size)⟩
        · refine qH_step 17 #[.int .i64 (q : Int), .int .i64 X2] _ rfl (q_run2 38 41 (.int .i64 (q : Int)) (.int .i64 X2) (by simp only [q_same, q_ne, q_sz, hsz, h0, h3, h4, h5, ne_eq, Nat.reduceEqDiff, not_false_eq_true, Nat.reduceLT]) (by simp only [q_same, q_ne, q_sz, hsz, h0, h3, h4, h5, ne_eq, Nat.reduceEqDiff, not_false_eq_true, Nat.reduceLT]) (fun ρ hc hf e1 e2 => by simp [go_sem, hc, hf, e1, e2])) (calls_val (HY2.out _)) ?_
          rintro _ v2 ⟨rfl, hb2⟩
          replace HBc := HBc.trans (hb2.mono HBc.size)
          clear hb2
          refine hK _ _ ?_
          change wpAny _ _ _ _ _ _ (Act.put _ (some 42) _) _
          refine wpAny_ready (rs := [7, 17]) (by kernel_rfl) (by simp) (AllReady.cons rfl (fun K hK => ?_) (AllReady.cons rfl (fun K hK => ?_) AllReady.nil))
          · refine q_valv (.slice (some ⟨v2.heap.size, 0, none⟩) 1 1) (v2.alloc (.cells #[.int .u8 (q : Int)] 5)) rfl (q_run1 34 (.int .u8 (q : Int)) (by simp only [q_same, q_ne, q_sz, hsz, h0, h3, h4, h5, ne_eq, Nat.reduceEqDiff, not_false_eq_true, Nat.reduceLT]) (fun ρ hc hf e1 => by simp [go_sem, hc, hf, e1])) ?_
            refine hK _ _ ?_
            change wpAny _ _ _ _ _ _ (Act.put _ (some 35) _) _
            replace HBc := HBc.alloc HBc.size (.cells #[.int .u8 (q : Int)] 5)
            have hS : (v2.alloc (.cells #[.int .u8 (q : Int)] 5)).cell? ⟨v2.heap.size, 0, none⟩ = some (.int .u8 (q : Int)) := by simp [go_sem]
            have hSl : v2.heap.size < (v2.alloc (.cells #[.int .u8 (q : Int)] 5)).heap.size := by simp
            refine wpAny_of_held (S := fun W => W.cell? ⟨v2.heap.size, 0, none⟩ = some (.int .u8 (q : Int))) _ _ _ _ ?_
            refine wpAnyH_take (i := 8) (v := (.string U)) rfl (by kernel_rfl) (by kernel_rfl) (by kernel_rfl) (fun _ _ _ h => h) (Or.inl ⟨by rfl, fun W hW => q_run1 35 (.slice (some ⟨v2.heap.size, 0, none⟩) 1 1) (by simp only [q_same, q_ne, q_sz, hsz, h0, h3, h4, h5, ne_eq, Nat.reduceEqDiff, not_false_eq_true, Nat.reduceLT]) (fun ρ hc hf e1 => by simp [go_sem, hc, hf, e1, hUq W _ hW])⟩) hS ?_
            change wpAnyH _ _ _ _ _ _ _ (Act.put _ (some 36) _) _
            refine wpAnyH_take (i := 9) (v := (.string (B1 ++ U))) rfl (by kernel_rfl) (by kernel_rfl) (by kernel_rfl) (fun _ _ _ h => h) (Or.inl ⟨by rfl, fun W _ => q_run2 32 36 (.string B1) (.string U) (by simp only [q_same, q_ne, q_sz, hsz, h0, h3, h4, h5, ne_eq, Nat.reduceEqDiff, not_false_eq_true, Nat.reduceLT]) (by simp only [q_same, q_ne, q_sz, hsz, h0, h3, h4, h5, ne_eq, Nat.reduceEqDiff, not_false_eq_true, Nat.reduceLT]) (fun ρ hc hf e1 e2 => by simp [go_sem, hc, hf, e1, e2]; omega)⟩) hS ?_
            change wpAnyH _ _ _ _ _ _ _ (Act.put _ (some 37) _) _
            refine wpAnyH_take (i := 15) (v := (.string (B1 ++ U ++ B2))) rfl (by kernel_rfl) (by kernel_rfl) (by kernel_rfl) (fun _ _ _ h => h) (Or.inl ⟨by rfl, fun W _ => q_run2 37 42 (.string (B1 ++ U)) (.string B2) (by simp only [q_same, q_ne, q_sz, hsz, h0, h3, h4, h5, ne_eq, Nat.reduceEqDiff, not_false_eq_true, Nat.reduceLT]) (by simp only [q_same, q_ne, q_sz, hsz, h0, h3, h4, h5, ne_eq, Nat.reduceEqDiff, not_false_eq_true, Nat.reduceLT]) (fun ρ hc hf e1 e2 => by simp [go_sem, hc, hf, e1, e2]; omega)⟩) hS ?_
            change wpAnyH _ _ _ _ _ _ _ (Act.put _ (some 43) _) _
            refine qH_call 17 17 #[.int .i64 4, .int .i64 (k : Int)] _ (by kernel_rfl) rfl rfl (q_run1 44 (.int .i64 (k : Int)) (by simp only [q_same, q_ne, q_sz, hsz, h0, h3, h4, h5, ne_eq, Nat.reduceEqDiff, not_false_eq_true, Nat.reduceLT]) (fun ρ hc hf e1 => by simp [go_sem, hc, hf, e1])) (calls_val (HY3.out _)) ?_
            rintro _ v3 ⟨rfl, hb3⟩
            replace hS : v3.cell? ⟨v2.heap.size, 0, none⟩ = some (.int .u8 (q : Int)) := by rw [hb3.cell (p := ⟨v2.heap.size, 0, none⟩) hSl]; exact hS
            replace hSl : v2.heap.size < v3.heap.size := Nat.lt_of_lt_of_le hSl hb3.size
            replace HBc := HBc.trans (hb3.mono HBc.size)
            clear hb3
            refine ⟨hS, ?_⟩
            change wpAnyH _ _ _ _ _ _ _ (Act.put _ (some 45) _) _
            refine wpAnyH_take (i := 18) (v := (.string (B1 ++ U ++ B2 ++ B3))) rfl (by kernel_rfl) (by kernel_rfl) (by kernel_rfl) (fun _ _ _ h => h) (Or.inl ⟨by rfl, fun W _ => q_run2 43 45 (.string (B1 ++ U ++ B2)) (.string B3) (by simp only [q_same, q_ne, q_sz, hsz, h0, h3, h4, h5, ne_eq, Nat.reduceEqDiff, not_false_eq_true, Nat.reduceLT]) (by simp only [q_same, q_ne, q_sz, hsz, h0, h3, h4, h5, ne_eq, Nat.reduceEqDiff, not_false_eq_true, Nat.reduceLT]) (fun ρ hc hf e1 e2 => by simp [go_sem, hc, hf, e1, e2]; omega)⟩) hS ?_
            change wpAnyH _ _ _ _ _ _ _ (Act.put _ (some 46) _) _
            refine wpAnyH_take (i := 19) (v := (.string (S ++ (B1 ++ U ++ B2 ++ B3)))) rfl (by kernel_rfl) (by kernel_rfl) (by kernel_rfl) (fun _ _ _ h => h) (Or.inl ⟨by rfl, fun W _ => q_run2 28 46 (.string S) (.string (B1 ++ U ++ B2 ++ B3)) (by simp only [q_same, q_ne, q_sz, hsz, h0, h3, h4, h5, ne_eq, Nat.reduceEqDiff, not_false_eq_true, Nat.reduceLT]) (by simp only [q_same, q_ne, q_sz, hsz, h0, h3, h4, h5, ne_eq, Nat.reduceEqDiff, not_false_eq_true, Nat.reduceLT]) (fun ρ hc hf e1 e2 => by simp [go_sem, hc, hf, e1, e2]; omega)⟩) hS ?_
            change wpAnyH _ _ _ _ _ _ _ (Act.put _ (some 47) _) _
            refine wpAnyH_take (i := 20) (v := (.string (S ++ (B1 ++ U ++ B2 ++ B3)))) rfl (by kernel_rfl) (by kernel_rfl) (by kernel_rfl) (fun _ _ _ h => h) (Or.inl ⟨by rfl, fun W _ => q_run1 47 (.string (S ++ (B1 ++ U ++ B2 ++ B3))) (by simp only [q_same, q_ne, q_sz, hsz, h0, h3, h4, h5, ne_eq, Nat.reduceEqDiff, not_false_eq_true, Nat.reduceLT]) (fun ρ hc hf e1 => by simp [go_sem, hc, hf, e1])⟩) hS ?_
            change wpAnyH _ _ _ _ _ _ _ (Act.put _ (some 3) _) _
            refine wpAnyH_done (by kernel_rfl) ?_ _
            have HBF : Hid (Below wr.heap.size wr _) := HBc
            have hfr := HFR.out
            clear HFR hsz h0 h3 h4 h5 hS hSl HBc
            subst hfr
            simp only [Act.put, List.setIfInBounds_toArray, List.set_cons_zero, List.set_cons_succ]
            go_wp2
            go_roundg (gk - 1)
            case measure => have := HK.out; omega
            case rel =>
              have h1 := HK.out
              exact ⟨k + 1, by omega, by rw [← HFS.out], by go_num, HB.out.trans (HBF.out.mono HB.out.size)⟩
          · refine qH_step 17 #[.int .i64 4, .int .i64 (k : Int)] _ rfl (q_run1 44 (.int .i64 (k : Int)) (by simp only [q_same, q_ne, q_sz, hsz, h0, h3, h4, h5, ne_eq, Nat.reduceEqDiff, not_false_eq_true, Nat.reduceLT]) (fun ρ hc hf e1 => by simp [go_sem, hc, hf, e1])) (calls_val (HY3.out _)) ?_
            rintro _ v3 ⟨rfl, hb3⟩
            replace HBc := HBc.trans (hb3.mono HBc.size)
            clear hb3
            refine hK _ _ ?_
            change wpAny _ _ _ _ _ _ (Act.put _ (some 45) _) _
            refine wpAny_ready (rs := [7]) (by kernel_rfl) (by simp) (AllReady.cons rfl (fun K hK => ?_) AllReady.nil)
            refine q_valv (.slice (some ⟨v3.heap.size, 0, none⟩) 1 1) (v3.alloc (.cells #[.int .u8 (q : Int)] 5)) rfl (q_run1 34 (.int .u8 (q : Int)) (by simp only [q_same, q_ne, q_sz, hsz, h0, h3, h4, h5, ne_eq, Nat.reduceEqDiff, not_false_eq_true, Nat.reduceLT]) (fun ρ hc hf e1 => by simp [go_sem, hc, hf, e1])) ?_
            refine hK _ _ ?_
            change wpAny _ _ _ _ _ _ (Act.put _ (some 35) _) _
            replace HBc := HBc.alloc HBc.size (.cells #[.int .u8 (q : Int)] 5)
            have hS : (v3.alloc (.cells #[.int .u8 (q : Int)] 5)).cell? ⟨v3.heap.size, 0, none⟩ = some (.int .u8 (q : Int)) := by simp [go_sem]
            have hSl : v3.heap.size < (v3.alloc (.cells #[.int .u8 (q : Int)] 5)).heap.size := by simp
            refine wpAny_of_held (S := fun W => W.cell? ⟨v3.heap.size, 0, none⟩ = some (.int .u8 (q : Int))) _ _ _ _ ?_
            refine wpAnyH_take (i := 8) (v := (.string U)) rfl (by kernel_rfl) (by kernel_rfl) (by kernel_rfl) (fun _ _ _ h => h) (Or.inl ⟨by rfl, fun W hW => q_run1 35 (.slice (some ⟨v3.heap.size, 0, none⟩) 1 1) (by simp only [q_same, q_ne, q_sz, hsz, h0, h3, h4, h5, ne_eq, Nat.reduceEqDiff, not_false_eq_true, Nat.reduceLT]) (fun ρ hc hf e1 => by simp [go_sem, hc, hf, e1, hUq W _ hW])⟩) hS ?_
            change wpAnyH _ _ _ _ _ _ _ (Act.put _ (some 36) _) _
            refine wpAnyH_take (i := 9) (v := (.string (B1 ++ U))) rfl (by kernel_rfl) (by kernel_rfl) (by kernel_rfl) (fun _ _ _ h => h) (Or.inl ⟨by rfl, fun W _ => q_run2 32 36 (.string B1) (.string U) (by simp only [q_same, q_ne, q_sz, hsz, h0, h3, h4, h5, ne_eq, Nat.reduceEqDiff, not_false_eq_true, Nat.reduceLT]) (by simp only [q_same, q_ne, q_sz, hsz, h0, h3, h4, h5, ne_eq, Nat.reduceEqDiff, not_false_eq_true, Nat.reduceLT]) (fun ρ hc hf e1 e2 => by simp [go_sem, hc, hf, e1, e2]; omega)⟩) hS ?_
            change wpAnyH _ _ _ _ _ _ _ (Act.put _ (some 37) _) _
            refine wpAnyH_take (i := 15) (v := (.string (B1 ++ U ++ B2))) rfl (by kernel_rfl) (by kernel_rfl) (by kernel_rfl) (fun _ _ _ h => h) (Or.inl ⟨by rfl, fun W _ => q_run2 37 42 (.string (B1 ++ U)) (.string B2) (by simp only [q_same, q_ne, q_sz, hsz, h0, h3, h4, h5, ne_eq, Nat.reduceEqDiff, not_false_eq_true, Nat.reduceLT]) (by simp only [q_same, q_ne, q_sz, hsz, h0, h3, h4, h5, ne_eq, Nat.reduceEqDiff, not_false_eq_true, Nat.reduceLT]) (fun ρ hc hf e1 e2 => by simp [go_sem, hc, hf, e1, e2]; omega)⟩) hS ?_
            change wpAnyH _ _ _ _ _ _ _ (Act.put _ (some 43) _) _
            refine wpAnyH_take (i := 18) (v := (.string (B1 ++ U ++ B2 ++ B3))) rfl (by kernel_rfl) (by kernel_rfl) (by kernel_rfl) (fun _ _ _ h => h) (Or.inl ⟨by rfl, fun W _ => q_run2 43 45 (.string (B1 ++ U ++ B2)) (.string B3) (by simp only [q_same, q_ne, q_sz, hsz, h0, h3, h4, h5, ne_eq, Nat.reduceEqDiff, not_false_eq_true, Nat.reduceLT]) (by simp only [q_same, q_ne, q_sz, hsz, h0, h3, h4, h5, ne_eq, Nat.reduceEqDiff, not_false_eq_true, Nat.reduceLT]) (fun ρ hc hf e1 e2 => by simp [go_sem, hc, hf, e1, e2]; omega)⟩) hS ?_
            change wpAnyH _ _ _ _ _ _ _ (Act.put _ (some 46) _) _
            refine wpAnyH_take (i := 19) (v := (.string (S ++ (B1 ++ U ++ B2 ++ B3)))) rfl (by kernel_rfl) (by kernel_rfl) (by kernel_rfl) (fun _ _ _ h => h) (Or.inl ⟨by rfl, fun W _ => q_run2 28 46 (.string S) (.string (B1 ++ U ++ B2 ++ B3)) (by simp only [q_same, q_ne, q_sz, hsz, h0, h3, h4, h5, ne_eq, Nat.reduceEqDiff, not_false_eq_true, Nat.reduceLT]) (by simp only [q_same, q_ne, q_sz, hsz, h0, h3, h4, h5, ne_eq, Nat.reduceEqDiff, not_false_eq_true, Nat.reduceLT]) (fun ρ hc hf e1 e2 => by simp [go_sem, hc, hf, e1, e2]; omega)⟩) hS ?_
            change wpAnyH _ _ _ _ _ _ _ (Act.put _ (some 47) _) _
            refine wpAnyH_take (i := 20) (v := (.string (S ++ (B1 ++ U ++ B2 ++ B3)))) rfl (by kernel_rfl) (by kernel_rfl) (by kernel_rfl) (fun _ _ _ h => h) (Or.inl ⟨by rfl, fun W _ => q_run1 47 (.string (S ++ (B1 ++ U ++ B2 ++ B3))) (by simp only [q_same, q_ne, q_sz, hsz, h0, h3, h4, h5, ne_eq, Nat.reduceEqDiff, not_false_eq_true, Nat.reduceLT]) (fun ρ hc hf e1 => by simp [go_sem, hc, hf, e1])⟩) hS ?_
            change wpAnyH _ _ _ _ _ _ _ (Act.put _ (some 3) _) _
            refine wpAnyH_done (by kernel_rfl) ?_ _
            have HBF : Hid (Below wr.heap.size wr _) := HBc
            have hfr := HFR.out
            clear HFR hsz h0 h3 h4 h5 hS hSl HBc
            subst hfr
            simp only [Act.put, List.setIfInBounds_toArray, List.set_cons_zero, List.set_cons_succ]
            go_wp2
            go_roundg (gk - 1)
            case measure => have := HK.out; omega
            case rel =>
              have h1 := HK.out
              exact ⟨k + 1, by omega, by rw [← HFS.out], by go_num, HB.out.trans (HBF.out.mono HB.out.size)⟩
      · refine q_valv (.slice (some ⟨wr.heap.size, 0, none⟩) 1 1) (wr.drew.alloc (.cells #[.int .u8 (q : Int)] 5)) rfl (q_run1 34 (.int .u8 (q : Int)) (by simp only [q_same, q_ne, q_sz, hsz, h0, h3, h4, h5, ne_eq, Nat.reduceEqDiff, not_false_eq_true, Nat.reduceLT]) (fun ρ hc hf e1 => by simp [go_sem, hc, hf, e1])) ?_
        refine hK _ _ ?_
        change wpAny _ _ _ _ _ _ (Act.put _ (some 35) _) _
        replace HBc := HBc.alloc HBc.size (.cells #[.int .u8 (q : Int)] 5)
        have hS : (wr.drew.alloc (.cells #[.int .u8 (q : Int)] 5)).cell? ⟨wr.heap.size, 0, none⟩ = some (.int .u8 (q : Int)) := by simp [go_sem]
        have hSl : wr.heap.size < (wr.drew.alloc (.cells #[.int .u8 (q : Int)] 5)).heap.size := by simp
        refine wpAny_of_held (S := fun W => W.cell? ⟨wr.heap.size, 0, none⟩ = some (.int .u8 (q : Int))) _ _ _ _ ?_
        refine wpAnyH_take (i := 8) (v := (.string U)) rfl (by kernel_rfl) (by kernel_rfl) (by kernel_rfl) (fun _ _ _ h => h) (Or.inl ⟨by rfl, fun W hW => q_run1 35 (.slice (some ⟨wr.heap.size, 0, none⟩) 1 1) (by simp only [q_same, q_ne, q_sz, hsz, h0, h3, h4, h5, ne_eq, Nat.reduceEqDiff, not_false_eq_true, Nat.reduceLT]) (fun ρ hc hf e1 => by simp [go_sem, hc, hf, e1, hUq W _ hW])⟩) hS ?_
        change wpAnyH _ _ _ _ _ _ _ (Act.put _ (some 36) _) _
        refine qH_call 4 17 #[.int .i64 36, .int .i64 X1] _ (by kernel_rfl) rfl rfl (q_run1 31 (.int .i64 X1) (by simp only [q_same, q_ne, q_sz, hsz, h0, h3, h4, h5, ne_eq, Nat.reduceEqDiff, not_false_eq_true, Nat.reduceLT]) (fun ρ hc hf e1 => by simp [go_sem, hc, hf, e1])) (calls_val (HY1.out _)) ?_
        rintro _ v1 ⟨rfl, hb1⟩
        replace hS : v1.cell? ⟨wr.heap.size, 0, none⟩ = some (.int .u8 (q : Int)) := by rw [hb1.cell (p := ⟨wr.heap.size, 0, none⟩) hSl]; exact hS
        replace hSl : wr.heap.size < v1.heap.size := Nat.lt_of_lt_of_le hSl hb1.size
        replace HBc := HBc.trans (hb1.mono HBc.size)
        clear hb1
        refine ⟨hS, ?_⟩
        change wpAnyH _ _ _ _ _ _ _ (Act.put _ (some 32) _) _
        refine wpAnyH_take (i := 9) (v := (.string (B1 ++ U))) rfl (by kernel_rfl) (by kernel_rfl) (by kernel_rfl) (fun _ _ _ h => h) (Or.inl ⟨by rfl, fun W _ => q_run2 32 36 (.string B1) (.string U) (by simp only [q_same, q_ne, q_sz, hsz, h0, h3, h4, h5, ne_eq, Nat.reduceEqDiff, not_false_eq_true, Nat.reduceLT]) (by simp only [q_same, q_ne, q_sz, hsz, h0, h3, h4, h5, ne_eq, Nat.reduceEqDiff, not_false_eq_true, Nat.reduceLT]) (fun ρ hc hf e1 e2 => by simp [go_sem, hc, hf, e1, e2]; omega)⟩) hS ?_
        change wpAnyH _ _ _ _ _ _ _ (Act.put _ (some 37) _) _
        refine qH_call 14 17 #[.int .i64 (q : Int), .int .i64 X2] _ (by kernel_rfl) rfl rfl (q_run2 38 41 (.int .i64 (q : Int)) (.int .i64 X2) (by simp only [q_same, q_ne, q_sz, hsz, h0, h3, h4, h5, ne_eq, Nat.reduceEqDiff, not_false_eq_true, Nat.reduceLT]) (by simp only [q_same, q_ne, q_sz, hsz, h0, h3, h4, h5, ne_eq, Nat.reduceEqDiff, not_false_eq_true, Nat.reduceLT]) (fun ρ hc hf e1 e2 => by simp [go_sem, hc, hf, e1, e2])) (calls_val (HY2.out _)) ?_
        rintro _ v2 ⟨rfl, hb2⟩
        replace hS : v2.cell? ⟨wr.heap.size, 0, none⟩ = some (.int .u8 (q : Int)) := by rw [hb2.cell (p := ⟨wr.heap.size, 0, none⟩) hSl]; exact hS
        replace hSl : wr.heap.size < v2.heap.size := Nat.lt_of_lt_of_le hSl hb2.size
        replace HBc := HBc.trans (hb2.mono HBc.size)
        clear hb2
        refine ⟨hS, ?_⟩
        change wpAnyH _ _ _ _ _ _ _ (Act.put _ (some 42) _) _
        refine wpAnyH_take (i := 15) (v := (.string (B1 ++ U ++ B2))) rfl (by kernel_rfl) (by kernel_rfl) (by kernel_rfl) (fun _ _ _ h => h) (Or.inl ⟨by rfl, fun W _ => q_run2 37 42 (.string (B1 ++ U)) (.string B2) (by simp only [q_same, q_ne, q_sz, hsz, h0, h3, h4, h5, ne_eq, Nat.reduceEqDiff, not_false_eq_true, Nat.reduceLT]) (by simp only [q_same, q_ne, q_sz, hsz, h0, h3, h4, h5, ne_eq, Nat.reduceEqDiff, not_false_eq_true, Nat.reduceLT]) (fun ρ hc hf e1 e2 => by simp [go_sem, hc, hf, e1, e2]; omega)⟩) hS ?_
        change wpAnyH _ _ _ _ _ _ _ (Act.put _ (some 43) _) _
        refine qH_call 17 17 #[.int .i64 4, .int .i64 (k : Int)] _ (by kernel_rfl) rfl rfl (q_run1 44 (.int .i64 (k : Int)) (by simp only [q_same, q_ne, q_sz, hsz, h0, h3, h4, h5, ne_eq, Nat.reduceEqDiff, not_false_eq_true, Nat.reduceLT]) (fun ρ hc hf e1 => by simp [go_sem, hc, hf, e1])) (calls_val (HY3.out _)) ?_
        rintro _ v3 ⟨rfl, hb3⟩
        replace hS : v3.cell? ⟨wr.heap.size, 0, none⟩ = some (.int .u8 (q : Int)) := by rw [hb3.cell (p := ⟨wr.heap.size, 0, none⟩) hSl]; exact hS
        replace hSl : wr.heap.size < v3.heap.size := Nat.lt_of_lt_of_le hSl hb3.size
        replace HBc := HBc.trans (hb3.mono HBc.size)
        clear hb3
        refine ⟨hS, ?_⟩
        change wpAnyH _ _ _ _ _ _ _ (Act.put _ (some 45) _) _
        refine wpAnyH_take (i := 18) (v := (.string (B1 ++ U ++ B2 ++ B3))) rfl (by kernel_rfl) (by kernel_rfl) (by kernel_rfl) (fun _ _ _ h => h) (Or.inl ⟨by rfl, fun W _ => q_run2 43 45 (.string (B1 ++ U ++ B2)) (.string B3) (by simp only [q_same, q_ne, q_sz, hsz, h0, h3, h4, h5, ne_eq, Nat.reduceEqDiff, not_false_eq_true, Nat.reduceLT]) (by simp only [q_same, q_ne, q_sz, hsz, h0, h3, h4, h5, ne_eq, Nat.reduceEqDiff, not_false_eq_true, Nat.reduceLT]) (fun ρ hc hf e1 e2 => by simp [go_sem, hc, hf, e1, e2]; omega)⟩) hS ?_
        change wpAnyH _ _ _ _ _ _ _ (Act.put _ (some 46) _) _
        refine wpAnyH_take (i := 19) (v := (.string (S ++ (B1 ++ U ++ B2 ++ B3)))) rfl (by kernel_rfl) (by kernel_rfl) (by kernel_rfl) (fun _ _ _ h => h) (Or.inl ⟨by rfl, fun W _ => q_run2 28 46 (.string S) (.string (B1 ++ U ++ B2 ++ B3)) (by simp only [q_same, q_ne, q_sz, hsz, h0, h3, h4, h5, ne_eq, Nat.reduceEqDiff, not_false_eq_true, Nat.reduceLT]) (by simp only [q_same, q_ne, q_sz, hsz, h0, h3, h4, h5, ne_eq, Nat.reduceEqDiff, not_false_eq_true, Nat.reduceLT]) (fun ρ hc hf e1 e2 => by simp [go_sem, hc, hf, e1, e2]; omega)⟩) hS ?_
        change wpAnyH _ _ _ _ _ _ _ (Act.put _ (some 47) _) _
        refine wpAnyH_take (i := 20) (v := (.string (S ++ (B1 ++ U ++ B2 ++ B3)))) rfl (by kernel_rfl) (by kernel_rfl) (by kernel_rfl) (fun _ _ _ h => h) (Or.inl ⟨by rfl, fun W _ => q_run1 47 (.string (S ++ (B1 ++ U ++ B2 ++ B3))) (by simp only [q_same, q_ne, q_sz, hsz, h0, h3, h4, h5, ne_eq, Nat.reduceEqDiff, not_false_eq_true, Nat.reduceLT]) (fun ρ hc hf e1 => by simp [go_sem, hc, hf, e1])⟩) hS ?_
        change wpAnyH _ _ _ _ _ _ _ (Act.put _ (some 3) _) _
        refine wpAnyH_done (by kernel_rfl) ?_ _
        have HBF : Hid (Below wr.heap.size wr _) := HBc
        have hfr := HFR.out
        clear HFR hsz h0 h3 h4 h5 hS hSl HBc
        subst hfr
        simp only [Act.put, List.setIfInBounds_toArray, List.set_cons_zero, List.set_cons_succ]
        go_wp2
        go_roundg (gk - 1)
        case measure => have := HK.out; omega
        case rel =>
          have h1 := HK.out
          exact ⟨k + 1, by omega, by rw [← HFS.out], by go_num, HB.out.trans (HBF.out.mono HB.out.size)⟩
    · obtain rfl : k = 1 + p4 := by have := HK.out; omega
      have hki : ¬ ((1 + p4 : Nat) : Int) < 1 + (p4 : Int) := by omega
      have hst2 := HST2.out
      go_upto_region 9 with (go_at_call 14; go_must (refine (HP5.out _).mono ?_); rintro e w' ⟨rfl, rfl⟩)
      have HB2' : Hid (Below w.heap.size w (wr.alloc (.cells #[.int .u8 (1 + (p5 : Int))] 5))) := HB.out.alloc HB.out.size _
      generalize wr.alloc (.cells #[.int .u8 (1 + (p5 : Int))] 5) = W3 at HB2' ⊢
      go_upto_region 10 with (go_at_call 14; go_must (refine (HP5.out _).mono ?_); rintro e w' ⟨rfl, rfl⟩)
      obtain ⟨P2, hP2⟩ : ∃ P, P = P1 ++ catK (inB seed) (1 + p4) ++ [UInt8.ofNat (1 + p5)] := ⟨_, rfl⟩
      have HP2E : Hid (P2 = P1 ++ catK (inB seed) (1 + p4) ++ [UInt8.ofNat (1 + p5)]) := hP2
      have hAP2 : ofL (P1 ++ catK (inB seed) (1 + p4)) ++ U2 = ofL P2 := by rw [HU2.out, ofL_append, hP2]
      have hPl2 : P2.length ≤ 6 + 4 * 82 := by
        have h1 := catK_len (inB seed) 82 (inB_len seed) (1 + p4)
        have h2 : (1 + p4) * 82 ≤ 4 * 82 := Nat.mul_le_mul_right _ (by omega)
        rw [hP2, List.length_append, List.length_append]; simp only [List.length_cons, List.length_nil]; omega
      rw [hAP2]
      clear hP2 hAP2 hst2 hSl HB HP5 HK hki
      go_loopg [3, 62] (1 + p5) (fun g sv iv wx => ∃ k : Nat, k + g = 1 + p5 ∧ sv = .string (ofL (P2 ++ catK (outB seed) k)) ∧ iv = .int .i64 (k : Int) ∧ Below w.heap.size w wx)
      case atStart => exact ⟨0, by omega, by simp [catK], rfl, HB2'.out⟩
      case round =>
        clear HB2'
        obtain ⟨k, hkg, rfl, rfl, hb⟩ := hrel
        have HB : Hid (Below w.heap.size w wr) := hb
        have HK : Hid (k + gk = 1 + p5) := hkg
        have hSl : (ofL (P2 ++ catK (outB seed) k)).size ≤ 6 + 4 * 82 + 4 * 50 := by
          have h1 := catK_len (outB seed) 50 (outB_len seed) k
          have h2 : k * 50 ≤ 4 * 50 := Nat.mul_le_mul_right _ (by omega)
          rw [ofL_size, List.length_append]; omega
        clear hb
        by_cases hlt : k < 1 + p5
        · have hki : (k : Int) < 1 + (p5 : Int) := by omega
          have hk4 : (k : Int) ≤ 3 := by omega
          obtain ⟨q, hq⟩ : ∃ q, q = pk (wrap64 (seed + 29 * (k : Int))) 41 := ⟨_, rfl⟩
          have hq41 : q < 41 := by rw [hq]; exact pk_lt _ 41 (by omega)
          have HPQ : Hid (∀ W, Calls Tryd.prog 14 #[.int .i64 (wrap64 (seed + 29 * (k : Int))), .int .i64 41] W fun e w' => e = .returned (.int .i64 (q : Int)) ∧ W = w') := fun W => by rw [hq]; exact HPX.out _ W (wrap_rng _).1 (wrap_rng _).2
          obtain ⟨X1, hX1⟩ : ∃ X, wrap64 (seed + 3 * (k : Int)) = X := ⟨_, rfl⟩
          obtain ⟨X2, hX2⟩ : ∃ X, wrap64 (seed + (k : Int)) = X := ⟨_, rfl⟩
          have hX1b : IntKind.i64.wrap (seed + 3 * (k : Int)) = X1 := (IntWalk.i64_left _).trans hX1
          have hX2b : IntKind.i64.wrap (seed + (k : Int)) = X2 := (IntWalk.i64_left _).trans hX2
          have hX3 : wrap64 (3 * (k : Int)) = 3 * (k : Int) := by unfold wrap64; omega
          have hX3b : IntKind.i64.wrap (3 * (k : Int)) = 3 * (k : Int) := (IntWalk.i64_left _).trans hX3
          have HIN : Hid (outB seed k = kbL 8 X1 ++ [UInt8.ofNat q] ++ kbL q X2) := by show _ = _; unfold outB; rw [← hq, hX1, hX2]
          obtain ⟨B1, hB1⟩ : ∃ B, B = ofL (kbL 8 X1) := ⟨_, rfl⟩
          obtain ⟨B2, hB2⟩ : ∃ B, B = ofL (kbL q X2) := ⟨_, rfl⟩
          obtain ⟨U, hU⟩ : ∃ B, B = ofL [UInt8.ofNat q] := ⟨_, rfl⟩
          have hq0 : (0 : Int) ≤ (q : Int) := by omega
          have hq1 : (q : Int) < 256 := by omega
          have hQ8 : IntKind.u8.wrap (q : Int) = (q : Int) := by rw [IntKind.wrap_u8]; omega
          have hQ8b : (q : Int) % 256 = (q : Int) := by omega
          have z1 : B1.size = 8 := by rw [hB1, ofL_size, kbL_length]
          have z2 : B2.size ≤ 41 := by rw [hB2, ofL_size, kbL_length]; omega
          have zu : U.size = 1 := by rw [hU]; rfl
          have HY1 : Hid (∀ W, Calls Tryd.prog 17 #[.int .i64 8, .int .i64 X1] W fun e w' => e = .returned (.string B1) ∧ Below W.heap.size W w') := fun W => by rw [hB1]; exact HBY.out 8 X1 W (by omega)
          have HY2 : Hid (∀ W, Calls Tryd.prog 17 #[.int .i64 (q : Int), .int .i64 X2] W fun e w' => e = .returned (.string B2) ∧ Below W.heap.size W w') := fun W => by rw [hB2]; exact HBY.out q X2 W (by omega)
          have HFS : Hid (ofL (P2 ++ catK (outB seed) k) ++ (B1 ++ U ++ B2) = ofL (P2 ++ catK (outB seed) (k + 1))) := by show _ = _; rw [hB1, hB2, hU, ofL_append, ofL_append, ofL_append, catK_succ, HIN.out]; simp only [List.append_assoc]
          have hUq : ∀ W g, W.cell? ⟨g, 0, none⟩ = some (.int .u8 (q : Int)) → (convert 23 9 (.slice (some ⟨g, 0, none⟩) 1 1)).run Tryd.prog W = .ok (.string U) W := fun W g hc => by
            have := one_str8 W g (q : Int) hq0 hq1 hc
            rw [show (q : Int).toNat = q by omega, ← hU] at this; exact this
          generalize ofL (P2 ++ catK (outB seed) k) = S at hSl HFS ⊢
          have zS : S.size ≤ 600 := by omega
          have z9 : (B1 ++ U).size = 9 := by rw [ByteArray.size_append]; omega
          have z15 : (B1 ++ U ++ B2).size ≤ 50 := by rw [ByteArray.size_append]; omega
          have z19 : (S ++ (B1 ++ U ++ B2)).size ≤ 700 := by rw [ByteArray.size_append]; omega
          clear hq hB1 hB2 hU hkg HIN
          go_upto_region 13 with (go_at_call 14; go_must (refine (HPQ.out _).mono ?_); rintro e w' ⟨rfl, rfl⟩)
          refine q_frame (fun A HFR => ?_)
          have hsz : A.tmps.size = 93 := by rw [HFR.out]; rfl
          have h0 : A.eval (.tmp 0) = .int .i64 seed := by rw [HFR.out]; rfl
          have h3 : A.eval (.tmp 3) = .string S := by rw [HFR.out]; rfl
          have h6 : A.eval (.tmp 6) = .int .i64 (k : Int) := by rw [HFR.out]; rfl
          have h7 : A.eval (.tmp 7) = .int .i64 (q : Int) := by rw [HFR.out]; rfl
          have HBc : Below wr.heap.size wr wr.drew := ⟨rfl, rfl, rfl, Nat.le_refl _, fun _ _ => rfl⟩
          refine wp_region_any (by kernel_rfl) ?_
          refine wpAny_take (i := 0) (v := (.string S)) rfl (by kernel_rfl) (by kernel_rfl) (by kernel_rfl) (fun _ _ _ h => h) (Or.inl ⟨by rfl, fun W => q_run1 3 (.string S) (by simp only [q_same, q_ne, q_sz, hsz, h0, h3, h6, h7, ne_eq, Nat.reduceEqDiff, not_false_eq_true, Nat.reduceLT]) (fun ρ hc hf e1 => by simp [go_sem, hc, hf, e1])⟩) ?_
          change wpAny _ _ _ _ _ _ (Act.put _ (some 70) _) _
          refine wpAny_take (i := 1) (v := (.int .i64 seed)) rfl (by kernel_rfl) (by kernel_rfl) (by kernel_rfl) (fun _ _ _ h => h) (Or.inl ⟨by rfl, fun W => q_run1 0 (.int .i64 seed) (by simp only [q_same, q_ne, q_sz, hsz, h0, h3, h6, h7, ne_eq, Nat.reduceEqDiff, not_false_eq_true, Nat.reduceLT]) (fun ρ hc hf e1 => by simp [go_sem, hc, hf, e1])⟩) ?_
          change wpAny _ _ _ _ _ _ (Act.put _ (some 71) _) _
          refine wpAny_take (i := 2) (v := (.int .i64 (k : Int))) rfl (by kernel_rfl) (by kernel_rfl) (by kernel_rfl) (fun _ _ _ h => h) (Or.inl ⟨by rfl, fun W => q_run1 6 (.int .i64 (k : Int)) (by simp only [q_same, q_ne, q_sz, hsz, h0, h3, h6, h7, ne_eq, Nat.reduceEqDiff, not_false_eq_true, Nat.reduceLT]) (fun ρ hc hf e1 => by simp [go_sem, hc, hf, e1])⟩) ?_
          change wpAny _ _ _ _ _ _ (Act.put _ (some 72) _) _
          refine wpAny_take (i := 3) (v := (.int .i64 (3 * (k : Int)))) rfl (by kernel_rfl) (by kernel_rfl) (by kernel_rfl) (fun _ _ _ h => h) (Or.inl ⟨by rfl, fun W => q_run1 72 (.int .i64 (k : Int)) (by simp only [q_same, q_ne, q_sz, hsz, h0, h3, h6, h7, ne_eq, Nat.reduceEqDiff, not_false_eq_true, Nat.reduceLT]) (fun ρ hc hf e1 => by simp [go_sem, hc, hf, e1, hX3, hX3b])⟩) ?_
          change wpAny _ _ _ _ _ _ (Act.put _ (some 73) _) _
          refine wpAny_take (i := 4) (v := (.int .i64 X1)) rfl (by kernel_rfl) (by kernel_rfl) (by kernel_rfl) (fun _ _ _ h => h) (Or.inl ⟨by rfl, fun W => q_run2 71 73 (.int .i64 seed) (.int .i64 (3 * (k : Int))) (by simp only [q_same, q_ne, q_sz, hsz, h0, h3, h6, h7, ne_eq, Nat.reduceEqDiff, not_false_eq_true, Nat.reduceLT]) (by simp only [q_same, q_ne, q_sz, hsz, h0, h3, h6, h7, ne_eq, Nat.reduceEqDiff, not_false_eq_true, Nat.reduceLT]) (fun ρ hc hf e1 e2 => by simp [go_sem, hc, hf, e1, e2, hX1, hX1b])⟩) ?_
          change wpAny _ _ _ _ _ _ (Act.put _ (some 74) _) _
          refine wpAny_take (i := 6) (v := (.int .i64 (q : Int))) rfl (by kernel_rfl) (by kernel_rfl) (by kernel_rfl) (fun _ _ _ h => h) (Or.inl ⟨by rfl, fun W => q_run1 7 (.int .i64 (q : Int)) (by simp only [q_same, q_ne, q_sz, hsz, h0, h3, h6, h7, ne_eq, Nat.reduceEqDiff, not_false_eq_true, Nat.reduceLT]) (fun ρ hc hf e1 => by simp [go_sem, hc, hf, e1])⟩) ?_
          change wpAny _ _ _ _ _ _ (Act.put _ (some 76) _) _
          refine wpAny_take (i := 7) (v := (.int .u8 (q : Int))) rfl (by kernel_rfl) (by kernel_rfl) (by kernel_rfl) (fun _ _ _ h => h) (Or.inl ⟨by rfl, fun W => q_run1 76 (.int .i64 (q : Int)) (by simp only [q_same, q_ne, q_sz, hsz, h0, h3, h6, h7, ne_eq, Nat.reduceEqDiff, not_false_eq_true, Nat.reduceLT]) (fun ρ hc hf e1 => by simp [go_sem, hc, hf, e1, hQ8, hQ8b])⟩) ?_
          change wpAny _ _ _ _ _ _ (Act.put _ (some 77) _) _
          refine wpAny_take (i := 11) (v := (.int .i64 (q : Int))) rfl (by kernel_rfl) (by kernel_rfl) (by kernel_rfl) (fun _ _ _ h => h) (Or.inl ⟨by rfl, fun W => q_run1 7 (.int .i64 (q : Int)) (by simp only [q_same, q_ne, q_sz, hsz, h0, h3, h6, h7, ne_eq, Nat.reduceEqDiff, not_false_eq_true, Nat.reduceLT]) (fun ρ hc hf e1 => by simp [go_sem, hc, hf, e1])⟩) ?_
          change wpAny _ _ _ _ _ _ (Act.put _ (some 81) _) _
          refine wpAny_take (i := 12) (v := (.int .i64 seed)) rfl (by kernel_rfl) (by kernel_rfl) (by kernel_rfl) (fun _ _ _ h => h) (Or.inl ⟨by rfl, fun W => q_run1 0 (.int .i64 seed) (by simp only [q_same, q_ne, q_sz, hsz, h0, h3, h6, h7, ne_eq, Nat.reduceEqDiff, not_false_eq_true, Nat.reduceLT]) (fun ρ hc hf e1 => by simp [go_sem, hc, hf, e1])⟩) ?_
          change wpAny _ _ _ _ _ _ (Act.put _ (some 82) _) _
          refine wpAny_take (i := 13) (v := (.int .i64 (k : Int))) rfl (by kernel_rfl) (by kernel_rfl) (by kernel_rfl) (fun _ _ _ h => h) (Or.inl ⟨by rfl, fun W => q_run1 6 (.int .i64 (k : Int)) (by simp only [q_same, q_ne, q_sz, hsz, h0, h3, h6, h7, ne_eq, Nat.reduceEqDiff, not_false_eq_true, Nat.reduceLT]) (fun ρ hc hf e1 => by simp [go_sem, hc, hf, e1])⟩) ?_
          change wpAny _ _ _ _ _ _ (Act.put _ (some 83) _) _
          refine wpAny_take (i := 14) (v := (.int .i64 X2)) rfl (by kernel_rfl) (by kernel_rfl) (by kernel_rfl) (fun _ _ _ h => h) (Or.inl ⟨by rfl, fun W => q_run2 82 83 (.int .i64 seed) (.int .i64 (k : Int)) (by simp only [q_same, q_ne, q_sz, hsz, h0, h3, h6, h7, ne_eq, Nat.reduceEqDiff, not_false_eq_true, Nat.reduceLT]) (by simp only [q_same, q_ne, q_sz, hsz, h0, h3, h6, h7, ne_eq, Nat.reduceEqDiff, not_false_eq_true, Nat.reduceLT]) (fun ρ hc hf e1 e2 => by simp [go_sem, hc, hf, e1, e2, hX2, hX2b])⟩) ?_
          change wpAny _ _ _ _ _ _ (Act.put _ (some 84) _) _
          refine wpAny_ready (rs := [5, 8]) (by kernel_rfl) (by simp) (AllReady.cons rfl (fun K hK => ?_) (AllReady.cons rfl (fun K hK => ?_) AllReady.nil))
          · refine qH_step 17 #[.int .i64 8, .int .i64 X1] _ rfl (q_run1 74 (.int .i64 X1) (by simp only [q_same, q_ne, q_sz, hsz, h0, h3, h6, h7, ne_eq, Nat.reduceEqDiff, not_false_eq_true, Nat.reduceLT]) (fun ρ hc hf e1 => by simp [go_sem, hc, hf, e1])) (calls_val (HY1.out _)) ?_
            rintro _ v1 ⟨rfl, hb1⟩
            replace HBc := HBc.trans (hb1.mono HBc.size)
            clear hb1
            refine hK _ _ ?_
            change wpAny _ _ _ _ _ _ (Act.put _ (some 75) _) _
            refine wpAny_ready (rs := [8, 15]) (by kernel_rfl) (by simp) (AllReady.cons rfl (fun K hK => ?_) (AllReady.cons rfl (fun K hK => ?_) AllReady.nil))
            · refine q_valv (.slice (some ⟨v1.heap.size, 0, none⟩) 1 1) (v1.alloc (.cells #[.int .u8 (q : Int)] 5)) rfl (q_run1 77 (.int .u8 (q : Int)) (by simp only [q_same, q_ne, q_sz, hsz, h0, h3, h6, h7, ne_eq, Nat.reduceEqDiff, not_false_eq_true, Nat.reduceLT]) (fun ρ hc hf e1 => by simp [go_sem, hc, hf, e1])) ?_
              refine hK _ _ ?_
              change wpAny _ _ _ _ _ _ (Act.put _ (some 78) _) _
              replace HBc := HBc.alloc HBc.size (.cells #[.int .u8 (q : Int)] 5)
              have hS : (v1.alloc (.cells #[.int .u8 (q : Int)] 5)).cell? ⟨v1.heap.size, 0, none⟩ = some (.int .u8 (q : Int)) := by simp [go_sem]
              have hSl : v1.heap.size < (v1.alloc (.cells #[.int .u8 (q : Int)] 5)).heap.size := by simp
              refine wpAny_of_held (S := fun W => W.cell? ⟨v1.heap.size, 0, none⟩ = some (.int .u8 (q : Int))) _ _ _ _ ?_
              refine wpAnyH_take (i := 9) (v := (.string U)) rfl (by kernel_rfl) (by kernel_rfl) (by kernel_rfl) (fun _ _ _ h => h) (Or.inl ⟨by rfl, fun W hW => q_run1 78 (.slice (some ⟨v1.heap.size, 0, none⟩) 1 1) (by simp only [q_same, q_ne, q_sz, hsz, h0, h3, h6, h7, ne_eq, Nat.reduceEqDiff, not_false_eq_true, Nat.reduceLT]) (fun ρ hc hf e1 => by simp [go_sem, hc, hf, e1, hUq W _ hW])⟩) hS ?_
              change wpAnyH _ _ _ _ _ _ _ (Act.put _ (some 79) _) _
              refine wpAnyH_take (i := 10) (v := (.string (B1 ++ U))) rfl (by kernel_rfl) (by kernel_rfl) (by kernel_rfl) (fun _ _ _ h => h) (Or.inl ⟨by rfl, fun W _ => q_run2 75 79 (.string B1) (.string U) (by simp only [q_same, q_ne, q_sz, hsz, h0, h3, h6, h7, ne_eq, Nat.reduceEqDiff, not_false_eq_true, Nat.reduceLT]) (by simp only [q_same, q_ne, q_sz, hsz, h0, h3, h6, h7, ne_eq, Nat.reduceEqDiff, not_false_eq_true, Nat.reduceLT]) (fun ρ hc hf e1 e2 => by simp [go_sem, hc, hf, e1, e2]; omega)⟩) hS ?_
              change wpAnyH _ _ _ _ _ _ _ (Act.put _ (some 80) _) _
              refine qH_call 15 17 #[.int .i64 (q : Int), .int .i64 X2] _ (by kernel_rfl) rfl rfl (q_run2 81 84 (.int .i64 (q : Int)) (.int .i64 X2) (by simp only [q_same, q_ne, q_sz, hsz, h0, h3, h6, h7, ne_eq, Nat.reduceEqDiff, not_false_eq_true, Nat.reduceLT]) (by simp only [q_same, q_ne, q_sz, hsz, h0, h3, h6, h7, ne_eq, Nat.reduceEqDiff, not_false_eq_true, Nat.reduceLT]) (fun ρ hc hf e1 e2 => by simp [go_sem, hc, hf, e1, e2])) (calls_val (HY2.out _)) ?_
              rintro _ v2 ⟨rfl, hb1⟩
              replace hS : v2.cell? ⟨v1.heap.size, 0, none⟩ = some (.int .u8 (q : Int)) := by rw [hb1.cell (p := ⟨v1.heap.size, 0, none⟩) hSl]; exact hS
              replace hSl : v1.heap.size < v2.heap.size := Nat.lt_of_lt_of_le hSl hb1.size
              replace HBc := HBc.trans (hb1.mono HBc.size)
              clear hb1
              refine ⟨hS, ?_⟩
              change wpAnyH _ _ _ _ _ _ _ (Act.put _ (some 85) _) _
              refine wpAnyH_take (i := 16) (v := (.string (B1 ++ U ++ B2))) rfl (by kernel_rfl) (by kernel_rfl) (by kernel_rfl) (fun _ _ _ h => h) (Or.inl ⟨by rfl, fun W _ => q_run2 80 85 (.string (B1 ++ U)) (.string B2) (by simp only [q_same, q_ne, q_sz, hsz, h0, h3, h6, h7, ne_eq, Nat.reduceEqDiff, not_false_eq_true, Nat.reduceLT]) (by simp only [q_same, q_ne, q_sz, hsz, h0, h3, h6, h7, ne_eq, Nat.reduceEqDiff, not_false_eq_true, Nat.reduceLT]) (fun ρ hc hf e1 e2 => by simp [go_sem, hc, hf, e1, e2]; omega)⟩) hS ?_
              change wpAnyH _ _ _ _ _ _ _ (Act.put _ (some 86) _) _
              refine wpAnyH_take (i := 17) (v := (.string (S ++ (B1 ++ U ++ B2)))) rfl (by kernel_rfl) (by kernel_rfl) (by kernel_rfl) (fun _ _ _ h => h) (Or.inl ⟨by rfl, fun W _ => q_run2 70 86 (.string S) (.string (B1 ++ U ++ B2)) (by simp only [q_same, q_ne, q_sz, hsz, h0, h3, h6, h7, ne_eq, Nat.reduceEqDiff, not_false_eq_true, Nat.reduceLT]) (by simp only [q_same, q_ne, q_sz, hsz, h0, h3, h6, h7, ne_eq, Nat.reduceEqDiff, not_false_eq_true, Nat.reduceLT]) (fun ρ hc hf e1 e2 => by simp [go_sem, hc, hf, e1, e2]; omega)⟩) hS ?_
              change wpAnyH _ _ _ _ _ _ _ (Act.put _ (some 87) _) _
              refine wpAnyH_take (i := 18) (v := (.string (S ++ (B1 ++ U ++ B2)))) rfl (by kernel_rfl) (by kernel_rfl) (by kernel_rfl) (fun _ _ _ h => h) (Or.inl ⟨by rfl, fun W _ => q_run1 87 (.string (S ++ (B1 ++ U ++ B2))) (by simp only [q_same, q_ne, q_sz, hsz, h0, h3, h6, h7, ne_eq, Nat.reduceEqDiff, not_false_eq_true, Nat.reduceLT]) (fun ρ hc hf e1 => by simp [go_sem, hc, hf, e1])⟩) hS ?_
              change wpAnyH _ _ _ _ _ _ _ (Act.put _ (some 3) _) _
              refine wpAnyH_done (by kernel_rfl) ?_ _
              have HBF : Hid (Below wr.heap.size wr _) := HBc
              have hfr := HFR.out
              clear HFR hsz h0 h3 h6 h7 hS hSl HBc
              subst hfr
              simp only [Act.put, List.setIfInBounds_toArray, List.set_cons_zero, List.set_cons_succ]
              go_wp2
              go_roundg (gk - 1)
              case measure => have := HK.out; omega
              case rel =>
                have h1 := HK.out
                exact ⟨k + 1, by omega, by rw [← HFS.out], by go_num, HB.out.trans (HBF.out.mono HB.out.size)⟩
            · refine qH_step 17 #[.int .i64 (q : Int), .int .i64 X2] _ rfl (q_run2 81 84 (.int .i64 (q : Int)) (.int .i64 X2) (by simp only [q_same, q_ne, q_sz, hsz, h0, h3, h6, h7, ne_eq, Nat.reduceEqDiff, not_false_eq_true, Nat.reduceLT]) (by simp only [q_same, q_ne, q_sz, hsz, h0, h3, h6, h7, ne_eq, Nat.reduceEqDiff, not_false_eq_true, Nat.reduceLT]) (fun ρ hc hf e1 e2 => by simp [go_sem, hc, hf, e1, e2])) (calls_val (HY2.out _)) ?_
              rintro _ v2 ⟨rfl, hb1⟩
              replace HBc := HBc.trans (hb1.mono HBc.size)
              clear hb1
              refine hK _ _ ?_
              change wpAny _ _ _ _ _ _ (Act.put _ (some 85) _) _
              refine wpAny_ready (rs := [8]) (by kernel_rfl) (by simp) (AllReady.cons rfl (fun K hK => ?_) AllReady.nil)
              refine q_valv (.slice (some ⟨v2.heap.size, 0, none⟩) 1 1) (v2.alloc (.cells #[.int .u8 (q : Int)] 5)) rfl (q_run1 77 (.int .u8 (q : Int)) (by simp only [q_same, q_ne, q_sz, hsz, h0, h3, h6, h7, ne_eq, Nat.reduceEqDiff, not_false_eq_true, Nat.reduceLT]) (fun ρ hc hf e1 => by simp [go_sem, hc, hf, e1])) ?_
              refine hK _ _ ?_
              change wpAny _ _ _ _ _ _ (Act.put _ (some 78) _) _
              replace HBc := HBc.alloc HBc.size (.cells #[.int .u8 (q : Int)] 5)
              have hS : (v2.alloc (.cells #[.int .u8 (q : Int)] 5)).cell? ⟨v2.heap.size, 0, none⟩ = some (.int .u8 (q : Int)) := by simp [go_sem]
              have hSl : v2.heap.size < (v2.alloc (.cells #[.int .u8 (q : Int)] 5)).heap.size := by simp
              refine wpAny_of_held (S := fun W => W.cell? ⟨v2.heap.size, 0, none⟩ = some (.int .u8 (q : Int))) _ _ _ _ ?_
              refine wpAnyH_take (i := 9) (v := (.string U)) rfl (by kernel_rfl) (by kernel_rfl) (by kernel_rfl) (fun _ _ _ h => h) (Or.inl ⟨by rfl, fun W hW => q_run1 78 (.slice (some ⟨v2.heap.size, 0, none⟩) 1 1) (by simp only [q_same, q_ne, q_sz, hsz, h0, h3, h6, h7, ne_eq, Nat.reduceEqDiff, not_false_eq_true, Nat.reduceLT]) (fun ρ hc hf e1 => by simp [go_sem, hc, hf, e1, hUq W _ hW])⟩) hS ?_
              change wpAnyH _ _ _ _ _ _ _ (Act.put _ (some 79) _) _
              refine wpAnyH_take (i := 10) (v := (.string (B1 ++ U))) rfl (by kernel_rfl) (by kernel_rfl) (by kernel_rfl) (fun _ _ _ h => h) (Or.inl ⟨by rfl, fun W _ => q_run2 75 79 (.string B1) (.string U) (by simp only [q_same, q_ne, q_sz, hsz, h0, h3, h6, h7, ne_eq, Nat.reduceEqDiff, not_false_eq_true, Nat.reduceLT]) (by simp only [q_same, q_ne, q_sz, hsz, h0, h3, h6, h7, ne_eq, Nat.reduceEqDiff, not_false_eq_true, Nat.reduceLT]) (fun ρ hc hf e1 e2 => by simp [go_sem, hc, hf, e1, e2]; omega)⟩) hS ?_
              change wpAnyH _ _ _ _ _ _ _ (Act.put _ (some 80) _) _
              refine wpAnyH_take (i := 16) (v := (.string (B1 ++ U ++ B2))) rfl (by kernel_rfl) (by kernel_rfl) (by kernel_rfl) (fun _ _ _ h => h) (Or.inl ⟨by rfl, fun W _ => q_run2 80 85 (.string (B1 ++ U)) (.string B2) (by simp only [q_same, q_ne, q_sz, hsz, h0, h3, h6, h7, ne_eq, Nat.reduceEqDiff, not_false_eq_true, Nat.reduceLT]) (by simp only [q_same, q_ne, q_sz, hsz, h0, h3, h6, h7, ne_eq, Nat.reduceEqDiff, not_false_eq_true, Nat.reduceLT]) (fun ρ hc hf e1 e2 => by simp [go_sem, hc, hf, e1, e2]; omega)⟩) hS ?_
              change wpAnyH _ _ _ _ _ _ _ (Act.put _ (some 86) _) _
              refine wpAnyH_take (i := 17) (v := (.string (S ++ (B1 ++ U ++ B2)))) rfl (by kernel_rfl) (by kernel_rfl) (by kernel_rfl) (fun _ _ _ h => h) (Or.inl ⟨by rfl, fun W _ => q_run2 70 86 (.string S) (.string (B1 ++ U ++ B2)) (by simp only [q_same, q_ne, q_sz, hsz, h0, h3, h6, h7, ne_eq, Nat.reduceEqDiff, not_false_eq_true, Nat.reduceLT]) (by simp only [q_same, q_ne, q_sz, hsz, h0, h3, h6, h7, ne_eq, Nat.reduceEqDiff, not_false_eq_true, Nat.reduceLT]) (fun ρ hc hf e1 e2 => by simp [go_sem, hc, hf, e1, e2]; omega)⟩) hS ?_
              change wpAnyH _ _ _ _ _ _ _ (Act.put _ (some 87) _) _
              refine wpAnyH_take (i := 18) (v := (.string (S ++ (B1 ++ U ++ B2)))) rfl (by kernel_rfl) (by kernel_rfl) (by kernel_rfl) (fun _ _ _ h => h) (Or.inl ⟨by rfl, fun W _ => q_run1 87 (.string (S ++ (B1 ++ U ++ B2))) (by simp only [q_same, q_ne, q_sz, hsz, h0, h3, h6, h7, ne_eq, Nat.reduceEqDiff, not_false_eq_true, Nat.reduceLT]) (fun ρ hc hf e1 => by simp [go_sem, hc, hf, e1])⟩) hS ?_
              change wpAnyH _ _ _ _ _ _ _ (Act.put _ (some 3) _) _
              refine wpAnyH_done (by kernel_rfl) ?_ _
              have HBF : Hid (Below wr.heap.size wr _) := HBc
              have hfr := HFR.out
              clear HFR hsz h0 h3 h6 h7 hS hSl HBc
              subst hfr
              simp only [Act.put, List.setIfInBounds_toArray, List.set_cons_zero, List.set_cons_succ]
              go_wp2
              go_roundg (gk - 1)
              case measure => have := HK.out; omega
              case rel =>
                have h1 := HK.out
                exact ⟨k + 1, by omega, by rw [← HFS.out], by go_num, HB.out.trans (HBF.out.mono HB.out.size)⟩
          · refine q_valv (.slice (some ⟨wr.heap.size, 0, none⟩) 1 1) (wr.drew.alloc (.cells #[.int .u8 (q : Int)] 5)) rfl (q_run1 77 (.int .u8 (q : Int)) (by simp only [q_same, q_ne, q_sz, hsz, h0, h3, h6, h7, ne_eq, Nat.reduceEqDiff, not_false_eq_true, Nat.reduceLT]) (fun ρ hc hf e1 => by simp [go_sem, hc, hf, e1])) ?_
            refine hK _ _ ?_
            change wpAny _ _ _ _ _ _ (Act.put _ (some 78) _) _
            replace HBc := HBc.alloc HBc.size (.cells #[.int .u8 (q : Int)] 5)
            have hS : (wr.drew.alloc (.cells #[.int .u8 (q : Int)] 5)).cell? ⟨wr.heap.size, 0, none⟩ = some (.int .u8 (q : Int)) := by simp [go_sem]
            have hSl : wr.heap.size < (wr.drew.alloc (.cells #[.int .u8 (q : Int)] 5)).heap.size := by simp
            refine wpAny_of_held (S := fun W => W.cell? ⟨wr.heap.size, 0, none⟩ = some (.int .u8 (q : Int))) _ _ _ _ ?_
            refine wpAnyH_take (i := 9) (v := (.string U)) rfl (by kernel_rfl) (by kernel_rfl) (by kernel_rfl) (fun _ _ _ h => h) (Or.inl ⟨by rfl, fun W hW => q_run1 78 (.slice (some ⟨wr.heap.size, 0, none⟩) 1 1) (by simp only [q_same, q_ne, q_sz, hsz, h0, h3, h6, h7, ne_eq, Nat.reduceEqDiff, not_false_eq_true, Nat.reduceLT]) (fun ρ hc hf e1 => by simp [go_sem, hc, hf, e1, hUq W _ hW])⟩) hS ?_
            change wpAnyH _ _ _ _ _ _ _ (Act.put _ (some 79) _) _
            refine qH_call 5 17 #[.int .i64 8, .int .i64 X1] _ (by kernel_rfl) rfl rfl (q_run1 74 (.int .i64 X1) (by simp only [q_same, q_ne, q_sz, hsz, h0, h3, h6, h7, ne_eq, Nat.reduceEqDiff, not_false_eq_true, Nat.reduceLT]) (fun ρ hc hf e1 => by simp [go_sem, hc, hf, e1])) (calls_val (HY1.out _)) ?_
            rintro _ v1 ⟨rfl, hb1⟩
            replace hS : v1.cell? ⟨wr.heap.size, 0, none⟩ = some (.int .u8 (q : Int)) := by rw [hb1.cell (p := ⟨wr.heap.size, 0, none⟩) hSl]; exact hS
            replace hSl : wr.heap.size < v1.heap.size := Nat.lt_of_lt_of_le hSl hb1.size
            replace HBc := HBc.trans (hb1.mono HBc.size)
            clear hb1
            refine ⟨hS, ?_⟩
            change wpAnyH _ _ _ _ _ _ _ (Act.put _ (some 75) _) _
            refine wpAnyH_take (i := 10) (v := (.string (B1 ++ U))) rfl (by kernel_rfl) (by kernel_rfl) (by kernel_rfl) (fun _ _ _ h => h) (Or.inl ⟨by rfl, fun W _ => q_run2 75 79 (.string B1) (.string U) (by simp only [q_same, q_ne, q_sz, hsz, h0, h3, h6, h7, ne_eq, Nat.reduceEqDiff, not_false_eq_true, Nat.reduceLT]) (by simp only [q_same, q_ne, q_sz, hsz, h0, h3, h6, h7, ne_eq, Nat.reduceEqDiff, not_false_eq_true, Nat.reduceLT]) (fun ρ hc hf e1 e2 => by simp [go_sem, hc, hf, e1, e2]; omega)⟩) hS ?_
            change wpAnyH _ _ _ _ _ _ _ (Act.put _ (some 80) _) _
            refine qH_call 15 17 #[.int .i64 (q : Int), .int .i64 X2] _ (by kernel_rfl) rfl rfl (q_run2 81 84 (.int .i64 (q : Int)) (.int .i64 X2) (by simp only [q_same, q_ne, q_sz, hsz, h0, h3, h6, h7, ne_eq, Nat.reduceEqDiff, not_false_eq_true, Nat.reduceLT]) (by simp only [q_same, q_ne, q_sz, hsz, h0, h3, h6, h7, ne_eq, Nat.reduceEqDiff, not_false_eq_true, Nat.reduceLT]) (fun ρ hc hf e1 e2 => by simp [go_sem, hc, hf, e1, e2])) (calls_val (HY2.out _)) ?_
            rintro _ v2 ⟨rfl, hb1⟩
            replace hS : v2.cell? ⟨wr.heap.size, 0, none⟩ = some (.int .u8 (q : Int)) := by rw [hb1.cell (p := ⟨wr.heap.size, 0, none⟩) hSl]; exact hS
            replace hSl : wr.heap.size < v2.heap.size := Nat.lt_of_lt_of_le hSl hb1.size
            replace HBc := HBc.trans (hb1.mono HBc.size)
            clear hb1
            refine ⟨hS, ?_⟩
            change wpAnyH _ _ _ _ _ _ _ (Act.put _ (some 85) _) _
            refine wpAnyH_take (i := 16) (v := (.string (B1 ++ U ++ B2))) rfl (by kernel_rfl) (by kernel_rfl) (by kernel_rfl) (fun _ _ _ h => h) (Or.inl ⟨by rfl, fun W _ => q_run2 80 85 (.string (B1 ++ U)) (.string B2) (by simp only [q_same, q_ne, q_sz, hsz, h0, h3, h6, h7, ne_eq, Nat.reduceEqDiff, not_false_eq_true, Nat.reduceLT]) (by simp only [q_same, q_ne, q_sz, hsz, h0, h3, h6, h7, ne_eq, Nat.reduceEqDiff, not_false_eq_true, Nat.reduceLT]) (fun ρ hc hf e1 e2 => by simp [go_sem, hc, hf, e1, e2]; omega)⟩) hS ?_
            change wpAnyH _ _ _ _ _ _ _ (Act.put _ (some 86) _) _
            refine wpAnyH_take (i := 17) (v := (.string (S ++ (B1 ++ U ++ B2)))) rfl (by kernel_rfl) (by kernel_rfl) (by kernel_rfl) (fun _ _ _ h => h) (Or.inl ⟨by rfl, fun W _ => q_run2 70 86 (.string S) (.string (B1 ++ U ++ B2)) (by simp only [q_same, q_ne, q_sz, hsz, h0, h3, h6, h7, ne_eq, Nat.reduceEqDiff, not_false_eq_true, Nat.reduceLT]) (by simp only [q_same, q_ne, q_sz, hsz, h0, h3, h6, h7, ne_eq, Nat.reduceEqDiff, not_false_eq_true, Nat.reduceLT]) (fun ρ hc hf e1 e2 => by simp [go_sem, hc, hf, e1, e2]; omega)⟩) hS ?_
            change wpAnyH _ _ _ _ _ _ _ (Act.put _ (some 87) _) _
            refine wpAnyH_take (i := 18) (v := (.string (S ++ (B1 ++ U ++ B2)))) rfl (by kernel_rfl) (by kernel_rfl) (by kernel_rfl) (fun _ _ _ h => h) (Or.inl ⟨by rfl, fun W _ => q_run1 87 (.string (S ++ (B1 ++ U ++ B2))) (by simp only [q_same, q_ne, q_sz, hsz, h0, h3, h6, h7, ne_eq, Nat.reduceEqDiff, not_false_eq_true, Nat.reduceLT]) (fun ρ hc hf e1 => by simp [go_sem, hc, hf, e1])⟩) hS ?_
            change wpAnyH _ _ _ _ _ _ _ (Act.put _ (some 3) _) _
            refine wpAnyH_done (by kernel_rfl) ?_ _
            have HBF : Hid (Below wr.heap.size wr _) := HBc
            have hfr := HFR.out
            clear HFR hsz h0 h3 h6 h7 hS hSl HBc
            subst hfr
            simp only [Act.put, List.setIfInBounds_toArray, List.set_cons_zero, List.set_cons_succ]
            go_wp2
            go_roundg (gk - 1)
            case measure => have := HK.out; omega
            case rel =>
              have h1 := HK.out
              exact ⟨k + 1, by omega, by rw [← HFS.out], by go_num, HB.out.trans (HBF.out.mono HB.out.size)⟩
        · obtain rfl : k = 1 + p5 := by have := HK.out; omega
          have hki : ¬ ((1 + p5 : Nat) : Int) < 1 + (p5 : Int) := by omega
          have hfin : ofL (P2 ++ catK (outB seed) (1 + p5)) ++ A4 = ofL TL := by rw [HA4.out, ofL_append, HTL.out, HP2E.out, HP1E.out]
          have HFIN : Hid (ofL (P2 ++ catK (outB seed) (1 + p5)) ++ A4 = ofL TL) := hfin
          clear hfin
          generalize ofL (P2 ++ catK (outB seed) (1 + p5)) = S at hSl HFIN ⊢
          go_wp2_with (go_at_call 17; go_must (refine (HB4.out _).mono ?_); rintro e w1 ⟨rfl, hb1⟩; have HB1 := (show Hid (Below wr.heap.size wr w1) from hb1); clear hb1)
          go_ret
          exact ⟨by first | rfl | (rw [HFIN.out]; rfl), HB.out.trans (HB1.out.mono HB.out.size)⟩
end Go.Proofs.YtkmalggeieiepabDoor
