import Derived.Test.YtkmalggeieiepabDoorPzi
import Derived.WalkKit
import Derived.WalkSpells
import Derived.WalkLawsBesides
import Derived.OwnWalk
import Derived.Deep.DeepCutAuto
import Derived.Deep.LoopGhost
import Derived.Deep.AppendLies
import Derived.Test.YtkmalggeieiepabDoorPzd
import Derived.Deep.MidRow
import Derived.Laws.Bits64b
import Derived.Test.YtkmalggeieiepabDoorPzh
import Derived.Test.YtkmalggeieiepabDoorPzg
import Derived.Deep.RegionHeld3
import Derived.OrdersHeld
namespace Go.Proofs.YtkmalggeieiepabDoor
open Go.RowKit

end Go.Proofs.YtkmalggeieiepabDoor
namespace Go.Proofs.YtkmalggeieiepabDoor
open Go.RowKit

def outL (l : List (List UInt8)) (q : List Nat) : List (List UInt8) := q.map fun i => l.getD i []
/-- what is answered to a request: bytes, or what is wrong. -/
def srvR (dd : ByteArray → ByteArray) (B : List UInt8 × (List (List UInt8) × Int)) (Q : List UInt8 × (List Nat × Int)) : List UInt8 × Int :=
  if B.2.2 ≠ 0 then ([], B.2.2) else if Q.2.2 ≠ 0 then ([], Q.2.2) else if ofL Q.1 ≠ dd (ofL B.1) then ([], 6)
  else if Q.2.1.all (fun i => decide (i < B.2.1.length)) = true then (Q.1 ++ (sizeL Q.2.1.length ++ (outL B.2.1 Q.2.1).flatten), 0) else ([], 4)
theorem catL_ofL (l : List (List UInt8)) : catL (l.map ofL) = l.flatten := by
  induction l with
  | nil => rfl
  | cons a l ih => simp only [List.map_cons, List.flatten_cons, ← ih]; simp [catL, ofL_data]
theorem outL_snoc (l : List (List UInt8)) (q : List Nat) (j : Nat) (h : j < q.length) : outL l (q.take (j + 1)) = outL l (q.take j) ++ [l.getD q[j] []] := by
  unfold outL; rw [List.take_succ_eq_append_getElem h, List.map_append]; rfl
theorem strB_snoc (l : List (List UInt8)) (t : List UInt8) : strB (l ++ [t]) = strB l ++ [.string (ofL t)] := by simp [strB, strV]
theorem all_take (q : List Nat) (n : Nat) (h : ∀ (j : Nat) (hj : j < q.length), q[j] < n) : q.all (fun i => decide (i < n)) = true := by
  rw [List.all_eq_true]
  intro x hx
  obtain ⟨j, hj, rfl⟩ := List.getElem_of_mem hx
  simpa using h j hj
theorem all_not (q : List Nat) (n j : Nat) (hj : j < q.length) (h : n ≤ q[j]) : ¬ q.all (fun i => decide (i < n)) = true := by
  intro ha
  have := List.all_eq_true.1 ha q[j] (List.getElem_mem hj)
  simp at this; omega

end Go.Proofs.YtkmalggeieiepabDoor
namespace Go.Proofs.YtkmalggeieiepabDoor
open Go.RowKit

theorem range_app {w : World} {g : Nat} {a b : List Value} (h : w.rangeAt g 0 (a ++ b)) : w.rangeAt g 0 a ∧ w.rangeAt g a.length b := by
  refine ⟨fun j v hv => h j v ?_, fun j v hv => ?_⟩
  · have hj := (List.getElem?_eq_some_iff.1 hv).1
    rw [List.getElem?_append_left hj]; exact hv
  · have := h (a.length + j) v (by rw [List.getElem?_append_right (by omega)]; simpa using hv)
    rw [Nat.zero_add] at this; exact this
theorem range_new (w : World) (cs : List Value) (T : Nat) (SR : Array Value) (hs : SR = cs.toArray) : (w.alloc (.cells SR T)).rangeAt w.heap.size 0 cs := by
  have h := World.rangeAt_of_block (heap_alloc_new w (.cells SR T)) 0 cs.length
  subst hs
  simpa using h
theorem flat_snoc (T : List (List UInt8)) (j : Nat) (h : j < T.length) : (T.take (j + 1)).flatten = (T.take j).flatten ++ T[j] := by
  rw [List.take_succ_eq_append_getElem h, List.flatten_append]; simp
theorem flat_le (T : List (List UInt8)) (N : Nat) (h : ∀ x ∈ T, x.length ≤ N) : T.flatten.length ≤ T.length * N := by
  induction T with
  | nil => simp
  | cons a T ih =>
    have h1 := h a (by simp)
    have h2 := ih (fun x hx => h x (by simp [hx]))
    simp only [List.flatten_cons, List.length_append, List.length_cons, Nat.succ_mul]; omega

set_option maxRecDepth 10000 in
set_option maxHeartbeats 2000000 in
theorem wSev_any (g : Nat) (T : List (List UInt8)) (va : Option Addr) (vc : Nat) (p0 : List UInt8) (w : World) (hW : Wr w g p0) (hrow : 0 < T.length → ∃ b o, va = some ⟨b, o, none⟩ ∧ SRow w b o (T.map ofL) ∧ b < g) (hn : T.length ≤ 16) (hN : ∀ x ∈ T, x.length ≤ 610) (hp0 : p0.length ≤ 100000) :
    Calls Tryd.prog 72 #[.pointer (some ⟨g, 0, none⟩), .slice va T.length vc] w fun x w' => x = .returned (.tuple #[]) ∧ Wr w' g (p0 ++ sizeL T.length ++ T.flatten) ∧ Fr g w w' := by
  have HRW : Hid (0 < T.length → ∃ b o, va = some ⟨b, o, none⟩ ∧ SRow w b o (T.map ofL) ∧ b < g) := hrow
  have hglt := hW.lt
  have HC : Hid (Calls Tryd.prog 65 #[.pointer (some ⟨g, 0, none⟩), .int .i64 (T.length : Int)] w fun x w' => x = .returned (.tuple #[]) ∧ Wr w' g (p0 ++ sizeL T.length) ∧ Fr g w w') := wCount_small _ T.length _ w hW (by omega) (by omega)
  have HPL : Hid ((p0 ++ sizeL T.length).length ≤ 100009) := by
    show _ ≤ _
    have h1 := sizeL_le T.length
    rw [List.length_append]; omega
  have HND : Hid (∀ j, ((T.take j).flatten).length ≤ 16 * 610) := fun j => by
    have := flat_le (T.take j) 610 (fun x hx => hN x (List.mem_of_mem_take hx))
    rw [List.length_take] at this
    have h3 : min j T.length * 610 ≤ 16 * 610 := Nat.mul_le_mul_right _ (by omega)
    omega
  have HN : Hid (∀ x ∈ T, x.length ≤ 610) := hN
  generalize p0 ++ sizeL T.length = p at HC HPL ⊢
  clear hrow hW hN hp0
  go_enter Tryd.func72, Tryd.ntmps72
  go_upto_region 1 with (go_at_call 65; go_must (refine HC.out.mono ?_); rintro e w4 ⟨rfl, hw4, hf4⟩; have HW4 := (show Hid (Wr w4 g p) from hw4); have HF4 := (show Hid (Fr g w w4) from hf4); clear hw4 hf4)
  clear HC
  go_upto_region 2 with fail
  go_loopg [12] T.length (fun g' i wx => ∃ j : Nat, j + g' = T.length ∧ i = .int .i64 (j : Int) ∧ Wr wx g (p ++ (T.take j).flatten) ∧ Fr g w wx)
  case atStart => exact ⟨0, by omega, rfl, by simpa using HW4.out, HF4.out⟩
  case round =>
    clear HW4 HF4
    obtain ⟨j, hjg, rfl, hw, hf⟩ := hrel
    have HW : Hid (Wr wr g (p ++ (T.take j).flatten)) := hw
    have HF : Hid (Fr g w wr) := hf
    have HJ : Hid (j + gk = T.length) := hjg
    clear hw
    by_cases hlt : j < T.length
    · obtain ⟨b, o, rfl, hrow, hbg⟩ := HRW.out (by omega)
      have cj : wr.cell? ⟨b, o + j, none⟩ = some (.string (ofL T[j])) := by
        have := (hrow.later (hf.below (Nat.le_of_lt hglt) (Nat.le_refl _)) hbg) j (by simp; omega)
        rw [this]; simp
      have hji : (j : Int) < (T.length : Int) := by omega
      have HC2 : Hid (Calls Tryd.prog 63 #[.pointer (some ⟨g, 0, none⟩), .string (ofL T[j])] wr fun x w' => x = .returned (.tuple #[]) ∧ Wr w' g (p ++ (T.take (j + 1)).flatten) ∧ Fr g wr w') := by
        have h1 := HPL.out
        have h2 := HND.out j
        have h3 := HN.out _ (List.getElem_mem hlt)
        rw [flat_snoc T j hlt, ← List.append_assoc]
        exact wText_any _ _ (ofL T[j]) wr HW.out (by rw [List.length_append]; omega) (by rw [ofL_size]; omega)
      generalize ofL T[j] = tx at cj HC2
      clear hf hjg hrow
      go_wp2_with (go_at_call 63; go_must (refine HC2.out.mono ?_); rintro e w5 ⟨rfl, hw5, hf5⟩; have HW5 := (show Hid (Wr w5 g (p ++ (T.take (j + 1)).flatten)) from hw5); have HF5 := (show Hid (Fr g w w5) from HF.out.trans hf5); clear hw5 hf5)
      go_roundg (gk - 1)
      case measure => have := HJ.out; omega
      case rel =>
        have h1 := HJ.out
        exact ⟨j + 1, by omega, by go_num, HW5.out, HF5.out⟩
    · obtain rfl : j = T.length := by omega
      rw [List.take_length] at HW
      clear hf hjg
      have hji : ¬ ((T.length : Int) < (T.length : Int)) := by omega
      go_wp2
      go_end0
      exact ⟨rfl, HW.out, HF.out⟩

set_option maxRecDepth 10000 in
set_option maxHeartbeats 2000000 in
theorem rpText_any (nm : ByteArray) (hnm : nm.size = 32) (T : List (List UInt8)) (v : Value) (SR : Array Value) (HSR : Hid (SR = (bc nm ++ [v]).toArray)) (w : World) (hv : SVal w v (T.map ofL)) (hn : T.length ≤ 16) (hN : ∀ x ∈ T, x.length ≤ 610) :
    Calls Tryd.prog 40 #[.agg SR] w fun x w' => x = .returned (.string (ofL (nm.data.toList ++ sizeL T.length ++ T.flatten))) ∧ Below w.heap.size w w' := by
  go_enter Tryd.func40, Tryd.ntmps40
  go_upto_region 2 with fail
  obtain ⟨W1, hW1⟩ : ∃ W, W = (w.alloc (.cells SR 94)).alloc (.cells #[.slice none 0 0] 130) := ⟨_, rfl⟩
  have hrg : (w.alloc (.cells SR 94)).rangeAt w.heap.size 0 (bc nm ++ [v]) := range_new w _ _ SR HSR.out
  have HB1 : Hid (Below w.heap.size w W1) := by show Below _ _ _; rw [hW1]; exact ((Below.refl _ _).alloc (Nat.le_refl _) _).alloc (by simp) _
  have hr1 : W1.rangeAt w.heap.size 0 (bc nm ++ [v]) := by rw [hW1]; exact World.rangeAt_alloc hrg _
  have hW : Wr W1 (w.heap.size + 1) [] := by rw [hW1]; exact Wr.new _ _ _ (by simp)
  have hz1 : W1.heap.size = w.heap.size + 2 := by rw [hW1]; simp
  rw [← hW1]
  clear hW1 hrg HSR
  obtain ⟨hra, hrb⟩ := range_app hr1
  rw [bc_length, hnm] at hrb
  have HRA : Hid (W1.rangeAt w.heap.size 0 (bc nm)) := hra
  have HCB : Hid (∀ W, Below (w.heap.size + 1) W1 W → W.cell? ⟨w.heap.size, 32, none⟩ = some v) := fun W hW => by
    rw [hW.cell (p := ⟨w.heap.size, 32, none⟩) (Nat.lt_succ_self _)]; exact hrb 0 v rfl
  have HTX : Hid (∀ W, Calls Tryd.prog 23 #[.agg (bc nm).toArray] W fun e w' => e = .returned (.string nm) ∧ Below W.heap.size W w') := fun W => text_d nm hnm W
  have HWR : Hid (Wr W1 (w.heap.size + 1) []) := hW
  clear hr1 hra hrb hW
  obtain ⟨va, vc, rfl, _, hrow⟩ := hv
  have hTl : (T.map ofL).length = T.length := by simp
  rw [hTl] at hrow HCB
  have HRW : Hid (0 < T.length → ∃ b o, va = some ⟨b, o, none⟩ ∧ SRow w b o (T.map ofL)) := hrow
  clear hrow hTl
  have hbl := bc_length nm
  go_upto_region 3 with (first
    | (refine wpList_load_mid rfl 59 _ rfl w.heap.size 0 rfl (bc nm) _ ?_ Tryd.underlying59 rfl ?_ ?_; exact HRA.out; rw [bc_length, hnm]; kernel_rfl)
    | (go_at_call 23; go_must (refine (HTX.out _).mono ?_); rintro e w2 ⟨rfl, hb2⟩; have HB2 := (show Hid (Below W1.heap.size W1 w2) from hb2); have HW2 := (show Hid (Wr w2 (w.heap.size + 1) []) from HWR.out.later hb2); clear hb2)
    | (go_at_call 63; go_must (refine (wText_any (w.heap.size + 1) [] nm _ HW2.out (by simp) (by omega)).mono ?_); rintro e w3 ⟨rfl, hw3, hf3⟩; have HW3 := (show Hid (Wr w3 (w.heap.size + 1) nm.data.toList) from hw3); have HB3 := (show Hid (Below (w.heap.size + 1) W1 w3) from (HB2.out.mono (by omega)).trans (hf3.below (Nat.le_of_lt HW2.out.lt) (Nat.le_refl _))); clear hw3 hf3))
  clear HWR HRA HTX hbl
  have hnl : nm.data.toList.length = 32 := hnm
  have HC : Hid (Calls Tryd.prog 72 #[.pointer (some ⟨w.heap.size + 1, 0, none⟩), .slice va T.length vc] w3 fun x w' => x = .returned (.tuple #[]) ∧ Wr w' (w.heap.size + 1) (nm.data.toList ++ sizeL T.length ++ T.flatten) ∧ Fr (w.heap.size + 1) w3 w') := wSev_any _ T va vc nm.data.toList w3 HW3.out (fun h0 => by
    obtain ⟨b, o, ha, hr⟩ := HRW.out h0
    have hbw := hr.lt (by simpa using h0)
    exact ⟨b, o, ha, (hr.later HB1.out hbw).later HB3.out (Nat.lt_succ_of_lt hbw), Nat.lt_succ_of_lt hbw⟩) hn hN (by omega)
  have d3 := HCB.out w3 HB3.out
  go_upto_region 4 with (go_at_call 72; go_must (refine HC.out.mono ?_); rintro e w4 ⟨rfl, hw4, hf4⟩; have HW4 := (show Hid (Wr w4 (w.heap.size + 1) (nm.data.toList ++ sizeL T.length ++ T.flatten)) from hw4); have HB4 := (show Hid (Below (w.heap.size + 1) W1 w4) from HB3.out.trans (hf4.below (Nat.le_of_lt HW3.out.lt) (Nat.le_refl _))); clear hw4 hf4)
  clear d3 HC HW3 HB3
  obtain ⟨b, c, d0, hcv⟩ := HW4.out.text (by rw [List.length_append, List.length_append]; omega)
  have HBW : Hid (Below w.heap.size w w4) := HB1.out.trans (HB4.out.mono (Nat.le_succ _))
  generalize hS : ofL (nm.data.toList ++ sizeL T.length ++ T.flatten) = S at hcv
  have HL : Hid (ofL (nm.data.toList ++ sizeL T.length ++ T.flatten) = S) := hS
  clear hS
  generalize (nm.data.toList ++ sizeL T.length ++ T.flatten).length = LN at d0 hcv
  clear hnl
  go_wp2
  go_ret
  exact ⟨by rw [HL.out]; rfl, HBW.out⟩
end Go.Proofs.YtkmalggeieiepabDoor
set_option linter.unusedSimpArgs false
namespace Go.Proofs.YtkmalggeieiepabDoor
open Go.RowKit

theorem le_mod : ∀ (k n : Nat), le (n % 256 ^ k) k = le n k
  | 0, _ => rfl
  | k + 1, n => by
    have ih := le_mod k (n / 256)
    have e1 : n % 256 ^ (k + 1) / 256 = n / 256 % 256 ^ k := by
      rw [Nat.pow_succ, Nat.mul_comm, Nat.mod_mul_right_div_self]
    have e2 : UInt8.ofNat (n % 256 ^ (k + 1)) = UInt8.ofNat n := by
      rw [← UInt8.toNat_inj]
      simp only [UInt8.toNat_ofNat']
      exact Nat.mod_mod_of_dvd n (by rw [Nat.pow_succ]; exact Nat.dvd_mul_left _ _)
    show UInt8.ofNat (n % 256 ^ (k + 1)) :: le (n % 256 ^ (k + 1) / 256) k = UInt8.ofNat n :: le (n / 256) k
    rw [e1, e2, ih]
theorem and_mask (n : Nat) (h : U64 n) : bits .and .u64 (n : Int) 281474976710655 = ((n % 281474976710656 : Nat) : Int) := by
  have := bits_and_u64_nat n 281474976710655 h (by omega)
  rw [show ((281474976710655 : Nat) : Int) = 281474976710655 from rfl] at this
  rw [this, show (281474976710655 : Nat) = 2 ^ 48 - 1 from rfl, Nat.and_two_pow_sub_one_eq_mod]

theorem q_run3 {P : Program} {o : Oper} {a : Act} {W W' : World} {r : Next} (s t u : Nat) (us ut uu : Value) (hs : a.eval (.tmp s) = us) (ht : a.eval (.tmp t) = ut) (hu : a.eval (.tmp u) = uu)
    (h : ∀ ρ : Operand → Value, (∀ c, ρ (.const c) = c) → (∀ n, ρ (.func n) = .func (.func n) #[] #[]) → ρ (.tmp s) = us → ρ (.tmp t) = ut → ρ (.tmp u) = uu → (execOp ρ o).run P W = .ok r W') : (execOp a.eval o).run P W = .ok r W' := h a.eval (fun _ => rfl) (fun _ => rfl) hs ht hu

set_option maxRecDepth 10000 in
set_option maxHeartbeats 2000000 in
theorem shortID_any (k l : Nat) (d : ByteArray) (hd : d.size = 32) (w : World) :
    Calls Tryd.prog 62 #[.agg #[.int .u64 (k : Int), .int .u64 (l : Int)], aggD d] w fun e w' => e = .returned (.int .u64 ((sipN k l d % 281474976710656 : Nat) : Int)) ∧ Below w.heap.size w w' := by
  have hm := and_mask (sipN k l d) (sipN_ok k l d)
  have HSP : Hid (∀ W, Calls Tryd.prog 24 #[.int .u64 (k : Int), .int .u64 (l : Int), .string d] W fun e w' => e = .returned (.int .u64 (sipN k l d : Int)) ∧ Below W.heap.size W w') := fun W => by rw [sipN_int]; exact sip_any k l d W (by omega)
  have HTX : Hid (∀ W, Calls Tryd.prog 23 #[aggD d] W fun e w' => e = .returned (.string d) ∧ Below W.heap.size W w') := fun W => text_d d hd W
  have hbl : (bc d).length = 32 := by rw [bc_length, hd]
  have HLD : Hid (aggD d = .agg (bc d).toArray) := rfl
  generalize ((sipN k l d % 281474976710656 : Nat) : Int) = V at hm
  generalize (sipN k l d : Int) = U at hm HSP
  generalize (k : Int) = K at HSP
  generalize (l : Int) = L at HSP
  go_enter Tryd.func62, Tryd.ntmps62
  unfold aggD
  go_upto_region 1 with fail
  obtain ⟨W1, hW1⟩ : ∃ W, W = (w.alloc (.cells #[.int .u64 K, .int .u64 L] 123)).alloc (.cells (bc d).toArray 59) := ⟨_, rfl⟩
  have HB1 : Hid (Below w.heap.size w W1) := by show Below _ _ _; rw [hW1]; exact ((Below.refl _ _).alloc (Nat.le_refl _) _).alloc (by simp) _
  have c0 : W1.cell? ⟨w.heap.size, 0, none⟩ = some (.int .u64 K) := by rw [hW1]; simp [go_sem]
  have c1 : W1.cell? ⟨w.heap.size, 1, none⟩ = some (.int .u64 L) := by rw [hW1]; simp [go_sem]
  have cd : W1.rangeAt (w.heap.size + 1) 0 (bc d) := by rw [hW1]; have := range_new (w.alloc (.cells #[.int .u64 K, .int .u64 L] 123)) (bc d) 59 _ rfl; simpa using this
  have hz1 : W1.heap.size = w.heap.size + 2 := by rw [hW1]; simp
  rw [← hW1]
  clear hW1
  have HST : Hid (∀ W, Below W1.heap.size W1 W → W.cell? ⟨w.heap.size, 0, none⟩ = some (.int .u64 K) ∧ W.cell? ⟨w.heap.size, 1, none⟩ = some (.int .u64 L) ∧ W.rangeAt (w.heap.size + 1) 0 (bc d)) := fun W hW =>
    ⟨by rw [hW.cell (p := ⟨w.heap.size, 0, none⟩) (by show w.heap.size < _; omega)]; exact c0, by rw [hW.cell (p := ⟨w.heap.size, 1, none⟩) (by show w.heap.size < _; omega)]; exact c1, range_later cd hW (by omega)⟩
  have HB0 : Below W1.heap.size W1 W1.drew := ⟨rfl, rfl, rfl, Nat.le_refl _, fun _ _ => rfl⟩
  clear c0 c1 cd
  refine q_frame (fun A HFR => ?_)
  have hsz : A.tmps.size = 13 := by rw [HFR.out]; rfl
  have h2 : A.eval (.tmp 2) = .pointer (some ⟨w.heap.size, 0, none⟩) := by rw [HFR.out]; rfl
  have h3 : A.eval (.tmp 3) = .pointer (some ⟨w.heap.size + 1, 0, none⟩) := by rw [HFR.out]; rfl
  refine wp_region_held_drew (S := fun W => W.cell? ⟨w.heap.size, 0, none⟩ = some (.int .u64 K) ∧ W.cell? ⟨w.heap.size, 1, none⟩ = some (.int .u64 L) ∧ W.rangeAt (w.heap.size + 1) 0 (bc d)) (by kernel_rfl) (HST.out _ HB0) (fun hS => ?_)
  refine wpAnyH_take (i := 0) (v := (.pointer (some ⟨w.heap.size, 0, none⟩))) rfl (by kernel_rfl) (by kernel_rfl) (by kernel_rfl) (fun _ _ _ h => h) (Or.inl ⟨by rfl, fun W _ => q_run1 2 (.pointer (some ⟨w.heap.size, 0, none⟩)) (by simp only [q_same, q_ne, q_sz, hsz, h2, h3, ne_eq, Nat.reduceEqDiff, not_false_eq_true, Nat.reduceLT]) (fun ρ hc hf e1 => by simp [go_sem, hc, hf, e1])⟩) hS ?_
  change wpAnyH _ _ _ _ _ _ _ (Act.put _ (some 5) _) _
  refine wpAnyH_take (i := 1) (v := (.int .u64 K)) rfl (by kernel_rfl) (by kernel_rfl) (by kernel_rfl) (fun _ _ _ h => h) (Or.inl ⟨by rfl, fun W hW => q_run1 5 (.pointer (some ⟨w.heap.size, 0, none⟩)) (by simp only [q_same, q_ne, q_sz, hsz, h2, h3, ne_eq, Nat.reduceEqDiff, not_false_eq_true, Nat.reduceLT]) (fun ρ hc hf e1 => by simp [go_sem, hc, hf, e1, hW.1])⟩) hS ?_
  change wpAnyH _ _ _ _ _ _ _ (Act.put _ (some 6) _) _
  refine wpAnyH_take (i := 2) (v := (.pointer (some ⟨w.heap.size, 1, none⟩))) rfl (by kernel_rfl) (by kernel_rfl) (by kernel_rfl) (fun _ _ _ h => h) (Or.inl ⟨by rfl, fun W _ => q_run1 2 (.pointer (some ⟨w.heap.size, 0, none⟩)) (by simp only [q_same, q_ne, q_sz, hsz, h2, h3, ne_eq, Nat.reduceEqDiff, not_false_eq_true, Nat.reduceLT]) (fun ρ hc hf e1 => by simp [go_sem, hc, hf, e1])⟩) hS ?_
  change wpAnyH _ _ _ _ _ _ _ (Act.put _ (some 7) _) _
  refine wpAnyH_take (i := 3) (v := (.int .u64 L)) rfl (by kernel_rfl) (by kernel_rfl) (by kernel_rfl) (fun _ _ _ h => h) (Or.inl ⟨by rfl, fun W hW => q_run1 7 (.pointer (some ⟨w.heap.size, 1, none⟩)) (by simp only [q_same, q_ne, q_sz, hsz, h2, h3, ne_eq, Nat.reduceEqDiff, not_false_eq_true, Nat.reduceLT]) (fun ρ hc hf e1 => by simp [go_sem, hc, hf, e1, hW.2.1])⟩) hS ?_
  change wpAnyH _ _ _ _ _ _ _ (Act.put _ (some 8) _) _
  refine wpAnyH_take (i := 4) (v := aggD d) rfl (by kernel_rfl) (by kernel_rfl) (by kernel_rfl) (fun _ _ _ h => h) (yieldsIf_load_mid (by rfl) 59 _ rfl (w.heap.size + 1) 0 (by simp only [q_same, q_ne, q_sz, hsz, h2, h3, ne_eq, Nat.reduceEqDiff, not_false_eq_true, Nat.reduceLT]) (bc d) _ (fun W hW => hW.2.2) Tryd.underlying59 rfl (by rw [hbl]; kernel_rfl)) hS ?_
  change wpAnyH _ _ _ _ _ _ _ (Act.put _ (some 9) _) _
  refine qH_call 5 23 #[aggD d] _ (by kernel_rfl) rfl rfl (q_run1 9 (aggD d) (by simp only [q_same, q_ne, q_sz, hsz, h2, h3, ne_eq, Nat.reduceEqDiff, not_false_eq_true, Nat.reduceLT]) (fun ρ hc hf e1 => by simp [go_sem, hc, hf, e1])) (calls_val (HTX.out _)) ?_
  rintro _ w2 ⟨rfl, hb2⟩
  have HB2 : Below W1.heap.size W1 w2 := HB0.trans hb2
  refine ⟨HST.out _ HB2, ?_⟩
  change wpAnyH _ _ _ _ _ _ _ (Act.put _ (some 10) _) _
  refine qH_call 6 24 #[.int .u64 K, .int .u64 L, .string d] _ (by kernel_rfl) rfl rfl (q_run3 6 8 10 (.int .u64 K) (.int .u64 L) (.string d) (by simp only [q_same, q_ne, q_sz, hsz, h2, h3, ne_eq, Nat.reduceEqDiff, not_false_eq_true, Nat.reduceLT]) (by simp only [q_same, q_ne, q_sz, hsz, h2, h3, ne_eq, Nat.reduceEqDiff, not_false_eq_true, Nat.reduceLT]) (by simp only [q_same, q_ne, q_sz, hsz, h2, h3, ne_eq, Nat.reduceEqDiff, not_false_eq_true, Nat.reduceLT]) (fun ρ hc hf e1 e2 e3 => by simp [go_sem, hc, hf, e1, e2, e3])) (calls_val (HSP.out _)) ?_
  rintro _ w3 ⟨rfl, hb3⟩
  have HB3 : Below W1.heap.size W1 w3 := HB2.trans (hb3.mono HB2.size)
  refine ⟨HST.out _ HB3, ?_⟩
  change wpAnyH _ _ _ _ _ _ _ (Act.put _ (some 11) _) _
  refine qH_one 7 (.int .u64 V) w3 (by kernel_rfl) rfl rfl (q_run1 11 (.int .u64 U) (by simp only [q_same, q_ne, q_sz, hsz, h2, h3, ne_eq, Nat.reduceEqDiff, not_false_eq_true, Nat.reduceLT]) (fun ρ hc hf e1 => by simp [go_sem, hc, hf, e1, hm])) (HST.out _ HB3) ?_
  change wpAnyH _ _ _ _ _ _ _ (Act.put _ (some 12) _) _
  refine qH_one 8 (.int .u64 V) w3 (by kernel_rfl) rfl rfl (q_run1 12 (.int .u64 V) (by simp only [q_same, q_ne, q_sz, hsz, h2, h3, ne_eq, Nat.reduceEqDiff, not_false_eq_true, Nat.reduceLT]) (fun ρ hc hf e1 => by simp [go_sem, hc, hf, e1])) (HST.out _ HB3) ?_
  change wpAnyH _ _ _ _ _ _ _ (Act.put _ (some 4) _) _
  refine wpAnyH_done (by kernel_rfl) ?_ _
  have HBF : Hid (Below w.heap.size w w3) := HB1.out.trans (HB3.mono (by omega))
  have hfr := HFR.out
  clear HFR hsz h2 h3 hS HB0 HB2 HB3 hb2 hb3 HST
  subst hfr
  simp only [Act.put, List.setIfInBounds_toArray, List.set_cons_zero, List.set_cons_succ]
  go_wp2
  go_ret
  exact ⟨rfl, HBF.out⟩
end Go.Proofs.YtkmalggeieiepabDoor
namespace Go.Proofs.YtkmalggeieiepabDoor
open Go.RowKit

theorem alE_of (n : Nat) (l : List Int) (c : Int) (hc : c ≠ 0) (h : alR n (-1) l = c) : alE n l = c := by unfold alE; rw [h, if_pos hc]
set_option maxRecDepth 10000 in
set_option maxHeartbeats 1000000 in
theorem index_ints (l : List Int) (x : Int) (v : Value) (w : World) (hv : VVal w v (intV l)) (hl : l.length ≤ 1048576) :
    Calls Tryd.prog 91 #[v, .int .i64 x] w fun e w' => (∃ y : Int, e = .returned (.int .i64 y) ∧ (0 ≤ y ↔ x ∈ l)) ∧ w' = w := by
  obtain ⟨a, cap, rfl, _, hr⟩ := hv
  have hll : (intV l).length = l.length := by simp [intV]
  rw [hll] at hr ⊢
  have HR : Hid (0 < l.length → ∃ b o, a = some ⟨b, o, none⟩ ∧ VRow w b o (intV l)) := hr
  clear hr hll
  go_enter Tryd.func91, Tryd.ntmps91
  go_upto_region 2 with fail
  go_loopg [8] l.length (fun g i wx => ∃ j : Nat, j + g = l.length ∧ i = .int .i64 (j : Int) ∧ (∀ (k : Nat) (h : k < l.length), k < j → l[k] ≠ x) ∧ wx = w)
  case atStart => exact ⟨0, by omega, rfl, fun _ _ h => by omega, rfl⟩
  case round =>
    obtain ⟨j, hj, rfl, hno, rfl⟩ := hrel
    have HNO : Hid (∀ (k : Nat) (h : k < l.length), k < j → l[k] ≠ x) := hno
    clear hno
    by_cases hlt : j < l.length
    · obtain ⟨b, o, rfl, hrow⟩ := HR.out (by omega)
      have cj : wr.cell? ⟨b, o + j, none⟩ = some (.int .i64 l[j]) := by
        have := hrow j (by simp [intV]; omega)
        rw [this]; simp [intV]
      have hji : (j : Int) < (l.length : Int) := by omega
      have HMEM := (show Hid (l[j] ∈ l) from List.getElem_mem hlt)
      have HNX := (show Hid (l[j] ≠ x → ∀ (k : Nat) (h : k < l.length), k < j + 1 → l[k] ≠ x) from fun h k hk hk2 => by
        rcases Nat.lt_or_ge k j with h3 | h3
        · exact HNO.out k hk h3
        · obtain rfl : k = j := by omega
          exact h)
      generalize l[j] = y at cj HMEM HNX
      by_cases hxy : x = y
      · subst hxy
        go_wp2
        go_ret
        exact ⟨⟨(j : Int), rfl, ⟨fun _ => HMEM.out, fun _ => by omega⟩⟩, rfl⟩
      · go_wp2
        go_roundg (gk - 1)
        case measure => omega
        case rel => exact ⟨j + 1, by omega, by go_num, HNX.out (fun h => hxy h.symm), rfl⟩
    · obtain rfl : j = l.length := by omega
      have HNI : Hid (¬ x ∈ l) := fun hm => by
        obtain ⟨k, hk, e⟩ := List.getElem_of_mem hm
        exact HNO.out k hk hk e
      go_wp2
      go_ret
      exact ⟨⟨-1, rfl, ⟨fun h => by omega, fun h => absurd h HNI.out⟩⟩, rfl⟩
theorem contains_ints (l : List Int) (x : Int) (v : Value) (w : World) (hv : VVal w v (intV l)) (hl : l.length ≤ 1048576) :
    Calls Tryd.prog 61 #[v, .int .i64 x] w fun e w' => e = .returned (.bool (decide (x ∈ l))) ∧ w' = w := by
  have h1 := index_ints l x v w hv hl
  clear hv
  go_enter Tryd.func61, Tryd.ntmps61
  go_wp2_with (go_at_call 91; go_must (refine h1.mono ?_); rintro e w1 ⟨⟨y, rfl, hy⟩, rfl⟩)
  go_ret
  exact ⟨rfl, rfl⟩

set_option maxRecDepth 10000 in
set_option maxHeartbeats 2000000 in
theorem checkAlong_any (l : List Int) (n : Nat) (v : Value) (w : World) (hv : VVal w v (intV l)) (hl : l.length ≤ 1048576) :
    Calls Tryd.prog 34 #[v, .int .i64 (n : Int)] w fun e w' => e = .returned (.int .i64 (alE n l)) ∧ w' = w := by
  obtain ⟨a, cap, rfl, _, hr⟩ := hv
  have hll : (intV l).length = l.length := by simp [intV]
  rw [hll] at hr ⊢
  have HR : Hid (0 < l.length → ∃ b o, a = some ⟨b, o, none⟩ ∧ VRow w b o (intV l)) := hr
  obtain ⟨E, HE⟩ : ∃ E, Hid (E = alE n l) := ⟨_, rfl⟩
  rw [← HE.out]
  clear hr hll
  go_enter Tryd.func34, Tryd.ntmps34
  go_upto_region 2 with fail
  go_loopg [9] l.length (fun g i wx => ∃ j : Nat, j + g = l.length ∧ i = .int .i64 (j : Int) ∧ alR n (-1) l = alR n (ahead l j) (l.drop j) ∧ wx = w)
  case atStart => exact ⟨0, by omega, rfl, rfl, rfl⟩
  case round =>
    obtain ⟨j, hj, rfl, hno, rfl⟩ := hrel
    have HNO : Hid (alR n (-1) l = alR n (ahead l j) (l.drop j)) := hno
    clear hno
    by_cases hlt : j < l.length
    · obtain ⟨b, o, rfl, hrow⟩ := HR.out (by omega)
      have cj : wr.cell? ⟨b, o + j, none⟩ = some (.int .i64 l[j]) := by
        have := hrow j (by simp [intV]; omega)
        rw [this]; simp [intV]
      have hji : (j : Int) < (l.length : Int) := by omega
      have HST := (show Hid (alR n (ahead l j) (l.drop j) = if l[j] < 0 ∨ (n : Int) ≤ l[j] then 4 else if l[j] ≤ ahead l j then 11 else alR n (ahead l (j + 1)) (l.drop (j + 1))) from alR_step n l j hlt)
      have HAH : Hid (0 < j → ∃ y, ahead l j = y ∧ wr.cell? ⟨b, o + (j - 1), none⟩ = some (.int .i64 y)) := fun h0 => by
        refine ⟨l[j - 1]'(by omega), by simp [ahead, show j ≠ 0 by omega, List.getD, show j - 1 < l.length by omega], ?_⟩
        have := hrow (j - 1) (by simp [intV]; omega)
        rw [this]; simp [intV]
      have HA0 : Hid (j = 0 → ahead l j = -1) := fun h0 => by simp [ahead, h0]
      generalize l[j] = x at cj HST
      clear hrow
      by_cases h1 : x < 0
      · have hE : E = 4 := by rw [HE.out]; exact alE_of _ _ 4 (by omega) (by rw [HNO.out, HST.out, if_pos (.inl h1)])
        go_wp2
        go_ret
        exact ⟨by first | rfl | (rw [hE]; rfl), rfl⟩
      · by_cases h2 : (n : Int) ≤ x
        · have hE : E = 4 := by rw [HE.out]; exact alE_of _ _ 4 (by omega) (by rw [HNO.out, HST.out, if_pos (.inr h2)])
          go_wp2
          go_ret
          exact ⟨by first | rfl | (rw [hE]; rfl), rfl⟩
        · by_cases h0 : j = 0
          · have HNX : Hid (alR n (-1) l = alR n (ahead l (j + 1)) (l.drop (j + 1))) := by show _ = _; rw [HNO.out, HST.out, if_neg (by omega), if_neg (by rw [HA0.out h0]; omega)]
            have hjp : ¬ ((0 : Int) < (j : Int)) := by omega
            clear h0
            go_wp2
            go_roundg (gk - 1)
            case measure => omega
            case rel => exact ⟨j + 1, by omega, by go_num, HNX.out, rfl⟩
          · obtain ⟨y, hy, cy⟩ := HAH.out (by omega)
            have hjp : (0 : Int) < (j : Int) := by omega
            have hj1 : wrap64 ((j : Int) - 1) = ((j - 1 : Nat) : Int) := by unfold wrap64; omega
            by_cases h3 : x ≤ y
            · have hE : E = 11 := by rw [HE.out]; exact alE_of _ _ 11 (by omega) (by rw [HNO.out, HST.out, if_neg (by omega), if_pos (by rw [hy]; exact h3)])
              go_wp2
              go_ret
              exact ⟨by first | rfl | (rw [hE]; rfl), rfl⟩
            · have HNX : Hid (alR n (-1) l = alR n (ahead l (j + 1)) (l.drop (j + 1))) := by show _ = _; rw [HNO.out, HST.out, if_neg (by omega), if_neg (by rw [hy]; exact h3)]
              go_wp2
              go_roundg (gk - 1)
              case measure => omega
              case rel => exact ⟨j + 1, by omega, by go_num, HNX.out, rfl⟩
    · obtain rfl : j = l.length := by omega
      have h0 : alR n (-1) l = 0 := by rw [HNO.out, List.drop_length]; rfl
      by_cases hz : l.length = 0
      · have hE : E = 11 := by rw [HE.out]; unfold alE; rw [if_neg (by omega), if_pos (.inl hz)]
        have hzb : ((l.length : Int) == 0) = true := by simp; exact List.eq_nil_of_length_eq_zero hz
        go_wp2
        go_ret
        exact ⟨by first | rfl | (rw [hE]; rfl), rfl⟩
      · obtain ⟨b, o, rfl, hrow⟩ := HR.out (by omega)
        have c0 : wr.cell? ⟨b, o, none⟩ = some (.int .i64 (l.headD 0)) := by
          have := hrow 0 (by simp [intV]; omega)
          rw [Nat.add_zero] at this
          rw [this]
          cases l with
          | nil => simp at hz
          | cons x l => simp [intV]
        have hzb : ((l.length : Int) == 0) = false := by simp; intro h; rw [h] at hz; simp at hz
        have hpi : (0 : Int) < (l.length : Int) := by omega
        have HEE : Hid (E = if l.headD 0 ≠ 0 then 11 else 0) := by show _ = _; rw [HE.out]; unfold alE; rw [if_neg (by omega)]; simp [hz]
        generalize l.headD 0 = x at c0 HEE
        clear hrow
        by_cases hx : x = 0
        · have hE : E = 0 := by rw [HEE.out]; simp [hx]
          go_wp2
          go_ret
          exact ⟨by first | rfl | (rw [hE]; rfl), rfl⟩
        · have hE : E = 11 := by rw [HEE.out]; simp [hx]
          go_wp2
          go_ret
          exact ⟨by first | rfl | (rw [hE]; rfl), rfl⟩
end Go.Proofs.YtkmalggeieiepabDoor
namespace Go.Proofs.YtkmalggeieiepabDoor
open Go.RowKit

set_option maxRecDepth 10000 in
set_option maxHeartbeats 1000000 in
theorem sevB_any (g q : Nat) (lo hi : Int) (pb : Value) (w : World) (K : Nat → World → Prop) (Q : World → Prop) (E : Int) (hq : q ≤ 16)
    (h1 : Calls Tryd.prog 76 #[.pointer (some ⟨g, 0, none⟩), .int .u64 lo, .int .u64 hi] w fun x w' => x = .returned (.int .u64 (q : Int)) ∧ K q w')
    (HP : Hid (∀ j W, K (j + 1) W → (Calls Tryd.prog 89 #[.pointer (some ⟨g, 0, none⟩), pb] W fun x w' => x = .returned (.tuple #[]) ∧ K j w') ∨ (E ≠ 0 ∧ Calls Tryd.prog 89 #[.pointer (some ⟨g, 0, none⟩), pb] W fun x w' => x = .panicked [{ v := .iface 32 (.int .i64 E), recovered := false }] ∧ Q w'))) :
    Calls Tryd.prog 50 #[.pointer (some ⟨g, 0, none⟩), .int .u64 lo, .int .u64 hi, .func (.func 89) #[] #[pb]] w fun x w' => (x = .returned (.tuple #[]) ∧ K 0 w') ∨ (E ≠ 0 ∧ x = Errn E ∧ Q w') := by
  go_enter Tryd.func50, Tryd.ntmps50
  go_upto_region 1 with (go_at_call 76; go_must (refine h1.mono ?_); rintro x w1 ⟨rfl, hk1⟩; have HK1 := (show Hid (K q w1) from hk1); clear hk1)
  go_loopg [14] q (fun g' iv wx => ∃ k : Nat, k + g' = q ∧ iv = .int .u64 (k : Int) ∧ K g' wx)
  case atStart => exact ⟨0, by omega, rfl, HK1.out⟩
  case round =>
    clear HK1 h1
    obtain ⟨k, hk, rfl, hK⟩ := hrel
    have HK : Hid (K gk wr) := hK
    clear hK
    by_cases h0 : gk = 0
    · subst h0
      have hlt : ¬ ((k : Int) < (q : Int)) := by omega
      go_wp2
      go_end0
      exact .inl ⟨rfl, HK.out⟩
    · obtain ⟨j, rfl⟩ : ∃ j, gk = j + 1 := ⟨gk - 1, by omega⟩
      have hlt : (k : Int) < (q : Int) := by omega
      rcases HP.out j wr HK.out with h3 | ⟨hE, h3⟩
      · go_wp2_with (go_at_call 89; go_must (refine h3.mono ?_); rintro x w3 ⟨rfl, hk3⟩; have HK3 := (show Hid (K j w3) from hk3); clear hk3)
        go_roundg j
        case measure => omega
        case rel => exact ⟨k + 1, by omega, by go_num, HK3.out⟩
      · go_wp2_with (go_at_call 89; go_must (refine h3.mono ?_); rintro x w3 ⟨rfl, hq3⟩)
        exact ⟨rfl, .inr ⟨hE, rfl, hq3⟩⟩

set_option maxRecDepth 10000 in
set_option maxHeartbeats 1000000 in
theorem sevR_any (g q : Nat) (lo hi : Int) (pa pb : Value) (w : World) (K : Nat → World → Prop) (Q : World → Prop) (E : Int) (hq : q ≤ 16)
    (h1 : Calls Tryd.prog 76 #[.pointer (some ⟨g, 0, none⟩), .int .u64 lo, .int .u64 hi] w fun x w' => x = .returned (.int .u64 (q : Int)) ∧ K q w')
    (HP : Hid (∀ j W, K (j + 1) W → (Calls Tryd.prog 69 #[.pointer (some ⟨g, 0, none⟩), pa, pb] W fun x w' => x = .returned (.tuple #[]) ∧ K j w') ∨ (E ≠ 0 ∧ Calls Tryd.prog 69 #[.pointer (some ⟨g, 0, none⟩), pa, pb] W fun x w' => x = .panicked [{ v := .iface 32 (.int .i64 E), recovered := false }] ∧ Q w'))) :
    Calls Tryd.prog 50 #[.pointer (some ⟨g, 0, none⟩), .int .u64 lo, .int .u64 hi, .func (.func 69) #[] #[pa, pb]] w fun x w' => (x = .returned (.tuple #[]) ∧ K 0 w') ∨ (E ≠ 0 ∧ x = Errn E ∧ Q w') := by
  go_enter Tryd.func50, Tryd.ntmps50
  go_upto_region 1 with (go_at_call 76; go_must (refine h1.mono ?_); rintro x w1 ⟨rfl, hk1⟩; have HK1 := (show Hid (K q w1) from hk1); clear hk1)
  go_loopg [14] q (fun g' iv wx => ∃ k : Nat, k + g' = q ∧ iv = .int .u64 (k : Int) ∧ K g' wx)
  case atStart => exact ⟨0, by omega, rfl, HK1.out⟩
  case round =>
    clear HK1 h1
    obtain ⟨k, hk, rfl, hK⟩ := hrel
    have HK : Hid (K gk wr) := hK
    clear hK
    by_cases h0 : gk = 0
    · subst h0
      have hlt : ¬ ((k : Int) < (q : Int)) := by omega
      go_wp2
      go_end0
      exact .inl ⟨rfl, HK.out⟩
    · obtain ⟨j, rfl⟩ : ∃ j, gk = j + 1 := ⟨gk - 1, by omega⟩
      have hlt : (k : Int) < (q : Int) := by omega
      rcases HP.out j wr HK.out with h3 | ⟨hE, h3⟩
      · go_wp2_with (go_at_call 69; go_must (refine h3.mono ?_); rintro x w3 ⟨rfl, hk3⟩; have HK3 := (show Hid (K j w3) from hk3); clear hk3)
        go_roundg j
        case measure => omega
        case rel => exact ⟨k + 1, by omega, by go_num, HK3.out⟩
      · go_wp2_with (go_at_call 69; go_must (refine h3.mono ?_); rintro x w3 ⟨rfl, hq3⟩)
        exact ⟨rfl, .inr ⟨hE, rfl, hq3⟩⟩

end Go.Proofs.YtkmalggeieiepabDoor
set_option linter.unusedSimpArgs false
namespace Go.Proofs.YtkmalggeieiepabDoor
open Go.RowKit

theorem Cu.laterB {w w' : World} {g B : Nat} {l m : List UInt8} (h : Cu w g l m) (hb : Below B w w') (hg : g < B) : Cu w' g l m := by
  obtain ⟨a, h1, h2, h3⟩ := h.e
  exact ⟨by rw [hb.cell (p := ⟨g, 0, none⟩) hg]; exact h.s, ⟨a, h1, h2, by rw [hb.cell (p := ⟨g, 1, none⟩) hg]; exact h3⟩, by rw [hb.frozen (p := ⟨g, 1, none⟩) hg]; exact h.ef⟩
theorem Cu.mov {w w' : World} {g b : Nat} {l m : List UInt8} (h : Cu w g l m) (hm : Mov b w w') (hg : g ≠ b) : Cu w' g l m := by
  have hl := h.lt
  have hb := hm.block g hl hg
  obtain ⟨a, h1, h2, h3⟩ := h.e
  exact ⟨by rw [World.cell?_of_block hb]; exact h.s, ⟨a, h1, h2, by rw [World.cell?_of_block hb]; exact h3⟩, by rw [World.frozen?_of_block hb]; exact h.ef⟩

/-- as it was but for one block, and those from B on. -/
structure Mv (g B : Nat) (w w' : World) : Prop where
  os : w'.os = w.os
  tape : w'.tape = w.tape
  output : w'.output = w.output
  size : w.heap.size ≤ w'.heap.size
  block : ∀ k, k < B → k ≠ g → w'.heap[k]? = w.heap[k]?
theorem Mv.refl (g B : Nat) (w : World) : Mv g B w w := ⟨rfl, rfl, rfl, Nat.le_refl _, fun _ _ _ => rfl⟩
theorem Mv.mov {g B : Nat} {a b c : World} (h : Mv g B a b) (k : Mov g b c) (hB : B ≤ b.heap.size) : Mv g B a c :=
  ⟨k.os.trans h.os, k.tape.trans h.tape, k.output.trans h.output, Nat.le_trans h.size k.size, fun i hi hg => (k.block i (by omega) hg).trans (h.block i hi hg)⟩
theorem Mv.later {g B B' : Nat} {a b c : World} (h : Mv g B a b) (k : Below B' b c) (hB : B ≤ B') : Mv g B a c :=
  ⟨k.os.trans h.os, k.tape.trans h.tape, k.output.trans h.output, Nat.le_trans h.size k.size, fun i hi hg => (k.block i (by omega)).trans (h.block i hi hg)⟩
theorem Mv.set {g B b : Nat} {a w : World} (h : Mv g B a w) (i : Nat) (u : Value) (hb : B ≤ b) : Mv g B a (w.setCell ⟨b, i, none⟩ u) :=
  ⟨h.os, h.tape, h.output, by simpa using h.size, fun k hk hg => (Below.heap_setCell w ⟨b, i, none⟩ u k (by show k ≠ b; omega)).trans (h.block k hk hg)⟩
theorem Mv.drew {g B : Nat} {a w : World} (h : Mv g B a w) : Mv g B a w.drew := ⟨h.os, h.tape, h.output, h.size, h.block⟩
theorem Mv.below {g B : Nat} {a w : World} (h : Mv g B a w) {k : Nat} (hk : k ≤ g) (hB : g ≤ B) : Below k a w := ⟨h.os, h.tape, h.output, h.size, fun i hi => h.block i (by omega) (by omega)⟩
/-- transactions that are being read: the variable lies in block b, the reader in block g. -/
structure Bk (w0 W : World) (g b : Nat) (l m : List UInt8) (v : Value) (out : List (List UInt8)) : Prop where
  cu : Cu W g l m
  c1 : W.cell? ⟨b, 0, none⟩ = some v
  f1 : W.frozen? ⟨b, 0, none⟩ = false
  own : W.ownsRow (b + 1) 9 1 v out.length (strB out)
  gb : g < b
  bel : Mv g b w0 W
theorem Bk.mov {w0 W w' : World} {g b : Nat} {l m m' : List UInt8} {v : Value} {out : List (List UInt8)} (H : Bk w0 W g b l m v out) (hm : Mov g W w') (hc : Cu w' g l m') : Bk w0 w' g b l m' v out := by
  have hl : b < W.heap.size := World.block_lt_of_cell? W _ H.c1
  have hgb := H.gb
  have hb := hm.block b hl (by omega)
  exact ⟨hc, by rw [World.cell?_of_block hb]; exact H.c1, by rw [World.frozen?_of_block hb]; exact H.f1, own_mov H.own hm (by omega), H.gb, H.bel.mov hm (by omega)⟩

set_option maxRecDepth 10000 in
set_option maxHeartbeats 2000000 in
theorem blk1_any (w0 w : World) (g b : Nat) (l m : List UInt8) (v : Value) (out : List (List UInt8)) (H : Bk w0 w g b l m v out) (hl : l.length ≤ maxLen) (hn : out.length ≤ 16) :
    Calls Tryd.prog 89 #[.pointer (some ⟨g, 0, none⟩), .pointer (some ⟨b, 0, none⟩)] w fun x w' =>
      if (rTx (m, 0)).2 = 0 then x = .returned (.tuple #[]) ∧ ∃ v', Bk w0 w' g b l (rTx (m, 0)).1 v' (out ++ [txB (m, 0)]) else x = .panicked [{ v := .iface 32 (.int .i64 (rTx (m, 0)).2), recovered := false }] ∧ Mv g b w0 w' := by
  obtain ⟨i0, hi, hz0, hz1, hz2⟩ := info_parts infoStr
  have HD : Bk w0 w.drew g b l m v out := ⟨H.cu.drew, H.c1, H.f1, H.own, H.gb, H.bel.drew⟩
  have ht : Calls Tryd.prog 26 #[.pointer (some ⟨g, 0, none⟩)] w.drew (Got g l w.drew (.string (ofL (txB (m, 0)))) (rTx (m, 0))) := cuTx_any g l m w.drew HD.cu hl
  have hc1 := HD.c1
  have hgb := H.gb
  clear H
  generalize txB (m, 0) = tb at ht
  generalize rTx (m, 0) = r at ht
  obtain ⟨m1, c1⟩ := r
  go_enter Tryd.func89, Tryd.ntmps89
  refine q_frame (fun A HFR => ?_)
  have hsz : A.tmps.size = 8 := by rw [HFR.out]; rfl
  have h0 : A.eval (.tmp 0) = .pointer (some ⟨g, 0, none⟩) := by rw [HFR.out]; rfl
  have h1 : A.eval (.tmp 1) = .pointer (some ⟨b, 0, none⟩) := by rw [HFR.out]; rfl
  have hdf : A.defers = [] := by rw [HFR.out]
  refine wp_region_T (k := 5) (S := fun w' => w'.cell? ⟨b, 0, none⟩ = some v) (by kernel_rfl) hc1 (fun hS => ?_)
  refine wpAnyT_take (i := 0) (v := v) rfl (by kernel_rfl) (by kernel_rfl) (by kernel_rfl) (by kernel_rfl) (fun _ _ _ h => h) (Or.inl ⟨by rfl, fun W hW => q_run1 1 (.pointer (some ⟨b, 0, none⟩)) (by simp only [q_same, q_ne, q_sz, hsz, h0, h1, ne_eq, Nat.reduceEqDiff, not_false_eq_true, Nat.reduceLT]) (fun ρ hc _ e1 => by simp [go_sem, hc, e1, hW])⟩) hS ?_
  change wpAnyT _ _ _ _ _ _ _ _ (Act.put _ (some 3) _) _
  refine wpAnyT_take (i := 1) (v := (.pointer (some ⟨g, 0, none⟩))) rfl (by kernel_rfl) (by kernel_rfl) (by kernel_rfl) (by kernel_rfl) (fun _ _ _ h => h) (Or.inl ⟨by rfl, fun W _ => q_run1 0 (.pointer (some ⟨g, 0, none⟩)) (by simp only [q_same, q_ne, q_sz, hsz, h0, h1, ne_eq, Nat.reduceEqDiff, not_false_eq_true, Nat.reduceLT]) (fun ρ hc _ e1 => by simp [go_sem, hc, e1])⟩) hS ?_
  change wpAnyT _ _ _ _ _ _ _ _ (Act.put _ (some 4) _) _
  refine qT_call 2 26 #[.pointer (some ⟨g, 0, none⟩)] _ (by kernel_rfl) rfl rfl (q_run1 4 (.pointer (some ⟨g, 0, none⟩)) (by simp only [q_same, q_ne, q_sz, hsz, h0, h1, ne_eq, Nat.reduceEqDiff, not_false_eq_true, Nat.reduceLT]) (fun ρ _ hf e1 => by simp [go_sem, hf, e1])) ht ?_ ?_ ?_
  · intro u w1 hx
    obtain ⟨hm1, hx⟩ := hx
    by_cases hr : c1 = 0
    · subst hr
      rw [if_pos rfl] at hx
      obtain ⟨hv, hcu⟩ := hx
      injection hv with hv
      subst hv
      have H1 := HD.mov hm1 hcu
      refine ⟨fun _ => H1.c1, ?_⟩
      change wpAnyT _ _ _ _ _ _ _ _ (Act.put _ (some 5) _) _
      have hb1 : b < w1.heap.size := World.block_lt_of_cell? w1 _ H1.c1
      have HB2 : Below w1.heap.size w1 (w1.alloc (.cells #[.string (ofL tb)] 9)) := (Below.refl _ _).alloc (Nat.le_refl _) _
      have hS2 : (w1.alloc (.cells #[.string (ofL tb)] 9)).cell? ⟨b, 0, none⟩ = some v := by rw [HB2.cell (p := ⟨b, 0, none⟩) hb1]; exact H1.c1
      refine qT_one 3 (.slice (some ⟨w1.heap.size, 0, none⟩) 1 1) _ (by kernel_rfl) rfl rfl (q_run1 5 (.string (ofL tb)) (by simp only [q_same, q_ne, q_sz, hsz, h0, h1, ne_eq, Nat.reduceEqDiff, not_false_eq_true, Nat.reduceLT]) (fun ρ _ _ e1 => by simp [go_sem, e1])) (fun _ => hS2) ?_
      change wpAnyT _ _ _ _ _ _ _ _ (Act.put _ (some 6) _) _
      refine qT_step 4 (by kernel_rfl) rfl (fun K hK => ?_)
      refine step_append_lies _ rfl (.tmp 3) (.tmp 6) 30 rfl (b + 1) 9 i0 (.string ByteArray.empty) 1 16 Tryd.underlying30 hi hz0 hz1 hz2 rfl (by decide) v out.length (strB out) (by simp only [q_same, q_ne, q_sz, hsz, h0, h1, ne_eq, Nat.reduceEqDiff, not_false_eq_true, Nat.reduceLT]) (H1.own.alloc _) ⟨w1.heap.size, 0, none⟩ 1 1 [.string (ofL tb)] (by simp only [q_same, q_ne, q_sz, hsz, h0, h1, ne_eq, Nat.reduceEqDiff, not_false_eq_true, Nat.reduceLT]) rfl (one_new w1 _ _) (one_str _) (by omega) (by unfold maxLen; omega) (by omega) (by simp; omega) _ rfl ?_
      intro g4 c4 w4 ho hgr hat hlt4
      have HB4 : Below (b + 1) w1 w4 := ((Below.refl (b + 1) w1).alloc (by omega) _).grown hgr (by simp; omega) (ownBlock_ge H1.own)
      have hS4 : w4.cell? ⟨b, 0, none⟩ = some v := by rw [HB4.cell (p := ⟨b, 0, none⟩) (Nat.lt_succ_self _)]; exact H1.c1
      have hF4 : w4.frozen? ⟨b, 0, none⟩ = false := by rw [HB4.frozen (p := ⟨b, 0, none⟩) (Nat.lt_succ_self _)]; exact H1.f1
      refine hK.out _ _ (fun _ => hS4) ?_
      change wpAnyT _ _ _ _ _ _ _ _ (Act.put _ (some 7) _) _
      have hb4 : b < w4.heap.size := World.block_lt_of_cell? w4 _ hS4
      have HM5 : Mov b w4 (w4.setCell ⟨b, 0, none⟩ (.slice (some ⟨g4, 0, none⟩) (out.length + 1) c4)) := (Mov.refl b w4).set 0 _
      refine qT_skip 5 (w4.setCell ⟨b, 0, none⟩ (.slice (some ⟨g4, 0, none⟩) (out.length + 1) c4)) (by kernel_rfl) rfl rfl (q_run2 1 7 (.pointer (some ⟨b, 0, none⟩)) (.slice (some ⟨g4, 0, none⟩) (out.length + 1) c4) (by simp only [q_same, q_ne, q_sz, hsz, h0, h1, ne_eq, Nat.reduceEqDiff, not_false_eq_true, Nat.reduceLT]) (by simp only [q_same, q_ne, q_sz, hsz, h0, h1, ne_eq, Nat.reduceEqDiff, not_false_eq_true, Nat.reduceLT]) (fun ρ hc _ e1 e2 => by simp [go_sem, hc, e1, e2, hS4, hF4])) (fun h => absurd rfl h) ?_
      refine wpAnyT_done (by kernel_rfl) ?_ _
      refine q_done0 rfl (by simp only [q_def]; exact hdf) ?_
      rw [if_pos rfl]
      refine ⟨rfl, .slice (some ⟨g4, 0, none⟩) (out.length + 1) c4, ?_⟩
      have hl1 := H1.cu.lt
      refine ⟨(H1.cu.laterB HB4 (by omega)).mov HM5 (by omega), World.cell?_setCell_same _ _ _ hS4, ?_, ?_, hgb, ?_⟩
      · simp only [World.frozen?_setCell]; exact hF4
      · rw [List.length_append, strB_snoc]; exact own_mov ho HM5 (Nat.lt_succ_self _)
      · exact (H1.bel.later HB4 (by omega)).set 0 _ (Nat.le_refl _)
    · rw [if_neg hr] at hx; cases hx
  · intro ch w1 hx
    obtain ⟨hm1, hx⟩ := hx
    by_cases hr : c1 = 0
    · subst hr; rw [if_pos rfl] at hx; cases hx.1
    · rw [if_neg hr] at hx
      injection hx with hx
      subst hx
      refine q_panic (by simp only [q_def]; exact hdf) ?_
      rw [if_neg hr]
      exact ⟨rfl, HD.bel.mov hm1 (Nat.le_of_lt (World.block_lt_of_cell? _ _ HD.c1))⟩
  · intro w1 hx; exact hx.not_out.elim
end Go.Proofs.YtkmalggeieiepabDoor
namespace Go.Proofs.YtkmalggeieiepabDoor
open Go.RowKit

/-- it leaves by this error. -/
abbrev Pan (c : Int) : Ending := .panicked [{ v := .iface 32 (.int .i64 c), recovered := false }]
set_option maxRecDepth 10000 in
set_option maxHeartbeats 1000000 in
theorem sev_no (g : Nat) (lo hi : Int) (fv : Value) (w : World) (Q : World → Prop) (E : Int)
    (h1 : Calls Tryd.prog 76 #[.pointer (some ⟨g, 0, none⟩), .int .u64 lo, .int .u64 hi] w fun x w' => x = .panicked [{ v := .iface 32 (.int .i64 E), recovered := false }] ∧ Q w') :
    Calls Tryd.prog 50 #[.pointer (some ⟨g, 0, none⟩), .int .u64 lo, .int .u64 hi, fv] w fun x w' => x = .panicked [{ v := .iface 32 (.int .i64 E), recovered := false }] ∧ Q w' := by
  go_enter Tryd.func50, Tryd.ntmps50
  go_wp2_with (go_at_call 76; go_must (refine h1.mono ?_); rintro x w1 ⟨rfl, hq1⟩)
  exact ⟨rfl, rfl, hq1⟩

set_option maxRecDepth 10000 in
theorem sevBlk (w0 w : World) (g b : Nat) (l m : List UInt8) (v : Value) (H : Bk w0 w g b l m v []) (hl : l.length ≤ maxLen) :
    Calls Tryd.prog 50 #[.pointer (some ⟨g, 0, none⟩), .int .u64 1, .int .u64 16, .func (.func 89) #[] #[.pointer (some ⟨b, 0, none⟩)]] w fun x w' =>
      if (rTxs (rWithin 1 16 (m, 0)).1 (rWithin 1 16 (m, 0)).2).2.2 = 0 then x = .returned (.tuple #[]) ∧ ∃ v, Bk w0 w' g b l (rTxs (rWithin 1 16 (m, 0)).1 (rWithin 1 16 (m, 0)).2).2.1 v (rTxs (rWithin 1 16 (m, 0)).1 (rWithin 1 16 (m, 0)).2).1
      else x = Pan (rTxs (rWithin 1 16 (m, 0)).1 (rWithin 1 16 (m, 0)).2).2.2 ∧ Mv g b w0 w' := by
  have hz := cuSize_any g 1 16 l m w H.cu hl
  have hq : (rWithin 1 16 (m, 0)).1 ≤ 16 := rWithin_hi 1 16 (m, 0)
  have hgw := H.cu.lt
  generalize rWithin 1 16 (m, 0) = p at hz hq
  obtain ⟨q, m1, c1⟩ := p
  by_cases hr : c1 = 0
  · subst hr
    obtain ⟨R, hR⟩ : ∃ R, R = rTxs q (m1, 0) := ⟨_, rfl⟩
    have h1 := calls_ok hz rfl
    have hs := sevB_any g q 1 16 (.pointer (some ⟨b, 0, none⟩)) w
      (fun j W => ∃ m out v, Bk w0 W g b l m v out ∧ out.length + j ≤ 16 ∧ (out ++ (rTxs j (m, 0)).1, (rTxs j (m, 0)).2) = R) (fun W => Mv g b w0 W) R.2.2 hq
      (h1.mono fun x w' ⟨hx, hc, hm⟩ => ⟨hx, m1, [], v, H.mov hm hc, by simpa using hq, by rw [hR]; rfl⟩)
      (show Hid _ from fun j W hK => by
        obtain ⟨m2, out, v2, hB, hj, hE⟩ := hK
        have hb := blk1_any w0 W g b l m2 v2 out hB hl (by omega)
        have hE2 : (out ++ (txB (m2, 0) :: (rTxs j (rTx (m2, 0))).1), (rTxs j (rTx (m2, 0))).2) = R := by
          rw [← hE]; show _ = (out ++ (if (0 : Int) = 0 then _ else _ : List (List UInt8) × (List UInt8 × Int)).1, (if (0 : Int) = 0 then _ else _ : List (List UInt8) × (List UInt8 × Int)).2)
          rw [if_pos rfl]
        generalize txB (m2, 0) = tb at hb hE2
        generalize rTx (m2, 0) = r at hb hE2
        obtain ⟨m3, c3⟩ := r
        by_cases h3 : c3 = 0
        · subst h3
          refine .inl (hb.mono fun x w' hx => ?_)
          rw [if_pos rfl] at hx
          obtain ⟨hx, v3, hB3⟩ := hx
          exact ⟨hx, m3, out ++ [tb], v3, hB3, by simp; omega, by rw [← hE2]; simp⟩
        · have hRc : R.2.2 = c3 := by rw [← hE2, rTxs_bad j (m3, c3) h3]
          refine .inr ⟨by rw [hRc]; exact h3, hb.mono fun x w' hx => ?_⟩
          rw [if_neg h3] at hx
          rw [hRc]; exact hx)
    rw [← hR]
    refine hs.mono fun x w' hx => ?_
    rcases hx with ⟨hx, m2, out, v2, hB, _, hE⟩ | ⟨hE, hx, hb⟩
    · have e1 : R = (out, (m2, 0)) := by rw [← hE]; simp [rTxs]
      rw [e1, if_pos rfl]
      exact ⟨hx, v2, hB⟩
    · rw [if_neg hE]
      exact ⟨hx, hb⟩
  · have h1 := calls_no hz hr
    rw [rTxs_bad q (m1, c1) hr]
    refine (sev_no g 1 16 _ w (fun W => Mv g b w0 W) c1 (h1.mono fun x w' ⟨hx, hm⟩ => ⟨hx, H.bel.mov hm (Nat.le_of_lt (World.block_lt_of_cell? _ _ H.c1))⟩)).mono fun x w' hx => ?_
    rw [if_neg hr]
    exact hx

theorem header_any (g : Nat) (l m : List UInt8) (w : World) (h : Cu w g l m) (hl : l.length ≤ maxLen) :
    Calls Tryd.prog 58 #[.pointer (some ⟨g, 0, none⟩)] w (Got g l w (.string (ofL (rTake 80 (m, 0)).1)) (rTake 80 (m, 0)).2) := by
  have ht := cuTake_any g 80 l m w h hl
  clear h hl
  generalize rTake 80 (m, 0) = p at ht
  obtain ⟨t, r⟩ := p
  by_cases hr : r.2 = 0
  · have h1 := calls_ok ht hr
    clear ht
    go_enter Tryd.func58, Tryd.ntmps58
    go_wp2_with (go_at_call 49; go_must (refine h1.mono ?_); rintro x w1 ⟨rfl, hc1, hm1⟩)
    go_ret
    exact Got.ok hr hm1 hc1
  · have h1 := calls_no ht hr
    clear ht
    go_enter Tryd.func58, Tryd.ntmps58
    go_wp2_with (go_at_call 49; go_must (refine h1.mono ?_); rintro x w1 ⟨rfl, hm1⟩)
    exact ⟨rfl, Got.no rfl hr hm1⟩

/-- transactions, their number ahead. -/
def rTrs (m : List UInt8) : List (List UInt8) × (List UInt8 × Int) := rTxs (rWithin 1 16 (m, 0)).1 (rWithin 1 16 (m, 0)).2

set_option maxRecDepth 10000 in
set_option maxHeartbeats 2000000 in
theorem cuTrs_any (g : Nat) (l m : List UInt8) (w : World) (h : Cu w g l m) (hl : l.length ≤ maxLen) :
    Calls Tryd.prog 59 #[.pointer (some ⟨g, 0, none⟩)] w fun x w' =>
      if (rTrs m).2.2 = 0 then ∃ v, x = .returned v ∧ Cu w' g l (rTrs m).2.1 ∧ w'.ownsRow (w.heap.size + 1) 9 1 v (rTrs m).1.length (strB (rTrs m).1) ∧ Mv g w.heap.size w w'
      else x = Pan (rTrs m).2.2 ∧ Mv g w.heap.size w w' := by
  obtain ⟨W1, hW1⟩ : ∃ W, W = w.alloc (.cells #[.slice none 0 0] 30) := ⟨_, rfl⟩
  have hgw := h.lt
  have HB1 : Below w.heap.size w W1 := by rw [hW1]; exact (Below.refl _ _).alloc (Nat.le_refl _) _
  have c10 : W1.cell? ⟨w.heap.size, 0, none⟩ = some (.slice none 0 0) := by rw [hW1]; simp [go_sem]
  have f10 : W1.frozen? ⟨w.heap.size, 0, none⟩ = false := by rw [hW1]; simp [go_sem]
  have HBK : Bk w W1 g w.heap.size l m (.slice none 0 0) [] := ⟨h.later HB1, c10, f10, World.ownsRow_nil _ _ _ _, hgw, (Mv.refl _ _ _).later HB1 (Nat.le_refl _)⟩
  have hsv := sevBlk w W1 g w.heap.size l m (.slice none 0 0) HBK hl
  have hmf : ∀ (fn : Fn) (first cap : Array Value) (w : World), (Instr.makeFunc fn first cap).run Tryd.prog w = .ok (.func fn first cap) w := fun _ _ _ _ => rfl
  clear HBK c10 f10 HB1
  have HE : Hid (rTrs m = rTxs (rWithin 1 16 (m, 0)).1 (rWithin 1 16 (m, 0)).2) := rfl
  generalize rTrs m = M at HE
  generalize rTxs (rWithin 1 16 (m, 0)).1 (rWithin 1 16 (m, 0)).2 = R at hsv HE
  obtain ⟨T, m2, c2⟩ := R
  have hM : M = (T, m2, c2) := HE.out
  subst hM
  clear HE h
  by_cases hr2 : c2 = 0
  · subst hr2
    have h2 := hsv.mono (R' := fun x w' => x = .returned (.tuple #[]) ∧ ∃ v, Bk w w' g w.heap.size l m2 v T) (fun x w' hx => by rw [if_pos rfl] at hx; exact hx)
    clear hsv
    have hmain : Calls Tryd.prog 59 #[.pointer (some ⟨g, 0, none⟩)] w fun x w' => ∃ v, x = .returned v ∧ Cu w' g l m2 ∧ w'.ownsRow (w.heap.size + 1) 9 1 v T.length (strB T) ∧ Mv g w.heap.size w w' := by
      go_enter Tryd.func59, Tryd.ntmps59
      go_upto_region 2 with fail
      rw [← hW1]
      clear hW1
      go_upto_region 3 with (go_at_call 50; go_must (refine h2.mono ?_); rintro x w3 ⟨rfl, v, hB3⟩; have HB3 := (show Hid _ from hB3); clear hB3)
      have d1 := HB3.out.c1
      clear h2
      obtain ⟨va, vn, vc, rfl⟩ := own_slice HB3.out.own
      go_wp2
      go_ret
      exact ⟨.slice va vn vc, rfl, HB3.out.cu, HB3.out.own, HB3.out.bel⟩
    exact hmain.mono fun x w' hx => by rw [if_pos rfl]; exact hx
  · have h2 := hsv.mono (R' := fun x w' => x = .panicked [{ v := .iface 32 (.int .i64 c2), recovered := false }] ∧ Mv g w.heap.size w w') (fun x w' hx => by rw [if_neg hr2] at hx; exact hx)
    clear hsv
    have hmain : Calls Tryd.prog 59 #[.pointer (some ⟨g, 0, none⟩)] w fun x w' => x = Pan c2 ∧ Mv g w.heap.size w w' := by
      go_enter Tryd.func59, Tryd.ntmps59
      go_upto_region 2 with fail
      rw [← hW1]
      clear hW1
      go_wp2_with (go_at_call 50; go_must (refine h2.mono ?_); rintro x w3 ⟨rfl, hv3⟩)
      exact ⟨rfl, rfl, hv3⟩
    exact hmain.mono fun x w' hx => by rw [if_neg hr2]; exact hx

/-- a header, and transactions. -/
def rBlk (m : List UInt8) : List UInt8 × (List (List UInt8) × (List UInt8 × Int)) :=
  ((rTake 80 (m, 0)).1, rTxs (rWithin 1 16 (rTake 80 (m, 0)).2).1 (rWithin 1 16 (rTake 80 (m, 0)).2).2)
theorem rMsg_blk (m : List UInt8) : rMsg 80 m = ((rBlk m).1, ((rBlk m).2.1, (rDone (rBlk m).2.2).2)) := rfl
theorem within_bad (lo hi : Nat) (m : List UInt8) (c : Int) (h : c ≠ 0) : (rWithin lo hi (m, c)).2.2 = c := stick_within lo hi (m, c) h

set_option maxRecDepth 10000 in
set_option maxHeartbeats 2000000 in
theorem cuBlock_any (g : Nat) (l m : List UInt8) (w : World) (h : Cu w g l m) (hl : l.length ≤ maxLen) :
    Calls Tryd.prog 33 #[.pointer (some ⟨g, 0, none⟩)] w fun x w' =>
      if (rBlk m).2.2.2 = 0 then ∃ v, x = .returned (.agg #[.string (ofL (rBlk m).1), v]) ∧ Cu w' g l (rBlk m).2.2.1 ∧ w'.ownsRow w.heap.size 9 1 v (rBlk m).2.1.length (strB (rBlk m).2.1) ∧ Below g w w'
      else x = Pan (rBlk m).2.2.2 ∧ Below g w w' := by
  obtain ⟨W1, hW1⟩ : ∃ W, W = (w.alloc (.cells #[.string ⟨#[]⟩, .slice none 0 0] 76)).alloc (.cells #[.string ⟨#[]⟩, .slice none 0 0] 76) := ⟨_, rfl⟩
  have hgw := h.lt
  have HB1 : Hid (Below w.heap.size w W1) := by show Below _ _ _; rw [hW1]; exact ((Below.refl _ _).alloc (Nat.le_refl _) _).alloc (by simp) _
  have hz1 : W1.heap.size = w.heap.size + 2 := by rw [hW1]; simp
  have c10 : W1.cell? ⟨w.heap.size + 1, 0, none⟩ = some (.string ⟨#[]⟩) := by rw [hW1]; simp [go_sem]
  have c11 : W1.cell? ⟨w.heap.size + 1, 1, none⟩ = some (.slice none 0 0) := by rw [hW1]; simp [go_sem]
  have f10 : W1.frozen? ⟨w.heap.size + 1, 0, none⟩ = false := by rw [hW1]; simp [go_sem]
  have f11 : W1.frozen? ⟨w.heap.size + 1, 1, none⟩ = false := by rw [hW1]; simp [go_sem]
  have c00 : W1.cell? ⟨w.heap.size, 0, none⟩ = some (.string ⟨#[]⟩) := by rw [hW1]; simp [go_sem]
  have c01 : W1.cell? ⟨w.heap.size, 1, none⟩ = some (.slice none 0 0) := by rw [hW1]; simp [go_sem]
  have f00 : W1.frozen? ⟨w.heap.size, 0, none⟩ = false := by rw [hW1]; simp [go_sem]
  have f01 : W1.frozen? ⟨w.heap.size, 1, none⟩ = false := by rw [hW1]; simp [go_sem]
  have hh := header_any g l m W1 (h.later HB1.out) hl
  have HMV : Hid (∀ w2, Mov g W1 w2 → Below g w w2) := fun w2 hm => (HB1.out.mono (Nat.le_of_lt hgw)).trans (hm.below (Nat.le_refl _) (by omega))
  have HE : Hid (rBlk m = ((rTake 80 (m, 0)).1, rTxs (rWithin 1 16 (rTake 80 (m, 0)).2).1 (rWithin 1 16 (rTake 80 (m, 0)).2).2)) := rfl
  generalize rBlk m = M at HE
  clear h
  generalize rTake 80 (m, 0) = p at hh HE
  obtain ⟨t, m1, c1⟩ := p
  by_cases hr : c1 = 0
  · subst hr
    have h1 := calls_ok hh rfl
    clear hh
    -- behind the header's store
    have HS2 : Hid (∀ w2, Mov g W1 w2 → Cu w2 g l m1 → Cu (w2.setCell ⟨w.heap.size + 1, 0, none⟩ (.string (ofL t))) g l m1 ∧ w2.cell? ⟨w.heap.size + 1, 0, none⟩ = some (.string ⟨#[]⟩) ∧ w2.frozen? ⟨w.heap.size + 1, 0, none⟩ = false) := by
      intro w2 hm hc
      have hb := hm.block (w.heap.size + 1) (by omega) (by omega)
      exact ⟨hc.mov ((Mov.refl (w.heap.size + 1) w2).set 0 _) (by omega), by rw [World.cell?_of_block hb]; exact c10, by rw [World.frozen?_of_block hb]; exact f10⟩
    -- behind the transactions' reading
    have HRS : Hid (∀ w2 w3, Mov g W1 w2 → Mv g (w2.setCell ⟨w.heap.size + 1, 0, none⟩ (.string (ofL t))).heap.size (w2.setCell ⟨w.heap.size + 1, 0, none⟩ (.string (ofL t))) w3 → (w3.cell? ⟨w.heap.size, 0, none⟩ = some (.string ⟨#[]⟩) ∧ w3.cell? ⟨w.heap.size, 1, none⟩ = some (.slice none 0 0) ∧ w3.frozen? ⟨w.heap.size, 0, none⟩ = false ∧ w3.frozen? ⟨w.heap.size, 1, none⟩ = false) ∧ (w3.cell? ⟨w.heap.size + 1, 0, none⟩ = some (.string (ofL t)) ∧ w3.cell? ⟨w.heap.size + 1, 1, none⟩ = some (.slice none 0 0) ∧ w3.frozen? ⟨w.heap.size + 1, 0, none⟩ = false ∧ w3.frozen? ⟨w.heap.size + 1, 1, none⟩ = false) ∧ Below g w w3 ∧ w.heap.size + 2 ≤ w2.heap.size) := by
      intro w2 w3 hm hv
      have hsz2 := hm.size
      have hb0 := hm.block w.heap.size (by omega) (by omega)
      have hbn := hm.block (w.heap.size + 1) (by omega) (by omega)
      have hb1 : w3.heap[w.heap.size]? = W1.heap[w.heap.size]? := by
        rw [hv.block w.heap.size (by simp; omega) (by omega), ← hb0]
        exact Below.heap_setCell w2 ⟨w.heap.size + 1, 0, none⟩ _ w.heap.size (by simp)
      have hb2 : w3.heap[w.heap.size + 1]? = (w2.setCell ⟨w.heap.size + 1, 0, none⟩ (.string (ofL t))).heap[w.heap.size + 1]? := hv.block (w.heap.size + 1) (by simp; omega) (by omega)
      have k0 : w2.cell? ⟨w.heap.size + 1, 0, none⟩ = some (.string ⟨#[]⟩) := by rw [World.cell?_of_block hbn]; exact c10
      have hs : Below g w2 (w2.setCell ⟨w.heap.size + 1, 0, none⟩ (.string (ofL t))) := ((Mov.refl (w.heap.size + 1) w2).set 0 _).below (by omega) (by omega)
      refine ⟨⟨by rw [World.cell?_of_block hb1]; exact c00, by rw [World.cell?_of_block hb1]; exact c01, by rw [World.frozen?_of_block hb1]; exact f00, by rw [World.frozen?_of_block hb1]; exact f01⟩, ⟨?_, ?_, ?_, ?_⟩, (HMV.out w2 hm).trans (hs.trans (hv.below (Nat.le_refl _) (by simp; omega))), by omega⟩
      · rw [World.cell?_of_block hb2]; exact World.cell?_setCell_same _ _ _ k0
      · rw [World.cell?_of_block hb2, World.cell?_setCell_other _ _ _ _ (by simp), World.cell?_of_block hbn]; exact c11
      · rw [World.frozen?_of_block hb2]; simp only [World.frozen?_setCell]; rw [World.frozen?_of_block hbn]; exact f10
      · rw [World.frozen?_of_block hb2]; simp only [World.frozen?_setCell]; rw [World.frozen?_of_block hbn]; exact f11
    have hsv := fun (w2 : World) (hc : Cu (w2.setCell ⟨w.heap.size + 1, 0, none⟩ (.string (ofL t))) g l m1) => cuTrs_any g l m1 _ hc hl
    have HE2 : Hid (M = (t, rTrs m1)) := HE.out
    clear HE c10 c11 f10 f11 c00 c01 f00 f01
    generalize rTrs m1 = R at hsv HE2
    obtain ⟨T, m2, c2⟩ := R
    have hM : M = (t, T, m2, c2) := HE2.out
    subst hM
    clear HE2
    by_cases hr2 : c2 = 0
    · subst hr2
      have h2 := fun (w2 : World) (hc : Cu (w2.setCell ⟨w.heap.size + 1, 0, none⟩ (.string (ofL t))) g l m1) => (hsv w2 hc).mono (R' := fun x w' => ∃ v, x = .returned v ∧ Cu w' g l m2 ∧ w'.ownsRow ((w2.setCell ⟨w.heap.size + 1, 0, none⟩ (.string (ofL t))).heap.size + 1) 9 1 v T.length (strB T) ∧ Mv g (w2.setCell ⟨w.heap.size + 1, 0, none⟩ (.string (ofL t))).heap.size (w2.setCell ⟨w.heap.size + 1, 0, none⟩ (.string (ofL t))) w') (fun x w' hx => by rw [if_pos rfl] at hx; exact hx)
      clear hsv
      have hmain : Calls Tryd.prog 33 #[.pointer (some ⟨g, 0, none⟩)] w fun x w' => ∃ v, x = .returned (.agg #[.string (ofL t), v]) ∧ Cu w' g l m2 ∧ w'.ownsRow w.heap.size 9 1 v T.length (strB T) ∧ Below g w w' := by
       go_enter Tryd.func33, Tryd.ntmps33
       go_upto_region 2 with fail
       rw [← hW1]
       clear hW1
       go_upto_region 3 with (go_at_call 58; go_must (refine h1.mono ?_); rintro x w1 ⟨rfl, hc1, hm1⟩; obtain ⟨hB1, k0, kf⟩ := HS2.out _ hm1 hc1; have HB2 := (show Hid _ from hB1); have HM1 := (show Hid (Mov g W1 w1) from hm1); clear hc1 hm1 hB1)
       clear HS2 k0 kf
       go_upto_region 4 with (go_at_call 59; go_must (refine (h2 _ HB2.out).mono ?_); rintro x w3 ⟨v, rfl, hc3, ho3, hv3⟩; obtain ⟨va, vn, vc, rfl⟩ := own_slice ho3; obtain ⟨⟨r0, r1, r2, r3⟩, ⟨s0, s1, s2, s3⟩, hbel, hge⟩ := HRS.out _ w3 HM1.out hv3; have HC3 := (show Hid _ from hc3); have HO3 := (show Hid _ from ho3); have HBL := (show Hid (Below g w w3) from hbel); have HGE := (show Hid _ from hge); clear hc3 ho3 hv3 hbel hge)
       clear HB2 HM1 HRS h1 h2
       go_wp2
       have hgl := HC3.out.lt
       have hM1 : Mov (w.heap.size + 1) w3 (w3.setCell ⟨w.heap.size + 1, 1, none⟩ (.slice va vn vc)) := (Mov.refl _ _).set 1 _
       have hM : Mov w.heap.size (w3.setCell ⟨w.heap.size + 1, 1, none⟩ (.slice va vn vc)) (((w3.setCell ⟨w.heap.size + 1, 1, none⟩ (.slice va vn vc)).setCell ⟨w.heap.size, 0, none⟩ (.string (ofL t))).setCell ⟨w.heap.size, 1, none⟩ (.slice va vn vc)) := ((Mov.refl _ _).set 0 _).set 1 _
       have hge := HGE.out
       refine bodyPost_ret (results_mid Tryd.results33 _ _ w.heap.size [.string (ofL t), .slice va vn vc] _ rfl (range2 ?_ ?_) Tryd.underlying76 rfl (by kernel_rfl)) rfl ⟨.slice va vn vc, rfl, (HC3.out.mov hM1 (by omega)).mov hM (by omega), own_base (own_mov (own_mov HO3.out hM1 (by simp; omega)) hM (by simp; omega)) (by simp; omega), HBL.out.trans ((hM1.below (by omega) (by omega)).trans (hM.below (by omega) (by simp; omega)))⟩
       · rw [World.cell?_setCell_other _ _ _ _ (by simp)]; exact World.cell?_setCell_same _ _ _ (by rw [World.cell?_setCell_other _ _ _ _ (by simp)]; exact r0)
       · exact World.cell?_setCell_same _ _ _ (by rw [World.cell?_setCell_other _ _ _ _ (by simp), World.cell?_setCell_other _ _ _ _ (by simp)]; exact r1)
      exact hmain.mono fun x w' hx => by rw [if_pos rfl]; exact hx
    · have h2 := fun (w2 : World) (hc : Cu (w2.setCell ⟨w.heap.size + 1, 0, none⟩ (.string (ofL t))) g l m1) => (hsv w2 hc).mono (R' := fun x w' => x = .panicked [{ v := .iface 32 (.int .i64 c2), recovered := false }] ∧ Mv g (w2.setCell ⟨w.heap.size + 1, 0, none⟩ (.string (ofL t))).heap.size (w2.setCell ⟨w.heap.size + 1, 0, none⟩ (.string (ofL t))) w') (fun x w' hx => by rw [if_neg hr2] at hx; exact hx)
      clear hsv
      have hmain : Calls Tryd.prog 33 #[.pointer (some ⟨g, 0, none⟩)] w fun x w' => x = Pan c2 ∧ Below g w w' := by
       go_enter Tryd.func33, Tryd.ntmps33
       go_upto_region 2 with fail
       rw [← hW1]
       clear hW1
       go_upto_region 3 with (go_at_call 58; go_must (refine h1.mono ?_); rintro x w1 ⟨rfl, hc1, hm1⟩; obtain ⟨hB1, k0, kf⟩ := HS2.out _ hm1 hc1; have HB2 := (show Hid _ from hB1); have HM1 := (show Hid (Mov g W1 w1) from hm1); clear hc1 hm1 hB1)
       clear HS2 k0 kf
       go_wp2_with (go_at_call 59; go_must (refine (h2 _ HB2.out).mono ?_); rintro x w3 ⟨rfl, hv3⟩)
       exact ⟨rfl, rfl, (HRS.out _ w3 HM1.out hv3).2.2.1⟩
      exact hmain.mono fun x w' hx => by rw [if_neg hr2]; exact hx
  · have h1 := calls_no hh hr
    have hM : M.2.2.2 = c1 := by rw [HE.out]; show (rTxs (rWithin 1 16 (m1, c1)).1 (rWithin 1 16 (m1, c1)).2).2.2 = c1; rw [rTxs_bad _ _ (by rw [within_bad 1 16 m1 c1 hr]; exact hr), within_bad 1 16 m1 c1 hr]
    rw [hM]
    clear hh HE hM c10 c11 f10 f11 c00 c01 f00 f01
    have hmain : Calls Tryd.prog 33 #[.pointer (some ⟨g, 0, none⟩)] w fun x w' => x = Pan c1 ∧ Below g w w' := by
      go_enter Tryd.func33, Tryd.ntmps33
      go_upto_region 2 with fail
      rw [← hW1]
      clear hW1
      go_wp2_with (go_at_call 58; go_must (refine h1.mono ?_); rintro x w1 ⟨rfl, hm1⟩)
      exact ⟨rfl, rfl, HMV.out _ hm1⟩
    exact hmain.mono fun x w' hx => by rw [if_neg hr]; exact hx
end Go.Proofs.YtkmalggeieiepabDoor
