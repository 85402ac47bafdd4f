import Derived.Test.YtkmalggeieiepaaDoorRdA
import Derived.WalkKit
import Derived.WalkSpells
import Derived.WalkLawsBesides
import Derived.Deep.LoopGhost
import Derived.Deep.DeepCutAuto
namespace Go.Proofs.YtkmalggeieiepaaDoor
open Go.RowKit

/-- a number in so many bytes, the lowest first. -/
def le (n : Nat) : Nat → List UInt8
  | 0 => []
  | k + 1 => UInt8.ofNat n :: le (n / 256) k
theorem le_length (n k : Nat) : (le n k).length = k := by
  induction k generalizing n with
  | zero => rfl
  | succ k ih => simp [le, ih]
/-- a size as bytes. -/
def sizeL (n : Nat) : List UInt8 :=
  if n < 253 then le n 1 else if n < 65536 then 253 :: le n 2 else if n < 4294967296 then 254 :: le n 4 else 255 :: le n 8
theorem str1L (W : World) (x : Int) (h0 : 0 ≤ x) (h1 : x < 256) : (convert 50 9 (.slice (some ⟨W.heap.size, 0, none⟩) 1 1)).run Tryd.prog (W.alloc (.cells #[.int .u8 x] 5)) = .ok (.string (ofL [UInt8.ofNat x.toNat])) (W.alloc (.cells #[.int .u8 x] 5)) := by
  have e : ((UInt8.ofNat x.toNat).toNat : Int) = x := by simp; omega
  have := run_convert_bytes_back (P := Tryd.prog) (W.alloc (.cells #[.int .u8 x] 5)) 50 9 5 ⟨W.heap.size, 0, none⟩ 1 [UInt8.ofNat x.toNat] Tryd.underlying50 Tryd.underlying5 Tryd.underlying9
  refine this (fun j hj => ?_)
  obtain rfl : j = 0 := by simpa using hj
  simp only [List.getElem_cons_zero, e]
  simp [Addr.add, go_sem]

/-- a number that a uint64 holds. -/
def U64 (q : Nat) : Prop := q < 18446744073709551616
set_option maxRecDepth 10000 in
set_option maxHeartbeats 1000000 in
theorem bytes_any (n m : Nat) (w : World) (hn : U64 n) (hm : m ≤ 8) :
    Calls Tryd.prog 38 #[.int .u64 (n : Int), .int .i64 (m : Int)] w fun x w' => x = .returned (.string (ofL (le n m))) ∧ Below w.heap.size w w' := by
  go_enter Tryd.func38, Tryd.ntmps38
  go_upto_region 2 with fail
  go_loopg [0, 1, 5] m (fun g nv mv sv wx => ∃ q : Nat, ∃ acc : List UInt8, nv = .int .u64 (q : Int) ∧ mv = .int .i64 (g : Int) ∧ sv = .string (ofL acc) ∧ g ≤ 8 ∧ acc.length + g ≤ 8 ∧ U64 q ∧ acc ++ le q g = le n m ∧ Below w.heap.size w wx)
  case atStart => exact ⟨n, [], rfl, rfl, rfl, hm, by simpa using hm, hn, rfl, Below.refl _ _⟩
  case round =>
    obtain ⟨q, acc, rfl, rfl, rfl, hg, hal, hq, hacc, hb⟩ := hrel
    clear hn
    have HB : Hid (Below w.heap.size w wr) := hb
    have HA : Hid (acc ++ le q gk = le n m) := hacc
    have hsz := ofL_size acc
    clear hb hacc
    by_cases h0 : gk = 0
    · subst h0
      go_wp2
      go_ret
      refine ⟨?_, HB.out⟩
      rw [← HA.out]; simp [le]
    · obtain ⟨k, rfl⟩ : ∃ k, gk = k + 1 := ⟨gk - 1, by omega⟩
      have hk : (0 : Int) < ((k + 1 : Nat) : Int) := by omega
      obtain ⟨Q, hQ⟩ : ∃ Q : Int, Q = (q : Int) := ⟨_, rfl⟩
      have HQ : Hid (Q = (q : Int)) := hQ
      have HQB : Hid (U64 q) := hq
      unfold U64 at hq
      have q0 : 0 ≤ Q := by omega
      have q1 : Q ≤ 18446744073709551615 := by omega
      have hstr := str1L wr (Q % 256) (by omega) (by omega)
      have h1z : (ofL [UInt8.ofNat (Q % 256).toNat]).size = 1 := rfl
      rw [← hQ]
      clear hQ hq
      go_wp2
      go_roundg k
      case measure => omega
      case rel =>
        have hQ := HQ.out
        have hqb := HQB.out
        unfold U64 at hqb
        refine ⟨q / 256, acc ++ [UInt8.ofNat q], by rw [hQ]; rfl, by go_num, ?_, by omega, by simp; omega, by unfold U64; omega, ?_, HB.out.alloc HB.out.size _⟩
        · rw [← ofL_append]
          have e : UInt8.ofNat (Q % 256).toNat = UInt8.ofNat q := by
            rw [hQ, show ((q : Int) % 256).toNat = q % 256 by omega, ← UInt8.toNat_inj]; simp
          rw [e]
        · rw [← HA.out, List.append_assoc]; rfl

set_option maxHeartbeats 1000000 in
theorem Size_any (n : Nat) (w : World) (hn : U64 n) :
    Calls Tryd.prog 39 #[.int .u64 (n : Int)] w fun x w' => x = .returned (.string (ofL (sizeL n))) ∧ Below w.heap.size w w' := by
  by_cases h1 : n < 253
  · have hc := bytes_any n 1 w hn (by omega)
    have e : sizeL n = le n 1 := by simp [sizeL, h1]
    rw [e]
    have i1 : (n : Int) < 253 := by omega
    go_enter Tryd.func39, Tryd.ntmps39
    go_wp2_with (go_at_call 38; go_must (refine hc.mono ?_); rintro x w1 ⟨rfl, hb⟩)
    go_ret
    exact ⟨rfl, hb⟩
  · have i1 : ¬ ((n : Int) < 253) := by omega
    by_cases h2 : n < 65536
    · have hc := bytes_any n 2 w hn (by omega)
      have e : sizeL n = 253 :: le n 2 := by simp [sizeL, h1, h2]
      have hl := ofL_size (le n 2)
      have hl2 := le_length n 2
      rw [hl2] at hl
      have ha := ofL_append [253] (le n 2)
      rw [e]
      have i2 : (n : Int) < 65536 := by omega
      go_enter Tryd.func39, Tryd.ntmps39
      go_wp2_with (go_at_call 38; go_must (refine hc.mono ?_); rintro x w1 ⟨rfl, hb⟩)
      go_ret
      exact ⟨by show _ = Ending.returned (Value.string (ofL ([253] ++ le n 2))); rw [← ha]; rfl, hb⟩
    · have i2 : ¬ ((n : Int) < 65536) := by omega
      by_cases h3 : n < 4294967296
      · have hc := bytes_any n 4 w hn (by omega)
        have e : sizeL n = 254 :: le n 4 := by simp [sizeL, h1, h2, h3]
        have hl := ofL_size (le n 4)
        have hl2 := le_length n 4
        rw [hl2] at hl
        have ha := ofL_append [254] (le n 4)
        rw [e]
        have i3 : (n : Int) < 4294967296 := by omega
        go_enter Tryd.func39, Tryd.ntmps39
        go_wp2_with (go_at_call 38; go_must (refine hc.mono ?_); rintro x w1 ⟨rfl, hb⟩)
        go_ret
        exact ⟨by show _ = Ending.returned (Value.string (ofL ([254] ++ le n 4))); rw [← ha]; rfl, hb⟩
      · have i3 : ¬ ((n : Int) < 4294967296) := by omega
        have hc := bytes_any n 8 w hn (by omega)
        have e : sizeL n = 255 :: le n 8 := by simp [sizeL, h1, h2, h3]
        have hl := ofL_size (le n 8)
        have hl2 := le_length n 8
        rw [hl2] at hl
        have ha := ofL_append [255] (le n 8)
        rw [e]
        go_enter Tryd.func39, Tryd.ntmps39
        go_wp2_with (go_at_call 38; go_must (refine hc.mono ?_); rintro x w1 ⟨rfl, hb⟩)
        go_ret
        exact ⟨by show _ = Ending.returned (Value.string (ofL ([255] ++ le n 8))); rw [← ha]; rfl, hb⟩
end Go.Proofs.YtkmalggeieiepaaDoor
