import Derived.Test.YtkmalggeieiepabDoorRpF
import Derived.Test.YtkmalggeieiepabDoorShaF
import Derived.Test.YtkmalggeieiepabDoorExM
import Derived.WalkKit
import Derived.WalkSpells
import Derived.WalkLawsBesides
import Derived.Deep.LoopGhost
import Derived.Deep.DeepCutAuto
import Derived.OneCell
namespace Go.Proofs.YtkmalggeieiepabDoor
open Go.RowKit

set_option maxRecDepth 10000 in
theorem pick_any (c : Int) (w : World) (h1 : -9223372036854775808 ≤ c) (h2 : c ≤ 9223372036854775807) :
    Calls Tryd.prog 14 #[.int .i64 c, .int .i64 5] w fun e w' => (∃ r : Nat, r < 5 ∧ e = .returned (.int .i64 (r : Int))) ∧ w' = w := by
  by_cases h : c < 0
  · have hw1 : wrap64 (c + 1) = c + 1 := by unfold wrap64; omega
    have hw2 : wrap64 (-(c + 1)) = -(c + 1) := by unfold wrap64; omega
    go_enter Tryd.func14, Tryd.ntmps14
    go_wp2
    go_ret
    have e1 : -(c + 1).tmod 5 = (-(c + 1)) % 5 := by rw [← Int.neg_tmod, Int.tmod_eq_emod_of_nonneg (by omega)]
    refine ⟨⟨((-(c + 1)) % 5).toNat, by omega, ?_⟩, rfl⟩
    show Ending.returned (Value.int .i64 (-(c + 1).tmod 5)) = _
    rw [e1, Int.toNat_of_nonneg (by omega)]
  · go_enter Tryd.func14, Tryd.ntmps14
    go_wp2
    go_ret
    refine ⟨⟨(c % 5).toNat, by omega, ?_⟩, rfl⟩
    rw [Int.toNat_of_nonneg (by omega)]
    rfl

theorem kstr1 (W : World) (x : Int) (h0 : 0 ≤ x) (h1 : x < 256) : ∃ s : ByteArray, s.size = 1 ∧ (convert 23 9 (.slice (some ⟨W.heap.size, 0, none⟩) 1 1)).run Tryd.prog (W.alloc (.cells #[.int .u8 x] 5)) = .ok (.string s) (W.alloc (.cells #[.int .u8 x] 5)) := by
  have e : ((UInt8.ofNat x.toNat).toNat : Int) = x := by simp; omega
  have := run_convert_bytes_back (P := Tryd.prog) (W.alloc (.cells #[.int .u8 x] 5)) 23 9 5 ⟨W.heap.size, 0, none⟩ 1 [UInt8.ofNat x.toNat] Tryd.underlying23 Tryd.underlying5 Tryd.underlying9
  refine ⟨_, rfl, this (fun j hj => ?_)⟩
  obtain rfl : j = 0 := by simpa using hj
  simp only [List.getElem_cons_zero, e]
  simp [Addr.add, go_sem]

set_option maxRecDepth 10000 in
set_option maxHeartbeats 1000000 in
theorem kbytes_any (n : Nat) (c : Int) (w : World) (hn : n ≤ 3) :
    Calls Tryd.prog 17 #[.int .i64 (n : Int), .int .i64 c] w fun e w' => (∃ s : ByteArray, s.size = n ∧ e = .returned (.string s)) ∧ Below w.heap.size w w' := by
  go_enter Tryd.func17, Tryd.ntmps17
  go_upto_region 3 with fail
  go_loopg [5, 6, 8] n (fun g sv _ iv wx => ∃ (k : Nat) (s : ByteArray), k + g = n ∧ iv = .int .i64 (k : Int) ∧ sv = .string s ∧ s.size = k ∧ Below w.heap.size w wx)
  case atStart => exact ⟨0, ByteArray.empty, by omega, rfl, rfl, rfl, Below.refl _ _⟩
  case round =>
    obtain ⟨k, s, hkn, rfl, rfl, hs, hb⟩ := hrel
    have HB : Hid (Below w.heap.size w wr) := hb
    have HKN : Hid (k + gk = n) := hkn
    have hs3 : s.size ≤ 3 := by omega
    clear hb hkn
    by_cases hlt : k < n
    · have k1 : (k : Int) < (n : Int) := by omega
      obtain ⟨s1, hs1, hstr⟩ := kstr1 wr (wrap64 (wrap64 (wrap64 (c * ((k : Int) + 7)) + wrap64 ((k : Int) * (k : Int))) + wrap64 (wrap64 (c.tdiv 256) * ((k : Int) + 1))) % 256) (by omega) (by omega)
      go_wp2
      go_roundg (gk - 1)
      case measure => have := HKN.out; omega
      case rel =>
        have h := HKN.out
        exact ⟨k + 1, s ++ s1, by omega, by go_num, rfl, by rw [ByteArray.size_append]; omega, HB.out.alloc HB.out.size _⟩
    · have k1 : ¬ ((k : Int) < (n : Int)) := by omega
      go_wp2
      go_ret
      exact ⟨⟨s, by have := HKN.out; omega, rfl⟩, HB.out⟩
end Go.Proofs.YtkmalggeieiepabDoor
