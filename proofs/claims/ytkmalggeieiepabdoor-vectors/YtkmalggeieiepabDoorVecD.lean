import Derived.Test.YtkmalggeieiepabDoorVecC
import Derived.WalkKit
import Derived.WalkSpells
import Derived.WalkLawsBesides
import Derived.Deep.LoopGhost
import Derived.Deep.DeepCutAuto
namespace Go.Proofs.YtkmalggeieiepabDoor
open Go.RowKit

set_option maxRecDepth 10000 in
set_option maxHeartbeats 1000000 in
theorem vectors_walk (w : World) (hkt : KT kcT w) (hpos : 0 < w.heap.size) :
    Calls Tryd.prog 3 #[] w fun e w' => e = .returned (.bool true) ∧ Below w.heap.size w w' := by
  have HKT : Hid (KT kcT w) := hkt
  clear hkt
  go_enter Tryd.func3, Tryd.ntmps3
  go_upto_region 3 with fail
  go_loopg [1, 10] 1000 (fun g o i wx => ∃ k : Nat, ∃ t : ByteArray, k + g = 1000 ∧ i = .int .i64 k ∧ o = .string t ∧ t.size = 10 * k ∧ Below w.heap.size w wx)
  case atStart => exact ⟨0, ⟨#[]⟩, rfl, rfl, rfl, rfl, Below.refl _ _⟩
  case round =>
    obtain ⟨k, t, hk, rfl, rfl, ht, hb⟩ := hrel
    have HK : Hid (k + gk = 1000) := hk
    have HT : Hid (t.size = 10 * k) := ht
    have HB0 : Hid (Below w.heap.size w wr) := hb
    have htb : t.size ≤ 10000 := by omega
    clear hb ht hk
    by_cases hlt : k < 1000
    · go_wp2
      go_roundg (gk - 1)
      case measure => have := HK.out; omega
      case rel =>
        have hkk := HK.out; have htt := HT.out
        refine ⟨k + 1, _, by omega, by go_num, rfl, ?_, HB0.out⟩
        rw [ByteArray.size_append, htt]; rfl
    · go_upto_region 8 with (first | (go_at_call 7; go_must (refine (relay_abc w _ HB0.out HKT.out hpos).mono ?_); rintro e w0a ⟨rfl, hb⟩; have HA0 : Hid (Below w.heap.size w w0a) := hb; clear hb) | (go_at_call 8; go_must (refine (hex_abc w _ HA0.out).mono ?_); rintro e w0b ⟨rfl, hb⟩; have HB1 : Hid (Below w.heap.size w w0b) := hb; clear hb))
      go_upto_region 9 with (first | (go_at_call 7; go_must (refine (relay_nil w _ HB1.out HKT.out hpos).mono ?_); rintro e w1a ⟨rfl, hb⟩; have HA1 : Hid (Below w.heap.size w w1a) := hb; clear hb) | (go_at_call 8; go_must (refine (hex_nil w _ HA1.out).mono ?_); rintro e w1b ⟨rfl, hb⟩; have HB2 : Hid (Below w.heap.size w w1b) := hb; clear hb))
      go_upto_region 10 with (first | (go_at_call 7; go_must (refine (relay_long w _ HB2.out HKT.out hpos).mono ?_); rintro e w2a ⟨rfl, hb⟩; have HA2 : Hid (Below w.heap.size w w2a) := hb; clear hb) | (go_at_call 8; go_must (refine (hex_long w _ HA2.out).mono ?_); rintro e w2b ⟨rfl, hb⟩; have HB3 : Hid (Below w.heap.size w w2b) := hb; clear hb))
      go_upto_region 12 with fail
      go_loopg [6, 25] 15 (fun g o i wx => ∃ n : Nat, ∃ s : ByteArray, n + g = 15 ∧ i = .int .i64 n ∧ o = .string s ∧ s.data.toList = (List.range n).map (fun j => UInt8.ofNat j) ∧ s.size = n ∧ Below w.heap.size w wx)
      case atStart => exact ⟨0, ⟨#[]⟩, rfl, rfl, rfl, rfl, rfl, HB3.out⟩
      case round =>
        obtain ⟨n, s, hn, rfl, rfl, hs, hz, hb⟩ := hrel
        have HN : Hid (n + gk = 15) := hn
        have HS : Hid (s.data.toList = (List.range n).map (fun j => UInt8.ofNat j)) := hs
        have HZ : Hid (s.size = n) := hz
        have HB : Hid (Below w.heap.size w wr) := hb
        have hsb : s.size ≤ 15 := by omega
        clear hb hs hz hn
        by_cases hlt2 : n < 15
        · have hstr := vstr1 wr (n : Int) (by omega) (by omega)
          go_wp2
          go_roundg (gk - 1)
          case measure => have := HN.out; omega
          case rel =>
            have hnn := HN.out; have hzz := HZ.out
            refine ⟨n + 1, _, by omega, by go_num, rfl, ?_, by rw [vapp_size]; omega, HB.out.alloc HB.out.size _⟩
            rw [vapp_toList, HS.out, List.range_succ, List.map_append]; rfl
        · have hn15 : n = 15 := by have := HN.out; omega
          have hkey : s.data.toList = [0, 1, 2, 3, 4, 5, 6, 7, 8, 9, 10, 11, 12, 13, 14] := by rw [HS.out, hn15]; rfl
          have HKEY : Hid (s.data.toList = [0, 1, 2, 3, 4, 5, 6, 7, 8, 9, 10, 11, 12, 13, 14]) := hkey
          clear hkey HS hn15
          go_wp2_with (first
            | (go_at_call 7; go_must (refine (relay_any w _ t (by omega) HB.out HKT.out hpos).mono ?_); rintro e v1 ⟨X, rfl, hX, hb⟩; have HV1 : Hid (Below w.heap.size w v1) := hb; clear hb)
            | (go_at_call_of 9 (Value.string s); go_must (refine (rsip_key w _ s HKEY.out HV1.out).mono ?_); rintro e v2 ⟨rfl, hb⟩; have HV2 : Hid (Below w.heap.size w v2) := hb; clear hb)
            | (go_at_call 9; go_must (refine (rsip_nil w _ HV2.out).mono ?_); rintro e v3 ⟨rfl, hb⟩; have HV3 : Hid (Below w.heap.size w v3) := hb; clear hb))
          go_ret
          exact ⟨rfl, HV3.out⟩
end Go.Proofs.YtkmalggeieiepabDoor
