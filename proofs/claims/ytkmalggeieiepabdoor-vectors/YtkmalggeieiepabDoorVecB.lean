import Derived.Test.YtkmalggeieiepabDoorVecA
import Derived.WalkKit
import Derived.WalkSpells
import Derived.WalkLawsBesides
import Derived.Deep.LoopGhost
import Derived.Deep.DeepCutAuto
namespace Go.Proofs.YtkmalggeieiepabDoor
open Go.RowKit

/-- one byte, as a string. -/
theorem vstr1 (W : World) (x : Int) (h0 : 0 ≤ x) (h1 : x < 256) : (convert 23 9 (.slice (some ⟨W.heap.size, 0, none⟩) 1 1)).run Tryd.prog (W.alloc (.cells #[.int .u8 x] 5)) = .ok (.string ⟨#[UInt8.ofNat x.toNat]⟩) (W.alloc (.cells #[.int .u8 x] 5)) := by
  have e : ((UInt8.ofNat x.toNat).toNat : Int) = x := by simp; omega
  have := run_convert_bytes_back (P := Tryd.prog) (W.alloc (.cells #[.int .u8 x] 5)) 23 9 5 ⟨W.heap.size, 0, none⟩ 1 [UInt8.ofNat x.toNat] Tryd.underlying23 Tryd.underlying5 Tryd.underlying9
  refine this (fun j hj => ?_)
  obtain rfl : j = 0 := by simpa using hj
  simp only [List.getElem_cons_zero, e]
  simp [Addr.add, go_sem]
theorem vapp_toList (t : ByteArray) (b : UInt8) : (t ++ ⟨#[b]⟩ : ByteArray).data.toList = t.data.toList ++ [b] := by
  rw [ByteArray.data_append]; simp
theorem vapp_size (t : ByteArray) (b : UInt8) : (t ++ ⟨#[b]⟩ : ByteArray).size = t.size + 1 := by
  rw [ByteArray.size_append]; rfl

/-- the number of a digit of base 16. -/
def hv (c : UInt8) : Int := if 97 ≤ c.toNat then (c.toNat : Int) - 97 + 10 else (c.toNat : Int) - 48
def isHex (c : UInt8) : Bool := (48 ≤ c.toNat && c.toNat ≤ 57) || (97 ≤ c.toNat && c.toNat ≤ 102)
def hexStep (p : List UInt8 × Int × Bool) (c : UInt8) : List UInt8 × Int × Bool :=
  if p.2.2 then (p.1 ++ [UInt8.ofNat (16 * p.2.1 + hv c).toNat], 0, false) else (p.1, 16 * p.2.1 + hv c, true)
def hexN (l : List UInt8) : List UInt8 × Int × Bool := l.foldl hexStep ([], 0, false)
theorem hexN_snoc (l : List UInt8) (c : UInt8) : hexN (l ++ [c]) = hexStep (hexN l) c := by simp [hexN]
theorem hv_bd (c : UInt8) (h : isHex c = true) : 0 ≤ hv c ∧ hv c ≤ 15 := by
  unfold isHex at h
  unfold hv
  simp at h
  split <;> omega

set_option maxHeartbeats 1000000 in
theorem hex_any (s : ByteArray) (w : World) (hs : s.size ≤ 1048576) (hh : ∀ c ∈ s.data.toList, isHex c = true) :
    Calls Tryd.prog 8 #[.string s] w fun e w' => ∃ t : ByteArray, e = .returned (.string t) ∧ t.data.toList = (hexN s.data.toList).1 ∧ Below w.heap.size w w' := by
  go_enter Tryd.func8, Tryd.ntmps8
  go_upto_region 4 with fail
  go_loopg [3, 4, 5] s.size (fun g o n i wx => ∃ k : Nat, ∃ t : ByteArray, ∃ m : Int, k + g = s.size ∧ i = .int .i64 k ∧ o = .string t ∧ n = .int .i64 m ∧ hexN (s.data.toList.take k) = (t.data.toList, m, k % 2 == 1) ∧ t.size ≤ k ∧ 0 ≤ m ∧ m ≤ 15 ∧ ((k % 2 = 0) → m = 0) ∧ Below w.heap.size w wx)
  case atStart => exact ⟨0, ByteArray.empty, 0, by omega, rfl, rfl, rfl, rfl, by simp, by omega, by omega, fun _ => rfl, Below.refl _ _⟩
  case round =>
    obtain ⟨k, t, m, hk, rfl, rfl, rfl, hn, hts, hm0, hm1, hmz, hb⟩ := hrel
    have HK : Hid (k + gk = s.size) := hk
    have HB : Hid (Below w.heap.size w wr) := hb
    have HN : Hid (hexN (s.data.toList.take k) = (t.data.toList, m, k % 2 == 1)) := hn
    clear hb hn
    by_cases hlt : k < s.size
    · have hx := hh s[k] (by show s.data.toList[k] ∈ s.data.toList; exact List.getElem_mem _)
      have hbd := hv_bd s[k] hx
      have HT : Hid (hexN (s.data.toList.take (k + 1)) = hexStep (t.data.toList, m, k % 2 == 1) s[k]) := by
        have e : s.data.toList.take (k + 1) = s.data.toList.take k ++ [s[k]] := by rw [List.take_succ_eq_append_getElem (by exact hlt)]; rfl
        show hexN _ = _
        rw [e, hexN_snoc, HN.out]
      have hkb : k ≤ 1048576 := by omega
      have hlo : (48 : Int) ≤ (s[k].toNat : Int) := by unfold isHex at hx; simp at hx; omega
      have hhi : (s[k].toNat : Int) ≤ 102 := by unfold isHex at hx; simp at hx; omega
      have htb : t.size ≤ 1048576 := by omega
      have HV : Hid (hv s[k] = if 97 ≤ s[k].toNat then (s[k].toNat : Int) - 97 + 10 else (s[k].toNat : Int) - 48) := rfl
      have HMZ : Hid ((k % 2 = 0) → m = 0) := hmz
      have HTS : Hid (t.size ≤ k) := hts
      clear hx hk hh HN hts hmz
      by_cases ha : (97 : Int) ≤ (s[k].toNat : Int)
      · by_cases ho : (k : Int) % 2 = 1
        · have HO : Hid ((k % 2 == 1) = true) := by show (k % 2 == 1) = true; simp; omega
          have hvv : hv s[k] = (s[k].toNat : Int) - 97 + 10 := by rw [HV.out, if_pos (by omega)]
          rw [hvv] at hbd
          have HVV : Hid (hv s[k] = (s[k].toNat : Int) - 97 + 10) := hvv
          clear hvv HV
          have hstr := vstr1 wr (16 * m + ((s[k].toNat : Int) - 97 + 10)) (by omega) (by omega)
          have hob : (((k : Int) % 2) == 1) = true := by simp; omega
          clear ho
          go_wp2
          go_roundg (gk - 1)
          case measure => have := HK.out; omega
          case rel =>
            have hkk := HK.out
            refine ⟨k + 1, _, 0, by omega, by go_num, rfl, rfl, ?_, by rw [vapp_size]; have := HTS.out; omega, by omega, by omega, fun _ => rfl, HB.out.alloc (HB.out.size) _⟩
            rw [HT.out, vapp_toList]
            unfold hexStep
            rw [if_pos (by show (k % 2 == 1) = true; exact HO.out), HVV.out]
            have e : ((k + 1) % 2 == 1) = false := by have := HO.out; simp at *; omega
            rw [e]
        · have HO : Hid ((k % 2 == 1) = false) := by show (k % 2 == 1) = false; simp; omega
          have HM0 : Hid (m = 0) := HMZ.out (by omega)
          have hvv : hv s[k] = (s[k].toNat : Int) - 97 + 10 := by rw [HV.out, if_pos (by omega)]
          rw [hvv] at hbd
          have HVV : Hid (hv s[k] = (s[k].toNat : Int) - 97 + 10) := hvv
          clear hvv HV
          have hob : (((k : Int) % 2) == 1) = false := by simp; omega
          have hm00 : 16 * m + hv s[k] ≤ 15 := by rw [HVV.out]; have := HM0.out; omega
          clear ho
          go_wp2
          go_roundg (gk - 1)
          case measure => have := HK.out; omega
          case rel =>
            have hkk := HK.out
            have h15 := HM0.out
            refine ⟨k + 1, t, (16 * m + ((s[k].toNat : Int) - 97 + 10)), by omega, by go_num, rfl, rfl, ?_, by have := HTS.out; omega, by omega, by omega, fun h => by have := HO.out; simp at this; omega, HB.out⟩
            rw [HT.out]
            unfold hexStep
            rw [if_neg (by show ¬ (k % 2 == 1) = true; rw [HO.out]; simp), HVV.out]
            have e : ((k + 1) % 2 == 1) = true := by have := HO.out; simp at *; omega
            rw [e]
      · by_cases ho : (k : Int) % 2 = 1
        · have HO : Hid ((k % 2 == 1) = true) := by show (k % 2 == 1) = true; simp; omega
          have hvv : hv s[k] = (s[k].toNat : Int) - 48 := by rw [HV.out, if_neg (by omega)]
          rw [hvv] at hbd
          have HVV : Hid (hv s[k] = (s[k].toNat : Int) - 48) := hvv
          clear hvv HV
          have hstr := vstr1 wr (16 * m + ((s[k].toNat : Int) - 48)) (by omega) (by omega)
          have hob : (((k : Int) % 2) == 1) = true := by simp; omega
          clear ho
          go_wp2
          go_roundg (gk - 1)
          case measure => have := HK.out; omega
          case rel =>
            have hkk := HK.out
            refine ⟨k + 1, _, 0, by omega, by go_num, rfl, rfl, ?_, by rw [vapp_size]; have := HTS.out; omega, by omega, by omega, fun _ => rfl, HB.out.alloc (HB.out.size) _⟩
            rw [HT.out, vapp_toList]
            unfold hexStep
            rw [if_pos (by show (k % 2 == 1) = true; exact HO.out), HVV.out]
            have e : ((k + 1) % 2 == 1) = false := by have := HO.out; simp at *; omega
            rw [e]
        · have HO : Hid ((k % 2 == 1) = false) := by show (k % 2 == 1) = false; simp; omega
          have HM0 : Hid (m = 0) := HMZ.out (by omega)
          have hvv : hv s[k] = (s[k].toNat : Int) - 48 := by rw [HV.out, if_neg (by omega)]
          rw [hvv] at hbd
          have HVV : Hid (hv s[k] = (s[k].toNat : Int) - 48) := hvv
          clear hvv HV
          have hob : (((k : Int) % 2) == 1) = false := by simp; omega
          have hm00 : 16 * m + hv s[k] ≤ 15 := by rw [HVV.out]; have := HM0.out; omega
          clear ho
          go_wp2
          go_roundg (gk - 1)
          case measure => have := HK.out; omega
          case rel =>
            have hkk := HK.out
            have h15 := HM0.out
            refine ⟨k + 1, t, (16 * m + ((s[k].toNat : Int) - 48)), by omega, by go_num, rfl, rfl, ?_, by have := HTS.out; omega, by omega, by omega, fun h => by have := HO.out; simp at this; omega, HB.out⟩
            rw [HT.out]
            unfold hexStep
            rw [if_neg (by show ¬ (k % 2 == 1) = true; rw [HO.out]; simp), HVV.out]
            have e : ((k + 1) % 2 == 1) = true := by have := HO.out; simp at *; omega
            rw [e]
    · go_wp2
      go_ret
      have hkk := HK.out
      refine ⟨t, rfl, ?_, HB.out⟩
      have h := HN.out
      rw [List.take_of_length_le (by show s.size ≤ k; omega)] at h
      rw [h]
end Go.Proofs.YtkmalggeieiepabDoor
