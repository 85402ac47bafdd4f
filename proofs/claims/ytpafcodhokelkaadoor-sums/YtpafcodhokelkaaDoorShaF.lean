import Derived.Test.YtpafcodhokelkaaDoorShaE
import Derived.WalkKit
import Derived.WalkSpells
import Derived.WalkLawsBesides
import Derived.Deep.MidRow
import Derived.Deep.DeepCutAuto
namespace Go.Proofs.YtpafcodhokelkaaDoor
open Go.RowKit

/-- bytes, as a string. -/
def lsOf (f : Nat → Int) (n : Nat) : List UInt8 := (List.range n).map fun j => UInt8.ofNat (f j).toNat
def strOf (f : Nat → Int) (n : Nat) : ByteArray := ⟨(lsOf f n).toArray⟩
theorem str_arr (W : World) (g : Nat) (f : Nat → Int) (n : Nat) (hA : Arr .u8 W g f n) (hf : ∀ j, 0 ≤ f j ∧ f j < 256) (c : Nat) :
    (convert 29 9 (.slice (some ⟨g, 0, none⟩) n c)).run Tryd.prog W = .ok (.string (strOf f n)) W := by
  have hl : (lsOf f n).length = n := by simp [lsOf]
  have := run_convert_bytes_back (P := Tryd.prog) W 29 9 5 ⟨g, 0, none⟩ c (lsOf f n) Tryd.underlying29 Tryd.underlying5 Tryd.underlying9 (fun j hj => by
    have hj' : j < n := by rw [hl] at hj; exact hj
    rw [Addr.add_mid, Nat.zero_add, (hA j hj').1]
    have h1 := hf j
    simp [lsOf]; omega)
  rw [hl] at this
  exact this
theorem dgF_lt (s : Nat → Int) (j : Nat) : 0 ≤ dgF s j ∧ dgF s j < 256 := by unfold dgF; omega

set_option maxRecDepth 10000 in
set_option maxHeartbeats 400000 in
theorem relaySum_any (Kc : Nat → Int) (s : ByteArray) (w : World) (hkt : KT Kc w) (hpos : 0 < w.heap.size) (hs : s.size ≤ 1099511627776) :
    Calls Tryd.prog 4 #[.string s] w fun e w' => e = .returned (.string (strOf (shaF Kc s.data.toList) 32)) ∧ Below w.heap.size w w' := by
  have hT : Texts (w.alloc (.cells #[.string s] 9)) w.heap.size [s] := by
    intro j hj
    obtain rfl : j = 0 := by simp at hj; exact hj
    simp [go_sem]
  have hc : cat [s] = s.data.toList := by simp [cat]
  have hl : s.data.toList.length = s.size := rfl
  have hcall := sum_any Kc [s] w.heap.size (w.alloc (.cells #[.string s] 9)) hT (by simp) (hkt.later ((Below.refl _ _).alloc (Nat.le_refl _) _) hpos) (by rw [hc, hl]; exact hs) (by simp)
  rw [hc] at hcall
  clear hT hc hl
  go_enter Tryd.func4, Tryd.ntmps4
  go_upto_region 1 with fail
  go_cut [3] (fun p wx => ∃ g, p = .pointer (some ⟨g, 0, none⟩) ∧ Arr .u8 wx g (shaF Kc s.data.toList) 32 ∧ Below w.heap.size w wx)
  case first =>
    go_wp2_with (first
      | (go_at_call 7; go_must (refine hcall.mono ?_); rintro e w1 ⟨rfl, hb1⟩; have HB1 : Hid (Below (w.alloc (.cells #[.string s] 9)).heap.size (w.alloc (.cells #[.string s] 9)) w1) := hb1; clear hb1)
      | (refine wpList_store_arr rfl 27 _ _ rfl _ .u8 (fun _ => 0) (shaF Kc s.data.toList) 32 rfl rfl ?_ (by kernel_rfl) ?_; exact (Arr.new _ _ 32 _ _ (by rfl))))
    go_meet
    have hz := HB1.out.size
    simp at hz
    refine ⟨w1.heap.size, rfl, (Arr.new w1 (fun _ => 0) 32 _ _ (by rfl)).all _, ?_⟩
    exact below_setCells ((((Below.refl _ _).alloc (Nat.le_refl _) _).trans (HB1.out.mono (by simp))).alloc (by omega) _) _ (by omega) _ _
  case rest =>
  obtain ⟨g, rfl, hA, hb⟩ := hcut
  have hst := str_arr wc g (shaF Kc s.data.toList) 32 hA (fun j => dgF_lt _ j) 32
  have HB : Hid (Below w.heap.size w wc) := hb
  clear hA hb hcall hkt
  go_wp2
  go_ret
  exact ⟨rfl, HB.out⟩
end Go.Proofs.YtpafcodhokelkaaDoor
