import Derived.Test.YtkmalggeieiepabDoorTxtA
import Derived.WalkKit
import Derived.WalkSpells
import Derived.WalkLawsBesides
import Derived.Deep.MidRow
import Derived.Deep.DeepCutAuto
namespace Go.Proofs.YtkmalggeieiepabDoor
open Go.RowKit

set_option maxRecDepth 10000 in
set_option maxHeartbeats 400000 in
theorem relaySum_any (Kc : Nat → Int) (s : ByteArray) (w : World) (hkt : KT Kc w) (hpos : 0 < w.heap.size) (hs : s.size ≤ 1099511627776) :
    Calls Tryd.prog 7 #[.string s] w fun e w' => e = .returned (.string (strOf (shaF Kc s.data.toList) 32)) ∧ Below w.heap.size w w' := by
  have hT : Texts (w.alloc (.cells #[.string s] 9)) w.heap.size [s] := by
    intro j hj
    obtain rfl : j = 0 := by simp at hj; exact hj
    simp [go_sem]
  have hc : cat [s] = s.data.toList := by simp [cat]
  have hl : s.data.toList.length = s.size := rfl
  have hcall := sum_any Kc [s] w.heap.size (w.alloc (.cells #[.string s] 9)) hT (by simp) (hkt.later ((Below.refl _ _).alloc (Nat.le_refl _) _) hpos) (by rw [hc, hl]; exact hs) (by simp)
  rw [hc] at hcall
  clear hT hc hl hkt
  have htx := text_any (shaF Kc s.data.toList) (fun j => dgF_lt _ j) _ rfl
  go_enter Tryd.func7, Tryd.ntmps7
  go_wp2_with (first
      | (go_at_call 22; go_must (refine hcall.mono ?_); rintro e w1 ⟨rfl, hb1⟩; have HB1 : Hid (Below (w.alloc (.cells #[.string s] 9)).heap.size (w.alloc (.cells #[.string s] 9)) w1) := hb1; clear hb1)
      | (go_at_call 23; go_must (refine (htx _).mono ?_); rintro e w2 ⟨rfl, hb2⟩; have HB2 : Hid (Below w1.heap.size w1 w2) := hb2; clear hb2))
  go_ret
  have hz := HB1.out.size
  simp at hz
  refine ⟨rfl, ?_⟩
  exact ((((Below.refl _ _).alloc (Nat.le_refl _) _).trans (HB1.out.mono (by simp))).trans (HB2.out.mono (by omega)))
end Go.Proofs.YtkmalggeieiepabDoor
