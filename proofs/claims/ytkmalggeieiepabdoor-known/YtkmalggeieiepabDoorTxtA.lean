import Derived.Test.YtkmalggeieiepabDoorShaE
import Derived.WalkKit
import Derived.WalkSpells
import Derived.WalkLawsBesides
import Derived.Deep.MidRow
import Derived.Deep.DeepCutAuto
namespace Go.Proofs.YtkmalggeieiepabDoor
open Go.RowKit

/-- bytes, as a string. -/
def lsOf (f : Nat → Int) (n : Nat) : List UInt8 := (List.range n).map fun j => UInt8.ofNat (f j).toNat
def strOf (f : Nat → Int) (n : Nat) : ByteArray := ⟨(lsOf f n).toArray⟩
theorem str_arr (W : World) (g : Nat) (f : Nat → Int) (n : Nat) (hA : Arr .u8 W g f n) (hf : ∀ j, 0 ≤ f j ∧ f j < 256) (c : Nat) :
    (convert 23 9 (.slice (some ⟨g, 0, none⟩) n c)).run Tryd.prog W = .ok (.string (strOf f n)) W := by
  have hl : (lsOf f n).length = n := by simp [lsOf]
  have := run_convert_bytes_back (P := Tryd.prog) W 23 9 5 ⟨g, 0, none⟩ c (lsOf f n) Tryd.underlying23 Tryd.underlying5 Tryd.underlying9 (fun j hj => by
    have hj' : j < n := by rw [hl] at hj; exact hj
    rw [Addr.add_mid, Nat.zero_add, (hA j hj').1]
    have h1 := hf j
    simp [lsOf]; omega)
  rw [hl] at this
  exact this
theorem dgF_lt (s : Nat → Int) (j : Nat) : 0 ≤ dgF s j ∧ dgF s j < 256 := by unfold dgF; omega

set_option maxHeartbeats 400000 in
theorem text_any (f : Nat → Int) (hf : ∀ j, 0 ≤ f j ∧ f j < 256) (SR : Array Value) (HSR : Hid (SR = (wl .u8 f 32).toArray)) (w : World) :
    Calls Tryd.prog 23 #[.agg SR] w fun e w' => e = .returned (.string (strOf f 32)) ∧ Below w.heap.size w w' := by
  go_enter Tryd.func23, Tryd.ntmps23
  go_upto_region 1 with fail
  obtain ⟨W0, hW0⟩ : ∃ W, W = w.alloc (.cells SR 59) := ⟨_, rfl⟩
  have hA : Arr .u8 W0 w.heap.size f 32 := by rw [hW0]; exact Arr.new w f 32 _ _ HSR.out
  have HB : Hid (Below w.heap.size w W0) := by show Below _ _ _; rw [hW0]; exact (Below.refl _ _).alloc (Nat.le_refl _) _
  have hst := str_arr W0 w.heap.size f 32 hA hf 32
  rw [← hW0]
  clear hA hW0
  go_wp2
  go_ret
  exact ⟨rfl, HB.out⟩
end Go.Proofs.YtkmalggeieiepabDoor
