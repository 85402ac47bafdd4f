import Derived.Test.YtkmalggeieiepaaDoorRdE
import Derived.WalkKit
import Derived.WalkSpells
import Derived.WalkLawsBesides
import Derived.Deep.DeepCutAuto
namespace Go.Proofs.YtkmalggeieiepaaDoor
open Go.RowKit

/-- what is wrong with these bytes, as a transaction. -/
def txErr (l : List UInt8) : Int := (rDone (rTx (l, 0))).2
theorem Rd.new (w : World) (s : ByteArray) (T : Nat) : Rd (w.alloc (.cells #[.string s, .int .i64 0] T)) w.heap.size s.data.toList 0 := by
  refine ⟨?_, ?_, ?_, ?_⟩
  · rw [ofL_of]; simp [go_sem]
  · simp [go_sem]
  · simp [go_sem]
  · simp [go_sem]

set_option maxHeartbeats 1000000 in
theorem Tx_any (s : ByteArray) (w : World) (hl : s.size ≤ maxLen) :
    Calls Tryd.prog 12 #[.string s] w fun x w' => x = .returned (.int .i64 (txErr s.data.toList)) ∧ Below w.heap.size w w' := by
  obtain ⟨W0, hW0⟩ : ∃ W, W = w.alloc (.cells #[.string s, .int .i64 0] 57) := ⟨_, rfl⟩
  have HR0 : Hid (Rd W0 w.heap.size s.data.toList 0) := by show Rd _ _ _ _; rw [hW0]; exact Rd.new w s _
  have HT : Hid (Calls Tryd.prog 28 #[.pointer (some ⟨w.heap.size, 0, none⟩)] W0 fun x w' => x = .returned (.string (ofL (s.data.toList.take (s.data.toList.length - (rTx (s.data.toList, 0)).1.length)))) ∧ Rd w' w.heap.size (rTx (s.data.toList, 0)).1 (rTx (s.data.toList, 0)).2 ∧ Mov w.heap.size W0 w') := tx_any w.heap.size s.data.toList 0 W0 HR0.out hl
  have HB0 : Hid (Below w.heap.size w W0) := by show Below _ _ _; rw [hW0]; exact (Below.refl _ _).alloc (Nat.le_refl _) _
  have HE : Hid (txErr s.data.toList = (rDone (rTx (s.data.toList, 0))).2) := rfl
  generalize ofL (s.data.toList.take (s.data.toList.length - (rTx (s.data.toList, 0)).1.length)) = t0 at HT
  generalize rTx (s.data.toList, 0) = p at HT HE
  obtain ⟨m, c⟩ := p
  go_enter Tryd.func12, Tryd.ntmps12
  go_upto_region 2 with fail
  rw [← hW0]
  clear hW0
  go_upto_region 3 with (go_at_call 28; go_must (refine HT.out.mono ?_); rintro x w1 ⟨rfl, hr1, hm1⟩; have HR1 := (show Hid (Rd w1 w.heap.size m c) from hr1); have HM1 := (show Hid (Mov w.heap.size W0 w1) from hm1); clear hr1 hm1)
  go_wp2_with (go_at_call 29; go_must (refine (done_any w.heap.size m c _ HR1.out).mono ?_); rintro x w2 ⟨rfl, hr2, hm2⟩; have HM2 := (show Hid (Mov w.heap.size w1 w2) from hm2); clear hr2 hm2)
  go_ret
  refine ⟨by rw [HE.out]; rfl, HB0.out.trans ?_⟩
  exact (HM1.out.trans HM2.out).below (Nat.le_refl _) HB0.out.size
end Go.Proofs.YtkmalggeieiepaaDoor
