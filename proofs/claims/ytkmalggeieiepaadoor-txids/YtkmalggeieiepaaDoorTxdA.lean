import Derived.Test.YtkmalggeieiepaaDoorCuF
import Derived.Test.YtkmalggeieiepaaDoorDbA
import Derived.WalkKit
import Derived.WalkSpells
import Derived.WalkLawsBesides
import Derived.Deep.DeepCutAuto
namespace Go.Proofs.YtkmalggeieiepaaDoor
open Go.RowKit

/-- a transaction's digest, or nothing. -/
def txid (Kc : Nat → Int) (s : ByteArray) : ByteArray := if txErr s.data.toList = 0 then strOf (dbl Kc s.data.toList) 32 else ByteArray.empty
set_option maxHeartbeats 1000000 in
theorem txid_any (Kc : Nat → Int) (s : ByteArray) (w : World) (hkt : KT Kc w) (hm : s.size ≤ maxLen) :
    Calls Tryd.prog 11 #[.string s] w fun e w' => e = .returned (.tuple #[.string (txid Kc s), .int .i64 (txErr s.data.toList)]) ∧ Below w.heap.size w w' := by
  have hr := read_any s w hm
  have hpos : 0 < w.heap.size := World.block_lt_of_cell? w _ (hkt 0 (by omega))
  by_cases h0 : txErr s.data.toList = 0
  · have hlen := txErr_len _ h0
    have hsz : s.size ≤ 1099511627776 := by have : s.data.toList.length = s.size := rfl; omega
    have e1 : txid Kc s = strOf (dbl Kc s.data.toList) 32 := by simp [txid, h0]
    have HD : Hid (∀ W, Below w.heap.size w W → Calls Tryd.prog 27 #[.slice (some ⟨W.heap.size, 0, none⟩) 1 1] (W.alloc (.cells #[.string s] 9)) fun e w' => e = .returned (.agg (wl .u8 (dbl Kc s.data.toList) 32).toArray) ∧ Below W.heap.size W w') := fun W hW => double_one Kc s W (hkt.later hW hpos) hsz
    have HTX : Hid (∀ W, Calls Tryd.prog 21 #[.agg (wl .u8 (dbl Kc s.data.toList) 32).toArray] W fun e w' => e = .returned (.string (strOf (dbl Kc s.data.toList) 32)) ∧ Below W.heap.size W w') := fun W => text_any (dbl Kc s.data.toList) (shaF_lt Kc _) _ rfl W
    rw [h0, if_pos rfl] at hr
    rw [e1, h0]
    clear hlen hsz e1 hkt hpos h0 hm
    generalize (wl .u8 (dbl Kc s.data.toList) 32).toArray = S1 at HD HTX
    generalize strOf (dbl Kc s.data.toList) 32 = t1 at HTX
    go_enter Tryd.func11, Tryd.ntmps11
    go_wp2_with (first
      | (go_at_call 25; go_must (refine hr.mono ?_); rintro e w1 ⟨rfl, hb1⟩; have HB1 := (show Hid (Below w.heap.size w w1) from hb1); clear hb1)
      | (go_at_call 27; go_must (refine (HD.out _ HB1.out).mono ?_); rintro e w2 ⟨rfl, hb2⟩; have HB2 := (show Hid (Below w.heap.size w w2) from HB1.out.trans (hb2.mono HB1.out.size)); clear hb2)
      | (go_at_call 21; go_must (refine (HTX.out _).mono ?_); rintro e w3 ⟨rfl, hb3⟩; have HB3 := (show Hid (Below w.heap.size w w3) from HB2.out.trans (hb3.mono HB2.out.size)); clear hb3))
    go_ret2
    exact ⟨rfl, HB3.out⟩
  · have e1 : txid Kc s = ByteArray.empty := by simp [txid, h0]
    rw [if_neg h0] at hr
    rw [e1]
    clear hkt hpos hm e1
    generalize txErr s.data.toList = c at h0 hr
    go_enter Tryd.func11, Tryd.ntmps11
    go_wp2_with (go_at_call 25; go_must (refine hr.mono ?_); rintro e w1 ⟨rfl, hb1⟩; have HB1 := (show Hid (Below w.heap.size w w1) from hb1); clear hb1)
    go_ret2
    exact ⟨rfl, HB1.out⟩
end Go.Proofs.YtkmalggeieiepaaDoor
