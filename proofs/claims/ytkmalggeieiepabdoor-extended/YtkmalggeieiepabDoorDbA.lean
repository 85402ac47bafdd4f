import Derived.Test.YtkmalggeieiepabDoorTxtA
import Derived.WalkKit
import Derived.WalkSpells
import Derived.WalkLawsBesides
import Derived.Deep.MidRow
import Derived.Deep.DeepCutAuto
namespace Go.Proofs.YtkmalggeieiepabDoor
open Go.RowKit

/-- the double digest's bytes. -/
def dbl (Kc : Nat → Int) (l : List UInt8) : Nat → Int := shaF Kc (strOf (shaF Kc l) 32).data.toList
theorem strOf_size (f : Nat → Int) (n : Nat) : (strOf f n).size = n := by simp [strOf, lsOf, ByteArray.size]
theorem shaF_lt (Kc : Nat → Int) (l : List UInt8) (j : Nat) : 0 ≤ shaF Kc l j ∧ shaF Kc l j < 256 := dgF_lt _ j
theorem sum_one (Kc : Nat → Int) (s : ByteArray) (w : World) (hkt : KT Kc w) (hpos : 0 < w.heap.size) (hs : s.size ≤ 1099511627776) :
    Calls Tryd.prog 22 #[.slice (some ⟨w.heap.size, 0, none⟩) 1 1] (w.alloc (.cells #[.string s] 9)) fun e w' => e = .returned (.agg (wl .u8 (shaF Kc s.data.toList) 32).toArray) ∧ Below w.heap.size w w' := by
  have hT : Texts (w.alloc (.cells #[.string s] 9)) w.heap.size [s] := by
    intro j hj
    obtain rfl : j = 0 := by simp at hj; exact hj
    simp [go_sem]
  have hc : cat [s] = s.data.toList := by simp [cat]
  have hl : s.data.toList.length = s.size := rfl
  have hcall := sum_any Kc [s] w.heap.size (w.alloc (.cells #[.string s] 9)) hT (by simp) (hkt.later ((Below.refl _ _).alloc (Nat.le_refl _) _) hpos) (by rw [hc, hl]; exact hs) (by simp)
  rw [hc] at hcall
  refine hcall.mono fun e w' ⟨h1, h2⟩ => ⟨h1, ?_⟩
  exact ((Below.refl _ _).alloc (Nat.le_refl _) _).trans (h2.mono (by simp))

set_option maxRecDepth 10000 in
set_option maxHeartbeats 1000000 in
theorem double_any (Kc : Nat → Int) (ts : List ByteArray) (gT : Nat) (w : World) (hT : Texts w gT ts) (hlt : gT < w.heap.size) (hkt : KT Kc w) (hn : (cat ts).length ≤ 1099511627776) (hn2 : ts.length ≤ 1099511627776) :
    Calls Tryd.prog 27 #[.slice (some ⟨gT, 0, none⟩) ts.length ts.length] w fun e w' => e = .returned (.agg (wl .u8 (dbl Kc (cat ts)) 32).toArray) ∧ Below w.heap.size w w' := by
  have hpos : 0 < w.heap.size := World.block_lt_of_cell? w _ (hkt 0 (by omega))
  go_enter Tryd.func27, Tryd.ntmps27
  go_upto_region 1 with fail
  obtain ⟨W1, hW1⟩ : ∃ W, W = w.alloc (.cells (Array.replicate 32 (.int .u8 0)) 59) := ⟨_, rfl⟩
  have HA : Hid (Arr .u8 W1 w.heap.size (fun _ => 0) 32) := by show Arr _ _ _ _ _; rw [hW1]; exact Arr.new _ _ 32 _ _ (by rfl)
  have HB1 : Hid (Below w.heap.size w W1) := by show Below _ _ _; rw [hW1]; exact (Below.refl _ _).alloc (Nat.le_refl _) _
  have hz1 : W1.heap.size = w.heap.size + 1 := by rw [hW1]; simp
  have H1 : Hid (Calls Tryd.prog 22 #[.slice (some ⟨gT, 0, none⟩) ts.length ts.length] W1 fun e w' => e = .returned (.agg (wl .u8 (shaF Kc (cat ts)) 32).toArray) ∧ Below W1.heap.size W1 w') :=
    sum_any Kc ts gT W1 (fun j hj => by rw [HB1.out.cell (p := ⟨gT, j, none⟩) hlt]; exact hT j hj) (by omega) (hkt.later HB1.out hpos) hn hn2
  have HTX : Hid (∀ W, Calls Tryd.prog 23 #[.agg (wl .u8 (shaF Kc (cat ts)) 32).toArray] W fun e w' => e = .returned (.string (strOf (shaF Kc (cat ts)) 32)) ∧ Below W.heap.size W w') := fun W => text_any (shaF Kc (cat ts)) (shaF_lt Kc _) _ rfl W
  have H2 : Hid (∀ W, Below w.heap.size w W → Calls Tryd.prog 22 #[.slice (some ⟨W.heap.size, 0, none⟩) 1 1] (W.alloc (.cells #[.string (strOf (shaF Kc (cat ts)) 32)] 9)) fun e w' => e = .returned (.agg (wl .u8 (dbl Kc (cat ts)) 32).toArray) ∧ Below W.heap.size W w') :=
    fun W hW => sum_one Kc _ W (hkt.later hW hpos) (Nat.lt_of_lt_of_le hpos hW.size) (by rw [strOf_size]; omega)
  have HR : Hid (∀ W, Below W1.heap.size W1 W → Arr .u8 W w.heap.size (fun _ => 0) 32) := fun W hW => HA.out.later hW (by omega)
  have hW1' : w.alloc (.cells #[.int .u8 0, .int .u8 0, .int .u8 0, .int .u8 0, .int .u8 0, .int .u8 0, .int .u8 0, .int .u8 0, .int .u8 0, .int .u8 0, .int .u8 0, .int .u8 0, .int .u8 0, .int .u8 0, .int .u8 0, .int .u8 0, .int .u8 0, .int .u8 0, .int .u8 0, .int .u8 0, .int .u8 0, .int .u8 0, .int .u8 0, .int .u8 0, .int .u8 0, .int .u8 0, .int .u8 0, .int .u8 0, .int .u8 0, .int .u8 0, .int .u8 0, .int .u8 0] 59) = W1 := by rw [hW1]; rfl
  rw [hW1']
  have HZ1 : Hid (W1.heap.size = w.heap.size + 1) := hz1
  clear hW1 hW1' HA hkt hT hn hn2 hlt hpos hz1
  generalize (wl .u8 (shaF Kc (cat ts)) 32).toArray = S1 at H1 HTX
  generalize strOf (shaF Kc (cat ts)) 32 = t1 at HTX H2
  go_wp2_with (first
    | (go_at_call 22; refine H1.out.mono ?_; rintro e w2 ⟨rfl, hb2⟩; have HB2 := (show Hid (Below W1.heap.size W1 w2) from hb2); clear hb2 H1)
    | (go_at_call 23; go_must (refine (HTX.out _).mono ?_); rintro e w3 ⟨rfl, hb3⟩; have HB3 := (show Hid (Below W1.heap.size W1 w3) from HB2.out.trans (hb3.mono HB2.out.size)); clear hb3)
    | (go_at_call 22; go_must (refine (H2.out _ (HB1.out.trans (HB3.out.mono (by have := HZ1.out; omega)))).mono ?_); rintro e w4 ⟨rfl, hb4⟩; have HB4 := (show Hid (Below W1.heap.size W1 w4) from HB3.out.trans (hb4.mono HB3.out.size)); clear hb4)
    | (refine wpList_store_arr rfl 59 _ _ rfl w.heap.size .u8 (fun _ => 0) (dbl Kc (cat ts)) 32 rfl rfl ?_ (by kernel_rfl) ?_; exact HR.out _ HB4.out))
  refine bodyPost_ret (v := .agg (wl .u8 (dbl Kc (cat ts)) 32).toArray) (results_arr Tryd.results27 _ _ w.heap.size .u8 (dbl Kc (cat ts)) 32 _ rfl ((HR.out _ HB4.out).all _) Tryd.underlying59 rfl (by kernel_rfl)) rfl ⟨rfl, ?_⟩
  exact below_setCells (HB1.out.trans (HB4.out.mono (by have := HZ1.out; omega))) _ (Nat.le_refl _) _ _

/-- of one text. -/
theorem double_one (Kc : Nat → Int) (s : ByteArray) (w : World) (hkt : KT Kc w) (hs : s.size ≤ 1099511627776) :
    Calls Tryd.prog 27 #[.slice (some ⟨w.heap.size, 0, none⟩) 1 1] (w.alloc (.cells #[.string s] 9)) fun e w' => e = .returned (.agg (wl .u8 (dbl Kc s.data.toList) 32).toArray) ∧ Below w.heap.size w w' := by
  have hT : Texts (w.alloc (.cells #[.string s] 9)) w.heap.size [s] := by
    intro j hj
    obtain rfl : j = 0 := by simp at hj; exact hj
    simp [go_sem]
  have hc : cat [s] = s.data.toList := by simp [cat]
  have hl : s.data.toList.length = s.size := rfl
  have hpos : 0 < w.heap.size := World.block_lt_of_cell? w _ (hkt 0 (by omega))
  have hcall := double_any Kc [s] w.heap.size (w.alloc (.cells #[.string s] 9)) hT (by simp) (hkt.later ((Below.refl _ _).alloc (Nat.le_refl _) _) hpos) (by rw [hc, hl]; exact hs) (by simp)
  rw [hc] at hcall
  refine hcall.mono fun e w' ⟨h1, h2⟩ => ⟨h1, ?_⟩
  exact ((Below.refl _ _).alloc (Nat.le_refl _) _).trans (h2.mono (by simp))
end Go.Proofs.YtkmalggeieiepabDoor
