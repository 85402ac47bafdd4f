import Derived.Test.YtkmalggeieiepabDoorRpA
import Derived.WalkKit
import Derived.WalkSpells
import Derived.WalkLawsBesides
import Derived.Deep.MidRow
import Derived.Deep.DeepCutAuto
import Derived.Lib.LazyBuf
namespace Go.Proofs.YtkmalggeieiepabDoor
open Go.RowKit

theorem results_arr2 {P : Program} {fn : Func} {p t : Tmp} {ty : TypeId} (h : fn.results = #[.cell p ty, .tmp t]) (tmps : Array Value) (w : World) (g : Nat) (K : IntKind) (f : Nat → Int) (n : Nat) (d : TypeDesc) (u : Value)
    (hp : tmps.getD p undef = .pointer (some ⟨g, 0, none⟩)) (ht : tmps.getD t undef = u) (hg : Arr K w g f n) (hu : P.underlying ty = some d) (hd : d.isRow = true) (hi : (P.info? ty).map (·.size) = some n) :
    (results fn tmps).run P w = .ok (.tuple #[.agg (wl K f n).toArray, u]) w := by
  have hp' : tmps[p]?.getD undef = .pointer (some ⟨g, 0, none⟩) := by simpa using hp
  have ht' : tmps[t]?.getD undef = u := by simpa using ht
  simp [results, h, hp', ht', asAddr, run_loadVar_mid w g 0 ty (wl K f n) d hg.range hu hd (by rw [wl_length]; exact hi)]

set_option maxRecDepth 10000 in
set_option maxHeartbeats 1000000 in
theorem digestOf_no (s : ByteArray) (w : World) (h : s.size ≠ 32) :
    Calls Tryd.prog 29 #[.string s] w fun e w' => e = .returned (.tuple #[.agg (wl .u8 (fun _ => 0) 32).toArray, .bool false]) ∧ Below w.heap.size w w' := by
  have hi : ¬ ((s.size : Int) = 32) := by omega
  go_enter Tryd.func29, Tryd.ntmps29
  go_upto_region 2 with fail
  obtain ⟨W0, hW0⟩ : ∃ W, W = (w.alloc (.cells #[.int .u8 0, .int .u8 0, .int .u8 0, .int .u8 0, .int .u8 0, .int .u8 0, .int .u8 0, .int .u8 0, .int .u8 0, .int .u8 0, .int .u8 0, .int .u8 0, .int .u8 0, .int .u8 0, .int .u8 0, .int .u8 0, .int .u8 0, .int .u8 0, .int .u8 0, .int .u8 0, .int .u8 0, .int .u8 0, .int .u8 0, .int .u8 0, .int .u8 0, .int .u8 0, .int .u8 0, .int .u8 0, .int .u8 0, .int .u8 0, .int .u8 0, .int .u8 0] 59)).alloc (.cells #[.int .u8 0, .int .u8 0, .int .u8 0, .int .u8 0, .int .u8 0, .int .u8 0, .int .u8 0, .int .u8 0, .int .u8 0, .int .u8 0, .int .u8 0, .int .u8 0, .int .u8 0, .int .u8 0, .int .u8 0, .int .u8 0, .int .u8 0, .int .u8 0, .int .u8 0, .int .u8 0, .int .u8 0, .int .u8 0, .int .u8 0, .int .u8 0, .int .u8 0, .int .u8 0, .int .u8 0, .int .u8 0, .int .u8 0, .int .u8 0, .int .u8 0, .int .u8 0] 59) := ⟨_, rfl⟩
  have HA : Hid (Arr .u8 W0 w.heap.size (fun _ => 0) 32) := by show Arr _ _ _ _ _; rw [hW0]; exact (Arr.new w _ 32 _ _ (by rfl)).alloc (by omega) _
  have HA2 : Hid (Arr .u8 W0 (w.heap.size + 1) (fun _ => 0) 32) := by show Arr _ _ _ _ _; rw [hW0]; exact Arr.newAt _ _ 32 _ _ _ (by rfl) (by simp)
  have HB : Hid (Below w.heap.size w W0) := by show Below _ _ _; rw [hW0]; exact ((Below.refl _ _).alloc (Nat.le_refl _) _).alloc (by simp) _
  rw [← hW0]
  clear hW0
  go_wp2_with (first
    | (refine wpList_load_arr rfl 59 _ rfl (w.heap.size + 1) rfl .u8 (fun _ => 0) 32 _ ?_ Tryd.underlying59 rfl sizeDig ?_; exact HA2.out)
    | (refine wpList_store_arr rfl 59 _ _ rfl w.heap.size .u8 (fun _ => 0) (fun _ => 0) 32 rfl rfl ?_ sizeDig ?_; exact HA.out))
  refine bodyPost_ret (results_arr2 Tryd.results29 _ _ w.heap.size .u8 (fun _ => 0) 32 _ _ rfl rfl (HA.out.all _) Tryd.underlying59 rfl sizeDig) rfl ⟨rfl, ?_⟩
  exact below_setCells HB.out _ (Nat.le_refl _) _ _

set_option maxRecDepth 10000 in
set_option maxHeartbeats 1000000 in
theorem digestOf_ok (s : ByteArray) (w : World) (h : s.size = 32) :
    Calls Tryd.prog 29 #[.string s] w fun e w' => e = .returned (.tuple #[aggD s, .bool true]) ∧ Below w.heap.size w w' := by
  have hi : ((s.size : Int) = 32) := by omega
  have HE : Hid (aggD s = .agg (wl .u8 (byF s) 32).toArray) := by show _ = _; unfold aggD; rw [bc_wl s 32 h]
  rw [HE.out]
  clear HE
  go_enter Tryd.func29, Tryd.ntmps29
  go_upto_region 2 with fail
  obtain ⟨W0, hW0⟩ : ∃ W, W = (w.alloc (.cells #[.int .u8 0, .int .u8 0, .int .u8 0, .int .u8 0, .int .u8 0, .int .u8 0, .int .u8 0, .int .u8 0, .int .u8 0, .int .u8 0, .int .u8 0, .int .u8 0, .int .u8 0, .int .u8 0, .int .u8 0, .int .u8 0, .int .u8 0, .int .u8 0, .int .u8 0, .int .u8 0, .int .u8 0, .int .u8 0, .int .u8 0, .int .u8 0, .int .u8 0, .int .u8 0, .int .u8 0, .int .u8 0, .int .u8 0, .int .u8 0, .int .u8 0, .int .u8 0] 59)).alloc (.cells #[.int .u8 0, .int .u8 0, .int .u8 0, .int .u8 0, .int .u8 0, .int .u8 0, .int .u8 0, .int .u8 0, .int .u8 0, .int .u8 0, .int .u8 0, .int .u8 0, .int .u8 0, .int .u8 0, .int .u8 0, .int .u8 0, .int .u8 0, .int .u8 0, .int .u8 0, .int .u8 0, .int .u8 0, .int .u8 0, .int .u8 0, .int .u8 0, .int .u8 0, .int .u8 0, .int .u8 0, .int .u8 0, .int .u8 0, .int .u8 0, .int .u8 0, .int .u8 0] 59) := ⟨_, rfl⟩
  have HA : Hid (Arr .u8 W0 w.heap.size (fun _ => 0) 32) := by show Arr _ _ _ _ _; rw [hW0]; exact (Arr.new w _ 32 _ _ (by rfl)).alloc (by omega) _
  have HA2 : Hid (Arr .u8 W0 (w.heap.size + 1) (fun _ => 0) 32) := by show Arr _ _ _ _ _; rw [hW0]; exact Arr.newAt _ _ 32 _ _ _ (by rfl) (by simp)
  have HB : Hid (Below w.heap.size w W0) := by show Below _ _ _; rw [hW0]; exact ((Below.refl _ _).alloc (Nat.le_refl _) _).alloc (by simp) _
  rw [← hW0]
  clear hW0
  have HA3 : Hid (Arr .u8 (W0.setCells (w.heap.size + 1) 0 (bc s)) (w.heap.size + 1) (byF s) 32) := by
    show Arr _ _ _ _ _; rw [bc_wl s 32 h]; exact HA2.out.all _
  have HA4 : Hid (Arr .u8 (W0.setCells (w.heap.size + 1) 0 (bc s)) w.heap.size (fun _ => 0) 32) := HA.out.setsFar _ _ (by omega)
  have HB2 : Hid (Below w.heap.size w (W0.setCells (w.heap.size + 1) 0 (bc s))) := below_setCells HB.out _ (by omega) _ _
  have HC : Hid (∀ j, j < s.size → (W0.cell? ⟨w.heap.size + 1, 0 + j, none⟩).isSome = true) := fun j hj => by rw [Nat.zero_add, (HA2.out j (by omega)).1]; rfl
  have HF : Hid (∀ j, j < s.size → W0.frozen? ⟨w.heap.size + 1, 0 + j, none⟩ = false) := fun j hj => by rw [Nat.zero_add]; exact (HA2.out j (by omega)).2
  have hcp : (Builtin.copy_ #[23, 9] 3 #[.slice (some ⟨w.heap.size + 1, 0, none⟩) 32 32, .string s]).run Tryd.prog W0 = .ok (.int .i64 32) (W0.setCells (w.heap.size + 1) 0 (bc s)) := by
    rw [run_copy_string W0 23 9 3 5 (w.heap.size + 1) 0 32 32 s Tryd.underlying23 sz8 (by omega) HC.out HF.out, h]; rfl
  generalize W0.setCells (w.heap.size + 1) 0 (bc s) = W1 at HA3 HA4 HB2 hcp
  clear HA HA2 HB HC HF
  go_upto_region 4 with fail
  go_wp2_with (first
    | (refine wpList_load_arr rfl 59 _ rfl (w.heap.size + 1) rfl .u8 (byF s) 32 _ ?_ Tryd.underlying59 rfl sizeDig ?_; exact HA3.out)
    | (refine wpList_store_arr rfl 59 _ _ rfl w.heap.size .u8 (fun _ => 0) (byF s) 32 rfl rfl ?_ sizeDig ?_; exact HA4.out))
  refine bodyPost_ret (results_arr2 Tryd.results29 _ _ w.heap.size .u8 (byF s) 32 _ _ rfl rfl (HA4.out.all _) Tryd.underlying59 rfl sizeDig) rfl ⟨rfl, ?_⟩
  exact below_setCells HB2.out _ (Nat.le_refl _) _ _
end Go.Proofs.YtkmalggeieiepabDoor
