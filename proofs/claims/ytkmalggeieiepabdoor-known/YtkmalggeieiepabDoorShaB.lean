import Derived.Test.YtkmalggeieiepabDoorShaA
import Derived.WalkKit
import Derived.WalkSpells
import Derived.WalkLawsBesides
import Derived.Deep.MidRow
import Derived.Deep.LoopGhost
import Derived.Deep.DeepCutAuto
import Derived.Deep.QuietTactic
import Derived.BigQuiet
namespace Go.Proofs.YtkmalggeieiepabDoor
open Go.RowKit

/-- a word out of bytes, the highest first: the first m. -/
def pt (b : Nat → Nat) (j : Nat) : Nat → Nat
  | 0 => 0
  | m + 1 => pt b j m * 256 + b (4 * j + m)
theorem pt_lt (b : Nat → Nat) (hb : ∀ j, b j < 256) (j m : Nat) : pt b j m < 256 ^ m := by
  induction m with
  | zero => simp [pt]
  | succ m ih => have := hb (4 * j + m); simp only [pt, Nat.pow_succ]; omega
def sg0 (x : Int) : Int := bits .xor .u32 (bits .xor .u32 (rr 7 x) (rr 18 x)) (x / 8)
def sg1 (x : Int) : Int := bits .xor .u32 (bits .xor .u32 (rr 17 x) (rr 19 x)) (x / 1024)
/-- the words of a block. -/
def Wd (b : Nat → Nat) (t : Nat) : Int :=
  if _h : t < 16 then (pt b t 4 : Int) else (Wd b (t - 16) + sg0 (Wd b (t - 15)) + Wd b (t - 7) + sg1 (Wd b (t - 2))) % 4294967296
theorem Wd_lo (b : Nat → Nat) (t : Nat) (h : t < 16) : Wd b t = (pt b t 4 : Int) := by rw [Wd]; simp [h]
theorem Wd_hi (b : Nat → Nat) (t : Nat) (h : ¬ t < 16) : Wd b t = (Wd b (t - 16) + sg0 (Wd b (t - 15)) + Wd b (t - 7) + sg1 (Wd b (t - 2))) % 4294967296 := by rw [Wd]; simp [h]
theorem Wd_ok (b : Nat → Nat) (hb : ∀ j, b j < 256) (t : Nat) : IsW (Wd b t) := by
  by_cases h : t < 16
  · rw [Wd_lo b t h]; have := pt_lt b hb t 4; have e : 256 ^ 4 = 4294967296 := by decide
    unfold IsW; omega
  · rw [Wd_hi b t h]; unfold IsW; omega
def byteI (b : Nat → Nat) (j : Nat) : Int := (b j : Int)

theorem or_add32 (N b : Int) (h0 : 0 ≤ N) (h1 : N < 16777216) (hb0 : 0 ≤ b) (hb : b ≤ 255) : bits .or .u32 (N * 256) b = N * 256 + b :=
  bits_join .u32 32 (by decide) (fun n h h' => by rw [IntKind.wrap_u32]; omega) 8 (N * 256) b (by omega) (by omega) (by omega) hb0 (by omega) (by omega)
theorem idx_arr {P : Program} (t e : TypeId) (n : Nat) (K : IntKind) (f : Nat → Int) (k : Nat) (AR : Array Value) (hAR : AR = (wl K f n).toArray) (w : World) (ht : P.underlying t = some (.array n e)) (he : P.underlying e = some (.int K)) (hk : k < n)
    (hs : (P.info? e).map (·.size) = some 1) :
    (Instr.index t (.agg AR) (.int .i64 k)).run P w = .ok (.int K (f k)) w := by
  subst hAR
  have hg : (wl K f n).toArray[k]? = some (.int K (f k)) := by simp [wl_get K f n k hk]
  cases hq : P.info? e with
  | none => simp [hq] at hs
  | some i =>
    have hs1 : i.size = 1 := by simpa [hq] using hs
    unfold Instr.index
    simp only [Sem.run_bind, run_underlying ht, asIntOf, Sem.run_pure, Result.andThen_ok]
    rw [if_pos ⟨by omega, by omega⟩]
    simp [Sem.run_bind, sizeOf, typeInfo, hq, hs1, part, isAgg, run_underlying he, hk, wl]

set_option maxRecDepth 10000 in
set_option maxHeartbeats 400000 in
theorem sched_any (b : Nat → Nat) (hb : ∀ j, b j < 256) (AR : Array Value) (HAR : Hid (AR = (wl .u8 (byteI b) 64).toArray)) (w : World) :
    Calls Tryd.prog 73 #[.agg AR] w fun e w' => e = .returned (.agg (wl .u32 (Wd b) 64).toArray) ∧ Below w.heap.size w w' := by
  go_enter Tryd.func73, Tryd.ntmps73
  go_upto_region 1 with fail
  go_cut [3] (fun p wx => p = .pointer (some ⟨w.heap.size + 2, 0, none⟩) ∧ Arr .u8 wx w.heap.size (byteI b) 64 ∧ Arr .u32 wx (w.heap.size + 1) (fun _ => 0) 64 ∧ Arr .u32 wx (w.heap.size + 2) (fun _ => 0) 64 ∧ Below w.heap.size w wx)
  case first =>
    go_wp2
    go_meet
    refine ⟨rfl, ?_, ?_, ?_, ?_⟩
    · exact ((Arr.new w _ 64 _ _ HAR.out).alloc (by omega) _).alloc (by omega) _
    · exact (Arr.newAt (w.alloc _) (fun _ => 0) 64 (w.heap.size + 1) _ _ (by rfl) (by simp)).alloc (by omega) _
    · exact (Arr.newAt ((w.alloc _).alloc _) (fun _ => 0) 64 (w.heap.size + 2) _ _ (by rfl) (by simp))
    · exact (((Below.refl _ _).alloc (Nat.le_refl _) _).alloc (by simp) _).alloc (by simp; omega) _
  case rest =>
  obtain ⟨rfl, hA, hB, hC, hbel⟩ := hcut
  have HA : Hid (Arr .u8 wc w.heap.size (byteI b) 64) := hA
  have HB : Hid (Arr .u32 wc (w.heap.size + 1) (fun _ => 0) 64) := hB
  have HC : Hid (Arr .u32 wc (w.heap.size + 2) (fun _ => 0) 64) := hC
  have HL : Hid (Below w.heap.size w wc) := hbel
  clear hA hB hC hbel
  go_upto_region 2 with fail
  go_wp2_with (refine wpList_load_arr rfl 100 _ rfl w.heap.size rfl .u8 (byteI b) 64 _ HA.out Tryd.underlying100 rfl (by kernel_rfl) ?_; rw [← HAR.out])
  clear HA
  go_loopg [10] 64 (fun g i wr => ∃ k : Nat, ∃ f : Nat → Int, k + g = 64 ∧ i = .int .i64 k ∧ (∀ j, j < 16 → f j = (pt b j (min 4 (k - 4 * j)) : Int)) ∧ (∀ j, 16 ≤ j → f j = 0) ∧ Arr .u32 wr (w.heap.size + 1) (fun _ => 0) 64 ∧ Arr .u32 wr (w.heap.size + 2) f 64 ∧ Below w.heap.size w wr)
  case atStart => exact ⟨0, fun _ => 0, rfl, rfl, fun j _ => by simp [pt], fun j _ => rfl, HB.out, HC.out, HL.out⟩
  case round =>
    clear HB HC HL
    obtain ⟨k, f, hkg, rfl, hlo, hhi, hB, hC, hbel⟩ := hrel
    have HB : Hid (Arr .u32 wr (w.heap.size + 1) (fun _ => 0) 64) := hB
    have HC : Hid (Arr .u32 wr (w.heap.size + 2) f 64) := hC
    have HL : Hid (Below w.heap.size w wr) := hbel
    have HLO : Hid (∀ j, j < 16 → f j = (pt b j (min 4 (k - 4 * j)) : Int)) := hlo
    have HHI : Hid (∀ j, 16 ≤ j → f j = 0) := hhi
    clear hB hbel hlo hhi
    by_cases hlt : k < 64
    · have hix := fun W : World => idx_arr (P := Tryd.prog) 100 5 64 .u8 (byteI b) k AR HAR.out W Tryd.underlying100 Tryd.underlying5 hlt (by kernel_rfl)
      obtain ⟨hcell, hfz⟩ := hC (k / 4) (by omega)
      clear hC
      have hq : f (k / 4) = (pt b (k / 4) (k % 4) : Int) := by rw [HLO.out (k / 4) (by omega)]; congr 2; omega
      rw [hq] at hcell
      have hp := pt_lt b hb (k / 4) (k % 4)
      have hp3 : 256 ^ (k % 4) ≤ 256 ^ 3 := Nat.pow_le_pow_right (by omega) (by omega)
      have e3 : 256 ^ 3 = 16777216 := by decide
      have hbk := hb k
      have HN : Hid ((pt b (k / 4) (k % 4 + 1) : Int) = (pt b (k / 4) (k % 4) : Int) * 256 + byteI b k) := by
        show ((pt b (k / 4) (k % 4) * 256 + b (4 * (k / 4) + k % 4) : Nat) : Int) = _
        rw [show 4 * (k / 4) + k % 4 = k by omega]; rfl
      have hN1 : (pt b (k / 4) (k % 4) : Int) < 16777216 := by omega
      have hN0 : 0 ≤ (pt b (k / 4) (k % 4) : Int) := by omega
      generalize (pt b (k / 4) (k % 4) : Int) = N at hcell HN hN1 hN0
      have hb0 : 0 ≤ byteI b k := by unfold byteI; omega
      have hb1 : byteI b k ≤ 255 := by unfold byteI; omega
      have HK : Hid (k + gk = 64) := hkg
      clear hp hp3 e3 hbk hq hkg hb
      have hk4 : k / 4 < 64 := by omega
      go_wp2
      go_roundg (gk - 1)
      case measure => have := HK.out; omega
      case rel =>
        have hkk := HK.out
        refine ⟨k + 1, upd f (k / 4) (N * 256 + byteI b k), by omega, by go_num, ?_, ?_, HB.out.far _ _ (by simp), ?_, HL.out.setCell (by simp) _⟩
        · intro j hj
          by_cases e : j = k / 4
          · subst e; rw [upd_same, ← HN.out, show min 4 (k + 1 - 4 * (k / 4)) = k % 4 + 1 by omega]
          · rw [upd_other _ _ _ _ e, HLO.out j hj, show min 4 (k + 1 - 4 * j) = min 4 (k - 4 * j) by omega]
        · intro j hj; rw [upd_other _ _ _ _ (by omega), HHI.out j hj]
        · rw [or_add32 N _ hN0 hN1 hb0 hb1]; exact HC.out.set (k / 4) hk4 _
    · go_upto_region 8 with fail
      have hk64 : k = 64 := by omega
      have HS : Hid (∀ j, j < 16 → f j = Wd b j) := fun j hj => by rw [HLO.out j hj, Wd_lo b j hj, hk64, show min 4 (64 - 4 * j) = 4 by omega]
      have HZ := HHI
      clear HLO hC hk64
      go_loopg [6] 48 (fun g i wr => ∃ t : Nat, ∃ f : Nat → Int, t + g = 64 ∧ 16 ≤ t ∧ i = .int .i64 t ∧ (∀ j, j < t → f j = Wd b j) ∧ Arr .u32 wr (w.heap.size + 1) (fun _ => 0) 64 ∧ Arr .u32 wr (w.heap.size + 2) f 64 ∧ Below w.heap.size w wr)
      case atStart => exact ⟨16, f, rfl, Nat.le_refl _, rfl, HS.out, HB.out, HC.out, HL.out⟩
      case round =>
        clear HB HC HL HS HZ HHI
        obtain ⟨t, f, htg, ht16, rfl, hf, hB, hC, hbel⟩ := hrel
        have HB : Hid (Arr .u32 wr (w.heap.size + 1) (fun _ => 0) 64) := hB
        have HC : Hid (Arr .u32 wr (w.heap.size + 2) f 64) := hC
        have HL : Hid (Below w.heap.size w wr) := hbel
        have HF : Hid (∀ j, j < t → f j = Wd b j) := hf
        have HT : Hid (t + gk = 64) := htg
        clear hB hbel
        by_cases hlt2 : t < 64
        · have c16 := (hC (t - 16) (by omega)).1
          have c15 := (hC (t - 15) (by omega)).1
          have c7 := (hC (t - 7) (by omega)).1
          have c2 := (hC (t - 2) (by omega)).1
          obtain ⟨c0, f0⟩ := hC t hlt2
          rw [hf _ (by omega)] at c16 c15 c7 c2
          have HN : Hid (Wd b t = (Wd b (t - 16) + sg0 (Wd b (t - 15)) + Wd b (t - 7) + sg1 (Wd b (t - 2))) % 4294967296) := Wd_hi b t (by omega)
          have w15 := Wd_ok b hb (t - 15)
          have w2 := Wd_ok b hb (t - 2)
          have t16 : (16 : Int) ≤ (t : Int) := by omega
          have t64 : (t : Int) < 64 := by omega
          clear hf hC htg hkg hb
          generalize Wd b (t - 16) = X16 at c16 HN
          generalize Wd b (t - 15) = X15 at c15 HN w15
          generalize Wd b (t - 7) = X7 at c7 HN
          generalize Wd b (t - 2) = X2 at c2 HN w2
          generalize f t = X0 at c0
          obtain ⟨w15a, w15b⟩ := w15
          obtain ⟨w2a, w2b⟩ := w2
          go_upto_region 10 with fail
          go_quiet (fail)
          go_upto_region 13 with (go_at_call 74; refine (rotl32_any _ _ _ (by omega) ?_).mono ?_; (first | exact ⟨w15a, w15b⟩ | exact ⟨w2a, w2b⟩); rintro e w' ⟨rfl, hw⟩; obtain rfl := hw.symm)
          go_region
          go_wp2
          go_roundg (gk - 1)
          case measure => have := HT.out; omega
          case rel =>
            have htt := HT.out
            refine ⟨t + 1, upd f t (Wd b t), by omega, by omega, by go_num, ?_, ?_, ?_, ?_⟩
            · intro j hj
              by_cases e : j = t
              · subst e; rw [upd_same]
              · rw [upd_other _ _ _ _ e, HF.out j (by omega)]
            · exact (HB.out.drewN (nq + 1)).far _ _ (by simp)
            · rw [HN.out]; exact (HC.out.drewN (nq + 1)).set t hlt2 _
            · exact (below_drewN HL.out (nq + 1)).setCell (by simp) _
        · go_upto_region 14 with fail
          have hfe : ∀ j, j < 64 → f j = Wd b j := fun j hj => hf j (by omega)
          have HC2 : Hid (Arr .u32 wr (w.heap.size + 2) (Wd b) 64) := HC.out.congr hfe
          go_wp2_with (first
            | (refine wpList_load_arr rfl 135 _ rfl (w.heap.size + 2) rfl .u32 (Wd b) 64 _ HC2.out Tryd.underlying135 rfl (by kernel_rfl) ?_)
            | (refine wpList_store_arr rfl 135 _ _ rfl (w.heap.size + 1) .u32 (fun _ => 0) (Wd b) 64 rfl rfl HB.out (by kernel_rfl) ?_))
          have hres := HB.out.all (Wd b)
          refine bodyPost_ret (v := .agg (wl .u32 (Wd b) 64).toArray) (results_arr Tryd.results73 _ _ (w.heap.size + 1) .u32 (Wd b) 64 _ rfl hres Tryd.underlying135 rfl (by kernel_rfl)) rfl ⟨rfl, ?_⟩
          exact below_setCells HL.out _ (by omega) _ _
end Go.Proofs.YtkmalggeieiepabDoor
