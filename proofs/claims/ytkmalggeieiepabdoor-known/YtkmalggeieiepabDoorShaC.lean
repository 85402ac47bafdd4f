import Derived.Test.YtkmalggeieiepabDoorShaB
import Derived.WalkKit
import Derived.WalkSpells
import Derived.WalkLawsBesides
import Derived.Deep.MidRow
import Derived.Deep.LoopGhost
import Derived.Deep.DeepCutAuto
import Derived.Deep.QuietTactic
import Derived.BigQuiet
namespace Go.Proofs.YtkmalggeieiepabDoor
open Go.RowKit

/-- eight numbers, as a function. -/
def mk8 (a b c d e f g h : Int) : Nat → Int
  | 0 => a
  | 1 => b
  | 2 => c
  | 3 => d
  | 4 => e
  | 5 => f
  | 6 => g
  | _ => h
/-- the table of the rounds lies in the variable's block. -/
def KT (Kc : Nat → Int) (w : World) : Prop := ∀ i, i < 64 → w.cell? ⟨0, i, none⟩ = some (.int .u32 (Kc i))
theorem KT.later {Kc : Nat → Int} {w w' : World} {B : Nat} (h : KT Kc w) (hb : Below B w w') (hB : 0 < B) : KT Kc w' := fun i hi => by
  rw [hb.cell (p := ⟨0, i, none⟩) hB]; exact h i hi

theorem Arr.set8 {w : World} {g : Nat} {v : Nat → Int} (h : Arr .u32 w g v 8) (a b c d e f i j : Int) :
    Arr .u32 ((((((((w.setCell ⟨g, 0, none⟩ (.int .u32 a)).setCell ⟨g, 1, none⟩ (.int .u32 b)).setCell ⟨g, 2, none⟩ (.int .u32 c)).setCell ⟨g, 3, none⟩ (.int .u32 d)).setCell ⟨g, 4, none⟩ (.int .u32 e)).setCell ⟨g, 5, none⟩ (.int .u32 f)).setCell ⟨g, 6, none⟩ (.int .u32 i)).setCell ⟨g, 7, none⟩ (.int .u32 j)) g (mk8 a b c d e f i j) 8 :=
  ((((((((h.set 0 (by omega) a).set 1 (by omega) b).set 2 (by omega) c).set 3 (by omega) d).set 4 (by omega) e).set 5 (by omega) f).set 6 (by omega) i).set 7 (by omega) j).congr (fun n hn => by
    match n, hn with
    | 0, _ => rfl
    | 1, _ => rfl
    | 2, _ => rfl
    | 3, _ => rfl
    | 4, _ => rfl
    | 5, _ => rfl
    | 6, _ => rfl
    | 7, _ => rfl)
theorem Arr.far8 {w : World} {K : IntKind} {n G : Nat} {v : Nat → Int} (h : Arr K w G v n) (g : Nat) (hne : g ≠ G) (a b c d e f i j : Int) :
    Arr K ((((((((w.setCell ⟨g, 0, none⟩ (.int .u32 a)).setCell ⟨g, 1, none⟩ (.int .u32 b)).setCell ⟨g, 2, none⟩ (.int .u32 c)).setCell ⟨g, 3, none⟩ (.int .u32 d)).setCell ⟨g, 4, none⟩ (.int .u32 e)).setCell ⟨g, 5, none⟩ (.int .u32 f)).setCell ⟨g, 6, none⟩ (.int .u32 i)).setCell ⟨g, 7, none⟩ (.int .u32 j)) G v n :=
  (((((((h.far _ _ hne).far _ _ hne).far _ _ hne).far _ _ hne).far _ _ hne).far _ _ hne).far _ _ hne).far _ _ hne
theorem below8 {B : Nat} {a0 w : World} (h : Below B a0 w) (g : Nat) (hg : B ≤ g) (a b c d e f i j : Int) :
    Below B a0 ((((((((w.setCell ⟨g, 0, none⟩ (.int .u32 a)).setCell ⟨g, 1, none⟩ (.int .u32 b)).setCell ⟨g, 2, none⟩ (.int .u32 c)).setCell ⟨g, 3, none⟩ (.int .u32 d)).setCell ⟨g, 4, none⟩ (.int .u32 e)).setCell ⟨g, 5, none⟩ (.int .u32 f)).setCell ⟨g, 6, none⟩ (.int .u32 i)).setCell ⟨g, 7, none⟩ (.int .u32 j)) :=
  (((((((h.setCell hg _).setCell hg _).setCell hg _).setCell hg _).setCell hg _).setCell hg _).setCell hg _).setCell hg _
def sS1 (x : Int) : Int := bits .xor .u32 (bits .xor .u32 (rr 6 x) (rr 11 x)) (rr 25 x)
def sS0 (x : Int) : Int := bits .xor .u32 (bits .xor .u32 (rr 2 x) (rr 13 x)) (rr 22 x)
def cH (e f g : Int) : Int := bits .xor .u32 (bits .and .u32 e f) (bits .and .u32 (bits .xor .u32 4294967295 e) g)
def mJ (a b c : Int) : Int := bits .xor .u32 (bits .xor .u32 (bits .and .u32 a b) (bits .and .u32 a c)) (bits .and .u32 b c)
def tX (K W : Int) (v : Nat → Int) : Int := v 7 + sS1 (v 4) + cH (v 4) (v 5) (v 6) + K + W
/-- one round. -/
def rndF (K W : Int) (v : Nat → Int) : Nat → Int := mk8 ((tX K W v + (sS0 (v 0) + mJ (v 0) (v 1) (v 2))) % 4294967296) (v 0) (v 1) (v 2) ((v 3 + tX K W v) % 4294967296) (v 4) (v 5) (v 6)
theorem rndF_ok (K W : Int) (v : Nat → Int) (h : ∀ j, IsW (v j)) : ∀ j, IsW (rndF K W v j) := by
  intro j
  have hm : ∀ x : Int, IsW (x % 4294967296) := fun x => by unfold IsW; omega
  match j with
  | 0 => exact hm _
  | 1 => exact h _
  | 2 => exact h _
  | 3 => exact h _
  | 4 => exact hm _
  | 5 => exact h _
  | 6 => exact h _
  | n + 7 => exact h _
def itF (Kc : Nat → Int) (b : Nat → Nat) (s : Nat → Int) : Nat → Nat → Int
  | 0 => s
  | k + 1 => rndF (Kc k) (Wd b k) (itF Kc b s k)
theorem itF_ok (Kc : Nat → Int) (b : Nat → Nat) (s : Nat → Int) (h : ∀ j, IsW (s j)) (k : Nat) : ∀ j, IsW (itF Kc b s k j) := by
  induction k with
  | zero => exact h
  | succ k ih => exact rndF_ok _ _ _ ih
/-- a block worked in. -/
def mixF (Kc : Nat → Int) (b : Nat → Nat) (s : Nat → Int) (j : Nat) : Int := (s j + itF Kc b s 64 j) % 4294967296
theorem mixF_ok (Kc : Nat → Int) (b : Nat → Nat) (s : Nat → Int) (j : Nat) : IsW (mixF Kc b s j) := by unfold IsW mixF; omega

set_option maxRecDepth 10000 in
set_option maxHeartbeats 1000000 in
theorem mix_any (Kc : Nat → Int) (s : Nat → Int) (b : Nat → Nat) (hb : ∀ j, b j < 256) (hs : ∀ j, IsW (s j)) (SR AR : Array Value) (HSR : Hid (SR = (wl .u32 s 8).toArray)) (HAR : Hid (AR = (wl .u8 (byteI b) 64).toArray)) (w : World) (hkt : KT Kc w) (hpos : 0 < w.heap.size) :
    Calls Tryd.prog 42 #[.agg SR, .agg AR] w fun e w' => e = .returned (.agg (wl .u32 (mixF Kc b s) 8).toArray) ∧ Below w.heap.size w w' := by
  have HKT : Hid (KT Kc w) := hkt
  clear hkt
  go_enter Tryd.func42, Tryd.ntmps42
  go_upto_region 0 with fail
  go_cut [2, 3, 4] (fun p2 p3 p4 wx => p2 = .pointer (some ⟨w.heap.size, 0, none⟩) ∧ p3 = .pointer (some ⟨w.heap.size + 1, 0, none⟩) ∧ p4 = .pointer (some ⟨w.heap.size + 2, 0, none⟩) ∧ Arr .u32 wx w.heap.size s 8 ∧ Arr .u8 wx (w.heap.size + 1) (byteI b) 64 ∧ Arr .u32 wx (w.heap.size + 2) (fun _ => 0) 8 ∧ Below w.heap.size w wx)
  case first =>
    go_wp2
    go_meet
    refine ⟨rfl, rfl, rfl, ?_, ?_, ?_, ?_⟩
    · exact ((Arr.new w _ 8 _ _ HSR.out).alloc (by omega) _).alloc (by omega) _
    · exact (Arr.newAt (w.alloc _) _ 64 (w.heap.size + 1) _ _ HAR.out (by simp)).alloc (by omega) _
    · exact (Arr.newAt ((w.alloc _).alloc _) (fun _ => 0) 8 (w.heap.size + 2) _ _ (by rfl) (by simp))
    · exact (((Below.refl _ _).alloc (Nat.le_refl _) _).alloc (by simp) _).alloc (by simp; omega) _
  case rest =>
  obtain ⟨rfl, rfl, rfl, hA, hB, hC, hbel⟩ := hcut
  have HA : Hid (Arr .u32 wc w.heap.size s 8) := hA
  have HB : Hid (Arr .u8 wc (w.heap.size + 1) (byteI b) 64) := hB
  have HC : Hid (Arr .u32 wc (w.heap.size + 2) (fun _ => 0) 8) := hC
  have HL : Hid (Below w.heap.size w wc) := hbel
  clear hA hB hC hbel
  go_upto_region 1 with fail
  go_cut [5] (fun p5 wx => ∃ g1, p5 = .pointer (some ⟨g1, 0, none⟩) ∧ w.heap.size + 2 < g1 ∧ Arr .u32 wx g1 (Wd b) 64 ∧ Arr .u32 wx w.heap.size s 8 ∧ Arr .u32 wx (w.heap.size + 2) (fun _ => 0) 8 ∧ Below w.heap.size w wx)
  case first =>
    go_wp2_with (first
      | (go_at_call 73; go_must (refine (sched_any b hb AR HAR _).mono ?_); rintro e w1 ⟨rfl, hb1⟩; have HB1 : Hid (Below wc.heap.size wc w1) := hb1; clear hb1)
      | (refine wpList_load_arr rfl 100 _ rfl (w.heap.size + 1) rfl .u8 (byteI b) 64 _ HB.out Tryd.underlying100 rfl (by kernel_rfl) ?_; rw [← HAR.out])
      | (refine wpList_store_arr rfl 135 _ _ rfl _ .u32 (fun _ => 0) (Wd b) 64 rfl rfl (Arr.new _ _ 64 _ _ (by rfl)) (by kernel_rfl) ?_))
    go_meet
    have l0 := HA.out.lt (by omega)
    have l2 := HC.out.lt (by omega)
    have l3 := HB1.out.size
    refine ⟨w1.heap.size, rfl, by omega, (Arr.new w1 (fun _ => 0) 64 _ _ (by rfl)).all (Wd b), ?_, ?_, ?_⟩
    · exact (((HA.out.later HB1.out l0).alloc (by omega) _).setsFar _ _ (by omega))
    · exact (((HC.out.later HB1.out l2).alloc (by omega) _).setsFar _ _ (by omega))
    · exact below_setCells (((HL.out.trans (HB1.out.mono (by omega))).alloc (by omega) _)) _ (by omega) _ _
  case rest =>
  clear HA HB HC HL
  obtain ⟨g1, rfl, hg1, hD, hA, hC, hbel⟩ := hcut
  have HD : Hid (Arr .u32 wc g1 (Wd b) 64) := hD
  have HA : Hid (Arr .u32 wc w.heap.size s 8) := hA
  have HC : Hid (Arr .u32 wc (w.heap.size + 2) (fun _ => 0) 8) := hC
  have HL : Hid (Below w.heap.size w wc) := hbel
  clear hA hC hD hbel
  go_upto_region 2 with fail
  go_cut [6] (fun p6 wx => ∃ g2, p6 = .pointer (some ⟨g2, 0, none⟩) ∧ g1 < g2 ∧ Arr .u32 wx g2 s 8 ∧ Arr .u32 wx g1 (Wd b) 64 ∧ Arr .u32 wx w.heap.size s 8 ∧ Arr .u32 wx (w.heap.size + 2) (fun _ => 0) 8 ∧ Below w.heap.size w wx)
  case first =>
    go_wp2_with (first
      | (refine wpList_load_arr rfl 99 _ rfl w.heap.size rfl .u32 s 8 _ HA.out Tryd.underlying99 rfl (by kernel_rfl) ?_)
      | (refine wpList_store_arr rfl 99 _ _ rfl _ .u32 (fun _ => 0) s 8 rfl rfl (Arr.new _ _ 8 _ _ (by rfl)) (by kernel_rfl) ?_))
    go_meet
    have l0 := HA.out.lt (by omega)
    have l1 := HD.out.lt (by omega)
    have l2 := HC.out.lt (by omega)
    refine ⟨wc.heap.size, rfl, by omega, (Arr.new wc (fun _ => 0) 8 _ _ (by rfl)).all s, ?_, ?_, ?_, ?_⟩
    · exact ((HD.out.alloc (by omega) _).setsFar _ _ (by omega))
    · exact ((HA.out.alloc (by omega) _).setsFar _ _ (by omega))
    · exact ((HC.out.alloc (by omega) _).setsFar _ _ (by omega))
    · exact below_setCells (HL.out.alloc (by omega) _) _ (by omega) _ _
  case rest =>
  clear HA HC HL HD
  obtain ⟨g2, rfl, hg2, hV, hD, hA, hC, hbel⟩ := hcut
  have HV : Hid (Arr .u32 wc g2 s 8) := hV
  have HD : Hid (Arr .u32 wc g1 (Wd b) 64) := hD
  have HA : Hid (Arr .u32 wc w.heap.size s 8) := hA
  have HC : Hid (Arr .u32 wc (w.heap.size + 2) (fun _ => 0) 8) := hC
  have HL : Hid (Below w.heap.size w wc) := hbel
  clear hA hC hD hV hbel
  obtain ⟨AW, HAW⟩ : ∃ A, Hid (A = (wl .u32 (Wd b) 64).toArray) := ⟨_, rfl⟩
  go_upto_region 3 with fail
  go_wp2_with (refine wpList_load_arr rfl 135 _ rfl g1 rfl .u32 (Wd b) 64 _ HD.out Tryd.underlying135 rfl (by kernel_rfl) ?_; rw [← HAW.out])
  clear HD
  go_loopg [19] 64 (fun g i wx => ∃ k : Nat, ∃ v : Nat → Int, k + g = 64 ∧ i = .int .i64 k ∧ v = itF Kc b s k ∧ Arr .u32 wx g2 v 8 ∧ Arr .u32 wx w.heap.size s 8 ∧ Arr .u32 wx (w.heap.size + 2) (fun _ => 0) 8 ∧ Below w.heap.size w wx)
  case atStart => exact ⟨0, s, rfl, rfl, rfl, HV.out, HA.out, HC.out, HL.out⟩
  case round =>
    clear HV HA HC HL
    obtain ⟨k, v, hkg, rfl, hv, hV, hA, hC, hbel⟩ := hrel
    have HV : Hid (Arr .u32 wr g2 v 8) := hV
    have HA : Hid (Arr .u32 wr w.heap.size s 8) := hA
    have HC : Hid (Arr .u32 wr (w.heap.size + 2) (fun _ => 0) 8) := hC
    have HL : Hid (Below w.heap.size w wr) := hbel
    have HK : Hid (k + gk = 64) := hkg
    have HVE : Hid (v = itF Kc b s k) := hv
    have hvo : ∀ j, IsW (v j) := by rw [hv]; exact itF_ok Kc b s hs k
    clear hA hC hbel hkg
    by_cases hlt : k < 64
    · have hix := fun W : World => idx_arr (P := Tryd.prog) 135 97 64 .u32 (Wd b) k AW HAW.out W Tryd.underlying135 Tryd.underlying97 hlt (by kernel_rfl)
      have hkc := (HKT.out.later HL.out hpos) k hlt
      obtain ⟨c0, f0⟩ := hV 0 (by omega)
      obtain ⟨c1, f1⟩ := hV 1 (by omega)
      obtain ⟨c2, f2⟩ := hV 2 (by omega)
      obtain ⟨c3, f3⟩ := hV 3 (by omega)
      obtain ⟨c4, f4⟩ := hV 4 (by omega)
      obtain ⟨c5, f5⟩ := hV 5 (by omega)
      obtain ⟨c6, f6⟩ := hV 6 (by omega)
      obtain ⟨c7, f7⟩ := hV 7 (by omega)
      have w0 := hvo 0
      have w4 := hvo 4
      have HE : Hid (itF Kc b s (k + 1) = mk8 (((v 7 + sS1 (v 4) + cH (v 4) (v 5) (v 6) + Kc k + Wd b k) + (sS0 (v 0) + mJ (v 0) (v 1) (v 2))) % 4294967296) (v 0) (v 1) (v 2) ((v 3 + (v 7 + sS1 (v 4) + cH (v 4) (v 5) (v 6) + Kc k + Wd b k)) % 4294967296) (v 4) (v 5) (v 6)) := by rw [hv]; rfl
      clear hV hv hvo
      obtain ⟨V2, HI2⟩ : ∃ V, Hid (V = itF Kc b s (k + 1)) := ⟨_, rfl⟩
      rw [← HI2.out] at HE
      generalize v 0 = x0 at c0 w0 HE
      generalize v 1 = x1 at c1 HE
      generalize v 2 = x2 at c2 HE
      generalize v 3 = x3 at c3 HE
      generalize v 4 = x4 at c4 w4 HE
      generalize v 5 = x5 at c5 HE
      generalize v 6 = x6 at c6 HE
      generalize v 7 = x7 at c7 HE
      generalize Wd b k = xw at hix HE
      generalize Kc k = xk at hkc HE
      have hsg : IntKind.u32.signed = false := rfl
      have hmx : IntKind.u32.max = 4294967295 := rfl
      go_upto_region 6 with fail
      go_quiet (((go_at_call 74; refine Calls.quiet_of_same (rotl32_any _ _ _ (by omega) w4))))
      go_upto_region 8 with fail
      go_quiet (fail)
      go_upto_region 9 with fail
      go_quiet (((go_at_call 74; refine (rotl32_any _ _ _ (by omega) w0).mono (fun e w' hh => ⟨hh.1, _, hh.2⟩))))
      go_upto_region 12 with fail
      go_wp2
      go_roundg (gk - 1)
      case measure => have := HK.out; omega
      case rel =>
        have hkk := HK.out
        refine ⟨k + 1, V2, by omega, by go_num, ?_, ?_, ?_, ?_, ?_⟩
        · exact HI2.out
        · rw [HE.out]; exact Arr.set8 (HV.out.drewN _) _ _ _ _ _ _ _ _
        · exact Arr.far8 (HA.out.drewN _) g2 (by omega) _ _ _ _ _ _ _ _
        · exact Arr.far8 (HC.out.drewN _) g2 (by omega) _ _ _ _ _ _ _ _
        · exact below8 (below_drewN HL.out _) g2 (by omega) _ _ _ _ _ _ _ _
    · go_upto_region 15 with fail
      have hk64 : k = 64 := by have := HK.out; omega
      have HV2 : Hid (Arr .u32 wr g2 (itF Kc b s 64) 8) := by have h := HV.out; rw [HVE.out, hk64] at h; exact h
      clear HV HVE hV hv hvo hk64
      go_loopg [110] 8 (fun g i wx => ∃ n : Nat, ∃ f : Nat → Int, n + g = 8 ∧ i = .int .i64 n ∧ (∀ j, j < n → f j = mixF Kc b s j) ∧ (∀ j, n ≤ j → f j = s j) ∧ Arr .u32 wx g2 (itF Kc b s 64) 8 ∧ Arr .u32 wx w.heap.size f 8 ∧ Arr .u32 wx (w.heap.size + 2) (fun _ => 0) 8 ∧ Below w.heap.size w wx)
      case atStart => exact ⟨0, s, rfl, rfl, fun j hj => by omega, fun j _ => rfl, HV2.out, HA.out, HC.out, HL.out⟩
      case round =>
        clear HV2 HA HC HL HK
        obtain ⟨n, f, hng, rfl, hlo, hhi, hV, hA, hC, hbel⟩ := hrel
        have HV : Hid (Arr .u32 wr g2 (itF Kc b s 64) 8) := hV
        have HA : Hid (Arr .u32 wr w.heap.size f 8) := hA
        have HC : Hid (Arr .u32 wr (w.heap.size + 2) (fun _ => 0) 8) := hC
        have HL : Hid (Below w.heap.size w wr) := hbel
        have HN : Hid (n + gk = 8) := hng
        have HLO : Hid (∀ j, j < n → f j = mixF Kc b s j) := hlo
        have HHI : Hid (∀ j, n ≤ j → f j = s j) := hhi
        by_cases hlt2 : n < 8
        · obtain ⟨ca, fa⟩ := hA n hlt2
          have cv := (hV n hlt2).1
          rw [hhi n (Nat.le_refl _)] at ca
          have HM : Hid (mixF Kc b s n = (s n + itF Kc b s 64 n) % 4294967296) := rfl
          have hn8 : (n : Int) < 8 := by omega
          clear hlo hhi hV hA hC hbel hng
          generalize s n = p1 at ca HM
          generalize itF Kc b s 64 n = p2 at cv HM
          go_upto_region 17 with fail
          go_region
          go_wp2
          go_roundg (gk - 1)
          case measure => have := HN.out; omega
          case rel =>
            have hnn := HN.out
            refine ⟨n + 1, upd f n (mixF Kc b s n), by omega, by go_num, ?_, ?_, ?_, ?_, ?_, ?_⟩
            · intro j hj
              by_cases e : j = n
              · subst e; rw [upd_same]
              · rw [upd_other _ _ _ _ e, HLO.out j (by omega)]
            · intro j hj; rw [upd_other _ _ _ _ (by omega), HHI.out j (by omega)]
            · exact (HV.out.far _ _ (by simp; omega)).drew
            · rw [HM.out]; exact (HA.out.set n hlt2 _).drew
            · exact (HC.out.far _ _ (by simp)).drew
            · exact (HL.out.setCell (by simp) _).drew
        · go_upto_region 19 with fail
          have hn8 : n = 8 := by have := HN.out; omega
          have HA2 : Hid (Arr .u32 wr w.heap.size (mixF Kc b s) 8) := HA.out.congr (fun j hj => hlo j (by omega))
          clear hlo hhi hV hA hC hbel hng hn8
          go_wp2_with (first
            | (refine wpList_load_arr rfl 99 _ rfl w.heap.size rfl .u32 (mixF Kc b s) 8 _ HA2.out Tryd.underlying99 rfl (by kernel_rfl) ?_)
            | (refine wpList_store_arr rfl 99 _ _ rfl (w.heap.size + 2) .u32 (fun _ => 0) (mixF Kc b s) 8 rfl rfl HC.out (by kernel_rfl) ?_))
          have hres := HC.out.all (mixF Kc b s)
          refine bodyPost_ret (v := .agg (wl .u32 (mixF Kc b s) 8).toArray) (results_arr Tryd.results42 _ _ (w.heap.size + 2) .u32 (mixF Kc b s) 8 _ rfl hres Tryd.underlying99 rfl (by kernel_rfl)) rfl ⟨rfl, ?_⟩
          exact below_setCells HL.out _ (by omega) _ _
end Go.Proofs.YtkmalggeieiepabDoor
