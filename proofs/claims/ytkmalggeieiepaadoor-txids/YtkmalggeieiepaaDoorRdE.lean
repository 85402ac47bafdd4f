import Derived.Test.YtkmalggeieiepaaDoorRdD
import Derived.WalkKit
import Derived.WalkSpells
import Derived.WalkLawsBesides
import Derived.Deep.LoopGhost
import Derived.Deep.DeepCutAuto
namespace Go.Proofs.YtkmalggeieiepaaDoor
open Go.RowKit

/-- a script, whose size is told ahead. -/
def rScript (r : List UInt8 × Int) : List UInt8 × Int := (rTake (rWithin 0 40 r).1 (rWithin 0 40 r).2).2
def rIn (r : List UInt8 × Int) : List UInt8 × Int := (rTake 4 (rScript (rTake 36 r).2)).2
def rOut (r : List UInt8 × Int) : List UInt8 × Int := rScript (rTake 8 r).2
def rep (f : List UInt8 × Int → List UInt8 × Int) : Nat → List UInt8 × Int → List UInt8 × Int
  | 0, r => r
  | n + 1, r => rep f n (f r)
def rIns (r : List UInt8 × Int) : List UInt8 × Int := rep rIn (rWithin 1 4 r).1 (rWithin 1 4 r).2
def rOuts (r : List UInt8 × Int) : List UInt8 × Int := rep rOut (rWithin 1 4 r).1 (rWithin 1 4 r).2
def rTx (r : List UInt8 × Int) : List UInt8 × Int := (rTake 4 (rOuts (rIns (rTake 4 r).2))).2
theorem rScript_le (r : List UInt8 × Int) : (rScript r).1.length ≤ r.1.length := Nat.le_trans (rTake_le _ _) (rWithin_le _ _ _)
theorem rIn_le (r : List UInt8 × Int) : (rIn r).1.length ≤ r.1.length := Nat.le_trans (rTake_le _ _) (Nat.le_trans (rScript_le _) (rTake_le _ _))
theorem rOut_le (r : List UInt8 × Int) : (rOut r).1.length ≤ r.1.length := Nat.le_trans (rScript_le _) (rTake_le _ _)
theorem rep_le (f : List UInt8 × Int → List UInt8 × Int) (hf : ∀ r, (f r).1.length ≤ r.1.length) (n : Nat) : ∀ r, (rep f n r).1.length ≤ r.1.length := by
  induction n with
  | zero => intro r; exact Nat.le_refl _
  | succ n ih => intro r; exact Nat.le_trans (ih _) (hf r)
theorem rTx_le (r : List UInt8 × Int) : (rTx r).1.length ≤ r.1.length :=
  Nat.le_trans (rTake_le _ _) (Nat.le_trans (rep_le rOut rOut_le _ _) (Nat.le_trans (rWithin_le _ _ _) (Nat.le_trans (rep_le rIn rIn_le _ _) (Nat.le_trans (rWithin_le _ _ _) (rTake_le _ _)))))

theorem take_p (g n : Nat) (r : List UInt8 × Int) (w : World) (h : Rd w g r.1 r.2) :
    Calls Tryd.prog 58 #[.pointer (some ⟨g, 0, none⟩), .int .i64 (n : Int)] w fun x w' => x = .returned (.string (ofL (rTake n r).1)) ∧ Rd w' g (rTake n r).2.1 (rTake n r).2.2 ∧ Mov g w w' := take_any g n r.1 r.2 w h
theorem within_p (g lo hi : Nat) (r : List UInt8 × Int) (w : World) (h : Rd w g r.1 r.2) (hlo : lo ≤ 1048576) (hhi : hi ≤ 1048576) :
    Calls Tryd.prog 59 #[.pointer (some ⟨g, 0, none⟩), .int .i64 (lo : Int), .int .i64 (hi : Int)] w fun x w' => x = .returned (.int .i64 ((rWithin lo hi r).1 : Int)) ∧ Rd w' g (rWithin lo hi r).2.1 (rWithin lo hi r).2.2 ∧ Mov g w w' := within_any g lo hi r.1 r.2 w h hlo hhi

set_option maxRecDepth 10000 in
set_option maxHeartbeats 2000000 in
theorem tx_any (g : Nat) (l : List UInt8) (e : Int) (w : World) (h : Rd w g l e) (hl : l.length ≤ maxLen) :
    Calls Tryd.prog 28 #[.pointer (some ⟨g, 0, none⟩)] w fun x w' => x = .returned (.string (ofL (l.take (l.length - (rTx (l, e)).1.length)))) ∧ Rd w' g (rTx (l, e)).1 (rTx (l, e)).2 ∧ Mov g w w' := by
  have HR : Hid (Rd w g l e) := h
  have d0 := h.s
  clear h
  go_enter Tryd.func28, Tryd.ntmps28
  go_upto_region 3 with (go_at_call 58; go_must (refine (take_p g 4 (l, e) _ HR.out).mono ?_); rintro x w1 ⟨rfl, hr1, hm1⟩; have HR1 := (show Hid (Rd w1 g (rTake 4 (l, e)).2.1 (rTake 4 (l, e)).2.2) from hr1); have HM1 := (show Hid (Mov g w w1) from hm1); clear hr1 hm1)
  obtain ⟨r1, E1⟩ : ∃ r, Hid (r = (rTake 4 (l, e)).2) := ⟨_, rfl⟩
  rw [← E1.out] at HR1
  go_upto_region 4 with (go_at_call 59; go_must (refine (within_p g 1 4 r1 _ HR1.out (by omega) (by omega)).mono ?_); rintro x w2 ⟨rfl, hr2, hm2⟩; have HR2 := (show Hid (Rd w2 g (rWithin 1 4 r1).2.1 (rWithin 1 4 r1).2.2) from hr2); have HM2 := (show Hid (Mov g w1 w2) from hm2); clear hr2 hm2)
  have HM12 : Hid (Mov g w w2) := HM1.out.trans HM2.out
  obtain ⟨R2, E2⟩ : ∃ R, Hid (R = rIns r1) := ⟨_, rfl⟩
  have EP : Hid (rep rIn (rWithin 1 4 r1).1 (rWithin 1 4 r1).2 = R2) := E2.out.symm
  have hn4 := rWithin_hi 1 4 r1
  clear HM1 HM2 HR1 HR
  generalize rWithin 1 4 r1 = p1 at HR2 EP hn4
  obtain ⟨n1, r2⟩ := p1
  have hn4' : n1 ≤ 4 := hn4
  clear hn4
  go_loopg [4] n1 (fun g' nv wx => ∃ r : List UInt8 × Int, nv = .int .i64 (g' : Int) ∧ g' ≤ 4 ∧ rep rIn g' r = R2 ∧ Rd wx g r.1 r.2 ∧ Mov g w wx)
  case atStart => exact ⟨r2, rfl, hn4', EP.out, HR2.out, HM12.out⟩
  case round =>
    clear HM12 HR2 EP hn4'
    obtain ⟨r, rfl, hg4, hrep, hrd, hmv⟩ := hrel
    have HRr : Hid (Rd wr g r.1 r.2) := hrd
    have HMr : Hid (Mov g w wr) := hmv
    have HRE : Hid (rep rIn gk r = R2) := hrep
    clear hrd hmv hrep
    by_cases h0 : gk = 0
    · subst h0
      go_upto_region 10 with (go_at_call 59; go_must (refine (within_p g 1 4 r _ HRr.out (by omega) (by omega)).mono ?_); rintro x w3 ⟨rfl, hr, hm⟩; have HR3 := (show Hid (Rd w3 g (rWithin 1 4 r).2.1 (rWithin 1 4 r).2.2) from hr); have HM3 := (show Hid (Mov g wr w3) from hm); clear hr hm)
      have HM13 : Hid (Mov g w w3) := HMr.out.trans HM3.out
      have hr2 : Hid (r = R2) := HRE.out
      rw [hr2.out] at HR3
      rw [hr2.out]
      obtain ⟨R3, E3⟩ : ∃ R, Hid (R = rOuts R2) := ⟨_, rfl⟩
      have EP : Hid (rep rOut (rWithin 1 4 R2).1 (rWithin 1 4 R2).2 = R3) := E3.out.symm
      have hn4 := rWithin_hi 1 4 R2
      clear HMr HM3 HRr HRE hr2
      generalize rWithin 1 4 R2 = p2 at HR3 EP hn4
      obtain ⟨n2, r3⟩ := p2
      have hn4' : n2 ≤ 4 := hn4
      clear hn4
      go_loopg [5] n2 (fun g' nv wx => ∃ r : List UInt8 × Int, nv = .int .i64 (g' : Int) ∧ g' ≤ 4 ∧ rep rOut g' r = R3 ∧ Rd wx g r.1 r.2 ∧ Mov g w wx)
      case atStart => exact ⟨r3, rfl, hn4', EP.out, HR3.out, HM13.out⟩
      case round =>
        clear HM13 HR3 EP hn4'
        obtain ⟨r, rfl, hg4, hrep, hrd, hmv⟩ := hrel
        have HRr : Hid (Rd wr g r.1 r.2) := hrd
        have HMr : Hid (Mov g w wr) := hmv
        have HRE : Hid (rep rOut gk r = R3) := hrep
        clear hrd hmv hrep
        by_cases h0 : gk = 0
        · subst h0
          have hr3 : Hid (r = R3) := HRE.out
          rw [hr3.out] at HRr
          go_upto_region 15 with (go_at_call 58; go_must (refine (take_p g 4 R3 _ HRr.out).mono ?_); rintro x w5 ⟨rfl, hr, hm⟩; have HR5 := (show Hid (Rd w5 g (rTake 4 R3).2.1 (rTake 4 R3).2.2) from hr); have HM5 := (show Hid (Mov g wr w5) from hm); clear hr hm)
          have HTX : Hid (rTx (l, e) = (rTake 4 R3).2) := by show _ = _; rw [E3.out, E2.out, E1.out]; rfl
          have hle := rTx_le (l, e)
          rw [HTX.out] at hle
          generalize (rTake 4 R3).2 = f at HR5 hle HTX
          obtain ⟨m, c⟩ := f
          have hle' : m.length ≤ l.length := hle
          have d5 : w5.cell? ⟨g, 0, none⟩ = some (.string (ofL m)) := HR5.out.s
          have z1 := ofL_size l
          have z2 := ofL_size m
          obtain ⟨D, hD⟩ : ∃ D, D = l.length - m.length := ⟨_, rfl⟩
          have hDi : (l.length : Int) - (m.length : Int) = (D : Int) := by omega
          have hw64 : wrap64 (D : Int) = (D : Int) := by unfold wrap64; unfold maxLen at hl; omega
          have x1 : (ofL l).extract 0 D = ofL (l.take D) := by rw [ofL_extract]; simp
          have hDl : (D : Int) ≤ (l.length : Int) := by omega
          have HFIN : Hid (Mov g w w5) := HMr.out.trans HM5.out
          have HD : Hid (D = l.length - m.length) := hD
          clear hle hle' HMr HM5 HRr HRE hr3 hD
          go_wp2
          go_ret
          rw [HTX.out]
          refine ⟨?_, HR5.out, HFIN.out⟩
          show _ = Ending.returned (.string (ofL (l.take (l.length - m.length))))
          rw [← HD.out]; rfl
        · obtain ⟨k, rfl⟩ : ∃ k, gk = k + 1 := ⟨gk - 1, by omega⟩
          have hk : (0 : Int) < ((k + 1 : Nat) : Int) := by omega
          go_upto_region 13 with (go_at_call 58; go_must (refine (take_p g 8 r _ HRr.out).mono ?_); rintro x wa ⟨rfl, hr, hm⟩; have HRa := (show Hid (Rd wa g (rTake 8 r).2.1 (rTake 8 r).2.2) from hr); have HMa := (show Hid (Mov g wr wa) from hm); clear hr hm)
          obtain ⟨ra, EA⟩ : ∃ R, Hid (R = (rTake 8 r).2) := ⟨_, rfl⟩
          rw [← EA.out] at HRa
          go_upto_region 11 with (first | (go_at_call 59; go_must (refine (within_p g 0 40 ra _ HRa.out (by omega) (by omega)).mono ?_); rintro x wb ⟨rfl, hr, hm⟩; have HRb := (show Hid (Rd wb g (rWithin 0 40 ra).2.1 (rWithin 0 40 ra).2.2) from hr); have HMb := (show Hid (Mov g wa wb) from hm); clear hr hm) | (go_at_call 58; go_must (refine (take_p g (rWithin 0 40 ra).1 (rWithin 0 40 ra).2 _ HRb.out).mono ?_); rintro x wd ⟨rfl, hr, hm⟩; have HRd := (show Hid (Rd wd g (rTake (rWithin 0 40 ra).1 (rWithin 0 40 ra).2).2.1 (rTake (rWithin 0 40 ra).1 (rWithin 0 40 ra).2).2.2) from hr); have HMd := (show Hid (Mov g wb wd) from hm); clear hr hm))
          go_wp2
          go_roundg k
          case measure => omega
          case rel =>
            refine ⟨rOut r, by go_num, by omega, HRE.out, ?_, HMr.out.trans (HMa.out.trans (HMb.out.trans HMd.out))⟩
            have e : rOut r = rScript ra := by rw [EA.out]; rfl
            rw [e]; exact HRd.out
    · obtain ⟨k, rfl⟩ : ∃ k, gk = k + 1 := ⟨gk - 1, by omega⟩
      have hk : (0 : Int) < ((k + 1 : Nat) : Int) := by omega
      go_upto_region 7 with (go_at_call 58; go_must (refine (take_p g 36 r _ HRr.out).mono ?_); rintro x wa ⟨rfl, hr, hm⟩; have HRa := (show Hid (Rd wa g (rTake 36 r).2.1 (rTake 36 r).2.2) from hr); have HMa := (show Hid (Mov g wr wa) from hm); clear hr hm)
      obtain ⟨ra, EA⟩ : ∃ R, Hid (R = (rTake 36 r).2) := ⟨_, rfl⟩
      rw [← EA.out] at HRa
      obtain ⟨pb, EB⟩ : ∃ R, Hid (R = rWithin 0 40 ra) := ⟨_, rfl⟩
      go_upto_region 8 with (first | (go_at_call 59; go_must (refine (within_p g 0 40 ra _ HRa.out (by omega) (by omega)).mono ?_); rintro x wb ⟨rfl, hr, hm⟩; have HRb := (show Hid (Rd wb g (rWithin 0 40 ra).2.1 (rWithin 0 40 ra).2.2) from hr); have HMb := (show Hid (Mov g wa wb) from hm); clear hr hm) | (go_at_call 58; go_must (refine (take_p g (rWithin 0 40 ra).1 (rWithin 0 40 ra).2 _ HRb.out).mono ?_); rintro x wd ⟨rfl, hr, hm⟩; have HRd := (show Hid (Rd wd g (rTake (rWithin 0 40 ra).1 (rWithin 0 40 ra).2).2.1 (rTake (rWithin 0 40 ra).1 (rWithin 0 40 ra).2).2.2) from hr); have HMd := (show Hid (Mov g wb wd) from hm); clear hr hm))
      obtain ⟨rd, ED⟩ : ∃ R, Hid (R = rScript ra) := ⟨_, rfl⟩
      have HRd2 : Hid (Rd wd g rd.1 rd.2) := by rw [ED.out]; exact HRd.out
      go_upto_region 5 with (go_at_call 58; go_must (refine (take_p g 4 rd _ HRd2.out).mono ?_); rintro x wf ⟨rfl, hr, hm⟩; have HRf := (show Hid (Rd wf g (rTake 4 rd).2.1 (rTake 4 rd).2.2) from hr); have HMf := (show Hid (Mov g wd wf) from hm); clear hr hm)
      go_wp2
      go_roundg k
      case measure => omega
      case rel =>
        refine ⟨rIn r, by go_num, by omega, HRE.out, ?_, HMr.out.trans (HMa.out.trans (HMb.out.trans (HMd.out.trans HMf.out)))⟩
        have e : rIn r = (rTake 4 rd).2 := by rw [ED.out, EA.out]; rfl
        rw [e]; exact HRf.out
end Go.Proofs.YtkmalggeieiepaaDoor
