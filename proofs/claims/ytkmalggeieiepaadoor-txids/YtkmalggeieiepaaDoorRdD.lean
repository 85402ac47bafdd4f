import Derived.Test.YtkmalggeieiepaaDoorRdC
import Derived.WalkKit
import Derived.WalkSpells
import Derived.WalkLawsBesides
import Derived.Deep.DeepCutAuto
namespace Go.Proofs.YtkmalggeieiepaaDoor
open Go.RowKit

def rWithin (lo hi : Nat) (r : List UInt8 × Int) : Nat × (List UInt8 × Int) :=
  if (rSize r).2.2 ≠ 0 then (0, (rSize r).2) else if (rSize r).1 < lo ∨ hi < (rSize r).1 then (0, ((rSize r).2.1, 3)) else rSize r
def rDone (r : List UInt8 × Int) : List UInt8 × Int := if r.2 = 0 ∧ r.1 ≠ [] then (r.1, 5) else r

theorem rTake_le (n : Nat) (r : List UInt8 × Int) : (rTake n r).2.1.length ≤ r.1.length := by
  unfold rTake
  split
  · exact Nat.le_refl _
  · split
    · exact Nat.le_refl _
    · simp
theorem rSize_le (r : List UInt8 × Int) : (rSize r).2.1.length ≤ r.1.length := by
  obtain ⟨l, e⟩ := r
  unfold rSize
  split
  · exact Nat.le_refl _
  · cases l with
    | nil => exact Nat.le_refl _
    | cons c l =>
      show (if manyOf c = 0 then _ else _ : Nat × (List UInt8 × Int)).2.1.length ≤ _
      split
      · simp
      · split
        · simp
        · simp; omega
theorem rWithin_le (lo hi : Nat) (r : List UInt8 × Int) : (rWithin lo hi r).2.1.length ≤ r.1.length := by
  have h := rSize_le r
  unfold rWithin
  split
  · exact h
  · split
    · exact h
    · exact h
theorem rWithin_hi (lo hi : Nat) (r : List UInt8 × Int) : (rWithin lo hi r).1 ≤ hi := by
  unfold rWithin
  split
  · exact Nat.zero_le _
  · split
    · exact Nat.zero_le _
    · omega

set_option maxRecDepth 10000 in
set_option maxHeartbeats 1000000 in
theorem within_any (g lo hi : Nat) (l : List UInt8) (e : Int) (w : World) (h : Rd w g l e) (hlo : lo ≤ 1048576) (hhi : hi ≤ 1048576) :
    Calls Tryd.prog 59 #[.pointer (some ⟨g, 0, none⟩), .int .i64 (lo : Int), .int .i64 (hi : Int)] w fun x w' => x = .returned (.int .i64 ((rWithin lo hi (l, e)).1 : Int)) ∧ Rd w' g (rWithin lo hi (l, e)).2.1 (rWithin lo hi (l, e)).2.2 ∧ Mov g w w' := by
  have hS := size_any g l e w h
  have HE : Hid (rWithin lo hi (l, e) = if (rSize (l, e)).2.2 ≠ 0 then (0, (rSize (l, e)).2) else if (rSize (l, e)).1 < lo ∨ hi < (rSize (l, e)).1 then (0, ((rSize (l, e)).2.1, 3)) else rSize (l, e)) := rfl
  clear h
  generalize rSize (l, e) = p at hS HE
  obtain ⟨x, m, c⟩ := p
  obtain ⟨X, hX⟩ : ∃ X : Int, X = (x : Int) := ⟨_, rfl⟩
  have HX : Hid (X = (x : Int)) := hX
  have L0 : (0 : Int) ≤ (lo : Int) := by omega
  have L1 : (lo : Int) ≤ 1048576 := by omega
  have M0 : (0 : Int) ≤ (hi : Int) := by omega
  have M1 : (hi : Int) ≤ 1048576 := by omega
  have X0 : 0 ≤ X := by omega
  have HS : Hid (Calls Tryd.prog 86 #[.pointer (some ⟨g, 0, none⟩)] w fun x w' => x = .returned (.int .u64 X) ∧ Rd w' g m c ∧ Mov g w w') := by rw [hX]; exact hS
  clear hS
  by_cases hc : c = 0
  · subst hc
    have HW : Hid (∀ W : World, Rd W g m 0 → Calls Tryd.prog 60 #[.pointer (some ⟨g, 0, none⟩), .int .i64 3] W fun x w' => x = .returned (.tuple #[]) ∧ Rd w' g m 3 ∧ Mov g W w') := fun W hW => wrong_any g 3 m 0 W hW
    by_cases h1 : x < lo
    · have e2 : rWithin lo hi (l, e) = (0, (m, 3)) := by rw [HE.out]; simp [h1]
      rw [e2]
      have i1 : X < (lo : Int) := by omega
      clear h1 e2 HE hX
      generalize (lo : Int) = LO at *
      generalize (hi : Int) = HI at *
      go_enter Tryd.func59, Tryd.ntmps59
      go_upto_region 2 with (go_at_call 86; go_must (refine HS.out.mono ?_); rintro x w1 ⟨rfl, hr1, hm1⟩; have HR1 := (show Hid (Rd w1 g _ _) from hr1); have HM1 := (show Hid (Mov g w w1) from hm1); clear hr1 hm1)
      have d1 := HR1.out.e
      go_upto_region 4 with (go_at_call 60; go_must (refine (HW.out _ HR1.out).mono ?_); rintro x w4 ⟨rfl, hr4, hm4⟩; have HR4 := (show Hid (Rd w4 g _ _) from hr4); have HM4 := (show Hid (Mov g w1 w4) from hm4); clear hr4 hm4)
      have d4 := HR4.out.e
      go_wp2
      go_ret
      exact ⟨rfl, HR4.out, HM1.out.trans HM4.out⟩
    · by_cases h2 : hi < x
      · have e2 : rWithin lo hi (l, e) = (0, (m, 3)) := by rw [HE.out]; simp [h2]
        rw [e2]
        have i1 : (lo : Int) ≤ X := by omega
        have i2 : (hi : Int) < X := by omega
        clear h1 h2 e2 HE hX
        generalize (lo : Int) = LO at *
        generalize (hi : Int) = HI at *
        go_enter Tryd.func59, Tryd.ntmps59
        go_upto_region 2 with (go_at_call 86; go_must (refine HS.out.mono ?_); rintro x w1 ⟨rfl, hr1, hm1⟩; have HR1 := (show Hid (Rd w1 g _ _) from hr1); have HM1 := (show Hid (Mov g w w1) from hm1); clear hr1 hm1)
        have d1 := HR1.out.e
        go_upto_region 4 with (go_at_call 60; go_must (refine (HW.out _ HR1.out).mono ?_); rintro x w4 ⟨rfl, hr4, hm4⟩; have HR4 := (show Hid (Rd w4 g _ _) from hr4); have HM4 := (show Hid (Mov g w1 w4) from hm4); clear hr4 hm4)
        have d4 := HR4.out.e
        go_wp2
        go_ret
        exact ⟨rfl, HR4.out, HM1.out.trans HM4.out⟩
      · have e2 : rWithin lo hi (l, e) = (x, (m, 0)) := by rw [HE.out]; simp [h1, h2]
        rw [e2, ← hX]
        have i1 : (lo : Int) ≤ X := by omega
        have i2 : X ≤ (hi : Int) := by omega
        clear h1 h2 e2 HE hX
        generalize (lo : Int) = LO at *
        generalize (hi : Int) = HI at *
        go_enter Tryd.func59, Tryd.ntmps59
        go_upto_region 2 with (go_at_call 86; go_must (refine HS.out.mono ?_); rintro x w1 ⟨rfl, hr1, hm1⟩; have HR1 := (show Hid (Rd w1 g _ _) from hr1); have HM1 := (show Hid (Mov g w w1) from hm1); clear hr1 hm1)
        have d1 := HR1.out.e
        go_wp2
        go_ret
        exact ⟨rfl, HR1.out, HM1.out⟩
  · have e2 : rWithin lo hi (l, e) = (0, (m, c)) := by rw [HE.out]; simp [hc]
    rw [e2]
    clear e2 HE hX
    go_enter Tryd.func59, Tryd.ntmps59
    go_upto_region 2 with (go_at_call 86; go_must (refine HS.out.mono ?_); rintro x w1 ⟨rfl, hr1, hm1⟩; have HR1 := (show Hid (Rd w1 g _ _) from hr1); have HM1 := (show Hid (Mov g w w1) from hm1); clear hr1 hm1)
    have d1 := HR1.out.e
    go_wp2
    go_ret
    exact ⟨rfl, HR1.out, HM1.out⟩

set_option maxHeartbeats 1000000 in
theorem done_any (g : Nat) (l : List UInt8) (e : Int) (w : World) (h : Rd w g l e) :
    Calls Tryd.prog 29 #[.pointer (some ⟨g, 0, none⟩)] w fun x w' => x = .returned (.int .i64 (rDone (l, e)).2) ∧ Rd w' g (rDone (l, e)).1 (rDone (l, e)).2 ∧ Mov g w w' := by
  have HR : Hid (Rd w g l e) := h
  have d0 := h.e
  have d1 := h.s
  clear h
  by_cases he : e = 0
  · subst he
    cases l with
    | nil =>
      have e2 : rDone ([], 0) = ([], 0) := by simp [rDone]
      rw [e2]
      have hn : (ofL []).toList = [] := by
        have k : ∀ s : ByteArray, s.toList = s.data.toList := fun s => by obtain ⟨⟨l⟩⟩ := s; simp
        rw [k]; rfl
      go_enter Tryd.func29, Tryd.ntmps29
      go_wp2
      go_ret
      exact ⟨rfl, HR.out, Mov.refl g w⟩
    | cons c l =>
      have e2 : rDone (c :: l, 0) = (c :: l, 5) := by simp [rDone]
      rw [e2]
      have hn : ((ofL (c :: l)).toList.isEmpty) = false := by
        have k : ∀ s : ByteArray, s.toList = s.data.toList := fun s => by obtain ⟨⟨l⟩⟩ := s; simp
        rw [k]; rfl
      have hn2 : ((ofL (c :: l)).toList == (⟨#[]⟩ : ByteArray).toList) = false := text_ne (fun h => by have := congrArg ByteArray.size h; rw [ofL_size] at this; simp at this; exact absurd this (by simp [ByteArray.size]))
      have HW : Hid (Calls Tryd.prog 60 #[.pointer (some ⟨g, 0, none⟩), .int .i64 5] w fun x w' => x = .returned (.tuple #[]) ∧ Rd w' g (c :: l) 5 ∧ Mov g w w') := wrong_any g 5 (c :: l) 0 w HR.out
      go_enter Tryd.func29, Tryd.ntmps29
      go_upto_region 3 with (go_at_call 60; go_must (refine HW.out.mono ?_); rintro x w4 ⟨rfl, hr4, hm4⟩; have HR4 := (show Hid (Rd w4 g _ _) from hr4); have HM4 := (show Hid (Mov g w w4) from hm4); clear hr4 hm4)
      have d4 := HR4.out.e
      go_wp2
      go_ret
      exact ⟨rfl, HR4.out, HM4.out⟩
  · have e2 : rDone (l, e) = (l, e) := by simp [rDone, he]
    rw [e2]
    go_enter Tryd.func29, Tryd.ntmps29
    go_wp2
    go_ret
    exact ⟨rfl, HR.out, Mov.refl g w⟩
end Go.Proofs.YtkmalggeieiepaaDoor
