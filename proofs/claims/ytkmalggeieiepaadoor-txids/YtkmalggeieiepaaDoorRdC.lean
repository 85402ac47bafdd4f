import Derived.Test.YtkmalggeieiepaaDoorRdB
import Derived.WalkKit
import Derived.WalkSpells
import Derived.WalkLawsBesides
import Derived.Deep.DeepCutAuto
namespace Go.Proofs.YtkmalggeieiepaaDoor
open Go.RowKit

/-- so many bytes follow a size's first. -/
def manyOf (c : UInt8) : Nat := if c = 253 then 2 else if c = 254 then 4 else if c = 255 then 8 else 0
def rSize (r : List UInt8 × Int) : Nat × (List UInt8 × Int) :=
  if r.2 ≠ 0 then (0, r)
  else match r.1 with
    | [] => (0, ([], 1))
    | c :: l =>
      if manyOf c = 0 then (c.toNat, (l, 0))
      else if l.length < manyOf c then (0, (l, 1))
      else (num (l.take (manyOf c)), (l.drop (manyOf c), if sizeL (num (l.take (manyOf c))) = c :: l.take (manyOf c) then 0 else 2))
theorem idx_one (c : UInt8) (W : World) : (Instr.index 9 (.string (ofL [c])) (.int .i64 0)).run Tryd.prog W = .ok (.int .u8 (c.toNat : Int)) W := by
  rw [run_index_string W 9 (ofL [c]) .i64 _ Tryd.underlying9, dif_pos ⟨by omega, by rw [ofL_size]; simp⟩]
  rfl

theorem text_ne {a b : ByteArray} (h : ¬ a = b) : (a.toList == b.toList) = false := by
  have k : ∀ s : ByteArray, s.toList = s.data.toList := fun s => by obtain ⟨⟨l⟩⟩ := s; simp
  rw [k, k, beq_eq_false_iff_ne]
  exact fun e => h (by rw [← ofL_of a, ← ofL_of b, e])
set_option maxRecDepth 10000 in
set_option maxHeartbeats 1000000 in
theorem size_any (g : Nat) (l : List UInt8) (e : Int) (w : World) (h : Rd w g l e) :
    Calls Tryd.prog 86 #[.pointer (some ⟨g, 0, none⟩)] w fun x w' => x = .returned (.int .u64 ((rSize (l, e)).1 : Int)) ∧ Rd w' g (rSize (l, e)).2.1 (rSize (l, e)).2.2 ∧ Mov g w w' := by
  have HR : Hid (Rd w g l e) := h
  clear h
  have hT := take_any g 1 l e w HR.out
  by_cases he : e = 0
  · subst he
    cases l with
    | nil =>
      have e1 : rTake 1 ([], 0) = ([], ([], 1)) := by simp [rTake]
      have e2 : rSize ([], 0) = (0, ([], 1)) := by simp [rSize]
      rw [e1] at hT
      rw [e2]
      go_enter Tryd.func86, Tryd.ntmps86
      go_upto_region 2 with (go_at_call 58; go_must (refine hT.mono ?_); rintro x w1 ⟨rfl, hr1, hm1⟩; have HR1 := (show Hid (Rd w1 g _ _) from hr1); have HM1 := (show Hid (Mov g w w1) from hm1); clear hr1 hm1)
      have d1 := HR1.out.e
      go_wp2
      go_ret
      exact ⟨rfl, HR1.out, HM1.out⟩
    | cons c l =>
      have e1 : rTake 1 (c :: l, 0) = ([c], (l, 0)) := by simp [rTake]
      rw [e1] at hT
      have hix := idx_one c
      by_cases hm : manyOf c = 0
      · have e2 : rSize (c :: l, 0) = (c.toNat, (l, 0)) := by simp [rSize, hm]
        rw [e2]
        have n1 : ¬ ((c.toNat : Int) = 253) := fun h => by
          have : c = 253 := by rw [← UInt8.toNat_inj]; simp; omega
          subst this; simp [manyOf] at hm
        have n2 : ¬ ((c.toNat : Int) = 254) := fun h => by
          have : c = 254 := by rw [← UInt8.toNat_inj]; simp; omega
          subst this; simp [manyOf] at hm
        have n3 : ¬ ((c.toNat : Int) = 255) := fun h => by
          have : c = 255 := by rw [← UInt8.toNat_inj]; simp; omega
          subst this; simp [manyOf] at hm
        have c0 : 0 ≤ (c.toNat : Int) := by omega
        have c1 : (c.toNat : Int) ≤ 255 := by have := c.toNat_lt; omega
        clear hm
        generalize (c.toNat : Int) = C at hix n1 n2 n3 c0 c1
        go_enter Tryd.func86, Tryd.ntmps86
        go_upto_region 2 with (go_at_call 58; go_must (refine hT.mono ?_); rintro x w1 ⟨rfl, hr1, hm1⟩; have HR1 := (show Hid (Rd w1 g _ _) from hr1); have HM1 := (show Hid (Mov g w w1) from hm1); clear hr1 hm1)
        have d1 := HR1.out.e
        go_wp2
        go_ret
        exact ⟨rfl, HR1.out, HM1.out⟩
      · have hc : (c = 253 ∧ manyOf c = 2) ∨ (c = 254 ∧ manyOf c = 4) ∨ (c = 255 ∧ manyOf c = 8) := by
          unfold manyOf at hm ⊢
          by_cases h1 : c = 253
          · simp [h1]
          · by_cases h2 : c = 254
            · simp [h2]
            · by_cases h3 : c = 255
              · simp [h3]
              · simp [h1, h2, h3] at hm
        have hm8 : manyOf c ≤ 8 := by omega
        have HT2 : Hid (∀ W : World, Rd W g l 0 → Calls Tryd.prog 58 #[.pointer (some ⟨g, 0, none⟩), .int .i64 (manyOf c : Int)] W fun x w' => x = .returned (.string (ofL (rTake (manyOf c) (l, 0)).1)) ∧ Rd w' g (rTake (manyOf c) (l, 0)).2.1 (rTake (manyOf c) (l, 0)).2.2 ∧ Mov g W w') := fun W hW => take_any g (manyOf c) l 0 W hW
        by_cases hlt : l.length < manyOf c
        · have e2 : rSize (c :: l, 0) = (0, (l, 1)) := by simp [rSize, hm, hlt]
          have e3 : rTake (manyOf c) (l, 0) = ([], (l, 1)) := by simp [rTake, hlt]
          have HN : Hid (∀ W : World, Calls Tryd.prog 93 #[.string (ofL [])] W fun x w' => x = .returned (.int .u64 0) ∧ w' = W) := fun W => number_any (ofL []) W (by simp [ofL_size])
          rw [e2]
          rw [e3] at HT2
          clear hlt hm hm8 e1 e2 e3
          rcases hc with ⟨rfl, hmm⟩ | ⟨rfl, hmm⟩ | ⟨rfl, hmm⟩
          all_goals
            rw [hmm] at HT2
            clear hmm
            go_enter Tryd.func86, Tryd.ntmps86
            go_upto_region 2 with (go_at_call 58; go_must (refine hT.mono ?_); rintro x w1 ⟨rfl, hr1, hm1⟩; have HR1 := (show Hid (Rd w1 g _ _) from hr1); have HM1 := (show Hid (Mov g w w1) from hm1); clear hr1 hm1)
            have d1 := HR1.out.e
            go_upto_region 14 with (go_at_call 58; go_must (refine (HT2.out _ HR1.out).mono ?_); rintro x w2 ⟨rfl, hr2, hm2⟩; have HR2 := (show Hid (Rd w2 g _ _) from hr2); have HM2 := (show Hid (Mov g w1 w2) from hm2); clear hr2 hm2 d1)
            have d2 := HR2.out.e
            go_wp2_with (go_at_call 93; go_must (refine (HN.out _).mono ?_); rintro x w3 ⟨rfl, rfl⟩)
            go_ret
            exact ⟨rfl, HR2.out, HM1.out.trans HM2.out⟩
        · have e3 : rTake (manyOf c) (l, 0) = (l.take (manyOf c), (l.drop (manyOf c), 0)) := by simp [rTake, hlt]
          have hul : (l.take (manyOf c)).length = manyOf c := by rw [List.length_take]; omega
          have HE : Hid (rSize (c :: l, 0) = (num (l.take (manyOf c)), (l.drop (manyOf c), if sizeL (num (l.take (manyOf c))) = c :: l.take (manyOf c) then 0 else 2))) := by show _ = _; simp [rSize, hm, hlt]
          rw [e3] at HT2
          generalize l.drop (manyOf c) = r at HT2 HE
          generalize l.take (manyOf c) = u at HT2 HE hul
          have hu8 : u.length ≤ 8 := by omega
          have hU : U64 (num u) := by
            have h1 := num_lt u
            have h2 : 256 ^ u.length ≤ 256 ^ 8 := Nat.pow_le_pow_right (by omega) hu8
            unfold U64; omega
          have HN : Hid (∀ W : World, Calls Tryd.prog 93 #[.string (ofL u)] W fun x w' => x = .returned (.int .u64 (num u : Int)) ∧ w' = W) := fun W => number_any (ofL u) W (by rw [ofL_size]; exact hu8)
          have HZ : Hid (∀ W : World, Calls Tryd.prog 39 #[.int .u64 (num u : Int)] W fun x w' => x = .returned (.string (ofL (sizeL (num u)))) ∧ Below W.heap.size W w') := fun W => Size_any (num u) W hU
          have hz1 : (ofL [c]).size = 1 := rfl
          have hz2 : (ofL u).size ≤ 8 := by rw [ofL_size]; exact hu8
          have hap := ofL_append [c] u
          obtain ⟨X, hX⟩ : ∃ X : Int, X = (num u : Int) := ⟨_, rfl⟩
          rw [← hX] at HN HZ
          have HX : Hid (X = (num u : Int)) := hX
          obtain ⟨Z, hZ⟩ : ∃ Z, Z = ofL (sizeL (num u)) := ⟨_, rfl⟩
          rw [← hZ] at HZ
          by_cases hsame : sizeL (num u) = c :: u
          · have hq : Z = ofL [c] ++ ofL u := by rw [hZ, hsame, hap]; rfl
            have e2 := HE.out
            rw [if_pos hsame] at e2
            rw [e2, ← hX]
            clear hlt hm hm8 e1 e2 e3 HE hX hZ hsame hap hul hu8 hU
            subst hq
            rcases hc with ⟨rfl, hmm⟩ | ⟨rfl, hmm⟩ | ⟨rfl, hmm⟩
            all_goals
              rw [hmm] at HT2
              clear hmm
              go_enter Tryd.func86, Tryd.ntmps86
              go_upto_region 2 with (go_at_call 58; go_must (refine hT.mono ?_); rintro x w1 ⟨rfl, hr1, hm1⟩; have HR1 := (show Hid (Rd w1 g _ _) from hr1); have HM1 := (show Hid (Mov g w w1) from hm1); clear hr1 hm1)
              have d1 := HR1.out.e
              go_upto_region 14 with (go_at_call 58; go_must (refine (HT2.out _ HR1.out).mono ?_); rintro x w2 ⟨rfl, hr2, hm2⟩; have HR2 := (show Hid (Rd w2 g _ _) from hr2); have HM2 := (show Hid (Mov g w1 w2) from hm2); clear hr2 hm2 d1)
              have d2 := HR2.out.e
              go_wp2_with (first | (go_at_call 93; go_must (refine (HN.out _).mono ?_); rintro x w3 ⟨rfl, rfl⟩) | (go_at_call 39; go_must (refine (HZ.out _).mono ?_); rintro x w3 ⟨rfl, hb3⟩; have HR3 := (show Hid (Rd w3 g _ _) from HR2.out.later hb3); have HM3 := (show Hid (Mov g _ w3) from Below.mov hb3 g); clear hb3 d2; have d3 := HR3.out.e))
              go_ret
              exact ⟨rfl, HR3.out, HM1.out.trans (HM2.out.trans HM3.out)⟩
          · have hq : (Z.toList == (ofL [c] ++ ofL u).toList) = false := text_ne (fun h => hsame (ofL_inj (by rw [← hZ, h, hap]; rfl)))
            have e2 := HE.out
            rw [if_neg hsame] at e2
            rw [e2, ← hX]
            clear hlt hm hm8 e1 e2 e3 HE hX hZ hsame hap hul hu8 hU
            have HW : Hid (∀ W : World, Rd W g r 0 → Calls Tryd.prog 60 #[.pointer (some ⟨g, 0, none⟩), .int .i64 2] W fun x w' => x = .returned (.tuple #[]) ∧ Rd w' g r 2 ∧ Mov g W w') := fun W hW => wrong_any g 2 r 0 W hW
            rcases hc with ⟨rfl, hmm⟩ | ⟨rfl, hmm⟩ | ⟨rfl, hmm⟩
            all_goals
              rw [hmm] at HT2
              clear hmm
              go_enter Tryd.func86, Tryd.ntmps86
              go_upto_region 2 with (go_at_call 58; go_must (refine hT.mono ?_); rintro x w1 ⟨rfl, hr1, hm1⟩; have HR1 := (show Hid (Rd w1 g _ _) from hr1); have HM1 := (show Hid (Mov g w w1) from hm1); clear hr1 hm1)
              have d1 := HR1.out.e
              go_upto_region 14 with (go_at_call 58; go_must (refine (HT2.out _ HR1.out).mono ?_); rintro x w2 ⟨rfl, hr2, hm2⟩; have HR2 := (show Hid (Rd w2 g _ _) from hr2); have HM2 := (show Hid (Mov g w1 w2) from hm2); clear hr2 hm2 d1)
              have d2 := HR2.out.e
              go_wp2_with (first | (go_at_call 93; go_must (refine (HN.out _).mono ?_); rintro x w3 ⟨rfl, rfl⟩) | (go_at_call 39; go_must (refine (HZ.out _).mono ?_); rintro x w3 ⟨rfl, hb3⟩; have HR3 := (show Hid (Rd w3 g _ _) from HR2.out.later hb3); have HM3 := (show Hid (Mov g _ w3) from Below.mov hb3 g); clear hb3 d2; have d3 := HR3.out.e) | (go_at_call 60; go_must (refine (HW.out _ HR3.out).mono ?_); rintro x w4 ⟨rfl, hr4, hm4⟩; have HR4 := (show Hid (Rd w4 g _ _) from hr4); have HM4 := (show Hid (Mov g w3 w4) from hm4); clear hr4 hm4))
              go_ret
              exact ⟨rfl, HR4.out, HM1.out.trans (HM2.out.trans (HM3.out.trans HM4.out))⟩
  · have e1 : rTake 1 (l, e) = ([], (l, e)) := by simp [rTake, he]
    have e2 : rSize (l, e) = (0, (l, e)) := by simp [rSize, he]
    rw [e1] at hT
    rw [e2]
    go_enter Tryd.func86, Tryd.ntmps86
    go_upto_region 2 with (go_at_call 58; go_must (refine hT.mono ?_); rintro x w1 ⟨rfl, hr1, hm1⟩; have HR1 := (show Hid (Rd w1 g _ _) from hr1); have HM1 := (show Hid (Mov g w w1) from hm1); clear hr1 hm1)
    have d1 := HR1.out.e
    go_wp2
    go_ret
    exact ⟨rfl, HR1.out, HM1.out⟩
end Go.Proofs.YtkmalggeieiepaaDoor
