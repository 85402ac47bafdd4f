import Derived.Test.YtkmalggeieiepabDoorRtA
namespace Go.Proofs.YtkmalggeieiepabDoor
open Go.RowKit

theorem rootL_t (d : ByteArray → ByteArray) : ∀ (n : Nat) (l : List ByteArray) (t : Bool), rootL d n l t = ((rootL d n l false).1, t || (rootL d n l false).2)
  | 0, l, t => by simp [rootL]
  | n + 1, l, t => by
    show (if 1 < l.length then rootL d n (upL d (evL l)) (t || twinL l) else (l.getD 0 ByteArray.empty, t)) = ((if 1 < l.length then rootL d n (upL d (evL l)) (false || twinL l) else (l.getD 0 ByteArray.empty, false)).1, t || (if 1 < l.length then rootL d n (upL d (evL l)) (false || twinL l) else (l.getD 0 ByteArray.empty, false)).2)
    by_cases h : 1 < l.length
    · rw [if_pos h, if_pos h, rootL_t d n _ (t || twinL l), rootL_t d n _ (false || twinL l)]
      simp [Bool.or_assoc]
    · rw [if_neg h, if_neg h]; simp
theorem rootF_t (d : ByteArray → ByteArray) (l : List ByteArray) (t : Bool) : rootF d l t = ((rootF d l false).1, t || (rootF d l false).2) := rootL_t d _ l t
theorem evL_even (l : List ByteArray) (h : l.length % 2 = 0) : evL l = l := by unfold evL; rw [if_neg (by omega)]
theorem upL_append (d : ByteArray → ByteArray) : ∀ a b : List ByteArray, a.length % 2 = 0 → upL d (a ++ b) = upL d a ++ upL d b
  | [], b, _ => rfl
  | [_], b, h => by simp at h
  | x :: y :: a, b, h => by
    show d (x ++ y) :: upL d (a ++ b) = d (x ++ y) :: (upL d a ++ upL d b)
    rw [upL_append d a b (by simp at h; omega)]
theorem twinL_append : ∀ a b : List ByteArray, a.length % 2 = 0 → twinL (a ++ b) = (twinL a || twinL b)
  | [], b, _ => rfl
  | [_], b, h => by simp at h
  | x :: y :: a, b, h => by
    show ((x.toList == y.toList) || twinL (a ++ b)) = (((x.toList == y.toList) || twinL a) || twinL b)
    rw [twinL_append a b (by simp at h; omega), Bool.or_assoc]
/-- the root of two lists. -/
theorem root_pow (d : ByteArray → ByteArray) : ∀ (k : Nat) (la lb : List ByteArray), la.length = 2 ^ k → lb.length = 2 ^ k →
    rootF d (la ++ lb) false = (d ((rootF d la false).1 ++ (rootF d lb false).1), ((rootF d la false).2 || (rootF d lb false).2) || ((rootF d la false).1.toList == (rootF d lb false).1.toList))
  | 0, la, lb, ha, hb => by
    match la, lb, ha, hb with
    | [x], [y], _, _ =>
      have h1 : rootF d [x] false = (x, false) := rootF_one d [x] false rfl
      have h2 : rootF d [y] false = (y, false) := rootF_one d [y] false rfl
      rw [h1, h2]
      show rootF d [x, y] false = _
      rw [rootF_up d [x, y] false (by simp), evL_even [x, y] (by simp)]
      show rootF d [d (x ++ y)] _ = _
      rw [rootF_one d [d (x ++ y)] _ rfl]
      simp [twinL]
  | k + 1, la, lb, ha, hb => by
    have p := Nat.one_le_two_pow (n := k)
    have e2 : 2 ^ (k + 1) = 2 * 2 ^ k := by rw [Nat.pow_succ]; omega
    rw [e2] at ha hb
    have ua : (upL d la).length = 2 ^ k := by rw [upL_length, ha]; omega
    have ub : (upL d lb).length = 2 ^ k := by rw [upL_length, hb]; omega
    have ih := root_pow d k (upL d la) (upL d lb) ua ub
    have ra : rootF d la false = ((rootF d (upL d la) false).1, twinL la || (rootF d (upL d la) false).2) := by
      rw [rootF_up d la false (by omega), evL_even la (by omega), rootF_t]; simp
    have rb : rootF d lb false = ((rootF d (upL d lb) false).1, twinL lb || (rootF d (upL d lb) false).2) := by
      rw [rootF_up d lb false (by omega), evL_even lb (by omega), rootF_t]; simp
    rw [rootF_up d (la ++ lb) false (by rw [List.length_append]; omega), evL_even (la ++ lb) (by rw [List.length_append]; omega), upL_append d la lb (by omega), twinL_append la lb (by omega), rootF_t, ih, ra, rb]
    generalize rootF d (upL d la) false = A
    generalize rootF d (upL d lb) false = B
    generalize twinL la = s
    generalize twinL lb = t
    generalize (A.1.toList == B.1.toList) = e
    obtain ⟨_, a⟩ := A
    obtain ⟨_, b⟩ := B
    cases s <;> cases t <;> cases a <;> cases b <;> cases e <;> rfl
/-- the last one doubled. -/
theorem root_odd (d : ByteArray → ByteArray) (l : List ByteArray) (z : ByteArray) (h1 : (l ++ [z]).length % 2 = 1) (h3 : 1 < (l ++ [z]).length) :
    rootF d (l ++ [z] ++ [z]) false = ((rootF d (l ++ [z]) false).1, true) := by
  have hl : l.length % 2 = 0 := by simp at h1; omega
  have e1 : evL (l ++ [z]) = l ++ [z] ++ [z] := by
    unfold evL; rw [if_pos h1]
    congr 2
    simp
  have e2 : evL (l ++ [z] ++ [z]) = l ++ [z] ++ [z] := evL_even _ (by simp; omega)
  have t2 : twinL (l ++ [z] ++ [z]) = true := by
    rw [List.append_assoc, twinL_append l _ hl]; simp [twinL]
  rw [rootF_up d (l ++ [z]) false h3, rootF_up d (l ++ [z] ++ [z]) false (by simp), e1, e2, t2, rootF_t d _ (false || true), rootF_t d _ (false || twinL (l ++ [z]))]
  simp
end Go.Proofs.YtkmalggeieiepabDoor
