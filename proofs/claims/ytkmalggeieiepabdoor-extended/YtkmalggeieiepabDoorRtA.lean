import Derived.Test.YtkmalggeieiepabDoorRows
import Derived.Test.YtkmalggeieiepabDoorShaM
import Derived.WalkKit
import Derived.WalkSpells
import Derived.WalkLawsBesides
import Derived.Deep.QuietTactic
import Derived.BigQuiet
import Derived.Deep.LoopGhost
import Derived.Deep.DeepCutAuto
import Derived.Deep.RegionLaw
import Derived.Deep.AppendLies
namespace Go.Proofs.YtkmalggeieiepabDoor
open Go.RowKit

def strV (l : List ByteArray) : List Value := l.map Value.string
/-- two that stand side by side are the same. -/
def twinL : List ByteArray → Bool
  | a :: b :: r => (a.toList == b.toList) || twinL r
  | _ => false
/-- the last one once more, where they are odd. -/
def evL (l : List ByteArray) : List ByteArray := if l.length % 2 = 1 then l ++ [l.getD (l.length - 1) ByteArray.empty] else l
/-- the next height. -/
def upL (dd : ByteArray → ByteArray) : List ByteArray → List ByteArray
  | a :: b :: r => dd (a ++ b) :: upL dd r
  | _ => []
def rootL (dd : ByteArray → ByteArray) : Nat → List ByteArray → Bool → ByteArray × Bool
  | 0, l, t => (l.getD 0 ByteArray.empty, t)
  | n + 1, l, t => if 1 < l.length then rootL dd n (upL dd (evL l)) (t || twinL l) else (l.getD 0 ByteArray.empty, t)
theorem upL_length (dd : ByteArray → ByteArray) : ∀ l : List ByteArray, (upL dd l).length = l.length / 2
  | [] => rfl
  | [_] => by simp [upL]
  | a :: b :: r => by simp only [upL, List.length_cons, upL_length dd r]; omega
theorem evL_length (l : List ByteArray) : (evL l).length = l.length + l.length % 2 := by
  unfold evL
  split
  · rename_i h; simp [h]
  · omega
theorem up_lt (dd : ByteArray → ByteArray) (l : List ByteArray) (h : 1 < l.length) : (upL dd (evL l)).length < l.length ∧ 0 < (upL dd (evL l)).length := by
  rw [upL_length, evL_length]; omega
theorem rootL_fuel (dd : ByteArray → ByteArray) : ∀ (n m : Nat) (l : List ByteArray) (t : Bool), l.length ≤ n + 1 → l.length ≤ m + 1 → rootL dd n l t = rootL dd m l t := by
  intro n
  induction n with
  | zero =>
    intro m l t h1 _
    cases m with
    | zero => rfl
    | succ m => show _ = if 1 < l.length then _ else _; rw [if_neg (by omega)]; rfl
  | succ n ih =>
    intro m l t h1 h2
    show (if 1 < l.length then _ else _) = _
    by_cases h : 1 < l.length
    · rw [if_pos h]
      cases m with
      | zero => omega
      | succ m =>
        show _ = if 1 < l.length then _ else _
        rw [if_pos h]
        have := (up_lt dd l h).1
        exact ih m _ _ (by omega) (by omega)
    · rw [if_neg h]
      cases m with
      | zero => rfl
      | succ m => show _ = if 1 < l.length then _ else _; rw [if_neg h]
/-- the root, and whether there are twins. -/
def rootF (dd : ByteArray → ByteArray) (l : List ByteArray) (t : Bool) : ByteArray × Bool := rootL dd l.length l t
theorem rootF_one (dd : ByteArray → ByteArray) (l : List ByteArray) (t : Bool) (h : l.length = 1) : rootF dd l t = (l.getD 0 ByteArray.empty, t) := by
  unfold rootF; rw [h]; show (if 1 < l.length then _ else _) = _; rw [if_neg (by omega)]
theorem rootF_up (dd : ByteArray → ByteArray) (l : List ByteArray) (t : Bool) (h : 1 < l.length) : rootF dd l t = rootF dd (upL dd (evL l)) (t || twinL l) := by
  unfold rootF
  obtain ⟨n, hn⟩ : ∃ n, l.length = n + 1 := ⟨l.length - 1, by omega⟩
  rw [hn]
  show (if 1 < l.length then _ else _) = _
  rw [if_pos h]
  have := (up_lt dd l h).1
  exact rootL_fuel dd _ _ _ _ (by omega) (by omega)
theorem twinL_drop (l : List ByteArray) (i : Nat) (h : i + 1 < l.length) : twinL (l.drop i) = ((l[i].toList == l[i + 1].toList) || twinL (l.drop (i + 2))) := by
  rw [List.drop_eq_getElem_cons (by omega), List.drop_eq_getElem_cons (i := i + 1) (by omega)]; rfl
theorem twinL_end (l : List ByteArray) (i : Nat) (h : l.length ≤ i + 1) : twinL (l.drop i) = false := by
  have hl : (l.drop i).length ≤ 1 := by rw [List.length_drop]; omega
  match l.drop i, hl with
  | [], _ => rfl
  | [_], _ => rfl
theorem upL_drop (dd : ByteArray → ByteArray) (l : List ByteArray) (i : Nat) (h : i + 1 < l.length) : upL dd (l.drop i) = dd (l[i] ++ l[i + 1]) :: upL dd (l.drop (i + 2)) := by
  rw [List.drop_eq_getElem_cons (by omega), List.drop_eq_getElem_cons (i := i + 1) (by omega)]; rfl
/-- texts lie in a row. -/
def SRow (w : World) (b o : Nat) (l : List ByteArray) : Prop := ∀ j (h : j < l.length), w.cell? ⟨b, o + j, none⟩ = some (.string l[j])
theorem SRow.later {w w' : World} {b o : Nat} {l : List ByteArray} {B : Nat} (h : SRow w b o l) (hb : Below B w w') (hB : b < B) : SRow w' b o l := fun j hj => by
  rw [hb.cell (p := ⟨b, o + j, none⟩) hB]; exact h j hj
theorem SRow.lt {w : World} {b o : Nat} {l : List ByteArray} (h : SRow w b o l) (hn : 0 < l.length) : b < w.heap.size := World.block_lt_of_cell? w _ (h 0 hn)
theorem infoStr : (Tryd.prog.info? 9).map (fun i => (i.zero, i.size, i.bytes)) = some (some (.string ByteArray.empty), 1, 16) := by kernel_rfl
theorem str_one (l : List ByteArray) : ∀ u ∈ strV l, u.oneCell' = true := by
  intro u hu; obtain ⟨s, _, rfl⟩ := List.mem_map.1 hu; rfl
theorem own_srow {w : World} {base e g cap n : Nat} {l : List ByteArray} (hn : l.length = n) (h : w.ownsRow base e 1 (.slice (some ⟨g, 0, none⟩) n cap) n (strV l)) : SRow w g 0 l := by
  obtain ⟨_, h2⟩ := h
  rcases h2 with ⟨hv, _⟩ | ⟨g', cap', cur, hv, _, hg, _, _, _, ht⟩
  · cases hv
  · injection hv with e1 e2 e3
    injection e1 with e4
    injection e4 with e5
    subst e5
    intro j hj
    rw [Nat.zero_add, cell_of_row w g j cur _ _ hg]
    have h3 : (cur.toList.take (n * 1))[j]? = (strV l)[j]? := by rw [ht]
    rw [List.getElem?_take, if_pos (by omega)] at h3
    rw [← Array.getElem?_toList, h3]
    simp [strV, hj]
theorem srow_news {w : World} {b o : Nat} {l : List ByteArray} (h : SRow w b o l) : ∀ j u, (strV l)[j]? = some u → w.cell? ((⟨b, o, none⟩ : Addr).add j) = some u := by
  intro j u hu
  have hj : j < l.length := by have := (List.getElem?_eq_some_iff.1 hu).1; simpa [strV] using this
  rw [Addr.add_mid, h j hj]
  simpa [strV, hj] using hu
end Go.Proofs.YtkmalggeieiepabDoor
