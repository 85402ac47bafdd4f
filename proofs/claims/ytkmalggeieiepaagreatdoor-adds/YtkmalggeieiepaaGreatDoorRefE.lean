import Derived.Test.YtkmalggeieiepaaGreatDoorRows
import Derived.Test.YtkmalggeieiepaaGreatDoorShaM
import Derived.WalkKit
import Derived.WalkSpells
import Derived.WalkLawsBesides
import Derived.Deep.LoopGhost
import Derived.Deep.DeepCutAuto
namespace Go.Proofs.YtkmalggeieiepaaGreatDoor
open Go.RowKit
set_option maxRecDepth 10000

/-- one number tried. -/
def stepP (l : List Int) (p : Int) : List Int := if l.all (fun q => p % q != 0) then l ++ [p] else l
/-- the primes below p. -/
def prs : Nat → List Int
  | 0 => []
  | n + 1 => if n < 2 then prs n else stepP (prs n) n
theorem stepP_len (l : List Int) (p : Int) : l.length ≤ (stepP l p).length := by unfold stepP; split <;> simp
theorem prs_mono (a b : Nat) (h : a ≤ b) : (prs a).length ≤ (prs b).length := by
  induction b with
  | zero => obtain rfl : a = 0 := by omega
            exact Nat.le_refl _
  | succ b ih =>
    by_cases e : a = b + 1
    · subst e; exact Nat.le_refl _
    · refine Nat.le_trans (ih (by omega)) ?_
      simp only [prs]; split
      · exact Nat.le_refl _
      · exact stepP_len _ _
theorem prs_311 : (prs 311).length = 63 := by kernel_rfl
theorem prs_312 : (prs 312).length = 64 := by kernel_rfl
theorem prs_bd (n : Nat) : ∀ q ∈ prs n, 2 ≤ q ∧ q < n := by
  induction n with
  | zero => intro q hq; simp [prs] at hq
  | succ n ih =>
    intro q hq
    simp only [prs] at hq
    by_cases e : n < 2
    · rw [if_pos e] at hq; have := ih q hq; omega
    · rw [if_neg e] at hq
      unfold stepP at hq
      split at hq
      · rcases List.mem_append.1 hq with h | h
        · have := ih q h; omega
        · simp at h; omega
      · have := ih q hq; omega
theorem prs_step (n : Nat) (h : 2 ≤ n) : prs (n + 1) = stepP (prs n) n := by simp only [prs]; rw [if_neg (by omega)]

def ivals (l : List Int) : List Value := l.map (Value.int .i64)
/-- a row of the call's own, read. -/
theorem own_cell {w : World} {base : Nat} {l : List Int} {g cap n : Nat} (h : w.ownsRow base 3 1 (.slice (some ⟨g, 0, none⟩) n cap) n (ivals l)) (hn : n = l.length) (j : Nat) (hj : j < l.length) : w.cell? ⟨g, j, none⟩ = some (.int .i64 (l.getD j 0)) := by
  obtain ⟨_, h2⟩ := h
  rcases h2 with ⟨hv, _⟩ | ⟨g', cap', cur, hv, _, hg, _, _, _, ht⟩
  · cases hv
  · injection hv with e1 e2 e3
    injection e1 with e4
    injection e4 with e5
    subst e5
    rw [cell_of_row w g j cur _ _ hg]
    have h3 : (cur.toList.take (n * 1))[j]? = (ivals l)[j]? := by rw [ht]
    rw [List.getElem?_take, if_pos (by omega)] at h3
    rw [← Array.getElem?_toList, h3]
    simp [ivals, hj]

theorem infoInt : (Tryz.prog.info? 3).map (fun i => (i.zero, i.size, i.bytes)) = some (some (.int .i64 0), 1, 8) := by kernel_rfl
theorem one_new (w : World) (x : Value) (T : Nat) : ∀ j u, [x][j]? = some u → (w.alloc (.cells #[x] T)).cell? ((⟨w.heap.size, 0, none⟩ : Addr).add j) = some u := by
  intro j u hj
  match j, hj with
  | 0, hj => simp at hj; subst hj; simp [Addr.add]
theorem one_cell (x : Int) : ∀ u ∈ [Value.int .i64 x], u.oneCell' = true := by
  intro u hu; simp at hu; subst hu; rfl
theorem ownBlock_ge {w : World} {base e size n : Nat} {v : Value} {xs : List Value} (h : w.ownsRow base e size v n xs) : ∀ k, v.ownBlock = some k → base ≤ k := by
  intro k hk
  rcases h.2 with ⟨rfl, _⟩ | ⟨g, cap, cur, rfl, hb, _⟩
  · simp [Value.ownBlock] at hk
  · simp [Value.ownBlock] at hk; omega

set_option maxHeartbeats 1000000 in
theorem primes_any (w : World) :
    Calls Tryz.prog 14 #[.int .i64 64] w fun e w' => ∃ v, e = .returned v ∧ w'.ownsRow w.heap.size 3 1 v 64 (ivals (prs 312)) ∧ Below w.heap.size w w' := by
  go_enter Tryz.func14, Tryz.ntmps14
  go_upto_region 3 with fail
  go_loopg [3, 4] 310 (fun g o t wx => ∃ p n : Nat, ∃ v : Value, p + g = 312 ∧ 2 ≤ p ∧ t = .int .i64 p ∧ v = o ∧ n = (prs p).length ∧ wx.ownsRow w.heap.size 3 1 v n (ivals (prs p)) ∧ (n = 0 → v = .slice none 0 0) ∧ Below w.heap.size w wx)
  case atStart => exact ⟨2, 0, _, rfl, by omega, rfl, rfl, rfl, World.ownsRow_nil _ _ _ _, fun _ => rfl, Below.refl _ _⟩
  case round =>
    obtain ⟨p, n, v, hp, hp2, rfl, rfl, hn, hown, hnil, hb⟩ := hrel
    have HP : Hid (p + gk = 312) := hp
    have HN : Hid (n = (prs p).length) := hn
    have HO : Hid (wr.ownsRow w.heap.size 3 1 v n (ivals (prs p))) := hown
    have HB : Hid (Below w.heap.size w wr) := hb
    obtain ⟨i0, hi, hz0, hz1, hz2⟩ := info_parts infoInt
    by_cases h0 : gk = 0
    · have hp312 : p = 312 := by omega
      subst hp312
      rw [prs_312] at hn
      subst hn
      obtain ⟨g, cap, rfl⟩ : ∃ g cap, v = .slice (some ⟨g, 0, none⟩) 64 cap := by
        rcases hown.2 with ⟨_, h⟩ | ⟨g, cap, cur, hv, _⟩
        · omega
        · exact ⟨g, cap, hv⟩
      clear hown hb hp
      go_wp2
      go_ret
      exact ⟨_, rfl, HO.out, HB.out⟩
    · have hp311 : p ≤ 311 := by omega
      have hlen : n < 64 := by rw [hn]; have := prs_mono p 311 hp311; rw [prs_311] at this; omega
      obtain ⟨G, hG0⟩ : ∃ G, G = gk := ⟨_, rfl⟩
      have HG : Hid (G = gk) := hG0
      clear hG0
      by_cases hz : n = 0
      · subst hz
        obtain rfl := hnil rfl
        have hnl : prs p = [] := List.eq_nil_of_length_eq_zero HN.out.symm
        have HALL : Hid ((prs p).all (fun q => (p : Int) % q != 0) = true) := by rw [hnl]; rfl
        clear hown hb hn hp hnil hnl
        go_upto_region 7 with fail
        go_loopg [5, 16] 0 (fun g2 f i wx => f = .bool true ∧ i = .int .i64 0 ∧ wx = wr)
        case atStart => exact ⟨rfl, rfl, rfl⟩
        case round =>
          obtain ⟨rfl, rfl, hw⟩ := hrel
          obtain rfl := hw.symm
          clear hw
          go_wp2_with (at_builtin; go_must (refine wpList_append_own _ rfl _ _ 36 rfl w.heap.size 3 i0 (.int .i64 0) 1 8 Tryz.underlying36 hi hz0 hz1 hz2 rfl (by decide) (.slice none 0 0) 0 (ivals (prs p)) rfl (HO.out.alloc _) ⟨wr.heap.size, 0, none⟩ 1 1 [.int .i64 (p : Int)] rfl rfl (one_new wr _ _) (one_cell _) (by unfold maxLen; omega) (by omega) (by have := HB.out.size; simp; omega) ?_); intro v' w1 hown' hgrow _; have HOW : Hid (w1.ownsRow w.heap.size 3 1 v' (0 + 1) (ivals (prs p) ++ [.int .i64 (p : Int)])) := hown'; have HGR : Hid (Below w.heap.size w w1) := (HB.out.alloc HB.out.size _).grown hgrow (by have := HB.out.size; simp; omega) (ownBlock_ge HO.out); clear hown' hgrow)
          go_roundg (G - 1)
          case measure => have := HP.out; have := HG.out; omega
          case rel =>
            have hpp := HP.out; have hgg := HG.out
            refine ⟨p + 1, 0 + 1, v', by omega, by omega, by go_num, rfl, ?_, ?_, fun h => by omega, HGR.out⟩
            · rw [prs_step p (by omega)]; unfold stepP; rw [if_pos HALL.out, List.length_append, ← HN.out]; rfl
            · rw [prs_step p (by omega)]; unfold stepP; rw [if_pos HALL.out]; simpa [ivals] using HOW.out
      · obtain ⟨g, cap, rfl⟩ : ∃ g cap, v = .slice (some ⟨g, 0, none⟩) n cap := by
          rcases hown.2 with ⟨_, h⟩ | ⟨g, cap, cur, hv, _⟩
          · omega
          · exact ⟨g, cap, hv⟩
        clear hown hb hn hp hnil
        go_upto_region 7 with fail
        go_loopg [5, 16] n (fun g2 f i wx => ∃ j : Nat, ∃ b : Bool, j + g2 = n ∧ i = .int .i64 j ∧ f = .bool b ∧ b = ((prs p).take j).all (fun q => (p : Int) % q != 0) ∧ wx = wr)
        case atStart => exact ⟨0, true, by omega, rfl, rfl, by simp, rfl⟩
        case round =>
          obtain ⟨j, b, hj, rfl, rfl, hbb, hw⟩ := hrel
          obtain rfl := hw.symm
          have HJ : Hid (j + gk = n) := hj
          have HBB : Hid (b = ((prs p).take j).all (fun q => (p : Int) % q != 0)) := hbb
          clear hj hbb hw
          by_cases hjn : j < n
          · have hjl : j < (prs p).length := by have := HN.out; omega
            have hc := own_cell HO.out HN.out j hjl
            have hq : (prs p).getD j 0 ∈ prs p := by rw [List.getD_eq_getElem?_getD, List.getElem?_eq_getElem hjl]; exact List.getElem_mem _
            have hqb := prs_bd p _ hq
            have HT : Hid (((prs p).take (j + 1)).all (fun q => (p : Int) % q != 0) = (b && ((p : Int) % (prs p).getD j 0 != 0))) := by
              show List.all _ _ = _
              rw [List.take_succ_eq_append_getElem hjl, List.all_append, ← HBB.out, List.getD_eq_getElem?_getD, List.getElem?_eq_getElem hjl]; simp
            generalize (prs p).getD j 0 = q at hc hqb HT
            obtain ⟨q2, qp⟩ := hqb
            clear hq
            cases b
            · go_wp2
              go_roundg (gk - 1)
              case measure => have := HJ.out; omega
              case rel =>
                have hjj := HJ.out
                exact ⟨j + 1, false, by omega, by go_num, rfl, by rw [HT.out]; rfl, rfl⟩
            · go_wp2
              go_roundg (gk - 1)
              case measure => have := HJ.out; omega
              case rel =>
                have hjj := HJ.out
                exact ⟨j + 1, _, by omega, by go_num, rfl, by rw [HT.out]; rfl, rfl⟩
          · have hall : b = (prs p).all (fun q => (p : Int) % q != 0) := by
              have h := HBB.out
              rw [List.take_of_length_le (by have := HN.out; have := HJ.out; omega)] at h
              exact h
            cases b
            · have HALL : Hid ((prs p).all (fun q => (p : Int) % q != 0) = false) := hall.symm
              clear hall HBB
              go_wp2
              go_roundg (G - 1)
              case measure => have := HP.out; have := HG.out; omega
              case rel =>
                have hpp := HP.out; have hgg := HG.out
                refine ⟨p + 1, n, _, by omega, by omega, by go_num, rfl, ?_, ?_, fun h => by omega, HB.out⟩
                · rw [prs_step p (by omega)]; unfold stepP; rw [if_neg (by rw [HALL.out]; simp)]; exact HN.out
                · rw [prs_step p (by omega)]; unfold stepP; rw [if_neg (by rw [HALL.out]; simp)]; exact HO.out
            · have HALL : Hid ((prs p).all (fun q => (p : Int) % q != 0) = true) := hall.symm
              clear hall HBB
              go_wp2_with (at_builtin; go_must (refine wpList_append_own _ rfl _ _ 36 rfl w.heap.size 3 i0 (.int .i64 0) 1 8 Tryz.underlying36 hi hz0 hz1 hz2 rfl (by decide) (.slice (some ⟨g, 0, none⟩) n cap) n (ivals (prs p)) rfl (HO.out.alloc _) ⟨wr.heap.size, 0, none⟩ 1 1 [.int .i64 (p : Int)] rfl rfl (one_new wr _ _) (one_cell _) (by unfold maxLen; omega) (by omega) (by have := HB.out.size; simp; omega) ?_); intro v' w1 hown' hgrow _; have HOW : Hid (w1.ownsRow w.heap.size 3 1 v' (n + 1) (ivals (prs p) ++ [.int .i64 (p : Int)])) := hown'; have HGR : Hid (Below w.heap.size w w1) := (HB.out.alloc HB.out.size _).grown hgrow (by have := HB.out.size; simp; omega) (ownBlock_ge HO.out); clear hown' hgrow)
              go_roundg (G - 1)
              case measure => have := HP.out; have := HG.out; omega
              case rel =>
                have hpp := HP.out; have hgg := HG.out
                refine ⟨p + 1, n + 1, v', by omega, by omega, by go_num, rfl, ?_, ?_, fun h => by omega, HGR.out⟩
                · rw [prs_step p (by omega)]; unfold stepP; rw [if_pos HALL.out, List.length_append, ← HN.out]; rfl
                · rw [prs_step p (by omega)]; unfold stepP; rw [if_pos HALL.out]; simpa [ivals] using HOW.out
end Go.Proofs.YtkmalggeieiepaaGreatDoor
