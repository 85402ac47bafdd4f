import Derived.Test.YtkmalggeieiepaaGreatDoorPxg
import Derived.Test.YtkmalggeieiepaaGreatDoorRefI
import Derived.Test.YtkmalggeieiepaaGreatDoorPxc
import Derived.WalkKit
import Derived.WalkSpells
import Derived.WalkLawsBesides
import Derived.Deep.LoopGhost
import Derived.Deep.DeepCutAuto
import Derived.Test.YtkmalggeieiepaaGreatDoorRows
import Derived.Test.YtkmalggeieiepaaGreatDoorTie
import Derived.Test.YtkmalggeieiepaaGreatDoorCards
import Derived.ProofKit
import Derived.OpenShut
import Derived.ShutString
import Derived.LaidMore
import Derived.Lib.LaidTab
import Derived.ChangeOld
import Derived.Below
import Derived.SevenTiedAt
import Derived.SizedLaws
import Derived.Deep.Slices
set_option linter.unusedSimpArgs false
set_option linter.unusedVariables false
namespace Go.Proofs.YtkmalggeieiepaaGreatDoor
open Go.RowKit

/-- a step: its kind, its receiver's number, its bytes. -/
structure Ops where
  k : Int
  a : Int
  s : ByteArray
def OpRow (w : World) (b o : Nat) (l : List Ops) : Prop := ∀ j x, l[j]? = some x → w.cell? ⟨b, o + 3 * j, none⟩ = some (.int .i64 x.k) ∧ w.cell? ⟨b, o + 3 * j + 1, none⟩ = some (.int .i64 x.a) ∧ w.cell? ⟨b, o + 3 * j + 2, none⟩ = some (.string x.s)
def tot (l : List Ops) (j : Nat) : Nat := l.length + ((l.take j).map fun x => x.s.size).sum
theorem tot_succ (l : List Ops) (j : Nat) (x : Ops) (h : l[j]? = some x) : tot l (j + 1) = tot l j + x.s.size := by
  have hj : j < l.length := (List.getElem?_eq_some_iff.1 h).1
  have e : l[j] = x := (List.getElem?_eq_some_iff.1 h).2
  unfold tot
  rw [List.take_succ_eq_append_getElem hj, List.map_append, List.sum_append, e]
  simp; omega
theorem tot_le (l : List Ops) (j : Nat) (hj : j ≤ l.length) : tot l j ≤ tot l l.length := by
  unfold tot
  have : l.take l.length = l.take j ++ l.drop j := by rw [List.take_length, List.take_append_drop]
  rw [this, List.map_append, List.sum_append]; omega
theorem tot_mem (l : List Ops) (j : Nat) (x : Ops) (h : l[j]? = some x) : x.s.size ≤ tot l l.length ∧ l.length ≤ tot l l.length := by
  have h1 := tot_succ l j x h
  have h2 := tot_le l (j + 1) (List.getElem?_eq_some_iff.1 h).1
  have h3 : l.length ≤ tot l l.length := by unfold tot; omega
  exact ⟨by omega, h3⟩
/-- what fits a step. -/
def Fits (l : List Ops) : Prop := ∀ x ∈ l, -9223372036854775808 ≤ x.k ∧ x.k ≤ 9223372036854775807 ∧ -9223372036854775808 ≤ x.a ∧ x.a ≤ 9223372036854775807 ∧ x.s.size ≤ 281474976710656

set_option maxRecDepth 10000 in
set_option maxHeartbeats 4000000 in
theorem small_any (l : List Ops) (a : Option Addr) (cap : Nat) (w : World) (hr : 0 < l.length → ∃ b o, a = some ⟨b, o, none⟩ ∧ OpRow w b o l ∧ b < w.heap.size) (hf : Fits l) (hl : l.length ≤ 281474976710656) :
    Calls Tryz.prog 9 #[.slice a l.length cap] w fun e w' => ∃ r, e = .returned (.bool r) ∧ (r = true → tot l l.length ≤ 1048576) ∧ Below w.heap.size w w' := by
  have HR : Hid (0 < l.length → ∃ b o, a = some ⟨b, o, none⟩ ∧ OpRow w b o l ∧ b < w.heap.size) := hr
  have HF : Hid (Fits l) := hf
  clear hr hf
  go_enter Tryz.func9, Tryz.ntmps9
  go_upto_region 3 with fail
  have h00 : tot l 0 = l.length := by simp [tot]
  go_loopg [3, 10, 5] l.length (fun g' nv iv _ wx => ∃ j : Nat, j + g' = l.length ∧ nv = .int .i64 (tot l j : Int) ∧ iv = .int .i64 (j : Int) ∧ (0 < j → tot l j ≤ 1048576) ∧ Below w.heap.size w wx)
  case atStart => exact ⟨0, by omega, by rw [h00], rfl, by omega, Below.refl _ _⟩
  case round =>
    obtain ⟨j, hjg, rfl, rfl, hj0, hb⟩ := hrel
    have HB : Hid (Below w.heap.size w wr) := hb
    have HJ : Hid (j + gk = l.length) := hjg
    by_cases hlt : j < l.length
    · obtain ⟨b, o, rfl, hrow, hbl⟩ := HR.out (by omega)
      obtain ⟨x, hx⟩ : ∃ x, l[j]? = some x := ⟨_, List.getElem?_eq_getElem hlt⟩
      obtain ⟨e0, e1, e2⟩ := hrow j x hx
      have d0 : wr.cell? ⟨b, o + j * 3, none⟩ = some (.int .i64 x.k) := by rw [hb.cell (p := ⟨b, o + j * 3, none⟩) hbl, Nat.mul_comm]; exact e0
      have d1 : wr.cell? ⟨b, o + j * 3 + 1, none⟩ = some (.int .i64 x.a) := by rw [hb.cell (p := ⟨b, o + j * 3 + 1, none⟩) hbl, Nat.mul_comm]; exact e1
      have d2 : wr.cell? ⟨b, o + j * 3 + 2, none⟩ = some (.string x.s) := by rw [hb.cell (p := ⟨b, o + j * 3 + 2, none⟩) hbl, Nat.mul_comm]; exact e2
      have hji : (j : Int) < (l.length : Int) := by omega
      obtain ⟨_, _, _, _, hsz⟩ := HF.out x (List.mem_of_getElem? hx)
      have hts := tot_succ l j x hx
      have htj : tot l j ≤ 281474976710656 := by
        by_cases h0 : 0 < j
        · have := hj0 h0; omega
        · obtain rfl : j = 0 := by omega
          rw [h00]; exact hl
      have HTS : Hid (tot l (j + 1) = tot l j + x.s.size) := hts
      have hsum : ((tot l j : Nat) : Int) + (x.s.size : Int) = ((tot l (j + 1) : Nat) : Int) := by rw [hts]; omega
      have hw : wrap64 ((tot l (j + 1) : Nat) : Int) = ((tot l (j + 1) : Nat) : Int) := by unfold wrap64; omega
      generalize x.k = xk at d0
      generalize x.a = xa at d1
      generalize x.s = xs at d2 hsum HTS hts hsz
      clear hrow hx hb hjg e0 e1 e2 hj0
      by_cases hgt : tot l (j + 1) ≤ 1048576
      · have hgi : ¬ ((1048576 : Int) < ((tot l (j + 1) : Nat) : Int)) := by omega
        have HGT : Hid (tot l (j + 1) ≤ 1048576) := hgt
        have HT1 : Hid (((tot l (j + 1) : Nat) : Int) = ((tot l (j + 1) : Nat) : Int)) := rfl
        generalize hT1 : ((tot l (j + 1) : Nat) : Int) = T1 at hsum hw hgi
        generalize hT0 : ((tot l j : Nat) : Int) = T0 at hsum
        have HT2 : Hid (((tot l (j + 1) : Nat) : Int) = T1) := hT1
        clear hT0 hT1 htj HT1 hts hgt hsz
        go_wp2
        go_roundg (gk - 1)
        case measure => have := HJ.out; omega
        case rel =>
          have := HJ.out
          exact ⟨j + 1, by omega, by rw [HT2.out], by go_num, fun _ => HGT.out, HB.out.trans ((Below.refl wr.heap.size wr).alloc (Nat.le_refl _) _ |>.mono HB.out.size)⟩
      · have hgi : (1048576 : Int) < ((tot l (j + 1) : Nat) : Int) := by omega
        generalize hT1 : ((tot l (j + 1) : Nat) : Int) = T1 at hsum hw hgi
        generalize hT0 : ((tot l j : Nat) : Int) = T0 at hsum
        clear hT0 hT1 htj hts hgt hsz
        go_wp2
        go_ret
        exact ⟨false, rfl, by simp, HB.out.trans ((Below.refl wr.heap.size wr).alloc (Nat.le_refl _) _ |>.mono HB.out.size)⟩
    · obtain rfl : j = l.length := by omega
      have hji : ¬ ((l.length : Int) < (l.length : Int)) := by omega
      clear hb hjg
      by_cases hle : tot l l.length ≤ 1048576
      · have hli : ((tot l l.length : Nat) : Int) ≤ 1048576 := by omega
        have HQ : Hid (tot l l.length ≤ 1048576) := hle
        generalize ((tot l l.length : Nat) : Int) = T1 at hli ⊢
        go_wp2
        go_ret
        first
          | exact HB.out
          | exact ⟨HQ.out, HB.out⟩
          | exact ⟨.inr rfl, HB.out⟩
          | exact ⟨.inr ⟨rfl, HQ.out⟩, HB.out⟩
          | exact ⟨_, rfl, fun _ => HQ.out, HB.out⟩
      · have hli : ¬ (((tot l l.length : Nat) : Int) ≤ 1048576) := by omega
        generalize ((tot l l.length : Nat) : Int) = T1 at hli ⊢
        go_wp2
        go_ret
        first
          | exact HB.out
          | exact ⟨rfl, HB.out⟩
          | exact ⟨_, rfl, by simp [hli], HB.out⟩

theorem step_any (W0 W : World) (gW gT : Nat) (own : Nat → Nat × Nat) (rv lv : Value) (ps : List Pr) (ls : List Lt) (S : Sc (dd kcR) W0 W gW gT own rv lv ps ls) (hkt : KT kcR W0) (hT : Tw (dd kcR) gT gW W0) (hg0 : 0 < gW) (x : Ops) (hk : x.k < 5) (hA1 : -9223372036854775808 ≤ x.a) (hA2 : x.a ≤ 9223372036854775807) (hs : x.s.size ≤ 1048576) (hpl : ps.length ≤ 1048576) (hll : ls.length ≤ 1048576) :
    Calls Tryz.prog 12 #[.pointer (some ⟨gW, 0, none⟩), .agg #[.int .i64 x.k, .int .i64 x.a, .string x.s]] W fun e w' => e = .returned (.bool true) ∧ ∃ own' rv' lv' ps' ls', Sc (dd kcR) W0 w' gW gT own' rv' lv' ps' ls' ∧ ps'.length ≤ ps.length + 1 ∧ ls'.length ≤ ls.length + 1 := by
  obtain ⟨k, a, s⟩ := x
  simp only at *
  by_cases h1 : k = 1
  · subst h1; exact step_new (dd kcR) W0 W gW gT own rv lv ps ls S a s hpl
  by_cases h2 : k = 2
  · subst h2; exact step_add kcR W0 W gW gT own rv lv ps ls S hkt hT hg0 a s hA1 hA2 hs hpl
  by_cases h3 : k = 3
  · subst h3; exact step_drop kcR W0 W gW gT own rv lv ps ls S hkt hT hg0 a s hA1 hA2 hs hpl
  by_cases h4 : k = 4
  · subst h4; exact step_ids kcR W0 W gW gT own rv lv ps ls S hT a s hA1 hA2 hpl hll
  exact step_oth kcR W0 W gW gT own rv lv ps ls S hT k h1 h2 h3 h4 hk a s hA1 hA2 hpl hll

/-- the state at first. -/
theorem Sc.first (dg : ByteArray → ByteArray) (w3 : World) (gT : Nat) : Sc dg (w3.alloc (.cells #[.pointer (some ⟨gT, 0, none⟩), .slice none 0 0, .slice none 0 0, .bool false] 33)) (w3.alloc (.cells #[.pointer (some ⟨gT, 0, none⟩), .slice none 0 0, .slice none 0 0, .bool false] 33)) w3.heap.size gT (fun k => if k = w3.heap.size then (1, 0) else (0, 0)) (.slice none 0 0) (.slice none 0 0) [] [] := by
  refine ⟨by simp [go_sem], by simp [go_sem], by simp [go_sem], by simp [go_sem], by simp [go_sem], by simp [go_sem], if_pos rfl, World.ownsRow_nil _ _ _ _, World.ownsRow_nil _ _ _ _, (fun b hb => by cases hb), (fun b hb => by cases hb), (fun i r hi => by simp at hi), (fun k x hk => by simp at hk), (fun k hk => ?_), Below.refl _ _⟩
  by_cases e : k = w3.heap.size
  · subst e; simp
  · exact absurd (if_neg e) hk

theorem tw_any (w3 W0 : World) (gT : Nat) (hT : HasTab w3 gT) (hb : Below w3.heap.size w3 W0) : Tw (dd kcR) gT w3.heap.size W0 := fun s W hs hW =>
  twice_of gT (fun t => strOf (shaF kcR t.data.toList) 32) (fun t => by rw [strOf_size]; omega) s W hs (fun t V ht hV => refSum_any gT t V ((hT.later (hb.trans hW)).later hV) ht)

set_option maxRecDepth 10000 in
set_option maxHeartbeats 8000000 in
theorem upto_add (l : List Ops) (a : Option Addr) (cap : Nat) (w : World) (hkt : KT kcR w) (hr : 0 < l.length → ∃ b o, a = some ⟨b, o, none⟩ ∧ OpRow w b o l ∧ b < w.heap.size) (hf : Fits l) (htot : tot l l.length ≤ 1048576) :
    Calls Tryz.prog 10 #[.slice a l.length cap, .int .i64 2] w fun e w' => e = .returned (.int .i64 (-1)) ∧ Below w.heap.size w w' := by
  have HR : Hid (0 < l.length → ∃ b o, a = some ⟨b, o, none⟩ ∧ OpRow w b o l ∧ b < w.heap.size) := hr
  have HF : Hid (Fits l) := hf
  have HTOT : Hid (tot l l.length ≤ 1048576) := htot
  have HKT : Hid (KT kcR w) := hkt
  have hpos : 0 < w.heap.size := World.block_lt_of_cell? w _ (hkt 0 (by omega))
  clear hr hf htot hkt
  go_enter Tryz.func10, Tryz.ntmps10
  go_upto_region 2 with (go_at_call 11; go_must (refine (newTables_has _).mono ?_); rintro e w3 ⟨rfl, ht3, hb3⟩; have HT3 := (show Hid (HasTab w3 w.heap.size) from ht3); have HB3 := (show Hid (Below w.heap.size w w3) from hb3); clear ht3 hb3)
  obtain ⟨W0, hW0⟩ : ∃ V, V = w3.alloc (.cells #[.pointer (some ⟨w.heap.size, 0, none⟩), .slice none 0 0, .slice none 0 0, .bool false] 33) := ⟨_, rfl⟩
  have hS0 := Sc.first (dd kcR) w3 w.heap.size
  rw [← hW0] at hS0 ⊢
  have hb30 : Below w3.heap.size w3 W0 := by rw [hW0]; exact (Below.refl _ _).alloc (Nat.le_refl _) _
  have HTW : Hid (Tw (dd kcR) w.heap.size w3.heap.size W0) := tw_any w3 W0 w.heap.size HT3.out hb30
  have HBW : Hid (Below w.heap.size w W0) := HB3.out.trans (hb30.mono HB3.out.size)
  have HKT0 : Hid (KT kcR W0) := HKT.out.later HBW.out hpos
  have hgs := HB3.out.size
  have HS0 : Hid (∃ own rv lv ps ls, Sc (dd kcR) W0 W0 w3.heap.size w.heap.size own rv lv ps ls ∧ ps.length ≤ 0 ∧ ls.length ≤ 0) := ⟨_, _, _, [], [], hS0, Nat.le_refl _, Nat.le_refl _⟩
  generalize w3.heap.size = gW at HTW HS0 hgs ⊢
  clear hW0 hS0 hb30 HT3 HB3 HKT
  go_upto_region 3 with fail
  go_loopg [14, 4, 6, 7, 8] l.length (fun g' iv rv4 _ _ _ wx => ∃ j : Nat, j + g' = l.length ∧ iv = .int .i64 (j : Int) ∧ (∃ own rv lv ps ls, Sc (dd kcR) W0 wx gW w.heap.size own rv lv ps ls ∧ ps.length ≤ j ∧ ls.length ≤ j))
  case atStart => exact ⟨0, by omega, rfl, HS0.out⟩
  case round =>
    clear HS0
    obtain ⟨j, hjg, rfl, hst⟩ := hrel
    have HST : Hid (∃ own rv lv ps ls, Sc (dd kcR) W0 wr gW w.heap.size own rv lv ps ls ∧ ps.length ≤ j ∧ ls.length ≤ j) := hst
    have HJ : Hid (j + gk = l.length) := hjg
    have HBR : Hid (Below w.heap.size w wr) := by
      obtain ⟨_, _, _, _, _, s1, _⟩ := hst
      exact HBW.out.trans (s1.bel.mono hgs)
    by_cases hlt : j < l.length
    · obtain ⟨b, o, rfl, hrow, hbl⟩ := HR.out (by omega)
      obtain ⟨x, hx⟩ : ∃ x, l[j]? = some x := ⟨_, List.getElem?_eq_getElem hlt⟩
      obtain ⟨e0, e1, e2⟩ := hrow j x hx
      have d0 : wr.cell? ⟨b, o + j * 3, none⟩ = some (.int .i64 x.k) := by rw [HBR.out.cell (p := ⟨b, o + j * 3, none⟩) hbl, Nat.mul_comm]; exact e0
      have d1 : wr.cell? ⟨b, o + j * 3 + 1, none⟩ = some (.int .i64 x.a) := by rw [HBR.out.cell (p := ⟨b, o + j * 3 + 1, none⟩) hbl, Nat.mul_comm]; exact e1
      have d2 : wr.cell? ⟨b, o + j * 3 + 2, none⟩ = some (.string x.s) := by rw [HBR.out.cell (p := ⟨b, o + j * 3 + 2, none⟩) hbl, Nat.mul_comm]; exact e2
      have hji : (j : Int) < (l.length : Int) := by omega
      obtain ⟨_, _, ha1, ha2, _⟩ := HF.out x (List.mem_of_getElem? hx)
      obtain ⟨ht1, ht2⟩ := tot_mem l j x hx
      have HSZ : Hid (x.s.size ≤ 1048576 ∧ l.length ≤ 1048576) := by have := HTOT.out; exact ⟨by omega, by omega⟩
      have hjb : j < 1048576 := by have := HSZ.out; omega
      obtain ⟨W5, hW5⟩ : ∃ V, V = wr.alloc (.cells #[.int .i64 x.k, .int .i64 x.a, .string x.s] 26) := ⟨_, rfl⟩
      have hb5 : Below wr.heap.size wr W5 := by rw [hW5]; exact (Below.refl _ _).alloc (Nat.le_refl _) _
      have y0 : W5.cell? ⟨wr.heap.size, 0, none⟩ = some (.int .i64 x.k) := by rw [hW5]; simp [go_sem]
      have y1 : W5.cell? ⟨wr.heap.size, 1, none⟩ = some (.int .i64 x.a) := by rw [hW5]; simp [go_sem]
      have y2 : W5.cell? ⟨wr.heap.size, 2, none⟩ = some (.string x.s) := by rw [hW5]; simp [go_sem]
      have HST5 : Hid (∃ own rv lv ps ls, Sc (dd kcR) W0 W5 gW w.heap.size own rv lv ps ls ∧ ps.length ≤ j ∧ ls.length ≤ j) := by
        obtain ⟨o1, r1, l1, p1, q1, s1, n1, n2⟩ := hst
        exact ⟨o1, r1, l1, p1, q1, s1.keep hb5, n1, n2⟩
      have HSTEP : Hid (x.k < 5 → Calls Tryz.prog 12 #[.pointer (some ⟨gW, 0, none⟩), .agg #[.int .i64 x.k, .int .i64 x.a, .string x.s]] W5 fun e w' => e = .returned (.bool true) ∧ ∃ own rv lv ps ls, Sc (dd kcR) W0 w' gW w.heap.size own rv lv ps ls ∧ ps.length ≤ j + 1 ∧ ls.length ≤ j + 1) := fun hk => by
        obtain ⟨o1, r1, l1, p1, q1, s1, n1, n2⟩ := HST5.out
        have := HSZ.out
        refine (step_any W0 W5 gW w.heap.size o1 r1 l1 p1 q1 s1 HKT0.out HTW.out (by omega) x hk ha1 ha2 this.1 (by omega) (by omega)).mono fun e w' hx => ?_
        obtain ⟨h1, o2, r2, l2, p2, q2, s2, m1, m2⟩ := hx
        exact ⟨h1, o2, r2, l2, p2, q2, s2, by omega, by omega⟩
      have HLK : Hid (∀ V, (∃ own rv lv ps ls, Sc (dd kcR) W0 V gW w.heap.size own rv lv ps ls ∧ ps.length ≤ j + 1 ∧ ls.length ≤ j + 1) → Calls Tryz.prog 13 #[.pointer (some ⟨gW, 0, none⟩)] V fun e w' => e = .returned (.bool true) ∧ Below V.heap.size V w') := fun V hV => by
        obtain ⟨o1, r1, l1, p1, q1, s1, n1, n2⟩ := hV
        have := HSZ.out
        exact looks_any _ W0 V gW w.heap.size o1 r1 l1 p1 q1 s1 (by omega)
      generalize x.k = xk at d0 y0 hW5 HSTEP
      generalize x.a = xa at d1 y1 hW5 HSTEP
      generalize x.s = xs at d2 y2 hW5 HSTEP
      clear hrow hx hst hjg e0 e1 e2 ha1 ha2 ht1 ht2 hb5 HSZ
      by_cases hk5 : xk < 5
      · have hki : ¬ ((5 : Int) ≤ xk) := by omega
        have hst5 := HSTEP.out hk5
        have HS5 : Hid (Calls Tryz.prog 12 #[.pointer (some ⟨gW, 0, none⟩), .agg #[.int .i64 xk, .int .i64 xa, .string xs]] W5 fun e w' => e = .returned (.bool true) ∧ ∃ own rv lv ps ls, Sc (dd kcR) W0 w' gW w.heap.size own rv lv ps ls ∧ ps.length ≤ j + 1 ∧ ls.length ≤ j + 1) := hst5
        clear hst5 HSTEP
        go_upto_region 5 with fail
        rw [← hW5]
        clear hW5 d0 d1 d2
        go_upto_region 6 with fail
        go_cut [8] (fun hv wx => (∃ t : Bool, hv = .bool t) ∧ wx = W5)
        case first =>
          go_wp2
          all_goals
            go_meet
            exact ⟨⟨_, rfl⟩, rfl⟩
        case rest =>
          obtain ⟨⟨tb, rfl⟩, hwc⟩ := hcut
          subst hwc
          go_wp2_with (first
            | (go_at_call 12; go_must (refine HS5.out.mono ?_); rintro e w6 ⟨rfl, hf6⟩; have HF6 := (show Hid (∃ own rv lv ps ls, Sc (dd kcR) W0 w6 gW w.heap.size own rv lv ps ls ∧ ps.length ≤ j + 1 ∧ ls.length ≤ j + 1) from hf6); clear hf6)
            | fail)
          go_roundg (gk - 1)
          case measure => have := HJ.out; omega
          case rel =>
            have := HJ.out
            exact ⟨j + 1, by omega, by go_num, HF6.out⟩
      · have hki : (5 : Int) ≤ xk := by omega
        clear HSTEP
        go_upto_region 5 with fail
        rw [← hW5]
        clear hW5 d0 d1 d2
        go_wp2
        go_roundg (gk - 1)
        case measure => have := HJ.out; omega
        case rel =>
          have := HJ.out
          obtain ⟨o1, r1, l1, p1, q1, s1, n1, n2⟩ := HST5.out
          exact ⟨j + 1, by omega, by go_num, o1, r1, l1, p1, q1, s1, by omega, by omega⟩
    · have hji : ¬ ((j : Int) < (l.length : Int)) := by omega
      clear hst hjg
      go_wp2
      go_ret
      exact ⟨rfl, HBR.out⟩

set_option maxRecDepth 10000 in
set_option maxHeartbeats 8000000 in
theorem upto_drop (l : List Ops) (a : Option Addr) (cap : Nat) (w : World) (hkt : KT kcR w) (hr : 0 < l.length → ∃ b o, a = some ⟨b, o, none⟩ ∧ OpRow w b o l ∧ b < w.heap.size) (hf : Fits l) (htot : tot l l.length ≤ 1048576) :
    Calls Tryz.prog 10 #[.slice a l.length cap, .int .i64 3] w fun e w' => e = .returned (.int .i64 (-1)) ∧ Below w.heap.size w w' := by
  have HR : Hid (0 < l.length → ∃ b o, a = some ⟨b, o, none⟩ ∧ OpRow w b o l ∧ b < w.heap.size) := hr
  have HF : Hid (Fits l) := hf
  have HTOT : Hid (tot l l.length ≤ 1048576) := htot
  have HKT : Hid (KT kcR w) := hkt
  have hpos : 0 < w.heap.size := World.block_lt_of_cell? w _ (hkt 0 (by omega))
  clear hr hf htot hkt
  go_enter Tryz.func10, Tryz.ntmps10
  go_upto_region 2 with (go_at_call 11; go_must (refine (newTables_has _).mono ?_); rintro e w3 ⟨rfl, ht3, hb3⟩; have HT3 := (show Hid (HasTab w3 w.heap.size) from ht3); have HB3 := (show Hid (Below w.heap.size w w3) from hb3); clear ht3 hb3)
  obtain ⟨W0, hW0⟩ : ∃ V, V = w3.alloc (.cells #[.pointer (some ⟨w.heap.size, 0, none⟩), .slice none 0 0, .slice none 0 0, .bool false] 33) := ⟨_, rfl⟩
  have hS0 := Sc.first (dd kcR) w3 w.heap.size
  rw [← hW0] at hS0 ⊢
  have hb30 : Below w3.heap.size w3 W0 := by rw [hW0]; exact (Below.refl _ _).alloc (Nat.le_refl _) _
  have HTW : Hid (Tw (dd kcR) w.heap.size w3.heap.size W0) := tw_any w3 W0 w.heap.size HT3.out hb30
  have HBW : Hid (Below w.heap.size w W0) := HB3.out.trans (hb30.mono HB3.out.size)
  have HKT0 : Hid (KT kcR W0) := HKT.out.later HBW.out hpos
  have hgs := HB3.out.size
  have HS0 : Hid (∃ own rv lv ps ls, Sc (dd kcR) W0 W0 w3.heap.size w.heap.size own rv lv ps ls ∧ ps.length ≤ 0 ∧ ls.length ≤ 0) := ⟨_, _, _, [], [], hS0, Nat.le_refl _, Nat.le_refl _⟩
  generalize w3.heap.size = gW at HTW HS0 hgs ⊢
  clear hW0 hS0 hb30 HT3 HB3 HKT
  go_upto_region 3 with fail
  go_loopg [14, 4, 6, 7, 8] l.length (fun g' iv rv4 _ _ _ wx => ∃ j : Nat, j + g' = l.length ∧ iv = .int .i64 (j : Int) ∧ (∃ own rv lv ps ls, Sc (dd kcR) W0 wx gW w.heap.size own rv lv ps ls ∧ ps.length ≤ j ∧ ls.length ≤ j))
  case atStart => exact ⟨0, by omega, rfl, HS0.out⟩
  case round =>
    clear HS0
    obtain ⟨j, hjg, rfl, hst⟩ := hrel
    have HST : Hid (∃ own rv lv ps ls, Sc (dd kcR) W0 wr gW w.heap.size own rv lv ps ls ∧ ps.length ≤ j ∧ ls.length ≤ j) := hst
    have HJ : Hid (j + gk = l.length) := hjg
    have HBR : Hid (Below w.heap.size w wr) := by
      obtain ⟨_, _, _, _, _, s1, _⟩ := hst
      exact HBW.out.trans (s1.bel.mono hgs)
    by_cases hlt : j < l.length
    · obtain ⟨b, o, rfl, hrow, hbl⟩ := HR.out (by omega)
      obtain ⟨x, hx⟩ : ∃ x, l[j]? = some x := ⟨_, List.getElem?_eq_getElem hlt⟩
      obtain ⟨e0, e1, e2⟩ := hrow j x hx
      have d0 : wr.cell? ⟨b, o + j * 3, none⟩ = some (.int .i64 x.k) := by rw [HBR.out.cell (p := ⟨b, o + j * 3, none⟩) hbl, Nat.mul_comm]; exact e0
      have d1 : wr.cell? ⟨b, o + j * 3 + 1, none⟩ = some (.int .i64 x.a) := by rw [HBR.out.cell (p := ⟨b, o + j * 3 + 1, none⟩) hbl, Nat.mul_comm]; exact e1
      have d2 : wr.cell? ⟨b, o + j * 3 + 2, none⟩ = some (.string x.s) := by rw [HBR.out.cell (p := ⟨b, o + j * 3 + 2, none⟩) hbl, Nat.mul_comm]; exact e2
      have hji : (j : Int) < (l.length : Int) := by omega
      obtain ⟨_, _, ha1, ha2, _⟩ := HF.out x (List.mem_of_getElem? hx)
      obtain ⟨ht1, ht2⟩ := tot_mem l j x hx
      have HSZ : Hid (x.s.size ≤ 1048576 ∧ l.length ≤ 1048576) := by have := HTOT.out; exact ⟨by omega, by omega⟩
      have hjb : j < 1048576 := by have := HSZ.out; omega
      obtain ⟨W5, hW5⟩ : ∃ V, V = wr.alloc (.cells #[.int .i64 x.k, .int .i64 x.a, .string x.s] 26) := ⟨_, rfl⟩
      have hb5 : Below wr.heap.size wr W5 := by rw [hW5]; exact (Below.refl _ _).alloc (Nat.le_refl _) _
      have y0 : W5.cell? ⟨wr.heap.size, 0, none⟩ = some (.int .i64 x.k) := by rw [hW5]; simp [go_sem]
      have y1 : W5.cell? ⟨wr.heap.size, 1, none⟩ = some (.int .i64 x.a) := by rw [hW5]; simp [go_sem]
      have y2 : W5.cell? ⟨wr.heap.size, 2, none⟩ = some (.string x.s) := by rw [hW5]; simp [go_sem]
      have HST5 : Hid (∃ own rv lv ps ls, Sc (dd kcR) W0 W5 gW w.heap.size own rv lv ps ls ∧ ps.length ≤ j ∧ ls.length ≤ j) := by
        obtain ⟨o1, r1, l1, p1, q1, s1, n1, n2⟩ := hst
        exact ⟨o1, r1, l1, p1, q1, s1.keep hb5, n1, n2⟩
      have HSTEP : Hid (x.k < 5 → Calls Tryz.prog 12 #[.pointer (some ⟨gW, 0, none⟩), .agg #[.int .i64 x.k, .int .i64 x.a, .string x.s]] W5 fun e w' => e = .returned (.bool true) ∧ ∃ own rv lv ps ls, Sc (dd kcR) W0 w' gW w.heap.size own rv lv ps ls ∧ ps.length ≤ j + 1 ∧ ls.length ≤ j + 1) := fun hk => by
        obtain ⟨o1, r1, l1, p1, q1, s1, n1, n2⟩ := HST5.out
        have := HSZ.out
        refine (step_any W0 W5 gW w.heap.size o1 r1 l1 p1 q1 s1 HKT0.out HTW.out (by omega) x hk ha1 ha2 this.1 (by omega) (by omega)).mono fun e w' hx => ?_
        obtain ⟨h1, o2, r2, l2, p2, q2, s2, m1, m2⟩ := hx
        exact ⟨h1, o2, r2, l2, p2, q2, s2, by omega, by omega⟩
      have HLK : Hid (∀ V, (∃ own rv lv ps ls, Sc (dd kcR) W0 V gW w.heap.size own rv lv ps ls ∧ ps.length ≤ j + 1 ∧ ls.length ≤ j + 1) → Calls Tryz.prog 13 #[.pointer (some ⟨gW, 0, none⟩)] V fun e w' => e = .returned (.bool true) ∧ Below V.heap.size V w') := fun V hV => by
        obtain ⟨o1, r1, l1, p1, q1, s1, n1, n2⟩ := hV
        have := HSZ.out
        exact looks_any _ W0 V gW w.heap.size o1 r1 l1 p1 q1 s1 (by omega)
      generalize x.k = xk at d0 y0 hW5 HSTEP
      generalize x.a = xa at d1 y1 hW5 HSTEP
      generalize x.s = xs at d2 y2 hW5 HSTEP
      clear hrow hx hst hjg e0 e1 e2 ha1 ha2 ht1 ht2 hb5 HSZ
      by_cases hk5 : xk < 5
      · have hki : ¬ ((5 : Int) ≤ xk) := by omega
        have hst5 := HSTEP.out hk5
        have HS5 : Hid (Calls Tryz.prog 12 #[.pointer (some ⟨gW, 0, none⟩), .agg #[.int .i64 xk, .int .i64 xa, .string xs]] W5 fun e w' => e = .returned (.bool true) ∧ ∃ own rv lv ps ls, Sc (dd kcR) W0 w' gW w.heap.size own rv lv ps ls ∧ ps.length ≤ j + 1 ∧ ls.length ≤ j + 1) := hst5
        clear hst5 HSTEP
        go_upto_region 5 with fail
        rw [← hW5]
        clear hW5 d0 d1 d2
        go_upto_region 6 with fail
        go_cut [8] (fun hv wx => (∃ t : Bool, hv = .bool t) ∧ wx = W5)
        case first =>
          go_wp2
          all_goals
            go_meet
            exact ⟨⟨_, rfl⟩, rfl⟩
        case rest =>
          obtain ⟨⟨tb, rfl⟩, hwc⟩ := hcut
          subst hwc
          go_wp2_with (first
            | (go_at_call 12; go_must (refine HS5.out.mono ?_); rintro e w6 ⟨rfl, hf6⟩; have HF6 := (show Hid (∃ own rv lv ps ls, Sc (dd kcR) W0 w6 gW w.heap.size own rv lv ps ls ∧ ps.length ≤ j + 1 ∧ ls.length ≤ j + 1) from hf6); clear hf6)
            | fail)
          go_roundg (gk - 1)
          case measure => have := HJ.out; omega
          case rel =>
            have := HJ.out
            exact ⟨j + 1, by omega, by go_num, HF6.out⟩
      · have hki : (5 : Int) ≤ xk := by omega
        clear HSTEP
        go_upto_region 5 with fail
        rw [← hW5]
        clear hW5 d0 d1 d2
        go_wp2
        go_roundg (gk - 1)
        case measure => have := HJ.out; omega
        case rel =>
          have := HJ.out
          obtain ⟨o1, r1, l1, p1, q1, s1, n1, n2⟩ := HST5.out
          exact ⟨j + 1, by omega, by go_num, o1, r1, l1, p1, q1, s1, by omega, by omega⟩
    · have hji : ¬ ((j : Int) < (l.length : Int)) := by omega
      clear hst hjg
      go_wp2
      go_ret
      exact ⟨rfl, HBR.out⟩

set_option maxRecDepth 10000 in
set_option maxHeartbeats 8000000 in
theorem upto_ids (l : List Ops) (a : Option Addr) (cap : Nat) (w : World) (hkt : KT kcR w) (hr : 0 < l.length → ∃ b o, a = some ⟨b, o, none⟩ ∧ OpRow w b o l ∧ b < w.heap.size) (hf : Fits l) (htot : tot l l.length ≤ 1048576) :
    Calls Tryz.prog 10 #[.slice a l.length cap, .int .i64 4] w fun e w' => e = .returned (.int .i64 (-1)) ∧ Below w.heap.size w w' := by
  have HR : Hid (0 < l.length → ∃ b o, a = some ⟨b, o, none⟩ ∧ OpRow w b o l ∧ b < w.heap.size) := hr
  have HF : Hid (Fits l) := hf
  have HTOT : Hid (tot l l.length ≤ 1048576) := htot
  have HKT : Hid (KT kcR w) := hkt
  have hpos : 0 < w.heap.size := World.block_lt_of_cell? w _ (hkt 0 (by omega))
  clear hr hf htot hkt
  go_enter Tryz.func10, Tryz.ntmps10
  go_upto_region 2 with (go_at_call 11; go_must (refine (newTables_has _).mono ?_); rintro e w3 ⟨rfl, ht3, hb3⟩; have HT3 := (show Hid (HasTab w3 w.heap.size) from ht3); have HB3 := (show Hid (Below w.heap.size w w3) from hb3); clear ht3 hb3)
  obtain ⟨W0, hW0⟩ : ∃ V, V = w3.alloc (.cells #[.pointer (some ⟨w.heap.size, 0, none⟩), .slice none 0 0, .slice none 0 0, .bool false] 33) := ⟨_, rfl⟩
  have hS0 := Sc.first (dd kcR) w3 w.heap.size
  rw [← hW0] at hS0 ⊢
  have hb30 : Below w3.heap.size w3 W0 := by rw [hW0]; exact (Below.refl _ _).alloc (Nat.le_refl _) _
  have HTW : Hid (Tw (dd kcR) w.heap.size w3.heap.size W0) := tw_any w3 W0 w.heap.size HT3.out hb30
  have HBW : Hid (Below w.heap.size w W0) := HB3.out.trans (hb30.mono HB3.out.size)
  have HKT0 : Hid (KT kcR W0) := HKT.out.later HBW.out hpos
  have hgs := HB3.out.size
  have HS0 : Hid (∃ own rv lv ps ls, Sc (dd kcR) W0 W0 w3.heap.size w.heap.size own rv lv ps ls ∧ ps.length ≤ 0 ∧ ls.length ≤ 0) := ⟨_, _, _, [], [], hS0, Nat.le_refl _, Nat.le_refl _⟩
  generalize w3.heap.size = gW at HTW HS0 hgs ⊢
  clear hW0 hS0 hb30 HT3 HB3 HKT
  go_upto_region 3 with fail
  go_loopg [14, 4, 6, 7, 8] l.length (fun g' iv rv4 _ _ _ wx => ∃ j : Nat, j + g' = l.length ∧ iv = .int .i64 (j : Int) ∧ (∃ own rv lv ps ls, Sc (dd kcR) W0 wx gW w.heap.size own rv lv ps ls ∧ ps.length ≤ j ∧ ls.length ≤ j))
  case atStart => exact ⟨0, by omega, rfl, HS0.out⟩
  case round =>
    clear HS0
    obtain ⟨j, hjg, rfl, hst⟩ := hrel
    have HST : Hid (∃ own rv lv ps ls, Sc (dd kcR) W0 wr gW w.heap.size own rv lv ps ls ∧ ps.length ≤ j ∧ ls.length ≤ j) := hst
    have HJ : Hid (j + gk = l.length) := hjg
    have HBR : Hid (Below w.heap.size w wr) := by
      obtain ⟨_, _, _, _, _, s1, _⟩ := hst
      exact HBW.out.trans (s1.bel.mono hgs)
    by_cases hlt : j < l.length
    · obtain ⟨b, o, rfl, hrow, hbl⟩ := HR.out (by omega)
      obtain ⟨x, hx⟩ : ∃ x, l[j]? = some x := ⟨_, List.getElem?_eq_getElem hlt⟩
      obtain ⟨e0, e1, e2⟩ := hrow j x hx
      have d0 : wr.cell? ⟨b, o + j * 3, none⟩ = some (.int .i64 x.k) := by rw [HBR.out.cell (p := ⟨b, o + j * 3, none⟩) hbl, Nat.mul_comm]; exact e0
      have d1 : wr.cell? ⟨b, o + j * 3 + 1, none⟩ = some (.int .i64 x.a) := by rw [HBR.out.cell (p := ⟨b, o + j * 3 + 1, none⟩) hbl, Nat.mul_comm]; exact e1
      have d2 : wr.cell? ⟨b, o + j * 3 + 2, none⟩ = some (.string x.s) := by rw [HBR.out.cell (p := ⟨b, o + j * 3 + 2, none⟩) hbl, Nat.mul_comm]; exact e2
      have hji : (j : Int) < (l.length : Int) := by omega
      obtain ⟨_, _, ha1, ha2, _⟩ := HF.out x (List.mem_of_getElem? hx)
      obtain ⟨ht1, ht2⟩ := tot_mem l j x hx
      have HSZ : Hid (x.s.size ≤ 1048576 ∧ l.length ≤ 1048576) := by have := HTOT.out; exact ⟨by omega, by omega⟩
      have hjb : j < 1048576 := by have := HSZ.out; omega
      obtain ⟨W5, hW5⟩ : ∃ V, V = wr.alloc (.cells #[.int .i64 x.k, .int .i64 x.a, .string x.s] 26) := ⟨_, rfl⟩
      have hb5 : Below wr.heap.size wr W5 := by rw [hW5]; exact (Below.refl _ _).alloc (Nat.le_refl _) _
      have y0 : W5.cell? ⟨wr.heap.size, 0, none⟩ = some (.int .i64 x.k) := by rw [hW5]; simp [go_sem]
      have y1 : W5.cell? ⟨wr.heap.size, 1, none⟩ = some (.int .i64 x.a) := by rw [hW5]; simp [go_sem]
      have y2 : W5.cell? ⟨wr.heap.size, 2, none⟩ = some (.string x.s) := by rw [hW5]; simp [go_sem]
      have HST5 : Hid (∃ own rv lv ps ls, Sc (dd kcR) W0 W5 gW w.heap.size own rv lv ps ls ∧ ps.length ≤ j ∧ ls.length ≤ j) := by
        obtain ⟨o1, r1, l1, p1, q1, s1, n1, n2⟩ := hst
        exact ⟨o1, r1, l1, p1, q1, s1.keep hb5, n1, n2⟩
      have HSTEP : Hid (x.k < 5 → Calls Tryz.prog 12 #[.pointer (some ⟨gW, 0, none⟩), .agg #[.int .i64 x.k, .int .i64 x.a, .string x.s]] W5 fun e w' => e = .returned (.bool true) ∧ ∃ own rv lv ps ls, Sc (dd kcR) W0 w' gW w.heap.size own rv lv ps ls ∧ ps.length ≤ j + 1 ∧ ls.length ≤ j + 1) := fun hk => by
        obtain ⟨o1, r1, l1, p1, q1, s1, n1, n2⟩ := HST5.out
        have := HSZ.out
        refine (step_any W0 W5 gW w.heap.size o1 r1 l1 p1 q1 s1 HKT0.out HTW.out (by omega) x hk ha1 ha2 this.1 (by omega) (by omega)).mono fun e w' hx => ?_
        obtain ⟨h1, o2, r2, l2, p2, q2, s2, m1, m2⟩ := hx
        exact ⟨h1, o2, r2, l2, p2, q2, s2, by omega, by omega⟩
      have HLK : Hid (∀ V, (∃ own rv lv ps ls, Sc (dd kcR) W0 V gW w.heap.size own rv lv ps ls ∧ ps.length ≤ j + 1 ∧ ls.length ≤ j + 1) → Calls Tryz.prog 13 #[.pointer (some ⟨gW, 0, none⟩)] V fun e w' => e = .returned (.bool true) ∧ Below V.heap.size V w') := fun V hV => by
        obtain ⟨o1, r1, l1, p1, q1, s1, n1, n2⟩ := hV
        have := HSZ.out
        exact looks_any _ W0 V gW w.heap.size o1 r1 l1 p1 q1 s1 (by omega)
      generalize x.k = xk at d0 y0 hW5 HSTEP
      generalize x.a = xa at d1 y1 hW5 HSTEP
      generalize x.s = xs at d2 y2 hW5 HSTEP
      clear hrow hx hst hjg e0 e1 e2 ha1 ha2 ht1 ht2 hb5 HSZ
      by_cases hk5 : xk < 5
      · have hki : ¬ ((5 : Int) ≤ xk) := by omega
        have hst5 := HSTEP.out hk5
        have HS5 : Hid (Calls Tryz.prog 12 #[.pointer (some ⟨gW, 0, none⟩), .agg #[.int .i64 xk, .int .i64 xa, .string xs]] W5 fun e w' => e = .returned (.bool true) ∧ ∃ own rv lv ps ls, Sc (dd kcR) W0 w' gW w.heap.size own rv lv ps ls ∧ ps.length ≤ j + 1 ∧ ls.length ≤ j + 1) := hst5
        clear hst5 HSTEP
        go_upto_region 5 with fail
        rw [← hW5]
        clear hW5 d0 d1 d2
        go_upto_region 6 with fail
        go_cut [8] (fun hv wx => (∃ t : Bool, hv = .bool t) ∧ wx = W5)
        case first =>
          go_wp2
          all_goals
            go_meet
            exact ⟨⟨_, rfl⟩, rfl⟩
        case rest =>
          obtain ⟨⟨tb, rfl⟩, hwc⟩ := hcut
          subst hwc
          go_wp2_with (first
            | (go_at_call 12; go_must (refine HS5.out.mono ?_); rintro e w6 ⟨rfl, hf6⟩; have HF6 := (show Hid (∃ own rv lv ps ls, Sc (dd kcR) W0 w6 gW w.heap.size own rv lv ps ls ∧ ps.length ≤ j + 1 ∧ ls.length ≤ j + 1) from hf6); clear hf6)
            | fail)
          go_roundg (gk - 1)
          case measure => have := HJ.out; omega
          case rel =>
            have := HJ.out
            exact ⟨j + 1, by omega, by go_num, HF6.out⟩
      · have hki : (5 : Int) ≤ xk := by omega
        clear HSTEP
        go_upto_region 5 with fail
        rw [← hW5]
        clear hW5 d0 d1 d2
        go_wp2
        go_roundg (gk - 1)
        case measure => have := HJ.out; omega
        case rel =>
          have := HJ.out
          obtain ⟨o1, r1, l1, p1, q1, s1, n1, n2⟩ := HST5.out
          exact ⟨j + 1, by omega, by go_num, o1, r1, l1, p1, q1, s1, by omega, by omega⟩
    · have hji : ¬ ((j : Int) < (l.length : Int)) := by omega
      clear hst hjg
      go_wp2
      go_ret
      exact ⟨rfl, HBR.out⟩

set_option maxRecDepth 10000 in
set_option maxHeartbeats 8000000 in
theorem upto_own (l : List Ops) (a : Option Addr) (cap : Nat) (w : World) (hkt : KT kcR w) (hr : 0 < l.length → ∃ b o, a = some ⟨b, o, none⟩ ∧ OpRow w b o l ∧ b < w.heap.size) (hf : Fits l) (htot : tot l l.length ≤ 1048576) :
    Calls Tryz.prog 10 #[.slice a l.length cap, .int .i64 (-1)] w fun e w' => e = .returned (.int .i64 (-1)) ∧ Below w.heap.size w w' := by
  have HR : Hid (0 < l.length → ∃ b o, a = some ⟨b, o, none⟩ ∧ OpRow w b o l ∧ b < w.heap.size) := hr
  have HF : Hid (Fits l) := hf
  have HTOT : Hid (tot l l.length ≤ 1048576) := htot
  have HKT : Hid (KT kcR w) := hkt
  have hpos : 0 < w.heap.size := World.block_lt_of_cell? w _ (hkt 0 (by omega))
  clear hr hf htot hkt
  go_enter Tryz.func10, Tryz.ntmps10
  go_upto_region 2 with (go_at_call 11; go_must (refine (newTables_has _).mono ?_); rintro e w3 ⟨rfl, ht3, hb3⟩; have HT3 := (show Hid (HasTab w3 w.heap.size) from ht3); have HB3 := (show Hid (Below w.heap.size w w3) from hb3); clear ht3 hb3)
  obtain ⟨W0, hW0⟩ : ∃ V, V = w3.alloc (.cells #[.pointer (some ⟨w.heap.size, 0, none⟩), .slice none 0 0, .slice none 0 0, .bool false] 33) := ⟨_, rfl⟩
  have hS0 := Sc.first (dd kcR) w3 w.heap.size
  rw [← hW0] at hS0 ⊢
  have hb30 : Below w3.heap.size w3 W0 := by rw [hW0]; exact (Below.refl _ _).alloc (Nat.le_refl _) _
  have HTW : Hid (Tw (dd kcR) w.heap.size w3.heap.size W0) := tw_any w3 W0 w.heap.size HT3.out hb30
  have HBW : Hid (Below w.heap.size w W0) := HB3.out.trans (hb30.mono HB3.out.size)
  have HKT0 : Hid (KT kcR W0) := HKT.out.later HBW.out hpos
  have hgs := HB3.out.size
  have HS0 : Hid (∃ own rv lv ps ls, Sc (dd kcR) W0 W0 w3.heap.size w.heap.size own rv lv ps ls ∧ ps.length ≤ 0 ∧ ls.length ≤ 0) := ⟨_, _, _, [], [], hS0, Nat.le_refl _, Nat.le_refl _⟩
  generalize w3.heap.size = gW at HTW HS0 hgs ⊢
  clear hW0 hS0 hb30 HT3 HB3 HKT
  go_upto_region 3 with fail
  go_loopg [14, 4, 6, 7, 8] l.length (fun g' iv rv4 _ _ _ wx => ∃ j : Nat, j + g' = l.length ∧ iv = .int .i64 (j : Int) ∧ (∃ own rv lv ps ls, Sc (dd kcR) W0 wx gW w.heap.size own rv lv ps ls ∧ ps.length ≤ j ∧ ls.length ≤ j))
  case atStart => exact ⟨0, by omega, rfl, HS0.out⟩
  case round =>
    clear HS0
    obtain ⟨j, hjg, rfl, hst⟩ := hrel
    have HST : Hid (∃ own rv lv ps ls, Sc (dd kcR) W0 wr gW w.heap.size own rv lv ps ls ∧ ps.length ≤ j ∧ ls.length ≤ j) := hst
    have HJ : Hid (j + gk = l.length) := hjg
    have HBR : Hid (Below w.heap.size w wr) := by
      obtain ⟨_, _, _, _, _, s1, _⟩ := hst
      exact HBW.out.trans (s1.bel.mono hgs)
    by_cases hlt : j < l.length
    · obtain ⟨b, o, rfl, hrow, hbl⟩ := HR.out (by omega)
      obtain ⟨x, hx⟩ : ∃ x, l[j]? = some x := ⟨_, List.getElem?_eq_getElem hlt⟩
      obtain ⟨e0, e1, e2⟩ := hrow j x hx
      have d0 : wr.cell? ⟨b, o + j * 3, none⟩ = some (.int .i64 x.k) := by rw [HBR.out.cell (p := ⟨b, o + j * 3, none⟩) hbl, Nat.mul_comm]; exact e0
      have d1 : wr.cell? ⟨b, o + j * 3 + 1, none⟩ = some (.int .i64 x.a) := by rw [HBR.out.cell (p := ⟨b, o + j * 3 + 1, none⟩) hbl, Nat.mul_comm]; exact e1
      have d2 : wr.cell? ⟨b, o + j * 3 + 2, none⟩ = some (.string x.s) := by rw [HBR.out.cell (p := ⟨b, o + j * 3 + 2, none⟩) hbl, Nat.mul_comm]; exact e2
      have hji : (j : Int) < (l.length : Int) := by omega
      obtain ⟨_, _, ha1, ha2, _⟩ := HF.out x (List.mem_of_getElem? hx)
      obtain ⟨ht1, ht2⟩ := tot_mem l j x hx
      have HSZ : Hid (x.s.size ≤ 1048576 ∧ l.length ≤ 1048576) := by have := HTOT.out; exact ⟨by omega, by omega⟩
      have hjb : j < 1048576 := by have := HSZ.out; omega
      obtain ⟨W5, hW5⟩ : ∃ V, V = wr.alloc (.cells #[.int .i64 x.k, .int .i64 x.a, .string x.s] 26) := ⟨_, rfl⟩
      have hb5 : Below wr.heap.size wr W5 := by rw [hW5]; exact (Below.refl _ _).alloc (Nat.le_refl _) _
      have y0 : W5.cell? ⟨wr.heap.size, 0, none⟩ = some (.int .i64 x.k) := by rw [hW5]; simp [go_sem]
      have y1 : W5.cell? ⟨wr.heap.size, 1, none⟩ = some (.int .i64 x.a) := by rw [hW5]; simp [go_sem]
      have y2 : W5.cell? ⟨wr.heap.size, 2, none⟩ = some (.string x.s) := by rw [hW5]; simp [go_sem]
      have HST5 : Hid (∃ own rv lv ps ls, Sc (dd kcR) W0 W5 gW w.heap.size own rv lv ps ls ∧ ps.length ≤ j ∧ ls.length ≤ j) := by
        obtain ⟨o1, r1, l1, p1, q1, s1, n1, n2⟩ := hst
        exact ⟨o1, r1, l1, p1, q1, s1.keep hb5, n1, n2⟩
      have HSTEP : Hid (x.k < 5 → Calls Tryz.prog 12 #[.pointer (some ⟨gW, 0, none⟩), .agg #[.int .i64 x.k, .int .i64 x.a, .string x.s]] W5 fun e w' => e = .returned (.bool true) ∧ ∃ own rv lv ps ls, Sc (dd kcR) W0 w' gW w.heap.size own rv lv ps ls ∧ ps.length ≤ j + 1 ∧ ls.length ≤ j + 1) := fun hk => by
        obtain ⟨o1, r1, l1, p1, q1, s1, n1, n2⟩ := HST5.out
        have := HSZ.out
        refine (step_any W0 W5 gW w.heap.size o1 r1 l1 p1 q1 s1 HKT0.out HTW.out (by omega) x hk ha1 ha2 this.1 (by omega) (by omega)).mono fun e w' hx => ?_
        obtain ⟨h1, o2, r2, l2, p2, q2, s2, m1, m2⟩ := hx
        exact ⟨h1, o2, r2, l2, p2, q2, s2, by omega, by omega⟩
      have HLK : Hid (∀ V, (∃ own rv lv ps ls, Sc (dd kcR) W0 V gW w.heap.size own rv lv ps ls ∧ ps.length ≤ j + 1 ∧ ls.length ≤ j + 1) → Calls Tryz.prog 13 #[.pointer (some ⟨gW, 0, none⟩)] V fun e w' => e = .returned (.bool true) ∧ Below V.heap.size V w') := fun V hV => by
        obtain ⟨o1, r1, l1, p1, q1, s1, n1, n2⟩ := hV
        have := HSZ.out
        exact looks_any _ W0 V gW w.heap.size o1 r1 l1 p1 q1 s1 (by omega)
      generalize x.k = xk at d0 y0 hW5 HSTEP
      generalize x.a = xa at d1 y1 hW5 HSTEP
      generalize x.s = xs at d2 y2 hW5 HSTEP
      clear hrow hx hst hjg e0 e1 e2 ha1 ha2 ht1 ht2 hb5 HSZ
      by_cases hk5 : xk < 5
      · have hki : ¬ ((5 : Int) ≤ xk) := by omega
        have hst5 := HSTEP.out hk5
        have HS5 : Hid (Calls Tryz.prog 12 #[.pointer (some ⟨gW, 0, none⟩), .agg #[.int .i64 xk, .int .i64 xa, .string xs]] W5 fun e w' => e = .returned (.bool true) ∧ ∃ own rv lv ps ls, Sc (dd kcR) W0 w' gW w.heap.size own rv lv ps ls ∧ ps.length ≤ j + 1 ∧ ls.length ≤ j + 1) := hst5
        clear hst5 HSTEP
        go_upto_region 5 with fail
        rw [← hW5]
        clear hW5 d0 d1 d2
        go_upto_region 6 with fail
        go_cut [8] (fun hv wx => (∃ t : Bool, hv = .bool t) ∧ wx = W5)
        case first =>
          go_wp2
          all_goals
            go_meet
            exact ⟨⟨_, rfl⟩, rfl⟩
        case rest =>
          obtain ⟨⟨tb, rfl⟩, hwc⟩ := hcut
          subst hwc
          go_wp2_with (first
            | (go_at_call 12; go_must (refine HS5.out.mono ?_); rintro e w6 ⟨rfl, hf6⟩; have HF6 := (show Hid (∃ own rv lv ps ls, Sc (dd kcR) W0 w6 gW w.heap.size own rv lv ps ls ∧ ps.length ≤ j + 1 ∧ ls.length ≤ j + 1) from hf6); clear hf6)
            | (go_at_call 13; go_must (refine (HLK.out w6 HF6.out).mono ?_); rintro e w7 ⟨rfl, hb7⟩; have HF7 := (show Hid (∃ own rv lv ps ls, Sc (dd kcR) W0 w7 gW w.heap.size own rv lv ps ls ∧ ps.length ≤ j + 1 ∧ ls.length ≤ j + 1) from by obtain ⟨o1, r1, l1, p1, q1, s1, n1, n2⟩ := HF6.out; exact ⟨o1, r1, l1, p1, q1, s1.keep hb7, n1, n2⟩); clear hb7)
            | fail)
          go_roundg (gk - 1)
          case measure => have := HJ.out; omega
          case rel =>
            have := HJ.out
            exact ⟨j + 1, by omega, by go_num, HF7.out⟩
      · have hki : (5 : Int) ≤ xk := by omega
        clear HSTEP
        go_upto_region 5 with fail
        rw [← hW5]
        clear hW5 d0 d1 d2
        go_wp2
        go_roundg (gk - 1)
        case measure => have := HJ.out; omega
        case rel =>
          have := HJ.out
          obtain ⟨o1, r1, l1, p1, q1, s1, n1, n2⟩ := HST5.out
          exact ⟨j + 1, by omega, by go_num, o1, r1, l1, p1, q1, s1, by omega, by omega⟩
    · have hji : ¬ ((j : Int) < (l.length : Int)) := by omega
      clear hst hjg
      go_wp2
      go_ret
      exact ⟨rfl, HBR.out⟩
end Go.Proofs.YtkmalggeieiepaaGreatDoor
set_option linter.unusedVariables false
namespace Go.Proofs.YtkmalggeieiepaaGreatDoor
open Go.ChangeShapes Go.WideShapes Go.ChangeAt Go.RowKit

theorem ownSZ : ownKnob Tryz.prog.godebug = none := by kernel_rfl
theorem gWordsZ : Tryz.prog.globalNamed "compact/hashes.roundWords" = some 0 := by kernel_rfl
theorem tWordsZ : (Tryz.prog.globals[0]?).map (·.type) = some 204 := by kernel_rfl
theorem laidOutZ : laidOutB Tryz.prog = true := by kernel_rfl
theorem cellsOpZ : Tryz.prog.cellsOf 26 = 3 := by kernel_rfl
theorem cellsIZ : Tryz.prog.cellsOf 3 = 1 := by kernel_rfl
theorem cellsSZ : Tryz.prog.cellsOf 9 = 1 := by kernel_rfl
theorem bytesOpZ : Tryz.prog.bytesOf 26 = 32 := by kernel_rfl
theorem wAll_mem {H : Type} {P : Program} {e : TypeId} : ∀ {l : List (DataW H)} {d : DataW H}, d ∈ l → ∀ n ∈ d.weights P e, n ∈ DataW.weightsAll P e l
  | [], _, h, _, _ => by simp at h
  | x :: l, d, h, n, hn => by
    rw [DataW.weightsAll]
    rcases List.mem_cons.1 h with rfl | h
    · exact List.mem_append_left _ hn
    · exact List.mem_append_right _ (wAll_mem h n hn)

/-- a tied card of a call that can start goroutines. -/
theorem card_goes (Lk : Looks) {p : Pinned} {s : OpenSpec} {c : OpenClaim} (kinds : List LaidKind) (tests : Bool) (har : Bool × String) (lk : Bool)
    (hc : c.holds p s) (hw : c.wfByText s = true) (htie : c.laidByTextAt Lk p kinds tests)
    (hst : c.start = .entering) (hnb : c.noBlocks = false ∧ c.again = false) (hm : p.checked.prog.mainIs = some (har.1, har.2.toList)) (hn : (!har.1 && har.2.isEmpty && !lk) = false)
    (hl : ∀ f fn, p.checked.prog.funcNamed c.func = some f → p.checked.prog.funcs[f]? = some fn → lk = p.checked.prog.looks [] ∧ ∀ (j : Nat) t, fn.params[j]? = some t → p.checked.prog.wantsStandIn t = false)
    (hg : true = c.goesBy p.checked.prog) :
    Claim7.holds p (.plain s) { stood := { row := c, standIns := [], harness := har, looks := lk }, kinds := [], alts := [], goes := true, laidByText := true, laidKinds := kinds, laidTests := tests, laidLooks := Lk } := by
  have h6 : ∀ r : OpenClaim, Claim7.isSixth { stood := { row := r, standIns := [], harness := har, looks := lk }, kinds := [] } = false := fun r => by simpa [Claim7.isSixth] using hn
  exact ⟨Claim7.tied_new_at Lk kinds tests (Claim7.new_of_sixth hc har lk hst hnb hm (h6 c) hl) hw, (fun D hD => by cases hD), htie, (fun h => by cases h), hg⟩

set_option maxRecDepth 100000 in
/-- a script that came in. -/
theorem open_ops {H : Type} {enc : TypeId × Value → H} {w : World} {base : Nat} {spare : Nat → Bool} {held : Bool} {fuel : Nat} {v : Value} {d : DataW H} {ps : List MemPlace} (h : DataW.trod enc Tryz.prog w base spare held fuel 22 [v] = some (d, ps))
    (hsz : ∀ n ∈ d.weights Tryz.prog 22, n ≤ reachBytes) :
    ∃ (a : Option Addr) (cap : Nat) (l : List Ops), v = .slice a l.length cap ∧ (0 < l.length → ∃ b o, a = some ⟨b, o, none⟩ ∧ OpRow w b o l ∧ b < w.heap.size) ∧ Fits l ∧ l.length ≤ 281474976710656 := by
  rcases Go.Deep.open_slice Tryz.underlying22 h with ⟨hcs, _⟩ | ⟨a, len, cap, m, n, D, Pl, hcs, hb, hl, hm, hmm, hx, he⟩
  · injection hcs with hcs
    subst hcs
    exact ⟨none, 0, [], rfl, fun h => by simp at h, fun x hx => by simp at hx, by simp⟩
  · injection hcs with hcs
    subst hcs
    have hlm : len ≤ m := by rw [hmm]; split <;> omega
    injection hx with hd _
    subst hd
    have hbig : len ≤ reachBytes := by
      have := hsz ((((List.range len).map D).length + ((List.range (m - len)).map fun j => D (len + j)).length) * Tryz.prog.bytesOf 26) (by
        rw [DataW.weights, Tryz.underlying22]; exact List.mem_cons_self ..)
      rw [bytesOpZ] at this
      simp only [List.length_map, List.length_range] at this
      omega
    have each : ∀ i, i < len → ∃ x : Ops, w.cell? (a.add (i * 3)) = some (.int .i64 x.k) ∧ w.cell? (a.add (i * 3 + 1)) = some (.int .i64 x.a) ∧ w.cell? (a.add (i * 3 + 2)) = some (.string x.s) ∧ (Lit.int .i64 x.k).wf = true ∧ (Lit.int .i64 x.a).wf = true ∧ x.s.size ≤ reachBytes := by
      intro i hi
      obtain ⟨cs', h1, h2⟩ := he i (by omega)
      rw [cellsOpZ] at h1
      obtain ⟨_, hlen, hcell⟩ := World.cells?_some h1
      obtain ⟨xs, k, hk, hxy, _, hxl, hf⟩ := DataW.trod_struct Tryz.underlying26 h2
      match xs, hxl, cs', hlen with
      | [y0, y1, y2], _, [v0, v1, v2], _ =>
        have g0 := hf 0 _ rfl
        have g1 := hf 1 _ rfl
        have g2 := hf 2 _ rfl
        simp [cellsIZ, cellsSZ] at g0 g1 g2
        obtain ⟨k0, q0, z0, w0⟩ := DataW.trod_int Tryz.underlying3 g0
        obtain ⟨k1, q1, z1, w1⟩ := DataW.trod_int Tryz.underlying3 g1
        obtain ⟨s2, q2, z2, _⟩ := DataW.trod_string Tryz.underlying9 g2
        injection q0 with q0
        injection q1 with q1
        injection q2 with q2
        subst q0 q1 q2 z0 z1 z2
        have e0 := hcell 0 (by omega)
        have e1 := hcell 1 (by omega)
        have e2 := hcell 2 (by omega)
        rw [Go.Deep.add_add] at e0 e1 e2
        refine ⟨⟨k0, k1, s2⟩, by simpa using e0, by simpa using e1, by simpa using e2, w0, w1, ?_⟩
        have hD : D i = .agg [.lit (.int .i64 k0), .lit (.int .i64 k1), .lit (.string s2.data.toList)] := by
          simp only [Prod.mk.injEq] at hxy; simpa using hxy.1
        have hmem : s2.data.toList.length ∈ DataW.weights Tryz.prog 22 (.slice ((List.range len).map D) ((List.range (m - len)).map fun j => D (len + j))) := by
          rw [DataW.weights, Tryz.underlying22]
          refine List.mem_cons_of_mem _ (List.mem_append_left _ (wAll_mem (List.mem_map.2 ⟨i, List.mem_range.2 hi, rfl⟩) _ ?_))
          rw [hD, DataW.weights, Tryz.underlying26]
          simp [DataW.weightsEach, DataW.weights]
        exact hsz _ hmem
    haveI : Inhabited Ops := ⟨⟨0, 0, ByteArray.empty⟩⟩
    obtain ⟨q, hq⟩ := Go.Deep.choose_lt each
    have hrb := reachBytes_lt
    refine ⟨some a, cap, (List.range len).map q, by simp, fun h0 => ?_, fun x hx => ?_, by simp; omega⟩
    · have h0' : 0 < len := by simpa using h0
      obtain ⟨b, o, sp⟩ := a
      have hc0 := (hq 0 h0').1
      have hsp : sp = none := by
        cases sp with
        | none => rfl
        | some x =>
          exfalso
          have : (⟨b, o, some x⟩ : Addr).add (0 * 3) = ⟨b, o, some x⟩ := rfl
          rw [this] at hc0
          unfold World.cell? at hc0
          split at hc0
          · simp at hc0
          · cases hc0
      subst hsp
      refine ⟨b, o, rfl, fun j x hx => ?_, ?_⟩
      · have hj : j < len := by have := (List.getElem?_eq_some_iff.1 hx).1; simpa using this
        have hxe : x = q j := by
          have := (List.getElem?_eq_some_iff.1 hx).2
          simpa using this.symm
        subst hxe
        obtain ⟨d0, d1, d2, _⟩ := hq j hj
        rw [Addr.add_mid] at d0 d1 d2
        rw [Nat.mul_comm 3 j]
        exact ⟨d0, d1, d2⟩
      · rw [Addr.add_mid] at hc0
        exact World.block_lt_of_cell? w _ hc0
    · obtain ⟨j, hj, rfl⟩ := List.mem_map.1 hx
      obtain ⟨_, _, _, wk, wa, hs⟩ := hq j (List.mem_range.1 hj)
      have e1 : IntKind.i64.min = -9223372036854775808 := by decide
      have e2 : IntKind.i64.max = 9223372036854775807 := by decide
      simp only [Lit.wf, e1, e2, Bool.and_eq_true, decide_eq_true_eq] at wk wa
      exact ⟨wk.1, wk.2, wa.1, wa.2, by omega⟩
end Go.Proofs.YtkmalggeieiepaaGreatDoor
