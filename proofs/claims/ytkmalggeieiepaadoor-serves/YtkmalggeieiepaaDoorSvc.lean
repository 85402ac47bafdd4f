import Derived.Test.YtkmalggeieiepaaDoorSvb
import Derived.WalkKit
import Derived.WalkSpells
import Derived.WalkLawsBesides
import Derived.Deep.LoopGhost
import Derived.Deep.DeepCutAuto
import Derived.Deep.AppendLies
import Derived.Test.YtkmalggeieiepaaDoorTxtA
import Derived.Lib.AppendStr
import Derived.OwnWalk
import Derived.Deep.MidRow
import Derived.Test.YtkmalggeieiepaaDoorSva
import Derived.Lib.LazyBuf
import Derived.Stop.BytesEq
import Derived.Test.YtkmalggeieiepaaDoorRows
import Derived.RegionTactic
import Derived.Orders
import Derived.OrdersHeld
import Derived.Deep.RegionHeld
import Derived.Deep.QuietTactic
import Derived.BigQuiet
import Derived.Deep.RegionWith
namespace Go.Proofs.YtkmalggeieiepaaDoor
open Go.RowKit

def outL (l : List (List UInt8)) (q : List Nat) : List (List UInt8) := q.map fun i => l.getD i []
/-- what is answered to a request: bytes, or what is wrong. -/
def srvR (dd : ByteArray → ByteArray) (B : List UInt8 × (List (List UInt8) × Int)) (Q : List UInt8 × (List Nat × Int)) : List UInt8 × Int :=
  if B.2.2 ≠ 0 then ([], B.2.2) else if Q.2.2 ≠ 0 then ([], Q.2.2) else if ofL Q.1 ≠ dd (ofL B.1) then ([], 6)
  else if Q.2.1.all (fun i => decide (i < B.2.1.length)) = true then (Q.1 ++ (sizeL Q.2.1.length ++ (outL B.2.1 Q.2.1).flatten), 0) else ([], 4)
theorem catL_ofL (l : List (List UInt8)) : catL (l.map ofL) = l.flatten := by
  induction l with
  | nil => rfl
  | cons a l ih => simp only [List.map_cons, List.flatten_cons, ← ih]; simp [catL, ofL_data]
theorem outL_snoc (l : List (List UInt8)) (q : List Nat) (j : Nat) (h : j < q.length) : outL l (q.take (j + 1)) = outL l (q.take j) ++ [l.getD q[j] []] := by
  unfold outL; rw [List.take_succ_eq_append_getElem h, List.map_append]; rfl
theorem strB_snoc (l : List (List UInt8)) (t : List UInt8) : strB (l ++ [t]) = strB l ++ [.string (ofL t)] := by simp [strB, strV]
theorem all_take (q : List Nat) (n : Nat) (h : ∀ (j : Nat) (hj : j < q.length), q[j] < n) : q.all (fun i => decide (i < n)) = true := by
  rw [List.all_eq_true]
  intro x hx
  obtain ⟨j, hj, rfl⟩ := List.getElem_of_mem hx
  simpa using h j hj
theorem all_not (q : List Nat) (n j : Nat) (hj : j < q.length) (h : n ≤ q[j]) : ¬ q.all (fun i => decide (i < n)) = true := by
  intro ha
  have := List.all_eq_true.1 ha q[j] (List.getElem_mem hj)
  simp at this; omega

set_option maxRecDepth 10000 in
set_option maxHeartbeats 2000000 in
theorem Serve_of (gt : Nat) (dd : ByteArray → ByteArray) (s t : ByteArray) (w : World) (hl : s.size ≤ maxLen)
    (HTW : Hid (∀ (x : ByteArray) (W : World), x.size ≤ 1048576 → Below w.heap.size w W → Calls Tryd.prog 13 #[.pointer (some ⟨gt, 0, none⟩), .string x] W fun e w' => e = .returned (.string (dd x)) ∧ Below W.heap.size W w')) :
    Calls Tryd.prog 19 #[.pointer (some ⟨gt, 0, none⟩), .string s, .string t] w fun x w' => x = .returned (.tuple #[.string (ofL (srvR dd (rMsg 80 s.data.toList) (rReq t.data.toList)).1), .int .i64 (srvR dd (rMsg 80 s.data.toList) (rReq t.data.toList)).2]) ∧ Below w.heap.size w w' := by
  obtain ⟨i0, hi, hz0, hz1, hz2⟩ := info_parts infoStr
  have HB := Block_any s w hl
  have HQ := fun W => Request_any t W
  have hB80 : (rMsg 80 s.data.toList).1.length ≤ 80 := rTake_len 80 _
  have hBs : (rMsg 80 s.data.toList).2.2 = 0 → ∀ x ∈ (rMsg 80 s.data.toList).2.1, x.length ≤ 610 := rMsg_small 80 _
  have hQ16 : (rReq t.data.toList).2.1.length ≤ 16 := rReq_len _
  have hQ32 : (rReq t.data.toList).1.length ≤ 32 := rTake_len 32 _
  generalize rMsg 80 s.data.toList = B at HB hB80 hBs
  generalize rReq t.data.toList = Q at HQ hQ16 hQ32
  obtain ⟨h, T, c⟩ := B
  obtain ⟨m, q, d⟩ := Q
  have hh : (ofL h).size ≤ 1048576 := by rw [ofL_size]; have : h.length ≤ 80 := hB80; omega
  have HT2 : Hid (∀ W, Below w.heap.size w W → Calls Tryd.prog 13 #[.pointer (some ⟨gt, 0, none⟩), .string (ofL h)] W fun e w' => e = .returned (.string (dd (ofL h))) ∧ Below W.heap.size W w') := fun W hW => HTW.out _ W hh hW
  have HBs : Hid (c = 0 → ∀ x ∈ T, x.length ≤ 610) := hBs
  have hq16 : q.length ≤ 16 := hQ16
  clear HTW hl hB80 hh hBs hQ16
  obtain ⟨R, hR⟩ : ∃ R, R = srvR dd (h, T, c) (m, q, d) := ⟨_, rfl⟩
  rw [← hR]
  by_cases hc : c = 0
  · by_cases hd : d = 0
    · by_cases hn : ofL m = dd (ofL h)
      · subst hc hd
        have hR2 : R = if q.all (fun i => decide (i < T.length)) = true then (m ++ (sizeL q.length ++ (outL T q).flatten), 0) else ([], 4) := by rw [hR]; simp [srvR, hn]
        have HR : Hid (R = if q.all (fun i => decide (i < T.length)) = true then (m ++ (sizeL q.length ++ (outL T q).flatten), 0) else ([], 4)) := hR2
        have HS : Hid (∀ x ∈ T, x.length ≤ 610) := HBs.out rfl
        clear hR hR2 HBs
        rw [← hn] at HT2
        clear hn
        have hml : (ofL m).size ≤ 32 := by rw [ofL_size]; exact hQ32
        go_enter Tryd.func19, Tryd.ntmps19
        go_upto_region 4 with (go_at_call 37; go_must (refine HB.mono ?_); rintro e w1 ⟨v1, rfl, ho1, hb1⟩; have HO1 : Hid (w1.ownsRow w.heap.size 9 1 v1 T.length (strB T)) := ho1; have HB1 : Hid (Below w.heap.size w w1) := hb1; clear ho1 hb1)
        go_upto_region 7 with (go_at_call 46; go_must (refine (HQ _).mono ?_); rintro e w2 ⟨v2, rfl, ho2, hb2⟩; have HO2 : Hid (w2.ownsRow w1.heap.size 3 1 v2 q.length (natV q)) := ho2; have HB2 : Hid (Below w1.heap.size w1 w2) := hb2; clear ho2 hb2)
        have hs1 := HB1.out.size
        have HB2w : Hid (Below w.heap.size w w2) := HB1.out.trans (HB2.out.mono hs1)
        go_upto_region 9 with (go_at_call 13; go_must (refine (HT2.out _ HB2w.out).mono ?_); rintro e w3 ⟨rfl, hb3⟩; have HB3 : Hid (Below w2.heap.size w2 w3) := hb3; clear hb3)
        have hs2 := HB2.out.size
        have hs3 := HB3.out.size
        have HV1 : Hid (SVal w3 v1 (T.map ofL)) := ((own_sval (l := T.map ofL) (by rw [List.length_map]; exact HO1.out)).later HB2.out).later HB3.out
        have HV2 : Hid (VVal w3 v2 (natV q)) := (own_vval (l := natV q) (by rw [show (natV q).length = q.length by simp [natV]]; exact HO2.out)).later HB3.out
        have HB3w : Hid (Below w.heap.size w w3) := HB2w.out.trans (HB3.out.mono (by omega))
        clear HO1 HO2 HB1 HB2 HB3 HB2w HB HQ HT2
        obtain ⟨a1, c1, hv1, _, hr1⟩ := HV1.out
        obtain ⟨a2, c2, hv2, _, hr2⟩ := HV2.out
        have hnl : (natV q).length = q.length := by simp [natV]
        have hTl : (T.map ofL).length = T.length := by simp
        rw [hTl] at hv1 hr1
        rw [hnl] at hv2 hr2
        have HR1 : Hid (0 < T.length → ∃ b o, a1 = some ⟨b, o, none⟩ ∧ SRow w3 b o (T.map ofL)) := hr1
        have HR2 : Hid (0 < q.length → ∃ b o, a2 = some ⟨b, o, none⟩ ∧ VRow w3 b o (natV q)) := hr2
        clear hr1 hr2 HV1 HV2 hnl hTl
        subst hv1 hv2
        go_upto_region 11 with fail
        go_loopg [13, 41] q.length (fun g v i wx => ∃ j : Nat, ∃ v' : Value, v' = v ∧ j + g = q.length ∧ i = .int .i64 (j : Int) ∧ (∀ (k : Nat) (hk : k < q.length), k < j → q[k] < T.length) ∧ wx.ownsRow w3.heap.size 9 1 v' (outL T (q.take j)).length (strB (outL T (q.take j))) ∧ Below w3.heap.size w3 wx)
        case atStart => exact ⟨0, _, rfl, by omega, rfl, fun _ _ h => by omega, World.ownsRow_nil _ _ _ _, Below.refl _ _⟩
        case round =>
          obtain ⟨j, v, rfl, hjg, rfl, hall, hown, hb⟩ := hrel
          have HALL : Hid (∀ (k : Nat) (hk : k < q.length), k < j → q[k] < T.length) := hall
          have HO : Hid (wr.ownsRow w3.heap.size 9 1 v (outL T (q.take j)).length (strB (outL T (q.take j)))) := hown
          have HBB : Hid (Below w3.heap.size w3 wr) := hb
          have HJ : Hid (j + gk = q.length) := hjg
          have hsr := hb.size
          clear hall hown
          by_cases hlt : j < q.length
          · obtain ⟨b2, o2, rfl, hrow2⟩ := HR2.out (by omega)
            have cj : wr.cell? ⟨b2, o2 + j, none⟩ = some (.int .i64 (q[j] : Int)) := by
              have := (hrow2.later hb (hrow2.lt (by simp [natV]; omega))) j (by simp [natV]; omega)
              rw [this]; simp [natV]
            have hji : (j : Int) < (q.length : Int) := by omega
            have HSN := (show Hid (outL T (q.take (j + 1)) = outL T (q.take j) ++ [T.getD q[j] []]) from outL_snoc T q j hlt)
            have HSTEP := (show Hid (q[j] < T.length → ∀ (k : Nat) (hk : k < q.length), k < j + 1 → q[k] < T.length) from fun h k hk hk2 => by
              rcases Nat.lt_or_ge k j with h3 | h3
              · exact HALL.out k hk h3
              · obtain rfl : k = j := by omega
                exact h)
            have HBAD := (show Hid (T.length ≤ q[j] → ¬ q.all (fun i => decide (i < T.length)) = true) from all_not q T.length j hlt)
            have hll : (outL T (q.take j)).length = j := by simp [outL]; omega
            generalize q[j] = x at cj HSN HSTEP HBAD
            by_cases hx : x < T.length
            · obtain ⟨b1, o1, rfl, hrow1⟩ := HR1.out (by omega)
              have cx : wr.cell? ⟨b1, o1 + x, none⟩ = some (.string (ofL (T.getD x []))) := by
                have := (hrow1.later hb (hrow1.lt (by simp; omega))) x (by simp; omega)
                rw [this]; simp [List.getD, hx]
              have hxi : (x : Int) < (T.length : Int) := by omega
              generalize T.getD x [] = tx at cx HSN
              obtain ⟨tb, htb⟩ : ∃ t, t = ofL tx := ⟨_, rfl⟩
              have HTB : Hid (tb = ofL tx) := htb
              rw [← htb] at cx
              clear htb hb hjg HBAD HALL
              rw [hll] at HO
              go_upto_region 15 with fail
              go_upto_region 16 with (at_builtin; go_must (refine wpList_append_lies _ rfl _ _ 30 rfl w3.heap.size 9 i0 (.string ByteArray.empty) 1 16 Tryd.underlying30 hi hz0 hz1 hz2 rfl (by decide) v j (strB (outL T (q.take j))) rfl (HO.out.alloc _) ⟨wr.heap.size, 0, none⟩ 1 1 [.string tb] rfl rfl (one_new wr _ _) (one_str _) (by omega) (by unfold maxLen; omega) (by omega) (by simp; omega) _ rfl ?_); intro g4 c4 w4 ho hgr hat hlt4; have HO4 : Hid (w4.ownsRow w3.heap.size 9 1 (.slice (some ⟨g4, 0, none⟩) (j + 1) c4) (j + 1) (strB (outL T (q.take j)) ++ [.string tb])) := ho; have HB4 : Hid (Below w3.heap.size wr w4) := ((Below.refl w3.heap.size wr).alloc (by omega) _).grown hgr (by simp; omega) (ownBlock_ge HO.out); clear ho hgr hat hlt4)
              go_wp2
              go_roundg (gk - 1)
              case measure => have := HJ.out; omega
              case rel =>
                have h1 := HJ.out
                refine ⟨j + 1, _, rfl, by omega, by go_num, HSTEP.out hx, ?_, HBB.out.trans HB4.out⟩
                have h2 : (outL T (q.take (j + 1))).length = j + 1 := by rw [HSN.out, List.length_append, hll]; rfl
                rw [h2, HSN.out, strB_snoc, ← HTB.out]
                exact HO4.out
            · have hxi : ¬ ((x : Int) < (T.length : Int)) := by omega
              have hxj : (T.length : Int) ≤ (x : Int) := by omega
              clear hb hjg HALL HSN
              go_wp2
              go_ret2
              rw [HR.out, if_neg (HBAD.out (by omega))]
              exact ⟨rfl, HB3w.out.trans (HBB.out.mono (by have := HB3w.out.size; omega))⟩
          · obtain rfl : j = q.length := by omega
            have hok : q.all (fun i => decide (i < T.length)) = true := all_take q T.length (fun k hk => HALL.out k hk hk)
            have HRE : Hid (R = (m ++ (sizeL q.length ++ (outL T q).flatten), 0)) := by show _ = _; rw [HR.out, if_pos hok]
            rw [List.take_length] at HO
            have hol : (outL T q).length = q.length := by simp [outL]
            have hsm : ∀ y ∈ (outL T q).map ofL, y.size ≤ 1048576 := by
              intro y hy
              obtain ⟨z, hz, rfl⟩ := List.mem_map.1 hy
              obtain ⟨i, hi, rfl⟩ := List.mem_map.1 hz
              have hi2 : i < T.length := by simpa using List.all_eq_true.1 hok i hi
              rw [ofL_size, List.getD, List.getElem?_eq_getElem hi2]
              have := HS.out _ (List.getElem_mem hi2)
              simp; omega
            have HJN : Hid (Calls Tryd.prog 41 #[v] wr fun x w' => x = .returned (.string (ofL (sizeL q.length ++ (outL T q).flatten))) ∧ Below wr.heap.size wr w') := by
              have := joined_sval ((outL T q).map ofL) v wr (own_sval (l := (outL T q).map ofL) (by rw [List.length_map]; exact HO.out)) (by simp [hol]; omega) hsm
              rw [List.length_map, hol, catL_ofL] at this
              exact this
            have hjl : (ofL (sizeL q.length ++ (outL T q).flatten)).size ≤ 16777216 + 9 := by
              have := catL_len ((outL T q).map ofL) (by simp [hol]; omega) hsm
              rw [List.length_map, hol, catL_ofL] at this
              rw [ofL_size]; exact this
            have HAP := (show Hid (ofL m ++ ofL (sizeL q.length ++ (outL T q).flatten) = _) from ofL_append m (sizeL q.length ++ (outL T q).flatten))
            generalize ofL (sizeL q.length ++ (outL T q).flatten) = J at HJN hjl HAP
            clear hok hsm hol hb hjg
            go_wp2_with (go_at_call 41; go_must (refine HJN.out.mono ?_); rintro e w5 ⟨rfl, hb5⟩; have HB5 : Hid (Below wr.heap.size wr w5) := hb5; clear hb5)
            go_ret2
            refine ⟨?_, HB3w.out.trans ((HBB.out.mono (by have := HB3w.out.size; omega)).trans (HB5.out.mono (by have := HB3w.out.size; omega)))⟩
            rw [HAP.out, HRE.out]; rfl
      · subst hc hd
        have hR2 : R = ([], 6) := by rw [hR]; simp [srvR, hn]
        rw [hR2]
        clear hR hR2 HBs
        have hne := text_ne hn
        generalize dd (ofL h) = D at HT2 hne
        go_enter Tryd.func19, Tryd.ntmps19
        go_upto_region 4 with (go_at_call 37; go_must (refine HB.mono ?_); rintro e w1 ⟨v1, rfl, ho1, hb1⟩; have HB1 : Hid (Below w.heap.size w w1) := hb1; clear ho1 hb1)
        go_upto_region 7 with (go_at_call 46; go_must (refine (HQ _).mono ?_); rintro e w2 ⟨v2, rfl, ho2, hb2⟩; have HB2w : Hid (Below w.heap.size w w2) := HB1.out.trans (hb2.mono HB1.out.size); clear ho2 hb2)
        go_wp2_with (go_at_call 13; go_must (refine (HT2.out _ HB2w.out).mono ?_); rintro e w3 ⟨rfl, hb3⟩; have HB3 : Hid (Below w2.heap.size w2 w3) := hb3; clear hb3)
        go_ret2
        exact ⟨rfl, HB2w.out.trans (HB3.out.mono HB2w.out.size)⟩
    · subst hc
      have hR2 : R = ([], d) := by rw [hR]; simp [srvR, hd]
      rw [hR2]
      clear hR hR2 HBs HT2
      go_enter Tryd.func19, Tryd.ntmps19
      go_upto_region 4 with (go_at_call 37; go_must (refine HB.mono ?_); rintro e w1 ⟨v1, rfl, ho1, hb1⟩; have HB1 : Hid (Below w.heap.size w w1) := hb1; clear ho1 hb1)
      go_wp2_with (go_at_call 46; go_must (refine (HQ _).mono ?_); rintro e w2 ⟨v2, rfl, ho2, hb2⟩; have HB2w : Hid (Below w.heap.size w w2) := HB1.out.trans (hb2.mono HB1.out.size); clear ho2 hb2)
      go_ret2
      exact ⟨rfl, HB2w.out⟩
  · have hR2 : R = ([], c) := by rw [hR]; simp [srvR, hc]
    rw [hR2]
    clear hR hR2 HBs HT2 HQ
    go_enter Tryd.func19, Tryd.ntmps19
    go_wp2_with (go_at_call 37; go_must (refine HB.mono ?_); rintro e w1 ⟨v1, rfl, ho1, hb1⟩; have HB1 : Hid (Below w.heap.size w w1) := hb1; clear ho1 hb1)
    go_ret2
    exact ⟨rfl, HB1.out⟩
end Go.Proofs.YtkmalggeieiepaaDoor
namespace Go.Proofs.YtkmalggeieiepaaDoor
open Go.RowKit

/-- the j-th byte of a number. -/
def byN (n j : Nat) : Int := ((n / 256 ^ j % 256 : Nat) : Int)
theorem le_bytes (n : Nat) : ∀ k, lsOf (byN n) k = le n k := by
  intro k
  induction k generalizing n with
  | zero => rfl
  | succ k ih =>
    have h := ih (n / 256)
    unfold lsOf at h ⊢
    rw [List.range_succ_eq_map, List.map_cons, List.map_map]
    show _ = UInt8.ofNat n :: le (n / 256) k
    rw [← h]
    congr 1
    · rw [← UInt8.toNat_inj]; simp [byN]; omega
    · apply List.map_congr_left
      intro j _
      show UInt8.ofNat (byN n (j + 1)).toNat = UInt8.ofNat (byN (n / 256) j).toNat
      unfold byN
      rw [Nat.pow_succ, Nat.mul_comm, ← Nat.div_div_eq_div_mul]
theorem str_congr (f g : Nat → Int) (n : Nat) (h : ∀ j, j < n → f j = g j) : strOf f n = strOf g n := by
  unfold strOf lsOf
  congr 2
  apply List.map_congr_left
  intro j hj
  rw [h j (by simpa using hj)]
theorem mk_bytes (n : Nat) (hn : n ≤ 8) (W : World) : (Instr.makeSlice 50 (.int .i64 (n : Int)) (.int .i64 (n : Int))).run Tryd.prog W = .ok (.slice (some ⟨W.heap.size, 0, none⟩) n n) (W.alloc (.cells (wl .u8 (fun _ => 0) n).toArray 5)) := by
  have h : n = 0 ∨ n = 1 ∨ n = 2 ∨ n = 3 ∨ n = 4 ∨ n = 5 ∨ n = 6 ∨ n = 7 ∨ n = 8 := by omega
  rcases h with rfl | rfl | rfl | rfl | rfl | rfl | rfl | rfl | rfl <;> exact (show (_ : Result Value) = _ by kernel_rfl)

set_option maxRecDepth 10000 in
set_option maxHeartbeats 1000000 in
theorem inBytes_any (n k : Nat) (w : World) (hn : U64 n) (hk : 0 < k) (hk8 : k ≤ 8) :
    Calls Tryd.prog 88 #[.int .u64 (n : Int), .int .i64 (k : Int)] w fun x w' => x = .returned (.string (ofL (le n k))) ∧ Below w.heap.size w w' := by
  have hm := mk_bytes k hk8
  obtain ⟨W0, hW0⟩ : ∃ W, W = w.alloc (.cells (wl .u8 (fun _ => 0) k).toArray 5) := ⟨_, rfl⟩
  have HA0 : Hid (Arr .u8 W0 w.heap.size (fun _ => 0) k) := by show Arr _ _ _ _ _; rw [hW0]; exact Arr.new w _ k _ _ rfl
  have HB0 : Hid (Below w.heap.size w W0) := by show Below _ _ _; rw [hW0]; exact (Below.refl _ _).alloc (Nat.le_refl _) _
  have hm0 := hm w
  rw [← hW0] at hm0
  clear hm hW0
  unfold U64 at hn
  go_enter Tryd.func88, Tryd.ntmps88
  go_upto_region 3 with fail
  clear hm0
  go_loopg [0, 11] k (fun g nv i wx => ∃ j : Nat, ∃ f : Nat → Int, j + g = k ∧ nv = .int .u64 ((n / 256 ^ j : Nat) : Int) ∧ i = .int .i64 (j : Int) ∧ (∀ t, t < j → f t = byN n t) ∧ (∀ t, 0 ≤ f t ∧ f t < 256) ∧ Arr .u8 wx w.heap.size f k ∧ Below w.heap.size w wx)
  case atStart => exact ⟨0, fun _ => 0, by omega, by simp, rfl, fun _ h => by omega, fun _ => by simp, HA0.out, HB0.out⟩
  case round =>
    clear HA0 HB0
    obtain ⟨j, f, hj, rfl, rfl, hf, hfb, hA, hB⟩ := hrel
    have HA : Hid (Arr .u8 wr w.heap.size f k) := hA
    have HB : Hid (Below w.heap.size w wr) := hB
    have HF : Hid (∀ t, t < j → f t = byN n t) := hf
    have HFB : Hid (∀ t, 0 ≤ f t ∧ f t < 256) := hfb
    clear hB hf hfb
    by_cases hlt : j < k
    · obtain ⟨cj, fj⟩ := hA j hlt
      have hji : (j : Int) < (k : Int) := by omega
      have HN1 : Hid (n / 256 ^ (j + 1) = n / 256 ^ j / 256) := by show _ = _; rw [Nat.pow_succ, Nat.div_div_eq_div_mul]
      have HBY : Hid (byN n j = ((n / 256 ^ j % 256 : Nat) : Int)) := rfl
      have hle : n / 256 ^ j < 18446744073709551616 := Nat.lt_of_le_of_lt (Nat.div_le_self _ _) hn
      generalize n / 256 ^ j = N at *
      have hNi : (N : Int) < 18446744073709551616 := by omega
      clear hA
      go_wp2
      go_roundg (gk - 1)
      case measure => omega
      case rel =>
        refine ⟨j + 1, upd f j (byN n j), by omega, ?_, by go_num, ?_, ?_, ?_, HB.out.setCell (Nat.le_refl _) _⟩
        · rw [HN1.out]; go_num
        · intro t ht
          by_cases h2 : t = j
          · subst h2; exact upd_same _ _ _
          · rw [upd_other _ _ _ _ h2]; exact HF.out t (by omega)
        · intro t
          by_cases h2 : t = j
          · subst h2; rw [upd_same, HBY.out]; omega
          · rw [upd_other _ _ _ _ h2]; exact HFB.out t
        · have := HA.out.set j hlt (byN n j)
          have e : ((N % 256 : Nat) : Int) = (N : Int) % 256 := by omega
          rw [HBY.out, e] at this ⊢
          exact this
    · obtain rfl : j = k := by omega
      have hst := str_arr wr w.heap.size f j HA.out HFB.out j
      have HS : Hid (strOf f j = ofL (le n j)) := by
        show _ = _
        rw [str_congr f (byN n) j HF.out]
        unfold strOf ofL
        rw [le_bytes]
      generalize strOf f j = S at hst HS
      clear hA
      go_wp2
      go_ret
      exact ⟨by rw [HS.out]; rfl, HB.out⟩
end Go.Proofs.YtkmalggeieiepaaDoor
namespace Go.Proofs.YtkmalggeieiepaaDoor
open Go.RowKit

theorem results_mid {P : Program} {fn : Func} {p : Tmp} {ty : TypeId} (h : fn.results = #[.cell p ty]) (tmps : Array Value) (w : World) (g : Nat) (cs : List Value) (d : TypeDesc)
    (hp : tmps.getD p undef = .pointer (some ⟨g, 0, none⟩)) (hc : w.rangeAt g 0 cs) (hu : P.underlying ty = some d) (hd : d.isRow = true) (hi : (P.info? ty).map (·.size) = some cs.length) :
    (results fn tmps).run P w = .ok (.agg cs.toArray) w := by
  have hp' : tmps[p]?.getD undef = .pointer (some ⟨g, 0, none⟩) := by simpa using hp
  simp [results, h, hp', asAddr, run_loadVar_mid w g 0 ty cs d hc hu hd hi]
theorem range2 {w : World} {b : Nat} {x y : Value} (h0 : w.cell? ⟨b, 0, none⟩ = some x) (h1 : w.cell? ⟨b, 1, none⟩ = some y) : w.rangeAt b 0 [x, y] := fun j v hv => by
  match j, hv with
  | 0, hv => rw [Nat.zero_add]; simp at hv; subst hv; exact h0
  | 1, hv => rw [Nat.zero_add]; simp at hv; subst hv; exact h1
theorem own_slice {w : World} {base e size n : Nat} {v : Value} {xs : List Value} (h : w.ownsRow base e size v n xs) : ∃ a m c, v = .slice a m c := by
  rcases h.2 with ⟨rfl, _⟩ | ⟨g, cap, cur, rfl, _⟩
  · exact ⟨_, _, _, rfl⟩
  · exact ⟨_, _, _, rfl⟩
end Go.Proofs.YtkmalggeieiepaaDoor
namespace Go.Proofs.YtkmalggeieiepaaDoor
open Go.RowKit

/-- the double digest's bytes. -/
def dbl (Kc : Nat → Int) (l : List UInt8) : Nat → Int := shaF Kc (strOf (shaF Kc l) 32).data.toList
theorem strOf_size (f : Nat → Int) (n : Nat) : (strOf f n).size = n := by simp [strOf, lsOf, ByteArray.size]
theorem shaF_lt (Kc : Nat → Int) (l : List UInt8) (j : Nat) : 0 ≤ shaF Kc l j ∧ shaF Kc l j < 256 := dgF_lt _ j
theorem sum_one (Kc : Nat → Int) (s : ByteArray) (w : World) (hkt : KT Kc w) (hpos : 0 < w.heap.size) (hs : s.size ≤ 1099511627776) :
    Calls Tryd.prog 20 #[.slice (some ⟨w.heap.size, 0, none⟩) 1 1] (w.alloc (.cells #[.string s] 9)) fun e w' => e = .returned (.agg (wl .u8 (shaF Kc s.data.toList) 32).toArray) ∧ Below w.heap.size w w' := by
  have hT : Texts (w.alloc (.cells #[.string s] 9)) w.heap.size [s] := by
    intro j hj
    obtain rfl : j = 0 := by simp at hj; exact hj
    simp [go_sem]
  have hc : cat [s] = s.data.toList := by simp [cat]
  have hl : s.data.toList.length = s.size := rfl
  have hcall := sum_any Kc [s] w.heap.size (w.alloc (.cells #[.string s] 9)) hT (by simp) (hkt.later ((Below.refl _ _).alloc (Nat.le_refl _) _) hpos) (by rw [hc, hl]; exact hs) (by simp)
  rw [hc] at hcall
  refine hcall.mono fun e w' ⟨h1, h2⟩ => ⟨h1, ?_⟩
  exact ((Below.refl _ _).alloc (Nat.le_refl _) _).trans (h2.mono (by simp))

set_option maxRecDepth 10000 in
set_option maxHeartbeats 1000000 in
theorem double_any (Kc : Nat → Int) (ts : List ByteArray) (gT : Nat) (w : World) (hT : Texts w gT ts) (hlt : gT < w.heap.size) (hkt : KT Kc w) (hn : (cat ts).length ≤ 1099511627776) (hn2 : ts.length ≤ 1099511627776) :
    Calls Tryd.prog 27 #[.slice (some ⟨gT, 0, none⟩) ts.length ts.length] w fun e w' => e = .returned (.agg (wl .u8 (dbl Kc (cat ts)) 32).toArray) ∧ Below w.heap.size w w' := by
  have hpos : 0 < w.heap.size := World.block_lt_of_cell? w _ (hkt 0 (by omega))
  go_enter Tryd.func27, Tryd.ntmps27
  go_upto_region 1 with fail
  obtain ⟨W1, hW1⟩ : ∃ W, W = w.alloc (.cells (Array.replicate 32 (.int .u8 0)) 43) := ⟨_, rfl⟩
  have HA : Hid (Arr .u8 W1 w.heap.size (fun _ => 0) 32) := by show Arr _ _ _ _ _; rw [hW1]; exact Arr.new _ _ 32 _ _ (by rfl)
  have HB1 : Hid (Below w.heap.size w W1) := by show Below _ _ _; rw [hW1]; exact (Below.refl _ _).alloc (Nat.le_refl _) _
  have hz1 : W1.heap.size = w.heap.size + 1 := by rw [hW1]; simp
  have H1 : Hid (Calls Tryd.prog 20 #[.slice (some ⟨gT, 0, none⟩) ts.length ts.length] W1 fun e w' => e = .returned (.agg (wl .u8 (shaF Kc (cat ts)) 32).toArray) ∧ Below W1.heap.size W1 w') :=
    sum_any Kc ts gT W1 (fun j hj => by rw [HB1.out.cell (p := ⟨gT, j, none⟩) hlt]; exact hT j hj) (by omega) (hkt.later HB1.out hpos) hn hn2
  have HTX : Hid (∀ W, Calls Tryd.prog 21 #[.agg (wl .u8 (shaF Kc (cat ts)) 32).toArray] W fun e w' => e = .returned (.string (strOf (shaF Kc (cat ts)) 32)) ∧ Below W.heap.size W w') := fun W => text_any (shaF Kc (cat ts)) (shaF_lt Kc _) _ rfl W
  have H2 : Hid (∀ W, Below w.heap.size w W → Calls Tryd.prog 20 #[.slice (some ⟨W.heap.size, 0, none⟩) 1 1] (W.alloc (.cells #[.string (strOf (shaF Kc (cat ts)) 32)] 9)) fun e w' => e = .returned (.agg (wl .u8 (dbl Kc (cat ts)) 32).toArray) ∧ Below W.heap.size W w') :=
    fun W hW => sum_one Kc _ W (hkt.later hW hpos) (Nat.lt_of_lt_of_le hpos hW.size) (by rw [strOf_size]; omega)
  have HR : Hid (∀ W, Below W1.heap.size W1 W → Arr .u8 W w.heap.size (fun _ => 0) 32) := fun W hW => HA.out.later hW (by omega)
  have hW1' : w.alloc (.cells #[.int .u8 0, .int .u8 0, .int .u8 0, .int .u8 0, .int .u8 0, .int .u8 0, .int .u8 0, .int .u8 0, .int .u8 0, .int .u8 0, .int .u8 0, .int .u8 0, .int .u8 0, .int .u8 0, .int .u8 0, .int .u8 0, .int .u8 0, .int .u8 0, .int .u8 0, .int .u8 0, .int .u8 0, .int .u8 0, .int .u8 0, .int .u8 0, .int .u8 0, .int .u8 0, .int .u8 0, .int .u8 0, .int .u8 0, .int .u8 0, .int .u8 0, .int .u8 0] 43) = W1 := by rw [hW1]; rfl
  rw [hW1']
  have HZ1 : Hid (W1.heap.size = w.heap.size + 1) := hz1
  clear hW1 hW1' HA hkt hT hn hn2 hlt hpos hz1
  generalize (wl .u8 (shaF Kc (cat ts)) 32).toArray = S1 at H1 HTX
  generalize strOf (shaF Kc (cat ts)) 32 = t1 at HTX H2
  go_wp2_with (first
    | (go_at_call 20; refine H1.out.mono ?_; rintro e w2 ⟨rfl, hb2⟩; have HB2 := (show Hid (Below W1.heap.size W1 w2) from hb2); clear hb2 H1)
    | (go_at_call 21; go_must (refine (HTX.out _).mono ?_); rintro e w3 ⟨rfl, hb3⟩; have HB3 := (show Hid (Below W1.heap.size W1 w3) from HB2.out.trans (hb3.mono HB2.out.size)); clear hb3)
    | (go_at_call 20; go_must (refine (H2.out _ (HB1.out.trans (HB3.out.mono (by have := HZ1.out; omega)))).mono ?_); rintro e w4 ⟨rfl, hb4⟩; have HB4 := (show Hid (Below W1.heap.size W1 w4) from HB3.out.trans (hb4.mono HB3.out.size)); clear hb4)
    | (refine wpList_store_arr rfl 43 _ _ rfl w.heap.size .u8 (fun _ => 0) (dbl Kc (cat ts)) 32 rfl rfl ?_ (by kernel_rfl) ?_; exact HR.out _ HB4.out))
  refine bodyPost_ret (v := .agg (wl .u8 (dbl Kc (cat ts)) 32).toArray) (results_arr Tryd.results27 _ _ w.heap.size .u8 (dbl Kc (cat ts)) 32 _ rfl ((HR.out _ HB4.out).all _) Tryd.underlying43 rfl (by kernel_rfl)) rfl ⟨rfl, ?_⟩
  exact below_setCells (HB1.out.trans (HB4.out.mono (by have := HZ1.out; omega))) _ (Nat.le_refl _) _ _

/-- of one text. -/
theorem double_one (Kc : Nat → Int) (s : ByteArray) (w : World) (hkt : KT Kc w) (hs : s.size ≤ 1099511627776) :
    Calls Tryd.prog 27 #[.slice (some ⟨w.heap.size, 0, none⟩) 1 1] (w.alloc (.cells #[.string s] 9)) fun e w' => e = .returned (.agg (wl .u8 (dbl Kc s.data.toList) 32).toArray) ∧ Below w.heap.size w w' := by
  have hT : Texts (w.alloc (.cells #[.string s] 9)) w.heap.size [s] := by
    intro j hj
    obtain rfl : j = 0 := by simp at hj; exact hj
    simp [go_sem]
  have hc : cat [s] = s.data.toList := by simp [cat]
  have hl : s.data.toList.length = s.size := rfl
  have hpos : 0 < w.heap.size := World.block_lt_of_cell? w _ (hkt 0 (by omega))
  have hcall := double_any Kc [s] w.heap.size (w.alloc (.cells #[.string s] 9)) hT (by simp) (hkt.later ((Below.refl _ _).alloc (Nat.le_refl _) _) hpos) (by rw [hc, hl]; exact hs) (by simp)
  rw [hc] at hcall
  refine hcall.mono fun e w' ⟨h1, h2⟩ => ⟨h1, ?_⟩
  exact ((Below.refl _ _).alloc (Nat.le_refl _) _).trans (h2.mono (by simp))
end Go.Proofs.YtkmalggeieiepaaDoor
namespace Go.Proofs.YtkmalggeieiepaaDoor
open Go.RowKit

/-- a text's bytes in memory. -/
def bc (d : ByteArray) : List Value := d.data.toList.map fun x => Value.int .u8 (x.toNat : Int)
theorem bc_length (d : ByteArray) : (bc d).length = d.size := by simp [bc]
theorem bc_one (d : ByteArray) : ∀ u ∈ bc d, u.oneCell' = true := by
  intro u hu; simp [bc] at hu; obtain ⟨x, _, rfl⟩ := hu; rfl
def byF (d : ByteArray) : Nat → Int := fun j => ((d.data.toList.getD j 0).toNat : Int)
theorem byF_lt (d : ByteArray) (j : Nat) : 0 ≤ byF d j ∧ byF d j < 256 := by
  have := (d.data.toList.getD j 0).toNat_lt
  unfold byF; omega
theorem lsz (d : ByteArray) : d.data.toList.length = d.size := rfl
theorem bc_wl (d : ByteArray) (n : Nat) (h : d.size = n) : bc d = wl .u8 (byF d) n := by
  apply List.ext_getElem
  · rw [bc_length, wl_length, h]
  · intro j h1 h2
    rw [bc_length] at h1
    have hj : j < d.data.toList.length := h1
    simp [bc, wl, byF, h1]
theorem strOf_byF (d : ByteArray) (n : Nat) (h : d.size = n) : strOf (byF d) n = d := by
  apply ByteArray.ext
  apply Array.ext'
  show lsOf (byF d) n = d.data.toList
  apply List.ext_getElem
  · simp [lsOf]; exact h.symm
  · intro j h1 h2
    have h3 : j < d.data.size := h2
    simp only [lsOf, byF, List.getD, List.getElem_map, List.getElem_range, List.getElem?_eq_getElem h2, Option.getD_some]
    simp
theorem bc_strOf (f : Nat → Int) (n : Nat) (hf : ∀ j, 0 ≤ f j ∧ f j < 256) : bc (strOf f n) = wl .u8 f n := by
  have e : (strOf f n).data.toList = lsOf f n := rfl
  unfold bc
  rw [e]
  unfold lsOf wl
  rw [List.map_map]
  apply List.map_congr_left
  intro j _
  have := hf j
  simp; omega
/-- a digest as a value. -/
def aggD (d : ByteArray) : Value := .agg (bc d).toArray
/-- the double digest, as a text. -/
def dd (Kc : Nat → Int) (t : ByteArray) : ByteArray := strOf (dbl Kc t.data.toList) 32
theorem dd_size (Kc : Nat → Int) (t : ByteArray) : (dd Kc t).size = 32 := strOf_size _ _

theorem text_d (d : ByteArray) (hd : d.size = 32) (w : World) :
    Calls Tryd.prog 21 #[aggD d] w fun e w' => e = .returned (.string d) ∧ Below w.heap.size w w' := by
  have h := text_any (byF d) (byF_lt d) (bc d).toArray (by show _ = _; rw [bc_wl d 32 hd]) w
  rw [strOf_byF d 32 hd] at h
  exact h
theorem double_two (Kc : Nat → Int) (a b : ByteArray) (w : World) (hkt : KT Kc w) (hs : (a ++ b).size ≤ 1099511627776) :
    Calls Tryd.prog 27 #[.slice (some ⟨w.heap.size, 0, none⟩) 2 2] (w.alloc (.cells #[.string a, .string b] 9)) fun e w' => e = .returned (aggD (dd Kc (a ++ b))) ∧ Below w.heap.size w w' := by
  have hT : Texts (w.alloc (.cells #[.string a, .string b] 9)) w.heap.size [a, b] := by
    intro j hj
    have hj' : j = 0 ∨ j = 1 := by simp at hj; omega
    rcases hj' with rfl | rfl
    · simp [go_sem]
    · simp [go_sem]
  have hc : cat [a, b] = (a ++ b).data.toList := by simp [cat, ByteArray.data_append]
  have hl : (a ++ b).data.toList.length = (a ++ b).size := rfl
  have hpos : 0 < w.heap.size := World.block_lt_of_cell? w _ (hkt 0 (by omega))
  have hcall := double_any Kc [a, b] w.heap.size (w.alloc (.cells #[.string a, .string b] 9)) hT (by simp) (hkt.later ((Below.refl _ _).alloc (Nat.le_refl _) _) hpos) (by rw [hc, hl]; exact hs) (by simp)
  rw [hc] at hcall
  refine hcall.mono fun e w' ⟨h1, h2⟩ => ⟨?_, ?_⟩
  · rw [h1]; unfold aggD dd; rw [bc_strOf (dbl Kc (a ++ b).data.toList) 32 (fun j => shaF_lt Kc _ j)]
  · exact ((Below.refl _ _).alloc (Nat.le_refl _) _).trans (h2.mono (by simp))
theorem sz8 : ∀ w : World, (Go.sizeOf 5).run Tryd.prog w = .ok 1 w := fun _ => by kernel_rfl
theorem eql_d (a b : ByteArray) (ha : a.size = 32) (hb : b.size = 32) (w : World) : (binOp .eql 43 (aggD a) (aggD b)).run Tryd.prog w = .ok (.bool (a.data.toList == b.data.toList)) w :=
  run_eql_bytes w 43 5 32 Tryd.underlying43 Tryd.underlying5 sz8 a.data.toList b.data.toList ha hb

/-- digests in a row. -/
def DRow (w : World) (b o : Nat) (ds : List ByteArray) : Prop := ∀ i (h : i < ds.length), w.rangeAt b (o + 32 * i) (bc ds[i])
theorem DRow.lt {w : World} {b o : Nat} {ds : List ByteArray} (h : DRow w b o ds) (hn : 0 < ds.length) (h32 : ∀ s ∈ ds, s.size = 32) : b < w.heap.size := by
  have hs : (ds[0]).size = 32 := h32 _ (List.getElem_mem hn)
  have hl : 0 < (bc ds[0]).length := by rw [bc_length, hs]; omega
  exact World.block_lt_of_cell? w _ (h 0 hn 0 _ (List.getElem?_eq_getElem hl))
theorem range_later {w w' : World} {b o : Nat} {cs : List Value} {B : Nat} (h : w.rangeAt b o cs) (hb : Below B w w') (hB : b < B) : w'.rangeAt b o cs := fun j v hv => by
  rw [hb.cell (p := ⟨b, o + j, none⟩) hB]; exact h j v hv
theorem DRow.later {w w' : World} {b o : Nat} {ds : List ByteArray} {B : Nat} (h : DRow w b o ds) (hb : Below B w w') (hB : b < B) : DRow w' b o ds := fun i hi => range_later (h i hi) hb hB
theorem DRow.drop {w : World} {b o : Nat} {x y : ByteArray} {ds : List ByteArray} (h : DRow w b o (x :: y :: ds)) : DRow w b (o + 64) ds := fun i hi => by
  have := h (i + 2) (by simp; omega)
  simp only [List.getElem_cons_succ] at this
  rw [show o + 64 + 32 * i = o + 32 * (i + 2) by omega]; exact this
def flatD (ds : List ByteArray) : List Value := (ds.map bc).flatten
theorem flatD_snoc (ds : List ByteArray) (d : ByteArray) : flatD (ds ++ [d]) = flatD ds ++ bc d := by simp [flatD]
theorem flatD_length (ds : List ByteArray) (h32 : ∀ s ∈ ds, s.size = 32) : (flatD ds).length = ds.length * 32 := by
  induction ds with
  | nil => rfl
  | cons d ds ih =>
    have h1 := ih (fun s hs => h32 s (List.mem_cons_of_mem _ hs))
    have h2 : (bc d).length = 32 := by rw [bc_length]; exact h32 d List.mem_cons_self
    show (bc d ++ flatD ds).length = _
    rw [List.length_append, h1, h2, List.length_cons]; omega
theorem flatD_get (ds : List ByteArray) (h32 : ∀ s ∈ ds, s.size = 32) : ∀ i (h : i < ds.length) j v, (bc ds[i])[j]? = some v → (flatD ds)[32 * i + j]? = some v := by
  induction ds with
  | nil => intro i h; simp at h
  | cons d ds ih =>
    intro i h j v hv
    have h2 : (bc d).length = 32 := by rw [bc_length]; exact h32 d List.mem_cons_self
    show (bc d ++ flatD ds)[32 * i + j]? = some v
    cases i with
    | zero =>
      have hj := (List.getElem?_eq_some_iff.1 hv).1
      simp only [List.getElem_cons_zero] at hv hj
      rw [Nat.mul_zero, Nat.zero_add, List.getElem?_append_left hj]; exact hv
    | succ i =>
      simp only [List.getElem_cons_succ] at hv
      rw [List.getElem?_append_right (by omega), h2, show 32 * (i + 1) + j - 32 = 32 * i + j by omega]
      exact ih (fun s hs => h32 s (List.mem_cons_of_mem _ hs)) i (by simpa using h) j v hv
theorem own_drow {w : World} {base e g cap n : Nat} {ds : List ByteArray} (hn : ds.length = n) (h32 : ∀ s ∈ ds, s.size = 32) (h : w.ownsRow base e 32 (.slice (some ⟨g, 0, none⟩) n cap) n (flatD ds)) : DRow w g 0 ds := by
  obtain ⟨_, h2⟩ := h
  rcases h2 with ⟨hv, _⟩ | ⟨g', cap', cur, hv, _, hg, _, _, _, ht⟩
  · cases hv
  · injection hv with e1 e2 e3
    injection e1 with e4
    injection e4 with e5
    subst e5
    intro i hi j v hvv
    rw [cell_of_row w g (0 + 32 * i + j) cur _ _ hg]
    have h4 := flatD_get ds h32 i hi j v hvv
    have h5 := (List.getElem?_eq_some_iff.1 h4).1
    rw [flatD_length ds h32] at h5
    have h3 : (cur.toList.take (n * 32))[32 * i + j]? = (flatD ds)[32 * i + j]? := by rw [ht]
    rw [List.getElem?_take, if_pos (by omega), h4] at h3
    rw [← Array.getElem?_toList, Nat.zero_add]
    exact h3
theorem own_after {w w' : World} {base e size n : Nat} {v : Value} {xs : List Value} (h : w.ownsRow base e size v n xs) (hb : Below w.heap.size w w') : w'.ownsRow base e size v n xs := by
  refine ⟨h.1, ?_⟩
  rcases h.2 with hn | ⟨g, cap, cur, hv, hbg, hg, rest⟩
  · exact .inl hn
  · have hlt : g < w.heap.size := by
      rcases Nat.lt_or_ge g w.heap.size with h1 | h1
      · exact h1
      · rw [Array.getElem?_eq_none h1] at hg; cases hg
    exact .inr ⟨g, cap, cur, hv, hbg, by rw [hb.block g hlt]; exact hg, rest⟩
theorem ownB_ge {w : World} {base e size n : Nat} {v : Value} {xs : List Value} (h : w.ownsRow base e size v n xs) : ∀ k, v.ownBlock = some k → base ≤ k := by
  intro k hk
  rcases h.2 with ⟨rfl, _⟩ | ⟨g, cap, cur, rfl, hb, _⟩
  · simp [Value.ownBlock] at hk
  · simp [Value.ownBlock] at hk; omega
theorem infoDig : (Tryd.prog.info? 43).map (fun i => (i.zero, i.size, i.bytes)) = some (some (.agg (wl .u8 (fun _ => 0) 32).toArray), 32, 32) := by kernel_rfl
theorem sizeDig : (Tryd.prog.info? 43).map (·.size) = some 32 := by kernel_rfl
theorem news_d {w : World} {g : Nat} {d : ByteArray} {T : Nat} (h : w.heap[g]? = some (.cells (bc d).toArray T (0, 0))) : ∀ j u, (bc d)[j]? = some u → w.cell? ((⟨g, 0, none⟩ : Addr).add j) = some u := fun j u hu => World.news_of_block h j u (by simpa using hu)
end Go.Proofs.YtkmalggeieiepaaDoor
namespace Go.Proofs.YtkmalggeieiepaaDoor
open Go.RowKit

theorem results_arr2 {P : Program} {fn : Func} {p t : Tmp} {ty : TypeId} (h : fn.results = #[.cell p ty, .tmp t]) (tmps : Array Value) (w : World) (g : Nat) (K : IntKind) (f : Nat → Int) (n : Nat) (d : TypeDesc) (u : Value)
    (hp : tmps.getD p undef = .pointer (some ⟨g, 0, none⟩)) (ht : tmps.getD t undef = u) (hg : Arr K w g f n) (hu : P.underlying ty = some d) (hd : d.isRow = true) (hi : (P.info? ty).map (·.size) = some n) :
    (results fn tmps).run P w = .ok (.tuple #[.agg (wl K f n).toArray, u]) w := by
  have hp' : tmps[p]?.getD undef = .pointer (some ⟨g, 0, none⟩) := by simpa using hp
  have ht' : tmps[t]?.getD undef = u := by simpa using ht
  simp [results, h, hp', ht', asAddr, run_loadVar_mid w g 0 ty (wl K f n) d hg.range hu hd (by rw [wl_length]; exact hi)]

set_option maxRecDepth 10000 in
set_option maxHeartbeats 1000000 in
theorem digestOf_no (s : ByteArray) (w : World) (h : s.size ≠ 32) :
    Calls Tryd.prog 30 #[.string s] w fun e w' => e = .returned (.tuple #[.agg (wl .u8 (fun _ => 0) 32).toArray, .bool false]) ∧ Below w.heap.size w w' := by
  have hi : ¬ ((s.size : Int) = 32) := by omega
  go_enter Tryd.func30, Tryd.ntmps30
  go_upto_region 2 with fail
  obtain ⟨W0, hW0⟩ : ∃ W, W = (w.alloc (.cells #[.int .u8 0, .int .u8 0, .int .u8 0, .int .u8 0, .int .u8 0, .int .u8 0, .int .u8 0, .int .u8 0, .int .u8 0, .int .u8 0, .int .u8 0, .int .u8 0, .int .u8 0, .int .u8 0, .int .u8 0, .int .u8 0, .int .u8 0, .int .u8 0, .int .u8 0, .int .u8 0, .int .u8 0, .int .u8 0, .int .u8 0, .int .u8 0, .int .u8 0, .int .u8 0, .int .u8 0, .int .u8 0, .int .u8 0, .int .u8 0, .int .u8 0, .int .u8 0] 43)).alloc (.cells #[.int .u8 0, .int .u8 0, .int .u8 0, .int .u8 0, .int .u8 0, .int .u8 0, .int .u8 0, .int .u8 0, .int .u8 0, .int .u8 0, .int .u8 0, .int .u8 0, .int .u8 0, .int .u8 0, .int .u8 0, .int .u8 0, .int .u8 0, .int .u8 0, .int .u8 0, .int .u8 0, .int .u8 0, .int .u8 0, .int .u8 0, .int .u8 0, .int .u8 0, .int .u8 0, .int .u8 0, .int .u8 0, .int .u8 0, .int .u8 0, .int .u8 0, .int .u8 0] 43) := ⟨_, rfl⟩
  have HA : Hid (Arr .u8 W0 w.heap.size (fun _ => 0) 32) := by show Arr _ _ _ _ _; rw [hW0]; exact (Arr.new w _ 32 _ _ (by rfl)).alloc (by omega) _
  have HA2 : Hid (Arr .u8 W0 (w.heap.size + 1) (fun _ => 0) 32) := by show Arr _ _ _ _ _; rw [hW0]; exact Arr.newAt _ _ 32 _ _ _ (by rfl) (by simp)
  have HB : Hid (Below w.heap.size w W0) := by show Below _ _ _; rw [hW0]; exact ((Below.refl _ _).alloc (Nat.le_refl _) _).alloc (by simp) _
  rw [← hW0]
  clear hW0
  go_wp2_with (first
    | (refine wpList_load_arr rfl 43 _ rfl (w.heap.size + 1) rfl .u8 (fun _ => 0) 32 _ ?_ Tryd.underlying43 rfl sizeDig ?_; exact HA2.out)
    | (refine wpList_store_arr rfl 43 _ _ rfl w.heap.size .u8 (fun _ => 0) (fun _ => 0) 32 rfl rfl ?_ sizeDig ?_; exact HA.out))
  refine bodyPost_ret (results_arr2 Tryd.results30 _ _ w.heap.size .u8 (fun _ => 0) 32 _ _ rfl rfl (HA.out.all _) Tryd.underlying43 rfl sizeDig) rfl ⟨rfl, ?_⟩
  exact below_setCells HB.out _ (Nat.le_refl _) _ _

set_option maxRecDepth 10000 in
set_option maxHeartbeats 1000000 in
theorem digestOf_ok (s : ByteArray) (w : World) (h : s.size = 32) :
    Calls Tryd.prog 30 #[.string s] w fun e w' => e = .returned (.tuple #[aggD s, .bool true]) ∧ Below w.heap.size w w' := by
  have hi : ((s.size : Int) = 32) := by omega
  have HE : Hid (aggD s = .agg (wl .u8 (byF s) 32).toArray) := by show _ = _; unfold aggD; rw [bc_wl s 32 h]
  rw [HE.out]
  clear HE
  go_enter Tryd.func30, Tryd.ntmps30
  go_upto_region 2 with fail
  obtain ⟨W0, hW0⟩ : ∃ W, W = (w.alloc (.cells #[.int .u8 0, .int .u8 0, .int .u8 0, .int .u8 0, .int .u8 0, .int .u8 0, .int .u8 0, .int .u8 0, .int .u8 0, .int .u8 0, .int .u8 0, .int .u8 0, .int .u8 0, .int .u8 0, .int .u8 0, .int .u8 0, .int .u8 0, .int .u8 0, .int .u8 0, .int .u8 0, .int .u8 0, .int .u8 0, .int .u8 0, .int .u8 0, .int .u8 0, .int .u8 0, .int .u8 0, .int .u8 0, .int .u8 0, .int .u8 0, .int .u8 0, .int .u8 0] 43)).alloc (.cells #[.int .u8 0, .int .u8 0, .int .u8 0, .int .u8 0, .int .u8 0, .int .u8 0, .int .u8 0, .int .u8 0, .int .u8 0, .int .u8 0, .int .u8 0, .int .u8 0, .int .u8 0, .int .u8 0, .int .u8 0, .int .u8 0, .int .u8 0, .int .u8 0, .int .u8 0, .int .u8 0, .int .u8 0, .int .u8 0, .int .u8 0, .int .u8 0, .int .u8 0, .int .u8 0, .int .u8 0, .int .u8 0, .int .u8 0, .int .u8 0, .int .u8 0, .int .u8 0] 43) := ⟨_, rfl⟩
  have HA : Hid (Arr .u8 W0 w.heap.size (fun _ => 0) 32) := by show Arr _ _ _ _ _; rw [hW0]; exact (Arr.new w _ 32 _ _ (by rfl)).alloc (by omega) _
  have HA2 : Hid (Arr .u8 W0 (w.heap.size + 1) (fun _ => 0) 32) := by show Arr _ _ _ _ _; rw [hW0]; exact Arr.newAt _ _ 32 _ _ _ (by rfl) (by simp)
  have HB : Hid (Below w.heap.size w W0) := by show Below _ _ _; rw [hW0]; exact ((Below.refl _ _).alloc (Nat.le_refl _) _).alloc (by simp) _
  rw [← hW0]
  clear hW0
  have HA3 : Hid (Arr .u8 (W0.setCells (w.heap.size + 1) 0 (bc s)) (w.heap.size + 1) (byF s) 32) := by
    show Arr _ _ _ _ _; rw [bc_wl s 32 h]; exact HA2.out.all _
  have HA4 : Hid (Arr .u8 (W0.setCells (w.heap.size + 1) 0 (bc s)) w.heap.size (fun _ => 0) 32) := HA.out.setsFar _ _ (by omega)
  have HB2 : Hid (Below w.heap.size w (W0.setCells (w.heap.size + 1) 0 (bc s))) := below_setCells HB.out _ (by omega) _ _
  have HC : Hid (∀ j, j < s.size → (W0.cell? ⟨w.heap.size + 1, 0 + j, none⟩).isSome = true) := fun j hj => by rw [Nat.zero_add, (HA2.out j (by omega)).1]; rfl
  have HF : Hid (∀ j, j < s.size → W0.frozen? ⟨w.heap.size + 1, 0 + j, none⟩ = false) := fun j hj => by rw [Nat.zero_add]; exact (HA2.out j (by omega)).2
  have hcp : (Builtin.copy_ #[50, 9] 3 #[.slice (some ⟨w.heap.size + 1, 0, none⟩) 32 32, .string s]).run Tryd.prog W0 = .ok (.int .i64 32) (W0.setCells (w.heap.size + 1) 0 (bc s)) := by
    rw [run_copy_string W0 50 9 3 5 (w.heap.size + 1) 0 32 32 s Tryd.underlying50 sz8 (by omega) HC.out HF.out, h]; rfl
  generalize W0.setCells (w.heap.size + 1) 0 (bc s) = W1 at HA3 HA4 HB2 hcp
  clear HA HA2 HB HC HF
  go_upto_region 4 with fail
  go_wp2_with (first
    | (refine wpList_load_arr rfl 43 _ rfl (w.heap.size + 1) rfl .u8 (byF s) 32 _ ?_ Tryd.underlying43 rfl sizeDig ?_; exact HA3.out)
    | (refine wpList_store_arr rfl 43 _ _ rfl w.heap.size .u8 (fun _ => 0) (byF s) 32 rfl rfl ?_ sizeDig ?_; exact HA4.out))
  refine bodyPost_ret (results_arr2 Tryd.results30 _ _ w.heap.size .u8 (byF s) 32 _ _ rfl rfl (HA4.out.all _) Tryd.underlying43 rfl sizeDig) rfl ⟨rfl, ?_⟩
  exact below_setCells HB2.out _ (Nat.le_refl _) _ _
end Go.Proofs.YtkmalggeieiepaaDoor
namespace Go.Proofs.YtkmalggeieiepaaDoor
open Go.RowKit

/-- a frame under one name. -/
theorem q_frame {C : Code} {P : Program} {Q : Exit → Act → World → Prop} {a : Act} {w : World} (h : ∀ A, Hid (A = a) → C.wp P Q A w) : C.wp P Q a w := h a rfl
theorem q_same (a : Act) (d : Nat) (v : Value) (h : d < a.tmps.size) : (a.put (some d) v).eval (.tmp d) = v := by simp [Act.put, Act.eval, h]
theorem q_ne (a : Act) (d e : Nat) (v : Value) (h : d ≠ e) : (a.put (some d) v).eval (.tmp e) = a.eval (.tmp e) := by simp [Act.put, Act.eval, h]
theorem q_sz (a : Act) (d : Nat) (v : Value) : (a.put (some d) v).tmps.size = a.tmps.size := by simp [Act.put]
theorem q_run1 {P : Program} {o : Oper} {a : Act} {W W' : World} {r : Next} (s : Nat) (us : Value) (hs : a.eval (.tmp s) = us)
    (h : ∀ ρ : Operand → Value, (∀ c, ρ (.const c) = c) → (∀ n, ρ (.func n) = .func (.func n) #[] #[]) → ρ (.tmp s) = us → (execOp ρ o).run P W = .ok r W') : (execOp a.eval o).run P W = .ok r W' := h a.eval (fun _ => rfl) (fun _ => rfl) hs
theorem q_run2 {P : Program} {o : Oper} {a : Act} {W W' : World} {r : Next} (s t : Nat) (us ut : Value) (hs : a.eval (.tmp s) = us) (ht : a.eval (.tmp t) = ut)
    (h : ∀ ρ : Operand → Value, (∀ c, ρ (.const c) = c) → (∀ n, ρ (.func n) = .func (.func n) #[] #[]) → ρ (.tmp s) = us → ρ (.tmp t) = ut → (execOp ρ o).run P W = .ok r W') : (execOp a.eval o).run P W = .ok r W' := h a.eval (fun _ => rfl) (fun _ => rfl) hs ht
/-- the one operation that may come up yields a value. -/
theorem q_one {P : Program} {md : Region.Mode} {ops : Array Oper} {Q : Exit → Act → World → Prop} {fuel : Nat} {listed : Array Bool} {a : Act} {w : World} (i : Nat) {o : Oper} (v : Value) (w' : World) (hr : Region.ready md ops listed = [i]) (hi : ops[i]? = some o) (hg : o.guard = none)
    (h : (execOp a.eval o).run P w = .ok (.value v) w') (hk : wpAny P md ops Q fuel (listed.setIfInBounds i true) (a.put o.dst v) w') : wpAny P md ops Q (fuel + 1) listed a w := by
  refine wpAny_ready hr (by simp) (AllReady.cons hi (fun K hK => ?_) AllReady.nil)
  have hw : Region.wanted o (yielded ops a.tmps) = true := by simp [Region.wanted, hg]
  rw [if_pos hw]
  unfold Oper.wp; rw [h]; exact hK _ _ hk
/-- the one operation that may come up is a call. -/
theorem q_call {P : Program} {md : Region.Mode} {ops : Array Oper} {Q : Exit → Act → World → Prop} {fuel : Nat} {listed : Array Bool} {a : Act} {w : World} (i : Nat) {o : Oper} (f : FuncId) (args : Array Value) (R : Ending → World → Prop) (hr : Region.ready md ops listed = [i]) (hi : ops[i]? = some o) (hg : o.guard = none)
    (h : (execOp a.eval o).run P w = .ok (.enter f args) w) (hc : Calls P f args w R)
    (hk : ∀ v w', R (.returned v) w' → wpAny P md ops Q fuel (listed.setIfInBounds i true) (a.put o.dst v) w') (hp : ∀ ch w', R (.panicked ch) w' → Q (.panic ch) a w') (ho : ∀ w', R .outgrown w' → False) : wpAny P md ops Q (fuel + 1) listed a w := by
  refine wpAny_ready hr (by simp) (AllReady.cons hi (fun K hK => ?_) AllReady.nil)
  have hw : Region.wanted o (yielded ops a.tmps) = true := by simp [Region.wanted, hg]
  rw [if_pos hw]
  unfold Oper.wp; rw [h]
  show Calls _ _ _ _ _
  refine hc.mono fun x w' hx => ?_
  cases x with
  | returned v => exact hK _ _ (hk v w' hx)
  | panicked ch => exact hp ch w' hx
  | outgrown => exact (ho w' hx).elim
theorem q_def (a : Act) (d : Option Nat) (v : Value) : (a.put d v).defers = a.defers := by cases d <;> rfl
theorem q_panic {P : Program} {fn : Func} {R : Ending → World → Prop} {ch : List PanicEntry} {a : Act} {w : World} (hd : a.defers = []) (h : R (.panicked ch) w) : bodyPost P fn R (.panic ch) a w := ⟨hd, h⟩
theorem q_done0 {P : Program} {fn : Func} {R : Ending → World → Prop} {a : Act} {w : World} (hr : fn.results = #[]) (hd : a.defers = []) (h : R (.returned (.tuple #[])) w) : bodyPost P fn R .normal a w := ⟨hd, .tuple #[], results_none hr _ _ _, h⟩
end Go.Proofs.YtkmalggeieiepaaDoor
namespace Go.Proofs.YtkmalggeieiepaaDoor
open Go Go.RowKit

section
variable {P : Program} {ops : Array Oper} {Q : Exit → Act → World → Prop} {md : Region.Mode} {S : World → Prop} {k : Nat}

/-- whatever order is picked: S holds behind each operation that comes up, but for the last one, number k. -/
def wpAnyT (P : Program) (md : Region.Mode) (ops : Array Oper) (Q : Exit → Act → World → Prop) (S : World → Prop) (k : Nat) : Nat → Array Bool → Act → World → Prop
  | 0, listed, a, w => Region.ready md ops listed = [] ∧ Q .normal a w
  | fuel + 1, listed, a, w =>
    (Region.ready md ops listed = [] → Q .normal a w) ∧
    ∀ i ∈ Region.ready md ops listed, wpOp P ops Q i (fun a' w' => (i ≠ k → S w') ∧ wpAnyT P md ops Q S k fuel (listed.setIfInBounds i true) a' w') a w
theorem wpAny_of_T : ∀ (fuel : Nat) (listed : Array Bool) (a : Act) (w : World), wpAnyT P md ops Q S k fuel listed a w → wpAny P md ops Q fuel listed a w
  | 0, _, _, _, h => h
  | fuel + 1, _, _, _, h => ⟨h.1, fun i hi => wpOp_mono (fun a' w' h' => wpAny_of_T fuel _ a' w' h'.2) (h.2 i hi)⟩
/-- k waits for i. -/
def waits (md : Region.Mode) (ops : Array Oper) (k i : Nat) : Bool := match ops[k]? with
  | some o => o.after.any fun e => Region.binds md e && e.on == i
  | none => false
theorem waits_not {i : Nat} {listed : Array Bool} (hw : waits md ops k i = true) (hr : i ∈ Region.ready md ops listed) (hk : k ∈ Region.ready md ops listed) : False := by
  obtain ⟨_, ok, hok, hall⟩ := mem_ready.1 hk
  unfold waits at hw
  rw [hok] at hw
  obtain ⟨j, hj, h2⟩ := Array.any_iff_exists.1 hw
  have he : ok.after[j] ∈ ok.after := Array.getElem_mem _
  simp only [Bool.and_eq_true, beq_iff_eq] at h2
  have h1 := hall _ he h2.2.2.1
  have h0 := (mem_ready.1 hr).1
  rw [h2.2.2.2] at h1
  rcases Nat.lt_or_ge i listed.size with h' | h'
  · simp [h'] at h0 h1; rw [h0] at h1; cases h1
  · simp [Array.getElem?_eq_none h'] at h1
theorem wpAnyT_first {i : Nat} {oi : Oper} {v : Value} (hi : ops[i]? = some oi) (hsel : ∀ (j : Nat) (o : Oper) cs b, ops[j]? = some o → o.op ≠ .select cs b)
    (hQ : ∀ c a w, Q (.panic c) (a.put oi.dst v) w → Q (.panic c) a w) (hwk : waits md ops k i = true) :
    ∀ (fuel : Nat) (listed : Array Bool) (a : Act) (w : World),
      (∀ j oj, ops[j]? = some oj → j ≠ i → listed.getD j true = false → (∀ e ∈ oj.after, Region.binds md e = true → e.on ≠ i) → oi.apart ops oj = true) →
      i ∈ Region.ready md ops listed → YieldsIf P ops S oi v a → S w →
      wpAnyT P md ops Q S k fuel (listed.setIfInBounds i true) (a.put oi.dst v) w → wpAnyT P md ops Q S k (fuel + 1) listed a w := by
  intro fuel
  induction fuel with
  | zero =>
    intro listed a w _ hr hy hS H
    refine ⟨fun h => (by rw [h] at hr; cases hr), fun j hj => ?_⟩
    by_cases hji : j = i
    · subst hji; exact hy.wpOp hi hS ⟨fun _ => hS, H⟩
    · have := ready_mono hj hji
      rw [H.1] at this
      cases this
  | succ fuel ih =>
    intro listed a w hfree hr hy hS H
    refine ⟨fun h => (by rw [h] at hr; cases hr), fun j hj => ?_⟩
    by_cases hji : j = i
    · subst hji; exact hy.wpOp hi hS ⟨fun _ => hS, H⟩
    · have hjk : j ≠ k := fun e => waits_not hwk hr (e ▸ hj)
      have h1 := H.2 j (ready_mono hj hji)
      obtain ⟨hjun, oj, hoj, hall⟩ := mem_ready.1 hj
      have hnot : ∀ e ∈ oj.after, Region.binds md e = true → e.on ≠ i := fun e he hb heq => by
        have h1 := hall e he hb
        have h0 := (mem_ready.1 hr).1
        rw [heq] at h1
        rcases Nat.lt_or_ge i listed.size with h' | h'
        · simp [h'] at h0 h1; rw [h0] at h1; cases h1
        · simp [Array.getElem?_eq_none h'] at h1
      have h2 := wpOp_putIf hoj (hfree j oj hoj hji hjun hnot) (fun cs b => hsel i oi cs b hi) (fun cs b => hsel j oj cs b hoj) hQ hy h1
      have hfree' : ∀ k ok, ops[k]? = some ok → k ≠ i → (listed.setIfInBounds j true).getD k true = false →
          (∀ e ∈ ok.after, Region.binds md e = true → e.on ≠ i) → oi.apart ops ok = true := fun k ok hk hki hun hno => by
        refine hfree k ok hk hki ?_ hno
        by_cases hjk : j = k
        · subst hjk; exact hjun
        · rw [getD_set_ne true hjk] at hun; exact hun
      refine wpOp_mono (fun a' w' h3 => ⟨h3.2.1, ih (listed.setIfInBounds j true) a' w' hfree' (ready_mono hr (Ne.symm hji)) h3.1 (h3.2.1 hjk) ?_⟩) h2
      rw [Array.setIfInBounds_comm _ _ hji]
      exact h3.2.2
theorem wpAnyT_take {i : Nat} {oi : Oper} {v : Value} {fuel : Nat} {listed : Array Bool} {a : Act} {w : World} (hi : ops[i]? = some oi)
    (hs : Region.noSelect ops = true) (hf : Region.free md ops listed i = true) (hr : (Region.ready md ops listed).contains i = true) (hwk : waits md ops k i = true)
    (hQ : ∀ c a w, Q (.panic c) (a.put oi.dst v) w → Q (.panic c) a w) (hy : YieldsIf P ops S oi v a) (hS : S w)
    (h : wpAnyT P md ops Q S k fuel (listed.setIfInBounds i true) (a.put oi.dst v) w) : wpAnyT P md ops Q S k (fuel + 1) listed a w :=
  wpAnyT_first hi (Region.noSelect_spec hs) hQ hwk fuel listed a w (Region.free_spec hi hf) (by simpa using hr) hy hS h
theorem wpAnyT_one {i : Nat} {fuel : Nat} {listed : Array Bool} {a : Act} {w : World} (hr : Region.ready md ops listed = [i])
    (h : wpOp P ops Q i (fun a' w' => (i ≠ k → S w') ∧ wpAnyT P md ops Q S k fuel (listed.setIfInBounds i true) a' w') a w) : wpAnyT P md ops Q S k (fuel + 1) listed a w :=
  ⟨fun h0 => absurd (hr ▸ h0) (by simp), fun j hj => by
    rw [hr] at hj
    obtain rfl : j = i := by simpa using hj
    exact h⟩
theorem wpAnyT_done {listed : Array Bool} {a : Act} {w : World} (hr : Region.ready md ops listed = []) (h : Q .normal a w) :
    ∀ fuel, wpAnyT P md ops Q S k fuel listed a w
  | 0 => ⟨hr, h⟩
  | _ + 1 => ⟨fun _ => h, by rw [hr]; simp⟩
theorem wp_region_T {id : Nat} {a : Act} {w : World} (hm : P.follows .mixedOrders = true) (hS : S w.drew)
    (h : S w.drew → wpAnyT P .any ops Q S k ops.size (Array.replicate ops.size false) a w.drew) : (Code.region id ops true).wp P Q a w :=
  wp_region_any hm (wpAny_of_T _ _ _ _ (h hS))
/-- the one operation that may come up yields a value. -/
theorem qT_one {fuel : Nat} {listed : Array Bool} {a : Act} {w : World} (i : Nat) {o : Oper} (v : Value) (w' : World) (hr : Region.ready md ops listed = [i]) (hi : ops[i]? = some o) (hg : o.guard = none)
    (h : (execOp a.eval o).run P w = .ok (.value v) w') (hS : i ≠ k → S w') (hk : wpAnyT P md ops Q S k fuel (listed.setIfInBounds i true) (a.put o.dst v) w') : wpAnyT P md ops Q S k (fuel + 1) listed a w := by
  refine wpAnyT_one hr ?_
  unfold wpOp
  simp only [hi]
  have hw : Region.wanted o (yielded ops a.tmps) = true := by simp [Region.wanted, hg]
  rw [if_pos hw]
  refine .inl ?_
  unfold Oper.wp; rw [h]; exact ⟨hS, hk⟩
/-- .. a store. -/
theorem qT_skip {fuel : Nat} {listed : Array Bool} {a : Act} {w : World} (i : Nat) {o : Oper} (w' : World) (hr : Region.ready md ops listed = [i]) (hi : ops[i]? = some o) (hg : o.guard = none)
    (h : (execOp a.eval o).run P w = .ok .skip w') (hS : i ≠ k → S w') (hk : wpAnyT P md ops Q S k fuel (listed.setIfInBounds i true) (a.put o.dst undef) w') : wpAnyT P md ops Q S k (fuel + 1) listed a w := by
  refine wpAnyT_one hr ?_
  unfold wpOp
  simp only [hi]
  have hw : Region.wanted o (yielded ops a.tmps) = true := by simp [Region.wanted, hg]
  rw [if_pos hw]
  refine .inl ?_
  unfold Oper.wp; rw [h]; exact ⟨hS, hk⟩
/-- .. a call, which may leave by a panic. -/
theorem qT_call {fuel : Nat} {listed : Array Bool} {a : Act} {w : World} (i : Nat) {o : Oper} (f : FuncId) (args : Array Value) (R : Ending → World → Prop) (hr : Region.ready md ops listed = [i]) (hi : ops[i]? = some o) (hg : o.guard = none)
    (h : (execOp a.eval o).run P w = .ok (.enter f args) w) (hc : Calls P f args w R)
    (hk : ∀ v w', R (.returned v) w' → (i ≠ k → S w') ∧ wpAnyT P md ops Q S k fuel (listed.setIfInBounds i true) (a.put o.dst v) w') (hp : ∀ ch w', R (.panicked ch) w' → Q (.panic ch) a w') (ho : ∀ w', R .outgrown w' → False) : wpAnyT P md ops Q S k (fuel + 1) listed a w := by
  refine wpAnyT_one hr ?_
  unfold wpOp
  simp only [hi]
  have hw : Region.wanted o (yielded ops a.tmps) = true := by simp [Region.wanted, hg]
  rw [if_pos hw]
  refine .inl ?_
  unfold Oper.wp; rw [h]
  show Calls _ _ _ _ _
  refine hc.mono fun x w' hx => ?_
  cases x with
  | returned v => exact hk v w' hx
  | panicked ch => exact hp ch w' hx
  | outgrown => exact (ho w' hx).elim
/-- .. an append, told by a law on the plain step. -/
theorem qT_step {fuel : Nat} {listed : Array Bool} {a : Act} {w : World} (i : Nat) {o : Oper} (hr : Region.ready md ops listed = [i]) (hi : ops[i]? = some o)
    (h : ∀ K : Act → World → Prop, Hid (∀ a' w', (i ≠ k → S w') → (wpAnyT P md ops Q S k fuel (listed.setIfInBounds i true) a' w') → K a' w') → if Region.wanted o (yielded ops a.tmps) = true then Oper.wp P o a w K Q else K (a.put o.dst undef) w) : wpAnyT P md ops Q S k (fuel + 1) listed a w := by
  refine wpAnyT_one hr ?_
  have h2 := h (fun a' w' => (i ≠ k → S w') ∧ wpAnyT P md ops Q S k fuel (listed.setIfInBounds i true) a' w') (fun a' w' h1 h2 => ⟨h1, h2⟩)
  unfold wpOp
  simp only [hi]
  split
  · rename_i hw
    rw [if_pos hw] at h2
    exact .inl h2
  · rename_i hw
    rw [if_neg hw] at h2
    exact h2
end
end Go.Proofs.YtkmalggeieiepaaDoor
namespace Go.Proofs.YtkmalggeieiepaaDoor
open Go.RowKit

set_option maxHeartbeats 400000 in
theorem rotl_any (k : Int) (x : Int) (w : World) (hk : k = 13 ∨ k = 16 ∨ k = 17 ∨ k = 21 ∨ k = 32) (hx : IsU x) :
    Calls Tryd.prog 100 #[.int .u64 x, .int .i64 k] w fun e w' => e = .returned (.int .u64 (rot k x)) ∧ w' = w := by
  obtain ⟨h0, h1⟩ := hx
  have b13 : bits .and .u64 13 63 = 13 := and63 13 (by omega)
  have b16 : bits .and .u64 16 63 = 16 := and63 16 (by omega)
  have b17 : bits .and .u64 17 63 = 17 := and63 17 (by omega)
  have b21 : bits .and .u64 21 63 = 21 := and63 21 (by omega)
  have b32 : bits .and .u64 32 63 = 32 := and63 32 (by omega)
  rcases hk with rfl | rfl | rfl | rfl | rfl
  all_goals
    go_enter Tryd.func100, Tryd.ntmps100
    go_wp2
    go_ret
    exact ⟨rfl, rfl⟩

end Go.Proofs.YtkmalggeieiepaaDoor
namespace Go.Proofs.YtkmalggeieiepaaDoor
open Go.RowKit

/-- a world in which four numbers lie from an address on. -/
def At4 (w : World) (b : Nat) (v : St) : Prop :=
  w.cell? ⟨b, 0, none⟩ = some (.int .u64 v.a) ∧ w.cell? ⟨b, 1, none⟩ = some (.int .u64 v.b) ∧ w.cell? ⟨b, 2, none⟩ = some (.int .u64 v.c) ∧ w.cell? ⟨b, 3, none⟩ = some (.int .u64 v.d)

/-- four cells that may be written. -/
def Free4 (w : World) (b : Nat) : Prop := w.frozen? ⟨b, 0, none⟩ = false ∧ w.frozen? ⟨b, 1, none⟩ = false ∧ w.frozen? ⟨b, 2, none⟩ = false ∧ w.frozen? ⟨b, 3, none⟩ = false
theorem free4_new (w : World) (v : St) (T : Nat) : Free4 (w.alloc (.cells #[.int .u64 v.a, .int .u64 v.b, .int .u64 v.c, .int .u64 v.d] T)) w.heap.size := by
  simp [Free4, go_sem]
theorem at4_new (w : World) (v : St) (T : Nat) : At4 (w.alloc (.cells #[.int .u64 v.a, .int .u64 v.b, .int .u64 v.c, .int .u64 v.d] T)) w.heap.size v := by
  simp [At4, go_sem]

end Go.Proofs.YtkmalggeieiepaaDoor
namespace Go.Proofs.YtkmalggeieiepaaDoor
open Go.RowKit

def Room4 (w : World) (b : Nat) : Prop := (w.cell? ⟨b, 0, none⟩).isSome = true ∧ (w.cell? ⟨b, 1, none⟩).isSome = true ∧ (w.cell? ⟨b, 2, none⟩).isSome = true ∧ (w.cell? ⟨b, 3, none⟩).isSome = true ∧ Free4 w b

theorem sc_same (w : World) (a : Addr) (v : Value) (h : (w.cell? a).isSome = true) : (w.setCell a v).cell? a = some v := by
  obtain ⟨u, hu⟩ := Option.isSome_iff_exists.1 h
  exact World.cell?_setCell_same _ _ _ hu

/-- The box of four numbers at the first block behind w, a second block behind it that may be written, and all that was there as it was. -/
structure Box (w w' : World) (u : St) : Prop where
  at4 : At4 w' w.heap.size u
  free : Free4 w' w.heap.size
  room : Room4 w' (w.heap.size + 1)
  below : Below w.heap.size w w'
theorem Box.drew {w w' : World} {u : St} (h : Box w w' u) : Box w w'.drew u := ⟨h.at4, h.free, h.room, h.below.drew⟩
theorem Box.set0 {w w' : World} {a b c d : Int} (h : Box w w' ⟨a, b, c, d⟩) (x : Int) : Box w (w'.setCell ⟨w.heap.size, 0, none⟩ (.int .u64 x)) ⟨x, b, c, d⟩ := by
  obtain ⟨⟨h0, h1, h2, h3⟩, hf, hr, hb⟩ := h
  refine ⟨?_, ?_, ?_, hb.setCell (Nat.le_refl _) _⟩
  · simp only at h0 h1 h2 h3; simp [At4, sc_same, World.cell?_setCell_other, h0, h1, h2, h3]
  · simpa [Free4] using hf
  · simpa [Room4, Free4, World.cell?_setCell_other] using hr
theorem Box.set1 {w w' : World} {a b c d : Int} (h : Box w w' ⟨a, b, c, d⟩) (x : Int) : Box w (w'.setCell ⟨w.heap.size, 1, none⟩ (.int .u64 x)) ⟨a, x, c, d⟩ := by
  obtain ⟨⟨h0, h1, h2, h3⟩, hf, hr, hb⟩ := h
  refine ⟨?_, ?_, ?_, hb.setCell (Nat.le_refl _) _⟩
  · simp only at h0 h1 h2 h3; simp [At4, sc_same, World.cell?_setCell_other, h0, h1, h2, h3]
  · simpa [Free4] using hf
  · simpa [Room4, Free4, World.cell?_setCell_other] using hr
theorem Box.set2 {w w' : World} {a b c d : Int} (h : Box w w' ⟨a, b, c, d⟩) (x : Int) : Box w (w'.setCell ⟨w.heap.size, 2, none⟩ (.int .u64 x)) ⟨a, b, x, d⟩ := by
  obtain ⟨⟨h0, h1, h2, h3⟩, hf, hr, hb⟩ := h
  refine ⟨?_, ?_, ?_, hb.setCell (Nat.le_refl _) _⟩
  · simp only at h0 h1 h2 h3; simp [At4, sc_same, World.cell?_setCell_other, h0, h1, h2, h3]
  · simpa [Free4] using hf
  · simpa [Room4, Free4, World.cell?_setCell_other] using hr
theorem Box.set3 {w w' : World} {a b c d : Int} (h : Box w w' ⟨a, b, c, d⟩) (x : Int) : Box w (w'.setCell ⟨w.heap.size, 3, none⟩ (.int .u64 x)) ⟨a, b, c, x⟩ := by
  obtain ⟨⟨h0, h1, h2, h3⟩, hf, hr, hb⟩ := h
  refine ⟨?_, ?_, ?_, hb.setCell (Nat.le_refl _) _⟩
  · simp only at h0 h1 h2 h3; simp [At4, sc_same, World.cell?_setCell_other, h0, h1, h2, h3]
  · simpa [Free4] using hf
  · simpa [Room4, Free4, World.cell?_setCell_other] using hr


set_option maxHeartbeats 2000000 in
theorem rounds_any (v : St) (n : Nat) (w : World) (hn : n ≤ 100) (hv : v.ok) :
    Calls Tryd.prog 97 #[.agg #[.int .u64 v.a, .int .u64 v.b, .int .u64 v.c, .int .u64 v.d], .int .i64 n] w fun e w' => e = .returned (.agg #[.int .u64 (rnds n v).a, .int .u64 (rnds n v).b, .int .u64 (rnds n v).c, .int .u64 (rnds n v).d]) ∧ Below w.heap.size w w' := by
  go_enter Tryd.func97, Tryd.ntmps97
  go_wp2
  go_loopg [6] n (fun g i w' => ∃ k : Nat, ∃ u : St, k + g = n ∧ i = .int .i64 k ∧ u.ok ∧ u = rnds k v ∧ Box w w' u)
  case atStart => exact ⟨0, v, Nat.zero_add _, rfl, hv, rfl, by simp [At4, go_sem], by simp [Free4, go_sem], by simp [Room4, Free4, go_sem], ((Below.refl _ _).alloc (Nat.le_refl _) _).alloc (by simp) _⟩
  case round =>
    obtain ⟨k, u, hk, rfl, hu, hr, hbox⟩ := hrel
    have HR : Hid (u = rnds k v) := hr
    have HB : Hid (Box w wr u) := hbox
    have HK : Hid (k + gk = n) := hk
    obtain ⟨⟨c0, c1, c2, c3⟩, ⟨f0, f1, f2, f3⟩, hroom, _⟩ := hbox
    by_cases hlt : k < n
    · clear hr hroom
      go_upto_region 5 with fail
      go_cut [] (fun wx => Box w wx ⟨IntKind.u64.wrap (u.a + u.b), bits .xor .u64 (rot 13 u.b) (IntKind.u64.wrap (u.a + u.b)), IntKind.u64.wrap (u.c + u.d), u.d⟩)
      case first =>
        go_region_with (go_at_call 100; refine (rotl_any _ _ _ (by omega) ?_).mono ?_; (exact hu.2.1); rintro e w' ⟨rfl, rfl⟩)
        all_goals (go_wp2_with fail; go_meet)
        all_goals exact (Box.set1 (Box.set2 (Box.set0 (show Box w _ ⟨u.a, u.b, u.c, u.d⟩ from HB.out) _) _) _).drew
      case rest =>
      clear HB c0 c1 c2 c3 f0 f1 f2 f3
      have HB : Hid (Box w wc _) := hcut
      obtain ⟨⟨c0, c1, c2, c3⟩, ⟨f0, f1, f2, f3⟩, _, _⟩ := hcut
      dsimp only at c0 c1 c2 c3
      go_upto_region 6 with fail
      go_cut [] (fun wx => Box w wx (half1 u))
      case first =>
        go_region_with (go_at_call 100; refine (rotl_any _ _ _ (by omega) ?_).mono ?_; (exact hu.2.2.2); rintro e w' ⟨rfl, rfl⟩)
        all_goals (go_wp2_with fail; go_meet)
        all_goals exact (Box.set3 HB.out _).drew
      case rest =>
      clear HB c0 c1 c2 c3 f0 f1 f2 f3
      have hx := half1_ok u
      have HX : Hid (rnd u = half2 (half1 u)) := rfl
      generalize half1 u = x at hx HX hcut
      have HB : Hid (Box w wc x) := hcut
      obtain ⟨⟨c0, c1, c2, c3⟩, ⟨f0, f1, f2, f3⟩, _, _⟩ := hcut
      go_upto_region 9 with (go_at_call 100; refine (rotl_any _ _ _ (by omega) ?_).mono ?_; (exact hx.1); rintro e w' ⟨rfl, rfl⟩)
      go_cut [] (fun wx => Box w wx ⟨IntKind.u64.wrap (rot 32 x.a + x.d), x.b, IntKind.u64.wrap (x.c + x.b), x.d⟩)
      case first =>
        go_wp2
        go_meet
        exact Box.set0 (Box.set2 (Box.set0 (show Box w _ ⟨x.a, x.b, x.c, x.d⟩ from HB.out) _) _) _
      case rest =>
      clear HB c0 c1 c2 c3 f0 f1 f2 f3
      have HB : Hid (Box w wc _) := hcut
      obtain ⟨⟨c0, c1, c2, c3⟩, ⟨f0, f1, f2, f3⟩, _, _⟩ := hcut
      dsimp only at c0 c1 c2 c3
      go_upto_region 10 with fail
      go_cut [] (fun wx => Box w wx ⟨IntKind.u64.wrap (rot 32 x.a + x.d), bits .xor .u64 (rot 17 x.b) (IntKind.u64.wrap (x.c + x.b)), IntKind.u64.wrap (x.c + x.b), x.d⟩)
      case first =>
        go_region_with (go_at_call 100; refine (rotl_any _ _ _ (by omega) ?_).mono ?_; (exact hx.2.1); rintro e w' ⟨rfl, rfl⟩)
        all_goals (go_wp2_with fail; go_meet)
        all_goals exact (Box.set1 HB.out _).drew
      case rest =>
      clear HB c0 c1 c2 c3 f0 f1 f2 f3
      have HB : Hid (Box w wc _) := hcut
      obtain ⟨⟨c0, c1, c2, c3⟩, ⟨f0, f1, f2, f3⟩, _, _⟩ := hcut
      dsimp only at c0 c1 c2 c3
      go_upto_region 11 with fail
      go_cut [] (fun wx => Box w wx ⟨IntKind.u64.wrap (rot 32 x.a + x.d), bits .xor .u64 (rot 17 x.b) (IntKind.u64.wrap (x.c + x.b)), IntKind.u64.wrap (x.c + x.b), bits .xor .u64 (rot 21 x.d) (IntKind.u64.wrap (rot 32 x.a + x.d))⟩)
      case first =>
        go_region_with (go_at_call 100; refine (rotl_any _ _ _ (by omega) ?_).mono ?_; (exact hx.2.2.2); rintro e w' ⟨rfl, rfl⟩)
        all_goals (go_wp2_with fail; go_meet)
        all_goals exact (Box.set3 HB.out _).drew
      case rest =>
      clear HB c0 c1 c2 c3 f0 f1 f2 f3
      have HB : Hid (Box w wc _) := hcut
      obtain ⟨⟨c0, c1, c2, c3⟩, ⟨f0, f1, f2, f3⟩, _, _⟩ := hcut
      dsimp only at c0 c1 c2 c3
      go_wp2_with (go_at_call 100; refine (rotl_any _ _ _ (by omega) ?_).mono ?_; (exact isU_wrap _); rintro e w' ⟨rfl, rfl⟩)
      go_roundg (gk - 1)
      case measure => omega
      case rel =>
        refine ⟨k + 1, rnd u, by omega, by go_num, rnd_ok u, ?_, ?_⟩
        · rw [rnds_succ, ← HR.out]
        · rw [HX.out]; exact Box.set2 HB.out _
    · obtain ⟨r0, r1, r2, r3, g0, g1, g2, g3⟩ := hroom
      obtain ⟨x0, e0⟩ := Option.isSome_iff_exists.1 r0
      obtain ⟨x1, e1⟩ := Option.isSome_iff_exists.1 r1
      obtain ⟨x2, e2⟩ := Option.isSome_iff_exists.1 r2
      obtain ⟨x3, e3⟩ := Option.isSome_iff_exists.1 r3
      clear r0 r1 r2 r3 hr
      go_wp2
      obtain rfl : k = n := by omega
      have hr := HR.out
      subst hr
      refine bodyPost_ret (v := .agg #[.int .u64 (rnds k v).a, .int .u64 (rnds k v).b, .int .u64 (rnds k v).c, .int .u64 (rnds k v).d]) (by simp [results, Tryd.results97, go_sem, *]) rfl ⟨rfl, ?_⟩
      exact ((((HB.out.below.setCell (by simp) _).setCell (by simp) _).setCell (by simp) _).setCell (by simp) _)
end Go.Proofs.YtkmalggeieiepaaDoor
namespace Go.Proofs.YtkmalggeieiepaaDoor
open Go.RowKit

theorem box_new (w : World) (v : St) (T : Nat) : Box w ((w.alloc (.cells #[.int .u64 v.a, .int .u64 v.b, .int .u64 v.c, .int .u64 v.d] T)).alloc (.cells #[.int .u64 0, .int .u64 0, .int .u64 0, .int .u64 0] T)) v :=
  ⟨by simp [At4, go_sem], by simp [Free4, go_sem], by simp [Room4, Free4, go_sem], ((Below.refl _ _).alloc (Nat.le_refl _) _).alloc (by simp) _⟩
theorem Box.later {w W w' : World} {u : St} (h : Box w W u) (hb : Below W.heap.size W w') : Box w w' u := by
  obtain ⟨⟨h0, h1, h2, h3⟩, ⟨f0, f1, f2, f3⟩, ⟨r0, r1, r2, r3, g0, g1, g2, g3⟩, hB⟩ := h
  obtain ⟨x0, e0⟩ := Option.isSome_iff_exists.1 r0
  have l0 := World.block_lt_of_cell? W _ h0
  have l1 := World.block_lt_of_cell? W _ e0
  have c := fun b o (hh : b < W.heap.size) => hb.cell (p := ⟨b, o, none⟩) hh
  have f := fun b o (hh : b < W.heap.size) => hb.frozen (p := ⟨b, o, none⟩) hh
  simp only at l0 l1
  refine ⟨⟨?_, ?_, ?_, ?_⟩, ⟨?_, ?_, ?_, ?_⟩, ⟨?_, ?_, ?_, ?_, ?_, ?_, ?_, ?_⟩, hB.trans (hb.mono (Nat.le_of_lt l0))⟩
  all_goals first | (rw [c _ _ l0]; assumption) | (rw [f _ _ l0]; assumption) | (rw [c _ _ l1]; assumption) | (rw [f _ _ l1]; assumption)
theorem Room4.out {w : World} {b : Nat} (h : Room4 w b) : ∃ x0 x1 x2 x3, w.cell? ⟨b, 0, none⟩ = some x0 ∧ w.cell? ⟨b, 1, none⟩ = some x1 ∧ w.cell? ⟨b, 2, none⟩ = some x2 ∧ w.cell? ⟨b, 3, none⟩ = some x3 ∧ Free4 w b := by
  obtain ⟨r0, r1, r2, r3, g⟩ := h
  obtain ⟨x0, e0⟩ := Option.isSome_iff_exists.1 r0
  obtain ⟨x1, e1⟩ := Option.isSome_iff_exists.1 r1
  obtain ⟨x2, e2⟩ := Option.isSome_iff_exists.1 r2
  obtain ⟨x3, e3⟩ := Option.isSome_iff_exists.1 r3
  exact ⟨x0, x1, x2, x3, e0, e1, e2, e3, g⟩

set_option maxHeartbeats 400000 in
theorem word_any (v : St) (m : Int) (w : World) (hv : v.ok) :
    Calls Tryd.prog 96 #[.agg #[.int .u64 v.a, .int .u64 v.b, .int .u64 v.c, .int .u64 v.d], .int .u64 m] w fun e w' => e = .returned (.agg #[.int .u64 (wrd v m).a, .int .u64 (wrd v m).b, .int .u64 (wrd v m).c, .int .u64 (wrd v m).d]) ∧ Below w.heap.size w w' := by
  have ok2 : St.ok ⟨v.a, v.b, v.c, bits .xor .u64 v.d m⟩ := ⟨hv.1, hv.2.1, hv.2.2.1, isU_bits .xor _ _⟩
  have hcall := fun W : World => rounds_any ⟨v.a, v.b, v.c, bits .xor .u64 v.d m⟩ 2 W (by omega) ok2
  have HW : Hid (wrd v m = ⟨bits .xor .u64 (rnds 2 ⟨v.a, v.b, v.c, bits .xor .u64 v.d m⟩).a m, (rnds 2 ⟨v.a, v.b, v.c, bits .xor .u64 v.d m⟩).b, (rnds 2 ⟨v.a, v.b, v.c, bits .xor .u64 v.d m⟩).c, (rnds 2 ⟨v.a, v.b, v.c, bits .xor .u64 v.d m⟩).d⟩) := rfl
  generalize rnds 2 ⟨v.a, v.b, v.c, bits .xor .u64 v.d m⟩ = x at hcall HW
  have bn := box_new w ⟨v.a, v.b, v.c, bits .xor .u64 v.d m⟩ 146
  have HBN : Hid (Box w ((w.alloc (.cells #[.int .u64 v.a, .int .u64 v.b, .int .u64 v.c, .int .u64 (bits .xor .u64 v.d m)] 146)).alloc (.cells #[.int .u64 0, .int .u64 0, .int .u64 0, .int .u64 0] 146)) ⟨v.a, v.b, v.c, bits .xor .u64 v.d m⟩) := bn
  clear bn
  go_enter Tryd.func96, Tryd.ntmps96
  go_wp2_with (go_at_call 97; go_must (refine (hcall _).mono ?_); rintro e w' ⟨rfl, hb⟩; have HB : Hid (Box w w' _) := HBN.out.later hb; clear hb; obtain ⟨⟨c0, c1, c2, c3⟩, ⟨f0, f1, f2, f3⟩, hroom, _⟩ := HB.out; obtain ⟨x0, x1, x2, x3, e0, e1, e2, e3, g0, g1, g2, g3⟩ := hroom.out; clear hroom; dsimp only at c0 c1 c2 c3)
  have hw := HW.out
  rw [hw]
  refine bodyPost_ret (v := .agg #[.int .u64 (bits .xor .u64 x.a m), .int .u64 x.b, .int .u64 x.c, .int .u64 x.d]) (by simp [results, Tryd.results96, go_sem, *]) rfl ⟨rfl, ?_⟩
  have hB := HB.out.below
  iterate 9 refine Below.setCell ?_ (by simp) _
  exact hB
end Go.Proofs.YtkmalggeieiepaaDoor
