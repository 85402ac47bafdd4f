import Derived.Test.YtkmalggeieiepaaDoorEcb
import Derived.WalkKit
import Derived.WalkSpells
import Derived.WalkLawsBesides
import Derived.Deep.LoopGhost
import Derived.Deep.DeepCutAuto
import Derived.Deep.AppendLies
import Derived.Test.YtkmalggeieiepaaDoorRows
import Derived.Test.YtkmalggeieiepaaDoorEca
import Derived.Deep.QuietTactic
import Derived.BigQuiet
import Derived.Deep.RegionWith
import Derived.Lib.Strings
namespace Go.Proofs.YtkmalggeieiepaaDoor
open Go.RowKit

def outL (l : List (List UInt8)) (q : List Nat) : List (List UInt8) := q.map fun i => l.getD i []
/-- what is answered to a request: bytes, or what is wrong. -/
def srvR (dd : ByteArray → ByteArray) (B : List UInt8 × (List (List UInt8) × Int)) (Q : List UInt8 × (List Nat × Int)) : List UInt8 × Int :=
  if B.2.2 ≠ 0 then ([], B.2.2) else if Q.2.2 ≠ 0 then ([], Q.2.2) else if ofL Q.1 ≠ dd (ofL B.1) then ([], 6)
  else if Q.2.1.all (fun i => decide (i < B.2.1.length)) = true then (Q.1 ++ (sizeL Q.2.1.length ++ (outL B.2.1 Q.2.1).flatten), 0) else ([], 4)
theorem catL_ofL (l : List (List UInt8)) : catL (l.map ofL) = l.flatten := by
  induction l with
  | nil => rfl
  | cons a l ih => simp only [List.map_cons, List.flatten_cons, ← ih]; simp [catL, ofL_data]
theorem outL_snoc (l : List (List UInt8)) (q : List Nat) (j : Nat) (h : j < q.length) : outL l (q.take (j + 1)) = outL l (q.take j) ++ [l.getD q[j] []] := by
  unfold outL; rw [List.take_succ_eq_append_getElem h, List.map_append]; rfl
theorem strB_snoc (l : List (List UInt8)) (t : List UInt8) : strB (l ++ [t]) = strB l ++ [.string (ofL t)] := by simp [strB, strV]
theorem all_take (q : List Nat) (n : Nat) (h : ∀ (j : Nat) (hj : j < q.length), q[j] < n) : q.all (fun i => decide (i < n)) = true := by
  rw [List.all_eq_true]
  intro x hx
  obtain ⟨j, hj, rfl⟩ := List.getElem_of_mem hx
  simpa using h j hj
theorem all_not (q : List Nat) (n j : Nat) (hj : j < q.length) (h : n ≤ q[j]) : ¬ q.all (fun i => decide (i < n)) = true := by
  intro ha
  have := List.all_eq_true.1 ha q[j] (List.getElem_mem hj)
  simp at this; omega

set_option maxRecDepth 10000 in
set_option maxHeartbeats 2000000 in
theorem Serve_of (gt : Nat) (dd : ByteArray → ByteArray) (s t : ByteArray) (w : World) (hl : s.size ≤ maxLen)
    (HTW : Hid (∀ (x : ByteArray) (W : World), x.size ≤ 1048576 → Below w.heap.size w W → Calls Tryd.prog 13 #[.pointer (some ⟨gt, 0, none⟩), .string x] W fun e w' => e = .returned (.string (dd x)) ∧ Below W.heap.size W w')) :
    Calls Tryd.prog 19 #[.pointer (some ⟨gt, 0, none⟩), .string s, .string t] w fun x w' => x = .returned (.tuple #[.string (ofL (srvR dd (rMsg 80 s.data.toList) (rReq t.data.toList)).1), .int .i64 (srvR dd (rMsg 80 s.data.toList) (rReq t.data.toList)).2]) ∧ Below w.heap.size w w' := by
  obtain ⟨i0, hi, hz0, hz1, hz2⟩ := info_parts infoStr
  have HB := Block_any s w hl
  have HQ := fun W => Request_any t W
  have hB80 : (rMsg 80 s.data.toList).1.length ≤ 80 := rTake_len 80 _
  have hBs : (rMsg 80 s.data.toList).2.2 = 0 → ∀ x ∈ (rMsg 80 s.data.toList).2.1, x.length ≤ 610 := rMsg_small 80 _
  have hQ16 : (rReq t.data.toList).2.1.length ≤ 16 := rReq_len _
  have hQ32 : (rReq t.data.toList).1.length ≤ 32 := rTake_len 32 _
  generalize rMsg 80 s.data.toList = B at HB hB80 hBs
  generalize rReq t.data.toList = Q at HQ hQ16 hQ32
  obtain ⟨h, T, c⟩ := B
  obtain ⟨m, q, d⟩ := Q
  have hh : (ofL h).size ≤ 1048576 := by rw [ofL_size]; have : h.length ≤ 80 := hB80; omega
  have HT2 : Hid (∀ W, Below w.heap.size w W → Calls Tryd.prog 13 #[.pointer (some ⟨gt, 0, none⟩), .string (ofL h)] W fun e w' => e = .returned (.string (dd (ofL h))) ∧ Below W.heap.size W w') := fun W hW => HTW.out _ W hh hW
  have HBs : Hid (c = 0 → ∀ x ∈ T, x.length ≤ 610) := hBs
  have hq16 : q.length ≤ 16 := hQ16
  clear HTW hl hB80 hh hBs hQ16
  obtain ⟨R, hR⟩ : ∃ R, R = srvR dd (h, T, c) (m, q, d) := ⟨_, rfl⟩
  rw [← hR]
  by_cases hc : c = 0
  · by_cases hd : d = 0
    · by_cases hn : ofL m = dd (ofL h)
      · subst hc hd
        have hR2 : R = if q.all (fun i => decide (i < T.length)) = true then (m ++ (sizeL q.length ++ (outL T q).flatten), 0) else ([], 4) := by rw [hR]; simp [srvR, hn]
        have HR : Hid (R = if q.all (fun i => decide (i < T.length)) = true then (m ++ (sizeL q.length ++ (outL T q).flatten), 0) else ([], 4)) := hR2
        have HS : Hid (∀ x ∈ T, x.length ≤ 610) := HBs.out rfl
        clear hR hR2 HBs
        rw [← hn] at HT2
        clear hn
        have hml : (ofL m).size ≤ 32 := by rw [ofL_size]; exact hQ32
        go_enter Tryd.func19, Tryd.ntmps19
        go_upto_region 4 with (go_at_call 37; go_must (refine HB.mono ?_); rintro e w1 ⟨v1, rfl, ho1, hb1⟩; have HO1 : Hid (w1.ownsRow w.heap.size 9 1 v1 T.length (strB T)) := ho1; have HB1 : Hid (Below w.heap.size w w1) := hb1; clear ho1 hb1)
        go_upto_region 7 with (go_at_call 46; go_must (refine (HQ _).mono ?_); rintro e w2 ⟨v2, rfl, ho2, hb2⟩; have HO2 : Hid (w2.ownsRow w1.heap.size 3 1 v2 q.length (natV q)) := ho2; have HB2 : Hid (Below w1.heap.size w1 w2) := hb2; clear ho2 hb2)
        have hs1 := HB1.out.size
        have HB2w : Hid (Below w.heap.size w w2) := HB1.out.trans (HB2.out.mono hs1)
        go_upto_region 9 with (go_at_call 13; go_must (refine (HT2.out _ HB2w.out).mono ?_); rintro e w3 ⟨rfl, hb3⟩; have HB3 : Hid (Below w2.heap.size w2 w3) := hb3; clear hb3)
        have hs2 := HB2.out.size
        have hs3 := HB3.out.size
        have HV1 : Hid (SVal w3 v1 (T.map ofL)) := ((own_sval (l := T.map ofL) (by rw [List.length_map]; exact HO1.out)).later HB2.out).later HB3.out
        have HV2 : Hid (VVal w3 v2 (natV q)) := (own_vval (l := natV q) (by rw [show (natV q).length = q.length by simp [natV]]; exact HO2.out)).later HB3.out
        have HB3w : Hid (Below w.heap.size w w3) := HB2w.out.trans (HB3.out.mono (by omega))
        clear HO1 HO2 HB1 HB2 HB3 HB2w HB HQ HT2
        obtain ⟨a1, c1, hv1, _, hr1⟩ := HV1.out
        obtain ⟨a2, c2, hv2, _, hr2⟩ := HV2.out
        have hnl : (natV q).length = q.length := by simp [natV]
        have hTl : (T.map ofL).length = T.length := by simp
        rw [hTl] at hv1 hr1
        rw [hnl] at hv2 hr2
        have HR1 : Hid (0 < T.length → ∃ b o, a1 = some ⟨b, o, none⟩ ∧ SRow w3 b o (T.map ofL)) := hr1
        have HR2 : Hid (0 < q.length → ∃ b o, a2 = some ⟨b, o, none⟩ ∧ VRow w3 b o (natV q)) := hr2
        clear hr1 hr2 HV1 HV2 hnl hTl
        subst hv1 hv2
        go_upto_region 11 with fail
        go_loopg [13, 41] q.length (fun g v i wx => ∃ j : Nat, ∃ v' : Value, v' = v ∧ j + g = q.length ∧ i = .int .i64 (j : Int) ∧ (∀ (k : Nat) (hk : k < q.length), k < j → q[k] < T.length) ∧ wx.ownsRow w3.heap.size 9 1 v' (outL T (q.take j)).length (strB (outL T (q.take j))) ∧ Below w3.heap.size w3 wx)
        case atStart => exact ⟨0, _, rfl, by omega, rfl, fun _ _ h => by omega, World.ownsRow_nil _ _ _ _, Below.refl _ _⟩
        case round =>
          obtain ⟨j, v, rfl, hjg, rfl, hall, hown, hb⟩ := hrel
          have HALL : Hid (∀ (k : Nat) (hk : k < q.length), k < j → q[k] < T.length) := hall
          have HO : Hid (wr.ownsRow w3.heap.size 9 1 v (outL T (q.take j)).length (strB (outL T (q.take j)))) := hown
          have HBB : Hid (Below w3.heap.size w3 wr) := hb
          have HJ : Hid (j + gk = q.length) := hjg
          have hsr := hb.size
          clear hall hown
          by_cases hlt : j < q.length
          · obtain ⟨b2, o2, rfl, hrow2⟩ := HR2.out (by omega)
            have cj : wr.cell? ⟨b2, o2 + j, none⟩ = some (.int .i64 (q[j] : Int)) := by
              have := (hrow2.later hb (hrow2.lt (by simp [natV]; omega))) j (by simp [natV]; omega)
              rw [this]; simp [natV]
            have hji : (j : Int) < (q.length : Int) := by omega
            have HSN := (show Hid (outL T (q.take (j + 1)) = outL T (q.take j) ++ [T.getD q[j] []]) from outL_snoc T q j hlt)
            have HSTEP := (show Hid (q[j] < T.length → ∀ (k : Nat) (hk : k < q.length), k < j + 1 → q[k] < T.length) from fun h k hk hk2 => by
              rcases Nat.lt_or_ge k j with h3 | h3
              · exact HALL.out k hk h3
              · obtain rfl : k = j := by omega
                exact h)
            have HBAD := (show Hid (T.length ≤ q[j] → ¬ q.all (fun i => decide (i < T.length)) = true) from all_not q T.length j hlt)
            have hll : (outL T (q.take j)).length = j := by simp [outL]; omega
            generalize q[j] = x at cj HSN HSTEP HBAD
            by_cases hx : x < T.length
            · obtain ⟨b1, o1, rfl, hrow1⟩ := HR1.out (by omega)
              have cx : wr.cell? ⟨b1, o1 + x, none⟩ = some (.string (ofL (T.getD x []))) := by
                have := (hrow1.later hb (hrow1.lt (by simp; omega))) x (by simp; omega)
                rw [this]; simp [List.getD, hx]
              have hxi : (x : Int) < (T.length : Int) := by omega
              generalize T.getD x [] = tx at cx HSN
              obtain ⟨tb, htb⟩ : ∃ t, t = ofL tx := ⟨_, rfl⟩
              have HTB : Hid (tb = ofL tx) := htb
              rw [← htb] at cx
              clear htb hb hjg HBAD HALL
              rw [hll] at HO
              go_upto_region 15 with fail
              go_upto_region 16 with (at_builtin; go_must (refine wpList_append_lies _ rfl _ _ 30 rfl w3.heap.size 9 i0 (.string ByteArray.empty) 1 16 Tryd.underlying30 hi hz0 hz1 hz2 rfl (by decide) v j (strB (outL T (q.take j))) rfl (HO.out.alloc _) ⟨wr.heap.size, 0, none⟩ 1 1 [.string tb] rfl rfl (one_new wr _ _) (one_str _) (by omega) (by unfold maxLen; omega) (by omega) (by simp; omega) _ rfl ?_); intro g4 c4 w4 ho hgr hat hlt4; have HO4 : Hid (w4.ownsRow w3.heap.size 9 1 (.slice (some ⟨g4, 0, none⟩) (j + 1) c4) (j + 1) (strB (outL T (q.take j)) ++ [.string tb])) := ho; have HB4 : Hid (Below w3.heap.size wr w4) := ((Below.refl w3.heap.size wr).alloc (by omega) _).grown hgr (by simp; omega) (ownBlock_ge HO.out); clear ho hgr hat hlt4)
              go_wp2
              go_roundg (gk - 1)
              case measure => have := HJ.out; omega
              case rel =>
                have h1 := HJ.out
                refine ⟨j + 1, _, rfl, by omega, by go_num, HSTEP.out hx, ?_, HBB.out.trans HB4.out⟩
                have h2 : (outL T (q.take (j + 1))).length = j + 1 := by rw [HSN.out, List.length_append, hll]; rfl
                rw [h2, HSN.out, strB_snoc, ← HTB.out]
                exact HO4.out
            · have hxi : ¬ ((x : Int) < (T.length : Int)) := by omega
              have hxj : (T.length : Int) ≤ (x : Int) := by omega
              clear hb hjg HALL HSN
              go_wp2
              go_ret2
              rw [HR.out, if_neg (HBAD.out (by omega))]
              exact ⟨rfl, HB3w.out.trans (HBB.out.mono (by have := HB3w.out.size; omega))⟩
          · obtain rfl : j = q.length := by omega
            have hok : q.all (fun i => decide (i < T.length)) = true := all_take q T.length (fun k hk => HALL.out k hk hk)
            have HRE : Hid (R = (m ++ (sizeL q.length ++ (outL T q).flatten), 0)) := by show _ = _; rw [HR.out, if_pos hok]
            rw [List.take_length] at HO
            have hol : (outL T q).length = q.length := by simp [outL]
            have hsm : ∀ y ∈ (outL T q).map ofL, y.size ≤ 1048576 := by
              intro y hy
              obtain ⟨z, hz, rfl⟩ := List.mem_map.1 hy
              obtain ⟨i, hi, rfl⟩ := List.mem_map.1 hz
              have hi2 : i < T.length := by simpa using List.all_eq_true.1 hok i hi
              rw [ofL_size, List.getD, List.getElem?_eq_getElem hi2]
              have := HS.out _ (List.getElem_mem hi2)
              simp; omega
            have HJN : Hid (Calls Tryd.prog 41 #[v] wr fun x w' => x = .returned (.string (ofL (sizeL q.length ++ (outL T q).flatten))) ∧ Below wr.heap.size wr w') := by
              have := joined_sval ((outL T q).map ofL) v wr (own_sval (l := (outL T q).map ofL) (by rw [List.length_map]; exact HO.out)) (by simp [hol]; omega) hsm
              rw [List.length_map, hol, catL_ofL] at this
              exact this
            have hjl : (ofL (sizeL q.length ++ (outL T q).flatten)).size ≤ 16777216 + 9 := by
              have := catL_len ((outL T q).map ofL) (by simp [hol]; omega) hsm
              rw [List.length_map, hol, catL_ofL] at this
              rw [ofL_size]; exact this
            have HAP := (show Hid (ofL m ++ ofL (sizeL q.length ++ (outL T q).flatten) = _) from ofL_append m (sizeL q.length ++ (outL T q).flatten))
            generalize ofL (sizeL q.length ++ (outL T q).flatten) = J at HJN hjl HAP
            clear hok hsm hol hb hjg
            go_wp2_with (go_at_call 41; go_must (refine HJN.out.mono ?_); rintro e w5 ⟨rfl, hb5⟩; have HB5 : Hid (Below wr.heap.size wr w5) := hb5; clear hb5)
            go_ret2
            refine ⟨?_, HB3w.out.trans ((HBB.out.mono (by have := HB3w.out.size; omega)).trans (HB5.out.mono (by have := HB3w.out.size; omega)))⟩
            rw [HAP.out, HRE.out]; rfl
      · subst hc hd
        have hR2 : R = ([], 6) := by rw [hR]; simp [srvR, hn]
        rw [hR2]
        clear hR hR2 HBs
        have hne := text_ne hn
        generalize dd (ofL h) = D at HT2 hne
        go_enter Tryd.func19, Tryd.ntmps19
        go_upto_region 4 with (go_at_call 37; go_must (refine HB.mono ?_); rintro e w1 ⟨v1, rfl, ho1, hb1⟩; have HB1 : Hid (Below w.heap.size w w1) := hb1; clear ho1 hb1)
        go_upto_region 7 with (go_at_call 46; go_must (refine (HQ _).mono ?_); rintro e w2 ⟨v2, rfl, ho2, hb2⟩; have HB2w : Hid (Below w.heap.size w w2) := HB1.out.trans (hb2.mono HB1.out.size); clear ho2 hb2)
        go_wp2_with (go_at_call 13; go_must (refine (HT2.out _ HB2w.out).mono ?_); rintro e w3 ⟨rfl, hb3⟩; have HB3 : Hid (Below w2.heap.size w2 w3) := hb3; clear hb3)
        go_ret2
        exact ⟨rfl, HB2w.out.trans (HB3.out.mono HB2w.out.size)⟩
    · subst hc
      have hR2 : R = ([], d) := by rw [hR]; simp [srvR, hd]
      rw [hR2]
      clear hR hR2 HBs HT2
      go_enter Tryd.func19, Tryd.ntmps19
      go_upto_region 4 with (go_at_call 37; go_must (refine HB.mono ?_); rintro e w1 ⟨v1, rfl, ho1, hb1⟩; have HB1 : Hid (Below w.heap.size w w1) := hb1; clear ho1 hb1)
      go_wp2_with (go_at_call 46; go_must (refine (HQ _).mono ?_); rintro e w2 ⟨v2, rfl, ho2, hb2⟩; have HB2w : Hid (Below w.heap.size w w2) := HB1.out.trans (hb2.mono HB1.out.size); clear ho2 hb2)
      go_ret2
      exact ⟨rfl, HB2w.out⟩
  · have hR2 : R = ([], c) := by rw [hR]; simp [srvR, hc]
    rw [hR2]
    clear hR hR2 HBs HT2 HQ
    go_enter Tryd.func19, Tryd.ntmps19
    go_wp2_with (go_at_call 37; go_must (refine HB.mono ?_); rintro e w1 ⟨v1, rfl, ho1, hb1⟩; have HB1 : Hid (Below w.heap.size w w1) := hb1; clear ho1 hb1)
    go_ret2
    exact ⟨rfl, HB1.out⟩
end Go.Proofs.YtkmalggeieiepaaDoor
namespace Go.Proofs.YtkmalggeieiepaaDoor
open Go.RowKit

set_option maxHeartbeats 400000 in
theorem rotl_any (k : Int) (x : Int) (w : World) (hk : k = 13 ∨ k = 16 ∨ k = 17 ∨ k = 21 ∨ k = 32) (hx : IsU x) :
    Calls Tryd.prog 100 #[.int .u64 x, .int .i64 k] w fun e w' => e = .returned (.int .u64 (rot k x)) ∧ w' = w := by
  obtain ⟨h0, h1⟩ := hx
  have b13 : bits .and .u64 13 63 = 13 := and63 13 (by omega)
  have b16 : bits .and .u64 16 63 = 16 := and63 16 (by omega)
  have b17 : bits .and .u64 17 63 = 17 := and63 17 (by omega)
  have b21 : bits .and .u64 21 63 = 21 := and63 21 (by omega)
  have b32 : bits .and .u64 32 63 = 32 := and63 32 (by omega)
  rcases hk with rfl | rfl | rfl | rfl | rfl
  all_goals
    go_enter Tryd.func100, Tryd.ntmps100
    go_wp2
    go_ret
    exact ⟨rfl, rfl⟩

end Go.Proofs.YtkmalggeieiepaaDoor
namespace Go.Proofs.YtkmalggeieiepaaDoor
open Go.RowKit

/-- a world in which four numbers lie from an address on. -/
def At4 (w : World) (b : Nat) (v : St) : Prop :=
  w.cell? ⟨b, 0, none⟩ = some (.int .u64 v.a) ∧ w.cell? ⟨b, 1, none⟩ = some (.int .u64 v.b) ∧ w.cell? ⟨b, 2, none⟩ = some (.int .u64 v.c) ∧ w.cell? ⟨b, 3, none⟩ = some (.int .u64 v.d)

/-- four cells that may be written. -/
def Free4 (w : World) (b : Nat) : Prop := w.frozen? ⟨b, 0, none⟩ = false ∧ w.frozen? ⟨b, 1, none⟩ = false ∧ w.frozen? ⟨b, 2, none⟩ = false ∧ w.frozen? ⟨b, 3, none⟩ = false
theorem free4_new (w : World) (v : St) (T : Nat) : Free4 (w.alloc (.cells #[.int .u64 v.a, .int .u64 v.b, .int .u64 v.c, .int .u64 v.d] T)) w.heap.size := by
  simp [Free4, go_sem]
theorem at4_new (w : World) (v : St) (T : Nat) : At4 (w.alloc (.cells #[.int .u64 v.a, .int .u64 v.b, .int .u64 v.c, .int .u64 v.d] T)) w.heap.size v := by
  simp [At4, go_sem]

end Go.Proofs.YtkmalggeieiepaaDoor
namespace Go.Proofs.YtkmalggeieiepaaDoor
open Go.RowKit

def Room4 (w : World) (b : Nat) : Prop := (w.cell? ⟨b, 0, none⟩).isSome = true ∧ (w.cell? ⟨b, 1, none⟩).isSome = true ∧ (w.cell? ⟨b, 2, none⟩).isSome = true ∧ (w.cell? ⟨b, 3, none⟩).isSome = true ∧ Free4 w b

theorem sc_same (w : World) (a : Addr) (v : Value) (h : (w.cell? a).isSome = true) : (w.setCell a v).cell? a = some v := by
  obtain ⟨u, hu⟩ := Option.isSome_iff_exists.1 h
  exact World.cell?_setCell_same _ _ _ hu

/-- The box of four numbers at the first block behind w, a second block behind it that may be written, and all that was there as it was. -/
structure Box (w w' : World) (u : St) : Prop where
  at4 : At4 w' w.heap.size u
  free : Free4 w' w.heap.size
  room : Room4 w' (w.heap.size + 1)
  below : Below w.heap.size w w'
theorem Box.drew {w w' : World} {u : St} (h : Box w w' u) : Box w w'.drew u := ⟨h.at4, h.free, h.room, h.below.drew⟩
theorem Box.set0 {w w' : World} {a b c d : Int} (h : Box w w' ⟨a, b, c, d⟩) (x : Int) : Box w (w'.setCell ⟨w.heap.size, 0, none⟩ (.int .u64 x)) ⟨x, b, c, d⟩ := by
  obtain ⟨⟨h0, h1, h2, h3⟩, hf, hr, hb⟩ := h
  refine ⟨?_, ?_, ?_, hb.setCell (Nat.le_refl _) _⟩
  · simp only at h0 h1 h2 h3; simp [At4, sc_same, World.cell?_setCell_other, h0, h1, h2, h3]
  · simpa [Free4] using hf
  · simpa [Room4, Free4, World.cell?_setCell_other] using hr
theorem Box.set1 {w w' : World} {a b c d : Int} (h : Box w w' ⟨a, b, c, d⟩) (x : Int) : Box w (w'.setCell ⟨w.heap.size, 1, none⟩ (.int .u64 x)) ⟨a, x, c, d⟩ := by
  obtain ⟨⟨h0, h1, h2, h3⟩, hf, hr, hb⟩ := h
  refine ⟨?_, ?_, ?_, hb.setCell (Nat.le_refl _) _⟩
  · simp only at h0 h1 h2 h3; simp [At4, sc_same, World.cell?_setCell_other, h0, h1, h2, h3]
  · simpa [Free4] using hf
  · simpa [Room4, Free4, World.cell?_setCell_other] using hr
theorem Box.set2 {w w' : World} {a b c d : Int} (h : Box w w' ⟨a, b, c, d⟩) (x : Int) : Box w (w'.setCell ⟨w.heap.size, 2, none⟩ (.int .u64 x)) ⟨a, b, x, d⟩ := by
  obtain ⟨⟨h0, h1, h2, h3⟩, hf, hr, hb⟩ := h
  refine ⟨?_, ?_, ?_, hb.setCell (Nat.le_refl _) _⟩
  · simp only at h0 h1 h2 h3; simp [At4, sc_same, World.cell?_setCell_other, h0, h1, h2, h3]
  · simpa [Free4] using hf
  · simpa [Room4, Free4, World.cell?_setCell_other] using hr
theorem Box.set3 {w w' : World} {a b c d : Int} (h : Box w w' ⟨a, b, c, d⟩) (x : Int) : Box w (w'.setCell ⟨w.heap.size, 3, none⟩ (.int .u64 x)) ⟨a, b, c, x⟩ := by
  obtain ⟨⟨h0, h1, h2, h3⟩, hf, hr, hb⟩ := h
  refine ⟨?_, ?_, ?_, hb.setCell (Nat.le_refl _) _⟩
  · simp only at h0 h1 h2 h3; simp [At4, sc_same, World.cell?_setCell_other, h0, h1, h2, h3]
  · simpa [Free4] using hf
  · simpa [Room4, Free4, World.cell?_setCell_other] using hr


set_option maxHeartbeats 2000000 in
theorem rounds_any (v : St) (n : Nat) (w : World) (hn : n ≤ 100) (hv : v.ok) :
    Calls Tryd.prog 97 #[.agg #[.int .u64 v.a, .int .u64 v.b, .int .u64 v.c, .int .u64 v.d], .int .i64 n] w fun e w' => e = .returned (.agg #[.int .u64 (rnds n v).a, .int .u64 (rnds n v).b, .int .u64 (rnds n v).c, .int .u64 (rnds n v).d]) ∧ Below w.heap.size w w' := by
  go_enter Tryd.func97, Tryd.ntmps97
  go_wp2
  go_loopg [6] n (fun g i w' => ∃ k : Nat, ∃ u : St, k + g = n ∧ i = .int .i64 k ∧ u.ok ∧ u = rnds k v ∧ Box w w' u)
  case atStart => exact ⟨0, v, Nat.zero_add _, rfl, hv, rfl, by simp [At4, go_sem], by simp [Free4, go_sem], by simp [Room4, Free4, go_sem], ((Below.refl _ _).alloc (Nat.le_refl _) _).alloc (by simp) _⟩
  case round =>
    obtain ⟨k, u, hk, rfl, hu, hr, hbox⟩ := hrel
    have HR : Hid (u = rnds k v) := hr
    have HB : Hid (Box w wr u) := hbox
    have HK : Hid (k + gk = n) := hk
    obtain ⟨⟨c0, c1, c2, c3⟩, ⟨f0, f1, f2, f3⟩, hroom, _⟩ := hbox
    by_cases hlt : k < n
    · clear hr hroom
      go_upto_region 5 with fail
      go_cut [] (fun wx => Box w wx ⟨IntKind.u64.wrap (u.a + u.b), bits .xor .u64 (rot 13 u.b) (IntKind.u64.wrap (u.a + u.b)), IntKind.u64.wrap (u.c + u.d), u.d⟩)
      case first =>
        go_region_with (go_at_call 100; refine (rotl_any _ _ _ (by omega) ?_).mono ?_; (exact hu.2.1); rintro e w' ⟨rfl, rfl⟩)
        all_goals (go_wp2_with fail; go_meet)
        all_goals exact (Box.set1 (Box.set2 (Box.set0 (show Box w _ ⟨u.a, u.b, u.c, u.d⟩ from HB.out) _) _) _).drew
      case rest =>
      clear HB c0 c1 c2 c3 f0 f1 f2 f3
      have HB : Hid (Box w wc _) := hcut
      obtain ⟨⟨c0, c1, c2, c3⟩, ⟨f0, f1, f2, f3⟩, _, _⟩ := hcut
      dsimp only at c0 c1 c2 c3
      go_upto_region 6 with fail
      go_cut [] (fun wx => Box w wx (half1 u))
      case first =>
        go_region_with (go_at_call 100; refine (rotl_any _ _ _ (by omega) ?_).mono ?_; (exact hu.2.2.2); rintro e w' ⟨rfl, rfl⟩)
        all_goals (go_wp2_with fail; go_meet)
        all_goals exact (Box.set3 HB.out _).drew
      case rest =>
      clear HB c0 c1 c2 c3 f0 f1 f2 f3
      have hx := half1_ok u
      have HX : Hid (rnd u = half2 (half1 u)) := rfl
      generalize half1 u = x at hx HX hcut
      have HB : Hid (Box w wc x) := hcut
      obtain ⟨⟨c0, c1, c2, c3⟩, ⟨f0, f1, f2, f3⟩, _, _⟩ := hcut
      go_upto_region 9 with (go_at_call 100; refine (rotl_any _ _ _ (by omega) ?_).mono ?_; (exact hx.1); rintro e w' ⟨rfl, rfl⟩)
      go_cut [] (fun wx => Box w wx ⟨IntKind.u64.wrap (rot 32 x.a + x.d), x.b, IntKind.u64.wrap (x.c + x.b), x.d⟩)
      case first =>
        go_wp2
        go_meet
        exact Box.set0 (Box.set2 (Box.set0 (show Box w _ ⟨x.a, x.b, x.c, x.d⟩ from HB.out) _) _) _
      case rest =>
      clear HB c0 c1 c2 c3 f0 f1 f2 f3
      have HB : Hid (Box w wc _) := hcut
      obtain ⟨⟨c0, c1, c2, c3⟩, ⟨f0, f1, f2, f3⟩, _, _⟩ := hcut
      dsimp only at c0 c1 c2 c3
      go_upto_region 10 with fail
      go_cut [] (fun wx => Box w wx ⟨IntKind.u64.wrap (rot 32 x.a + x.d), bits .xor .u64 (rot 17 x.b) (IntKind.u64.wrap (x.c + x.b)), IntKind.u64.wrap (x.c + x.b), x.d⟩)
      case first =>
        go_region_with (go_at_call 100; refine (rotl_any _ _ _ (by omega) ?_).mono ?_; (exact hx.2.1); rintro e w' ⟨rfl, rfl⟩)
        all_goals (go_wp2_with fail; go_meet)
        all_goals exact (Box.set1 HB.out _).drew
      case rest =>
      clear HB c0 c1 c2 c3 f0 f1 f2 f3
      have HB : Hid (Box w wc _) := hcut
      obtain ⟨⟨c0, c1, c2, c3⟩, ⟨f0, f1, f2, f3⟩, _, _⟩ := hcut
      dsimp only at c0 c1 c2 c3
      go_upto_region 11 with fail
      go_cut [] (fun wx => Box w wx ⟨IntKind.u64.wrap (rot 32 x.a + x.d), bits .xor .u64 (rot 17 x.b) (IntKind.u64.wrap (x.c + x.b)), IntKind.u64.wrap (x.c + x.b), bits .xor .u64 (rot 21 x.d) (IntKind.u64.wrap (rot 32 x.a + x.d))⟩)
      case first =>
        go_region_with (go_at_call 100; refine (rotl_any _ _ _ (by omega) ?_).mono ?_; (exact hx.2.2.2); rintro e w' ⟨rfl, rfl⟩)
        all_goals (go_wp2_with fail; go_meet)
        all_goals exact (Box.set3 HB.out _).drew
      case rest =>
      clear HB c0 c1 c2 c3 f0 f1 f2 f3
      have HB : Hid (Box w wc _) := hcut
      obtain ⟨⟨c0, c1, c2, c3⟩, ⟨f0, f1, f2, f3⟩, _, _⟩ := hcut
      dsimp only at c0 c1 c2 c3
      go_wp2_with (go_at_call 100; refine (rotl_any _ _ _ (by omega) ?_).mono ?_; (exact isU_wrap _); rintro e w' ⟨rfl, rfl⟩)
      go_roundg (gk - 1)
      case measure => omega
      case rel =>
        refine ⟨k + 1, rnd u, by omega, by go_num, rnd_ok u, ?_, ?_⟩
        · rw [rnds_succ, ← HR.out]
        · rw [HX.out]; exact Box.set2 HB.out _
    · obtain ⟨r0, r1, r2, r3, g0, g1, g2, g3⟩ := hroom
      obtain ⟨x0, e0⟩ := Option.isSome_iff_exists.1 r0
      obtain ⟨x1, e1⟩ := Option.isSome_iff_exists.1 r1
      obtain ⟨x2, e2⟩ := Option.isSome_iff_exists.1 r2
      obtain ⟨x3, e3⟩ := Option.isSome_iff_exists.1 r3
      clear r0 r1 r2 r3 hr
      go_wp2
      obtain rfl : k = n := by omega
      have hr := HR.out
      subst hr
      refine bodyPost_ret (v := .agg #[.int .u64 (rnds k v).a, .int .u64 (rnds k v).b, .int .u64 (rnds k v).c, .int .u64 (rnds k v).d]) (by simp [results, Tryd.results97, go_sem, *]) rfl ⟨rfl, ?_⟩
      exact ((((HB.out.below.setCell (by simp) _).setCell (by simp) _).setCell (by simp) _).setCell (by simp) _)
end Go.Proofs.YtkmalggeieiepaaDoor
namespace Go.Proofs.YtkmalggeieiepaaDoor
open Go.RowKit

theorem box_new (w : World) (v : St) (T : Nat) : Box w ((w.alloc (.cells #[.int .u64 v.a, .int .u64 v.b, .int .u64 v.c, .int .u64 v.d] T)).alloc (.cells #[.int .u64 0, .int .u64 0, .int .u64 0, .int .u64 0] T)) v :=
  ⟨by simp [At4, go_sem], by simp [Free4, go_sem], by simp [Room4, Free4, go_sem], ((Below.refl _ _).alloc (Nat.le_refl _) _).alloc (by simp) _⟩
theorem Box.later {w W w' : World} {u : St} (h : Box w W u) (hb : Below W.heap.size W w') : Box w w' u := by
  obtain ⟨⟨h0, h1, h2, h3⟩, ⟨f0, f1, f2, f3⟩, ⟨r0, r1, r2, r3, g0, g1, g2, g3⟩, hB⟩ := h
  obtain ⟨x0, e0⟩ := Option.isSome_iff_exists.1 r0
  have l0 := World.block_lt_of_cell? W _ h0
  have l1 := World.block_lt_of_cell? W _ e0
  have c := fun b o (hh : b < W.heap.size) => hb.cell (p := ⟨b, o, none⟩) hh
  have f := fun b o (hh : b < W.heap.size) => hb.frozen (p := ⟨b, o, none⟩) hh
  simp only at l0 l1
  refine ⟨⟨?_, ?_, ?_, ?_⟩, ⟨?_, ?_, ?_, ?_⟩, ⟨?_, ?_, ?_, ?_, ?_, ?_, ?_, ?_⟩, hB.trans (hb.mono (Nat.le_of_lt l0))⟩
  all_goals first | (rw [c _ _ l0]; assumption) | (rw [f _ _ l0]; assumption) | (rw [c _ _ l1]; assumption) | (rw [f _ _ l1]; assumption)
theorem Room4.out {w : World} {b : Nat} (h : Room4 w b) : ∃ x0 x1 x2 x3, w.cell? ⟨b, 0, none⟩ = some x0 ∧ w.cell? ⟨b, 1, none⟩ = some x1 ∧ w.cell? ⟨b, 2, none⟩ = some x2 ∧ w.cell? ⟨b, 3, none⟩ = some x3 ∧ Free4 w b := by
  obtain ⟨r0, r1, r2, r3, g⟩ := h
  obtain ⟨x0, e0⟩ := Option.isSome_iff_exists.1 r0
  obtain ⟨x1, e1⟩ := Option.isSome_iff_exists.1 r1
  obtain ⟨x2, e2⟩ := Option.isSome_iff_exists.1 r2
  obtain ⟨x3, e3⟩ := Option.isSome_iff_exists.1 r3
  exact ⟨x0, x1, x2, x3, e0, e1, e2, e3, g⟩

set_option maxHeartbeats 400000 in
theorem word_any (v : St) (m : Int) (w : World) (hv : v.ok) :
    Calls Tryd.prog 96 #[.agg #[.int .u64 v.a, .int .u64 v.b, .int .u64 v.c, .int .u64 v.d], .int .u64 m] w fun e w' => e = .returned (.agg #[.int .u64 (wrd v m).a, .int .u64 (wrd v m).b, .int .u64 (wrd v m).c, .int .u64 (wrd v m).d]) ∧ Below w.heap.size w w' := by
  have ok2 : St.ok ⟨v.a, v.b, v.c, bits .xor .u64 v.d m⟩ := ⟨hv.1, hv.2.1, hv.2.2.1, isU_bits .xor _ _⟩
  have hcall := fun W : World => rounds_any ⟨v.a, v.b, v.c, bits .xor .u64 v.d m⟩ 2 W (by omega) ok2
  have HW : Hid (wrd v m = ⟨bits .xor .u64 (rnds 2 ⟨v.a, v.b, v.c, bits .xor .u64 v.d m⟩).a m, (rnds 2 ⟨v.a, v.b, v.c, bits .xor .u64 v.d m⟩).b, (rnds 2 ⟨v.a, v.b, v.c, bits .xor .u64 v.d m⟩).c, (rnds 2 ⟨v.a, v.b, v.c, bits .xor .u64 v.d m⟩).d⟩) := rfl
  generalize rnds 2 ⟨v.a, v.b, v.c, bits .xor .u64 v.d m⟩ = x at hcall HW
  have bn := box_new w ⟨v.a, v.b, v.c, bits .xor .u64 v.d m⟩ 146
  have HBN : Hid (Box w ((w.alloc (.cells #[.int .u64 v.a, .int .u64 v.b, .int .u64 v.c, .int .u64 (bits .xor .u64 v.d m)] 146)).alloc (.cells #[.int .u64 0, .int .u64 0, .int .u64 0, .int .u64 0] 146)) ⟨v.a, v.b, v.c, bits .xor .u64 v.d m⟩) := bn
  clear bn
  go_enter Tryd.func96, Tryd.ntmps96
  go_wp2_with (go_at_call 97; go_must (refine (hcall _).mono ?_); rintro e w' ⟨rfl, hb⟩; have HB : Hid (Box w w' _) := HBN.out.later hb; clear hb; obtain ⟨⟨c0, c1, c2, c3⟩, ⟨f0, f1, f2, f3⟩, hroom, _⟩ := HB.out; obtain ⟨x0, x1, x2, x3, e0, e1, e2, e3, g0, g1, g2, g3⟩ := hroom.out; clear hroom; dsimp only at c0 c1 c2 c3)
  have hw := HW.out
  rw [hw]
  refine bodyPost_ret (v := .agg #[.int .u64 (bits .xor .u64 x.a m), .int .u64 x.b, .int .u64 x.c, .int .u64 x.d]) (by simp [results, Tryd.results96, go_sem, *]) rfl ⟨rfl, ?_⟩
  have hB := HB.out.below
  iterate 9 refine Below.setCell ?_ (by simp) _
  exact hB
end Go.Proofs.YtkmalggeieiepaaDoor
namespace Go.Proofs.YtkmalggeieiepaaDoor
open Go.RowKit

/-- the last word. -/
def lastW (n : Nat) (l : List UInt8) : Int := bits .or .u64 (IntKind.u64.wrap (IntKind.u64.wrap (n : Int) * 72057594037927936)) (num l)
def absorb (n : Nat) (v : St) (l : List UInt8) : St :=
  if _h : 8 ≤ l.length then absorb n (wrd v (num (l.take 8))) (l.drop 8) else wrd v (lastW n l)
  termination_by l.length
  decreasing_by simp; omega
theorem absorb_word (n : Nat) (v : St) (l : List UInt8) (h : 8 ≤ l.length) : absorb n v l = absorb n (wrd v (num (l.take 8))) (l.drop 8) := by
  rw [absorb]; simp [h]
theorem absorb_last (n : Nat) (v : St) (l : List UInt8) (h : ¬ 8 ≤ l.length) : absorb n v l = wrd v (lastW n l) := by
  rw [absorb]; simp [h]
/-- what Sip begins with. -/
def ini (k l : Int) : St := ⟨bits .xor .u64 k 8317987319222330741, bits .xor .u64 l 7237128888997146477, bits .xor .u64 k 7816392313619706465, bits .xor .u64 l 8387220255154660723⟩
theorem ini_ok (k l : Int) : (ini k l).ok := ⟨isU_bits .xor _ _, isU_bits .xor _ _, isU_bits .xor _ _, isU_bits .xor _ _⟩

/-- The box of four numbers at the first block behind w. -/
structure Box1 (w w' : World) (u : St) : Prop where
  at4 : At4 w' w.heap.size u
  free : Free4 w' w.heap.size
  below : Below w.heap.size w w'
theorem box1_new (w : World) (v : St) (T : Nat) : Box1 w (w.alloc (.cells #[.int .u64 v.a, .int .u64 v.b, .int .u64 v.c, .int .u64 v.d] T)) v :=
  ⟨by simp [At4, go_sem], by simp [Free4, go_sem], (Below.refl _ _).alloc (Nat.le_refl _) _⟩
theorem Box1.drew {w w' : World} {u : St} (h : Box1 w w' u) : Box1 w w'.drew u := ⟨h.at4, h.free, h.below.drew⟩
theorem Box1.later {w W w' : World} {u : St} (h : Box1 w W u) (hb : Below W.heap.size W w') : Box1 w w' u := by
  obtain ⟨⟨h0, h1, h2, h3⟩, ⟨f0, f1, f2, f3⟩, hB⟩ := h
  have l0 := World.block_lt_of_cell? W _ h0
  have c := fun b o (hh : b < W.heap.size) => hb.cell (p := ⟨b, o, none⟩) hh
  have f := fun b o (hh : b < W.heap.size) => hb.frozen (p := ⟨b, o, none⟩) hh
  simp only at l0
  refine ⟨⟨?_, ?_, ?_, ?_⟩, ⟨?_, ?_, ?_, ?_⟩, hB.trans (hb.mono (Nat.le_of_lt l0))⟩
  all_goals first | (rw [c _ _ l0]; assumption) | (rw [f _ _ l0]; assumption)
theorem Box1.set2 {w w' : World} {a b c d : Int} (h : Box1 w w' ⟨a, b, c, d⟩) (x : Int) : Box1 w (w'.setCell ⟨w.heap.size, 2, none⟩ (.int .u64 x)) ⟨a, b, x, d⟩ := by
  obtain ⟨⟨h0, h1, h2, h3⟩, hf, hb⟩ := h
  refine ⟨?_, ?_, hb.setCell (Nat.le_refl _) _⟩
  · simp only at h0 h1 h2 h3; simp [At4, sc_same, World.cell?_setCell_other, h0, h1, h2, h3]
  · simpa [Free4] using hf
/-- all four written. -/
theorem Box1.all {w w' : World} {u : St} (h : Box1 w w' u) (a b c d : Int) : Box1 w ((((w'.setCell ⟨w.heap.size, 0, none⟩ (.int .u64 a)).setCell ⟨w.heap.size, 1, none⟩ (.int .u64 b)).setCell ⟨w.heap.size, 2, none⟩ (.int .u64 c)).setCell ⟨w.heap.size, 3, none⟩ (.int .u64 d)) ⟨a, b, c, d⟩ := by
  obtain ⟨⟨h0, h1, h2, h3⟩, hf, hb⟩ := h
  refine ⟨?_, ?_, (((hb.setCell (Nat.le_refl _) _).setCell (Nat.le_refl _) _).setCell (Nat.le_refl _) _).setCell (Nat.le_refl _) _⟩
  · simp [At4, sc_same, World.cell?_setCell_other, h0, h1, h2, h3]
  · simpa [Free4] using hf

theorem Box1.all' {w w' : World} {u : St} (h : Box1 w w' u) (x : St) : Box1 w ((((w'.setCell ⟨w.heap.size, 0, none⟩ (.int .u64 x.a)).setCell ⟨w.heap.size, 1, none⟩ (.int .u64 x.b)).setCell ⟨w.heap.size, 2, none⟩ (.int .u64 x.c)).setCell ⟨w.heap.size, 3, none⟩ (.int .u64 x.d)) x := h.all _ _ _ _

set_option maxHeartbeats 1000000 in
theorem sip_any (k l : Int) (s : ByteArray) (w : World) (hs : s.size ≤ 1048576) :
    Calls Tryd.prog 91 #[.int .u64 k, .int .u64 l, .string s] w fun e w' => e = .returned (.int .u64 (fin (absorb s.size (ini k l) s.data.toList))) ∧ Below w.heap.size w w' := by
  go_enter Tryd.func91, Tryd.ntmps91
  go_wp2
  go_loopg [8] s.size (fun g r wr => ∃ t : ByteArray, ∃ u : St, r = .string t ∧ t.size ≤ g ∧ t.size ≤ s.size ∧ u.ok ∧ absorb s.size u t.data.toList = absorb s.size (ini k l) s.data.toList ∧ Box1 w wr u)
  case atStart => exact ⟨s, ini k l, rfl, Nat.le_refl _, Nat.le_refl _, ini_ok k l, rfl, box1_new w (ini k l) _⟩
  case round =>
    obtain ⟨t, u, rfl, htg, hts, hu, ha, hbox⟩ := hrel
    have HA : Hid (absorb s.size u t.data.toList = absorb s.size (ini k l) s.data.toList) := ha
    have HB : Hid (Box1 w wr u) := hbox
    obtain ⟨⟨c0, c1, c2, c3⟩, ⟨f0, f1, f2, f3⟩, _⟩ := hbox
    clear ha
    by_cases h8 : 8 ≤ t.size
    · go_upto_region 4 with fail
      go_cut [] (fun wx => Box1 w wx (wrd u (num (t.data.toList.take 8))))
      case first =>
        go_region_with (first | (go_at_call 89; refine (lowest_any _ _ ?_).mono ?_; (simp; omega); rintro e w' ⟨rfl, rfl⟩) | (go_at_call 96; refine (word_any u _ _ hu).mono ?_; rintro e w' ⟨rfl, hb⟩; have HB2 : Hid (Box1 w w' u) := HB.out.drew.later hb; clear hb; obtain ⟨⟨c0, c1, c2, c3⟩, ⟨f0, f1, f2, f3⟩, _⟩ := HB2.out))
        all_goals (go_wp2_with fail; go_meet; exact (HB2.out.all' (wrd u (num (t.data.toList.take 8)))))
      case rest =>
      have HB2 : Hid (Box1 w wc (wrd u (num (t.data.toList.take 8)))) := hcut
      clear HB c0 c1 c2 c3 f0 f1 f2 f3 hcut
      go_wp2
      go_roundg (gk - 8)
      case measure => omega
      case rel =>
        have hl : t.data.toList.length = t.size := rfl
        have e2 : (t.extract 8 t.size).data.toList = t.data.toList.drop 8 := by rw [Lib.extract_data]; exact List.take_of_length_le (Nat.le_of_eq (by rw [List.length_drop, hl]))
        refine ⟨t.extract 8 t.size, _, rfl, by simp; omega, by simp; omega, wrd_ok u _ hu, ?_, HB2.out⟩
        rw [e2, ← absorb_word _ _ _ (by omega)]; exact HA.out
    · go_upto_region 6 with fail
      go_cut [] (fun wx => Box1 w wx (wrd u (lastW s.size t.data.toList)))
      case first =>
        go_region_with (first | (go_at_call 89; refine (lowest_any _ _ ?_).mono ?_; (omega); rintro e w' ⟨rfl, rfl⟩) | (go_at_call 96; refine (word_any u _ _ hu).mono ?_; rintro e w' ⟨rfl, hb⟩; have HB2 : Hid (Box1 w w' u) := HB.out.drew.later hb; clear hb; obtain ⟨⟨c0, c1, c2, c3⟩, ⟨f0, f1, f2, f3⟩, _⟩ := HB2.out))
        all_goals (go_wp2_with fail; go_meet; exact (HB2.out.all' (wrd u (lastW s.size t.data.toList))))
      case rest =>
      have hx := wrd_ok u (lastW s.size t.data.toList) hu
      have HX : Hid (wrd u (lastW s.size t.data.toList) = absorb s.size (ini k l) s.data.toList) := (absorb_last _ _ _ h8).symm.trans HA.out
      clear HB c0 c1 c2 c3 f0 f1 f2 f3 HA
      generalize wrd u (lastW s.size t.data.toList) = x at hx HX hcut
      have hx2 : St.ok ⟨x.a, x.b, bits .xor .u64 x.c 255, x.d⟩ := ⟨hx.1, hx.2.1, isU_bits .xor _ _, hx.2.2.2⟩
      have HF : Hid (fin x = bits .xor .u64 (bits .xor .u64 (bits .xor .u64 (rnds 4 ⟨x.a, x.b, bits .xor .u64 x.c 255, x.d⟩).a (rnds 4 ⟨x.a, x.b, bits .xor .u64 x.c 255, x.d⟩).b) (rnds 4 ⟨x.a, x.b, bits .xor .u64 x.c 255, x.d⟩).c) (rnds 4 ⟨x.a, x.b, bits .xor .u64 x.c 255, x.d⟩).d) := rfl
      have hcall := fun W : World => rounds_any ⟨x.a, x.b, bits .xor .u64 x.c 255, x.d⟩ 4 W (by omega) hx2
      generalize rnds 4 ⟨x.a, x.b, bits .xor .u64 x.c 255, x.d⟩ = y at HF hcall
      have HB : Hid (Box1 w wc ⟨x.a, x.b, x.c, x.d⟩) := hcut
      obtain ⟨⟨c0, c1, c2, c3⟩, ⟨f0, f1, f2, f3⟩, _⟩ := hcut
      go_wp2_with (go_at_call 97; go_must (refine (hcall _).mono ?_); rintro e w' ⟨rfl, hb⟩; have HB2 : Hid (Box1 w w' ⟨x.a, x.b, bits .xor .u64 x.c 255, x.d⟩) := (HB.out.set2 _).later hb; clear hb; obtain ⟨⟨c0, c1, c2, c3⟩, ⟨f0, f1, f2, f3⟩, _⟩ := HB2.out; dsimp only at c0 c1 c2 c3)
      go_ret
      rw [← HX.out, HF.out]
      exact ⟨rfl, (HB2.out.all _ _ _ _).below⟩

end Go.Proofs.YtkmalggeieiepaaDoor
namespace Go.Proofs.YtkmalggeieiepaaDoor
open Go.RowKit

/-- words worked in till nothing is left. -/
def absR (v : St) (l : List UInt8) : St :=
  if _h : 8 ≤ l.length then absR (wrd v (num (l.take 8))) (l.drop 8) else v
  termination_by l.length
  decreasing_by simp; omega
theorem absR_word (v : St) (l : List UInt8) (h : 8 ≤ l.length) : absR v l = absR (wrd v (num (l.take 8))) (l.drop 8) := by
  rw [absR]; simp [h]
theorem absR_nil (v : St) : absR v [] = v := by rw [absR]; simp
theorem num_zeros (j : Nat) : num (List.replicate j 0) = 0 := by
  induction j with
  | zero => rfl
  | succ j ih => simp [List.replicate_succ, num, ih]
theorem num_last (l : List UInt8) (j : Nat) (b : UInt8) (h : l.length + j = 7) : num (l ++ List.replicate j 0 ++ [b]) = num l + 72057594037927936 * b.toNat := by
  rw [num_append, num_append, num_zeros]
  have e : (l ++ List.replicate j 0).length = 7 := by simp [h]
  rw [e]; simp [num]
theorem lastW_eq (n : Nat) (l : List UInt8) (h : l.length ≤ 7) : lastW n l = ((num l + 72057594037927936 * (UInt8.ofNat n).toNat : Nat) : Int) := by
  have h1 := num_lt l
  have h2 : 256 ^ l.length ≤ 256 ^ 7 := Nat.pow_le_pow_right (by omega) h
  have h3 : 256 ^ 7 = 72057594037927936 := by decide
  have h4 : (UInt8.ofNat n).toNat = n % 256 := by simp
  unfold lastW
  rw [h4, IntKind.wrap_u64, IntKind.wrap_u64]
  have h5 : (↑n % 18446744073709551616 * 72057594037927936 : Int) % 18446744073709551616 = ((n % 256 * 72057594037927936 : Nat) : Int) := by omega
  rw [h5]
  rw [bits_join .u64 64 (by decide) (fun n h h' => by rw [IntKind.wrap_u64]; omega) 56 _ _ (by omega) (by omega) (by omega) (by omega) (by omega) (by omega)]
  omega
theorem absR_pad (n : Nat) (j : Nat) : ∀ (m : Nat) (v : St) (l : List UInt8), l.length = m → (l.length + j + 1) % 8 = 0 → j < 8 → absR v (l ++ List.replicate j 0 ++ [UInt8.ofNat n]) = absorb n v l := by
  intro m
  induction m using Nat.strongRecOn with
  | ind m ih =>
    intro v l hl hm hj
    by_cases h8 : 8 ≤ l.length
    · rw [absorb_word n v l h8, absR_word _ _ (by simp; omega)]
      have e1 : (l ++ List.replicate j 0 ++ [UInt8.ofNat n]).take 8 = l.take 8 := by rw [List.append_assoc, List.take_append_of_le_length h8]
      have e2 : (l ++ List.replicate j 0 ++ [UInt8.ofNat n]).drop 8 = l.drop 8 ++ List.replicate j 0 ++ [UInt8.ofNat n] := by rw [List.append_assoc, List.drop_append_of_le_length h8, List.append_assoc]
      rw [e1, e2]
      exact ih (l.drop 8).length (by simp; omega) _ _ rfl (by simp; omega) hj
    · have e : (l ++ List.replicate j 0 ++ [UInt8.ofNat n]).length = 8 := by simp; omega
      rw [absorb_last n v l h8, absR_word _ _ (by omega)]
      rw [List.take_of_length_le (by omega), List.drop_of_length_le (by omega), absR_nil, lastW_eq n l (by omega), num_last l j _ (by omega)]

theorem sapp_toList (t : ByteArray) (b : UInt8) : (t ++ ⟨#[b]⟩ : ByteArray).data.toList = t.data.toList ++ [b] := by
  rw [ByteArray.data_append]; simp
theorem sapp_size (t : ByteArray) (b : UInt8) : (t ++ ⟨#[b]⟩ : ByteArray).size = t.size + 1 := by
  rw [ByteArray.size_append]; rfl
theorem stoList_eq (s : ByteArray) : s.toList = s.data.toList := by
  obtain ⟨⟨l⟩⟩ := s
  simp
theorem ssome_left (t : ByteArray) (h : 8 ≤ t.size) : t.toList.isEmpty = false := by
  rw [stoList_eq]
  have hl : t.data.toList.length = t.size := rfl
  cases e : t.data.toList with
  | nil => rw [e] at hl; simp at hl; omega
  | cons a l => rfl
theorem snone_left (t : ByteArray) (h : t.size = 0) : t.toList.isEmpty = true := by
  rw [stoList_eq]
  have hl : t.data.toList.length = t.size := rfl
  cases e : t.data.toList with
  | nil => rfl
  | cons a l => rw [e] at hl; simp at hl; omega
theorem At4.set0 {w : World} {b : Nat} {v : St} (h : At4 w b v) (x : Int) : At4 (w.setCell ⟨b, 0, none⟩ (.int .u64 x)) b ⟨x, v.b, v.c, v.d⟩ := by
  obtain ⟨h0, h1, h2, h3⟩ := h
  simp [At4, sc_same, World.cell?_setCell_other, h0, h1, h2, h3]
theorem At4.set2 {w : World} {b : Nat} {v : St} (h : At4 w b v) (x : Int) : At4 (w.setCell ⟨b, 2, none⟩ (.int .u64 x)) b ⟨v.a, v.b, x, v.d⟩ := by
  obtain ⟨h0, h1, h2, h3⟩ := h
  simp [At4, sc_same, World.cell?_setCell_other, h0, h1, h2, h3]
theorem At4.set3 {w : World} {b : Nat} {v : St} (h : At4 w b v) (x : Int) : At4 (w.setCell ⟨b, 3, none⟩ (.int .u64 x)) b ⟨v.a, v.b, v.c, x⟩ := by
  obtain ⟨h0, h1, h2, h3⟩ := h
  simp [At4, sc_same, World.cell?_setCell_other, h0, h1, h2, h3]
theorem Free4.set {w : World} {b : Nat} (h : Free4 w b) (a : Addr) (v : Value) : Free4 (w.setCell a v) b := by
  simpa [Free4] using h
theorem n_uesp : num [117, 101, 115, 112, 101, 109, 111, 115] = 8317987319222330741 := by decide
theorem n_modn : num [109, 111, 100, 110, 97, 114, 111, 100] = 7237128888997146477 := by decide
theorem n_aren : num [97, 114, 101, 110, 101, 103, 121, 108] = 7816392313619706465 := by decide
theorem n_sety : num [115, 101, 116, 121, 98, 100, 101, 116] = 8387220255154660723 := by decide
end Go.Proofs.YtkmalggeieiepaaDoor
namespace Go.Proofs.YtkmalggeieiepaaDoor
open Go.RowKit

set_option maxHeartbeats 400000 in
theorem left_any (k : Int) (x : Int) (w : World) (hk : k = 13 ∨ k = 16 ∨ k = 17 ∨ k = 21 ∨ k = 32) (hx : IsU x) :
    Calls Tryd.prog 98 #[.int .u64 x, .int .i64 k] w fun e w' => e = .returned (.int .u64 (rot k x)) ∧ ∃ n, w' = w.drewN n := by
  obtain ⟨h0, h1⟩ := hx
  rcases hk with rfl | rfl | rfl | rfl | rfl
  all_goals
    go_enter Tryd.func98, Tryd.ntmps98
    go_wp2
    go_quiet (fail)
    go_wp2
    go_ret
    exact ⟨rfl, _, rfl⟩
end Go.Proofs.YtkmalggeieiepaaDoor
namespace Go.Proofs.YtkmalggeieiepaaDoor
open Go.RowKit

set_option maxHeartbeats 1000000 in
theorem refRounds_any (b : Nat) (v : St) (n : Nat) (w : World) (hn : n ≤ 100) (hv : v.ok)
    (h0 : w.cell? ⟨b, 0, none⟩ = some (.int .u64 v.a)) (h1 : w.cell? ⟨b, 1, none⟩ = some (.int .u64 v.b)) (h2 : w.cell? ⟨b, 2, none⟩ = some (.int .u64 v.c)) (h3 : w.cell? ⟨b, 3, none⟩ = some (.int .u64 v.d)) :
    Calls Tryd.prog 94 #[.slice (some ⟨b, 0, none⟩) 4 4, .int .i64 n] w fun e w' => ∃ g, e = .returned (.slice (some ⟨g, 0, none⟩) 4 4) ∧ w.heap.size ≤ g ∧ At4 w' g (rnds n v) ∧ Free4 w' g ∧ Below w.heap.size w w' := by
  go_enter Tryd.func94, Tryd.ntmps94
  go_wp2
  go_loopw [1, 5, 6, 7, 8] (fun m a b c d w' => ∃ k : Nat, ∃ u : St, k ≤ n ∧ m = .int .i64 k ∧ u.ok ∧ rnds k u = rnds n v ∧ a = .int .u64 u.a ∧ b = .int .u64 u.b ∧ c = .int .u64 u.c ∧ d = .int .u64 u.d ∧ ∃ j, w' = w.drewN j) (fun m _ _ _ _ _ => (intOf m).toNat)
  case atStart => exact ⟨n, v, Nat.le_refl _, rfl, hv, rfl, rfl, rfl, rfl, rfl, 0, rfl⟩
  case round =>
    obtain ⟨k, u, hk, rfl, hu, hr, rfl, rfl, rfl, rfl, j, rfl⟩ := hrel
    have HR : Hid (rnds k u = rnds n v) := hr
    clear hr
    by_cases hlt : 0 < k
    · go_wp2_with (go_at_call 98; go_must (refine (left_any _ _ _ (by omega) ?_).mono ?_); (first | exact isU_wrap _ | exact isU_bits _ _ _ | exact isU_rot _ _ | exact hu.1 | exact hu.2.1 | exact hu.2.2.1 | exact hu.2.2.2); rintro e w' ⟨rfl, n', rfl⟩)
      go_roundw
      case rel => exact ⟨k - 1, rnd u, by omega, by go_num, rnd_ok u, by have h := HR.out; obtain ⟨m, rfl⟩ : ∃ m, k = m + 1 := ⟨k - 1, by omega⟩; exact h, rfl, rfl, rfl, rfl, _, rfl⟩
      case measure => simp [intOf]; omega
    · obtain rfl : k = 0 := by omega
      go_wp2
      go_ret
      have hr := HR.out
      refine ⟨w.heap.size, rfl, Nat.le_refl _, ?_, free4_new (w.drewN j) u _, ?_⟩
      · rw [← hr]; exact at4_new (w.drewN j) u _
      · exact (below_drewN (Below.refl _ _) j).alloc (Nat.le_refl _) _
end Go.Proofs.YtkmalggeieiepaaDoor
namespace Go.Proofs.YtkmalggeieiepaaDoor
open Go.RowKit

/-- one byte, as a string. -/
theorem sstr1 (W : World) (x : Int) (h0 : 0 ≤ x) (h1 : x < 256) : (convert 50 9 (.slice (some ⟨W.heap.size, 0, none⟩) 1 1)).run Tryd.prog (W.alloc (.cells #[.int .u8 x] 5)) = .ok (.string ⟨#[UInt8.ofNat x.toNat]⟩) (W.alloc (.cells #[.int .u8 x] 5)) := by
  have e : ((UInt8.ofNat x.toNat).toNat : Int) = x := by simp; omega
  have := run_convert_bytes_back (P := Tryd.prog) (W.alloc (.cells #[.int .u8 x] 5)) 50 9 5 ⟨W.heap.size, 0, none⟩ 1 [UInt8.ofNat x.toNat] Tryd.underlying50 Tryd.underlying5 Tryd.underlying9
  refine this (fun j hj => ?_)
  obtain rfl : j = 0 := by simpa using hj
  simp only [List.getElem_cons_zero, e]
  simp [Addr.add, go_sem]

set_option maxHeartbeats 1000000 in
theorem refSip_any (k l : Int) (s : ByteArray) (w : World) (hs : s.size ≤ 1048576) :
    Calls Tryd.prog 74 #[.int .u64 k, .int .u64 l, .string s] w fun e w' => e = .returned (.int .u64 (fin (absorb s.size (ini k l) s.data.toList))) ∧ Below w.heap.size w w' := by
  have n1 := n_uesp
  have n2 := n_modn
  have n3 := n_aren
  have n4 := n_sety
  go_enter Tryd.func74, Tryd.ntmps74
  go_wp2_with (go_at_call 93; go_must (refine (number_any _ _ (by decide)).mono ?_); rintro e w' ⟨rfl, hw⟩; obtain rfl := hw.symm)
  clear n1 n2 n3 n4
  have bx := box1_new w (ini k l) 36
  generalize hW : w.alloc (Obj.cells #[Value.int IntKind.u64 (bits BinOp.xor IntKind.u64 k 8317987319222330741), Value.int IntKind.u64 (bits BinOp.xor IntKind.u64 l 7237128888997146477), Value.int IntKind.u64 (bits BinOp.xor IntKind.u64 k 7816392313619706465), Value.int IntKind.u64 (bits BinOp.xor IntKind.u64 l 8387220255154660723)] 36) = W0
  have HB : Hid (Box1 w W0 (ini k l)) := by rw [← hW]; exact bx
  clear bx hW
  go_loopg [2] ((15 - s.size % 8) % 8) (fun g r wr => ∃ t : ByteArray, ∃ j : Nat, r = .string t ∧ t.data.toList = s.data.toList ++ List.replicate j 0 ∧ t.size = s.size + j ∧ j + g = (15 - s.size % 8) % 8 ∧ wr = W0)
  case atStart => exact ⟨s, 0, rfl, by simp, rfl, by omega, rfl⟩
  case round =>
    obtain ⟨t, j, rfl, ht, hts, hj, rfl⟩ := hrel
    have HT : Hid (t.data.toList = s.data.toList ++ List.replicate j 0) := ht
    have HTS : Hid (t.size = s.size + j) := hts
    have HJ : Hid (j + gk = (15 - s.size % 8) % 8) := hj
    have htb : t.size ≤ 1048584 := by omega
    by_cases hlt : t.size % 8 = 7
    · have hlb : (((t.size : Int) % 8) != 7) = false := by simp; omega
      have HL : Hid (t.size % 8 = 7) := hlt
      clear ht hts hj hlt
      generalize hm : (s.size : Int) % 256 = L
      have hL0 : 0 ≤ L := by omega
      have hL1 : L < 256 := by omega
      have HM : Hid ((s.size : Int) % 256 = L) := hm
      clear hm
      have hstr := sstr1 wr L hL0 hL1
      go_upto_region 6 with fail
      have HP : Hid (absR (ini k l) (t ++ ⟨#[UInt8.ofNat L.toNat]⟩ : ByteArray).data.toList = absorb s.size (ini k l) s.data.toList) := by
        have e0 : (t ++ ⟨#[UInt8.ofNat L.toNat]⟩ : ByteArray).data.toList = t.data.toList ++ [UInt8.ofNat L.toNat] := sapp_toList _ _
        have e1 : UInt8.ofNat L.toNat = UInt8.ofNat s.size := by
          rw [← HM.out, ← UInt8.toNat_inj]; simp; omega
        have h1 := HTS.out; have h2 := HL.out; have h3 := HJ.out
        rw [e0, HT.out, e1]
        exact absR_pad s.size j _ _ _ rfl (by show (s.size + j + 1) % 8 = 0; omega) (by omega)
      have hz1 : (t ++ ⟨#[UInt8.ofNat L.toNat]⟩ : ByteArray).size = t.size + 1 := sapp_size _ _
      have hz2 := HL.out
      generalize (t ++ ⟨#[UInt8.ofNat L.toNat]⟩ : ByteArray) = t2 at HP hz1
      clear HT HTS HJ HL HM
      have hbx := (HB.out.later ((Below.refl _ _).alloc (Nat.le_refl _) (.cells #[.int .u8 L] 5)))
      go_loopg [2, 7] t2.size (fun g r v wr => ∃ t' : ByteArray, ∃ u : St, ∃ b : Nat, r = .string t' ∧ v = .slice (some ⟨b, 0, none⟩) 4 4 ∧ t'.size ≤ g ∧ t'.size % 8 = 0 ∧ t'.size ≤ 1048600 ∧ u.ok ∧ absR u t'.data.toList = absorb s.size (ini k l) s.data.toList ∧ w.heap.size ≤ b ∧ At4 wr b u ∧ Free4 wr b ∧ Below w.heap.size w wr)
      case atStart => exact ⟨t2, ini k l, w.heap.size, rfl, rfl, Nat.le_refl _, by omega, by omega, ini_ok k l, HP.out, Nat.le_refl _, hbx.at4, hbx.free, hbx.below⟩
      case round =>
        clear hbx HP hz1 hz2 hstr
        obtain ⟨t', u, b, rfl, rfl, htg, ht8, htb2, hu, ha, hwb, ⟨c0, c1, c2, c3⟩, ⟨f0, f1, f2, f3⟩, hbel⟩ := hrel
        have HA : Hid (absR u t'.data.toList = absorb s.size (ini k l) s.data.toList) := ha
        have HBL : Hid (Below w.heap.size w wr) := hbel
        have H8 : Hid (t'.size % 8 = 0) := ht8
        clear ha hbel
        by_cases h8 : 8 ≤ t'.size
        · have hne : t'.toList.isEmpty = false := ssome_left t' h8
          clear ht8
          have m4 := At4.set3 (v := u) ⟨c0, c1, c2, c3⟩ (bits .xor .u64 u.d (num (t'.data.toList.take 8)))
          have hcall := refRounds_any b ⟨u.a, u.b, u.c, bits .xor .u64 u.d (num (t'.data.toList.take 8))⟩ 2 (wr.setCell ⟨b, 3, none⟩ (.int .u64 (bits .xor .u64 u.d (num (t'.data.toList.take 8))))) (by omega) ⟨hu.1, hu.2.1, hu.2.2.1, isU_bits .xor _ _⟩ m4.1 m4.2.1 m4.2.2.1 m4.2.2.2
          have HW : Hid (wrd u (num (t'.data.toList.take 8)) = ⟨bits .xor .u64 (rnds 2 ⟨u.a, u.b, u.c, bits .xor .u64 u.d (num (t'.data.toList.take 8))⟩).a (num (t'.data.toList.take 8)), (rnds 2 ⟨u.a, u.b, u.c, bits .xor .u64 u.d (num (t'.data.toList.take 8))⟩).b, (rnds 2 ⟨u.a, u.b, u.c, bits .xor .u64 u.d (num (t'.data.toList.take 8))⟩).c, (rnds 2 ⟨u.a, u.b, u.c, bits .xor .u64 u.d (num (t'.data.toList.take 8))⟩).d⟩) := rfl
          have HN : Hid (absR (wrd u (num (t'.data.toList.take 8))) (t'.extract 8 t'.size).data.toList = absorb s.size (ini k l) s.data.toList) := by
            have hl : t'.data.toList.length = t'.size := rfl
            have e2 : (t'.extract 8 t'.size).data.toList = t'.data.toList.drop 8 := by rw [Lib.extract_data]; exact List.take_of_length_le (Nat.le_of_eq (by rw [List.length_drop, hl]))
            rw [e2, ← absR_word _ _ (by omega)]; exact HA.out
          have HO : Hid ((wrd u (num (t'.data.toList.take 8))).ok) := wrd_ok u _ hu
          clear HA m4
          generalize rnds 2 ⟨u.a, u.b, u.c, bits .xor .u64 u.d (num (t'.data.toList.take 8))⟩ = x at hcall HW
          go_wp2_with (first | (go_at_call 93; go_must (refine (number_any _ _ ?_).mono ?_); (simp; omega); rintro e w' ⟨rfl, hw⟩; obtain rfl := hw.symm) | (go_at_call 94; go_must (refine hcall.mono ?_); rintro e w' ⟨g, rfl, hg, ⟨d0, d1, d2, d3⟩, ⟨e0, e1, e2, e3⟩, hb⟩; have HC : Hid (At4 w' g x ∧ Free4 w' g ∧ (wr.setCell ⟨b, 3, none⟩ (.int .u64 (bits .xor .u64 u.d (num (t'.data.toList.take 8))))).heap.size ≤ g ∧ Below (wr.setCell ⟨b, 3, none⟩ (.int .u64 (bits .xor .u64 u.d (num (t'.data.toList.take 8))))).heap.size (wr.setCell ⟨b, 3, none⟩ (.int .u64 (bits .xor .u64 u.d (num (t'.data.toList.take 8))))) w') := ⟨⟨d0, d1, d2, d3⟩, ⟨e0, e1, e2, e3⟩, hg, hb⟩; clear hb hg))
          go_roundg (gk - 8)
          case measure => omega
          case rel =>
            obtain ⟨q1, q2, q3, q4⟩ := HC.out
            have h8' := H8.out
            have hsz := HBL.out.size
            have hset : (wr.setCell ⟨b, 3, none⟩ (.int .u64 (bits .xor .u64 u.d (num (t'.data.toList.take 8))))).heap.size = wr.heap.size := by simp
            refine ⟨t'.extract 8 t'.size, wrd u (num (t'.data.toList.take 8)), g, rfl, rfl, by simp; omega, by simp; omega, by simp; omega, HO.out, HN.out, by omega, ?_, q2.set _ _, ?_⟩
            · rw [HW.out]; exact q1.set0 _
            · exact ((HBL.out.setCell hwb _).trans (q4.mono (by omega))).setCell (by show w.heap.size ≤ g; omega) _
        · have hne : t'.toList.isEmpty = true := snone_left t' (by omega)
          clear ht8
          have m4 := At4.set2 (v := u) ⟨c0, c1, c2, c3⟩ (bits .xor .u64 u.c 255)
          have hcall := refRounds_any b ⟨u.a, u.b, bits .xor .u64 u.c 255, u.d⟩ 4 (wr.setCell ⟨b, 2, none⟩ (.int .u64 (bits .xor .u64 u.c 255))) (by omega) ⟨hu.1, hu.2.1, isU_bits .xor _ _, hu.2.2.2⟩ m4.1 m4.2.1 m4.2.2.1 m4.2.2.2
          have HF : Hid (fin u = bits .xor .u64 (bits .xor .u64 (bits .xor .u64 (rnds 4 ⟨u.a, u.b, bits .xor .u64 u.c 255, u.d⟩).a (rnds 4 ⟨u.a, u.b, bits .xor .u64 u.c 255, u.d⟩).b) (rnds 4 ⟨u.a, u.b, bits .xor .u64 u.c 255, u.d⟩).c) (rnds 4 ⟨u.a, u.b, bits .xor .u64 u.c 255, u.d⟩).d) := rfl
          have HX : Hid (u = absorb s.size (ini k l) s.data.toList) := by
            have h8' := H8.out
            have hl : t'.data.toList.length = t'.size := rfl
            have e : t'.data.toList = [] := List.eq_nil_of_length_eq_zero (by omega)
            have := HA.out
            rw [e, absR_nil] at this
            exact this
          clear HA m4
          generalize rnds 4 ⟨u.a, u.b, bits .xor .u64 u.c 255, u.d⟩ = y at hcall HF
          go_wp2_with (go_at_call 94; go_must (refine hcall.mono ?_); rintro e w' ⟨g, rfl, hg, ⟨d0, d1, d2, d3⟩, ⟨e0, e1, e2, e3⟩, hb⟩; have HC : Hid (Below (wr.setCell ⟨b, 2, none⟩ (.int .u64 (bits .xor .u64 u.c 255))).heap.size (wr.setCell ⟨b, 2, none⟩ (.int .u64 (bits .xor .u64 u.c 255))) w') := hb; clear hb hg)
          go_quiet (fail)
          go_wp2
          go_ret
          rw [← HX.out, HF.out]
          have hset : (wr.setCell ⟨b, 2, none⟩ (.int .u64 (bits .xor .u64 u.c 255))).heap.size = wr.heap.size := by simp
          have hsz := HBL.out.size
          exact ⟨rfl, below_drewN ((HBL.out.setCell hwb _).trans (HC.out.mono (by omega))) _⟩
    · have hg : 0 < gk := by omega
      clear ht hts hj
      go_wp2
      go_roundg (gk - 1)
      case measure => omega
      case rel =>
        have h1 := HTS.out; have h3 := HJ.out
        exact ⟨_, j + 1, rfl, by rw [sapp_toList, HT.out, List.replicate_succ', List.append_assoc], by rw [sapp_size]; omega, by omega, rfl⟩
end Go.Proofs.YtkmalggeieiepaaDoor
namespace Go.Proofs.YtkmalggeieiepaaDoor
open Go.RowKit

/-- the two halves of a key. -/
def key1 (d : ByteArray) : Nat := num (d.extract 0 8).data.toList
def key2 (d : ByteArray) : Nat := num (d.extract 8 16).data.toList

set_option maxRecDepth 10000 in
set_option maxHeartbeats 1000000 in
theorem key_of (gt : Nat) (dg : ByteArray → ByteArray) (hdg : ∀ s, (dg s).size = 32) (h n : ByteArray) (w : World) (hh : h.size ≤ 1000) (hn : n.size ≤ 1000)
    (HS : Hid (∀ (s : ByteArray) (W : World), s.size ≤ 1048576 → Below w.heap.size w W → Calls Tryd.prog 10 #[.pointer (some ⟨gt, 0, none⟩), .string s] W fun e w' => e = .returned (.string (dg s)) ∧ Below W.heap.size W w')) :
    Calls Tryd.prog 73 #[.pointer (some ⟨gt, 0, none⟩), .string h, .string n] w fun e w' => e = .returned (.tuple #[.int .u64 (key1 (dg (h ++ n)) : Int), .int .u64 (key2 (dg (h ++ n)) : Int)]) ∧ Below w.heap.size w w' := by
  have H1 : Hid (Calls Tryd.prog 10 #[.pointer (some ⟨gt, 0, none⟩), .string (h ++ n)] w fun e w' => e = .returned (.string (dg (h ++ n))) ∧ Below w.heap.size w w') := HS.out (h ++ n) w (by rw [ByteArray.size_append]; omega) (Below.refl _ _)
  have hd := hdg (h ++ n)
  clear HS hdg
  generalize dg (h ++ n) = d at H1 hd
  have HK1 : Hid (key1 d = num (d.extract 0 8).data.toList) := rfl
  have HK2 : Hid (key2 d = num (d.extract 8 16).data.toList) := rfl
  obtain ⟨a1, x1⟩ : ∃ a, d.extract 0 8 = a := ⟨_, rfl⟩
  obtain ⟨a2, x2⟩ : ∃ a, d.extract 8 16 = a := ⟨_, rfl⟩
  have z1 : a1.size ≤ 8 := by rw [← x1, ByteArray.size_extract]; omega
  have z2 : a2.size ≤ 8 := by rw [← x2, ByteArray.size_extract]; omega
  rw [x1] at HK1
  rw [x2] at HK2
  obtain ⟨nm, hnm⟩ : ∃ nm : ByteArray → Int, nm = fun s => (num s.data.toList : Int) := ⟨_, rfl⟩
  have HN : Hid (∀ (s : ByteArray) (W : World), s.size ≤ 8 → Calls Tryd.prog 93 #[.string s] W fun e w' => e = .returned (.int .u64 (nm s)) ∧ w' = W) := fun s W hs => by rw [hnm]; exact number_any s W hs
  have HE1 : Hid (nm a1 = (key1 d : Int)) := by show _ = _; rw [HK1.out, hnm]
  have HE2 : Hid (nm a2 = (key2 d : Int)) := by show _ = _; rw [HK2.out, hnm]
  clear hnm HK1 HK2
  have hdi : (d.size : Int) = 32 := by omega
  go_enter Tryd.func73, Tryd.ntmps73
  go_upto_region 2 with (go_at_call 10; go_must (refine H1.out.mono ?_); rintro e w1 ⟨rfl, hb1⟩; have HB1 : Hid (Below w.heap.size w w1) := hb1; clear hb1)
  clear H1
  go_quiet (((go_at_call 93; exact Calls.quiet_of_same (HN.out _ _ (by first | exact z1 | exact z2)))))
  go_wp2
  go_ret2
  refine ⟨by rw [← HE1.out, ← HE2.out]; rfl, below_drewN HB1.out _⟩
theorem fin_ok (v : St) : 0 ≤ fin v ∧ fin v < 18446744073709551616 := by
  have h : ∀ (o : BinOp) (x y : Int), 0 ≤ bits o .u64 x y ∧ bits o .u64 x y < 18446744073709551616 := fun o x y => by
    have : ∀ z : Int, 0 ≤ IntKind.u64.wrap z ∧ IntKind.u64.wrap z < 18446744073709551616 := fun z => by rw [IntKind.wrap_u64]; omega
    exact this _
  unfold fin
  generalize rnds 4 _ = u
  exact h _ _ _
/-- SipHash of a text, by a key. -/
def sipN (k l : Nat) (s : ByteArray) : Nat := (fin (absorb s.size (ini (k : Int) (l : Int)) s.data.toList)).toNat
theorem sipN_ok (k l : Nat) (s : ByteArray) : U64 (sipN k l s) := by
  have := fin_ok (absorb s.size (ini (k : Int) (l : Int)) s.data.toList)
  unfold U64 sipN; omega
theorem sipN_int (k l : Nat) (s : ByteArray) : (sipN k l s : Int) = fin (absorb s.size (ini (k : Int) (l : Int)) s.data.toList) := by
  have := fin_ok (absorb s.size (ini (k : Int) (l : Int)) s.data.toList)
  unfold sipN; omega
/-- a short id. -/
def shortL (dg : ByteArray → ByteArray) (h n tx : ByteArray) : List UInt8 := le (sipN (key1 (dg (h ++ n))) (key2 (dg (h ++ n))) (dg (dg tx))) 6

set_option maxRecDepth 10000 in
set_option maxHeartbeats 1000000 in
theorem short_of (gt : Nat) (dg : ByteArray → ByteArray) (hdg : ∀ s, (dg s).size = 32) (h n tx : ByteArray) (w : World) (hh : h.size ≤ 1000) (hn : n.size ≤ 1000) (htx : tx.size ≤ 1048576)
    (HS : Hid (∀ (s : ByteArray) (W : World), s.size ≤ 1048576 → Below w.heap.size w W → Calls Tryd.prog 10 #[.pointer (some ⟨gt, 0, none⟩), .string s] W fun e w' => e = .returned (.string (dg s)) ∧ Below W.heap.size W w')) :
    Calls Tryd.prog 40 #[.pointer (some ⟨gt, 0, none⟩), .string h, .string n, .string tx] w fun e w' => e = .returned (.string (ofL (shortL dg h n tx))) ∧ Below w.heap.size w w' := by
  have HK : Hid (Calls Tryd.prog 73 #[.pointer (some ⟨gt, 0, none⟩), .string h, .string n] w fun e w' => e = .returned (.tuple #[.int .u64 (key1 (dg (h ++ n)) : Int), .int .u64 (key2 (dg (h ++ n)) : Int)]) ∧ Below w.heap.size w w') := key_of gt dg hdg h n w hh hn HS
  have HT : Hid (∀ W : World, Below w.heap.size w W → Calls Tryd.prog 13 #[.pointer (some ⟨gt, 0, none⟩), .string tx] W fun e w' => e = .returned (.string (dg (dg tx))) ∧ Below W.heap.size W w') := fun W hW =>
    twice_of gt dg (fun s => by rw [hdg]; omega) tx W htx (fun s W' hs hW' => HS.out s W' hs (hW.trans (hW'.mono hW.size)))
  have HP : Hid (∀ W : World, Calls Tryd.prog 74 #[.int .u64 (key1 (dg (h ++ n)) : Int), .int .u64 (key2 (dg (h ++ n)) : Int), .string (dg (dg tx))] W fun e w' => e = .returned (.int .u64 (sipN (key1 (dg (h ++ n))) (key2 (dg (h ++ n))) (dg (dg tx)) : Int)) ∧ Below W.heap.size W w') := fun W => by
    rw [sipN_int]; exact refSip_any _ _ _ W (by rw [hdg]; omega)
  have HY : Hid (∀ W : World, Calls Tryd.prog 38 #[.int .u64 (sipN (key1 (dg (h ++ n))) (key2 (dg (h ++ n))) (dg (dg tx)) : Int), .int .i64 6] W fun e w' => e = .returned (.string (ofL (shortL dg h n tx))) ∧ Below W.heap.size W w') := fun W => bytes_any _ 6 W (sipN_ok _ _ _) (by omega)
  clear HS hdg
  generalize (sipN (key1 (dg (h ++ n))) (key2 (dg (h ++ n))) (dg (dg tx)) : Int) = V at HP HY
  generalize (key1 (dg (h ++ n)) : Int) = k1 at HK HP
  generalize (key2 (dg (h ++ n)) : Int) = k2 at HK HP
  generalize dg (dg tx) = d2 at HT HP
  generalize shortL dg h n tx = r at HY
  go_enter Tryd.func40, Tryd.ntmps40
  go_upto_region 2 with (go_at_call 73; go_must (refine HK.out.mono ?_); rintro e w1 ⟨rfl, hb1⟩; have HB1 : Hid (Below w.heap.size w w1) := hb1; clear hb1)
  go_wp2_with (first
    | (go_at_call 13; go_must (refine (HT.out _ HB1.out).mono ?_); rintro e w2 ⟨rfl, hb2⟩; have HB2 : Hid (Below w1.heap.size w1 w2) := hb2; clear hb2)
    | (go_at_call 74; go_must (refine (HP.out _).mono ?_); rintro e w3 ⟨rfl, hb3⟩; have HB3 := (show Hid (Below _ _ w3) from hb3); clear hb3)
    | (go_at_call 38; go_must (refine (HY.out _).mono ?_); rintro e w4 ⟨rfl, hb4⟩; have HB4 := (show Hid (Below _ _ w4) from hb4); clear hb4))
  go_ret
  have e1 := HB1.out.size
  have e2 := HB2.out.size
  have e3 := HB3.out.size
  exact ⟨rfl, HB1.out.trans ((HB2.out.mono e1).trans ((HB3.out.mono (by omega)).trans (HB4.out.mono (by omega))))⟩
end Go.Proofs.YtkmalggeieiepaaDoor
namespace Go.Proofs.YtkmalggeieiepaaDoor
open Go.RowKit

theorem alE_val (n : Nat) (l : List Int) (c : Int) (hc : c ≠ 0) (h : alR n (-1) l = c) : alE n l = c := by unfold alE; rw [h, if_pos hc]
theorem alR_zero (n : Nat) (l : List Int) (j : Nat) (hj : j < l.length) (h : alR n (ahead l j) (l.drop j) = 0) : ¬ l[j] < 0 ∧ ¬ (n : Int) ≤ l[j] ∧ ¬ l[j] ≤ ahead l j ∧ alR n (ahead l (j + 1)) (l.drop (j + 1)) = 0 := by
  rw [alR_step n l j hj] at h
  by_cases h1 : l[j] < 0 ∨ (n : Int) ≤ l[j]
  · rw [if_pos h1] at h; omega
  · rw [if_neg h1] at h
    by_cases h2 : l[j] ≤ ahead l j
    · rw [if_pos h2] at h; omega
    · rw [if_neg h2] at h
      exact ⟨fun h3 => h1 (.inl h3), fun h3 => h1 (.inr h3), h2, h⟩

set_option maxRecDepth 10000 in
set_option maxHeartbeats 4000000 in
theorem Encode_bad (gt : Nat) (h : List UInt8) (T : List (List UInt8)) (s : ByteArray) (n : Int) (al : List Int) (a : Option Addr) (cap : Nat) (w : World)
    (HB : Calls Tryd.prog 37 #[.string s] w fun x w' => ∃ v, x = .returned (.tuple #[.string (ofL h), v, .int .i64 0]) ∧ w'.ownsRow w.heap.size 9 1 v T.length (strB T) ∧ Below w.heap.size w w')
    (hr : 0 < al.length → ∃ b o, a = some ⟨b, o, none⟩ ∧ VRow w b o (intV al)) (hal : al.length ≤ 1048576) (E : Int) (HE : Hid (E = alE T.length al)) (hE0 : E ≠ 0) :
    Calls Tryd.prog 17 #[.pointer (some ⟨gt, 0, none⟩), .string s, .int .u64 n, .slice a al.length cap] w fun x w' => x = .returned (.tuple #[.string ⟨#[]⟩, .int .i64 E]) ∧ Below w.heap.size w w' := by
  have HR : Hid (0 < al.length → ∃ b o, a = some ⟨b, o, none⟩ ∧ VRow w b o (intV al)) := hr
  have HE0 : Hid (E ≠ 0) := hE0
  clear hr hE0
  go_enter Tryd.func17, Tryd.ntmps17
  go_upto_region 4 with (go_at_call 37; go_must (refine HB.mono ?_); rintro e w1 ⟨v1, rfl, ho1, hb1⟩; obtain ⟨a1, c1, hv1, _, _⟩ := own_sval (l := T.map ofL) (by rw [List.length_map]; exact ho1); rw [List.length_map] at hv1; subst hv1; have HB1 := (show Hid (Below w.heap.size w w1) from hb1); clear ho1 hb1)
  clear HB
  go_upto_region 5 with fail
  go_loopg [35] al.length (fun g i wx => ∃ j : Nat, j + g = al.length ∧ i = .int .i64 (j : Int) ∧ alR T.length (-1) al = alR T.length (ahead al j) (al.drop j) ∧ wx = w1)
  case atStart => exact ⟨0, by omega, rfl, rfl, rfl⟩
  case round =>
    obtain ⟨j, hj, rfl, hno, rfl⟩ := hrel
    have HNO : Hid (alR T.length (-1) al = alR T.length (ahead al j) (al.drop j)) := hno
    clear hno
    by_cases hlt : j < al.length
    · obtain ⟨b, o, rfl, hrow⟩ := HR.out (by omega)
      have hbw := hrow.lt (by simp [intV]; omega)
      have hrw := hrow.later HB1.out hbw
      have cj : wr.cell? ⟨b, o + j, none⟩ = some (.int .i64 al[j]) := by
        have := hrw j (by simp [intV]; omega)
        rw [this]; simp [intV]
      have hji : (j : Int) < (al.length : Int) := by omega
      have HST := (show Hid (alR T.length (ahead al j) (al.drop j) = if al[j] < 0 ∨ (T.length : Int) ≤ al[j] then 4 else if al[j] ≤ ahead al j then 11 else alR T.length (ahead al (j + 1)) (al.drop (j + 1))) from alR_step T.length al j hlt)
      have HAH : Hid (0 < j → ∃ y, ahead al j = y ∧ wr.cell? ⟨b, o + (j - 1), none⟩ = some (.int .i64 y)) := fun h0 => by
        refine ⟨al[j - 1]'(by omega), by simp [ahead, show j ≠ 0 by omega, List.getD, show j - 1 < al.length by omega], ?_⟩
        have := hrw (j - 1) (by simp [intV]; omega)
        rw [this]; simp [intV]
      have HA0 : Hid (j = 0 → ahead al j = -1) := fun h0 => by simp [ahead, h0]
      generalize al[j] = x at cj HST
      clear hrow hrw
      by_cases h1 : x < 0
      · have HE4 : Hid (E = 4) := by show _ = _; rw [HE.out]; exact alE_val _ _ 4 (by omega) (by rw [HNO.out, HST.out, if_pos (.inl h1)])
        go_wp2
        go_ret2
        exact ⟨by rw [HE4.out]; rfl, HB1.out⟩
      · by_cases h2 : (T.length : Int) ≤ x
        · have HE4 : Hid (E = 4) := by show _ = _; rw [HE.out]; exact alE_val _ _ 4 (by omega) (by rw [HNO.out, HST.out, if_pos (.inr h2)])
          go_wp2
          go_ret2
          exact ⟨by rw [HE4.out]; rfl, HB1.out⟩
        · by_cases h0 : j = 0
          · have HNX : Hid (alR T.length (-1) al = alR T.length (ahead al (j + 1)) (al.drop (j + 1))) := by show _ = _; rw [HNO.out, HST.out, if_neg (by omega), if_neg (by rw [HA0.out h0]; omega)]
            have hjp : ¬ ((0 : Int) < (j : Int)) := by omega
            clear h0
            go_wp2
            go_roundg (gk - 1)
            case measure => omega
            case rel => exact ⟨j + 1, by omega, by go_num, HNX.out, rfl⟩
          · obtain ⟨y, hy, cy⟩ := HAH.out (by omega)
            have hjp : (0 : Int) < (j : Int) := by omega
            have hj1 : wrap64 ((j : Int) - 1) = ((j - 1 : Nat) : Int) := by unfold wrap64; omega
            by_cases h3 : x ≤ y
            · have HE4 : Hid (E = 11) := by show _ = _; rw [HE.out]; exact alE_val _ _ 11 (by omega) (by rw [HNO.out, HST.out, if_neg (by omega), if_pos (by rw [hy]; exact h3)])
              go_wp2
              go_ret2
              exact ⟨by rw [HE4.out]; rfl, HB1.out⟩
            · have HNX : Hid (alR T.length (-1) al = alR T.length (ahead al (j + 1)) (al.drop (j + 1))) := by show _ = _; rw [HNO.out, HST.out, if_neg (by omega), if_neg (by rw [hy]; exact h3)]
              go_wp2
              go_roundg (gk - 1)
              case measure => omega
              case rel => exact ⟨j + 1, by omega, by go_num, HNX.out, rfl⟩
    · obtain rfl : j = al.length := by omega
      have h0 : alR T.length (-1) al = 0 := by rw [HNO.out, List.drop_length]; rfl
      by_cases hz : al.length = 0
      · have HE4 : Hid (E = 11) := by show _ = _; rw [HE.out]; unfold alE; rw [if_neg (by omega), if_pos (.inl hz)]
        have hzb : ((al.length : Int) == 0) = true := by simp; exact List.eq_nil_of_length_eq_zero hz
        go_wp2
        go_ret2
        exact ⟨by rw [HE4.out]; rfl, HB1.out⟩
      · obtain ⟨b, o, rfl, hrow⟩ := HR.out (by omega)
        have hbw := hrow.lt (by simp [intV]; omega)
        have c0 : wr.cell? ⟨b, o, none⟩ = some (.int .i64 (al.headD 0)) := by
          have := (hrow.later HB1.out hbw) 0 (by simp [intV]; omega)
          rw [Nat.add_zero] at this
          rw [this]
          cases al with
          | nil => simp at hz
          | cons x l => simp [intV]
        have hzb : ((al.length : Int) == 0) = false := by simp; intro h; rw [h] at hz; simp at hz
        have hpi : (0 : Int) < (al.length : Int) := by omega
        have HEE : Hid (E = if al.headD 0 ≠ 0 then 11 else 0) := by show _ = _; rw [HE.out]; unfold alE; rw [if_neg (by omega)]; simp [hz]
        generalize al.headD 0 = x at c0 HEE
        clear hrow
        by_cases hx : x = 0
        · exact absurd (by rw [HEE.out]; simp [hx]) HE0.out
        · have HE4 : Hid (E = 11) := by show _ = _; rw [HEE.out]; simp [hx]
          go_wp2
          go_ret2
          exact ⟨by rw [HE4.out]; rfl, HB1.out⟩
end Go.Proofs.YtkmalggeieiepaaDoor
