import Derived.Test.YtkmalggeieiepabDoorShaD
import Derived.WalkKit
import Derived.WalkSpells
import Derived.WalkLawsBesides
import Derived.Deep.MidRow
import Derived.Deep.LoopGhost
import Derived.Deep.DeepCutAuto
import Derived.Deep.QuietTactic
import Derived.BigQuiet
namespace Go.Proofs.YtkmalggeieiepabDoor
open Go.RowKit

/-- what SHA-256 begins with. -/
def ini8 : Nat → Int := mk8 1779033703 3144134277 1013904242 2773480762 1359893119 2600822924 528734635 1541459225
theorem ini8_ok : ∀ j, IsW (ini8 j) := by
  intro j
  match j with
  | 0 => show IsW 1779033703; unfold IsW; omega
  | 1 => show IsW 3144134277; unfold IsW; omega
  | 2 => show IsW 1013904242; unfold IsW; omega
  | 3 => show IsW 2773480762; unfold IsW; omega
  | 4 => show IsW 1359893119; unfold IsW; omega
  | 5 => show IsW 2600822924; unfold IsW; omega
  | 6 => show IsW 528734635; unfold IsW; omega
  | n + 7 => show IsW 1541459225; unfold IsW; omega
def feed (Kc : Nat → Int) (p : (Nat → Int) × List UInt8) (l : List UInt8) : (Nat → Int) × List UInt8 := l.foldl (putF Kc) p
theorem putF_len (Kc : Nat → Int) (p : (Nat → Int) × List UInt8) (c : UInt8) (h : p.2.length < 64) : (putF Kc p c).2.length = (p.2.length + 1) % 64 := by
  unfold putF
  by_cases e : p.2.length = 63
  · rw [if_pos e]; simp [e]
  · rw [if_neg e]; simp; omega
theorem feed_len (Kc : Nat → Int) (l : List UInt8) : ∀ (p : (Nat → Int) × List UInt8), p.2.length < 64 → (feed Kc p l).2.length = (p.2.length + l.length) % 64 := by
  induction l with
  | nil => intro p h; simp [feed]; omega
  | cons c l ih =>
    intro p h
    have h1 := putF_len Kc p c h
    show (feed Kc (putF Kc p c) l).2.length = _
    rw [ih _ (by omega), h1]; simp; omega
theorem feed_snoc (Kc : Nat → Int) (p : (Nat → Int) × List UInt8) (l : List UInt8) (c : UInt8) : feed Kc p (l ++ [c]) = putF Kc (feed Kc p l) c := by simp [feed]
theorem feed_append (Kc : Nat → Int) (p : (Nat → Int) × List UInt8) (l m : List UInt8) : feed Kc p (l ++ m) = feed Kc (feed Kc p l) m := by simp [feed]
/-- the length's bytes. -/
def be8 (n : Nat) (i : Nat) : List UInt8 := (List.range i).map fun j => UInt8.ofNat (n * 8 / 2 ^ (56 - 8 * j))
theorem be8_succ (n i : Nat) : be8 n (i + 1) = be8 n i ++ [UInt8.ofNat (n * 8 / 2 ^ (56 - 8 * i))] := by simp [be8, List.range_succ]
def padF (l : List UInt8) : List UInt8 := l ++ [128] ++ List.replicate ((119 - l.length % 64) % 64) 0 ++ be8 l.length 8
/-- SHA-256. -/
def shaF (Kc : Nat → Int) (l : List UInt8) : Nat → Int := dgF (feed Kc (ini8, []) (padF l)).1

/-- texts in memory. -/
def Texts (w : World) (g : Nat) (ts : List ByteArray) : Prop := ∀ j, (h : j < ts.length) → w.cell? ⟨g, j, none⟩ = some (.string ts[j])
def cat (ts : List ByteArray) : List UInt8 := (ts.map fun t => t.data.toList).flatten

/-- Sum's memory. -/
structure Inv (w wx : World) (p : (Nat → Int) × List UInt8) : Prop where
  out : Arr .u8 wx w.heap.size (fun _ => 0) 32
  mem : Mem wx (w.heap.size + 2) (w.heap.size + 3) (w.heap.size + 1) p
  below : Below w.heap.size w wx
theorem put_inv (Kc : Nat → Int) (w wx : World) (p : (Nat → Int) × List UInt8) (c : UInt8) (x : Int) (hx : x = (c.toNat : Int)) (h : Inv w wx p) (hkt : KT Kc w) (hpos : 0 < w.heap.size) :
    Calls Tryd.prog 41 #[.int .u8 x, .pointer (some ⟨w.heap.size + 2, 0, none⟩), .pointer (some ⟨w.heap.size + 3, 0, none⟩), .pointer (some ⟨w.heap.size + 1, 0, none⟩)] wx fun e w' => e = .returned (.tuple #[]) ∧ Inv w w' (putF Kc p c) := by
  subst hx
  refine (put_any Kc c p _ _ _ (w.heap.size + 1) wx h.mem (hkt.later h.below hpos) (by omega) (by omega) (by omega) (by omega) (by omega) (by omega) (by omega)).mono ?_
  rintro e w' ⟨he, hm, hb⟩
  exact ⟨he, h.out.later hb (by omega), hm, h.below.trans (hb.mono (by omega))⟩
theorem cat_take (ts : List ByteArray) (k : Nat) (h : k < ts.length) : cat (ts.take (k + 1)) = cat (ts.take k) ++ ts[k].data.toList := by
  unfold cat; rw [List.take_succ_eq_append_getElem h, List.map_append, List.flatten_append, List.map_singleton, List.flatten_singleton]
theorem cat_le (ts : List ByteArray) (k : Nat) : (cat (ts.take k)).length ≤ (cat ts).length := by
  have e : cat ts = cat (ts.take k) ++ cat (ts.drop k) := by unfold cat; rw [← List.flatten_append, ← List.map_append, List.take_append_drop]
  rw [e]; simp

theorem byteLem (N n : Nat) : (N : Int) * 8 / 2 ^ (56 - 8 * n) % 256 = ((UInt8.ofNat (N * 8 / 2 ^ (56 - 8 * n))).toNat : Int) := by
  simp
theorem pad_feed (Kc : Nat → Int) (l : List UInt8) (p1 : (Nat → Int) × List UInt8) (z : Nat) (h1 : p1 = putF Kc (feed Kc (ini8, []) l) 128) (hz : z = (120 - p1.2.length) % 64) :
    feed Kc (feed Kc p1 (List.replicate z 0)) (be8 l.length 8) = feed Kc (ini8, []) (padF l) := by
  have e1 : p1.2.length = (l.length + 1) % 64 := by
    rw [h1, ← feed_snoc, feed_len _ _ _ (by simp)]; simp
  have e2 : (119 - l.length % 64) % 64 = z := by omega
  unfold padF
  rw [e2, feed_append, feed_append, feed_snoc, ← h1]

set_option maxRecDepth 10000 in
set_option maxHeartbeats 1000000 in
theorem sum_any (Kc : Nat → Int) (ts : List ByteArray) (gT : Nat) (w : World) (hT : Texts w gT ts) (hlt : gT < w.heap.size) (hkt : KT Kc w) (hn : (cat ts).length ≤ 1099511627776) (hn2 : ts.length ≤ 1099511627776) :
    Calls Tryd.prog 22 #[.slice (some ⟨gT, 0, none⟩) ts.length ts.length] w fun e w' => e = .returned (.agg (wl .u8 (shaF Kc (cat ts)) 32).toArray) ∧ Below w.heap.size w w' := by
  have hmf : ∀ (fn : Fn) (first cap : Array Value) (w : World), (Instr.makeFunc fn first cap).run Tryd.prog w = .ok (.func fn first cap) w := fun _ _ _ _ => rfl
  have HT : Hid (Texts w gT ts) := hT
  have HKT : Hid (KT Kc w) := hkt
  have hpos : 0 < w.heap.size := by omega
  clear hT hkt
  go_enter Tryd.func22, Tryd.ntmps22
  go_upto_region 3 with fail
  go_cut [4, 5] (fun p4 p5 wx => p4 = .pointer (some ⟨w.heap.size + 2, 0, none⟩) ∧ p5 = .pointer (some ⟨w.heap.size + 3, 0, none⟩) ∧ Inv w wx (ini8, []))
  case first =>
    go_wp2
    go_meet
    refine ⟨rfl, rfl, ?_, ?_, ?_⟩
    · exact (((Arr.newAt w (fun _ => 0) 32 _ _ _ (by rfl) rfl).alloc (by omega) _).alloc (by omega) _).alloc (by omega) _
    · refine ⟨?_, ini8_ok, ?_, ?_, by simp, fun _ => 0, ?_, fun j hj => by simp at hj⟩
      · exact ((Arr.newAt (w.alloc _) ini8 8 (w.heap.size + 1) _ _ (by rfl) (by simp)).alloc (by omega) _).alloc (by omega) _
      · exact ((Arr.newAt (K := .i64) (((w.alloc _).alloc _).alloc _) (fun _ => 0) 1 (w.heap.size + 3) _ _ (by rfl) (by simp)) 0 (by omega)).1
      · exact ((Arr.newAt (K := .i64) (((w.alloc _).alloc _).alloc _) (fun _ => 0) 1 (w.heap.size + 3) _ _ (by rfl) (by simp)) 0 (by omega)).2
      · exact (Arr.newAt ((w.alloc _).alloc _) (fun _ => 0) 64 (w.heap.size + 2) _ _ (by rfl) (by simp)).alloc (by omega) _
    · exact ((((Below.refl _ _).alloc (Nat.le_refl _) _).alloc (by simp) _).alloc (by simp; omega) _).alloc (by simp; omega) _
  case rest =>
  obtain ⟨rfl, rfl, hI⟩ := hcut
  have HI : Hid (Inv w wc (ini8, [])) := hI
  clear hI
  go_upto_region 7 with fail
  clear hmf
  go_loopg [7, 16] ts.length (fun g l i wx => ∃ k : Nat, k + g = ts.length ∧ i = .int .i64 k ∧ l = .int .u64 ((cat (ts.take k)).length : Int) ∧ Inv w wx (feed Kc (ini8, []) (cat (ts.take k))))
  case atStart => exact ⟨0, by omega, rfl, rfl, HI.out⟩
  case round =>
    clear HI
    obtain ⟨k, hk, rfl, rfl, hI⟩ := hrel
    have HI : Hid (Inv w wr (feed Kc (ini8, []) (cat (ts.take k)))) := hI
    have HK : Hid (k + gk = ts.length) := hk
    have hle := cat_le ts k
    by_cases hkl : k < ts.length
    · have hct := cat_take ts k hkl
      have hle1 := cat_le ts (k + 1)
      have hcell : wr.cell? ⟨gT, k, none⟩ = some (.string ts[k]) := by rw [hI.below.cell (p := ⟨gT, k, none⟩) hlt]; exact HT.out k hkl
      generalize ts[k] = t at hct hcell
      have hsz : (cat (ts.take (k + 1))).length = (cat (ts.take k)).length + t.size := by rw [hct, List.length_append]; rfl
      have HCT : Hid (cat (ts.take (k + 1)) = cat (ts.take k) ++ t.data.toList) := hct
      have HSZ : Hid ((cat (ts.take (k + 1))).length = (cat (ts.take k)).length + t.size) := hsz
      have ht1 : (t.size : Int) ≤ 1099511627776 := by omega
      have ht2 : ((cat (ts.take k)).length : Int) ≤ 1099511627776 := by omega
      have ht3 : ((cat (ts.take k)).length : Int) + (t.size : Int) ≤ 1099511627776 := by omega
      have ht0 : 0 ≤ ((cat (ts.take k)).length : Int) := by omega
      generalize hLg : ((cat (ts.take k)).length : Int) = L at ht0 ht2 ht3
      have HLG : Hid (((cat (ts.take k)).length : Int) = L) := hLg
      clear hLg
      clear hI hk hct hsz hle hle1 hn
      have HG : Hid (∃ G, G = gk) := ⟨_, rfl⟩
      obtain ⟨G, hG0⟩ := HG.out
      have HG1 : Hid (G = gk) := hG0
      clear HG hG0
      go_upto_region 11 with fail
      clear hcell
      go_loopg [27] t.size (fun g i wx => ∃ m : Nat, m + g = t.size ∧ i = .int .i64 m ∧ Inv w wx (feed Kc (feed Kc (ini8, []) (cat (ts.take k))) (t.data.toList.take m)))
      case atStart => exact ⟨0, by omega, rfl, HI.out⟩
      case round =>
        clear HI
        obtain ⟨m, hm, rfl, hI⟩ := hrel
        have HI : Hid (Inv w wr (feed Kc (feed Kc (ini8, []) (cat (ts.take k))) (t.data.toList.take m))) := hI
        have HM : Hid (m + gk = t.size) := hm
        clear hI hm
        by_cases hmt : m < t.size
        · go_wp2_with (go_at_call 41; go_must (refine (put_inv Kc w _ _ t[m] _ rfl HI.out HKT.out hpos).mono ?_); rintro e w2 ⟨rfl, hI2⟩; have HI2 : Hid (Inv w w2 (putF Kc (feed Kc (feed Kc (ini8, []) (cat (ts.take k))) (t.data.toList.take m)) t[m])) := hI2; clear hI2)
          go_roundg (gk - 1)
          case measure => have := HM.out; omega
          case rel =>
            have hmm := HM.out
            refine ⟨m + 1, by omega, by go_num, ?_⟩
            have e : t.data.toList.take (m + 1) = t.data.toList.take m ++ [t[m]] := by rw [List.take_succ_eq_append_getElem (by exact hmt)]; rfl
            rw [e, feed_snoc]; exact HI2.out
        · go_wp2
          have hmm := HM.out
          have HI2 : Hid (Inv w wr (feed Kc (ini8, []) (cat (ts.take (k + 1))))) := by
            have h := HI.out
            rw [show t.data.toList.take m = t.data.toList from List.take_of_length_le (by show t.size ≤ m; omega), ← feed_append, ← HCT.out] at h
            exact h
          go_roundg (G - 1)
          case measure => have := HK.out; have := HG1.out; omega
          case rel =>
            have hkk := HK.out; have hgg := HG1.out
            refine ⟨k + 1, by omega, by go_num, ?_, HI2.out⟩
            have h1 := HLG.out; have h2 := HSZ.out
            rw [h2, ← h1]; go_num
    · have hkt : k = ts.length := by omega
      have HI1 : Hid (Inv w wr (feed Kc (ini8, []) (cat ts))) := by have h := HI.out; rw [hkt, List.take_length] at h; exact h
      have hL : (cat (ts.take k)).length = (cat ts).length := by rw [hkt, List.take_length]
      rw [hL]
      clear HI hI hL hkt hle
      obtain ⟨LN, HLN⟩ : ∃ n : Nat, Hid (n = (cat ts).length) := ⟨_, rfl⟩
      rw [← HLN.out]
      go_upto_region 17 with (go_at_call 41; go_must (refine (put_inv Kc w _ _ 128 _ rfl HI1.out HKT.out hpos).mono ?_); rintro e w2 ⟨rfl, hI2⟩; have HI2 : Hid (Inv w w2 (putF Kc (feed Kc (ini8, []) (cat ts)) 128)) := hI2; clear hI2)
      obtain ⟨p1, HP1⟩ : ∃ p, Hid (p = putF Kc (feed Kc (ini8, []) (cat ts)) 128) := ⟨_, rfl⟩
      rw [← HP1.out] at HI2
      have hp1 : p1.2.length < 64 := HI2.out.mem.less
      obtain ⟨z, HZ⟩ : ∃ z : Nat, Hid (z = (120 - p1.2.length) % 64) := ⟨_, rfl⟩
      clear HI1
      go_loopg [] z (fun g wx => ∃ j : Nat, j + g = z ∧ Inv w wx (feed Kc p1 (List.replicate j 0)))
      case atStart => exact ⟨0, by omega, HI2.out⟩
      case round =>
        clear HI2
        obtain ⟨j, hj, hI⟩ := hrel
        have HI : Hid (Inv w wr (feed Kc p1 (List.replicate j 0))) := hI
        have HJ : Hid (j + gk = z) := hj
        have hlen := feed_len Kc (List.replicate j 0) p1 hp1
        rw [List.length_replicate] at hlen
        have hfill := hI.mem.fill
        rw [hlen] at hfill
        have hz := HZ.out
        by_cases h56 : (p1.2.length + j) % 64 = 56
        · rw [h56] at hfill
          have HJZ : Hid (j = z) := by show j = z; omega
          clear hlen hj hI hz
          go_upto_region 20 with fail
          obtain ⟨p2, HP2⟩ : ∃ p, Hid (p = feed Kc p1 (List.replicate z 0)) := ⟨_, rfl⟩
          have HI3 : Hid (Inv w wr p2) := by have h := HI.out; rw [HJZ.out, ← HP2.out] at h; exact h
          have hLN : (LN : Int) ≤ 1099511627776 := by have := HLN.out; omega
          clear HI hfill h56 HJ hn
          go_loopg [43] 8 (fun g i wx => ∃ n : Nat, n + g = 8 ∧ i = .int .i64 n ∧ Inv w wx (feed Kc p2 (be8 LN n)))
          case atStart => exact ⟨0, rfl, rfl, HI3.out⟩
          case round =>
            clear HI3
            obtain ⟨n, hn8, rfl, hI⟩ := hrel
            have HI : Hid (Inv w wr (feed Kc p2 (be8 LN n))) := hI
            have HN : Hid (n + gk = 8) := hn8
            by_cases hlt8 : n < 8
            · clear hI hn8
              have hn8' : (n : Int) < 8 := by omega
              have hbl := byteLem LN n
              have HBL : Hid ((LN : Int) * 8 / 2 ^ (56 - 8 * n) % 256 = ((UInt8.ofNat (LN * 8 / 2 ^ (56 - 8 * n))).toNat : Int)) := hbl
              clear hbl
              go_wp2_with (go_at_call 41; go_must (refine (put_inv Kc w _ _ (UInt8.ofNat (LN * 8 / 2 ^ (56 - 8 * n))) _ HBL.out HI.out HKT.out hpos).mono ?_); rintro e w3 ⟨rfl, hI2⟩; have HI2 : Hid (Inv w w3 (putF Kc (feed Kc p2 (be8 LN n)) (UInt8.ofNat (LN * 8 / 2 ^ (56 - 8 * n))))) := hI2; clear hI2)
              go_roundg (gk - 1)
              case measure => have := HN.out; omega
              case rel =>
                have hnn := HN.out
                refine ⟨n + 1, by omega, by go_num, ?_⟩
                rw [be8_succ, feed_snoc]; exact HI2.out
            · have hn88 : n = 8 := by omega
              obtain ⟨p3, HP3⟩ : ∃ p, Hid (p = feed Kc p2 (be8 LN 8)) := ⟨_, rfl⟩
              have hI3 : Inv w wr p3 := by rw [hn88, ← HP3.out] at hI; exact hI
              have HS : Hid (shaF Kc (cat ts) = dgF p3.1) := by
                show dgF _ = dgF p3.1
                rw [HP3.out, HP2.out, HLN.out, pad_feed Kc (cat ts) p1 z HP1.out HZ.out]
              obtain ⟨HO, HM, HL⟩ := hI3
              have HST : Hid (Arr .u32 wr (w.heap.size + 1) p3.1 8) := HM.st
              have HSO : Hid (∀ j, IsW (p3.1 j)) := HM.ok
              have HOU : Hid (Arr .u8 wr w.heap.size (fun _ => 0) 32) := HO
              have HBE : Hid (Below w.heap.size w wr) := HL
              have HK3 : Hid (∀ w4, Below wr.heap.size wr w4 → Arr .u8 w4 w.heap.size (fun _ => 0) 32) := fun w4 h4 => HO.later h4 (HO.lt (by omega))
              clear HI hI hn8 HO HM HL hn88 HN
              go_upto_region 24 with fail
              go_wp2_with (first
                | (go_at_call 43; go_must (refine (flatten_any p3.1 HSO.out _ rfl _).mono ?_); rintro e w4 ⟨rfl, hb4⟩; have HB4 : Hid (Below wr.heap.size wr w4) := hb4; have HO4 : Hid (Arr .u8 w4 w.heap.size (fun _ => 0) 32) := HK3.out w4 hb4; clear hb4)
                | (refine wpList_load_arr rfl 99 _ rfl (w.heap.size + 1) rfl .u32 p3.1 8 _ ?_ Tryd.underlying99 rfl (by kernel_rfl) ?_; exact HST.out)
                | (refine wpList_store_arr rfl 59 _ _ rfl w.heap.size .u8 (fun _ => 0) (dgF p3.1) 32 rfl rfl ?_ (by kernel_rfl) ?_; exact HO4.out))
              have hres := HO4.out.all (dgF p3.1)
              have hz4 := HB4.out.size
              have hz5 := HBE.out.size
              refine bodyPost_ret (v := .agg (wl .u8 (dgF p3.1) 32).toArray) (results_arr Tryd.results22 _ _ w.heap.size .u8 (dgF p3.1) 32 _ rfl hres Tryd.underlying59 rfl (by kernel_rfl)) rfl ⟨by rw [HS.out], ?_⟩
              exact below_setCells (HBE.out.trans (HB4.out.mono hz5)) _ (Nat.le_refl _) _ _
        · have hjz : j < z := by omega
          have hne : (((((p1.2.length + j) % 64 : Nat) : Int)) != 56) = true := by simp; omega
          clear hlen hj hI hz
          generalize (((p1.2.length + j) % 64 : Nat) : Int) = q at hfill hne
          go_wp2_with (go_at_call 41; go_must (refine (put_inv Kc w _ _ 0 _ rfl HI.out HKT.out hpos).mono ?_); rintro e w3 ⟨rfl, hI2⟩; have HI2 : Hid (Inv w w3 (putF Kc (feed Kc p1 (List.replicate j 0)) 0)) := hI2; clear hI2)
          go_roundg (gk - 1)
          case measure => have := HJ.out; omega
          case rel =>
            have hjj := HJ.out
            refine ⟨j + 1, by omega, ?_⟩
            rw [List.replicate_succ', feed_snoc]; exact HI2.out
end Go.Proofs.YtkmalggeieiepabDoor
