import Derived.Test.YtkmalggeieiepabDoorRpE
import Derived.WalkKit
import Derived.WalkSpells
import Derived.WalkLawsBesides
import Derived.Deep.MidRow
import Derived.Deep.DeepCutAuto
import Derived.Deep.LoopGhost
import Derived.OwnWalk
import Derived.Deep.AppendLies
namespace Go.Proofs.YtkmalggeieiepabDoor
open Go.RowKit

theorem wpList_build_d {ops : Array Oper} {rest : List Oper} {o : Oper} {a : Act} {w : World} {Q : Exit → Act → World → Prop} (hg : o.guard = none) (k : Nat) (ho : o.op = .buildSlice 72 1 #[(0, .tmp k)]) (d : ByteArray) (hd : d.size = 32) (hv : a.eval (.tmp k) = aggD d)
    (h : wpList Tryd.prog ops Q rest (a.put o.dst (.slice (some ⟨w.heap.size, 0, none⟩) 1 1)) (w.alloc (.cells (bc d).toArray 59))) : wpList Tryd.prog ops Q (o :: rest) a w := by
  refine wpList_plain hg fun K hK => ?_
  unfold Oper.wp
  rw [run_build_d d hd w ho hv]
  exact hK _ _ h
theorem rootL_size (d : ByteArray → ByteArray) (hd : ∀ t, (d t).size = 32) : ∀ (n : Nat) (l : List ByteArray) (t : Bool), 0 < l.length → l.length ≤ n + 1 → (∀ s ∈ l, s.size = 32) → (rootL d n l t).1.size = 32 := by
  have one : ∀ l : List ByteArray, 0 < l.length → (∀ s ∈ l, s.size = 32) → (l.getD 0 ByteArray.empty).size = 32 := fun l h0 h => by
    cases l with
    | nil => simp at h0
    | cons x l => exact h x List.mem_cons_self
  intro n
  induction n with
  | zero => intro l t h0 _ h; exact one l h0 h
  | succ n ih =>
    intro l t h0 h1 h
    show (if 1 < l.length then rootL d n (upL d (evL l)) (t || twinL l) else (l.getD 0 ByteArray.empty, t)).1.size = 32
    by_cases h2 : 1 < l.length
    · rw [if_pos h2]
      have := up_lt d l h2
      exact ih _ _ this.2 (by omega) (up_all (p := fun s => s.size = 32) d hd _)
    · rw [if_neg h2]; exact one l h0 h
theorem rootF_size (d : ByteArray → ByteArray) (hd : ∀ t, (d t).size = 32) (l : List ByteArray) (t : Bool) (h0 : 0 < l.length) (h : ∀ s ∈ l, s.size = 32) : (rootF d l t).1.size = 32 := rootL_size d hd l.length l t h0 (by omega) h
/-- what Root answers. -/
def rootRes (Kc : Nat → Int) (l : List ByteArray) : Array Value :=
  if l.length ≠ 0 ∧ ∀ s ∈ l, s.size = 32 then #[.string (rootF (dd Kc) l false).1, .bool (rootF (dd Kc) l false).2, .int .i64 0] else #[.string ByteArray.empty, .bool false, .int .i64 3]
theorem results3 {fn : Func} {t u v : Tmp} (h : fn.results = #[.tmp t, .tmp u, .tmp v]) (tmps : Array Value) (P : Program) (w : World) :
    (results fn tmps).run P w = .ok (.tuple #[tmps.getD t undef, tmps.getD u undef, tmps.getD v undef]) w := by
  simp [results, h]

theorem rroot_nil (Kc : Nat → Int) (a : Option Addr) (cap : Nat) (w : World) :
    Calls Tryd.prog 18 #[.slice a 0 cap] w fun e w' => e = .returned (.tuple (rootRes Kc [])) ∧ Below w.heap.size w w' := by
  have e0 : rootRes Kc [] = #[.string ByteArray.empty, .bool false, .int .i64 3] := by simp [rootRes]
  rw [e0]
  go_enter Tryd.func18, Tryd.ntmps18
  go_wp2
  refine bodyPost_ret (results3 Tryd.results18 _ _ _) rfl ⟨rfl, Below.refl _ _⟩

set_option maxRecDepth 10000 in
set_option maxHeartbeats 2000000 in
theorem rroot_any (Kc : Nat → Int) (l : List ByteArray) (b o cap : Nat) (w : World) (hrow : SRow w b o l) (hne : 0 < l.length) (hlen : l.length ≤ 300) (hkt : KT Kc w) :
    Calls Tryd.prog 18 #[.slice (some ⟨b, o, none⟩) l.length cap] w fun e w' => e = .returned (.tuple (rootRes Kc l)) ∧ Below w.heap.size w w' := by
  obtain ⟨i0, hi, hz0, hz1, hz2⟩ := info_parts infoDig
  have HINF : Hid (Tryd.prog.info? 59 = some i0 ∧ i0.zero = some (Value.agg (wl IntKind.u8 (fun _ => 0) 32).toArray) ∧ i0.size = 32 ∧ i0.bytes = 32) := ⟨hi, hz0, hz1, hz2⟩
  have hbw : b < w.heap.size := hrow.lt hne
  have HROW : Hid (∀ wx, Below w.heap.size w wx → SRow wx b o l) := fun wx hb => hrow.later hb hbw
  have HKT : Hid (∀ wx, Below w.heap.size w wx → KT Kc wx) := fun wx hb => hkt.later hb (World.block_lt_of_cell? w _ (hkt 0 (by omega)))
  obtain ⟨n, hn⟩ : ∃ n, n = l.length := ⟨_, rfl⟩
  have HN : Hid (n = l.length) := hn
  have hlz : ((n : Int) == 0) = false := by rw [beq_eq_false_iff_ne]; omega
  rw [← hn]
  rw [← hn] at hne hlen
  clear hi hz0 hz1 hz2 hrow hkt hn
  go_enter Tryd.func18, Tryd.ntmps18
  go_upto_region 5 with fail
  go_loopg [5, 7, 8, 9, 17] n (fun g dv _ _ _ iv wx => ∃ (k : Nat) (v : Value), k + g = n ∧ iv = .int .i64 (k : Int) ∧ v = dv ∧ wx.ownsRow w.heap.size 59 32 v k (flatD (l.take k)) ∧ (∀ s ∈ l.take k, s.size = 32) ∧ Below w.heap.size w wx)
  case atStart => exact ⟨0, _, by omega, rfl, rfl, World.ownsRow_nil _ _ _ _, (fun s hs => by simp at hs), Below.refl _ _⟩
  case round =>
    obtain ⟨k, v, hkn, rfl, rfl, hown, h32, hbel⟩ := hrel
    have HOWN : Hid (wr.ownsRow w.heap.size 59 32 v k (flatD (l.take k))) := hown
    have H32 : Hid (∀ s ∈ l.take k, s.size = 32) := h32
    have HB : Hid (Below w.heap.size w wr) := hbel
    have HKN : Hid (k + gk = n) := hkn
    clear hown h32 hbel hlz
    by_cases hlt : k < n
    · have k1 : (k : Int) < (n : Int) := by omega
      have hkl : k < l.length := by have := HN.out; omega
      obtain ⟨s, hs⟩ : ∃ s, s = l[k] := ⟨_, rfl⟩
      have HSK : Hid (l.take (k + 1) = l.take k ++ [s]) := by show _ = _; rw [hs, List.take_succ_eq_append_getElem hkl]
      have HSM : Hid (s ∈ l) := by show _ ∈ _; rw [hs]; exact List.getElem_mem hkl
      have cs : wr.cell? ⟨b, o + k, none⟩ = some (.string s) := by rw [hs]; exact HROW.out wr HB.out k hkl
      clear hs hkl hkn
      by_cases h : s.size = 32
      · have HD : Hid (∀ W, Calls Tryd.prog 29 #[.string s] W fun e w' => e = .returned (.tuple #[.agg (wl .u8 (byF s) 32).toArray, .bool true]) ∧ Below W.heap.size W w') := fun W => by
          have := digestOf_ok s W h
          unfold aggD at this; rw [bc_wl s 32 h] at this; exact this
        go_upto_region 7 with fail
        clear cs
        go_upto_region 8 with (first
          | (go_at_call 29; go_must (refine (HD.out _).mono ?_); rintro e w1 ⟨rfl, hb1⟩; have HB1 := (show Hid (Below w.heap.size w w1) from HB.out.trans (hb1.mono HB.out.size)); have HB1r := (show Hid (Below wr.heap.size wr w1) from hb1); clear hb1)
          | (refine wpList_store_arr rfl 59 _ _ rfl w1.heap.size .u8 (fun _ => 0) (byF s) 32 rfl rfl ?_ sizeDig ?_; exact Arr.new _ _ 32 _ _ (by rfl)))
        obtain ⟨W2, hW2⟩ : ∃ W, W = (w1.alloc (.cells #[.int .u8 0, .int .u8 0, .int .u8 0, .int .u8 0, .int .u8 0, .int .u8 0, .int .u8 0, .int .u8 0, .int .u8 0, .int .u8 0, .int .u8 0, .int .u8 0, .int .u8 0, .int .u8 0, .int .u8 0, .int .u8 0, .int .u8 0, .int .u8 0, .int .u8 0, .int .u8 0, .int .u8 0, .int .u8 0, .int .u8 0, .int .u8 0, .int .u8 0, .int .u8 0, .int .u8 0, .int .u8 0, .int .u8 0, .int .u8 0, .int .u8 0, .int .u8 0] 59)).setCells w1.heap.size 0 (wl .u8 (byF s) 32) := ⟨_, rfl⟩
        have HX : Hid (W2.rangeAt w1.heap.size 0 (bc s)) := by
          show W2.rangeAt _ _ _
          rw [hW2, bc_wl s 32 h]; exact ((Arr.new w1 (fun _ => 0) 32 #[.int .u8 0, .int .u8 0, .int .u8 0, .int .u8 0, .int .u8 0, .int .u8 0, .int .u8 0, .int .u8 0, .int .u8 0, .int .u8 0, .int .u8 0, .int .u8 0, .int .u8 0, .int .u8 0, .int .u8 0, .int .u8 0, .int .u8 0, .int .u8 0, .int .u8 0, .int .u8 0, .int .u8 0, .int .u8 0, .int .u8 0, .int .u8 0, .int .u8 0, .int .u8 0, .int .u8 0, .int .u8 0, .int .u8 0, .int .u8 0, .int .u8 0, .int .u8 0] 59 (by rfl)).all (byF s)).range
        have HB2 : Hid (Below wr.heap.size wr W2) := by
          show Below _ _ _
          rw [hW2]; exact below_setCells (HB1r.out.alloc HB1r.out.size _) _ HB1r.out.size _ _
        rw [← hW2]
        clear hW2 HD HB1 HB1r
        have hnew : ∀ W : World, (W.alloc (.cells (bc s).toArray 59)).heap[W.heap.size]? = some (.cells (bc s).toArray 59 (0, 0)) := fun W => heap_alloc_new W _
        have HB3 : Hid (Below wr.heap.size wr (W2.alloc (.cells (bc s).toArray 59))) := HB2.out.alloc HB2.out.size _
        have HO3 : Hid ((W2.alloc (.cells (bc s).toArray 59)).ownsRow w.heap.size 59 32 v k (flatD (l.take k))) := own_after HOWN.out HB3.out
        have HNW : Hid (∀ j u, (bc s)[j]? = some u → (W2.alloc (.cells (bc s).toArray 59)).cell? ((⟨W2.heap.size, 0, none⟩ : Addr).add j) = some u) := news_d (hnew W2)
        have HSS : Hid (s.size = 32) := h
        have HZ : Hid (w.heap.size ≤ (W2.alloc (.cells (bc s).toArray 59)).heap.size) := by
          have h1 := HB.out.size
          have h2 := HB3.out.size
          show _ ≤ _; omega
        clear hnew h
        go_upto_region 11 with (first
          | (refine wpList_load_mid rfl 59 _ rfl w1.heap.size 0 rfl (bc s) _ HX.out Tryd.underlying59 rfl ?_ ?_; (rw [bc_length, HSS.out]; exact sizeDig))
          | (refine wpList_build_d rfl 29 rfl s HSS.out rfl ?_)
          | (at_builtin; go_must (refine wpList_append_lies _ rfl _ _ 72 rfl w.heap.size 59 i0 (.agg (wl .u8 (fun _ => 0) 32).toArray) 32 32 Tryd.underlying72 HINF.out.1 HINF.out.2.1 HINF.out.2.2.1 HINF.out.2.2.2 (by kernel_rfl) (by decide) v k (flatD (l.take k)) rfl HO3.out ⟨W2.heap.size, 0, none⟩ 1 1 (bc s) rfl (by rw [bc_length, HSS.out]) HNW.out (bc_one s) (by omega) (by unfold maxLen; omega) (by omega) HZ.out _ rfl ?_); intro g4 c4 w4 ho hgr hat hlt4; have HO4 := (show Hid (w4.ownsRow w.heap.size 59 32 (.slice (some ⟨g4, 0, none⟩) (k + 1) c4) (k + 1) (flatD (l.take k) ++ bc s)) from ho); have HB4 := (show Hid (Below w.heap.size w w4) from (HB.out.trans (HB3.out.mono HB.out.size)).grown hgr HZ.out (ownB_ge HO3.out)); clear ho hgr hat hlt4))
        go_wp2
        go_roundg (gk - 1)
        case measure => have := HKN.out; omega
        case rel =>
          have hk := HKN.out
          refine ⟨k + 1, _, by omega, by go_num, rfl, ?_, ?_, HB4.out⟩
          · rw [HSK.out, flatD_snoc]; exact HO4.out
          · rw [HSK.out]
            intro x hx
            rcases List.mem_append.1 hx with hx | hx
            · exact H32.out x hx
            · simp at hx; rw [hx]; exact HSS.out
      · have HD : Hid (∀ W, Calls Tryd.prog 29 #[.string s] W fun e w' => e = .returned (.tuple #[.agg (wl .u8 (fun _ => 0) 32).toArray, .bool false]) ∧ Below W.heap.size W w') := fun W => digestOf_no s W h
        have HE : Hid (rootRes Kc l = #[.string ByteArray.empty, .bool false, .int .i64 3]) := by
          show _ = _
          unfold rootRes; rw [if_neg (fun h2 => h (h2.2 s HSM.out))]
        go_upto_region 7 with fail
        clear cs
        go_wp2_with (first
          | (go_at_call 29; go_must (refine (HD.out _).mono ?_); rintro e w1 ⟨rfl, hb1⟩; have HB1 := (show Hid (Below w.heap.size w w1) from HB.out.trans (hb1.mono HB.out.size)); clear hb1)
          | (refine wpList_store_arr rfl 59 _ _ rfl w1.heap.size .u8 (fun _ => 0) (fun _ => 0) 32 rfl rfl ?_ sizeDig ?_; exact Arr.new _ _ 32 _ _ (by rfl)))
        refine bodyPost_ret (results3 Tryd.results18 _ _ _) rfl ⟨by rw [HE.out]; rfl, ?_⟩
        exact below_setCells (HB1.out.alloc HB1.out.size _) _ HB1.out.size _ _
    · have hkn' : k = n := by omega
      subst hkn'
      have htk : l.take k = l := by rw [HN.out]; exact List.take_length
      have HE : Hid (rootRes Kc l = #[.string (rootF (dd Kc) l false).1, .bool (rootF (dd Kc) l false).2, .int .i64 0]) := by
        have h := H32.out
        rw [htk] at h
        show _ = _
        unfold rootRes; rw [if_pos ⟨by have := HN.out; omega, h⟩]
      obtain ⟨g, c, rfl, _, _⟩ := HOWN.out.form hne
      have hroot := by
        have h := HOWN.out
        have h2 := H32.out
        rw [htk] at h h2
        exact hroot_any Kc l g 0 c wr (own_drow HN.out.symm h2 h) (by rw [← HN.out]; exact hne) (by rw [← HN.out]; exact hlen) (by rw [← HN.out]; exact own_cap HOWN.out) h2 (HKT.out wr HB.out)
      rw [← HN.out] at hroot
      have hlz2 : ¬ ((k : Int) < (k : Int)) := by omega
      have hRs : (rootF (dd Kc) l false).1.size = 32 := by
        have h2 := H32.out
        rw [htk] at h2
        exact rootF_size (dd Kc) (dd_size Kc) l false (by rw [← HN.out]; exact hne) h2
      clear HOWN H32 HROW htk hlt hkn HKN
      generalize rootF (dd Kc) l false = R at hroot HE hRs
      have HRS : Hid (aggD R.1 = .agg (wl .u8 (byF R.1) 32).toArray ∧ R.1.size = 32) := ⟨by unfold aggD; rw [bc_wl R.1 32 hRs], hRs⟩
      rw [HRS.out.1] at hroot
      have HTX : Hid (∀ W, Calls Tryd.prog 23 #[.agg (wl .u8 (byF R.1) 32).toArray] W fun e w' => e = .returned (.string R.1) ∧ Below W.heap.size W w') := fun W => by
        have := text_d R.1 hRs W
        rw [HRS.out.1] at this; exact this
      clear hRs HRS
      go_upto_region 13 with (first
        | (go_at_call 31; go_must (refine hroot.mono ?_); rintro e w1 ⟨rfl, _, hb1⟩; have HB1 := (show Hid (Below w.heap.size w w1) from HB.out.trans (hb1.mono HB.out.size)); clear hb1)
        | (refine wpList_store_arr rfl 59 _ _ rfl w1.heap.size .u8 (fun _ => 0) (byF R.1) 32 rfl rfl ?_ sizeDig ?_; exact Arr.new _ _ 32 _ _ (by rfl)))
      obtain ⟨W2, hW2⟩ : ∃ W, W = (w1.alloc (.cells #[.int .u8 0, .int .u8 0, .int .u8 0, .int .u8 0, .int .u8 0, .int .u8 0, .int .u8 0, .int .u8 0, .int .u8 0, .int .u8 0, .int .u8 0, .int .u8 0, .int .u8 0, .int .u8 0, .int .u8 0, .int .u8 0, .int .u8 0, .int .u8 0, .int .u8 0, .int .u8 0, .int .u8 0, .int .u8 0, .int .u8 0, .int .u8 0, .int .u8 0, .int .u8 0, .int .u8 0, .int .u8 0, .int .u8 0, .int .u8 0, .int .u8 0, .int .u8 0] 59)).setCells w1.heap.size 0 (wl .u8 (byF R.1) 32) := ⟨_, rfl⟩
      have HX : Hid (Arr .u8 W2 w1.heap.size (byF R.1) 32) := by
        show Arr _ _ _ _ _
        rw [hW2]; exact (Arr.new w1 (fun _ => 0) 32 #[.int .u8 0, .int .u8 0, .int .u8 0, .int .u8 0, .int .u8 0, .int .u8 0, .int .u8 0, .int .u8 0, .int .u8 0, .int .u8 0, .int .u8 0, .int .u8 0, .int .u8 0, .int .u8 0, .int .u8 0, .int .u8 0, .int .u8 0, .int .u8 0, .int .u8 0, .int .u8 0, .int .u8 0, .int .u8 0, .int .u8 0, .int .u8 0, .int .u8 0, .int .u8 0, .int .u8 0, .int .u8 0, .int .u8 0, .int .u8 0, .int .u8 0, .int .u8 0] 59 (by rfl)).all (byF R.1)
      have HB2 : Hid (Below w.heap.size w W2) := by
        show Below _ _ _
        rw [hW2]; exact below_setCells (HB1.out.alloc HB1.out.size _) _ HB1.out.size _ _
      rw [← hW2]
      clear hW2 HB1
      go_wp2_with (first
        | (refine wpList_load_arr rfl 59 _ rfl w1.heap.size rfl .u8 (byF R.1) 32 _ ?_ Tryd.underlying59 rfl sizeDig ?_; exact HX.out)
        | (go_at_call 23; go_must (refine (HTX.out _).mono ?_); rintro e w3 ⟨rfl, hb3⟩; have HB3 := (show Hid (Below w.heap.size w w3) from HB2.out.trans (hb3.mono HB2.out.size)); clear hb3))
      refine bodyPost_ret (results3 Tryd.results18 _ _ _) rfl ⟨by rw [HE.out]; rfl, HB3.out⟩
end Go.Proofs.YtkmalggeieiepabDoor
