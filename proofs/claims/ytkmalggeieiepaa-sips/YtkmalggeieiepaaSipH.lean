import Derived.Test.YtkmalggeieiepaaSipG
import Derived.Test.YtkmalggeieiepaaSipBr
import Derived.Test.YtkmalggeieiepaaSipEr
import Derived.WalkKit
import Derived.WalkSpells
import Derived.WalkLawsBesides
import Derived.Lib.Strings
import Derived.Deep.QuietTactic
import Derived.BigQuiet
import Derived.Deep.LoopGhost
import Derived.Deep.DeepCutAuto
namespace Go.Proofs.Ytkmalggeieiepaa
open Go.RowKit

/-- one byte, as a string. -/
theorem sstr1 (W : World) (x : Int) (h0 : 0 ≤ x) (h1 : x < 256) : (convert 27 9 (.slice (some ⟨W.heap.size, 0, none⟩) 1 1)).run Try.prog (W.alloc (.cells #[.int .u8 x] 5)) = .ok (.string ⟨#[UInt8.ofNat x.toNat]⟩) (W.alloc (.cells #[.int .u8 x] 5)) := by
  have e : ((UInt8.ofNat x.toNat).toNat : Int) = x := by simp; omega
  have := run_convert_bytes_back (P := Try.prog) (W.alloc (.cells #[.int .u8 x] 5)) 27 9 5 ⟨W.heap.size, 0, none⟩ 1 [UInt8.ofNat x.toNat] Try.underlying27 Try.underlying5 Try.underlying9
  refine this (fun j hj => ?_)
  obtain rfl : j = 0 := by simpa using hj
  simp only [List.getElem_cons_zero, e]
  simp [Addr.add, go_sem]

set_option maxHeartbeats 1000000 in
theorem refSip_any (k l : Int) (s : ByteArray) (w : World) (hs : s.size ≤ 1048576) :
    Calls Try.prog 5 #[.int .u64 k, .int .u64 l, .string s] w fun e w' => e = .returned (.int .u64 (fin (absorb s.size (ini k l) s.data.toList))) ∧ Below w.heap.size w w' := by
  have n1 := n_uesp
  have n2 := n_modn
  have n3 := n_aren
  have n4 := n_sety
  go_enter Try.func5, Try.ntmps5
  go_wp2_with (go_at_call 7; go_must (refine (number_any _ _ (by decide)).mono ?_); rintro e w' ⟨rfl, hw⟩; obtain rfl := hw.symm)
  clear n1 n2 n3 n4
  have bx := box1_new w (ini k l) 22
  generalize hW : w.alloc (Obj.cells #[Value.int IntKind.u64 (bits BinOp.xor IntKind.u64 k 8317987319222330741), Value.int IntKind.u64 (bits BinOp.xor IntKind.u64 l 7237128888997146477), Value.int IntKind.u64 (bits BinOp.xor IntKind.u64 k 7816392313619706465), Value.int IntKind.u64 (bits BinOp.xor IntKind.u64 l 8387220255154660723)] 22) = W0
  have HB : Hid (Box1 w W0 (ini k l)) := by rw [← hW]; exact bx
  clear bx hW
  go_loopg [2] ((15 - s.size % 8) % 8) (fun g r wr => ∃ t : ByteArray, ∃ j : Nat, r = .string t ∧ t.data.toList = s.data.toList ++ List.replicate j 0 ∧ t.size = s.size + j ∧ j + g = (15 - s.size % 8) % 8 ∧ wr = W0)
  case atStart => exact ⟨s, 0, rfl, by simp, rfl, by omega, rfl⟩
  case round =>
    obtain ⟨t, j, rfl, ht, hts, hj, rfl⟩ := hrel
    have HT : Hid (t.data.toList = s.data.toList ++ List.replicate j 0) := ht
    have HTS : Hid (t.size = s.size + j) := hts
    have HJ : Hid (j + gk = (15 - s.size % 8) % 8) := hj
    have htb : t.size ≤ 1048584 := by omega
    by_cases hlt : t.size % 8 = 7
    · have hlb : (((t.size : Int) % 8) != 7) = false := by simp; omega
      have HL : Hid (t.size % 8 = 7) := hlt
      clear ht hts hj hlt
      generalize hm : (s.size : Int) % 256 = L
      have hL0 : 0 ≤ L := by omega
      have hL1 : L < 256 := by omega
      have HM : Hid ((s.size : Int) % 256 = L) := hm
      clear hm
      have hstr := sstr1 wr L hL0 hL1
      go_upto_region 6 with fail
      have HP : Hid (absR (ini k l) (t ++ ⟨#[UInt8.ofNat L.toNat]⟩ : ByteArray).data.toList = absorb s.size (ini k l) s.data.toList) := by
        have e0 : (t ++ ⟨#[UInt8.ofNat L.toNat]⟩ : ByteArray).data.toList = t.data.toList ++ [UInt8.ofNat L.toNat] := sapp_toList _ _
        have e1 : UInt8.ofNat L.toNat = UInt8.ofNat s.size := by
          rw [← HM.out, ← UInt8.toNat_inj]; simp; omega
        have h1 := HTS.out; have h2 := HL.out; have h3 := HJ.out
        rw [e0, HT.out, e1]
        exact absR_pad s.size j _ _ _ rfl (by show (s.size + j + 1) % 8 = 0; omega) (by omega)
      have hz1 : (t ++ ⟨#[UInt8.ofNat L.toNat]⟩ : ByteArray).size = t.size + 1 := sapp_size _ _
      have hz2 := HL.out
      generalize (t ++ ⟨#[UInt8.ofNat L.toNat]⟩ : ByteArray) = t2 at HP hz1
      clear HT HTS HJ HL HM
      have hbx := (HB.out.later ((Below.refl _ _).alloc (Nat.le_refl _) (.cells #[.int .u8 L] 5)))
      go_loopg [2, 7] t2.size (fun g r v wr => ∃ t' : ByteArray, ∃ u : St, ∃ b : Nat, r = .string t' ∧ v = .slice (some ⟨b, 0, none⟩) 4 4 ∧ t'.size ≤ g ∧ t'.size % 8 = 0 ∧ t'.size ≤ 1048600 ∧ u.ok ∧ absR u t'.data.toList = absorb s.size (ini k l) s.data.toList ∧ w.heap.size ≤ b ∧ At4 wr b u ∧ Free4 wr b ∧ Below w.heap.size w wr)
      case atStart => exact ⟨t2, ini k l, w.heap.size, rfl, rfl, Nat.le_refl _, by omega, by omega, ini_ok k l, HP.out, Nat.le_refl _, hbx.at4, hbx.free, hbx.below⟩
      case round =>
        clear hbx HP hz1 hz2 hstr
        obtain ⟨t', u, b, rfl, rfl, htg, ht8, htb2, hu, ha, hwb, ⟨c0, c1, c2, c3⟩, ⟨f0, f1, f2, f3⟩, hbel⟩ := hrel
        have HA : Hid (absR u t'.data.toList = absorb s.size (ini k l) s.data.toList) := ha
        have HBL : Hid (Below w.heap.size w wr) := hbel
        have H8 : Hid (t'.size % 8 = 0) := ht8
        clear ha hbel
        by_cases h8 : 8 ≤ t'.size
        · have hne : t'.toList.isEmpty = false := ssome_left t' h8
          clear ht8
          have m4 := At4.set3 (v := u) ⟨c0, c1, c2, c3⟩ (bits .xor .u64 u.d (num (t'.data.toList.take 8)))
          have hcall := refRounds_any b ⟨u.a, u.b, u.c, bits .xor .u64 u.d (num (t'.data.toList.take 8))⟩ 2 (wr.setCell ⟨b, 3, none⟩ (.int .u64 (bits .xor .u64 u.d (num (t'.data.toList.take 8))))) (by omega) ⟨hu.1, hu.2.1, hu.2.2.1, isU_bits .xor _ _⟩ m4.1 m4.2.1 m4.2.2.1 m4.2.2.2
          have HW : Hid (wrd u (num (t'.data.toList.take 8)) = ⟨bits .xor .u64 (rnds 2 ⟨u.a, u.b, u.c, bits .xor .u64 u.d (num (t'.data.toList.take 8))⟩).a (num (t'.data.toList.take 8)), (rnds 2 ⟨u.a, u.b, u.c, bits .xor .u64 u.d (num (t'.data.toList.take 8))⟩).b, (rnds 2 ⟨u.a, u.b, u.c, bits .xor .u64 u.d (num (t'.data.toList.take 8))⟩).c, (rnds 2 ⟨u.a, u.b, u.c, bits .xor .u64 u.d (num (t'.data.toList.take 8))⟩).d⟩) := rfl
          have HN : Hid (absR (wrd u (num (t'.data.toList.take 8))) (t'.extract 8 t'.size).data.toList = absorb s.size (ini k l) s.data.toList) := by
            have hl : t'.data.toList.length = t'.size := rfl
            have e2 : (t'.extract 8 t'.size).data.toList = t'.data.toList.drop 8 := by rw [Lib.extract_data]; exact List.take_of_length_le (Nat.le_of_eq (by rw [List.length_drop, hl]))
            rw [e2, ← absR_word _ _ (by omega)]; exact HA.out
          have HO : Hid ((wrd u (num (t'.data.toList.take 8))).ok) := wrd_ok u _ hu
          clear HA m4
          generalize rnds 2 ⟨u.a, u.b, u.c, bits .xor .u64 u.d (num (t'.data.toList.take 8))⟩ = x at hcall HW
          go_wp2_with (first | (go_at_call 7; go_must (refine (number_any _ _ ?_).mono ?_); (simp; omega); rintro e w' ⟨rfl, hw⟩; obtain rfl := hw.symm) | (go_at_call 8; go_must (refine hcall.mono ?_); rintro e w' ⟨g, rfl, hg, ⟨d0, d1, d2, d3⟩, ⟨e0, e1, e2, e3⟩, hb⟩; have HC : Hid (At4 w' g x ∧ Free4 w' g ∧ (wr.setCell ⟨b, 3, none⟩ (.int .u64 (bits .xor .u64 u.d (num (t'.data.toList.take 8))))).heap.size ≤ g ∧ Below (wr.setCell ⟨b, 3, none⟩ (.int .u64 (bits .xor .u64 u.d (num (t'.data.toList.take 8))))).heap.size (wr.setCell ⟨b, 3, none⟩ (.int .u64 (bits .xor .u64 u.d (num (t'.data.toList.take 8))))) w') := ⟨⟨d0, d1, d2, d3⟩, ⟨e0, e1, e2, e3⟩, hg, hb⟩; clear hb hg))
          go_roundg (gk - 8)
          case measure => omega
          case rel =>
            obtain ⟨q1, q2, q3, q4⟩ := HC.out
            have h8' := H8.out
            have hsz := HBL.out.size
            have hset : (wr.setCell ⟨b, 3, none⟩ (.int .u64 (bits .xor .u64 u.d (num (t'.data.toList.take 8))))).heap.size = wr.heap.size := by simp
            refine ⟨t'.extract 8 t'.size, wrd u (num (t'.data.toList.take 8)), g, rfl, rfl, by simp; omega, by simp; omega, by simp; omega, HO.out, HN.out, by omega, ?_, q2.set _ _, ?_⟩
            · rw [HW.out]; exact q1.set0 _
            · exact ((HBL.out.setCell hwb _).trans (q4.mono (by omega))).setCell (by show w.heap.size ≤ g; omega) _
        · have hne : t'.toList.isEmpty = true := snone_left t' (by omega)
          clear ht8
          have m4 := At4.set2 (v := u) ⟨c0, c1, c2, c3⟩ (bits .xor .u64 u.c 255)
          have hcall := refRounds_any b ⟨u.a, u.b, bits .xor .u64 u.c 255, u.d⟩ 4 (wr.setCell ⟨b, 2, none⟩ (.int .u64 (bits .xor .u64 u.c 255))) (by omega) ⟨hu.1, hu.2.1, isU_bits .xor _ _, hu.2.2.2⟩ m4.1 m4.2.1 m4.2.2.1 m4.2.2.2
          have HF : Hid (fin u = bits .xor .u64 (bits .xor .u64 (bits .xor .u64 (rnds 4 ⟨u.a, u.b, bits .xor .u64 u.c 255, u.d⟩).a (rnds 4 ⟨u.a, u.b, bits .xor .u64 u.c 255, u.d⟩).b) (rnds 4 ⟨u.a, u.b, bits .xor .u64 u.c 255, u.d⟩).c) (rnds 4 ⟨u.a, u.b, bits .xor .u64 u.c 255, u.d⟩).d) := rfl
          have HX : Hid (u = absorb s.size (ini k l) s.data.toList) := by
            have h8' := H8.out
            have hl : t'.data.toList.length = t'.size := rfl
            have e : t'.data.toList = [] := List.eq_nil_of_length_eq_zero (by omega)
            have := HA.out
            rw [e, absR_nil] at this
            exact this
          clear HA m4
          generalize rnds 4 ⟨u.a, u.b, bits .xor .u64 u.c 255, u.d⟩ = y at hcall HF
          go_wp2_with (go_at_call 8; go_must (refine hcall.mono ?_); rintro e w' ⟨g, rfl, hg, ⟨d0, d1, d2, d3⟩, ⟨e0, e1, e2, e3⟩, hb⟩; have HC : Hid (Below (wr.setCell ⟨b, 2, none⟩ (.int .u64 (bits .xor .u64 u.c 255))).heap.size (wr.setCell ⟨b, 2, none⟩ (.int .u64 (bits .xor .u64 u.c 255))) w') := hb; clear hb hg)
          go_quiet (fail)
          go_wp2
          go_ret
          rw [← HX.out, HF.out]
          have hset : (wr.setCell ⟨b, 2, none⟩ (.int .u64 (bits .xor .u64 u.c 255))).heap.size = wr.heap.size := by simp
          have hsz := HBL.out.size
          exact ⟨rfl, below_drewN ((HBL.out.setCell hwb _).trans (HC.out.mono (by omega))) _⟩
    · have hg : 0 < gk := by omega
      clear ht hts hj
      go_wp2
      go_roundg (gk - 1)
      case measure => omega
      case rel =>
        have h1 := HTS.out; have h3 := HJ.out
        exact ⟨_, j + 1, rfl, by rw [sapp_toList, HT.out, List.replicate_succ', List.append_assoc], by rw [sapp_size]; omega, by omega, rfl⟩
end Go.Proofs.Ytkmalggeieiepaa
