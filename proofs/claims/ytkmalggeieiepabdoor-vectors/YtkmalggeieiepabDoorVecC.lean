import Derived.Test.YtkmalggeieiepabDoorVecB
import Derived.WalkKit
import Derived.WalkSpells
import Derived.WalkLawsBesides
import Derived.Deep.LoopGhost
import Derived.Deep.DeepCutAuto
namespace Go.Proofs.YtkmalggeieiepabDoor
open Go.RowKit
set_option maxRecDepth 100000

theorem ba_of (t : ByteArray) (l : List UInt8) (h : t.data.toList = l) : t = ⟨l.toArray⟩ := by
  obtain ⟨⟨d⟩⟩ := t; simp at h; subst h; rfl
theorem relay_abc (w W : World) (hb : Below w.heap.size w W) (hkt : KT kcT w) (hpos : 0 < w.heap.size) :
    Calls Tryd.prog 7 #[.string ⟨#[97, 98, 99]⟩] W fun e w' => e = .returned (.string ⟨#[186, 120, 22, 191, 143, 1, 207, 234, 65, 65, 64, 222, 93, 174, 34, 35, 176, 3, 97, 163, 150, 23, 122, 156, 180, 16, 255, 97, 242, 0, 21, 173]⟩) ∧ Below w.heap.size w w' := by
  have hz := hb.size
  refine (relaySum_any kcT ⟨#[97, 98, 99]⟩ W (hkt.later hb hpos) (by omega) (by decide)).mono ?_
  rintro e w' ⟨rfl, h⟩
  exact ⟨by rw [← sha_abc], hb.trans (h.mono hz)⟩
theorem hex_abc (w W : World) (hb : Below w.heap.size w W) :
    Calls Tryd.prog 8 #[.string ⟨#[98, 97, 55, 56, 49, 54, 98, 102, 56, 102, 48, 49, 99, 102, 101, 97, 52, 49, 52, 49, 52, 48, 100, 101, 53, 100, 97, 101, 50, 50, 50, 51, 98, 48, 48, 51, 54, 49, 97, 51, 57, 54, 49, 55, 55, 97, 57, 99, 98, 52, 49, 48, 102, 102, 54, 49, 102, 50, 48, 48, 49, 53, 97, 100]⟩] W fun e w' => e = .returned (.string ⟨#[186, 120, 22, 191, 143, 1, 207, 234, 65, 65, 64, 222, 93, 174, 34, 35, 176, 3, 97, 163, 150, 23, 122, 156, 180, 16, 255, 97, 242, 0, 21, 173]⟩) ∧ Below w.heap.size w w' := by
  have hz := hb.size
  refine (hex_any ⟨#[98, 97, 55, 56, 49, 54, 98, 102, 56, 102, 48, 49, 99, 102, 101, 97, 52, 49, 52, 49, 52, 48, 100, 101, 53, 100, 97, 101, 50, 50, 50, 51, 98, 48, 48, 51, 54, 49, 97, 51, 57, 54, 49, 55, 55, 97, 57, 99, 98, 52, 49, 48, 102, 102, 54, 49, 102, 50, 48, 48, 49, 53, 97, 100]⟩ W (by decide) (by decide)).mono ?_
  rintro e w' ⟨t, rfl, ht, h⟩
  have e2 : (hexN [98, 97, 55, 56, 49, 54, 98, 102, 56, 102, 48, 49, 99, 102, 101, 97, 52, 49, 52, 49, 52, 48, 100, 101, 53, 100, 97, 101, 50, 50, 50, 51, 98, 48, 48, 51, 54, 49, 97, 51, 57, 54, 49, 55, 55, 97, 57, 99, 98, 52, 49, 48, 102, 102, 54, 49, 102, 50, 48, 48, 49, 53, 97, 100]).1 = [186, 120, 22, 191, 143, 1, 207, 234, 65, 65, 64, 222, 93, 174, 34, 35, 176, 3, 97, 163, 150, 23, 122, 156, 180, 16, 255, 97, 242, 0, 21, 173] := by kernel_rfl
  have e3 := ba_of t [186, 120, 22, 191, 143, 1, 207, 234, 65, 65, 64, 222, 93, 174, 34, 35, 176, 3, 97, 163, 150, 23, 122, 156, 180, 16, 255, 97, 242, 0, 21, 173] (ht.trans e2)
  exact ⟨by rw [e3], hb.trans (h.mono hz)⟩
theorem relay_nil (w W : World) (hb : Below w.heap.size w W) (hkt : KT kcT w) (hpos : 0 < w.heap.size) :
    Calls Tryd.prog 7 #[.string ⟨#[]⟩] W fun e w' => e = .returned (.string ⟨#[227, 176, 196, 66, 152, 252, 28, 20, 154, 251, 244, 200, 153, 111, 185, 36, 39, 174, 65, 228, 100, 155, 147, 76, 164, 149, 153, 27, 120, 82, 184, 85]⟩) ∧ Below w.heap.size w w' := by
  have hz := hb.size
  refine (relaySum_any kcT ⟨#[]⟩ W (hkt.later hb hpos) (by omega) (by decide)).mono ?_
  rintro e w' ⟨rfl, h⟩
  exact ⟨by rw [← sha_nil], hb.trans (h.mono hz)⟩
theorem hex_nil (w W : World) (hb : Below w.heap.size w W) :
    Calls Tryd.prog 8 #[.string ⟨#[101, 51, 98, 48, 99, 52, 52, 50, 57, 56, 102, 99, 49, 99, 49, 52, 57, 97, 102, 98, 102, 52, 99, 56, 57, 57, 54, 102, 98, 57, 50, 52, 50, 55, 97, 101, 52, 49, 101, 52, 54, 52, 57, 98, 57, 51, 52, 99, 97, 52, 57, 53, 57, 57, 49, 98, 55, 56, 53, 50, 98, 56, 53, 53]⟩] W fun e w' => e = .returned (.string ⟨#[227, 176, 196, 66, 152, 252, 28, 20, 154, 251, 244, 200, 153, 111, 185, 36, 39, 174, 65, 228, 100, 155, 147, 76, 164, 149, 153, 27, 120, 82, 184, 85]⟩) ∧ Below w.heap.size w w' := by
  have hz := hb.size
  refine (hex_any ⟨#[101, 51, 98, 48, 99, 52, 52, 50, 57, 56, 102, 99, 49, 99, 49, 52, 57, 97, 102, 98, 102, 52, 99, 56, 57, 57, 54, 102, 98, 57, 50, 52, 50, 55, 97, 101, 52, 49, 101, 52, 54, 52, 57, 98, 57, 51, 52, 99, 97, 52, 57, 53, 57, 57, 49, 98, 55, 56, 53, 50, 98, 56, 53, 53]⟩ W (by decide) (by decide)).mono ?_
  rintro e w' ⟨t, rfl, ht, h⟩
  have e2 : (hexN [101, 51, 98, 48, 99, 52, 52, 50, 57, 56, 102, 99, 49, 99, 49, 52, 57, 97, 102, 98, 102, 52, 99, 56, 57, 57, 54, 102, 98, 57, 50, 52, 50, 55, 97, 101, 52, 49, 101, 52, 54, 52, 57, 98, 57, 51, 52, 99, 97, 52, 57, 53, 57, 57, 49, 98, 55, 56, 53, 50, 98, 56, 53, 53]).1 = [227, 176, 196, 66, 152, 252, 28, 20, 154, 251, 244, 200, 153, 111, 185, 36, 39, 174, 65, 228, 100, 155, 147, 76, 164, 149, 153, 27, 120, 82, 184, 85] := by kernel_rfl
  have e3 := ba_of t [227, 176, 196, 66, 152, 252, 28, 20, 154, 251, 244, 200, 153, 111, 185, 36, 39, 174, 65, 228, 100, 155, 147, 76, 164, 149, 153, 27, 120, 82, 184, 85] (ht.trans e2)
  exact ⟨by rw [e3], hb.trans (h.mono hz)⟩
theorem relay_long (w W : World) (hb : Below w.heap.size w W) (hkt : KT kcT w) (hpos : 0 < w.heap.size) :
    Calls Tryd.prog 7 #[.string ⟨#[97, 98, 99, 100, 98, 99, 100, 101, 99, 100, 101, 102, 100, 101, 102, 103, 101, 102, 103, 104, 102, 103, 104, 105, 103, 104, 105, 106, 104, 105, 106, 107, 105, 106, 107, 108, 106, 107, 108, 109, 107, 108, 109, 110, 108, 109, 110, 111, 109, 110, 111, 112, 110, 111, 112, 113]⟩] W fun e w' => e = .returned (.string ⟨#[36, 141, 106, 97, 210, 6, 56, 184, 229, 192, 38, 147, 12, 62, 96, 57, 163, 60, 228, 89, 100, 255, 33, 103, 246, 236, 237, 212, 25, 219, 6, 193]⟩) ∧ Below w.heap.size w w' := by
  have hz := hb.size
  refine (relaySum_any kcT ⟨#[97, 98, 99, 100, 98, 99, 100, 101, 99, 100, 101, 102, 100, 101, 102, 103, 101, 102, 103, 104, 102, 103, 104, 105, 103, 104, 105, 106, 104, 105, 106, 107, 105, 106, 107, 108, 106, 107, 108, 109, 107, 108, 109, 110, 108, 109, 110, 111, 109, 110, 111, 112, 110, 111, 112, 113]⟩ W (hkt.later hb hpos) (by omega) (by decide)).mono ?_
  rintro e w' ⟨rfl, h⟩
  exact ⟨by rw [← sha_long], hb.trans (h.mono hz)⟩
theorem hex_long (w W : World) (hb : Below w.heap.size w W) :
    Calls Tryd.prog 8 #[.string ⟨#[50, 52, 56, 100, 54, 97, 54, 49, 100, 50, 48, 54, 51, 56, 98, 56, 101, 53, 99, 48, 50, 54, 57, 51, 48, 99, 51, 101, 54, 48, 51, 57, 97, 51, 51, 99, 101, 52, 53, 57, 54, 52, 102, 102, 50, 49, 54, 55, 102, 54, 101, 99, 101, 100, 100, 52, 49, 57, 100, 98, 48, 54, 99, 49]⟩] W fun e w' => e = .returned (.string ⟨#[36, 141, 106, 97, 210, 6, 56, 184, 229, 192, 38, 147, 12, 62, 96, 57, 163, 60, 228, 89, 100, 255, 33, 103, 246, 236, 237, 212, 25, 219, 6, 193]⟩) ∧ Below w.heap.size w w' := by
  have hz := hb.size
  refine (hex_any ⟨#[50, 52, 56, 100, 54, 97, 54, 49, 100, 50, 48, 54, 51, 56, 98, 56, 101, 53, 99, 48, 50, 54, 57, 51, 48, 99, 51, 101, 54, 48, 51, 57, 97, 51, 51, 99, 101, 52, 53, 57, 54, 52, 102, 102, 50, 49, 54, 55, 102, 54, 101, 99, 101, 100, 100, 52, 49, 57, 100, 98, 48, 54, 99, 49]⟩ W (by decide) (by decide)).mono ?_
  rintro e w' ⟨t, rfl, ht, h⟩
  have e2 : (hexN [50, 52, 56, 100, 54, 97, 54, 49, 100, 50, 48, 54, 51, 56, 98, 56, 101, 53, 99, 48, 50, 54, 57, 51, 48, 99, 51, 101, 54, 48, 51, 57, 97, 51, 51, 99, 101, 52, 53, 57, 54, 52, 102, 102, 50, 49, 54, 55, 102, 54, 101, 99, 101, 100, 100, 52, 49, 57, 100, 98, 48, 54, 99, 49]).1 = [36, 141, 106, 97, 210, 6, 56, 184, 229, 192, 38, 147, 12, 62, 96, 57, 163, 60, 228, 89, 100, 255, 33, 103, 246, 236, 237, 212, 25, 219, 6, 193] := by kernel_rfl
  have e3 := ba_of t [36, 141, 106, 97, 210, 6, 56, 184, 229, 192, 38, 147, 12, 62, 96, 57, 163, 60, 228, 89, 100, 255, 33, 103, 246, 236, 237, 212, 25, 219, 6, 193] (ht.trans e2)
  exact ⟨by rw [e3], hb.trans (h.mono hz)⟩
theorem relay_any (w W : World) (s : ByteArray) (hs : s.size ≤ 1048576) (hb : Below w.heap.size w W) (hkt : KT kcT w) (hpos : 0 < w.heap.size) :
    Calls Tryd.prog 7 #[.string s] W fun e w' => ∃ X : ByteArray, e = .returned (.string X) ∧ X.size = 32 ∧ Below w.heap.size w w' := by
  have hz := hb.size
  refine (relaySum_any kcT s W (hkt.later hb hpos) (by omega) (by omega)).mono ?_
  rintro e w' ⟨rfl, h⟩
  exact ⟨_, rfl, by show (lsOf _ 32).toArray.size = 32; simp [lsOf], hb.trans (h.mono hz)⟩
theorem rsip_key (w W : World) (s : ByteArray) (hs : s.data.toList = [0, 1, 2, 3, 4, 5, 6, 7, 8, 9, 10, 11, 12, 13, 14]) (hb : Below w.heap.size w W) :
    Calls Tryd.prog 9 #[.int .u64 506097522914230528, .int .u64 1084818905618843912, .string s] W fun e w' => e = .returned (.int .u64 11613035633349379557) ∧ Below w.heap.size w w' := by
  have hz := hb.size
  have hl : s.size = 15 := by have h : s.data.toList.length = s.size := rfl; rw [hs] at h; exact h.symm
  refine (relaySip_any _ _ s W (by omega)).mono ?_
  rintro e w' ⟨rfl, h⟩
  exact ⟨by rw [hl, hs, sip_key], hb.trans (h.mono hz)⟩
theorem rsip_nil (w W : World) (hb : Below w.heap.size w W) :
    Calls Tryd.prog 9 #[.int .u64 506097522914230528, .int .u64 1084818905618843912, .string ⟨#[]⟩] W fun e w' => e = .returned (.int .u64 8246050544436514353) ∧ Below w.heap.size w w' := by
  have hz := hb.size
  refine (relaySip_any _ _ ⟨#[]⟩ W (by decide)).mono ?_
  rintro e w' ⟨rfl, h⟩
  have e1 : (⟨#[]⟩ : ByteArray).size = 0 := rfl
  have e2 : (⟨#[]⟩ : ByteArray).data.toList = [] := rfl
  exact ⟨by rw [e1, e2, sip_nil], hb.trans (h.mono hz)⟩
end Go.Proofs.YtkmalggeieiepabDoor
