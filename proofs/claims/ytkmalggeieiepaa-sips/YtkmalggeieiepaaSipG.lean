import Derived.Test.YtkmalggeieiepaaSipF0
import Derived.WalkKit
import Derived.WalkSpells
import Derived.WalkLawsBesides
import Derived.Lib.Strings
import Derived.Deep.QuietTactic
import Derived.BigQuiet
import Derived.Deep.LoopGhost
namespace Go.Proofs.Ytkmalggeieiepaa
open Go.RowKit

/-- words worked in till nothing is left. -/
def absR (v : St) (l : List UInt8) : St :=
  if _h : 8 ≤ l.length then absR (wrd v (num (l.take 8))) (l.drop 8) else v
  termination_by l.length
  decreasing_by simp; omega
theorem absR_word (v : St) (l : List UInt8) (h : 8 ≤ l.length) : absR v l = absR (wrd v (num (l.take 8))) (l.drop 8) := by
  rw [absR]; simp [h]
theorem absR_nil (v : St) : absR v [] = v := by rw [absR]; simp
theorem num_zeros (j : Nat) : num (List.replicate j 0) = 0 := by
  induction j with
  | zero => rfl
  | succ j ih => simp [List.replicate_succ, num, ih]
theorem num_last (l : List UInt8) (j : Nat) (b : UInt8) (h : l.length + j = 7) : num (l ++ List.replicate j 0 ++ [b]) = num l + 72057594037927936 * b.toNat := by
  rw [num_append, num_append, num_zeros]
  have e : (l ++ List.replicate j 0).length = 7 := by simp [h]
  rw [e]; simp [num]
theorem lastW_eq (n : Nat) (l : List UInt8) (h : l.length ≤ 7) : lastW n l = ((num l + 72057594037927936 * (UInt8.ofNat n).toNat : Nat) : Int) := by
  have h1 := num_lt l
  have h2 : 256 ^ l.length ≤ 256 ^ 7 := Nat.pow_le_pow_right (by omega) h
  have h3 : 256 ^ 7 = 72057594037927936 := by decide
  have h4 : (UInt8.ofNat n).toNat = n % 256 := by simp
  unfold lastW
  rw [h4, IntKind.wrap_u64, IntKind.wrap_u64]
  have h5 : (↑n % 18446744073709551616 * 72057594037927936 : Int) % 18446744073709551616 = ((n % 256 * 72057594037927936 : Nat) : Int) := by omega
  rw [h5]
  rw [bits_join .u64 64 (by decide) (fun n h h' => by rw [IntKind.wrap_u64]; omega) 56 _ _ (by omega) (by omega) (by omega) (by omega) (by omega) (by omega)]
  omega
theorem absR_pad (n : Nat) (j : Nat) : ∀ (m : Nat) (v : St) (l : List UInt8), l.length = m → (l.length + j + 1) % 8 = 0 → j < 8 → absR v (l ++ List.replicate j 0 ++ [UInt8.ofNat n]) = absorb n v l := by
  intro m
  induction m using Nat.strongRecOn with
  | ind m ih =>
    intro v l hl hm hj
    by_cases h8 : 8 ≤ l.length
    · rw [absorb_word n v l h8, absR_word _ _ (by simp; omega)]
      have e1 : (l ++ List.replicate j 0 ++ [UInt8.ofNat n]).take 8 = l.take 8 := by rw [List.append_assoc, List.take_append_of_le_length h8]
      have e2 : (l ++ List.replicate j 0 ++ [UInt8.ofNat n]).drop 8 = l.drop 8 ++ List.replicate j 0 ++ [UInt8.ofNat n] := by rw [List.append_assoc, List.drop_append_of_le_length h8, List.append_assoc]
      rw [e1, e2]
      exact ih (l.drop 8).length (by simp; omega) _ _ rfl (by simp; omega) hj
    · have e : (l ++ List.replicate j 0 ++ [UInt8.ofNat n]).length = 8 := by simp; omega
      rw [absorb_last n v l h8, absR_word _ _ (by omega)]
      rw [List.take_of_length_le (by omega), List.drop_of_length_le (by omega), absR_nil, lastW_eq n l (by omega), num_last l j _ (by omega)]

theorem sapp_toList (t : ByteArray) (b : UInt8) : (t ++ ⟨#[b]⟩ : ByteArray).data.toList = t.data.toList ++ [b] := by
  rw [ByteArray.data_append]; simp
theorem sapp_size (t : ByteArray) (b : UInt8) : (t ++ ⟨#[b]⟩ : ByteArray).size = t.size + 1 := by
  rw [ByteArray.size_append]; rfl
theorem stoList_eq (s : ByteArray) : s.toList = s.data.toList := by
  obtain ⟨⟨l⟩⟩ := s
  simp
theorem ssome_left (t : ByteArray) (h : 8 ≤ t.size) : t.toList.isEmpty = false := by
  rw [stoList_eq]
  have hl : t.data.toList.length = t.size := rfl
  cases e : t.data.toList with
  | nil => rw [e] at hl; simp at hl; omega
  | cons a l => rfl
theorem snone_left (t : ByteArray) (h : t.size = 0) : t.toList.isEmpty = true := by
  rw [stoList_eq]
  have hl : t.data.toList.length = t.size := rfl
  cases e : t.data.toList with
  | nil => rfl
  | cons a l => rw [e] at hl; simp at hl; omega
theorem At4.set0 {w : World} {b : Nat} {v : St} (h : At4 w b v) (x : Int) : At4 (w.setCell ⟨b, 0, none⟩ (.int .u64 x)) b ⟨x, v.b, v.c, v.d⟩ := by
  obtain ⟨h0, h1, h2, h3⟩ := h
  simp [At4, sc_same, World.cell?_setCell_other, h0, h1, h2, h3]
theorem At4.set2 {w : World} {b : Nat} {v : St} (h : At4 w b v) (x : Int) : At4 (w.setCell ⟨b, 2, none⟩ (.int .u64 x)) b ⟨v.a, v.b, x, v.d⟩ := by
  obtain ⟨h0, h1, h2, h3⟩ := h
  simp [At4, sc_same, World.cell?_setCell_other, h0, h1, h2, h3]
theorem At4.set3 {w : World} {b : Nat} {v : St} (h : At4 w b v) (x : Int) : At4 (w.setCell ⟨b, 3, none⟩ (.int .u64 x)) b ⟨v.a, v.b, v.c, x⟩ := by
  obtain ⟨h0, h1, h2, h3⟩ := h
  simp [At4, sc_same, World.cell?_setCell_other, h0, h1, h2, h3]
theorem Free4.set {w : World} {b : Nat} (h : Free4 w b) (a : Addr) (v : Value) : Free4 (w.setCell a v) b := by
  simpa [Free4] using h
theorem n_uesp : num [117, 101, 115, 112, 101, 109, 111, 115] = 8317987319222330741 := by decide
theorem n_modn : num [109, 111, 100, 110, 97, 114, 111, 100] = 7237128888997146477 := by decide
theorem n_aren : num [97, 114, 101, 110, 101, 103, 121, 108] = 7816392313619706465 := by decide
theorem n_sety : num [115, 101, 116, 121, 98, 100, 101, 116] = 8387220255154660723 := by decide
end Go.Proofs.Ytkmalggeieiepaa
