/-
  The bytes of a rune as a range over a text hands it over: no program in here.
-/
import Derived.Test.YtengnjffajimdaaNibPure
import Derived.Laws.RangeAny
import Derived.Laws.Runes
namespace Go.Proofs.Ytengnjffajimdaa
open Go

theorem u8_of {b : UInt8} {n : Nat} (h : n = b.toNat) : UInt8.ofNat n = b := by
  subst h
  exact UInt8.ofNat_toNat
theorem drop_one (s : ByteArray) (p : Nat) (h : p < s.size) : s.data.toList.drop p = s.get! p :: s.data.toList.drop (p + 1) := by
  have hd : p < s.data.toList.length := by rw [Array.length_toList]; exact h
  rw [List.drop_eq_getElem_cons hd]
  congr 1
  rw [Array.getElem_toList]
  have := get_at s p h
  rw [Nat.add_zero] at this
  rw [this]
  rfl
theorem ext_list (s : ByteArray) (p k : Nat) : (s.extract p (p + k)).data.toList = (s.data.toList.drop p).take k := by
  rw [ByteArray.data_extract, Array.toList_extract, List.extract_eq_take_drop]
  congr 1
  omega
theorem arr_same {a b : ByteArray} (h : a.data.toList = b.data.toList) : a = b := by
  obtain ⟨⟨l⟩⟩ := a
  obtain ⟨⟨m⟩⟩ := b
  have h' : l = m := h
  rw [h']
theorem ext_one {s : ByteArray} {p : Nat} (h : p + 1 ≤ s.size) : s.extract p (p + 1) = ⟨#[s.get! p]⟩ := by
  apply arr_same
  rw [ext_list, drop_one s p (by omega)]
  rfl
theorem ext_two {s : ByteArray} {p : Nat} (h : p + 2 ≤ s.size) : s.extract p (p + 2) = ⟨#[s.get! p, s.get! (p + 1)]⟩ := by
  apply arr_same
  rw [ext_list, drop_one s p (by omega), drop_one s (p + 1) (by omega)]
  rfl
theorem ext_three {s : ByteArray} {p : Nat} (h : p + 3 ≤ s.size) : s.extract p (p + 3) = ⟨#[s.get! p, s.get! (p + 1), s.get! (p + 2)]⟩ := by
  apply arr_same
  rw [ext_list, drop_one s p (by omega), drop_one s (p + 1) (by omega), drop_one s (p + 2) (by omega)]
  rfl
theorem ext_four {s : ByteArray} {p : Nat} (h : p + 4 ≤ s.size) : s.extract p (p + 4) = ⟨#[s.get! p, s.get! (p + 1), s.get! (p + 2), s.get! (p + 3)]⟩ := by
  apply arr_same
  rw [ext_list, drop_one s p (by omega), drop_one s (p + 1) (by omega), drop_one s (p + 2) (by omega), drop_one s (p + 3) (by omega)]
  rfl
theorem enc_one {c : Nat} (h : c < 128) : Utf8.encode (c : Int) = ⟨#[UInt8.ofNat c]⟩ := by
  have hv : Utf8.valid (c : Int) = true := by simp [Utf8.valid]; omega
  unfold Utf8.encode
  simp only [hv, if_true, Int.toNat_natCast]
  rw [if_pos h]
theorem enc_two {c : Nat} (h : 128 ≤ c) (h2 : c < 2048) : Utf8.encode (c : Int) = ⟨#[UInt8.ofNat (192 + c / 64), UInt8.ofNat (128 + c % 64)]⟩ := by
  have hv : Utf8.valid (c : Int) = true := by simp [Utf8.valid]; omega
  unfold Utf8.encode
  simp only [hv, if_true, Int.toNat_natCast]
  rw [if_neg (by omega), if_pos h2]
theorem enc_three {c : Nat} (hv : Utf8.valid (c : Int) = true) (h : 2048 ≤ c) (h2 : c < 65536) : Utf8.encode (c : Int) = ⟨#[UInt8.ofNat (224 + c / 4096), UInt8.ofNat (128 + c / 64 % 64), UInt8.ofNat (128 + c % 64)]⟩ := by
  unfold Utf8.encode
  simp only [hv, if_true, Int.toNat_natCast]
  rw [if_neg (by omega), if_neg (by omega), if_pos h2]
theorem enc_four {c : Nat} (hv : Utf8.valid (c : Int) = true) (h : 65536 ≤ c) : Utf8.encode (c : Int) = ⟨#[UInt8.ofNat (240 + c / 262144), UInt8.ofNat (128 + c / 4096 % 64), UInt8.ofNat (128 + c / 64 % 64), UInt8.ofNat (128 + c % 64)]⟩ := by
  unfold Utf8.encode
  simp only [hv, if_true, Int.toNat_natCast]
  rw [if_neg (by omega), if_neg (by omega), if_neg (by omega)]
theorem eq_two {a b c d : UInt8} (h : a = c) (h2 : b = d) : (⟨#[a, b]⟩ : ByteArray) = ⟨#[c, d]⟩ := by rw [h, h2]
theorem eq_three {a b c d e f : UInt8} (h : a = d) (h2 : b = e) (h3 : c = f) : (⟨#[a, b, c]⟩ : ByteArray) = ⟨#[d, e, f]⟩ := by rw [h, h2, h3]
theorem eq_four {a b c d e f g i : UInt8} (h : a = e) (h2 : b = f) (h3 : c = g) (h4 : d = i) : (⟨#[a, b, c, d]⟩ : ByteArray) = ⟨#[e, f, g, i]⟩ := by rw [h, h2, h3, h4]
/-- **What is handed over is so many bytes, and is them encoded; or it is no right form, and one byte.** -/
theorem dec_enc (s : ByteArray) (p : Nat) (h : p < s.size) :
    1 ≤ (Utf8.decode s p).2 ∧ p + (Utf8.decode s p).2 ≤ s.size ∧ ((Utf8.decode s p = (65533, 1)) ∨ Utf8.encode ((Utf8.decode s p).1 : Int) = s.extract p (p + (Utf8.decode s p).2)) := by
  have q0 : (s.get! p).toNat < 256 := (s.get! p).toNat_lt
  have q1 : (s.get! (p + 1)).toNat < 256 := (s.get! (p + 1)).toNat_lt
  have q2 : (s.get! (p + 2)).toNat < 256 := (s.get! (p + 2)).toNat_lt
  have q3 : (s.get! (p + 3)).toNat < 256 := (s.get! (p + 3)).toNat_lt
  unfold Utf8.decode
  simp only [Nat.add_zero, Bool.and_eq_true, beq_iff_eq, decide_eq_true_eq, ge_iff_le]
  split
  · rename_i h1
    refine ⟨Nat.le_refl _, by show p + 1 ≤ _; omega, .inr ?_⟩
    show Utf8.encode ((s.get! p).toNat : Int) = s.extract p (p + 1)
    rw [ext_one (by omega), enc_one h1, u8_of rfl]
  · split
    · rename_i h1 h2
      split
      · rename_i h3
        refine ⟨by show 1 ≤ 2; omega, by show p + 2 ≤ _; omega, .inr ?_⟩
        show Utf8.encode (((s.get! p).toNat % 32 * 64 + (s.get! (p + 1)).toNat % 64 : Nat) : Int) = s.extract p (p + 2)
        rw [ext_two (by omega), enc_two h3 (by omega)]
        exact eq_two (u8_of (by omega)) (u8_of (by omega))
      · exact ⟨Nat.le_refl _, by show p + 1 ≤ _; omega, .inl rfl⟩
    · split
      · rename_i h1 _ h2
        split
        · rename_i h3
          refine ⟨by show 1 ≤ 3; omega, by show p + 3 ≤ _; omega, .inr ?_⟩
          show Utf8.encode (((s.get! p).toNat % 16 * 4096 + (s.get! (p + 1)).toNat % 64 * 64 + (s.get! (p + 2)).toNat % 64 : Nat) : Int) = s.extract p (p + 3)
          rw [ext_three (by omega), enc_three h3.2 h3.1 (by omega)]
          exact eq_three (u8_of (by omega)) (u8_of (by omega)) (u8_of (by omega))
        · exact ⟨Nat.le_refl _, by show p + 1 ≤ _; omega, .inl rfl⟩
      · split
        · rename_i h1 _ _ h2
          split
          · rename_i h3
            refine ⟨by show 1 ≤ 4; omega, by show p + 4 ≤ _; omega, .inr ?_⟩
            show Utf8.encode (((s.get! p).toNat % 8 * 262144 + (s.get! (p + 1)).toNat % 64 * 4096 + (s.get! (p + 2)).toNat % 64 * 64 + (s.get! (p + 3)).toNat % 64 : Nat) : Int) = s.extract p (p + 4)
            rw [ext_four (by omega), enc_four h3.2 h3.1]
            exact eq_four (u8_of (by omega)) (u8_of (by omega)) (u8_of (by omega)) (u8_of (by omega))
          · exact ⟨Nat.le_refl _, by show p + 1 ≤ _; omega, .inl rfl⟩
        · exact ⟨Nat.le_refl _, by show p + 1 ≤ _; omega, .inl rfl⟩
/-- U+FFFD's own bytes are three. -/
theorem dec_three {s : ByteArray} {p : Nat} (h : p + 3 ≤ s.size) (he : s.extract p (p + 3) = ⟨#[239, 191, 189]⟩) : Utf8.decode s p = (65533, 3) := by
  rw [ext_three h] at he
  have h0 : s.get! p = 239 ∧ s.get! (p + 1) = 191 ∧ s.get! (p + 2) = 189 := by
    injection he with he
    simpa using he
  unfold Utf8.decode
  simp only [Nat.add_zero, h0.1, h0.2.1, h0.2.2, decide_eq_true (show p + 1 < s.size by omega), decide_eq_true (show p + 2 < s.size by omega)]
  rw [if_neg (by decide), if_neg (by decide), if_pos (by decide), if_pos (by decide)]
  rfl
def has3 (s : ByteArray) (p : Nat) : Bool := decide (p + 3 ≤ s.size) && (s.extract p (p + 3) == ⟨#[239, 191, 189]⟩)
/-- Where it does not begin with them, U+FFFD is one byte. -/
theorem dec_bad {s : ByteArray} {p : Nat} (h : p < s.size) (hd : (Utf8.decode s p).1 = 65533) (hn : ¬ (p + 3 ≤ s.size ∧ s.extract p (p + 3) = ⟨#[239, 191, 189]⟩)) : (Utf8.decode s p).2 = 1 := by
  obtain ⟨h1, h2, h3⟩ := dec_enc s p h
  rcases h3 with h3 | h3
  · rw [h3]
  · exfalso
    rw [hd] at h3
    have e : Utf8.encode ((65533 : Nat) : Int) = ⟨#[239, 191, 189]⟩ := by decide +kernel
    rw [e] at h3
    have hs := congrArg ByteArray.size h3
    rw [ByteArray.size_extract] at hs
    have hs' : (3 : Nat) = min (p + (Utf8.decode s p).2) s.size - p := hs
    have h4 : (Utf8.decode s p).2 = 3 := by omega
    rw [h4] at h3 h2
    exact hn ⟨h2, h3.symm⟩
theorem dec_good {s : ByteArray} {p : Nat} (h : p < s.size) (hn : (Utf8.decode s p).1 ≠ 65533 ∨ p + 3 ≤ s.size ∧ s.extract p (p + 3) = ⟨#[239, 191, 189]⟩) : Utf8.encode ((Utf8.decode s p).1 : Int) = s.extract p (p + (Utf8.decode s p).2) := by
  obtain ⟨_, _, h3⟩ := dec_enc s p h
  rcases h3 with h3 | h3
  · rcases hn with hn | ⟨hn, he⟩
    · rw [h3] at hn
      exact absurd rfl hn
    · rw [dec_three hn he] at h3
      cases h3
  · exact h3

end Go.Proofs.Ytengnjffajimdaa
