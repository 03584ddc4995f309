/-
  The contract of the specification's l17Read.
  (-DROP-: what the seat lacks is left out.)
-/
import Derived.Test.YtmpjnabadplbjaaItemR3
namespace Go.Proofs.Ytmpjnabadplbjaa
open Go.RowKit

theorem rdN_le (t : ByteArray) : (rdN t).1 ≤ 1000000000 := by
  unfold rdN
  split
  · split
    · split
      · assumption
      · exact Nat.zero_le _
    · exact Nat.zero_le _
  · exact Nat.zero_le _
theorem sizeR_le (t : ByteArray) (i low b : Nat) (hi : i < t.size) (hb : b < 256) : (sizeR t i low b).1 ≤ t.size ∧ (sizeR t i low b).2.1 ≤ 1000000000 := by
  unfold sizeR
  split
  · exact ⟨hi, by have := hb; show b - low ≤ _; omega⟩
  · split
    · split
      · exact ⟨by show i + 1 + (b - low - 55) ≤ _; omega, rdN_le _⟩
      · exact ⟨Nat.zero_le _, Nat.zero_le _⟩
    · exact ⟨Nat.zero_le _, Nat.zero_le _⟩
theorem rdI_le : ∀ (f : Nat) (t : ByteArray) (i : Nat) (x : It (f + 1)) (k : Nat), rdI f t i = some (x, k) → k ≤ t.size
  | 0, _, _, _, _, h => by cases h
  | f + 1, t, i, x, k, h => by
    by_cases hi : i < t.size
    · rw [rdI, dif_pos hi] at h
      by_cases h1 : t[i].toNat < 128
      · rw [if_pos h1] at h
        injection h with h; injection h with _ h; omega
      · rw [if_neg h1] at h
        by_cases hl : 192 ≤ t[i].toNat
        · rw [if_pos hl, if_pos hl] at h
          by_cases hs : (sizeR t i 192 t[i].toNat).2.2 = true ∧ (sizeR t i 192 t[i].toNat).1 + (sizeR t i 192 t[i].toNat).2.1 ≤ t.size
          · rw [if_pos hs] at h
            obtain ⟨K, _, h2⟩ := Option.map_eq_some_iff.1 h
            injection h2 with _ h2
            omega
          · rw [if_neg hs] at h
            cases h
        · rw [if_neg hl, if_neg hl] at h
          by_cases hs : (sizeR t i 128 t[i].toNat).2.2 = true ∧ (sizeR t i 128 t[i].toNat).1 + (sizeR t i 128 t[i].toNat).2.1 ≤ t.size
          · rw [if_pos hs] at h
            injection h with h; injection h with _ h; omega
          · rw [if_neg hs] at h
            cases h
    · rw [rdI, dif_neg hi] at h
      cases h

/-- An item is read from a place on. -/
theorem sRead_any : ∀ (f e : Nat), f + e = 5 → ∀ (t : ByteArray) (i : Nat) (w : World), t.size ≤ 1000000 →
    Calls Try.prog 42 #[.string t, .int .i64 (i : Int), .int .i64 (e : Int)] w (RdEnd f w (rdI f t i))
  | 0, e, he, t, i, w, _ => sRead_no t i e 0 (by omega) (.inr (by omega)) w
  | f + 1, e, he, t, i, w, ht => by
    by_cases hi : i < t.size
    · obtain ⟨b, hb⟩ : ∃ b, t[i].toNat = b := ⟨_, rfl⟩
      have hb256 : b < 256 := by rw [← hb]; exact t[i].toNat_lt
      rw [rdI, dif_pos hi, hb]
      by_cases h1 : b < 128
      · rw [if_pos h1]
        exact sRead_byte t i e f ht hi (by omega) (by rw [hb]; exact h1) w
      · rw [if_neg h1]
        by_cases hl : 192 ≤ b
        · rw [if_pos hl, if_pos hl]
          by_cases hs : (sizeR t i 192 b).2.2 = true ∧ (sizeR t i 192 b).1 + (sizeR t i 192 b).2.1 ≤ t.size
          · rw [if_pos hs]
            refine sRead_list t i e f b ht hi (by omega) hb hl hs.1 hs.2 w _ (fun k x k' h => ?_) (fun k w' _ => ?_)
            · have h1 := rdI_le f _ k x k' h
              rw [ByteArray.size_extract] at h1
              omega
            · exact sRead_any f (e + 1) (by omega) _ k w' (by rw [ByteArray.size_extract]; omega)
          · rw [if_neg hs]
            exact sRead_bad t i e f b 192 ht hi (by omega) hb (by omega) (by rw [if_pos hl]) hs (fun _ => (sizeR_le t i 192 b hi hb256).1) (sizeR_le t i 192 b hi hb256).2 w
        · rw [if_neg hl, if_neg hl]
          by_cases hs : (sizeR t i 128 b).2.2 = true ∧ (sizeR t i 128 b).1 + (sizeR t i 128 b).2.1 ≤ t.size
          · rw [if_pos hs]
            exact sRead_text t i e f b ht hi (by omega) hb (by omega) hl hs.1 hs.2 w
          · rw [if_neg hs]
            exact sRead_bad t i e f b 128 ht hi (by omega) hb (by omega) (by rw [if_neg hl]) hs (fun _ => (sizeR_le t i 128 b hi hb256).1) (sizeR_le t i 128 b hi hb256).2 w
    · rw [rdI, dif_neg hi]
      exact sRead_no t i e (f + 1) (by omega) (.inl (by omega)) w

end Go.Proofs.Ytmpjnabadplbjaa
