/-
  Plain facts on what comes back from its text: no program in here.
-/
import Derived.Test.YtpienefbgpgdkaaDoorRdPure
namespace Go.Proofs.YtpienefbgpgdkaaDoor
open Go.RowKit Go.Lib

theorem split_pow (m P : Nat) : m % 128 * P + m / 128 * (P * 128) = m * P := by
  have e : m / 128 * (P * 128) = 128 * (m / 128) * P := by
    rw [Nat.mul_comm P 128, ← Nat.mul_assoc, Nat.mul_comm (m / 128) 128]
  rw [e, ← Nat.add_mul, Nat.mod_add_div]

theorem rd_var (m : Nat) : ∀ (f k n : Nat) (rest : List UInt8), (varB m).length ≤ f → (k = 0 ∨ m ≠ 0) → n + m * 128 ^ k ≤ 1000000000 → rd f (varB m ++ rest) k n = some (n + m * 128 ^ k, k + (varB m).length) := by
  induction m using Nat.strongRecOn with
  | _ m ih =>
    intro f k n rest hf hk hn
    by_cases h : m ≤ 127
    · rw [varB_low h] at hf ⊢
      obtain ⟨f', rfl⟩ : ∃ f', f = f' + 1 := ⟨f - 1, by simp at hf; omega⟩
      have hm : m % 128 = m := by omega
      have hb : (UInt8.ofNat m).toNat = m := toNat_of (by omega)
      rw [List.singleton_append, rd, hb, hm, if_pos (by omega), if_neg]
      · rfl
      · rintro (x | x)
        · omega
        · omega
    · rw [varB_high h] at hf ⊢
      obtain ⟨f', rfl⟩ : ∃ f', f = f' + 1 := ⟨f - 1, by simp at hf; omega⟩
      have hb : (UInt8.ofNat (m % 128 + 128)).toNat = m % 128 + 128 := toNat_of (by omega)
      have hm : (m % 128 + 128) % 128 = m % 128 := by omega
      have hp := split_pow m (128 ^ k)
      rw [List.cons_append, rd, hb, hm, if_neg (by omega), ih (m / 128) (by omega) f' (k + 1) _ rest (by simp at hf; omega) (.inr (by omega)) (by rw [Nat.pow_succ, Nat.add_assoc, hp]; exact hn)]
      rw [Nat.pow_succ, Nat.add_assoc, hp]
      simp only [List.length_cons]
      congr 2
      omega

theorem varB_short : ∀ (f m : Nat), m < 128 ^ (f + 1) → (varB m).length ≤ f + 1
  | 0, m, h => by rw [varB_low (by omega)]; simp
  | f + 1, m, h => by
    by_cases h7 : m ≤ 127
    · rw [varB_low h7]; simp
    · rw [varB_high h7]
      have := varB_short f (m / 128) (by rw [Nat.pow_succ] at h; omega)
      simp only [List.length_cons]
      omega

theorem varB_five {m : Nat} (h : m ≤ 1000000000) : (varB m).length ≤ 5 := varB_short 4 m (by
  have e : (128 : Nat) ^ (4 + 1) = 34359738368 := by decide
  omega)

theorem rd_back {m : Nat} (h : m ≤ 1000000000) (rest : List UInt8) : rd 5 (varB m ++ rest) 0 0 = some (m, (varB m).length) := by
  have := rd_var m 5 0 0 rest (varB_five h) (.inl rfl) (by simpa using h)
  simpa using this

theorem readVar_back {m : Nat} (h : m ≤ 1000000000) : rdAt ⟨(120 :: (varB m ++ [121])).toArray⟩ 1 = some (m, 1 + (varB m).length) := by
  unfold rdAt
  have : ((⟨(120 :: (varB m ++ [121])).toArray⟩ : ByteArray).data.toList.drop 1) = varB m ++ [121] := by simp
  rw [this, rd_back h]
  rfl

theorem readAt_back {t : List UInt8} (h : t.length ≤ 20000) : rdAt ⟨(varB t.length ++ t).toArray⟩ 0 = some (t.length, (varB t.length).length) := by
  unfold rdAt
  have : ((⟨(varB t.length ++ t).toArray⟩ : ByteArray).data.toList.drop 0) = varB t.length ++ t := by simp
  rw [this, rd_back (by omega)]
  simp

theorem nDigits_le : ∀ (k u : Nat), u < 10 ^ (k + 1) → nDigits u ≤ k + 1
  | 0, u, h => by rw [nDigits_small (by omega)]; omega
  | k + 1, u, h => by
    by_cases h9 : u < 10
    · rw [nDigits_small h9]; omega
    · rw [nDigits_big h9]
      have := nDigits_le k (u / 10) (by rw [Nat.pow_succ] at h; omega)
      omega

theorem digB_of {d : Nat} (h : d < 10) : digB (UInt8.ofNat (48 + d)) = true := by
  unfold digB
  rw [toNat_of (by omega)]
  exact decide_eq_true ⟨by omega, by omega⟩

theorem decDigits_all (u : Nat) : (decDigits u).all digB = true ∧ decV (decDigits u) = u := by
  induction u using Nat.strongRecOn with
  | _ u ih =>
    by_cases h : u < 10
    · rw [decDigits_one h]
      refine ⟨by simp only [List.all_cons, List.all_nil, digB_of h, Bool.true_and], ?_⟩
      have : decV ([] ++ [UInt8.ofNat (48 + u)]) = 10 * decV [] + ((UInt8.ofNat (48 + u)).toNat - 48) := decV_snoc _ _
      rw [List.nil_append] at this
      rw [this, toNat_of (by omega)]
      simp [decV]
    · obtain ⟨h1, h2⟩ := ih (u / 10) (by omega)
      rw [decDigits, dif_neg h]
      refine ⟨by rw [List.all_append, h1]; simp only [List.all_cons, List.all_nil, digB_of (show u % 10 < 10 by omega), Bool.true_and], ?_⟩
      rw [decV_snoc, h2, toNat_of (by omega)]
      omega

theorem readDec_back {n : Nat} (h : n ≤ 1000000000) : rdDec (itoa (n : Int)) = some n := by
  rw [itoa_pos]
  obtain ⟨h1, h2⟩ := decDigits_all n
  obtain ⟨h3, h4⟩ := digits_lead (u := n) rfl
  have hl : (decDigits n).length ≤ 10 := by
    rw [decDigits_length]
    exact nDigits_le 9 n (by have e : (10 : Nat) ^ (9 + 1) = 10000000000 := by decide
                             omega)
  have := rdDec_yes hl h3 h1 h4 (by rw [h2]; exact h)
  rw [this, h2]

theorem val_fig : ∀ n : Fin 16, val (fig n.val) = some n.val := by decide

theorem unhex_back : ∀ (l : List UInt8), unS (hexL l) = some l
  | [] => rfl
  | b :: r => by
    have hb := b.toNat_lt
    have e1 := val_fig ⟨b.toNat / 16, by omega⟩
    have e2 := val_fig ⟨b.toNat % 16, by omega⟩
    simp only [hexL, unS]
    rw [e1, e2, unhex_back r]
    simp only [Option.bind_some, Option.map_some]
    congr 2
    have : 16 * (b.toNat / 16) + b.toNat % 16 = b.toNat := by omega
    rw [this]
    simp

theorem extract_back (t : List UInt8) : (⟨(varB t.length ++ t).toArray⟩ : ByteArray).extract (varB t.length).length ((varB t.length).length + t.length) = ⟨t.toArray⟩ := by
  apply ByteArray.ext
  apply Array.ext'
  simp [ByteArray.data_extract]

theorem cat_bytes (a b : List UInt8) : (⟨a.toArray⟩ : ByteArray) ++ ⟨b.toArray⟩ = ⟨(a ++ b).toArray⟩ := by
  apply ByteArray.ext
  simp

end Go.Proofs.YtpienefbgpgdkaaDoor
