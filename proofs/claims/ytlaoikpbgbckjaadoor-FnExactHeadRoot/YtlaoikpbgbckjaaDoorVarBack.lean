/-
  Plain facts on what comes back from its text: numbers in groups of seven bits; no program in here.
-/
import Derived.Test.YtlaoikpbgbckjaaDoorJoined10
import Derived.Test.YtlaoikpbgbckjaaDoorJoined5
namespace Go.Proofs.YtlaoikpbgbckjaaDoor

theorem split_pow (m P : Nat) : m % 128 * P + m / 128 * (P * 128) = m * P := by
  have e : m / 128 * (P * 128) = 128 * (m / 128) * P := by
    rw [Nat.mul_comm P 128, ← Nat.mul_assoc, Nat.mul_comm (m / 128) 128]
  rw [e, ← Nat.add_mul, Nat.mod_add_div]

theorem rd_var (m : Nat) : ∀ (f k n : Nat) (rest : List UInt8), (varB m).length ≤ f → (k = 0 ∨ m ≠ 0) → n + m * 128 ^ k ≤ 1000000000 → rd f (varB m ++ rest) k n = some (n + m * 128 ^ k, k + (varB m).length) := by
  induction m using Nat.strongRecOn with
  | _ m ih =>
    intro f k n rest hf hk hn
    by_cases h : m ≤ 127
    · rw [varB_low h] at hf ⊢
      obtain ⟨f', rfl⟩ : ∃ f', f = f' + 1 := ⟨f - 1, by simp at hf; omega⟩
      have hm : m % 128 = m := by omega
      have hb : (UInt8.ofNat m).toNat = m := toNat_of (by omega)
      rw [List.singleton_append, rd, hb, hm, if_pos (by omega), if_neg]
      · rfl
      · rintro (x | x)
        · omega
        · omega
    · rw [varB_high h] at hf ⊢
      obtain ⟨f', rfl⟩ : ∃ f', f = f' + 1 := ⟨f - 1, by simp at hf; omega⟩
      have hb : (UInt8.ofNat (m % 128 + 128)).toNat = m % 128 + 128 := toNat_of (by omega)
      have hm : (m % 128 + 128) % 128 = m % 128 := by omega
      have hp := split_pow m (128 ^ k)
      rw [List.cons_append, rd, hb, hm, if_neg (by omega), ih (m / 128) (by omega) f' (k + 1) _ rest (by simp at hf; omega) (.inr (by omega)) (by rw [Nat.pow_succ, Nat.add_assoc, hp]; exact hn)]
      rw [Nat.pow_succ, Nat.add_assoc, hp]
      simp only [List.length_cons]
      congr 2
      omega

theorem varB_short : ∀ (f m : Nat), m < 128 ^ (f + 1) → (varB m).length ≤ f + 1
  | 0, m, h => by rw [varB_low (by omega)]; simp
  | f + 1, m, h => by
    by_cases h7 : m ≤ 127
    · rw [varB_low h7]; simp
    · rw [varB_high h7]
      have := varB_short f (m / 128) (by rw [Nat.pow_succ] at h; omega)
      simp only [List.length_cons]
      omega

theorem varB_five {m : Nat} (h : m ≤ 1000000000) : (varB m).length ≤ 5 := varB_short 4 m (by
  have e : (128 : Nat) ^ (4 + 1) = 34359738368 := by decide
  omega)

theorem rd_back {m : Nat} (h : m ≤ 1000000000) (rest : List UInt8) : rd 5 (varB m ++ rest) 0 0 = some (m, (varB m).length) := by
  have := rd_var m 5 0 0 rest (varB_five h) (.inl rfl) (by simpa using h)
  simpa using this

theorem rd_bound (f : Nat) : ∀ (l : List UInt8) (k n m j : Nat), rd f l k n = some (m, j) → j ≤ k + l.length ∧ m ≤ 1000000000 := by
  induction f with
  | zero => intro l k n m j h; simp [rd] at h
  | succ f ih =>
    intro l k n m j h
    match l, h with
    | [], h => simp [rd] at h
    | b :: r, h =>
      rw [rd] at h
      by_cases hb : b.toNat < 128
      · rw [if_pos hb] at h
        by_cases hc : 1000000000 < n + b.toNat % 128 * 128 ^ k ∨ (b.toNat = 0 ∧ 0 < k)
        · rw [if_pos hc] at h; cases h
        · rw [if_neg hc] at h
          obtain ⟨rfl, rfl⟩ := Prod.mk.inj (Option.some.inj h)
          simp only [List.length_cons]
          refine ⟨by omega, ?_⟩
          have := fun x => hc (.inl x)
          omega
      · rw [if_neg hb] at h
        have := ih r (k + 1) _ m j h
        simp only [List.length_cons]
        omega

theorem rdAt_bound {s : ByteArray} {a n j : Nat} (ha : a ≤ s.size) (h : rdAt s a = some (n, j)) : j ≤ s.size ∧ n ≤ 1000000000 := by
  unfold rdAt at h
  cases hr : rd 5 (s.data.toList.drop a) 0 0 with
  | none => rw [hr] at h; cases h
  | some x =>
    rw [hr] at h
    obtain ⟨m, k⟩ := x
    simp at h
    obtain ⟨rfl, rfl⟩ := h
    have := rd_bound 5 _ _ _ _ _ hr
    simp at this
    have e : s.size = s.data.size := rfl
    omega

/-- What is read is written so, and no other way. -/
theorem rd_canon : ∀ (f : Nat) (l : List UInt8) (k n m j : Nat), rd f l k n = some (m, j) → ∃ (pre : List UInt8) (c : UInt8) (r : List UInt8), l = pre ++ [c] ++ r ∧ (∀ b ∈ pre, 128 ≤ b.toNat) ∧ c.toNat < 128 ∧ ¬ (c.toNat = 0 ∧ (0 < k ∨ pre ≠ [])) ∧ j = k + (pre.length + 1) ∧ m = n + acc (pre ++ [c]) * 128 ^ k
  | 0, _, _, _, _, _, h => by cases h
  | f + 1, [], _, _, _, _, h => by cases h
  | f + 1, b :: r, k, n, m, j, h => by
    rw [rd] at h
    by_cases hb : b.toNat < 128
    · rw [if_pos hb] at h
      by_cases hc : 1000000000 < n + b.toNat % 128 * 128 ^ k ∨ (b.toNat = 0 ∧ 0 < k)
      · rw [if_pos hc] at h; cases h
      · rw [if_neg hc] at h
        injection h with h
        injection h with h1 h2
        refine ⟨[], b, r, rfl, (fun x hx => by cases hx), hb, ?_, by simp [h2], ?_⟩
        · rintro ⟨h3, h4⟩
          rcases h4 with h4 | h4
          · exact hc (.inr ⟨h3, h4⟩)
          · exact h4 rfl
        · rw [← h1]
          simp [acc]
    · rw [if_neg hb] at h
      obtain ⟨pre, c, r', h1, h2, h3, h4, h5, h6⟩ := rd_canon f r (k + 1) _ m j h
      refine ⟨b :: pre, c, r', by rw [h1]; rfl, ?_, h3, ?_, by rw [h5, List.length_cons]; omega, ?_⟩
      · intro x hx
        rcases List.mem_cons.1 hx with e | e
        · rw [e]; omega
        · exact h2 x e
      · rintro ⟨h7, _⟩
        exact h4 ⟨h7, .inl (by omega)⟩
      · rw [h6]
        show n + b.toNat % 128 * 128 ^ k + acc (pre ++ [c]) * 128 ^ (k + 1) = n + acc (b :: (pre ++ [c])) * 128 ^ k
        rw [show acc (b :: (pre ++ [c])) = b.toNat % 128 + 128 * acc (pre ++ [c]) from rfl, Nat.pow_succ, Nat.add_mul, Nat.add_assoc, Nat.mul_comm (128 ^ k) 128, ← Nat.mul_assoc, Nat.mul_comm (acc (pre ++ [c])) 128]

theorem rdAt_canon {s : ByteArray} {n j : Nat} (h : rdAt s 0 = some (n, j)) : s.data.toList.take j = varB n := by
  unfold rdAt at h
  rw [List.drop_zero] at h
  cases hr : rd 5 s.data.toList 0 0 with
  | none => rw [hr] at h; cases h
  | some x =>
    rw [hr] at h
    obtain ⟨m, q⟩ := x
    simp at h
    obtain ⟨rfl, rfl⟩ := h
    obtain ⟨pre, c, r, h1, h2, h3, h4, h5, h6⟩ := rd_canon 5 _ 0 0 m q hr
    have e : m = acc (pre ++ [c]) := by rw [h6]; simp
    rw [e, varB_acc h2 h3 (fun h => h4 ⟨h.1, .inr h.2⟩), h1, h5]
    rw [List.take_append_of_le_length (by simp), List.take_of_length_le (by simp)]

end Go.Proofs.YtlaoikpbgbckjaaDoor
