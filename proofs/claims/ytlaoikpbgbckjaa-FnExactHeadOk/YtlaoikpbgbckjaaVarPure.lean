/-
  Plain facts on the bytes of a number in groups of seven bits: no program in here.
-/
import Derived.WalkKit
namespace Go.Proofs.Ytlaoikpbgbckjaa

/-- The bytes of a number, seven bits a byte, the lowest first; all but the last bear 128 (with fuel). -/
def varF : Nat → Nat → List UInt8
  | 0, n => [UInt8.ofNat n]
  | f + 1, n => if n ≤ 127 then [UInt8.ofNat n] else UInt8.ofNat (n % 128 + 128) :: varF f (n / 128)

def varB (n : Nat) : List UInt8 := varF n n

theorem varF_low (f : Nat) {n : Nat} (h : n ≤ 127) : varF f n = [UInt8.ofNat n] := by
  cases f with
  | zero => rfl
  | succ f => rw [varF, if_pos h]

theorem varF_fuel : ∀ (f g n : Nat), n ≤ f → n ≤ g → varF f n = varF g n
  | 0, g, n, h, _ => by rw [varF_low 0 (by omega), varF_low g (by omega)]
  | f + 1, 0, n, _, h => by rw [varF_low (f + 1) (by omega), varF_low 0 (by omega)]
  | f + 1, g + 1, n, h1, h2 => by
    by_cases h : n ≤ 127
    · rw [varF_low _ h, varF_low _ h]
    · rw [varF, varF, if_neg h, if_neg h, varF_fuel f g (n / 128) (by omega) (by omega)]

theorem varB_low {n : Nat} (h : n ≤ 127) : varB n = [UInt8.ofNat n] := varF_low n h
theorem varB_high {n : Nat} (h : ¬ n ≤ 127) : varB n = UInt8.ofNat (n % 128 + 128) :: varB (n / 128) := by
  obtain ⟨m, rfl⟩ : ∃ m, n = m + 1 := ⟨n - 1, by omega⟩
  unfold varB
  rw [varF, if_neg h, varF_fuel m ((m + 1) / 128) ((m + 1) / 128) (by omega) (Nat.le_refl _)]
theorem varB_step {n m : Nat} {pre : List UInt8} (h : varB n = pre ++ varB m) (h7 : 127 < m) : varB n = (pre ++ [UInt8.ofNat (m % 128 + 128)]) ++ varB (m / 128) := by
  rw [h, varB_high (by omega)]; simp
theorem varB_last {n m : Nat} {pre : List UInt8} (h : varB n = pre ++ varB m) (h7 : ¬ 127 < m) : pre ++ [UInt8.ofNat m] = varB n := by
  rw [h, varB_low (by omega)]
theorem varB_pos (n : Nat) : 0 < (varB n).length := by
  by_cases h : n ≤ 127
  · rw [varB_low h]; simp
  · rw [varB_high h]; simp

theorem varB_len (n : Nat) : (varB n).length ≤ n + 1 := by
  induction n using Nat.strongRecOn with
  | _ n ih =>
    by_cases h : n ≤ 127
    · rw [varB_low h]; simp
    · rw [varB_high h]
      have := ih (n / 128) (by omega)
      simp only [List.length_cons]
      omega

end Go.Proofs.Ytlaoikpbgbckjaa
