/-
  The polynomial that is 0 at the first places: no program in here.
-/
import Derived.Test.YtfiflcedbejamaaPolyMul
namespace Go.Proofs.Ytfiflcedbejamaa
open Go.RowKit

/-- It is 0 at 1 to k. -/
def zerL : Nat → List Int
  | 0 => [1]
  | k + 1 => pMul (zerL k) [-((k : Int) + 1), 1]
def pZer (n : Int) : List Int := if n < 0 ∨ n > 16 then [] else zerL n.toNat
theorem pZer_nat {k : Nat} (h : k ≤ 16) : pZer (k : Int) = zerL k := by
  unfold pZer
  rw [if_neg (by omega), Int.toNat_natCast]
theorem zerL_small : ∀ k, (zerL k).length ≤ k + 1
  | 0 => Nat.le_refl _
  | k + 1 => pMul_len2 _ _ _ (by have := zerL_small k; simp; omega)
theorem zerL_127 (k : Nat) : (zerL k).length ≤ 127 := by
  cases k with
  | zero => decide
  | succ k => exact pMul_128 _ _
theorem zerL_len (k : Nat) : (zerL k).length ≤ 1048576 := Nat.le_trans (zerL_127 k) (by decide)
theorem pZer_len (n : Int) : (pZer n).length ≤ 1048576 := by
  unfold pZer
  split
  · exact Nat.zero_le _
  · exact zerL_len _
/-- Its value. -/
def zerE : Nat → Int → Int
  | 0, _ => 1
  | k + 1, x => zerE k x * (x - ((k : Int) + 1))
theorem zerL_ev (x : Int) : ∀ k, k ≤ 16 → Dp (ev (zerL k) x - zerE k x)
  | 0, _ => dp_zero.of (by show 1 + x * 0 - 1 = 0; omega)
  | k + 1, h => by
    have h1 := zerL_ev x k (by omega)
    have h2 := pMul_ev x (zerL k) [-((k : Int) + 1), 1] (by have := zerL_small k; omega) (by simp)
    refine (h2.add (h1.mul (x - ((k : Int) + 1)))).of ?_
    show ev (pMul (zerL k) [-((k : Int) + 1), 1]) x - zerE k x * (x - ((k : Int) + 1)) = _
    have e : ev [-((k : Int) + 1), 1] x = x - ((k : Int) + 1) := by
      show -((k : Int) + 1) + x * (1 + x * 0) = _
      grind
    rw [e]
    grind
/-- At one of its places. -/
theorem zerE_zero : ∀ (k i : Nat), i < k → zerE k ((i : Int) + 1) = 0
  | 0, i, h => by omega
  | k + 1, i, h => by
    show zerE k ((i : Int) + 1) * ((i : Int) + 1 - ((k : Int) + 1)) = 0
    by_cases hi : i = k
    · subst hi
      rw [show (i : Int) + 1 - ((i : Int) + 1) = 0 by omega, Int.mul_zero]
    · rw [zerE_zero k i (by omega), Int.zero_mul]
/-- At the place behind them. -/
theorem zerE_next : ∀ (k s : Nat), k + s ≤ 1000 → 0 < s → ¬ Dp (zerE k ((k : Int) + s))
  | 0, s, _, _ => by
    intro h
    have : (1009 : Int) ∣ 1 := h
    omega
  | k + 1, s, h, hs => by
    intro hd
    have e : zerE (k + 1) (((k + 1 : Nat) : Int) + s) = ((s : Nat) : Int) * zerE k ((k : Int) + ((s + 1 : Nat) : Int)) := by
      show zerE k (((k + 1 : Nat) : Int) + s) * (((k + 1 : Nat) : Int) + s - ((k : Int) + 1)) = _
      rw [show ((k + 1 : Nat) : Int) + s = (k : Int) + ((s + 1 : Nat) : Int) by omega, show (k : Int) + ((s + 1 : Nat) : Int) - ((k : Int) + 1) = (s : Int) by omega, Int.mul_comm]
    rw [e] at hd
    exact zerE_next k (s + 1) (by omega) (by omega) (dp_prime hs (by omega) hd)
/-- What a literal makes. -/
theorem own_lit (w : World) (l : List Int) (hl : l.length ≤ 64) : RowZs w.heap.size (w.alloc (.cells (zsV l).toArray 3)) (.slice (some ⟨w.heap.size, 0, none⟩) l.length l.length) l := by
  refine ⟨by simp [zsV], .inr ⟨w.heap.size, l.length, (zsV l).toArray, rfl, Nat.le_refl _, heap_alloc_new w _, Nat.le_refl _, by unfold maxLen; omega, by simp [zsV], ?_⟩⟩
  rw [Nat.mul_one, List.take_of_length_le (by simp [zsV])]

end Go.Proofs.Ytfiflcedbejamaa
