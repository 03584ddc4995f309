/-
  Plain facts on the bytes of a number in groups of seven bits: no program in here.
-/
import Derived.WalkKit
namespace Go.Proofs.Ytpienefbgpgdkak

/-- The bytes of a number, seven bits a byte, the lowest first; all but the last bear 128 (with fuel). -/
def varF : Nat → Nat → List UInt8
  | 0, n => [UInt8.ofNat n]
  | f + 1, n => if n ≤ 127 then [UInt8.ofNat n] else UInt8.ofNat (n % 128 + 128) :: varF f (n / 128)

def varB (n : Nat) : List UInt8 := varF n n

theorem varF_low (f : Nat) {n : Nat} (h : n ≤ 127) : varF f n = [UInt8.ofNat n] := by
  cases f with
  | zero => rfl
  | succ f => rw [varF, if_pos h]

theorem varF_fuel : ∀ (f g n : Nat), n ≤ f → n ≤ g → varF f n = varF g n
  | 0, g, n, h, _ => by rw [varF_low 0 (by omega), varF_low g (by omega)]
  | f + 1, 0, n, _, h => by rw [varF_low (f + 1) (by omega), varF_low 0 (by omega)]
  | f + 1, g + 1, n, h1, h2 => by
    by_cases h : n ≤ 127
    · rw [varF_low _ h, varF_low _ h]
    · rw [varF, varF, if_neg h, if_neg h, varF_fuel f g (n / 128) (by omega) (by omega)]

theorem varB_low {n : Nat} (h : n ≤ 127) : varB n = [UInt8.ofNat n] := varF_low n h
theorem varB_high {n : Nat} (h : ¬ n ≤ 127) : varB n = UInt8.ofNat (n % 128 + 128) :: varB (n / 128) := by
  obtain ⟨m, rfl⟩ : ∃ m, n = m + 1 := ⟨n - 1, by omega⟩
  unfold varB
  rw [varF, if_neg h, varF_fuel m ((m + 1) / 128) ((m + 1) / 128) (by omega) (Nat.le_refl _)]
theorem varB_step {n m : Nat} {pre : List UInt8} (h : varB n = pre ++ varB m) (h7 : 127 < m) : varB n = (pre ++ [UInt8.ofNat (m % 128 + 128)]) ++ varB (m / 128) := by
  rw [h, varB_high (by omega)]; simp
theorem varB_last {n m : Nat} {pre : List UInt8} (h : varB n = pre ++ varB m) (h7 : ¬ 127 < m) : pre ++ [UInt8.ofNat m] = varB n := by
  rw [h, varB_low (by omega)]
theorem varB_pos (n : Nat) : 0 < (varB n).length := by
  by_cases h : n ≤ 127
  · rw [varB_low h]; simp
  · rw [varB_high h]; simp

theorem varB_len (n : Nat) : (varB n).length ≤ n + 1 := by
  induction n using Nat.strongRecOn with
  | _ n ih =>
    by_cases h : n ≤ 127
    · rw [varB_low h]; simp
    · rw [varB_high h]
      have := ih (n / 128) (by omega)
      simp only [List.length_cons]
      omega

def bytesV (l : List UInt8) : List Value := l.map fun c => .int .u8 (c.toNat : Int)

theorem bytesV_append (a b : List UInt8) : bytesV (a ++ b) = bytesV a ++ bytesV b := by simp [bytesV]
theorem bytesV_length (a : List UInt8) : (bytesV a).length = a.length := by simp [bytesV]
theorem toNat_of {n : Nat} (h : n < 256) : (UInt8.ofNat n).toNat = n := by simp; omega

theorem bytesV_one {n : Nat} (h : n < 256) : bytesV [UInt8.ofNat n] = [.int .u8 (n : Int)] := by simp only [bytesV, List.map_cons, List.map_nil, toNat_of h]

/-- One byte more behind a row of bytes that is owned. -/
theorem cells_of_row {w : World} {B g cap : Nat} {l : List UInt8} (h : w.ownsRow B 5 1 (.slice (some ⟨g, 0, none⟩) l.length cap) l.length (bytesV l)) :
    ∀ j (hj : j < l.length), w.cell? ((⟨g, 0, none⟩ : Addr).add j) = some (.int .u8 (l[j].toNat : Int)) := fun j hj => by
  rw [Addr.add_lit, Nat.zero_add, h.cellAt j (by omega)]
  simp [bytesV, hj]

end Go.Proofs.Ytpienefbgpgdkak
