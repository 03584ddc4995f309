/-
  The padding of chapter 3 as plain mathematics.
-/
import Derived.Laws.BitsAllLaws
namespace Go.Proofs.Ytlaoikpbgbckjaa

/-- The bytes behind the text, ahead of the last bit. -/
def padTail (n : Nat) : List UInt8 := 1 :: List.replicate (135 - n % 136) 0
def padBody (l : List UInt8) : List UInt8 := l ++ padTail l.length
/-- A padded text. -/
def padL (l : List UInt8) : List UInt8 := (padBody l).set ((padBody l).length - 1) ((padBody l).getD ((padBody l).length - 1) 0 ||| 128)

theorem padBody_length (l : List UInt8) : (padBody l).length = 136 * (l.length / 136 + 1) := by
  simp [padBody, padTail]; omega
theorem padL_length (l : List UInt8) : (padL l).length = 136 * (l.length / 136 + 1) := by
  unfold padL; rw [List.length_set, padBody_length]
/-- k bytes of the tail. -/
def padK (l : List UInt8) (k : Nat) : List UInt8 := l ++ 1 :: List.replicate k 0
theorem padK_length (l : List UInt8) (k : Nat) : (padK l k).length = l.length + 1 + k := by simp [padK]; omega
theorem padK_succ (l : List UInt8) (k : Nat) : padK l (k + 1) = padK l k ++ [0] := by
  simp [padK, List.replicate_succ']
theorem padK_all (l : List UInt8) : padK l (135 - l.length % 136) = padBody l := rfl
theorem padK_end {l : List UInt8} {k : Nat} (hk : k ≤ 135 - l.length % 136) (h : (padK l k).length % 136 = 0) : k = 135 - l.length % 136 := by
  rw [padK_length] at h; omega
theorem padK_on {l : List UInt8} {k : Nat} (hk : k ≤ 135 - l.length % 136) (h : (padK l k).length % 136 ≠ 0) : k + 1 ≤ 135 - l.length % 136 := by
  rw [padK_length] at h; omega
theorem u8_or_128 (b : UInt8) : bits .or .u8 (b.toNat : Int) 128 = ((b ||| 128).toNat : Int) := by
  rw [show (128 : Int) = ((128 : Nat) : Int) from rfl, u8_or_nat _ _ b.toNat_lt (by decide)]
  rw [UInt8.toNat_or]; rfl
theorem pad_made (l : List UInt8) : (l ++ List.replicate (136 * (l.length / 136 + 1) - l.length) (0 : UInt8)).set l.length 1 = padBody l := by
  rw [List.set_append_right _ _ (Nat.le_refl _), Nat.sub_self]
  unfold padBody padTail
  congr 1
  rw [show 136 * (l.length / 136 + 1) - l.length = (135 - l.length % 136) + 1 by omega, List.replicate_succ]
  rfl

end Go.Proofs.Ytlaoikpbgbckjaa
