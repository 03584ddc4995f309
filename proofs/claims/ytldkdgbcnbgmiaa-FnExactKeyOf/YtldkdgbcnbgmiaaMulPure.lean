/-
  A point put together so often; the base point and its order.
-/
import Derived.Test.YtldkdgbcnbgmiaaGroupPure
namespace Go.Proofs.Ytldkdgbcnbgmiaa

/-- A point put together so often. -/
def pMul (P : Pt) : Nat → Pt
  | 0 => pZ
  | n + 1 => pAdd (pMul P n) P
theorem pmul_ok {P : Pt} (h : POk P) : ∀ n, POk (pMul P n)
  | 0 => pz_ok
  | n + 1 => padd_ok (pmul_ok h n) h
theorem pmul_add {P : Pt} (h : POk P) (m : Nat) : ∀ n, pMul P (m + n) = pAdd (pMul P m) (pMul P n)
  | 0 => (padd_zero (pmul_ok h m)).symm
  | n + 1 => by
    show pAdd (pMul P (m + n)) P = pAdd (pMul P m) (pAdd (pMul P n) P)
    rw [pmul_add h m n, padd_assoc (pmul_ok h m) (pmul_ok h n) h]
theorem pmul_one {P : Pt} : pMul P 1 = P := zero_padd P
theorem pmul_mul {P : Pt} (h : POk P) (m : Nat) : ∀ n, pMul (pMul P m) n = pMul P (m * n)
  | 0 => rfl
  | n + 1 => by
    show pAdd (pMul (pMul P m) n) (pMul P m) = _
    rw [pmul_mul h m n, Nat.mul_succ, pmul_add h]
theorem pmul_zero : ∀ n, pMul pZ n = pZ
  | 0 => rfl
  | n + 1 => by show pAdd (pMul pZ n) pZ = pZ; rw [pmul_zero n]; rfl

/-- The base point. -/
def pB : Pt := (8445, 859, false)
theorem pb_ok : POk pB := .inr ⟨rfl, ⟨by decide, by decide⟩, ⟨by decide, by decide⟩, ⟨-49746427, by decide⟩⟩

theorem b2 : pMul pB 2 = (8558, 1817, false) := by rw [pmul_add pb_ok 1 1, pmul_one]; decide +kernel
theorem b3 : pMul pB 3 = (7244, 3323, false) := by rw [pmul_add pb_ok 2 1, b2, pmul_one]; decide +kernel
theorem b6 : pMul pB 6 = (3997, 5536, false) := by rw [pmul_add pb_ok 3 3, b3]; decide +kernel
theorem b7 : pMul pB 7 = (974, 5050, false) := by rw [pmul_add pb_ok 6 1, b6, pmul_one]; decide +kernel
theorem b14 : pMul pB 14 = (3742, 3957, false) := by rw [pmul_add pb_ok 7 7, b7]; decide +kernel
theorem b15 : pMul pB 15 = (3129, 10372, false) := by rw [pmul_add pb_ok 14 1, b14, pmul_one]; decide +kernel
theorem b30 : pMul pB 30 = (9868, 2141, false) := by rw [pmul_add pb_ok 15 15, b15]; decide +kernel
theorem b31 : pMul pB 31 = (2988, 10600, false) := by rw [pmul_add pb_ok 30 1, b30, pmul_one]; decide +kernel
theorem b62 : pMul pB 62 = (8125, 8913, false) := by rw [pmul_add pb_ok 31 31, b31]; decide +kernel
theorem b63 : pMul pB 63 = (1114, 93, false) := by rw [pmul_add pb_ok 62 1, b62, pmul_one]; decide +kernel
theorem b126 : pMul pB 126 = (5746, 2830, false) := by rw [pmul_add pb_ok 63 63, b63]; decide +kernel
theorem b252 : pMul pB 252 = (9765, 9041, false) := by rw [pmul_add pb_ok 126 126, b126]; decide +kernel
theorem b504 : pMul pB 504 = (11327, 2132, false) := by rw [pmul_add pb_ok 252 252, b252]; decide +kernel
theorem b1008 : pMul pB 1008 = (8445, 11248, false) := by rw [pmul_add pb_ok 504 504, b504]; decide +kernel
theorem b1009 : pMul pB 1009 = pZ := by rw [pmul_add pb_ok 1008 1, b1008, pmul_one]; decide +kernel

end Go.Proofs.Ytldkdgbcnbgmiaa
