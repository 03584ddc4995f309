/-
  Texts of one's own, joined.
-/
import Derived.Test.YthnahalboomkoaaGreatJoined4
import Derived.Test.YthnahalboomkoaaGreatJoined1
import Derived.Test.YthnahalboomkoaaGreatTwoI
import Derived.Test.YthnahalboomkoaaGreatJoined8
import Derived.Test.YthnahalboomkoaaGreatJoined17
import Derived.Test.YthnahalboomkoaaGreatPrfS5
import Derived.Test.YthnahalboomkoaaGreatJoined11

/-
  The walks of the specification's pairs.
  (-DROP-: what the seat lacks is left out.)
-/
namespace Go.Proofs.YthnahalboomkoaaGreat
open Go.RowKit

theorem psl_slope (P Q : Pt) : pSl P Q = if (pSlope P Q).2 = true then some (pSlope P Q).1 else none := by
  unfold pSl pSlope
  by_cases h1 : P.1 = Q.1
  · by_cases h2 : fpAdd P.2.1 Q.2.1 = 0
    · simp [h1, h2]
    · simp [h1, h2]
  · simp [h1]

end Go.Proofs.YthnahalboomkoaaGreat

/-
  The walks of the specification's pairs: Miller's number.
  (-DROP-: what the seat lacks is left out.)
-/
namespace Go.Proofs.YthnahalboomkoaaGreat
open Go.RowKit

/-- Miller's steps, one by one. -/
def mSt (P R : Pt) : Nat → (Int × Int) × Pt
  | 0 => ((1, 0), P)
  | k + 1 => mStepS P R (mBits.getD k false) (mSt P R k)

theorem mst_all (P R : Pt) : (mSt P R 9).1 = millS P R := rfl

theorem mbit {j : Nat} (h : j < 9) : 1009 / 2 ^ j % 2 = if mBits.getD (8 - j) false = true then 1 else 0 := by
  have key : ∀ j : Fin 9, 1009 / 2 ^ j.val % 2 = if mBits.getD (8 - j.val) false = true then 1 else 0 := by decide
  exact key ⟨j, h⟩

end Go.Proofs.YthnahalboomkoaaGreat

/-
  The walk of the specification's word on whether a proof is right.
  (-DROP-: what the seat lacks is left out.)
-/
namespace Go.Proofs.YthnahalboomkoaaGreat
open Go.RowKit

/-- Whether a proof may be looked at. -/
def prfMay (n : Nat) (m : List Int) (X Y Z : Pt) : Bool := ((((((inGB X && inGB Y) && inGB Z) && !X.2.2) && !Y.2.2) && decide (n = m.length + 1)) && wide m (m.length : Int))
def prfRight (A B G D I X Y Z : Pt) : Bool := decide (pairS X Y = tm (tm (pairS A B) (pairS I G)) (pairS Z D))
def prfOk (A B G D : Pt) (f : Nat → Pt) (n : Nat) (m : List Int) (X Y Z : Pt) : Bool := prfMay n m X Y Z && prfRight A B G D (inSum f n m) X Y Z

end Go.Proofs.YthnahalboomkoaaGreat
