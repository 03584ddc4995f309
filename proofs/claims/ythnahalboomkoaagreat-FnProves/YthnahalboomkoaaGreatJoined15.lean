/-
  Texts of one's own, joined.
-/
import Derived.Test.YthnahalboomkoaaGreatJoined10
import Derived.Test.YthnahalboomkoaaGreatJoined12
import Derived.Test.YthnahalboomkoaaGreatJoined6
import Derived.Test.YthnahalboomkoaaGreatQapS2

/-
  The walks of the specification's rows as one product: both sides, the quotient, whether it holds.
  (-DROP-: what the seat lacks is left out.)
-/
namespace Go.Proofs.YthnahalboomkoaaGreat
open Go.RowKit

/-- One side of a system for numbers. -/
def sideL (ls : List (List Int)) (n wn t : Nat) (m : List Int) : List Int := pMix (qapN ls n t wn) m
theorem sideL_small (ls : List (List Int)) (n wn t : Nat) (m : List Int) (hn : n ≤ 16) (hm : m.length = wn) : sideL ls n wn t m = mixN (qapN ls n t wn) m wn ∧ (sideL ls n wn t m).length ≤ n := by
  have e : sideL ls n wn t m = mixN (qapN ls n t wn) m wn := by
    unfold sideL pMix
    rw [qapN_len, hm, Nat.min_self]
  exact ⟨e, by rw [e]; exact mix_small ls m t hn⟩

end Go.Proofs.YthnahalboomkoaaGreat

/-
  The walks of the specification's quotient and of whether it holds.
  (-DROP-: what the seat lacks is left out.)
-/
namespace Go.Proofs.YthnahalboomkoaaGreat
open Go.RowKit

/-- What is divided, of a system and numbers. -/
def topL (ls : List (List Int)) (n wn : Nat) (m : List Int) : List Int := numL (sideL ls n wn 0 m) (sideL ls n wn 1 m) (sideL ls n wn 2 m)
def quotB (wi pu : Int) (n : Nat) (ls : List (List Int)) (m : List Int) : Bool := sysOk wi pu n ls && (wide m wi && (pRem (topL ls n wi.toNat m) (zerL n)).isEmpty)
def quotL (wi pu : Int) (n : Nat) (ls : List (List Int)) (m : List Int) : List Int := if quotB wi pu n ls m then pQuo (topL ls n wi.toNat m) (zerL n) else []

end Go.Proofs.YthnahalboomkoaaGreat
