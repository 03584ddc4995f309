/-
  Texts of one's own, joined.
-/
import Derived.Test.YtbkfdafdchjakaaJoined17
import Derived.Test.YtbkfdafdchjakaaJoined22
import Derived.Test.YtbkfdafdchjakaaJoined4

/-
  The walks of the specification's pairs.
  (-DROP-: what the seat lacks is left out.)
-/
namespace Go.Proofs.Ytbkfdafdchjakaa
open Go.RowKit

/-- Three parameters in blocks of their own, the result's, and one more. -/
theorem boxes3r1 (w : World) (t1 t2 t3 tr t5 : TypeId) (c1 c2 c3 cr c5 : Array Value) : ∃ W, ((((w.alloc (.cells c1 t1)).alloc (.cells c2 t2)).alloc (.cells c3 t3)).alloc (.cells cr tr)).alloc (.cells c5 t5) = W ∧ Below w.heap.size w W ∧ Blk W w.heap.size t1 c1 ∧ Blk W (w.heap.size + 1) t2 c2 ∧ Blk W (w.heap.size + 1 + 1) t3 c3 ∧ Blk W (w.heap.size + 1 + 1 + 1) tr cr ∧ Blk W (w.heap.size + 1 + 1 + 1 + 1) t5 c5 :=
  ⟨_, rfl, (((((Below.refl _ _).alloc (Nat.le_refl _) _).alloc (by simp) _).alloc (by simp; omega) _).alloc (by simp; omega) _).alloc (by simp; omega) _, ((((Blk.new w t1 c1).alloc _).alloc _).alloc _).alloc _, (((Blk.newAt (by simp)).alloc _).alloc _).alloc _, ((Blk.newAt (by simp)).alloc _).alloc _, (Blk.newAt (by simp)).alloc _, Blk.newAt (by simp)⟩

theorem psl_slope (P Q : Pt) : pSl P Q = if (pSlope P Q).2 = true then some (pSlope P Q).1 else none := by
  unfold pSl pSlope
  by_cases h1 : P.1 = Q.1
  · by_cases h2 : fpAdd P.2.1 Q.2.1 = 0
    · simp [h1, h2]
    · simp [h1, h2]
  · simp [h1]

/-- The line, as it is told. -/
theorem plineB_told (P Q R : Pt) : pLineB P Q R = if P.2.2 || Q.2.2 || R.2.2 || !pOkB P || !pOkB Q || !pOkB R then (1, 0) else if (pSlope P Q).2 = true then (fpSub (fpSub 0 P.2.1) (fpMul (pSlope P Q).1 (fpSub (fpSub 0 R.1) P.1)), R.2.1) else (1, 0) := by
  unfold pLineB pLine
  rw [psl_slope]
  cases P.2.2 <;> cases Q.2.2 <;> cases R.2.2 <;> cases pOkB P <;> cases pOkB Q <;> cases pOkB R <;> cases (pSlope P Q).2 <;> simp

end Go.Proofs.Ytbkfdafdchjakaa

/-
  The walks of the specification's pairs: Miller's number.
  (-DROP-: what the seat lacks is left out.)
-/
namespace Go.Proofs.Ytbkfdafdchjakaa
open Go.RowKit

/-- Miller's steps, one by one. -/
def mSt (P R : Pt) : Nat → (Int × Int) × Pt
  | 0 => ((1, 0), P)
  | k + 1 => mStepS P R (mBits.getD k false) (mSt P R k)

theorem mst_all (P R : Pt) : (mSt P R 9).1 = millS P R := rfl

theorem mbit {j : Nat} (h : j < 9) : 1009 / 2 ^ j % 2 = if mBits.getD (8 - j) false = true then 1 else 0 := by
  have key : ∀ j : Fin 9, 1009 / 2 ^ j.val % 2 = if mBits.getD (8 - j.val) false = true then 1 else 0 := by decide
  exact key ⟨j, h⟩

/-- What Miller's loop needs. -/
structure MilAt (w wr : World) (g : Nat) (P R : Pt) (s : (Int × Int) × Pt) : Prop where
  p : Blk wr g 35 #[.int .i64 P.1, .int .i64 P.2.1, .bool P.2.2]
  q : Blk wr (g + 1) 35 #[.int .i64 R.1, .int .i64 R.2.1, .bool R.2.2]
  r : Blk wr (g + 1 + 1) 81 #[.int .i64 0, .int .i64 0]
  f : Blk wr (g + 1 + 1 + 1) 81 #[.int .i64 s.1.1, .int .i64 s.1.2]
  t : Blk wr (g + 1 + 1 + 1 + 1) 35 #[.int .i64 s.2.1, .int .i64 s.2.2.1, .bool s.2.2.2]
  bel : Below w.heap.size w wr

end Go.Proofs.Ytbkfdafdchjakaa

/-
  The walks of the specification's pairs: the pair, many pairs.
  (-DROP-: what the seat lacks is left out.)
-/
namespace Go.Proofs.Ytbkfdafdchjakaa
open Go.RowKit

/-- Many pairs: whether all are in the group, and their product, of the first n. -/
def allG (f g : Nat → Pt) : Nat → Bool
  | 0 => true
  | n + 1 => allG f g n && (inGB (f n) && inGB (g n))
def prodN (f g : Nat → Pt) : Nat → Int × Int
  | 0 => (1, 0)
  | n + 1 => tm (prodN f g n) (pairS (f n) (g n))
def rightN (f g : Nat → Pt) (n : Nat) : Bool := allG f g n && decide (prodN f g n = (1, 0))

theorem allG_more (f g : Nat → Pt) {k : Nat} (h : allG f g k = false) : ∀ n, k ≤ n → allG f g n = false
  | 0, hk => by rw [show (0 : Nat) = k by omega]; exact h
  | n + 1, hk => by
    by_cases e : k = n + 1
    · rw [← e]; exact h
    · show (allG f g n && _) = false
      rw [allG_more f g h n (by omega), Bool.false_and]

end Go.Proofs.Ytbkfdafdchjakaa
