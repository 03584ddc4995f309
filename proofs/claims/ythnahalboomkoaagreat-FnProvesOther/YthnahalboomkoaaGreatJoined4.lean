/-
  Texts of one's own, joined.
-/
import Derived.Test.YthnahalboomkoaaGreatJoined1
import Derived.Test.YthnahalboomkoaaGreatJoined2
import Derived.Test.YthnahalboomkoaaGreatJoined3

/-
  The walks of the specification's points.
  (-DROP-: what the seat lacks is left out.)
-/
namespace Go.Proofs.YthnahalboomkoaaGreat
open Go.RowKit

/-- A point as a value. -/
abbrev pv (P : Pt) : Value := .agg #[.int .i64 P.1, .int .i64 P.2.1, .bool P.2.2]

theorem infoP : (Tryz.prog.info? 35).map (·.size) = some 3 := by kernel_rfl

theorem ones3 (a b : Int) (c : Bool) : (#[Value.int .i64 a, Value.int .i64 b, Value.bool c]).all (·.oneCell') = true := by simp [Value.oneCell']

/-- A point's cells. -/
def pc (P : Pt) : Array Value := #[.int .i64 P.1, .int .i64 P.2.1, .bool P.2.2]

/-- The slope of two right points, and whether there is one. -/
def pSlope (P Q : Pt) : Int × Bool :=
  if P.1 ≠ Q.1 then (slopeC P.1 P.2.1 Q.1 Q.2.1, true) else if fpAdd P.2.1 Q.2.1 = 0 then (0, false) else (slopeT P.1 P.2.1, true)

theorem padd_slope (P Q : Pt) : pAdd P Q = if P.2.2 = true then Q else if Q.2.2 = true then P else if (pSlope P Q).2 = true then pThird P.1 P.2.1 Q.1 (pSlope P Q).1 else pZ := by
  unfold pAdd pSlope
  split
  · rfl
  · split
    · rfl
    · by_cases h1 : P.1 = Q.1
      · by_cases h2 : fpAdd P.2.1 Q.2.1 = 0
        · simp [h1, h2]
        · simp [h1, h2]
      · simp [h1]

end Go.Proofs.YthnahalboomkoaaGreat

/-
  The walks of the specification's points: the group, sums of lists.
  (-DROP-: what the seat lacks is left out.)
-/
namespace Go.Proofs.YthnahalboomkoaaGreat
open Go.RowKit

/-- What a list of points holds; it lies below block c. -/
def PtsAt (w : World) (a : Option Addr) (len c : Nat) (f : Nat → Pt) : Prop :=
  ∀ j, j < len → ∃ b off, a = some ⟨b, off, none⟩ ∧ b < c ∧ w.cell? ⟨b, off + j * 3, none⟩ = some (.int .i64 (f j).1) ∧ w.cell? ⟨b, off + j * 3 + 1, none⟩ = some (.int .i64 (f j).2.1) ∧ w.cell? ⟨b, off + j * 3 + 2, none⟩ = some (.bool (f j).2.2)

theorem PtsAt.on {w w1 : World} {a : Option Addr} {len c : Nat} {f : Nat → Pt} (h : PtsAt w a len c f) (hb : Below c w w1) : PtsAt w1 a len c f := fun j hj => by
  obtain ⟨b, off, h1, h2, h3, h4, h5⟩ := h j hj
  exact ⟨b, off, h1, h2, (hb.cell (p := ⟨b, off + j * 3, none⟩) h2).trans h3, (hb.cell (p := ⟨b, off + j * 3 + 1, none⟩) h2).trans h4, (hb.cell (p := ⟨b, off + j * 3 + 2, none⟩) h2).trans h5⟩

theorem PtsAt.wide {w : World} {a : Option Addr} {len c d : Nat} {f : Nat → Pt} (h : PtsAt w a len c f) (hd : c ≤ d) : PtsAt w a len d f := fun j hj => by
  obtain ⟨b, off, h1, h2, h3⟩ := h j hj
  exact ⟨b, off, h1, by omega, h3⟩

end Go.Proofs.YthnahalboomkoaaGreat
