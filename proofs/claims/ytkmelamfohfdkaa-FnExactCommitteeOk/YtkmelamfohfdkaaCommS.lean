/-
  The walks of the specification's bits and secrets.
  (-DROP-: what the seat lacks is left out.)
-/
import Derived.Test.YtkmelamfohfdkaaJoined41
import Derived.Test.YtkmelamfohfdkaaJoined41
import Derived.Maps.AppendAt
import Derived.Test.YtkmelamfohfdkaaJoined42
namespace Go.Proofs.Ytkmelamfohfdkaa
open Go.RowKit

theorem sec_next (n : Int) (k : Nat) : (List.range (k + 1)).map (sec n) = (List.range k).map (sec n) ++ [sec n k] := by
  rw [List.range_succ, List.map_append]
  rfl

theorem rem_thousand {s u n : Int} (hu : Int.tmod s 1000 = u) (hn : n = s % 1000) : (u < 0 → u + 1000 = n) ∧ (¬ u < 0 → u = n) ∧ -1000 < u ∧ u < 1000 := by
  rcases Int.le_total 0 s with h | h
  · rw [Int.tmod_eq_emod_of_nonneg h] at hu
    omega
  · have e : Int.tmod s 1000 = -((-s) % 1000) := by
      rw [← Int.tmod_eq_emod_of_nonneg (by omega : 0 ≤ -s), Int.neg_tmod, Int.neg_neg]
    rw [e] at hu
    omega

theorem RowZs.form {B : Nat} {w : World} {v : Value} {s : Int} (h : RowZs B w v (secs s)) : ∃ g c, v = .slice (some ⟨g, 0, none⟩) 8 c ∧ ∀ j, j < 8 → w.cell? ⟨g, j, none⟩ = some (.int .i64 (sec (s % 1000) j)) := by
  have hl : (secs s).length = 8 := by simp [secs]
  rcases h.2 with ⟨_, h0⟩ | ⟨g, c, cur, rfl, hg, hh, hrest⟩
  · omega
  · refine ⟨g, c, by rw [hl], fun j hj => ?_⟩
    rw [World.ownsRow.cellAt h j (by omega)]
    simp [zsV, secs, hj]

end Go.Proofs.Ytkmelamfohfdkaa
