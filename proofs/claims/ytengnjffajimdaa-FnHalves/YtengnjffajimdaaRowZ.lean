/-
  Rows of numbers that are owned.
  (-DROP-: what the seat lacks is left out.)
-/
import Derived.Test.YtengnjffajimdaaIntRow
import Derived.Test.YtengnjffajimdaaOwn
namespace Go.Proofs.Ytengnjffajimdaa
open Go.RowKit

/-- A row of numbers that is owned. -/
def zsV (l : List Int) : List Value := l.map (Value.int .i64)
def RowZs (B : Nat) (w : World) (v : Value) (l : List Int) : Prop := w.ownsRow B 3 1 v l.length (zsV l)
theorem zsV_append (a b : List Int) : zsV (a ++ b) = zsV a ++ zsV b := by simp [zsV]

theorem RowZs.ints {B : Nat} {w : World} {v : Value} {l : List Int} (h : RowZs B w v l) : ∃ a cp, v = .slice a l.length cp ∧ IntsAt w a l.length w.heap.size (fun j => l.getD j 0) := by
  rcases h.2 with ⟨rfl, h0⟩ | ⟨g, cp, cur, rfl, hg, hh, hrest⟩
  · exact ⟨none, 0, by rw [h0], fun j hj => by omega⟩
  · refine ⟨_, cp, rfl, fun j hj => ⟨g, 0, rfl, (Array.getElem?_eq_some_iff.1 hh).1, ?_⟩⟩
    have hc := h.cellAt j (by omega)
    rw [Nat.zero_add, hc]
    simp [zsV, hj]

/-- The first n of a row. -/
def zls (f : Nat → Int) (n : Nat) : List Int := (List.range n).map f
theorem zls_length (f : Nat → Int) (n : Nat) : (zls f n).length = n := by simp [zls]
theorem zls_at (f : Nat → Int) {n j : Nat} (h : j < n) : (zls f n).getD j 0 = f j := by simp [zls, h]
theorem zls_next (f : Nat → Int) (n : Nat) : zls f (n + 1) = zls f n ++ [f n] := by
  unfold zls
  rw [List.range_succ, List.map_append]
  rfl
theorem zls_getD (l : List Int) : zls (fun j => l.getD j 0) l.length = l := by
  apply List.ext_getElem
  · simp [zls]
  · intro i h1 h2
    simp [zls, h2]

theorem RowI.rowZ {w : World} {g n B : Nat} {f : Nat → Int} (h : RowI w g n f) (hB : B ≤ g) (hn : n ≤ 1048576) : RowZs B w (.slice (some ⟨g, 0, none⟩) n n) (zls f n) := by
  unfold RowZs
  rw [zls_length]
  refine ⟨by simp [zls, zsV], .inr ⟨g, n, ic f n, rfl, hB, h, Nat.le_refl _, by unfold maxLen; omega, by rw [ic_size, Nat.mul_one], ?_⟩⟩
  rw [Nat.mul_one, List.take_of_length_le (by simp [ic])]
  simp [ic, zls, zsV]

theorem eqRowZ_any {B1 B2 : Nat} {w : World} {v u : Value} {l : List Int} (h1 : RowZs B1 w v l) (h2 : RowZs B2 w u l) (hl : l.length ≤ 1048576) :
    Calls Try.prog 24 #[v, u] w fun e w' => e = .returned (.bool true) ∧ Below w.heap.size w w' := by
  obtain ⟨a, c1, rfl, s1⟩ := h1.ints
  obtain ⟨b, c2, rfl, s2⟩ := h2.ints
  exact eqIntS_any a b l.length c1 c2 hl _ w s1 s2

end Go.Proofs.Ytengnjffajimdaa
