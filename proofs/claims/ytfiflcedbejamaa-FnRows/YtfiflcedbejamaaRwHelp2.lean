/-
  The walks of the helpers of the exact laws on rows and systems: copies, whether two are the same, marks.
  (-DROP-: what the seat lacks is left out.)
-/
import Derived.Test.YtfiflcedbejamaaJoined17
namespace Go.Proofs.Ytfiflcedbejamaa
open Go.RowKit

theorem infoRw : (Try.prog.info? 56).map (·.size) = some 3 := by kernel_rfl
theorem ones3 (a b c : Option Addr) (n m k n' m' k' : Nat) : (#[Value.slice a n n', .slice b m m', .slice c k k']).all (·.oneCell') = true := by simp [Value.oneCell']

theorem infoRwM : (Try.prog.info? 56).map (fun i => (i.zero, i.size, i.bytes)) = some (some (.agg #[.slice none 0 0, .slice none 0 0, .slice none 0 0]), 3, 72) := by kernel_rfl

/-- The cells of so many rows of nothing. -/
def nil3 (n : Nat) : Array Value := Array.replicate (n * 3) (.slice none 0 0)

/-- make([]Row, n). -/
theorem make_rows (n : Nat) (h2 : n ≤ 1073741824) (W : World) :
    (Instr.makeSlice 26 (.int .i64 (n : Int)) (.int .i64 (n : Int))).run Try.prog W = .ok (.slice (some ⟨W.heap.size, 0, none⟩) n n) (W.alloc (.cells (nil3 n) 56)) := by
  obtain ⟨i0, hi, hz0, hz1, hz2⟩ := info_parts infoRwM
  have hM : madeCells (Value.agg #[.slice none 0 0, .slice none 0 0, .slice none 0 0]).cells ((n : Int).toNat * i0.size) = nil3 n := by
    rw [hz1]
    apply Array.ext_getElem?
    intro k
    unfold nil3
    by_cases hk : k < n * 3
    · have hm : k % 3 = 0 ∨ k % 3 = 1 ∨ k % 3 = 2 := by omega
      rcases hm with h | h | h <;> simp [madeCells, Value.cells, hk, h]
    · rw [Array.getElem?_eq_none (by rw [size_madeCells]; simp; omega), Array.getElem?_eq_none (by simp; omega)]
  have h := run_make (P := Try.prog) W 26 56 i0 (.agg #[.slice none 0 0, .slice none 0 0, .slice none 0 0]) Try.underlying26 hi hz0 .i64 .i64 (n : Int) (n : Int) (by omega) (by omega) (by rw [hz2]; omega) (by omega)
  rw [hM] at h
  simpa using h

theorem zown_nil (lo hi : Nat) (w : World) : ZOwn lo hi w (.slice none 0 0) [] := ⟨World.ownsRow_nil _ _ _ _, fun k hk => by cases hk⟩

theorem nown_made (w : World) (n : Nat) (hn : n ≤ 1048576) : NOwnV 3 56 w.heap.size (w.heap.size + 1) (w.alloc (.cells (nil3 n) 56)) (.slice (some ⟨w.heap.size, 0, none⟩) n n) n (List.replicate (n * 3) (.slice none 0 0)) (List.replicate (n * 3) []) := by
  have hv : ∀ j, j < n * 3 → (List.replicate (n * 3) (Value.slice none 0 0)).getD j undef = .slice none 0 0 := fun j hj => by simp [hj]
  refine ⟨?_, by simp, fun k hk => ?_, fun j hj => ?_, fun i j k h1 h2 h3 h4 => ?_, fun j k h1 h2 => ?_⟩
  · have h := World.ownsRow_lit (base := w.heap.size) (e := 56) (size := 3) w (nil3 n) n (Nat.le_refl _) (by unfold maxLen; omega) (by simp [nil3])
    simpa [nil3] using h
  · have e1 : some w.heap.size = some k := hk
    injection e1 with e1
    omega
  · rw [hv j hj]
    have : (List.replicate (n * 3) ([] : List Int)).getD j [] = [] := by simp [hj]
    rw [this]
    exact zown_nil _ _ _
  · rw [hv i h1] at h4; cases h4
  · rw [hv j h1] at h2; cases h2

theorem zown_row {w : World} {g lo hi : Nat} {l : List Int} (h : RowI w g l.length (fun j => l.getD j 0)) (hlo : lo ≤ g) (hhi : g < hi) (hn : l.length ≤ 1048576) : ZOwn lo hi w (.slice (some ⟨g, 0, none⟩) l.length l.length) l := by
  refine ⟨?_, fun k hk => ?_⟩
  · have h1 := h.rowZ hlo hn
    rw [zls_getD] at h1
    exact h1
  · have e1 : some g = some k := hk
    injection e1 with e1
    omega

theorem up_set (ls : List (List Int)) (m j : Nat) (hm : ls.length = m) (hj : j < m) : (ls.take j ++ List.replicate (m - j) []).set j (ls.getD j []) = ls.take (j + 1) ++ List.replicate (m - (j + 1)) [] := by
  have hl : (ls.take j).length = j := by rw [List.length_take]; omega
  have e2 : ls.getD j [] = ls[j]'(by omega) := by simp [show j < ls.length by omega]
  rw [List.take_succ_eq_append_getElem (by omega), List.append_assoc, List.set_append_right _ _ (by omega), hl, Nat.sub_self, e2, show m - j = (m - (j + 1)) + 1 by omega, List.replicate_succ]
  rfl

/-- A row is put into a list of rows. -/
theorem NOwnV.put3 {lo hi hi' n g cp e : Nat} {w : World} {vs : List Value} {ls : List (List Int)} {i : Nat} {l0 l1 l2 : List Int} {g0 g1 g2 : Nat} (h : NOwnV 3 e lo hi w (.slice (some ⟨g, 0, none⟩) n cp) n vs ls) (hi3 : i < n) (hlo : lo ≤ hi) (h0 : hi ≤ g0) (h1 : g0 < g1) (h2 : g1 < g2) (h3 : g2 < hi') (b0 : l0.length ≤ 1048576) (b1 : l1.length ≤ 1048576) (b2 : l2.length ≤ 1048576)
    (r0 : RowI w g0 l0.length (fun j => l0.getD j 0)) (r1 : RowI w g1 l1.length (fun j => l1.getD j 0)) (r2 : RowI w g2 l2.length (fun j => l2.getD j 0)) :
    ∃ vs', NOwnV 3 e lo hi' (((w.setCell ⟨g, i * 3, none⟩ (.slice (some ⟨g0, 0, none⟩) l0.length l0.length)).setCell ⟨g, i * 3 + 1, none⟩ (.slice (some ⟨g1, 0, none⟩) l1.length l1.length)).setCell ⟨g, i * 3 + 2, none⟩ (.slice (some ⟨g2, 0, none⟩) l2.length l2.length)) (.slice (some ⟨g, 0, none⟩) n cp) n vs' (((ls.set (i * 3) l0).set (i * 3 + 1) l1).set (i * 3 + 2) l2) := by
  have hg : g < hi := h.top g rfl
  have k0 := h.put (j := i * 3) (by omega) (zown_row r0 h0 (show g0 < g0 + 1 by omega) b0) (by omega) hlo
  have s1 : RowI (w.setCell ⟨g, i * 3, none⟩ (.slice (some ⟨g0, 0, none⟩) l0.length l0.length)) g1 l1.length (fun j => l1.getD j 0) := Blk.other r1 (by omega) _
  have s2 : RowI (w.setCell ⟨g, i * 3, none⟩ (.slice (some ⟨g0, 0, none⟩) l0.length l0.length)) g2 l2.length (fun j => l2.getD j 0) := Blk.other r2 (by omega) _
  have k1 := k0.put (j := i * 3 + 1) (by omega) (zown_row s1 (show g0 + 1 ≤ g1 by omega) (show g1 < g1 + 1 by omega) b1) (by omega) (by omega)
  have t2 : RowI ((w.setCell ⟨g, i * 3, none⟩ (.slice (some ⟨g0, 0, none⟩) l0.length l0.length)).setCell ⟨g, i * 3 + 1, none⟩ (.slice (some ⟨g1, 0, none⟩) l1.length l1.length)) g2 l2.length (fun j => l2.getD j 0) := Blk.other s2 (by omega) _
  exact ⟨_, k1.put (j := i * 3 + 2) (by omega) (zown_row t2 (show g1 + 1 ≤ g2 by omega) h3 b2) (by omega) (by omega)⟩

end Go.Proofs.Ytfiflcedbejamaa
