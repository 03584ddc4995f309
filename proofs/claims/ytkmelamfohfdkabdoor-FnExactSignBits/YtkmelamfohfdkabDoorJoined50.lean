/-
  Texts of one's own, joined.
-/
import Derived.Test.YtkmelamfohfdkabDoorJoined49
import Derived.Test.YtkmelamfohfdkabDoorJoined47
import Derived.Test.YtkmelamfohfdkabDoorJoined11
import Derived.Test.YtkmelamfohfdkabDoorJoined20
import Derived.Test.YtkmelamfohfdkabDoorJoined48
import Derived.Test.YtkmelamfohfdkabDoorProg
import Derived.Test.YtkmelamfohfdkabDoorJoined14
import Derived.WalkLawsBesides
import Derived.WalkSpells
import Derived.Test.YtkmelamfohfdkabDoorPtC6

/-
  The walks of the helpers of the exact laws on lists of points: marks, and whether they are held.
  (-DROP-: what the seat lacks is left out.)
-/
namespace Go.Proofs.YtkmelamfohfdkabDoor
open Go.RowKit

/-- A mark. -/
def mkp (k : Nat) : Pt := ((k : Int), ((k + 1 : Nat) : Int), decide ((k + 2) % 3 = 0))
/-- So many marks. -/
def mkps (k n : Nat) : List Pt := (List.range n).map fun j => mkp (k + 3 * j)
theorem mkps_length (k n : Nat) : (mkps k n).length = n := by simp [mkps]
theorem mkps_next (k n : Nat) : mkps k (n + 1) = mkps k n ++ [mkp (k + 3 * n)] := by
  unfold mkps
  rw [List.range_succ, List.map_append]
  rfl
theorem mkps_at (k : Nat) {n j : Nat} (h : j < n) : (mkps k n).getD j pZ = mkp (k + 3 * j) := by simp [mkps, h]

theorem ptsV_size (l : List Pt) : (ptsV l).length = l.length * 3 := by
  induction l with
  | nil => rfl
  | cons P l ih => rw [show ptsV (P :: l) = [.int .i64 P.1, .int .i64 P.2.1, .bool P.2.2] ++ ptsV l from rfl, List.length_append, ih]; simp; omega

/-- Another point at j. -/
theorem ptsV_set3 (a b : List Pt) (P Q : Pt) : (((ptsV (a ++ P :: b)).set (a.length * 3) (.int .i64 Q.1)).set (a.length * 3 + 1) (.int .i64 Q.2.1)).set (a.length * 3 + 2) (.bool Q.2.2) = ptsV (a ++ Q :: b) := by
  rw [ptsV_append, ptsV_append, show ptsV (P :: b) = .int .i64 P.1 :: .int .i64 P.2.1 :: .bool P.2.2 :: ptsV b from rfl, show ptsV (Q :: b) = .int .i64 Q.1 :: .int .i64 Q.2.1 :: .bool Q.2.2 :: ptsV b from rfl]
  have hl := ptsV_size a
  rw [List.set_append_right _ _ (by omega), List.set_append_right _ _ (by omega), List.set_append_right _ _ (by omega)]
  rw [show a.length * 3 - (ptsV a).length = 0 by omega, show a.length * 3 + 1 - (ptsV a).length = 1 by omega, show a.length * 3 + 2 - (ptsV a).length = 2 by omega]
  rfl
theorem mkps_step {l : List Pt} {k j : Nat} (h : j < l.length) : (((ptsV (mkps k j ++ l.drop j)).set (j * 3) (.int .i64 (mkp (k + 3 * j)).1)).set (j * 3 + 1) (.int .i64 (mkp (k + 3 * j)).2.1)).set (j * 3 + 2) (.bool (mkp (k + 3 * j)).2.2) = ptsV (mkps k (j + 1) ++ l.drop (j + 1)) := by
  rw [List.drop_eq_getElem_cons h, mkps_next, List.append_assoc]
  have := ptsV_set3 (mkps k j) (l.drop (j + 1)) l[j] (mkp (k + 3 * j))
  rw [mkps_length] at this
  exact this

end Go.Proofs.YtkmelamfohfdkabDoor

/-
  The walks of the helpers of the exact laws on committees.
  (-DROP-: what the seat lacks is left out.)
-/
namespace Go.Proofs.YtkmelamfohfdkabDoor
open Go.RowKit

/-- A copy of points is a row that is owned. -/
def ptl (f : Nat → Pt) (n : Nat) : List Pt := (List.range n).map f
theorem ptl_length (f : Nat → Pt) (n : Nat) : (ptl f n).length = n := by simp [ptl]
theorem ptl_getD (l : List Pt) : ptl (fun j => l.getD j pZ) l.length = l := by
  apply List.ext_getElem
  · simp [ptl]
  · intro i h1 h2
    simp [ptl, h2]
theorem pcs_list (f : Nat → Pt) (n : Nat) : (pcs f n).toList = ptsV (ptl f n) := by
  apply List.ext_getElem?
  intro k
  rw [Array.getElem?_toList]
  by_cases hk : k < n * 3
  · rw [pcs_get f hk]
    have h2 := ptsV_at (ptl f n) (k / 3) (k % 3) (by rw [ptl_length]; omega) (by omega)
    rw [show k / 3 * 3 + k % 3 = k by omega] at h2
    rw [h2]
    have h3 : (ptl f n).getD (k / 3) pZ = f (k / 3) := by
      have : k / 3 < n := by omega
      simp [ptl, this]
    rw [h3]
    have hm : k % 3 = 0 ∨ k % 3 = 1 ∨ k % 3 = 2 := by omega
    rcases hm with h | h | h <;> rw [h] <;> rfl
  · rw [Array.getElem?_eq_none (by rw [pcs_size]; omega), List.getElem?_eq_none (by rw [ptsV_size, ptl_length]; omega)]
theorem RowPt.rowP {w : World} {g n B : Nat} {f : Nat → Pt} (h : RowPt w g n f) (hB : B ≤ g) (hn : n ≤ 1048576) : RowP B w (.slice (some ⟨g, 0, none⟩) n n) (ptl f n) := by
  unfold RowP
  rw [ptl_length]
  refine ⟨by rw [ptsV_size, ptl_length], .inr ⟨g, n, pcs f n, rfl, hB, h, Nat.le_refl _, by unfold maxLen; omega, pcs_size f n, ?_⟩⟩
  rw [pcs_list, List.take_of_length_le (by rw [ptsV_size, ptl_length]; omega)]

end Go.Proofs.YtkmelamfohfdkabDoor

/-
  The walks of the program's scalars.
  (-DROP-: what the seat lacks is left out.)
-/
namespace Go.Proofs.YtkmelamfohfdkabDoor
open Go.RowKit

set_option maxHeartbeats 400000 in
set_option maxRecDepth 100000 in
theorem iScOf_any (n : Int) (w : World) :
    Calls Tryd.prog 21 #[.int .i64 n] w fun e w' => e = .returned (.int .i64 (sca n)) ∧ w = w' := by
  have hb := tmod_bounds_sca n
  by_cases h : Int.tmod n 1009 < 0
  · have he := tmod_neg_sca h
    go_enter Tryd.func21, Tryd.ntmps21
    go_wp2
    go_ret
    exact ⟨rfl, rfl⟩
  · have he := tmod_nonneg_sca h
    go_enter Tryd.func21, Tryd.ntmps21
    go_wp2
    go_ret
    exact ⟨rfl, rfl⟩

end Go.Proofs.YtkmelamfohfdkabDoor

/-
  The walk of the program's KeyOf.
  (-DROP-: what the seat lacks is left out.)
-/
namespace Go.Proofs.YtkmelamfohfdkabDoor
open Go.RowKit

end Go.Proofs.YtkmelamfohfdkabDoor

/-
  The walks of the program's committees, as far as they start no goroutine: whether one is right; bits; secrets; the committee of a seed.
  (-DROP-: what the seat lacks is left out.)
-/
namespace Go.Proofs.YtkmelamfohfdkabDoor
open Go.RowKit

theorem bitsOk_any (b : Int) (w : World) :
    Calls Tryd.prog 12 #[.int .i64 b] w fun e w' => e = .returned (.bool (decide (0 ≤ b ∧ b ≤ 255))) ∧ w = w' := by
  by_cases h0 : 0 ≤ b
  · by_cases h1 : b ≤ 255
    · rw [decide_eq_true ⟨h0, h1⟩]
      go_enter Tryd.func12, Tryd.ntmps12
      go_wp2
      go_ret
      exact ⟨rfl, by trivial⟩
    · rw [decide_eq_false (fun h => h1 h.2)]
      go_enter Tryd.func12, Tryd.ntmps12
      go_wp2
      go_ret
      exact ⟨rfl, by trivial⟩
  · rw [decide_eq_false (fun h => h0 h.1)]
    go_enter Tryd.func12, Tryd.ntmps12
    go_wp2
    go_ret
    exact ⟨rfl, by trivial⟩

theorem hasBit_any (b : Int) (k : Nat) (hk : k < 8) (b0 : 0 ≤ b) (w : World) :
    Calls Tryd.prog 14 #[.int .i64 b, .int .i64 (k : Int)] w fun e w' => e = .returned (.bool (decide (b / 2 ^ k % 2 = 1))) ∧ w = w' := by
  have hk0 : (0 : Int) ≤ (k : Int) := by omega
  obtain ⟨m, hm⟩ : ∃ m : Int, b / 2 ^ k = m := ⟨_, rfl⟩
  have hm0 : 0 ≤ m := by rw [← hm]; exact Int.ediv_nonneg b0 (Int.le_of_lt (Int.pow_pos (by decide)))
  obtain ⟨r, hr⟩ : ∃ r : Int, Int.tmod m 2 = r := ⟨_, rfl⟩
  have hre : r = m % 2 := by rw [← hr, Int.tmod_eq_emod_of_nonneg hm0]
  have HR : Hid (m % 2 = r) := hre.symm
  clear hre
  rw [hm, HR.out]
  by_cases h1 : r = 1
  · subst h1
    go_enter Tryd.func14, Tryd.ntmps14
    go_wp2
    go_ret
    exact ⟨rfl, by trivial⟩
  · rw [decide_eq_false h1]
    have h1' : (r == 1) = false := by rw [beq_eq_false_iff_ne]; exact h1
    go_enter Tryd.func14, Tryd.ntmps14
    go_wp2
    go_ret
    exact ⟨rfl, by trivial⟩

set_option maxHeartbeats 1600000 in
set_option maxRecDepth 100000 in
theorem iSecs_any (s : Int) (w : World) :
    Calls Tryd.prog 13 #[.int .i64 s] w fun e w' => ∃ v, e = .returned v ∧ RowZs w.heap.size w' v (secs s) ∧ Below w.heap.size w w' := by
  have hmk : ∀ W : World, (Instr.makeSlice 29 (.int .i64 8) (.int .i64 8)).run Tryd.prog W = .ok (.slice (some ⟨W.heap.size, 0, none⟩) 8 8) (W.alloc (.cells (ic (fun _ => 0) 8) 3)) := fun W => make_ints 8 8 (Nat.le_refl _) (by omega) W
  obtain ⟨n, hn⟩ : ∃ n : Int, n = s % 1000 := ⟨_, rfl⟩
  obtain ⟨u, hu⟩ : ∃ u : Int, Int.tmod s 1000 = u := ⟨_, rfl⟩
  obtain ⟨hneg, hpos, hu0, hu1⟩ := rem_thousand hu hn
  have HS : Hid (secs s = zls (sec n) 8) := by rw [hn]; rfl
  have hn0 : 0 ≤ n ∧ n < 1000 := by omega
  have H0 : Hid (RowI (w.alloc (.cells (ic (fun _ => 0) 8) 3)) w.heap.size 8 (upTo (sec n) 0)) := (rowI_new w (fun _ => 0) 8).congr fun j _ => by unfold upTo; rw [if_neg (by omega)]
  generalize ic (fun _ => 0) 8 = M at hmk H0
  clear hn
  by_cases hlt : u < 0
  · have hun := hneg hlt
    clear hneg hpos
    go_enter Tryd.func13, Tryd.ntmps13
    go_wp2
    go_loopw [14] (fun i wr => ∃ k : Nat, i = .int .i64 (k : Int) ∧ k ≤ 8 ∧ Hid (RowI wr w.heap.size 8 (upTo (sec n) k)) ∧ Hid (Below w.heap.size w wr)) (fun i _ => 8 - (intOf i).toNat)
    case atStart => exact ⟨0, rfl, Nat.zero_le _, H0, (Below.refl _ _).alloc (Nat.le_refl _) _⟩
    case round =>
      obtain ⟨k, rfl, hk, HR, HW⟩ := hrel
      clear hmk H0
      by_cases hlt : k < 8
      · have hlt' : (k : Int) < 8 := by omega
        have hk0 : (0 : Int) ≤ (k : Int) := by omega
        obtain ⟨x, hx⟩ : ∃ x : Int, Int.tmod (n * 31 + (k : Int) * 57 + 7) 1007 = x := ⟨_, rfl⟩
        have hxe : x = (n * 31 + (k : Int) * 57 + 7) % 1007 := by rw [← hx, Int.tmod_eq_emod_of_nonneg (by omega)]
        have HX : Hid (1 + x = sec n k) := by unfold sec; rw [hxe]; rfl
        have hx0 : 0 ≤ x ∧ x < 1007 := by omega
        have c0 := HR.out.cell hlt
        have f0 := HR.out.free k
        have HR2 : Hid (RowI (wr.setCell ⟨w.heap.size, k, none⟩ (.int .i64 (1 + x))) w.heap.size 8 (upTo (sec n) (k + 1))) := by
          have := HR.out.set k (1 + x)
          rw [HX.out, upTo_next] at this
          rw [HX.out]
          exact this
        have HW2 : Hid (Below w.heap.size w (wr.setCell ⟨w.heap.size, k, none⟩ (.int .i64 (1 + x)))) := HW.out.setCell (Nat.le_refl _) _
        clear hxe HR HW HX
        go_wp2
        go_roundw
        case rel => exact ⟨k + 1, by go_num, hlt, HR2, HW2⟩
        case measure => simp [intOf]; omega
      · have hlt' : ¬ (k : Int) < 8 := by omega
        obtain rfl : k = 8 := by omega
        have HE : Hid (RowZs w.heap.size wr (.slice (some ⟨w.heap.size, 0, none⟩) 8 8) (secs s)) := by
          show RowZs _ _ _ _
          rw [HS.out]
          exact (HR.out.congr (f' := sec n) fun j hj => upTo_in _ hj).rowZ (Nat.le_refl _) (by omega)
        go_wp2
        go_ret
        exact ⟨_, rfl, HE.out, HW.out⟩
  · have hun := (hpos hlt).symm
    subst hun
    clear hneg hpos
    go_enter Tryd.func13, Tryd.ntmps13
    go_wp2
    go_loopw [14] (fun i wr => ∃ k : Nat, i = .int .i64 (k : Int) ∧ k ≤ 8 ∧ Hid (RowI wr w.heap.size 8 (upTo (sec n) k)) ∧ Hid (Below w.heap.size w wr)) (fun i _ => 8 - (intOf i).toNat)
    case atStart => exact ⟨0, rfl, Nat.zero_le _, H0, (Below.refl _ _).alloc (Nat.le_refl _) _⟩
    case round =>
      obtain ⟨k, rfl, hk, HR, HW⟩ := hrel
      clear hmk H0
      by_cases hlt : k < 8
      · have hlt' : (k : Int) < 8 := by omega
        have hk0 : (0 : Int) ≤ (k : Int) := by omega
        obtain ⟨x, hx⟩ : ∃ x : Int, Int.tmod (n * 31 + (k : Int) * 57 + 7) 1007 = x := ⟨_, rfl⟩
        have hxe : x = (n * 31 + (k : Int) * 57 + 7) % 1007 := by rw [← hx, Int.tmod_eq_emod_of_nonneg (by omega)]
        have HX : Hid (1 + x = sec n k) := by unfold sec; rw [hxe]; rfl
        have hx0 : 0 ≤ x ∧ x < 1007 := by omega
        have c0 := HR.out.cell hlt
        have f0 := HR.out.free k
        have HR2 : Hid (RowI (wr.setCell ⟨w.heap.size, k, none⟩ (.int .i64 (1 + x))) w.heap.size 8 (upTo (sec n) (k + 1))) := by
          have := HR.out.set k (1 + x)
          rw [HX.out, upTo_next] at this
          rw [HX.out]
          exact this
        have HW2 : Hid (Below w.heap.size w (wr.setCell ⟨w.heap.size, k, none⟩ (.int .i64 (1 + x)))) := HW.out.setCell (Nat.le_refl _) _
        clear hxe HR HW HX
        go_wp2
        go_roundw
        case rel => exact ⟨k + 1, by go_num, hlt, HR2, HW2⟩
        case measure => simp [intOf]; omega
      · have hlt' : ¬ (k : Int) < 8 := by omega
        obtain rfl : k = 8 := by omega
        have HE : Hid (RowZs w.heap.size wr (.slice (some ⟨w.heap.size, 0, none⟩) 8 8) (secs s)) := by
          show RowZs _ _ _ _
          rw [HS.out]
          exact (HR.out.congr (f' := sec n) fun j hj => upTo_in _ hj).rowZ (Nat.le_refl _) (by omega)
        go_wp2
        go_ret
        exact ⟨_, rfl, HE.out, HW.out⟩

theorem cell_same {w w' : World} {g k : Nat} (h : w'.heap[g]? = w.heap[g]?) : w'.cell? ⟨g, k, none⟩ = w.cell? ⟨g, k, none⟩ := by
  simp only [World.cell?, h]
theorem heap_other {w : World} {p : Addr} {g : Nat} {v : Value} (h : p.block ≠ g) : (w.setCell p v).heap[g]? = w.heap[g]? := by
  simp [World.setCell, Array.getElem?_modify, h]

end Go.Proofs.YtkmelamfohfdkabDoor
