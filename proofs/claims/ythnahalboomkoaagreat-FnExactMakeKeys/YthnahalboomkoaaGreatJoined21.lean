/-
  Texts of one's own, joined.
-/
import Derived.Test.YthnahalboomkoaaGreatJoined15
import Derived.Test.YthnahalboomkoaaGreatJoined8
import Derived.Test.YthnahalboomkoaaGreatJoined18
import Derived.Test.YthnahalboomkoaaGreatJoined10
import Derived.OpenShut
import Derived.Test.YthnahalboomkoaaGreatJoined6
import Derived.Test.YthnahalboomkoaaGreatJoined16
import Derived.Test.YthnahalboomkoaaGreatPrfMk

/-
  The walks of the laws on the functions of points.
  (-DROP-: what the seat lacks is left out.)
-/
namespace Go.Proofs.YthnahalboomkoaaGreat
open Go.RowKit Go.ChangeShapes Go.WideShapes

set_option maxHeartbeats 800000 in
set_option maxRecDepth 100000 in
theorem eqPoint_same (P : Pt) (w : World) :
    Calls Tryz.prog 174 #[pv P, pv P] w fun e w' => e = .returned (.bool true) ∧ Below w.heap.size w w' := by
  go_enter Tryz.func174, Tryz.ntmps174
  go_wp2
  go_ret
  exact ⟨rfl, ((Below.refl _ _).alloc (Nat.le_refl _) _).alloc (by simp) _⟩

end Go.Proofs.YthnahalboomkoaaGreat

/-
  Two blocks of structs.
-/
namespace Go.Proofs.YthnahalboomkoaaGreat
open Go.RowKit

theorem two_boxes (w : World) (t1 t2 : TypeId) (c1 c2 : Array Value) : ∃ W, (w.alloc (.cells c1 t1)).alloc (.cells c2 t2) = W ∧ Below w.heap.size w W ∧ Blk W w.heap.size t1 c1 ∧ Blk W (w.heap.size + 1) t2 c2 :=
  ⟨_, rfl, ((Below.refl _ _).alloc (Nat.le_refl _) _).alloc (by simp) _, (Blk.new w t1 c1).alloc _, Blk.newAt (by simp)⟩

end Go.Proofs.YthnahalboomkoaaGreat

/-
  Rows of points: blocks, copies, whether two are the same.
  (-DROP-: what the seat lacks is left out.)
-/
namespace Go.Proofs.YthnahalboomkoaaGreat
open Go.RowKit

/-- A cell of a point. -/
def pcell (P : Pt) (i : Nat) : Value := if i = 0 then .int .i64 P.1 else if i = 1 then .int .i64 P.2.1 else .bool P.2.2

/-- The cells of a row of points. -/
def pcs (f : Nat → Pt) (n : Nat) : Array Value := ((List.range (n * 3)).map fun k => pcell (f (k / 3)) (k % 3)).toArray

theorem pcs_size (f : Nat → Pt) (n : Nat) : (pcs f n).size = n * 3 := by simp [pcs]

theorem pcs_get (f : Nat → Pt) {n k : Nat} (h : k < n * 3) : (pcs f n)[k]? = some (pcell (f (k / 3)) (k % 3)) := by simp [pcs, h]

/-- Another point at j. -/
def updP (f : Nat → Pt) (j : Nat) (P : Pt) : Nat → Pt := fun i => if i = j then P else f i

theorem pcs_set (f : Nat → Pt) (n j : Nat) (P : Pt) (_hj : j < n) : (((pcs f n).setIfInBounds (j * 3) (.int .i64 P.1)).setIfInBounds (j * 3 + 1) (.int .i64 P.2.1)).setIfInBounds (j * 3 + 2) (.bool P.2.2) = pcs (updP f j P) n := by
  apply Array.ext_getElem?
  intro k
  by_cases hk : k < n * 3
  · rw [pcs_get _ hk]
    simp only [Array.getElem?_setIfInBounds, pcs_get f hk, Array.size_setIfInBounds, pcs_size]
    unfold updP pcell
    by_cases h2 : j * 3 + 2 = k
    · subst h2
      rw [if_pos rfl, if_pos hk, show (j * 3 + 2) / 3 = j by omega, show (j * 3 + 2) % 3 = 2 by omega]
      simp
    · rw [if_neg h2]
      by_cases h1 : j * 3 + 1 = k
      · subst h1
        rw [if_pos rfl, if_pos hk, show (j * 3 + 1) / 3 = j by omega, show (j * 3 + 1) % 3 = 1 by omega]
        simp
      · rw [if_neg h1]
        by_cases h0 : j * 3 = k
        · subst h0
          rw [if_pos rfl, if_pos hk, show (j * 3) / 3 = j by omega, show (j * 3) % 3 = 0 by omega]
          simp
        · rw [if_neg h0, if_neg (show ¬ k / 3 = j by omega)]
  · have hn : ∀ g : Nat → Pt, (pcs g n)[k]? = none := fun g => Array.getElem?_eq_none (by rw [pcs_size]; omega)
    rw [hn]
    simp only [Array.getElem?_setIfInBounds, hn, Array.size_setIfInBounds, pcs_size]
    rw [if_neg (by omega), if_neg (by omega), if_neg (by omega)]

/-- Block g is a row of points. -/
def RowPt (w : World) (g n : Nat) (f : Nat → Pt) : Prop := w.heap[g]? = some (.cells (pcs f n) 35 (0, 0))

theorem RowPt.cell {w : World} {g n : Nat} {f : Nat → Pt} (h : RowPt w g n f) {k : Nat} (hk : k < n * 3) : w.cell? ⟨g, k, none⟩ = some (pcell (f (k / 3)) (k % 3)) := by
  rw [cell_of_row w g k _ 35 (0, 0) h, pcs_get f hk]

theorem RowPt.cells {w : World} {g n : Nat} {f : Nat → Pt} (h : RowPt w g n f) {j : Nat} (hj : j < n) : w.cell? ⟨g, j * 3, none⟩ = some (.int .i64 (f j).1) ∧ w.cell? ⟨g, j * 3 + 1, none⟩ = some (.int .i64 (f j).2.1) ∧ w.cell? ⟨g, j * 3 + 2, none⟩ = some (.bool (f j).2.2) := by
  refine ⟨?_, ?_, ?_⟩
  · rw [h.cell (by omega), show j * 3 / 3 = j by omega, show j * 3 % 3 = 0 by omega]; rfl
  · rw [h.cell (by omega), show (j * 3 + 1) / 3 = j by omega, show (j * 3 + 1) % 3 = 1 by omega]; rfl
  · rw [h.cell (by omega), show (j * 3 + 2) / 3 = j by omega, show (j * 3 + 2) % 3 = 2 by omega]; rfl

theorem RowPt.free {w : World} {g n : Nat} {f : Nat → Pt} (h : RowPt w g n f) (k : Nat) : w.frozen? ⟨g, k, none⟩ = false := frozen_of_row w g k _ 35 h

theorem RowPt.lt {w : World} {g n : Nat} {f : Nat → Pt} (h : RowPt w g n f) : g < w.heap.size := (Array.getElem?_eq_some_iff.1 h).1

theorem RowPt.set {w : World} {g n : Nat} {f : Nat → Pt} (h : RowPt w g n f) {j : Nat} (hj : j < n) (P : Pt) : RowPt (((w.setCell ⟨g, j * 3, none⟩ (.int .i64 P.1)).setCell ⟨g, j * 3 + 1, none⟩ (.int .i64 P.2.1)).setCell ⟨g, j * 3 + 2, none⟩ (.bool P.2.2)) g n (updP f j P) := by
  have h1 := heap_setCell_same w g (j * 3) _ 35 (.int .i64 P.1) h
  have h2 := heap_setCell_same _ g (j * 3 + 1) _ 35 (.int .i64 P.2.1) h1
  have h3 := heap_setCell_same _ g (j * 3 + 2) _ 35 (.bool P.2.2) h2
  rw [pcs_set f n j P hj] at h3
  exact h3

theorem RowPt.on {w w1 : World} {g n c : Nat} {f : Nat → Pt} (h : RowPt w g n f) (hb : Below c w w1) (hc : g < c) : RowPt w1 g n f := (hb.block g hc).trans h

theorem RowPt.pts {w : World} {g n c : Nat} {f : Nat → Pt} (h : RowPt w g n f) (hc : g < c) : PtsAt w (some ⟨g, 0, none⟩) n c f := fun j hj => by
  obtain ⟨h1, h2, h3⟩ := h.cells hj
  exact ⟨g, 0, rfl, hc, by rw [Nat.zero_add]; exact h1, by rw [Nat.zero_add]; exact h2, by rw [Nat.zero_add]; exact h3⟩

theorem RowPt.congr {w : World} {g n : Nat} {f f' : Nat → Pt} (h : RowPt w g n f) (hf : ∀ j, j < n → f j = f' j) : RowPt w g n f' := by
  have e : pcs f n = pcs f' n := by
    unfold pcs
    congr 1
    apply List.map_congr_left
    intro k hk
    rw [hf (k / 3) (by have := List.mem_range.1 hk; omega)]
  unfold RowPt
  rw [← e]
  exact h

set_option maxHeartbeats 800000 in
set_option maxRecDepth 100000 in
theorem eqPointS_any (a b : Option Addr) (n c1 c2 : Nat) (hn : n ≤ 1048576) (f : Nat → Pt) (w : World) (hA : PtsAt w a n w.heap.size f) (hB : PtsAt w b n w.heap.size f) :
    Calls Tryz.prog 110 #[.slice a n c1, .slice b n c2] w fun e w' => e = .returned (.bool true) ∧ Below w.heap.size w w' := by
  have HA : Hid (PtsAt w a n w.heap.size f) := hA
  have HB : Hid (PtsAt w b n w.heap.size f) := hB
  clear hA hB
  go_enter Tryz.func110, Tryz.ntmps110
  go_wp2
  go_loopw [5] (fun i wr => ∃ k : Nat, i = .int .i64 (k : Int) ∧ k ≤ n ∧ Hid (Below w.heap.size w wr)) (fun i _ => n - (intOf i).toNat)
  case atStart => exact ⟨0, rfl, Nat.zero_le _, Below.refl _ _⟩
  case round =>
    obtain ⟨k, rfl, hk, HW⟩ := hrel
    by_cases hlt : k < n
    · have hlt' : (k : Int) < (n : Int) := by omega
      have hk0 : (0 : Int) ≤ (k : Int) := by omega
      have hws : w.heap.size ≤ wr.heap.size := HW.out.size
      obtain ⟨b, off, rfl, hb, z0, z1, z2⟩ := (HA.out.on HW.out) k hlt
      obtain ⟨b', off', rfl, hb', y0, y1, y2⟩ := (HB.out.on HW.out) k hlt
      have HT : Hid (∀ w, Calls Tryz.prog 174 #[pv (f k), pv (f k)] w fun e w' => e = .returned (.bool true) ∧ Below w.heap.size w w') := eqPoint_same (f k)
      generalize f k = F at z0 z1 z2 y0 y1 y2 HT
      have Z0 : ∀ w', Below wr.heap.size wr w' → w'.cell? ⟨b, off + k * 3, none⟩ = some (.int .i64 F.1) := fun w' hw => (hw.cell (p := ⟨b, off + k * 3, none⟩) (by show b < _; omega)).trans z0
      have Z1 : ∀ w', Below wr.heap.size wr w' → w'.cell? ⟨b, off + k * 3 + 1, none⟩ = some (.int .i64 F.2.1) := fun w' hw => (hw.cell (p := ⟨b, off + k * 3 + 1, none⟩) (by show b < _; omega)).trans z1
      have Z2 : ∀ w', Below wr.heap.size wr w' → w'.cell? ⟨b, off + k * 3 + 2, none⟩ = some (.bool F.2.2) := fun w' hw => (hw.cell (p := ⟨b, off + k * 3 + 2, none⟩) (by show b < _; omega)).trans z2
      have Y0 : ∀ w', Below wr.heap.size wr w' → w'.cell? ⟨b', off' + k * 3, none⟩ = some (.int .i64 F.1) := fun w' hw => (hw.cell (p := ⟨b', off' + k * 3, none⟩) (by show b' < _; omega)).trans y0
      have Y1 : ∀ w', Below wr.heap.size wr w' → w'.cell? ⟨b', off' + k * 3 + 1, none⟩ = some (.int .i64 F.2.1) := fun w' hw => (hw.cell (p := ⟨b', off' + k * 3 + 1, none⟩) (by show b' < _; omega)).trans y1
      have Y2 : ∀ w', Below wr.heap.size wr w' → w'.cell? ⟨b', off' + k * 3 + 2, none⟩ = some (.bool F.2.2) := fun w' hw => (hw.cell (p := ⟨b', off' + k * 3 + 2, none⟩) (by show b' < _; omega)).trans y2
      clear HA HB hb hb' z0 z1 z2 y0 y1 y2
      go_wp2
      refine wp_region_class 9 (fun wz => Below wr.heap.size wr wz) mixes (by kernel_rfl) (Below.refl _ _).drew ?_
      simp only [List.take_succ_cons, List.take_zero, List.drop_succ_cons, List.drop_zero]
      repeat (refine cls_step rfl (fun K hK => ⟨_, (fun w' hw => by have z0 := Z0 w' hw; have z1 := Z1 w' hw; have z2 := Z2 w' hw; have z3 := Y0 w' hw; have z4 := Y1 w' hw; have z5 := Y2 w' hw; go_simp; exact rfl), ?_⟩); go_simp; refine hK _ ?_; clear hK K)
      refine cls_call rfl (fun K hK => ⟨_, _, _, (fun w' => by go_simp <;> first | exact rfl | exact ⟨rfl, rfl⟩), (fun w' hw => calls_below hw (HT.out _)), ?_⟩); go_simp; refine hK _ ?_; clear hK K
      refine wq_nil ?_
      intro w' hw
      have HW2 : Hid (Below w.heap.size w w') := HW.out.trans (hw.mono hws)
      clear hw HW
      go_wp2
      go_roundw
      case rel => exact ⟨k + 1, by go_num, hlt, HW2⟩
      case measure => simp [intOf]; omega
    · have hlt' : ¬ (k : Int) < (n : Int) := by omega
      go_wp2
      go_ret
      exact ⟨rfl, HW.out⟩

end Go.Proofs.YthnahalboomkoaaGreat

/-
  The walks of the helpers of the exact laws on lists of points: marks, and whether they are held.
  (-DROP-: what the seat lacks is left out.)
-/
namespace Go.Proofs.YthnahalboomkoaaGreat
open Go.RowKit

/-- A mark. -/
def mkp (k : Nat) : Pt := ((k : Int), ((k + 1 : Nat) : Int), decide ((k + 2) % 3 = 0))
/-- So many marks. -/
def mkps (k n : Nat) : List Pt := (List.range n).map fun j => mkp (k + 3 * j)
theorem mkps_length (k n : Nat) : (mkps k n).length = n := by simp [mkps]
theorem mkps_next (k n : Nat) : mkps k (n + 1) = mkps k n ++ [mkp (k + 3 * n)] := by
  unfold mkps
  rw [List.range_succ, List.map_append]
  rfl
theorem mkps_at (k : Nat) {n j : Nat} (h : j < n) : (mkps k n).getD j pZ = mkp (k + 3 * j) := by simp [mkps, h]

theorem ptsV_size (l : List Pt) : (ptsV l).length = l.length * 3 := by
  induction l with
  | nil => rfl
  | cons P l ih => rw [show ptsV (P :: l) = [.int .i64 P.1, .int .i64 P.2.1, .bool P.2.2] ++ ptsV l from rfl, List.length_append, ih]; simp; omega

/-- Another point at j. -/
theorem ptsV_set3 (a b : List Pt) (P Q : Pt) : (((ptsV (a ++ P :: b)).set (a.length * 3) (.int .i64 Q.1)).set (a.length * 3 + 1) (.int .i64 Q.2.1)).set (a.length * 3 + 2) (.bool Q.2.2) = ptsV (a ++ Q :: b) := by
  rw [ptsV_append, ptsV_append, show ptsV (P :: b) = .int .i64 P.1 :: .int .i64 P.2.1 :: .bool P.2.2 :: ptsV b from rfl, show ptsV (Q :: b) = .int .i64 Q.1 :: .int .i64 Q.2.1 :: .bool Q.2.2 :: ptsV b from rfl]
  have hl := ptsV_size a
  rw [List.set_append_right _ _ (by omega), List.set_append_right _ _ (by omega), List.set_append_right _ _ (by omega)]
  rw [show a.length * 3 - (ptsV a).length = 0 by omega, show a.length * 3 + 1 - (ptsV a).length = 1 by omega, show a.length * 3 + 2 - (ptsV a).length = 2 by omega]
  rfl
theorem mkps_step {l : List Pt} {k j : Nat} (h : j < l.length) : (((ptsV (mkps k j ++ l.drop j)).set (j * 3) (.int .i64 (mkp (k + 3 * j)).1)).set (j * 3 + 1) (.int .i64 (mkp (k + 3 * j)).2.1)).set (j * 3 + 2) (.bool (mkp (k + 3 * j)).2.2) = ptsV (mkps k (j + 1) ++ l.drop (j + 1)) := by
  rw [List.drop_eq_getElem_cons h, mkps_next, List.append_assoc]
  have := ptsV_set3 (mkps k j) (l.drop (j + 1)) l[j] (mkp (k + 3 * j))
  rw [mkps_length] at this
  exact this

set_option maxHeartbeats 1600000 in
set_option maxRecDepth 100000 in
theorem markP_any (v : Value) (l : List Pt) (k B : Nat) (hkb : k ≤ 1048576) (hl : l.length ≤ 1048576) (w : World) (h : RowP B w v l) :
    Calls Tryz.prog 114 #[v, .int .i64 (k : Int)] w fun e w' => e = .returned (.int .i64 ((k + 3 * l.length : Nat) : Int)) ∧ RowP B w' v (mkps k l.length) ∧ Kps (fun b => v.ownBlock = some b) w w' := by
  obtain ⟨ra, rc, hv⟩ := row_form h
  subst hv
  have h' : Hid (RowP B w (.slice ra l.length rc) (mkps k 0 ++ l.drop 0)) := h
  clear h
  go_enter Tryz.func114, Tryz.ntmps114
  go_wp2
  go_loopw [1, 5] (fun x i wr => ∃ (m j : Nat), x = .int .i64 (m : Int) ∧ i = .int .i64 (j : Int) ∧ Hid (m = k + 3 * j) ∧ j ≤ l.length ∧ Hid (RowP B wr (.slice ra l.length rc) (mkps k j ++ l.drop j)) ∧ Hid (Kps (fun b => (Value.slice ra l.length rc).ownBlock = some b) w wr)) (fun _ i _ => l.length - (RowKit.intOf i).toNat)
  case atStart => exact ⟨k, 0, rfl, rfl, (show k = k + 3 * 0 from rfl), Nat.zero_le _, h', Kps.refl _ _⟩
  case round =>
    obtain ⟨m, j, rfl, rfl, hm, hj, HO, HK⟩ := hrel
    clear h'
    have hmb : m ≤ 4194304 := by have := hm.out; omega
    by_cases hlt : j < l.length
    · have hll : (mkps k j ++ l.drop j).length = l.length := by rw [List.length_append, mkps_length, List.length_drop]; omega
      rcases HO.out.2 with ⟨_, hz0⟩ | ⟨g, cap, cur, hveq, hg, _⟩
      · rw [hll] at hz0; omega
      · have hra : ra = some ⟨g, 0, none⟩ := by injection hveq
        subst hra
        have hk0 : (0 : Int) ≤ (j : Int) := by omega
        have hk1 : (j : Int) < (l.length : Int) := by omega
        clear hveq
        have hown1 : wr.ownsRow B 35 3 (.slice (some ⟨g, 0, none⟩) l.length rc) l.length (ptsV (mkps k j ++ l.drop j)) := by
          have h1 : wr.ownsRow B 35 3 (.slice (some ⟨g, 0, none⟩) l.length rc) (mkps k j ++ l.drop j).length (ptsV (mkps k j ++ l.drop j)) := HO.out
          rw [hll] at h1
          exact h1
        obtain ⟨P, c0, c1, c2⟩ : ∃ P : Pt, wr.cell? ⟨g, j * 3, none⟩ = some (.int .i64 P.1) ∧ wr.cell? ⟨g, j * 3 + 1, none⟩ = some (.int .i64 P.2.1) ∧ wr.cell? ⟨g, j * 3 + 2, none⟩ = some (.bool P.2.2) := by
          refine ⟨(mkps k j ++ l.drop j).getD j pZ, ?_, ?_, ?_⟩
          · have h1 := hown1.cellAt (j * 3) (by omega)
            have h2 := ptsV_at (mkps k j ++ l.drop j) j 0 (by omega) (by omega)
            rw [Nat.add_zero] at h2
            rw [h1, h2]
            rfl
          · rw [hown1.cellAt (j * 3 + 1) (by omega), ptsV_at (mkps k j ++ l.drop j) j 1 (by omega) (by omega)]
            rfl
          · rw [hown1.cellAt (j * 3 + 2) (by omega), ptsV_at (mkps k j ++ l.drop j) j 2 (by omega) (by omega)]
            rfl
        have f0 := hown1.frozenAt (j * 3)
        have f1 := hown1.frozenAt (j * 3 + 1)
        have f2 := hown1.frozenAt (j * 3 + 2)
        have hms := mkps_step (k := k) hlt
        rw [← hm.out] at hms
        have hst := (((hown1.stored (j * 3) (.int .i64 (mkp m).1)).1.stored (j * 3 + 1) (.int .i64 (mkp m).2.1)).1.stored (j * 3 + 2) (.bool (mkp m).2.2)).1
        rw [hms] at hst
        have hbit : (((m : Int) + 1 + 1) % 3 == 0) = decide ((m + 2) % 3 = 0) := by
          rw [Bool.eq_iff_iff, beq_iff_eq, decide_eq_true_iff]
          omega
        have HST : Hid (RowP B (((wr.setCell ⟨g, j * 3, none⟩ (.int .i64 (m : Int))).setCell ⟨g, j * 3 + 1, none⟩ (.int .i64 ((m : Int) + 1))).setCell ⟨g, j * 3 + 2, none⟩ (.bool (decide ((m + 2) % 3 = 0)))) (.slice (some ⟨g, 0, none⟩) l.length rc) (mkps k (j + 1) ++ l.drop (j + 1))) := by
          have hll2 : (mkps k (j + 1) ++ l.drop (j + 1)).length = l.length := by rw [List.length_append, mkps_length, List.length_drop]; omega
          show World.ownsRow _ _ _ _ _ _ _
          rw [hll2]
          exact hst
        have HBS : Hid (Kps (fun b => (Value.slice (some ⟨g, 0, none⟩) l.length rc).ownBlock = some b) w (((wr.setCell ⟨g, j * 3, none⟩ (.int .i64 (m : Int))).setCell ⟨g, j * 3 + 1, none⟩ (.int .i64 ((m : Int) + 1))).setCell ⟨g, j * 3 + 2, none⟩ (.bool (decide ((m + 2) % 3 = 0))))) := ((HK.out.setCell (p := ⟨g, j * 3, none⟩) rfl _).setCell (p := ⟨g, j * 3 + 1, none⟩) rfl _).setCell (p := ⟨g, j * 3 + 2, none⟩) rfl _
        clear hown1 hst hms hll HO HK
        generalize decide ((m + 2) % 3 = 0) = bz at hbit HST HBS
        go_wp2
        go_roundw
        case rel => exact ⟨m + 3, j + 1, by go_num, by go_num, (show m + 3 = k + 3 * (j + 1) by have := hm.out; omega), hlt, HST, HBS⟩
        case measure => simp [RowKit.intOf]; omega
    · have hje : j = l.length := by omega
      subst hje
      have HO2 : Hid (RowP B wr (.slice ra l.length rc) (mkps k l.length)) := by
        have h1 := HO.out
        rw [List.drop_length, List.append_nil] at h1
        exact h1
      clear HO
      go_wp2
      go_ret
      exact ⟨by rw [← hm.out]; rfl, HO2.out, HK.out⟩

set_option maxHeartbeats 1600000 in
set_option maxRecDepth 100000 in
theorem heldP_any (v : Value) (n k B : Nat) (hkb : k ≤ 1048576) (hl : n ≤ 1048576) (w : World) (h : RowP B w v (mkps k n)) :
    Calls Tryz.prog 116 #[v, .int .i64 (k : Int)] w fun e w' => e = .returned (.int .i64 ((k + 3 * n : Nat) : Int)) ∧ w = w' := by
  obtain ⟨ra, rc, hv⟩ := row_form h
  rw [mkps_length] at hv
  subst hv
  have HH : Hid (w.ownsRow B 35 3 (.slice ra n rc) n (ptsV (mkps k n))) := by
    have h1 : w.ownsRow B 35 3 (.slice ra n rc) (mkps k n).length (ptsV (mkps k n)) := h
    rw [mkps_length] at h1
    exact h1
  clear h
  go_enter Tryz.func116, Tryz.ntmps116
  go_wp2
  go_loopw [1, 5] (fun x i wr => ∃ (m j : Nat), x = .int .i64 (m : Int) ∧ i = .int .i64 (j : Int) ∧ Hid (m = k + 3 * j) ∧ j ≤ n ∧ w = wr) (fun _ i _ => n - (RowKit.intOf i).toNat)
  case atStart => exact ⟨k, 0, rfl, rfl, (show k = k + 3 * 0 from rfl), Nat.zero_le _, rfl⟩
  case round =>
    obtain ⟨m, j, rfl, rfl, hm, hj, rfl⟩ := hrel
    have hmb : m ≤ 4194304 := by have := hm.out; omega
    by_cases hlt : j < n
    · rcases HH.out.2 with ⟨_, hz0⟩ | ⟨g, cap, cur, hveq, hg, _⟩
      · omega
      · have hra : ra = some ⟨g, 0, none⟩ := by injection hveq
        subst hra
        have hk0 : (0 : Int) ≤ (j : Int) := by omega
        have hk1 : (j : Int) < (n : Int) := by omega
        have hbit : (((m : Int) + 1 + 1) % 3 == 0) = decide ((m + 2) % 3 = 0) := by
          rw [Bool.eq_iff_iff, beq_iff_eq, decide_eq_true_iff]
          omega
        have c0 : w.cell? ⟨g, j * 3, none⟩ = some (.int .i64 (m : Int)) := by
          have h1 := HH.out.cellAt (j * 3) (by omega)
          have h2 := ptsV_at (mkps k n) j 0 (by rw [mkps_length]; exact hlt) (by omega)
          rw [Nat.add_zero, mkps_at k hlt, ← hm.out] at h2
          rw [h1, h2]
          rfl
        have c1 : w.cell? ⟨g, j * 3 + 1, none⟩ = some (.int .i64 ((m : Int) + 1)) := by
          rw [HH.out.cellAt (j * 3 + 1) (by omega), ptsV_at (mkps k n) j 1 (by rw [mkps_length]; exact hlt) (by omega), mkps_at k hlt, ← hm.out]
          rfl
        have c2 : w.cell? ⟨g, j * 3 + 2, none⟩ = some (.bool (decide ((m + 2) % 3 = 0))) := by
          rw [HH.out.cellAt (j * 3 + 2) (by omega), ptsV_at (mkps k n) j 2 (by rw [mkps_length]; exact hlt) (by omega), mkps_at k hlt, ← hm.out]
          rfl
        generalize decide ((m + 2) % 3 = 0) = bz at hbit c2
        clear hveq
        cases bz
        · go_wp2
          go_roundw
          case rel => exact ⟨m + 3, j + 1, by go_num, by go_num, (show m + 3 = k + 3 * (j + 1) by have := hm.out; omega), hlt, by trivial⟩
          case measure => simp [RowKit.intOf]; omega
        · go_wp2
          go_roundw
          case rel => exact ⟨m + 3, j + 1, by go_num, by go_num, (show m + 3 = k + 3 * (j + 1) by have := hm.out; omega), hlt, by trivial⟩
          case measure => simp [RowKit.intOf]; omega
    · have hje : j = n := by omega
      subst hje
      go_wp2
      go_ret
      exact ⟨by rw [← hm.out]; rfl, by trivial⟩

end Go.Proofs.YthnahalboomkoaaGreat

/-
  The helpers of the exact laws on keys and what makes proofs: comparison, marks.
  (-DROP-: what the seat lacks is left out.)
-/
namespace Go.Proofs.YthnahalboomkoaaGreat
open Go.RowKit

set_option maxHeartbeats 3200000 in
set_option maxRecDepth 100000 in
theorem eqKeys_any (A B G D : Pt) (aI bI : Option Addr) (nI cI dI : Nat) (w : World) (EI : ∀ Z, Below w.heap.size w Z → Calls Tryz.prog 110 #[.slice aI nI cI, .slice bI nI dI] Z fun e w' => e = .returned (.bool true) ∧ Below Z.heap.size Z w') : Calls Tryz.prog 109 #[.agg #[.int .i64 A.1, .int .i64 A.2.1, .bool A.2.2, .int .i64 B.1, .int .i64 B.2.1, .bool B.2.2, .int .i64 G.1, .int .i64 G.2.1, .bool G.2.2, .int .i64 D.1, .int .i64 D.2.1, .bool D.2.2, .slice aI nI cI], .agg #[.int .i64 A.1, .int .i64 A.2.1, .bool A.2.2, .int .i64 B.1, .int .i64 B.2.1, .bool B.2.2, .int .i64 G.1, .int .i64 G.2.1, .bool G.2.2, .int .i64 D.1, .int .i64 D.2.1, .bool D.2.2, .slice bI nI dI]] w fun e w' => e = .returned (.bool true) ∧ Below w.heap.size w w' := by
  have C0 : Hid (∀ Z, Calls Tryz.prog 174 #[.agg #[.int .i64 A.1, .int .i64 A.2.1, .bool A.2.2], .agg #[.int .i64 A.1, .int .i64 A.2.1, .bool A.2.2]] Z fun e w' => e = .returned (.bool true) ∧ Below Z.heap.size Z w') := eqPoint_same A
  have C1 : Hid (∀ Z, Calls Tryz.prog 174 #[.agg #[.int .i64 B.1, .int .i64 B.2.1, .bool B.2.2], .agg #[.int .i64 B.1, .int .i64 B.2.1, .bool B.2.2]] Z fun e w' => e = .returned (.bool true) ∧ Below Z.heap.size Z w') := eqPoint_same B
  have C2 : Hid (∀ Z, Calls Tryz.prog 174 #[.agg #[.int .i64 G.1, .int .i64 G.2.1, .bool G.2.2], .agg #[.int .i64 G.1, .int .i64 G.2.1, .bool G.2.2]] Z fun e w' => e = .returned (.bool true) ∧ Below Z.heap.size Z w') := eqPoint_same G
  have C3 : Hid (∀ Z, Calls Tryz.prog 174 #[.agg #[.int .i64 D.1, .int .i64 D.2.1, .bool D.2.2], .agg #[.int .i64 D.1, .int .i64 D.2.1, .bool D.2.2]] Z fun e w' => e = .returned (.bool true) ∧ Below Z.heap.size Z w') := eqPoint_same D
  have C4 : Hid (∀ Z, Below w.heap.size w Z → Calls Tryz.prog 110 #[.slice aI nI cI, .slice bI nI dI] Z fun e w' => e = .returned (.bool true) ∧ Below Z.heap.size Z w') := EI
  clear EI
  obtain ⟨W, hW, hb, hs, hs'⟩ := two_boxes w 38 38 #[.int .i64 A.1, .int .i64 A.2.1, .bool A.2.2, .int .i64 B.1, .int .i64 B.2.1, .bool B.2.2, .int .i64 G.1, .int .i64 G.2.1, .bool G.2.2, .int .i64 D.1, .int .i64 D.2.1, .bool D.2.2, .slice aI nI cI] #[.int .i64 A.1, .int .i64 A.2.1, .bool A.2.2, .int .i64 B.1, .int .i64 B.2.1, .bool B.2.2, .int .i64 G.1, .int .i64 G.2.1, .bool G.2.2, .int .i64 D.1, .int .i64 D.2.1, .bool D.2.2, .slice bI nI dI]
  have HB : Hid (Below w.heap.size w W) := hb
  have HS : Hid (Blk W w.heap.size 38 #[.int .i64 A.1, .int .i64 A.2.1, .bool A.2.2, .int .i64 B.1, .int .i64 B.2.1, .bool B.2.2, .int .i64 G.1, .int .i64 G.2.1, .bool G.2.2, .int .i64 D.1, .int .i64 D.2.1, .bool D.2.2, .slice aI nI cI] ∧ Blk W (w.heap.size + 1) 38 #[.int .i64 A.1, .int .i64 A.2.1, .bool A.2.2, .int .i64 B.1, .int .i64 B.2.1, .bool B.2.2, .int .i64 G.1, .int .i64 G.2.1, .bool G.2.2, .int .i64 D.1, .int .i64 D.2.1, .bool D.2.2, .slice bI nI dI]) := ⟨hs, hs'⟩
  clear hb hs hs'
  have q0_1 : W.cell? ⟨w.heap.size, 0, none⟩ = some (.int .i64 A.1) := (HS.out.1.on (Below.refl _ _) HS.out.1.lt).cell 0
  have q0_2 : W.cell? ⟨w.heap.size + 1, 0, none⟩ = some (.int .i64 A.1) := (HS.out.2.on (Below.refl _ _) HS.out.2.lt).cell 0
  have q1_1 : W.cell? ⟨w.heap.size, 1, none⟩ = some (.int .i64 A.2.1) := (HS.out.1.on (Below.refl _ _) HS.out.1.lt).cell 1
  have q1_2 : W.cell? ⟨w.heap.size + 1, 1, none⟩ = some (.int .i64 A.2.1) := (HS.out.2.on (Below.refl _ _) HS.out.2.lt).cell 1
  have q2_1 : W.cell? ⟨w.heap.size, 2, none⟩ = some (.bool A.2.2) := (HS.out.1.on (Below.refl _ _) HS.out.1.lt).cell 2
  have q2_2 : W.cell? ⟨w.heap.size + 1, 2, none⟩ = some (.bool A.2.2) := (HS.out.2.on (Below.refl _ _) HS.out.2.lt).cell 2
  go_enter Tryz.func109, Tryz.ntmps109
  go_wp2_with fail
  clear hW q0_1 q0_2 q1_1 q1_2 q2_1 q2_2
  refine (C0.out _).mono ?_
  rintro e w1 ⟨rfl, hb1⟩
  have HB1 : Hid (Below W.heap.size W w1) := hb1
  clear hb1
  have q3_1 : w1.cell? ⟨w.heap.size, 3, none⟩ = some (.int .i64 B.1) := (HS.out.1.on HB1.out HS.out.1.lt).cell 3
  have q3_2 : w1.cell? ⟨w.heap.size + 1, 3, none⟩ = some (.int .i64 B.1) := (HS.out.2.on HB1.out HS.out.2.lt).cell 3
  have q4_1 : w1.cell? ⟨w.heap.size, 4, none⟩ = some (.int .i64 B.2.1) := (HS.out.1.on HB1.out HS.out.1.lt).cell 4
  have q4_2 : w1.cell? ⟨w.heap.size + 1, 4, none⟩ = some (.int .i64 B.2.1) := (HS.out.2.on HB1.out HS.out.2.lt).cell 4
  have q5_1 : w1.cell? ⟨w.heap.size, 5, none⟩ = some (.bool B.2.2) := (HS.out.1.on HB1.out HS.out.1.lt).cell 5
  have q5_2 : w1.cell? ⟨w.heap.size + 1, 5, none⟩ = some (.bool B.2.2) := (HS.out.2.on HB1.out HS.out.2.lt).cell 5
  go_wp2_with fail
  clear q3_1 q3_2 q4_1 q4_2 q5_1 q5_2
  refine (C1.out _).mono ?_
  rintro e w2 ⟨rfl, hb2⟩
  have HB2 : Hid (Below W.heap.size W w2) := HB1.out.trans (hb2.mono HB1.out.size)
  clear hb2 HB1
  have q6_1 : w2.cell? ⟨w.heap.size, 6, none⟩ = some (.int .i64 G.1) := (HS.out.1.on HB2.out HS.out.1.lt).cell 6
  have q6_2 : w2.cell? ⟨w.heap.size + 1, 6, none⟩ = some (.int .i64 G.1) := (HS.out.2.on HB2.out HS.out.2.lt).cell 6
  have q7_1 : w2.cell? ⟨w.heap.size, 7, none⟩ = some (.int .i64 G.2.1) := (HS.out.1.on HB2.out HS.out.1.lt).cell 7
  have q7_2 : w2.cell? ⟨w.heap.size + 1, 7, none⟩ = some (.int .i64 G.2.1) := (HS.out.2.on HB2.out HS.out.2.lt).cell 7
  have q8_1 : w2.cell? ⟨w.heap.size, 8, none⟩ = some (.bool G.2.2) := (HS.out.1.on HB2.out HS.out.1.lt).cell 8
  have q8_2 : w2.cell? ⟨w.heap.size + 1, 8, none⟩ = some (.bool G.2.2) := (HS.out.2.on HB2.out HS.out.2.lt).cell 8
  go_wp2_with fail
  clear q6_1 q6_2 q7_1 q7_2 q8_1 q8_2
  refine (C2.out _).mono ?_
  rintro e w3 ⟨rfl, hb3⟩
  have HB3 : Hid (Below W.heap.size W w3) := HB2.out.trans (hb3.mono HB2.out.size)
  clear hb3 HB2
  have q9_1 : w3.cell? ⟨w.heap.size, 9, none⟩ = some (.int .i64 D.1) := (HS.out.1.on HB3.out HS.out.1.lt).cell 9
  have q9_2 : w3.cell? ⟨w.heap.size + 1, 9, none⟩ = some (.int .i64 D.1) := (HS.out.2.on HB3.out HS.out.2.lt).cell 9
  have q10_1 : w3.cell? ⟨w.heap.size, 10, none⟩ = some (.int .i64 D.2.1) := (HS.out.1.on HB3.out HS.out.1.lt).cell 10
  have q10_2 : w3.cell? ⟨w.heap.size + 1, 10, none⟩ = some (.int .i64 D.2.1) := (HS.out.2.on HB3.out HS.out.2.lt).cell 10
  have q11_1 : w3.cell? ⟨w.heap.size, 11, none⟩ = some (.bool D.2.2) := (HS.out.1.on HB3.out HS.out.1.lt).cell 11
  have q11_2 : w3.cell? ⟨w.heap.size + 1, 11, none⟩ = some (.bool D.2.2) := (HS.out.2.on HB3.out HS.out.2.lt).cell 11
  go_wp2_with fail
  clear q9_1 q9_2 q10_1 q10_2 q11_1 q11_2
  refine (C3.out _).mono ?_
  rintro e w4 ⟨rfl, hb4⟩
  have HB4 : Hid (Below W.heap.size W w4) := HB3.out.trans (hb4.mono HB3.out.size)
  clear hb4 HB3
  have q12_1 : w4.cell? ⟨w.heap.size, 12, none⟩ = some (.slice aI nI cI) := (HS.out.1.on HB4.out HS.out.1.lt).cell 12
  have q12_2 : w4.cell? ⟨w.heap.size + 1, 12, none⟩ = some (.slice bI nI dI) := (HS.out.2.on HB4.out HS.out.2.lt).cell 12
  go_wp2_with fail
  clear q12_1 q12_2
  refine (C4.out _ (HB.out.trans (HB4.out.mono HB.out.size))).mono ?_
  rintro e w5 ⟨rfl, hb5⟩
  have HB5 : Hid (Below W.heap.size W w5) := HB4.out.trans (hb5.mono HB4.out.size)
  clear hb5 HB4
  go_wp2
  go_ret
  exact ⟨rfl, HB.out.trans (HB5.out.mono HB.out.size)⟩

set_option maxHeartbeats 3200000 in
set_option maxRecDepth 100000 in
theorem eqMaker_any (A B G D : Pt) (aI bI : Option Addr) (nI cI dI : Nat) (aU bU : Option Addr) (nU cU dU : Nat) (aV bV : Option Addr) (nV cV dV : Nat) (aL bL : Option Addr) (nL cL dL : Nat) (aZ bZ : Option Addr) (nZ cZ dZ : Nat) (w : World) (EI : ∀ Z, Below w.heap.size w Z → Calls Tryz.prog 110 #[.slice aI nI cI, .slice bI nI dI] Z fun e w' => e = .returned (.bool true) ∧ Below Z.heap.size Z w') (EU : ∀ Z, Below w.heap.size w Z → Calls Tryz.prog 110 #[.slice aU nU cU, .slice bU nU dU] Z fun e w' => e = .returned (.bool true) ∧ Below Z.heap.size Z w') (EV : ∀ Z, Below w.heap.size w Z → Calls Tryz.prog 110 #[.slice aV nV cV, .slice bV nV dV] Z fun e w' => e = .returned (.bool true) ∧ Below Z.heap.size Z w') (EL : ∀ Z, Below w.heap.size w Z → Calls Tryz.prog 110 #[.slice aL nL cL, .slice bL nL dL] Z fun e w' => e = .returned (.bool true) ∧ Below Z.heap.size Z w') (EZ : ∀ Z, Below w.heap.size w Z → Calls Tryz.prog 110 #[.slice aZ nZ cZ, .slice bZ nZ dZ] Z fun e w' => e = .returned (.bool true) ∧ Below Z.heap.size Z w') : Calls Tryz.prog 37 #[.agg #[.int .i64 A.1, .int .i64 A.2.1, .bool A.2.2, .int .i64 B.1, .int .i64 B.2.1, .bool B.2.2, .int .i64 G.1, .int .i64 G.2.1, .bool G.2.2, .int .i64 D.1, .int .i64 D.2.1, .bool D.2.2, .slice aI nI cI, .slice aU nU cU, .slice aV nV cV, .slice aL nL cL, .slice aZ nZ cZ], .agg #[.int .i64 A.1, .int .i64 A.2.1, .bool A.2.2, .int .i64 B.1, .int .i64 B.2.1, .bool B.2.2, .int .i64 G.1, .int .i64 G.2.1, .bool G.2.2, .int .i64 D.1, .int .i64 D.2.1, .bool D.2.2, .slice bI nI dI, .slice bU nU dU, .slice bV nV dV, .slice bL nL dL, .slice bZ nZ dZ]] w fun e w' => e = .returned (.bool true) ∧ Below w.heap.size w w' := by
  have C0 : Hid (∀ Z, Below w.heap.size w Z → Calls Tryz.prog 109 #[.agg #[.int .i64 A.1, .int .i64 A.2.1, .bool A.2.2, .int .i64 B.1, .int .i64 B.2.1, .bool B.2.2, .int .i64 G.1, .int .i64 G.2.1, .bool G.2.2, .int .i64 D.1, .int .i64 D.2.1, .bool D.2.2, .slice aI nI cI], .agg #[.int .i64 A.1, .int .i64 A.2.1, .bool A.2.2, .int .i64 B.1, .int .i64 B.2.1, .bool B.2.2, .int .i64 G.1, .int .i64 G.2.1, .bool G.2.2, .int .i64 D.1, .int .i64 D.2.1, .bool D.2.2, .slice bI nI dI]] Z fun e w' => e = .returned (.bool true) ∧ Below Z.heap.size Z w') := fun Z hZ => eqKeys_any A B G D aI bI nI cI dI Z fun Y hY => EI Y (hZ.trans (hY.mono hZ.size))
  have C1 : Hid (∀ Z, Below w.heap.size w Z → Calls Tryz.prog 110 #[.slice aU nU cU, .slice bU nU dU] Z fun e w' => e = .returned (.bool true) ∧ Below Z.heap.size Z w') := EU
  have C2 : Hid (∀ Z, Below w.heap.size w Z → Calls Tryz.prog 110 #[.slice aV nV cV, .slice bV nV dV] Z fun e w' => e = .returned (.bool true) ∧ Below Z.heap.size Z w') := EV
  have C3 : Hid (∀ Z, Below w.heap.size w Z → Calls Tryz.prog 110 #[.slice aL nL cL, .slice bL nL dL] Z fun e w' => e = .returned (.bool true) ∧ Below Z.heap.size Z w') := EL
  have C4 : Hid (∀ Z, Below w.heap.size w Z → Calls Tryz.prog 110 #[.slice aZ nZ cZ, .slice bZ nZ dZ] Z fun e w' => e = .returned (.bool true) ∧ Below Z.heap.size Z w') := EZ
  clear EI EU EV EL EZ
  obtain ⟨W, hW, hb, hs, hs'⟩ := two_boxes w 40 40 #[.int .i64 A.1, .int .i64 A.2.1, .bool A.2.2, .int .i64 B.1, .int .i64 B.2.1, .bool B.2.2, .int .i64 G.1, .int .i64 G.2.1, .bool G.2.2, .int .i64 D.1, .int .i64 D.2.1, .bool D.2.2, .slice aI nI cI, .slice aU nU cU, .slice aV nV cV, .slice aL nL cL, .slice aZ nZ cZ] #[.int .i64 A.1, .int .i64 A.2.1, .bool A.2.2, .int .i64 B.1, .int .i64 B.2.1, .bool B.2.2, .int .i64 G.1, .int .i64 G.2.1, .bool G.2.2, .int .i64 D.1, .int .i64 D.2.1, .bool D.2.2, .slice bI nI dI, .slice bU nU dU, .slice bV nV dV, .slice bL nL dL, .slice bZ nZ dZ]
  have HB : Hid (Below w.heap.size w W) := hb
  have HS : Hid (Blk W w.heap.size 40 #[.int .i64 A.1, .int .i64 A.2.1, .bool A.2.2, .int .i64 B.1, .int .i64 B.2.1, .bool B.2.2, .int .i64 G.1, .int .i64 G.2.1, .bool G.2.2, .int .i64 D.1, .int .i64 D.2.1, .bool D.2.2, .slice aI nI cI, .slice aU nU cU, .slice aV nV cV, .slice aL nL cL, .slice aZ nZ cZ] ∧ Blk W (w.heap.size + 1) 40 #[.int .i64 A.1, .int .i64 A.2.1, .bool A.2.2, .int .i64 B.1, .int .i64 B.2.1, .bool B.2.2, .int .i64 G.1, .int .i64 G.2.1, .bool G.2.2, .int .i64 D.1, .int .i64 D.2.1, .bool D.2.2, .slice bI nI dI, .slice bU nU dU, .slice bV nV dV, .slice bL nL dL, .slice bZ nZ dZ]) := ⟨hs, hs'⟩
  clear hb hs hs'
  have q0_1 : W.cell? ⟨w.heap.size, 0, none⟩ = some (.int .i64 A.1) := (HS.out.1.on (Below.refl _ _) HS.out.1.lt).cell 0
  have q0_2 : W.cell? ⟨w.heap.size + 1, 0, none⟩ = some (.int .i64 A.1) := (HS.out.2.on (Below.refl _ _) HS.out.2.lt).cell 0
  have q1_1 : W.cell? ⟨w.heap.size, 1, none⟩ = some (.int .i64 A.2.1) := (HS.out.1.on (Below.refl _ _) HS.out.1.lt).cell 1
  have q1_2 : W.cell? ⟨w.heap.size + 1, 1, none⟩ = some (.int .i64 A.2.1) := (HS.out.2.on (Below.refl _ _) HS.out.2.lt).cell 1
  have q2_1 : W.cell? ⟨w.heap.size, 2, none⟩ = some (.bool A.2.2) := (HS.out.1.on (Below.refl _ _) HS.out.1.lt).cell 2
  have q2_2 : W.cell? ⟨w.heap.size + 1, 2, none⟩ = some (.bool A.2.2) := (HS.out.2.on (Below.refl _ _) HS.out.2.lt).cell 2
  have q3_1 : W.cell? ⟨w.heap.size, 3, none⟩ = some (.int .i64 B.1) := (HS.out.1.on (Below.refl _ _) HS.out.1.lt).cell 3
  have q3_2 : W.cell? ⟨w.heap.size + 1, 3, none⟩ = some (.int .i64 B.1) := (HS.out.2.on (Below.refl _ _) HS.out.2.lt).cell 3
  have q4_1 : W.cell? ⟨w.heap.size, 4, none⟩ = some (.int .i64 B.2.1) := (HS.out.1.on (Below.refl _ _) HS.out.1.lt).cell 4
  have q4_2 : W.cell? ⟨w.heap.size + 1, 4, none⟩ = some (.int .i64 B.2.1) := (HS.out.2.on (Below.refl _ _) HS.out.2.lt).cell 4
  have q5_1 : W.cell? ⟨w.heap.size, 5, none⟩ = some (.bool B.2.2) := (HS.out.1.on (Below.refl _ _) HS.out.1.lt).cell 5
  have q5_2 : W.cell? ⟨w.heap.size + 1, 5, none⟩ = some (.bool B.2.2) := (HS.out.2.on (Below.refl _ _) HS.out.2.lt).cell 5
  have q6_1 : W.cell? ⟨w.heap.size, 6, none⟩ = some (.int .i64 G.1) := (HS.out.1.on (Below.refl _ _) HS.out.1.lt).cell 6
  have q6_2 : W.cell? ⟨w.heap.size + 1, 6, none⟩ = some (.int .i64 G.1) := (HS.out.2.on (Below.refl _ _) HS.out.2.lt).cell 6
  have q7_1 : W.cell? ⟨w.heap.size, 7, none⟩ = some (.int .i64 G.2.1) := (HS.out.1.on (Below.refl _ _) HS.out.1.lt).cell 7
  have q7_2 : W.cell? ⟨w.heap.size + 1, 7, none⟩ = some (.int .i64 G.2.1) := (HS.out.2.on (Below.refl _ _) HS.out.2.lt).cell 7
  have q8_1 : W.cell? ⟨w.heap.size, 8, none⟩ = some (.bool G.2.2) := (HS.out.1.on (Below.refl _ _) HS.out.1.lt).cell 8
  have q8_2 : W.cell? ⟨w.heap.size + 1, 8, none⟩ = some (.bool G.2.2) := (HS.out.2.on (Below.refl _ _) HS.out.2.lt).cell 8
  have q9_1 : W.cell? ⟨w.heap.size, 9, none⟩ = some (.int .i64 D.1) := (HS.out.1.on (Below.refl _ _) HS.out.1.lt).cell 9
  have q9_2 : W.cell? ⟨w.heap.size + 1, 9, none⟩ = some (.int .i64 D.1) := (HS.out.2.on (Below.refl _ _) HS.out.2.lt).cell 9
  have q10_1 : W.cell? ⟨w.heap.size, 10, none⟩ = some (.int .i64 D.2.1) := (HS.out.1.on (Below.refl _ _) HS.out.1.lt).cell 10
  have q10_2 : W.cell? ⟨w.heap.size + 1, 10, none⟩ = some (.int .i64 D.2.1) := (HS.out.2.on (Below.refl _ _) HS.out.2.lt).cell 10
  have q11_1 : W.cell? ⟨w.heap.size, 11, none⟩ = some (.bool D.2.2) := (HS.out.1.on (Below.refl _ _) HS.out.1.lt).cell 11
  have q11_2 : W.cell? ⟨w.heap.size + 1, 11, none⟩ = some (.bool D.2.2) := (HS.out.2.on (Below.refl _ _) HS.out.2.lt).cell 11
  have q12_1 : W.cell? ⟨w.heap.size, 12, none⟩ = some (.slice aI nI cI) := (HS.out.1.on (Below.refl _ _) HS.out.1.lt).cell 12
  have q12_2 : W.cell? ⟨w.heap.size + 1, 12, none⟩ = some (.slice bI nI dI) := (HS.out.2.on (Below.refl _ _) HS.out.2.lt).cell 12
  go_enter Tryz.func37, Tryz.ntmps37
  go_wp2_with fail
  clear hW q0_1 q0_2 q1_1 q1_2 q2_1 q2_2 q3_1 q3_2 q4_1 q4_2 q5_1 q5_2 q6_1 q6_2 q7_1 q7_2 q8_1 q8_2 q9_1 q9_2 q10_1 q10_2 q11_1 q11_2 q12_1 q12_2
  refine (C0.out _ HB.out).mono ?_
  rintro e w1 ⟨rfl, hb1⟩
  have HB1 : Hid (Below W.heap.size W w1) := hb1
  clear hb1
  have q13_1 : w1.cell? ⟨w.heap.size, 13, none⟩ = some (.slice aU nU cU) := (HS.out.1.on HB1.out HS.out.1.lt).cell 13
  have q13_2 : w1.cell? ⟨w.heap.size + 1, 13, none⟩ = some (.slice bU nU dU) := (HS.out.2.on HB1.out HS.out.2.lt).cell 13
  go_wp2_with fail
  clear q13_1 q13_2
  refine (C1.out _ (HB.out.trans (HB1.out.mono HB.out.size))).mono ?_
  rintro e w2 ⟨rfl, hb2⟩
  have HB2 : Hid (Below W.heap.size W w2) := HB1.out.trans (hb2.mono HB1.out.size)
  clear hb2 HB1
  have q14_1 : w2.cell? ⟨w.heap.size, 14, none⟩ = some (.slice aV nV cV) := (HS.out.1.on HB2.out HS.out.1.lt).cell 14
  have q14_2 : w2.cell? ⟨w.heap.size + 1, 14, none⟩ = some (.slice bV nV dV) := (HS.out.2.on HB2.out HS.out.2.lt).cell 14
  go_wp2_with fail
  clear q14_1 q14_2
  refine (C2.out _ (HB.out.trans (HB2.out.mono HB.out.size))).mono ?_
  rintro e w3 ⟨rfl, hb3⟩
  have HB3 : Hid (Below W.heap.size W w3) := HB2.out.trans (hb3.mono HB2.out.size)
  clear hb3 HB2
  have q15_1 : w3.cell? ⟨w.heap.size, 15, none⟩ = some (.slice aL nL cL) := (HS.out.1.on HB3.out HS.out.1.lt).cell 15
  have q15_2 : w3.cell? ⟨w.heap.size + 1, 15, none⟩ = some (.slice bL nL dL) := (HS.out.2.on HB3.out HS.out.2.lt).cell 15
  go_wp2_with fail
  clear q15_1 q15_2
  refine (C3.out _ (HB.out.trans (HB3.out.mono HB.out.size))).mono ?_
  rintro e w4 ⟨rfl, hb4⟩
  have HB4 : Hid (Below W.heap.size W w4) := HB3.out.trans (hb4.mono HB3.out.size)
  clear hb4 HB3
  have q16_1 : w4.cell? ⟨w.heap.size, 16, none⟩ = some (.slice aZ nZ cZ) := (HS.out.1.on HB4.out HS.out.1.lt).cell 16
  have q16_2 : w4.cell? ⟨w.heap.size + 1, 16, none⟩ = some (.slice bZ nZ dZ) := (HS.out.2.on HB4.out HS.out.2.lt).cell 16
  go_wp2_with fail
  clear q16_1 q16_2
  refine (C4.out _ (HB.out.trans (HB4.out.mono HB.out.size))).mono ?_
  rintro e w5 ⟨rfl, hb5⟩
  have HB5 : Hid (Below W.heap.size W w5) := HB4.out.trans (hb5.mono HB4.out.size)
  clear hb5 HB4
  go_wp2
  go_ret
  exact ⟨rfl, HB.out.trans (HB5.out.mono HB.out.size)⟩

end Go.Proofs.YthnahalboomkoaaGreat
