/-
  Rows of points: blocks, copies, whether two are the same.
  (-DROP-: what the seat lacks is left out.)
-/
import Derived.Test.YtkmelamfohfdkaaJoined29
namespace Go.Proofs.Ytkmelamfohfdkaa
open Go.RowKit

/-- A cell of a point. -/
def pcell (P : Pt) (i : Nat) : Value := if i = 0 then .int .i64 P.1 else if i = 1 then .int .i64 P.2.1 else .bool P.2.2

/-- The cells of a row of points. -/
def pcs (f : Nat → Pt) (n : Nat) : Array Value := ((List.range (n * 3)).map fun k => pcell (f (k / 3)) (k % 3)).toArray

theorem pcs_size (f : Nat → Pt) (n : Nat) : (pcs f n).size = n * 3 := by simp [pcs]

theorem pcs_get (f : Nat → Pt) {n k : Nat} (h : k < n * 3) : (pcs f n)[k]? = some (pcell (f (k / 3)) (k % 3)) := by simp [pcs, h]

/-- Another point at j. -/
def updP (f : Nat → Pt) (j : Nat) (P : Pt) : Nat → Pt := fun i => if i = j then P else f i

theorem pcs_set (f : Nat → Pt) (n j : Nat) (P : Pt) (_hj : j < n) : (((pcs f n).setIfInBounds (j * 3) (.int .i64 P.1)).setIfInBounds (j * 3 + 1) (.int .i64 P.2.1)).setIfInBounds (j * 3 + 2) (.bool P.2.2) = pcs (updP f j P) n := by
  apply Array.ext_getElem?
  intro k
  by_cases hk : k < n * 3
  · rw [pcs_get _ hk]
    simp only [Array.getElem?_setIfInBounds, pcs_get f hk, Array.size_setIfInBounds, pcs_size]
    unfold updP pcell
    by_cases h2 : j * 3 + 2 = k
    · subst h2
      rw [if_pos rfl, if_pos hk, show (j * 3 + 2) / 3 = j by omega, show (j * 3 + 2) % 3 = 2 by omega]
      simp
    · rw [if_neg h2]
      by_cases h1 : j * 3 + 1 = k
      · subst h1
        rw [if_pos rfl, if_pos hk, show (j * 3 + 1) / 3 = j by omega, show (j * 3 + 1) % 3 = 1 by omega]
        simp
      · rw [if_neg h1]
        by_cases h0 : j * 3 = k
        · subst h0
          rw [if_pos rfl, if_pos hk, show (j * 3) / 3 = j by omega, show (j * 3) % 3 = 0 by omega]
          simp
        · rw [if_neg h0, if_neg (show ¬ k / 3 = j by omega)]
  · have hn : ∀ g : Nat → Pt, (pcs g n)[k]? = none := fun g => Array.getElem?_eq_none (by rw [pcs_size]; omega)
    rw [hn]
    simp only [Array.getElem?_setIfInBounds, hn, Array.size_setIfInBounds, pcs_size]
    rw [if_neg (by omega), if_neg (by omega), if_neg (by omega)]

/-- Block g is a row of points. -/
def RowPt (w : World) (g n : Nat) (f : Nat → Pt) : Prop := w.heap[g]? = some (.cells (pcs f n) 42 (0, 0))

theorem RowPt.cell {w : World} {g n : Nat} {f : Nat → Pt} (h : RowPt w g n f) {k : Nat} (hk : k < n * 3) : w.cell? ⟨g, k, none⟩ = some (pcell (f (k / 3)) (k % 3)) := by
  rw [cell_of_row w g k _ 42 (0, 0) h, pcs_get f hk]

theorem RowPt.cells {w : World} {g n : Nat} {f : Nat → Pt} (h : RowPt w g n f) {j : Nat} (hj : j < n) : w.cell? ⟨g, j * 3, none⟩ = some (.int .i64 (f j).1) ∧ w.cell? ⟨g, j * 3 + 1, none⟩ = some (.int .i64 (f j).2.1) ∧ w.cell? ⟨g, j * 3 + 2, none⟩ = some (.bool (f j).2.2) := by
  refine ⟨?_, ?_, ?_⟩
  · rw [h.cell (by omega), show j * 3 / 3 = j by omega, show j * 3 % 3 = 0 by omega]; rfl
  · rw [h.cell (by omega), show (j * 3 + 1) / 3 = j by omega, show (j * 3 + 1) % 3 = 1 by omega]; rfl
  · rw [h.cell (by omega), show (j * 3 + 2) / 3 = j by omega, show (j * 3 + 2) % 3 = 2 by omega]; rfl

theorem RowPt.free {w : World} {g n : Nat} {f : Nat → Pt} (h : RowPt w g n f) (k : Nat) : w.frozen? ⟨g, k, none⟩ = false := frozen_of_row w g k _ 42 h

theorem RowPt.lt {w : World} {g n : Nat} {f : Nat → Pt} (h : RowPt w g n f) : g < w.heap.size := (Array.getElem?_eq_some_iff.1 h).1

theorem RowPt.set {w : World} {g n : Nat} {f : Nat → Pt} (h : RowPt w g n f) {j : Nat} (hj : j < n) (P : Pt) : RowPt (((w.setCell ⟨g, j * 3, none⟩ (.int .i64 P.1)).setCell ⟨g, j * 3 + 1, none⟩ (.int .i64 P.2.1)).setCell ⟨g, j * 3 + 2, none⟩ (.bool P.2.2)) g n (updP f j P) := by
  have h1 := heap_setCell_same w g (j * 3) _ 42 (.int .i64 P.1) h
  have h2 := heap_setCell_same _ g (j * 3 + 1) _ 42 (.int .i64 P.2.1) h1
  have h3 := heap_setCell_same _ g (j * 3 + 2) _ 42 (.bool P.2.2) h2
  rw [pcs_set f n j P hj] at h3
  exact h3

theorem RowPt.on {w w1 : World} {g n c : Nat} {f : Nat → Pt} (h : RowPt w g n f) (hb : Below c w w1) (hc : g < c) : RowPt w1 g n f := (hb.block g hc).trans h

theorem RowPt.pts {w : World} {g n c : Nat} {f : Nat → Pt} (h : RowPt w g n f) (hc : g < c) : PtsAt w (some ⟨g, 0, none⟩) n c f := fun j hj => by
  obtain ⟨h1, h2, h3⟩ := h.cells hj
  exact ⟨g, 0, rfl, hc, by rw [Nat.zero_add]; exact h1, by rw [Nat.zero_add]; exact h2, by rw [Nat.zero_add]; exact h3⟩

theorem RowPt.congr {w : World} {g n : Nat} {f f' : Nat → Pt} (h : RowPt w g n f) (hf : ∀ j, j < n → f j = f' j) : RowPt w g n f' := by
  have e : pcs f n = pcs f' n := by
    unfold pcs
    congr 1
    apply List.map_congr_left
    intro k hk
    rw [hf (k / 3) (by have := List.mem_range.1 hk; omega)]
  unfold RowPt
  rw [← e]
  exact h

theorem infoPm : (Try.prog.info? 42).map (fun i => (i.zero, i.size, i.bytes)) = some (some (.agg #[.int .i64 0, .int .i64 0, .bool false]), 3, 24) := by kernel_rfl

/-- No point. -/
def noP : Nat → Pt := fun _ => (0, 0, false)

/-- make([]Point, n). -/
theorem make_pts (n : Nat) (h2 : n ≤ 1073741824) (W : World) :
    (Instr.makeSlice 27 (.int .i64 (n : Int)) (.int .i64 (n : Int))).run Try.prog W = .ok (.slice (some ⟨W.heap.size, 0, none⟩) n n) (W.alloc (.cells (pcs noP n) 42)) := by
  obtain ⟨i0, hi, hz0, hz1, hz2⟩ := info_parts infoPm
  have hM : madeCells (Value.agg #[.int .i64 0, .int .i64 0, .bool false]).cells ((n : Int).toNat * i0.size) = pcs noP n := by
    rw [hz1]
    apply Array.ext_getElem?
    intro k
    by_cases hk : k < n * 3
    · rw [pcs_get _ hk]
      have hm : k % 3 = 0 ∨ k % 3 = 1 ∨ k % 3 = 2 := by omega
      rcases hm with h | h | h <;> simp [madeCells, Value.cells, hk, h, pcell, noP]
    · rw [Array.getElem?_eq_none (by rw [size_madeCells]; simp; omega), Array.getElem?_eq_none (by rw [pcs_size]; omega)]
  have h := run_make (P := Try.prog) W 27 42 i0 (.agg #[.int .i64 0, .int .i64 0, .bool false]) Try.underlying27 hi hz0 .i64 .i64 (n : Int) (n : Int) (by omega) (by omega) (by rw [hz2]; omega) (by omega)
  rw [hM] at h
  simpa using h

/-- The first k of f, then none. -/
def uptoP (f : Nat → Pt) (k : Nat) : Nat → Pt := fun j => if j < k then f j else (0, 0, false)

theorem uptoP_next (f : Nat → Pt) (k : Nat) : updP (uptoP f k) k (f k) = uptoP f (k + 1) := by
  funext i
  unfold updP uptoP
  by_cases h : i = k
  · subst h
    rw [if_pos rfl, if_pos (by omega)]
  · rw [if_neg h]
    by_cases h2 : i < k
    · rw [if_pos h2, if_pos (by omega)]
    · rw [if_neg h2, if_neg (by omega)]

set_option maxHeartbeats 800000 in
set_option maxRecDepth 100000 in
theorem toPointS_any (a : Option Addr) (n cap : Nat) (hn : n ≤ 1048576) (f : Nat → Pt) (w : World) (hA : PtsAt w a n w.heap.size f) :
    Calls Try.prog 19 #[.slice a n cap] w fun e w' => e = .returned (.slice (some ⟨w.heap.size, 0, none⟩) n n) ∧ RowPt w' w.heap.size n f ∧ Below w.heap.size w w' := by
  have HA : Hid (PtsAt w a n w.heap.size f) := hA
  clear hA
  have hmk : ∀ W : World, (Instr.makeSlice 27 (.int .i64 (n : Int)) (.int .i64 (n : Int))).run Try.prog W = .ok (.slice (some ⟨W.heap.size, 0, none⟩) n n) (W.alloc (.cells (pcs noP n) 42)) := fun W => make_pts n (by omega) W
  have H0 : Hid (RowPt (w.alloc (.cells (pcs noP n) 42)) w.heap.size n (uptoP f 0)) := (show RowPt _ _ _ noP from heap_alloc_new w _).congr fun j _ => by unfold uptoP noP; rw [if_neg (by omega)]
  generalize pcs noP n = M at hmk H0
  go_enter Try.func19, Try.ntmps19
  go_wp2
  go_loopw [4] (fun i wr => ∃ k : Nat, i = .int .i64 (k : Int) ∧ k ≤ n ∧ Hid (RowPt wr w.heap.size n (uptoP f k)) ∧ Hid (Below w.heap.size w wr)) (fun i _ => n - (intOf i).toNat)
  case atStart => exact ⟨0, rfl, Nat.zero_le _, H0, (Below.refl _ _).alloc (Nat.le_refl _) _⟩
  case round =>
    obtain ⟨k, rfl, hk, HR, HW⟩ := hrel
    clear hmk H0
    by_cases hlt : k < n
    · have hlt' : (k : Int) < (n : Int) := by omega
      have hk0 : (0 : Int) ≤ (k : Int) := by omega
      obtain ⟨b, off, rfl, hb, z0, z1, z2⟩ := (HA.out.on HW.out) k hlt
      have HT : Hid (∀ w, Calls Try.prog 34 #[pv (f k)] w fun e w' => e = .returned (pv (f k)) ∧ Below w.heap.size w w') := toPoint_any (f k)
      have HNX : Hid (updP (uptoP f k) k (f k) = uptoP f (k + 1)) := uptoP_next f k
      generalize f k = F at z0 z1 z2 HT HNX
      go_wp2_with fail
      refine (HT.out _).mono ?_
      rintro e w1 ⟨rfl, hb1⟩
      have hR1 := HR.out.on hb1 HR.out.lt
      obtain ⟨c0, c1, c2⟩ := hR1.cells hlt
      have f0 := hR1.free (k * 3)
      have f1 := hR1.free (k * 3 + 1)
      have f2 := hR1.free (k * 3 + 2)
      have HR2 : Hid (RowPt (((w1.setCell ⟨w.heap.size, k * 3, none⟩ (.int .i64 F.1)).setCell ⟨w.heap.size, k * 3 + 1, none⟩ (.int .i64 F.2.1)).setCell ⟨w.heap.size, k * 3 + 2, none⟩ (.bool F.2.2)) w.heap.size n (uptoP f (k + 1))) := by
        have := hR1.set hlt F
        rw [HNX.out] at this
        exact this
      have hB1 : Below w.heap.size w w1 := HW.out.trans (hb1.mono HW.out.size)
      have HW2 : Hid (Below w.heap.size w (((w1.setCell ⟨w.heap.size, k * 3, none⟩ (.int .i64 F.1)).setCell ⟨w.heap.size, k * 3 + 1, none⟩ (.int .i64 F.2.1)).setCell ⟨w.heap.size, k * 3 + 2, none⟩ (.bool F.2.2))) := ((hB1.setCell (Nat.le_refl _) _).setCell (Nat.le_refl _) _).setCell (Nat.le_refl _) _
      clear HA HR HW hb hb1 hR1 hB1 z0 z1 z2 HT HNX
      go_wp2
      go_roundw
      case rel => exact ⟨k + 1, by go_num, hlt, HR2, HW2⟩
      case measure => simp [intOf]; omega
    · have hlt' : ¬ (k : Int) < (n : Int) := by omega
      have HE : Hid (RowPt wr w.heap.size n f) := HR.out.congr fun j hj => by unfold uptoP; rw [if_pos (by omega)]
      go_wp2
      go_ret
      exact ⟨rfl, HE.out, HW.out⟩

set_option maxHeartbeats 800000 in
set_option maxRecDepth 100000 in
theorem eqPointS_any (a b : Option Addr) (n c1 c2 : Nat) (hn : n ≤ 1048576) (f : Nat → Pt) (w : World) (hA : PtsAt w a n w.heap.size f) (hB : PtsAt w b n w.heap.size f) :
    Calls Try.prog 21 #[.slice a n c1, .slice b n c2] w fun e w' => e = .returned (.bool true) ∧ Below w.heap.size w w' := by
  have HA : Hid (PtsAt w a n w.heap.size f) := hA
  have HB : Hid (PtsAt w b n w.heap.size f) := hB
  clear hA hB
  go_enter Try.func21, Try.ntmps21
  go_wp2
  go_loopw [5] (fun i wr => ∃ k : Nat, i = .int .i64 (k : Int) ∧ k ≤ n ∧ Hid (Below w.heap.size w wr)) (fun i _ => n - (intOf i).toNat)
  case atStart => exact ⟨0, rfl, Nat.zero_le _, Below.refl _ _⟩
  case round =>
    obtain ⟨k, rfl, hk, HW⟩ := hrel
    by_cases hlt : k < n
    · have hlt' : (k : Int) < (n : Int) := by omega
      have hk0 : (0 : Int) ≤ (k : Int) := by omega
      have hws : w.heap.size ≤ wr.heap.size := HW.out.size
      obtain ⟨b, off, rfl, hb, z0, z1, z2⟩ := (HA.out.on HW.out) k hlt
      obtain ⟨b', off', rfl, hb', y0, y1, y2⟩ := (HB.out.on HW.out) k hlt
      have HT : Hid (∀ w, Calls Try.prog 37 #[pv (f k), pv (f k)] w fun e w' => e = .returned (.bool true) ∧ Below w.heap.size w w') := eqPoint_same (f k)
      generalize f k = F at z0 z1 z2 y0 y1 y2 HT
      have Z0 : ∀ w', Below wr.heap.size wr w' → w'.cell? ⟨b, off + k * 3, none⟩ = some (.int .i64 F.1) := fun w' hw => (hw.cell (p := ⟨b, off + k * 3, none⟩) (by show b < _; omega)).trans z0
      have Z1 : ∀ w', Below wr.heap.size wr w' → w'.cell? ⟨b, off + k * 3 + 1, none⟩ = some (.int .i64 F.2.1) := fun w' hw => (hw.cell (p := ⟨b, off + k * 3 + 1, none⟩) (by show b < _; omega)).trans z1
      have Z2 : ∀ w', Below wr.heap.size wr w' → w'.cell? ⟨b, off + k * 3 + 2, none⟩ = some (.bool F.2.2) := fun w' hw => (hw.cell (p := ⟨b, off + k * 3 + 2, none⟩) (by show b < _; omega)).trans z2
      have Y0 : ∀ w', Below wr.heap.size wr w' → w'.cell? ⟨b', off' + k * 3, none⟩ = some (.int .i64 F.1) := fun w' hw => (hw.cell (p := ⟨b', off' + k * 3, none⟩) (by show b' < _; omega)).trans y0
      have Y1 : ∀ w', Below wr.heap.size wr w' → w'.cell? ⟨b', off' + k * 3 + 1, none⟩ = some (.int .i64 F.2.1) := fun w' hw => (hw.cell (p := ⟨b', off' + k * 3 + 1, none⟩) (by show b' < _; omega)).trans y1
      have Y2 : ∀ w', Below wr.heap.size wr w' → w'.cell? ⟨b', off' + k * 3 + 2, none⟩ = some (.bool F.2.2) := fun w' hw => (hw.cell (p := ⟨b', off' + k * 3 + 2, none⟩) (by show b' < _; omega)).trans y2
      clear HA HB hb hb' z0 z1 z2 y0 y1 y2
      go_wp2
      refine wp_region_class 9 (fun wz => Below wr.heap.size wr wz) mixes (by kernel_rfl) (Below.refl _ _).drew ?_
      simp only [List.take_succ_cons, List.take_zero, List.drop_succ_cons, List.drop_zero]
      repeat (refine cls_step rfl (fun K hK => ⟨_, (fun w' hw => by have z0 := Z0 w' hw; have z1 := Z1 w' hw; have z2 := Z2 w' hw; have z3 := Y0 w' hw; have z4 := Y1 w' hw; have z5 := Y2 w' hw; go_simp; exact rfl), ?_⟩); go_simp; refine hK _ ?_; clear hK K)
      refine cls_call rfl (fun K hK => ⟨_, _, _, (fun w' => by go_simp <;> first | exact rfl | exact ⟨rfl, rfl⟩), (fun w' hw => calls_below hw (HT.out _)), ?_⟩); go_simp; refine hK _ ?_; clear hK K
      refine wq_nil ?_
      intro w' hw
      have HW2 : Hid (Below w.heap.size w w') := HW.out.trans (hw.mono hws)
      clear hw HW
      go_wp2
      go_roundw
      case rel => exact ⟨k + 1, by go_num, hlt, HW2⟩
      case measure => simp [intOf]; omega
    · have hlt' : ¬ (k : Int) < (n : Int) := by omega
      go_wp2
      go_ret
      exact ⟨rfl, HW.out⟩

set_option maxHeartbeats 800000 in
set_option maxRecDepth 100000 in
theorem szPointS_at (a : Option Addr) (n cap L : Nat) (hn : n ≤ 9223372036854775807) (hL : L ≤ 1048576) (w : World) :
    Calls Try.prog 17 #[.slice a n cap, .int .i64 (L : Int)] w fun e w' => e = .returned (.int .i64 (if L < n then -1 else (L : Int) - (n : Int))) ∧ w = w' := by
  by_cases h : L < n
  · rw [if_pos h]
    have h' : (L : Int) - (n : Int) < 0 := by omega
    go_enter Try.func17, Try.ntmps17
    go_wp2
    go_ret
    exact ⟨rfl, rfl⟩
  · rw [if_neg h]
    have h' : ¬ (L : Int) - (n : Int) < 0 := by omega
    go_enter Try.func17, Try.ntmps17
    go_wp2
    go_ret
    exact ⟨rfl, rfl⟩

theorem szPointS_any (a : Option Addr) (n cap : Nat) (hn : n ≤ 9223372036854775807) (w : World) :
    Calls Try.prog 17 #[.slice a n cap, .int .i64 1048576] w fun e w' => e = .returned (.int .i64 (if 1048576 < n then -1 else 1048576 - (n : Int))) ∧ w = w' := szPointS_at a n cap 1048576 hn (Nat.le_refl _) w

end Go.Proofs.Ytkmelamfohfdkaa
