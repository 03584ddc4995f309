/-
  Rows of ints: blocks, copies, whether two are the same.
  (-DROP-: what the seat lacks is left out.)
-/
import Derived.Test.YtengnjffajimdaaProg
import Derived.Test.YtengnjffajimdaaScArg
import Derived.WalkKit
import Derived.StillTail
import Derived.StillTailTactics
namespace Go.Proofs.Ytengnjffajimdaa
open Go.RowKit

/-- The cells of a row of ints. -/
def ic (f : Nat → Int) (n : Nat) : Array Value := ((List.range n).map fun j => Value.int .i64 (f j)).toArray

theorem ic_size (f : Nat → Int) (n : Nat) : (ic f n).size = n := by simp [ic]

theorem ic_at (f : Nat → Int) {n j : Nat} (h : j < n) : (ic f n)[j]? = some (.int .i64 (f j)) := by simp [ic, h]

theorem ic_set (f : Nat → Int) (n j : Nat) (x : Int) : (ic f n).setIfInBounds j (.int .i64 x) = ic (fun i => if i = j then x else f i) n := by
  have e : (ic f n).setIfInBounds j (.int .i64 x) = (((List.range n).map fun j => Value.int .i64 (f j)).set j (.int .i64 x)).toArray := by simp [ic]
  rw [e]
  unfold ic
  congr 1
  apply List.ext_getElem
  · simp
  · intro i h1 h2
    by_cases h : j = i
    · subst h; simp
    · have h' : ¬ i = j := fun e => h e.symm
      rw [List.getElem_set_ne h]
      simp [h']

/-- Block g is a row of ints. -/
def RowI (w : World) (g n : Nat) (f : Nat → Int) : Prop := w.heap[g]? = some (.cells (ic f n) 3 (0, 0))

theorem RowI.cell {w : World} {g n : Nat} {f : Nat → Int} (h : RowI w g n f) {j : Nat} (hj : j < n) : w.cell? ⟨g, j, none⟩ = some (.int .i64 (f j)) := by
  rw [cell_of_row w g j _ 3 (0, 0) h, ic_at f hj]

theorem RowI.free {w : World} {g n : Nat} {f : Nat → Int} (h : RowI w g n f) (j : Nat) : w.frozen? ⟨g, j, none⟩ = false := frozen_of_row w g j _ 3 h

theorem RowI.lt {w : World} {g n : Nat} {f : Nat → Int} (h : RowI w g n f) : g < w.heap.size := by
  rcases Nat.lt_or_ge g w.heap.size with h1 | h1
  · exact h1
  · unfold RowI at h
    rw [Array.getElem?_eq_none h1] at h
    cases h

theorem RowI.set {w : World} {g n : Nat} {f : Nat → Int} (h : RowI w g n f) (j : Nat) (x : Int) : RowI (w.setCell ⟨g, j, none⟩ (.int .i64 x)) g n (fun i => if i = j then x else f i) := by
  have := heap_setCell_same w g j _ 3 (.int .i64 x) h
  rw [ic_set] at this
  exact this

theorem RowI.on {w w1 : World} {g n c : Nat} {f : Nat → Int} (h : RowI w g n f) (hb : Below c w w1) (hc : g < c) : RowI w1 g n f := (hb.block g hc).trans h

theorem RowI.ints {w : World} {g n c : Nat} {f : Nat → Int} (h : RowI w g n f) (hc : g < c) : IntsAt w (some ⟨g, 0, none⟩) n c f := fun j hj => ⟨g, 0, rfl, hc, by rw [Nat.zero_add]; exact h.cell hj⟩

theorem RowI.congr {w : World} {g n : Nat} {f f' : Nat → Int} (h : RowI w g n f) (hf : ∀ j, j < n → f j = f' j) : RowI w g n f' := by
  have e : ic f n = ic f' n := by
    unfold ic
    congr 1
    apply List.map_congr_left
    intro j hj
    rw [hf j (List.mem_range.1 hj)]
  unfold RowI
  rw [← e]
  exact h

theorem rowI_new (w : World) (f : Nat → Int) (n : Nat) : RowI (w.alloc (.cells (ic f n) 3)) w.heap.size n f := heap_alloc_new w _

theorem info3I : (Try.prog.info? 3).map (fun i => (i.zero, i.size, i.bytes)) = some (some (.int .i64 0), 1, 8) := by kernel_rfl

/-- make([]int, n, m). -/
theorem make_ints (n m : Nat) (h1 : n ≤ m) (h2 : m ≤ 1073741824) (W : World) :
    (Instr.makeSlice 24 (.int .i64 (n : Int)) (.int .i64 (m : Int))).run Try.prog W = .ok (.slice (some ⟨W.heap.size, 0, none⟩) n m) (W.alloc (.cells (ic (fun _ => 0) m) 3)) := by
  obtain ⟨i0, hi, hz0, hz1, hz2⟩ := info_parts info3I
  have hM : madeCells (Value.int .i64 0).cells ((m : Int).toNat * i0.size) = ic (fun _ => 0) m := by
    rw [hz1]
    have h3 := toList_madeCells_one (.int .i64 0) m
    apply Array.toList_inj.1
    have e : (ic (fun _ => 0) m).toList = List.replicate m (Value.int .i64 0) := by
      simp [ic, List.map_const', List.length_range]
    rw [e]
    simpa [Value.cells] using h3
  have h := run_make (P := Try.prog) W 24 3 i0 (.int .i64 0) Try.underlying24 hi hz0 .i64 .i64 (n : Int) (m : Int) (by omega) (by omega) (by rw [hz2]; omega) (by omega)
  rw [hM] at h
  simpa using h

/-- The first k of f, then 0. -/
def upTo (f : Nat → Int) (k : Nat) : Nat → Int := fun j => if j < k then f j else 0

theorem upTo_next (f : Nat → Int) (k : Nat) : (fun i => if i = k then f k else upTo f k i) = upTo f (k + 1) := by
  funext i
  unfold upTo
  by_cases h : i = k
  · subst h
    rw [if_pos rfl, if_pos (by omega)]
  · rw [if_neg h]
    by_cases h2 : i < k
    · rw [if_pos h2, if_pos (by omega)]
    · rw [if_neg h2, if_neg (by omega)]

theorem upTo_in (f : Nat → Int) {k j : Nat} (h : j < k) : upTo f k j = f j := if_pos h

set_option maxHeartbeats 800000 in
set_option maxRecDepth 100000 in
theorem toIntS_any (a : Option Addr) (n cap : Nat) (hn : n ≤ 1048576) (f : Nat → Int) (w : World) (hA : IntsAt w a n w.heap.size f) :
    Calls Try.prog 27 #[.slice a n cap] w fun e w' => e = .returned (.slice (some ⟨w.heap.size, 0, none⟩) n n) ∧ RowI w' w.heap.size n f ∧ Below w.heap.size w w' := by
  have HA : Hid (IntsAt w a n w.heap.size f) := hA
  clear hA
  have hmk : ∀ W : World, (Instr.makeSlice 24 (.int .i64 (n : Int)) (.int .i64 (n : Int))).run Try.prog W = .ok (.slice (some ⟨W.heap.size, 0, none⟩) n n) (W.alloc (.cells (ic (fun _ => 0) n) 3)) := fun W => make_ints n n (Nat.le_refl _) (by omega) W
  have H0 : Hid (RowI (w.alloc (.cells (ic (fun _ => 0) n) 3)) w.heap.size n (upTo f 0)) := (rowI_new w (fun _ => 0) n).congr fun j _ => by unfold upTo; rw [if_neg (by omega)]
  generalize ic (fun _ => 0) n = M at hmk H0
  go_enter Try.func27, Try.ntmps27
  go_wp2
  go_loopw [4] (fun i wr => ∃ k : Nat, i = .int .i64 (k : Int) ∧ k ≤ n ∧ Hid (RowI wr w.heap.size n (upTo f k)) ∧ Hid (Below w.heap.size w wr)) (fun i _ => n - (intOf i).toNat)
  case atStart => exact ⟨0, rfl, Nat.zero_le _, H0, (Below.refl _ _).alloc (Nat.le_refl _) _⟩
  case round =>
    obtain ⟨k, rfl, hk, HR, HW⟩ := hrel
    clear hmk H0
    by_cases hlt : k < n
    · have hlt' : (k : Int) < (n : Int) := by omega
      have hk0 : (0 : Int) ≤ (k : Int) := by omega
      obtain ⟨b, off, rfl, hb, hz⟩ := (HA.out.on HW.out) k hlt
      have hc := HR.out.cell hlt
      have hf := HR.out.free k
      have HR2 : Hid (RowI (wr.setCell ⟨w.heap.size, k, none⟩ (.int .i64 (f k))) w.heap.size n (upTo f (k + 1))) := by
        have := HR.out.set k (f k)
        rw [upTo_next] at this
        exact this
      have HW2 : Hid (Below w.heap.size w (wr.setCell ⟨w.heap.size, k, none⟩ (.int .i64 (f k)))) := HW.out.setCell (Nat.le_refl _) _
      generalize f k = x at hz HR2 HW2
      generalize upTo f k k = y at hc
      clear HA HR HW hb
      go_wp2
      go_roundw
      case rel => exact ⟨k + 1, by go_num, hlt, HR2, HW2⟩
      case measure => simp [intOf]; omega
    · have hlt' : ¬ (k : Int) < (n : Int) := by omega
      have HE : Hid (RowI wr w.heap.size n f) := HR.out.congr fun j hj => upTo_in f (by omega)
      go_wp2
      go_ret
      exact ⟨rfl, HE.out, HW.out⟩

set_option maxHeartbeats 800000 in
set_option maxRecDepth 100000 in
theorem eqIntSW_any (a b : Option Addr) (n c1 c2 : Nat) (hn : n ≤ 4194304) (f : Nat → Int) (w : World) (hA : IntsAt w a n w.heap.size f) (hB : IntsAt w b n w.heap.size f) :
    Calls Try.prog 24 #[.slice a n c1, .slice b n c2] w fun e w' => e = .returned (.bool true) ∧ Below w.heap.size w w' := by
  have HA : Hid (IntsAt w a n w.heap.size f) := hA
  have HB : Hid (IntsAt w b n w.heap.size f) := hB
  clear hA hB
  go_enter Try.func24, Try.ntmps24
  go_wp2
  go_loopw [5] (fun i wr => ∃ k : Nat, i = .int .i64 (k : Int) ∧ k ≤ n ∧ Hid (Below w.heap.size w wr)) (fun i _ => n - (intOf i).toNat)
  case atStart => exact ⟨0, rfl, Nat.zero_le _, Below.refl _ _⟩
  case round =>
    obtain ⟨k, rfl, hk, HW⟩ := hrel
    by_cases hlt : k < n
    · have hlt' : (k : Int) < (n : Int) := by omega
      have hk0 : (0 : Int) ≤ (k : Int) := by omega
      obtain ⟨b, off, rfl, hb, hz⟩ := (HA.out.on HW.out) k hlt
      obtain ⟨b', off', rfl, hb', hz'⟩ := (HB.out.on HW.out) k hlt
      generalize f k = x at hz hz'
      clear hb hb' HA HB
      go_wp2
      refine wp_region_still_tail 8 mixesSc (by kernel_rfl) ?_
      simp only [List.take_succ_cons, List.take_zero, List.drop_succ_cons, List.drop_zero]
      repeat still_step
      refine wpStill_nil ?_
      go_wp2
      go_roundw
      case rel => exact ⟨k + 1, by go_num, hlt, HW.out.drew⟩
      case measure => simp [intOf]; omega
    · have hlt' : ¬ (k : Int) < (n : Int) := by omega
      go_wp2
      go_ret
      exact ⟨rfl, HW.out⟩

theorem eqIntS_any (a b : Option Addr) (n c1 c2 : Nat) (hn : n ≤ 1048576) (f : Nat → Int) (w : World) (hA : IntsAt w a n w.heap.size f) (hB : IntsAt w b n w.heap.size f) :
    Calls Try.prog 24 #[.slice a n c1, .slice b n c2] w fun e w' => e = .returned (.bool true) ∧ Below w.heap.size w w' :=
  eqIntSW_any a b n c1 c2 (Nat.le_trans hn (by decide)) f w hA hB

end Go.Proofs.Ytengnjffajimdaa
