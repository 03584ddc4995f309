/-
  The walks of the helpers of the exact laws on items: a copy of an item that may be pointed to.
  (-DROP-: what the seat lacks is left out.)
-/
import Derived.Test.YtmpjnabadplbjaaItemR3
import Derived.Test.YtmpjnabadplbjaaSamePure
import Derived.Test.YtmpjnabadplbjaaItemSz
import Derived.WalkLawsBesides
import Derived.WalkSpells
namespace Go.Proofs.Ytmpjnabadplbjaa
open Go.RowKit

/-- A cell of an item. -/
def icell (c : Bool × ByteArray × Value) (i : Nat) : Value := if i = 0 then .bool c.1 else if i = 1 then .string c.2.1 else c.2.2
/-- The cells of a row of items. -/
def ics (f : Nat → Bool × ByteArray × Value) (n : Nat) : Array Value := ((List.range (n * 3)).map fun k => icell (f (k / 3)) (k % 3)).toArray
theorem ics_size (f : Nat → Bool × ByteArray × Value) (n : Nat) : (ics f n).size = n * 3 := by simp [ics]
theorem ics_get (f : Nat → Bool × ByteArray × Value) {n k : Nat} (h : k < n * 3) : (ics f n)[k]? = some (icell (f (k / 3)) (k % 3)) := by simp [ics, h]
/-- Another item at j. -/
def updI (f : Nat → Bool × ByteArray × Value) (j : Nat) (P : Bool × ByteArray × Value) : Nat → Bool × ByteArray × Value := fun i => if i = j then P else f i
theorem ics_set (f : Nat → Bool × ByteArray × Value) (n j : Nat) (P : Bool × ByteArray × Value) (_hj : j < n) : (((ics f n).setIfInBounds (j * 3) (.bool P.1)).setIfInBounds (j * 3 + 1) (.string P.2.1)).setIfInBounds (j * 3 + 2) P.2.2 = ics (updI f j P) n := by
  apply Array.ext_getElem?
  intro k
  by_cases hk : k < n * 3
  · rw [ics_get _ hk]
    simp only [Array.getElem?_setIfInBounds, ics_get f hk, Array.size_setIfInBounds, ics_size]
    unfold updI icell
    by_cases h2 : j * 3 + 2 = k
    · subst h2
      rw [if_pos rfl, if_pos hk, show (j * 3 + 2) / 3 = j by omega, show (j * 3 + 2) % 3 = 2 by omega]
      simp
    · rw [if_neg h2]
      by_cases h1 : j * 3 + 1 = k
      · subst h1
        rw [if_pos rfl, if_pos hk, show (j * 3 + 1) / 3 = j by omega, show (j * 3 + 1) % 3 = 1 by omega]
        simp
      · rw [if_neg h1]
        by_cases h0 : j * 3 = k
        · subst h0
          rw [if_pos rfl, if_pos hk, show (j * 3) / 3 = j by omega, show (j * 3) % 3 = 0 by omega]
          simp
        · rw [if_neg h0, if_neg (show ¬ k / 3 = j by omega)]
  · have hn : ∀ g : Nat → Bool × ByteArray × Value, (ics g n)[k]? = none := fun g => Array.getElem?_eq_none (by rw [ics_size]; omega)
    rw [hn]
    simp only [Array.getElem?_setIfInBounds, hn, Array.size_setIfInBounds, ics_size]
    rw [if_neg (by omega), if_neg (by omega), if_neg (by omega)]
/-- Block g is a row of items. -/
def RowJ (w : World) (g n : Nat) (f : Nat → Bool × ByteArray × Value) : Prop := w.heap[g]? = some (.cells (ics f n) 26 (0, 0))
theorem RowJ.cell {w : World} {g n : Nat} {f : Nat → Bool × ByteArray × Value} (h : RowJ w g n f) {k : Nat} (hk : k < n * 3) : w.cell? ⟨g, k, none⟩ = some (icell (f (k / 3)) (k % 3)) := by
  rw [cell_of_row w g k _ 26 (0, 0) h, ics_get f hk]
theorem RowJ.cells {w : World} {g n : Nat} {f : Nat → Bool × ByteArray × Value} (h : RowJ w g n f) {j : Nat} (hj : j < n) : w.cell? ⟨g, j * 3, none⟩ = some (.bool (f j).1) ∧ w.cell? ⟨g, j * 3 + 1, none⟩ = some (.string (f j).2.1) ∧ w.cell? ⟨g, j * 3 + 2, none⟩ = some (f j).2.2 := by
  refine ⟨?_, ?_, ?_⟩
  · rw [h.cell (by omega), show j * 3 / 3 = j by omega, show j * 3 % 3 = 0 by omega]; rfl
  · rw [h.cell (by omega), show (j * 3 + 1) / 3 = j by omega, show (j * 3 + 1) % 3 = 1 by omega]; rfl
  · rw [h.cell (by omega), show (j * 3 + 2) / 3 = j by omega, show (j * 3 + 2) % 3 = 2 by omega]; rfl
theorem RowJ.free {w : World} {g n : Nat} {f : Nat → Bool × ByteArray × Value} (h : RowJ w g n f) (k : Nat) : w.frozen? ⟨g, k, none⟩ = false := frozen_of_row w g k _ 26 h
theorem RowJ.lt {w : World} {g n : Nat} {f : Nat → Bool × ByteArray × Value} (h : RowJ w g n f) : g < w.heap.size := (Array.getElem?_eq_some_iff.1 h).1
theorem RowJ.set {w : World} {g n : Nat} {f : Nat → Bool × ByteArray × Value} (h : RowJ w g n f) {j : Nat} (hj : j < n) (P : Bool × ByteArray × Value) : RowJ (((w.setCell ⟨g, j * 3, none⟩ (.bool P.1)).setCell ⟨g, j * 3 + 1, none⟩ (.string P.2.1)).setCell ⟨g, j * 3 + 2, none⟩ P.2.2) g n (updI f j P) := by
  have h1 := heap_setCell_same w g (j * 3) _ 26 (.bool P.1) h
  have h2 := heap_setCell_same _ g (j * 3 + 1) _ 26 (.string P.2.1) h1
  have h3 := heap_setCell_same _ g (j * 3 + 2) _ 26 P.2.2 h2
  rw [ics_set f n j P hj] at h3
  exact h3
theorem RowJ.on {w w1 : World} {g n c : Nat} {f : Nat → Bool × ByteArray × Value} (h : RowJ w g n f) (hb : Below c w w1) (hc : g < c) : RowJ w1 g n f := (hb.block g hc).trans h
theorem RowJ.congr {w : World} {g n : Nat} {f f' : Nat → Bool × ByteArray × Value} (h : RowJ w g n f) (hf : ∀ j, j < n → f j = f' j) : RowJ w g n f' := by
  have e : ics f n = ics f' n := by
    unfold ics
    congr 1
    apply List.map_congr_left
    intro k hk
    rw [hf (k / 3) (by have := List.mem_range.1 hk; omega)]
  unfold RowJ
  rw [← e]
  exact h
/-- No item. -/
def noI : Nat → Bool × ByteArray × Value := fun _ => (false, ⟨#[]⟩, .slice none 0 0)
/-- make([]Item, n). -/
theorem make_its (n : Nat) (h2 : n ≤ 1073741824) (W : World) :
    (Instr.makeSlice 24 (.int .i64 (n : Int)) (.int .i64 (n : Int))).run Try.prog W = .ok (.slice (some ⟨W.heap.size, 0, none⟩) n n) (W.alloc (.cells (ics noI n) 26)) := by
  obtain ⟨i0, hi, hz0, hz1, hz2⟩ := info_parts infoItz
  have hM : madeCells (Value.agg #[.bool false, .string ⟨#[]⟩, .slice none 0 0]).cells ((n : Int).toNat * i0.size) = ics noI n := by
    rw [hz1]
    apply Array.ext_getElem?
    intro k
    by_cases hk : k < n * 3
    · rw [ics_get _ hk]
      have hm : k % 3 = 0 ∨ k % 3 = 1 ∨ k % 3 = 2 := by omega
      rcases hm with h | h | h <;> simp [madeCells, Value.cells, hk, h, icell, noI]
    · rw [Array.getElem?_eq_none (by rw [size_madeCells]; simp; omega), Array.getElem?_eq_none (by rw [ics_size]; omega)]
  have h := run_make (P := Try.prog) W 24 26 i0 (.agg #[.bool false, .string ⟨#[]⟩, .slice none 0 0]) Try.underlying24 hi hz0 .i64 .i64 (n : Int) (n : Int) (by omega) (by omega) (by rw [hz2]; omega) (by omega)
  rw [hM] at h
  simpa using h

/-- A copy of an item's kids. -/
def CpEnd (d : Nat) (w : World) (K : List (It d)) (e : Ending) (w' : World) : Prop := ∃ u, e = .returned u ∧ KPt (fun b => w.heap.size ≤ b ∧ b < w'.heap.size) d w' u K ∧ Below w.heap.size w w'
/-- A copy of an item. -/
def CqEnd (d : Nat) (w : World) (x : It (d + 1)) (e : Ending) (w' : World) : Prop := ∃ u, e = .returned (itV (itL x) (itT x) u) ∧ KPt (fun b => w.heap.size ≤ b ∧ b < w'.heap.size) d w' u (itK x) ∧ Below w.heap.size w w'

set_option maxHeartbeats 1600000 in
set_option maxRecDepth 100000 in
theorem toItem_step (d : Nat) (x : It (d + 1)) (v : Value) (hv : ∃ a n c, v = .slice a n c) (w : World) (hC : ∀ w', Below w.heap.size w w' → Calls Try.prog 51 #[v] w' (CpEnd d w' (itK x))) :
    Calls Try.prog 28 #[itV (itL x) (itT x) v] w (CqEnd d w x) := by
  obtain ⟨W, hW, hb, hx, hr, ho⟩ := boxes2r w 45 26 26 #[.bool (itL x), .string (itT x), v] #[.bool false, .string ⟨#[]⟩, .slice none 0 0] #[.bool false, .string ⟨#[]⟩, .slice none 0 0]
  obtain ⟨a, n, c, rfl⟩ := hv
  have h1 := ho.set 0 (.bool (itL x))
  have x1 := hx.other (g' := w.heap.size + 1 + 1) (i := 0) (by omega) (.bool (itL x))
  have hZ := h1.set 1 (.string (itT x))
  have hrZ := (hr.other (g' := w.heap.size + 1 + 1) (i := 0) (by omega) (.bool (itL x))).other (g' := w.heap.size + 1 + 1) (i := 1) (by omega) (.string (itT x))
  have hxZ := x1.other (g' := w.heap.size + 1 + 1) (i := 1) (by omega) (.string (itT x))
  have hbZ := (hb.setCell (p := ⟨w.heap.size + 1 + 1, 0, none⟩) (by show w.heap.size ≤ w.heap.size + 1 + 1; omega) (.bool (itL x))).setCell (p := ⟨w.heap.size + 1 + 1, 1, none⟩) (by show w.heap.size ≤ w.heap.size + 1 + 1; omega) (.string (itT x))
  have q0 := hx.cell 0
  have c0 := ho.cell 0
  have f0 := ho.free 0
  have q1 := x1.cell 1
  have c1 := h1.cell 1
  have f1 := h1.free 1
  have q2 := hxZ.cell 2
  have HC : Hid (∀ w', Below w.heap.size w w' → Calls Try.prog 51 #[.slice a n c] w' (CpEnd d w' (itK x))) := hC
  have HZ : Hid (Blk ((W.setCell ⟨w.heap.size + 1 + 1, 0, none⟩ (.bool (itL x))).setCell ⟨w.heap.size + 1 + 1, 1, none⟩ (.string (itT x))) (w.heap.size + 1 + 1) 26 #[.bool (itL x), .string (itT x), .slice none 0 0] ∧ Blk ((W.setCell ⟨w.heap.size + 1 + 1, 0, none⟩ (.bool (itL x))).setCell ⟨w.heap.size + 1 + 1, 1, none⟩ (.string (itT x))) (w.heap.size + 1) 26 #[.bool false, .string ⟨#[]⟩, .slice none 0 0] ∧ Below w.heap.size w ((W.setCell ⟨w.heap.size + 1 + 1, 0, none⟩ (.bool (itL x))).setCell ⟨w.heap.size + 1 + 1, 1, none⟩ (.string (itT x)))) := ⟨hZ, hrZ, hbZ⟩
  unfold itV
  clear hC h1 x1 hZ hrZ hxZ hbZ hx hr ho hb
  go_enter Try.func28, Try.ntmps28
  go_wp2_with fail
  refine (HC.out _ HZ.out.2.2).mono ?_
  rintro e w2 ⟨u, rfl, hin, hb2⟩
  obtain ⟨a2, n2, rfl⟩ := hin.slice
  have h2 := HZ.out.1.on hb2 HZ.out.1.lt
  have r2 := HZ.out.2.1.on hb2 HZ.out.2.1.lt
  have B2 := below_then HZ.out.2.2 hb2
  have HI : Hid (KPt (fun b => w.heap.size + 1 + 1 < b ∧ b < w2.heap.size) d w2 (.slice a2 (itK x).length n2) (itK x)) := hin.more fun b hb => ⟨by have := hb.1; have := HZ.out.1.lt; omega, hb.2⟩
  have d2 := h2.cell 2
  have e2 := h2.free 2
  have h3 := h2.set 2 (.slice a2 (itK x).length n2)
  have r3 := r2.other (g' := w.heap.size + 1 + 1) (i := 2) (by omega) (.slice a2 (itK x).length n2)
  have B3 := B2.setCell (p := ⟨w.heap.size + 1 + 1, 2, none⟩) (by show w.heap.size ≤ w.heap.size + 1 + 1; omega) (.slice a2 (itK x).length n2)
  have K3 : Hid (∀ b, w.heap.size + 1 + 1 < b → (w2.setCell ⟨w.heap.size + 1 + 1, 2, none⟩ (.slice a2 (itK x).length n2)).heap[b]? = w2.heap[b]?) := fun b hb => Below.heap_setCell _ _ _ _ (by show b ≠ w.heap.size + 1 + 1; omega)
  have z0 := h3.cell 0
  have z1 := h3.cell 1
  have z2 := h3.cell 2
  clear q0 c0 f0 q1 c1 f1 q2 hW HC hin HZ h2 r2 B2 h3
  go_wp2_with (refine store_blkS (cs' := #[.bool (itL x), .string (itT x), .slice a2 (itK x).length n2]) rfl rfl rfl rfl rfl r3 infoIt rfl (onesIt _ _ _ _ _) ?_; intro V h6 hall hoth hbel; have hbV := hbel _ _ (by omega) B3; have hs2 := hbel 0 _ (Nat.zero_le _) (Below.refl 0 _); clear hoth hbel)
  refine bodyPost_ret_by (result_blk rfl rfl h6 Try.underlying26 infoIt) rfl ⟨_, rfl, ((HI.out.kept fun b hb => K3.out b hb.1).kept (w' := V) fun b hb => hall b (by have := hb.1; omega)).more fun b hb => ⟨by have := hb.1; omega, by
    have s1 := hs2.size
    have s2 := ((Below.refl 0 w2).setCell (p := ⟨w.heap.size + 1 + 1, 2, none⟩) (Nat.zero_le _) (.slice a2 (itK x).length n2)).size
    have := hb.2
    omega⟩, hbV⟩

/-- The first k of a row, then none. -/
def uptoI {d : Nat} (K : List (It (d + 1))) (f : Nat → Value) (k : Nat) : Nat → Bool × ByteArray × Value := fun j => if j < k then ((K[j]?.map itL).getD false, (K[j]?.map itT).getD ⟨#[]⟩, f j) else (false, ⟨#[]⟩, .slice none 0 0)
theorem uptoI_next {d : Nat} (K : List (It (d + 1))) (f : Nat → Value) (k : Nat) (h : k < K.length) (u : Value) : updI (uptoI K f k) k (itL K[k], itT K[k], u) = uptoI K (fun j => if j = k then u else f j) (k + 1) := by
  funext i
  unfold updI uptoI
  by_cases h1 : i = k
  · subst h1
    rw [if_pos rfl, if_pos (by omega), List.getElem?_eq_getElem h]
    show (itL K[i], itT K[i], u) = (itL K[i], itT K[i], if i = i then u else f i)
    rw [if_pos rfl]
  · rw [if_neg h1]
    by_cases h2 : i < k
    · rw [if_pos h2, if_pos (by omega)]
      show _ = (_, _, if i = k then u else f i)
      rw [if_neg h1]
    · rw [if_neg h2, if_neg (by omega)]

/-- What stands at the loop's head. -/
structure CpInv (d : Nat) (w : World) (K : List (It (d + 1))) (k : Nat) (f : Nat → Value) (wr : World) : Prop where
  row : RowJ wr w.heap.size K.length (uptoI K f k)
  bel : Below w.heap.size w wr
  each : ∀ (j : Nat) (h : j < K.length), j < k → KPt (fun b => w.heap.size < b ∧ b < wr.heap.size) d wr (f j) (itK K[j])

set_option maxHeartbeats 1600000 in
set_option maxRecDepth 100000 in
theorem toS_list (d : Nat) (a : Option Addr) (cap : Nat) (K : List (It (d + 1))) (hn : K.length ≤ 1048576) (w : World)
    (hK : ∀ (j : Nat) (h : j < K.length), ∃ a1 n1 c1, Kid w w.heap.size a j (itL K[j]) (itT K[j]) (.slice a1 n1 c1) ∧ ∀ w', Below w.heap.size w w' → Calls Try.prog 28 #[itV (itL K[j]) (itT K[j]) (.slice a1 n1 c1)] w' (CqEnd d w' K[j])) (ht : ∀ (j : Nat) (h : j < K.length), (itT K[j]).size ≤ 9223372036854775807) :
    Calls Try.prog 51 #[.slice a K.length cap] w (CpEnd (d + 1) w K) := by
  have HK : Hid (∀ (j : Nat) (h : j < K.length), ∃ a1 n1 c1, Kid w w.heap.size a j (itL K[j]) (itT K[j]) (.slice a1 n1 c1) ∧ ∀ w', Below w.heap.size w w' → Calls Try.prog 28 #[itV (itL K[j]) (itT K[j]) (.slice a1 n1 c1)] w' (CqEnd d w' K[j])) := hK
  have HT : Hid (∀ (j : Nat) (h : j < K.length), (itT K[j]).size ≤ 9223372036854775807) := ht
  clear hK ht
  have hmk : ∀ W : World, (Instr.makeSlice 24 (.int .i64 (K.length : Int)) (.int .i64 (K.length : Int))).run Try.prog W = .ok (.slice (some ⟨W.heap.size, 0, none⟩) K.length K.length) (W.alloc (.cells (ics noI K.length) 26)) := fun W => make_its K.length (by omega) W
  have H0 : Hid (CpInv d w K 0 (fun _ => undef) (w.alloc (.cells (ics noI K.length) 26))) := ⟨(show RowJ _ _ _ noI from heap_alloc_new w _).congr fun j _ => by unfold uptoI noI; rw [if_neg (by omega)], (Below.refl _ _).alloc (Nat.le_refl _) _, fun j h hj => absurd hj (Nat.not_lt_zero _)⟩
  generalize ics noI K.length = M at hmk H0
  go_enter Try.func51, Try.ntmps51
  go_wp2
  go_loopw [4] (fun i wr => ∃ (k : Nat) (f : Nat → Value), i = .int .i64 (k : Int) ∧ k ≤ K.length ∧ Hid (CpInv d w K k f wr)) (fun i _ => K.length - (intOf i).toNat)
  case atStart => exact ⟨0, _, rfl, Nat.zero_le _, H0⟩
  case round =>
    obtain ⟨k, f, rfl, hk, HI⟩ := hrel
    clear hmk H0
    by_cases hlt : k < K.length
    · have hlt' : (k : Int) < (K.length : Int) := by omega
      have hk0 : (0 : Int) ≤ (k : Int) := by omega
      obtain ⟨a3, n3, c3, hKd, hC⟩ := HK.out k hlt
      obtain ⟨b, off, rfl, hb, z0, z1, z2⟩ := hKd.on HI.out.bel
      have HX := uptoI_next K f k hlt
      obtain ⟨x, hx⟩ : ∃ x, K[k] = x := ⟨_, rfl⟩
      rw [hx] at z0 z1 hC HX
      have HC : Hid (∀ w', Below w.heap.size w w' → Calls Try.prog 28 #[.agg #[.bool (itL x), .string (itT x), .slice a3 n3 c3]] w' (CqEnd d w' x)) := hC
      have HXx : Hid (K[k] = x) := hx
      have HNX : Hid (∀ u, updI (uptoI K f k) k (itL x, itT x, u) = uptoI K (fun j => if j = k then u else f j) (k + 1)) := HX
      clear hKd hC hx HX
      go_wp2_with fail
      refine (HC.out _ HI.out.bel).mono ?_
      rintro e w1 ⟨u, rfl, hin, hb1⟩
      obtain ⟨a4, c4, rfl⟩ := hin.slice
      unfold itV
      have hR1 := HI.out.row.on hb1 HI.out.row.lt
      obtain ⟨c0, c1, c2⟩ := hR1.cells hlt
      have f0 := hR1.free (k * 3)
      have f1 := hR1.free (k * 3 + 1)
      have f2 := hR1.free (k * 3 + 2)
      have hR2 : RowJ (((w1.setCell ⟨w.heap.size, k * 3, none⟩ (.bool (itL x))).setCell ⟨w.heap.size, k * 3 + 1, none⟩ (.string (itT x))).setCell ⟨w.heap.size, k * 3 + 2, none⟩ (.slice a4 (itK x).length c4)) w.heap.size K.length (uptoI K (fun j => if j = k then .slice a4 (itK x).length c4 else f j) (k + 1)) := by
        have := hR1.set hlt (itL x, itT x, .slice a4 (itK x).length c4)
        rw [HNX.out] at this
        exact this
      have hB1 : Below w.heap.size w w1 := below_then HI.out.bel hb1
      have hB2 := ((hB1.setCell (p := ⟨w.heap.size, k * 3, none⟩) (Nat.le_refl _) (.bool (itL x))).setCell (p := ⟨w.heap.size, k * 3 + 1, none⟩) (Nat.le_refl _) (.string (itT x))).setCell (p := ⟨w.heap.size, k * 3 + 2, none⟩) (Nat.le_refl _) (.slice a4 (itK x).length c4)
      have hK2 : ∀ b, w.heap.size < b → (((w1.setCell ⟨w.heap.size, k * 3, none⟩ (.bool (itL x))).setCell ⟨w.heap.size, k * 3 + 1, none⟩ (.string (itT x))).setCell ⟨w.heap.size, k * 3 + 2, none⟩ (.slice a4 (itK x).length c4)).heap[b]? = w1.heap[b]? := fun b hb => ((Below.heap_setCell _ _ _ _ (by show b ≠ w.heap.size; omega)).trans (Below.heap_setCell _ _ _ _ (by show b ≠ w.heap.size; omega))).trans (Below.heap_setCell _ _ _ _ (by show b ≠ w.heap.size; omega))
      have hZs : w1.heap.size ≤ (((w1.setCell ⟨w.heap.size, k * 3, none⟩ (.bool (itL x))).setCell ⟨w.heap.size, k * 3 + 1, none⟩ (.string (itT x))).setCell ⟨w.heap.size, k * 3 + 2, none⟩ (.slice a4 (itK x).length c4)).heap.size := ((((Below.refl 0 w1).setCell (p := ⟨w.heap.size, k * 3, none⟩) (Nat.zero_le _) (.bool (itL x))).setCell (p := ⟨w.heap.size, k * 3 + 1, none⟩) (Nat.zero_le _) (.string (itT x))).setCell (p := ⟨w.heap.size, k * 3 + 2, none⟩) (Nat.zero_le _) (.slice a4 (itK x).length c4)).size
      have hwr := HI.out.row.lt
      have hb1s := hb1.size
      have HI2 : Hid (CpInv d w K (k + 1) (fun j => if j = k then .slice a4 (itK x).length c4 else f j) (((w1.setCell ⟨w.heap.size, k * 3, none⟩ (.bool (itL x))).setCell ⟨w.heap.size, k * 3 + 1, none⟩ (.string (itT x))).setCell ⟨w.heap.size, k * 3 + 2, none⟩ (.slice a4 (itK x).length c4))) := ⟨hR2, hB2, fun j hj hjk => by
        by_cases h1 : j = k
        · subst h1
          show KPt _ d _ (if j = j then _ else _) (itK K[j])
          rw [if_pos rfl, HXx.out]
          exact (hin.kept fun b hb => hK2 b (by have := hb.1; omega)).more fun b hb => ⟨by have := hb.1; omega, by have := hb.2; omega⟩
        · show KPt _ d _ (if j = k then _ else _) (itK K[j])
          rw [if_neg h1]
          exact (((HI.out.each j hj (by omega)).kept (w' := w1) fun b hb => hb1.block b hb.2).kept fun b hb => hK2 b hb.1).more fun b hb => ⟨hb.1, by have := hb.2; omega⟩⟩
      clear hR1 hR2 hB1 hB2 hK2 hZs hwr hb1s hin hb1 HI HC HNX HXx z0 z1 z2 hb
      go_wp2
      go_roundw
      case rel => exact ⟨k + 1, _, by go_num, hlt, HI2⟩
      case measure => simp [intOf]; omega
    · have hlt' : ¬ (k : Int) < (K.length : Int) := by omega
      obtain rfl : k = K.length := by omega
      have hin : KPt (fun b => w.heap.size ≤ b ∧ b < wr.heap.size) (d + 1) wr (.slice (some ⟨w.heap.size, 0, none⟩) K.length K.length) K := by
        refine ⟨_, _, rfl, by omega, fun j hj => ?_⟩
        obtain ⟨c0, c1, c2⟩ := HI.out.row.cells hj
        have e : uptoI K f K.length j = (itL K[j], itT K[j], f j) := by unfold uptoI; rw [if_pos hj, List.getElem?_eq_getElem hj]; rfl
        rw [e] at c0 c1 c2
        exact ⟨w.heap.size, 0, f j, rfl, ⟨Nat.le_refl _, HI.out.row.lt⟩, ⟨_, _, HI.out.row⟩, by rw [Nat.zero_add]; exact c0, by rw [Nat.zero_add]; exact c1, by rw [Nat.zero_add]; exact c2, HT.out j hj, (HI.out.each j hj hj).more fun b hb => ⟨by have := hb.1; omega, hb.2⟩⟩
      have HE : Hid (KPt (fun b => w.heap.size ≤ b ∧ b < wr.heap.size) (d + 1) wr (.slice (some ⟨w.heap.size, 0, none⟩) K.length K.length) K ∧ Below w.heap.size w wr) := ⟨hin, HI.out.bel⟩
      clear hin HI
      go_wp2
      go_ret
      exact ⟨_, rfl, HE.out.1, HE.out.2⟩

theorem sumK_at (r : Nat → Nat) (n j : Nat) (h : j < n) : r j ≤ sumK r n := by
  have h1 := sumK_le r (show j + 1 ≤ n by omega)
  have h2 : sumK r (j + 1) = sumK r j + r j := rfl
  omega
theorem szD_kid {d : Nat} (x : It (d + 1)) (j : Nat) (h : j < (itK x).length) : szD d (itK x)[j] ≤ szD (d + 1) x := by
  have h1 := sumK_at (fun j => ((itK x)[j]?.map (szD d)).getD 0) (itK x).length j h
  rw [szD]
  have h2 : ((itK x)[j]?.map (szD d)).getD 0 = szD d (itK x)[j] := by
    rw [List.getElem?_eq_getElem h]
    rfl
  have h3 : szD d (itK x)[j] ≤ sumK (fun j => ((itK x)[j]?.map (szD d)).getD 0) (itK x).length := by rw [← h2]; exact h1
  omega
theorem szD_len {d : Nat} (x : It (d + 1)) : (itK x).length ≤ szD (d + 1) x := by rw [szD]; omega

/-- A copy of all kids, of no more than so many bytes and items. -/
theorem toS_any : ∀ (d : Nat) (x : It (d + 1)), szD (d + 1) x ≤ 1048576 → ∀ (v : Value) (w : World), KAt d w w.heap.size v (itK x) → Calls Try.prog 51 #[v] w (CpEnd d w (itK x))
  | 0, x, hx, v, w, hK => by
    obtain ⟨a, cp, rfl, _⟩ := hK
    have h0 := no_kids (itK x)
    rw [h0]
    refine (toS_list 0 a cp [] (Nat.zero_le _) w (fun j hj => absurd hj (Nat.not_lt_zero _)) (fun j hj => absurd hj (Nat.not_lt_zero _))).mono ?_
    rintro e w' ⟨u, rfl, hin, hb⟩
    obtain ⟨a2, c2, rfl⟩ := hin.slice
    exact ⟨_, rfl, ⟨a2, c2, rfl, Nat.zero_le _⟩, hb⟩
  | d + 1, x, hx, v, w, hK => by
    obtain ⟨a, cp, rfl, hn, hkids⟩ := hK
    have hl := szD_len x
    refine toS_list d a cp (itK x) (by omega) w (fun j hj => ?_) (fun j hj => ?_)
    · obtain ⟨u, h1, h2, h3⟩ := hkids j hj
      obtain ⟨a1, c1, rfl⟩ := h3.in.slice
      refine ⟨a1, _, c1, h1, fun w' hb => ?_⟩
      refine toItem_step d _ _ ⟨_, _, _, rfl⟩ w' fun w2 hb2 => ?_
      have h4 := szD_kid x j hj
      exact toS_any d (itK x)[j] (by omega) _ w2 ((((h3.on hb).wide hb.size).on hb2).wide hb2.size)
    · obtain ⟨u, h1, h2, h3⟩ := hkids j hj
      exact h2
/-- A copy of an item. -/
theorem toItem_any (d : Nat) (x : It (d + 1)) (hx : szD (d + 1) x ≤ 1048576) (v : Value) (w : World) (hK : KAt d w w.heap.size v (itK x)) : Calls Try.prog 28 #[itV (itL x) (itT x) v] w (CqEnd d w x) := by
  obtain ⟨a, c, e⟩ := hK.in.slice
  exact toItem_step d x v ⟨a, _, c, e⟩ w fun w' hb => toS_any d x hx v w' ((hK.on hb).wide hb.size)

end Go.Proofs.Ytmpjnabadplbjaa
