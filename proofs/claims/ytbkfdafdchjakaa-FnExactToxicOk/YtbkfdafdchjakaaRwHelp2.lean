/-
  The walks of the helpers of the exact laws on rows and systems: copies, whether two are the same, marks.
  (-DROP-: what the seat lacks is left out.)
-/
import Derived.Test.YtbkfdafdchjakaaRwHelp

namespace Go.Proofs.Ytbkfdafdchjakaa
open Go.RowKit

theorem infoRw : (Try.prog.info? 93).map (·.size) = some 3 := by kernel_rfl
theorem ones3R (a b c : Option Addr) (n m k n' m' k' : Nat) : (#[Value.slice a n n', .slice b m m', .slice c k k']).all (·.oneCell') = true := by simp [Value.oneCell']

set_option maxHeartbeats 800000 in
set_option maxRecDepth 100000 in
theorem toRow_any (a0 : Option Addr) (n0 c0 : Nat) (h0 : n0 ≤ 1048576) (f0 : Nat → Int) (a1 : Option Addr) (n1 c1 : Nat) (h1 : n1 ≤ 1048576) (f1 : Nat → Int) (a2 : Option Addr) (n2 c2 : Nat) (h2 : n2 ≤ 1048576) (f2 : Nat → Int) (w : World) (A0 : IntsAt w a0 n0 w.heap.size f0) (A1 : IntsAt w a1 n1 w.heap.size f1) (A2 : IntsAt w a2 n2 w.heap.size f2) :
    Calls Try.prog 69 #[.agg #[.slice a0 n0 c0, .slice a1 n1 c1, .slice a2 n2 c2]] w fun e w' => ∃ g0 g1 g2, e = .returned (.agg #[.slice (some ⟨g0, 0, none⟩) n0 n0, .slice (some ⟨g1, 0, none⟩) n1 n1, .slice (some ⟨g2, 0, none⟩) n2 n2]) ∧ w.heap.size ≤ g0 ∧ g0 < g1 ∧ g1 < g2 ∧ g2 < w'.heap.size ∧ RowI w' g0 n0 f0 ∧ RowI w' g1 n1 f1 ∧ RowI w' g2 n2 f2 ∧ Below w.heap.size w w' := by
  obtain ⟨W, hW, hB, hx, hr, ho⟩ := boxes2r w 119 93 93 #[.slice a0 n0 c0, .slice a1 n1 c1, .slice a2 n2 c2] #[.slice none 0 0, .slice none 0 0, .slice none 0 0] #[.slice none 0 0, .slice none 0 0, .slice none 0 0]
  have H0 : Hid (IntsAt w a0 n0 w.heap.size f0) := A0
  have H1 : Hid (IntsAt w a1 n1 w.heap.size f1) := A1
  have H2 : Hid (IntsAt w a2 n2 w.heap.size f2) := A2
  have hWs : w.heap.size + 3 ≤ W.heap.size := by rw [← hW]; simp
  clear A0 A1 A2
  have q0 := hx.cell 0
  go_enter Try.func69, Try.ntmps69
  go_wp2_with fail
  clear hW q0
  refine (toIntS_any a0 n0 c0 h0 f0 _ ((H0.out.on hB).wide hB.size)).mono ?_
  rintro e w1 ⟨rfl, R0, hb⟩
  have hsz := hb.size
  obtain ⟨g0, hg0⟩ : ∃ g, g = W.heap.size := ⟨_, rfl⟩
  rw [← hg0] at R0 hsz ⊢
  have hge0 : w.heap.size + 3 ≤ g0 := by omega
  have hl0 := R0.lt
  clear hg0 hWs
  replace hx := hx.on hb hx.lt
  replace hr := hr.on hb hr.lt
  replace ho := ho.on hb ho.lt
  replace hB := below_then hB hb
  have p0 := ho.cell 0
  have s0 := ho.free 0
  have t1 := hx.cell 1
  replace hx := hx.other (i := 0) (g' := w.heap.size + 1 + 1) (by omega) (.slice (some ⟨g0, 0, none⟩) n0 n0)
  replace hr := hr.other (i := 0) (g' := w.heap.size + 1 + 1) (by omega) (.slice (some ⟨g0, 0, none⟩) n0 n0)
  replace ho := ho.set 0 (.slice (some ⟨g0, 0, none⟩) n0 n0)
  replace R0 : RowI _ g0 n0 f0 := Blk.other (i := 0) (g' := w.heap.size + 1 + 1) R0 (by omega) (.slice (some ⟨g0, 0, none⟩) n0 n0)
  replace hB := hB.setCell (p := ⟨w.heap.size + 1 + 1, 0, none⟩) (by show w.heap.size ≤ w.heap.size + 1 + 1; omega) (.slice (some ⟨g0, 0, none⟩) n0 n0)
  have hS1 : w1.heap.size = (w1.setCell ⟨w.heap.size + 1 + 1, 0, none⟩ (.slice (some ⟨g0, 0, none⟩) n0 n0)).heap.size := by simp [World.setCell]
  have q1 := hx.cell 1
  clear hb hsz
  go_wp2_with fail
  generalize w1.setCell ⟨w.heap.size + 1 + 1, 0, none⟩ (.slice (some ⟨g0, 0, none⟩) n0 n0) = V1 at hx hr ho hB q1 hS1 R0 ⊢
  clear q1 t1 p0 s0
  refine (toIntS_any a1 n1 c1 h1 f1 _ ((H1.out.on hB).wide hB.size)).mono ?_
  rintro e w2 ⟨rfl, R1, hb⟩
  have hsz := hb.size
  obtain ⟨g1, hg1⟩ : ∃ g, g = V1.heap.size := ⟨_, rfl⟩
  rw [← hg1] at R1 hsz ⊢
  have hge1 : w.heap.size + 3 ≤ g1 := by have := ho.lt; omega
  have hlt1 : g0 < g1 := by have := hl0; omega
  have hl1 := R1.lt
  clear hg1 hS1
  replace hx := hx.on hb hx.lt
  replace hr := hr.on hb hr.lt
  replace ho := ho.on hb ho.lt
  replace R0 := R0.on hb R0.lt
  replace hB := below_then hB hb
  have p1 := ho.cell 1
  have s1 := ho.free 1
  have t2 := hx.cell 2
  replace hx := hx.other (i := 1) (g' := w.heap.size + 1 + 1) (by omega) (.slice (some ⟨g1, 0, none⟩) n1 n1)
  replace hr := hr.other (i := 1) (g' := w.heap.size + 1 + 1) (by omega) (.slice (some ⟨g1, 0, none⟩) n1 n1)
  replace ho := ho.set 1 (.slice (some ⟨g1, 0, none⟩) n1 n1)
  replace R0 : RowI _ g0 n0 f0 := Blk.other (i := 1) (g' := w.heap.size + 1 + 1) R0 (by omega) (.slice (some ⟨g1, 0, none⟩) n1 n1)
  replace R1 : RowI _ g1 n1 f1 := Blk.other (i := 1) (g' := w.heap.size + 1 + 1) R1 (by omega) (.slice (some ⟨g1, 0, none⟩) n1 n1)
  replace hB := hB.setCell (p := ⟨w.heap.size + 1 + 1, 1, none⟩) (by show w.heap.size ≤ w.heap.size + 1 + 1; omega) (.slice (some ⟨g1, 0, none⟩) n1 n1)
  have hS2 : w2.heap.size = (w2.setCell ⟨w.heap.size + 1 + 1, 1, none⟩ (.slice (some ⟨g1, 0, none⟩) n1 n1)).heap.size := by simp [World.setCell]
  have q2 := hx.cell 2
  clear hb hsz
  go_wp2_with fail
  generalize w2.setCell ⟨w.heap.size + 1 + 1, 1, none⟩ (.slice (some ⟨g1, 0, none⟩) n1 n1) = V2 at hx hr ho hB q2 hS2 R0 R1 ⊢
  clear q2 t2 p1 s1
  refine (toIntS_any a2 n2 c2 h2 f2 _ ((H2.out.on hB).wide hB.size)).mono ?_
  rintro e w3 ⟨rfl, R2, hb⟩
  have hsz := hb.size
  obtain ⟨g2, hg2⟩ : ∃ g, g = V2.heap.size := ⟨_, rfl⟩
  rw [← hg2] at R2 hsz ⊢
  have hge2 : w.heap.size + 3 ≤ g2 := by have := ho.lt; omega
  have hlt2 : g1 < g2 := by have := hl1; omega
  have hl2 := R2.lt
  clear hg2 hS2
  replace hx := hx.on hb hx.lt
  replace hr := hr.on hb hr.lt
  replace ho := ho.on hb ho.lt
  replace R0 := R0.on hb R0.lt
  replace R1 := R1.on hb R1.lt
  replace hB := below_then hB hb
  have p2 := ho.cell 2
  have s2 := ho.free 2
  replace hx := hx.other (i := 2) (g' := w.heap.size + 1 + 1) (by omega) (.slice (some ⟨g2, 0, none⟩) n2 n2)
  replace hr := hr.other (i := 2) (g' := w.heap.size + 1 + 1) (by omega) (.slice (some ⟨g2, 0, none⟩) n2 n2)
  replace ho := ho.set 2 (.slice (some ⟨g2, 0, none⟩) n2 n2)
  replace R0 : RowI _ g0 n0 f0 := Blk.other (i := 2) (g' := w.heap.size + 1 + 1) R0 (by omega) (.slice (some ⟨g2, 0, none⟩) n2 n2)
  replace R1 : RowI _ g1 n1 f1 := Blk.other (i := 2) (g' := w.heap.size + 1 + 1) R1 (by omega) (.slice (some ⟨g2, 0, none⟩) n2 n2)
  replace R2 : RowI _ g2 n2 f2 := Blk.other (i := 2) (g' := w.heap.size + 1 + 1) R2 (by omega) (.slice (some ⟨g2, 0, none⟩) n2 n2)
  replace hB := hB.setCell (p := ⟨w.heap.size + 1 + 1, 2, none⟩) (by show w.heap.size ≤ w.heap.size + 1 + 1; omega) (.slice (some ⟨g2, 0, none⟩) n2 n2)
  have hS3 : w3.heap.size = (w3.setCell ⟨w.heap.size + 1 + 1, 2, none⟩ (.slice (some ⟨g2, 0, none⟩) n2 n2)).heap.size := by simp [World.setCell]
  clear hb hsz
  clear H0 H1 H2 hx
  go_wp2_with (first | (refine load_blk rfl rfl rfl ho Try.underlying93 infoRw ?_) | (refine store_blk (cs' := #[.slice (some ⟨g0, 0, none⟩) n0 n0, .slice (some ⟨g1, 0, none⟩) n1 n1, .slice (some ⟨g2, 0, none⟩) n2 n2]) rfl rfl rfl rfl rfl hr infoRw rfl (ones3R _ _ _ _ _ _ _ _ _) ?_; intro V h5 hoth hbel; have hbV := hbel _ _ (by omega) hB; have T0 := hoth _ _ _ (by omega) R0; have T1 := hoth _ _ _ (by omega) R1; have T2 := hoth _ _ _ (by omega) R2; clear hoth hbel))
  refine bodyPost_ret_by (result_blk rfl rfl h5 Try.underlying93 infoRw) rfl ⟨_, _, _, rfl, by omega, by omega, by omega, T2.lt, T0, T1, T2, hbV⟩

theorem infoRwM : (Try.prog.info? 93).map (fun i => (i.zero, i.size, i.bytes)) = some (some (.agg #[.slice none 0 0, .slice none 0 0, .slice none 0 0]), 3, 72) := by kernel_rfl

/-- The cells of so many rows of nothing. -/
def nil3 (n : Nat) : Array Value := Array.replicate (n * 3) (.slice none 0 0)

/-- make([]Row, n). -/
theorem make_rows (n : Nat) (h2 : n ≤ 1073741824) (W : World) :
    (Instr.makeSlice 24 (.int .i64 (n : Int)) (.int .i64 (n : Int))).run Try.prog W = .ok (.slice (some ⟨W.heap.size, 0, none⟩) n n) (W.alloc (.cells (nil3 n) 93)) := by
  obtain ⟨i0, hi, hz0, hz1, hz2⟩ := info_parts infoRwM
  have hM : madeCells (Value.agg #[.slice none 0 0, .slice none 0 0, .slice none 0 0]).cells ((n : Int).toNat * i0.size) = nil3 n := by
    rw [hz1]
    apply Array.ext_getElem?
    intro k
    unfold nil3
    by_cases hk : k < n * 3
    · have hm : k % 3 = 0 ∨ k % 3 = 1 ∨ k % 3 = 2 := by omega
      rcases hm with h | h | h <;> simp [madeCells, Value.cells, hk, h]
    · rw [Array.getElem?_eq_none (by rw [size_madeCells]; simp; omega), Array.getElem?_eq_none (by simp; omega)]
  have h := run_make (P := Try.prog) W 24 93 i0 (.agg #[.slice none 0 0, .slice none 0 0, .slice none 0 0]) Try.underlying24 hi hz0 .i64 .i64 (n : Int) (n : Int) (by omega) (by omega) (by rw [hz2]; omega) (by omega)
  rw [hM] at h
  simpa using h

theorem zown_nil (lo hi : Nat) (w : World) : ZOwn lo hi w (.slice none 0 0) [] := ⟨World.ownsRow_nil _ _ _ _, fun k hk => by cases hk⟩

theorem nown_made (w : World) (n : Nat) (hn : n ≤ 1048576) : NOwnV 3 93 w.heap.size (w.heap.size + 1) (w.alloc (.cells (nil3 n) 93)) (.slice (some ⟨w.heap.size, 0, none⟩) n n) n (List.replicate (n * 3) (.slice none 0 0)) (List.replicate (n * 3) []) := by
  have hv : ∀ j, j < n * 3 → (List.replicate (n * 3) (Value.slice none 0 0)).getD j undef = .slice none 0 0 := fun j hj => by simp [hj]
  refine ⟨?_, by simp, fun k hk => ?_, fun j hj => ?_, fun i j k h1 h2 h3 h4 => ?_, fun j k h1 h2 => ?_⟩
  · have h := World.ownsRow_lit (base := w.heap.size) (e := 93) (size := 3) w (nil3 n) n (Nat.le_refl _) (by unfold maxLen; omega) (by simp [nil3])
    simpa [nil3] using h
  · have e1 : some w.heap.size = some k := hk
    injection e1 with e1
    omega
  · rw [hv j hj]
    have : (List.replicate (n * 3) ([] : List Int)).getD j [] = [] := by simp [hj]
    rw [this]
    exact zown_nil _ _ _
  · rw [hv i h1] at h4; cases h4
  · rw [hv j h1] at h2; cases h2

theorem zown_row {w : World} {g lo hi : Nat} {l : List Int} (h : RowI w g l.length (fun j => l.getD j 0)) (hlo : lo ≤ g) (hhi : g < hi) (hn : l.length ≤ 1048576) : ZOwn lo hi w (.slice (some ⟨g, 0, none⟩) l.length l.length) l := by
  refine ⟨?_, fun k hk => ?_⟩
  · have h1 := h.rowZ hlo hn
    rw [zls_getD] at h1
    exact h1
  · have e1 : some g = some k := hk
    injection e1 with e1
    omega

theorem up_set (ls : List (List Int)) (m j : Nat) (hm : ls.length = m) (hj : j < m) : (ls.take j ++ List.replicate (m - j) []).set j (ls.getD j []) = ls.take (j + 1) ++ List.replicate (m - (j + 1)) [] := by
  have hl : (ls.take j).length = j := by rw [List.length_take]; omega
  have e2 : ls.getD j [] = ls[j]'(by omega) := by simp [show j < ls.length by omega]
  rw [List.take_succ_eq_append_getElem (by omega), List.append_assoc, List.set_append_right _ _ (by omega), hl, Nat.sub_self, e2, show m - j = (m - (j + 1)) + 1 by omega, List.replicate_succ]
  rfl

/-- A row is put into a list of rows. -/
theorem NOwnV.put3 {lo hi hi' n g cp e : Nat} {w : World} {vs : List Value} {ls : List (List Int)} {i : Nat} {l0 l1 l2 : List Int} {g0 g1 g2 : Nat} (h : NOwnV 3 e lo hi w (.slice (some ⟨g, 0, none⟩) n cp) n vs ls) (hi3 : i < n) (hlo : lo ≤ hi) (h0 : hi ≤ g0) (h1 : g0 < g1) (h2 : g1 < g2) (h3 : g2 < hi') (b0 : l0.length ≤ 1048576) (b1 : l1.length ≤ 1048576) (b2 : l2.length ≤ 1048576)
    (r0 : RowI w g0 l0.length (fun j => l0.getD j 0)) (r1 : RowI w g1 l1.length (fun j => l1.getD j 0)) (r2 : RowI w g2 l2.length (fun j => l2.getD j 0)) :
    ∃ vs', NOwnV 3 e lo hi' (((w.setCell ⟨g, i * 3, none⟩ (.slice (some ⟨g0, 0, none⟩) l0.length l0.length)).setCell ⟨g, i * 3 + 1, none⟩ (.slice (some ⟨g1, 0, none⟩) l1.length l1.length)).setCell ⟨g, i * 3 + 2, none⟩ (.slice (some ⟨g2, 0, none⟩) l2.length l2.length)) (.slice (some ⟨g, 0, none⟩) n cp) n vs' (((ls.set (i * 3) l0).set (i * 3 + 1) l1).set (i * 3 + 2) l2) := by
  have hg : g < hi := h.top g rfl
  have k0 := h.put (j := i * 3) (by omega) (zown_row r0 h0 (show g0 < g0 + 1 by omega) b0) (by omega) hlo
  have s1 : RowI (w.setCell ⟨g, i * 3, none⟩ (.slice (some ⟨g0, 0, none⟩) l0.length l0.length)) g1 l1.length (fun j => l1.getD j 0) := Blk.other r1 (by omega) _
  have s2 : RowI (w.setCell ⟨g, i * 3, none⟩ (.slice (some ⟨g0, 0, none⟩) l0.length l0.length)) g2 l2.length (fun j => l2.getD j 0) := Blk.other r2 (by omega) _
  have k1 := k0.put (j := i * 3 + 1) (by omega) (zown_row s1 (show g0 + 1 ≤ g1 by omega) (show g1 < g1 + 1 by omega) b1) (by omega) (by omega)
  have t2 : RowI ((w.setCell ⟨g, i * 3, none⟩ (.slice (some ⟨g0, 0, none⟩) l0.length l0.length)).setCell ⟨g, i * 3 + 1, none⟩ (.slice (some ⟨g1, 0, none⟩) l1.length l1.length)) g2 l2.length (fun j => l2.getD j 0) := Blk.other s2 (by omega) _
  exact ⟨_, k1.put (j := i * 3 + 2) (by omega) (zown_row t2 (show g1 + 1 ≤ g2 by omega) h3 b2) (by omega) (by omega)⟩

set_option maxHeartbeats 1600000 in
set_option maxRecDepth 100000 in
theorem toRowS_any (a : Option Addr) (n cap : Nat) (hn : n ≤ 1048576) (ls : List (List Int)) (hz : ∀ j, (ls.getD j []).length ≤ 1048576) (w : World) (hA : NAt 3 w w.heap.size (.slice a n cap) n ls) :
    Calls Try.prog 41 #[.slice a n cap] w fun e w' => e = .returned (.slice (some ⟨w.heap.size, 0, none⟩) n n) ∧ (∃ vs, NOwnV 3 93 w.heap.size w'.heap.size w' (.slice (some ⟨w.heap.size, 0, none⟩) n n) n vs ls) ∧ Below w.heap.size w w' := by
  have HA : Hid (NAt 3 w w.heap.size (.slice a n cap) n ls) := hA
  have hlen := hA.1
  have HZ : Hid (∀ j, (ls.getD j []).length ≤ 1048576) := hz
  clear hA hz
  have hmk : ∀ W : World, (Instr.makeSlice 24 (.int .i64 (n : Int)) (.int .i64 (n : Int))).run Try.prog W = .ok (.slice (some ⟨W.heap.size, 0, none⟩) n n) (W.alloc (.cells (nil3 n) 93)) := fun W => make_rows n (by omega) W
  have H0 : Hid (NOwnV 3 93 w.heap.size (w.heap.size + 1) (w.alloc (.cells (nil3 n) 93)) (.slice (some ⟨w.heap.size, 0, none⟩) n n) n (List.replicate (n * 3) (.slice none 0 0)) (ls.take (0 * 3) ++ List.replicate (n * 3 - 0 * 3) [])) := by show NOwnV _ _ _ _ _ _ _ _ _; simpa using nown_made w n hn
  generalize nil3 n = M at hmk H0
  go_enter Try.func41, Try.ntmps41
  go_wp2
  go_loopw [4] (fun i wr => ∃ (k hi : Nat) (vs : List Value), i = .int .i64 (k : Int) ∧ k ≤ n ∧ Hid (w.heap.size < hi ∧ hi ≤ wr.heap.size) ∧ Hid (NOwnV 3 93 w.heap.size hi wr (.slice (some ⟨w.heap.size, 0, none⟩) n n) n vs (ls.take (k * 3) ++ List.replicate (n * 3 - k * 3) [])) ∧ Hid (Below w.heap.size w wr)) (fun i _ => n - (intOf i).toNat)
  case atStart => exact ⟨0, w.heap.size + 1, _, rfl, Nat.zero_le _, ⟨by omega, by simp⟩, H0, (Below.refl _ _).alloc (Nat.le_refl _) _⟩
  case round =>
    obtain ⟨k, hi, vs, rfl, hk, HH, HR, HW⟩ := hrel
    clear hmk H0
    by_cases hlt : k < n
    · have hlt' : (k : Int) < (n : Int) := by omega
      have hk0 : (0 : Int) ≤ (k : Int) := by omega
      obtain ⟨b, off, a0, c0, a1, c1, a2, c2, rfl, hb, z0, z1, z2, i0, i1, i2⟩ := (HA.out.on HW.out).row3 hlt
      have hws : w.heap.size ≤ wr.heap.size := HW.out.size
      have HC : Hid (Calls Try.prog 69 #[.agg #[.slice a0 (ls.getD (k * 3) []).length c0, .slice a1 (ls.getD (k * 3 + 1) []).length c1, .slice a2 (ls.getD (k * 3 + 2) []).length c2]] wr fun e w' => ∃ g0 g1 g2, e = .returned (.agg #[.slice (some ⟨g0, 0, none⟩) (ls.getD (k * 3) []).length (ls.getD (k * 3) []).length, .slice (some ⟨g1, 0, none⟩) (ls.getD (k * 3 + 1) []).length (ls.getD (k * 3 + 1) []).length, .slice (some ⟨g2, 0, none⟩) (ls.getD (k * 3 + 2) []).length (ls.getD (k * 3 + 2) []).length]) ∧ wr.heap.size ≤ g0 ∧ g0 < g1 ∧ g1 < g2 ∧ g2 < w'.heap.size ∧ RowI w' g0 (ls.getD (k * 3) []).length (fun j => (ls.getD (k * 3) []).getD j 0) ∧ RowI w' g1 (ls.getD (k * 3 + 1) []).length (fun j => (ls.getD (k * 3 + 1) []).getD j 0) ∧ RowI w' g2 (ls.getD (k * 3 + 2) []).length (fun j => (ls.getD (k * 3 + 2) []).getD j 0) ∧ Below wr.heap.size wr w') := toRow_any a0 _ c0 (HZ.out _) _ a1 _ c1 (HZ.out _) _ a2 _ c2 (HZ.out _) _ wr (i0.wide hws) (i1.wide hws) (i2.wide hws)
      have HS : Hid ((((ls.take (k * 3) ++ List.replicate (n * 3 - k * 3) []).set (k * 3) (ls.getD (k * 3) [])).set (k * 3 + 1) (ls.getD (k * 3 + 1) [])).set (k * 3 + 2) (ls.getD (k * 3 + 2) []) = ls.take ((k + 1) * 3) ++ List.replicate (n * 3 - (k + 1) * 3) []) := by
        show _ = _
        rw [up_set ls (n * 3) (k * 3) hlen (by omega), up_set ls (n * 3) (k * 3 + 1) hlen (by omega), up_set ls (n * 3) (k * 3 + 2) hlen (by omega), show (k + 1) * 3 = k * 3 + 2 + 1 by omega]
      have e0 := HZ.out (k * 3)
      have e1 := HZ.out (k * 3 + 1)
      have e2 := HZ.out (k * 3 + 2)
      generalize ls.take (k * 3) ++ List.replicate (n * 3 - k * 3) [] = cur at HS HR
      generalize ls.getD (k * 3) [] = l0 at HC HS z0 e0
      generalize ls.getD (k * 3 + 1) [] = l1 at HC HS z1 e1
      generalize ls.getD (k * 3 + 2) [] = l2 at HC HS z2 e2
      clear i0 i1 i2 hb HA HZ
      go_wp2_with fail
      refine HC.out.mono ?_
      rintro e w1 ⟨g0, g1, g2, rfl, hg0, hg1, hg2, hg3, r0, r1, r2, hb1⟩
      have hR1 := HR.out.same (Same.of_below hb1 HH.out.2)
      have c0 := hR1.cell (j := k * 3) (by omega)
      have c1 := hR1.cell (j := k * 3 + 1) (by omega)
      have c2 := hR1.cell (j := k * 3 + 2) (by omega)
      have f0 := World.ownsRow.frozenAt hR1.row (k * 3)
      have f1 := World.ownsRow.frozenAt hR1.row (k * 3 + 1)
      have f2 := World.ownsRow.frozenAt hR1.row (k * 3 + 2)
      obtain ⟨vs', hR2⟩ := hR1.put3 (hi' := w1.heap.size) hlt (by have := HH.out; omega) (by have := HH.out; omega) hg1 hg2 hg3 e0 e1 e2 r0 r1 r2
      rw [HS.out] at hR2
      have hB1 : Below w.heap.size w w1 := HW.out.trans (hb1.mono HW.out.size)
      have HW2 : Hid (Below w.heap.size w (((w1.setCell ⟨w.heap.size, k * 3, none⟩ (.slice (some ⟨g0, 0, none⟩) l0.length l0.length)).setCell ⟨w.heap.size, k * 3 + 1, none⟩ (.slice (some ⟨g1, 0, none⟩) l1.length l1.length)).setCell ⟨w.heap.size, k * 3 + 2, none⟩ (.slice (some ⟨g2, 0, none⟩) l2.length l2.length))) := ((hB1.setCell (Nat.le_refl _) _).setCell (Nat.le_refl _) _).setCell (Nat.le_refl _) _
      have HR2 : Hid (NOwnV 3 93 w.heap.size w1.heap.size (((w1.setCell ⟨w.heap.size, k * 3, none⟩ (.slice (some ⟨g0, 0, none⟩) l0.length l0.length)).setCell ⟨w.heap.size, k * 3 + 1, none⟩ (.slice (some ⟨g1, 0, none⟩) l1.length l1.length)).setCell ⟨w.heap.size, k * 3 + 2, none⟩ (.slice (some ⟨g2, 0, none⟩) l2.length l2.length)) (.slice (some ⟨w.heap.size, 0, none⟩) n n) n vs' (ls.take ((k + 1) * 3) ++ List.replicate (n * 3 - (k + 1) * 3) [])) := hR2
      have HH2 : Hid (w.heap.size < w1.heap.size ∧ w1.heap.size ≤ (((w1.setCell ⟨w.heap.size, k * 3, none⟩ (.slice (some ⟨g0, 0, none⟩) l0.length l0.length)).setCell ⟨w.heap.size, k * 3 + 1, none⟩ (.slice (some ⟨g1, 0, none⟩) l1.length l1.length)).setCell ⟨w.heap.size, k * 3 + 2, none⟩ (.slice (some ⟨g2, 0, none⟩) l2.length l2.length)).heap.size) := ⟨by have := HH.out; have := hb1.size; omega, by simp [World.setCell]⟩
      generalize vs.getD (k * 3) undef = o0 at c0
      generalize vs.getD (k * 3 + 1) undef = o1 at c1
      generalize vs.getD (k * 3 + 2) undef = o2 at c2
      clear HR HW HH hR1 hR2 hB1 hb1 z0 z1 z2 HC HS r0 r1 r2
      go_wp2
      go_roundw
      case rel => exact ⟨k + 1, _, vs', by go_num, hlt, HH2, HR2, HW2⟩
      case measure => simp [intOf]; omega
    · have hlt' : ¬ (k : Int) < (n : Int) := by omega
      have HE : Hid (NOwnV 3 93 w.heap.size wr.heap.size wr (.slice (some ⟨w.heap.size, 0, none⟩) n n) n vs ls) := by
        have h := HR.out
        rw [show k = n by omega, Nat.sub_self, ← hlen, List.take_length] at h
        simp only [List.replicate_zero, List.append_nil] at h
        exact h.wide HH.out.2
      go_wp2
      go_ret
      exact ⟨rfl, ⟨vs, HE.out⟩, HW.out⟩

end Go.Proofs.Ytbkfdafdchjakaa
