/-
  Texts of one's own, joined.
-/
import Derived.Test.YtbkfdafdchjakaaJoined5
import Derived.Test.YtbkfdafdchjakaaJoined9
import Derived.Test.YtbkfdafdchjakaaJoined8
import Derived.Maps.AppendAt
import Derived.StillTail
import Derived.StillTailTactics
import Derived.Test.YtbkfdafdchjakaaJoined7

/-
  The walks of the specification's polynomials.
  (-DROP-: what the seat lacks is left out.)
-/
namespace Go.Proofs.Ytbkfdafdchjakaa
open Go.RowKit

/-- A list without its last number. -/
theorem RowZs.init {B : Nat} {w : World} {g n c : Nat} {l : List Int} {x : Int} (h : RowZs B w (.slice (some ⟨g, 0, none⟩) (n + 1) c) (l ++ [x])) (hn : l.length = n) : RowZs B w (.slice (some ⟨g, 0, none⟩) n c) l := by
  rcases h.2 with ⟨h0, _⟩ | ⟨g', c', cur, hv, hg, hh, h1, h2, h3, h4⟩
  · cases h0
  · injection hv with e1 e2 e3
    injection e1 with e1
    injection e1 with e1
    subst e1
    subst e3
    unfold RowZs
    rw [hn]
    refine ⟨by simp [zsV, hn], .inr ⟨g, c, cur, rfl, hg, hh, by omega, h2, h3, ?_⟩⟩
    have h5 := congrArg (List.take n) h4
    have hz : (zsV l).length = n := by simp [zsV, hn]
    have e : min n ((l ++ [x]).length * 1) = n := by rw [List.length_append]; simp; omega
    rw [List.take_take, e, zsV_append, List.take_left' hz] at h5
    rw [Nat.mul_one]
    exact h5
theorem list_init {l : List Int} (h : 0 < l.length) : ∃ t x, l = t ++ [x] := ⟨l.dropLast, l.getLast (by intro e; rw [e] at h; simp at h), (List.dropLast_concat_getLast _).symm⟩

theorem drop_at {l : List Int} {k : Nat} (h : k < l.length) : l.drop k = l.getD k 0 :: l.drop (k + 1) := by
  rw [List.drop_eq_getElem_cons h]
  simp [h]

theorem padF_case (a b : List Int) (k : Nat) : padF a b k = if k < b.length then scAdd (if k < a.length then scAdd 0 (a.getD k 0) else 0) (b.getD k 0) else if k < a.length then scAdd 0 (a.getD k 0) else 0 := rfl

/-- out[i] = ScAdd(out[i], x): what the world is behind it. -/
theorem row_step {w wr : World} {n k : Nat} {F : Nat → Int} (x : Int) (h : RowI wr w.heap.size n F) (hb : Below w.heap.size w wr) : RowI (wr.setCell ⟨w.heap.size, k, none⟩ (.int .i64 x)) w.heap.size n (fun i => if i = k then x else F i) ∧ Below w.heap.size w (wr.setCell ⟨w.heap.size, k, none⟩ (.int .i64 x)) := ⟨h.set k x, hb.setCell (Nat.le_refl _) _⟩

end Go.Proofs.Ytbkfdafdchjakaa

/-
  The walks of the program's lists of numbers: each, at, with, trimmed; PolyTrim, PolyAdd.
  (-DROP-: what the seat lacks is left out.)
-/
namespace Go.Proofs.Ytbkfdafdchjakaa
open Go.RowKit

/-- The first so many of a list. -/
theorem RowZs.take {B : Nat} {w : World} {a : Option Addr} {n c : Nat} {l : List Int} (h : RowZs B w (.slice a n c) l) (k : Nat) (hk : k ≤ l.length) : RowZs B w (.slice a k c) (l.take k) := by
  rcases h.2 with ⟨h0, h1⟩ | ⟨g, c', cur, hv, hg, hh, h1, h2, h3, h4⟩
  · injection h0 with e1 e2 e3
    subst e1
    subst e3
    have e : k = 0 := by omega
    subst e
    exact ⟨rfl, .inl ⟨rfl, rfl⟩⟩
  · injection hv with e1 e2 e3
    subst e1
    subst e3
    have hl : (l.take k).length = k := by simp [hk]
    unfold RowZs
    rw [hl]
    refine ⟨by simp [zsV, hk], .inr ⟨g, c, cur, rfl, hg, hh, by omega, h2, h3, ?_⟩⟩
    have h5 := congrArg (List.take k) h4
    rw [List.take_take, Nat.mul_one, Nat.min_eq_left hk] at h5
    rw [Nat.mul_one, h5]
    simp [zsV]
theorem RowZs.cap {B : Nat} {w : World} {a : Option Addr} {n c : Nat} {l : List Int} (h : RowZs B w (.slice a n c) l) : l.length ≤ c := by
  rcases h.2 with ⟨h0, h1⟩ | ⟨g, c', cur, hv, hg, hh, h1, h2, h3, h4⟩
  · omega
  · injection hv with e1 e2 e3; omega
theorem RowZs.len {B : Nat} {w : World} {a : Option Addr} {n c : Nat} {l : List Int} (h : RowZs B w (.slice a n c) l) : n = l.length := by
  rcases h.2 with ⟨h0, h1⟩ | ⟨g, c', cur, hv, hg, hh, h1, h2, h3, h4⟩
  · injection h0 with e1 e2 e3; omega
  · injection hv with e1 e2 e3
/-- The cells of a list. -/
theorem RowZs.cellZ {B : Nat} {w : World} {v : Value} {l : List Int} (h : RowZs B w v l) {j : Nat} (hj : j < l.length) : ∃ g c, v = .slice (some ⟨g, 0, none⟩) l.length c ∧ B ≤ g ∧ g < w.heap.size ∧ w.cell? ⟨g, j, none⟩ = some (.int .i64 (l.getD j 0)) ∧ w.frozen? ⟨g, j, none⟩ = false := by
  rcases h.2 with ⟨rfl, h0⟩ | ⟨g, cp, cur, rfl, hg, hh, hrest⟩
  · omega
  · refine ⟨g, cp, rfl, hg, (Array.getElem?_eq_some_iff.1 hh).1, ?_, frozen_of_row w g j _ 3 hh⟩
    have hc := h.cellAt j (by omega)
    rw [hc]
    simp [zsV, hj]
/-- A number is stored. -/
theorem RowZs.put {B : Nat} {w : World} {g n c : Nat} {l : List Int} (h : RowZs B w (.slice (some ⟨g, 0, none⟩) n c) l) (j : Nat) (x : Int) : RowZs B (w.setCell ⟨g, j, none⟩ (.int .i64 x)) (.slice (some ⟨g, 0, none⟩) n c) (l.set j x) := by
  have e := h.len
  subst e
  have h1 := (World.ownsRow.stored h j (.int .i64 x)).1
  unfold RowZs
  rw [List.length_set]
  have e2 : zsV (l.set j x) = (zsV l).set j (.int .i64 x) := by simp [zsV, List.map_set]
  rw [e2]
  exact h1

/-- make(numbers[int], n). -/
theorem make_nums (n m : Nat) (h1 : n ≤ m) (h2 : m ≤ 1073741824) (W : World) :
    (Instr.makeSlice 140 (.int .i64 (n : Int)) (.int .i64 (m : Int))).run Try.prog W = .ok (.slice (some ⟨W.heap.size, 0, none⟩) n m) (W.alloc (.cells (ic (fun _ => 0) m) 3)) := by
  obtain ⟨i0, hi, hz0, hz1, hz2⟩ := info_parts info3I
  have hM : madeCells (Value.int .i64 0).cells ((m : Int).toNat * i0.size) = ic (fun _ => 0) m := by
    rw [hz1]
    have h3 := toList_madeCells_one (.int .i64 0) m
    apply Array.toList_inj.1
    have e : (ic (fun _ => 0) m).toList = List.replicate m (Value.int .i64 0) := by
      simp [ic, List.map_const', List.length_range]
    rw [e]
    simpa [Value.cells] using h3
  have h := run_make (P := Try.prog) W 140 3 i0 (.int .i64 0) Try.underlying140 hi hz0 .i64 .i64 (n : Int) (m : Int) (by omega) (by omega) (by rw [hz2]; omega) (by omega)
  rw [hM] at h
  simpa using h

set_option maxHeartbeats 1600000 in
set_option maxRecDepth 100000 in
theorem trimmed_any (v : Value) (l : List Int) (hl : l.length ≤ 1048576) (B : Nat) (w : World) (h : RowZs B w v l) :
    Calls Try.prog 99 #[v] w fun e w' => ∃ a n c, v = .slice a n c ∧ e = .returned (.slice a (trimZ l).length c) ∧ RowZs B w (.slice a (trimZ l).length c) (trimZ l) ∧ w = w' := by
  obtain ⟨a, c, hv⟩ := row_form h
  subst hv
  have HR : Hid (RowZs B w (.slice a l.length c) l) := h
  obtain ⟨n, hn⟩ : ∃ n, n = l.length := ⟨_, rfl⟩
  have HN : Hid (n = l.length) := hn
  have hcap : n ≤ c := by have := h.cap; omega
  rw [← hn] at HR hl ⊢
  clear hn h
  go_enter Try.func99, Try.ntmps99
  go_wp2
  go_loopw [3] (fun i wr => ∃ k : Nat, i = .int .i64 (k : Int) ∧ k ≤ n ∧ Hid (trimZ (l.take k) = trimZ l) ∧ w = wr) (fun i _ => (intOf i).toNat)
  case atStart => exact ⟨n, rfl, Nat.le_refl _, by show _ = _; rw [HN.out, List.take_length], rfl⟩
  case round =>
    obtain ⟨k, rfl, hk, HT, rfl⟩ := hrel
    have hkl : k ≤ l.length := by have := HN.out; omega
    by_cases h0 : 0 < k
    · obtain ⟨j, rfl⟩ : ∃ j, k = j + 1 := ⟨k - 1, by omega⟩
      have hj : j < l.length := by omega
      have HTK : Hid (l.take (j + 1) = l.take j ++ [l.getD j 0]) := by
        show _ = _
        rw [List.take_succ_eq_append_getElem hj]
        simp [hj]
      obtain ⟨g, c', hv, hg, hgs, hz, hf⟩ := HR.out.cellZ hj
      have ha : a = some ⟨g, 0, none⟩ := by injection hv
      subst ha
      have hi1 : ((j + 1 : Nat) : Int) - 1 = (j : Int) := by omega
      have hi2 : (0 : Int) ≤ (j : Int) := by omega
      have hi3 : (j : Int) < (n : Int) := by omega
      have hi4 : ((j + 1 : Nat) : Int) > 0 := by omega
      clear hv hg hgs hf
      by_cases hx : l.getD j 0 = 0
      · rw [hx] at hz HTK
        have HT2 : Hid (trimZ (l.take j) = trimZ l) := by
          show _ = _
          rw [← HT.out, HTK.out, trimZ_zero]
        clear HT HTK hx
        go_wp2
        go_roundw
        case rel => exact ⟨j, by go_num, by omega, HT2, trivial⟩
        case measure => simp [intOf]
      · have HE : Hid (l.take (j + 1) = trimZ l) := by
          show _ = _
          rw [← HT.out, HTK.out, trimZ_some _ hx]
        have hx' : (l.getD j 0 == 0) = false := by rw [beq_eq_false_iff_ne]; exact hx
        have HL : Hid ((trimZ l).length = j + 1) := by
          show _ = _
          rw [← HE.out, List.length_take]
          omega
        have HR2 : Hid (RowZs B w (.slice (some ⟨g, 0, none⟩) (j + 1) c) (trimZ l)) := by
          have := HR.out.take (j + 1) (by omega)
          rwa [HE.out] at this
        generalize l.getD j 0 = z at *
        have hcc : ((j + 1 : Nat) : Int) ≤ (c : Int) := by omega
        clear HT HTK
        go_wp2
        go_ret
        exact ⟨_, _, _, rfl, by rw [HL.out]; rfl, by rw [HL.out]; exact HR2.out, rfl⟩
    · obtain rfl : k = 0 := by omega
      have HE : Hid (trimZ l = []) := by show _ = _; rw [← HT.out]; rfl
      have HR2 : Hid (RowZs B w (.slice a 0 c) []) := by
        have := HR.out.take 0 (by omega)
        exact this
      have hcc : (0 : Int) ≤ (c : Int) := by omega
      clear HT
      go_wp2
      go_ret
      exact ⟨_, _, _, rfl, by rw [HE.out]; rfl, by rw [HE.out]; exact HR2.out, rfl⟩

theorem map_zls (l : List Int) : zls (fun j => sca (l.getD j 0)) l.length = l.map sca := by
  apply List.ext_getElem
  · simp [zls]
  · intro i h1 h2
    have h3 : i < l.length := by simpa using h2
    simp [zls, h3]

end Go.Proofs.Ytbkfdafdchjakaa

/-
  The walk of the specification's product of polynomials.
  (-DROP-: what the seat lacks is left out.)
-/
namespace Go.Proofs.Ytbkfdafdchjakaa
open Go.RowKit

theorem rowZ_none (w : World) (n : Nat) (hn : n ≤ 1048576) : RowZs w.heap.size (w.alloc (.cells (ic (fun _ => 0) n) 3)) (.slice (some ⟨w.heap.size, 0, none⟩) n n) (List.replicate n 0) := by
  have h := (rowI_new w (fun _ => 0) n).rowZ (Nat.le_refl _) hn
  have e : zls (fun _ => 0) n = List.replicate n 0 := by simp [zls, List.map_const']
  rwa [e] at h
theorem RowZs.heap {B : Nat} {w w' : World} {v : Value} {l : List Int} (h : RowZs B w v l) (e : w'.heap = w.heap) : RowZs B w' v l :=
  owns_same (lo := 0) (hi := w.heap.size) h (fun k _ _ => by rw [e]) (fun k hk => ⟨Nat.zero_le _, (h.lt k hk).2⟩)
theorem cell_heap {w w' : World} {p : Addr} {x : Option Value} (h : w.cell? p = x) (e : w'.heap = w.heap) : w'.cell? p = x := (World.cell?_of_block (by rw [e])).trans h
theorem free_heap {w w' : World} {p : Addr} (h : w.frozen? p = false) (e : w'.heap = w.heap) : w'.frozen? p = false := by
  rw [← h]
  unfold World.frozen?
  rw [e]

end Go.Proofs.Ytbkfdafdchjakaa
