/-
  The walks of the program's tree of hashes: levels, the lowest level, the one above.
  (-DROP-: what the seat lacks is left out.)
-/
import Derived.Test.YtlaoikpbgbckjaaDoorTreeS5
import Derived.Test.YtlaoikpbgbckjaaDoorDigI
import Derived.Test.YtlaoikpbgbckjaaDoorJoined44
import Derived.Test.YtlaoikpbgbckjaaDoorJoined44
namespace Go.Proofs.YtlaoikpbgbckjaaDoor
open Go.RowKit

set_option maxHeartbeats 1600000 in
set_option maxRecDepth 100000 in
theorem iLevels_same (n : Int) (w : World) :
    Calls Tryd.prog 61 #[.int .i64 n] w fun e w' => e = .returned (.int .i64 (lvI n)) ∧ w = w' := by
  by_cases h : 0 ≤ n ∧ n ≤ 32
  · have h1 : ¬ n < 0 := by omega
    have h2 : ¬ (32 : Int) < n := by omega
    obtain ⟨L, hL⟩ : ∃ L, L = lvN n.toNat := ⟨_, rfl⟩
    have HV : Hid (lvI n = (L : Int)) := by unfold lvI; rw [if_pos h, hL]; rfl
    have hL5 : L ≤ 5 := by rw [hL]; exact lvN_le _
    have HP : Hid (n.toNat ≤ 2 ^ L) := by rw [hL]; exact lvN_pow (by omega)
    have HQ : Hid (∀ k, k < L → 2 ^ k < n.toNat) := by rw [hL]; exact fun k hk => lvN_least hk
    clear hL
    go_enter Tryd.func61, Tryd.ntmps61
    go_wp2
    go_loopw [3] (fun i wr => ∃ k : Nat, i = .int .i64 (k : Int) ∧ k ≤ L ∧ w = wr) (fun i _ => 6 - (intOf i).toNat)
    case atStart => exact ⟨0, rfl, Nat.zero_le _, rfl⟩
    case round =>
      obtain ⟨k, rfl, hk, rfl⟩ := hrel
      have hk6 : k = 0 ∨ k = 1 ∨ k = 2 ∨ k = 3 ∨ k = 4 ∨ k = 5 := by omega
      by_cases hlt : k < L
      · have hlt' := HQ.out k hlt
        clear HP HQ
        rcases hk6 with rfl | rfl | rfl | rfl | rfl | rfl
        all_goals simp only [Nat.reducePow] at hlt'
        iterate 5 (rotate_left)
        · omega
        all_goals go_wp2
        · go_roundw
          case rel => exact ⟨1, by go_num, by omega, by trivial⟩
          case measure => simp [intOf]
        · go_roundw
          case rel => exact ⟨2, by go_num, by omega, by trivial⟩
          case measure => simp [intOf]
        · go_roundw
          case rel => exact ⟨3, by go_num, by omega, by trivial⟩
          case measure => simp [intOf]
        · go_roundw
          case rel => exact ⟨4, by go_num, by omega, by trivial⟩
          case measure => simp [intOf]
        · go_roundw
          case rel => exact ⟨5, by go_num, by omega, by trivial⟩
          case measure => simp [intOf]
      · obtain rfl : k = L := by omega
        have hge := HP.out
        clear HP HQ
        rcases hk6 with rfl | rfl | rfl | rfl | rfl | rfl
        all_goals simp only [Nat.reducePow] at hge
        all_goals go_wp2
        all_goals go_ret
        all_goals exact ⟨by rw [HV.out]; rfl, rfl⟩
  · have HV : Hid (lvI n = -1) := if_neg h
    by_cases h1 : n < 0
    · clear h
      go_enter Tryd.func61, Tryd.ntmps61
      go_wp2
      go_ret
      exact ⟨by rw [HV.out]; rfl, rfl⟩
    · have h2 : (32 : Int) < n := by omega
      clear h
      go_enter Tryd.func61, Tryd.ntmps61
      go_wp2
      go_ret
      exact ⟨by rw [HV.out]; rfl, rfl⟩

theorem iLevels_any (n : Int) (w : World) :
    Calls Tryd.prog 61 #[.int .i64 n] w fun e w' => e = .returned (.int .i64 (lvI n)) ∧ Below w.heap.size w w' := bel_same (iLevels_same n w)

set_option maxHeartbeats 400000 in
set_option maxRecDepth 100000 in
theorem iDPair_any (x y : ByteArray) (hx : x.size ≤ 1048576) (hy : y.size ≤ 1048576) (w : World) (hT : Tab w) :
    Calls Tryd.prog 63 #[.string x, .string y] w fun e w' => e = .returned (.string (digT (x ++ y))) ∧ Below w.heap.size w w' := by
  have HD : Hid (Calls Tryd.prog 62 #[.string (x ++ y)] w fun e w' => e = .returned (.string (digT (x ++ y))) ∧ Below w.heap.size w w') := iDig_any (x ++ y) (by rw [ByteArray.size_append]; omega) w hT
  generalize digT (x ++ y) = d at HD
  clear hT
  go_enter Tryd.func63, Tryd.ntmps63
  go_wp2_with fail
  refine HD.out.mono ?_
  rintro e w1 ⟨rfl, hb1⟩
  go_wp2
  go_ret
  exact ⟨rfl, hb1⟩

/-- make(treeLevel, n). -/
theorem make_level (n : Nat) (h2 : n ≤ 1073741824) (W : World) :
    (Instr.makeSlice 81 (.int .i64 (n : Int)) (.int .i64 (n : Int))).run Tryd.prog W = .ok (.slice (some ⟨W.heap.size, 0, none⟩) n n) (W.alloc (.cells (tc (fun _ => ⟨#[]⟩) n) 9)) := by
  obtain ⟨i0, hi, hz0, hz1, hz2⟩ := info_parts info9T
  have hM : madeCells (Value.string ⟨#[]⟩).cells ((n : Int).toNat * i0.size) = tc (fun _ => ⟨#[]⟩) n := by
    rw [hz1]
    have h3 := toList_madeCells_one (.string ⟨#[]⟩) n
    apply Array.toList_inj.1
    have e : (tc (fun _ => ⟨#[]⟩) n).toList = List.replicate n (Value.string ⟨#[]⟩) := by
      simp [tc, List.map_const', List.length_range]
    rw [e]
    simpa [Value.cells] using h3
  have h := run_make (P := Tryd.prog) W 81 9 i0 (.string ⟨#[]⟩) Tryd.underlying81 hi hz0 .i64 .i64 (n : Int) (n : Int) (by omega) (by omega) (by rw [hz2]; omega) (by omega)
  rw [hM] at h
  simpa using h

/-- Block g has room for N texts; the first ones are those of the list. -/
def LevAt (w : World) (g N : Nat) (l : List ByteArray) : Prop := ∃ F, RowT w g N F ∧ l.length ≤ N ∧ ∀ j, j < l.length → F j = l.getD j noT

theorem LevAt.lt {w : World} {g N : Nat} {l : List ByteArray} (h : LevAt w g N l) : g < w.heap.size := by
  obtain ⟨F, h, _⟩ := h
  exact h.lt
theorem LevAt.on {w w1 : World} {g N c : Nat} {l : List ByteArray} (h : LevAt w g N l) (hb : Below c w w1) (hc : g < c) : LevAt w1 g N l := by
  obtain ⟨F, h, h2⟩ := h
  exact ⟨F, h.on hb hc, h2⟩
theorem LevAt.grown {w w1 : World} {g N : Nat} {l : List ByteArray} {o : Option Nat} (h : LevAt w g N l) (hg : w.grownBy w1 o) (ho : o ≠ some g) : LevAt w1 g N l := by
  obtain ⟨F, h, h2⟩ := h
  exact ⟨F, (hg.block g h.lt (fun e => ho e.symm)).trans h, h2⟩
theorem LevAt.cell {w : World} {g N : Nat} {l : List ByteArray} (h : LevAt w g N l) {j : Nat} (hj : j < l.length) : w.cell? ⟨g, j, none⟩ = some (.string (l.getD j noT)) := by
  obtain ⟨F, h, h2, h3⟩ := h
  rw [← h3 j hj]
  exact h.cell (by omega)

theorem tc_list (F : Nat → ByteArray) (n : Nat) : (tc F n).toList = (lst F n).map Value.string := by simp [tc, lst]
/-- A row over whose beginning another is laid. -/
theorem tc_splice (F f : Nat → ByteArray) {n N : Nat} (h : n ≤ N) : (splice (tc F N).toList 0 ((lst f n).map Value.string)).toArray = tc (fun j => if j < n then f j else F j) N := by
  apply Array.toList_inj.1
  rw [tc_list, tc_list]
  unfold splice
  rw [List.take_zero, List.nil_append, Nat.zero_add, List.length_map, lst_length]
  apply List.ext_getElem?
  intro j
  rw [List.getElem?_append, List.length_map, lst_length]
  by_cases h1 : j < n
  · rw [if_pos h1]
    have : j < N := by omega
    simp [lst, h1, this]
  · rw [if_neg h1, List.getElem?_drop, show n + (j - n) = j by omega]
    by_cases h2 : j < N
    · simp [lst, h1, h2]
    · simp [lst, h2]

end Go.Proofs.YtlaoikpbgbckjaaDoor
