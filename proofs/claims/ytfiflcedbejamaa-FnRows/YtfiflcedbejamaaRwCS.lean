/-
  The walks of the rows of the system of bits, the program's and the specification's.
  (-DROP-: what the seat lacks is left out.)
-/
import Derived.Test.YtfiflcedbejamaaRwHelp2
import Derived.Test.YtfiflcedbejamaaJoined20
import Derived.RegionTactic
import Derived.ChangeAlike
namespace Go.Proofs.Ytfiflcedbejamaa
open Go.RowKit

/-- 1 at one place. -/
def hotF (k : Nat) : Nat → Int := fun j => if j = k then 1 else 0
/-- A number to a bit's place at each bit. -/
def powF (b : Int) (k : Nat) : Nat → Int := fun j => if 3 ≤ j ∧ j < 3 + k then b ^ (j - 3) else 0
theorem powF_next (b : Int) (k : Nat) : (fun i => if i = 3 + k then b ^ k else powF b k i) = powF b (k + 1) := by
  funext i
  unfold powF
  by_cases h : i = 3 + k
  · subst h
    rw [if_pos rfl, if_pos (by omega), show 3 + k - 3 = k by omega]
  · rw [if_neg h]
    by_cases h2 : 3 ≤ i ∧ i < 3 + k
    · rw [if_pos h2, if_pos (by omega)]
    · rw [if_neg h2, if_neg (by omega)]

/-- Three lists of eleven numbers in blocks of their own. -/
def Three (w0 w : World) (g0 g1 g2 : Nat) (f0 f1 f2 : Nat → Int) : Prop :=
  w0.heap.size ≤ g0 ∧ w0.heap.size ≤ g1 ∧ w0.heap.size ≤ g2 ∧ g0 ≠ g1 ∧ g0 ≠ g2 ∧ g1 ≠ g2 ∧ RowI w g0 11 f0 ∧ RowI w g1 11 f1 ∧ RowI w g2 11 f2
def row11 (g0 g1 g2 : Nat) : Value := .agg #[.slice (some ⟨g0, 0, none⟩) 11 11, .slice (some ⟨g1, 0, none⟩) 11 11, .slice (some ⟨g2, 0, none⟩) 11 11]

set_option maxHeartbeats 800000 in
set_option maxRecDepth 100000 in
theorem alone_any (k : Nat) (hk : k < 11) (w : World) :
    Calls Try.prog 79 #[.int .i64 (k : Int)] w fun e w' => e = .returned (.slice (some ⟨w.heap.size, 0, none⟩) 11 11) ∧ RowI w' w.heap.size 11 (hotF k) ∧ Below w.heap.size w w' := by
  have hmk : ∀ W : World, (Instr.makeSlice 24 (.int .i64 11) (.int .i64 11)).run Try.prog W = .ok (.slice (some ⟨W.heap.size, 0, none⟩) 11 11) (W.alloc (.cells (ic (fun _ => 0) 11) 3)) := fun W => make_ints 11 11 (Nat.le_refl _) (by omega) W
  have hR := rowI_new w (fun _ => 0) 11
  have hk0 : (0 : Int) ≤ (k : Int) := by omega
  have hk1 : (k : Int) < 11 := by omega
  have c0 := hR.cell hk
  have f0 := hR.free k
  have HR : Hid (RowI (w.alloc (.cells ((ic (fun _ => 0) 11).setIfInBounds k (.int .i64 1)) 3)) w.heap.size 11 (hotF k)) := by
    show RowI _ _ _ _
    rw [ic_set]
    exact rowI_new w _ 11
  generalize ic (fun _ => 0) 11 = M at hmk c0 f0 HR
  clear hR
  go_enter Try.func79, Try.ntmps79
  go_wp2
  go_ret
  exact ⟨rfl, HR.out, (Below.refl _ _).alloc (Nat.le_refl _) _⟩

set_option maxHeartbeats 800000 in
set_option maxRecDepth 100000 in
theorem powers_any (b : Int) (hb : b = 1 ∨ b = 2) (w : World) :
    Calls Try.prog 80 #[.int .i64 b] w fun e w' => e = .returned (.slice (some ⟨w.heap.size, 0, none⟩) 11 11) ∧ RowI w' w.heap.size 11 (powF b 8) ∧ Below w.heap.size w w' := by
  have hmk : ∀ W : World, (Instr.makeSlice 24 (.int .i64 11) (.int .i64 11)).run Try.prog W = .ok (.slice (some ⟨W.heap.size, 0, none⟩) 11 11) (W.alloc (.cells (ic (fun _ => 0) 11) 3)) := fun W => make_ints 11 11 (Nat.le_refl _) (by omega) W
  have HP : Hid (∀ k : Nat, k ≤ 8 → 1 ≤ b ^ k ∧ b ^ k ≤ 256) := fun k hk => by
    have h8 : k = 0 ∨ k = 1 ∨ k = 2 ∨ k = 3 ∨ k = 4 ∨ k = 5 ∨ k = 6 ∨ k = 7 ∨ k = 8 := by omega
    rcases hb with rfl | rfl
    · rw [Int.one_pow]; omega
    · rcases h8 with rfl | rfl | rfl | rfl | rfl | rfl | rfl | rfl | rfl <;> decide
  have H0 : Hid (RowI (w.alloc (.cells (ic (fun _ => 0) 11) 3)) w.heap.size 11 (powF b 0)) := (rowI_new w (fun _ => 0) 11).congr fun j _ => by unfold powF; rw [if_neg (by omega)]
  generalize ic (fun _ => 0) 11 = M at hmk H0
  have hb' : 1 ≤ b ∧ b ≤ 2 := by omega
  clear hb
  go_enter Try.func80, Try.ntmps80
  go_wp2
  go_loopw [4, 5] (fun x i wr => ∃ (k : Nat) (p : Int), x = .int .i64 p ∧ i = .int .i64 (3 + (k : Int)) ∧ k ≤ 8 ∧ Hid (p = b ^ k) ∧ Hid (RowI wr w.heap.size 11 (powF b k)) ∧ Hid (Below w.heap.size w wr)) (fun _ i _ => 11 - (intOf i).toNat)
  case atStart => exact ⟨0, 1, rfl, rfl, Nat.zero_le _, (show (1 : Int) = b ^ 0 from (Int.pow_zero b).symm), H0, (Below.refl _ _).alloc (Nat.le_refl _) _⟩
  case round =>
    obtain ⟨k, p, rfl, rfl, hk, HPE, HR, HW⟩ := hrel
    clear hmk H0
    by_cases hlt : k < 8
    · have hlt' : 3 + (k : Int) < 11 := by omega
      have hk0 : (0 : Int) ≤ 3 + (k : Int) := by omega
      have hkn : (3 + (k : Int)).toNat = 3 + k := by omega
      have hp : 1 ≤ p ∧ p ≤ 256 := by rw [HPE.out]; exact HP.out k (by omega)
      have HPN : Hid (p * b = b ^ (k + 1)) := by show p * b = _; rw [HPE.out, Int.pow_succ]
      obtain ⟨hq1, hq2⟩ : 1 ≤ p * b ∧ p * b ≤ 256 := by rw [HPN.out]; exact HP.out (k + 1) (by omega)
      have c0 := HR.out.cell (show 3 + k < 11 by omega)
      have f0 := HR.out.free (3 + k)
      have HR2 : Hid (RowI (wr.setCell ⟨w.heap.size, 3 + k, none⟩ (.int .i64 p)) w.heap.size 11 (powF b (k + 1))) := by
        have := HR.out.set (3 + k) p
        rw [HPE.out, powF_next] at this
        rw [HPE.out]
        exact this
      have HW2 : Hid (Below w.heap.size w (wr.setCell ⟨w.heap.size, 3 + k, none⟩ (.int .i64 p))) := HW.out.setCell (Nat.le_refl _) _
      generalize powF b k (3 + k) = y at c0
      clear HR HW HPE
      go_wp2
      go_roundw
      case rel => exact ⟨k + 1, p * b, by go_num, by go_num, hlt, HPN, HR2, HW2⟩
      case measure => simp [intOf]; omega
    · have hlt' : ¬ 3 + (k : Int) < 11 := by omega
      obtain rfl : k = 8 := by omega
      go_wp2
      go_ret
      exact ⟨rfl, HR.out, HW.out⟩

theorem fresh3 (w : World) (o : Obj) (f : Nat → Int) : RowI ((((w.alloc o).alloc (.cells (ic f 11) 3)).alloc (.cells (ic f 11) 3)).alloc (.cells (ic f 11) 3)) (w.heap.size + 1) 11 f ∧ RowI ((((w.alloc o).alloc (.cells (ic f 11) 3)).alloc (.cells (ic f 11) 3)).alloc (.cells (ic f 11) 3)) (w.heap.size + 1 + 1) 11 f ∧ RowI ((((w.alloc o).alloc (.cells (ic f 11) 3)).alloc (.cells (ic f 11) 3)).alloc (.cells (ic f 11) 3)) (w.heap.size + 1 + 1 + 1) 11 f ∧ Below w.heap.size w ((((w.alloc o).alloc (.cells (ic f 11) 3)).alloc (.cells (ic f 11) 3)).alloc (.cells (ic f 11) 3)) :=
  ⟨((Blk.newAt (by simp)).alloc _).alloc _, (Blk.newAt (by simp)).alloc _, Blk.newAt (by simp), ((((Below.refl _ _).alloc (Nat.le_refl _) _).alloc (by simp) _).alloc (by simp; omega) _).alloc (by simp; omega) _⟩

set_option maxHeartbeats 1600000 in
set_option maxRecDepth 100000 in
theorem l13Row_any (w : World) :
    Calls Try.prog 83 #[.int .i64 11] w fun e w' => ∃ g0 g1 g2, e = .returned (row11 g0 g1 g2) ∧ Three w w' g0 g1 g2 (fun _ => 0) (fun _ => 0) (fun _ => 0) ∧ Below w.heap.size w w' := by
  have hmk : ∀ W : World, (Instr.makeSlice 24 (.int .i64 11) (.int .i64 11)).run Try.prog W = .ok (.slice (some ⟨W.heap.size, 0, none⟩) 11 11) (W.alloc (.cells (ic (fun _ => 0) 11) 3)) := fun W => make_ints 11 11 (Nat.le_refl _) (by omega) W
  go_enter Try.func83, Try.ntmps83
  go_wp2
  go_region
  all_goals go_wp2
  all_goals refine bodyPost_ret_by (result_blk rfl rfl ((((Blk.new _ _ _).alloc _).alloc _).alloc _) Try.underlying56 infoRw) rfl ⟨_, _, _, rfl, ⟨by omega, by omega, by omega, by omega, by omega, by omega, ?_, ?_, ?_⟩, ?_⟩
  all_goals first | exact (fresh3 w _ (fun _ => 0)).1 | exact (fresh3 w _ (fun _ => 0)).2.1 | exact (fresh3 w _ (fun _ => 0)).2.2.1 | exact (fresh3 w _ (fun _ => 0)).2.2.2 | exact (fresh3 w _ (fun _ => 0)).2.2.2.drew

end Go.Proofs.Ytfiflcedbejamaa
