/-
  The walk of a state as a text.
-/
import Derived.Test.YtkiljlmihoaaaaaDoorMix
namespace Go.Proofs.YtkiljlmihoaaaaaDoor
open Go.RowKit

/-- n words of a state as a text. -/
def textT (f : Nat → BitVec 64) (n : Nat) : ByteArray := ⟨(textL f n).toArray⟩

set_option maxHeartbeats 400000 in
set_option maxRecDepth 100000 in
theorem text_any (f : Nat → BitVec 64) (n : Nat) (hn : n ≤ 25) (w : World) :
    Calls Tryd.prog 53 #[.agg (sc f 25), .int .i64 ((8 * n : Nat) : Int)] w fun e w' => e = .returned (.string (textT f n)) ∧ Below w.heap.size w w' := by
  obtain ⟨m, hm⟩ : ∃ m, m = 8 * n := ⟨_, rfl⟩
  rw [← hm]
  have hq1 : (m : Int) / 8 = (n : Int) := by omega
  have hq2 : Int.tdiv (m : Int) 8 = (n : Int) := by rw [Int.tdiv_eq_ediv_of_nonneg (by omega)]; exact hq1
  have hmk : ∀ W : World, (Instr.makeSlice 22 (.int .i64 0) (.int .i64 (m : Int))).run Tryd.prog W = .ok (.slice (some ⟨W.heap.size, 0, none⟩) 0 m) (W.alloc (.cells (bCells (List.replicate m 0)) 5)) := fun W => make_bytes 0 m (by omega) (by omega) W
  have hn25 : (n : Int) ≤ 25 := by omega
  have hmb : m ≤ 200 := by omega
  obtain ⟨b1, HB1⟩ : ∃ b, Hid (b = w.heap.size) := ⟨_, rfl⟩
  obtain ⟨b2, HB2⟩ : ∃ b, Hid (b = w.heap.size + 1) := ⟨_, rfl⟩
  clear hm
  go_enter Tryd.func53, Tryd.ntmps53
  go_wp2
  rw [← HB2.out, ← HB1.out]
  go_loopw [5, 14] (fun v i wr => ∃ k : Nat, i = .int .i64 (k : Int) ∧ k ≤ n ∧ RowB b2 wr v (textL f k) ∧ b2 ≤ wr.heap.size ∧ At wr b1 64 25 f ∧ Below b1 w wr) (fun _ i _ => n - (intOf i).toNat)
  case atStart =>
    obtain rfl := HB1.out
    obtain rfl := HB2.out
    refine ⟨0, rfl, by omega, ?_, ?_, (At.new w _ 25 f).alloc _, ?_⟩
    · refine ⟨rfl, .inr ⟨w.heap.size + 1, m, bCells (List.replicate m 0), rfl, Nat.le_refl _, ?_, Nat.zero_le _, ?_, ?_, ?_⟩⟩
      · have := heap_alloc_last (w.alloc (.cells (sc f 25) 64)) (.cells (bCells (List.replicate m 0)) 5)
        rwa [size_alloc] at this
      · unfold maxLen; omega
      · rw [bCells_size]; simp
      · simp [textL, bytesV]
    · simp only [size_alloc]; omega
    · refine Below.alloc (Below.alloc (Below.refl _ _) (Nat.le_refl _) _) ?_ _ <;> (simp only [size_alloc]; omega)
  case round =>
    clear hmk
    obtain ⟨k, rfl, hk, hrow, hsz, hA1, hbel⟩ := hrel
    have HL : Hid (b1 < b2) := (show b1 < b2 by have := HB1.out; have := HB2.out; omega)
    by_cases hlt : k < n
    · have hlt' : (k : Int) < (n : Int) := by omega
      have hk0 : (0 : Int) ≤ (k : Int) := by omega
      have hc := hA1.cell k (by omega)
      have HW : Hid (Calls Tryd.prog 61 #[u5, .int .u64 (wv (f k))] wr fun e w' => ∃ v', e = .returned v' ∧ RowB b2 w' v' (textL f (k + 1)) ∧ Below b2 wr w') := with_any u5 (textL f k) (f k) (by rw [textL_length]; omega) b2 wr hsz hrow
      go_wp2_with fail
      refine HW.out.mono ?_
      rintro e w1 ⟨v', rfl, hrow', hb'⟩
      have hA1' := hA1.on hb' HL.out
      have hbel' : Below b1 w w1 := hbel.trans (hb'.mono (Nat.le_of_lt HL.out))
      have hsz' : b2 ≤ w1.heap.size := Nat.le_trans hsz hb'.size
      clear hrow hA1 hbel hsz hb' HW hc
      go_wp2
      go_roundw
      case rel => exact ⟨k + 1, by go_num, hlt, hrow', hsz', hA1', hbel'⟩
      case measure => simp [intOf]; omega
    · have hlt' : ¬ (k : Int) < (n : Int) := by omega
      have HK : Hid (k = n) := (show k = n by omega)
      clear hlt
      have hcv := text_of_row hrow
      go_wp2
      go_ret
      exact ⟨by rw [← HK.out]; rfl, by rw [← HB1.out]; exact hbel⟩

end Go.Proofs.YtkiljlmihoaaaaaDoor
