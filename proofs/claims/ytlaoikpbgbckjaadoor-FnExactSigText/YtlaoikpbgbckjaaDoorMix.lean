/-
  The walks of words put to a state, and of a state as a text.
-/
import Derived.Test.YtlaoikpbgbckjaaDoorJoined4
import Derived.Test.YtlaoikpbgbckjaaDoorJoined5
import Derived.Test.YtlaoikpbgbckjaaDoorWord
import Derived.StillTailTactics
namespace Go.Proofs.YtlaoikpbgbckjaaDoor
open Go.RowKit

theorem mixesW : Tryd.prog.follows .mixedOrders = true := by kernel_rfl

/-- A text from place n on. -/
def sufT (s : ByteArray) (n : Nat) : ByteArray := s.extract n s.size
theorem cut_suf (s : ByteArray) (n : Nat) (h : n ≤ s.size) (wx : World) :
    (Instr.slice 9 (.string s) (some (.int .i64 (n : Int))) none none).run Tryd.prog wx = .ok (.string (sufT s n)) wx := by
  have := run_slice_string_l (P := Tryd.prog) (w := wx) (t := 9) (s := s) Tryd.underlying9 .i64 (n : Int) (by omega) (by omega)
  simpa [sufT] using this
theorem sufT_size (s : ByteArray) (n : Nat) : (sufT s n).size = s.size - n := by
  simp [sufT]
theorem sufT_list (s : ByteArray) (n : Nat) : (sufT s n).data.toList = s.data.toList.drop n := by
  unfold sufT
  rw [ByteArray.data_extract, Array.toList_extract, List.extract_eq_take_drop, List.take_of_length_le]
  simp

set_option maxHeartbeats 400000 in
set_option maxRecDepth 100000 in
theorem mixed_any (f : Nat → BitVec 64) (s : ByteArray) (n : Nat) (hn : n ≤ 25) (hs : s.size = 8 * n) (w : World) :
    Calls Tryd.prog 71 #[.agg (sc f 25), .string s] w fun e w' => e = .returned (.agg (sc (mixK f s.data.toList n) 25)) ∧ Below w.heap.size w w' := by
  obtain ⟨b1, HB1⟩ : ∃ b, Hid (b = w.heap.size) := ⟨_, rfl⟩
  obtain ⟨b2, HB2⟩ : ∃ b, Hid (b = w.heap.size + 1) := ⟨_, rfl⟩
  have hq1 : (s.size : Int) / 8 = (n : Int) := by omega
  have hq2 : Int.tdiv (s.size : Int) 8 = (n : Int) := by rw [Int.tdiv_eq_ediv_of_nonneg (by omega)]; exact hq1
  have HS : Hid (s.size = 8 * n) := hs
  clear hs
  go_enter Tryd.func71, Tryd.ntmps71
  go_wp2
  rw [← HB2.out, ← HB1.out]
  go_loopw [9] (fun i wr => ∃ k : Nat, i = .int .i64 (k : Int) ∧ k ≤ n ∧ At wr b1 97 25 (mixK f s.data.toList k) ∧ At wr b2 97 25 zf ∧ Below b1 w wr) (fun i _ => 25 - (intOf i).toNat)
  case atStart =>
    obtain rfl := HB1.out
    obtain rfl := HB2.out
    refine ⟨0, rfl, by omega, (At.new w _ 25 f).alloc _, ?_, ?_⟩
    · refine At.new' ?_ ?_
      · rw [size_alloc]
      · rfl
    · refine Below.alloc (Below.alloc (Below.refl _ _) (Nat.le_refl _) _) ?_ _ <;> (simp only [size_alloc]; omega)
  case round =>
    obtain ⟨k, rfl, hk, hA1, hA2, hbel⟩ := hrel
    by_cases hlt : k < n
    · have hlt' : (k : Int) < (n : Int) := by omega
      have hlt25 : (k : Int) < 25 := by omega
      have hk0 : (0 : Int) ≤ (k : Int) := by omega
      have HNE : Hid (b1 ≠ b2) := (show b1 ≠ b2 by have := HB1.out; have := HB2.out; omega)
      obtain ⟨m, hm⟩ : ∃ m, m = 8 * k := ⟨_, rfl⟩
      have hm1 : (k : Int) * 8 = (m : Int) := by omega
      have hms : m + 8 ≤ s.size := by have := HS.out; omega
      have hwm : IntKind.i64.wrap (m : Int) = (m : Int) := by rw [IntKind.wrap_i64]; omega
      have hwk : IntKind.i64.wrap ((k : Int) * 8) = (m : Int) := by rw [hm1]; exact hwm
      have hm0 : (0 : Int) ≤ (m : Int) := by omega
      have HF : Hid (∀ w, Calls Tryd.prog 77 #[.string (s.extract m s.size)] w fun e w' => e = .returned (.int .u64 (wv (wordAt s.data.toList m))) ∧ w' = w) := fun w => by
        have := first_any (sufT s m) (by rw [sufT_size]; omega) (by rw [sufT_size]; have := HS.out; omega) w
        rw [sufT_list, wordAt_drop] at this
        exact this.mono fun e w' h => ⟨h.1, h.2.symm⟩
      have hc := hA1.cell k (by omega)
      have hf := hA1.free k
      have hxor := wv_xor
      have HW : Hid (At (wr.setCell ⟨b1, k, none⟩ (.int .u64 (wv (mixK f s.data.toList k k ^^^ wordAt s.data.toList m)))).drew b1 97 25 (mixK f s.data.toList (k + 1)) ∧ At (wr.setCell ⟨b1, k, none⟩ (.int .u64 (wv (mixK f s.data.toList k k ^^^ wordAt s.data.toList m)))).drew b2 97 25 zf ∧ Below b1 w (wr.setCell ⟨b1, k, none⟩ (.int .u64 (wv (mixK f s.data.toList k k ^^^ wordAt s.data.toList m)))).drew) := by
        refine ⟨?_, hA2.other HNE.out _, (hbel.setCell (Nat.le_refl _) _).drew⟩
        rw [mixK, ← hm]
        exact hA1.set k _
      generalize wordAt s.data.toList m = x at HF HW
      generalize mixK f s.data.toList k k = y at hc HW
      have hms' : (m : Int) ≤ (s.size : Int) := by omega
      have hmb : (m : Int) ≤ 200 := by omega
      clear hA1 hA2 hbel hms hm
      go_wp2
      refine wp_region_still_tail 9 mixesW (by kernel_rfl) ?_
      simp only [List.take_succ_cons, List.take_zero, List.drop_succ_cons, List.drop_zero]
      repeat still_step
      still_call (HF.out _)
      repeat still_step
      refine wpStill_nil ?_
      go_wp2
      go_roundw
      case rel => exact ⟨k + 1, by go_num, hlt, HW.out.1, HW.out.2.1, HW.out.2.2⟩
      case measure => simp [intOf]; omega
    · have hlt' : ¬ (k : Int) < (n : Int) := by omega
      have HK : Hid (k = n) := (show k = n by omega)
      clear hlt
      have HLE : Hid (b1 ≤ b2) := (show b1 ≤ b2 by have := HB1.out; have := HB2.out; omega)
      go_wp2_with (first | (refine load_at rfl rfl rfl hA1 Tryd.underlying97 infoS ?_) | (refine store_at rfl rfl rfl rfl hA2 infoS ?_))
      (try simp only [Exit.inBlock, Exit.then])
      refine bodyPost_ret_by (result_at rfl rfl (hA2.row _) Tryd.underlying97 infoS) rfl ⟨by rw [HK.out], ?_⟩
      rw [← HB1.out]
      exact below_row hbel HLE.out _

end Go.Proofs.YtlaoikpbgbckjaaDoor
