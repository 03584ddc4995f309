/-
  The draws: a long text of one byte.
  (-DROP-: what the seat lacks is left out.)
-/
import Derived.Test.YtmpjnabadplbjaaDraw
namespace Go.Proofs.Ytmpjnabadplbjaa
open Go.RowKit

set_option maxHeartbeats 800000 in
set_option maxRecDepth 100000 in
theorem long_any (n : Nat) (x : Int) (x0 : 0 ≤ x) (x1 : x ≤ 255) (hn : n ≤ 1000000) (w : World) :
    Calls Try.prog 56 #[.int .i64 (n : Int), .int .u8 x] w fun e w' => ∃ t : List UInt8, e = .returned (.string ⟨t.toArray⟩) ∧ t.length = n ∧ Below w.heap.size w w' := by
  obtain ⟨i0, hi, hz0, hz1, hz2⟩ := info_parts info5
  obtain ⟨M, hM⟩ : ∃ M, M = madeCells (Value.int .u8 0).cells ((n : Int).toNat * i0.size) := ⟨_, rfl⟩
  have hMs : M.size = n * 1 := by rw [hM, size_madeCells, hz1]; simp
  have hMl : M.toList = bytesV (List.replicate n 0) := by
    rw [hM, hz1]
    have := toList_madeCells_one (.int .u8 0) n
    simpa [bytesV, Value.cells] using this
  have hmk : ∀ W : World, (Instr.makeSlice 22 (.int .i64 (n : Int)) (.int .i64 (n : Int))).run Try.prog W = .ok (.slice (some ⟨W.heap.size, 0, none⟩) n n) (W.alloc (.cells M 5)) := fun W => by
    have h := run_make (P := Try.prog) W 22 5 i0 (.int .u8 0) Try.underlying22 hi hz0 .i64 .i64 (n : Int) (n : Int) (by omega) (by omega) (by rw [hz2]; omega) (by omega)
    rw [← hM] at h
    simpa using h
  clear hM
  obtain ⟨y, rfl⟩ : ∃ y : Nat, x = y := ⟨x.toNat, by omega⟩
  go_enter Try.func56, Try.ntmps56
  go_wp2
  go_loopw [6] (fun i wr => ∃ (k : Nat) (t : List UInt8), i = .int .i64 (k : Int) ∧ k ≤ n ∧ Hid (t.length = n) ∧ wr.ownsRow w.heap.size 5 1 (.slice (some ⟨w.heap.size, 0, none⟩) n n) n (bytesV t) ∧ Below w.heap.size w wr) (fun i _ => n - (intOf i).toNat)
  case atStart =>
    refine ⟨0, List.replicate n 0, rfl, Nat.zero_le _, (show (List.replicate n (0 : UInt8)).length = n by simp), ?_, (Below.refl _ _).alloc (Nat.le_refl _) _⟩
    have := World.ownsRow_lit (base := w.heap.size) (e := 5) (size := 1) w M n (Nat.le_refl _) (by unfold maxLen; omega) hMs
    rw [hMl] at this
    exact this
  case round =>
    obtain ⟨k, t, rfl, hk, htl, hown, hbel⟩ := hrel
    clear hmk
    by_cases hlt : k < n
    · have hk0 : (0 : Int) ≤ (k : Int) := by omega
      have hlt' : (k : Int) < (n : Int) := by omega
      obtain ⟨old, hc⟩ : ∃ old, wr.cell? ⟨w.heap.size, k, none⟩ = some (.int .u8 old) := by
        have hkt : k < t.length := by rw [htl.out]; exact hlt
        exact ⟨(t[k].toNat : Int), (hown.cellAt k (by omega)).trans (by simp [bytesV, hkt])⟩
      have hf := hown.frozenAt k
      have hst := (hown.stored k (.int .u8 (y : Int))).1
      have hset : (bytesV t).set k (.int .u8 (y : Int)) = bytesV (t.set k (UInt8.ofNat y)) := by
        rw [bytesV, bytesV, List.map_set, toNat_of (by omega)]
      rw [hset] at hst
      have HST : Hid ((wr.setCell ⟨w.heap.size, k, none⟩ (.int .u8 (y : Int))).ownsRow w.heap.size 5 1 (.slice (some ⟨w.heap.size, 0, none⟩) n n) n (bytesV (t.set k (UInt8.ofNat y)))) := hst
      have HBS : Hid (Below w.heap.size w (wr.setCell ⟨w.heap.size, k, none⟩ (.int .u8 (y : Int)))) := hbel.setCell (Nat.le_refl _) _
      clear hst hset hown
      go_wp2
      go_roundw
      case rel => exact ⟨k + 1, _, by go_num, hlt, (show (t.set k (UInt8.ofNat y)).length = n by rw [List.length_set]; exact htl.out), HST.out, HBS.out⟩
      case measure => simp [intOf]; omega
    · have hlt' : ¬ (k : Int) < (n : Int) := by omega
      have hcv := text_of_row (l := t) (by rw [htl.out]; exact hown)
      go_wp2
      go_ret
      exact ⟨t, rfl, htl.out, hbel⟩

end Go.Proofs.Ytmpjnabadplbjaa
