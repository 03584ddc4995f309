/-
  Texts of one's own, joined.
-/
import Derived.Test.YtlaoikpbgbckjaaDoorMix
import Derived.Laws.BitsAllLaws

/-
  The walk of a state as a text.
-/
namespace Go.Proofs.YtlaoikpbgbckjaaDoor
open Go.RowKit

/-- n words of a state as a text. -/
def textT (f : Nat → BitVec 64) (n : Nat) : ByteArray := ⟨(textL f n).toArray⟩

set_option maxHeartbeats 400000 in
set_option maxRecDepth 100000 in
theorem text_any (f : Nat → BitVec 64) (n : Nat) (hn : n ≤ 25) (w : World) :
    Calls Tryd.prog 73 #[.agg (sc f 25), .int .i64 ((8 * n : Nat) : Int)] w fun e w' => e = .returned (.string (textT f n)) ∧ Below w.heap.size w w' := by
  obtain ⟨m, hm⟩ : ∃ m, m = 8 * n := ⟨_, rfl⟩
  rw [← hm]
  have hq1 : (m : Int) / 8 = (n : Int) := by omega
  have hq2 : Int.tdiv (m : Int) 8 = (n : Int) := by rw [Int.tdiv_eq_ediv_of_nonneg (by omega)]; exact hq1
  have hmk : ∀ W : World, (Instr.makeSlice 22 (.int .i64 0) (.int .i64 (m : Int))).run Tryd.prog W = .ok (.slice (some ⟨W.heap.size, 0, none⟩) 0 m) (W.alloc (.cells (bCells (List.replicate m 0)) 5)) := fun W => make_bytes 0 m (by omega) (by omega) W
  have hn25 : (n : Int) ≤ 25 := by omega
  have hmb : m ≤ 200 := by omega
  obtain ⟨b1, HB1⟩ : ∃ b, Hid (b = w.heap.size) := ⟨_, rfl⟩
  obtain ⟨b2, HB2⟩ : ∃ b, Hid (b = w.heap.size + 1) := ⟨_, rfl⟩
  clear hm
  go_enter Tryd.func73, Tryd.ntmps73
  go_wp2
  rw [← HB2.out, ← HB1.out]
  go_loopw [5, 14] (fun v i wr => ∃ k : Nat, i = .int .i64 (k : Int) ∧ k ≤ n ∧ RowB b2 wr v (textL f k) ∧ b2 ≤ wr.heap.size ∧ At wr b1 97 25 f ∧ Below b1 w wr) (fun _ i _ => n - (intOf i).toNat)
  case atStart =>
    obtain rfl := HB1.out
    obtain rfl := HB2.out
    refine ⟨0, rfl, by omega, ?_, ?_, (At.new w _ 25 f).alloc _, ?_⟩
    · refine ⟨rfl, .inr ⟨w.heap.size + 1, m, bCells (List.replicate m 0), rfl, Nat.le_refl _, ?_, Nat.zero_le _, ?_, ?_, ?_⟩⟩
      · have := heap_alloc_last (w.alloc (.cells (sc f 25) 97)) (.cells (bCells (List.replicate m 0)) 5)
        rwa [size_alloc] at this
      · unfold maxLen; omega
      · rw [bCells_size]; simp
      · simp [textL, bytesV]
    · simp only [size_alloc]; omega
    · refine Below.alloc (Below.alloc (Below.refl _ _) (Nat.le_refl _) _) ?_ _ <;> (simp only [size_alloc]; omega)
  case round =>
    clear hmk
    obtain ⟨k, rfl, hk, hrow, hsz, hA1, hbel⟩ := hrel
    have HL : Hid (b1 < b2) := (show b1 < b2 by have := HB1.out; have := HB2.out; omega)
    by_cases hlt : k < n
    · have hlt' : (k : Int) < (n : Int) := by omega
      have hk0 : (0 : Int) ≤ (k : Int) := by omega
      have hc := hA1.cell k (by omega)
      have HW : Hid (Calls Tryd.prog 79 #[u5, .int .u64 (wv (f k))] wr fun e w' => ∃ v', e = .returned v' ∧ RowB b2 w' v' (textL f (k + 1)) ∧ Below b2 wr w') := with_any u5 (textL f k) (f k) (by rw [textL_length]; omega) b2 wr hsz hrow
      go_wp2_with fail
      refine HW.out.mono ?_
      rintro e w1 ⟨v', rfl, hrow', hb'⟩
      have hA1' := hA1.on hb' HL.out
      have hbel' : Below b1 w w1 := hbel.trans (hb'.mono (Nat.le_of_lt HL.out))
      have hsz' : b2 ≤ w1.heap.size := Nat.le_trans hsz hb'.size
      clear hrow hA1 hbel hsz hb' HW hc
      go_wp2
      go_roundw
      case rel => exact ⟨k + 1, by go_num, hlt, hrow', hsz', hA1', hbel'⟩
      case measure => simp [intOf]; omega
    · have hlt' : ¬ (k : Int) < (n : Int) := by omega
      have HK : Hid (k = n) := (show k = n by omega)
      clear hlt
      have hcv := text_of_row hrow
      go_wp2
      go_ret
      exact ⟨by rw [← HK.out]; rfl, by rw [← HB1.out]; exact hbel⟩

end Go.Proofs.YtlaoikpbgbckjaaDoor

/-
  The padding of chapter 3 as plain mathematics.
-/
namespace Go.Proofs.YtlaoikpbgbckjaaDoor

/-- The bytes behind the text, ahead of the last bit. -/
def padTail (n : Nat) : List UInt8 := 1 :: List.replicate (135 - n % 136) 0
def padBody (l : List UInt8) : List UInt8 := l ++ padTail l.length
/-- A padded text. -/
def padL (l : List UInt8) : List UInt8 := (padBody l).set ((padBody l).length - 1) ((padBody l).getD ((padBody l).length - 1) 0 ||| 128)

theorem padBody_length (l : List UInt8) : (padBody l).length = 136 * (l.length / 136 + 1) := by
  simp [padBody, padTail]; omega
theorem padL_length (l : List UInt8) : (padL l).length = 136 * (l.length / 136 + 1) := by
  unfold padL; rw [List.length_set, padBody_length]
/-- k bytes of the tail. -/
def padK (l : List UInt8) (k : Nat) : List UInt8 := l ++ 1 :: List.replicate k 0
theorem padK_length (l : List UInt8) (k : Nat) : (padK l k).length = l.length + 1 + k := by simp [padK]; omega
theorem padK_succ (l : List UInt8) (k : Nat) : padK l (k + 1) = padK l k ++ [0] := by
  simp [padK, List.replicate_succ']
theorem padK_all (l : List UInt8) : padK l (135 - l.length % 136) = padBody l := rfl
theorem padK_end {l : List UInt8} {k : Nat} (hk : k ≤ 135 - l.length % 136) (h : (padK l k).length % 136 = 0) : k = 135 - l.length % 136 := by
  rw [padK_length] at h; omega
theorem padK_on {l : List UInt8} {k : Nat} (hk : k ≤ 135 - l.length % 136) (h : (padK l k).length % 136 ≠ 0) : k + 1 ≤ 135 - l.length % 136 := by
  rw [padK_length] at h; omega
theorem u8_or_128 (b : UInt8) : bits .or .u8 (b.toNat : Int) 128 = ((b ||| 128).toNat : Int) := by
  rw [show (128 : Int) = ((128 : Nat) : Int) from rfl, u8_or_nat _ _ b.toNat_lt (by decide)]
  rw [UInt8.toNat_or]; rfl
theorem pad_made (l : List UInt8) : (l ++ List.replicate (136 * (l.length / 136 + 1) - l.length) (0 : UInt8)).set l.length 1 = padBody l := by
  rw [List.set_append_right _ _ (Nat.le_refl _), Nat.sub_self]
  unfold padBody padTail
  congr 1
  rw [show 136 * (l.length / 136 + 1) - l.length = (135 - l.length % 136) + 1 by omega, List.replicate_succ]
  rfl

end Go.Proofs.YtlaoikpbgbckjaaDoor
