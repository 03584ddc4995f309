/-
  The walk of the specification's SumMore.
-/
import Derived.Test.YtpehnhmbkhlmaaaDoorSum
namespace Go.Proofs.YtpehnhmbkhlmaaaDoor
open Go.RowKit

theorem bit1_odd {y : Nat} (hy : y < 4294967296) (h : y % 2 = 1) : bits .xor .u32 ((y : Int) / 2) 3558460437 = ((bit1 y : Nat) : Int) := by
  unfold bit1
  rw [if_pos h, show (y : Int) / 2 = ((y / 2 : Nat) : Int) by omega]
  exact xor_u32 (b := 3558460437) (by omega) (by omega)
theorem bit1_even {y : Nat} (h : ¬ y % 2 = 1) : ((bit1 y : Nat) : Int) = (y : Int) / 2 := by
  unfold bit1
  rw [if_neg h]
  omega

set_option maxHeartbeats 1600000 in
set_option maxRecDepth 100000 in
theorem sMore_any (x : Nat) (hx : x < 4294967296) (s : ByteArray) (hs : s.size ≤ 1048580) (w : World) :
    Calls Tryd.prog 15 #[.int .u32 (x : Int), .string s] w fun e w' => e = .returned (.int .u32 ((sumL x s.data.toList : Nat) : Int)) ∧ w = w' := by
  have HX : Hid (x < 4294967296) := hx
  clear hx
  go_enter Tryd.func15, Tryd.ntmps15
  go_wp2
  go_loopw [0, 5] (fun v i wr => ∃ k : Nat, i = .int .i64 (k : Int) ∧ k ≤ s.size ∧ v = .int .u32 (upto x s k : Int) ∧ w = wr) (fun _ i _ => s.size - (intOf i).toNat)
  case atStart => exact ⟨0, rfl, Nat.zero_le _, rfl, rfl⟩
  case round =>
    obtain ⟨k, rfl, hk, rfl, rfl⟩ := hrel
    by_cases hlt : k < s.size
    · have hlt' : (k : Int) < (s.size : Int) := by omega
      have hk0 : (0 : Int) ≤ (k : Int) := by omega
      have hul : upto x s k < 4294967296 := upto_lt s k HX.out
      have hby : s[k].toNat < 256 := s[k].toNat_lt
      have hxor := xor_u32 hul (show s[k].toNat < 4294967296 by omega)
      have HLT2 : Hid (upto x s k ^^^ s[k].toNat < 4294967296) := xor_byte_lt s[k] hul
      have HUS : Hid (upto x s (k + 1) = bitN 8 (upto x s k ^^^ s[k].toNat)) := upto_succ8 x s k hlt
      clear hul
      go_wp2
      go_loopw [0, 6] (fun v i wr => ∃ j : Nat, i = .int .i64 (j : Int) ∧ j ≤ 8 ∧ v = .int .u32 (bitN j (upto x s k ^^^ s[k].toNat) : Int) ∧ w = wr) (fun _ i _ => 8 - (intOf i).toNat)
      case atStart => exact ⟨0, rfl, by omega, rfl, rfl⟩
      case round =>
        obtain ⟨j, rfl, hj, rfl, rfl⟩ := hrel
        by_cases hj8 : j < 8
        · have hj' : (j : Int) < 8 := by omega
          have hbn : bitN j (upto x s k ^^^ s[k].toNat) < 4294967296 := bitN_lt j HLT2.out
          have HS : Hid (bitN (j + 1) (upto x s k ^^^ s[k].toNat) = bit1 (bitN j (upto x s k ^^^ s[k].toNat))) := bitN_succ j _
          generalize bitN j (upto x s k ^^^ s[k].toNat) = y at hbn HS
          by_cases ho : y % 2 = 1
          · have ho' : ((y : Int) % 2 == 1) = true := by rw [beq_iff_eq]; omega
            have hxo := bit1_odd hbn ho
            go_wp2
            go_roundw
            case rel => exact ⟨j + 1, by go_num, hj8, by rw [HS.out], by trivial⟩
            case measure => simp [intOf]; omega
          · have ho' : ((y : Int) % 2 == 1) = false := by rw [beq_eq_false_iff_ne]; omega
            have HXO : Hid (((bit1 y : Nat) : Int) = (y : Int) / 2) := bit1_even ho
            go_wp2
            go_roundw
            case rel => exact ⟨j + 1, by go_num, hj8, by rw [HS.out, HXO.out], by trivial⟩
            case measure => simp [intOf]; omega
        · have hj' : ¬ (j : Int) < 8 := by omega
          have HJ : Hid (j = 8) := (show j = 8 by omega)
          clear hj8
          go_wp2
          go_roundw
          case rel => exact ⟨k + 1, by go_num, hlt, by rw [HUS.out, HJ.out], by trivial⟩
          case measure => simp [intOf]; omega
    · have hlt' : ¬ (k : Int) < (s.size : Int) := by omega
      have HK : Hid (k = s.size) := (show k = s.size by omega)
      clear hlt
      go_wp2
      go_ret
      exact ⟨by rw [HK.out, upto_all]; rfl, rfl⟩

end Go.Proofs.YtpehnhmbkhlmaaaDoor
