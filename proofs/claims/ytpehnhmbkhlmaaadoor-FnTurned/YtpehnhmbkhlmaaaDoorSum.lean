/-
  The walks of the functions of the sum.
-/
import Derived.Test.YtpehnhmbkhlmaaaDoorProg
import Derived.Test.YtpehnhmbkhlmaaaDoorSumPure
import Derived.WalkLawsBesides
import Derived.WalkSpells
import Derived.Lib.LaidTab
namespace Go.Proofs.YtpehnhmbkhlmaaaDoor
open Go.RowKit

/-- The table of half bytes lies in block 0. -/
def Tab (w : World) : Prop := 0 < w.heap.size ∧ ∀ i, i < 16 → w.cell? ⟨0, i, none⟩ = some (.int .u32 (half i : Int))

theorem Tab.on {w w1 : World} {c : Nat} (h : Tab w) (hb : Below c w w1) (hc : 0 < c) : Tab w1 :=
  ⟨Nat.lt_of_lt_of_le h.1 hb.size, fun i hi => (hb.cell (p := ⟨0, i, none⟩) hc).trans (h.2 i hi)⟩

theorem xor_u32 {a b : Nat} (ha : a < 4294967296) (hb : b < 4294967296) : bits .xor .u32 (a : Int) (b : Int) = ((a ^^^ b : Nat) : Int) := u32_xor_nat a b ha hb

theorem four_end (x : Nat) (hx : x < 4294967296) : bits .xor .u32 ((x : Int) / 16) (half (x % 16) : Int) = ((bitN 4 x : Nat) : Int) := by
  unfold half
  rw [show (x : Int) / 16 = ((x / 16 : Nat) : Int) by omega, xor_u32 (by omega) (half_lt _ (by omega)), half4]

set_option maxHeartbeats 800000 in
set_option maxRecDepth 100000 in
theorem four_any (x : Nat) (hx : x < 4294967296) (w : World) (hT : Tab w) :
    Calls Tryd.prog 28 #[.int .u32 (x : Int)] w fun e w' => e = .returned (.int .u32 ((bitN 4 x : Nat) : Int)) ∧ w = w' := by
  have hc := hT.2 (x % 16) (by omega)
  have HE : Hid (bits .xor .u32 ((x : Int) / 16) (half (x % 16) : Int) = ((bitN 4 x : Nat) : Int)) := four_end x hx
  go_enter Tryd.func28, Tryd.ntmps28
  go_wp2
  go_ret
  exact ⟨by rw [← HE.out]; rfl, rfl⟩

set_option maxHeartbeats 800000 in
set_option maxRecDepth 100000 in
theorem more_any (x : Nat) (hx : x < 4294967296) (s : ByteArray) (hs : s.size ≤ 1048580) (w : World) (hT : Tab w) :
    Calls Tryd.prog 25 #[.int .u32 (x : Int), .string s] w fun e w' => e = .returned (.int .u32 ((sumL x s.data.toList : Nat) : Int)) ∧ w = w' := by
  have HT : Hid (Tab w) := hT
  have HX : Hid (x < 4294967296) := hx
  clear hT hx
  go_enter Tryd.func25, Tryd.ntmps25
  go_wp2
  go_loopw [0, 5] (fun v i wr => ∃ k : Nat, i = .int .i64 (k : Int) ∧ k ≤ s.size ∧ v = .int .u32 (upto x s k : Int) ∧ w = wr) (fun _ i _ => s.size - (intOf i).toNat)
  case atStart => exact ⟨0, rfl, Nat.zero_le _, rfl, rfl⟩
  case round =>
    obtain ⟨k, rfl, hk, rfl, rfl⟩ := hrel
    by_cases hlt : k < s.size
    · have hlt' : (k : Int) < (s.size : Int) := by omega
      have hk0 : (0 : Int) ≤ (k : Int) := by omega
      have hul : upto x s k < 4294967296 := upto_lt s k HX.out
      have hby : s[k].toNat < 256 := s[k].toNat_lt
      have hxor := xor_u32 hul (show s[k].toNat < 4294967296 by omega)
      have hlt2 : upto x s k ^^^ s[k].toNat < 4294967296 := xor_byte_lt s[k] hul
      have HLT2 : Hid (upto x s k ^^^ s[k].toNat < 4294967296) := hlt2
      have HUS : Hid (upto x s (k + 1) = bitN 4 (bitN 4 (upto x s k ^^^ s[k].toNat))) := upto_succ x s k hlt
      clear hlt2 hul
      go_wp2_with fail
      refine (four_any _ HLT2.out _ HT.out).mono ?_
      rintro e w1 ⟨rfl, rfl⟩
      go_wp2_with fail
      refine (four_any _ (bitN_lt 4 HLT2.out) _ HT.out).mono ?_
      rintro e w1 ⟨rfl, rfl⟩
      go_wp2
      go_roundw
      case rel => exact ⟨k + 1, by go_num, hlt, by rw [HUS.out], by trivial⟩
      case measure => simp [intOf]; omega
    · have hlt' : ¬ (k : Int) < (s.size : Int) := by omega
      have HK : Hid (k = s.size) := (show k = s.size by omega)
      clear hlt
      go_wp2
      go_ret
      exact ⟨by rw [HK.out, upto_all]; rfl, rfl⟩

end Go.Proofs.YtpehnhmbkhlmaaaDoor
