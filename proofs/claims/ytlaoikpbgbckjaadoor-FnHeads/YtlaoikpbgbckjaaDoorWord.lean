/-
  The walks over words of 64 bits.
-/
import Derived.Test.YtlaoikpbgbckjaaDoorJoined5
import Derived.Test.YtlaoikpbgbckjaaDoorJoined3
import Derived.WalkLawsBesides
import Derived.WalkSpells
namespace Go.Proofs.YtlaoikpbgbckjaaDoor
open Go.RowKit

theorem byW_at (s : ByteArray) (k : Nat) (h : k < s.size) : ((s[k]'h).toNat : Int) = wv (byW s.data.toList k) := by
  unfold byW
  rw [wv_ofNat (Nat.lt_trans (UInt8.toNat_lt _) (by decide))]
  congr 2
  have h2 : k < s.data.size := h
  rw [List.getD_eq_getElem?_getD, Array.getElem?_toList, Array.getElem?_eq_getElem h2]
  rfl
theorem wrap_w (x : BitVec 64) : IntKind.u64.wrap (wv x) = wv x := wrap_wv _ x.isLt

set_option maxHeartbeats 800000 in
set_option maxRecDepth 100000 in
theorem first_any (s : ByteArray) (hs : 8 ≤ s.size) (hm : s.size ≤ 4611686018427387904) (w : World) :
    Calls Tryd.prog 77 #[.string s] w fun e w' => e = .returned (.int .u64 (wv (wordAt s.data.toList 0))) ∧ w = w' := by
  go_enter Tryd.func77, Tryd.ntmps77
  go_wp2
  go_loopw [3, 5] (fun v i wr => ∃ k : Nat, i = .int .i64 (k : Int) ∧ k ≤ 8 ∧ v = .int .u64 (wv (wordK s.data.toList 0 k)) ∧ w = wr) (fun _ i _ => 8 - (intOf i).toNat)
  case atStart => exact ⟨0, rfl, Nat.zero_le _, rfl, rfl⟩
  case round =>
    obtain ⟨k, rfl, hk, rfl, rfl⟩ := hrel
    by_cases hlt : k < 8
    · have hlt' : (k : Int) < 8 := by omega
      have hk0 : (0 : Int) ≤ (k : Int) := by omega
      have hks : k < s.size := by omega
      have hks' : (k : Int) < (s.size : Int) := by omega
      have hby := byW_at s k hks
      have h8 : (8 * (k : Int)).toNat = 8 * k := by omega
      have h80 : (0 : Int) ≤ 8 * (k : Int) := by omega
      have hmin : min (8 * k) 64 = 8 * k := by omega
      have hwr := wrap_w
      have hshl := wv_shl
      have hor := wv_or
      have HE : Hid (wordK s.data.toList 0 (k + 1) = wordK s.data.toList 0 k ||| byW s.data.toList k <<< (8 * k)) := by
        show wordK s.data.toList 0 (k + 1) = _
        rw [wordK, Nat.zero_add]
      go_wp2
      go_roundw
      case rel => exact ⟨k + 1, by go_num, hlt, by rw [HE.out], by trivial⟩
      case measure => simp [intOf]; omega
    · have hlt' : ¬ (k : Int) < 8 := by omega
      have HK : Hid (k = 8) := (show k = 8 by omega)
      clear hlt
      go_wp2
      go_ret
      exact ⟨by rw [HK.out]; rfl, rfl⟩

theorem u64_n (n : Nat) (h : n < 64) : IntKind.u64.wrap (n : Int) = (n : Int) := wrap_wv n (by omega)
theorem u64_64 (n : Nat) (h : n < 64) : IntKind.u64.wrap (64 - (n : Int)) = ((64 - n : Nat) : Int) := by
  rw [show (64 : Int) - n = ((64 - n : Nat) : Int) by omega]; exact wrap_wv _ (by omega)
theorem u64_63 (n : Nat) (h : n < 64) : bits .and .u64 (n : Int) 63 = (n : Int) := by
  rw [show (63 : Int) = ((63 : Nat) : Int) by rfl, u64_and_nat n 63 (by omega) (by omega), nat_mask6]
  congr 1; omega

set_option maxRecDepth 100000 in
theorem turn_any (x : BitVec 64) (n : Nat) (hn : n < 64) (w : World) :
    Calls Tryd.prog 84 #[.int .u64 (wv x), .int .i64 (n : Int)] w fun e w' => e = .returned (.int .u64 (wv (rotl x n))) ∧ w = w' := by
  have h1 := u64_n n hn
  have h2 := u64_63 n hn
  have h3 := u64_64 n hn
  have h4 : min n 64 = n := by omega
  have h5 : min (64 - n) 64 = 64 - n := by omega
  have hshl := wv_shl
  have hshr := wv_shr
  have hor := wv_or
  go_enter Tryd.func84, Tryd.ntmps84
  go_wp2
  go_ret
  exact ⟨rfl, rfl⟩

set_option maxRecDepth 100000 in
theorem sTurn_any (x : BitVec 64) (n : Nat) (hn : n < 64) (w : World) :
    Calls Tryd.prog 80 #[.int .u64 (wv x), .int .u64 (n : Int)] w fun e w' => e = .returned (.int .u64 (wv (rotl x n))) ∧ w = w' := by
  have h3 := u64_64 n hn
  have h4 : min n 64 = n := by omega
  have h5 : min (64 - n) 64 = 64 - n := by omega
  have hshl := wv_shl
  have hshr := wv_shr
  have hor := wv_or
  go_enter Tryd.func80, Tryd.ntmps80
  go_wp2
  go_ret
  exact ⟨rfl, rfl⟩

theorem wv_shl8 (x : BitVec 64) : IntKind.u64.wrap (wv x * 256) = wv (x <<< 8) := wv_shl x 8

set_option maxHeartbeats 800000 in
set_option maxRecDepth 100000 in
theorem sWord_any (s : ByteArray) (a : Nat) (hs : a + 8 ≤ s.size) (hm : s.size ≤ 4611686018427387904) (w : World) :
    Calls Tryd.prog 65 #[.string s, .int .i64 (a : Int)] w fun e w' => e = .returned (.int .u64 (wv (wordAt s.data.toList a))) ∧ w = w' := by
  go_enter Tryd.func65, Tryd.ntmps65
  go_wp2
  go_loopw [5, 6] (fun v i wr => ∃ (k : Nat) (z : Int), i = .int .i64 z ∧ Hid (z = 7 - (k : Int)) ∧ k ≤ 8 ∧ v = .int .u64 (wv (backK s.data.toList a k)) ∧ w = wr) (fun _ i _ => (intOf i + 1).toNat)
  case atStart => exact ⟨0, 7, rfl, (show (7 : Int) = 7 - ((0 : Nat) : Int) from rfl), Nat.zero_le _, rfl, rfl⟩
  case round =>
    obtain ⟨k, z, rfl, HZ, hk, rfl, rfl⟩ := hrel
    have hz := HZ.out
    by_cases hlt : k < 8
    · have hlt' : (0 : Int) ≤ z := by omega
      have hz7 : z ≤ 7 := by omega
      obtain ⟨j, hj⟩ : ∃ j : Nat, j = a + (7 - k) := ⟨_, rfl⟩
      have hks : j < s.size := by omega
      have hks' : (j : Int) < (s.size : Int) := by omega
      have hj0 : (0 : Int) ≤ (j : Int) := by omega
      have hix : (a : Int) + z = (j : Int) := by omega
      have hby := byW_at s j hks
      have hwr := wrap_w
      have hshl := wv_shl8
      have hor := wv_or
      have HE : Hid (backK s.data.toList a (k + 1) = backK s.data.toList a k <<< 8 ||| byW s.data.toList j) := by
        show backK s.data.toList a (k + 1) = _
        rw [backK, hj]
      have HN : Hid (z - 1 = 7 - ((k + 1 : Nat) : Int)) := (show z - 1 = 7 - ((k + 1 : Nat) : Int) by omega)
      clear hz hj
      go_wp2
      go_roundw
      case rel => exact ⟨k + 1, z - 1, rfl, HN, hlt, by rw [HE.out], by trivial⟩
      case measure => simp [intOf]; omega
    · have hlt' : ¬ (0 : Int) ≤ z := by omega
      have HK : Hid (k = 8) := (show k = 8 by omega)
      clear hlt hz
      go_wp2
      go_ret
      exact ⟨by rw [HK.out, backK_all]; rfl, rfl⟩

set_option maxHeartbeats 800000 in
set_option maxRecDepth 100000 in
theorem with_any (v : Value) (l : List UInt8) (x : BitVec 64) (hl : l.length ≤ 1048576) (B : Nat) (w : World) (hB : B ≤ w.heap.size) (hv : RowB B w v l) :
    Calls Tryd.prog 79 #[v, .int .u64 (wv x)] w fun e w' => ∃ v', e = .returned v' ∧ RowB B w' v' (l ++ bytesOf x 8) ∧ Below B w w' := by
  obtain ⟨i0, hi, hz0, hz1, hz2⟩ := info_parts info5
  have HV : Hid (RowB B w v l) := hv
  clear hv
  go_enter Tryd.func79, Tryd.ntmps79
  go_wp2
  go_loopw [0, 6] (fun u i wr => ∃ k : Nat, i = .int .i64 (k : Int) ∧ k ≤ 8 ∧ RowB B wr u (l ++ bytesOf x k) ∧ Below B w wr) (fun _ i _ => 8 - (intOf i).toNat)
  case atStart => exact ⟨0, rfl, Nat.zero_le _, by simpa [bytesOf] using HV.out, Below.refl _ _⟩
  case round =>
    obtain ⟨k, rfl, hk, hrow, hbel⟩ := hrel
    have hpl : (l ++ bytesOf x k).length ≤ 1048584 := by simp [bytesOf_length]; omega
    have hsz : B ≤ wr.heap.size := Nat.le_trans hB hbel.size
    by_cases hlt : k < 8
    · have hown : wr.ownsRow B 5 1 u0 (l ++ bytesOf x k).length (bytesV (l ++ bytesOf x k)) := hrow
      clear hrow
      have hlt' : (k : Int) < 8 := by omega
      have h8 : (8 * (k : Int)).toNat = 8 * k := by omega
      have h80 : (0 : Int) ≤ 8 * (k : Int) := by omega
      have hmin : min (8 * k) 64 = 8 * k := by omega
      have hshr := wv_shr
      have hbw := byteOf_wrap x k
      have HE : Hid (l ++ bytesOf x (k + 1) = (l ++ bytesOf x k) ++ [byteOf x k]) := by
        show l ++ bytesOf x (k + 1) = _
        rw [bytesOf_succ, List.append_assoc]
      generalize l ++ bytesOf x k = pre at hown hpl HE
      go_wp2_with (at_builtin; refine wpList_append_own _ rfl _ _ 22 rfl B 5 i0 (.int .u8 0) 1 1 Tryd.underlying22 hi hz0 hz1 hz2 rfl (by decide) _ _ _ rfl (hown.alloc _) ⟨wr.heap.size, 0, none⟩ 1 1 [.int .u8 ((byteOf x k).toNat : Int)] rfl rfl ?c1 ?c2 ?c3 ?c4 ?c5 ?_)
      case c1 => exact cell_one_new _ _ _
      case c2 => exact one_cell _ _
      case c3 => unfold maxLen; omega
      case c4 => omega
      case c5 => simp; omega
      intro v' w1 hown' hgrow _
      have R := push_b (b := byteOf x k) rfl (room_for hsz _) (hbel.alloc hsz _) hown hown' hgrow
      rw [← HE.out] at R
      clear hown' hgrow hown
      go_wp2
      go_roundw
      case rel => exact ⟨k + 1, by go_num, hlt, R.1, R.2⟩
      case measure => simp [intOf]; omega
    · have hlt' : ¬ (k : Int) < 8 := by omega
      obtain rfl : k = 8 := by omega
      go_wp2
      go_ret
      exact ⟨_, rfl, hrow, hbel⟩

end Go.Proofs.YtlaoikpbgbckjaaDoor
