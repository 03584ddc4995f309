/-
  The walks of Rotated on both sides, and of the law on it.
-/
import Derived.Test.YthncegemhaofnaaDoorWord
import Derived.Test.YthncegemhaofnaaDoorClone
namespace Go.Proofs.YthncegemhaofnaaDoor
open Go.RowKit

set_option maxHeartbeats 800000 in
set_option maxRecDepth 100000 in
theorem sBytes_any (x : BitVec 64) (w : World) :
    Calls Tryd.prog 44 #[.int .u64 (wv x)] w fun e w' => e = .returned (.string ⟨(bytesOf x 8).toArray⟩) ∧ Below w.heap.size w w' := by
  have hmk : ∀ W : World, (Instr.makeSlice 22 (.int .i64 8) (.int .i64 8)).run Tryd.prog W = .ok (.slice (some ⟨W.heap.size, 0, none⟩) 8 8) (W.alloc (.cells (bCells (List.replicate 8 0)) 5)) := fun W => make_bytes 8 8 (by omega) (by omega) W
  go_enter Tryd.func44, Tryd.ntmps44
  go_wp2
  go_loopw [4] (fun i wr => ∃ k : Nat, i = .int .i64 (k : Int) ∧ k ≤ 8 ∧ wr = w.alloc (.cells (bCells (bytesOf x k ++ List.replicate (8 - k) 0)) 5)) (fun i _ => 8 - (intOf i).toNat)
  case atStart => exact ⟨0, rfl, Nat.zero_le _, rfl⟩
  case round =>
    obtain ⟨k, rfl, hk, rfl⟩ := hrel
    by_cases hlt : k < 8
    · have hlt' : (k : Int) < 8 := by omega
      have h8 : (8 * (k : Int)).toNat = 8 * k := by omega
      have h80 : (0 : Int) ≤ 8 * (k : Int) := by omega
      have hmin : min (8 * k) 64 = 8 * k := by omega
      have hw1 : IntKind.u64.wrap (k : Int) = (k : Int) := wrap_wv k (by omega)
      have hw2 : IntKind.u64.wrap (8 * (k : Int)) = 8 * (k : Int) := by
        rw [show (8 : Int) * k = ((8 * k : Nat) : Int) by omega]; exact wrap_wv _ (by omega)
      have hshr := wv_shr
      have hbw := byteOf_wrap x k
      obtain ⟨l, hl⟩ : ∃ l, l = bytesOf x k ++ List.replicate (8 - k) 0 := ⟨_, rfl⟩
      have hll : l.length = 8 := by rw [hl]; simp [bytesOf_length]; omega
      have HL : Hid (bytesOf x (k + 1) ++ List.replicate (8 - (k + 1)) 0 = l.set k (byteOf x k)) := by
        show bytesOf x (k + 1) ++ List.replicate (8 - (k + 1)) 0 = l.set k (byteOf x k)
        rw [hl, bytesOf_succ, List.set_append_right _ _ (by simp [bytesOf_length]), bytesOf_length, Nat.sub_self, List.append_assoc]
        congr 1
        rw [show 8 - k = (8 - (k + 1)) + 1 by omega, List.replicate_succ]; rfl
      rw [← hl]
      have hat := bCells_at l k (by omega)
      have hset := bCells_set l k (byteOf x k)
      clear hl hmk
      go_wp2
      go_roundw
      case rel => exact ⟨k + 1, by go_num, hlt, by rw [HL.out]⟩
      case measure => simp [intOf]; omega
    · have hlt' : ¬ (k : Int) < 8 := by omega
      obtain rfl : k = 8 := by omega
      have hcv := text_of_row (owns_cells w (bytesOf x 8) (by simp [bytesOf_length]))
      rw [bytesOf_length] at hcv
      have he : bytesOf x 8 ++ List.replicate (8 - 8) 0 = bytesOf x 8 := by simp
      rw [he]
      clear he hmk
      go_wp2
      go_ret
      exact ⟨rfl, (Below.refl _ _).alloc (Nat.le_refl _) _⟩

/-- What Rotated answers. -/
def rotT (s : ByteArray) (n : Int) : ByteArray := if s.size = 8 ∧ 0 ≤ n then ⟨(bytesOf (rotl (wordAt s.data.toList 0) (n % 64).toNat) 8).toArray⟩ else s
theorem rotT_no {s : ByteArray} {n : Int} (h : ¬ (s.size = 8 ∧ 0 ≤ n)) : rotT s n = s := if_neg h
theorem rotT_yes {s : ByteArray} {m : Nat} (h : s.size = 8) : rotT s (m : Int) = ⟨(bytesOf (rotl (wordAt s.data.toList 0) (m % 64)) 8).toArray⟩ := by
  unfold rotT
  rw [if_pos ⟨h, by omega⟩, show ((m : Int) % 64).toNat = m % 64 by omega]
theorem rotT_none {s : ByteArray} {m : Nat} (h : s.size = 8) (hm : m % 64 = 0) : rotT s (m : Int) = s := by
  rw [rotT_yes h, hm, rotl_zero, bytesOf_wordAt _ (by simpa using h)]

set_option maxHeartbeats 800000 in
set_option maxRecDepth 100000 in
theorem iRot_any (s : ByteArray) (n : Int) (hs : s.size ≤ 1048576) (h0 : -9223372036854775808 ≤ n) (h1 : n ≤ 9223372036854775807) (w : World) :
    Calls Tryd.prog 18 #[.string s, .int .i64 n] w fun e w' => e = .returned (.string (rotT s n)) ∧ Below w.heap.size w w' := by
  by_cases hy : s.size = 8 ∧ 0 ≤ n
  · obtain ⟨h8, hn⟩ := hy
    obtain ⟨m, rfl⟩ : ∃ m : Nat, n = m := ⟨n.toNat, by omega⟩
    have HA : Hid (rotT s (m : Int) = ⟨(bytesOf (rotl (wordAt s.data.toList 0) (m % 64)) 8).toArray⟩) := rotT_yes h8
    obtain ⟨r, hr⟩ : ∃ r, r = m % 64 := ⟨_, rfl⟩
    rw [← hr] at HA
    have hr1 : Int.tmod (m : Int) 64 = (r : Int) := by rw [Int.tmod_eq_emod_of_nonneg (by omega)]; omega
    have hr2 : (m : Int) % 64 = (r : Int) := by omega
    have HR : Hid (r < 64) := (show r < 64 by omega)
    have hd : ((s.size : Int) != 8) = false := by rw [h8]; rfl
    have HS : Hid (8 ≤ s.size) := (show 8 ≤ s.size by omega)
    have HM : Hid (s.size ≤ 4611686018427387904) := (show s.size ≤ 4611686018427387904 by omega)
    clear hr h8
    go_enter Tryd.func18, Tryd.ntmps18
    go_wp2_with fail
    refine (first_any s HS.out HM.out _).mono ?_
    rintro e w1 ⟨rfl, rfl⟩
    go_wp2_with fail
    refine (turn_any _ r HR.out _).mono ?_
    rintro e w1 ⟨rfl, rfl⟩
    go_wp2_with fail
    refine (with_any (.slice none 0 0) [] _ (by simp) w.heap.size w (Nat.le_refl _) (World.ownsRow_nil _ _ _ _)).mono ?_
    rintro e w1 ⟨v', rfl, hrow, hb⟩
    have hcv := text_of_row hrow
    rw [List.nil_append] at hcv
    clear hrow
    go_wp2
    go_ret
    exact ⟨by rw [HA.out]; rfl, hb⟩
  · have HA : Hid (rotT s n = s) := rotT_no hy
    have HM : Hid (s.size ≤ 281474976710656) := (show s.size ≤ 281474976710656 by omega)
    by_cases h8 : s.size = 8
    · have hd : ((s.size : Int) != 8) = false := by rw [h8]; rfl
      have hn : n < 0 := by omega
      clear h8 hy
      go_enter Tryd.func18, Tryd.ntmps18
      go_wp2_with fail
      refine (clone_any s _ HM.out).mono ?_
      rintro e w1 ⟨rfl, hb⟩
      go_wp2
      go_ret
      exact ⟨by rw [HA.out]; rfl, hb⟩
    · have hd : ((s.size : Int) != 8) = true := by rw [bne_iff_ne]; omega
      clear h8 hy
      go_enter Tryd.func18, Tryd.ntmps18
      go_wp2_with fail
      refine (clone_any s _ HM.out).mono ?_
      rintro e w1 ⟨rfl, hb⟩
      go_wp2
      go_ret
      exact ⟨by rw [HA.out]; rfl, hb⟩

set_option maxHeartbeats 800000 in
set_option maxRecDepth 100000 in
theorem sRot_any (s : ByteArray) (n : Int) (_hs : s.size ≤ 1048576) (h0 : -9223372036854775808 ≤ n) (h1 : n ≤ 9223372036854775807) (w : World) :
    Calls Tryd.prog 21 #[.string s, .int .i64 n] w fun e w' => e = .returned (.string (rotT s n)) ∧ Below w.heap.size w w' := by
  by_cases hy : s.size = 8 ∧ 0 ≤ n
  · obtain ⟨h8, hn⟩ := hy
    obtain ⟨m, rfl⟩ : ∃ m : Nat, n = m := ⟨n.toNat, by omega⟩
    have HA : Hid (rotT s (m : Int) = ⟨(bytesOf (rotl (wordAt s.data.toList 0) (m % 64)) 8).toArray⟩) := rotT_yes h8
    have HB : Hid (m % 64 = 0 → rotT s (m : Int) = s) := fun h => rotT_none h8 h
    obtain ⟨r, hr⟩ : ∃ r, r = m % 64 := ⟨_, rfl⟩
    rw [← hr] at HA HB
    have hr1 : Int.tmod (m : Int) 64 = (r : Int) := by rw [Int.tmod_eq_emod_of_nonneg (by omega)]; omega
    have hr2 : (m : Int) % 64 = (r : Int) := by omega
    have HR : Hid (r < 64) := (show r < 64 by omega)
    have hrw := u64_n r HR.out
    have hd : ((s.size : Int) != 8) = false := by rw [h8]; rfl
    have HS : Hid (0 + 8 ≤ s.size) := (show 0 + 8 ≤ s.size by omega)
    have HM : Hid (s.size ≤ 4611686018427387904) := (show s.size ≤ 4611686018427387904 by omega)
    clear hr h8
    by_cases hz : r = 0
    · have hz' : ((r : Int) == 0) = true := by rw [beq_iff_eq]; omega
      have HE : Hid (rotT s (m : Int) = s) := HB.out hz
      clear hz
      go_enter Tryd.func21, Tryd.ntmps21
      go_wp2
      go_ret
      exact ⟨by rw [HE.out]; rfl, Below.refl _ _⟩
    · have hz' : ((r : Int) == 0) = false := by rw [beq_eq_false_iff_ne]; omega
      clear hz
      go_enter Tryd.func21, Tryd.ntmps21
      go_wp2_with fail
      refine (sWord_any s 0 HS.out HM.out _).mono ?_
      rintro e w1 ⟨rfl, rfl⟩
      go_wp2_with fail
      refine (sTurn_any _ r HR.out _).mono ?_
      rintro e w1 ⟨rfl, rfl⟩
      go_wp2_with fail
      refine (sBytes_any _ _).mono ?_
      rintro e w1 ⟨rfl, hb⟩
      go_wp2
      go_ret
      exact ⟨by rw [HA.out]; rfl, hb⟩
  · have HA : Hid (rotT s n = s) := rotT_no hy
    by_cases h8 : s.size = 8
    · have hd : ((s.size : Int) != 8) = false := by rw [h8]; rfl
      have hn : n < 0 := by omega
      clear h8 hy
      go_enter Tryd.func21, Tryd.ntmps21
      go_wp2
      go_ret
      exact ⟨by rw [HA.out]; rfl, Below.refl _ _⟩
    · have hd : ((s.size : Int) != 8) = true := by rw [bne_iff_ne]; omega
      clear h8 hy
      go_enter Tryd.func21, Tryd.ntmps21
      go_wp2
      go_ret
      exact ⟨by rw [HA.out]; rfl, Below.refl _ _⟩

end Go.Proofs.YthncegemhaofnaaDoor
