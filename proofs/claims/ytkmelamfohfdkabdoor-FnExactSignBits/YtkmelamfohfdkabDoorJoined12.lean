/-
  Texts of one's own, joined.
-/
import Derived.Test.YtkmelamfohfdkabDoorJoined11
import Derived.Test.YtkmelamfohfdkabDoorJoined10
import Derived.WalkLawsBesides
import Derived.WalkSpells
import Derived.StillTailTactics
import Derived.Laws.BitsAllLaws

/-
  The walks over words of 64 bits.
-/
namespace Go.Proofs.YtkmelamfohfdkabDoor
open Go.RowKit

theorem byW_at (s : ByteArray) (k : Nat) (h : k < s.size) : ((s[k]'h).toNat : Int) = wv (byW s.data.toList k) := by
  unfold byW
  rw [wv_ofNat (Nat.lt_trans (UInt8.toNat_lt _) (by decide))]
  congr 2
  have h2 : k < s.data.size := h
  rw [List.getD_eq_getElem?_getD, Array.getElem?_toList, Array.getElem?_eq_getElem h2]
  rfl
theorem wrap_w (x : BitVec 64) : IntKind.u64.wrap (wv x) = wv x := wrap_wv _ x.isLt

set_option maxHeartbeats 800000 in
set_option maxRecDepth 100000 in
theorem first_any (s : ByteArray) (hs : 8 ≤ s.size) (hm : s.size ≤ 4611686018427387904) (w : World) :
    Calls Tryd.prog 70 #[.string s] w fun e w' => e = .returned (.int .u64 (wv (wordAt s.data.toList 0))) ∧ w = w' := by
  go_enter Tryd.func70, Tryd.ntmps70
  go_wp2
  go_loopw [3, 5] (fun v i wr => ∃ k : Nat, i = .int .i64 (k : Int) ∧ k ≤ 8 ∧ v = .int .u64 (wv (wordK s.data.toList 0 k)) ∧ w = wr) (fun _ i _ => 8 - (intOf i).toNat)
  case atStart => exact ⟨0, rfl, Nat.zero_le _, rfl, rfl⟩
  case round =>
    obtain ⟨k, rfl, hk, rfl, rfl⟩ := hrel
    by_cases hlt : k < 8
    · have hlt' : (k : Int) < 8 := by omega
      have hk0 : (0 : Int) ≤ (k : Int) := by omega
      have hks : k < s.size := by omega
      have hks' : (k : Int) < (s.size : Int) := by omega
      have hby := byW_at s k hks
      have h8 : (8 * (k : Int)).toNat = 8 * k := by omega
      have h80 : (0 : Int) ≤ 8 * (k : Int) := by omega
      have hmin : min (8 * k) 64 = 8 * k := by omega
      have hwr := wrap_w
      have hshl := wv_shl
      have hor := wv_or
      have HE : Hid (wordK s.data.toList 0 (k + 1) = wordK s.data.toList 0 k ||| byW s.data.toList k <<< (8 * k)) := by
        show wordK s.data.toList 0 (k + 1) = _
        rw [wordK, Nat.zero_add]
      go_wp2
      go_roundw
      case rel => exact ⟨k + 1, by go_num, hlt, by rw [HE.out], by trivial⟩
      case measure => simp [intOf]; omega
    · have hlt' : ¬ (k : Int) < 8 := by omega
      have HK : Hid (k = 8) := (show k = 8 by omega)
      clear hlt
      go_wp2
      go_ret
      exact ⟨by rw [HK.out]; rfl, rfl⟩

theorem u64_n (n : Nat) (h : n < 64) : IntKind.u64.wrap (n : Int) = (n : Int) := wrap_wv n (by omega)
theorem u64_64 (n : Nat) (h : n < 64) : IntKind.u64.wrap (64 - (n : Int)) = ((64 - n : Nat) : Int) := by
  rw [show (64 : Int) - n = ((64 - n : Nat) : Int) by omega]; exact wrap_wv _ (by omega)
theorem u64_63 (n : Nat) (h : n < 64) : bits .and .u64 (n : Int) 63 = (n : Int) := by
  rw [show (63 : Int) = ((63 : Nat) : Int) by rfl, u64_and_nat n 63 (by omega) (by omega), nat_mask6]
  congr 1; omega

set_option maxRecDepth 100000 in
theorem turn_any (x : BitVec 64) (n : Nat) (hn : n < 64) (w : World) :
    Calls Tryd.prog 76 #[.int .u64 (wv x), .int .i64 (n : Int)] w fun e w' => e = .returned (.int .u64 (wv (rotl x n))) ∧ w = w' := by
  have h1 := u64_n n hn
  have h2 := u64_63 n hn
  have h3 := u64_64 n hn
  have h4 : min n 64 = n := by omega
  have h5 : min (64 - n) 64 = 64 - n := by omega
  have hshl := wv_shl
  have hshr := wv_shr
  have hor := wv_or
  go_enter Tryd.func76, Tryd.ntmps76
  go_wp2
  go_ret
  exact ⟨rfl, rfl⟩

set_option maxRecDepth 100000 in
theorem sTurn_any (x : BitVec 64) (n : Nat) (hn : n < 64) (w : World) :
    Calls Tryd.prog 65 #[.int .u64 (wv x), .int .u64 (n : Int)] w fun e w' => e = .returned (.int .u64 (wv (rotl x n))) ∧ w = w' := by
  have h3 := u64_64 n hn
  have h4 : min n 64 = n := by omega
  have h5 : min (64 - n) 64 = 64 - n := by omega
  have hshl := wv_shl
  have hshr := wv_shr
  have hor := wv_or
  go_enter Tryd.func65, Tryd.ntmps65
  go_wp2
  go_ret
  exact ⟨rfl, rfl⟩

theorem wv_shl8 (x : BitVec 64) : IntKind.u64.wrap (wv x * 256) = wv (x <<< 8) := wv_shl x 8

set_option maxHeartbeats 800000 in
set_option maxRecDepth 100000 in
theorem sWord_any (s : ByteArray) (a : Nat) (hs : a + 8 ≤ s.size) (hm : s.size ≤ 4611686018427387904) (w : World) :
    Calls Tryd.prog 43 #[.string s, .int .i64 (a : Int)] w fun e w' => e = .returned (.int .u64 (wv (wordAt s.data.toList a))) ∧ w = w' := by
  go_enter Tryd.func43, Tryd.ntmps43
  go_wp2
  go_loopw [5, 6] (fun v i wr => ∃ (k : Nat) (z : Int), i = .int .i64 z ∧ Hid (z = 7 - (k : Int)) ∧ k ≤ 8 ∧ v = .int .u64 (wv (backK s.data.toList a k)) ∧ w = wr) (fun _ i _ => (intOf i + 1).toNat)
  case atStart => exact ⟨0, 7, rfl, (show (7 : Int) = 7 - ((0 : Nat) : Int) from rfl), Nat.zero_le _, rfl, rfl⟩
  case round =>
    obtain ⟨k, z, rfl, HZ, hk, rfl, rfl⟩ := hrel
    have hz := HZ.out
    by_cases hlt : k < 8
    · have hlt' : (0 : Int) ≤ z := by omega
      have hz7 : z ≤ 7 := by omega
      obtain ⟨j, hj⟩ : ∃ j : Nat, j = a + (7 - k) := ⟨_, rfl⟩
      have hks : j < s.size := by omega
      have hks' : (j : Int) < (s.size : Int) := by omega
      have hj0 : (0 : Int) ≤ (j : Int) := by omega
      have hix : (a : Int) + z = (j : Int) := by omega
      have hby := byW_at s j hks
      have hwr := wrap_w
      have hshl := wv_shl8
      have hor := wv_or
      have HE : Hid (backK s.data.toList a (k + 1) = backK s.data.toList a k <<< 8 ||| byW s.data.toList j) := by
        show backK s.data.toList a (k + 1) = _
        rw [backK, hj]
      have HN : Hid (z - 1 = 7 - ((k + 1 : Nat) : Int)) := (show z - 1 = 7 - ((k + 1 : Nat) : Int) by omega)
      clear hz hj
      go_wp2
      go_roundw
      case rel => exact ⟨k + 1, z - 1, rfl, HN, hlt, by rw [HE.out], by trivial⟩
      case measure => simp [intOf]; omega
    · have hlt' : ¬ (0 : Int) ≤ z := by omega
      have HK : Hid (k = 8) := (show k = 8 by omega)
      clear hlt hz
      go_wp2
      go_ret
      exact ⟨by rw [HK.out, backK_all]; rfl, rfl⟩

set_option maxHeartbeats 800000 in
set_option maxRecDepth 100000 in
theorem with_any (v : Value) (l : List UInt8) (x : BitVec 64) (hl : l.length ≤ 1048576) (B : Nat) (w : World) (hB : B ≤ w.heap.size) (hv : RowB B w v l) :
    Calls Tryd.prog 72 #[v, .int .u64 (wv x)] w fun e w' => ∃ v', e = .returned v' ∧ RowB B w' v' (l ++ bytesOf x 8) ∧ Below B w w' := by
  obtain ⟨i0, hi, hz0, hz1, hz2⟩ := info_parts info5
  have HV : Hid (RowB B w v l) := hv
  clear hv
  go_enter Tryd.func72, Tryd.ntmps72
  go_wp2
  go_loopw [0, 6] (fun u i wr => ∃ k : Nat, i = .int .i64 (k : Int) ∧ k ≤ 8 ∧ RowB B wr u (l ++ bytesOf x k) ∧ Below B w wr) (fun _ i _ => 8 - (intOf i).toNat)
  case atStart => exact ⟨0, rfl, Nat.zero_le _, by simpa [bytesOf] using HV.out, Below.refl _ _⟩
  case round =>
    obtain ⟨k, rfl, hk, hrow, hbel⟩ := hrel
    have hpl : (l ++ bytesOf x k).length ≤ 1048584 := by simp [bytesOf_length]; omega
    have hsz : B ≤ wr.heap.size := Nat.le_trans hB hbel.size
    by_cases hlt : k < 8
    · have hown : wr.ownsRow B 5 1 u0 (l ++ bytesOf x k).length (bytesV (l ++ bytesOf x k)) := hrow
      clear hrow
      have hlt' : (k : Int) < 8 := by omega
      have h8 : (8 * (k : Int)).toNat = 8 * k := by omega
      have h80 : (0 : Int) ≤ 8 * (k : Int) := by omega
      have hmin : min (8 * k) 64 = 8 * k := by omega
      have hshr := wv_shr
      have hbw := byteOf_wrap x k
      have HE : Hid (l ++ bytesOf x (k + 1) = (l ++ bytesOf x k) ++ [byteOf x k]) := by
        show l ++ bytesOf x (k + 1) = _
        rw [bytesOf_succ, List.append_assoc]
      generalize l ++ bytesOf x k = pre at hown hpl HE
      go_wp2_with (at_builtin; refine wpList_append_own _ rfl _ _ 45 rfl B 5 i0 (.int .u8 0) 1 1 Tryd.underlying45 hi hz0 hz1 hz2 rfl (by decide) _ _ _ rfl (hown.alloc _) ⟨wr.heap.size, 0, none⟩ 1 1 [.int .u8 ((byteOf x k).toNat : Int)] rfl rfl ?c1 ?c2 ?c3 ?c4 ?c5 ?_)
      case c1 => exact cell_one_new _ _ _
      case c2 => exact one_cell _ _
      case c3 => unfold maxLen; omega
      case c4 => omega
      case c5 => simp; omega
      intro v' w1 hown' hgrow _
      have R := push_b (b := byteOf x k) rfl (room_for hsz _) (hbel.alloc hsz _) hown hown' hgrow
      rw [← HE.out] at R
      clear hown' hgrow hown
      go_wp2
      go_roundw
      case rel => exact ⟨k + 1, by go_num, hlt, R.1, R.2⟩
      case measure => simp [intOf]; omega
    · have hlt' : ¬ (k : Int) < 8 := by omega
      obtain rfl : k = 8 := by omega
      go_wp2
      go_ret
      exact ⟨_, rfl, hrow, hbel⟩

end Go.Proofs.YtkmelamfohfdkabDoor

/-
  The walks of words put to a state, and of a state as a text.
-/
namespace Go.Proofs.YtkmelamfohfdkabDoor
open Go.RowKit

theorem mixesW : Tryd.prog.follows .mixedOrders = true := by kernel_rfl

/-- A text from place n on. -/
def sufT (s : ByteArray) (n : Nat) : ByteArray := s.extract n s.size
theorem cut_suf (s : ByteArray) (n : Nat) (h : n ≤ s.size) (wx : World) :
    (Instr.slice 9 (.string s) (some (.int .i64 (n : Int))) none none).run Tryd.prog wx = .ok (.string (sufT s n)) wx := by
  have := run_slice_string_l (P := Tryd.prog) (w := wx) (t := 9) (s := s) Tryd.underlying9 .i64 (n : Int) (by omega) (by omega)
  simpa [sufT] using this
theorem sufT_size (s : ByteArray) (n : Nat) : (sufT s n).size = s.size - n := by
  simp [sufT]
theorem sufT_list (s : ByteArray) (n : Nat) : (sufT s n).data.toList = s.data.toList.drop n := by
  unfold sufT
  rw [ByteArray.data_extract, Array.toList_extract, List.extract_eq_take_drop, List.take_of_length_le]
  simp

set_option maxHeartbeats 400000 in
set_option maxRecDepth 100000 in
theorem mixed_any (f : Nat → BitVec 64) (s : ByteArray) (n : Nat) (hn : n ≤ 25) (hs : s.size = 8 * n) (w : World) :
    Calls Tryd.prog 67 #[.agg (sc f 25), .string s] w fun e w' => e = .returned (.agg (sc (mixK f s.data.toList n) 25)) ∧ Below w.heap.size w w' := by
  obtain ⟨b1, HB1⟩ : ∃ b, Hid (b = w.heap.size) := ⟨_, rfl⟩
  obtain ⟨b2, HB2⟩ : ∃ b, Hid (b = w.heap.size + 1) := ⟨_, rfl⟩
  have hq1 : (s.size : Int) / 8 = (n : Int) := by omega
  have hq2 : Int.tdiv (s.size : Int) 8 = (n : Int) := by rw [Int.tdiv_eq_ediv_of_nonneg (by omega)]; exact hq1
  have HS : Hid (s.size = 8 * n) := hs
  clear hs
  go_enter Tryd.func67, Tryd.ntmps67
  go_wp2
  rw [← HB2.out, ← HB1.out]
  go_loopw [9] (fun i wr => ∃ k : Nat, i = .int .i64 (k : Int) ∧ k ≤ n ∧ At wr b1 78 25 (mixK f s.data.toList k) ∧ At wr b2 78 25 zf ∧ Below b1 w wr) (fun i _ => 25 - (intOf i).toNat)
  case atStart =>
    obtain rfl := HB1.out
    obtain rfl := HB2.out
    refine ⟨0, rfl, by omega, (At.new w _ 25 f).alloc _, ?_, ?_⟩
    · refine At.new' ?_ ?_
      · rw [size_alloc]
      · rfl
    · refine Below.alloc (Below.alloc (Below.refl _ _) (Nat.le_refl _) _) ?_ _ <;> (simp only [size_alloc]; omega)
  case round =>
    obtain ⟨k, rfl, hk, hA1, hA2, hbel⟩ := hrel
    by_cases hlt : k < n
    · have hlt' : (k : Int) < (n : Int) := by omega
      have hlt25 : (k : Int) < 25 := by omega
      have hk0 : (0 : Int) ≤ (k : Int) := by omega
      have HNE : Hid (b1 ≠ b2) := (show b1 ≠ b2 by have := HB1.out; have := HB2.out; omega)
      obtain ⟨m, hm⟩ : ∃ m, m = 8 * k := ⟨_, rfl⟩
      have hm1 : (k : Int) * 8 = (m : Int) := by omega
      have hms : m + 8 ≤ s.size := by have := HS.out; omega
      have hwm : IntKind.i64.wrap (m : Int) = (m : Int) := by rw [IntKind.wrap_i64]; omega
      have hwk : IntKind.i64.wrap ((k : Int) * 8) = (m : Int) := by rw [hm1]; exact hwm
      have hm0 : (0 : Int) ≤ (m : Int) := by omega
      have HF : Hid (∀ w, Calls Tryd.prog 70 #[.string (s.extract m s.size)] w fun e w' => e = .returned (.int .u64 (wv (wordAt s.data.toList m))) ∧ w' = w) := fun w => by
        have := first_any (sufT s m) (by rw [sufT_size]; omega) (by rw [sufT_size]; have := HS.out; omega) w
        rw [sufT_list, wordAt_drop] at this
        exact this.mono fun e w' h => ⟨h.1, h.2.symm⟩
      have hc := hA1.cell k (by omega)
      have hf := hA1.free k
      have hxor := wv_xor
      have HW : Hid (At (wr.setCell ⟨b1, k, none⟩ (.int .u64 (wv (mixK f s.data.toList k k ^^^ wordAt s.data.toList m)))).drew b1 78 25 (mixK f s.data.toList (k + 1)) ∧ At (wr.setCell ⟨b1, k, none⟩ (.int .u64 (wv (mixK f s.data.toList k k ^^^ wordAt s.data.toList m)))).drew b2 78 25 zf ∧ Below b1 w (wr.setCell ⟨b1, k, none⟩ (.int .u64 (wv (mixK f s.data.toList k k ^^^ wordAt s.data.toList m)))).drew) := by
        refine ⟨?_, hA2.other HNE.out _, (hbel.setCell (Nat.le_refl _) _).drew⟩
        rw [mixK, ← hm]
        exact hA1.set k _
      generalize wordAt s.data.toList m = x at HF HW
      generalize mixK f s.data.toList k k = y at hc HW
      have hms' : (m : Int) ≤ (s.size : Int) := by omega
      have hmb : (m : Int) ≤ 200 := by omega
      clear hA1 hA2 hbel hms hm
      go_wp2
      refine wp_region_still_tail 9 mixesW (by kernel_rfl) ?_
      simp only [List.take_succ_cons, List.take_zero, List.drop_succ_cons, List.drop_zero]
      repeat still_step
      still_call (HF.out _)
      repeat still_step
      refine wpStill_nil ?_
      go_wp2
      go_roundw
      case rel => exact ⟨k + 1, by go_num, hlt, HW.out.1, HW.out.2.1, HW.out.2.2⟩
      case measure => simp [intOf]; omega
    · have hlt' : ¬ (k : Int) < (n : Int) := by omega
      have HK : Hid (k = n) := (show k = n by omega)
      clear hlt
      have HLE : Hid (b1 ≤ b2) := (show b1 ≤ b2 by have := HB1.out; have := HB2.out; omega)
      go_wp2_with (first | (refine load_at rfl rfl rfl hA1 Tryd.underlying78 infoS ?_) | (refine store_at rfl rfl rfl rfl hA2 infoS ?_))
      (try simp only [Exit.inBlock, Exit.then])
      refine bodyPost_ret_by (result_at rfl rfl (hA2.row _) Tryd.underlying78 infoS) rfl ⟨by rw [HK.out], ?_⟩
      rw [← HB1.out]
      exact below_row hbel HLE.out _

end Go.Proofs.YtkmelamfohfdkabDoor

/-
  The walk of a state as a text.
-/
namespace Go.Proofs.YtkmelamfohfdkabDoor
open Go.RowKit

/-- n words of a state as a text. -/
def textT (f : Nat → BitVec 64) (n : Nat) : ByteArray := ⟨(textL f n).toArray⟩

set_option maxHeartbeats 400000 in
set_option maxRecDepth 100000 in
theorem text_any (f : Nat → BitVec 64) (n : Nat) (hn : n ≤ 25) (w : World) :
    Calls Tryd.prog 69 #[.agg (sc f 25), .int .i64 ((8 * n : Nat) : Int)] w fun e w' => e = .returned (.string (textT f n)) ∧ Below w.heap.size w w' := by
  obtain ⟨m, hm⟩ : ∃ m, m = 8 * n := ⟨_, rfl⟩
  rw [← hm]
  have hq1 : (m : Int) / 8 = (n : Int) := by omega
  have hq2 : Int.tdiv (m : Int) 8 = (n : Int) := by rw [Int.tdiv_eq_ediv_of_nonneg (by omega)]; exact hq1
  have hmk : ∀ W : World, (Instr.makeSlice 45 (.int .i64 0) (.int .i64 (m : Int))).run Tryd.prog W = .ok (.slice (some ⟨W.heap.size, 0, none⟩) 0 m) (W.alloc (.cells (bCells (List.replicate m 0)) 5)) := fun W => make_bytes 0 m (by omega) (by omega) W
  have hn25 : (n : Int) ≤ 25 := by omega
  have hmb : m ≤ 200 := by omega
  obtain ⟨b1, HB1⟩ : ∃ b, Hid (b = w.heap.size) := ⟨_, rfl⟩
  obtain ⟨b2, HB2⟩ : ∃ b, Hid (b = w.heap.size + 1) := ⟨_, rfl⟩
  clear hm
  go_enter Tryd.func69, Tryd.ntmps69
  go_wp2
  rw [← HB2.out, ← HB1.out]
  go_loopw [5, 14] (fun v i wr => ∃ k : Nat, i = .int .i64 (k : Int) ∧ k ≤ n ∧ RowB b2 wr v (textL f k) ∧ b2 ≤ wr.heap.size ∧ At wr b1 78 25 f ∧ Below b1 w wr) (fun _ i _ => n - (intOf i).toNat)
  case atStart =>
    obtain rfl := HB1.out
    obtain rfl := HB2.out
    refine ⟨0, rfl, by omega, ?_, ?_, (At.new w _ 25 f).alloc _, ?_⟩
    · refine ⟨rfl, .inr ⟨w.heap.size + 1, m, bCells (List.replicate m 0), rfl, Nat.le_refl _, ?_, Nat.zero_le _, ?_, ?_, ?_⟩⟩
      · have := heap_alloc_last (w.alloc (.cells (sc f 25) 78)) (.cells (bCells (List.replicate m 0)) 5)
        rwa [size_alloc] at this
      · unfold maxLen; omega
      · rw [bCells_size]; simp
      · simp [textL, bytesV]
    · simp only [size_alloc]; omega
    · refine Below.alloc (Below.alloc (Below.refl _ _) (Nat.le_refl _) _) ?_ _ <;> (simp only [size_alloc]; omega)
  case round =>
    clear hmk
    obtain ⟨k, rfl, hk, hrow, hsz, hA1, hbel⟩ := hrel
    have HL : Hid (b1 < b2) := (show b1 < b2 by have := HB1.out; have := HB2.out; omega)
    by_cases hlt : k < n
    · have hlt' : (k : Int) < (n : Int) := by omega
      have hk0 : (0 : Int) ≤ (k : Int) := by omega
      have hc := hA1.cell k (by omega)
      have HW : Hid (Calls Tryd.prog 72 #[u5, .int .u64 (wv (f k))] wr fun e w' => ∃ v', e = .returned v' ∧ RowB b2 w' v' (textL f (k + 1)) ∧ Below b2 wr w') := with_any u5 (textL f k) (f k) (by rw [textL_length]; omega) b2 wr hsz hrow
      go_wp2_with fail
      refine HW.out.mono ?_
      rintro e w1 ⟨v', rfl, hrow', hb'⟩
      have hA1' := hA1.on hb' HL.out
      have hbel' : Below b1 w w1 := hbel.trans (hb'.mono (Nat.le_of_lt HL.out))
      have hsz' : b2 ≤ w1.heap.size := Nat.le_trans hsz hb'.size
      clear hrow hA1 hbel hsz hb' HW hc
      go_wp2
      go_roundw
      case rel => exact ⟨k + 1, by go_num, hlt, hrow', hsz', hA1', hbel'⟩
      case measure => simp [intOf]; omega
    · have hlt' : ¬ (k : Int) < (n : Int) := by omega
      have HK : Hid (k = n) := (show k = n by omega)
      clear hlt
      have hcv := text_of_row hrow
      go_wp2
      go_ret
      exact ⟨by rw [← HK.out]; rfl, by rw [← HB1.out]; exact hbel⟩

end Go.Proofs.YtkmelamfohfdkabDoor

/-
  The padding of chapter 3 as plain mathematics.
-/
namespace Go.Proofs.YtkmelamfohfdkabDoor

/-- The bytes behind the text, ahead of the last bit. -/
def padTail (n : Nat) : List UInt8 := 1 :: List.replicate (135 - n % 136) 0
def padBody (l : List UInt8) : List UInt8 := l ++ padTail l.length
/-- A padded text. -/
def padL (l : List UInt8) : List UInt8 := (padBody l).set ((padBody l).length - 1) ((padBody l).getD ((padBody l).length - 1) 0 ||| 128)

theorem padBody_length (l : List UInt8) : (padBody l).length = 136 * (l.length / 136 + 1) := by
  simp [padBody, padTail]; omega
theorem padL_length (l : List UInt8) : (padL l).length = 136 * (l.length / 136 + 1) := by
  unfold padL; rw [List.length_set, padBody_length]
/-- k bytes of the tail. -/
def padK (l : List UInt8) (k : Nat) : List UInt8 := l ++ 1 :: List.replicate k 0
theorem padK_length (l : List UInt8) (k : Nat) : (padK l k).length = l.length + 1 + k := by simp [padK]; omega
theorem padK_succ (l : List UInt8) (k : Nat) : padK l (k + 1) = padK l k ++ [0] := by
  simp [padK, List.replicate_succ']
theorem padK_all (l : List UInt8) : padK l (135 - l.length % 136) = padBody l := rfl
theorem padK_end {l : List UInt8} {k : Nat} (hk : k ≤ 135 - l.length % 136) (h : (padK l k).length % 136 = 0) : k = 135 - l.length % 136 := by
  rw [padK_length] at h; omega
theorem padK_on {l : List UInt8} {k : Nat} (hk : k ≤ 135 - l.length % 136) (h : (padK l k).length % 136 ≠ 0) : k + 1 ≤ 135 - l.length % 136 := by
  rw [padK_length] at h; omega
theorem u8_or_128 (b : UInt8) : bits .or .u8 (b.toNat : Int) 128 = ((b ||| 128).toNat : Int) := by
  rw [show (128 : Int) = ((128 : Nat) : Int) from rfl, u8_or_nat _ _ b.toNat_lt (by decide)]
  rw [UInt8.toNat_or]; rfl
theorem pad_made (l : List UInt8) : (l ++ List.replicate (136 * (l.length / 136 + 1) - l.length) (0 : UInt8)).set l.length 1 = padBody l := by
  rw [List.set_append_right _ _ (Nat.le_refl _), Nat.sub_self]
  unfold padBody padTail
  congr 1
  rw [show 136 * (l.length / 136 + 1) - l.length = (135 - l.length % 136) + 1 by omega, List.replicate_succ]
  rfl

end Go.Proofs.YtkmelamfohfdkabDoor
