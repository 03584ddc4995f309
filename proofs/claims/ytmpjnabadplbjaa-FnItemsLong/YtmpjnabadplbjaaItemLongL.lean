/-
  The walk of the law on a long text.
  (-DROP-: what the seat lacks is left out.)
-/
import Derived.Test.YtmpjnabadplbjaaItemLong
import Derived.Test.YtmpjnabadplbjaaByteArg
namespace Go.Proofs.Ytmpjnabadplbjaa
open Go.RowKit

theorem wrap_small (m : Nat) (h : m ≤ 1000000) : wrap64 (m : Int) = (m : Int) := by rw [IntWalk.wrap64_in _ (by omega)]
theorem long_arith {T n m : Nat} (h1 : T = (if n ≤ 55 then 1 else if n ≤ 255 then 2 else 3) + n) (hn : n < 600) (h2 : T - 1 = m) :
    (T : Int) - 1 = (m : Int) ∧ (m : Int) ≤ (T : Int) ∧ wrap64 (m : Int) = (m : Int) ∧ T + 1 ≤ maxLen ∧ ((n ≤ 55 ∧ T = 1 + n) ∨ (¬ n ≤ 55 ∧ n ≤ 255 ∧ T = 2 + n) ∨ (¬ n ≤ 55 ∧ ¬ n ≤ 255 ∧ T = 3 + n)) := by
  unfold maxLen
  by_cases q1 : n ≤ 55
  · rw [if_pos q1] at h1
    exact ⟨by omega, by omega, wrap_small m (by omega), by omega, by omega⟩
  · rw [if_neg q1] at h1
    by_cases q2 : n ≤ 255
    · rw [if_pos q2] at h1
      exact ⟨by omega, by omega, wrap_small m (by omega), by omega, by omega⟩
    · rw [if_neg q2] at h1
      exact ⟨by omega, by omega, wrap_small m (by omega), by omega, by omega⟩
theorem rep_step (n k : Nat) (c : UInt8) (h : k < n) : (List.replicate k c ++ List.replicate (n - k) 0).set k c = List.replicate (k + 1) c ++ List.replicate (n - (k + 1)) 0 := by
  rw [List.set_append_right _ _ (by simp), List.length_replicate, Nat.sub_self]
  obtain ⟨m, hm⟩ : ∃ m, n - k = m + 1 := ⟨n - k - 1, by omega⟩
  rw [hm, show n - (k + 1) = m by omega, List.replicate_succ, List.set_cons_zero, List.replicate_succ', List.append_assoc]
  rfl

set_option maxHeartbeats 6400000 in
set_option maxRecDepth 100000 in
theorem lawItemsLong (a : Option Addr) (len cap : Nat) (hm : len ≤ 9223372036854775807) (w : World) (hA : ArgAt w a len w.heap.size) :
    Calls Try.prog 4 #[.slice a len cap] w fun e w' => e = .returned (.bool true) ∧ Below w.heap.size w w' := by
  have HA : Hid (ArgAt w a len w.heap.size) := hA
  clear hA
  by_cases hb : 1048576 < len
  · have hd : decide (1048576 < len) = true := decide_eq_true hb
    go_enter Try.func4, Try.ntmps4
    go_wp2_with (go_at_call 9; refine (big_any _ _ _ hm _).mono ?_; rintro e w0 ⟨rfl, rfl⟩)
    go_ret
    exact ⟨rfl, Below.refl _ _⟩
  have hd : decide (1048576 < len) = false := decide_eq_false hb
  have hm1 : len ≤ 1048576 := by omega
  go_enter Try.func4, Try.ntmps4
  go_wp2_with (go_at_call 9; refine (big_any _ _ _ hm _).mono ?_; rintro e w0 ⟨rfl, rfl⟩)
  refine (places_any len cap a hm1 _ HA.out).mono ?_
  rintro e w1 ⟨g, cp, x, rfl, hg, _, hx, hb1⟩
  obtain ⟨hx0, c0⟩ := hx 0 (by omega)
  obtain ⟨hx1, c1⟩ := hx 1 (by omega)
  obtain ⟨n, hn⟩ : ∃ n, x 0 % 600 = n := ⟨_, rfl⟩
  obtain ⟨y, hy⟩ : ∃ y, x 1 % 100 + 130 = y := ⟨_, rfl⟩
  have hn6 : n < 600 := by omega
  have hy1 : 130 ≤ y ∧ y < 256 := by omega
  have hni : (x 0 : Int) % 600 = (n : Int) := by omega
  have hyi : (x 1 : Int) % 100 + 130 = (y : Int) := by omega
  have hyi2 : (x 1 : Int) % 100 = (y : Int) - 130 := by omega
  have HB : Hid (Below w.heap.size w w1 ∧ g < w1.heap.size) := ⟨hb1, hg⟩
  obtain ⟨i0, hi, hz0, hz1, hz2⟩ := info_parts info5
  obtain ⟨M, hM⟩ : ∃ M, M = madeCells (Value.int .u8 0).cells ((n : Int).toNat * i0.size) := ⟨_, rfl⟩
  have hMs : M.size = n * 1 := by rw [hM, size_madeCells, hz1]; simp
  have hMl : M.toList = bytesV (List.replicate n 0) := by
    rw [hM, hz1]
    have := toList_madeCells_one (.int .u8 0) n
    simpa [bytesV, Value.cells] using this
  have hmk : ∀ W : World, (Instr.makeSlice 22 (.int .i64 (n : Int)) (.int .i64 (n : Int))).run Try.prog W = .ok (.slice (some ⟨W.heap.size, 0, none⟩) n n) (W.alloc (.cells M 5)) := fun W => by
    have h := run_make (P := Try.prog) W 22 5 i0 (.int .u8 0) Try.underlying22 hi hz0 .i64 .i64 (n : Int) (n : Int) (by omega) (by omega) (by rw [hz2]; omega) (by omega)
    rw [← hM] at h
    simpa using h
  clear hM hx hb1 hg hn hy
  go_wp2
  go_loopw [6] (fun i wr => ∃ (k : Nat) (t : List UInt8), i = .int .i64 (k : Int) ∧ k ≤ n ∧ Hid (t = List.replicate k (UInt8.ofNat y) ++ List.replicate (n - k) 0) ∧ Hid (wr.ownsRow w1.heap.size 5 1 (.slice (some ⟨w1.heap.size, 0, none⟩) n n) n (bytesV t)) ∧ Hid (Below w1.heap.size w1 wr)) (fun i _ => n - (intOf i).toNat)
  case atStart =>
    refine ⟨0, List.replicate n 0, rfl, Nat.zero_le _, (show _ = _ by simp), ?_, (Below.refl _ _).alloc (Nat.le_refl _) _⟩
    have := World.ownsRow_lit (base := w1.heap.size) (e := 5) (size := 1) w1 M n (Nat.le_refl _) (by unfold maxLen; omega) hMs
    rw [hMl] at this
    exact this
  case round =>
    obtain ⟨k, t, rfl, hk, htl, hown, hbel⟩ := hrel
    clear hmk
    have htn : t.length = n := by rw [htl.out]; simp; omega
    have d1 : wr.cell? ⟨g, 1, none⟩ = some (.int .i64 (x 1 : Int)) := (hbel.out.cell (p := ⟨g, 1, none⟩) HB.out.2).trans c1
    by_cases hlt : k < n
    · have hk0 : (0 : Int) ≤ (k : Int) := by omega
      have hlt' : (k : Int) < (n : Int) := by omega
      obtain ⟨old, hc⟩ : ∃ old, wr.cell? ⟨w1.heap.size, k, none⟩ = some (.int .u8 old) := by
        have hkt : k < t.length := by omega
        exact ⟨(t[k].toNat : Int), (hown.out.cellAt k (by omega)).trans (by simp [bytesV, hkt])⟩
      have hf := hown.out.frozenAt k
      have hst := (hown.out.stored k (.int .u8 (y : Int))).1
      have hset : (bytesV t).set k (.int .u8 (y : Int)) = bytesV (t.set k (UInt8.ofNat y)) := by
        rw [bytesV, bytesV, List.map_set, toNat_of (by omega)]
      rw [hset] at hst
      have hts : t.set k (UInt8.ofNat y) = List.replicate (k + 1) (UInt8.ofNat y) ++ List.replicate (n - (k + 1)) 0 := by rw [htl.out]; exact rep_step n k _ hlt
      have HST : Hid ((wr.setCell ⟨w1.heap.size, k, none⟩ (.int .u8 (y : Int))).ownsRow w1.heap.size 5 1 (.slice (some ⟨w1.heap.size, 0, none⟩) n n) n (bytesV (t.set k (UInt8.ofNat y)))) := hst
      have HBS : Hid (Below w1.heap.size w1 (wr.setCell ⟨w1.heap.size, k, none⟩ (.int .u8 (y : Int)))) := hbel.out.setCell (Nat.le_refl _) _
      have HTS : Hid (t.set k (UInt8.ofNat y) = List.replicate (k + 1) (UInt8.ofNat y) ++ List.replicate (n - (k + 1)) 0) := hts
      clear hst hset hown hts htl htn hbel
      go_wp2
      go_roundw
      case rel => exact ⟨k + 1, _, by go_num, hlt, HTS, HST, HBS⟩
      case measure => simp [intOf]; omega
    · have hlt' : ¬ (k : Int) < (n : Int) := by omega
      have htr : t = List.replicate n (UInt8.ofNat y) := by
        rw [htl.out, show k = n by omega, Nat.sub_self]
        simp
      subst htr
      have hcv := text_of_row (l := List.replicate n (UInt8.ofNat y)) (w := wr) (B := w1.heap.size) (v := .slice (some ⟨w1.heap.size, 0, none⟩) n n) (by rw [List.length_replicate]; exact hown.out)
      have HO : Hid (∀ wz, Below wr.heap.size wr wz → (convert 22 9 (.slice (some ⟨w1.heap.size, 0, none⟩) n n)).run Try.prog wz = .ok (.string ⟨(List.replicate n (UInt8.ofNat y)).toArray⟩) wz) := fun wz hz => text_of_row (l := List.replicate n (UInt8.ofNat y)) (w := wz) (B := w1.heap.size) (v := .slice (some ⟨w1.heap.size, 0, none⟩) n n) (by rw [List.length_replicate]; exact owns_on hown.out hz)
      obtain ⟨T, hT1, hT2, ⟨z, hz, hzt⟩, hR2, hR3⟩ := long_told (n := n) (c := UInt8.ofNat y) hn6 (by rw [toNat_of hy1.2]; omega)
      unfold repB at hT1 hzt
      obtain ⟨B, hB⟩ : ∃ B : ByteArray, ⟨(List.replicate n (UInt8.ofNat y)).toArray⟩ = B := ⟨_, rfl⟩
      have hBs : B.size = n := by rw [← hB]; exact repB_size n _
      rw [hB] at hcv HO hT1 hzt
      have HIT : Hid (∀ w, Calls Try.prog 11 #[.agg #[.bool false, .string B, .slice none 0 0]] w fun f w' => f = .returned (.tuple #[.string T, .bool true]) ∧ Below w.heap.size w w') := fun w => by
        have h := iItemText_any 0 (txtI B) (.slice none 0 0) w (by show B.size ≤ _; omega) ⟨none, 0, rfl, Nat.zero_le _⟩
        rw [hT1] at h
        exact h
      have HR1 : Hid (∀ w, Calls Try.prog 12 #[.string T] w fun e w' => ∃ a n c, e = .returned (.tuple #[.agg #[.bool (itL z), .string B, .slice a n c], .bool true]) ∧ Below w.heap.size w w') := fun w => by
        refine (iReadItem_any T w).mono ?_
        rintro e w' ⟨hb, h⟩
        rw [hz] at h
        obtain ⟨v, he, hto, _⟩ := h
        obtain ⟨a, c, rfl⟩ := hto.slice
        exact ⟨a, _, c, by rw [he, ← hzt]; rfl, hb⟩
      have HR2 : Hid (∀ w, Calls Try.prog 12 #[.string (T ++ ⟨#[120]⟩)] w fun e w' => e = .returned (.tuple #[.agg #[.bool false, .string ⟨#[]⟩, .slice none 0 0], .bool false]) ∧ Below w.heap.size w w') := fun w => by
        refine (iReadItem_any _ w).mono ?_
        rintro e w' ⟨hb, h⟩
        rw [hR2] at h
        exact ⟨h, hb⟩
      obtain ⟨m, hm⟩ : ∃ m, T.size - 1 = m := ⟨_, rfl⟩
      have HR3 : Hid (∀ w, Calls Try.prog 12 #[.string (T.extract 0 m)] w fun e w' => e = .returned (.tuple #[.agg #[.bool false, .string ⟨#[]⟩, .slice none 0 0], .bool false]) ∧ Below w.heap.size w w') := fun w => by
        refine (iReadItem_any _ w).mono ?_
        rintro e w' ⟨hb, h⟩
        rw [← hm, hR3] at h
        exact ⟨h, hb⟩
      generalize itL z = l at HR1
      obtain ⟨hmi, hm2, hwm, hTc, hx13⟩ := long_arith hT2 hn6 hm
      have HWM : Hid (wrap64 (m : Int) = (m : Int)) := hwm
      clear hwm
      have hm0 : (0 : Int) ≤ (m : Int) := Int.natCast_nonneg m
      have hcat : ∀ W : World, (Op.stringOp .add T ⟨#[120]⟩).run Try.prog W = .ok (.string (T ++ ⟨#[120]⟩)) W := fun W => run_string_add_sum (P := Try.prog) W T ⟨#[120]⟩ hTc
      have hBB : (B.toList == B.toList) = true := beq_self_eq_true _
      have HBE : Hid (Below w.heap.size w wr) := below_then HB.out.1 hbel.out
      clear hown hT1 hT2 hz hzt hR2 hR3 hB hBs d1 c0 c1 hbel HB hm
      go_wp2_with fail
      refine (HIT.out _).mono ?_
      rintro e w2 ⟨rfl, hb2⟩
      rcases hx13 with ⟨q1, hsz⟩ | ⟨q1, q2, hsz⟩ | ⟨q1, q2, hsz⟩
      · have q1' : ¬ (55 : Int) < (n : Int) := by omega
        have q2' : ¬ (255 : Int) < (n : Int) := by omega
        have HSZ : Hid ((T.size : Int) = 1 + (n : Int)) := by show _ = _; omega
        clear hsz
        go_wp2_with fail
        refine (HR1.out _).mono ?_
        rintro e w3 ⟨a3, n3, c3, rfl, hb3⟩
        have b13 := below_then hb2 hb3
        obtain ⟨V3, hV3, hbV3, hx3⟩ := box1 w3 26 #[.bool l, .string B, .slice a3 n3 c3]
        have B3 := below_then b13 hbV3
        clear hb2 hb3 b13 hbV3
        go_wp2_with fail
        refine (HR2.out _).mono ?_
        rintro e w4 ⟨rfl, hb4⟩
        have y4 := hx3.on hb4 hx3.lt
        have A4 := below_then B3 hb4
        have l4 := y4.lt
        clear hb4 hx3 B3 hV3
        have hwm := HWM.out
        go_wp2_with (refine store_blk (cs' := #[.bool false, .string ⟨#[]⟩, .slice none 0 0]) rfl rfl rfl rfl rfl (Blk.new _ _ _) infoIt rfl (onesIt _ _ _ _ _) ?_; intro V4 h54 hoth hbel; have x4 := hoth _ _ _ (Nat.ne_of_gt l4) (y4.alloc _); have B4 := hbel _ _ A4.size (A4.alloc A4.size _); clear hoth hbel h54)
        clear y4 A4 l4 hwm
        refine (HR3.out _).mono ?_
        rintro e w5 ⟨rfl, hb5⟩
        have y5 := x4.on hb5 x4.lt
        have A5 := below_then B4 hb5
        have l5 := y5.lt
        clear hb5 x4 B4 hcv
        have hsz2 := HSZ.out
        go_wp2_with (refine store_blk (cs' := #[.bool false, .string ⟨#[]⟩, .slice none 0 0]) rfl rfl rfl rfl rfl (Blk.new _ _ _) infoIt rfl (onesIt _ _ _ _ _) ?_; intro V5 h55 hoth hbel; have x5 := hoth _ _ _ (Nat.ne_of_gt l5) (y5.alloc _); have B5 := hbel _ _ A5.size (A5.alloc A5.size _); have q3 := x5.cell 1; have hcv5 := HO.out V5 B5; clear hoth hbel h55)
        have BE := below_then HBE.out B5
        go_ret
        exact ⟨rfl, BE⟩
      · have q1' : (55 : Int) < (n : Int) := by omega
        have q2' : ¬ (255 : Int) < (n : Int) := by omega
        have HSZ : Hid ((T.size : Int) = 2 + (n : Int)) := by show _ = _; omega
        clear hsz
        go_wp2_with fail
        refine (HR1.out _).mono ?_
        rintro e w3 ⟨a3, n3, c3, rfl, hb3⟩
        have b13 := below_then hb2 hb3
        obtain ⟨V3, hV3, hbV3, hx3⟩ := box1 w3 26 #[.bool l, .string B, .slice a3 n3 c3]
        have B3 := below_then b13 hbV3
        clear hb2 hb3 b13 hbV3
        go_wp2_with fail
        refine (HR2.out _).mono ?_
        rintro e w4 ⟨rfl, hb4⟩
        have y4 := hx3.on hb4 hx3.lt
        have A4 := below_then B3 hb4
        have l4 := y4.lt
        clear hb4 hx3 B3 hV3
        have hwm := HWM.out
        go_wp2_with (refine store_blk (cs' := #[.bool false, .string ⟨#[]⟩, .slice none 0 0]) rfl rfl rfl rfl rfl (Blk.new _ _ _) infoIt rfl (onesIt _ _ _ _ _) ?_; intro V4 h54 hoth hbel; have x4 := hoth _ _ _ (Nat.ne_of_gt l4) (y4.alloc _); have B4 := hbel _ _ A4.size (A4.alloc A4.size _); clear hoth hbel h54)
        clear y4 A4 l4 hwm
        refine (HR3.out _).mono ?_
        rintro e w5 ⟨rfl, hb5⟩
        have y5 := x4.on hb5 x4.lt
        have A5 := below_then B4 hb5
        have l5 := y5.lt
        clear hb5 x4 B4 hcv
        have hsz2 := HSZ.out
        go_wp2_with (refine store_blk (cs' := #[.bool false, .string ⟨#[]⟩, .slice none 0 0]) rfl rfl rfl rfl rfl (Blk.new _ _ _) infoIt rfl (onesIt _ _ _ _ _) ?_; intro V5 h55 hoth hbel; have x5 := hoth _ _ _ (Nat.ne_of_gt l5) (y5.alloc _); have B5 := hbel _ _ A5.size (A5.alloc A5.size _); have q3 := x5.cell 1; have hcv5 := HO.out V5 B5; clear hoth hbel h55)
        have BE := below_then HBE.out B5
        go_ret
        exact ⟨rfl, BE⟩
      · have q1' : (55 : Int) < (n : Int) := by omega
        have q2' : (255 : Int) < (n : Int) := by omega
        have HSZ : Hid ((T.size : Int) = 3 + (n : Int)) := by show _ = _; omega
        clear hsz
        go_wp2_with fail
        refine (HR1.out _).mono ?_
        rintro e w3 ⟨a3, n3, c3, rfl, hb3⟩
        have b13 := below_then hb2 hb3
        obtain ⟨V3, hV3, hbV3, hx3⟩ := box1 w3 26 #[.bool l, .string B, .slice a3 n3 c3]
        have B3 := below_then b13 hbV3
        clear hb2 hb3 b13 hbV3
        go_wp2_with fail
        refine (HR2.out _).mono ?_
        rintro e w4 ⟨rfl, hb4⟩
        have y4 := hx3.on hb4 hx3.lt
        have A4 := below_then B3 hb4
        have l4 := y4.lt
        clear hb4 hx3 B3 hV3
        have hwm := HWM.out
        go_wp2_with (refine store_blk (cs' := #[.bool false, .string ⟨#[]⟩, .slice none 0 0]) rfl rfl rfl rfl rfl (Blk.new _ _ _) infoIt rfl (onesIt _ _ _ _ _) ?_; intro V4 h54 hoth hbel; have x4 := hoth _ _ _ (Nat.ne_of_gt l4) (y4.alloc _); have B4 := hbel _ _ A4.size (A4.alloc A4.size _); clear hoth hbel h54)
        clear y4 A4 l4 hwm
        refine (HR3.out _).mono ?_
        rintro e w5 ⟨rfl, hb5⟩
        have y5 := x4.on hb5 x4.lt
        have A5 := below_then B4 hb5
        have l5 := y5.lt
        clear hb5 x4 B4 hcv
        have hsz2 := HSZ.out
        go_wp2_with (refine store_blk (cs' := #[.bool false, .string ⟨#[]⟩, .slice none 0 0]) rfl rfl rfl rfl rfl (Blk.new _ _ _) infoIt rfl (onesIt _ _ _ _ _) ?_; intro V5 h55 hoth hbel; have x5 := hoth _ _ _ (Nat.ne_of_gt l5) (y5.alloc _); have B5 := hbel _ _ A5.size (A5.alloc A5.size _); have q3 := x5.cell 1; have hcv5 := HO.out V5 B5; clear hoth hbel h55)
        have BE := below_then HBE.out B5
        go_ret
        exact ⟨rfl, BE⟩

end Go.Proofs.Ytmpjnabadplbjaa
