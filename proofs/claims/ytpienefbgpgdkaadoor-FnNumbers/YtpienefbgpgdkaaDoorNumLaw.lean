/-
  The walk of FnNumbers.
-/
import Derived.Test.YtpienefbgpgdkaaDoorNumPure
import Derived.Test.YtpienefbgpgdkaaDoorImplC
namespace Go.Proofs.YtpienefbgpgdkaaDoor
open Go.RowKit Go.Lib

theorem cat_x (l : List UInt8) (hl : l.length ≤ 1000) (w : World) : (Op.stringOp .add ⟨#[120]⟩ ⟨l.toArray⟩).run Tryd.prog w = .ok (.string ⟨(120 :: l).toArray⟩) w := by
  have h := run_string_add_sum (P := Tryd.prog) w ⟨#[120]⟩ ⟨l.toArray⟩ (by simp [ByteArray.size]; omega)
  rw [h]
  exact congrArg (fun x => Result.ok (Value.string x) w) (cat_bytes [120] l)
theorem cat_y (l : List UInt8) (hl : l.length ≤ 1000) (w : World) : (Op.stringOp .add ⟨(120 :: l).toArray⟩ ⟨#[121]⟩).run Tryd.prog w = .ok (.string ⟨(120 :: (l ++ [121])).toArray⟩) w := by
  have h := run_string_add_sum (P := Tryd.prog) w ⟨(120 :: l).toArray⟩ ⟨#[121]⟩ (by simp [ByteArray.size]; omega)
  rw [h]
  exact congrArg (fun x => Result.ok (Value.string x) w) (cat_bytes (120 :: l) [121])

theorem numReadVar (n : Nat) (hn : n ≤ 1000000000) (w : World) :
    Calls Tryd.prog 7 #[.string ⟨(120 :: (varB n ++ [121])).toArray⟩, .int .i64 1] w fun e w' => e = .returned (.tuple #[.int .i64 (n : Int), .int .i64 (((varB n).length : Int) + 1), .bool true]) ∧ Below w.heap.size w w' := by
  have hl := varB_five hn
  have h := iReadVar_any ⟨(120 :: (varB n ++ [121])).toArray⟩ 1 (by simp [ByteArray.size]; omega) w
  rw [if_pos (by simp [ByteArray.size]; omega)] at h
  have e1 : (1 : Int).toNat = 1 := rfl
  rw [e1, readVar_back hn] at h
  have e : ret3 (some (n, 1 + (varB n).length)) = .tuple #[.int .i64 (n : Int), .int .i64 (((varB n).length : Int) + 1), .bool true] := by
    have e2 : ((1 + (varB n).length : Nat) : Int) = ((varB n).length : Int) + 1 := by omega
    show Value.tuple #[.int .i64 (n : Int), .int .i64 ((1 + (varB n).length : Nat) : Int), .bool true] = _
    rw [e2]
  rw [e] at h
  exact h

theorem numReadDec (n : Nat) (hn : n ≤ 1000000000) (w : World) (htab : Lib.TabIs Tryd.prog w "internal/strconv.uint64pow10" .u64 Lib.pow10Tab) :
    Calls Tryd.prog 8 #[.string ⟨(itoa (n : Int)).toArray⟩] w fun e w' => e = .returned (.tuple #[.int .i64 (n : Int), .bool true]) ∧ Below w.heap.size w w' := by
  have hl := itoa_length_le (n : Int) (by omega) (by omega)
  have h := iRead_any ⟨(itoa (n : Int)).toArray⟩ (by simp [ByteArray.size]; omega) w htab
  have e : rdDec (⟨(itoa (n : Int)).toArray⟩ : ByteArray).data.toList = some n := readDec_back hn
  rw [e] at h
  exact h

theorem numShort (t : List UInt8) (ht : t.length ≤ 300) (w : World) :
    Calls Tryd.prog 11 #[.string ⟨t.toArray⟩] w fun e w' => e = .returned (.tuple #[.string ⟨(varB t.length ++ t).toArray⟩, .bool true]) ∧ Below w.heap.size w w' := by
  have hs : (⟨t.toArray⟩ : ByteArray).size = t.length := by simp [ByteArray.size]
  have h := iShort_ok ⟨t.toArray⟩ (by rw [hs]; omega) w
  rw [hs, cat_bytes] at h
  exact h

theorem numReadShort (t : List UInt8) (ht : t.length ≤ 300) (w : World) :
    Calls Tryd.prog 12 #[.string ⟨(varB t.length ++ t).toArray⟩, .int .i64 0] w fun e w' => e = .returned (.tuple #[.string ⟨t.toArray⟩, .int .i64 (((varB t.length).length : Int) + (t.length : Int)), .bool true]) ∧ Below w.heap.size w w' := by
  have hl := varB_five (m := t.length) (by omega)
  have hsz : (⟨(varB t.length ++ t).toArray⟩ : ByteArray).size = (varB t.length).length + t.length := by simp [ByteArray.size]
  have h := iReadShort_any ⟨(varB t.length ++ t).toArray⟩ 0 (by rw [hsz]; omega) w
  have e : rdAny ⟨(varB t.length ++ t).toArray⟩ 0 = some (t.length, (varB t.length).length) := by
    unfold rdAny
    rw [if_pos (by rw [hsz]; omega)]
    exact readAt_back (by omega)
  rw [e] at h
  have e2 : shortOf ⟨(varB t.length ++ t).toArray⟩ (some (t.length, (varB t.length).length)) = .tuple #[.string ⟨t.toArray⟩, .int .i64 (((varB t.length).length : Int) + (t.length : Int)), .bool true] := by
    rw [shortOf, if_pos (by rw [hsz]; omega), extract_back]
    have e3 : (((varB t.length).length + t.length : Nat) : Int) = ((varB t.length).length : Int) + (t.length : Int) := by omega
    rw [e3]
  rw [e2] at h
  exact h

theorem numHex (t : List UInt8) (ht : t.length ≤ 300) (w : World) :
    Calls Tryd.prog 13 #[.string ⟨t.toArray⟩] w fun e w' => e = .returned (.tuple #[.string ⟨(hexL t).toArray⟩, .bool true]) ∧ Below w.heap.size w w' :=
  iHex_ok ⟨t.toArray⟩ (by simp [ByteArray.size]; omega) w

theorem numUnhex (t : List UInt8) (ht : t.length ≤ 300) (w : World) :
    Calls Tryd.prog 14 #[.string ⟨(hexL t).toArray⟩] w fun e w' => e = .returned (.tuple #[.string ⟨t.toArray⟩, .bool true]) ∧ Below w.heap.size w w' := by
  have hl := hexL_len t
  have h := iUnhex_ok ⟨(hexL t).toArray⟩ (by simp [ByteArray.size]; omega) (by simp [ByteArray.size]; omega) w
  have e : unS (⟨(hexL t).toArray⟩ : ByteArray).data.toList = some t := unhex_back t
  rw [e] at h
  exact h

set_option maxHeartbeats 4000000 in
set_option maxRecDepth 100000 in
theorem lawNumbers (a : Option Addr) (len cap : Nat) (w : World) (hm : len ≤ 9223372036854775807) (hA : ArgAt w a len w.heap.size) (htab : Lib.TabIs Tryd.prog w "internal/strconv.uint64pow10" .u64 Lib.pow10Tab) :
    Calls Tryd.prog 3 #[.slice a len cap] w fun e w' => e = .returned (.bool true) ∧ Below w.heap.size w w' := by
  have HT : Hid (Lib.TabBelow Tryd.prog w.heap.size w "internal/strconv.uint64pow10" .u64 Lib.pow10Tab) := Lib.tabBelow_of_tabIs htab
  have HA : Hid (ArgAt w a len w.heap.size) := hA
  clear htab hA
  by_cases hb : len ≤ 1048576
  · have hb' : ¬ (1048576 : Int) < (len : Int) := by omega
    go_enter Tryd.func3, Tryd.ntmps3
    go_wp2_with (go_at_call 4; go_in)
    refine (drawVar_any len cap a hb _ HA.out).mono ?_
    rintro e w1 ⟨x, rfl, hb1⟩
    have z1 := hb1.size
    by_cases x0 : x < 0
    · skip
      go_wp2_with fail
      obtain ⟨N, hNe, hN⟩ : ∃ N : Nat, (12345 : Int) = (N : Int) ∧ N ≤ 1000000000 := ⟨12345, rfl, by omega⟩
      rw [hNe]
      clear hNe
      have hvl := varB_five hN
      have hcx := cat_x (varB N) (by omega)
      have hcy := cat_y (varB N) (by omega)
      refine (iVarText_ok N hN _).mono ?_
      rintro e w2 ⟨rfl, b2⟩
      have hb2 := hb1.trans (b2.mono hb1.size)
      go_wp2_with fail
      refine (numReadVar N hN _).mono ?_
      rintro e w3 ⟨rfl, b3⟩
      have hb3 := hb2.trans (b3.mono hb2.size)
      go_wp2_with fail
      refine (iDecimal_any (N : Int) (by omega) (by omega) _ (HT.out w3 hb3)).mono ?_
      rintro e w4a ⟨rfl, b4a⟩
      have hb4a := hb3.trans (b4a.mono hb3.size)
      go_wp2_with fail
      refine (numReadDec N hN _ (HT.out w4a hb4a)).mono ?_
      rintro e w4 ⟨rfl, b4⟩
      have hb4 := hb4a.trans (b4.mono hb4a.size)
      clear b2 b3 b4a b4 hb4a
      go_wp2_with fail
      refine (drawHex_any len cap a hb _ (fun j hj => by obtain ⟨p, q, r, s1, s2, s3⟩ := HA.out.on hb4 j hj; exact ⟨p, q, r, s1, Nat.lt_of_lt_of_le s2 hb4.size, s3⟩)).mono ?_
      rintro e w5 ⟨t, rfl, htl, b5⟩
      have hb5 := hb4.trans (b5.mono hb4.size)
      clear b5
      by_cases h3 : t.length ≤ 300
      · have h3' : ¬ (300 : Int) < (t.length : Int) := by omega
        obtain ⟨T, hTe⟩ : ∃ T, T = t := ⟨_, rfl⟩
        subst hTe
        have hT : T.length ≤ 300 := h3
        go_wp2_with fail
        refine (numShort T hT _).mono ?_
        rintro e w6 ⟨rfl, b6⟩
        have hb6 := hb5.trans (b6.mono hb5.size)
        go_wp2_with fail
        refine (numReadShort T hT _).mono ?_
        rintro e w7 ⟨rfl, b7⟩
        have hb7 := hb6.trans (b7.mono hb6.size)
        go_wp2_with fail
        refine (numHex T hT _).mono ?_
        rintro e w8 ⟨rfl, b8⟩
        have hb8 := hb7.trans (b8.mono hb7.size)
        go_wp2_with fail
        refine (numUnhex T hT _).mono ?_
        rintro e w9 ⟨rfl, b9⟩
        have hb9 := hb8.trans (b9.mono hb8.size)
        clear b6 b7 b8 b9 hb1 hb2 hb3 hb4 hb5 hb6 hb7 hb8 hcx hcy
        go_wp2
        go_ret
        exact ⟨rfl, hb9⟩
      · have h3' : (300 : Int) < (t.length : Int) := by omega
        go_wp2_with fail
        obtain ⟨T, hTe, hT⟩ : ∃ T : List UInt8, (⟨#[97, 98, 99]⟩ : ByteArray) = ⟨T.toArray⟩ ∧ T.length ≤ 300 := ⟨[97, 98, 99], rfl, by simp⟩
        rw [hTe]
        clear hTe
        refine (numShort T hT _).mono ?_
        rintro e w6 ⟨rfl, b6⟩
        have hb6 := hb5.trans (b6.mono hb5.size)
        go_wp2_with fail
        refine (numReadShort T hT _).mono ?_
        rintro e w7 ⟨rfl, b7⟩
        have hb7 := hb6.trans (b7.mono hb6.size)
        go_wp2_with fail
        refine (numHex T hT _).mono ?_
        rintro e w8 ⟨rfl, b8⟩
        have hb8 := hb7.trans (b8.mono hb7.size)
        go_wp2_with fail
        refine (numUnhex T hT _).mono ?_
        rintro e w9 ⟨rfl, b9⟩
        have hb9 := hb8.trans (b9.mono hb8.size)
        clear b6 b7 b8 b9 hb1 hb2 hb3 hb4 hb5 hb6 hb7 hb8 hcx hcy
        go_wp2
        go_ret
        exact ⟨rfl, hb9⟩
    · by_cases x1 : 1000000000 < x
      · skip
        go_wp2_with fail
        obtain ⟨N, hNe, hN⟩ : ∃ N : Nat, (12345 : Int) = (N : Int) ∧ N ≤ 1000000000 := ⟨12345, rfl, by omega⟩
        rw [hNe]
        clear hNe
        have hvl := varB_five hN
        have hcx := cat_x (varB N) (by omega)
        have hcy := cat_y (varB N) (by omega)
        refine (iVarText_ok N hN _).mono ?_
        rintro e w2 ⟨rfl, b2⟩
        have hb2 := hb1.trans (b2.mono hb1.size)
        go_wp2_with fail
        refine (numReadVar N hN _).mono ?_
        rintro e w3 ⟨rfl, b3⟩
        have hb3 := hb2.trans (b3.mono hb2.size)
        go_wp2_with fail
        refine (iDecimal_any (N : Int) (by omega) (by omega) _ (HT.out w3 hb3)).mono ?_
        rintro e w4a ⟨rfl, b4a⟩
        have hb4a := hb3.trans (b4a.mono hb3.size)
        go_wp2_with fail
        refine (numReadDec N hN _ (HT.out w4a hb4a)).mono ?_
        rintro e w4 ⟨rfl, b4⟩
        have hb4 := hb4a.trans (b4.mono hb4a.size)
        clear b2 b3 b4a b4 hb4a
        go_wp2_with fail
        refine (drawHex_any len cap a hb _ (fun j hj => by obtain ⟨p, q, r, s1, s2, s3⟩ := HA.out.on hb4 j hj; exact ⟨p, q, r, s1, Nat.lt_of_lt_of_le s2 hb4.size, s3⟩)).mono ?_
        rintro e w5 ⟨t, rfl, htl, b5⟩
        have hb5 := hb4.trans (b5.mono hb4.size)
        clear b5
        by_cases h3 : t.length ≤ 300
        · have h3' : ¬ (300 : Int) < (t.length : Int) := by omega
          obtain ⟨T, hTe⟩ : ∃ T, T = t := ⟨_, rfl⟩
          subst hTe
          have hT : T.length ≤ 300 := h3
          go_wp2_with fail
          refine (numShort T hT _).mono ?_
          rintro e w6 ⟨rfl, b6⟩
          have hb6 := hb5.trans (b6.mono hb5.size)
          go_wp2_with fail
          refine (numReadShort T hT _).mono ?_
          rintro e w7 ⟨rfl, b7⟩
          have hb7 := hb6.trans (b7.mono hb6.size)
          go_wp2_with fail
          refine (numHex T hT _).mono ?_
          rintro e w8 ⟨rfl, b8⟩
          have hb8 := hb7.trans (b8.mono hb7.size)
          go_wp2_with fail
          refine (numUnhex T hT _).mono ?_
          rintro e w9 ⟨rfl, b9⟩
          have hb9 := hb8.trans (b9.mono hb8.size)
          clear b6 b7 b8 b9 hb1 hb2 hb3 hb4 hb5 hb6 hb7 hb8 hcx hcy
          go_wp2
          go_ret
          exact ⟨rfl, hb9⟩
        · have h3' : (300 : Int) < (t.length : Int) := by omega
          go_wp2_with fail
          obtain ⟨T, hTe, hT⟩ : ∃ T : List UInt8, (⟨#[97, 98, 99]⟩ : ByteArray) = ⟨T.toArray⟩ ∧ T.length ≤ 300 := ⟨[97, 98, 99], rfl, by simp⟩
          rw [hTe]
          clear hTe
          refine (numShort T hT _).mono ?_
          rintro e w6 ⟨rfl, b6⟩
          have hb6 := hb5.trans (b6.mono hb5.size)
          go_wp2_with fail
          refine (numReadShort T hT _).mono ?_
          rintro e w7 ⟨rfl, b7⟩
          have hb7 := hb6.trans (b7.mono hb6.size)
          go_wp2_with fail
          refine (numHex T hT _).mono ?_
          rintro e w8 ⟨rfl, b8⟩
          have hb8 := hb7.trans (b8.mono hb7.size)
          go_wp2_with fail
          refine (numUnhex T hT _).mono ?_
          rintro e w9 ⟨rfl, b9⟩
          have hb9 := hb8.trans (b9.mono hb8.size)
          clear b6 b7 b8 b9 hb1 hb2 hb3 hb4 hb5 hb6 hb7 hb8 hcx hcy
          go_wp2
          go_ret
          exact ⟨rfl, hb9⟩
      · obtain ⟨N, rfl⟩ : ∃ N : Nat, x = N := ⟨x.toNat, by omega⟩
        have hN : N ≤ 1000000000 := by omega
        go_wp2_with fail
        have hvl := varB_five hN
        have hcx := cat_x (varB N) (by omega)
        have hcy := cat_y (varB N) (by omega)
        refine (iVarText_ok N hN _).mono ?_
        rintro e w2 ⟨rfl, b2⟩
        have hb2 := hb1.trans (b2.mono hb1.size)
        go_wp2_with fail
        refine (numReadVar N hN _).mono ?_
        rintro e w3 ⟨rfl, b3⟩
        have hb3 := hb2.trans (b3.mono hb2.size)
        go_wp2_with fail
        refine (iDecimal_any (N : Int) (by omega) (by omega) _ (HT.out w3 hb3)).mono ?_
        rintro e w4a ⟨rfl, b4a⟩
        have hb4a := hb3.trans (b4a.mono hb3.size)
        go_wp2_with fail
        refine (numReadDec N hN _ (HT.out w4a hb4a)).mono ?_
        rintro e w4 ⟨rfl, b4⟩
        have hb4 := hb4a.trans (b4.mono hb4a.size)
        clear b2 b3 b4a b4 hb4a
        go_wp2_with fail
        refine (drawHex_any len cap a hb _ (fun j hj => by obtain ⟨p, q, r, s1, s2, s3⟩ := HA.out.on hb4 j hj; exact ⟨p, q, r, s1, Nat.lt_of_lt_of_le s2 hb4.size, s3⟩)).mono ?_
        rintro e w5 ⟨t, rfl, htl, b5⟩
        have hb5 := hb4.trans (b5.mono hb4.size)
        clear b5
        by_cases h3 : t.length ≤ 300
        · have h3' : ¬ (300 : Int) < (t.length : Int) := by omega
          obtain ⟨T, hTe⟩ : ∃ T, T = t := ⟨_, rfl⟩
          subst hTe
          have hT : T.length ≤ 300 := h3
          go_wp2_with fail
          refine (numShort T hT _).mono ?_
          rintro e w6 ⟨rfl, b6⟩
          have hb6 := hb5.trans (b6.mono hb5.size)
          go_wp2_with fail
          refine (numReadShort T hT _).mono ?_
          rintro e w7 ⟨rfl, b7⟩
          have hb7 := hb6.trans (b7.mono hb6.size)
          go_wp2_with fail
          refine (numHex T hT _).mono ?_
          rintro e w8 ⟨rfl, b8⟩
          have hb8 := hb7.trans (b8.mono hb7.size)
          go_wp2_with fail
          refine (numUnhex T hT _).mono ?_
          rintro e w9 ⟨rfl, b9⟩
          have hb9 := hb8.trans (b9.mono hb8.size)
          clear b6 b7 b8 b9 hb1 hb2 hb3 hb4 hb5 hb6 hb7 hb8 hcx hcy
          go_wp2
          go_ret
          exact ⟨rfl, hb9⟩
        · have h3' : (300 : Int) < (t.length : Int) := by omega
          go_wp2_with fail
          obtain ⟨T, hTe, hT⟩ : ∃ T : List UInt8, (⟨#[97, 98, 99]⟩ : ByteArray) = ⟨T.toArray⟩ ∧ T.length ≤ 300 := ⟨[97, 98, 99], rfl, by simp⟩
          rw [hTe]
          clear hTe
          refine (numShort T hT _).mono ?_
          rintro e w6 ⟨rfl, b6⟩
          have hb6 := hb5.trans (b6.mono hb5.size)
          go_wp2_with fail
          refine (numReadShort T hT _).mono ?_
          rintro e w7 ⟨rfl, b7⟩
          have hb7 := hb6.trans (b7.mono hb6.size)
          go_wp2_with fail
          refine (numHex T hT _).mono ?_
          rintro e w8 ⟨rfl, b8⟩
          have hb8 := hb7.trans (b8.mono hb7.size)
          go_wp2_with fail
          refine (numUnhex T hT _).mono ?_
          rintro e w9 ⟨rfl, b9⟩
          have hb9 := hb8.trans (b9.mono hb8.size)
          clear b6 b7 b8 b9 hb1 hb2 hb3 hb4 hb5 hb6 hb7 hb8 hcx hcy
          go_wp2
          go_ret
          exact ⟨rfl, hb9⟩
  · have hb' : (1048576 : Int) < (len : Int) := by omega
    go_enter Tryd.func3, Tryd.ntmps3
    go_wp2
    go_ret
    exact ⟨rfl, Below.refl _ _⟩

end Go.Proofs.YtpienefbgpgdkaaDoor
