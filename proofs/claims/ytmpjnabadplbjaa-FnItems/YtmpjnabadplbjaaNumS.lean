/-
  The walks of the specification's NumText, ReadNum.
  (-DROP-: what the seat lacks is left out.)
-/
import Derived.Test.YtmpjnabadplbjaaJoined1
import Derived.Test.YtmpjnabadplbjaaJoined4
import Derived.Test.YtmpjnabadplbjaaJoined3
namespace Go.Proofs.Ytmpjnabadplbjaa
open Go.RowKit

theorem same_bytes {a b : ByteArray} (h : a.toList = b.toList) : a = b := by
  rw [ByteArray.toList_eq, ByteArray.toList_eq] at h
  obtain ⟨⟨l⟩⟩ := a
  obtain ⟨⟨m⟩⟩ := b
  have h' : l = m := h
  rw [h']

/-- A byte as a text. -/
theorem text1 (a : Nat) (ha : a < 256) (W : World) :
    (convert 22 9 (.slice (some ⟨W.heap.size, 0, none⟩) 1 1)).run Try.prog (W.alloc (.cells #[.int .u8 (a : Int)] 5)) = .ok (.string ⟨#[UInt8.ofNat a]⟩) (W.alloc (.cells #[.int .u8 (a : Int)] 5)) := by
  have h := World.ownsRow_lit (base := W.heap.size) (e := 5) (size := 1) W #[.int .u8 (a : Int)] 1 (Nat.le_refl _) (by simp [maxLen]) (by simp)
  have e : (#[Value.int .u8 (a : Int)]).toList = bytesV [UInt8.ofNat a] := by
    simp only [bytesV, List.map_cons, List.map_nil, toNat_of ha]
  rw [e] at h
  exact text_of_row (l := [UInt8.ofNat a]) h

set_option maxHeartbeats 800000 in
set_option maxRecDepth 100000 in
theorem sNumText_nat (n : Nat) (hn : n ≤ 9223372036854775807) (w : World) :
    Calls Try.prog 45 #[.int .i64 (n : Int)] w fun e w' => e = .returned (.string (numT n)) ∧ Below w.heap.size w w' := by
  have H0 : Hid (numB 8 n ByteArray.empty = numT n ∧ n < 256 ^ 8 ∧ (ByteArray.empty).size + 8 = 8 ∧ n ≤ 9223372036854775807) := ⟨rfl, by omega, rfl, hn⟩
  have HW : Hid (Below w.heap.size w w) := Below.refl _ _
  clear hn
  go_enter Try.func45, Try.ntmps45
  go_wp2
  go_loopw [0, 3] (fun i s wr => ∃ (k f : Nat) (t : ByteArray), i = .int .i64 (k : Int) ∧ s = .string t ∧ Hid (numB f k t = numT n ∧ k < 256 ^ f ∧ t.size + f = 8 ∧ k ≤ 9223372036854775807) ∧ Hid (Below w.heap.size w wr)) (fun i _ _ => (intOf i).toNat)
  case atStart => exact ⟨n, 8, ByteArray.empty, rfl, rfl, H0, HW⟩
  case round =>
    obtain ⟨k, f, t, rfl, rfl, HI, HB⟩ := hrel
    clear H0 HW
    by_cases hk : k = 0
    · subst hk
      have HE : Hid (t = numT n) := by have h := HI.out.1; rw [numB_zero] at h; exact h
      clear HI
      go_wp2
      go_ret
      exact ⟨by rw [HE.out]; rfl, HB.out⟩
    · have hk' : 0 < k := by omega
      have hlt : k ≤ 9223372036854775807 := HI.out.2.2.2
      have hsz : ¬ 9223372036854775807 < 1 + t.size := by have := HI.out.2.2.1; omega
      obtain ⟨g, rfl⟩ : ∃ g, f = g + 1 := ⟨f - 1, by
        have h := HI.out.2.1
        rcases Nat.eq_zero_or_pos f with h0 | h0
        · rw [h0] at h; have : k < 1 := h; omega
        · omega⟩
      obtain ⟨a, ha⟩ : ∃ a : Nat, a = k % 256 := ⟨_, rfl⟩
      obtain ⟨q, hq⟩ : ∃ q : Nat, q = k / 256 := ⟨_, rfl⟩
      have ht : Int.tmod (k : Int) 256 = (a : Int) := by rw [Int.tmod_eq_emod_of_nonneg (by omega)]; omega
      have hw8 : IntKind.u8.wrap (a : Int) = (a : Int) := by rw [IntWalk.u8_in _ (by omega)]
      have hd : Int.tdiv (k : Int) 256 = (q : Int) := by rw [Int.tdiv_eq_ediv_of_nonneg (by omega)]; omega
      have hcv := text1 a (by omega)
      have HN : Hid (numB g q (⟨#[UInt8.ofNat a]⟩ ++ t) = numT n ∧ q < 256 ^ g ∧ (⟨#[UInt8.ofNat a]⟩ ++ t : ByteArray).size + g = 8 ∧ q ≤ 9223372036854775807 ∧ q < k) := by
        have h := HI.out
        refine ⟨?_, ?_, ?_, ?_, ?_⟩
        · rw [hq, ha, ← numB_next t hk]; exact h.1
        · rw [hq]; exact Nat.div_lt_of_lt_mul (by rw [Nat.mul_comm, ← Nat.pow_succ]; exact h.2.1)
        · rw [ByteArray.size_append]
          have h1 : (ByteArray.mk #[UInt8.ofNat a]).size = 1 := rfl
          omega
        · omega
        · omega
      have hwq : Hid (wrap64 (q : Int) = (q : Int)) := IntWalk.wrap64_in _ (by omega)
      clear hlt ha hq hk
      go_wp2
      rw [hwq.out]
      exact ⟨⟨q, g, _, rfl, rfl, ⟨HN.out.1, HN.out.2.1, HN.out.2.2.1, HN.out.2.2.2.1⟩, HB.out.alloc HB.out.size _⟩, by simp only [intOf, Int.toNat_natCast]; exact HN.out.2.2.2.2⟩

set_option maxHeartbeats 800000 in
set_option maxRecDepth 100000 in
theorem sNumText_neg (n : Int) (hn : ¬ 0 < n) (w : World) :
    Calls Try.prog 45 #[.int .i64 n] w fun e w' => e = .returned (.string ⟨#[]⟩) ∧ Below w.heap.size w w' := by
  have HW : Hid (Below w.heap.size w w) := Below.refl _ _
  go_enter Try.func45, Try.ntmps45
  go_wp2
  go_loopw [0, 3] (fun i s wr => i = .int .i64 n ∧ s = .string ⟨#[]⟩ ∧ wr = w) (fun _ _ _ => 0)
  case atStart => exact ⟨rfl, rfl, rfl⟩
  case round =>
    obtain ⟨rfl, rfl, rfl⟩ := hrel
    go_wp2
    go_ret
    exact ⟨rfl, HW.out⟩
theorem sNumText_any (n : Int) (hn : n ≤ 9223372036854775807) (w : World) :
    Calls Try.prog 45 #[.int .i64 n] w fun e w' => e = .returned (.string (numT n.toNat)) ∧ Below w.heap.size w w' := by
  by_cases h : 0 < n
  · obtain ⟨k, rfl⟩ : ∃ k : Nat, n = (k : Int) := ⟨n.toNat, by omega⟩
    exact sNumText_nat k (by omega) w
  · rw [show n.toNat = 0 by omega]
    exact sNumText_neg n h w

/-- The number of a text, if it is as short as may be and no greater than a thousand million. -/
def rdN (t : ByteArray) : Nat × Bool := if t.size ≤ 4 then (if numT (valL t.data.toList) = t then (if valL t.data.toList ≤ 1000000000 then (valL t.data.toList, true) else (0, false)) else (0, false)) else (0, false)

set_option maxHeartbeats 800000 in
set_option maxRecDepth 100000 in
theorem sReadNum_any (t : ByteArray) (ht : t.size ≤ 9223372036854775807) (w : World) :
    Calls Try.prog 20 #[.string t] w fun e w' => e = .returned (.tuple #[.int .i64 ((rdN t).1 : Int), .bool (rdN t).2]) ∧ Below w.heap.size w w' := by
  have HW : Hid (Below w.heap.size w w) := Below.refl _ _
  by_cases h4 : t.size ≤ 4
  · have h4' : ¬ 4 < t.size := by omega
    have H0 : Hid (valL (t.data.toList.take 0) = 0) := rfl
    go_enter Try.func20, Try.ntmps20
    go_wp2
    go_loopw [4, 5] (fun i s wr => ∃ (k m : Nat), i = .int .i64 (m : Int) ∧ s = .int .i64 (k : Int) ∧ k ≤ t.size ∧ wr = w ∧ Hid (valL (t.data.toList.take k) = m)) (fun _ s _ => t.size - (intOf s).toNat)
    case atStart => exact ⟨0, 0, rfl, rfl, Nat.zero_le _, rfl, H0⟩
    case round =>
      obtain ⟨k, m, rfl, rfl, hk, rfl, HM⟩ := hrel
      clear H0
      by_cases hlt : k < t.size
      · have hlt' : (k : Int) < (t.size : Int) := by omega
        have hm : m < 256 ^ 3 := by
          have h1 := valL_lt (t.data.toList.take k)
          rw [HM.out] at h1
          refine Nat.lt_of_lt_of_le h1 (Nat.pow_le_pow_right (by decide) ?_)
          rw [List.length_take]
          omega
        have hx : t[k].toNat < 256 := t[k].toNat_lt
        have hd : k < t.data.toList.length := by rw [Array.length_toList]; exact hlt
        have HN : Hid (valL (t.data.toList.take (k + 1)) = 256 * m + t[k].toNat) := by
          show _ = _
          have e1 : t.data.toList[k] = t[k] := by rw [Array.getElem_toList]; rfl
          rw [List.take_succ_eq_append_getElem hd, valL_app, HM.out, e1, valL, valL, List.length_singleton, List.length_nil]
          omega
        go_wp2
        exact ⟨⟨k + 1, 256 * m + t[k].toNat, by go_num, by go_num, hlt, trivial, HN⟩, by simp [intOf]; omega⟩
      · have hlt' : ¬ (k : Int) < (t.size : Int) := by omega
        have HQ : Hid (valL t.data.toList = m) := by
          have h1 := HM.out
          rw [List.take_of_length_le (by rw [Array.length_toList]; exact Nat.le_of_not_lt hlt)] at h1
          exact h1
        have hm : m < 256 ^ 4 := by
          have h1 := valL_lt t.data.toList
          rw [HQ.out, Array.length_toList] at h1
          exact Nat.lt_of_lt_of_le h1 (Nat.pow_le_pow_right (by decide) h4)
        have HC : Hid (Calls Try.prog 45 #[.int .i64 (m : Int)] wr fun e w' => e = .returned (.string (numT m)) ∧ Below wr.heap.size wr w') := sNumText_nat m (by omega) wr
        have HR : Hid (rdN t = if numT m = t then (if m ≤ 1000000000 then (m, true) else (0, false)) else (0, false)) := by
          show _ = _
          rw [rdN, if_pos h4, HQ.out]
        clear HM
        by_cases he : numT m = t
        · rw [if_pos he] at HR
          have he' : ((numT m).toList == t.toList) = true := by rw [he]; exact beq_self_eq_true _
          by_cases hb : m ≤ 1000000000
          · rw [if_pos hb] at HR
            have hb' : ¬ 1000000000 < m := by omega
            go_wp2_with fail
            refine HC.out.mono ?_
            rintro f w2 ⟨rfl, hb2⟩
            go_wp2
            go_ret2
            exact ⟨by rw [HR.out]; rfl, hb2⟩
          · rw [if_neg hb] at HR
            have hb' : 1000000000 < m := by omega
            go_wp2_with fail
            refine HC.out.mono ?_
            rintro f w2 ⟨rfl, hb2⟩
            go_wp2
            go_ret2
            exact ⟨by rw [HR.out]; rfl, hb2⟩
        · rw [if_neg he] at HR
          have he' : ((numT m).toList == t.toList) = false := by rw [beq_eq_false_iff_ne]; exact fun h => he (same_bytes h)
          go_wp2_with fail
          refine HC.out.mono ?_
          rintro f w2 ⟨rfl, hb2⟩
          go_wp2
          go_ret2
          exact ⟨by rw [HR.out]; rfl, hb2⟩
  · have h4' : 4 < t.size := by omega
    have HE : Hid (rdN t = (0, false)) := by show _ = _; rw [rdN, if_neg h4]
    go_enter Try.func20, Try.ntmps20
    go_wp2
    go_ret2
    exact ⟨by rw [HE.out]; rfl, HW.out⟩

end Go.Proofs.Ytmpjnabadplbjaa
