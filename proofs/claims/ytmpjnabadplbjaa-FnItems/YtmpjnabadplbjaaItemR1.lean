/-
  The walk of the specification's l17Size.
  (-DROP-: what the seat lacks is left out.)
-/
import Derived.Test.YtmpjnabadplbjaaJoined3
import Derived.Test.YtmpjnabadplbjaaNumS
namespace Go.Proofs.Ytmpjnabadplbjaa
open Go.RowKit

/-- Where what stands behind a head begins, how long it is, and whether there is one; b is the head's byte. -/
def sizeR (t : ByteArray) (at' low b : Nat) : Nat × Nat × Bool :=
  if b ≤ low + 55 then (at' + 1, b - low, true)
  else if b ≤ low + 57 then (if at' + (b - low - 55) < t.size then (at' + 1 + (b - low - 55), (rdN (t.extract (at' + 1) (at' + 1 + (b - low - 55)))).1, (rdN (t.extract (at' + 1) (at' + 1 + (b - low - 55)))).2 && decide (55 < (rdN (t.extract (at' + 1) (at' + 1 + (b - low - 55)))).1)) else (0, 0, false))
  else (0, 0, false)

set_option maxHeartbeats 1600000 in
set_option maxRecDepth 100000 in
theorem sSize17_any (t : ByteArray) (i low b : Nat) (ht : t.size ≤ 1000000) (hi : i < t.size) (hb : t[i].toNat = b) (hl : low ≤ b) (w : World) :
    Calls Try.prog 62 #[.string t, .int .i64 (i : Int), .int .i64 (low : Int)] w fun f w' => f = .returned (.tuple #[.int .i64 ((sizeR t i low b).1 : Int), .int .i64 ((sizeR t i low b).2.1 : Int), .bool (sizeR t i low b).2.2]) ∧ Below w.heap.size w w' := by
  have HW : Hid (Below w.heap.size w w) := Below.refl _ _
  have hb256 : b < 256 := by rw [← hb]; exact t[i].toNat_lt
  obtain ⟨c, hc⟩ : ∃ c : Nat, b = low + c := ⟨b - low, by omega⟩
  have hcb : c ≤ 255 := by omega
  have hbl : (b : Int) - (low : Int) = (c : Int) := by omega
  have hi0 : (0 : Int) ≤ (i : Int) := by omega
  have hi1 : (i : Int) < (t.size : Int) := by omega
  by_cases h1 : c ≤ 55
  · have HE : Hid (sizeR t i low b = (i + 1, c, true)) := by show _ = _; rw [sizeR, if_pos (by omega), show b - low = c by omega]
    clear hc hl
    go_enter Try.func62, Try.ntmps62
    go_wp2
    go_ret3
    exact ⟨by rw [HE.out]; rfl, HW.out⟩
  · by_cases h2 : c ≤ 57
    · obtain ⟨k, hk⟩ : ∃ k : Nat, c = 55 + k := ⟨c - 55, by omega⟩
      have hck : (c : Int) - 55 = (k : Int) := by omega
      have hk2 : ¬ 2 < k := by omega
      by_cases h3 : i + k < t.size
      · have HE : Hid (sizeR t i low b = (i + 1 + k, (rdN (t.extract (i + 1) (i + 1 + k))).1, (rdN (t.extract (i + 1) (i + 1 + k))).2 && decide (55 < (rdN (t.extract (i + 1) (i + 1 + k))).1))) := by
          show _ = _
          rw [sizeR, if_neg (by omega), if_pos (by omega), show b - low - 55 = k by omega, if_pos h3]
        have HC : Hid (∀ w, Calls Try.prog 20 #[.string (t.extract (i + 1) (i + 1 + k))] w fun e w' => e = .returned (.tuple #[.int .i64 ((rdN (t.extract (i + 1) (i + 1 + k))).1 : Int), .bool (rdN (t.extract (i + 1) (i + 1 + k))).2]) ∧ Below w.heap.size w w') := fun w => sReadNum_any _ (by rw [ByteArray.size_extract]; omega) w
        have h3' : ¬ (t.size : Int) - (i : Int) - 1 < (k : Int) := by omega
        clear hc hk hl
        generalize (rdN (t.extract (i + 1) (i + 1 + k))).1 = n at HE HC
        generalize (rdN (t.extract (i + 1) (i + 1 + k))).2 = o at HE HC
        cases o
        · rw [Bool.false_and] at HE
          go_enter Try.func62, Try.ntmps62
          go_wp2_with fail
          refine (HC.out _).mono ?_
          rintro f w2 ⟨rfl, hb2⟩
          go_wp2
          go_ret3
          exact ⟨by rw [HE.out]; rfl, hb2⟩
        · rw [Bool.true_and] at HE
          have HD : Hid (decide ((55 : Int) < (n : Int)) = decide (55 < n)) := decide_eq_decide.2 (by omega)
          go_enter Try.func62, Try.ntmps62
          go_wp2_with fail
          refine (HC.out _).mono ?_
          rintro f w2 ⟨rfl, hb2⟩
          go_wp2
          go_ret3
          exact ⟨by rw [HE.out, ← HD.out]; rfl, hb2⟩
      · have HE : Hid (sizeR t i low b = (0, 0, false)) := by
          show _ = _
          rw [sizeR, if_neg (by omega), if_pos (by omega), show b - low - 55 = k by omega, if_neg h3]
        have h3' : (t.size : Int) - (i : Int) - 1 < (k : Int) := by omega
        clear hc hk hl
        go_enter Try.func62, Try.ntmps62
        go_wp2
        go_ret3
        exact ⟨by rw [HE.out]; rfl, HW.out⟩
    · have HE : Hid (sizeR t i low b = (0, 0, false)) := by
        show _ = _
        rw [sizeR, if_neg (by omega), if_neg (by omega)]
      have h2' : 2 < (c : Int) - 55 := by omega
      clear hc hl
      go_enter Try.func62, Try.ntmps62
      go_wp2
      go_ret3
      exact ⟨by rw [HE.out]; rfl, HW.out⟩

end Go.Proofs.Ytmpjnabadplbjaa
