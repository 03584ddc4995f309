/-
  Rounds one behind the other, turns there and back: plain mathematics.
-/
import Derived.Test.YthncegemhaofnaaDoorKeccI
import Derived.Test.YthncegemhaofnaaDoorRot
import Derived.Test.YthncegemhaofnaaDoorDigPure
namespace Go.Proofs.YthncegemhaofnaaDoor

/-- k rounds, one behind the other. -/
def stepN (s : ByteArray) : Nat → ByteArray
  | 0 => s
  | k + 1 => roundT (stepN s k) (k : Int)

theorem stepN_other {s : ByteArray} (h : s.size ≠ 200) (k : Nat) : stepN s k = s := by
  induction k with
  | zero => rfl
  | succ k ih => rw [stepN, ih, roundT_no (by omega)]

theorem textT_list (f : Nat → BitVec 64) (n : Nat) : (textT f n).data.toList = textL f n := by
  show (textL f n).toArray.toList = _; simp

theorem textT_congr {f g : Nat → BitVec 64} (n : Nat) (h : ∀ i, i < n → f i = g i) : textT f n = textT g n := by
  unfold textT; rw [textL_congr n h]

theorem stepN_size {s : ByteArray} (h : s.size = 200) (k : Nat) (hk : k ≤ 24) : (stepN s k).size = 200 := by
  induction k with
  | zero => exact h
  | succ k ih => rw [stepN, roundT_yes (ih (by omega)) (by omega), textT_size]

theorem stepN_at {s : ByteArray} (h : s.size = 200) (k : Nat) (hk : k < 24) : stepN s (k + 1) = textT (allK (loadF s.data.toList) (k + 1)) 25 := by
  induction k with
  | zero => rw [stepN, stepN, roundT_yes h (by omega)]; rfl
  | succ k ih =>
    rw [stepN, roundT_yes (stepN_size h (k + 1) (by omega)) (by omega), ih (by omega), textT_list]
    refine textT_congr 25 fun i hi => ?_
    rw [show allK (loadF s.data.toList) (k + 1 + 1) = roundF (allK (loadF s.data.toList) (k + 1)) (k + 1) from rfl]
    exact roundF_congr (fun i hi => loadF_textL _ 25 i hi) (k + 1) i hi

/-- All rounds are the whole. -/
theorem stepN_all (s : ByteArray) : stepN s 24 = fullT s := by
  unfold fullT
  by_cases h : s.size = 200
  · rw [if_pos h, stepN_at h 23 (by omega)]; rfl
  · rw [if_neg h, stepN_other h]

theorem fullT_size (s : ByteArray) : (fullT s).size = s.size := by
  unfold fullT
  by_cases h : s.size = 200
  · rw [if_pos h, textT_size, h]
  · rw [if_neg h]

theorem stepN_small {s : ByteArray} (h : s.size ≤ 1048576) (k : Nat) (hk : k ≤ 24) : (stepN s k).size ≤ 1048576 := by
  by_cases h2 : s.size = 200
  · rw [stepN_size h2 k hk]; omega
  · rw [stepN_other h2]; exact h

/-- What is turned there and back is as it was. -/
theorem rot_back (s : ByteArray) (n : Nat) : rotT (rotT s (n : Int)) ((64 - n % 64 : Nat) : Int) = s := by
  by_cases h : s.size = 8
  · have hl : s.data.toList.length = 8 := by simpa using h
    have e := rotT_yes (m := n) h
    have hz : (rotT s (n : Int)).size = 8 := by rw [e]; show ((bytesOf _ 8).toArray).size = 8; simp [bytesOf_length]
    have hd : (rotT s (n : Int)).data.toList = bytesOf (rotl (wordAt s.data.toList 0) (n % 64)) 8 := by rw [e]
    rw [rotT_yes hz, hd, wordAt_bytesOf, rotl_back _ _ (Nat.mod_lt _ (by decide)), bytesOf_wordAt _ hl]
  · have e : rotT s (n : Int) = s := rotT_no (by omega)
    rw [e]; exact rotT_no (by omega)

theorem rotT_size_le {s : ByteArray} (n : Int) (h : s.size ≤ 9) : (rotT s n).size ≤ 9 := by
  unfold rotT
  split
  · show ((bytesOf _ 8).toArray).size ≤ 9; simp [bytesOf_length]
  · exact h

end Go.Proofs.YthncegemhaofnaaDoor
