/-
  A digest as blocks put to a state of bytes: plain mathematics.
-/
import Derived.Test.YthncegemhaofnaaDoorRoundsPure
import Derived.Test.YthncegemhaofnaaDoorHex
namespace Go.Proofs.YthncegemhaofnaaDoor

/-- k bytes of 0. -/
def zeroT (k : Nat) : ByteArray := ⟨(List.replicate k 0).toArray⟩
theorem zeroT_size (k : Nat) : (zeroT k).size = k := by show (List.replicate k (0 : UInt8)).toArray.size = k; simp
theorem zeroT_succ (k : Nat) : zeroT k ++ ⟨#[0]⟩ = zeroT (k + 1) := by
  apply bytes_ext
  show (zeroT k ++ ⟨#[0]⟩).data.toList = (List.replicate (k + 1) (0 : UInt8)).toArray.toList
  rw [ByteArray.data_append]
  simp [zeroT, List.replicate_succ']
set_option maxRecDepth 100000 in
theorem zero_text : textL zf 25 = List.replicate 200 0 := by decide +kernel
theorem zeroT_text : zeroT 200 = textT zf 25 := by unfold zeroT textT; rw [zero_text]

/-- The first j bytes of a text put to others from a place on. -/
def xr (l L : List UInt8) (c : Nat) : Nat → List UInt8
  | 0 => l
  | j + 1 => (xr l L c j).set j ((xr l L c j).getD j 0 ^^^ L.getD (c + j) 0)
theorem xr_length (l L : List UInt8) (c j : Nat) : (xr l L c j).length = l.length := by
  induction j with
  | zero => rfl
  | succ j ih => rw [xr, List.length_set, ih]
theorem getD_set (l : List UInt8) (k i : Nat) (b : UInt8) (hk : k < l.length) : (l.set k b).getD i 0 = if i = k then b else l.getD i 0 := by
  rw [List.getD_eq_getElem?_getD, List.getElem?_set]
  by_cases h : i = k
  · subst h; simp [hk]
  · rw [if_neg (fun e => h e.symm), if_neg h, ← List.getD_eq_getElem?_getD]
theorem xr_at (l L : List UInt8) (c j i : Nat) (hj : j ≤ l.length) : (xr l L c j).getD i 0 = if i < j then l.getD i 0 ^^^ L.getD (c + i) 0 else l.getD i 0 := by
  induction j with
  | zero => simp [xr]
  | succ j ih =>
    have ih := ih (by omega)
    rw [xr, getD_set _ _ _ _ (by rw [xr_length]; omega)]
    by_cases h : i = j
    · subst h
      rw [if_pos rfl, if_pos (by omega), ih, if_neg (by omega)]
    · rw [if_neg h, ih]
      by_cases h2 : i < j
      · rw [if_pos h2, if_pos (by omega)]
      · rw [if_neg h2, if_neg (by omega)]

theorem xr_word (l L : List UInt8) (k i : Nat) (hl : l.length = 200) (hi : i < 25) : loadF (xr l L (136 * k) 136) i = if i < 17 then loadF l i ^^^ wordAt (blk L k) (8 * i) else loadF l i := by
  apply BitVec.eq_of_getLsbD_eq
  intro j hj
  by_cases h : i < 17
  · rw [if_pos h, wordAt_blk L k i h, BitVec.getLsbD_xor, loadF, loadF, wordAt_bit _ _ _ hj, wordAt_bit _ _ _ hj, wordAt_bit _ _ _ hj, xr_at _ _ _ _ _ (by omega), if_pos (by omega), UInt8.toNat_xor, Nat.testBit_xor]
    rw [show 136 * k + 8 * i + j / 8 = 136 * k + (8 * i + j / 8) by omega]
  · rw [if_neg h, loadF, loadF, wordAt_bit _ _ _ hj, wordAt_bit _ _ _ hj, xr_at _ _ _ _ _ (by omega), if_neg (by omega)]

theorem allF_congr {f g : Nat → BitVec 64} (h : ∀ i, i < 25 → f i = g i) : ∀ i, i < 25 → allF f i = allF g i := allK_congr h 24

/-- A block put to the bytes of a state, and all rounds: the next state. -/
theorem full_block (L : List UInt8) (k : Nat) : fullT ⟨(xr (textL (absK L k) 25) L (136 * k) 136).toArray⟩ = textT (absK L (k + 1)) 25 := by
  have hl : (textL (absK L k) 25).length = 200 := textL_length _ 25
  have hs : (ByteArray.mk (xr (textL (absK L k) 25) L (136 * k) 136).toArray).size = 200 := by
    show (xr (textL (absK L k) 25) L (136 * k) 136).toArray.size = 200
    rw [List.size_toArray, xr_length, hl]
  unfold fullT
  rw [if_pos hs]
  refine textT_congr 25 fun i hi => ?_
  rw [show absK L (k + 1) = allF (mixK (absK L k) (blk L k) 17) from rfl]
  refine allF_congr (fun i hi => ?_) i hi
  rw [xr_word _ _ _ _ hl hi, mixK_at]
  by_cases h : i < 17
  · rw [if_pos h, if_pos h, loadF_textL _ 25 i hi]
  · rw [if_neg h, if_neg h, loadF_textL _ 25 i hi]

theorem padT_prefix (s : ByteArray) : (padT s).extract 0 s.size = s := by
  apply bytes_ext
  have hsl : s.data.toList.length = s.size := by simp
  rw [extract_list, List.drop_zero, Nat.sub_zero]
  show ((padL s.data.toList).toArray.toList).take s.size = _
  rw [List.toList_toArray]
  unfold padL
  have hb : (padBody s.data.toList).length = 136 * (s.size / 136 + 1) := by rw [padBody_length, hsl]
  rw [List.take_set_of_le (by omega)]
  unfold padBody
  rw [← hsl, List.take_left]

/-- A digest in figures. -/
def digHexT (s : ByteArray) : ByteArray := ⟨(hexL (digT s).data.toList).toArray⟩
theorem digHexT_size (s : ByteArray) : (digHexT s).size = 64 := by
  show (hexL (digT s).data.toList).toArray.size = 64
  rw [List.size_toArray, hexL_len]
  have : (digT s).data.toList.length = 32 := by have := digT_size s; simpa using this
  omega

end Go.Proofs.YthncegemhaofnaaDoor
