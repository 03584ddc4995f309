/-
  The walk of the specification's ReadPrefix.
  (-DROP-: what the seat lacks is left out.)
-/
import Derived.Test.YtengnjffajimdaaNibS4
namespace Go.Proofs.Ytengnjffajimdaa
open Go.RowKit

def rdPl (t : ByteArray) : List Int := match rdP t with | some (l, _) => l | none => []
def rdPb (t : ByteArray) : Bool := match rdP t with | some (_, b) => b | none => false

theorem rdP_nil {t : ByteArray} (h : t.size = 0) : rdP t = none := by
  have e : t.data.toList = [] := List.eq_nil_of_length_eq_zero (by rw [Array.length_toList]; exact h)
  unfold rdP
  rw [e]
theorem cons_text {t : ByteArray} (h : 0 < t.size) : t.data.toList = t[0] :: t.data.toList.drop 1 := by
  have hd : 0 < t.data.toList.length := by rw [Array.length_toList]; exact h
  have e1 : t.data.toList[0] = t[0] := by rw [Array.getElem_toList]; rfl
  have h2 := List.drop_eq_getElem_cons hd
  rw [List.drop_zero, e1] at h2
  exact h2
theorem rdP_cons {t : ByteArray} (h : 0 < t.size) : rdP t = if t[0].toNat < 64 ∧ (t.data.toList.drop 1).length ≤ 39 ∧ nibOk (rdL t[0] (t.data.toList.drop 1)) = true ∧ preL (rdL t[0] (t.data.toList.drop 1)) (rdLeaf t[0]) = t[0] :: t.data.toList.drop 1 then some (rdL t[0] (t.data.toList.drop 1), rdLeaf t[0]) else none := by
  unfold rdP
  split
  · rename_i e2
    have e := (cons_text h).symm.trans e2
    cases e
  · rename_i b r e2
    have e := (cons_text h).symm.trans e2
    injection e with e3 e4
    subst e3
    rw [e4]
theorem rdP_high {t : ByteArray} (h : 0 < t.size) (hb : 64 ≤ t[0].toNat) : rdP t = none := by
  rw [rdP_cons h, if_neg]
  rintro ⟨h1, _⟩
  omega
theorem rdP_long {t : ByteArray} (h : 40 < t.size) : rdP t = none := by
  rw [rdP_cons (by omega), if_neg]
  rintro ⟨_, h1, _⟩
  rw [List.length_drop, Array.length_toList] at h1
  have : t.data.size = t.size := rfl
  omega
/-- What is left to ask once the first byte and the length are right. -/
theorem rdP_main {t : ByteArray} (h : 0 < t.size) (h1 : t[0].toNat < 64) (h2 : t.size ≤ 40) :
    (nibOk (rdL t[0] (t.data.toList.drop 1)) = true ∧ preT (rdL t[0] (t.data.toList.drop 1)) (rdLeaf t[0]) = t → rdP t = some (rdL t[0] (t.data.toList.drop 1), rdLeaf t[0])) ∧
    (¬ (nibOk (rdL t[0] (t.data.toList.drop 1)) = true ∧ preT (rdL t[0] (t.data.toList.drop 1)) (rdLeaf t[0]) = t) → rdP t = none) := by
  have hs : t.data.size = t.size := rfl
  have hl : (t.data.toList.drop 1).length ≤ 39 := by rw [List.length_drop, Array.length_toList]; omega
  rw [rdP_cons h]
  constructor
  · rintro ⟨a, b⟩
    rw [if_pos]
    refine ⟨h1, hl, a, ?_⟩
    unfold preT at b
    rw [if_pos a] at b
    have := congrArg (fun x : ByteArray => x.data.toList) b
    rw [← cons_text h]
    exact this
  · intro hn
    rw [if_neg]
    rintro ⟨_, _, a, b⟩
    refine hn ⟨a, ?_⟩
    unfold preT
    rw [if_pos a, b, ← cons_text h]
theorem nibs_tail (t : ByteArray) : nibs (t.extract 1 t.size) = nibL (t.data.toList.drop 1) := by
  unfold nibs
  have hs : t.data.size = t.size := rfl
  have e : (t.extract 1 t.size).data.toList = t.data.toList.drop 1 := by
    rw [ByteArray.data_extract, Array.toList_extract, List.extract_eq_take_drop]
    rw [List.take_of_length_le]
    rw [List.length_drop, Array.length_toList, hs]
    exact Nat.le_refl _
  rw [e]

end Go.Proofs.Ytengnjffajimdaa
