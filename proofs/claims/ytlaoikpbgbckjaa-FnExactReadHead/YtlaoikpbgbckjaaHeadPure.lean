/-
  Heads as the document tells of them: no program in here.
-/
import Derived.Test.YtlaoikpbgbckjaaVarBack
import Derived.Test.YtlaoikpbgbckjaaTreePure
namespace Go.Proofs.Ytlaoikpbgbckjaa

/-- A head: its slot, its parent, its state, its body. -/
abbrev Hd : Type := Int × ByteArray × ByteArray × ByteArray
def hZ : Hd := (0, noT, noT, noT)
def hOkB (h : Hd) : Bool := decide (0 ≤ h.1 ∧ h.1 ≤ 10000) && decide (h.2.1.size = 32) && decide (h.2.2.1.size = 32) && decide (h.2.2.2.size = 32)
theorem hok_iff {h : Hd} : hOkB h = true ↔ (0 ≤ h.1 ∧ h.1 ≤ 10000) ∧ h.2.1.size = 32 ∧ h.2.2.1.size = 32 ∧ h.2.2.2.size = 32 := by
  unfold hOkB
  simp only [Bool.and_eq_true, decide_eq_true_eq]
  constructor
  · rintro ⟨⟨⟨a, b⟩, c⟩, d⟩; exact ⟨a, b, c, d⟩
  · rintro ⟨a, b, c, d⟩; exact ⟨⟨⟨a, b⟩, c⟩, d⟩

/-- A number, written in bytes. -/
def vT (n : Int) : ByteArray := ⟨(varB n.toNat).toArray⟩
def hTxt (h : Hd) : ByteArray := vT h.1 ++ h.2.1 ++ h.2.2.1 ++ h.2.2.2
def hTextV (h : Hd) : ByteArray × Bool := if hOkB h = true then (hTxt h, true) else (noT, false)

/-- The four parts of a text behind its number. -/
def hCut (t : ByteArray) (n j : Nat) : Hd := ((n : Int), t.extract j (j + 32), t.extract (j + 32) (j + 64), t.extract (j + 64) t.size)
def rdHead (t : ByteArray) : Hd × Bool := match rdAt t 0 with
  | none => (hZ, false)
  | some (n, j) => if t.size = j + 96 then (if hOkB (hCut t n j) = true then (hCut t n j, true) else (hZ, false)) else (hZ, false)

theorem bytes_cat (a b : ByteArray) : (a ++ b).data.toList = a.data.toList ++ b.data.toList := by rw [ByteArray.data_append, Array.toList_append]
theorem bytes_size (a : ByteArray) : a.data.toList.length = a.size := Array.length_toList
theorem vT_list (n : Nat) : (vT (n : Int)).data.toList = varB n := by simp [vT]
theorem vT_size (n : Nat) : (vT (n : Int)).size = (varB n).length := by rw [← bytes_size, vT_list]

theorem ext_parts (p a b c : ByteArray) : (p ++ a ++ b ++ c).extract p.size (p.size + a.size) = a ∧ (p ++ a ++ b ++ c).extract (p.size + a.size) (p.size + a.size + b.size) = b ∧ (p ++ a ++ b ++ c).extract (p.size + a.size + b.size) (p ++ a ++ b ++ c).size = c := by
  refine ⟨?_, ?_, ?_⟩
  all_goals apply bytes_ext
  all_goals rw [extract_list, bytes_cat, bytes_cat, bytes_cat]
  · rw [List.append_assoc, List.append_assoc, List.drop_append_of_le_length (by rw [bytes_size]; omega), List.drop_of_length_le (by rw [bytes_size]; omega), List.nil_append, List.take_append_of_le_length (by rw [bytes_size]; omega), List.take_of_length_le (by rw [bytes_size]; omega)]
  · rw [List.append_assoc, List.drop_append_of_le_length (by rw [List.length_append, bytes_size, bytes_size]; omega), List.drop_of_length_le (by rw [List.length_append, bytes_size, bytes_size]; omega), List.nil_append, List.take_append_of_le_length (by rw [bytes_size]; omega), List.take_of_length_le (by rw [bytes_size]; omega)]
  · rw [List.drop_append_of_le_length (by rw [List.length_append, List.length_append, bytes_size, bytes_size, bytes_size]; omega), List.drop_of_length_le (by rw [List.length_append, List.length_append, bytes_size, bytes_size, bytes_size]; omega), List.nil_append, List.take_of_length_le (by rw [bytes_size, ByteArray.size_append, ByteArray.size_append, ByteArray.size_append]; omega)]

/-- A right head comes back from its text. -/
theorem head_back {h : Hd} (hk : hOkB h = true) : rdHead (hTxt h) = (h, true) := by
  obtain ⟨s, a, b, c⟩ := h
  obtain ⟨hs, ha, hb, hc⟩ := hok_iff.1 hk
  simp only at hs ha hb hc
  obtain ⟨n, rfl⟩ : ∃ n : Nat, s = (n : Int) := ⟨s.toNat, by omega⟩
  have hr : rdAt (hTxt ((n : Int), a, b, c)) 0 = some (n, (vT (n : Int)).size) := by
    unfold rdAt
    rw [List.drop_zero]
    show (rd 5 (vT (n : Int) ++ a ++ b ++ c).data.toList 0 0).map _ = _
    rw [bytes_cat, bytes_cat, bytes_cat, vT_list, List.append_assoc, List.append_assoc, rd_back (by omega), vT_size]
    simp
  obtain ⟨e1, e2, e3⟩ := ext_parts (vT (n : Int)) a b c
  have hcut : hCut (hTxt ((n : Int), a, b, c)) n (vT (n : Int)).size = ((n : Int), a, b, c) := by
    unfold hCut hTxt
    simp only
    rw [ha] at e1 e2 e3
    rw [hb] at e2 e3
    rw [Nat.add_assoc _ 32 32] at e2 e3
    rw [e1, e2, e3]
  unfold rdHead
  rw [hr]
  simp only
  rw [hcut, if_pos hk, if_pos]
  unfold hTxt
  rw [ByteArray.size_append, ByteArray.size_append, ByteArray.size_append, ha, hb, hc]

/-- What is read is its text. -/
theorem head_text {t : ByteArray} {h : Hd} (hr : rdHead t = (h, true)) : hOkB h = true ∧ hTxt h = t := by
  unfold rdHead at hr
  cases hx : rdAt t 0 with
  | none => rw [hx] at hr; cases hr
  | some x =>
    obtain ⟨n, j⟩ := x
    rw [hx] at hr
    simp only at hr
    by_cases h1 : t.size = j + 96
    · rw [if_pos h1] at hr
      by_cases h2 : hOkB (hCut t n j) = true
      · rw [if_pos h2] at hr
        injection hr with hr
        rw [← hr]
        refine ⟨h2, ?_⟩
        have hc := rdAt_canon hx
        apply bytes_ext
        unfold hTxt hCut
        simp only
        rw [bytes_cat, bytes_cat, bytes_cat, vT_list, ← hc, extract_list, extract_list, extract_list]
        rw [show j + 32 - j = 32 by omega, show j + 64 - (j + 32) = 32 by omega, show t.size - (j + 64) = 32 by omega]
        have hl : t.data.toList.length = j + 96 := by rw [bytes_size, h1]
        rw [show t.data.toList.drop (j + 64) = (t.data.toList.drop j).drop 64 by rw [List.drop_drop], show t.data.toList.drop (j + 32) = (t.data.toList.drop j).drop 32 by rw [List.drop_drop]]
        conv => rhs; rw [← List.take_append_drop j t.data.toList]
        rw [List.append_assoc, List.append_assoc]
        congr 1
        have hd : (t.data.toList.drop j).length = 96 := by rw [List.length_drop, hl]; omega
        generalize t.data.toList.drop j = d at hd
        conv => rhs; rw [← List.take_append_drop 32 d]
        congr 1
        conv => rhs; rw [← List.take_append_drop 32 (d.drop 32), List.drop_drop]
        congr 1
        rw [List.take_of_length_le (by rw [List.length_drop, hd]; omega)]
      · rw [if_neg h2] at hr; cases hr
    · rw [if_neg h1] at hr; cases hr

end Go.Proofs.Ytlaoikpbgbckjaa
