/-
  ReadItem finds a right item's text, and nothing else.
-/
import Derived.Test.YtmpjnabadplbjaaItemBack2
import Derived.Test.YtmpjnabadplbjaaItemR5
namespace Go.Proofs.Ytmpjnabadplbjaa

theorem textI_of {d : Nat} {x : It d} (h1 : okI x = true) (h2 : (textD d x).size ≤ 900) : textI x = (textD d x, true) := by
  unfold textI
  rw [if_pos h1, if_pos h2]
theorem textI_yes {d : Nat} {x : It d} (h : (textI x).2 = true) : okI x = true ∧ (textD d x).size ≤ 900 ∧ textI x = (textD d x, true) := by
  unfold textI at h
  by_cases h1 : okI x = true
  · rw [if_pos h1] at h
    by_cases h2 : (textD d x).size ≤ 900
    · exact ⟨h1, h2, textI_of h1 h2⟩
    · rw [if_neg h2] at h
      cases h
  · rw [if_neg h1] at h
    cases h
/-- What is written is read again. -/
theorem read_back {d : Nat} {x : It d} (h : (textI x).2 = true) : ∃ y : It 6, readI (textI x).1 = some y ∧ sameD d 6 x y = true ∧ textI y = textI x := by
  obtain ⟨h1, h2, h3⟩ := textI_yes h
  rw [h3]
  obtain ⟨y, h4, h5⟩ := rd_text 5 0 d x (textD d x) 0 rfl (by omega) h1 (by omega) ⟨ByteArray.empty, ByteArray.empty, by rw [ByteArray.empty_append, ByteArray.append_empty], rfl⟩
  have h6 := same_text d 6 x y h5
  have h7 : okI y = true := (same_ok d 6 x y h5 0).symm.trans h1
  have h8 : textI y = (textD d x, true) := by
    rw [textI_of h7 (by rw [← h6]; exact h2), ← h6]
  refine ⟨y, ?_, h5, h8⟩
  unfold readI
  rw [if_pos h2]
  show (match rdI 5 (textD d x) 0 with
    | none => none
    | some (x_1, j) => if j = (textD d x).size ∧ (textI x_1).2 = true ∧ (textI x_1).1 = textD d x then some x_1 else none) = some y
  rw [h4]
  show (if 0 + (textD d x).size = (textD d x).size ∧ (textI y).2 = true ∧ (textI y).1 = textD d x then some y else none) = some y
  rw [if_pos ⟨Nat.zero_add _, by rw [h8], by rw [h8]⟩]
/-- What is read is written so. -/
theorem read_so {t : ByteArray} {x : It 6} (h : readI t = some x) : textI x = (t, true) := by
  unfold readI at h
  by_cases h1 : t.size ≤ 900
  · rw [if_pos h1] at h
    cases h2 : rdI 5 t 0 with
    | none => rw [h2] at h; cases h
    | some y =>
      obtain ⟨y, j⟩ := y
      rw [h2] at h
      by_cases h3 : j = t.size ∧ (textI y).2 = true ∧ (textI y).1 = t
      · have h4 : some y = some x := by
          rw [← h]
          show _ = if j = t.size ∧ (textI y).2 = true ∧ (textI y).1 = t then some y else none
          rw [if_pos h3]
        injection h4 with h4
        subst h4
        obtain ⟨_, _, h5⟩ := textI_yes h3.2.1
        rw [h5] at h3 ⊢
        rw [show textD 6 y = t from h3.2.2]
      · have h4 : none = some x := by
          rw [← h]
          show _ = if j = t.size ∧ (textI y).2 = true ∧ (textI y).1 = t then some y else none
          rw [if_neg h3]
        cases h4
  · rw [if_neg h1] at h
    cases h

end Go.Proofs.Ytmpjnabadplbjaa
