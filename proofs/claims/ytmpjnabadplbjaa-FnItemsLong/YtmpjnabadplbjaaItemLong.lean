/-
  The walk of the law on a long text: as much mathematics as it wants.
  (-DROP-: what the seat lacks is left out.)
-/
import Derived.Test.YtmpjnabadplbjaaItemLaw2
import Derived.Test.YtmpjnabadplbjaaPlaces
namespace Go.Proofs.Ytmpjnabadplbjaa
open Go.RowKit

/-- A right item's text with more behind it is none. -/
theorem no_more {d e : Nat} {x : It d} {y : It e} {t r : ByteArray} (hx : textI x = (t, true)) (hy : textI y = (t ++ r, true)) (hr : r.size ≠ 0) : False := by
  obtain ⟨h1, h2, h3⟩ := textI_yes (x := x) (by rw [hx])
  obtain ⟨k1, k2, k3⟩ := textI_yes (x := y) (by rw [hy])
  rw [hx] at h3
  rw [hy] at k3
  injection h3 with h4 _
  injection k3 with k4 _
  rw [← h4] at h2
  rw [← k4] at k2
  obtain ⟨a, h5, _⟩ := form_text 900 0 d x r h1 (by rw [← h4]; omega) (by rw [← h4]; exact k2)
  obtain ⟨b, k5, _⟩ := form_text 900 0 e y ByteArray.empty k1 (by rw [← k4]; omega) (by rw [← k4, ByteArray.append_empty]; exact k2)
  rw [← h4] at h5
  rw [← k4, ByteArray.append_empty, h5] at k5
  injection k5 with k6
  injection k6 with _ k7
  rw [k7] at hr
  exact hr rfl
theorem readF_is {t : ByteArray} {y : It (900 + 1)} (h : readF t = some y) : textI y = (t, true) := by
  unfold readF at h
  split at h
  · cases hr : rdF 900 t with
    | none => rw [hr] at h; cases h
    | some p =>
      obtain ⟨z, r⟩ := p
      rw [hr] at h
      have h' : (if textI z = (t, true) then some z else none) = some y := h
      split at h'
      · rename_i h1
        injection h' with e
        subst e
        exact h1
      · cases h'
  · cases h
theorem readF_more {d : Nat} {x : It d} {t r : ByteArray} (hx : textI x = (t, true)) (hr : r.size ≠ 0) : readF (t ++ r) = none := by
  cases h : readF (t ++ r) with
  | none => rfl
  | some y => exact (no_more hx (readF_is h) hr).elim
theorem readF_less {d : Nat} {x : It d} {t r : ByteArray} (hx : textI x = (t ++ r, true)) (hr : r.size ≠ 0) : readF t = none := by
  cases h : readF t with
  | none => rfl
  | some y => exact (no_more (readF_is h) hx hr).elim
theorem readF_back {d : Nat} {x : It d} {t : ByteArray} (hx : textI x = (t, true)) : ∃ y : It (900 + 1), readF t = some y ∧ sameD d (900 + 1) x y = true := by
  obtain ⟨z, h1, h2, _⟩ := read_back (x := x) (by rw [hx])
  rw [hx] at h1
  rcases readF_so t with ⟨h3, _⟩ | ⟨a, b, h3, h4, h5⟩
  · rw [h3] at h1; cases h1
  · rw [h3] at h1
    injection h1 with h1
    subst h1
    exact ⟨b, h4, same_trans _ _ _ _ _ _ h2 h5⟩
theorem numT_few : (List.range 600).all (fun n => (numT n).size == if n = 0 then 0 else if n ≤ 255 then 1 else 2) = true := by decide +kernel
theorem headB_few {n : Nat} (h : n < 600) : (headB n 128).size = if n ≤ 55 then 1 else if n ≤ 255 then 2 else 3 := by
  unfold headB
  by_cases h1 : n ≤ 55
  · rw [if_pos h1, if_pos h1]; rfl
  · rw [if_neg h1, if_neg h1, ByteArray.size_append]
    have h2 := List.all_eq_true.1 numT_few n (List.mem_range.2 h)
    rw [beq_iff_eq] at h2
    rw [h2, if_neg (by omega)]
    show 1 + _ = _
    by_cases h3 : n ≤ 255
    · rw [if_pos h3, if_pos h3]
    · rw [if_neg h3, if_neg h3]
/-- So many bytes of one kind. -/
def repB (n : Nat) (c : UInt8) : ByteArray := ⟨(List.replicate n c).toArray⟩
theorem repB_size (n : Nat) (c : UInt8) : (repB n c).size = n := by show (List.replicate n c).toArray.size = n; simp
theorem rep_lone (n : Nat) (c : UInt8) (h : 128 ≤ c.toNat) : lone (repB n c) = false := by
  unfold lone
  rw [repB_size]
  by_cases h1 : n = 1
  · subst h1
    have : (repB 1 c).get! 0 = c := rfl
    rw [this]
    simp
    omega
  · simp [h1]
/-- A text item. -/
def txtI (B : ByteArray) : It (0 + 1) := (false, B, [])
theorem txt_text {n : Nat} {c : UInt8} (h : n < 600) (hc : 128 ≤ c.toNat) : ∃ T : ByteArray, textI (txtI (repB n c)) = (T, true) ∧ T.size = (if n ≤ 55 then 1 else if n ≤ 255 then 2 else 3) + n := by
  have hok : okI (txtI (repB n c)) = true := by
    unfold okI
    rw [okD, if_neg (by show ¬ false = true; decide)]
    show (decide (([] : List (It 0)).length = 0) && decide ((repB n c).size ≤ 600)) = true
    rw [repB_size]
    simp
    omega
  have hT : textD (0 + 1) (txtI (repB n c)) = headB n 128 ++ repB n c := by
    rw [textD, if_neg (by show ¬ false = true; decide)]
    show (if lone (repB n c) then repB n c else headB (repB n c).size 128 ++ repB n c) = _
    rw [rep_lone n c hc, repB_size]
    rfl
  have hs : (textD (0 + 1) (txtI (repB n c))).size = (if n ≤ 55 then 1 else if n ≤ 255 then 2 else 3) + n := by rw [hT, ByteArray.size_append, headB_few h, repB_size]
  refine ⟨textD (0 + 1) (txtI (repB n c)), textI_of hok ?_, hs⟩
  rw [hs]
  split
  · omega
  · split <;> omega
/-- What is written of a long text, and what is read of it, of more, of less. -/
theorem long_told {n : Nat} {c : UInt8} (h : n < 600) (hc : 128 ≤ c.toNat) : ∃ T : ByteArray, textI (txtI (repB n c)) = (T, true) ∧ T.size = (if n ≤ 55 then 1 else if n ≤ 255 then 2 else 3) + n ∧ (∃ y, readF T = some y ∧ itT y = repB n c) ∧ readF (T ++ ⟨#[120]⟩) = none ∧ readF (T.extract 0 (T.size - 1)) = none := by
  obtain ⟨T, h1, h2⟩ := txt_text h hc
  obtain ⟨y, h3, h4⟩ := readF_back h1
  refine ⟨T, h1, h2, ⟨y, h3, ?_⟩, readF_more h1 (by decide), ?_⟩
  · rw [sameD] at h4
    simp only [Bool.and_eq_true, decide_eq_true_eq] at h4
    exact h4.2.1.symm
  · have hp : 1 ≤ T.size := by rw [h2]; split <;> omega
    have e : T.extract 0 (T.size - 1) ++ T.extract (T.size - 1) T.size = T := by
      rw [ByteArray.extract_append_extract]
      rw [Nat.min_eq_left (by omega), Nat.max_eq_right (by omega)]
      exact ByteArray.extract_zero_size
    exact readF_less (r := T.extract (T.size - 1) T.size) (by rw [e]; exact h1) (by rw [ByteArray.size_extract]; omega)

end Go.Proofs.Ytmpjnabadplbjaa
