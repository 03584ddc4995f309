/-
  What is written of three points is read again: no program in here.
-/
import Derived.Test.YthnahalboomkoaaGreatJoined26
import Derived.Test.YthnahalboomkoaaGreatPrfMath

namespace Go.Proofs.YthnahalboomkoaaGreat

theorem ptText_len3 {P : Pt} (h : POk P) : (ptText P).size = 3 := by
  by_cases hs : (ptText P).size = 3
  · exact hs
  · have h1 := rdPt_size hs
    rw [rdPt_back h] at h1
    have h2 := congrArg Prod.snd h1
    cases h2
theorem cut3_mid {a b c : ByteArray} {k : Nat} (ha : a.size = 3 * k) (hb : b.size = 3) : cut3 (a ++ b ++ c) k = b := by
  unfold cut3
  apply ByteArray.ext
  apply Array.ext'
  have h1 : a.data.toList.length = 3 * k := ha
  have h2 : b.data.toList.length = 3 := hb
  have e : (a ++ b ++ c).data.toList = a.data.toList ++ (b.data.toList ++ c.data.toList) := by simp
  have e2 : ((a ++ b ++ c).extract (3 * k) (3 * k + 3)).data.toList = ((a ++ b ++ c).data.toList.drop (3 * k)).take 3 := by
    rw [ByteArray.data_extract, Array.toList_extract, List.extract_eq_take_drop]
    rw [show 3 * k + 3 - 3 * k = 3 by omega]
  rw [e2, e, ← h1, List.drop_left, ← h2, List.take_left]
theorem ing_ok {P : Pt} (h : inGB P = true) : POk P := (ing_iff.1 h).1
theorem prfIn_parts {A B C : Pt} (h : prfIn A B C = true) : inGB A = true ∧ inGB B = true ∧ inGB C = true := by
  unfold prfIn at h
  simp only [Bool.and_eq_true] at h
  exact h
theorem rd_prf {A B C : Pt} (h : prfIn A B C = true) : rdOk (prfText A B C) = true ∧ rdV (prfText A B C) = prfC A B C ∧ (prfText A B C).size = 9 := by
  obtain ⟨hA, hB, hC⟩ := prfIn_parts h
  have sA := ptText_len3 (ing_ok hA)
  have sB := ptText_len3 (ing_ok hB)
  have sC := ptText_len3 (ing_ok hC)
  have e : prfText A B C = ptText A ++ ptText B ++ ptText C := if_pos h
  have c0 : cut3 (prfText A B C) 0 = ptText A := by
    rw [e, show ptText A ++ ptText B ++ ptText C = ByteArray.empty ++ ptText A ++ (ptText B ++ ptText C) by apply ByteArray.ext; simp]
    exact cut3_mid rfl sA
  have c1 : cut3 (prfText A B C) 1 = ptText B := by rw [e]; exact cut3_mid sA sB
  have c2 : cut3 (prfText A B C) 2 = ptText C := by
    rw [e, show ptText A ++ ptText B ++ ptText C = (ptText A ++ ptText B) ++ ptText C ++ ByteArray.empty by apply ByteArray.ext; simp]
    exact cut3_mid (by rw [ByteArray.size_append]; omega) sC
  have hs : (prfText A B C).size = 9 := by rw [e, ByteArray.size_append, ByteArray.size_append]; omega
  have hok : rdOk (prfText A B C) = true := by
    unfold rdOk
    rw [c0, c1, c2, rdPt_back (ing_ok hA), rdPt_back (ing_ok hB), rdPt_back (ing_ok hC), h, decide_eq_true hs]
    rfl
  refine ⟨hok, ?_, hs⟩
  rw [rdV_yes hok, c0, c1, c2, rdPt_back (ing_ok hA), rdPt_back (ing_ok hB), rdPt_back (ing_ok hC)]

end Go.Proofs.YthnahalboomkoaaGreat
