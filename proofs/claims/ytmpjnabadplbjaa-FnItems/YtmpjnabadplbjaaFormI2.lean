/-
  What is written of a form; it is the item's text, or both are too long.
  (-DROP-: what the seat lacks is left out.)
-/
import Derived.Test.YtmpjnabadplbjaaFormI1
namespace Go.Proofs.Ytmpjnabadplbjaa
open Go.RowKit

/-- What the program writes of an item. -/
def wrD : (d : Nat) → It d → ByteArray
  | 0, x => x.elim
  | d + 1, x => if itL x then headB (wrN (fun j => ((itK x)[j]?.map (wrD d)).getD ⟨#[]⟩) (itK x).length).size 192 ++ wrN (fun j => ((itK x)[j]?.map (wrD d)).getD ⟨#[]⟩) (itK x).length
    else if lone (itT x) then itT x else headB (itT x).size 128 ++ itT x
theorem getD_of {α β : Type} (p : α → β) (z : β) (K : List α) (Q : β → Prop) (hz : Q z) (h : ∀ x, x ∈ K → Q (p x)) (j : Nat) : Q ((K[j]?.map p).getD z) := by
  by_cases hj : j < K.length
  · rw [List.getElem?_eq_getElem hj]
    exact h _ (List.getElem_mem hj)
  · rw [List.getElem?_eq_none (by omega)]
    exact hz
/-- The texts of its forms are not too long. -/
def SizeOk : (d : Nat) → It d → Prop
  | 0, x => x.elim
  | d + 1, x => (itT x).size ≤ 1000000 ∧ ∀ y, y ∈ itK x → SizeOk d y
/-- No more levels than so many stand below it. -/
def Flat : (d : Nat) → Nat → It d → Prop
  | 0, _, x => x.elim
  | d + 1, k, x => ∀ y, y ∈ itK x → ∃ k', k = k' + 1 ∧ Flat d k' y
theorem okD_flat : ∀ (d e : Nat) (x : It d), okD d e x = true → Flat d (4 - e) x
  | 0, _, x, _ => x.elim
  | d + 1, e, x, h => by
    rw [Flat]
    intro y hy
    rw [okD] at h
    by_cases hl : itL x = true
    · rw [if_pos hl] at h
      simp only [Bool.and_eq_true, decide_eq_true_eq] at h
      exact ⟨4 - (e + 1), by omega, okD_flat d (e + 1) y (List.all_eq_true.1 h.2.2.2 y hy)⟩
    · rw [if_neg hl] at h
      simp only [Bool.and_eq_true, decide_eq_true_eq] at h
      rw [List.eq_nil_of_length_eq_zero h.1] at hy
      cases hy
theorem wrD_size : ∀ (d k : Nat) (x : It d), Flat d k x → SizeOk d x → (wrD d x).size ≤ 1000009 + 909 * (k + 1)
  | 0, _, x, _, _ => x.elim
  | d + 1, k, x, hf, h => by
    rw [SizeOk] at h
    rw [Flat] at hf
    rw [wrD]
    split
    · have h1 := wrN_size (fun j => ((itK x)[j]?.map (wrD d)).getD ⟨#[]⟩) (1000009 + 909 * k) (itK x).length (fun j _ => getD_of (wrD d) ⟨#[]⟩ (itK x) (fun b => b.size ≤ 1000009 + 909 * k) (Nat.zero_le _) (fun y hy => by
        obtain ⟨k', rfl, h9⟩ := hf y hy
        exact wrD_size d k' y h9 (h.2 y hy)) j)
      have h2 := headB_size (wrN (fun j => ((itK x)[j]?.map (wrD d)).getD ⟨#[]⟩) (itK x).length).size 192
      rw [ByteArray.size_append]
      omega
    · split
      · omega
      · have h2 := headB_size (itT x).size 128
        rw [ByteArray.size_append]
        omega
/-- Two texts are one, or both are too long. -/
def Alike (a b : ByteArray) : Prop := a = b ∨ (900 < a.size ∧ 900 < b.size)
theorem wrN_alike (r s : Nat → ByteArray) (n : Nat) (h : ∀ j, j < n → Alike (r j) (s j)) : ∀ k, k ≤ n → Alike (wrN r k) (catN s k)
  | 0, _ => .inl rfl
  | k + 1, hk => by
    have h1 := wrN_alike r s n h k (by omega)
    have h2 := h k (by omega)
    rw [wrN, catN_next]
    rcases h1 with h1 | h1
    · split
      · rename_i h3
        refine .inr ⟨h3, ?_⟩
        rw [h1] at h3
        rw [ByteArray.size_append]
        omega
      · rcases h2 with h2 | h2
        · exact .inl (by rw [h1, h2])
        · refine .inr ?_
          rw [ByteArray.size_append, ByteArray.size_append]
          omega
    · rw [if_pos h1.1]
      refine .inr ⟨h1.1, ?_⟩
      rw [ByteArray.size_append]
      omega
theorem wrD_alike : ∀ (d : Nat) (x : It d), Alike (wrD d x) (textD d x)
  | 0, x => x.elim
  | d + 1, x => by
    rw [wrD, textD]
    by_cases hl : itL x = true
    · rw [if_pos hl, if_pos hl, ← catN_map (textD d) (itK x)]
      have h1 := wrN_alike (fun j => ((itK x)[j]?.map (wrD d)).getD ⟨#[]⟩) (fun j => ((itK x)[j]?.map (textD d)).getD ⟨#[]⟩) (itK x).length (fun j hj => by
        show Alike (((itK x)[j]?.map (wrD d)).getD ⟨#[]⟩) (((itK x)[j]?.map (textD d)).getD ⟨#[]⟩)
        rw [List.getElem?_eq_getElem hj]
        exact wrD_alike d _) (itK x).length (Nat.le_refl _)
      rcases h1 with h1 | h1
      · rw [h1]
        exact .inl rfl
      · refine .inr ?_
        rw [ByteArray.size_append, ByteArray.size_append]
        omega
    · rw [if_neg hl, if_neg hl]
      exact .inl rfl
theorem FIn.sizes {S : Nat → Prop} : ∀ {d : Nat} {w : World} {f : Value} {x : It d}, FIn S d w f x → SizeOk d x
  | 0, _, _, x, _ => x.elim
  | d + 1, w, f, x, h => by
    rw [SizeOk]
    cases hl : itL x
    · obtain ⟨h1, h2, _⟩ := h.text hl
      exact ⟨h2, fun y hy => by rw [h1] at hy; cases hy⟩
    · obtain ⟨h1, h2, v, _, a, cp, _, h4⟩ := h.list hl
      refine ⟨by rw [h1]; exact Nat.zero_le _, fun y hy => ?_⟩
      obtain ⟨j, hj, rfl⟩ := List.getElem_of_mem hy
      obtain ⟨b, off, u, _, _, _, h5⟩ := h4 j hj
      exact FIn.sizes h5

/-- What is written of a form. -/
theorem iWritten_any : ∀ (d k : Nat), k ≤ 1000 → ∀ (x : It d) (f : Value) (w : World), Flat d k x → FIn (fun b => b < w.heap.size) d w f x → WrOf w f (wrD d x)
  | 0, _, _, x, _, _, _, _ => x.elim
  | d + 1, k, hd, x, f, w, hf, h => by
    cases hl : itL x
    · obtain ⟨h1, h2, rfl⟩ := h.text hl
      refine .inr ⟨_, rfl, fun w' _ => ?_⟩
      have h3 := iWrText_any (itT x) h2 w'
      have h4 : wrD (d + 1) x = if lone (itT x) then itT x else headB (itT x).size 128 ++ itT x := by rw [wrD, if_neg (by rw [hl]; decide)]
      rw [h4]
      exact h3
    · have hsz := h.sizes
      rw [SizeOk] at hsz
      rw [Flat] at hf
      obtain ⟨h1, h2, v, rfl, a, cp, rfl, h4⟩ := h.list hl
      refine .inl ⟨_, _, _, rfl, fun w' hb => ?_⟩
      have h5 : wrD (d + 1) x = headB (wrN (fun j => ((itK x)[j]?.map (wrD d)).getD ⟨#[]⟩) (itK x).length).size 192 ++ wrN (fun j => ((itK x)[j]?.map (wrD d)).getD ⟨#[]⟩) (itK x).length := by rw [wrD, if_pos hl]
      rw [h5]
      refine iWrList a (itK x).length cp h2 w' _ (fun j => getD_of (wrD d) ⟨#[]⟩ (itK x) (fun b => b.size ≤ 10000000) (Nat.zero_le _) (fun y hy => by
        obtain ⟨k', rfl, h9⟩ := hf y hy
        have := wrD_size d k' y h9 (hsz.2 y hy)
        exact Nat.le_trans this (by omega)) j) fun j hj => ?_
      obtain ⟨b, off, u, h6, h7, h8, h9⟩ := h4 j hj
      have hs := hb.size
      refine ⟨b, off, u, h6, by omega, (hb.cell (p := ⟨b, off + j, none⟩) h7).trans h8, ?_⟩
      rw [List.getElem?_eq_getElem hj]
      obtain ⟨k', rfl, h10⟩ := hf _ (List.getElem_mem hj)
      exact iWritten_any d k' (by omega) _ u w' h10 ((h9.kept (w' := w') fun b hb2 => hb.block b hb2).more fun b hb2 => by omega)

end Go.Proofs.Ytmpjnabadplbjaa
