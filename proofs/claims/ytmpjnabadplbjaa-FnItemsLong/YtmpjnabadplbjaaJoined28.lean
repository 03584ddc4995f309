/-
  Texts of one's own, joined.
-/
import Derived.Test.YtmpjnabadplbjaaItemBack2
import Derived.Test.YtmpjnabadplbjaaItemR5

/-
  ReadItem finds a right item's text, and nothing else.
-/
namespace Go.Proofs.Ytmpjnabadplbjaa

theorem textI_of {d : Nat} {x : It d} (h1 : okI x = true) (h2 : (textD d x).size ≤ 900) : textI x = (textD d x, true) := by
  unfold textI
  rw [if_pos h1, if_pos h2]
theorem textI_yes {d : Nat} {x : It d} (h : (textI x).2 = true) : okI x = true ∧ (textD d x).size ≤ 900 ∧ textI x = (textD d x, true) := by
  unfold textI at h
  by_cases h1 : okI x = true
  · rw [if_pos h1] at h
    by_cases h2 : (textD d x).size ≤ 900
    · exact ⟨h1, h2, textI_of h1 h2⟩
    · rw [if_neg h2] at h
      cases h
  · rw [if_neg h1] at h
    cases h
/-- What is written is read again. -/
theorem read_back {d : Nat} {x : It d} (h : (textI x).2 = true) : ∃ y : It 6, readI (textI x).1 = some y ∧ sameD d 6 x y = true ∧ textI y = textI x := by
  obtain ⟨h1, h2, h3⟩ := textI_yes h
  rw [h3]
  obtain ⟨y, h4, h5⟩ := rd_text 5 0 d x (textD d x) 0 rfl (by omega) h1 (by omega) ⟨ByteArray.empty, ByteArray.empty, by rw [ByteArray.empty_append, ByteArray.append_empty], rfl⟩
  have h6 := same_text d 6 x y h5
  have h7 : okI y = true := (same_ok d 6 x y h5 0).symm.trans h1
  have h8 : textI y = (textD d x, true) := by
    rw [textI_of h7 (by rw [← h6]; exact h2), ← h6]
  refine ⟨y, ?_, h5, h8⟩
  unfold readI
  rw [if_pos h2]
  show (match rdI 5 (textD d x) 0 with
    | none => none
    | some (x_1, j) => if j = (textD d x).size ∧ (textI x_1).2 = true ∧ (textI x_1).1 = textD d x then some x_1 else none) = some y
  rw [h4]
  show (if 0 + (textD d x).size = (textD d x).size ∧ (textI y).2 = true ∧ (textI y).1 = textD d x then some y else none) = some y
  rw [if_pos ⟨Nat.zero_add _, by rw [h8], by rw [h8]⟩]
/-- What is read is written so. -/
theorem read_so {t : ByteArray} {x : It 6} (h : readI t = some x) : textI x = (t, true) := by
  unfold readI at h
  by_cases h1 : t.size ≤ 900
  · rw [if_pos h1] at h
    cases h2 : rdI 5 t 0 with
    | none => rw [h2] at h; cases h
    | some y =>
      obtain ⟨y, j⟩ := y
      rw [h2] at h
      by_cases h3 : j = t.size ∧ (textI y).2 = true ∧ (textI y).1 = t
      · have h4 : some y = some x := by
          rw [← h]
          show _ = if j = t.size ∧ (textI y).2 = true ∧ (textI y).1 = t then some y else none
          rw [if_pos h3]
        injection h4 with h4
        subst h4
        obtain ⟨_, _, h5⟩ := textI_yes h3.2.1
        rw [h5] at h3 ⊢
        rw [show textD 6 y = t from h3.2.2]
      · have h4 : none = some x := by
          rw [← h]
          show _ = if j = t.size ∧ (textI y).2 = true ∧ (textI y).1 = t then some y else none
          rw [if_neg h3]
        cases h4
  · rw [if_neg h1] at h
    cases h

end Go.Proofs.Ytmpjnabadplbjaa

/-
  Two right items of one text are the same.
-/
namespace Go.Proofs.Ytmpjnabadplbjaa

theorem zip_third {α β γ : Type} (P : α → β → Prop) (Q : β → γ → Prop) (R : α → γ → Prop) (hPQ : ∀ a b c, P a b → Q b c → R a c) : ∀ (K : List α) (L : List β) (M : List γ), K.length = L.length → (∀ p, p ∈ K.zip L → P p.1 p.2) → (∀ p, p ∈ L.zip M → Q p.1 p.2) → ∀ p, p ∈ K.zip M → R p.1 p.2
  | [], _, _, _, _, _, p, hp => by rw [List.zip_nil_left] at hp; cases hp
  | _ :: _, _, [], _, _, _, p, hp => by rw [List.zip_nil_right] at hp; cases hp
  | _ :: _, [], _ :: _, h, _, _, _, _ => by cases h
  | a :: K, b :: L, c :: M, h, h1, h2, p, hp => by
    rw [List.zip_cons_cons, List.mem_cons] at hp
    rcases hp with rfl | hp
    · exact hPQ a b c (h1 (a, b) (by simp)) (h2 (b, c) (by simp))
    · exact zip_third P Q R hPQ K L M (by simpa using h) (fun q hq => h1 q (by simp [hq])) (fun q hq => h2 q (by simp [hq])) p hp
theorem same_trans : ∀ (d e f : Nat) (x : It d) (y : It e) (z : It f), sameD d e x y = true → sameD e f y z = true → sameD d f x z = true
  | 0, _, _, x, _, _, _, _ => x.elim
  | _ + 1, 0, _, _, y, _, _, _ => y.elim
  | _ + 1, _ + 1, 0, _, _, z, _, _ => z.elim
  | d + 1, e + 1, f + 1, x, y, z, h, k => by
    obtain ⟨h1, h2, h3, h4⟩ := sameD_parts h
    obtain ⟨k1, k2, k3, k4⟩ := sameD_parts k
    exact sameD_of (h1.trans k1) (h2.trans k2) (h3.trans k3) (zip_third (fun a b => sameD d e a b = true) (fun b c => sameD e f b c = true) (fun a c => sameD d f a c = true) (fun a b c p q => same_trans d e f a b c p q) _ _ _ h3 h4 k4)
/-- Two items that have one text are the same. -/
theorem one_text {d e : Nat} {x : It d} {y : It e} (hx : (textI x).2 = true) (h : textI x = textI y) : sameD d e x y = true := by
  obtain ⟨a, h1, h2, _⟩ := read_back hx
  obtain ⟨b, h3, h4, _⟩ := read_back (x := y) (by rw [← h]; exact hx)
  rw [← h, h1] at h3
  injection h3 with h3
  subst h3
  exact same_trans d 6 e x a y h2 (same_turn e 6 y a h4)

end Go.Proofs.Ytmpjnabadplbjaa
