/-
  Two right items of one text are the same.
-/
import Derived.Test.YtmpjnabadplbjaaItemBack3
namespace Go.Proofs.Ytmpjnabadplbjaa

theorem zip_third {α β γ : Type} (P : α → β → Prop) (Q : β → γ → Prop) (R : α → γ → Prop) (hPQ : ∀ a b c, P a b → Q b c → R a c) : ∀ (K : List α) (L : List β) (M : List γ), K.length = L.length → (∀ p, p ∈ K.zip L → P p.1 p.2) → (∀ p, p ∈ L.zip M → Q p.1 p.2) → ∀ p, p ∈ K.zip M → R p.1 p.2
  | [], _, _, _, _, _, p, hp => by rw [List.zip_nil_left] at hp; cases hp
  | _ :: _, _, [], _, _, _, p, hp => by rw [List.zip_nil_right] at hp; cases hp
  | _ :: _, [], _ :: _, h, _, _, _, _ => by cases h
  | a :: K, b :: L, c :: M, h, h1, h2, p, hp => by
    rw [List.zip_cons_cons, List.mem_cons] at hp
    rcases hp with rfl | hp
    · exact hPQ a b c (h1 (a, b) (by simp)) (h2 (b, c) (by simp))
    · exact zip_third P Q R hPQ K L M (by simpa using h) (fun q hq => h1 q (by simp [hq])) (fun q hq => h2 q (by simp [hq])) p hp
theorem same_trans : ∀ (d e f : Nat) (x : It d) (y : It e) (z : It f), sameD d e x y = true → sameD e f y z = true → sameD d f x z = true
  | 0, _, _, x, _, _, _, _ => x.elim
  | _ + 1, 0, _, _, y, _, _, _ => y.elim
  | _ + 1, _ + 1, 0, _, _, z, _, _ => z.elim
  | d + 1, e + 1, f + 1, x, y, z, h, k => by
    obtain ⟨h1, h2, h3, h4⟩ := sameD_parts h
    obtain ⟨k1, k2, k3, k4⟩ := sameD_parts k
    exact sameD_of (h1.trans k1) (h2.trans k2) (h3.trans k3) (zip_third (fun a b => sameD d e a b = true) (fun b c => sameD e f b c = true) (fun a c => sameD d f a c = true) (fun a b c p q => same_trans d e f a b c p q) _ _ _ h3 h4 k4)
/-- Two items that have one text are the same. -/
theorem one_text {d e : Nat} {x : It d} {y : It e} (hx : (textI x).2 = true) (h : textI x = textI y) : sameD d e x y = true := by
  obtain ⟨a, h1, h2, _⟩ := read_back hx
  obtain ⟨b, h3, h4, _⟩ := read_back (x := y) (by rw [← h]; exact hx)
  rw [← h, h1] at h3
  injection h3 with h3
  subst h3
  exact same_trans d 6 e x a y h2 (same_turn e 6 y a h4)

end Go.Proofs.Ytmpjnabadplbjaa
