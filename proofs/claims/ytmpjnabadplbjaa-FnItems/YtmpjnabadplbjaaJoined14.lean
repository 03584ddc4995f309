/-
  Texts of one's own, joined.
-/
import Derived.Test.YtmpjnabadplbjaaItemR3
import Derived.Test.YtmpjnabadplbjaaJoined4

/-
  The contract of the specification's l17Read.
  (-DROP-: what the seat lacks is left out.)
-/
namespace Go.Proofs.Ytmpjnabadplbjaa
open Go.RowKit

theorem rdN_le (t : ByteArray) : (rdN t).1 ≤ 1000000000 := by
  unfold rdN
  split
  · split
    · split
      · assumption
      · exact Nat.zero_le _
    · exact Nat.zero_le _
  · exact Nat.zero_le _
theorem sizeR_le (t : ByteArray) (i low b : Nat) (hi : i < t.size) (hb : b < 256) : (sizeR t i low b).1 ≤ t.size ∧ (sizeR t i low b).2.1 ≤ 1000000000 := by
  unfold sizeR
  split
  · exact ⟨hi, by have := hb; show b - low ≤ _; omega⟩
  · split
    · split
      · exact ⟨by show i + 1 + (b - low - 55) ≤ _; omega, rdN_le _⟩
      · exact ⟨Nat.zero_le _, Nat.zero_le _⟩
    · exact ⟨Nat.zero_le _, Nat.zero_le _⟩
theorem rdI_le : ∀ (f : Nat) (t : ByteArray) (i : Nat) (x : It (f + 1)) (k : Nat), rdI f t i = some (x, k) → k ≤ t.size
  | 0, _, _, _, _, h => by cases h
  | f + 1, t, i, x, k, h => by
    by_cases hi : i < t.size
    · rw [rdI, dif_pos hi] at h
      by_cases h1 : t[i].toNat < 128
      · rw [if_pos h1] at h
        injection h with h; injection h with _ h; omega
      · rw [if_neg h1] at h
        by_cases hl : 192 ≤ t[i].toNat
        · rw [if_pos hl, if_pos hl] at h
          by_cases hs : (sizeR t i 192 t[i].toNat).2.2 = true ∧ (sizeR t i 192 t[i].toNat).1 + (sizeR t i 192 t[i].toNat).2.1 ≤ t.size
          · rw [if_pos hs] at h
            obtain ⟨K, _, h2⟩ := Option.map_eq_some_iff.1 h
            injection h2 with _ h2
            omega
          · rw [if_neg hs] at h
            cases h
        · rw [if_neg hl, if_neg hl] at h
          by_cases hs : (sizeR t i 128 t[i].toNat).2.2 = true ∧ (sizeR t i 128 t[i].toNat).1 + (sizeR t i 128 t[i].toNat).2.1 ≤ t.size
          · rw [if_pos hs] at h
            injection h with h; injection h with _ h; omega
          · rw [if_neg hs] at h
            cases h
    · rw [rdI, dif_neg hi] at h
      cases h

/-- An item is read from a place on. -/
theorem sRead_any : ∀ (f e : Nat), f + e = 5 → ∀ (t : ByteArray) (i : Nat) (w : World), t.size ≤ 1000000 →
    Calls Try.prog 42 #[.string t, .int .i64 (i : Int), .int .i64 (e : Int)] w (RdEnd f w (rdI f t i))
  | 0, e, he, t, i, w, _ => sRead_no t i e 0 (by omega) (.inr (by omega)) w
  | f + 1, e, he, t, i, w, ht => by
    by_cases hi : i < t.size
    · obtain ⟨b, hb⟩ : ∃ b, t[i].toNat = b := ⟨_, rfl⟩
      have hb256 : b < 256 := by rw [← hb]; exact t[i].toNat_lt
      rw [rdI, dif_pos hi, hb]
      by_cases h1 : b < 128
      · rw [if_pos h1]
        exact sRead_byte t i e f ht hi (by omega) (by rw [hb]; exact h1) w
      · rw [if_neg h1]
        by_cases hl : 192 ≤ b
        · rw [if_pos hl, if_pos hl]
          by_cases hs : (sizeR t i 192 b).2.2 = true ∧ (sizeR t i 192 b).1 + (sizeR t i 192 b).2.1 ≤ t.size
          · rw [if_pos hs]
            refine sRead_list t i e f b ht hi (by omega) hb hl hs.1 hs.2 w _ (fun k x k' h => ?_) (fun k w' _ => ?_)
            · have h1 := rdI_le f _ k x k' h
              rw [ByteArray.size_extract] at h1
              omega
            · exact sRead_any f (e + 1) (by omega) _ k w' (by rw [ByteArray.size_extract]; omega)
          · rw [if_neg hs]
            exact sRead_bad t i e f b 192 ht hi (by omega) hb (by omega) (by rw [if_pos hl]) hs (fun _ => (sizeR_le t i 192 b hi hb256).1) (sizeR_le t i 192 b hi hb256).2 w
        · rw [if_neg hl, if_neg hl]
          by_cases hs : (sizeR t i 128 b).2.2 = true ∧ (sizeR t i 128 b).1 + (sizeR t i 128 b).2.1 ≤ t.size
          · rw [if_pos hs]
            exact sRead_text t i e f b ht hi (by omega) hb (by omega) hl hs.1 hs.2 w
          · rw [if_neg hs]
            exact sRead_bad t i e f b 128 ht hi (by omega) hb (by omega) (by rw [if_neg hl]) hs (fun _ => (sizeR_le t i 128 b hi hb256).1) (sizeR_le t i 128 b hi hb256).2 w
    · rw [rdI, dif_neg hi]
      exact sRead_no t i e (f + 1) (by omega) (.inl (by omega)) w

end Go.Proofs.Ytmpjnabadplbjaa

/-
  What is written of an item is read again.
-/
namespace Go.Proofs.Ytmpjnabadplbjaa

/-- A text stands in another from a place on. -/
def Lies (t s : ByteArray) (i : Nat) : Prop := ∃ p q, t = p ++ (s ++ q) ∧ p.size = i
theorem Lies.left {t a b : ByteArray} {i : Nat} (h : Lies t (a ++ b) i) : Lies t a i := by
  obtain ⟨p, q, h1, h2⟩ := h
  exact ⟨p, b ++ q, by rw [h1, ByteArray.append_assoc], h2⟩
theorem Lies.right {t a b : ByteArray} {i : Nat} (h : Lies t (a ++ b) i) : Lies t b (i + a.size) := by
  obtain ⟨p, q, h1, h2⟩ := h
  exact ⟨p ++ a, q, by rw [h1]; simp only [ByteArray.append_assoc], by rw [ByteArray.size_append, h2]⟩
theorem Lies.size {t s : ByteArray} {i : Nat} (h : Lies t s i) : i + s.size ≤ t.size := by
  obtain ⟨p, q, h1, h2⟩ := h
  rw [h1, ByteArray.size_append, ByteArray.size_append]
  omega
theorem Lies.extract {t s : ByteArray} {i : Nat} (h : Lies t s i) : t.extract i (i + s.size) = s := by
  obtain ⟨p, q, h1, h2⟩ := h
  have h3 := ByteArray.extract_append_size_add (a := p) (b := s ++ q) (i := 0) (j := s.size)
  rw [Nat.add_zero, ByteArray.extract_append_eq_left rfl, h2] at h3
  rw [h1]
  exact h3
theorem Lies.get {t r : ByteArray} {b : UInt8} {i : Nat} (h : Lies t (⟨#[b]⟩ ++ r) i) (hi : i < t.size) : t[i] = b := by
  obtain ⟨p, q, h1, h2⟩ := h
  subst h1
  rw [ByteArray.getElem_append_right (by omega)]
  simp only [h2, Nat.sub_self, ByteArray.append_assoc]
  rw [ByteArray.getElem_append_left (Nat.lt_succ_self 0)]
  rfl
theorem Lies.cut {t s : ByteArray} {i : Nat} (h : Lies t s i) : Lies (t.extract 0 (i + s.size)) s i ∧ (t.extract 0 (i + s.size)).size = i + s.size := by
  have hs := h.size
  obtain ⟨p, q, h1, h2⟩ := h
  refine ⟨⟨p, ByteArray.empty, ?_, h2⟩, by rw [ByteArray.size_extract]; omega⟩
  rw [h1, ← ByteArray.append_assoc, ByteArray.append_empty]
  exact ByteArray.extract_append_eq_left (by rw [ByteArray.size_append, h2])
theorem numT_val {n : Nat} (hn : n < 256 ^ 8) : shortL (numT n).data.toList ∧ valL (numT n).data.toList = n := (numT_eq hn _).1 rfl
theorem numT_two {n : Nat} (hn : n ≤ 65535) : (numT n).size ≤ 2 := by
  obtain ⟨h1, h2⟩ := numT_val (n := n) (by omega)
  have hl : (numT n).size = (numT n).data.toList.length := by rw [Array.length_toList]; rfl
  rw [hl]
  match h : (numT n).data.toList with
  | [] => exact Nat.zero_le _
  | b :: u =>
    rw [h] at h1 h2
    have h3 := valL_cons_pos (t := u) (b := b) h1
    rw [h2] at h3
    rw [List.length_cons]
    by_cases h4 : u.length ≤ 1
    · omega
    · have h5 : 256 ^ 2 ≤ 256 ^ u.length := Nat.pow_le_pow_right (by decide) (by omega)
      omega
theorem rdN_numT {n : Nat} (hn : n ≤ 65535) : rdN (numT n) = (n, true) := by
  have h := (numT_val (n := n) (by omega)).2
  have h2 := numT_two hn
  unfold rdN
  rw [if_pos (by omega), h, if_pos rfl, if_pos (by omega)]
/-- A head is read. -/
theorem head_read {t s : ByteArray} {i n low : Nat} (hn : n ≤ 65535) (hl : low ≤ 192) (h : Lies t (headB n low ++ s) i) : ∃ (b : Nat) (hi : i < t.size), t[i].toNat = b ∧ low ≤ b ∧ b ≤ low + 57 ∧ sizeR t i low b = (i + (headB n low).size, n, true) := by
  have hz := h.size
  by_cases h1 : n ≤ 55
  · have e : headB n low = ⟨#[UInt8.ofNat (low + n)]⟩ := by unfold headB; rw [if_pos h1]
    rw [e] at h hz ⊢
    have hs : (ByteArray.mk #[UInt8.ofNat (low + n)]).size = 1 := rfl
    rw [ByteArray.size_append, hs] at hz
    refine ⟨low + n, by omega, ?_, by omega, by omega, ?_⟩
    · rw [h.get (by omega)]
      exact toNat_of (by omega)
    · rw [sizeR, if_pos (by omega), hs, show low + n - low = n by omega]
  · have e : headB n low = ⟨#[UInt8.ofNat (low + 55 + (numT n).size)]⟩ ++ numT n := by unfold headB; rw [if_neg h1]
    have h2 := numT_two hn
    have h0 : (numT n).size ≠ 0 := by
      intro h0
      have h3 := (numT_val (n := n) (by omega)).2
      have h4 : (numT n).data.toList = [] := List.eq_nil_of_length_eq_zero (by rw [Array.length_toList]; exact h0)
      rw [h4] at h3
      have : (0 : Nat) = n := h3
      omega
    rw [e] at h hz ⊢
    have hs : (ByteArray.mk #[UInt8.ofNat (low + 55 + (numT n).size)]).size = 1 := rfl
    have hx := h.left.right.extract
    rw [hs] at hx
    rw [ByteArray.size_append, ByteArray.size_append, hs] at hz
    rw [ByteArray.append_assoc] at h
    refine ⟨low + 55 + (numT n).size, by omega, ?_, by omega, by omega, ?_⟩
    · rw [h.get (by omega)]
      exact toNat_of (by omega)
    · rw [sizeR, if_neg (by omega), if_pos (by omega), show low + 55 + (numT n).size - low - 55 = (numT n).size by omega, if_pos (by omega), hx, rdN_numT hn, ByteArray.size_append, hs]
      simp
      omega

end Go.Proofs.Ytmpjnabadplbjaa
