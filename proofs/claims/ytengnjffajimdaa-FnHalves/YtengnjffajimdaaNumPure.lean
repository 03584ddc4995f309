/-
  The bytes of a number, the highest first, as short as may be: no program in here.
-/
namespace Go.Proofs.Ytengnjffajimdaa

/-- The bytes of n ahead of s, with fuel. -/
def numB : Nat → Nat → ByteArray → ByteArray
  | 0, _, s => s
  | f + 1, n, s => if n = 0 then s else numB f (n / 256) (⟨#[UInt8.ofNat (n % 256)]⟩ ++ s)
def numT (n : Nat) : ByteArray := numB 8 n ByteArray.empty
theorem numB_zero : ∀ (f : Nat) (s : ByteArray), numB f 0 s = s
  | 0, _ => rfl
  | f + 1, s => by unfold numB; rw [if_pos rfl]
theorem numB_next {f n : Nat} (s : ByteArray) (h : n ≠ 0) : numB (f + 1) n s = numB f (n / 256) (⟨#[UInt8.ofNat (n % 256)]⟩ ++ s) := by
  rw [numB, if_neg h]
theorem numB_size : ∀ (f n : Nat) (s : ByteArray), (numB f n s).size ≤ f + s.size
  | 0, _, s => by unfold numB; omega
  | f + 1, n, s => by
    unfold numB
    split
    · omega
    · have h := numB_size f (n / 256) (⟨#[UInt8.ofNat (n % 256)]⟩ ++ s)
      rw [ByteArray.size_append] at h
      have h1 : (ByteArray.mk #[UInt8.ofNat (n % 256)]).size = 1 := rfl
      omega
/-- The number of a list of bytes. -/
def valL : List UInt8 → Nat
  | [] => 0
  | b :: t => b.toNat * 256 ^ t.length + valL t
theorem valL_app (a b : List UInt8) : valL (a ++ b) = valL a * 256 ^ b.length + valL b := by
  induction a with
  | nil => simp [valL]
  | cons x t ih =>
    rw [List.cons_append, valL, valL, ih, List.length_append, Nat.pow_add]
    rw [Nat.add_mul, Nat.mul_assoc, Nat.add_assoc]
theorem valL_lt : ∀ l : List UInt8, valL l < 256 ^ l.length
  | [] => by decide
  | b :: t => by
    have h := valL_lt t
    have hb := b.toNat_lt
    rw [valL, List.length_cons, Nat.pow_succ]
    have h1 : b.toNat * 256 ^ t.length + 256 ^ t.length ≤ 256 ^ t.length * 256 := by
      rw [← Nat.succ_mul, Nat.mul_comm]
      exact Nat.mul_le_mul_left _ (by show b.toNat + 1 ≤ 256; have : b.toNat < 2 ^ 8 := hb; omega)
    omega
/-- The same as lists. -/
def numL : Nat → Nat → List UInt8 → List UInt8
  | 0, _, s => s
  | f + 1, n, s => if n = 0 then s else numL f (n / 256) (UInt8.ofNat (n % 256) :: s)
theorem numB_list : ∀ (f n : Nat) (s : ByteArray), (numB f n s).data.toList = numL f n s.data.toList
  | 0, _, _ => rfl
  | f + 1, n, s => by
    unfold numB numL
    split
    · rfl
    · rw [numB_list f]
      congr 1
theorem byte_nat (n : Nat) : (UInt8.ofNat (n % 256)).toNat = n % 256 := by
  simp
theorem numL_val : ∀ (f n : Nat) (s : List UInt8), n < 256 ^ f → valL (numL f n s) = n * 256 ^ s.length + valL s
  | 0, n, s, h => by
    have : n = 0 := by simpa using h
    subst this
    simp [numL]
  | f + 1, n, s, h => by
    unfold numL
    split
    · rename_i h0; subst h0; simp
    · rw [numL_val f (n / 256) _ (by rw [Nat.pow_succ] at h; exact Nat.div_lt_of_lt_mul (by rw [Nat.mul_comm]; exact h))]
      rw [valL, byte_nat, List.length_cons, Nat.pow_succ]
      have e := Nat.div_add_mod n 256
      calc n / 256 * (256 ^ s.length * 256) + (n % 256 * 256 ^ s.length + valL s) = (256 * (n / 256) + n % 256) * 256 ^ s.length + valL s := by
            rw [Nat.add_mul]
            have : n / 256 * (256 ^ s.length * 256) = 256 * (n / 256) * 256 ^ s.length := by rw [Nat.mul_comm (256 ^ s.length) 256, ← Nat.mul_assoc, Nat.mul_comm (n / 256) 256]
            omega
        _ = n * 256 ^ s.length + valL s := by rw [e]
/-- What is as short as may be: no 0 ahead. -/
def shortL : List UInt8 → Prop
  | [] => True
  | b :: _ => b ≠ 0
theorem numL_short : ∀ (f n : Nat) (s : List UInt8), n < 256 ^ f → (n = 0 → shortL s) → shortL (numL f n s)
  | 0, n, s, h, hs => hs (by simpa using h)
  | f + 1, n, s, h, hs => by
    unfold numL
    split
    · rename_i h0; exact hs h0
    · rename_i h0
      refine numL_short f (n / 256) _ (by rw [Nat.pow_succ] at h; exact Nat.div_lt_of_lt_mul (by rw [Nat.mul_comm]; exact h)) (fun h1 => ?_)
      intro h2
      have h3 := congrArg UInt8.toNat h2
      rw [byte_nat] at h3
      have : n % 256 = 0 := h3
      have := Nat.div_add_mod n 256
      omega
theorem valL_cons_pos {b : UInt8} {t : List UInt8} (hb : b ≠ 0) : 256 ^ t.length ≤ valL (b :: t) := by
  have h : 1 ≤ b.toNat := by
    rcases Nat.eq_zero_or_pos b.toNat with h | h
    · exact absurd (UInt8.toNat_inj.1 (h.trans rfl)) hb
    · exact h
  show 256 ^ t.length ≤ b.toNat * 256 ^ t.length + valL t
  have := Nat.mul_le_mul_right (256 ^ t.length) h
  omega
/-- Two lists that are as short as may be, of one number, are one. -/
theorem short_inj : ∀ (a b : List UInt8), shortL a → shortL b → valL a = valL b → a = b := by
  have same : ∀ (a b : List UInt8), a.length = b.length → valL a = valL b → a = b := by
    intro a
    induction a with
    | nil => intro b hl _; exact (List.eq_nil_of_length_eq_zero hl.symm).symm
    | cons x t ih =>
      intro b hl hv
      cases b with
      | nil => cases hl
      | cons y u =>
        have hl' : t.length = u.length := by simpa using hl
        have h1 := valL_lt t
        have h2 := valL_lt u
        rw [valL, valL, hl'] at hv
        rw [hl'] at h1
        have hp : 0 < 256 ^ u.length := Nat.pow_pos (by decide)
        have hx : x.toNat = y.toNat := by
          rcases Nat.lt_trichotomy x.toNat y.toNat with h | h | h
          · have := Nat.mul_le_mul_right (256 ^ u.length) (show x.toNat + 1 ≤ y.toNat from h)
            rw [Nat.add_mul] at this; omega
          · exact h
          · have := Nat.mul_le_mul_right (256 ^ u.length) (show y.toNat + 1 ≤ x.toNat from h)
            rw [Nat.add_mul] at this; omega
        have hv' : valL t = valL u := by rw [hx] at hv; omega
        rw [UInt8.toNat_inj.1 hx, ih u hl' hv']
  intro a b ha hb hv
  refine same a b ?_ hv
  have big : ∀ (a b : List UInt8), shortL a → a.length > b.length → valL b < valL a := by
    intro a b ha hl
    cases a with
    | nil => simp at hl
    | cons x t =>
      have h1 := valL_cons_pos (t := t) ha
      have h2 := valL_lt b
      have h3 : 256 ^ b.length ≤ 256 ^ t.length := Nat.pow_le_pow_right (by decide) (by simpa using Nat.le_of_lt_succ hl)
      omega
  rcases Nat.lt_trichotomy a.length b.length with h | h | h
  · have := big b a hb h; omega
  · exact h
  · have := big a b ha h; omega
/-- The bytes of a number are those of whatever is as short as may be. -/
theorem numT_eq {n : Nat} (hn : n < 256 ^ 8) (t : ByteArray) : numT n = t ↔ shortL t.data.toList ∧ valL t.data.toList = n := by
  have h1 := numL_val 8 n [] hn
  have h2 := numL_short 8 n [] hn (fun _ => trivial)
  have h3 : (numT n).data.toList = numL 8 n [] := numB_list 8 n ByteArray.empty
  have h4 : valL (numL 8 n []) = n := by rw [h1]; simp [valL]
  constructor
  · rintro rfl
    rw [h3]
    exact ⟨h2, h4⟩
  · rintro ⟨h5, h6⟩
    have h7 := short_inj _ _ h2 h5 (h4.trans h6.symm)
    rw [← h3] at h7
    have h8 : (numT n).data = t.data := Array.toList_inj.1 h7
    exact ByteArray.ext h8

end Go.Proofs.Ytengnjffajimdaa
