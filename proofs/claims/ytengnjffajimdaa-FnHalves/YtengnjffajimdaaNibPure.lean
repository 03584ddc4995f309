/-
  Paths by halves: no program in here.
-/
namespace Go.Proofs.Ytengnjffajimdaa

/-- The halves of one byte, of bytes. -/
def nib1 (b : UInt8) : List Int := [((b.toNat / 16 : Nat) : Int), ((b.toNat % 16 : Nat) : Int)]
def nibL : List UInt8 → List Int
  | [] => []
  | b :: t => ((b.toNat / 16 : Nat) : Int) :: ((b.toNat % 16 : Nat) : Int) :: nibL t
def nibs (t : ByteArray) : List Int := nibL t.data.toList
theorem nibL_app (a b : List UInt8) : nibL (a ++ b) = nibL a ++ nibL b := by
  induction a with
  | nil => rfl
  | cons x t ih => rw [List.cons_append, nibL, nibL, ih]; rfl
theorem nibL_length : ∀ t : List UInt8, (nibL t).length = 2 * t.length
  | [] => rfl
  | b :: t => by rw [nibL, List.length_cons, List.length_cons, List.length_cons, nibL_length t]; omega
def isNib (x : Int) : Bool := decide (0 ≤ x) && decide (x ≤ 15)
def nibOk (l : List Int) : Bool := l.all isNib && decide (l.length ≤ 64)
theorem isNib_iff {x : Int} : isNib x = true ↔ 0 ≤ x ∧ x ≤ 15 := by simp [isNib]
theorem nibL_ok : ∀ t : List UInt8, (nibL t).all isNib = true
  | [] => rfl
  | b :: t => by
    have hb : b.toNat < 256 := b.toNat_lt
    rw [nibL, List.all_cons, List.all_cons, nibL_ok t, isNib_iff.2 ⟨by omega, by omega⟩, isNib_iff.2 ⟨by omega, by omega⟩]
    rfl
/-- The byte of two halves; bytes of halves two by two. -/
def twoB (x y : Int) : UInt8 := UInt8.ofNat (16 * x + y).toNat
def twoL : List Int → List UInt8
  | x :: y :: t => twoB x y :: twoL t
  | _ => []
theorem twoB_nat {x y : Int} (hx : 0 ≤ x ∧ x ≤ 15) (hy : 0 ≤ y ∧ y ≤ 15) : (twoB x y).toNat = (16 * x + y).toNat := by
  unfold twoB
  rw [UInt8.toNat_ofNat']
  omega
theorem twoB_back {x y : Int} (hx : 0 ≤ x ∧ x ≤ 15) (hy : 0 ≤ y ∧ y ≤ 15) : (((twoB x y).toNat / 16 : Nat) : Int) = x ∧ (((twoB x y).toNat % 16 : Nat) : Int) = y := by
  rw [twoB_nat hx hy]
  omega
/-- Halves come back: of an even number. -/
theorem nibL_two : ∀ (n : Nat) (l : List Int), l.length = 2 * n → l.all isNib = true → nibL (twoL l) = l
  | 0, l, h, _ => by
    obtain rfl : l = [] := List.eq_nil_of_length_eq_zero (by omega)
    rfl
  | n + 1, l, h, ho => by
    match l, h, ho with
    | x :: y :: t, h, ho =>
      rw [List.all_cons, List.all_cons, Bool.and_eq_true, Bool.and_eq_true] at ho
      obtain ⟨hx, hy, ht⟩ := ho
      have hb := twoB_back (isNib_iff.1 hx) (isNib_iff.1 hy)
      simp only [List.length_cons] at h
      rw [twoL, nibL, nibL_two n t (by omega) ht, hb.1, hb.2]
theorem twoL_length : ∀ (n : Nat) (l : List Int), l.length = 2 * n → (twoL l).length = n
  | 0, l, h => by
    obtain rfl : l = [] := List.eq_nil_of_length_eq_zero (by omega)
    rfl
  | n + 1, l, h => by
    match l, h with
    | x :: y :: t, h =>
      simp only [List.length_cons] at h
      rw [twoL, List.length_cons, twoL_length n t (by omega)]
/-- The first byte's number. -/
def preN (l : List Int) (leaf : Bool) : Int := (if leaf then 32 else 0) + (if l.length % 2 = 1 then 16 + l.getD 0 0 else 0)
/-- The halves that stand two by two behind it. -/
def preR (l : List Int) : List Int := if l.length % 2 = 1 then l.drop 1 else l
def preL (l : List Int) (leaf : Bool) : List UInt8 := UInt8.ofNat (preN l leaf).toNat :: twoL (preR l)
def preT (l : List Int) (leaf : Bool) : ByteArray := if nibOk l then ⟨(preL l leaf).toArray⟩ else ByteArray.empty
/-- What a text reads as, its form alone. -/
def rdL (b : UInt8) (t : List UInt8) : List Int := (if b.toNat / 16 % 2 = 1 then [((b.toNat % 16 : Nat) : Int)] else []) ++ nibL t
def rdLeaf (b : UInt8) : Bool := decide (32 ≤ b.toNat)
/-- What ReadPrefix answers. -/
def rdP (t : ByteArray) : Option (List Int × Bool) :=
  match t.data.toList with
  | [] => none
  | b :: r =>
    if b.toNat < 64 ∧ r.length ≤ 39 ∧ nibOk (rdL b r) = true ∧ preL (rdL b r) (rdLeaf b) = b :: r then some (rdL b r, rdLeaf b) else none
theorem all_at {l : List Int} (h : l.all isNib = true) : ∀ x, l.getD 0 0 = x → 0 ≤ x ∧ x ≤ 15 := by
  intro x hx
  match l, h with
  | [], _ => subst hx; exact ⟨Int.le_refl _, by decide⟩
  | y :: t, h =>
    rw [List.all_cons, Bool.and_eq_true] at h
    have hx' : y = x := hx
    subst hx'
    exact isNib_iff.1 h.1
theorem preN_in {l : List Int} (leaf : Bool) (h : l.all isNib = true) : 0 ≤ preN l leaf ∧ preN l leaf < 64 := by
  have h0 := all_at h _ rfl
  unfold preN
  generalize l.getD 0 0 = x at h0 ⊢
  cases leaf <;> simp <;> split <;> omega
theorem pre_byte {l : List Int} (leaf : Bool) (h : l.all isNib = true) : (UInt8.ofNat (preN l leaf).toNat).toNat = (preN l leaf).toNat := by
  have := preN_in leaf h
  rw [UInt8.toNat_ofNat']
  omega
theorem rd_pre {l : List Int} (leaf : Bool) (h : nibOk l = true) : rdL (UInt8.ofNat (preN l leaf).toNat) (twoL (preR l)) = l ∧ rdLeaf (UInt8.ofNat (preN l leaf).toNat) = leaf := by
  unfold nibOk at h
  rw [Bool.and_eq_true] at h
  have ha := h.1
  have h0 := all_at ha _ rfl
  have hb := pre_byte leaf ha
  have hr : rdLeaf (UInt8.ofNat (preN l leaf).toNat) = leaf := by
    unfold rdLeaf
    rw [hb]
    unfold preN
    generalize l.getD 0 0 = x at h0 ⊢
    cases leaf <;> simp <;> split <;> omega
  refine ⟨?_, hr⟩
  unfold rdL
  rw [hb]
  by_cases ho : l.length % 2 = 1
  · have hn : preN l leaf = (if leaf then 32 else 0) + (16 + l.getD 0 0) := by unfold preN; rw [if_pos ho]
    have h1 : (preN l leaf).toNat / 16 % 2 = 1 ∧ (((preN l leaf).toNat % 16 : Nat) : Int) = l.getD 0 0 := by
      rw [hn]
      generalize l.getD 0 0 = x at h0 ⊢
      cases leaf <;> simp <;> omega
    rw [if_pos h1.1, h1.2]
    unfold preR
    rw [if_pos ho]
    match l, ho, ha with
    | y :: t, ho, ha =>
      rw [List.all_cons, Bool.and_eq_true] at ha
      simp only [List.length_cons] at ho
      show [y] ++ nibL (twoL t) = y :: t
      rw [nibL_two (t.length / 2) t (by omega) ha.2]
      rfl
  · have hn : preN l leaf = (if leaf then 32 else 0) := by unfold preN; rw [if_neg ho]; omega
    have h1 : ¬ (preN l leaf).toNat / 16 % 2 = 1 := by rw [hn]; cases leaf <;> simp
    rw [if_neg h1]
    unfold preR
    rw [if_neg ho, nibL_two (l.length / 2) l (by omega) ha]
    rfl
/-- **A right list's text is read as the list.** -/
theorem pre_back {l : List Int} (leaf : Bool) (h : nibOk l = true) : rdP (preT l leaf) = some (l, leaf) := by
  have h' := h
  unfold nibOk at h'
  rw [Bool.and_eq_true] at h'
  have hl : l.length ≤ 64 := of_decide_eq_true h'.2
  unfold preT
  rw [if_pos h]
  unfold rdP
  show (if (UInt8.ofNat (preN l leaf).toNat).toNat < 64 ∧ (twoL (preR l)).length ≤ 39 ∧ nibOk (rdL (UInt8.ofNat (preN l leaf).toNat) (twoL (preR l))) = true ∧ preL (rdL (UInt8.ofNat (preN l leaf).toNat) (twoL (preR l))) (rdLeaf (UInt8.ofNat (preN l leaf).toNat)) = _ then _ else _) = _
  obtain ⟨e1, e2⟩ := rd_pre leaf h
  rw [e1, e2, if_pos]
  · refine ⟨?_, ?_, h, rfl⟩
    · have := preN_in leaf h'.1
      rw [pre_byte leaf h'.1]
      omega
    · unfold preR
      split
      · rw [twoL_length (l.length / 2) _ (by rw [List.length_drop]; omega)]; omega
      · rw [twoL_length (l.length / 2) _ (by omega)]; omega
/-- **What is read is written so.** -/
theorem pre_again {t : ByteArray} {l : List Int} {leaf : Bool} (h : rdP t = some (l, leaf)) : nibOk l = true ∧ preT l leaf = t := by
  unfold rdP at h
  split at h
  · cases h
  · rename_i b r ht
    split at h
    · rename_i hc
      have h1 := Prod.mk.inj (Option.some.inj h)
      rw [h1.1, h1.2] at hc
      refine ⟨hc.2.2.1, ?_⟩
      unfold preT
      rw [if_pos hc.2.2.1, hc.2.2.2, ← ht]
    · cases h
/-- How many are the same from the beginning on. -/
def comN : List Int → List Int → Nat
  | x :: a, y :: b => if x = y then comN a b + 1 else 0
  | _, _ => 0
theorem comN_le : ∀ a b : List Int, comN a b ≤ a.length ∧ comN a b ≤ b.length
  | [], b => by cases b <;> exact ⟨Nat.zero_le _, Nat.zero_le _⟩
  | x :: a, [] => ⟨Nat.zero_le _, Nat.zero_le _⟩
  | x :: a, y :: b => by
    have := comN_le a b
    unfold comN
    split
    · simp only [List.length_cons]; omega
    · exact ⟨Nat.zero_le _, Nat.zero_le _⟩
/-- The one place where a search ends. -/
theorem comN_end : ∀ (a b : List Int) (n : Nat), (∀ j, j < n → a.getD j 0 = b.getD j 0) → n ≤ a.length → n ≤ b.length → (n = a.length ∨ n = b.length ∨ a.getD n 0 ≠ b.getD n 0) → comN a b = n
  | [], b, n, _, h1, _, _ => by
    obtain rfl : n = 0 := by simpa using h1
    cases b <;> rfl
  | x :: a, [], n, _, _, h2, _ => by
    obtain rfl : n = 0 := by simpa using h2
    rfl
  | x :: a, y :: b, 0, _, _, _, h => by
    rcases h with h | h | h
    · cases h
    · cases h
    · show (if x = y then _ else 0) = 0
      have h' : x ≠ y := h
      rw [if_neg h']
  | x :: a, y :: b, n + 1, hj, h1, h2, h => by
    have h0 : x = y := hj 0 (Nat.succ_pos _)
    show (if x = y then comN a b + 1 else 0) = n + 1
    rw [if_pos h0, comN_end a b n (fun j hjn => hj (j + 1) (by omega)) (by simpa using h1) (by simpa using h2) (by simpa using h)]

end Go.Proofs.Ytengnjffajimdaa
