/-
  Plain facts on the values of figures: no program in here.
-/
import Derived.WalkKit
namespace Go.Proofs.YtpienefbgpgdkaaDoor
open Go.RowKit

/-- The value of a figure (0-9, a-f), if the byte is one. -/
def val (b : UInt8) : Option Nat :=
  if 48 ≤ b.toNat ∧ b.toNat ≤ 57 then some (b.toNat - 48) else if 97 ≤ b.toNat ∧ b.toNat ≤ 102 then some (b.toNat - 87) else none

def valB (base : Nat) (b : UInt8) : Option Nat := (val b).bind fun v => if v < base then some v else none

/-- The values of all bytes, if each is a figure of the base. -/
def allV (base : Nat) : List UInt8 → Option (List Nat)
  | [] => some []
  | b :: r => (valB base b).bind fun v => (allV base r).map fun vs => v :: vs

theorem allV_snoc (base : Nat) (l : List UInt8) (b : UInt8) : allV base (l ++ [b]) = (allV base l).bind fun vs => (valB base b).map fun v => vs ++ [v] := by
  induction l with
  | nil => simp only [List.nil_append, allV, Option.bind_some, Option.map_some]; cases valB base b <;> rfl
  | cons x r ih =>
    simp only [List.cons_append, allV, ih]
    cases valB base x with
    | none => rfl
    | some v =>
      simp only [Option.bind_some]
      cases allV base r with
      | none => rfl
      | some vs =>
        simp only [Option.bind_some, Option.map_some, Option.map_map]
        cases valB base b <;> rfl

theorem allV_none_append (base : Nat) (l r : List UInt8) (h : allV base l = none) : allV base (l ++ r) = none := by
  induction l with
  | nil => simp [allV] at h
  | cons x t ih =>
    simp only [List.cons_append, allV] at h ⊢
    cases hv : valB base x with
    | none => rfl
    | some v =>
      rw [hv] at h
      simp only [Option.bind_some] at h ⊢
      cases ha : allV base t with
      | none => rw [ih ha]; rfl
      | some vs => rw [ha] at h; simp at h

theorem allV_len {base : Nat} : ∀ {l : List UInt8} {vs : List Nat}, allV base l = some vs → vs.length = l.length
  | [], vs, h => by simp [allV] at h; subst h; rfl
  | b :: r, vs, h => by
    simp only [allV] at h
    cases hv : valB base b with
    | none => rw [hv] at h; simp at h
    | some v =>
      rw [hv] at h
      cases ha : allV base r with
      | none => rw [ha] at h; simp at h
      | some us =>
        rw [ha] at h
        simp at h
        subst h
        simp [allV_len ha]

theorem valB_lt {base : Nat} {b : UInt8} {v : Nat} (h : valB base b = some v) : v < base ∧ v < 16 := by
  unfold valB val at h
  have hb := b.toNat_lt
  by_cases h1 : 48 ≤ b.toNat ∧ b.toNat ≤ 57
  · rw [if_pos h1] at h
    simp at h
    omega
  · rw [if_neg h1] at h
    by_cases h2 : 97 ≤ b.toNat ∧ b.toNat ≤ 102
    · rw [if_pos h2] at h
      simp at h
      omega
    · rw [if_neg h2] at h
      simp at h

theorem allV_lt {base : Nat} : ∀ {l : List UInt8} {vs : List Nat}, allV base l = some vs → ∀ v ∈ vs, v < base ∧ v < 16
  | [], vs, h => by simp [allV] at h; subst h; simp
  | b :: r, vs, h => by
    simp only [allV] at h
    cases hv : valB base b with
    | none => rw [hv] at h; simp at h
    | some v =>
      rw [hv] at h
      cases ha : allV base r with
      | none => rw [ha] at h; simp at h
      | some us =>
        rw [ha] at h
        simp at h
        subst h
        intro x hx
        rcases List.mem_cons.1 hx with e | e
        · subst e; exact valB_lt hv
        · exact allV_lt ha x e

theorem take_snoc (s : ByteArray) (k : Nat) (h : k < s.size) : s.data.toList.take (k + 1) = s.data.toList.take k ++ [s[k]] := by
  rw [List.take_succ_eq_append_getElem (by simpa using h)]; rfl

theorem take_all (s : ByteArray) (k : Nat) (h : ¬ k < s.size) : s.data.toList.take k = s.data.toList :=
  List.take_of_length_le (by simp; have : s.data.size = s.size := rfl; omega)

theorem drop_at (s : ByteArray) (i : Nat) (h : i < s.size) : s.data.toList.drop i = s[i] :: s.data.toList.drop (i + 1) := by
  rw [List.drop_eq_getElem_cons (by simpa using h)]; rfl

/-- What is so at the head of a round of 'figureValues': the first k bytes are figures, worth vs. -/
def Vals (base : Nat) (s : ByteArray) (k : Nat) (vs : List Nat) : Prop := k ≤ s.size ∧ allV base (s.data.toList.take k) = some vs

theorem Vals.start (base : Nat) (s : ByteArray) : Vals base s 0 [] := ⟨Nat.zero_le _, by simp [allV]⟩

theorem Vals.len {base : Nat} {s : ByteArray} {k : Nat} {vs : List Nat} (h : Vals base s k vs) : vs.length = k := by
  have := allV_len h.2
  rw [this]
  simp
  have := h.1
  have e : s.data.size = s.size := rfl
  omega

theorem Vals.next {base : Nat} {s : ByteArray} {k : Nat} {vs : List Nat} (h : Vals base s k vs) (hk : k < s.size) {v : Nat} (hv : valB base s[k] = some v) : Vals base s (k + 1) (vs ++ [v]) := by
  refine ⟨hk, ?_⟩
  rw [take_snoc s k hk, allV_snoc, h.2, hv]
  rfl

theorem Vals.bad {base : Nat} {s : ByteArray} {k : Nat} {vs : List Nat} (_h : Vals base s k vs) (hk : k < s.size) (hv : valB base s[k] = none) : allV base s.data.toList = none := by
  have e : s.data.toList = s.data.toList.take (k + 1) ++ s.data.toList.drop (k + 1) := (List.take_append_drop _ _).symm
  rw [e]
  apply allV_none_append
  rw [take_snoc s k hk, allV_snoc, hv]
  cases allV base (s.data.toList.take k) <;> rfl

theorem Vals.all {base : Nat} {s : ByteArray} {k : Nat} {vs : List Nat} (h : Vals base s k vs) (hk : ¬ k < s.size) : allV base s.data.toList = some vs := by
  rw [← take_all s k hk]; exact h.2

def intsV (l : List Nat) : List Value := l.map fun (n : Nat) => .int .i64 (n : Int)
theorem intsV_append (a b : List Nat) : intsV (a ++ b) = intsV a ++ intsV b := by simp [intsV]
theorem intsV_length (a : List Nat) : (intsV a).length = a.length := by simp [intsV]

theorem intsV_at {l : List Nat} {j : Nat} (h : j < l.length) : (intsV l)[j]? = some (.int .i64 (l[j] : Int)) := by simp [intsV, h]

def bytesV (l : List UInt8) : List Value := l.map fun c => .int .u8 (c.toNat : Int)
theorem bytesV_append (a b : List UInt8) : bytesV (a ++ b) = bytesV a ++ bytesV b := by simp [bytesV]
theorem toNat_of {n : Nat} (h : n < 256) : (UInt8.ofNat n).toNat = n := by simp; omega
theorem bytesV_one {n : Nat} (h : n < 256) : bytesV [UInt8.ofNat n] = [.int .u8 (n : Int)] := by simp only [bytesV, List.map_cons, List.map_nil, toNat_of h]

theorem row_form {w : World} {B e sz n : Nat} {v : Value} {xs : List Value} (h : w.ownsRow B e sz v n xs) : ∃ a cap, v = .slice a n cap := by
  rcases h.2 with ⟨rfl, h0⟩ | ⟨g, cap, cur, rfl, _⟩
  · subst h0; exact ⟨_, _, rfl⟩
  · exact ⟨_, _, rfl⟩

theorem valB_dig {base : Nat} {b : UInt8} (h1 : 48 ≤ b.toNat) (h2 : b.toNat ≤ 57) : valB base b = if b.toNat - 48 < base then some (b.toNat - 48) else none := by
  unfold valB val; rw [if_pos ⟨h1, h2⟩]; rfl
theorem valB_let {base : Nat} {b : UInt8} (h1 : 97 ≤ b.toNat) (h2 : b.toNat ≤ 102) : valB base b = if b.toNat - 87 < base then some (b.toNat - 87) else none := by
  unfold valB val; rw [if_neg (by omega), if_pos ⟨h1, h2⟩]; rfl
theorem valB_not {base : Nat} {b : UInt8} (h1 : ¬ (48 ≤ b.toNat ∧ b.toNat ≤ 57)) (h2 : ¬ (97 ≤ b.toNat ∧ b.toNat ≤ 102)) : valB base b = none := by
  unfold valB val; rw [if_neg h1, if_neg h2]; rfl

theorem one_cell (k : IntKind) (z : Int) : ∀ u ∈ [Value.int k z], u.oneCell' = true := by
  intro u hu; simp at hu; subst hu; rfl
theorem room_for {B : Nat} {w : World} (h : B ≤ w.heap.size) (o : Obj) : B ≤ (w.alloc o).heap.size := by simp; omega

/-- What one append of a number leaves. -/
theorem push_int {w wr w1 : World} {B e : Nat} {v v' : Value} {pre : List Nat} {o : Obj} {k : Nat} (hB : B ≤ wr.heap.size) (hbel : Below B w wr) (hown : wr.ownsRow B e 1 v pre.length (intsV pre))
    (hown' : w1.ownsRow B e 1 v' (pre.length + 1) (intsV pre ++ [Value.int .i64 (k : Int)])) (hgrow : (wr.alloc o).grownBy w1 v.ownBlock) :
    w1.ownsRow B e 1 v' (pre ++ [k]).length (intsV (pre ++ [k])) ∧ Below B w w1 := by
  refine ⟨?_, (hbel.alloc hB o).grown hgrow (by simp; omega) (fun k hk => (hown.lt k hk).1)⟩
  rw [intsV_append, List.length_append]
  exact hown'

/-- What one append of a byte leaves. -/
theorem push_byte {w wr w1 W : World} {B e : Nat} {v v' : Value} {pre : List UInt8} {k : Nat} {z : Int} (hk : k < 256) (hz : z = (k : Int)) (hB : B ≤ W.heap.size) (hbel : Below B w W) (hown : wr.ownsRow B e 1 v pre.length (bytesV pre))
    (hown' : w1.ownsRow B e 1 v' (pre.length + 1) (bytesV pre ++ [Value.int .u8 z])) (hgrow : W.grownBy w1 v.ownBlock) :
    w1.ownsRow B e 1 v' (pre ++ [UInt8.ofNat k]).length (bytesV (pre ++ [UInt8.ofNat k])) ∧ Below B w w1 := by
  refine ⟨?_, hbel.grown hgrow hB (fun k hk => (hown.lt k hk).1)⟩
  rw [bytesV_append, bytesV_one hk, List.length_append, ← hz]
  exact hown'

theorem cells_of_row {w : World} {B e g cap : Nat} {l : List UInt8} (h : w.ownsRow B e 1 (.slice (some ⟨g, 0, none⟩) l.length cap) l.length (bytesV l)) :
    ∀ j (hj : j < l.length), w.cell? ((⟨g, 0, none⟩ : Addr).add j) = some (.int .u8 (l[j].toNat : Int)) := fun j hj => by
  rw [Addr.add_lit, Nat.zero_add, h.cellAt j (by omega)]
  simp [bytesV, hj]

end Go.Proofs.YtpienefbgpgdkaaDoor
