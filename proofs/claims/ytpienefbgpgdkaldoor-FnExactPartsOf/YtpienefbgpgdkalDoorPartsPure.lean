/-
  Plain facts on the parts of a line: no program in here.
-/
import Derived.Test.YtpienefbgpgdkalDoorFigPure
import Derived.Lib.Fields
namespace Go.Proofs.YtpienefbgpgdkalDoor
open Go.RowKit Go.Lib

def plB (b : UInt8) : Bool := decide (32 ≤ b.toNat ∧ b.toNat ≤ 126)

theorem sp_of {b : UInt8} (h : plB b = true) : isSp b = decide (b.toNat = 32) := by
  have h2 : 32 ≤ b.toNat ∧ b.toNat ≤ 126 := of_decide_eq_true h
  have ne : ∀ c : UInt8, c.toNat < 32 → (b == c) = false := fun c hc => by
    rw [beq_eq_false_iff_ne]
    intro e
    rw [e] at h2
    omega
  unfold isSp
  rw [ne 9 (by decide), ne 10 (by decide), ne 11 (by decide), ne 12 (by decide), ne 13 (by decide)]
  simp only [Bool.false_or]
  by_cases e : b.toNat = 32
  · have : b = 32 := UInt8.toNat_inj.1 e
    subst this
    rfl
  · have : (b == 32) = false := by
      rw [beq_eq_false_iff_ne]
      intro e2
      rw [e2] at e
      exact e rfl
    rw [this]
    simp [e]

/-- What PartsOf answers. -/
def partsR (l : List UInt8) : Option (List (List UInt8)) := if l.length ≤ 600 ∧ l.all plB = true ∧ (fields l).length ≤ 10 then some (fields l) else none

theorem partsR_long {l : List UInt8} (h : ¬ l.length ≤ 600) : partsR l = none := by rw [partsR, if_neg (fun x => h x.1)]
theorem partsR_bad {l : List UInt8} (h : l.all plB ≠ true) : partsR l = none := by rw [partsR, if_neg (fun x => h x.2.1)]
theorem partsR_many {l : List UInt8} (h : ¬ (fields l).length ≤ 10) : partsR l = none := by rw [partsR, if_neg (fun x => h x.2.2)]
theorem partsR_yes {l : List UInt8} (h1 : l.length ≤ 600) (h2 : l.all plB = true) (h3 : (fields l).length ≤ 10) : partsR l = some (fields l) := by rw [partsR, if_pos ⟨h1, h2, h3⟩]

def seg (s : ByteArray) (b k : Nat) : List UInt8 := (s.data.toList.drop b).take (k - b)

theorem seg_snoc {s : ByteArray} {b k : Nat} (hb : b ≤ k) (hk : k < s.size) : seg s b (k + 1) = seg s b k ++ [s[k]] := by
  have e : k + 1 - b = (k - b) + 1 := by omega
  have hlt : k - b < (s.data.toList.drop b).length := by simp; omega
  unfold seg
  rw [e, List.take_succ_eq_append_getElem hlt]
  congr 2
  rw [List.getElem_drop]
  have e2 : b + (k - b) = k := by omega
  simp only [e2]
  rfl

theorem seg_self (s : ByteArray) (b : Nat) : seg s b b = [] := by simp [seg]
theorem seg_len {s : ByteArray} {b k : Nat} (hb : b ≤ k) (hk : k ≤ s.size) : (seg s b k).length = k - b := by simp [seg]; have : s.data.size = s.size := rfl; omega
theorem extract_seg (s : ByteArray) (b k : Nat) : s.extract b k = ⟨(seg s b k).toArray⟩ := by
  apply ByteArray.ext
  apply Array.ext'
  simp [seg, ByteArray.data_extract, List.take_drop]

/-- At the head of a round of spec.PartsOf: k places are behind, the part that is open begins at b. -/
structure PInv (s : ByteArray) (k b : Nat) (out : List (List UInt8)) : Prop where
  le : k ≤ s.size + 1
  lo : b ≤ k
  plain : (s.data.toList.take k).all plB = true
  len : out.length ≤ k
  inside : k ≤ s.size → fields s.data.toList = out ++ fieldsGo (seg s b k) (s.data.toList.drop k)
  done : s.size < k → fields s.data.toList = out

theorem PInv.start (s : ByteArray) : PInv s 0 0 [] := ⟨by omega, Nat.le_refl _, by simp, by simp, fun _ => by simp [fields, seg_self], fun h => by omega⟩

theorem plain_next {s : ByteArray} {k : Nat} (h : (s.data.toList.take k).all plB = true) (hk : k < s.size) (hb : plB s[k] = true) : (s.data.toList.take (k + 1)).all plB = true := by
  rw [take_snoc s k hk, List.all_append, h]; simp [hb]

theorem PInv.letter {s : ByteArray} {k b : Nat} {out : List (List UInt8)} (h : PInv s k b out) (hk : k < s.size) (hb : plB s[k] = true) (hn : s[k].toNat ≠ 32) : PInv s (k + 1) b out := by
  refine ⟨by omega, by have := h.lo; omega, plain_next h.plain hk hb, by have := h.len; omega, fun _ => ?_, fun x => by omega⟩
  rw [h.inside (by omega), drop_at s k hk, fieldsGo_more _ _ _ (by rw [sp_of hb]; simp [hn]), ← seg_snoc h.lo hk]

theorem PInv.blank {s : ByteArray} {k b : Nat} {out : List (List UInt8)} (h : PInv s k b out) (hk : k < s.size) (hb : plB s[k] = true) (hn : s[k].toNat = 32) :
    (b < k → PInv s (k + 1) (k + 1) (out ++ [seg s b k])) ∧ (¬ b < k → PInv s (k + 1) (k + 1) out) := by
  have hsp : isSp s[k] = true := by rw [sp_of hb]; simp [hn]
  refine ⟨fun hlt => ?_, fun hlt => ?_⟩
  · refine ⟨by omega, Nat.le_refl _, plain_next h.plain hk hb, by have := h.len; simp; omega, fun _ => ?_, fun x => by omega⟩
    have hne : seg s b k ≠ [] := fun e => by have := seg_len h.lo (by omega : k ≤ s.size); rw [e] at this; simp at this; omega
    rw [h.inside (by omega), drop_at s k hk, fieldsGo_end _ _ _ hsp hne, seg_self]
    simp
  · refine ⟨by omega, Nat.le_refl _, plain_next h.plain hk hb, by have := h.len; omega, fun _ => ?_, fun x => by omega⟩
    have hbk : b = k := by have := h.lo; omega
    subst hbk
    rw [h.inside (by omega), drop_at s b hk, seg_self, fieldsGo_sp _ _ hsp, seg_self]

theorem PInv.last {s : ByteArray} {b : Nat} {out : List (List UInt8)} (h : PInv s s.size b out) :
    (b < s.size → PInv s (s.size + 1) (s.size + 1) (out ++ [seg s b s.size])) ∧ (¬ b < s.size → PInv s (s.size + 1) (s.size + 1) out) := by
  have hpl : (s.data.toList.take (s.size + 1)).all plB = true := by
    have := h.plain
    rw [take_all s s.size (by omega)] at this
    rw [take_all s (s.size + 1) (by omega)]
    exact this
  have hd : s.data.toList.drop s.size = [] := List.drop_eq_nil_of_le (by simp)
  refine ⟨fun hlt => ?_, fun hlt => ?_⟩
  · refine ⟨Nat.le_refl _, Nat.le_refl _, hpl, by have := h.len; simp; omega, fun x => by omega, fun _ => ?_⟩
    have hne : seg s b s.size ≠ [] := fun e => by have := seg_len h.lo (Nat.le_refl s.size); rw [e] at this; simp at this; omega
    rw [h.inside (Nat.le_refl _), hd]
    simp [fieldsGo, hne]
  · refine ⟨Nat.le_refl _, Nat.le_refl _, hpl, by have := h.len; omega, fun x => by omega, fun _ => ?_⟩
    have hbk : b = s.size := by have := h.lo; omega
    subst hbk
    rw [h.inside (Nat.le_refl _), hd, seg_self]
    simp [fieldsGo]

theorem PInv.bad {s : ByteArray} {k b : Nat} {out : List (List UInt8)} (_h : PInv s k b out) (hk : k < s.size) (hb : plB s[k] ≠ true) : partsR s.data.toList = none := by
  apply partsR_bad
  intro hall
  exact hb (List.all_eq_true.1 hall s[k] (by rw [← List.take_append_drop (k + 1) s.data.toList, take_snoc s k hk]; simp))

theorem PInv.whole {s : ByteArray} {k b : Nat} {out : List (List UInt8)} (h : PInv s k b out) (hk : s.size < k) : s.data.toList.all plB = true ∧ fields s.data.toList = out := by
  refine ⟨?_, h.done hk⟩
  have := h.plain
  rw [take_all s k (by omega)] at this
  exact this

end Go.Proofs.YtpienefbgpgdkalDoor
