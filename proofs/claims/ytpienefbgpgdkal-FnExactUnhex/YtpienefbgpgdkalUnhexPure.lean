/-
  Plain facts on figures two by two: no program in here.
-/
import Derived.Test.YtpienefbgpgdkalFigPure
namespace Go.Proofs.Ytpienefbgpgdkal
open Go.RowKit

def pairB : List Nat → List UInt8
  | a :: b :: r => UInt8.ofNat (16 * a + b) :: pairB r
  | _ => []

def unS : List UInt8 → Option (List UInt8)
  | a :: b :: r => (val a).bind fun x => (val b).bind fun y => (unS r).map fun t => UInt8.ofNat (16 * x + y) :: t
  | _ => some []

theorem val_lt {b : UInt8} {v : Nat} (h : val b = some v) : v < 16 := by
  unfold val at h
  by_cases h1 : 48 ≤ b.toNat ∧ b.toNat ≤ 57
  · rw [if_pos h1] at h; simp at h; omega
  · rw [if_neg h1] at h
    by_cases h2 : 97 ≤ b.toNat ∧ b.toNat ≤ 102
    · rw [if_pos h2] at h; simp at h; omega
    · rw [if_neg h2] at h; cases h

theorem valB_16 (b : UInt8) : valB 16 b = val b := by
  unfold valB
  cases h : val b with
  | none => rfl
  | some v => simp [val_lt h]

theorem unS_eq : ∀ (l : List UInt8), l.length % 2 = 0 → unS l = (allV 16 l).map pairB
  | [], _ => rfl
  | [a], h => by simp at h
  | a :: b :: r, h => by
    simp only [unS, allV, valB_16]
    rw [unS_eq r (by simp at h; omega)]
    cases val a with
    | none => rfl
    | some x =>
      cases val b with
      | none => rfl
      | some y =>
        simp only [Option.bind_some]
        cases allV 16 r <;> rfl

theorem pairB_append : ∀ (l m : List Nat), l.length % 2 = 0 → pairB (l ++ m) = pairB l ++ pairB m
  | [], m, _ => by simp [pairB]
  | [a], m, h => by simp at h
  | a :: b :: r, m, h => by
    simp only [List.cons_append, pairB]
    rw [pairB_append r m (by simp at h; omega)]

theorem take_two {vs : List Nat} {k : Nat} (h : k + 1 < vs.length) : vs.take (k + 2) = vs.take k ++ [vs[k], vs[k + 1]] := by
  have e1 : vs.take (k + 1 + 1) = vs.take (k + 1) ++ [vs[k + 1]] := List.take_succ_eq_append_getElem h
  have e2 : vs.take (k + 1) = vs.take k ++ [vs[k]] := List.take_succ_eq_append_getElem (by omega)
  show vs.take (k + 1 + 1) = _
  rw [e1, e2, List.append_assoc]
  rfl

theorem pairB_next {vs : List Nat} {k : Nat} (h : 2 * k + 1 < vs.length) : pairB (vs.take (2 * (k + 1))) = pairB (vs.take (2 * k)) ++ [UInt8.ofNat (16 * vs[2 * k] + vs[2 * k + 1])] := by
  rw [show 2 * (k + 1) = 2 * k + 2 by omega, take_two h, pairB_append _ _ (by simp; omega)]
  rfl

theorem pairB_len : ∀ (l : List Nat), (pairB l).length = l.length / 2
  | [] => rfl
  | [a] => by simp [pairB]
  | a :: b :: r => by simp only [pairB, List.length_cons, pairB_len r]; omega

/-- At the head of a round of spec.Unhex: k bytes are made. -/
structure UnInv (s : ByteArray) (k : Nat) (out : List UInt8) : Prop where
  le : 2 * k ≤ s.size
  len : out.length = k
  eq : unS s.data.toList = (unS (s.data.toList.drop (2 * k))).map fun t => out ++ t

theorem UnInv.start (s : ByteArray) : UnInv s 0 [] := ⟨by omega, rfl, by simp⟩

theorem drop_two {s : ByteArray} {k : Nat} (h : 2 * k + 1 < s.size) : s.data.toList.drop (2 * k) = s[2 * k] :: s[2 * k + 1] :: s.data.toList.drop (2 * (k + 1)) := by
  rw [drop_at s (2 * k) (by omega), drop_at s (2 * k + 1) h]
  rfl

theorem UnInv.next {s : ByteArray} {k : Nat} {out : List UInt8} (h : UnInv s k out) (hk : 2 * k + 1 < s.size) {x y : Nat} (hx : val s[2 * k] = some x) (hy : val s[2 * k + 1] = some y) :
    UnInv s (k + 1) (out ++ [UInt8.ofNat (16 * x + y)]) := by
  refine ⟨by omega, by simp [h.len], ?_⟩
  rw [h.eq, drop_two hk]
  simp only [unS, hx, hy, Option.bind_some, Option.map_map]
  congr 1
  funext t
  simp

theorem UnInv.bad {s : ByteArray} {k : Nat} {out : List UInt8} (h : UnInv s k out) (hk : 2 * k + 1 < s.size) (hxy : val s[2 * k] = none ∨ val s[2 * k + 1] = none) : unS s.data.toList = none := by
  rw [h.eq, drop_two hk]
  simp only [unS]
  rcases hxy with e | e
  · rw [e]; rfl
  · rw [e]; cases val s[2 * k] <;> rfl

theorem UnInv.all {s : ByteArray} {k : Nat} {out : List UInt8} (h : UnInv s k out) (hk : ¬ 2 * k < s.size) : unS s.data.toList = some out := by
  rw [h.eq, List.drop_eq_nil_of_le (by simp; have : s.data.size = s.size := rfl; omega)]
  simp [unS]

theorem UnInv.next' {s : ByteArray} {k j : Nat} {out : List UInt8} (h : UnInv s k out) (hj : j = 2 * k) (hk0 : j < s.size) (hk : j + 1 < s.size) {x y : Nat} (hx : val s[j] = some x) (hy : val s[j + 1] = some y) :
    UnInv s (k + 1) (out ++ [UInt8.ofNat (16 * x + y)]) := by subst hj; exact h.next hk hx hy
theorem UnInv.bad' {s : ByteArray} {k j : Nat} {out : List UInt8} (h : UnInv s k out) (hj : j = 2 * k) (hk0 : j < s.size) (hk : j + 1 < s.size) (hxy : val s[j] = none ∨ val s[j + 1] = none) : unS s.data.toList = none := by
  subst hj; exact h.bad hk hxy

end Go.Proofs.Ytpienefbgpgdkal
