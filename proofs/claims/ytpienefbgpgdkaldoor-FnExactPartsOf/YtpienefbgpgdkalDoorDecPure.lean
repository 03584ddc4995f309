/-
  Plain facts on decimal figures: no program in here.
-/
import Derived.WalkKit
import Derived.Lib.ItoaNum
import Derived.Lib.ItoaLen
namespace Go.Proofs.YtpienefbgpgdkalDoor
open Go.RowKit Go.Lib

/-- The figures of a number, none for 0. -/
def dd (u : Nat) : List UInt8 := if u = 0 then [] else decDigits u

theorem dd_step {u : Nat} (h : u ≠ 0) : dd u = dd (u / 10) ++ [UInt8.ofNat (48 + u % 10)] := by
  unfold dd
  rw [if_neg h]
  by_cases h9 : u < 10
  · rw [if_pos (by omega), decDigits_one h9]
    have : u % 10 = u := by omega
    rw [this]; rfl
  · rw [if_neg (by omega), decDigits, dif_neg h9]

theorem dd_len (u : Nat) (h : u < 18446744073709551616) : (dd u).length ≤ 20 := by
  unfold dd
  by_cases h0 : u = 0
  · rw [if_pos h0]; simp
  · rw [if_neg h0, decDigits_length]; exact nDigits_le20 u h

/-- At the head of a round: u is left of n, and t stands already. -/
def DecInv (n u : Nat) (t : List UInt8) : Prop := u ≤ n ∧ dd n = dd u ++ t

theorem DecInv.start (n : Nat) : DecInv n n [] := ⟨Nat.le_refl _, by simp⟩

theorem DecInv.next {n u : Nat} {t : List UInt8} (h : DecInv n u t) (hu : u ≠ 0) : DecInv n (u / 10) ([UInt8.ofNat (48 + u % 10)] ++ t) := by
  obtain ⟨h1, h2⟩ := h
  exact ⟨by omega, by rw [h2, dd_step hu, List.append_assoc]⟩

theorem DecInv.len {n u : Nat} {t : List UInt8} (h : DecInv n u t) (hn : n < 18446744073709551616) : t.length ≤ 20 := by
  have := dd_len n hn
  have e := congrArg List.length h.2
  simp at e
  omega

theorem DecInv.all {n : Nat} {t : List UInt8} (h : DecInv n 0 t) (hn : n ≠ 0) : t = decDigits n := by
  have := h.2
  unfold dd at this
  rw [if_neg hn, if_pos rfl] at this
  simpa using this.symm

theorem itoa_pos {n : Nat} : itoa (n : Int) = decDigits n := by unfold itoa; rw [if_neg (by omega)]; simp
theorem itoa_minus {n : Nat} (h : n ≠ 0) : itoa (-(n : Int)) = 45 :: decDigits n := by unfold itoa; rw [if_pos (by omega)]; simp

/-- The figure of a number below 10, as a number. -/
def figZ (z : Int) : Int := if z < 10 then 48 + z else 87 + z
theorem figZ_low {u : Nat} (h : u < 10) : figZ (u : Int) = (((UInt8.ofNat (48 + u)).toNat : Nat) : Int) := by
  unfold figZ
  rw [if_pos (by omega)]
  have : (UInt8.ofNat (48 + u)).toNat = 48 + u := by simp; omega
  rw [this]; omega

theorem tmod_neg (u : Nat) : (-(u : Int)).tmod 10 = -((u : Int) % 10) := by
  rw [Int.neg_tmod, Int.tmod_eq_emod_of_nonneg (by omega)]
theorem tdiv_neg (u : Nat) : (-(u : Int)).tdiv 10 = -((u : Int) / 10) := by
  rw [Int.neg_tdiv, Int.tdiv_eq_ediv_of_nonneg (by omega)]

theorem cat_bytes (a b : List UInt8) : (⟨a.toArray⟩ : ByteArray) ++ ⟨b.toArray⟩ = ⟨(a ++ b).toArray⟩ := by
  apply ByteArray.ext
  simp

end Go.Proofs.YtpienefbgpgdkalDoor
