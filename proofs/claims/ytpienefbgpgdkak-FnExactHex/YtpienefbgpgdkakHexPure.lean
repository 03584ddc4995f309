/-
  Plain facts on figures: no program in here.
-/
import Derived.Test.YtpienefbgpgdkakPure
namespace Go.Proofs.Ytpienefbgpgdkak
open Go.RowKit

/-- The figure of a number below 16, as a number. -/
def figZ (z : Int) : Int := if z < 10 then 48 + z else 87 + z

def fig (n : Nat) : UInt8 := UInt8.ofNat (if n < 10 then 48 + n else 87 + n)

theorem figZ_eq (n : Nat) (h : n < 16) : figZ (n : Int) = ((fig n).toNat : Int) := by
  unfold figZ fig
  by_cases h9 : n < 10
  · rw [if_pos h9, if_pos (by omega), toNat_of (by omega)]; omega
  · rw [if_neg h9, if_neg (by omega), toNat_of (by omega)]; omega

/-- Two figures for each byte. -/
def hexL : List UInt8 → List UInt8
  | [] => []
  | b :: r => fig (b.toNat / 16) :: fig (b.toNat % 16) :: hexL r

theorem hexL_len (l : List UInt8) : (hexL l).length = 2 * l.length := by
  induction l with
  | nil => rfl
  | cons b r ih => simp only [hexL, List.length_cons, ih]; omega

theorem hexL_snoc (l : List UInt8) (b : UInt8) : hexL (l ++ [b]) = hexL l ++ [fig (b.toNat / 16), fig (b.toNat % 16)] := by
  induction l with
  | nil => rfl
  | cons x r ih => simp only [List.cons_append, hexL, ih]

theorem take_snoc (s : ByteArray) (k : Nat) (h : k < s.size) : s.data.toList.take (k + 1) = s.data.toList.take k ++ [s[k]] := by
  rw [List.take_succ_eq_append_getElem (by simpa using h)]; rfl

theorem take_all (s : ByteArray) (k : Nat) (h : ¬ k < s.size) : s.data.toList.take k = s.data.toList :=
  List.take_of_length_le (by simp; have : s.data.size = s.size := rfl; omega)

theorem hex_len (s : ByteArray) (k : Nat) (h : k ≤ s.size) : (hexL (s.data.toList.take k)).length = 2 * k := by
  rw [hexL_len]; simp; have : s.data.size = s.size := rfl; omega

/-- What the append of two figures leaves. -/
theorem push_hex {w wr w1 W : World} {B : Nat} {v v' : Value} {s : ByteArray} {k : Nat} (hk : k < s.size) (hB : B ≤ W.heap.size) (hbel : Below B w W)
    (hown : wr.ownsRow B 5 1 v (hexL (s.data.toList.take k)).length (bytesV (hexL (s.data.toList.take k))))
    (hown' : w1.ownsRow B 5 1 v' ((hexL (s.data.toList.take k)).length + 2) (bytesV (hexL (s.data.toList.take k)) ++ [Value.int .u8 (figZ ((s[k].toNat : Int) / 16)), Value.int .u8 (figZ ((s[k].toNat : Int) % 16))])) (hgrow : W.grownBy w1 v.ownBlock) :
    w1.ownsRow B 5 1 v' (hexL (s.data.toList.take (k + 1))).length (bytesV (hexL (s.data.toList.take (k + 1)))) ∧ Below B w w1 := by
  have hb := s[k].toNat_lt
  refine ⟨?_, hbel.grown hgrow hB (fun k hk => (hown.lt k hk).1)⟩
  have e1 := figZ_eq (s[k].toNat / 16) (by omega)
  have e2 := figZ_eq (s[k].toNat % 16) (by omega)
  have c1 : ((s[k].toNat / 16 : Nat) : Int) = (s[k].toNat : Int) / 16 := by omega
  have c2 : ((s[k].toNat % 16 : Nat) : Int) = (s[k].toNat : Int) % 16 := by omega
  rw [c1] at e1
  rw [c2] at e2
  rw [take_snoc s k hk, hexL_snoc, bytesV_append, List.length_append]
  rw [e1, e2] at hown'
  exact hown'

end Go.Proofs.Ytpienefbgpgdkak
