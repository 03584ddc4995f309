/-
  What is sealed is unsealed; with one byte turned it is not.
-/
import Derived.Test.YtpehnhmbkhlmaaaDoorUnseal
import Derived.Lib.ConvBytes
namespace Go.Proofs.YtpehnhmbkhlmaaaDoor
open Go.RowKit

theorem bytes_ext {a b : ByteArray} (h : a.data.toList = b.data.toList) : a = b := ByteArray.ext (Array.toList_inj.1 h)
theorem preT_list (s : ByteArray) (n : Nat) : (preT s n).data.toList = s.data.toList.take n := by
  unfold preT
  rw [Lib.extract_data]
  simp
theorem sufT_list (s : ByteArray) (n : Nat) : (sufT s n).data.toList = s.data.toList.drop n := by
  unfold sufT
  rw [Lib.extract_data, List.take_of_length_le (by rw [List.length_drop, ← Lib.size_eq]; omega)]

theorem unseal_seal (s : ByteArray) (h : s.size ≤ 20000) : unsealOf (sealT s) = .tuple #[.string s, .bool true] := by
  have hs := sealT_size s
  have hl : s.data.toList.length = s.size := (Lib.size_eq s).symm
  have e : (sealT s).size - 4 = s.size := by omega
  have hp : preT (sealT s) s.size = s := bytes_ext (by rw [preT_list, sealT_list, ← hl, List.take_left])
  have hq : sufT (sealT s) s.size = fourT (sumL 4294967295 s.data.toList) := bytes_ext (by rw [sufT_list, sealT_list, ← hl, List.drop_left]; simp [fourT])
  unfold unsealOf
  rw [if_pos (by omega), e]
  unfold unsealN
  rw [hp, hq, if_pos rfl]

/-- A sealed text, its byte i turned into c. -/
def turnT (s : ByteArray) (i : Nat) (c : UInt8) : ByteArray := ⟨((sealT s).data.toList.set i c).toArray⟩
theorem turnT_size (s : ByteArray) (i : Nat) (c : UInt8) : (turnT s i c).size = s.size + 4 := by
  have h : (turnT s i c).data.toList.length = (sealT s).data.toList.length := by
    show ((sealT s).data.toList.set i c).toArray.toList.length = _
    rw [List.length_set]
  rw [Lib.size_eq, h, ← Lib.size_eq, sealT_size]
theorem unseal_turned (s : ByteArray) (h : s.size ≤ 20000) (i : Nat) (c : UInt8) (hi : i < (sealT s).data.toList.length) (hc : c ≠ (sealT s).data.toList[i]) : unsealOf (turnT s i c) = .tuple #[.string ⟨#[]⟩, .bool false] := by
  have hs := turnT_size s i c
  have hl : s.data.toList.length = s.size := (Lib.size_eq s).symm
  have e : (turnT s i c).size - 4 = s.size := by omega
  unfold unsealOf
  rw [if_pos (by omega), e]
  unfold unsealN
  refine if_neg fun he => ?_
  have h2 := congrArg (fun b : ByteArray => b.data.toList) he
  simp only [preT_list, sufT_list] at h2
  simp only [sealT_list] at hi hc
  have h3 : (turnT s i c).data.toList = (s.data.toList ++ four (sumL 4294967295 s.data.toList)).set i c := by
    unfold turnT
    rw [sealT_list]
  rw [h3, ← hl] at h2
  refine turned_false s.data.toList i c hi hc ?_
  exact h2

/-- The byte that is put there is another. -/
theorem other_byte (b : UInt8) (d : Nat) (h0 : 0 < d) (h1 : d < 256) : UInt8.ofNat (b.toNat ^^^ d) ≠ b := by
  intro e
  have e2 := congrArg UInt8.toNat e
  have hb := b.toNat_lt
  have hx : b.toNat ^^^ d < 256 := Nat.xor_lt_two_pow (n := 8) (by omega) h1
  rw [UInt8.toNat_ofNat_of_lt' (by simpa using hx)] at e2
  have : d = 0 := xor_drop_left (n := b.toNat) (by rw [e2, Nat.xor_zero])
  omega

theorem sum_x (s : ByteArray) : sumL 4294967295 (s ++ ⟨#[120]⟩ : ByteArray).data.toList = sumL (sumL 4294967295 s.data.toList) (⟨#[120]⟩ : ByteArray).data.toList := by
  rw [show (s ++ ⟨#[120]⟩ : ByteArray).data.toList = s.data.toList ++ [120] by simp, sumL_append]

/-- Behind '[]byte(t)' and a store the row holds the turned bytes. -/
theorem turned_row {w5 : World} {B i : Nat} {l : List UInt8} {c : UInt8} (hi : i < l.length) (hcell : ∀ j (hj : j < l.length), w5.cell? ⟨B, j, none⟩ = some (.int .u8 (l[j].toNat : Int))) :
    ∀ j (hj : j < (l.set i c).length), (w5.setCell ⟨B, i, none⟩ (.int .u8 (c.toNat : Int))).cell? ((⟨B, 0, none⟩ : Addr).add j) = some (.int .u8 ((l.set i c)[j].toNat : Int)) := fun j hj => by
  rw [List.length_set] at hj
  rw [Addr.add_lit, Nat.zero_add]
  by_cases h : i = j
  · subst h
    rw [World.cell?_setCell_same (h := hcell i hi)]
    simp
  · rw [World.cell?_setCell_other (h := fun e => h (Addr.mk.inj e).2.1), hcell j hj, List.getElem_set_ne h]

end Go.Proofs.YtpehnhmbkhlmaaaDoor
