/-
  The walks over words of 64 bits.
-/
import Derived.Test.YtlaoikpbgbckjaaRowsB
import Derived.Test.YtlaoikpbgbckjaaWordPure
import Derived.WalkLawsBesides
import Derived.WalkSpells
namespace Go.Proofs.Ytlaoikpbgbckjaa
open Go.RowKit

theorem byW_at (s : ByteArray) (k : Nat) (h : k < s.size) : ((s[k]'h).toNat : Int) = wv (byW s.data.toList k) := by
  unfold byW
  rw [wv_ofNat (Nat.lt_trans (UInt8.toNat_lt _) (by decide))]
  congr 2
  have h2 : k < s.data.size := h
  rw [List.getD_eq_getElem?_getD, Array.getElem?_toList, Array.getElem?_eq_getElem h2]
  rfl
theorem wrap_w (x : BitVec 64) : IntKind.u64.wrap (wv x) = wv x := wrap_wv _ x.isLt

theorem u64_n (n : Nat) (h : n < 64) : IntKind.u64.wrap (n : Int) = (n : Int) := wrap_wv n (by omega)
theorem u64_64 (n : Nat) (h : n < 64) : IntKind.u64.wrap (64 - (n : Int)) = ((64 - n : Nat) : Int) := by
  rw [show (64 : Int) - n = ((64 - n : Nat) : Int) by omega]; exact wrap_wv _ (by omega)
theorem u64_63 (n : Nat) (h : n < 64) : bits .and .u64 (n : Int) 63 = (n : Int) := by
  rw [show (63 : Int) = ((63 : Nat) : Int) by rfl, u64_and_nat n 63 (by omega) (by omega), nat_mask6]
  congr 1; omega

theorem wv_shl8 (x : BitVec 64) : IntKind.u64.wrap (wv x * 256) = wv (x <<< 8) := wv_shl x 8

end Go.Proofs.Ytlaoikpbgbckjaa
