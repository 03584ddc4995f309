/-
  The walks of the helpers of the exact laws on lists of numbers: marks, and whether they are held.
  (-DROP-: what the seat lacks is left out.)
-/
import Derived.Test.YtmpjnabadplbjaaJoined11
import Derived.Test.YtmpjnabadplbjaaBytes
import Derived.Test.YtmpjnabadplbjaaKps
namespace Go.Proofs.Ytmpjnabadplbjaa
open Go.RowKit

/-- So many marks. -/
def mkz (k n : Nat) : List Int := zls (fun j => ((k + j : Nat) : Int)) n
theorem mkz_length (k n : Nat) : (mkz k n).length = n := zls_length _ _
theorem mkz_at (k : Nat) {n j : Nat} (h : j < n) : (mkz k n)[j]? = some ((k + j : Nat) : Int) := by simp [mkz, zls, h]
theorem mkz_step {l : List Int} {k j : Nat} (h : j < l.length) : (mkz k j ++ l.drop j).set j ((k + j : Nat) : Int) = mkz k (j + 1) ++ l.drop (j + 1) := by
  have hl := mkz_length k j
  rw [List.drop_eq_getElem_cons h, show mkz k (j + 1) = mkz k j ++ [((k + j : Nat) : Int)] from zls_next _ _, List.append_assoc]
  rw [List.set_append_right _ _ (by omega)]
  have : j - (mkz k j).length = 0 := by omega
  rw [this]
  rfl

end Go.Proofs.Ytmpjnabadplbjaa
