/-
  Texts of one's own, joined.
-/
import Derived.Test.YtkmelamfohfdkabProg
import Derived.Test.YtkmelamfohfdkabJoined34
import Derived.WalkKit
import Derived.WalkLawsBesides
import Derived.WalkSpells
import Derived.Deep.WholeRow
import Derived.BigRegion
import Derived.ChangeKeysEq
import Derived.Laws.CopyOwn
import Derived.Deep.QuietTactic
import Derived.BigQuiet
import Derived.Test.YtkmelamfohfdkabJoined21
import Derived.Test.YtkmelamfohfdkabWordPure

/-
  Arrays of words in blocks.
-/
namespace Go.Proofs.Ytkmelamfohfdkab
open Go.RowKit

/-- n words as cells. -/
def sc (f : Nat → BitVec 64) (n : Nat) : Array Value := ((List.range n).map fun i => Value.int .u64 (wv (f i))).toArray

theorem sc_size (f : Nat → BitVec 64) (n : Nat) : (sc f n).size = n := by simp [sc]
theorem sc_at (f : Nat → BitVec 64) (n i : Nat) (h : i < n) : (sc f n)[i]? = some (.int .u64 (wv (f i))) := by simp [sc, h]
theorem sc_one (f : Nat → BitVec 64) (n : Nat) : (sc f n).all (·.oneCell') = true := by
  rw [Array.all_eq_true_iff_forall_mem]
  intro x hx
  simp [sc] at hx
  obtain ⟨i, _, rfl⟩ := hx
  rfl
theorem sc_congr {f g : Nat → BitVec 64} {n : Nat} (h : ∀ i, i < n → f i = g i) : sc f n = sc g n := by
  unfold sc
  congr 1
  apply List.map_congr_left
  intro i hi
  rw [h i (by simpa using hi)]
theorem sc_set (f : Nat → BitVec 64) (n i : Nat) (v : BitVec 64) : (sc f n).setIfInBounds i (.int .u64 (wv v)) = sc (upd f i v) n := by
  apply Array.ext_getElem?
  intro j
  rw [Array.getElem?_setIfInBounds]
  by_cases hj : j < n
  · rw [sc_at (upd f i v) _ _ hj, sc_at f _ _ hj]
    by_cases e : i = j
    · subst e; simp [sc_size, hj, upd]
    · have e' : ¬ j = i := fun x => e x.symm
      simp [e, upd, e']
  · have h1 : (sc (upd f i v) n)[j]? = none := Array.getElem?_eq_none (by rw [sc_size]; omega)
    have h2 : (sc f n)[j]? = none := Array.getElem?_eq_none (by rw [sc_size]; omega)
    rw [h1, h2]
    by_cases e : i = j
    · subst e; simp [sc_size, hj]
    · simp [e]

/-- Block g holds these n words. -/
def At (w : World) (g : Nat) (t : TypeId) (n : Nat) (f : Nat → BitVec 64) : Prop := w.heap[g]? = some (.cells (sc f n) t (0, 0))

end Go.Proofs.Ytkmelamfohfdkab

/-
  The walks over words of 64 bits.
-/
namespace Go.Proofs.Ytkmelamfohfdkab
open Go.RowKit

theorem byW_at (s : ByteArray) (k : Nat) (h : k < s.size) : ((s[k]'h).toNat : Int) = wv (byW s.data.toList k) := by
  unfold byW
  rw [wv_ofNat (Nat.lt_trans (UInt8.toNat_lt _) (by decide))]
  congr 2
  have h2 : k < s.data.size := h
  rw [List.getD_eq_getElem?_getD, Array.getElem?_toList, Array.getElem?_eq_getElem h2]
  rfl
theorem wrap_w (x : BitVec 64) : IntKind.u64.wrap (wv x) = wv x := wrap_wv _ x.isLt

theorem u64_n (n : Nat) (h : n < 64) : IntKind.u64.wrap (n : Int) = (n : Int) := wrap_wv n (by omega)
theorem u64_64 (n : Nat) (h : n < 64) : IntKind.u64.wrap (64 - (n : Int)) = ((64 - n : Nat) : Int) := by
  rw [show (64 : Int) - n = ((64 - n : Nat) : Int) by omega]; exact wrap_wv _ (by omega)
theorem u64_63 (n : Nat) (h : n < 64) : bits .and .u64 (n : Int) 63 = (n : Int) := by
  rw [show (63 : Int) = ((63 : Nat) : Int) by rfl, u64_and_nat n 63 (by omega) (by omega), nat_mask6]
  congr 1; omega

theorem wv_shl8 (x : BitVec 64) : IntKind.u64.wrap (wv x * 256) = wv (x <<< 8) := wv_shl x 8

end Go.Proofs.Ytkmelamfohfdkab
