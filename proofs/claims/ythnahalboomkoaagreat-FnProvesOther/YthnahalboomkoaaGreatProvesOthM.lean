/-
  A proof, told otherwise: no program in here.
-/
import Derived.Test.YthnahalboomkoaaGreatProvesPre
import Derived.Test.YthnahalboomkoaaGreatJoined12

namespace Go.Proofs.YthnahalboomkoaaGreat

theorem right_iff (al be ga de i a b c : Int) : prfRight (gx al) (gx be) (gx ga) (gx de) (gx i) (gx a) (gx b) (gx c) = true ↔ Dp (a * b - (al * be + i * ga + c * de)) := by
  unfold prfRight
  rw [decide_eq_true_iff]
  exact pair_three a b al be i ga c de
theorem okI_of {al be ga de : Int} (x : Nat → Int) {t : List Int} {p : Nat} (ht : t.length = p) (hw : wide t (t.length : Int) = true) {a b c : Int} (ha : (gx a).2.2 = false) (hb : (gx b).2.2 = false) :
    prfOkI (gx al) (gx be) (gx ga) (gx de) (fun j => (gxL (zls x (p + 1))).getD j pZ) (p + 1) t (gx a) (gx b) (gx c) = prfRight (gx al) (gx be) (gx ga) (gx de) (gx (x 0 + sumZ (fun j => t.getD j 0 * x (j + 1)) p)) (gx a) (gx b) (gx c) := by
  unfold prfOkI prfMay
  rw [gx_in, gx_in, gx_in, ha, hb, hw, decide_eq_true (by omega : p + 1 = t.length + 1), inSum_gx _ t p ht]
  simp
/-- Told otherwise it is right just when the sum is the same point. -/
theorem okI_other {al be ga de : Int} (hg : 1 ≤ ga ∧ ga ≤ 1008) (x : Nat → Int) {t t' : List Int} {p : Nat} (ht : t.length = p) (hw : wide t (t.length : Int) = true) (ht' : t'.length = p) (hw' : wide t' (t'.length : Int) = true) {a b c : Int} (ha : (gx a).2.2 = false) (hb : (gx b).2.2 = false)
    (h : prfOkI (gx al) (gx be) (gx ga) (gx de) (fun j => (gxL (zls x (p + 1))).getD j pZ) (p + 1) t (gx a) (gx b) (gx c) = true) :
    prfOkI (gx al) (gx be) (gx ga) (gx de) (fun j => (gxL (zls x (p + 1))).getD j pZ) (p + 1) t' (gx a) (gx b) (gx c) = decide (inSumI (fun j => (gxL (zls x (p + 1))).getD j pZ) (p + 1) t' = inSumI (fun j => (gxL (zls x (p + 1))).getD j pZ) (p + 1) t) := by
  rw [okI_of x ht hw ha hb, right_iff] at h
  rw [okI_of x ht' hw' ha hb, inSum_gx _ t p ht, inSum_gx _ t' p ht', Bool.eq_iff_iff, right_iff, decide_eq_true_iff, gx_iff]
  generalize x 0 + sumZ (fun j => t.getD j 0 * x (j + 1)) p = i at *
  generalize x 0 + sumZ (fun j => t'.getD j 0 * x (j + 1)) p = i' at *
  have h1 : Dp (a * b - al * be - c * de - i * ga) := h.of (by grind)
  have h2 := other_iff (e := a * b - al * be - c * de) (i := i) (i' := i') (inv_dp hg) h1
  constructor
  · intro h3
    exact (h2.1 (h3.of (by grind))).neg.of (by grind)
  · intro h3
    exact (h2.2 (h3.neg.of (by grind))).of (by grind)
/-- With the base put to C it is not right. -/
theorem okI_plus {al be ga de : Int} (hd : 1 ≤ de ∧ de ≤ 1008) (x : Nat → Int) {t : List Int} {p : Nat} (ht : t.length = p) (hw : wide t (t.length : Int) = true) {a b c : Int} (ha : (gx a).2.2 = false) (hb : (gx b).2.2 = false)
    (h : prfOkI (gx al) (gx be) (gx ga) (gx de) (fun j => (gxL (zls x (p + 1))).getD j pZ) (p + 1) t (gx a) (gx b) (gx c) = true) :
    prfOkI (gx al) (gx be) (gx ga) (gx de) (fun j => (gxL (zls x (p + 1))).getD j pZ) (p + 1) t (gx a) (gx b) (pSum (gx c) pB) = false := by
  rw [okI_of x ht hw ha hb, right_iff] at h
  rw [← gx_base, gx_add, okI_of x ht hw ha hb]
  generalize x 0 + sumZ (fun j => t.getD j 0 * x (j + 1)) p = i at *
  cases hq : prfRight (gx al) (gx be) (gx ga) (gx de) (gx i) (gx a) (gx b) (gx (c + 1))
  · rfl
  · exfalso
    have h2 := (right_iff _ _ _ _ _ _ _ _).1 hq
    exact plus_no (e := a * b - al * be - i * ga) (c := c) (inv_dp hd) (h.of (by grind)) (h2.of (by grind))
theorem wide_set {t : List Int} (hw : wide t (t.length : Int) = true) (k : Nat) {y : Int} (hy : 0 ≤ y ∧ y ≤ 1008) : wide (t.set k y) ((t.set k y).length : Int) = true := by
  unfold wide at hw ⊢
  rw [decide_eq_true rfl, Bool.true_and] at hw ⊢
  refine List.all_eq_true.2 fun z hz => ?_
  rcases List.mem_or_eq_of_mem_set hz with h | rfl
  · exact List.all_eq_true.1 hw z h
  · exact decide_eq_true hy

end Go.Proofs.YthnahalboomkoaaGreat
