/-
  Texts of one's own, joined.
-/
import Derived.Test.YtckhbflolccinaaPairTab1
import Derived.Test.YtckhbflolccinaaPairTab2
import Derived.Test.YtckhbflolccinaaPairTab3
import Derived.Test.YtckhbflolccinaaPairTab4
import Derived.ProofKit
import Derived.Test.YtckhbflolccinaaJoined16
import Derived.Test.YtckhbflolccinaaJoined17

/-
  The pair of two points of the base's group.
-/
namespace Go.Proofs.Ytckhbflolccinaa

theorem len1 : tab1.length = 252 := by decide +kernel
theorem len2 : tab2.length = 252 := by decide +kernel
theorem len3 : tab3.length = 252 := by decide +kernel
theorem len4 : tab4.length = 252 := by decide +kernel
theorem ok1 : chkAll tab1 (pMul pB 0) (pw gB 0) = true := by rw [pw_zero]; exact tab1_ok
theorem last1 : pMul pB 252 = (9765, 9041, false) ∧ pw gB 252 = (8397, 4494) := by
  have h := chk_last tab1 0 (9765, 9041, false) (8397, 4494) ok1 (by decide +kernel)
  rw [len1] at h
  exact h
theorem ok2 : chkAll tab2 (pMul pB 252) (pw gB 252) = true := by rw [last1.1, last1.2]; exact tab2_ok
theorem last2 : pMul pB 504 = (11327, 2132, false) ∧ pw gB 504 = (8988, 9305) := by
  have h := chk_last tab2 252 (11327, 2132, false) (8988, 9305) ok2 (by decide +kernel)
  rw [len2] at h
  exact h
theorem ok3 : chkAll tab3 (pMul pB 504) (pw gB 504) = true := by rw [last2.1, last2.2]; exact tab3_ok
theorem last3 : pMul pB 756 = (8725, 7364, false) ∧ pw gB 756 = (10213, 10734) := by
  have h := chk_last tab3 504 (8725, 7364, false) (10213, 10734) ok3 (by decide +kernel)
  rw [len3] at h
  exact h
theorem ok4 : chkAll tab4 (pMul pB 756) (pw gB 756) = true := by rw [last3.1, last3.2]; exact tab4_ok
theorem last4 : pMul pB 1008 = (8445, 11248, false) ∧ pw gB 1008 = (372, 8475) := by
  have h := chk_last tab4 756 (8445, 11248, false) (372, 8475) ok4 (by decide +kernel)
  rw [len4] at h
  exact h

theorem right_one {j : Nat} (h0 : 0 < j) (h : j < 1009) : (∃ x y, pMul pB j = (x, y, false)) ∧ mEnd (mill pB (pMul pB j)) = pw gB j := by
  by_cases h1 : j ≤ 252
  · have := chk_all tab1 0 ok1 (j - 1) (by rw [len1]; omega)
    rw [show 0 + (j - 1) + 1 = j by omega] at this
    exact this
  by_cases h2 : j ≤ 504
  · have := chk_all tab2 252 ok2 (j - 253) (by rw [len2]; omega)
    rw [show 252 + (j - 253) + 1 = j by omega] at this
    exact this
  by_cases h3 : j ≤ 756
  · have := chk_all tab3 504 ok3 (j - 505) (by rw [len3]; omega)
    rw [show 504 + (j - 505) + 1 = j by omega] at this
    exact this
  · have := chk_all tab4 756 ok4 (j - 757) (by rw [len4]; omega)
    rw [show 756 + (j - 757) + 1 = j by omega] at this
    exact this

/-- **The pair of two points is the base's, as often as both together.** -/
theorem pair_both (i : Nat) {j : Nat} (h0 : 0 < j) (h : j < 1009) : mEnd (mill (pMul pB i) (pMul pB j)) = pw gB (i * j) := by
  obtain ⟨⟨x, y, hx⟩, h1⟩ := right_one h0 h
  have hne : pMul pB j ≠ pZ := fun e => by
    rw [hx] at e
    have := congrArg (fun P : Pt => P.2.2) e
    cases this
  have af := aff_of (pmul_ok pb_ok j) hne
  have hq := grp.odd _ ⟨j, rfl⟩ hne
  rw [pair_left af hq i, h1, pw_pw, Nat.mul_comm]

/-- The base's pair is one of 1009. -/
theorem gb_order : pw gB 1009 = (1, 0) := by
  rw [show 1009 = 1008 + 1 from rfl, pw_succ in2_gb, last4.2]
  decide +kernel

end Go.Proofs.Ytckhbflolccinaa

/-
  Scalars, numbers modulo 1009: plain mathematics.
-/
namespace Go.Proofs.Ytckhbflolccinaa

/-- A number modulo the size of the group. -/
def sca (x : Int) : Int := x % 1009
theorem sca_nonneg (x : Int) : 0 ≤ sca x := Int.emod_nonneg _ (by decide)
theorem sca_lt (x : Int) : sca x < 1009 := Int.emod_lt_of_pos _ (by decide)
theorem sca_sca (x : Int) : sca (sca x) = sca x := Int.emod_emod_of_dvd _ (Int.dvd_refl _)
theorem sca_small {x : Int} (h : 0 ≤ x) (h' : x < 1009) : sca x = x := Int.emod_eq_of_lt h h'

/-- The rest that Go makes, and what is put to it below 0. -/
theorem tmod_neg_sca {n : Int} (h : Int.tmod n 1009 < 0) : Int.tmod n 1009 + 1009 = sca n := by
  unfold sca
  rcases Int.lt_or_le n 0 with hn | hn
  · have e : Int.tmod n 1009 = -((-n) % 1009) := by
      have := Int.neg_tmod (a := -n) (b := 1009)
      rw [Int.neg_neg] at this
      rw [this, Int.tmod_eq_emod_of_nonneg (by omega)]
    rw [e] at h ⊢
    omega
  · rw [Int.tmod_eq_emod_of_nonneg hn] at h
    omega

theorem tmod_nonneg_sca {n : Int} (h : ¬ Int.tmod n 1009 < 0) : Int.tmod n 1009 = sca n := by
  unfold sca
  rcases Int.lt_or_le n 0 with hn | hn
  · have e : Int.tmod n 1009 = -((-n) % 1009) := by
      have := Int.neg_tmod (a := -n) (b := 1009)
      rw [Int.neg_neg] at this
      rw [this, Int.tmod_eq_emod_of_nonneg (by omega)]
    rw [e] at h ⊢
    omega
  · rw [Int.tmod_eq_emod_of_nonneg hn]

theorem tmod_bounds_sca (n : Int) : -1009 ≤ Int.tmod n 1009 ∧ Int.tmod n 1009 < 1009 := by
  by_cases h : Int.tmod n 1009 < 0
  · have := tmod_neg_sca h; have := sca_nonneg n; omega
  · have := tmod_nonneg_sca h; have := sca_lt n; omega

def scAdd (a b : Int) : Int := sca (sca a + sca b)
def scMul (a b : Int) : Int := sca (sca a * sca b)
def scNeg (a : Int) : Int := sca (-sca a)

theorem scAdd_eq (a b : Int) : scAdd a b = sca (a + b) := by unfold scAdd sca; simp
theorem scMul_eq (a b : Int) : scMul a b = sca (a * b) := by unfold scMul sca; simp [← Int.mul_emod]
theorem sca_neg_sca (a : Int) : sca (-sca a) = sca (-a) := by unfold sca; omega
theorem scNeg_eq (a : Int) : scNeg a = sca (-a) := sca_neg_sca a

theorem sca_add_sca (a b : Int) : sca (sca a + sca b) = sca (a + b) := scAdd_eq a b
theorem sca_add_left (a b : Int) : sca (sca a + b) = sca (a + b) := by unfold sca; simp
theorem sca_add_right (a b : Int) : sca (a + sca b) = sca (a + b) := by unfold sca; simp
theorem sca_mul_left (a b : Int) : sca (sca a * b) = sca (a * b) := by unfold sca; simp [Int.mul_emod]
theorem sca_mul_right (a b : Int) : sca (a * sca b) = sca (a * b) := by unfold sca; simp [Int.mul_emod]

theorem sca_prod (a b : Int) : 0 ≤ sca a * sca b ∧ sca a * sca b ≤ 1016064 := by
  have a0 := sca_nonneg a
  have a1 := sca_lt a
  have b0 := sca_nonneg b
  have b1 := sca_lt b
  have h := Int.mul_le_mul (show sca a ≤ 1008 by omega) (show sca b ≤ 1008 by omega) b0 (by decide)
  have h0 := Int.mul_nonneg a0 b0
  omega

/-- A scalar as one that is not below 0. -/
def scn (a : Int) : Nat := (sca a).toNat
theorem scn_lt (a : Int) : scn a < 1009 := by have := sca_lt a; have := sca_nonneg a; unfold scn; omega
theorem scn_cast (a : Int) : ((scn a : Nat) : Int) = sca a := by have := sca_nonneg a; unfold scn; omega
theorem scn_small {n : Nat} (h : n < 1009) : scn (n : Int) = n := by unfold scn; rw [sca_small (by omega) (by omega)]; simp

theorem scMul_nat (a b : Int) : scMul a b = ((scn a * scn b % 1009 : Nat) : Int) := by
  unfold scMul
  rw [← scn_cast a, ← scn_cast b]
  unfold sca
  omega

theorem scm_left (a b : Nat) : a % 1009 * b % 1009 = a * b % 1009 := by rw [Nat.mul_mod (a % 1009), Nat.mod_mod, ← Nat.mul_mod]
theorem scm_right (a b : Nat) : a * (b % 1009) % 1009 = a * b % 1009 := by rw [Nat.mul_comm, scm_left, Nat.mul_comm]
theorem scm_pow (a n : Nat) : (a % 1009) ^ n % 1009 = a ^ n % 1009 := (Nat.pow_mod a n 1009).symm

/-- A round of the power's loop with an odd number. -/
theorem sca_odd (x b n : Nat) (h : n % 2 = 1) : (x * b % 1009) * (b * b % 1009) ^ (n / 2) % 1009 = x * b ^ n % 1009 := by
  rw [scm_left, ← scm_right, scm_pow, scm_right]
  have e : b ^ n = b * (b * b) ^ (n / 2) := by
    rw [← Nat.pow_two, ← Nat.pow_mul, ← Nat.pow_succ']
    congr 1; omega
  rw [e, Nat.mul_assoc]

/-- A round of it with an even one. -/
theorem sca_even (x b n : Nat) (h : n % 2 = 0) : x * (b * b % 1009) ^ (n / 2) % 1009 = x * b ^ n % 1009 := by
  rw [← scm_right, scm_pow, scm_right]
  have e : b ^ n = (b * b) ^ (n / 2) := by
    rw [← Nat.pow_two, ← Nat.pow_mul]
    congr 1; omega
  rw [e]

/-- The exponent of what makes 1, by name. -/
def eS : Nat := 1007
def scInv (a : Int) : Int := ((scn a ^ eS % 1009 : Nat) : Int)

/-- What stands at a place of two lists, all together: of the first n. -/
def dotN (f g : Nat → Int) : Nat → Int
  | 0 => 0
  | n + 1 => scAdd (dotN f g n) (scMul (f n) (g n))

def ssq (r : Nat) : Nat := Nat.mod (Nat.mul r r) 1009
def ssm (a r : Nat) : Nat := Nat.mod (Nat.mul (Nat.mod (Nat.mul r r) 1009) a) 1009
/-- A number to 1007. -/
def sinv (a : Nat) : Nat := ssm a (ssm a (ssm a (ssm a (ssq (ssm a (ssm a (ssm a (ssm a a))))))))

theorem ssq_pow {a r k : Nat} (h : r = a ^ k % 1009) : ssq r = a ^ (2 * k) % 1009 := by
  show r * r % 1009 = _
  rw [h, scm_left, scm_right, ← Nat.pow_add]
  congr 2; omega

theorem ssm_pow {a r k : Nat} (h : r = a ^ k % 1009) : ssm a r = a ^ (2 * k + 1) % 1009 := by
  show r * r % 1009 * a % 1009 = _
  rw [show r * r % 1009 = a ^ (2 * k) % 1009 from ssq_pow h, scm_left, ← Nat.pow_succ]

theorem sinv_pow {a : Nat} (h : a < 1009) : sinv a = a ^ eS % 1009 := by
  have h0 : a = a ^ 1 % 1009 := by rw [Nat.pow_one, Nat.mod_eq_of_lt h]
  have h1 := ssm_pow (ssm_pow (ssm_pow (ssm_pow h0)))
  have h2 := ssm_pow (ssm_pow (ssm_pow (ssm_pow (ssq_pow h1))))
  generalize he : 2 * (2 * (2 * (2 * (2 * (2 * (2 * (2 * (2 * 1 + 1) + 1) + 1) + 1)) + 1) + 1) + 1) + 1 = k at h2
  have hk : k = eS := by rw [← he]; rfl
  rw [← hk]; exact h2

def sgood (a : Nat) : Bool := Nat.beq (Nat.mod (Nat.mul a (sinv a)) 1009) 1 || Nat.beq (Nat.mod a 1009) 0
def sgoods : Nat → Nat → Bool
  | 0, lo => sgood lo
  | k + 1, lo => sgoods k lo && sgoods k (Nat.add lo (Nat.pow 2 k))

theorem sgoods_all : ∀ (k lo : Nat), sgoods k lo = true → ∀ a, lo ≤ a → a < lo + 2 ^ k → sgood a = true
  | 0, lo, h, a, h0, h1 => by
    have : a = lo := by simp at h1; omega
    rw [this]; exact h
  | k + 1, lo, h, a, h0, h1 => by
    simp only [sgoods, Bool.and_eq_true] at h
    by_cases hc : a < lo + 2 ^ k
    · exact sgoods_all k lo h.1 a h0 hc
    · refine sgoods_all k (lo + 2 ^ k) h.2 a (by omega) ?_
      rw [Nat.pow_succ] at h1; omega

set_option maxRecDepth 100000 in
theorem sgoods_here : sgoods 10 0 = true := by decide +kernel

/-- What is not 0 and its inverse make 1. -/
theorem sca_inv_nat {a : Nat} (h0 : 0 < a) (h : a < 1009) : a * (a ^ eS % 1009) % 1009 = 1 := by
  have g := sgoods_all 10 0 sgoods_here a (Nat.zero_le _) (by omega)
  unfold sgood at g
  simp only [Bool.or_eq_true, Nat.beq_eq] at g
  rw [← sinv_pow h]
  rcases g with g | g
  · exact g
  · have g' : a % 1009 = 0 := g
    omega

theorem scMul_inv {a : Int} (h0 : 0 < a) (h : a < 1009) : scMul a (scInv a) = 1 := by
  have e : scn a = a.toNat := by unfold scn; rw [sca_small (by omega) h]
  have hl : scn a ^ eS % 1009 < 1009 := Nat.mod_lt _ (by decide)
  rw [scMul_nat]
  unfold scInv
  rw [scn_small hl, sca_inv_nat (by omega) (by omega)]
  rfl

theorem scInv_zero : scInv 0 = 0 := by
  unfold scInv
  rw [show scn 0 = 0 from rfl, Nat.zero_pow (by decide)]
  rfl

theorem scAdd_neg (b : Int) : scAdd b (scNeg b) = 0 := by
  rw [scAdd_eq, scNeg_eq, sca_add_right]
  unfold sca; omega

theorem sca_dist (a b c : Int) : scMul a (scAdd b c) = scAdd (scMul a b) (scMul a c) := by
  rw [scMul_eq, scAdd_eq, scAdd_eq, scMul_eq, scMul_eq, sca_mul_right, sca_add_sca, Int.mul_add]

end Go.Proofs.Ytckhbflolccinaa

/-
  What is Zero 1009 times is a multiple of the base.
-/
namespace Go.Proofs.Ytckhbflolccinaa

/-- Of a point that is Zero 1009 times only the rest counts. -/
theorem pmul_rest {P : Pt} (h : POk P) (h9 : pMul P 1009 = pZ) (n : Nat) : pMul P n = pMul P (n % 1009) := by
  have e : n = 1009 * (n / 1009) + n % 1009 := by omega
  have h1 : pMul P (1009 * (n / 1009)) = pZ := by rw [← pmul_mul h, h9, pmul_zero]
  have h2 := pmul_add h (1009 * (n / 1009)) (n % 1009)
  rw [← e, h1] at h2
  exact h2

/-- It comes back from so many of it. -/
theorem pmul_back {P : Pt} (h : POk P) (h9 : pMul P 1009 = pZ) {a : Nat} (a0 : 0 < a) (a1 : a < 1009) : pMul (pMul P a) (a ^ eS % 1009) = P := by
  rw [pmul_mul h, pmul_rest h h9, sca_inv_nat a0 a1, pmul_one]

theorem pb_ne : pB ≠ pZ := by decide

theorem pb_inj {i j : Nat} (hi : i < 1009) (hj : j < 1009) (h : pMul pB i = pMul pB j) : i = j := by
  have key : ∀ {i j : Nat}, i < j → j < 1009 → pMul pB i = pMul pB j → False := by
    intro i j hij hj h
    have e : pMul pB j = pAdd (pMul pB (j - i)) (pMul pB i) := by rw [← pmul_add pb_ok]; exact congrArg _ (by omega)
    rw [e] at h
    have h0 : pMul pB (j - i) = pZ := (padd_drop pz_ok (pmul_ok pb_ok (j - i)) (pmul_ok pb_ok i) h).symm
    have hb := pmul_back pb_ok b1009 (a := j - i) (by omega) (by omega)
    rw [h0, pmul_zero] at hb
    exact pb_ne hb.symm
  rcases Nat.lt_trichotomy i j with h1 | h1 | h1
  · exact (key h1 hj h).elim
  · exact h1
  · exact (key h1 hi h.symm).elim

/-- The multiples of the base put to j times another point. -/
def coset (H : Pt) (j : Nat) : List Pt := (List.range 1009).map fun i => pAdd (pMul pB i) (pMul H j)

theorem nodup_coset {H : Pt} (hH : POk H) (j : Nat) : (coset H j).Nodup := by
  unfold coset
  rw [List.nodup_iff_pairwise_ne, List.pairwise_map]
  refine List.Pairwise.imp_of_mem ?_ (List.nodup_iff_pairwise_ne.1 (List.nodup_range (n := 1009)))
  intro a b ha hb hne e
  rw [List.mem_range] at ha hb
  exact hne (pb_inj ha hb (padd_drop (pmul_ok pb_ok a) (pmul_ok pb_ok b) (pmul_ok hH j) e))

theorem torsion {H : Pt} (hH : POk H) (h9 : pMul H 1009 = pZ) : ∃ k, k < 1009 ∧ H = pMul pB k := by
  have hrange : (List.range 13).Nodup := List.nodup_range
  by_cases hn : ∃ k, H = pMul pB k
  · obtain ⟨k, hk⟩ := hn
    exact ⟨k % 1009, Nat.mod_lt _ (by decide), by rw [hk, pmul_rest pb_ok b1009]⟩
  · exfalso
    have key : ∀ {i i' j j' : Nat}, i < 1009 → i' < 1009 → j < j' → j' < 13 → pAdd (pMul pB i) (pMul H j) = pAdd (pMul pB i') (pMul H j') → False := by
      intro i i' j j' hi hi' hjj hj' h
      have e1 : pMul H j' = pAdd (pMul H (j' - j)) (pMul H j) := by rw [← pmul_add hH]; exact congrArg _ (by omega)
      rw [e1, ← padd_assoc (pmul_ok pb_ok i') (pmul_ok hH _) (pmul_ok hH j)] at h
      have h1 := padd_drop (pmul_ok pb_ok i) (padd_ok (pmul_ok pb_ok i') (pmul_ok hH _)) (pmul_ok hH j) h
      have h2 : pMul H (j' - j) = pMul pB (i + (1009 - i')) := by
        have h4 : pAdd (pMul pB (i + (1009 - i'))) (pMul pB i') = pMul pB i := by
          rw [← pmul_add pb_ok (i + (1009 - i')) i', show i + (1009 - i') + i' = 1009 + i by omega, pmul_add pb_ok 1009 i, b1009]
          rfl
        refine padd_drop (pmul_ok hH (j' - j)) (pmul_ok pb_ok (i + (1009 - i'))) (pmul_ok pb_ok i') ?_
        rw [h4, padd_comm (pmul_ok hH (j' - j)) (pmul_ok pb_ok i')]
        exact h1.symm
      have h3 := pmul_back hH h9 (a := j' - j) (by omega) (by omega)
      rw [h2, pmul_mul pb_ok] at h3
      exact hn ⟨_, h3.symm⟩
    have hnd : ((List.range 13).flatMap (coset H)).Nodup := by
      refine nodup_flat _ List.nodup_range (fun j _ => nodup_coset hH j) ?_
      intro x hx y hy P h1 h2
      rw [List.mem_range] at hx hy
      obtain ⟨i, hi, rfl⟩ := List.mem_map.1 h1
      obtain ⟨i', hi', e⟩ := List.mem_map.1 h2
      rw [List.mem_range] at hi hi'
      rcases Nat.lt_trichotomy x y with h | h | h
      · exact (key hi hi' h hy e.symm).elim
      · exact h
      · exact (key hi' hi h hx e).elim
    have hl := len_of_sub _ pts hnd (fun P hP => by
      obtain ⟨j, _, hP⟩ := List.mem_flatMap.1 hP
      obtain ⟨i, _, rfl⟩ := List.mem_map.1 hP
      exact mem_pts.2 (padd_ok (pmul_ok pb_ok i) (pmul_ok hH j)))
    rw [len_flat, len_pts] at hl
    have e : sumTo (fun j => (coset H j).length) 0 13 = 13117 := by
      have : (fun j => (coset H j).length) = fun _ => 1009 := by funext j; simp [coset]
      rw [this]
      rfl
    omega

/-- Cofactor times any point is a multiple of the base. -/
theorem cleared {P : Pt} (h : POk P) : ∃ k, k < 1009 ∧ pMul P 12 = pMul pB k :=
  torsion (pmul_ok h 12) (by rw [pmul_mul h]; exact pmul_all h)

end Go.Proofs.Ytckhbflolccinaa

/-
  Pairs of points as the program and the specification tell of them, whatever the points are.
-/
namespace Go.Proofs.Ytckhbflolccinaa

/-- The line at a point, whatever the points are. -/
def pLineB (P Q R : Pt) : Int × Int := if pOkB P && pOkB Q && pOkB R then pLine P Q R else (1, 0)
theorem plineB_eq {P Q R : Pt} (hP : POk P) (hQ : POk Q) (hR : POk R) : pLineB P Q R = pLine P Q R := by
  unfold pLineB
  rw [pokB.2 hP, pokB.2 hQ, pokB.2 hR]
  rfl

/-- A step of Miller's number. -/
def mStepS (P R : Pt) (b : Bool) (s : (Int × Int) × Pt) : (Int × Int) × Pt :=
  if b then (tm (tm (tm s.1 s.1) (pLineB s.2 s.2 R)) (pLineB (pSum s.2 s.2) P R), pSum (pSum s.2 s.2) P) else (tm (tm s.1 s.1) (pLineB s.2 s.2 R), pSum s.2 s.2)
def mRunS (P R : Pt) : List Bool → (Int × Int) × Pt → (Int × Int) × Pt
  | [], s => s
  | b :: l, s => mRunS P R l (mStepS P R b s)
def millS (P R : Pt) : Int × Int := (mRunS P R mBits ((1, 0), P)).1

theorem mstep_eq {P R : Pt} (hP : POk P) (hR : POk R) (b : Bool) {s : (Int × Int) × Pt} (hs : POk s.2) : mStepS P R b s = mStep P R b s ∧ POk (mStep P R b s).2 := by
  unfold mStepS mStep
  rw [plineB_eq hs hs hR, psum_eq hs hs, plineB_eq (padd_ok hs hs) hP hR, psum_eq (padd_ok hs hs) hP]
  cases b
  · exact ⟨rfl, padd_ok hs hs⟩
  · exact ⟨rfl, padd_ok (padd_ok hs hs) hP⟩
theorem mrun_eq {P R : Pt} (hP : POk P) (hR : POk R) : ∀ (l : List Bool) (s : (Int × Int) × Pt), POk s.2 → mRunS P R l s = mRun P R l s
  | [], _, _ => rfl
  | b :: l, s, hs => by
    show mRunS P R l (mStepS P R b s) = mRun P R l (mStep P R b s)
    obtain ⟨h1, h2⟩ := mstep_eq hP hR b hs
    rw [h1]
    exact mrun_eq hP hR l _ h2
theorem mills_eq {P R : Pt} (hP : POk P) (hR : POk R) : millS P R = mill P R := by
  unfold millS mill
  rw [mrun_eq hP hR _ _ hP]

theorem in2_step (P R : Pt) (b : Bool) (s : (Int × Int) × Pt) : In2 (mStepS P R b s).1 := by
  unfold mStepS
  cases b
  · exact in2_tm _ _
  · exact in2_tm _ _
theorem in2_run (P R : Pt) : ∀ (l : List Bool) (s : (Int × Int) × Pt), In2 s.1 → In2 (mRunS P R l s).1
  | [], _, h => h
  | b :: l, s, _ => in2_run P R l _ (in2_step P R b s)
theorem in2_mills (P R : Pt) : In2 (millS P R) := in2_run P R _ _ in2_one

/-- The pair of two points, whatever they are. -/
def pairS (P Q : Pt) : Int × Int := if inGB P && inGB Q && !P.2.2 && !Q.2.2 then mEnd (millS P Q) else (1, 0)

theorem pb_zero {i : Nat} (h : i < 1009) : pMul pB i = pZ ↔ i = 0 := by
  constructor
  · intro e
    exact pb_inj h (by decide) e
  · rintro rfl; rfl

theorem zero_flag {P : Pt} (h : POk P) : P.2.2 = true ↔ P = pZ := by
  rcases h with rfl | h
  · exact ⟨fun _ => rfl, fun _ => rfl⟩
  · exact ⟨fun e => (by rw [h.1] at e; cases e), fun e => (by rw [e]; rfl)⟩

theorem ing_mul (i : Nat) : inGB (pMul pB i) = true := ing_iff.2 ⟨pmul_ok pb_ok i, by rw [pmul_mul pb_ok, Nat.mul_comm, ← pmul_mul pb_ok, b1009, pmul_zero]⟩

theorem pw_rest (n : Nat) : pw gB n = pw gB (n % 1009) := by
  have e : n = 1009 * (n / 1009) + n % 1009 := by omega
  have h1 : pw gB (1009 * (n / 1009)) = (1, 0) := by rw [← pw_pw, gb_order, pw_ones]
  have h2 : pw gB (1009 * (n / 1009) + n % 1009) = tm (pw gB (1009 * (n / 1009))) (pw gB (n % 1009)) := pw_add _ _ _
  rw [← e, h1, one_tm (in2_pw _ _)] at h2
  exact h2

/-- **The pair of two multiples of the base.** -/
theorem pair_gp (i j : Nat) (hi : i < 1009) (hj : j < 1009) : pairS (pMul pB i) (pMul pB j) = pw gB (i * j) := by
  have oi := pmul_ok pb_ok i
  have oj := pmul_ok pb_ok j
  unfold pairS
  rw [ing_mul, ing_mul]
  by_cases h0 : i = 0
  · subst h0
    rw [Nat.zero_mul, pw_zero]
    rfl
  · have z1 : (pMul pB i).2.2 = false := by
      cases h : (pMul pB i).2.2
      · rfl
      · exact absurd ((pb_zero hi).1 ((zero_flag oi).1 h)) h0
    by_cases h1 : j = 0
    · subst h1
      rw [Nat.mul_zero, pw_zero, z1]
      rfl
    · have z2 : (pMul pB j).2.2 = false := by
        cases h : (pMul pB j).2.2
        · rfl
        · exact absurd ((pb_zero hj).1 ((zero_flag oj).1 h)) h1
      rw [z1, z2, mills_eq oi oj]
      exact pair_both i (by omega) hj

theorem gb_ne {k : Nat} (h0 : 0 < k) (h : k < 1009) : pw gB k ≠ (1, 0) := by
  intro e
  have h1 : pw gB (k * (k ^ eS % 1009)) = (1, 0) := by rw [← pw_pw, e, pw_ones]
  rw [pw_rest, sca_inv_nat h0 h, pw_one in2_gb] at h1
  cases h1

end Go.Proofs.Ytckhbflolccinaa
