/-
  Texts of one's own, joined.
-/
import Derived.Test.YtkmelamfohfdkabDoorPairTab1
import Derived.Test.YtkmelamfohfdkabDoorPairTab2
import Derived.Test.YtkmelamfohfdkabDoorPairTab3
import Derived.Test.YtkmelamfohfdkabDoorPairTab4
import Derived.Test.YtkmelamfohfdkabDoorJoined9
import Derived.Test.YtkmelamfohfdkabDoorJoined14
import Derived.Test.YtkmelamfohfdkabDoorJoined10
import Derived.Test.YtkmelamfohfdkabDoorJoined20
import Derived.Test.YtkmelamfohfdkabDoorJoined13

/-
  The pair of two points of the base's group.
-/
namespace Go.Proofs.YtkmelamfohfdkabDoor

theorem len1 : tab1.length = 252 := by decide +kernel
theorem len2 : tab2.length = 252 := by decide +kernel
theorem len3 : tab3.length = 252 := by decide +kernel
theorem len4 : tab4.length = 252 := by decide +kernel
theorem ok1 : chkAll tab1 (pMul pB 0) (pw gB 0) = true := by rw [pw_zero]; exact tab1_ok
theorem last1 : pMul pB 252 = (9765, 9041, false) ∧ pw gB 252 = (8397, 4494) := by
  have h := chk_last tab1 0 (9765, 9041, false) (8397, 4494) ok1 (by decide +kernel)
  rw [len1] at h
  exact h
theorem ok2 : chkAll tab2 (pMul pB 252) (pw gB 252) = true := by rw [last1.1, last1.2]; exact tab2_ok
theorem last2 : pMul pB 504 = (11327, 2132, false) ∧ pw gB 504 = (8988, 9305) := by
  have h := chk_last tab2 252 (11327, 2132, false) (8988, 9305) ok2 (by decide +kernel)
  rw [len2] at h
  exact h
theorem ok3 : chkAll tab3 (pMul pB 504) (pw gB 504) = true := by rw [last2.1, last2.2]; exact tab3_ok
theorem last3 : pMul pB 756 = (8725, 7364, false) ∧ pw gB 756 = (10213, 10734) := by
  have h := chk_last tab3 504 (8725, 7364, false) (10213, 10734) ok3 (by decide +kernel)
  rw [len3] at h
  exact h
theorem ok4 : chkAll tab4 (pMul pB 756) (pw gB 756) = true := by rw [last3.1, last3.2]; exact tab4_ok
theorem last4 : pMul pB 1008 = (8445, 11248, false) ∧ pw gB 1008 = (372, 8475) := by
  have h := chk_last tab4 756 (8445, 11248, false) (372, 8475) ok4 (by decide +kernel)
  rw [len4] at h
  exact h

theorem right_one {j : Nat} (h0 : 0 < j) (h : j < 1009) : (∃ x y, pMul pB j = (x, y, false)) ∧ mEnd (mill pB (pMul pB j)) = pw gB j := by
  by_cases h1 : j ≤ 252
  · have := chk_all tab1 0 ok1 (j - 1) (by rw [len1]; omega)
    rw [show 0 + (j - 1) + 1 = j by omega] at this
    exact this
  by_cases h2 : j ≤ 504
  · have := chk_all tab2 252 ok2 (j - 253) (by rw [len2]; omega)
    rw [show 252 + (j - 253) + 1 = j by omega] at this
    exact this
  by_cases h3 : j ≤ 756
  · have := chk_all tab3 504 ok3 (j - 505) (by rw [len3]; omega)
    rw [show 504 + (j - 505) + 1 = j by omega] at this
    exact this
  · have := chk_all tab4 756 ok4 (j - 757) (by rw [len4]; omega)
    rw [show 756 + (j - 757) + 1 = j by omega] at this
    exact this

/-- **The pair of two points is the base's, as often as both together.** -/
theorem pair_both (i : Nat) {j : Nat} (h0 : 0 < j) (h : j < 1009) : mEnd (mill (pMul pB i) (pMul pB j)) = pw gB (i * j) := by
  obtain ⟨⟨x, y, hx⟩, h1⟩ := right_one h0 h
  have hne : pMul pB j ≠ pZ := fun e => by
    rw [hx] at e
    have := congrArg (fun P : Pt => P.2.2) e
    cases this
  have af := aff_of (pmul_ok pb_ok j) hne
  have hq := grp.odd _ ⟨j, rfl⟩ hne
  rw [pair_left af hq i, h1, pw_pw, Nat.mul_comm]

/-- The base's pair is one of 1009. -/
theorem gb_order : pw gB 1009 = (1, 0) := by
  rw [show 1009 = 1008 + 1 from rfl, pw_succ in2_gb, last4.2]
  decide +kernel

end Go.Proofs.YtkmelamfohfdkabDoor

/-
  What is Zero 1009 times is a multiple of the base.
-/
namespace Go.Proofs.YtkmelamfohfdkabDoor

/-- Of a point that is Zero 1009 times only the rest counts. -/
theorem pmul_rest {P : Pt} (h : POk P) (h9 : pMul P 1009 = pZ) (n : Nat) : pMul P n = pMul P (n % 1009) := by
  have e : n = 1009 * (n / 1009) + n % 1009 := by omega
  have h1 : pMul P (1009 * (n / 1009)) = pZ := by rw [← pmul_mul h, h9, pmul_zero]
  have h2 := pmul_add h (1009 * (n / 1009)) (n % 1009)
  rw [← e, h1] at h2
  exact h2

/-- It comes back from so many of it. -/
theorem pmul_back {P : Pt} (h : POk P) (h9 : pMul P 1009 = pZ) {a : Nat} (a0 : 0 < a) (a1 : a < 1009) : pMul (pMul P a) (a ^ eS % 1009) = P := by
  rw [pmul_mul h, pmul_rest h h9, sca_inv_nat a0 a1, pmul_one]

theorem pb_ne : pB ≠ pZ := by decide

theorem pb_inj {i j : Nat} (hi : i < 1009) (hj : j < 1009) (h : pMul pB i = pMul pB j) : i = j := by
  have key : ∀ {i j : Nat}, i < j → j < 1009 → pMul pB i = pMul pB j → False := by
    intro i j hij hj h
    have e : pMul pB j = pAdd (pMul pB (j - i)) (pMul pB i) := by rw [← pmul_add pb_ok]; exact congrArg _ (by omega)
    rw [e] at h
    have h0 : pMul pB (j - i) = pZ := (padd_drop pz_ok (pmul_ok pb_ok (j - i)) (pmul_ok pb_ok i) h).symm
    have hb := pmul_back pb_ok b1009 (a := j - i) (by omega) (by omega)
    rw [h0, pmul_zero] at hb
    exact pb_ne hb.symm
  rcases Nat.lt_trichotomy i j with h1 | h1 | h1
  · exact (key h1 hj h).elim
  · exact h1
  · exact (key h1 hi h.symm).elim

/-- The multiples of the base put to j times another point. -/
def coset (H : Pt) (j : Nat) : List Pt := (List.range 1009).map fun i => pAdd (pMul pB i) (pMul H j)

theorem nodup_coset {H : Pt} (hH : POk H) (j : Nat) : (coset H j).Nodup := by
  unfold coset
  rw [List.nodup_iff_pairwise_ne, List.pairwise_map]
  refine List.Pairwise.imp_of_mem ?_ (List.nodup_iff_pairwise_ne.1 (List.nodup_range (n := 1009)))
  intro a b ha hb hne e
  rw [List.mem_range] at ha hb
  exact hne (pb_inj ha hb (padd_drop (pmul_ok pb_ok a) (pmul_ok pb_ok b) (pmul_ok hH j) e))

theorem torsion {H : Pt} (hH : POk H) (h9 : pMul H 1009 = pZ) : ∃ k, k < 1009 ∧ H = pMul pB k := by
  have hrange : (List.range 13).Nodup := List.nodup_range
  by_cases hn : ∃ k, H = pMul pB k
  · obtain ⟨k, hk⟩ := hn
    exact ⟨k % 1009, Nat.mod_lt _ (by decide), by rw [hk, pmul_rest pb_ok b1009]⟩
  · exfalso
    have key : ∀ {i i' j j' : Nat}, i < 1009 → i' < 1009 → j < j' → j' < 13 → pAdd (pMul pB i) (pMul H j) = pAdd (pMul pB i') (pMul H j') → False := by
      intro i i' j j' hi hi' hjj hj' h
      have e1 : pMul H j' = pAdd (pMul H (j' - j)) (pMul H j) := by rw [← pmul_add hH]; exact congrArg _ (by omega)
      rw [e1, ← padd_assoc (pmul_ok pb_ok i') (pmul_ok hH _) (pmul_ok hH j)] at h
      have h1 := padd_drop (pmul_ok pb_ok i) (padd_ok (pmul_ok pb_ok i') (pmul_ok hH _)) (pmul_ok hH j) h
      have h2 : pMul H (j' - j) = pMul pB (i + (1009 - i')) := by
        have h4 : pAdd (pMul pB (i + (1009 - i'))) (pMul pB i') = pMul pB i := by
          rw [← pmul_add pb_ok (i + (1009 - i')) i', show i + (1009 - i') + i' = 1009 + i by omega, pmul_add pb_ok 1009 i, b1009]
          rfl
        refine padd_drop (pmul_ok hH (j' - j)) (pmul_ok pb_ok (i + (1009 - i'))) (pmul_ok pb_ok i') ?_
        rw [h4, padd_comm (pmul_ok hH (j' - j)) (pmul_ok pb_ok i')]
        exact h1.symm
      have h3 := pmul_back hH h9 (a := j' - j) (by omega) (by omega)
      rw [h2, pmul_mul pb_ok] at h3
      exact hn ⟨_, h3.symm⟩
    have hnd : ((List.range 13).flatMap (coset H)).Nodup := by
      refine nodup_flat _ List.nodup_range (fun j _ => nodup_coset hH j) ?_
      intro x hx y hy P h1 h2
      rw [List.mem_range] at hx hy
      obtain ⟨i, hi, rfl⟩ := List.mem_map.1 h1
      obtain ⟨i', hi', e⟩ := List.mem_map.1 h2
      rw [List.mem_range] at hi hi'
      rcases Nat.lt_trichotomy x y with h | h | h
      · exact (key hi hi' h hy e.symm).elim
      · exact h
      · exact (key hi' hi h hx e).elim
    have hl := len_of_sub _ pts hnd (fun P hP => by
      obtain ⟨j, _, hP⟩ := List.mem_flatMap.1 hP
      obtain ⟨i, _, rfl⟩ := List.mem_map.1 hP
      exact mem_pts.2 (padd_ok (pmul_ok pb_ok i) (pmul_ok hH j)))
    rw [len_flat, len_pts] at hl
    have e : sumTo (fun j => (coset H j).length) 0 13 = 13117 := by
      have : (fun j => (coset H j).length) = fun _ => 1009 := by funext j; simp [coset]
      rw [this]
      rfl
    omega

/-- Cofactor times any point is a multiple of the base. -/
theorem cleared {P : Pt} (h : POk P) : ∃ k, k < 1009 ∧ pMul P 12 = pMul pB k :=
  torsion (pmul_ok h 12) (by rw [pmul_mul h]; exact pmul_all h)

end Go.Proofs.YtkmelamfohfdkabDoor

/-
  Pairs of points as the program and the specification tell of them, whatever the points are.
-/
namespace Go.Proofs.YtkmelamfohfdkabDoor

/-- The line at a point, whatever the points are. -/
def pLineB (P Q R : Pt) : Int × Int := if pOkB P && pOkB Q && pOkB R then pLine P Q R else (1, 0)
theorem plineB_eq {P Q R : Pt} (hP : POk P) (hQ : POk Q) (hR : POk R) : pLineB P Q R = pLine P Q R := by
  unfold pLineB
  rw [pokB.2 hP, pokB.2 hQ, pokB.2 hR]
  rfl

/-- A step of Miller's number. -/
def mStepS (P R : Pt) (b : Bool) (s : (Int × Int) × Pt) : (Int × Int) × Pt :=
  if b then (tm (tm (tm s.1 s.1) (pLineB s.2 s.2 R)) (pLineB (pSum s.2 s.2) P R), pSum (pSum s.2 s.2) P) else (tm (tm s.1 s.1) (pLineB s.2 s.2 R), pSum s.2 s.2)
def mRunS (P R : Pt) : List Bool → (Int × Int) × Pt → (Int × Int) × Pt
  | [], s => s
  | b :: l, s => mRunS P R l (mStepS P R b s)
def millS (P R : Pt) : Int × Int := (mRunS P R mBits ((1, 0), P)).1

theorem mstep_eq {P R : Pt} (hP : POk P) (hR : POk R) (b : Bool) {s : (Int × Int) × Pt} (hs : POk s.2) : mStepS P R b s = mStep P R b s ∧ POk (mStep P R b s).2 := by
  unfold mStepS mStep
  rw [plineB_eq hs hs hR, psum_eq hs hs, plineB_eq (padd_ok hs hs) hP hR, psum_eq (padd_ok hs hs) hP]
  cases b
  · exact ⟨rfl, padd_ok hs hs⟩
  · exact ⟨rfl, padd_ok (padd_ok hs hs) hP⟩
theorem mrun_eq {P R : Pt} (hP : POk P) (hR : POk R) : ∀ (l : List Bool) (s : (Int × Int) × Pt), POk s.2 → mRunS P R l s = mRun P R l s
  | [], _, _ => rfl
  | b :: l, s, hs => by
    show mRunS P R l (mStepS P R b s) = mRun P R l (mStep P R b s)
    obtain ⟨h1, h2⟩ := mstep_eq hP hR b hs
    rw [h1]
    exact mrun_eq hP hR l _ h2
theorem mills_eq {P R : Pt} (hP : POk P) (hR : POk R) : millS P R = mill P R := by
  unfold millS mill
  rw [mrun_eq hP hR _ _ hP]

theorem in2_step (P R : Pt) (b : Bool) (s : (Int × Int) × Pt) : In2 (mStepS P R b s).1 := by
  unfold mStepS
  cases b
  · exact in2_tm _ _
  · exact in2_tm _ _
theorem in2_run (P R : Pt) : ∀ (l : List Bool) (s : (Int × Int) × Pt), In2 s.1 → In2 (mRunS P R l s).1
  | [], _, h => h
  | b :: l, s, _ => in2_run P R l _ (in2_step P R b s)
theorem in2_mills (P R : Pt) : In2 (millS P R) := in2_run P R _ _ in2_one

/-- The pair of two points, whatever they are. -/
def pairS (P Q : Pt) : Int × Int := if inGB P && inGB Q && !P.2.2 && !Q.2.2 then mEnd (millS P Q) else (1, 0)

theorem pb_zero {i : Nat} (h : i < 1009) : pMul pB i = pZ ↔ i = 0 := by
  constructor
  · intro e
    exact pb_inj h (by decide) e
  · rintro rfl; rfl

theorem zero_flag {P : Pt} (h : POk P) : P.2.2 = true ↔ P = pZ := by
  rcases h with rfl | h
  · exact ⟨fun _ => rfl, fun _ => rfl⟩
  · exact ⟨fun e => (by rw [h.1] at e; cases e), fun e => (by rw [e]; rfl)⟩

theorem ing_mul (i : Nat) : inGB (pMul pB i) = true := ing_iff.2 ⟨pmul_ok pb_ok i, by rw [pmul_mul pb_ok, Nat.mul_comm, ← pmul_mul pb_ok, b1009, pmul_zero]⟩

theorem pw_rest (n : Nat) : pw gB n = pw gB (n % 1009) := by
  have e : n = 1009 * (n / 1009) + n % 1009 := by omega
  have h1 : pw gB (1009 * (n / 1009)) = (1, 0) := by rw [← pw_pw, gb_order, pw_ones]
  have h2 : pw gB (1009 * (n / 1009) + n % 1009) = tm (pw gB (1009 * (n / 1009))) (pw gB (n % 1009)) := pw_add _ _ _
  rw [← e, h1, one_tm (in2_pw _ _)] at h2
  exact h2

/-- **The pair of two multiples of the base.** -/
theorem pair_gp (i j : Nat) (hi : i < 1009) (hj : j < 1009) : pairS (pMul pB i) (pMul pB j) = pw gB (i * j) := by
  have oi := pmul_ok pb_ok i
  have oj := pmul_ok pb_ok j
  unfold pairS
  rw [ing_mul, ing_mul]
  by_cases h0 : i = 0
  · subst h0
    rw [Nat.zero_mul, pw_zero]
    rfl
  · have z1 : (pMul pB i).2.2 = false := by
      cases h : (pMul pB i).2.2
      · rfl
      · exact absurd ((pb_zero hi).1 ((zero_flag oi).1 h)) h0
    by_cases h1 : j = 0
    · subst h1
      rw [Nat.mul_zero, pw_zero, z1]
      rfl
    · have z2 : (pMul pB j).2.2 = false := by
        cases h : (pMul pB j).2.2
        · rfl
        · exact absurd ((pb_zero hj).1 ((zero_flag oj).1 h)) h1
      rw [z1, z2, mills_eq oi oj]
      exact pair_both i (by omega) hj

theorem gb_ne {k : Nat} (h0 : 0 < k) (h : k < 1009) : pw gB k ≠ (1, 0) := by
  intro e
  have h1 : pw gB (k * (k ^ eS % 1009)) = (1, 0) := by rw [← pw_pw, e, pw_ones]
  rw [pw_rest, sca_inv_nat h0 h, pw_one in2_gb] at h1
  cases h1

end Go.Proofs.YtkmelamfohfdkabDoor

/-
  Signatures as the document tells of them: what is signed is right.
-/
namespace Go.Proofs.YtkmelamfohfdkabDoor

theorem no_part {i j : Nat} (hi : 0 < i) (hi' : i < 1009) (hj : 0 < j) (hj' : j < 1009) : i * j % 1009 ≠ 0 := by
  intro e
  have h1 := sca_inv_nat hi hi'
  have h2 : i * j * (i ^ eS % 1009) % 1009 = 0 := by rw [Nat.mul_mod, e, Nat.zero_mul, Nat.zero_mod]
  have h3 : i * j * (i ^ eS % 1009) % 1009 = j % 1009 := by
    rw [Nat.mul_right_comm, Nat.mul_mod, h1, Nat.one_mul, Nat.mod_mod]
  omega

/-- Powers of the base's pair are told apart by what is left modulo 1009. -/
theorem pw_iff (u v : Nat) : pw gB u = pw gB v ↔ u % 1009 = v % 1009 := by
  constructor
  · intro h
    have h1 : pw gB (u + (1009 - v % 1009)) = (1, 0) := by
      rw [pw_add, h, ← pw_add, pw_rest, show (v + (1009 - v % 1009)) % 1009 = 0 by omega, pw_zero]
    rw [pw_rest] at h1
    by_cases h0 : (u + (1009 - v % 1009)) % 1009 = 0
    · omega
    · exact absurd h1 (gb_ne (by omega) (Nat.mod_lt _ (by decide)))
  · intro h
    rw [pw_rest u, pw_rest v, h]

theorem mulb_zero {a : Nat} (h : a < 1009) : (pMul pB a).2.2 = decide (a = 0) := by
  have f := zero_flag (pmul_ok pb_ok a)
  rw [pb_zero h] at f
  by_cases h0 : a = 0
  · rw [f.2 h0, decide_eq_true h0]
  · rw [decide_eq_false h0]
    cases hz : (pMul pB a).2.2
    · rfl
    · exact absurd (f.1 hz) h0

theorem mulb_rest (n : Nat) : pMul pB n = pMul pB (n % 1009) := pmul_rest pb_ok b1009 n

/-- Whether a signature is right by a key, H being what is signed. -/
def sigB (K S H : Pt) : Bool := if inGB K = true ∧ inGB S = true ∧ K.2.2 = false ∧ S.2.2 = false then decide (pairS S pB = pairS H K) else false

theorem sig_gp {a b m : Nat} (ha : a < 1009) (hb : b < 1009) (hm : m < 1009) : sigB (pMul pB a) (pMul pB b) (pMul pB m) = decide (a ≠ 0 ∧ b ≠ 0 ∧ b = m * a % 1009) := by
  unfold sigB
  rw [ing_mul, ing_mul, mulb_zero ha, mulb_zero hb]
  by_cases h1 : a = 0
  · simp [h1]
  · by_cases h2 : b = 0
    · simp [h2]
    · rw [if_pos ⟨rfl, rfl, decide_eq_false h1, decide_eq_false h2⟩]
      have e : pairS (pMul pB b) pB = pw gB (b * 1) := by
        have := pair_gp b 1 hb (by decide)
        rwa [pmul_one] at this
      rw [e, pair_gp m a hm ha]
      have := pw_iff (b * 1) (m * a)
      simp only [this, h1, h2, ne_eq, not_false_eq_true, true_and]
      congr 1
      apply propext
      constructor
      · intro h; omega
      · intro h; omega

theorem sign_mul (k : Int) (m : Nat) : signP k (pMul pB m) = pMul pB (m * scn k % 1009) := by
  unfold signP
  obtain ⟨h1, h2⟩ := sca_nat k
  rw [h1, ptimes_small (pmul_ok pb_ok m) (by omega), pmul_mul pb_ok, mulb_rest]

/-- What is signed is right; by another key, or put together with the base, it is not. -/
theorem signs_facts {k k1 : Int} {m : Nat} (h0 : 0 < m) (hm : m < 1009) (h1 : scn k1 = (scn k + 1) % 1009) :
    sigB (keyP k) (signP k (pMul pB m)) (pMul pB m) = !decide (sca k = 0) ∧
    (sca k ≠ 0 → sigB (keyP k1) (signP k (pMul pB m)) (pMul pB m) = false ∧ sigB (keyP k) (pSum (signP k (pMul pB m)) pB) (pMul pB m) = false) := by
  obtain ⟨e1, e2⟩ := sca_nat k
  have hs : m * scn k % 1009 < 1009 := Nat.mod_lt _ (by decide)
  have hk1 : scn k1 < 1009 := (sca_nat k1).2
  refine ⟨?_, fun hk => ⟨?_, ?_⟩⟩
  · rw [key_mul, sign_mul, sig_gp e2 hs hm]
    by_cases hz : scn k = 0
    · have : sca k = 0 := by rw [e1, hz]; rfl
      simp [hz, this]
    · have hz' : sca k ≠ 0 := by rw [e1]; omega
      have := no_part h0 hm (by omega) e2
      simp [hz, hz', this]
  · rw [key_mul, sign_mul, sig_gp hk1 hs hm]
    refine decide_eq_false fun ⟨_, _, h⟩ => ?_
    rw [h1] at h
    have h2 : m * ((scn k + 1) % 1009) % 1009 = (m * scn k + m) % 1009 := by
      rw [Nat.mul_mod, Nat.mod_mod, ← Nat.mul_mod, Nat.mul_add, Nat.mul_one]
    rw [h2] at h
    omega
  · have hz : scn k ≠ 0 := fun h => hk (by rw [e1, h]; rfl)
    have ok1 := pmul_ok pb_ok (m * scn k % 1009)
    have ep : pSum (pMul pB (m * scn k % 1009)) pB = pMul pB ((m * scn k + 1) % 1009) := by
      rw [psum_eq ok1 pb_ok]
      have := pmul_add pb_ok (m * scn k % 1009) 1
      rw [pmul_one] at this
      rw [← this, mulb_rest]
      congr 1
      omega
    rw [key_mul, sign_mul, ep, sig_gp e2 (Nat.mod_lt _ (by decide)) hm]
    refine decide_eq_false fun ⟨_, _, h⟩ => ?_
    omega

end Go.Proofs.YtkmelamfohfdkabDoor

/-
  A point out of a text.
-/
namespace Go.Proofs.YtkmelamfohfdkabDoor

/-- A byte of a text. -/
def byt (d : ByteArray) (i : Nat) : Nat := (d.data.toList.getD i 0).toNat
theorem byt_lt (d : ByteArray) (i : Nat) : byt d i < 256 := (d.data.toList.getD i 0).toNat_lt
theorem byt_at (d : ByteArray) (i : Nat) (h : i < d.size) : (d[i]'h).toNat = byt d i := by
  have hl : i < d.data.toList.length := by simpa using h
  unfold byt
  rw [List.getD_eq_getElem?_getD, List.getElem?_eq_getElem hl, Option.getD_some]
  simp [ByteArray.getElem_eq_getElem_data]

/-- The number that the first four bytes are. -/
def hx (d : ByteArray) : Int := fp (((byt d 0 * 16777216 + byt d 1 * 65536 + byt d 2 * 256 + byt d 3 : Nat) : Nat) : Int)
/-- A byte ahead of a text. -/
def preT (n : Nat) (t : ByteArray) : ByteArray := ⟨#[UInt8.ofNat n]⟩ ++ t
theorem preT_size (n : Nat) (t : ByteArray) : (preT n t).size = t.size + 1 := by
  unfold preT
  rw [ByteArray.size_append]
  show 1 + _ = _
  omega

def hashX (t : ByteArray) (n : Nat) : Int := hx (digT (preT n t))
def hashAt (t : ByteArray) (n : Nat) : Pt := pTimes 12 (hashX t n, rootV (rhs (hashX t n)), false)
def hashOk (t : ByteArray) (n : Nat) : Bool := rootB (rhs (hashX t n)) && !(hashAt t n).2.2
/-- The first that will do, of so many from n on. -/
def hashFrom (t : ByteArray) : Nat → Nat → Pt
  | 0, _ => pB
  | f + 1, n => if hashOk t n = true then hashAt t n else hashFrom t f (n + 1)
def hashPt (t : ByteArray) : Pt := hashFrom t 64 0

theorem hashX_in (t : ByteArray) (n : Nat) : 0 ≤ hashX t n ∧ hashX t n < 12107 := ⟨fp_nonneg _, fp_lt _⟩

theorem rootB_ok {z : Int} (hz : 0 ≤ z ∧ z < 12107) (hb : rootB (rhs z) = true) : POk (z, rootV (rhs z), false) :=
  .inr ⟨rfl, hz, rootV_in, wc_rhs.2 (root_right' (rhs_in z).1 (rhs_in z).2 hb)⟩

theorem hash_at_gp {t : ByteArray} {n : Nat} (h : hashOk t n = true) : ∃ m, 0 < m ∧ m < 1009 ∧ hashAt t n = pMul pB m := by
  unfold hashOk at h
  rw [Bool.and_eq_true] at h
  have hp := rootB_ok (hashX_in t n) h.1
  have e : hashAt t n = pMul (hashX t n, rootV (rhs (hashX t n)), false) 12 := ptimes_small hp (n := 12) (by decide)
  obtain ⟨k, hk, hk2⟩ := cleared hp
  refine ⟨k, ?_, hk, e.trans hk2⟩
  have hz : (hashAt t n).2.2 = false := by simpa using h.2
  rw [e, hk2, mulb_zero hk] at hz
  have := of_decide_eq_false hz
  omega

theorem hash_from_gp (t : ByteArray) : ∀ f n, ∃ m, 0 < m ∧ m < 1009 ∧ hashFrom t f n = pMul pB m
  | 0, _ => ⟨1, by decide, by decide, by rw [pmul_one]; rfl⟩
  | f + 1, n => by
    unfold hashFrom
    split
    · rename_i h
      exact hash_at_gp h
    · exact hash_from_gp t f (n + 1)

/-- It is so often the base, and no Zero. -/
theorem hash_gp (t : ByteArray) : ∃ m, 0 < m ∧ m < 1009 ∧ hashPt t = pMul pB m := hash_from_gp t 64 0
theorem hash_ok (t : ByteArray) : POk (hashPt t) := by
  obtain ⟨m, _, _, h⟩ := hash_gp t
  rw [h]
  exact pmul_ok pb_ok m
theorem hash_in (t : ByteArray) : inGB (hashPt t) = true := by
  obtain ⟨m, _, _, h⟩ := hash_gp t
  rw [h]
  exact ing_mul m
theorem hash_some (t : ByteArray) : (hashPt t).2.2 = false := by
  obtain ⟨m, h0, h1, h⟩ := hash_gp t
  rw [h, mulb_zero h1]
  exact decide_eq_false (by omega)

end Go.Proofs.YtkmelamfohfdkabDoor
