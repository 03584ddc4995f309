/-
  Texts of one's own, joined.
-/
import Derived.Test.YtckhbflolccinaaLagPure
import Derived.Test.YtckhbflolccinaaJoined31
import Derived.Test.YtckhbflolccinaaPtPure

/-
  What is Zero 1009 times is a multiple of the base.
-/
namespace Go.Proofs.Ytckhbflolccinaa

/-- Of a point that is Zero 1009 times only the rest counts. -/
theorem pmul_rest {P : Pt} (h : POk P) (h9 : pMul P 1009 = pZ) (n : Nat) : pMul P n = pMul P (n % 1009) := by
  have e : n = 1009 * (n / 1009) + n % 1009 := by omega
  have h1 : pMul P (1009 * (n / 1009)) = pZ := by rw [← pmul_mul h, h9, pmul_zero]
  have h2 := pmul_add h (1009 * (n / 1009)) (n % 1009)
  rw [← e, h1] at h2
  exact h2

/-- It comes back from so many of it. -/
theorem pmul_back {P : Pt} (h : POk P) (h9 : pMul P 1009 = pZ) {a : Nat} (a0 : 0 < a) (a1 : a < 1009) : pMul (pMul P a) (a ^ eS % 1009) = P := by
  rw [pmul_mul h, pmul_rest h h9, sca_inv_nat a0 a1, pmul_one]

theorem pb_ne : pB ≠ pZ := by decide

theorem pb_inj {i j : Nat} (hi : i < 1009) (hj : j < 1009) (h : pMul pB i = pMul pB j) : i = j := by
  have key : ∀ {i j : Nat}, i < j → j < 1009 → pMul pB i = pMul pB j → False := by
    intro i j hij hj h
    have e : pMul pB j = pAdd (pMul pB (j - i)) (pMul pB i) := by rw [← pmul_add pb_ok]; exact congrArg _ (by omega)
    rw [e] at h
    have h0 : pMul pB (j - i) = pZ := (padd_drop pz_ok (pmul_ok pb_ok (j - i)) (pmul_ok pb_ok i) h).symm
    have hb := pmul_back pb_ok b1009 (a := j - i) (by omega) (by omega)
    rw [h0, pmul_zero] at hb
    exact pb_ne hb.symm
  rcases Nat.lt_trichotomy i j with h1 | h1 | h1
  · exact (key h1 hj h).elim
  · exact h1
  · exact (key h1 hi h.symm).elim

/-- The multiples of the base put to j times another point. -/
def coset (H : Pt) (j : Nat) : List Pt := (List.range 1009).map fun i => pAdd (pMul pB i) (pMul H j)

theorem nodup_coset {H : Pt} (hH : POk H) (j : Nat) : (coset H j).Nodup := by
  unfold coset
  rw [List.nodup_iff_pairwise_ne, List.pairwise_map]
  refine List.Pairwise.imp_of_mem ?_ (List.nodup_iff_pairwise_ne.1 (List.nodup_range (n := 1009)))
  intro a b ha hb hne e
  rw [List.mem_range] at ha hb
  exact hne (pb_inj ha hb (padd_drop (pmul_ok pb_ok a) (pmul_ok pb_ok b) (pmul_ok hH j) e))

theorem torsion {H : Pt} (hH : POk H) (h9 : pMul H 1009 = pZ) : ∃ k, k < 1009 ∧ H = pMul pB k := by
  have hrange : (List.range 13).Nodup := List.nodup_range
  by_cases hn : ∃ k, H = pMul pB k
  · obtain ⟨k, hk⟩ := hn
    exact ⟨k % 1009, Nat.mod_lt _ (by decide), by rw [hk, pmul_rest pb_ok b1009]⟩
  · exfalso
    have key : ∀ {i i' j j' : Nat}, i < 1009 → i' < 1009 → j < j' → j' < 13 → pAdd (pMul pB i) (pMul H j) = pAdd (pMul pB i') (pMul H j') → False := by
      intro i i' j j' hi hi' hjj hj' h
      have e1 : pMul H j' = pAdd (pMul H (j' - j)) (pMul H j) := by rw [← pmul_add hH]; exact congrArg _ (by omega)
      rw [e1, ← padd_assoc (pmul_ok pb_ok i') (pmul_ok hH _) (pmul_ok hH j)] at h
      have h1 := padd_drop (pmul_ok pb_ok i) (padd_ok (pmul_ok pb_ok i') (pmul_ok hH _)) (pmul_ok hH j) h
      have h2 : pMul H (j' - j) = pMul pB (i + (1009 - i')) := by
        have h4 : pAdd (pMul pB (i + (1009 - i'))) (pMul pB i') = pMul pB i := by
          rw [← pmul_add pb_ok (i + (1009 - i')) i', show i + (1009 - i') + i' = 1009 + i by omega, pmul_add pb_ok 1009 i, b1009]
          rfl
        refine padd_drop (pmul_ok hH (j' - j)) (pmul_ok pb_ok (i + (1009 - i'))) (pmul_ok pb_ok i') ?_
        rw [h4, padd_comm (pmul_ok hH (j' - j)) (pmul_ok pb_ok i')]
        exact h1.symm
      have h3 := pmul_back hH h9 (a := j' - j) (by omega) (by omega)
      rw [h2, pmul_mul pb_ok] at h3
      exact hn ⟨_, h3.symm⟩
    have hnd : ((List.range 13).flatMap (coset H)).Nodup := by
      refine nodup_flat _ List.nodup_range (fun j _ => nodup_coset hH j) ?_
      intro x hx y hy P h1 h2
      rw [List.mem_range] at hx hy
      obtain ⟨i, hi, rfl⟩ := List.mem_map.1 h1
      obtain ⟨i', hi', e⟩ := List.mem_map.1 h2
      rw [List.mem_range] at hi hi'
      rcases Nat.lt_trichotomy x y with h | h | h
      · exact (key hi hi' h hy e.symm).elim
      · exact h
      · exact (key hi' hi h hx e).elim
    have hl := len_of_sub _ pts hnd (fun P hP => by
      obtain ⟨j, _, hP⟩ := List.mem_flatMap.1 hP
      obtain ⟨i, _, rfl⟩ := List.mem_map.1 hP
      exact mem_pts.2 (padd_ok (pmul_ok pb_ok i) (pmul_ok hH j)))
    rw [len_flat, len_pts] at hl
    have e : sumTo (fun j => (coset H j).length) 0 13 = 13117 := by
      have : (fun j => (coset H j).length) = fun _ => 1009 := by funext j; simp [coset]
      rw [this]
      rfl
    omega

/-- Cofactor times any point is a multiple of the base. -/
theorem cleared {P : Pt} (h : POk P) : ∃ k, k < 1009 ∧ pMul P 12 = pMul pB k :=
  torsion (pmul_ok h 12) (by rw [pmul_mul h]; exact pmul_all h)

end Go.Proofs.Ytckhbflolccinaa

/-
  Pairs of points as the program and the specification tell of them, whatever the points are.
-/
namespace Go.Proofs.Ytckhbflolccinaa

/-- The line at a point, whatever the points are. -/
def pLineB (P Q R : Pt) : Int × Int := if pOkB P && pOkB Q && pOkB R then pLine P Q R else (1, 0)
theorem plineB_eq {P Q R : Pt} (hP : POk P) (hQ : POk Q) (hR : POk R) : pLineB P Q R = pLine P Q R := by
  unfold pLineB
  rw [pokB.2 hP, pokB.2 hQ, pokB.2 hR]
  rfl

/-- A step of Miller's number. -/
def mStepS (P R : Pt) (b : Bool) (s : (Int × Int) × Pt) : (Int × Int) × Pt :=
  if b then (tm (tm (tm s.1 s.1) (pLineB s.2 s.2 R)) (pLineB (pSum s.2 s.2) P R), pSum (pSum s.2 s.2) P) else (tm (tm s.1 s.1) (pLineB s.2 s.2 R), pSum s.2 s.2)
def mRunS (P R : Pt) : List Bool → (Int × Int) × Pt → (Int × Int) × Pt
  | [], s => s
  | b :: l, s => mRunS P R l (mStepS P R b s)
def millS (P R : Pt) : Int × Int := (mRunS P R mBits ((1, 0), P)).1

theorem mstep_eq {P R : Pt} (hP : POk P) (hR : POk R) (b : Bool) {s : (Int × Int) × Pt} (hs : POk s.2) : mStepS P R b s = mStep P R b s ∧ POk (mStep P R b s).2 := by
  unfold mStepS mStep
  rw [plineB_eq hs hs hR, psum_eq hs hs, plineB_eq (padd_ok hs hs) hP hR, psum_eq (padd_ok hs hs) hP]
  cases b
  · exact ⟨rfl, padd_ok hs hs⟩
  · exact ⟨rfl, padd_ok (padd_ok hs hs) hP⟩
theorem mrun_eq {P R : Pt} (hP : POk P) (hR : POk R) : ∀ (l : List Bool) (s : (Int × Int) × Pt), POk s.2 → mRunS P R l s = mRun P R l s
  | [], _, _ => rfl
  | b :: l, s, hs => by
    show mRunS P R l (mStepS P R b s) = mRun P R l (mStep P R b s)
    obtain ⟨h1, h2⟩ := mstep_eq hP hR b hs
    rw [h1]
    exact mrun_eq hP hR l _ h2
theorem mills_eq {P R : Pt} (hP : POk P) (hR : POk R) : millS P R = mill P R := by
  unfold millS mill
  rw [mrun_eq hP hR _ _ hP]

theorem in2_step (P R : Pt) (b : Bool) (s : (Int × Int) × Pt) : In2 (mStepS P R b s).1 := by
  unfold mStepS
  cases b
  · exact in2_tm _ _
  · exact in2_tm _ _
theorem in2_run (P R : Pt) : ∀ (l : List Bool) (s : (Int × Int) × Pt), In2 s.1 → In2 (mRunS P R l s).1
  | [], _, h => h
  | b :: l, s, _ => in2_run P R l _ (in2_step P R b s)
theorem in2_mills (P R : Pt) : In2 (millS P R) := in2_run P R _ _ in2_one

/-- The pair of two points, whatever they are. -/
def pairS (P Q : Pt) : Int × Int := if inGB P && inGB Q && !P.2.2 && !Q.2.2 then mEnd (millS P Q) else (1, 0)

theorem pb_zero {i : Nat} (h : i < 1009) : pMul pB i = pZ ↔ i = 0 := by
  constructor
  · intro e
    exact pb_inj h (by decide) e
  · rintro rfl; rfl

theorem zero_flag {P : Pt} (h : POk P) : P.2.2 = true ↔ P = pZ := by
  rcases h with rfl | h
  · exact ⟨fun _ => rfl, fun _ => rfl⟩
  · exact ⟨fun e => (by rw [h.1] at e; cases e), fun e => (by rw [e]; rfl)⟩

theorem ing_mul (i : Nat) : inGB (pMul pB i) = true := ing_iff.2 ⟨pmul_ok pb_ok i, by rw [pmul_mul pb_ok, Nat.mul_comm, ← pmul_mul pb_ok, b1009, pmul_zero]⟩

theorem pw_rest (n : Nat) : pw gB n = pw gB (n % 1009) := by
  have e : n = 1009 * (n / 1009) + n % 1009 := by omega
  have h1 : pw gB (1009 * (n / 1009)) = (1, 0) := by rw [← pw_pw, gb_order, pw_ones]
  have h2 : pw gB (1009 * (n / 1009) + n % 1009) = tm (pw gB (1009 * (n / 1009))) (pw gB (n % 1009)) := pw_add _ _ _
  rw [← e, h1, one_tm (in2_pw _ _)] at h2
  exact h2

/-- **The pair of two multiples of the base.** -/
theorem pair_gp (i j : Nat) (hi : i < 1009) (hj : j < 1009) : pairS (pMul pB i) (pMul pB j) = pw gB (i * j) := by
  have oi := pmul_ok pb_ok i
  have oj := pmul_ok pb_ok j
  unfold pairS
  rw [ing_mul, ing_mul]
  by_cases h0 : i = 0
  · subst h0
    rw [Nat.zero_mul, pw_zero]
    rfl
  · have z1 : (pMul pB i).2.2 = false := by
      cases h : (pMul pB i).2.2
      · rfl
      · exact absurd ((pb_zero hi).1 ((zero_flag oi).1 h)) h0
    by_cases h1 : j = 0
    · subst h1
      rw [Nat.mul_zero, pw_zero, z1]
      rfl
    · have z2 : (pMul pB j).2.2 = false := by
        cases h : (pMul pB j).2.2
        · rfl
        · exact absurd ((pb_zero hj).1 ((zero_flag oj).1 h)) h1
      rw [z1, z2, mills_eq oi oj]
      exact pair_both i (by omega) hj

theorem gb_ne {k : Nat} (h0 : 0 < k) (h : k < 1009) : pw gB k ≠ (1, 0) := by
  intro e
  have h1 : pw gB (k * (k ^ eS % 1009)) = (1, 0) := by rw [← pw_pw, e, pw_ones]
  rw [pw_rest, sca_inv_nat h0 h, pw_one in2_gb] at h1
  cases h1

end Go.Proofs.Ytckhbflolccinaa
