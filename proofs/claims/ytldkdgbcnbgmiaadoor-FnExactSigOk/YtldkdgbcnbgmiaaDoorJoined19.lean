/-
  Texts of one's own, joined.
-/
import Derived.Test.YtldkdgbcnbgmiaaDoorJoined17
import Derived.Test.YtldkdgbcnbgmiaaDoorJoined18
import Derived.Laws.BitsAllLaws

/-
  What is Zero 1009 times is a multiple of the base.
-/
namespace Go.Proofs.YtldkdgbcnbgmiaaDoor

/-- Of a point that is Zero 1009 times only the rest counts. -/
theorem pmul_rest {P : Pt} (h : POk P) (h9 : pMul P 1009 = pZ) (n : Nat) : pMul P n = pMul P (n % 1009) := by
  have e : n = 1009 * (n / 1009) + n % 1009 := by omega
  have h1 : pMul P (1009 * (n / 1009)) = pZ := by rw [← pmul_mul h, h9, pmul_zero]
  have h2 := pmul_add h (1009 * (n / 1009)) (n % 1009)
  rw [← e, h1] at h2
  exact h2

/-- It comes back from so many of it. -/
theorem pmul_back {P : Pt} (h : POk P) (h9 : pMul P 1009 = pZ) {a : Nat} (a0 : 0 < a) (a1 : a < 1009) : pMul (pMul P a) (a ^ eS % 1009) = P := by
  rw [pmul_mul h, pmul_rest h h9, sca_inv_nat a0 a1, pmul_one]

theorem pb_ne : pB ≠ pZ := by decide

theorem pb_inj {i j : Nat} (hi : i < 1009) (hj : j < 1009) (h : pMul pB i = pMul pB j) : i = j := by
  have key : ∀ {i j : Nat}, i < j → j < 1009 → pMul pB i = pMul pB j → False := by
    intro i j hij hj h
    have e : pMul pB j = pAdd (pMul pB (j - i)) (pMul pB i) := by rw [← pmul_add pb_ok]; exact congrArg _ (by omega)
    rw [e] at h
    have h0 : pMul pB (j - i) = pZ := (padd_drop pz_ok (pmul_ok pb_ok (j - i)) (pmul_ok pb_ok i) h).symm
    have hb := pmul_back pb_ok b1009 (a := j - i) (by omega) (by omega)
    rw [h0, pmul_zero] at hb
    exact pb_ne hb.symm
  rcases Nat.lt_trichotomy i j with h1 | h1 | h1
  · exact (key h1 hj h).elim
  · exact h1
  · exact (key h1 hi h.symm).elim

/-- The multiples of the base put to j times another point. -/
def coset (H : Pt) (j : Nat) : List Pt := (List.range 1009).map fun i => pAdd (pMul pB i) (pMul H j)

theorem nodup_coset {H : Pt} (hH : POk H) (j : Nat) : (coset H j).Nodup := by
  unfold coset
  rw [List.nodup_iff_pairwise_ne, List.pairwise_map]
  refine List.Pairwise.imp_of_mem ?_ (List.nodup_iff_pairwise_ne.1 (List.nodup_range (n := 1009)))
  intro a b ha hb hne e
  rw [List.mem_range] at ha hb
  exact hne (pb_inj ha hb (padd_drop (pmul_ok pb_ok a) (pmul_ok pb_ok b) (pmul_ok hH j) e))

theorem torsion {H : Pt} (hH : POk H) (h9 : pMul H 1009 = pZ) : ∃ k, k < 1009 ∧ H = pMul pB k := by
  have hrange : (List.range 13).Nodup := List.nodup_range
  by_cases hn : ∃ k, H = pMul pB k
  · obtain ⟨k, hk⟩ := hn
    exact ⟨k % 1009, Nat.mod_lt _ (by decide), by rw [hk, pmul_rest pb_ok b1009]⟩
  · exfalso
    have key : ∀ {i i' j j' : Nat}, i < 1009 → i' < 1009 → j < j' → j' < 13 → pAdd (pMul pB i) (pMul H j) = pAdd (pMul pB i') (pMul H j') → False := by
      intro i i' j j' hi hi' hjj hj' h
      have e1 : pMul H j' = pAdd (pMul H (j' - j)) (pMul H j) := by rw [← pmul_add hH]; exact congrArg _ (by omega)
      rw [e1, ← padd_assoc (pmul_ok pb_ok i') (pmul_ok hH _) (pmul_ok hH j)] at h
      have h1 := padd_drop (pmul_ok pb_ok i) (padd_ok (pmul_ok pb_ok i') (pmul_ok hH _)) (pmul_ok hH j) h
      have h2 : pMul H (j' - j) = pMul pB (i + (1009 - i')) := by
        have h4 : pAdd (pMul pB (i + (1009 - i'))) (pMul pB i') = pMul pB i := by
          rw [← pmul_add pb_ok (i + (1009 - i')) i', show i + (1009 - i') + i' = 1009 + i by omega, pmul_add pb_ok 1009 i, b1009]
          rfl
        refine padd_drop (pmul_ok hH (j' - j)) (pmul_ok pb_ok (i + (1009 - i'))) (pmul_ok pb_ok i') ?_
        rw [h4, padd_comm (pmul_ok hH (j' - j)) (pmul_ok pb_ok i')]
        exact h1.symm
      have h3 := pmul_back hH h9 (a := j' - j) (by omega) (by omega)
      rw [h2, pmul_mul pb_ok] at h3
      exact hn ⟨_, h3.symm⟩
    have hnd : ((List.range 13).flatMap (coset H)).Nodup := by
      refine nodup_flat _ List.nodup_range (fun j _ => nodup_coset hH j) ?_
      intro x hx y hy P h1 h2
      rw [List.mem_range] at hx hy
      obtain ⟨i, hi, rfl⟩ := List.mem_map.1 h1
      obtain ⟨i', hi', e⟩ := List.mem_map.1 h2
      rw [List.mem_range] at hi hi'
      rcases Nat.lt_trichotomy x y with h | h | h
      · exact (key hi hi' h hy e.symm).elim
      · exact h
      · exact (key hi' hi h hx e).elim
    have hl := len_of_sub _ pts hnd (fun P hP => by
      obtain ⟨j, _, hP⟩ := List.mem_flatMap.1 hP
      obtain ⟨i, _, rfl⟩ := List.mem_map.1 hP
      exact mem_pts.2 (padd_ok (pmul_ok pb_ok i) (pmul_ok hH j)))
    rw [len_flat, len_pts] at hl
    have e : sumTo (fun j => (coset H j).length) 0 13 = 13117 := by
      have : (fun j => (coset H j).length) = fun _ => 1009 := by funext j; simp [coset]
      rw [this]
      rfl
    omega

/-- Cofactor times any point is a multiple of the base. -/
theorem cleared {P : Pt} (h : POk P) : ∃ k, k < 1009 ∧ pMul P 12 = pMul pB k :=
  torsion (pmul_ok h 12) (by rw [pmul_mul h]; exact pmul_all h)

end Go.Proofs.YtldkdgbcnbgmiaaDoor

/-
  Pairs of points as the program and the specification tell of them, whatever the points are.
-/
namespace Go.Proofs.YtldkdgbcnbgmiaaDoor

/-- The line at a point, whatever the points are. -/
def pLineB (P Q R : Pt) : Int × Int := if pOkB P && pOkB Q && pOkB R then pLine P Q R else (1, 0)
theorem plineB_eq {P Q R : Pt} (hP : POk P) (hQ : POk Q) (hR : POk R) : pLineB P Q R = pLine P Q R := by
  unfold pLineB
  rw [pokB.2 hP, pokB.2 hQ, pokB.2 hR]
  rfl

/-- A step of Miller's number. -/
def mStepS (P R : Pt) (b : Bool) (s : (Int × Int) × Pt) : (Int × Int) × Pt :=
  if b then (tm (tm (tm s.1 s.1) (pLineB s.2 s.2 R)) (pLineB (pSum s.2 s.2) P R), pSum (pSum s.2 s.2) P) else (tm (tm s.1 s.1) (pLineB s.2 s.2 R), pSum s.2 s.2)
def mRunS (P R : Pt) : List Bool → (Int × Int) × Pt → (Int × Int) × Pt
  | [], s => s
  | b :: l, s => mRunS P R l (mStepS P R b s)
def millS (P R : Pt) : Int × Int := (mRunS P R mBits ((1, 0), P)).1

theorem mstep_eq {P R : Pt} (hP : POk P) (hR : POk R) (b : Bool) {s : (Int × Int) × Pt} (hs : POk s.2) : mStepS P R b s = mStep P R b s ∧ POk (mStep P R b s).2 := by
  unfold mStepS mStep
  rw [plineB_eq hs hs hR, psum_eq hs hs, plineB_eq (padd_ok hs hs) hP hR, psum_eq (padd_ok hs hs) hP]
  cases b
  · exact ⟨rfl, padd_ok hs hs⟩
  · exact ⟨rfl, padd_ok (padd_ok hs hs) hP⟩
theorem mrun_eq {P R : Pt} (hP : POk P) (hR : POk R) : ∀ (l : List Bool) (s : (Int × Int) × Pt), POk s.2 → mRunS P R l s = mRun P R l s
  | [], _, _ => rfl
  | b :: l, s, hs => by
    show mRunS P R l (mStepS P R b s) = mRun P R l (mStep P R b s)
    obtain ⟨h1, h2⟩ := mstep_eq hP hR b hs
    rw [h1]
    exact mrun_eq hP hR l _ h2
theorem mills_eq {P R : Pt} (hP : POk P) (hR : POk R) : millS P R = mill P R := by
  unfold millS mill
  rw [mrun_eq hP hR _ _ hP]

theorem in2_step (P R : Pt) (b : Bool) (s : (Int × Int) × Pt) : In2 (mStepS P R b s).1 := by
  unfold mStepS
  cases b
  · exact in2_tm _ _
  · exact in2_tm _ _
theorem in2_run (P R : Pt) : ∀ (l : List Bool) (s : (Int × Int) × Pt), In2 s.1 → In2 (mRunS P R l s).1
  | [], _, h => h
  | b :: l, s, _ => in2_run P R l _ (in2_step P R b s)
theorem in2_mills (P R : Pt) : In2 (millS P R) := in2_run P R _ _ in2_one

/-- The pair of two points, whatever they are. -/
def pairS (P Q : Pt) : Int × Int := if inGB P && inGB Q && !P.2.2 && !Q.2.2 then mEnd (millS P Q) else (1, 0)

theorem pb_zero {i : Nat} (h : i < 1009) : pMul pB i = pZ ↔ i = 0 := by
  constructor
  · intro e
    exact pb_inj h (by decide) e
  · rintro rfl; rfl

theorem zero_flag {P : Pt} (h : POk P) : P.2.2 = true ↔ P = pZ := by
  rcases h with rfl | h
  · exact ⟨fun _ => rfl, fun _ => rfl⟩
  · exact ⟨fun e => (by rw [h.1] at e; cases e), fun e => (by rw [e]; rfl)⟩

theorem ing_mul (i : Nat) : inGB (pMul pB i) = true := ing_iff.2 ⟨pmul_ok pb_ok i, by rw [pmul_mul pb_ok, Nat.mul_comm, ← pmul_mul pb_ok, b1009, pmul_zero]⟩

theorem pw_rest (n : Nat) : pw gB n = pw gB (n % 1009) := by
  have e : n = 1009 * (n / 1009) + n % 1009 := by omega
  have h1 : pw gB (1009 * (n / 1009)) = (1, 0) := by rw [← pw_pw, gb_order, pw_ones]
  have h2 : pw gB (1009 * (n / 1009) + n % 1009) = tm (pw gB (1009 * (n / 1009))) (pw gB (n % 1009)) := pw_add _ _ _
  rw [← e, h1, one_tm (in2_pw _ _)] at h2
  exact h2

/-- **The pair of two multiples of the base.** -/
theorem pair_gp (i j : Nat) (hi : i < 1009) (hj : j < 1009) : pairS (pMul pB i) (pMul pB j) = pw gB (i * j) := by
  have oi := pmul_ok pb_ok i
  have oj := pmul_ok pb_ok j
  unfold pairS
  rw [ing_mul, ing_mul]
  by_cases h0 : i = 0
  · subst h0
    rw [Nat.zero_mul, pw_zero]
    rfl
  · have z1 : (pMul pB i).2.2 = false := by
      cases h : (pMul pB i).2.2
      · rfl
      · exact absurd ((pb_zero hi).1 ((zero_flag oi).1 h)) h0
    by_cases h1 : j = 0
    · subst h1
      rw [Nat.mul_zero, pw_zero, z1]
      rfl
    · have z2 : (pMul pB j).2.2 = false := by
        cases h : (pMul pB j).2.2
        · rfl
        · exact absurd ((pb_zero hj).1 ((zero_flag oj).1 h)) h1
      rw [z1, z2, mills_eq oi oj]
      exact pair_both i (by omega) hj

theorem gb_ne {k : Nat} (h0 : 0 < k) (h : k < 1009) : pw gB k ≠ (1, 0) := by
  intro e
  have h1 : pw gB (k * (k ^ eS % 1009)) = (1, 0) := by rw [← pw_pw, e, pw_ones]
  rw [pw_rest, sca_inv_nat h0 h, pw_one in2_gb] at h1
  cases h1

end Go.Proofs.YtldkdgbcnbgmiaaDoor

/-
  Signatures as the document tells of them: what is signed is right.
-/
namespace Go.Proofs.YtldkdgbcnbgmiaaDoor

theorem no_part {i j : Nat} (hi : 0 < i) (hi' : i < 1009) (hj : 0 < j) (hj' : j < 1009) : i * j % 1009 ≠ 0 := by
  intro e
  have h1 := sca_inv_nat hi hi'
  have h2 : i * j * (i ^ eS % 1009) % 1009 = 0 := by rw [Nat.mul_mod, e, Nat.zero_mul, Nat.zero_mod]
  have h3 : i * j * (i ^ eS % 1009) % 1009 = j % 1009 := by
    rw [Nat.mul_right_comm, Nat.mul_mod, h1, Nat.one_mul, Nat.mod_mod]
  omega

/-- Powers of the base's pair are told apart by what is left modulo 1009. -/
theorem pw_iff (u v : Nat) : pw gB u = pw gB v ↔ u % 1009 = v % 1009 := by
  constructor
  · intro h
    have h1 : pw gB (u + (1009 - v % 1009)) = (1, 0) := by
      rw [pw_add, h, ← pw_add, pw_rest, show (v + (1009 - v % 1009)) % 1009 = 0 by omega, pw_zero]
    rw [pw_rest] at h1
    by_cases h0 : (u + (1009 - v % 1009)) % 1009 = 0
    · omega
    · exact absurd h1 (gb_ne (by omega) (Nat.mod_lt _ (by decide)))
  · intro h
    rw [pw_rest u, pw_rest v, h]

theorem mulb_zero {a : Nat} (h : a < 1009) : (pMul pB a).2.2 = decide (a = 0) := by
  have f := zero_flag (pmul_ok pb_ok a)
  rw [pb_zero h] at f
  by_cases h0 : a = 0
  · rw [f.2 h0, decide_eq_true h0]
  · rw [decide_eq_false h0]
    cases hz : (pMul pB a).2.2
    · rfl
    · exact absurd (f.1 hz) h0

theorem mulb_rest (n : Nat) : pMul pB n = pMul pB (n % 1009) := pmul_rest pb_ok b1009 n

/-- Whether a signature is right by a key, H being what is signed. -/
def sigB (K S H : Pt) : Bool := if inGB K = true ∧ inGB S = true ∧ K.2.2 = false ∧ S.2.2 = false then decide (pairS S pB = pairS H K) else false

theorem sig_gp {a b m : Nat} (ha : a < 1009) (hb : b < 1009) (hm : m < 1009) : sigB (pMul pB a) (pMul pB b) (pMul pB m) = decide (a ≠ 0 ∧ b ≠ 0 ∧ b = m * a % 1009) := by
  unfold sigB
  rw [ing_mul, ing_mul, mulb_zero ha, mulb_zero hb]
  by_cases h1 : a = 0
  · simp [h1]
  · by_cases h2 : b = 0
    · simp [h2]
    · rw [if_pos ⟨rfl, rfl, decide_eq_false h1, decide_eq_false h2⟩]
      have e : pairS (pMul pB b) pB = pw gB (b * 1) := by
        have := pair_gp b 1 hb (by decide)
        rwa [pmul_one] at this
      rw [e, pair_gp m a hm ha]
      have := pw_iff (b * 1) (m * a)
      simp only [this, h1, h2, ne_eq, not_false_eq_true, true_and]
      congr 1
      apply propext
      constructor
      · intro h; omega
      · intro h; omega

/-- The key of a secret, and what it signs. -/
def keyP (k : Int) : Pt := pTimes (sca k) pB
def signP (k : Int) (H : Pt) : Pt := pTimes (sca k) H

theorem sca_nat (k : Int) : sca k = (scn k : Int) ∧ scn k < 1009 := by
  have h0 := sca_nonneg k
  have h1 := sca_lt k
  unfold scn
  omega

theorem key_mul (k : Int) : keyP k = pMul pB (scn k) := by
  unfold keyP
  obtain ⟨h1, h2⟩ := sca_nat k
  rw [h1, ptimes_small pb_ok (by omega)]

theorem sign_mul (k : Int) (m : Nat) : signP k (pMul pB m) = pMul pB (m * scn k % 1009) := by
  unfold signP
  obtain ⟨h1, h2⟩ := sca_nat k
  rw [h1, ptimes_small (pmul_ok pb_ok m) (by omega), pmul_mul pb_ok, mulb_rest]

/-- What is signed is right; by another key, or put together with the base, it is not. -/
theorem signs_facts {k k1 : Int} {m : Nat} (h0 : 0 < m) (hm : m < 1009) (h1 : scn k1 = (scn k + 1) % 1009) :
    sigB (keyP k) (signP k (pMul pB m)) (pMul pB m) = !decide (sca k = 0) ∧
    (sca k ≠ 0 → sigB (keyP k1) (signP k (pMul pB m)) (pMul pB m) = false ∧ sigB (keyP k) (pSum (signP k (pMul pB m)) pB) (pMul pB m) = false) := by
  obtain ⟨e1, e2⟩ := sca_nat k
  have hs : m * scn k % 1009 < 1009 := Nat.mod_lt _ (by decide)
  have hk1 : scn k1 < 1009 := (sca_nat k1).2
  refine ⟨?_, fun hk => ⟨?_, ?_⟩⟩
  · rw [key_mul, sign_mul, sig_gp e2 hs hm]
    by_cases hz : scn k = 0
    · have : sca k = 0 := by rw [e1, hz]; rfl
      simp [hz, this]
    · have hz' : sca k ≠ 0 := by rw [e1]; omega
      have := no_part h0 hm (by omega) e2
      simp [hz, hz', this]
  · rw [key_mul, sign_mul, sig_gp hk1 hs hm]
    refine decide_eq_false fun ⟨_, _, h⟩ => ?_
    rw [h1] at h
    have h2 : m * ((scn k + 1) % 1009) % 1009 = (m * scn k + m) % 1009 := by
      rw [Nat.mul_mod, Nat.mod_mod, ← Nat.mul_mod, Nat.mul_add, Nat.mul_one]
    rw [h2] at h
    omega
  · have hz : scn k ≠ 0 := fun h => hk (by rw [e1, h]; rfl)
    have ok1 := pmul_ok pb_ok (m * scn k % 1009)
    have ep : pSum (pMul pB (m * scn k % 1009)) pB = pMul pB ((m * scn k + 1) % 1009) := by
      rw [psum_eq ok1 pb_ok]
      have := pmul_add pb_ok (m * scn k % 1009) 1
      rw [pmul_one] at this
      rw [← this, mulb_rest]
      congr 1
      omega
    rw [key_mul, sign_mul, ep, sig_gp e2 (Nat.mod_lt _ (by decide)) hm]
    refine decide_eq_false fun ⟨_, _, h⟩ => ?_
    omega

end Go.Proofs.YtldkdgbcnbgmiaaDoor

/-
  Words of 64 bits as plain mathematics: a word of eight bytes, the bytes of a word, a word turned.
-/
namespace Go.Proofs.YtldkdgbcnbgmiaaDoor

/-- A word as a number. -/
def wv (x : BitVec 64) : Int := (x.toNat : Int)

theorem ofInt_wv (x : BitVec 64) : BitVec.ofInt 64 (wv x) = x := by
  unfold wv; rw [BitVec.ofInt_natCast]; simp
theorem wrap_wv (n : Nat) (h : n < 18446744073709551616) : IntKind.u64.wrap (n : Int) = (n : Int) := by
  simp [IntKind.wrap, IntKind.bits, IntKind.signed]; omega
theorem wv_lt (x : BitVec 64) : wv x < 18446744073709551616 := by unfold wv; have := x.isLt; omega
theorem wv_nonneg (x : BitVec 64) : 0 ≤ wv x := by unfold wv; omega
theorem wv_zero : wv 0#64 = 0 := rfl
theorem wv_ofNat {n : Nat} (h : n < 18446744073709551616) : wv (BitVec.ofNat 64 n) = (n : Int) := by
  unfold wv; rw [BitVec.toNat_ofNat]; congr 1; exact Nat.mod_eq_of_lt h
theorem wv_inj {x y : BitVec 64} (h : wv x = wv y) : x = y := by
  unfold wv at h; exact BitVec.eq_of_toNat_eq (by omega)

theorem wv_xor (x y : BitVec 64) : bits .xor .u64 (wv x) (wv y) = wv (x ^^^ y) := by
  show IntKind.u64.wrap (((BitVec.ofInt 64 (wv x)) ^^^ (BitVec.ofInt 64 (wv y))).toNat : Int) = _
  rw [ofInt_wv, ofInt_wv, wrap_wv _ (BitVec.isLt _)]; rfl
theorem wv_or (x y : BitVec 64) : bits .or .u64 (wv x) (wv y) = wv (x ||| y) := by
  show IntKind.u64.wrap (((BitVec.ofInt 64 (wv x)) ||| (BitVec.ofInt 64 (wv y))).toNat : Int) = _
  rw [ofInt_wv, ofInt_wv, wrap_wv _ (BitVec.isLt _)]; rfl
theorem wv_and (x y : BitVec 64) : bits .and .u64 (wv x) (wv y) = wv (x &&& y) := by
  show IntKind.u64.wrap (((BitVec.ofInt 64 (wv x)) &&& (BitVec.ofInt 64 (wv y))).toNat : Int) = _
  rw [ofInt_wv, ofInt_wv, wrap_wv _ (BitVec.isLt _)]; rfl
theorem wv_ones : (18446744073709551615 : Int) = wv (BitVec.allOnes 64) := by decide
theorem wv_not (x : BitVec 64) : bits .xor .u64 18446744073709551615 (wv x) = wv (~~~ x) := by
  rw [wv_ones, wv_xor, BitVec.allOnes_xor]
theorem wv_not' (x : BitVec 64) : bits .xor .u64 (wv x) 18446744073709551615 = wv (~~~ x) := by
  rw [wv_ones, wv_xor, BitVec.xor_allOnes]
theorem wv_shl (x : BitVec 64) (n : Nat) : IntKind.u64.wrap (wv x * 2 ^ n) = wv (x <<< n) := by
  unfold wv
  rw [BitVec.toNat_shiftLeft, Nat.shiftLeft_eq]
  simp [IntKind.wrap, IntKind.bits, IntKind.signed]
theorem wv_shr (x : BitVec 64) (n : Nat) : wv x / 2 ^ n = wv (x >>> n) := by
  unfold wv
  rw [BitVec.toNat_ushiftRight, Nat.shiftRight_eq_div_pow]
  simp

/-- A word turned by n, below 64. -/
def rotl (x : BitVec 64) (n : Nat) : BitVec 64 := (x <<< n) ||| (x >>> (64 - n))
theorem rotl_zero (x : BitVec 64) : rotl x 0 = x := by
  unfold rotl; ext i hi; simp
theorem rotl_of_zero (n : Nat) : rotl 0#64 n = 0#64 := by
  unfold rotl; ext i hi; simp
theorem rotl_bit (x : BitVec 64) (n : Nat) (hn : n < 64) (i : Nat) (hi : i < 64) : (rotl x n).getLsbD i = x.getLsbD ((i + 64 - n) % 64) := by
  unfold rotl
  simp only [BitVec.getLsbD_or, BitVec.getLsbD_shiftLeft, BitVec.getLsbD_ushiftRight, hi, decide_true, Bool.true_and]
  by_cases h : i < n
  · rw [show (i + 64 - n) % 64 = 64 - n + i by omega]; simp [h]
  · rw [show (i + 64 - n) % 64 = i - n by omega, BitVec.getLsbD_of_ge x (64 - n + i) (by omega)]; simp [h]
theorem rotl_back (x : BitVec 64) (n : Nat) (hn : n < 64) : rotl (rotl x n) ((64 - n) % 64) = x := by
  apply BitVec.eq_of_getLsbD_eq
  intro i hi
  rw [rotl_bit _ _ (by omega) _ hi, rotl_bit _ _ hn _ (by omega)]
  congr 1
  by_cases h0 : n = 0
  · subst h0; omega
  · rw [show (64 - n) % 64 = 64 - n by omega]
    by_cases h : i + n < 64
    · rw [show (i + 64 - (64 - n)) % 64 = i + n by omega]; omega
    · rw [show (i + 64 - (64 - n)) % 64 = i + n - 64 by omega]; omega

/-- Byte i of a text, as a word. -/
def byW (l : List UInt8) (i : Nat) : BitVec 64 := BitVec.ofNat 64 (l.getD i 0).toNat
/-- The word of the eight bytes from place a on, the first k of them; the lowest first. -/
def wordK (l : List UInt8) (a : Nat) : Nat → BitVec 64
  | 0 => 0#64
  | k + 1 => wordK l a k ||| (byW l (a + k) <<< (8 * k))
def wordAt (l : List UInt8) (a : Nat) : BitVec 64 := wordK l a 8
/-- The same from the last byte on. -/
def backK (l : List UInt8) (a : Nat) : Nat → BitVec 64
  | 0 => 0#64
  | k + 1 => (backK l a k <<< 8) ||| byW l (a + (7 - k))

theorem byW_bit (l : List UInt8) (i j : Nat) : (byW l i).getLsbD j = (l.getD i 0).toNat.testBit j := by
  unfold byW
  rw [BitVec.getLsbD_ofNat]
  by_cases h : j < 64
  · simp [h]
  · have : (l.getD i 0).toNat.testBit j = false := Nat.testBit_lt_two_pow (Nat.lt_of_lt_of_le (UInt8.toNat_lt _) (Nat.pow_le_pow_right (by omega) (show 8 ≤ j by omega)))
    rw [this]; simp [h]
theorem byte_high (b : UInt8) (j : Nat) (h : 8 ≤ j) : b.toNat.testBit j = false :=
  Nat.testBit_lt_two_pow (Nat.lt_of_lt_of_le (UInt8.toNat_lt _) (Nat.pow_le_pow_right (by omega) h))

theorem wordK_bit (l : List UInt8) (a k : Nat) (hk : k ≤ 8) (j : Nat) (hj : j < 64) :
    (wordK l a k).getLsbD j = (decide (j < 8 * k) && (l.getD (a + j / 8) 0).toNat.testBit (j % 8)) := by
  induction k with
  | zero => simp [wordK]
  | succ k ih =>
    show (wordK l a k ||| (byW l (a + k) <<< (8 * k))).getLsbD j = _
    rw [BitVec.getLsbD_or, ih (by omega), BitVec.getLsbD_shiftLeft, byW_bit]
    by_cases h1 : j < 8 * k
    · simp [h1, show j < 8 * (k + 1) by omega]
    · by_cases h2 : j < 8 * (k + 1)
      · rw [show j / 8 = k by omega, show j % 8 = j - 8 * k by omega]; simp [h1, h2, hj]
      · rw [byte_high _ _ (show 8 ≤ j - 8 * k by omega)]; simp [h1, h2]
theorem wordAt_bit (l : List UInt8) (a j : Nat) (hj : j < 64) : (wordAt l a).getLsbD j = (l.getD (a + j / 8) 0).toNat.testBit (j % 8) := by
  rw [wordAt, wordK_bit l a 8 (by omega) j hj]; simp [hj]
theorem backK_bit (l : List UInt8) (a k : Nat) (hk : k ≤ 8) (j : Nat) (hj : j < 64) :
    (backK l a k).getLsbD j = (decide (j < 8 * k) && (l.getD (a + (8 - k) + j / 8) 0).toNat.testBit (j % 8)) := by
  induction k generalizing j with
  | zero => simp [backK]
  | succ k ih =>
    show ((backK l a k <<< 8) ||| byW l (a + (7 - k))).getLsbD j = _
    rw [BitVec.getLsbD_or, BitVec.getLsbD_shiftLeft, byW_bit]
    by_cases h1 : j < 8
    · rw [show a + (8 - (k + 1)) + j / 8 = a + (7 - k) by omega, show j % 8 = j by omega]; simp [h1, show j < 8 * (k + 1) by omega]
    · rw [ih (by omega) (j - 8) (by omega), byte_high _ _ (show 8 ≤ j by omega),
        show a + (8 - (k + 1)) + j / 8 = a + (8 - k) + (j - 8) / 8 by omega, show j % 8 = (j - 8) % 8 by omega]
      by_cases h2 : j < 8 * (k + 1)
      · simp [h1, h2, hj, show j - 8 < 8 * k by omega]
      · simp [h1, h2, hj, show ¬ (j - 8 < 8 * k) by omega]
theorem backK_all (l : List UInt8) (a : Nat) : backK l a 8 = wordAt l a := by
  apply BitVec.eq_of_getLsbD_eq
  intro j hj
  rw [backK_bit l a 8 (by omega) j hj, wordAt_bit l a j hj]; simp [hj]

/-- Byte i of a word. -/
def byteOf (x : BitVec 64) (i : Nat) : UInt8 := UInt8.ofNat (x >>> (8 * i)).toNat
/-- The first k bytes of a word. -/
def bytesOf (x : BitVec 64) (k : Nat) : List UInt8 := (List.range k).map (byteOf x)
theorem bytesOf_succ (x : BitVec 64) (k : Nat) : bytesOf x (k + 1) = bytesOf x k ++ [byteOf x k] := by
  simp [bytesOf, List.range_succ]
theorem bytesOf_length (x : BitVec 64) (k : Nat) : (bytesOf x k).length = k := by simp [bytesOf]
theorem byteOf_bit (x : BitVec 64) (i j : Nat) : (byteOf x i).toNat.testBit j = (decide (j < 8) && x.getLsbD (8 * i + j)) := by
  unfold byteOf
  rw [UInt8.toNat_ofNat', Nat.testBit_mod_two_pow, BitVec.toNat_ushiftRight, Nat.testBit_shiftRight]
  rfl
theorem byteOf_wrap (x : BitVec 64) (i : Nat) : IntKind.u8.wrap (wv (x >>> (8 * i))) = ((byteOf x i).toNat : Int) := by
  unfold byteOf wv
  rw [IntKind.wrap_u8', UInt8.toNat_ofNat']; omega
theorem byte_ext {a b : UInt8} (h : ∀ j, j < 8 → a.toNat.testBit j = b.toNat.testBit j) : a = b := by
  apply UInt8.toNat_inj.1
  apply Nat.eq_of_testBit_eq
  intro j
  by_cases hj : j < 8
  · exact h j hj
  · rw [byte_high a j (by omega), byte_high b j (by omega)]
theorem bytesOf_getD (x : BitVec 64) (k i : Nat) (h : i < k) : (bytesOf x k).getD i 0 = byteOf x i := by
  simp [bytesOf, List.getD_eq_getElem?_getD, h]
theorem wordAt_bytesOf (x : BitVec 64) : wordAt (bytesOf x 8) 0 = x := by
  apply BitVec.eq_of_getLsbD_eq
  intro j hj
  rw [wordAt_bit _ _ j hj, bytesOf_getD _ _ _ (by omega), byteOf_bit]
  rw [show 8 * (0 + j / 8) + j % 8 = j by omega]
  simp; omega
theorem bytesOf_wordAt (l : List UInt8) (h : l.length = 8) : bytesOf (wordAt l 0) 8 = l := by
  apply List.ext_getElem?
  intro i
  by_cases hi : i < 8
  · rw [List.getElem?_eq_getElem (by simpa [bytesOf_length] using hi), List.getElem?_eq_getElem (by omega)]
    congr 1
    apply byte_ext
    intro j hj
    have e1 : (bytesOf (wordAt l 0) 8)[i]'(by simpa [bytesOf_length] using hi) = byteOf (wordAt l 0) i := by simp [bytesOf]
    rw [e1, byteOf_bit, wordAt_bit _ _ _ (by omega), show (8 * i + j) % 8 = j by omega, show 0 + (8 * i + j) / 8 = i by omega]
    simp [hj, List.getD_eq_getElem?_getD, h, hi]
  · rw [List.getElem?_eq_none (by simp [bytesOf_length]; omega), List.getElem?_eq_none (by omega)]

end Go.Proofs.YtldkdgbcnbgmiaaDoor
