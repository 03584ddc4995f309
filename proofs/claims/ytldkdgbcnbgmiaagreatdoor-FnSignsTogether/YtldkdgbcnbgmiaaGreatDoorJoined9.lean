/-
  Texts of one's own, joined.
-/
import Derived.Test.YtldkdgbcnbgmiaaGreatDoorJoined8
import Derived.Test.YtldkdgbcnbgmiaaGreatDoorJoined4
import Derived.Test.YtldkdgbcnbgmiaaGreatDoorJoined6

/-
  Powers of numbers two by two that leave numbers of the field out; products of lines along a group.
-/
namespace Go.Proofs.YtldkdgbcnbgmiaaGreatDoor

theorem gp_gp (x : Int × Int) (m : Nat) : ∀ n, gp (gp x m) n = gp x (m * n)
  | 0 => rfl
  | n + 1 => by
    show gm (gp (gp x m) n) (gp x m) = _
    rw [gp_gp x m n, Nat.mul_succ, gp_add]

theorem tm_assoc (x y z : Int × Int) : tm (tm x y) z = tm x (tm y z) := by
  unfold tm; rw [fp2_left, fp2_right, gm_assoc]
theorem tm_swap (x y z : Int × Int) : tm (tm x y) z = tm (tm x z) y := by
  rw [tm_assoc, tm_comm z y, ← tm_assoc]
theorem in2_tm (x y : Int × Int) : In2 (tm x y) := in2_fp2 _
theorem tm_one {x : Int × Int} (h : In2 x) : tm x (1, 0) = x := by unfold tm; rw [gm_one, fp2_in h]
theorem one_tm {x : Int × Int} (h : In2 x) : tm (1, 0) x = x := by rw [tm_comm]; exact tm_one h
theorem in2_one : In2 (1, 0) := ⟨⟨by decide, by decide⟩, by decide, by decide⟩

/-- A power in the field. -/
def pw (x : Int × Int) (n : Nat) : Int × Int := fp2 (gp x n)
theorem in2_pw (x : Int × Int) (n : Nat) : In2 (pw x n) := in2_fp2 _
theorem pw_zero (x : Int × Int) : pw x 0 = (1, 0) := rfl
theorem pw_add (x : Int × Int) (m n : Nat) : pw x (m + n) = tm (pw x m) (pw x n) := by unfold pw tm; rw [fp2_gm, gp_add]
theorem pw_one {x : Int × Int} (h : In2 x) : pw x 1 = x := by unfold pw; rw [gp_one, fp2_in h]
theorem pw_succ {x : Int × Int} (h : In2 x) (n : Nat) : pw x (n + 1) = tm (pw x n) x := by rw [pw_add, pw_one h]
theorem pw_pw (x : Int × Int) (m n : Nat) : pw (pw x m) n = pw x (m * n) := by unfold pw; rw [fp2_gp, gp_gp]
theorem pw_tm (x y : Int × Int) (n : Nat) : pw (tm x y) n = tm (pw x n) (pw y n) := by unfold pw tm; rw [fp2_gp, gp_gm, fp2_gm]
theorem pw_ones (n : Nat) : pw (1, 0) n = (1, 0) := by unfold pw; rw [gp_plain, Int.one_pow]; rfl
theorem tp_pw (x : Int × Int) (n : Nat) : tp x (n : Int) = pw x n := tp_nat x n

/-- Turned by 12107, whatever the number. -/
theorem frob_all {x : Int × Int} (h : In2 x) : pw x eP = tt x := by
  by_cases h0 : x.1 = 0
  · obtain ⟨a, b⟩ := x
    simp only at h0
    subst h0
    obtain ⟨m, rfl⟩ : ∃ m : Nat, b = m := ⟨b.toNat, by have := h.2.1; simp only at this; omega⟩
    have hm : m < 12107 := by have := h.2.2; simp only at this; omega
    have hx : ((0 : Int), (m : Int)) = gm ((m : Int), 0) (0, 1) := by unfold gm; simp
    have hi : gp ((0 : Int), (1 : Int)) eP = (0, -1) := by
      have h4 : gp ((0 : Int), (1 : Int)) 4 = (1, 0) := by decide
      have he : eP = 4 * 3026 + 3 := rfl
      have h1 : gp ((1 : Int), (0 : Int)) 3026 = (1, 0) := by rw [gp_plain, Int.one_pow]
      rw [he, gp_add, ← gp_gp, h4, h1, one_gm]
      decide
    unfold pw
    rw [hx, gp_gm, gp_plain, hi]
    have hp : fp ((m : Int) ^ eP) = (m : Int) := by
      rcases Nat.eq_zero_or_pos m with e | e
      · subst e
        rw [show ((0 : Nat) : Int) = 0 from rfl, Int.zero_pow (by decide)]; rfl
      · have e1 : (m : Int) ^ eP = ((m ^ eP : Nat) : Int) := by simp
        rw [e1, eP_eq, Nat.pow_succ]
        have f := fermat (a := m) e hm
        have : (m ^ eF * m) % 12107 = m := by rw [Nat.mul_mod, f, Nat.one_mul, Nat.mod_mod, Nat.mod_eq_of_lt hm]
        unfold fp
        omega
    obtain ⟨k, hk⟩ := fp_rep ((m : Int) ^ eP)
    generalize (m : Int) ^ eP = z at hp hk
    rw [hp] at hk
    unfold fp2 gm tt
    ext
    · simp; rfl
    · simp only
      exact fp_to k (by grind)
  · have := tp_frob h h0
    rw [show (12107 : Int) = ((eP : Nat) : Int) from rfl, tp_pw] at this
    exact this

/-- What leaves numbers of the field out. -/
def ch (z : Int × Int) : Int × Int := pw z eF
theorem in2_ch (z : Int × Int) : In2 (ch z) := in2_fp2 _
theorem ch_gm (z w : Int × Int) : ch (gm z w) = tm (ch z) (ch w) := by unfold ch pw tm; rw [gp_gm, fp2_gm]
theorem ch_fp2 (z : Int × Int) : ch (fp2 z) = ch z := by unfold ch pw; rw [fp2_gp]
theorem ch_tm (z w : Int × Int) : ch (tm z w) = tm (ch z) (ch w) := by unfold tm; rw [ch_fp2]; exact ch_gm z w
theorem ch_one : ch (1, 0) = (1, 0) := pw_ones _
theorem ch_plain {c : Int} (h : ¬ Dv c) : ch (c, 0) = (1, 0) := by
  rw [← ch_fp2]
  obtain ⟨n, hn⟩ : ∃ n : Nat, (n : Int) = fp c := ⟨(fp c).toNat, by have := fp_nonneg c; omega⟩
  have h0 : 0 < n := by
    rcases Nat.eq_zero_or_pos n with e | e
    · exact absurd (dv_fp.2 (by rw [← hn, e]; rfl)) h
    · exact e
  have hl : n < 12107 := by have := fp_lt c; omega
  unfold ch pw fp2
  simp only
  rw [← hn, show fp (0 : Int) = 0 from rfl, gp_plain]
  have f := fermat h0 hl
  have e1 : (n : Int) ^ eF = ((n ^ eF : Nat) : Int) := by simp
  simp only
  rw [e1]
  ext
  · show fp ((n ^ eF : Nat) : Int) = 1
    unfold fp; omega
  · rfl

/-- Alike but for numbers of the field. -/
theorem ch_alike {z w : Int × Int} {c d : Int} (hc : ¬ Dv c) (hd : ¬ Dv d) (h1 : Dv (c * z.1 - d * w.1)) (h2 : Dv (c * z.2 - d * w.2)) : ch z = ch w := by
  have e : fp2 (gm (c, 0) z) = fp2 (gm (d, 0) w) := by
    unfold fp2 gm
    ext
    · exact dv_eq (h1.of (by simp))
    · exact dv_eq (h2.of (by simp))
  have e2 : ch (gm (c, 0) z) = ch (gm (d, 0) w) := by rw [← ch_fp2, e, ch_fp2]
  rw [ch_gm, ch_gm, ch_plain hc, ch_plain hd, one_tm (in2_ch z), one_tm (in2_ch w)] at e2
  exact e2

theorem pw_turn {z : Int × Int} (h : In2 z) : pw z (eP + 1) = (fp (z.1 * z.1 + z.2 * z.2), 0) := by
  rw [pw_add, pw_one h, frob_all h, tm_comm, tm_turned]

/-- What is left is one of 12108. -/
theorem ch_order {z : Int × Int} (h : In2 z) (h0 : z ≠ (0, 0)) : pw (ch z) (eP + 1) = (1, 0) := by
  unfold ch
  rw [pw_pw, Nat.mul_comm, ← pw_pw, pw_turn h]
  have hn : ¬ Dv (fp (z.1 * z.1 + z.2 * z.2)) := fun k => by
    have := norm_pos h h0
    have := dv_fp.1 k
    rw [fp_fp] at this
    omega
  exact ch_plain hn

/-- What the specification makes of Miller's number. -/
theorem ch_end {z : Int × Int} (h : In2 z) (h0 : z ≠ (0, 0)) : tm (tt z) (ti z) = ch z := by
  rw [← frob_all h, eP_eq, pw_succ h, tm_assoc, tm_inv h h0, tm_one (in2_pw _ _)]
  rfl

/-- Lines along a group: what they make one by one. -/
def psi (L : Nat → Nat → Int × Int) : Nat → Int × Int
  | 0 => (1, 0)
  | n + 1 => tm (psi L n) (L n 1)

section
variable {L : Nat → Nat → Int × Int}
theorem in2_psi : ∀ n, In2 (psi L n)
  | 0 => in2_one
  | _ + 1 => in2_fp2 _

theorem psi_split (h0 : ∀ i, L i 0 = (1, 0)) (hC : ∀ i j, tm (L i j) (L (i + j) 1) = tm (L j 1) (L i (j + 1))) (i : Nat) : ∀ j, tm (L i j) (tm (psi L i) (psi L j)) = psi L (i + j)
  | 0 => by
    rw [h0]
    show tm (1, 0) (tm (psi L i) (1, 0)) = psi L i
    rw [tm_one (in2_psi i), one_tm (in2_psi i)]
  | j + 1 => by
    show tm (L i (j + 1)) (tm (psi L i) (tm (psi L j) (L j 1))) = tm (psi L (i + j)) (L (i + j) 1)
    rw [← psi_split h0 hC i j, ← tm_assoc (psi L i), ← tm_assoc (L i (j + 1)), tm_swap (L i (j + 1)), tm_swap (L i j), hC, tm_comm (L j 1)]

/-- Miller's steps: twice, and one more. -/
theorem mill_dbl (h0 : ∀ i, L i 0 = (1, 0)) (hC : ∀ i j, tm (L i j) (L (i + j) 1) = tm (L j 1) (L i (j + 1))) {f : Int × Int} {i n : Nat} (h : tm f (pw (psi L i) n) = psi L (n * i)) :
    tm (tm (tm f f) (L (n * i) (n * i))) (pw (psi L i) (2 * n)) = psi L (2 * n * i) := by
  have e : 2 * n * i = n * i + n * i := by rw [Nat.mul_assoc]; omega
  rw [e, ← psi_split h0 hC (n * i) (n * i), ← h, show 2 * n = n + n by omega, pw_add]
  generalize L (n * i) (n * i) = g
  generalize pw (psi L i) n = q
  rw [tm_comm g, tm_assoc g]
  congr 1
  rw [← tm_assoc (tm f f) q q, ← tm_assoc (tm f q) f q, tm_swap f q f]
theorem mill_add (h0 : ∀ i, L i 0 = (1, 0)) (hC : ∀ i j, tm (L i j) (L (i + j) 1) = tm (L j 1) (L i (j + 1))) {f : Int × Int} {i n : Nat} (h : tm f (pw (psi L i) n) = psi L (n * i)) :
    tm (tm f (L (n * i) i)) (pw (psi L i) (n + 1)) = psi L ((n + 1) * i) := by
  have e : (n + 1) * i = n * i + i := Nat.succ_mul n i
  rw [e, ← psi_split h0 hC (n * i) i, ← h, pw_succ (in2_psi i)]
  generalize L (n * i) i = g
  generalize pw (psi L i) n = q
  generalize psi L i = p
  rw [tm_comm g f, tm_assoc g f, ← tm_assoc f q p]

/-- Round by round. -/
theorem psi_round {r : Nat} (hP : ∀ n, L (n + r) 1 = L n 1) : ∀ n, psi L (n + r) = tm (psi L n) (psi L r)
  | 0 => by rw [Nat.zero_add]; exact (one_tm (in2_psi r)).symm
  | n + 1 => by
    rw [show n + 1 + r = (n + r) + 1 by omega]
    show tm (psi L (n + r)) (L (n + r) 1) = tm (tm (psi L n) (L n 1)) (psi L r)
    rw [psi_round hP n, hP, tm_swap]
theorem psi_rounds {r : Nat} (hP : ∀ n, L (n + r) 1 = L n 1) : ∀ i, psi L (r * i) = pw (psi L r) i
  | 0 => rfl
  | i + 1 => by rw [Nat.mul_succ, psi_round hP, psi_rounds hP i, pw_succ (in2_psi r)]
theorem psi_order {N : Nat} (hU : ∀ n, pw (L n 1) N = (1, 0)) : ∀ n, pw (psi L n) N = (1, 0)
  | 0 => pw_ones N
  | n + 1 => by
    show pw (tm (psi L n) (L n 1)) N = _
    rw [pw_tm, psi_order hU n, hU, tm_one in2_one]

/-- **What a point has so often, its pair has so often.** -/
theorem mill_end {r k : Nat} (hP : ∀ n, L (n + r) 1 = L n 1) (hU : ∀ n, pw (L n 1) (r * k) = (1, 0)) {f : Int × Int} {i : Nat} (h : tm f (pw (psi L i) r) = psi L (r * i)) :
    pw f k = pw (pw (psi L r) k) i := by
  have e : pw (tm f (pw (psi L i) r)) k = pw (pw (psi L r) i) k := by rw [h, psi_rounds hP]
  rw [pw_tm, pw_pw, psi_order hU, tm_one (in2_pw _ _)] at e
  rw [e, pw_pw, pw_pw, Nat.mul_comm]
end

end Go.Proofs.YtldkdgbcnbgmiaaGreatDoor

/-
  Lines through points of a group without points of order two: what they make at a point hangs on no order of putting points together.
-/
namespace Go.Proofs.YtldkdgbcnbgmiaaGreatDoor

theorem ad_reflect {b u2 v2 u3 v3 g h : Int} (k : Ad b u2 v2 u3 v3 g h) : Ad (-b) u2 (-v2) g h u3 v3 :=
  ⟨k.turn.of (by grind), k.third.of (by grind), k.on.of (by grind), k.two.of (by grind)⟩
theorem ad_cyc {a u1 v1 u2 v2 e f : Int} (k : Ad a u1 v1 u2 v2 e f) : Ad a u2 v2 e (-f) u1 (-v1) :=
  ⟨((k.turn.add k.on).neg).of (by grind), k.third.of (by grind), k.on.of (by grind), (k.two.add (k.on.mul (2 * a))).of (by grind)⟩
theorem ad_to {l u1 v1 u2 v2 u3 v3 w1 w2 : Int} (k : Ad l u1 v1 u2 v2 u3 v3) (h1 : Dv (v1 - w1)) (h2 : Dv (v2 - w2)) : Ad l u1 w1 u2 w2 u3 v3 :=
  ⟨((k.on.add h1).sub h2).of (by grind), k.third, (k.turn.sub h1).of (by grind), (k.two.sub (h1.mul (2 * l))).of (by grind)⟩
theorem ad_uniq {l l' u1 v1 u2 v2 u3 v3 u4 v4 : Int} (k : Ad l u1 v1 u2 v2 u3 v3) (k' : Ad l' u1 v1 u2 v2 u4 v4) (hv : ¬ Dv v1) : Dv (l - l') := by
  by_cases hu : Dv (u2 - u1)
  · have t1 : Dv (2 * l * v1 - (3 * u1 ^ 2 + 1)) := ((k.two.sub (k.third.mul (u1 + u2))).add (hu.mul (2 * u1 + u2 - l ^ 2))).of (by grind)
    have t2 : Dv (2 * l' * v1 - (3 * u1 ^ 2 + 1)) := ((k'.two.sub (k'.third.mul (u1 + u2))).add (hu.mul (2 * u1 + u2 - l' ^ 2))).of (by grind)
    have t3 : Dv (2 * (v1 * (l - l'))) := (t1.sub t2).of (by grind)
    exact dv_prime (dv_prime t3 dv_two) hv
  · have t : Dv ((u2 - u1) * (l - l')) := (k'.on.sub k.on).of (by grind)
    exact dv_prime t hu

/-- The slope of two points' line, where it has one. -/
def pSl (P Q : Pt) : Option Int :=
  if P.1 ≠ Q.1 then some (slopeC P.1 P.2.1 Q.1 Q.2.1) else if fpAdd P.2.1 Q.2.1 = 0 then none else some (slopeT P.1 P.2.1)
/-- The line at a point, of right points. -/
def pLine (P Q R : Pt) : Int × Int :=
  if P.2.2 = true then (1, 0) else if Q.2.2 = true then (1, 0) else if R.2.2 = true then (1, 0)
  else match pSl P Q with
    | none => (1, 0)
    | some l => (fpSub (fpSub 0 P.2.1) (fpMul l (fpSub (fpSub 0 R.1) P.1)), R.2.1)

/-- A right point that is no Zero. -/
def Aff (P : Pt) : Prop := P.2.2 = false ∧ (0 ≤ P.1 ∧ P.1 < 12107) ∧ (0 ≤ P.2.1 ∧ P.2.1 < 12107) ∧ Wc P.1 P.2.1
theorem aff_ok {P : Pt} (h : Aff P) : POk P := .inr h
theorem aff_of {P : Pt} (h : POk P) (h0 : P ≠ pZ) : Aff P := h.resolve_left h0
theorem aff_ne {P : Pt} (h : Aff P) : P ≠ pZ := fun e => by have := h.1; rw [e] at this; cases this

theorem sl_cases {P Q : Pt} (hP : Aff P) (hQ : Aff Q) : (pSl P Q = none ∧ pAdd P Q = pZ) ∨ ∃ l, pSl P Q = some l ∧ Aff (pAdd P Q) ∧ Ad l P.1 P.2.1 Q.1 Q.2.1 (pAdd P Q).1 (pAdd P Q).2.1 := by
  obtain ⟨u1, v1, z1⟩ := P
  obtain ⟨u2, v2, z2⟩ := Q
  obtain ⟨p0, pa, pb, pw⟩ := hP
  obtain ⟨q0, qa, qb, qw⟩ := hQ
  simp only at p0 pa pb pw q0 qa qb qw
  subst p0 q0
  have third : ∀ l, (Dv (u1 * u2 + (u1 + u2) * (l ^ 2 - u1 - u2) - 1 + 2 * l * (v1 - l * u1)) ∧ Dv (u1 * u2 * (l ^ 2 - u1 - u2) - (v1 - l * u1) ^ 2)) → Dv (v2 - (v1 + l * (u2 - u1))) →
      Aff (pThird u1 v1 u2 l) ∧ Ad l u1 v1 u2 v2 (pThird u1 v1 u2 l).1 (pThird u1 v1 u2 l).2.1 := by
    intro l h on
    have ht := dv_third (u1 := u1) (v1 := v1) (u2 := u2) (l := l)
    have hl := third_line pw qw (on.of (by grind)) h
    refine ⟨aff_of hl.1 (fun e => by have : (pThird u1 v1 u2 l).2.2 = true := by rw [e]; rfl
                                     cases this), on, ht.1, ?_, ?_⟩
    · show Dv (thirdY u1 v1 l (thirdX u1 u2 l) + (v1 + l * (thirdX u1 u2 l - u1)))
      exact (ht.2.add (ht.1.mul l)).of (by grind)
    · show Dv (u1 * u2 + (u1 + u2) * thirdX u1 u2 l - (1 - 2 * l * (v1 - l * u1)))
      exact (h.1.add (ht.1.mul (u1 + u2))).of (by grind)
  by_cases hu : u1 = u2
  · subst hu
    by_cases hs : fpAdd v1 v2 = 0
    · left
      unfold pSl pAdd
      simp only [ne_eq, not_true_eq_false, if_false, if_pos hs, Bool.false_eq_true, and_self]
    · right
      have e : pAdd (u1, v1, false) (u1, v2, false) = pThird u1 v1 u1 (slopeT u1 v1) := by
        unfold pAdd
        rw [if_neg Bool.false_ne_true, if_neg Bool.false_ne_true, if_neg (fun h => h rfl), if_neg hs]
      have hv : ¬ Dv (v1 + v2) := fun k => hs (by
        have := dv_eq ((dv_add v1 v2).add k |>.of (by grind : fpAdd v1 v2 - 0 = _))
        rw [show fp (0 : Int) = 0 from rfl] at this
        unfold fpAdd at this ⊢
        rw [fp_fp] at this
        exact this)
      have hvv : Dv (v1 - v2) := dv_prime (a := v1 + v2) ((pw.sub qw).of (by grind)) hv
      have ev : v1 = v2 := small_eq pb.1 pb.2 qb.1 qb.2 hvv
      subst ev
      have h2 : ¬ Dv (2 * v1) := fun k => hv (k.of (by grind))
      have hl := dv_slopeT (u := u1) h2
      refine ⟨slopeT u1 v1, ?_, ?_⟩
      · unfold pSl
        simp only [ne_eq, not_true_eq_false, if_false, if_neg hs]
      · rw [e]
        exact third _ (tangent pw hl) (dv_zero.of (by grind))
  · right
    have e : pAdd (u1, v1, false) (u2, v2, false) = pThird u1 v1 u2 (slopeC u1 v1 u2 v2) := by
      unfold pAdd
      rw [if_neg Bool.false_ne_true, if_neg Bool.false_ne_true, if_pos hu]
    have hw : ¬ Dv (u2 - u1) := fun k => hu (small_eq pa.1 pa.2 qa.1 qa.2 (k.neg.of (by grind)))
    have hl := dv_slopeC (v1 := v1) (v2 := v2) hw
    refine ⟨slopeC u1 v1 u2 v2, ?_, ?_⟩
    · unfold pSl
      rw [if_pos hu]
    · rw [e]
      exact third _ (chord pw qw hw hl) (hl.neg.of (by grind))

theorem line_zero_left (Q R : Pt) : pLine pZ Q R = (1, 0) := rfl
theorem line_zero_right (P R : Pt) : pLine P pZ R = (1, 0) := by
  unfold pLine
  split
  · rfl
  · rw [if_pos (show pZ.2.2 = true from rfl)]
theorem line_none {P Q R : Pt} (h : pSl P Q = none) : pLine P Q R = (1, 0) := by
  unfold pLine
  split
  · rfl
  · split
    · rfl
    · split
      · rfl
      · rw [h]
theorem line_some {P Q R : Pt} {l : Int} (hP : Aff P) (hQ : Aff Q) (hR : Aff R) (h : pSl P Q = some l) : Dv ((pLine P Q R).1 + (P.2.1 + l * (-R.1 - P.1))) ∧ (pLine P Q R).2 = R.2.1 := by
  have e : pLine P Q R = (fpSub (fpSub 0 P.2.1) (fpMul l (fpSub (fpSub 0 R.1) P.1)), R.2.1) := by
    unfold pLine
    rw [if_neg (by rw [hP.1]; exact Bool.false_ne_true), if_neg (by rw [hQ.1]; exact Bool.false_ne_true), if_neg (by rw [hR.1]; exact Bool.false_ne_true), h]
  rw [e]
  refine ⟨?_, rfl⟩
  have h1 := dv_sub 0 P.2.1
  have h2 := dv_sub 0 R.1
  have h3 := dv_sub (fpSub 0 R.1) P.1
  have h4 := dv_mul l (fpSub (fpSub 0 R.1) P.1)
  have h5 := dv_sub (fpSub 0 P.2.1) (fpMul l (fpSub (fpSub 0 R.1) P.1))
  show Dv (fpSub (fpSub 0 P.2.1) (fpMul l (fpSub (fpSub 0 R.1) P.1)) + (P.2.1 + l * (-R.1 - P.1)))
  generalize fpSub (fpSub 0 P.2.1) (fpMul l (fpSub (fpSub 0 R.1) P.1)) = z at h5 ⊢
  generalize fpMul l (fpSub (fpSub 0 R.1) P.1) = y at h4 h5
  generalize fpSub (fpSub 0 R.1) P.1 = x at h3 h4
  generalize fpSub 0 R.1 = w at h2 h3
  generalize fpSub 0 P.2.1 = t at h1 h5
  exact ((((h5.add h1).sub h4).sub (h3.mul l)).sub (h2.mul l)).of (by grind)

/-- Two lines that are one. -/
theorem ch_same {z w : Int × Int} (h1 : Dv (z.1 - w.1)) (h2 : z.2 = w.2) : ch z = ch w :=
  ch_alike (c := 1) (d := 1) dv_one dv_one (h1.of (by grind)) (dv_zero.of (by rw [h2]; grind))
/-- Two lines the other way round of one another. -/
theorem ch_turn {z w : Int × Int} {q : Int} (hq : ¬ Dv q) (h1 : Dv (z.1 + w.1)) (hz : z.2 = q) (hw : w.2 = q) : tm (ch z) (ch w) = (1, 0) := by
  rw [← ch_gm]
  have hn : ¬ Dv (z.1 ^ 2 + q ^ 2) := fun k => hq (sumsq k).2
  rw [← ch_plain hn]
  refine ch_alike (c := 1) (d := -1) dv_one (fun k => dv_one (k.neg.of (by decide))) ?_ ?_
  · show Dv (1 * (z.1 * w.1 - z.2 * w.2) - -1 * (z.1 ^ 2 + q ^ 2))
    rw [hz, hw]
    exact (h1.mul z.1).of (by grind)
  · show Dv (1 * (z.1 * w.2 + z.2 * w.1) - -1 * 0)
    rw [hz, hw]
    exact (h1.mul q).of (by grind)

end Go.Proofs.YtldkdgbcnbgmiaaGreatDoor
