/-
  Lines through points of a group without points of order two: what they make at a point hangs on no order of putting points together.
-/
import Derived.Test.YtckhbflolccinaaGroupPure
import Derived.Test.YtckhbflolccinaaJoined22
import Derived.Test.YtckhbflolccinaaPsiPure
namespace Go.Proofs.Ytckhbflolccinaa

theorem ad_reflect {b u2 v2 u3 v3 g h : Int} (k : Ad b u2 v2 u3 v3 g h) : Ad (-b) u2 (-v2) g h u3 v3 :=
  ⟨k.turn.of (by grind), k.third.of (by grind), k.on.of (by grind), k.two.of (by grind)⟩
theorem ad_cyc {a u1 v1 u2 v2 e f : Int} (k : Ad a u1 v1 u2 v2 e f) : Ad a u2 v2 e (-f) u1 (-v1) :=
  ⟨((k.turn.add k.on).neg).of (by grind), k.third.of (by grind), k.on.of (by grind), (k.two.add (k.on.mul (2 * a))).of (by grind)⟩
theorem ad_to {l u1 v1 u2 v2 u3 v3 w1 w2 : Int} (k : Ad l u1 v1 u2 v2 u3 v3) (h1 : Dv (v1 - w1)) (h2 : Dv (v2 - w2)) : Ad l u1 w1 u2 w2 u3 v3 :=
  ⟨((k.on.add h1).sub h2).of (by grind), k.third, (k.turn.sub h1).of (by grind), (k.two.sub (h1.mul (2 * l))).of (by grind)⟩
theorem ad_uniq {l l' u1 v1 u2 v2 u3 v3 u4 v4 : Int} (k : Ad l u1 v1 u2 v2 u3 v3) (k' : Ad l' u1 v1 u2 v2 u4 v4) (hv : ¬ Dv v1) : Dv (l - l') := by
  by_cases hu : Dv (u2 - u1)
  · have t1 : Dv (2 * l * v1 - (3 * u1 ^ 2 + 1)) := ((k.two.sub (k.third.mul (u1 + u2))).add (hu.mul (2 * u1 + u2 - l ^ 2))).of (by grind)
    have t2 : Dv (2 * l' * v1 - (3 * u1 ^ 2 + 1)) := ((k'.two.sub (k'.third.mul (u1 + u2))).add (hu.mul (2 * u1 + u2 - l' ^ 2))).of (by grind)
    have t3 : Dv (2 * (v1 * (l - l'))) := (t1.sub t2).of (by grind)
    exact dv_prime (dv_prime t3 dv_two) hv
  · have t : Dv ((u2 - u1) * (l - l')) := (k'.on.sub k.on).of (by grind)
    exact dv_prime t hu

/-- The slope of two points' line, where it has one. -/
def pSl (P Q : Pt) : Option Int :=
  if P.1 ≠ Q.1 then some (slopeC P.1 P.2.1 Q.1 Q.2.1) else if fpAdd P.2.1 Q.2.1 = 0 then none else some (slopeT P.1 P.2.1)
/-- The line at a point, of right points. -/
def pLine (P Q R : Pt) : Int × Int :=
  if P.2.2 = true then (1, 0) else if Q.2.2 = true then (1, 0) else if R.2.2 = true then (1, 0)
  else match pSl P Q with
    | none => (1, 0)
    | some l => (fpSub (fpSub 0 P.2.1) (fpMul l (fpSub (fpSub 0 R.1) P.1)), R.2.1)

/-- A right point that is no Zero. -/
def Aff (P : Pt) : Prop := P.2.2 = false ∧ (0 ≤ P.1 ∧ P.1 < 12107) ∧ (0 ≤ P.2.1 ∧ P.2.1 < 12107) ∧ Wc P.1 P.2.1
theorem aff_ok {P : Pt} (h : Aff P) : POk P := .inr h
theorem aff_of {P : Pt} (h : POk P) (h0 : P ≠ pZ) : Aff P := h.resolve_left h0
theorem aff_ne {P : Pt} (h : Aff P) : P ≠ pZ := fun e => by have := h.1; rw [e] at this; cases this

theorem sl_cases {P Q : Pt} (hP : Aff P) (hQ : Aff Q) : (pSl P Q = none ∧ pAdd P Q = pZ) ∨ ∃ l, pSl P Q = some l ∧ Aff (pAdd P Q) ∧ Ad l P.1 P.2.1 Q.1 Q.2.1 (pAdd P Q).1 (pAdd P Q).2.1 := by
  obtain ⟨u1, v1, z1⟩ := P
  obtain ⟨u2, v2, z2⟩ := Q
  obtain ⟨p0, pa, pb, pw⟩ := hP
  obtain ⟨q0, qa, qb, qw⟩ := hQ
  simp only at p0 pa pb pw q0 qa qb qw
  subst p0 q0
  have third : ∀ l, (Dv (u1 * u2 + (u1 + u2) * (l ^ 2 - u1 - u2) - 1 + 2 * l * (v1 - l * u1)) ∧ Dv (u1 * u2 * (l ^ 2 - u1 - u2) - (v1 - l * u1) ^ 2)) → Dv (v2 - (v1 + l * (u2 - u1))) →
      Aff (pThird u1 v1 u2 l) ∧ Ad l u1 v1 u2 v2 (pThird u1 v1 u2 l).1 (pThird u1 v1 u2 l).2.1 := by
    intro l h on
    have ht := dv_third (u1 := u1) (v1 := v1) (u2 := u2) (l := l)
    have hl := third_line pw qw (on.of (by grind)) h
    refine ⟨aff_of hl.1 (fun e => by have : (pThird u1 v1 u2 l).2.2 = true := by rw [e]; rfl
                                     cases this), on, ht.1, ?_, ?_⟩
    · show Dv (thirdY u1 v1 l (thirdX u1 u2 l) + (v1 + l * (thirdX u1 u2 l - u1)))
      exact (ht.2.add (ht.1.mul l)).of (by grind)
    · show Dv (u1 * u2 + (u1 + u2) * thirdX u1 u2 l - (1 - 2 * l * (v1 - l * u1)))
      exact (h.1.add (ht.1.mul (u1 + u2))).of (by grind)
  by_cases hu : u1 = u2
  · subst hu
    by_cases hs : fpAdd v1 v2 = 0
    · left
      unfold pSl pAdd
      simp only [ne_eq, not_true_eq_false, if_false, if_pos hs, Bool.false_eq_true, and_self]
    · right
      have e : pAdd (u1, v1, false) (u1, v2, false) = pThird u1 v1 u1 (slopeT u1 v1) := by
        unfold pAdd
        rw [if_neg Bool.false_ne_true, if_neg Bool.false_ne_true, if_neg (fun h => h rfl), if_neg hs]
      have hv : ¬ Dv (v1 + v2) := fun k => hs (by
        have := dv_eq ((dv_add v1 v2).add k |>.of (by grind : fpAdd v1 v2 - 0 = _))
        rw [show fp (0 : Int) = 0 from rfl] at this
        unfold fpAdd at this ⊢
        rw [fp_fp] at this
        exact this)
      have hvv : Dv (v1 - v2) := dv_prime (a := v1 + v2) ((pw.sub qw).of (by grind)) hv
      have ev : v1 = v2 := small_eq pb.1 pb.2 qb.1 qb.2 hvv
      subst ev
      have h2 : ¬ Dv (2 * v1) := fun k => hv (k.of (by grind))
      have hl := dv_slopeT (u := u1) h2
      refine ⟨slopeT u1 v1, ?_, ?_⟩
      · unfold pSl
        simp only [ne_eq, not_true_eq_false, if_false, if_neg hs]
      · rw [e]
        exact third _ (tangent pw hl) (dv_zero.of (by grind))
  · right
    have e : pAdd (u1, v1, false) (u2, v2, false) = pThird u1 v1 u2 (slopeC u1 v1 u2 v2) := by
      unfold pAdd
      rw [if_neg Bool.false_ne_true, if_neg Bool.false_ne_true, if_pos hu]
    have hw : ¬ Dv (u2 - u1) := fun k => hu (small_eq pa.1 pa.2 qa.1 qa.2 (k.neg.of (by grind)))
    have hl := dv_slopeC (v1 := v1) (v2 := v2) hw
    refine ⟨slopeC u1 v1 u2 v2, ?_, ?_⟩
    · unfold pSl
      rw [if_pos hu]
    · rw [e]
      exact third _ (chord pw qw hw hl) (hl.neg.of (by grind))

theorem line_zero_left (Q R : Pt) : pLine pZ Q R = (1, 0) := rfl
theorem line_zero_right (P R : Pt) : pLine P pZ R = (1, 0) := by
  unfold pLine
  split
  · rfl
  · rw [if_pos (show pZ.2.2 = true from rfl)]
theorem line_none {P Q R : Pt} (h : pSl P Q = none) : pLine P Q R = (1, 0) := by
  unfold pLine
  split
  · rfl
  · split
    · rfl
    · split
      · rfl
      · rw [h]
theorem line_some {P Q R : Pt} {l : Int} (hP : Aff P) (hQ : Aff Q) (hR : Aff R) (h : pSl P Q = some l) : Dv ((pLine P Q R).1 + (P.2.1 + l * (-R.1 - P.1))) ∧ (pLine P Q R).2 = R.2.1 := by
  have e : pLine P Q R = (fpSub (fpSub 0 P.2.1) (fpMul l (fpSub (fpSub 0 R.1) P.1)), R.2.1) := by
    unfold pLine
    rw [if_neg (by rw [hP.1]; exact Bool.false_ne_true), if_neg (by rw [hQ.1]; exact Bool.false_ne_true), if_neg (by rw [hR.1]; exact Bool.false_ne_true), h]
  rw [e]
  refine ⟨?_, rfl⟩
  have h1 := dv_sub 0 P.2.1
  have h2 := dv_sub 0 R.1
  have h3 := dv_sub (fpSub 0 R.1) P.1
  have h4 := dv_mul l (fpSub (fpSub 0 R.1) P.1)
  have h5 := dv_sub (fpSub 0 P.2.1) (fpMul l (fpSub (fpSub 0 R.1) P.1))
  show Dv (fpSub (fpSub 0 P.2.1) (fpMul l (fpSub (fpSub 0 R.1) P.1)) + (P.2.1 + l * (-R.1 - P.1)))
  generalize fpSub (fpSub 0 P.2.1) (fpMul l (fpSub (fpSub 0 R.1) P.1)) = z at h5 ⊢
  generalize fpMul l (fpSub (fpSub 0 R.1) P.1) = y at h4 h5
  generalize fpSub (fpSub 0 R.1) P.1 = x at h3 h4
  generalize fpSub 0 R.1 = w at h2 h3
  generalize fpSub 0 P.2.1 = t at h1 h5
  exact ((((h5.add h1).sub h4).sub (h3.mul l)).sub (h2.mul l)).of (by grind)

/-- Two lines that are one. -/
theorem ch_same {z w : Int × Int} (h1 : Dv (z.1 - w.1)) (h2 : z.2 = w.2) : ch z = ch w :=
  ch_alike (c := 1) (d := 1) dv_one dv_one (h1.of (by grind)) (dv_zero.of (by rw [h2]; grind))
/-- Two lines the other way round of one another. -/
theorem ch_turn {z w : Int × Int} {q : Int} (hq : ¬ Dv q) (h1 : Dv (z.1 + w.1)) (hz : z.2 = q) (hw : w.2 = q) : tm (ch z) (ch w) = (1, 0) := by
  rw [← ch_gm]
  have hn : ¬ Dv (z.1 ^ 2 + q ^ 2) := fun k => hq (sumsq k).2
  rw [← ch_plain hn]
  refine ch_alike (c := 1) (d := -1) dv_one (fun k => dv_one (k.neg.of (by decide))) ?_ ?_
  · show Dv (1 * (z.1 * w.1 - z.2 * w.2) - -1 * (z.1 ^ 2 + q ^ 2))
    rw [hz, hw]
    exact (h1.mul z.1).of (by grind)
  · show Dv (1 * (z.1 * w.2 + z.2 * w.1) - -1 * 0)
    rw [hz, hw]
    exact (h1.mul q).of (by grind)

end Go.Proofs.Ytckhbflolccinaa
