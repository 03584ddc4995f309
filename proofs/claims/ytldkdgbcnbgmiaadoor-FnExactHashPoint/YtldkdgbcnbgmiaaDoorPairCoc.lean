/-
  Lines through points of a group without points of order two: one order and the other.
-/
import Derived.Test.YtldkdgbcnbgmiaaDoorJoined10
namespace Go.Proofs.YtldkdgbcnbgmiaaDoor

theorem padd_cancel {P Q R : Pt} (hP : POk P) (hQ : POk Q) (hR : POk R) (h : pAdd P Q = pAdd P R) : Q = R := by
  have e : ∀ {S : Pt}, POk S → pAdd (pNeg P) (pAdd P S) = S := fun {S} hS => by
    rw [← padd_assoc (pneg_ok hP) hP hS, padd_comm (pneg_ok hP) hP, padd_neg hP]; rfl
  rw [← e hQ, h, e hR]
theorem neg_of {P Q : Pt} (hP : POk P) (hQ : POk Q) (h : pAdd P Q = pZ) : Q = pNeg P := padd_cancel hP hQ (pneg_ok hP) (by rw [h, padd_neg hP])
theorem aff_neg {P : Pt} (h : Aff P) : pNeg P = (P.1, fpSub 0 P.2.1, false) := by unfold pNeg; rw [if_neg (by rw [h.1]; exact Bool.false_ne_true)]

theorem same_x {P Q : Pt} (hP : Aff P) (hQ : Aff Q) (h : Dv (P.1 - Q.1)) : P = Q ∨ pAdd P Q = pZ := by
  obtain ⟨u1, v1, z1⟩ := P
  obtain ⟨u2, v2, z2⟩ := Q
  obtain ⟨p0, pa, pb, pw⟩ := hP
  obtain ⟨q0, qa, qb, qw⟩ := hQ
  simp only at p0 pa pb pw q0 qa qb qw h
  subst p0 q0
  have e := small_eq pa.1 pa.2 qa.1 qa.2 h
  subst e
  by_cases hv : Dv (v1 + v2)
  · right
    unfold pAdd
    have hs : fpAdd v1 v2 = 0 := by rw [fpAdd_eq]; exact dv_fp.1 hv
    rw [if_neg Bool.false_ne_true, if_neg Bool.false_ne_true, if_neg (fun h => h rfl), if_pos hs]
  · left
    have hvv : Dv (v1 - v2) := dv_prime (a := v1 + v2) ((pw.sub qw).of (by grind)) hv
    rw [small_eq pb.1 pb.2 qb.1 qb.2 hvv]

theorem x_ne {S R : Pt} (hS : Aff S) (hR : Aff R) (hq : ¬ Dv R.2.1) : ¬ Dv (-R.1 - S.1) := fun k => by
  have hs := hS.2.2.2
  have hr := hR.2.2.2
  generalize S.1 = a at hs k
  generalize S.2.1 = b at hs
  generalize R.1 = c at hr k
  generalize R.2.1 = d at hr hq
  exact hq (sumsq (a := b) (b := d) (((hs.add hr).sub (k.mul (a ^ 2 - a * c + c ^ 2 + 1))).of (by grind))).2

/-- A group of right points, none of order two. -/
structure Grp (Gd : Pt → Prop) : Prop where
  ok : ∀ P, Gd P → POk P
  odd : ∀ P, Gd P → P ≠ pZ → ¬ Dv P.2.1
  add : ∀ P Q, Gd P → Gd Q → Gd (pAdd P Q)

theorem coc_pts {Gd : Pt → Prop} (G : Grp Gd) {P1 P2 P3 R : Pt} (g1 : Gd P1) (g2 : Gd P2) (g3 : Gd P3) (hR : Aff R) (hq : ¬ Dv R.2.1) :
    tm (ch (pLine P1 P2 R)) (ch (pLine (pAdd P1 P2) P3 R)) = tm (ch (pLine P2 P3 R)) (ch (pLine P1 (pAdd P2 P3) R)) := by
  have o1 := G.ok _ g1
  have o2 := G.ok _ g2
  have o3 := G.ok _ g3
  by_cases e1 : P1 = pZ
  · subst e1
    rw [zero_padd, line_zero_left, line_zero_left, tm_comm]
  by_cases e2 : P2 = pZ
  · subst e2
    rw [padd_zero o1, zero_padd, line_zero_right, line_zero_left]
  by_cases e3 : P3 = pZ
  · subst e3
    rw [padd_zero o2, line_zero_right, line_zero_right, tm_comm]
  have a1 := aff_of o1 e1
  have a2 := aff_of o2 e2
  have a3 := aff_of o3 e3
  have n1 := G.odd _ g1 e1
  have n2 := G.odd _ g2 e2
  have n3 := G.odd _ g3 e3
  have hqc : Dv (R.2.1 ^ 2 + (-R.1) ^ 3 + (-R.1)) := hR.2.2.2.of (by grind)
  rcases sl_cases a1 a2 with ⟨s12, z12⟩ | ⟨a, s12, f12, A⟩
  · -- the first two are one another's other way round
    rw [z12, line_none s12, line_zero_left]
    rcases sl_cases a2 a3 with ⟨s23, z23⟩ | ⟨b, s23, f23, B⟩
    · rw [z23, line_none s23, line_zero_right]
    · have hN : P1 = pNeg P2 := neg_of o2 o1 (by rw [padd_comm o2 o1]; exact z12)
      have tot : pAdd P1 (pAdd P2 P3) = P3 := by rw [← padd_assoc o1 o2 o3, z12]; rfl
      rcases sl_cases a1 f23 with ⟨_, z⟩ | ⟨d, sd, fd, D⟩
      · rw [tot] at z; exact absurd z e3
      · have h1 := line_some a2 a3 hR s23
        have h2 := line_some a1 f23 hR sd
        have u1 : P1.1 = P2.1 := by rw [hN, aff_neg a2]
        have v1 : Dv (P1.2.1 + P2.2.1) := by
          rw [hN, aff_neg a2]
          exact (dv_sub 0 P2.2.1).of (by simp only; grind)
        have B' := ad_to (ad_reflect B) (w1 := P1.2.1) (w2 := (pAdd P2 P3).2.1) (v1.neg.of (by grind)) (dv_zero.of (by grind))
        rw [← u1] at B'
        have hl := ad_uniq D B' n1
        rw [ch_one, tm_one in2_one]
        refine (ch_turn hq ?_ h1.2 h2.2).symm
        rw [u1] at h2
        exact (((h1.1.add h2.1).sub v1).sub (hl.mul (-R.1 - P2.1))).of (by grind)
  · rcases sl_cases a2 a3 with ⟨s23, z23⟩ | ⟨b, s23, f23, B⟩
    · -- the last two are
      rw [z23, line_none s23, line_zero_right]
      have hN : P3 = pNeg P2 := neg_of o2 o3 z23
      have tot : pAdd (pAdd P1 P2) P3 = P1 := by rw [padd_assoc o1 o2 o3, z23, padd_zero o1]
      rcases sl_cases f12 a3 with ⟨_, z⟩ | ⟨c, sc, fc, C⟩
      · rw [tot] at z; exact absurd z e1
      · have h1 := line_some a1 a2 hR s12
        have h2 := line_some f12 a3 hR sc
        have u3 : P3.1 = P2.1 := by rw [hN, aff_neg a2]
        have v3 : Dv (P3.2.1 + P2.2.1) := by
          rw [hN, aff_neg a2]
          exact (dv_sub 0 P2.2.1).of (by simp only; grind)
        have A' := (ad_to (ad_reflect A.swap) (w1 := P3.2.1) (w2 := (pAdd P1 P2).2.1) (v3.neg.of (by grind)) (dv_zero.of (by grind))).swap
        rw [← u3] at A'
        have n12 := G.odd _ (G.add _ _ g1 g2) (aff_ne f12)
        have hl := ad_uniq C A' n12
        rw [ch_one, tm_one in2_one]
        refine ch_turn hq ?_ h1.2 h2.2
        exact (((h1.1.add h2.1).sub A.turn).sub (hl.mul (-R.1 - (pAdd P1 P2).1))).of (by grind)
    · have n12 := G.odd _ (G.add _ _ g1 g2) (aff_ne f12)
      have n23 := G.odd _ (G.add _ _ g2 g3) (aff_ne f23)
      have h1 := line_some a1 a2 hR s12
      have h3 := line_some a2 a3 hR s23
      rcases sl_cases f12 a3 with ⟨sc, zc⟩ | ⟨c, sc, fc, C⟩
      · -- all three come to Zero
        have zd : pAdd P1 (pAdd P2 P3) = pZ := by rw [← padd_assoc o1 o2 o3]; exact zc
        have sd : pSl P1 (pAdd P2 P3) = none := by
          rcases sl_cases a1 f23 with ⟨sd, _⟩ | ⟨_, _, fd, _⟩
          · exact sd
          · exact absurd zd (aff_ne fd)
        rw [line_none sc, line_none sd, ch_one, tm_one (in2_ch _), tm_one (in2_ch _)]
        have hN : P3 = pNeg (pAdd P1 P2) := neg_of (aff_ok f12) o3 zc
        have u3 : P3.1 = (pAdd P1 P2).1 := by rw [hN, aff_neg f12]
        have v3 : Dv (P3.2.1 + (pAdd P1 P2).2.1) := by
          rw [hN, aff_neg f12]
          exact (dv_sub 0 (pAdd P1 P2).2.1).of (by simp only; grind)
        have A' := ad_to (ad_cyc A) (w1 := P2.2.1) (w2 := P3.2.1) (dv_zero.of (by grind)) (v3.neg.of (by grind))
        rw [← u3] at A'
        have hl := ad_uniq A' B n2
        refine ch_same ?_ (h1.2.trans h3.2.symm)
        exact (((h1.1.sub h3.1).add A.on).sub (hl.mul (-R.1 - P2.1))).of (by grind)
      · have tot : pAdd P1 (pAdd P2 P3) = pAdd (pAdd P1 P2) P3 := (padd_assoc o1 o2 o3).symm
        rcases sl_cases a1 f23 with ⟨_, zd⟩ | ⟨d, sd, fd, D⟩
        · rw [tot] at zd; exact absurd zd (aff_ne fc)
        · have h2 := line_some f12 a3 hR sc
          have h4 := line_some a1 f23 hR sd
          have hS : Same a c (pAdd P1 P2).1 (pAdd P1 P2).2.1 b d (pAdd P2 P3).1 (pAdd P2 P3).2.1 := by
            by_cases hn : Dv (P3.1 - (pAdd P1 P2).1)
            · have p3 : P3 = pAdd P1 P2 := by
                rcases same_x a3 f12 hn with h | h
                · exact h
                · rw [padd_comm o3 (aff_ok f12)] at h; exact absurd h (aff_ne fc)
              have hw : ¬ Dv ((pAdd P1 P2).1 - P2.1) := fun k => by
                rcases same_x f12 a2 k with h | h
                · exact e1 (padd_cancel o2 o1 pz_ok (by rw [padd_comm o2 o1, h, padd_zero o2]))
                · rw [← p3, padd_comm o3 o2] at h; exact aff_ne f23 h
              have hm : ¬ Dv ((pAdd P2 P3).1 - P1.1) := fun k => by
                rcases same_x f23 a1 k with h | h
                · have hz : pAdd P2 P2 = pZ := by
                    refine padd_cancel o1 (padd_ok o2 o2) pz_ok ?_
                    rw [padd_zero o1, ← padd_assoc o1 o2 o2, ← p3, padd_comm o3 o2]; exact h
                  have hN : P2 = pNeg P2 := neg_of o2 o2 hz
                  have h5 : Dv (2 * P2.2.1) := by
                    have h6 : P2.2.1 = fpSub 0 P2.2.1 := by
                      have := congrArg (fun S : Pt => S.2.1) hN
                      rw [aff_neg a2] at this
                      exact this
                    have h7 := dv_sub 0 P2.2.1
                    rw [← h6] at h7
                    exact h7.of (by grind)
                  exact n2 (dv_prime h5 dv_two)
                · rw [padd_comm (aff_ok f23) o1, tot] at h; exact aff_ne fc h
              exact same_tan a2.2.2.2 f12.2.2.2 A B C D hn hm hw n12
            · by_cases hm : Dv ((pAdd P2 P3).1 - P1.1)
              · have p1 : P1 = pAdd P2 P3 := by
                  rcases same_x f23 a1 hm with h | h
                  · exact h.symm
                  · rw [padd_comm (aff_ok f23) o1, tot] at h; exact absurd h (aff_ne fc)
                have hw : ¬ Dv ((pAdd P2 P3).1 - P2.1) := fun k => by
                  rcases same_x f23 a2 k with h | h
                  · exact e3 (padd_cancel o2 o3 pz_ok (by rw [h, padd_zero o2]))
                  · rw [← p1] at h; exact aff_ne f12 h
                exact (same_tan a2.2.2.2 f23.2.2.2 B.swap A.swap D.swap C.swap (hm.neg.of (by grind)) (fun k => hn (k.neg.of (by grind))) hw n23).swap
              · exact same_gen A B C D hn hm
          have L := same_lines hS f12.2.2.2 f23.2.2.2 hqc
          rw [← ch_gm, ← ch_gm]
          have x12 := x_ne f12 hR hq
          have x23 := x_ne f23 hR hq
          refine ch_alike x23 x12 ?_ ?_
          · show Dv ((-R.1 - (pAdd P2 P3).1) * ((pLine P1 P2 R).1 * (pLine (pAdd P1 P2) P3 R).1 - (pLine P1 P2 R).2 * (pLine (pAdd P1 P2) P3 R).2) - (-R.1 - (pAdd P1 P2).1) * ((pLine P2 P3 R).1 * (pLine P1 (pAdd P2 P3) R).1 - (pLine P2 P3 R).2 * (pLine P1 (pAdd P2 P3) R).2))
            rw [h1.2, h2.2, h3.2, h4.2]
            have k1 : Dv ((pLine P1 P2 R).1 + (a * (-R.1 - (pAdd P1 P2).1) - (pAdd P1 P2).2.1)) := (h1.1.sub A.turn).of (by grind)
            have k2 : Dv ((pLine (pAdd P1 P2) P3 R).1 + (c * (-R.1 - (pAdd P1 P2).1) + (pAdd P1 P2).2.1)) := h2.1.of (by grind)
            have k3 : Dv ((pLine P2 P3 R).1 + (b * (-R.1 - (pAdd P2 P3).1) - (pAdd P2 P3).2.1)) := (h3.1.sub B.turn).of (by grind)
            have k4 : Dv ((pLine P1 (pAdd P2 P3) R).1 + (d * (-R.1 - (pAdd P2 P3).1) + (pAdd P2 P3).2.1)) := (h4.1.add D.on).of (by grind)
            have L1 := L.1
            clear L h1 h2 h3 h4 A B C D hS hqc x12 x23
            generalize (pLine P1 P2 R).1 = z1 at k1 ⊢
            generalize (pLine (pAdd P1 P2) P3 R).1 = z2 at k2 ⊢
            generalize (pLine P2 P3 R).1 = z3 at k3 ⊢
            generalize (pLine P1 (pAdd P2 P3) R).1 = z4 at k4 ⊢
            generalize a * (-R.1 - (pAdd P1 P2).1) - (pAdd P1 P2).2.1 = l1 at k1 L1
            generalize c * (-R.1 - (pAdd P1 P2).1) + (pAdd P1 P2).2.1 = l2 at k2 L1
            generalize b * (-R.1 - (pAdd P2 P3).1) - (pAdd P2 P3).2.1 = l3 at k3 L1
            generalize d * (-R.1 - (pAdd P2 P3).1) + (pAdd P2 P3).2.1 = l4 at k4 L1
            generalize -R.1 - (pAdd P2 P3).1 = X at L1 ⊢
            generalize -R.1 - (pAdd P1 P2).1 = Y at L1 ⊢
            exact ((L1.add (((k1.mul z2).sub (k2.mul l1)).mul X)).sub (((k3.mul z4).sub (k4.mul l3)).mul Y)).of (by grind)
          · show Dv ((-R.1 - (pAdd P2 P3).1) * ((pLine P1 P2 R).1 * (pLine (pAdd P1 P2) P3 R).2 + (pLine P1 P2 R).2 * (pLine (pAdd P1 P2) P3 R).1) - (-R.1 - (pAdd P1 P2).1) * ((pLine P2 P3 R).1 * (pLine P1 (pAdd P2 P3) R).2 + (pLine P2 P3 R).2 * (pLine P1 (pAdd P2 P3) R).1))
            rw [h1.2, h2.2, h3.2, h4.2]
            have k1 : Dv ((pLine P1 P2 R).1 + (a * (-R.1 - (pAdd P1 P2).1) - (pAdd P1 P2).2.1)) := (h1.1.sub A.turn).of (by grind)
            have k2 : Dv ((pLine (pAdd P1 P2) P3 R).1 + (c * (-R.1 - (pAdd P1 P2).1) + (pAdd P1 P2).2.1)) := h2.1.of (by grind)
            have k3 : Dv ((pLine P2 P3 R).1 + (b * (-R.1 - (pAdd P2 P3).1) - (pAdd P2 P3).2.1)) := (h3.1.sub B.turn).of (by grind)
            have k4 : Dv ((pLine P1 (pAdd P2 P3) R).1 + (d * (-R.1 - (pAdd P2 P3).1) + (pAdd P2 P3).2.1)) := (h4.1.add D.on).of (by grind)
            have L2 := L.2
            clear L h1 h2 h3 h4 A B C D hS hqc x12 x23
            generalize (pLine P1 P2 R).1 = z1 at k1 ⊢
            generalize (pLine (pAdd P1 P2) P3 R).1 = z2 at k2 ⊢
            generalize (pLine P2 P3 R).1 = z3 at k3 ⊢
            generalize (pLine P1 (pAdd P2 P3) R).1 = z4 at k4 ⊢
            generalize a * (-R.1 - (pAdd P1 P2).1) - (pAdd P1 P2).2.1 = l1 at k1 L2
            generalize c * (-R.1 - (pAdd P1 P2).1) + (pAdd P1 P2).2.1 = l2 at k2 L2
            generalize b * (-R.1 - (pAdd P2 P3).1) - (pAdd P2 P3).2.1 = l3 at k3 L2
            generalize d * (-R.1 - (pAdd P2 P3).1) + (pAdd P2 P3).2.1 = l4 at k4 L2
            generalize -R.1 - (pAdd P2 P3).1 = X at L2 ⊢
            generalize -R.1 - (pAdd P1 P2).1 = Y at L2 ⊢
            exact ((((k1.add k2).mul (X * R.2.1)).sub ((k3.add k4).mul (Y * R.2.1))).sub (L2.mul R.2.1)).of (by grind)

end Go.Proofs.YtldkdgbcnbgmiaaDoor
