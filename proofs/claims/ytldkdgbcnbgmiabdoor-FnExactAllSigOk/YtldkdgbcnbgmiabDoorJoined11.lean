/-
  Texts of one's own, joined.
-/
import Derived.Test.YtldkdgbcnbgmiabDoorJoined10
import Derived.Test.YtldkdgbcnbgmiabDoorJoined7

/-
  Lines through points of a group without points of order two: one order and the other.
-/
namespace Go.Proofs.YtldkdgbcnbgmiabDoor

theorem padd_cancel {P Q R : Pt} (hP : POk P) (hQ : POk Q) (hR : POk R) (h : pAdd P Q = pAdd P R) : Q = R := by
  have e : ∀ {S : Pt}, POk S → pAdd (pNeg P) (pAdd P S) = S := fun {S} hS => by
    rw [← padd_assoc (pneg_ok hP) hP hS, padd_comm (pneg_ok hP) hP, padd_neg hP]; rfl
  rw [← e hQ, h, e hR]
theorem neg_of {P Q : Pt} (hP : POk P) (hQ : POk Q) (h : pAdd P Q = pZ) : Q = pNeg P := padd_cancel hP hQ (pneg_ok hP) (by rw [h, padd_neg hP])
theorem aff_neg {P : Pt} (h : Aff P) : pNeg P = (P.1, fpSub 0 P.2.1, false) := by unfold pNeg; rw [if_neg (by rw [h.1]; exact Bool.false_ne_true)]

theorem same_x {P Q : Pt} (hP : Aff P) (hQ : Aff Q) (h : Dv (P.1 - Q.1)) : P = Q ∨ pAdd P Q = pZ := by
  obtain ⟨u1, v1, z1⟩ := P
  obtain ⟨u2, v2, z2⟩ := Q
  obtain ⟨p0, pa, pb, pw⟩ := hP
  obtain ⟨q0, qa, qb, qw⟩ := hQ
  simp only at p0 pa pb pw q0 qa qb qw h
  subst p0 q0
  have e := small_eq pa.1 pa.2 qa.1 qa.2 h
  subst e
  by_cases hv : Dv (v1 + v2)
  · right
    unfold pAdd
    have hs : fpAdd v1 v2 = 0 := by rw [fpAdd_eq]; exact dv_fp.1 hv
    rw [if_neg Bool.false_ne_true, if_neg Bool.false_ne_true, if_neg (fun h => h rfl), if_pos hs]
  · left
    have hvv : Dv (v1 - v2) := dv_prime (a := v1 + v2) ((pw.sub qw).of (by grind)) hv
    rw [small_eq pb.1 pb.2 qb.1 qb.2 hvv]

theorem x_ne {S R : Pt} (hS : Aff S) (hR : Aff R) (hq : ¬ Dv R.2.1) : ¬ Dv (-R.1 - S.1) := fun k => by
  have hs := hS.2.2.2
  have hr := hR.2.2.2
  generalize S.1 = a at hs k
  generalize S.2.1 = b at hs
  generalize R.1 = c at hr k
  generalize R.2.1 = d at hr hq
  exact hq (sumsq (a := b) (b := d) (((hs.add hr).sub (k.mul (a ^ 2 - a * c + c ^ 2 + 1))).of (by grind))).2

/-- A group of right points, none of order two. -/
structure Grp (Gd : Pt → Prop) : Prop where
  ok : ∀ P, Gd P → POk P
  odd : ∀ P, Gd P → P ≠ pZ → ¬ Dv P.2.1
  add : ∀ P Q, Gd P → Gd Q → Gd (pAdd P Q)

theorem coc_pts {Gd : Pt → Prop} (G : Grp Gd) {P1 P2 P3 R : Pt} (g1 : Gd P1) (g2 : Gd P2) (g3 : Gd P3) (hR : Aff R) (hq : ¬ Dv R.2.1) :
    tm (ch (pLine P1 P2 R)) (ch (pLine (pAdd P1 P2) P3 R)) = tm (ch (pLine P2 P3 R)) (ch (pLine P1 (pAdd P2 P3) R)) := by
  have o1 := G.ok _ g1
  have o2 := G.ok _ g2
  have o3 := G.ok _ g3
  by_cases e1 : P1 = pZ
  · subst e1
    rw [zero_padd, line_zero_left, line_zero_left, tm_comm]
  by_cases e2 : P2 = pZ
  · subst e2
    rw [padd_zero o1, zero_padd, line_zero_right, line_zero_left]
  by_cases e3 : P3 = pZ
  · subst e3
    rw [padd_zero o2, line_zero_right, line_zero_right, tm_comm]
  have a1 := aff_of o1 e1
  have a2 := aff_of o2 e2
  have a3 := aff_of o3 e3
  have n1 := G.odd _ g1 e1
  have n2 := G.odd _ g2 e2
  have n3 := G.odd _ g3 e3
  have hqc : Dv (R.2.1 ^ 2 + (-R.1) ^ 3 + (-R.1)) := hR.2.2.2.of (by grind)
  rcases sl_cases a1 a2 with ⟨s12, z12⟩ | ⟨a, s12, f12, A⟩
  · -- the first two are one another's other way round
    rw [z12, line_none s12, line_zero_left]
    rcases sl_cases a2 a3 with ⟨s23, z23⟩ | ⟨b, s23, f23, B⟩
    · rw [z23, line_none s23, line_zero_right]
    · have hN : P1 = pNeg P2 := neg_of o2 o1 (by rw [padd_comm o2 o1]; exact z12)
      have tot : pAdd P1 (pAdd P2 P3) = P3 := by rw [← padd_assoc o1 o2 o3, z12]; rfl
      rcases sl_cases a1 f23 with ⟨_, z⟩ | ⟨d, sd, fd, D⟩
      · rw [tot] at z; exact absurd z e3
      · have h1 := line_some a2 a3 hR s23
        have h2 := line_some a1 f23 hR sd
        have u1 : P1.1 = P2.1 := by rw [hN, aff_neg a2]
        have v1 : Dv (P1.2.1 + P2.2.1) := by
          rw [hN, aff_neg a2]
          exact (dv_sub 0 P2.2.1).of (by simp only; grind)
        have B' := ad_to (ad_reflect B) (w1 := P1.2.1) (w2 := (pAdd P2 P3).2.1) (v1.neg.of (by grind)) (dv_zero.of (by grind))
        rw [← u1] at B'
        have hl := ad_uniq D B' n1
        rw [ch_one, tm_one in2_one]
        refine (ch_turn hq ?_ h1.2 h2.2).symm
        rw [u1] at h2
        exact (((h1.1.add h2.1).sub v1).sub (hl.mul (-R.1 - P2.1))).of (by grind)
  · rcases sl_cases a2 a3 with ⟨s23, z23⟩ | ⟨b, s23, f23, B⟩
    · -- the last two are
      rw [z23, line_none s23, line_zero_right]
      have hN : P3 = pNeg P2 := neg_of o2 o3 z23
      have tot : pAdd (pAdd P1 P2) P3 = P1 := by rw [padd_assoc o1 o2 o3, z23, padd_zero o1]
      rcases sl_cases f12 a3 with ⟨_, z⟩ | ⟨c, sc, fc, C⟩
      · rw [tot] at z; exact absurd z e1
      · have h1 := line_some a1 a2 hR s12
        have h2 := line_some f12 a3 hR sc
        have u3 : P3.1 = P2.1 := by rw [hN, aff_neg a2]
        have v3 : Dv (P3.2.1 + P2.2.1) := by
          rw [hN, aff_neg a2]
          exact (dv_sub 0 P2.2.1).of (by simp only; grind)
        have A' := (ad_to (ad_reflect A.swap) (w1 := P3.2.1) (w2 := (pAdd P1 P2).2.1) (v3.neg.of (by grind)) (dv_zero.of (by grind))).swap
        rw [← u3] at A'
        have n12 := G.odd _ (G.add _ _ g1 g2) (aff_ne f12)
        have hl := ad_uniq C A' n12
        rw [ch_one, tm_one in2_one]
        refine ch_turn hq ?_ h1.2 h2.2
        exact (((h1.1.add h2.1).sub A.turn).sub (hl.mul (-R.1 - (pAdd P1 P2).1))).of (by grind)
    · have n12 := G.odd _ (G.add _ _ g1 g2) (aff_ne f12)
      have n23 := G.odd _ (G.add _ _ g2 g3) (aff_ne f23)
      have h1 := line_some a1 a2 hR s12
      have h3 := line_some a2 a3 hR s23
      rcases sl_cases f12 a3 with ⟨sc, zc⟩ | ⟨c, sc, fc, C⟩
      · -- all three come to Zero
        have zd : pAdd P1 (pAdd P2 P3) = pZ := by rw [← padd_assoc o1 o2 o3]; exact zc
        have sd : pSl P1 (pAdd P2 P3) = none := by
          rcases sl_cases a1 f23 with ⟨sd, _⟩ | ⟨_, _, fd, _⟩
          · exact sd
          · exact absurd zd (aff_ne fd)
        rw [line_none sc, line_none sd, ch_one, tm_one (in2_ch _), tm_one (in2_ch _)]
        have hN : P3 = pNeg (pAdd P1 P2) := neg_of (aff_ok f12) o3 zc
        have u3 : P3.1 = (pAdd P1 P2).1 := by rw [hN, aff_neg f12]
        have v3 : Dv (P3.2.1 + (pAdd P1 P2).2.1) := by
          rw [hN, aff_neg f12]
          exact (dv_sub 0 (pAdd P1 P2).2.1).of (by simp only; grind)
        have A' := ad_to (ad_cyc A) (w1 := P2.2.1) (w2 := P3.2.1) (dv_zero.of (by grind)) (v3.neg.of (by grind))
        rw [← u3] at A'
        have hl := ad_uniq A' B n2
        refine ch_same ?_ (h1.2.trans h3.2.symm)
        exact (((h1.1.sub h3.1).add A.on).sub (hl.mul (-R.1 - P2.1))).of (by grind)
      · have tot : pAdd P1 (pAdd P2 P3) = pAdd (pAdd P1 P2) P3 := (padd_assoc o1 o2 o3).symm
        rcases sl_cases a1 f23 with ⟨_, zd⟩ | ⟨d, sd, fd, D⟩
        · rw [tot] at zd; exact absurd zd (aff_ne fc)
        · have h2 := line_some f12 a3 hR sc
          have h4 := line_some a1 f23 hR sd
          have hS : Same a c (pAdd P1 P2).1 (pAdd P1 P2).2.1 b d (pAdd P2 P3).1 (pAdd P2 P3).2.1 := by
            by_cases hn : Dv (P3.1 - (pAdd P1 P2).1)
            · have p3 : P3 = pAdd P1 P2 := by
                rcases same_x a3 f12 hn with h | h
                · exact h
                · rw [padd_comm o3 (aff_ok f12)] at h; exact absurd h (aff_ne fc)
              have hw : ¬ Dv ((pAdd P1 P2).1 - P2.1) := fun k => by
                rcases same_x f12 a2 k with h | h
                · exact e1 (padd_cancel o2 o1 pz_ok (by rw [padd_comm o2 o1, h, padd_zero o2]))
                · rw [← p3, padd_comm o3 o2] at h; exact aff_ne f23 h
              have hm : ¬ Dv ((pAdd P2 P3).1 - P1.1) := fun k => by
                rcases same_x f23 a1 k with h | h
                · have hz : pAdd P2 P2 = pZ := by
                    refine padd_cancel o1 (padd_ok o2 o2) pz_ok ?_
                    rw [padd_zero o1, ← padd_assoc o1 o2 o2, ← p3, padd_comm o3 o2]; exact h
                  have hN : P2 = pNeg P2 := neg_of o2 o2 hz
                  have h5 : Dv (2 * P2.2.1) := by
                    have h6 : P2.2.1 = fpSub 0 P2.2.1 := by
                      have := congrArg (fun S : Pt => S.2.1) hN
                      rw [aff_neg a2] at this
                      exact this
                    have h7 := dv_sub 0 P2.2.1
                    rw [← h6] at h7
                    exact h7.of (by grind)
                  exact n2 (dv_prime h5 dv_two)
                · rw [padd_comm (aff_ok f23) o1, tot] at h; exact aff_ne fc h
              exact same_tan a2.2.2.2 f12.2.2.2 A B C D hn hm hw n12
            · by_cases hm : Dv ((pAdd P2 P3).1 - P1.1)
              · have p1 : P1 = pAdd P2 P3 := by
                  rcases same_x f23 a1 hm with h | h
                  · exact h.symm
                  · rw [padd_comm (aff_ok f23) o1, tot] at h; exact absurd h (aff_ne fc)
                have hw : ¬ Dv ((pAdd P2 P3).1 - P2.1) := fun k => by
                  rcases same_x f23 a2 k with h | h
                  · exact e3 (padd_cancel o2 o3 pz_ok (by rw [h, padd_zero o2]))
                  · rw [← p1] at h; exact aff_ne f12 h
                exact (same_tan a2.2.2.2 f23.2.2.2 B.swap A.swap D.swap C.swap (hm.neg.of (by grind)) (fun k => hn (k.neg.of (by grind))) hw n23).swap
              · exact same_gen A B C D hn hm
          have L := same_lines hS f12.2.2.2 f23.2.2.2 hqc
          rw [← ch_gm, ← ch_gm]
          have x12 := x_ne f12 hR hq
          have x23 := x_ne f23 hR hq
          refine ch_alike x23 x12 ?_ ?_
          · show Dv ((-R.1 - (pAdd P2 P3).1) * ((pLine P1 P2 R).1 * (pLine (pAdd P1 P2) P3 R).1 - (pLine P1 P2 R).2 * (pLine (pAdd P1 P2) P3 R).2) - (-R.1 - (pAdd P1 P2).1) * ((pLine P2 P3 R).1 * (pLine P1 (pAdd P2 P3) R).1 - (pLine P2 P3 R).2 * (pLine P1 (pAdd P2 P3) R).2))
            rw [h1.2, h2.2, h3.2, h4.2]
            have k1 : Dv ((pLine P1 P2 R).1 + (a * (-R.1 - (pAdd P1 P2).1) - (pAdd P1 P2).2.1)) := (h1.1.sub A.turn).of (by grind)
            have k2 : Dv ((pLine (pAdd P1 P2) P3 R).1 + (c * (-R.1 - (pAdd P1 P2).1) + (pAdd P1 P2).2.1)) := h2.1.of (by grind)
            have k3 : Dv ((pLine P2 P3 R).1 + (b * (-R.1 - (pAdd P2 P3).1) - (pAdd P2 P3).2.1)) := (h3.1.sub B.turn).of (by grind)
            have k4 : Dv ((pLine P1 (pAdd P2 P3) R).1 + (d * (-R.1 - (pAdd P2 P3).1) + (pAdd P2 P3).2.1)) := (h4.1.add D.on).of (by grind)
            have L1 := L.1
            clear L h1 h2 h3 h4 A B C D hS hqc x12 x23
            generalize (pLine P1 P2 R).1 = z1 at k1 ⊢
            generalize (pLine (pAdd P1 P2) P3 R).1 = z2 at k2 ⊢
            generalize (pLine P2 P3 R).1 = z3 at k3 ⊢
            generalize (pLine P1 (pAdd P2 P3) R).1 = z4 at k4 ⊢
            generalize a * (-R.1 - (pAdd P1 P2).1) - (pAdd P1 P2).2.1 = l1 at k1 L1
            generalize c * (-R.1 - (pAdd P1 P2).1) + (pAdd P1 P2).2.1 = l2 at k2 L1
            generalize b * (-R.1 - (pAdd P2 P3).1) - (pAdd P2 P3).2.1 = l3 at k3 L1
            generalize d * (-R.1 - (pAdd P2 P3).1) + (pAdd P2 P3).2.1 = l4 at k4 L1
            generalize -R.1 - (pAdd P2 P3).1 = X at L1 ⊢
            generalize -R.1 - (pAdd P1 P2).1 = Y at L1 ⊢
            exact ((L1.add (((k1.mul z2).sub (k2.mul l1)).mul X)).sub (((k3.mul z4).sub (k4.mul l3)).mul Y)).of (by grind)
          · show Dv ((-R.1 - (pAdd P2 P3).1) * ((pLine P1 P2 R).1 * (pLine (pAdd P1 P2) P3 R).2 + (pLine P1 P2 R).2 * (pLine (pAdd P1 P2) P3 R).1) - (-R.1 - (pAdd P1 P2).1) * ((pLine P2 P3 R).1 * (pLine P1 (pAdd P2 P3) R).2 + (pLine P2 P3 R).2 * (pLine P1 (pAdd P2 P3) R).1))
            rw [h1.2, h2.2, h3.2, h4.2]
            have k1 : Dv ((pLine P1 P2 R).1 + (a * (-R.1 - (pAdd P1 P2).1) - (pAdd P1 P2).2.1)) := (h1.1.sub A.turn).of (by grind)
            have k2 : Dv ((pLine (pAdd P1 P2) P3 R).1 + (c * (-R.1 - (pAdd P1 P2).1) + (pAdd P1 P2).2.1)) := h2.1.of (by grind)
            have k3 : Dv ((pLine P2 P3 R).1 + (b * (-R.1 - (pAdd P2 P3).1) - (pAdd P2 P3).2.1)) := (h3.1.sub B.turn).of (by grind)
            have k4 : Dv ((pLine P1 (pAdd P2 P3) R).1 + (d * (-R.1 - (pAdd P2 P3).1) + (pAdd P2 P3).2.1)) := (h4.1.add D.on).of (by grind)
            have L2 := L.2
            clear L h1 h2 h3 h4 A B C D hS hqc x12 x23
            generalize (pLine P1 P2 R).1 = z1 at k1 ⊢
            generalize (pLine (pAdd P1 P2) P3 R).1 = z2 at k2 ⊢
            generalize (pLine P2 P3 R).1 = z3 at k3 ⊢
            generalize (pLine P1 (pAdd P2 P3) R).1 = z4 at k4 ⊢
            generalize a * (-R.1 - (pAdd P1 P2).1) - (pAdd P1 P2).2.1 = l1 at k1 L2
            generalize c * (-R.1 - (pAdd P1 P2).1) + (pAdd P1 P2).2.1 = l2 at k2 L2
            generalize b * (-R.1 - (pAdd P2 P3).1) - (pAdd P2 P3).2.1 = l3 at k3 L2
            generalize d * (-R.1 - (pAdd P2 P3).1) + (pAdd P2 P3).2.1 = l4 at k4 L2
            generalize -R.1 - (pAdd P2 P3).1 = X at L2 ⊢
            generalize -R.1 - (pAdd P1 P2).1 = Y at L2 ⊢
            exact ((((k1.add k2).mul (X * R.2.1)).sub ((k3.add k4).mul (Y * R.2.1))).sub (L2.mul R.2.1)).of (by grind)

end Go.Proofs.YtldkdgbcnbgmiabDoor

/-
  A point put together so often; the base point and its order.
-/
namespace Go.Proofs.YtldkdgbcnbgmiabDoor

/-- A point put together so often. -/
def pMul (P : Pt) : Nat → Pt
  | 0 => pZ
  | n + 1 => pAdd (pMul P n) P
theorem pmul_ok {P : Pt} (h : POk P) : ∀ n, POk (pMul P n)
  | 0 => pz_ok
  | n + 1 => padd_ok (pmul_ok h n) h
theorem pmul_add {P : Pt} (h : POk P) (m : Nat) : ∀ n, pMul P (m + n) = pAdd (pMul P m) (pMul P n)
  | 0 => (padd_zero (pmul_ok h m)).symm
  | n + 1 => by
    show pAdd (pMul P (m + n)) P = pAdd (pMul P m) (pAdd (pMul P n) P)
    rw [pmul_add h m n, padd_assoc (pmul_ok h m) (pmul_ok h n) h]
theorem pmul_one {P : Pt} : pMul P 1 = P := zero_padd P
theorem pmul_mul {P : Pt} (h : POk P) (m : Nat) : ∀ n, pMul (pMul P m) n = pMul P (m * n)
  | 0 => rfl
  | n + 1 => by
    show pAdd (pMul (pMul P m) n) (pMul P m) = _
    rw [pmul_mul h m n, Nat.mul_succ, pmul_add h]
theorem pmul_zero : ∀ n, pMul pZ n = pZ
  | 0 => rfl
  | n + 1 => by show pAdd (pMul pZ n) pZ = pZ; rw [pmul_zero n]; rfl

/-- The base point. -/
def pB : Pt := (8445, 859, false)
theorem pb_ok : POk pB := .inr ⟨rfl, ⟨by decide, by decide⟩, ⟨by decide, by decide⟩, ⟨-49746427, by decide⟩⟩

theorem b2 : pMul pB 2 = (8558, 1817, false) := by rw [pmul_add pb_ok 1 1, pmul_one]; decide +kernel
theorem b3 : pMul pB 3 = (7244, 3323, false) := by rw [pmul_add pb_ok 2 1, b2, pmul_one]; decide +kernel
theorem b6 : pMul pB 6 = (3997, 5536, false) := by rw [pmul_add pb_ok 3 3, b3]; decide +kernel
theorem b7 : pMul pB 7 = (974, 5050, false) := by rw [pmul_add pb_ok 6 1, b6, pmul_one]; decide +kernel
theorem b14 : pMul pB 14 = (3742, 3957, false) := by rw [pmul_add pb_ok 7 7, b7]; decide +kernel
theorem b15 : pMul pB 15 = (3129, 10372, false) := by rw [pmul_add pb_ok 14 1, b14, pmul_one]; decide +kernel
theorem b30 : pMul pB 30 = (9868, 2141, false) := by rw [pmul_add pb_ok 15 15, b15]; decide +kernel
theorem b31 : pMul pB 31 = (2988, 10600, false) := by rw [pmul_add pb_ok 30 1, b30, pmul_one]; decide +kernel
theorem b62 : pMul pB 62 = (8125, 8913, false) := by rw [pmul_add pb_ok 31 31, b31]; decide +kernel
theorem b63 : pMul pB 63 = (1114, 93, false) := by rw [pmul_add pb_ok 62 1, b62, pmul_one]; decide +kernel
theorem b126 : pMul pB 126 = (5746, 2830, false) := by rw [pmul_add pb_ok 63 63, b63]; decide +kernel
theorem b252 : pMul pB 252 = (9765, 9041, false) := by rw [pmul_add pb_ok 126 126, b126]; decide +kernel
theorem b504 : pMul pB 504 = (11327, 2132, false) := by rw [pmul_add pb_ok 252 252, b252]; decide +kernel
theorem b1008 : pMul pB 1008 = (8445, 11248, false) := by rw [pmul_add pb_ok 504 504, b504]; decide +kernel
theorem b1009 : pMul pB 1009 = pZ := by rw [pmul_add pb_ok 1008 1, b1008, pmul_one]; decide +kernel

end Go.Proofs.YtldkdgbcnbgmiabDoor

/-
  The group of the base point, Miller's number, and: what the first point has so often, the pair has so often.
-/
namespace Go.Proofs.YtldkdgbcnbgmiabDoor

theorem pb_aff : Aff pB := ⟨rfl, ⟨by decide, by decide⟩, ⟨by decide, by decide⟩, ⟨-49746427, by decide⟩⟩

/-- A point of the base's group. -/
def InG (P : Pt) : Prop := ∃ k, P = pMul pB k
theorem ing_order {P : Pt} (h : InG P) : pMul P 1009 = pZ := by
  obtain ⟨k, rfl⟩ := h
  rw [pmul_mul pb_ok, Nat.mul_comm, ← pmul_mul pb_ok, b1009, pmul_zero]
theorem grp : Grp InG := by
  refine ⟨fun P ⟨k, hk⟩ => hk ▸ pmul_ok pb_ok k, fun P hP h0 hv => ?_, fun P Q ⟨k, hk⟩ ⟨j, hj⟩ => ⟨k + j, by rw [hk, hj, pmul_add pb_ok]⟩⟩
  have ok : POk P := by obtain ⟨k, hk⟩ := hP; exact hk ▸ pmul_ok pb_ok k
  have af := aff_of ok h0
  have h2 : pAdd P P = pZ := by
    unfold pAdd
    have hs : fpAdd P.2.1 P.2.1 = 0 := by rw [fpAdd_eq]; exact dv_fp.1 (hv.add hv)
    rw [if_neg (by rw [af.1]; exact Bool.false_ne_true), if_neg (by rw [af.1]; exact Bool.false_ne_true), if_neg (fun h => h rfl), if_pos hs]
  have h2' : pMul P 2 = pZ := by rw [pmul_add ok 1 1, pmul_one]; exact h2
  have h3 := ing_order hP
  rw [show 1009 = 2 * 504 + 1 from rfl, pmul_add ok, ← pmul_mul ok, h2', pmul_zero, pmul_one] at h3
  exact h0 h3

/-- Not 0 modulo the field's size in both parts. -/
def Nz (z : Int × Int) : Prop := ¬ (Dv z.1 ∧ Dv z.2)
theorem nz_ne {z : Int × Int} (h : Nz z) : z ≠ (0, 0) := fun e => h (by rw [e]; exact ⟨dv_zero, dv_zero⟩)
theorem nz_tm {z w : Int × Int} (hz : Nz z) (hw : Nz w) : Nz (tm z w) := by
  intro ⟨h1, h2⟩
  have e1 : Dv (z.1 * w.1 - z.2 * w.2) := (h1.sub (dv_fp_sub (z.1 * w.1 - z.2 * w.2))).of (by show _ = fp (z.1 * w.1 - z.2 * w.2) - _; grind)
  have e2 : Dv (z.1 * w.2 + z.2 * w.1) := (h2.sub (dv_fp_sub (z.1 * w.2 + z.2 * w.1))).of (by show _ = fp (z.1 * w.2 + z.2 * w.1) - _; grind)
  have e : Dv ((z.1 ^ 2 + z.2 ^ 2) * (w.1 ^ 2 + w.2 ^ 2)) := ((e1.mul (z.1 * w.1 - z.2 * w.2)).add (e2.mul (z.1 * w.2 + z.2 * w.1))).of (by grind)
  by_cases k : Dv (z.1 ^ 2 + z.2 ^ 2)
  · exact hz (sumsq k)
  · exact hw (sumsq (dv_prime e k))
theorem nz_one : Nz (1, 0) := fun h => dv_one h.1
theorem nz_line {P Q R : Pt} (hq : ¬ Dv R.2.1) : Nz (pLine P Q R) := by
  unfold pLine
  split
  · exact nz_one
  · split
    · exact nz_one
    · split
      · exact nz_one
      · split
        · exact nz_one
        · exact fun h => hq h.2
theorem in2_line {P Q R : Pt} (hR : Aff R) : In2 (pLine P Q R) := by
  unfold pLine
  split
  · exact in2_one
  · split
    · exact in2_one
    · split
      · exact in2_one
      · split
        · exact in2_one
        · exact ⟨⟨fp_nonneg _, fp_lt _⟩, hR.2.2.1⟩

/-- A step of Miller's. -/
def mStep (P R : Pt) (b : Bool) (s : (Int × Int) × Pt) : (Int × Int) × Pt :=
  if b then (tm (tm (tm s.1 s.1) (pLine s.2 s.2 R)) (pLine (pAdd s.2 s.2) P R), pAdd (pAdd s.2 s.2) P)
  else (tm (tm s.1 s.1) (pLine s.2 s.2 R), pAdd s.2 s.2)
def mBits : List Bool := [true, true, true, true, true, false, false, false, true]
def mRun (P R : Pt) : List Bool → (Int × Int) × Pt → (Int × Int) × Pt
  | [], s => s
  | b :: r, s => mRun P R r (mStep P R b s)
/-- Miller's number. -/
def mill (P R : Pt) : Int × Int := (mRun P R mBits ((1, 0), P)).1

/-- The lines' numbers along the group. -/
def lN (R : Pt) (i j : Nat) : Int × Int := ch (pLine (pMul pB i) (pMul pB j) R)

section
variable {R : Pt}
theorem ln_zero (i : Nat) : lN R i 0 = (1, 0) := by
  unfold lN
  rw [show pMul pB 0 = pZ from rfl, line_zero_right, ch_one]
theorem ln_coc (hR : Aff R) (hq : ¬ Dv R.2.1) (i j : Nat) : tm (lN R i j) (lN R (i + j) 1) = tm (lN R j 1) (lN R i (j + 1)) := by
  unfold lN
  rw [pmul_add pb_ok i j, pmul_add pb_ok j 1]
  exact coc_pts grp ⟨i, rfl⟩ ⟨j, rfl⟩ ⟨1, rfl⟩ hR hq
theorem ln_round (n : Nat) : lN R (n + 1009) 1 = lN R n 1 := by
  unfold lN
  rw [pmul_add pb_ok n 1009, b1009, padd_zero (pmul_ok pb_ok n)]
theorem ln_order (hR : Aff R) (hq : ¬ Dv R.2.1) (n : Nat) : pw (lN R n 1) (1009 * 12) = (1, 0) := by
  unfold lN
  exact ch_order (in2_line hR) (nz_ne (nz_line hq))

/-- What holds along Miller's steps. -/
def MI (R : Pt) (i n : Nat) (s : (Int × Int) × Pt) : Prop := s.2 = pMul pB (n * i) ∧ tm (ch s.1) (pw (psi (lN R) i) n) = psi (lN R) (n * i) ∧ In2 s.1 ∧ Nz s.1

theorem mi_start (i : Nat) : MI R i 1 ((1, 0), pMul pB i) := by
  refine ⟨by rw [Nat.one_mul], ?_, in2_one, nz_one⟩
  show tm (ch (1, 0)) (pw (psi (lN R) i) 1) = psi (lN R) (1 * i)
  rw [ch_one, pw_one (in2_psi i), Nat.one_mul, one_tm (in2_psi i)]

theorem mi_step (hR : Aff R) (hq : ¬ Dv R.2.1) {i n : Nat} {s : (Int × Int) × Pt} (b : Bool) (h : MI R i n s) : MI R i (2 * n + if b then 1 else 0) (mStep (pMul pB i) R b s) := by
  obtain ⟨h1, h2, h3, h4⟩ := h
  have d := mill_dbl ln_zero (ln_coc hR hq) h2
  have nz2 : Nz (tm (tm s.1 s.1) (pLine s.2 s.2 R)) := nz_tm (nz_tm h4 h4) (nz_line hq)
  have e2 : pAdd s.2 s.2 = pMul pB (2 * n * i) := by
    rw [h1, ← pmul_add pb_ok]
    congr 1
    rw [Nat.mul_assoc]; omega
  have c2 : ch (tm (tm s.1 s.1) (pLine s.2 s.2 R)) = tm (tm (ch s.1) (ch s.1)) (lN R (n * i) (n * i)) := by
    rw [ch_tm, ch_tm]
    unfold lN
    rw [h1]
  rw [← c2] at d
  cases b
  · refine ⟨?_, ?_, in2_tm _ _, nz2⟩
    · show pAdd s.2 s.2 = pMul pB (2 * n * i)
      exact e2
    · exact d
  · have k := mill_add ln_zero (ln_coc hR hq) d
    refine ⟨?_, ?_, in2_tm _ _, nz_tm nz2 (nz_line hq)⟩
    · show pAdd (pAdd s.2 s.2) (pMul pB i) = pMul pB ((2 * n + 1) * i)
      rw [e2, ← pmul_add pb_ok, Nat.succ_mul (2 * n) i]
    · show tm (ch (tm (tm (tm s.1 s.1) (pLine s.2 s.2 R)) (pLine (pAdd s.2 s.2) (pMul pB i) R))) (pw (psi (lN R) i) (2 * n + 1)) = psi (lN R) ((2 * n + 1) * i)
      rw [ch_tm (tm (tm s.1 s.1) (pLine s.2 s.2 R)), e2]
      exact k

theorem mi_end (hR : Aff R) (hq : ¬ Dv R.2.1) (i : Nat) : MI R i 1009 (mRun (pMul pB i) R mBits ((1, 0), pMul pB i)) :=
  mi_step hR hq true (mi_step hR hq false (mi_step hR hq false (mi_step hR hq false (mi_step hR hq true (mi_step hR hq true (mi_step hR hq true (mi_step hR hq true (mi_step hR hq true (mi_start i)))))))))

/-- What the specification makes of Miller's number. -/
def mEnd (z : Int × Int) : Int × Int := pw (tm (tt z) (ti z)) 12

theorem mend_eq (hR : Aff R) (hq : ¬ Dv R.2.1) (i : Nat) : mEnd (mill (pMul pB i) R) = pw (pw (psi (lN R) 1009) 12) i := by
  obtain ⟨_, h2, h3, h4⟩ := mi_end hR hq i
  unfold mEnd mill
  rw [ch_end h3 (nz_ne h4)]
  exact mill_end ln_round (ln_order hR hq) h2

/-- **What the first point has so often, the pair has so often.** -/
theorem pair_left (hR : Aff R) (hq : ¬ Dv R.2.1) (i : Nat) : mEnd (mill (pMul pB i) R) = pw (mEnd (mill pB R)) i := by
  have h1 := mend_eq hR hq 1
  rw [pmul_one, pw_one (in2_pw _ _)] at h1
  rw [mend_eq hR hq i, h1]
end

end Go.Proofs.YtldkdgbcnbgmiabDoor

/-
  The pairs of the base point with every point of its group: how they are looked over.
-/
namespace Go.Proofs.YtldkdgbcnbgmiabDoor

/-- The pair of the base point with itself. -/
def gB : Int × Int := (372, 3632)
def chkRow (P : Pt) (g : Int × Int) (x y a b : Int) : Bool :=
  decide (pAdd P pB = (x, y, false)) && decide (tm g gB = (a, b)) && decide (mEnd (mill pB (x, y, false)) = (a, b))
def chkAll : List (Int × Int × Int × Int) → Pt → Int × Int → Bool
  | [], _, _ => true
  | (x, y, a, b) :: r, P, g => chkRow P g x y a b && chkAll r (x, y, false) (a, b)

theorem in2_gb : In2 gB := ⟨⟨by decide, by decide⟩, by decide, by decide⟩

/-- What is looked over holds of each. -/
theorem chk_all : ∀ (l : List (Int × Int × Int × Int)) (n : Nat), chkAll l (pMul pB n) (pw gB n) = true → ∀ k, k < l.length →
    (∃ x y, pMul pB (n + k + 1) = (x, y, false)) ∧ mEnd (mill pB (pMul pB (n + k + 1))) = pw gB (n + k + 1)
  | [], _, _, k, hk => absurd hk (Nat.not_lt_zero k)
  | (x, y, a, b) :: r, n, h, k, hk => by
    simp only [chkAll, chkRow, Bool.and_eq_true, decide_eq_true_eq] at h
    obtain ⟨⟨⟨h1, h2⟩, h3⟩, h4⟩ := h
    have e1 : pMul pB (n + 1) = (x, y, false) := h1
    have e2 : pw gB (n + 1) = (a, b) := by rw [pw_succ in2_gb]; exact h2
    rw [← e1, ← e2] at h4
    cases k with
    | zero => exact ⟨⟨x, y, e1⟩, by rw [Nat.add_zero, e1, e2]; exact h3⟩
    | succ k =>
      have := chk_all r (n + 1) h4 k (by simpa using hk)
      rw [show n + (k + 1) + 1 = n + 1 + k + 1 by omega]
      exact this

/-- The last of them. -/
theorem chk_last : ∀ (l : List (Int × Int × Int × Int)) (n : Nat) (P : Pt) (g : Int × Int), chkAll l (pMul pB n) (pw gB n) = true → (l.getLast?).map (fun t => ((t.1, t.2.1, false), (t.2.2.1, t.2.2.2))) = some (P, g) → pMul pB (n + l.length) = P ∧ pw gB (n + l.length) = g
  | [], _, _, _, _, hk => by simp at hk
  | [(x, y, a, b)], n, P, g, h, hk => by
    simp only [chkAll, chkRow, Bool.and_eq_true, decide_eq_true_eq] at h
    obtain ⟨⟨⟨h1, h2⟩, h3⟩, h4⟩ := h
    simp at hk
    obtain ⟨rfl, rfl⟩ := hk
    exact ⟨h1, by show pw gB (n + 1) = _; rw [pw_succ in2_gb]; exact h2⟩
  | (x, y, a, b) :: t :: r, n, P, g, h, hk => by
    simp only [chkAll, chkRow, Bool.and_eq_true, decide_eq_true_eq] at h
    obtain ⟨⟨⟨h1, h2⟩, h3⟩, h4⟩ := h
    have e1 : pMul pB (n + 1) = (x, y, false) := h1
    have e2 : pw gB (n + 1) = (a, b) := by rw [pw_succ in2_gb]; exact h2
    have h5 : chkAll (t :: r) (pMul pB (n + 1)) (pw gB (n + 1)) = true := by
      rw [e1, e2]
      obtain ⟨t1, t2, t3, t4⟩ := t
      simp only [chkAll, chkRow, Bool.and_eq_true, decide_eq_true_eq]
      exact h4
    have := chk_last (t :: r) (n + 1) P g h5 (by simpa using hk)
    rw [show n + ((x, y, a, b) :: t :: r).length = n + 1 + (t :: r).length by simp; omega]
    exact this

end Go.Proofs.YtldkdgbcnbgmiabDoor
