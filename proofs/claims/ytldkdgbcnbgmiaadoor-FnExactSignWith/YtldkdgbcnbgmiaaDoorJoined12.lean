/-
  Texts of one's own, joined.
-/
import Derived.Test.YtldkdgbcnbgmiaaDoorJoined7
import Derived.Test.YtldkdgbcnbgmiaaDoorPairCoc

/-
  A point put together so often; the base point and its order.
-/
namespace Go.Proofs.YtldkdgbcnbgmiaaDoor

/-- A point put together so often. -/
def pMul (P : Pt) : Nat → Pt
  | 0 => pZ
  | n + 1 => pAdd (pMul P n) P
theorem pmul_ok {P : Pt} (h : POk P) : ∀ n, POk (pMul P n)
  | 0 => pz_ok
  | n + 1 => padd_ok (pmul_ok h n) h
theorem pmul_add {P : Pt} (h : POk P) (m : Nat) : ∀ n, pMul P (m + n) = pAdd (pMul P m) (pMul P n)
  | 0 => (padd_zero (pmul_ok h m)).symm
  | n + 1 => by
    show pAdd (pMul P (m + n)) P = pAdd (pMul P m) (pAdd (pMul P n) P)
    rw [pmul_add h m n, padd_assoc (pmul_ok h m) (pmul_ok h n) h]
theorem pmul_one {P : Pt} : pMul P 1 = P := zero_padd P
theorem pmul_mul {P : Pt} (h : POk P) (m : Nat) : ∀ n, pMul (pMul P m) n = pMul P (m * n)
  | 0 => rfl
  | n + 1 => by
    show pAdd (pMul (pMul P m) n) (pMul P m) = _
    rw [pmul_mul h m n, Nat.mul_succ, pmul_add h]
theorem pmul_zero : ∀ n, pMul pZ n = pZ
  | 0 => rfl
  | n + 1 => by show pAdd (pMul pZ n) pZ = pZ; rw [pmul_zero n]; rfl

/-- The base point. -/
def pB : Pt := (8445, 859, false)
theorem pb_ok : POk pB := .inr ⟨rfl, ⟨by decide, by decide⟩, ⟨by decide, by decide⟩, ⟨-49746427, by decide⟩⟩

theorem b2 : pMul pB 2 = (8558, 1817, false) := by rw [pmul_add pb_ok 1 1, pmul_one]; decide +kernel
theorem b3 : pMul pB 3 = (7244, 3323, false) := by rw [pmul_add pb_ok 2 1, b2, pmul_one]; decide +kernel
theorem b6 : pMul pB 6 = (3997, 5536, false) := by rw [pmul_add pb_ok 3 3, b3]; decide +kernel
theorem b7 : pMul pB 7 = (974, 5050, false) := by rw [pmul_add pb_ok 6 1, b6, pmul_one]; decide +kernel
theorem b14 : pMul pB 14 = (3742, 3957, false) := by rw [pmul_add pb_ok 7 7, b7]; decide +kernel
theorem b15 : pMul pB 15 = (3129, 10372, false) := by rw [pmul_add pb_ok 14 1, b14, pmul_one]; decide +kernel
theorem b30 : pMul pB 30 = (9868, 2141, false) := by rw [pmul_add pb_ok 15 15, b15]; decide +kernel
theorem b31 : pMul pB 31 = (2988, 10600, false) := by rw [pmul_add pb_ok 30 1, b30, pmul_one]; decide +kernel
theorem b62 : pMul pB 62 = (8125, 8913, false) := by rw [pmul_add pb_ok 31 31, b31]; decide +kernel
theorem b63 : pMul pB 63 = (1114, 93, false) := by rw [pmul_add pb_ok 62 1, b62, pmul_one]; decide +kernel
theorem b126 : pMul pB 126 = (5746, 2830, false) := by rw [pmul_add pb_ok 63 63, b63]; decide +kernel
theorem b252 : pMul pB 252 = (9765, 9041, false) := by rw [pmul_add pb_ok 126 126, b126]; decide +kernel
theorem b504 : pMul pB 504 = (11327, 2132, false) := by rw [pmul_add pb_ok 252 252, b252]; decide +kernel
theorem b1008 : pMul pB 1008 = (8445, 11248, false) := by rw [pmul_add pb_ok 504 504, b504]; decide +kernel
theorem b1009 : pMul pB 1009 = pZ := by rw [pmul_add pb_ok 1008 1, b1008, pmul_one]; decide +kernel

end Go.Proofs.YtldkdgbcnbgmiaaDoor

/-
  The group of the base point, Miller's number, and: what the first point has so often, the pair has so often.
-/
namespace Go.Proofs.YtldkdgbcnbgmiaaDoor

theorem pb_aff : Aff pB := ⟨rfl, ⟨by decide, by decide⟩, ⟨by decide, by decide⟩, ⟨-49746427, by decide⟩⟩

/-- A point of the base's group. -/
def InG (P : Pt) : Prop := ∃ k, P = pMul pB k
theorem ing_order {P : Pt} (h : InG P) : pMul P 1009 = pZ := by
  obtain ⟨k, rfl⟩ := h
  rw [pmul_mul pb_ok, Nat.mul_comm, ← pmul_mul pb_ok, b1009, pmul_zero]
theorem grp : Grp InG := by
  refine ⟨fun P ⟨k, hk⟩ => hk ▸ pmul_ok pb_ok k, fun P hP h0 hv => ?_, fun P Q ⟨k, hk⟩ ⟨j, hj⟩ => ⟨k + j, by rw [hk, hj, pmul_add pb_ok]⟩⟩
  have ok : POk P := by obtain ⟨k, hk⟩ := hP; exact hk ▸ pmul_ok pb_ok k
  have af := aff_of ok h0
  have h2 : pAdd P P = pZ := by
    unfold pAdd
    have hs : fpAdd P.2.1 P.2.1 = 0 := by rw [fpAdd_eq]; exact dv_fp.1 (hv.add hv)
    rw [if_neg (by rw [af.1]; exact Bool.false_ne_true), if_neg (by rw [af.1]; exact Bool.false_ne_true), if_neg (fun h => h rfl), if_pos hs]
  have h2' : pMul P 2 = pZ := by rw [pmul_add ok 1 1, pmul_one]; exact h2
  have h3 := ing_order hP
  rw [show 1009 = 2 * 504 + 1 from rfl, pmul_add ok, ← pmul_mul ok, h2', pmul_zero, pmul_one] at h3
  exact h0 h3

/-- Not 0 modulo the field's size in both parts. -/
def Nz (z : Int × Int) : Prop := ¬ (Dv z.1 ∧ Dv z.2)
theorem nz_ne {z : Int × Int} (h : Nz z) : z ≠ (0, 0) := fun e => h (by rw [e]; exact ⟨dv_zero, dv_zero⟩)
theorem nz_tm {z w : Int × Int} (hz : Nz z) (hw : Nz w) : Nz (tm z w) := by
  intro ⟨h1, h2⟩
  have e1 : Dv (z.1 * w.1 - z.2 * w.2) := (h1.sub (dv_fp_sub (z.1 * w.1 - z.2 * w.2))).of (by show _ = fp (z.1 * w.1 - z.2 * w.2) - _; grind)
  have e2 : Dv (z.1 * w.2 + z.2 * w.1) := (h2.sub (dv_fp_sub (z.1 * w.2 + z.2 * w.1))).of (by show _ = fp (z.1 * w.2 + z.2 * w.1) - _; grind)
  have e : Dv ((z.1 ^ 2 + z.2 ^ 2) * (w.1 ^ 2 + w.2 ^ 2)) := ((e1.mul (z.1 * w.1 - z.2 * w.2)).add (e2.mul (z.1 * w.2 + z.2 * w.1))).of (by grind)
  by_cases k : Dv (z.1 ^ 2 + z.2 ^ 2)
  · exact hz (sumsq k)
  · exact hw (sumsq (dv_prime e k))
theorem nz_one : Nz (1, 0) := fun h => dv_one h.1
theorem nz_line {P Q R : Pt} (hq : ¬ Dv R.2.1) : Nz (pLine P Q R) := by
  unfold pLine
  split
  · exact nz_one
  · split
    · exact nz_one
    · split
      · exact nz_one
      · split
        · exact nz_one
        · exact fun h => hq h.2
theorem in2_line {P Q R : Pt} (hR : Aff R) : In2 (pLine P Q R) := by
  unfold pLine
  split
  · exact in2_one
  · split
    · exact in2_one
    · split
      · exact in2_one
      · split
        · exact in2_one
        · exact ⟨⟨fp_nonneg _, fp_lt _⟩, hR.2.2.1⟩

/-- A step of Miller's. -/
def mStep (P R : Pt) (b : Bool) (s : (Int × Int) × Pt) : (Int × Int) × Pt :=
  if b then (tm (tm (tm s.1 s.1) (pLine s.2 s.2 R)) (pLine (pAdd s.2 s.2) P R), pAdd (pAdd s.2 s.2) P)
  else (tm (tm s.1 s.1) (pLine s.2 s.2 R), pAdd s.2 s.2)
def mBits : List Bool := [true, true, true, true, true, false, false, false, true]
def mRun (P R : Pt) : List Bool → (Int × Int) × Pt → (Int × Int) × Pt
  | [], s => s
  | b :: r, s => mRun P R r (mStep P R b s)
/-- Miller's number. -/
def mill (P R : Pt) : Int × Int := (mRun P R mBits ((1, 0), P)).1

/-- The lines' numbers along the group. -/
def lN (R : Pt) (i j : Nat) : Int × Int := ch (pLine (pMul pB i) (pMul pB j) R)

section
variable {R : Pt}
theorem ln_zero (i : Nat) : lN R i 0 = (1, 0) := by
  unfold lN
  rw [show pMul pB 0 = pZ from rfl, line_zero_right, ch_one]
theorem ln_coc (hR : Aff R) (hq : ¬ Dv R.2.1) (i j : Nat) : tm (lN R i j) (lN R (i + j) 1) = tm (lN R j 1) (lN R i (j + 1)) := by
  unfold lN
  rw [pmul_add pb_ok i j, pmul_add pb_ok j 1]
  exact coc_pts grp ⟨i, rfl⟩ ⟨j, rfl⟩ ⟨1, rfl⟩ hR hq
theorem ln_round (n : Nat) : lN R (n + 1009) 1 = lN R n 1 := by
  unfold lN
  rw [pmul_add pb_ok n 1009, b1009, padd_zero (pmul_ok pb_ok n)]
theorem ln_order (hR : Aff R) (hq : ¬ Dv R.2.1) (n : Nat) : pw (lN R n 1) (1009 * 12) = (1, 0) := by
  unfold lN
  exact ch_order (in2_line hR) (nz_ne (nz_line hq))

/-- What holds along Miller's steps. -/
def MI (R : Pt) (i n : Nat) (s : (Int × Int) × Pt) : Prop := s.2 = pMul pB (n * i) ∧ tm (ch s.1) (pw (psi (lN R) i) n) = psi (lN R) (n * i) ∧ In2 s.1 ∧ Nz s.1

theorem mi_start (i : Nat) : MI R i 1 ((1, 0), pMul pB i) := by
  refine ⟨by rw [Nat.one_mul], ?_, in2_one, nz_one⟩
  show tm (ch (1, 0)) (pw (psi (lN R) i) 1) = psi (lN R) (1 * i)
  rw [ch_one, pw_one (in2_psi i), Nat.one_mul, one_tm (in2_psi i)]

theorem mi_step (hR : Aff R) (hq : ¬ Dv R.2.1) {i n : Nat} {s : (Int × Int) × Pt} (b : Bool) (h : MI R i n s) : MI R i (2 * n + if b then 1 else 0) (mStep (pMul pB i) R b s) := by
  obtain ⟨h1, h2, h3, h4⟩ := h
  have d := mill_dbl ln_zero (ln_coc hR hq) h2
  have nz2 : Nz (tm (tm s.1 s.1) (pLine s.2 s.2 R)) := nz_tm (nz_tm h4 h4) (nz_line hq)
  have e2 : pAdd s.2 s.2 = pMul pB (2 * n * i) := by
    rw [h1, ← pmul_add pb_ok]
    congr 1
    rw [Nat.mul_assoc]; omega
  have c2 : ch (tm (tm s.1 s.1) (pLine s.2 s.2 R)) = tm (tm (ch s.1) (ch s.1)) (lN R (n * i) (n * i)) := by
    rw [ch_tm, ch_tm]
    unfold lN
    rw [h1]
  rw [← c2] at d
  cases b
  · refine ⟨?_, ?_, in2_tm _ _, nz2⟩
    · show pAdd s.2 s.2 = pMul pB (2 * n * i)
      exact e2
    · exact d
  · have k := mill_add ln_zero (ln_coc hR hq) d
    refine ⟨?_, ?_, in2_tm _ _, nz_tm nz2 (nz_line hq)⟩
    · show pAdd (pAdd s.2 s.2) (pMul pB i) = pMul pB ((2 * n + 1) * i)
      rw [e2, ← pmul_add pb_ok, Nat.succ_mul (2 * n) i]
    · show tm (ch (tm (tm (tm s.1 s.1) (pLine s.2 s.2 R)) (pLine (pAdd s.2 s.2) (pMul pB i) R))) (pw (psi (lN R) i) (2 * n + 1)) = psi (lN R) ((2 * n + 1) * i)
      rw [ch_tm (tm (tm s.1 s.1) (pLine s.2 s.2 R)), e2]
      exact k

theorem mi_end (hR : Aff R) (hq : ¬ Dv R.2.1) (i : Nat) : MI R i 1009 (mRun (pMul pB i) R mBits ((1, 0), pMul pB i)) :=
  mi_step hR hq true (mi_step hR hq false (mi_step hR hq false (mi_step hR hq false (mi_step hR hq true (mi_step hR hq true (mi_step hR hq true (mi_step hR hq true (mi_step hR hq true (mi_start i)))))))))

/-- What the specification makes of Miller's number. -/
def mEnd (z : Int × Int) : Int × Int := pw (tm (tt z) (ti z)) 12

theorem mend_eq (hR : Aff R) (hq : ¬ Dv R.2.1) (i : Nat) : mEnd (mill (pMul pB i) R) = pw (pw (psi (lN R) 1009) 12) i := by
  obtain ⟨_, h2, h3, h4⟩ := mi_end hR hq i
  unfold mEnd mill
  rw [ch_end h3 (nz_ne h4)]
  exact mill_end ln_round (ln_order hR hq) h2

/-- **What the first point has so often, the pair has so often.** -/
theorem pair_left (hR : Aff R) (hq : ¬ Dv R.2.1) (i : Nat) : mEnd (mill (pMul pB i) R) = pw (mEnd (mill pB R)) i := by
  have h1 := mend_eq hR hq 1
  rw [pmul_one, pw_one (in2_pw _ _)] at h1
  rw [mend_eq hR hq i, h1]
end

end Go.Proofs.YtldkdgbcnbgmiaaDoor

/-
  The pairs of the base point with every point of its group: how they are looked over.
-/
namespace Go.Proofs.YtldkdgbcnbgmiaaDoor

/-- The pair of the base point with itself. -/
def gB : Int × Int := (372, 3632)
def chkRow (P : Pt) (g : Int × Int) (x y a b : Int) : Bool :=
  decide (pAdd P pB = (x, y, false)) && decide (tm g gB = (a, b)) && decide (mEnd (mill pB (x, y, false)) = (a, b))
def chkAll : List (Int × Int × Int × Int) → Pt → Int × Int → Bool
  | [], _, _ => true
  | (x, y, a, b) :: r, P, g => chkRow P g x y a b && chkAll r (x, y, false) (a, b)

theorem in2_gb : In2 gB := ⟨⟨by decide, by decide⟩, by decide, by decide⟩

/-- What is looked over holds of each. -/
theorem chk_all : ∀ (l : List (Int × Int × Int × Int)) (n : Nat), chkAll l (pMul pB n) (pw gB n) = true → ∀ k, k < l.length →
    (∃ x y, pMul pB (n + k + 1) = (x, y, false)) ∧ mEnd (mill pB (pMul pB (n + k + 1))) = pw gB (n + k + 1)
  | [], _, _, k, hk => absurd hk (Nat.not_lt_zero k)
  | (x, y, a, b) :: r, n, h, k, hk => by
    simp only [chkAll, chkRow, Bool.and_eq_true, decide_eq_true_eq] at h
    obtain ⟨⟨⟨h1, h2⟩, h3⟩, h4⟩ := h
    have e1 : pMul pB (n + 1) = (x, y, false) := h1
    have e2 : pw gB (n + 1) = (a, b) := by rw [pw_succ in2_gb]; exact h2
    rw [← e1, ← e2] at h4
    cases k with
    | zero => exact ⟨⟨x, y, e1⟩, by rw [Nat.add_zero, e1, e2]; exact h3⟩
    | succ k =>
      have := chk_all r (n + 1) h4 k (by simpa using hk)
      rw [show n + (k + 1) + 1 = n + 1 + k + 1 by omega]
      exact this

/-- The last of them. -/
theorem chk_last : ∀ (l : List (Int × Int × Int × Int)) (n : Nat) (P : Pt) (g : Int × Int), chkAll l (pMul pB n) (pw gB n) = true → (l.getLast?).map (fun t => ((t.1, t.2.1, false), (t.2.2.1, t.2.2.2))) = some (P, g) → pMul pB (n + l.length) = P ∧ pw gB (n + l.length) = g
  | [], _, _, _, _, hk => by simp at hk
  | [(x, y, a, b)], n, P, g, h, hk => by
    simp only [chkAll, chkRow, Bool.and_eq_true, decide_eq_true_eq] at h
    obtain ⟨⟨⟨h1, h2⟩, h3⟩, h4⟩ := h
    simp at hk
    obtain ⟨rfl, rfl⟩ := hk
    exact ⟨h1, by show pw gB (n + 1) = _; rw [pw_succ in2_gb]; exact h2⟩
  | (x, y, a, b) :: t :: r, n, P, g, h, hk => by
    simp only [chkAll, chkRow, Bool.and_eq_true, decide_eq_true_eq] at h
    obtain ⟨⟨⟨h1, h2⟩, h3⟩, h4⟩ := h
    have e1 : pMul pB (n + 1) = (x, y, false) := h1
    have e2 : pw gB (n + 1) = (a, b) := by rw [pw_succ in2_gb]; exact h2
    have h5 : chkAll (t :: r) (pMul pB (n + 1)) (pw gB (n + 1)) = true := by
      rw [e1, e2]
      obtain ⟨t1, t2, t3, t4⟩ := t
      simp only [chkAll, chkRow, Bool.and_eq_true, decide_eq_true_eq]
      exact h4
    have := chk_last (t :: r) (n + 1) P g h5 (by simpa using hk)
    rw [show n + ((x, y, a, b) :: t :: r).length = n + 1 + (t :: r).length by simp; omega]
    exact this

end Go.Proofs.YtldkdgbcnbgmiaaDoor
