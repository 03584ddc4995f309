/-
  There are 12108 points; so often put together every point is Zero. What is Zero 1009 times is a multiple of the base.
-/
import Derived.Test.YtkmelamfohfdkabJoined13
namespace Go.Proofs.Ytkmelamfohfdkab

/-- What the square of Y is at X. -/
def rhs (x : Int) : Int := fpAdd (fpMul (fpMul x x) x) x
theorem rhs_in (x : Int) : 0 ≤ rhs x ∧ rhs x < 12107 := ⟨fp_nonneg _, fp_lt _⟩
theorem dv_rhs (x : Int) : Dv (rhs x - (x ^ 3 + x)) := by
  have h1 := dv_mul x x
  have h2 := dv_mul (fpMul x x) x
  have h3 := dv_add (fpMul (fpMul x x) x) x
  unfold rhs
  exact ((h3.add h2).add (h1.mul x)).of (by grind)
theorem wc_rhs {x y : Int} : Wc x y ↔ fpMul y y = rhs x := by
  have h1 := dv_rhs x
  have h2 := dv_mul y y
  constructor
  · intro h
    refine small_eq (fp_nonneg _) (fp_lt _) (rhs_in x).1 (rhs_in x).2 ?_
    exact ((h2.sub h1).add h).of (by grind)
  · intro h
    have h3 : Dv (rhs x - y * y) := h ▸ h2
    exact ((h1.sub h3)).of (by grind)

/-- The points with this X. -/
def ptsAt (x : Int) : List Pt :=
  if rhs x = 0 then [(x, 0, false)] else if rootB (rhs x) = true then [(x, rootV (rhs x), false), (x, fpSub 0 (rootV (rhs x)), false)] else []

theorem rootV_in {n : Int} : 0 ≤ rootV n ∧ rootV n < 12107 := by
  have hx := fpPow_bounds n 3027
  have hs0 := fp_nonneg (fp 0 - fp (rootX n))
  have hs1 := fp_lt (fp 0 - fp (rootX n))
  unfold rootV
  split
  · split
    · exact ⟨hs0, hs1⟩
    · exact hx
  · omega

theorem root_right' {n : Int} (h0 : 0 ≤ n) (h : n < 12107) (hb : rootB n = true) : fpMul (rootV n) (rootV n) = n := by
  obtain ⟨k, rfl⟩ : ∃ k : Nat, n = k := ⟨n.toNat, by omega⟩
  exact root_right (by omega) hb

/-- Two roots of one number. -/
theorem roots_two {y z : Int} (hy : 0 ≤ y ∧ y < 12107) (hz : 0 ≤ z ∧ z < 12107) (h : fpMul y y = fpMul z z) : y = z ∨ y = fpSub 0 z := by
  have h1 := dv_mul y y
  have h2 := dv_mul z z
  have h3 : Dv ((y - z) * (y + z)) := by
    rw [h] at h1
    exact ((h2.sub h1)).of (by grind)
  by_cases hd : Dv (y - z)
  · exact .inl (small_eq hy.1 hy.2 hz.1 hz.2 hd)
  · have h4 := dv_prime h3 hd
    have h5 := dv_sub 0 z
    exact .inr (small_eq hy.1 hy.2 (fp_nonneg _) (fp_lt _) ((h4.sub h5).of (by grind)))

theorem square_zero {y : Int} (hy : 0 ≤ y ∧ y < 12107) (h : fpMul y y = 0) : y = 0 := by
  have h1 := dv_mul y y
  rw [h] at h1
  have h2 : Dv (y * y) := (h1.neg).of (by grind)
  by_cases hd : Dv y
  · exact small_eq hy.1 hy.2 (by decide) (by decide) (hd.of (by grind))
  · exact absurd (dv_prime h2 hd) hd

theorem mem_ptsAt {x : Int} (hx : 0 ≤ x ∧ x < 12107) {P : Pt} : P ∈ ptsAt x ↔ (P.1 = x ∧ P.2.2 = false ∧ (0 ≤ P.2.1 ∧ P.2.1 < 12107) ∧ Wc P.1 P.2.1) := by
  obtain ⟨u, v, b⟩ := P
  have hr := rhs_in x
  constructor
  · intro h
    unfold ptsAt at h
    split at h
    · rename_i h0
      simp only [List.mem_singleton, Prod.mk.injEq] at h
      obtain ⟨rfl, rfl, rfl⟩ := h
      exact ⟨rfl, rfl, by simp, wc_rhs.2 (by rw [h0]; rfl)⟩
    · split at h
      · rename_i h0 hb
        have hq := root_right' hr.1 hr.2 hb
        simp only [List.mem_cons, List.not_mem_nil, or_false, Prod.mk.injEq] at h
        rcases h with ⟨rfl, rfl, rfl⟩ | ⟨rfl, rfl, rfl⟩
        · exact ⟨rfl, rfl, rootV_in, wc_rhs.2 hq⟩
        · exact ⟨rfl, rfl, ⟨fp_nonneg _, fp_lt _⟩, wc_rhs.2 (by rw [fp_neg_sq]; exact hq)⟩
      · cases h
  · rintro ⟨h1, h2, h3, h4⟩
    simp only at h1 h2 h3 h4
    subst h1 h2
    have hq := wc_rhs.1 h4
    unfold ptsAt
    by_cases h0 : rhs u = 0
    · rw [if_pos h0]
      rw [h0] at hq
      rw [square_zero h3 hq]
      simp
    · rw [if_neg h0]
      have hv0 : 0 < v := by
        rcases Int.lt_or_le 0 v with h | h
        · exact h
        · have : v = 0 := by omega
          subst this
          exact absurd hq.symm h0
      obtain ⟨k, rfl⟩ : ∃ k : Nat, v = k := ⟨v.toNat, by omega⟩
      have hs := root_square (n := k) (by omega) (by omega)
      rw [hq] at hs
      rw [if_pos hs.1]
      have ht := root_right' hr.1 hr.2 hs.1
      rcases roots_two h3 rootV_in (hq.trans ht.symm) with h | h
      · rw [h]; simp
      · rw [h]; simp

/-- All points. -/
def pts : List Pt := pZ :: (List.range 12107).flatMap fun (x : Nat) => ptsAt (x : Int)

theorem mem_pts {P : Pt} : P ∈ pts ↔ POk P := by
  unfold pts POk
  rw [List.mem_cons, List.mem_flatMap]
  constructor
  · rintro (h | ⟨x, hx, h⟩)
    · exact .inl h
    · rw [List.mem_range] at hx
      obtain ⟨h1, h2, h3, h4⟩ := (mem_ptsAt (by omega)).1 h
      exact .inr ⟨h2, by omega, h3, h4⟩
  · rintro (h | ⟨h1, h2, h3, h4⟩)
    · exact .inl h
    · refine .inr ⟨P.1.toNat, by rw [List.mem_range]; omega, ?_⟩
      rw [show ((P.1.toNat : Nat) : Int) = P.1 by omega]
      exact (mem_ptsAt h2).2 ⟨rfl, h1, h3, h4⟩

theorem nodup_ptsAt (x : Int) : (ptsAt x).Nodup := by
  have hr := rhs_in x
  unfold ptsAt
  split
  · simp
  · split
    · rename_i h0 hb
      have hq := root_right' hr.1 hr.2 hb
      rw [List.nodup_cons]
      refine ⟨?_, by simp⟩
      simp only [List.mem_singleton, Prod.mk.injEq, true_and, and_true]
      intro e
      have h1 := dv_sub 0 (rootV (rhs x))
      have h2 : Dv (2 * rootV (rhs x)) := by
        rw [← e] at h1
        exact h1.of (by grind)
      have h3 := dv_prime h2 dv_two
      have h4 := dv_fp.1 h3
      rw [fp_small rootV_in.1 rootV_in.2] at h4
      rw [h4] at hq
      exact h0 hq.symm
    · simp

theorem nodup_flat {f : Nat → List Pt} : ∀ (l : List Nat), l.Nodup → (∀ x ∈ l, (f x).Nodup) → (∀ x ∈ l, ∀ y ∈ l, ∀ P, P ∈ f x → P ∈ f y → x = y) → (l.flatMap f).Nodup
  | [], _, _, _ => by simp
  | x :: l, hl, hf, hd => by
    rw [List.flatMap_cons]
    rw [List.nodup_cons] at hl
    refine List.nodup_append.2 ⟨hf x (by simp), nodup_flat l hl.2 (fun y hy => hf y (by simp [hy])) (fun y hy z hz => hd y (by simp [hy]) z (by simp [hz])), ?_⟩
    intro P hP Q hQ e
    subst e
    obtain ⟨y, hy, hQ⟩ := List.mem_flatMap.1 hQ
    have := hd x (by simp) y (by simp [hy]) P hP hQ
    subst this
    exact hl.1 hy

theorem nodup_pts : pts.Nodup := by
  unfold pts
  rw [List.nodup_cons]
  constructor
  · intro h
    obtain ⟨x, hx, h⟩ := List.mem_flatMap.1 h
    rw [List.mem_range] at hx
    have := ((mem_ptsAt (x := (x : Int)) (by omega)).1 h).2.1
    cases this
  · refine nodup_flat _ List.nodup_range (fun x _ => nodup_ptsAt (x : Int)) ?_
    intro x hx y hy P h1 h2
    rw [List.mem_range] at hx hy
    have e1 := ((mem_ptsAt (x := (x : Int)) (by omega)).1 h1).1
    have e2 := ((mem_ptsAt (x := (y : Int)) (by omega)).1 h2).1
    omega

/-- How many there are at X, as the kernel counts. -/
def rhsN (x : Nat) : Nat := Nat.mod (Nat.add (Nat.mul (Nat.mod (Nat.mul x x) 12107) x) x) 12107
def cntOf (r : Nat) : Nat := bif Nat.beq r 0 then 1 else bif Nat.beq (chi r) 1 then 2 else 0
def cntN (x : Nat) : Nat := cntOf (rhsN x)
def cnts : Nat → Nat → Nat
  | 0, lo => bif Nat.blt lo 12107 then cntN lo else 0
  | k + 1, lo => Nat.add (cnts k lo) (cnts k (Nat.add lo (Nat.pow 2 k)))

theorem rhsN_eq (x : Nat) : rhs (x : Int) = ((rhsN x : Nat) : Int) := by
  show fpAdd (fpMul (fpMul (x : Int) x) x) x = ((((x * x % 12107) * x + x) % 12107 : Nat) : Int)
  rw [fpMul_nat, fpMul_nat, fpAdd_eq]
  unfold fp
  omega

theorem len_ptsAt (x : Nat) : (ptsAt (x : Int)).length = cntN x := by
  have hr := rhs_in x
  have e := rhsN_eq x
  unfold ptsAt cntN cntOf
  rw [e] at hr ⊢
  generalize rhsN x = r at hr
  by_cases h0 : r = 0
  · subst h0; simp
  · rw [if_neg (by omega), rootB_nat (by omega) (by omega), ← chi_pow (by omega)]
    have hb : Nat.beq r 0 = false := by
      cases h : Nat.beq r 0
      · rfl
      · exact absurd (Nat.eq_of_beq_eq_true h) h0
    rw [hb]
    by_cases h1 : chi r = 1
    · rw [h1]; rfl
    · have hb1 : Nat.beq (chi r) 1 = false := by
        cases h : Nat.beq (chi r) 1
        · rfl
        · exact absurd (Nat.eq_of_beq_eq_true h) h1
      rw [if_neg (by simp [h1]), hb1]; rfl

def sumTo (f : Nat → Nat) (lo : Nat) : Nat → Nat
  | 0 => 0
  | n + 1 => sumTo f lo n + f (lo + n)
theorem sumTo_add (f : Nat → Nat) (lo m : Nat) : ∀ n, sumTo f lo (m + n) = sumTo f lo m + sumTo f (lo + m) n
  | 0 => rfl
  | n + 1 => by
    show sumTo f lo (m + n) + f (lo + (m + n)) = sumTo f lo m + (sumTo f (lo + m) n + f (lo + m + n))
    rw [sumTo_add f lo m n, Nat.add_assoc lo m n]
    omega
def cntB (x : Nat) : Nat := bif Nat.blt x 12107 then cntN x else 0
theorem cnts_sum : ∀ (k lo : Nat), cnts k lo = sumTo cntB lo (2 ^ k)
  | 0, lo => by show cntB lo = 0 + cntB (lo + 0); rw [Nat.zero_add, Nat.add_zero]
  | k + 1, lo => by
    show cnts k lo + cnts k (lo + 2 ^ k) = _
    rw [cnts_sum k lo, cnts_sum k (lo + 2 ^ k), Nat.pow_succ, Nat.mul_two, sumTo_add]

theorem sumTo_congr {f g : Nat → Nat} (lo : Nat) : ∀ n, (∀ j, j < n → f (lo + j) = g (lo + j)) → sumTo f lo n = sumTo g lo n
  | 0, _ => rfl
  | n + 1, h => by
    show sumTo f lo n + _ = sumTo g lo n + _
    rw [sumTo_congr lo n (fun j hj => h j (by omega)), h n (by omega)]
theorem sumTo_zero {f : Nat → Nat} (lo : Nat) : ∀ n, (∀ j, j < n → f (lo + j) = 0) → sumTo f lo n = 0
  | 0, _ => rfl
  | n + 1, h => by
    show sumTo f lo n + _ = 0
    rw [sumTo_zero lo n (fun j hj => h j (by omega)), h n (by omega)]

theorem len_flat (f : Nat → List Pt) : ∀ n, ((List.range n).flatMap f).length = sumTo (fun x => (f x).length) 0 n
  | 0 => rfl
  | n + 1 => by
    rw [List.range_succ, List.flatMap_append, List.length_append, len_flat f n]
    simp [sumTo]

set_option maxRecDepth 100000 in
theorem cnts_here : cnts 14 0 = 12107 := by decide +kernel

theorem len_pts : pts.length = 12108 := by
  unfold pts
  rw [List.length_cons, len_flat]
  have h1 := cnts_here
  rw [cnts_sum, show 2 ^ 14 = 12107 + 4277 from rfl, sumTo_add] at h1
  have h2 : sumTo cntB (0 + 12107) 4277 = 0 := sumTo_zero _ _ fun j _ => by
    unfold cntB
    have : Nat.blt (0 + 12107 + j) 12107 = false := by
      cases h : Nat.blt (0 + 12107 + j) 12107
      · rfl
      · have := Nat.blt_eq ▸ h; omega
    rw [this]; rfl
  have h3 : sumTo (fun x => (ptsAt (x : Int)).length) 0 12107 = sumTo cntB 0 12107 := sumTo_congr 0 _ fun j hj => by
    rw [len_ptsAt]
    unfold cntB
    have : Nat.blt (0 + j) 12107 = true := Nat.blt_eq ▸ (show 0 + j < 12107 by omega)
    rw [this]; rfl
  rw [h3]
  omega

/-- A list without doubles within another that is no longer holds all of it. -/
theorem perm_of_sub {α : Type} [BEq α] [LawfulBEq α] : ∀ (l m : List α), l.Nodup → (∀ x ∈ l, x ∈ m) → m.length ≤ l.length → l.Perm m
  | [], m, _, _, hl => by
    have : m = [] := List.length_eq_zero_iff.1 (by simpa using hl)
    rw [this]
  | a :: l, m, hn, hs, hl => by
    rw [List.nodup_cons] at hn
    have ha : a ∈ m := hs a (by simp)
    have hp := List.perm_cons_erase ha
    refine (List.Perm.cons a ?_).trans hp.symm
    refine perm_of_sub l (m.erase a) hn.2 (fun x hx => ?_) ?_
    · have hne : x ≠ a := fun e => hn.1 (e ▸ hx)
      exact (List.mem_erase_of_ne hne).2 (hs x (by simp [hx]))
    · rw [List.length_erase_of_mem ha]
      simp at hl
      omega

/-- A list without doubles within another is no longer. -/
theorem len_of_sub {α : Type} [BEq α] [LawfulBEq α] : ∀ (l m : List α), l.Nodup → (∀ x ∈ l, x ∈ m) → l.length ≤ m.length
  | [], m, _, _ => by simp
  | a :: l, m, hn, hs => by
    rw [List.nodup_cons] at hn
    have ha : a ∈ m := hs a (by simp)
    have h := len_of_sub l (m.erase a) hn.2 (fun x hx => (List.mem_erase_of_ne (fun e : x = a => hn.1 (e ▸ hx))).2 (hs x (by simp [hx])))
    rw [List.length_erase_of_mem ha] at h
    have : 0 < m.length := List.length_pos_of_mem ha
    simp
    omega

def sumP (l : List Pt) : Pt := l.foldr pAdd pZ
theorem sumP_ok : ∀ l : List Pt, (∀ P ∈ l, POk P) → POk (sumP l)
  | [], _ => pz_ok
  | P :: l, h => padd_ok (h P (by simp)) (sumP_ok l fun Q hQ => h Q (by simp [hQ]))
theorem sumP_perm {l m : List Pt} (h : l.Perm m) : (∀ P ∈ l, POk P) → sumP l = sumP m := by
  induction h with
  | nil => intro _; rfl
  | cons P _ ih =>
    intro hok
    show pAdd P (sumP _) = pAdd P (sumP _)
    rw [ih fun Q hQ => hok Q (by simp [hQ])]
  | swap P Q l =>
    intro hok
    show pAdd Q (pAdd P (sumP l)) = pAdd P (pAdd Q (sumP l))
    have hP := hok P (by simp)
    have hQ := hok Q (by simp)
    have hS := sumP_ok l fun R hR => hok R (by simp [hR])
    rw [← padd_assoc hQ hP hS, padd_comm hQ hP, padd_assoc hP hQ hS]
  | trans h1 _ ih1 ih2 =>
    intro hok
    rw [ih1 hok]
    exact ih2 fun P hP => hok P (h1.mem_iff.2 hP)

theorem sumP_map {Q : Pt} (hQ : POk Q) : ∀ l : List Pt, (∀ P ∈ l, POk P) → sumP (l.map fun P => pAdd P Q) = pAdd (sumP l) (pMul Q l.length)
  | [], _ => rfl
  | P :: l, h => by
    show pAdd (pAdd P Q) (sumP (l.map fun P => pAdd P Q)) = pAdd (pAdd P (sumP l)) (pAdd (pMul Q l.length) Q)
    have hP := h P (by simp)
    have hl := fun R hR => h R (List.mem_cons_of_mem P hR)
    have hS := sumP_ok l hl
    have hm := pmul_ok hQ l.length
    rw [sumP_map hQ l hl, padd_assoc hP hQ (padd_ok hS hm), padd_assoc hP hS (padd_ok hm hQ)]
    congr 1
    rw [padd_comm hQ (padd_ok hS hm), padd_assoc hS hm hQ]

theorem padd_drop {P Q R : Pt} (hP : POk P) (hQ : POk Q) (hR : POk R) (h : pAdd P R = pAdd Q R) : P = Q := by
  have e : ∀ {S : Pt}, POk S → pAdd (pAdd S R) (pNeg R) = S := fun hS => by
    rw [padd_assoc hS hR (pneg_ok hR), padd_neg hR, padd_zero hS]
  rw [← e hP, h, e hQ]

/-- So often as there are points every point is Zero. -/
theorem pmul_all {Q : Pt} (hQ : POk Q) : pMul Q 12108 = pZ := by
  have hok : ∀ P ∈ pts, POk P := fun P hP => mem_pts.1 hP
  have hp : (pts.map fun P => pAdd P Q).Perm pts := by
    refine perm_of_sub _ _ ?_ ?_ (by simp)
    · rw [List.nodup_iff_pairwise_ne, List.pairwise_map]
      refine List.Pairwise.imp_of_mem ?_ (List.nodup_iff_pairwise_ne.1 nodup_pts)
      intro P R hP hR hne e
      exact hne (padd_drop (hok P hP) (hok R hR) hQ e)
    · intro R hR
      obtain ⟨P, hP, rfl⟩ := List.mem_map.1 hR
      exact mem_pts.2 (padd_ok (hok P hP) hQ)
  have h1 := sumP_perm hp fun R hR => by
    obtain ⟨P, hP, rfl⟩ := List.mem_map.1 hR
    exact padd_ok (hok P hP) hQ
  rw [sumP_map hQ pts hok, len_pts] at h1
  have hS := sumP_ok pts hok
  have hm := pmul_ok hQ 12108
  refine padd_drop hm pz_ok hS ?_
  rw [padd_comm hm hS, h1]
  rfl

end Go.Proofs.Ytkmelamfohfdkab
