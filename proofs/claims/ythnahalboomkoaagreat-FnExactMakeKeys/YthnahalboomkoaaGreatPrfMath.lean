/-
  Proofs by pairs, in how often the base they are: no program in here.
-/
import Derived.Test.YthnahalboomkoaaGreatJoined4
import Derived.Test.YthnahalboomkoaaGreatJoined5

namespace Go.Proofs.YthnahalboomkoaaGreat

/-- So often the base. -/
def gx (x : Int) : Pt := pMul pB (scn x)
theorem gx_key (k : Int) : keyP k = gx k := key_mul k
theorem gx_ok (x : Int) : POk (gx x) := pmul_ok pb_ok _
theorem gx_in (x : Int) : inGB (gx x) = true := ing_mul _
theorem scn_of_dp {x y : Int} (h : Dp (x - y)) : scn x = scn y := by unfold scn; rw [sca_of_dp h]
theorem gx_dp {x y : Int} (h : Dp (x - y)) : gx x = gx y := by unfold gx; rw [scn_of_dp h]
theorem scn_nat (n : Nat) : scn (n : Int) = n % 1009 := by
  unfold scn sca
  omega
theorem dp_scn (x : Int) : Dp ((scn x : Nat) - x) := by rw [scn_cast]; exact dp_sca x
theorem gx_nat (n : Nat) : gx (n : Int) = pMul pB n := by unfold gx; rw [scn_nat, ← mulb_rest]
theorem gx_inj {x y : Int} (h : gx x = gx y) : Dp (x - y) := by
  have e := pb_inj (scn_lt x) (scn_lt y) h
  have h1 := dp_scn x
  have h2 := dp_scn y
  rw [e] at h1
  exact (h2.sub h1).of (by omega)
theorem gx_iff {x y : Int} : gx x = gx y ↔ Dp (x - y) := ⟨gx_inj, gx_dp⟩
theorem scn_zero (x : Int) : scn x = 0 ↔ Dp x := by
  have h := dp_scn x
  have hl := scn_lt x
  unfold Dp at h ⊢
  omega
theorem gx_zero (x : Int) : (gx x).2.2 = decide (scn x = 0) := by
  unfold gx
  exact mulb_zero (scn_lt x)
theorem gx_null : gx 0 = pZ := rfl
theorem gx_add (x y : Int) : pSum (gx x) (gx y) = gx (x + y) := by
  unfold pSum
  rw [pokB.2 (gx_ok x), pokB.2 (gx_ok y), Bool.and_self, if_pos rfl]
  unfold gx
  rw [← pmul_add pb_ok, mulb_rest]
  have h1 := dp_scn x
  have h2 := dp_scn y
  have e : (scn x + scn y) % 1009 = scn (x + y) := by
    rw [← scn_nat]
    exact scn_of_dp ((h1.add h2).of (by omega))
  rw [e]
theorem gx_base : gx 1 = pB := pmul_one
theorem gx_times (k x : Int) : pTimes k (gx x) = gx (k * x) := by
  have hok := gx_ok x
  have hmul : ∀ n : Nat, pMul (gx x) n = gx ((n : Int) * x) := fun n => by
    unfold gx
    rw [pmul_mul pb_ok, mulb_rest]
    have h1 := dp_scn x
    have e : scn x * n % 1009 = scn ((n : Int) * x) := by
      rw [← scn_nat]
      exact scn_of_dp ((h1.mul (n : Int)).of (by rw [Int.natCast_mul]; grind))
    rw [e]
  have hneg : pNeg (gx x) = gx (-x) := by
    have h := gx_add x (-x)
    have h0 : pSum (gx x) (gx (-x)) = pZ := by rw [h, show x + -x = 0 by omega]; rfl
    unfold pSum at h0
    rw [pokB.2 (gx_ok x), pokB.2 (gx_ok (-x)), Bool.and_self, if_pos rfl] at h0
    have h1 : pAdd (pNeg (gx x)) (pAdd (gx x) (gx (-x))) = pAdd (pNeg (gx x)) pZ := by rw [h0]
    rw [← padd_assoc (pneg_ok hok) hok (gx_ok (-x)), padd_comm (pneg_ok hok) hok, padd_neg hok, zero_padd, padd_zero (pneg_ok hok)] at h1
    exact h1.symm
  unfold pTimes
  rw [if_pos (pokB.2 hok)]
  have hm : Dp (Int.tmod k 12108 - k) := by
    have h := Int.tmod_add_mul_tdiv k 12108
    refine ⟨-(12 * k.tdiv 12108), ?_⟩
    omega
  split
  · next hlt =>
    rw [hneg]
    have hmulN : ∀ n : Nat, pMul (gx (-x)) n = gx ((n : Int) * -x) := fun n => by
      unfold gx
      rw [pmul_mul pb_ok, mulb_rest]
      have h1 := dp_scn (-x)
      have e : scn (-x) * n % 1009 = scn ((n : Int) * -x) := by
        rw [← scn_nat]
        exact scn_of_dp ((h1.mul (n : Int)).of (by rw [Int.natCast_mul]; grind))
      rw [e]
    rw [hmulN]
    refine gx_dp ((hm.mul x).of ?_)
    have e : ((Int.tmod k 12108).natAbs : Int) = -(Int.tmod k 12108) := by omega
    rw [e]
    grind
  · next hge =>
    rw [hmul]
    refine gx_dp ((hm.mul x).of ?_)
    have e : ((Int.tmod k 12108).natAbs : Int) = Int.tmod k 12108 := by omega
    rw [e]
    grind

end Go.Proofs.YthnahalboomkoaaGreat
