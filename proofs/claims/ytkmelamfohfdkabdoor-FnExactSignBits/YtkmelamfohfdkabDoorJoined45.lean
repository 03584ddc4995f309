/-
  Texts of one's own, joined.
-/
import Derived.Test.YtkmelamfohfdkabDoorPtC3

/-
  The walks of the program's places on the curve: so often, and their texts.
  (-DROP-: what the seat lacks is left out.)
-/
namespace Go.Proofs.YtkmelamfohfdkabDoor
open Go.RowKit

/-- A point so often, the sign taken ahead. -/
def pTim (k : Int) (P : Pt) : Pt := if Int.tmod k 12108 < 0 then pMul (pNeg P) (Int.tmod k 12108).natAbs else pMul P (Int.tmod k 12108).natAbs
theorem ptimes_tim {k : Int} {P : Pt} (h : pOkB P = true) : pTimes k P = pTim k P := by
  unfold pTimes pTim
  rw [if_pos h]
theorem tmod_12108 (k : Int) : -12108 < Int.tmod k 12108 ∧ Int.tmod k 12108 < 12108 := by
  have h1 := Int.tmod_lt_of_pos k (show (0 : Int) < 12108 by decide)
  have h2 := Int.lt_tmod_of_pos k (show (0 : Int) < 12108 by decide)
  omega

set_option maxHeartbeats 1600000 in
set_option maxRecDepth 100000 in
theorem timesC_any (v : Value) (P : Pt) (k : Int) (w : World) (hp : PAt w v P) (hP : POk P) :
    Calls Tryd.prog 33 #[v, .int .i64 k] w fun e w' => ∃ v', e = .returned v' ∧ PAt w' v' (pTim k P) ∧ Below w.heap.size w w' := by
  obtain ⟨n, hn⟩ : ∃ n, n = Int.tmod k 12108 := ⟨_, rfl⟩
  have hnb : -12108 < n ∧ n < 12108 := by rw [hn]; exact tmod_12108 k
  have HV : Hid (pTim k P = if n < 0 then pMul (pNeg P) n.natAbs else pMul P n.natAbs) := by rw [hn]; rfl
  have hk : Int.tmod k 12108 = n := hn.symm
  clear hn
  by_cases h1 : n < 0
  · obtain ⟨M, hMn⟩ : ∃ M : Nat, M = n.natAbs := ⟨_, rfl⟩
    have hMi : -n = (M : Int) := by omega
    have hM : M < 12108 := by omega
    have HT : Hid (pTim k P = pMul (pNeg P) M) := by rw [HV.out, if_pos h1, hMn]; rfl
    have HO : Hid (Calls Tryd.prog 51 #[v] w fun e w' => ∃ v', e = .returned v' ∧ PAt w' v' (pNeg P) ∧ Below w.heap.size w w') := opposite_any v P w hp hP
    have HB : Hid (POk (pNeg P)) := pneg_ok hP
    clear hMn HV hp hP
    generalize pTim k P = T at HT ⊢
    generalize pNeg P = B0 at HO HB HT
    go_enter Tryd.func33, Tryd.ntmps33
    go_wp2_with fail
    refine HO.out.mono ?_
    rintro e w1 ⟨v1, rfl, hv1, hb1⟩
    have HD0 : Hid (PAt w1 v1 B0 ∧ PAt w1 (.pointer none) pZ ∧ Below w.heap.size w w1) := ⟨hv1, pat_zero _, hb1⟩
    have HX0 : Hid (POk B0 ∧ POk pZ ∧ pAdd pZ (pMul B0 M) = T) := ⟨HB.out, pz_ok, by rw [HT.out]; rfl⟩
    clear hv1 hb1 HO HB HT
    go_wp2
    go_loopw [0, 1, 5] (fun p i s wr => ∃ (a d : Value) (m : Nat) (B R : Pt), a = p ∧ i = .int .i64 (m : Int) ∧ d = s ∧ m < 12108 ∧ Hid (POk B ∧ POk R ∧ pAdd R (pMul B m) = T) ∧ Hid (PAt wr a B ∧ PAt wr d R ∧ Below w.heap.size w wr)) (fun _ i _ _ => (intOf i).toNat)
    case atStart => exact ⟨_, _, M, B0, pZ, rfl, rfl, rfl, hM, HX0, HD0⟩
    case round =>
      obtain ⟨a, d, m, B, R, rfl, rfl, rfl, hm, HX, HD⟩ := hrel
      clear HX0 HD0
      by_cases h0 : 0 < m
      · have h0' : (0 : Int) < (m : Int) := by omega
        have hq : Int.tdiv (m : Int) 2 = ((m / 2 : Nat) : Int) := by rw [Int.tdiv_eq_ediv_of_nonneg (by omega)]; omega
        have hqb : m / 2 < m := by omega
        have HBB : Hid (∀ wx, PAt wx a B → Calls Tryd.prog 37 #[a, a] wx fun e w' => ∃ v', e = .returned v' ∧ PAt w' v' (pAdd B B) ∧ Below wx.heap.size wx w') := fun wx h => plusC_any _ _ _ _ wx h h HX.out.1 HX.out.1
        have HRB : Hid (∀ wx, PAt wx d R → PAt wx a B → Calls Tryd.prog 37 #[d, a] wx fun e w' => ∃ v', e = .returned v' ∧ PAt w' v' (pAdd R B) ∧ Below wx.heap.size wx w') := fun wx h h' => plusC_any _ _ _ _ wx h h' HX.out.2.1 HX.out.1
        by_cases h2 : m % 2 = 1
        · have h2' : Int.tmod (m : Int) 2 = 1 := by rw [Int.tmod_eq_emod_of_nonneg (by omega)]; omega
          have HN : Hid (POk (pAdd B B) ∧ POk (pAdd R B) ∧ pAdd (pAdd R B) (pMul (pAdd B B) (m / 2)) = T) := ⟨padd_ok HX.out.1 HX.out.1, padd_ok HX.out.2.1 HX.out.1, (dbl_odd HX.out.2.1 HX.out.1 h2).trans HX.out.2.2⟩
          generalize pAdd B B = B2 at HBB HN
          generalize pAdd R B = R2 at HRB HN
          generalize m / 2 = m2 at HN hq hqb
          clear h2 HX
          go_wp2_with fail
          refine (HRB.out _ HD.out.2.1 HD.out.1).mono ?_
          rintro e w5 ⟨s2, rfl, hs2, hb5⟩
          have hp5 := HD.out.1.on hb5
          have hB5 := below_then HD.out.2.2 hb5
          clear HD hb5 HRB
          go_wp2_with fail
          refine (HBB.out _ hp5).mono ?_
          rintro e w6 ⟨p2, rfl, hp2, hb6⟩
          have HD2 : Hid (PAt w6 p2 B2 ∧ PAt w6 s2 R2 ∧ Below w.heap.size w w6) := ⟨hp2, hs2.on hb6, below_then hB5 hb6⟩
          clear hp2 hs2 hB5 hb6 hp5 HBB
          go_wp2
          go_roundw
          case rel => exact ⟨_, _, m2, B2, R2, rfl, by go_num, rfl, by omega, HN, HD2⟩
          case measure => simp [intOf]; omega
        · have h2' : Int.tmod (m : Int) 2 = 0 := by rw [Int.tmod_eq_emod_of_nonneg (by omega)]; omega
          have HN : Hid (POk (pAdd B B) ∧ POk R ∧ pAdd R (pMul (pAdd B B) (m / 2)) = T) := ⟨padd_ok HX.out.1 HX.out.1, HX.out.2.1, (dbl_even HX.out.1 (by omega)).trans HX.out.2.2⟩
          generalize pAdd B B = B2 at HBB HN
          generalize m / 2 = m2 at HN hq hqb
          clear h2 HX HRB
          go_wp2_with fail
          refine (HBB.out _ HD.out.1).mono ?_
          rintro e w6 ⟨p2, rfl, hp2, hb6⟩
          have HD2 : Hid (PAt w6 p2 B2 ∧ PAt w6 d R ∧ Below w.heap.size w w6) := ⟨hp2, HD.out.2.1.on hb6, below_then HD.out.2.2 hb6⟩
          clear hp2 hb6 HD HBB
          go_wp2
          go_roundw
          case rel => exact ⟨_, _, m2, B2, R, rfl, by go_num, rfl, by omega, HN, HD2⟩
          case measure => simp [intOf]; omega
      · have h0' : ¬ (0 : Int) < (m : Int) := by omega
        obtain rfl : m = 0 := by omega
        have HE : Hid (R = T) := by have := HX.out.2.2; rwa [show pMul B 0 = pZ from rfl, padd_zero HX.out.2.1] at this
        clear HX
        go_wp2
        go_ret
        exact ⟨_, rfl, by rw [← HE.out]; exact HD.out.2.1, HD.out.2.2⟩
  · obtain ⟨M, hMn⟩ : ∃ M : Nat, M = n.natAbs := ⟨_, rfl⟩
    have hMi : n = (M : Int) := by omega
    have hM : M < 12108 := by omega
    have HX0 : Hid (POk P ∧ POk pZ ∧ pAdd pZ (pMul P M) = pTim k P) := ⟨hP, pz_ok, by rw [HV.out, if_neg h1, hMn]; rfl⟩
    have HD0 : Hid (PAt w v P ∧ PAt w (.pointer none) pZ ∧ Below w.heap.size w w) := ⟨hp, pat_zero _, Below.refl _ _⟩
    obtain ⟨B0, hB0⟩ : ∃ B0 : Pt, B0 = P := ⟨_, rfl⟩
    generalize pTim k P = T at HX0 ⊢
    rw [← hB0] at HX0 HD0
    clear hMn HV hp hP hB0
    go_enter Tryd.func33, Tryd.ntmps33
    go_wp2
    go_loopw [0, 1, 5] (fun p i s wr => ∃ (a d : Value) (m : Nat) (B R : Pt), a = p ∧ i = .int .i64 (m : Int) ∧ d = s ∧ m < 12108 ∧ Hid (POk B ∧ POk R ∧ pAdd R (pMul B m) = T) ∧ Hid (PAt wr a B ∧ PAt wr d R ∧ Below w.heap.size w wr)) (fun _ i _ _ => (intOf i).toNat)
    case atStart => exact ⟨_, _, M, B0, pZ, rfl, rfl, rfl, hM, HX0, HD0⟩
    case round =>
      obtain ⟨a, d, m, B, R, rfl, rfl, rfl, hm, HX, HD⟩ := hrel
      clear HX0 HD0
      by_cases h0 : 0 < m
      · have h0' : (0 : Int) < (m : Int) := by omega
        have hq : Int.tdiv (m : Int) 2 = ((m / 2 : Nat) : Int) := by rw [Int.tdiv_eq_ediv_of_nonneg (by omega)]; omega
        have hqb : m / 2 < m := by omega
        have HBB : Hid (∀ wx, PAt wx a B → Calls Tryd.prog 37 #[a, a] wx fun e w' => ∃ v', e = .returned v' ∧ PAt w' v' (pAdd B B) ∧ Below wx.heap.size wx w') := fun wx h => plusC_any _ _ _ _ wx h h HX.out.1 HX.out.1
        have HRB : Hid (∀ wx, PAt wx d R → PAt wx a B → Calls Tryd.prog 37 #[d, a] wx fun e w' => ∃ v', e = .returned v' ∧ PAt w' v' (pAdd R B) ∧ Below wx.heap.size wx w') := fun wx h h' => plusC_any _ _ _ _ wx h h' HX.out.2.1 HX.out.1
        by_cases h2 : m % 2 = 1
        · have h2' : Int.tmod (m : Int) 2 = 1 := by rw [Int.tmod_eq_emod_of_nonneg (by omega)]; omega
          have HN : Hid (POk (pAdd B B) ∧ POk (pAdd R B) ∧ pAdd (pAdd R B) (pMul (pAdd B B) (m / 2)) = T) := ⟨padd_ok HX.out.1 HX.out.1, padd_ok HX.out.2.1 HX.out.1, (dbl_odd HX.out.2.1 HX.out.1 h2).trans HX.out.2.2⟩
          generalize pAdd B B = B2 at HBB HN
          generalize pAdd R B = R2 at HRB HN
          generalize m / 2 = m2 at HN hq hqb
          clear h2 HX
          go_wp2_with fail
          refine (HRB.out _ HD.out.2.1 HD.out.1).mono ?_
          rintro e w5 ⟨s2, rfl, hs2, hb5⟩
          have hp5 := HD.out.1.on hb5
          have hB5 := below_then HD.out.2.2 hb5
          clear HD hb5 HRB
          go_wp2_with fail
          refine (HBB.out _ hp5).mono ?_
          rintro e w6 ⟨p2, rfl, hp2, hb6⟩
          have HD2 : Hid (PAt w6 p2 B2 ∧ PAt w6 s2 R2 ∧ Below w.heap.size w w6) := ⟨hp2, hs2.on hb6, below_then hB5 hb6⟩
          clear hp2 hs2 hB5 hb6 hp5 HBB
          go_wp2
          go_roundw
          case rel => exact ⟨_, _, m2, B2, R2, rfl, by go_num, rfl, by omega, HN, HD2⟩
          case measure => simp [intOf]; omega
        · have h2' : Int.tmod (m : Int) 2 = 0 := by rw [Int.tmod_eq_emod_of_nonneg (by omega)]; omega
          have HN : Hid (POk (pAdd B B) ∧ POk R ∧ pAdd R (pMul (pAdd B B) (m / 2)) = T) := ⟨padd_ok HX.out.1 HX.out.1, HX.out.2.1, (dbl_even HX.out.1 (by omega)).trans HX.out.2.2⟩
          generalize pAdd B B = B2 at HBB HN
          generalize m / 2 = m2 at HN hq hqb
          clear h2 HX HRB
          go_wp2_with fail
          refine (HBB.out _ HD.out.1).mono ?_
          rintro e w6 ⟨p2, rfl, hp2, hb6⟩
          have HD2 : Hid (PAt w6 p2 B2 ∧ PAt w6 d R ∧ Below w.heap.size w w6) := ⟨hp2, HD.out.2.1.on hb6, below_then HD.out.2.2 hb6⟩
          clear hp2 hb6 HD HBB
          go_wp2
          go_roundw
          case rel => exact ⟨_, _, m2, B2, R, rfl, by go_num, rfl, by omega, HN, HD2⟩
          case measure => simp [intOf]; omega
      · have h0' : ¬ (0 : Int) < (m : Int) := by omega
        obtain rfl : m = 0 := by omega
        have HE : Hid (R = T) := by have := HX.out.2.2; rwa [show pMul B 0 = pZ from rfl, padd_zero HX.out.2.1] at this
        clear HX
        go_wp2
        go_ret
        exact ⟨_, rfl, by rw [← HE.out]; exact HD.out.2.1, HD.out.2.2⟩

end Go.Proofs.YtkmelamfohfdkabDoor

/-
  The walk of the text of a place on the curve.
  (-DROP-: what the seat lacks is left out.)
-/
namespace Go.Proofs.YtkmelamfohfdkabDoor
open Go.RowKit

theorem make3 (w : World) : (Instr.makeSlice 45 (.int .i64 3) (.int .i64 3)).run Tryd.prog w = .ok (.slice (some ⟨w.heap.size, 0, none⟩) 3 3) (w.alloc (.cells #[.int .u8 0, .int .u8 0, .int .u8 0] 5)) := by
  kernel_rfl

end Go.Proofs.YtkmelamfohfdkabDoor
