/-
  Texts of one's own, joined.
-/
import Derived.Test.YthnahalboomkoaaGreatPtC3

/-
  The walks of the program's places on the curve: so often, and their texts.
  (-DROP-: what the seat lacks is left out.)
-/
namespace Go.Proofs.YthnahalboomkoaaGreat
open Go.RowKit

/-- A point so often, the sign taken ahead. -/
def pTim (k : Int) (P : Pt) : Pt := if Int.tmod k 12108 < 0 then pMul (pNeg P) (Int.tmod k 12108).natAbs else pMul P (Int.tmod k 12108).natAbs
theorem ptimes_tim {k : Int} {P : Pt} (h : pOkB P = true) : pTimes k P = pTim k P := by
  unfold pTimes pTim
  rw [if_pos h]
theorem tmod_12108 (k : Int) : -12108 < Int.tmod k 12108 ∧ Int.tmod k 12108 < 12108 := by
  have h1 := Int.tmod_lt_of_pos k (show (0 : Int) < 12108 by decide)
  have h2 := Int.lt_tmod_of_pos k (show (0 : Int) < 12108 by decide)
  omega

set_option maxHeartbeats 1600000 in
set_option maxRecDepth 100000 in
theorem timesC_any (v : Value) (P : Pt) (k : Int) (w : World) (hp : PAt w v P) (hP : POk P) :
    Calls Tryz.prog 126 #[v, .int .i64 k] w fun e w' => ∃ v', e = .returned v' ∧ PAt w' v' (pTim k P) ∧ Below w.heap.size w w' := by
  obtain ⟨n, hn⟩ : ∃ n, n = Int.tmod k 12108 := ⟨_, rfl⟩
  have hnb : -12108 < n ∧ n < 12108 := by rw [hn]; exact tmod_12108 k
  have HV : Hid (pTim k P = if n < 0 then pMul (pNeg P) n.natAbs else pMul P n.natAbs) := by rw [hn]; rfl
  have hk : Int.tmod k 12108 = n := hn.symm
  clear hn
  by_cases h1 : n < 0
  · obtain ⟨M, hMn⟩ : ∃ M : Nat, M = n.natAbs := ⟨_, rfl⟩
    have hMi : -n = (M : Int) := by omega
    have hM : M < 12108 := by omega
    have HT : Hid (pTim k P = pMul (pNeg P) M) := by rw [HV.out, if_pos h1, hMn]; rfl
    have HO : Hid (Calls Tryz.prog 181 #[v] w fun e w' => ∃ v', e = .returned v' ∧ PAt w' v' (pNeg P) ∧ Below w.heap.size w w') := opposite_any v P w hp hP
    have HB : Hid (POk (pNeg P)) := pneg_ok hP
    clear hMn HV hp hP
    generalize pTim k P = T at HT ⊢
    generalize pNeg P = B0 at HO HB HT
    go_enter Tryz.func126, Tryz.ntmps126
    go_wp2_with fail
    refine HO.out.mono ?_
    rintro e w1 ⟨v1, rfl, hv1, hb1⟩
    have HD0 : Hid (PAt w1 v1 B0 ∧ PAt w1 (.pointer none) pZ ∧ Below w.heap.size w w1) := ⟨hv1, pat_zero _, hb1⟩
    have HX0 : Hid (POk B0 ∧ POk pZ ∧ pAdd pZ (pMul B0 M) = T) := ⟨HB.out, pz_ok, by rw [HT.out]; rfl⟩
    clear hv1 hb1 HO HB HT
    go_wp2
    go_loopw [0, 1, 5] (fun p i s wr => ∃ (a d : Value) (m : Nat) (B R : Pt), a = p ∧ i = .int .i64 (m : Int) ∧ d = s ∧ m < 12108 ∧ Hid (POk B ∧ POk R ∧ pAdd R (pMul B m) = T) ∧ Hid (PAt wr a B ∧ PAt wr d R ∧ Below w.heap.size w wr)) (fun _ i _ _ => (intOf i).toNat)
    case atStart => exact ⟨_, _, M, B0, pZ, rfl, rfl, rfl, hM, HX0, HD0⟩
    case round =>
      obtain ⟨a, d, m, B, R, rfl, rfl, rfl, hm, HX, HD⟩ := hrel
      clear HX0 HD0
      by_cases h0 : 0 < m
      · have h0' : (0 : Int) < (m : Int) := by omega
        have hq : Int.tdiv (m : Int) 2 = ((m / 2 : Nat) : Int) := by rw [Int.tdiv_eq_ediv_of_nonneg (by omega)]; omega
        have hqb : m / 2 < m := by omega
        have HBB : Hid (∀ wx, PAt wx a B → Calls Tryz.prog 69 #[a, a] wx fun e w' => ∃ v', e = .returned v' ∧ PAt w' v' (pAdd B B) ∧ Below wx.heap.size wx w') := fun wx h => plusC_any _ _ _ _ wx h h HX.out.1 HX.out.1
        have HRB : Hid (∀ wx, PAt wx d R → PAt wx a B → Calls Tryz.prog 69 #[d, a] wx fun e w' => ∃ v', e = .returned v' ∧ PAt w' v' (pAdd R B) ∧ Below wx.heap.size wx w') := fun wx h h' => plusC_any _ _ _ _ wx h h' HX.out.2.1 HX.out.1
        by_cases h2 : m % 2 = 1
        · have h2' : Int.tmod (m : Int) 2 = 1 := by rw [Int.tmod_eq_emod_of_nonneg (by omega)]; omega
          have HN : Hid (POk (pAdd B B) ∧ POk (pAdd R B) ∧ pAdd (pAdd R B) (pMul (pAdd B B) (m / 2)) = T) := ⟨padd_ok HX.out.1 HX.out.1, padd_ok HX.out.2.1 HX.out.1, (dbl_odd HX.out.2.1 HX.out.1 h2).trans HX.out.2.2⟩
          generalize pAdd B B = B2 at HBB HN
          generalize pAdd R B = R2 at HRB HN
          generalize m / 2 = m2 at HN hq hqb
          clear h2 HX
          go_wp2_with fail
          refine (HRB.out _ HD.out.2.1 HD.out.1).mono ?_
          rintro e w5 ⟨s2, rfl, hs2, hb5⟩
          have hp5 := HD.out.1.on hb5
          have hB5 := below_then HD.out.2.2 hb5
          clear HD hb5 HRB
          go_wp2_with fail
          refine (HBB.out _ hp5).mono ?_
          rintro e w6 ⟨p2, rfl, hp2, hb6⟩
          have HD2 : Hid (PAt w6 p2 B2 ∧ PAt w6 s2 R2 ∧ Below w.heap.size w w6) := ⟨hp2, hs2.on hb6, below_then hB5 hb6⟩
          clear hp2 hs2 hB5 hb6 hp5 HBB
          go_wp2
          go_roundw
          case rel => exact ⟨_, _, m2, B2, R2, rfl, by go_num, rfl, by omega, HN, HD2⟩
          case measure => simp [intOf]; omega
        · have h2' : Int.tmod (m : Int) 2 = 0 := by rw [Int.tmod_eq_emod_of_nonneg (by omega)]; omega
          have HN : Hid (POk (pAdd B B) ∧ POk R ∧ pAdd R (pMul (pAdd B B) (m / 2)) = T) := ⟨padd_ok HX.out.1 HX.out.1, HX.out.2.1, (dbl_even HX.out.1 (by omega)).trans HX.out.2.2⟩
          generalize pAdd B B = B2 at HBB HN
          generalize m / 2 = m2 at HN hq hqb
          clear h2 HX HRB
          go_wp2_with fail
          refine (HBB.out _ HD.out.1).mono ?_
          rintro e w6 ⟨p2, rfl, hp2, hb6⟩
          have HD2 : Hid (PAt w6 p2 B2 ∧ PAt w6 d R ∧ Below w.heap.size w w6) := ⟨hp2, HD.out.2.1.on hb6, below_then HD.out.2.2 hb6⟩
          clear hp2 hb6 HD HBB
          go_wp2
          go_roundw
          case rel => exact ⟨_, _, m2, B2, R, rfl, by go_num, rfl, by omega, HN, HD2⟩
          case measure => simp [intOf]; omega
      · have h0' : ¬ (0 : Int) < (m : Int) := by omega
        obtain rfl : m = 0 := by omega
        have HE : Hid (R = T) := by have := HX.out.2.2; rwa [show pMul B 0 = pZ from rfl, padd_zero HX.out.2.1] at this
        clear HX
        go_wp2
        go_ret
        exact ⟨_, rfl, by rw [← HE.out]; exact HD.out.2.1, HD.out.2.2⟩
  · obtain ⟨M, hMn⟩ : ∃ M : Nat, M = n.natAbs := ⟨_, rfl⟩
    have hMi : n = (M : Int) := by omega
    have hM : M < 12108 := by omega
    have HX0 : Hid (POk P ∧ POk pZ ∧ pAdd pZ (pMul P M) = pTim k P) := ⟨hP, pz_ok, by rw [HV.out, if_neg h1, hMn]; rfl⟩
    have HD0 : Hid (PAt w v P ∧ PAt w (.pointer none) pZ ∧ Below w.heap.size w w) := ⟨hp, pat_zero _, Below.refl _ _⟩
    obtain ⟨B0, hB0⟩ : ∃ B0 : Pt, B0 = P := ⟨_, rfl⟩
    generalize pTim k P = T at HX0 ⊢
    rw [← hB0] at HX0 HD0
    clear hMn HV hp hP hB0
    go_enter Tryz.func126, Tryz.ntmps126
    go_wp2
    go_loopw [0, 1, 5] (fun p i s wr => ∃ (a d : Value) (m : Nat) (B R : Pt), a = p ∧ i = .int .i64 (m : Int) ∧ d = s ∧ m < 12108 ∧ Hid (POk B ∧ POk R ∧ pAdd R (pMul B m) = T) ∧ Hid (PAt wr a B ∧ PAt wr d R ∧ Below w.heap.size w wr)) (fun _ i _ _ => (intOf i).toNat)
    case atStart => exact ⟨_, _, M, B0, pZ, rfl, rfl, rfl, hM, HX0, HD0⟩
    case round =>
      obtain ⟨a, d, m, B, R, rfl, rfl, rfl, hm, HX, HD⟩ := hrel
      clear HX0 HD0
      by_cases h0 : 0 < m
      · have h0' : (0 : Int) < (m : Int) := by omega
        have hq : Int.tdiv (m : Int) 2 = ((m / 2 : Nat) : Int) := by rw [Int.tdiv_eq_ediv_of_nonneg (by omega)]; omega
        have hqb : m / 2 < m := by omega
        have HBB : Hid (∀ wx, PAt wx a B → Calls Tryz.prog 69 #[a, a] wx fun e w' => ∃ v', e = .returned v' ∧ PAt w' v' (pAdd B B) ∧ Below wx.heap.size wx w') := fun wx h => plusC_any _ _ _ _ wx h h HX.out.1 HX.out.1
        have HRB : Hid (∀ wx, PAt wx d R → PAt wx a B → Calls Tryz.prog 69 #[d, a] wx fun e w' => ∃ v', e = .returned v' ∧ PAt w' v' (pAdd R B) ∧ Below wx.heap.size wx w') := fun wx h h' => plusC_any _ _ _ _ wx h h' HX.out.2.1 HX.out.1
        by_cases h2 : m % 2 = 1
        · have h2' : Int.tmod (m : Int) 2 = 1 := by rw [Int.tmod_eq_emod_of_nonneg (by omega)]; omega
          have HN : Hid (POk (pAdd B B) ∧ POk (pAdd R B) ∧ pAdd (pAdd R B) (pMul (pAdd B B) (m / 2)) = T) := ⟨padd_ok HX.out.1 HX.out.1, padd_ok HX.out.2.1 HX.out.1, (dbl_odd HX.out.2.1 HX.out.1 h2).trans HX.out.2.2⟩
          generalize pAdd B B = B2 at HBB HN
          generalize pAdd R B = R2 at HRB HN
          generalize m / 2 = m2 at HN hq hqb
          clear h2 HX
          go_wp2_with fail
          refine (HRB.out _ HD.out.2.1 HD.out.1).mono ?_
          rintro e w5 ⟨s2, rfl, hs2, hb5⟩
          have hp5 := HD.out.1.on hb5
          have hB5 := below_then HD.out.2.2 hb5
          clear HD hb5 HRB
          go_wp2_with fail
          refine (HBB.out _ hp5).mono ?_
          rintro e w6 ⟨p2, rfl, hp2, hb6⟩
          have HD2 : Hid (PAt w6 p2 B2 ∧ PAt w6 s2 R2 ∧ Below w.heap.size w w6) := ⟨hp2, hs2.on hb6, below_then hB5 hb6⟩
          clear hp2 hs2 hB5 hb6 hp5 HBB
          go_wp2
          go_roundw
          case rel => exact ⟨_, _, m2, B2, R2, rfl, by go_num, rfl, by omega, HN, HD2⟩
          case measure => simp [intOf]; omega
        · have h2' : Int.tmod (m : Int) 2 = 0 := by rw [Int.tmod_eq_emod_of_nonneg (by omega)]; omega
          have HN : Hid (POk (pAdd B B) ∧ POk R ∧ pAdd R (pMul (pAdd B B) (m / 2)) = T) := ⟨padd_ok HX.out.1 HX.out.1, HX.out.2.1, (dbl_even HX.out.1 (by omega)).trans HX.out.2.2⟩
          generalize pAdd B B = B2 at HBB HN
          generalize m / 2 = m2 at HN hq hqb
          clear h2 HX HRB
          go_wp2_with fail
          refine (HBB.out _ HD.out.1).mono ?_
          rintro e w6 ⟨p2, rfl, hp2, hb6⟩
          have HD2 : Hid (PAt w6 p2 B2 ∧ PAt w6 d R ∧ Below w.heap.size w w6) := ⟨hp2, HD.out.2.1.on hb6, below_then HD.out.2.2 hb6⟩
          clear hp2 hb6 HD HBB
          go_wp2
          go_roundw
          case rel => exact ⟨_, _, m2, B2, R, rfl, by go_num, rfl, by omega, HN, HD2⟩
          case measure => simp [intOf]; omega
      · have h0' : ¬ (0 : Int) < (m : Int) := by omega
        obtain rfl : m = 0 := by omega
        have HE : Hid (R = T) := by have := HX.out.2.2; rwa [show pMul B 0 = pZ from rfl, padd_zero HX.out.2.1] at this
        clear HX
        go_wp2
        go_ret
        exact ⟨_, rfl, by rw [← HE.out]; exact HD.out.2.1, HD.out.2.2⟩

end Go.Proofs.YthnahalboomkoaaGreat

/-
  The walks of the program's points.
  (-DROP-: what the seat lacks is left out.)
-/
namespace Go.Proofs.YthnahalboomkoaaGreat
open Go.RowKit

set_option maxRecDepth 100000 in
theorem iBase_any (w : World) :
    Calls Tryz.prog 20 #[] w fun e w' => e = .returned (pv pB) ∧ Below w.heap.size w w' := by
  go_enter Tryz.func20, Tryz.ntmps20
  go_wp2
  refine bodyPost_ret_by (result_blk rfl rfl (Blk.newAt (by simp)) Tryz.underlying35 infoP) rfl ⟨rfl, (Below.refl _ _).alloc (Nat.le_refl _) _⟩

set_option maxHeartbeats 1600000 in
set_option maxRecDepth 100000 in
theorem iTimes_any (k : Int) (P : Pt) (w : World) :
    Calls Tryz.prog 48 #[.int .i64 k, pv P] w fun e w' => e = .returned (pv (pTimes k P)) ∧ Below w.heap.size w w' := by
  have HP : Hid (∀ w, Calls Tryz.prog 68 #[pv P] w fun e w' => ∃ v', e = .returned (.tuple #[v', .bool (pOkB P)]) ∧ (pOkB P = true → PAt w' v' P) ∧ Below w.heap.size w w') := placeOf_any P
  have HS : Hid (pOkB P = true → ∀ w v, PAt w v P → Calls Tryz.prog 126 #[v, .int .i64 k] w fun e w' => ∃ v', e = .returned v' ∧ PAt w' v' (pTim k P) ∧ Below w.heap.size w w') := fun h1 w v h3 => timesC_any v P k w h3 (pokB.1 h1)
  have HG : Hid (∀ w v, PAt w v (pTim k P) → Calls Tryz.prog 70 #[v] w fun e w' => e = .returned (pv (pTim k P)) ∧ Below w.heap.size w w') := fun w v h => point_any v _ w h
  rw [show pTimes k P = if pOkB P = true then pTim k P else pZ from rfl]
  generalize pOkB P = a at HP HS ⊢
  generalize pTim k P = S at HS HG ⊢
  obtain ⟨x, y, z⟩ := P
  unfold pv at HP HG ⊢
  simp only at HP HG ⊢
  go_enter Tryz.func48, Tryz.ntmps48
  go_wp2_with fail
  obtain ⟨W, hW, hb, hx, hr⟩ := boxes1r w 35 35 #[.int .i64 x, .int .i64 y, .bool z] #[.int .i64 0, .int .i64 0, .bool false]
  rw [hW]
  clear hW
  refine (HP.out _).mono ?_
  rintro e w1 ⟨v1, rfl, hv1, hb1⟩
  have H1 : Hid (a = true → PAt w1 v1 (x, y, z)) := hv1
  have hr1 := hr.on hb1 hr.lt
  have hB1 := below_then hb hb1
  clear hx hr hb hb1 hv1 HP
  cases a
  · go_wp2_with (refine store_blk (cs' := pc pZ) rfl rfl rfl rfl rfl hr1 infoP rfl (ones3 _ _ _) ?_; intro V h5 hoth hbel; have hbV := hbel _ _ (by omega) hB1; clear hoth hbel)
    refine bodyPost_ret_by (result_blk rfl rfl h5 Tryz.underlying35 infoP) rfl ⟨rfl, hbV⟩
  · go_wp2_with fail
    refine (HS.out (by trivial) _ _ (H1.out (by trivial))).mono ?_
    rintro e w3 ⟨v3, rfl, hv3, hb3⟩
    have hr3 := hr1.on hb3 hr1.lt
    have hB3 := below_then hB1 hb3
    clear hr1 hB1 hb3 H1 HS
    go_wp2_with fail
    refine (HG.out _ _ hv3).mono ?_
    rintro e w4 ⟨rfl, hb4⟩
    have hr4 := hr3.on hb4 hr3.lt
    have hB4 := below_then hB3 hb4
    clear hr3 hB3 hb4 hv3 HG
    go_wp2_with (refine store_blk (cs' := pc S) rfl rfl rfl rfl rfl hr4 infoP rfl (ones3 _ _ _) ?_; intro V h5 hoth hbel; have hbV := hbel _ _ (by omega) hB4; clear hoth hbel)
    refine bodyPost_ret_by (result_blk rfl rfl h5 Tryz.underlying35 infoP) rfl ⟨rfl, hbV⟩

end Go.Proofs.YthnahalboomkoaaGreat
