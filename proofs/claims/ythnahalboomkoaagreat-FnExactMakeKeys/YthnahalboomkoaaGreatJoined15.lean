/-
  Texts of one's own, joined.
-/
import Derived.Test.YthnahalboomkoaaGreatPtS

/-
  The walks of the specification's points: sums, so often, the group.
  (-DROP-: what the seat lacks is left out.)
-/
namespace Go.Proofs.YthnahalboomkoaaGreat
open Go.RowKit

theorem tmod_times (k : Int) : -12108 < Int.tmod k 12108 ∧ Int.tmod k 12108 < 12108 := by
  rcases Int.lt_or_le k 0 with h | h
  · have e : Int.tmod k 12108 = -((-k) % 12108) := by
      have := Int.neg_tmod (a := -k) (b := 12108)
      rw [Int.neg_neg] at this
      rw [this, Int.tmod_eq_emod_of_nonneg (by omega)]
    omega
  · rw [Int.tmod_eq_emod_of_nonneg h]; omega

/-- What the loop of the doubling needs: the world, the blocks of b, out and the answer. -/
structure DblAt (w wr : World) (g6 g7 g4 : Nat) (B R : Pt) : Prop where
  b : Blk wr g6 35 (pc B)
  o : Blk wr g7 35 (pc R)
  r : Blk wr g4 35 #[.int .i64 0, .int .i64 0, .bool false]
  bel : Below w.heap.size w wr

set_option maxHeartbeats 1600000 in
set_option maxRecDepth 100000 in
theorem sTimes_any (k : Int) (P : Pt) (w : World) :
    Calls Tryz.prog 90 #[.int .i64 k, pv P] w fun e w' => e = .returned (pv (pTimes k P)) ∧ Below w.heap.size w w' := by
  have HP : Hid (∀ w, Calls Tryz.prog 148 #[pv P] w fun e w' => e = .returned (.bool (pOkB P)) ∧ Below w.heap.size w w') := sPOk_any P
  have HO : Hid (pOkB P = true → POk P) := fun h => pokB.1 h
  have ht := tmod_times k
  unfold pTimes
  generalize pOkB P = a at HP HO ⊢
  obtain ⟨n, hn⟩ : ∃ n, n = Int.tmod k 12108 := ⟨_, rfl⟩
  have hn' := hn.symm
  rw [← hn] at ht ⊢
  clear hn
  obtain ⟨x, y, z⟩ := P
  unfold pv at HP
  simp only at HP
  cases a
  · simp only [Bool.false_eq_true, if_false]
    unfold pv
    go_enter Tryz.func90, Tryz.ntmps90
    go_wp2_with fail
    obtain ⟨W, hW, hb, hx, hr⟩ := boxes1r w 35 35 #[.int .i64 x, .int .i64 y, .bool z] #[.int .i64 0, .int .i64 0, .bool false]
    rw [hW]
    clear hW
    refine (HP.out _).mono ?_
    rintro e w1 ⟨rfl, hb1⟩
    have hx1 := hx.on hb1 hx.lt
    have hr1 := hr.on hb1 hr.lt
    have hB1 := below_then hb hb1
    have hl1 : w.heap.size + 1 < w1.heap.size := hr1.lt
    clear hx hr hb hb1 HP
    clear hx1
    go_wp2_with fail
    refine (sZero_any _).mono ?_
    rintro e w2 ⟨rfl, hb2⟩
    have hr2 := hr1.on hb2 hr1.lt
    have hB2 := below_then hB1 hb2
    clear hr1 hB1 hb2
    go_wp2_with (refine store_blk (cs' := pc pZ) rfl rfl rfl rfl rfl hr2 infoP rfl (ones3 _ _ _) ?_; intro V h5 hoth hbel; have hbV := hbel _ _ (by omega) hB2; clear hoth hbel)
    refine bodyPost_ret_by (result_blk rfl rfl h5 Tryz.underlying35 infoP) rfl ⟨rfl, hbV⟩
  · simp only [if_true]
    by_cases h1 : n < 0
    · have HZ : Hid (∀ w, Calls Tryz.prog 106 #[] w fun e w' => e = .returned (.agg #[.int .i64 0, .int .i64 0, .bool true]) ∧ Below w.heap.size w w') := sZero_any
      have h1n : n < 0 := h1
      obtain ⟨M, hMn⟩ : ∃ M : Nat, M = n.natAbs := ⟨_, rfl⟩
      have hMi : -n = (M : Int) := by omega
      have hM : M < 12108 := by omega
      have HG : Hid (∀ w, Calls Tryz.prog 157 #[pv (x, y, z)] w fun e w' => e = .returned (pv (pNeg (x, y, z))) ∧ Below w.heap.size w w') := sNeg_any (x, y, z)
      obtain ⟨T, hT⟩ : ∃ T, T = pMul (pNeg (x, y, z)) M := ⟨_, rfl⟩
      have HT : Hid (POk (pNeg (x, y, z)) ∧ POk pZ ∧ pAdd pZ (pMul (pNeg (x, y, z)) M) = T) := ⟨pneg_ok (HO.out rfl), pz_ok, by rw [hT]; rfl⟩
      rw [if_pos h1n, ← hMn, ← hT]
      clear hT HO hMn
      generalize pNeg (x, y, z) = B0 at HT HG
      unfold pv at HG
      unfold pv
      go_enter Tryz.func90, Tryz.ntmps90
      go_wp2_with fail
      obtain ⟨W, hW, hb, hx, hr⟩ := boxes1r w 35 35 #[.int .i64 x, .int .i64 y, .bool z] #[.int .i64 0, .int .i64 0, .bool false]
      rw [hW]
      clear hW
      refine (HP.out _).mono ?_
      rintro e w1 ⟨rfl, hb1⟩
      have hx1 := hx.on hb1 hx.lt
      have hr1 := hr.on hb1 hr.lt
      have hB1 := below_then hb hb1
      have hl1 : w.heap.size + 1 < w1.heap.size := hr1.lt
      clear hx hr hb hb1 HP
      go_wp2_with (first | (refine load_blk rfl rfl rfl hx1 Tryz.underlying35 infoP ?_) | (refine load_blk rfl rfl rfl (hx1.alloc _) Tryz.underlying35 infoP ?_))
      obtain ⟨W2, hW2, hb2, h6⟩ := box1 w1 35 #[.int .i64 x, .int .i64 y, .bool z]
      rw [hW2]
      have hx2 := hx1.on hb2 hx1.lt
      have hr2 := hr1.on hb2 hr1.lt
      have hB2 := below_then hB1 hb2
      clear hx1 hr1 hB1 hb2 hW2
      refine (HG.out _).mono ?_
      rintro e w3 ⟨rfl, hb3⟩
      have h6a := h6.on hb3 h6.lt
      have hr3 := hr2.on hb3 hr2.lt
      have hB3 := below_then hB2 hb3
      clear h6 hr2 hB2 hb3 hx2
      go_wp2_with (first | (refine store_blk (cs' := pc B0) rfl rfl rfl rfl rfl h6a infoP rfl (ones3 _ _ _) ?_; intro V h6b hoth hbel; have hr3b := hoth _ _ _ (by omega) hr3; have hB3b := hbel _ _ (by omega) hB3; clear hoth hbel h6a hr3 hB3) | fail)
      refine (HZ.out _).mono ?_
      rintro e w4 ⟨rfl, hb4⟩
      have h6c := h6b.on hb4 h6b.lt
      have hr4 := hr3b.on hb4 hr3b.lt
      have hB4 := below_then hB3b hb4
      clear h6b hr3b hB3b hb4
      go_wp2
      obtain ⟨W5, hW5, hb5, h7⟩ := box1 w4 35 #[.int .i64 0, .int .i64 0, .bool true]
      rw [hW5]
      have HD0 : Hid (DblAt w W5 w1.heap.size w4.heap.size (w.heap.size + 1) B0 pZ) := ⟨h6c.on hb5 h6c.lt, h7, hr4.on hb5 hr4.lt, below_then hB4 hb5⟩
      have hl4 : w1.heap.size < w4.heap.size := h6c.lt
      clear hb5 h7 h6c hr4 hB4 hW5
      go_loopw [5] (fun i wr => ∃ (m : Nat) (B R : Pt), i = .int .i64 (m : Int) ∧ m < 12108 ∧ Hid (POk B ∧ POk R ∧ pAdd R (pMul B m) = T) ∧ Hid (DblAt w wr w1.heap.size w4.heap.size (w.heap.size + 1) B R)) (fun i _ => (intOf i).toNat)
      case atStart => exact ⟨M, B0, pZ, rfl, hM, HT, HD0⟩
      case round =>
        obtain ⟨m, B, R, rfl, hm, HX, HD⟩ := hrel
        clear HT HD0
        by_cases h0 : 0 < m
        · have h0' : (0 : Int) < (m : Int) := by omega
          have hq : Int.tdiv (m : Int) 2 = ((m / 2 : Nat) : Int) := by rw [Int.tdiv_eq_ediv_of_nonneg (by omega)]; omega
          have hqb : m / 2 < m := by omega
          have HBB : Hid (∀ w, Calls Tryz.prog 149 #[pv B, pv B] w fun e w' => e = .returned (pv (pAdd B B)) ∧ Below w.heap.size w w') := sAddR_any B B
          have HRB : Hid (∀ w, Calls Tryz.prog 149 #[pv R, pv B] w fun e w' => e = .returned (pv (pAdd R B)) ∧ Below w.heap.size w w') := sAddR_any R B
          have hb6 := HD.out.b
          have ho7 := HD.out.o
          have hr4 := HD.out.r
          have hBr := HD.out.bel
          clear HD
          by_cases h2 : m % 2 = 1
          · have h2' : Int.tmod (m : Int) 2 = 1 := by rw [Int.tmod_eq_emod_of_nonneg (by omega)]; omega
            have HN : Hid (POk (pAdd B B) ∧ POk (pAdd R B) ∧ pAdd (pAdd R B) (pMul (pAdd B B) (m / 2)) = T) := ⟨padd_ok HX.out.1 HX.out.1, padd_ok HX.out.2.1 HX.out.1, (dbl_odd HX.out.2.1 HX.out.1 h2).trans HX.out.2.2⟩
            generalize pAdd B B = B2 at HBB HN
            generalize pAdd R B = R2 at HRB HN
            generalize m / 2 = m2 at HN hq hqb
            clear h2 HX
            go_wp2_with (first | (refine load_blk rfl rfl rfl ho7 Tryz.underlying35 infoP ?_) | (refine load_blk rfl rfl rfl hb6 Tryz.underlying35 infoP ?_))
            refine (HRB.out _).mono ?_
            rintro e w5 ⟨rfl, hw5⟩
            have hb6a := hb6.on hw5 hb6.lt
            have ho7a := ho7.on hw5 ho7.lt
            have hr4a := hr4.on hw5 hr4.lt
            have hBa := below_then hBr hw5
            clear hb6 ho7 hr4 hBr hw5
            go_wp2_with (first | (refine store_blk (cs' := pc R2) rfl rfl rfl rfl rfl ho7a infoP rfl (ones3 _ _ _) ?_; intro V ho7b hoth hbel; have hb6b := hoth _ _ _ (by omega) hb6a; have hr4b := hoth _ _ _ (by omega) hr4a; have hBb := hbel _ _ (by omega) hBa; clear hoth hbel ho7a hb6a hr4a hBa) | (refine load_blk rfl rfl rfl hb6b Tryz.underlying35 infoP ?_))
            refine (HBB.out _).mono ?_
            rintro e w6 ⟨rfl, hw6⟩
            have hb6c := hb6b.on hw6 hb6b.lt
            have ho7c := ho7b.on hw6 ho7b.lt
            have hr4c := hr4b.on hw6 hr4b.lt
            have hBc := below_then hBb hw6
            clear hb6b ho7b hr4b hBb hw6
            go_wp2_with (refine store_blk (cs' := pc B2) rfl rfl rfl rfl rfl hb6c infoP rfl (ones3 _ _ _) ?_; intro U hb6d hoth hbel; have ho7d := hoth _ _ _ (by omega) ho7c; have hr4d := hoth _ _ _ (by omega) hr4c; have hBd := hbel _ _ (by omega) hBc; clear hoth hbel ho7c hb6c hr4c hBc)
            have HD2 : Hid (DblAt w U w1.heap.size w4.heap.size (w.heap.size + 1) B2 R2) := ⟨hb6d, ho7d, hr4d, hBd⟩
            clear hb6d ho7d hr4d hBd
            go_roundw
            case rel => exact ⟨m2, B2, R2, by go_num, by omega, HN, HD2⟩
            case measure => simp [intOf]; omega
          · have h2' : Int.tmod (m : Int) 2 = 0 := by rw [Int.tmod_eq_emod_of_nonneg (by omega)]; omega
            have HN : Hid (POk (pAdd B B) ∧ POk R ∧ pAdd R (pMul (pAdd B B) (m / 2)) = T) := ⟨padd_ok HX.out.1 HX.out.1, HX.out.2.1, (dbl_even HX.out.1 (by omega)).trans HX.out.2.2⟩
            generalize pAdd B B = B2 at HBB HN
            generalize m / 2 = m2 at HN hq hqb
            clear h2 HX HRB
            go_wp2_with (refine load_blk rfl rfl rfl hb6 Tryz.underlying35 infoP ?_)
            refine (HBB.out _).mono ?_
            rintro e w6 ⟨rfl, hw6⟩
            have hb6c := hb6.on hw6 hb6.lt
            have ho7c := ho7.on hw6 ho7.lt
            have hr4c := hr4.on hw6 hr4.lt
            have hBc := below_then hBr hw6
            clear hb6 ho7 hr4 hBr hw6
            go_wp2_with (refine store_blk (cs' := pc B2) rfl rfl rfl rfl rfl hb6c infoP rfl (ones3 _ _ _) ?_; intro U hb6d hoth hbel; have ho7d := hoth _ _ _ (by omega) ho7c; have hr4d := hoth _ _ _ (by omega) hr4c; have hBd := hbel _ _ (by omega) hBc; clear hoth hbel ho7c hb6c hr4c hBc)
            have HD2 : Hid (DblAt w U w1.heap.size w4.heap.size (w.heap.size + 1) B2 R) := ⟨hb6d, ho7d, hr4d, hBd⟩
            clear hb6d ho7d hr4d hBd
            go_roundw
            case rel => exact ⟨m2, B2, R, by go_num, by omega, HN, HD2⟩
            case measure => simp [intOf]; omega
        · have h0' : ¬ (0 : Int) < (m : Int) := by omega
          obtain rfl : m = 0 := by omega
          have HE : Hid (R = T) := by have := HX.out.2.2; rwa [show pMul B 0 = pZ from rfl, padd_zero HX.out.2.1] at this
          have ho7 := HD.out.o
          have hr4 := HD.out.r
          have hBr := HD.out.bel
          clear HX HD
          go_wp2_with (first | (refine load_blk rfl rfl rfl ho7 Tryz.underlying35 infoP ?_) | (refine store_blk (cs' := pc R) rfl rfl rfl rfl rfl hr4 infoP rfl (ones3 _ _ _) ?_; intro V h5 hoth hbel; have hbV := hbel _ _ (by omega) hBr; clear hoth hbel))
          refine bodyPost_ret_by (result_blk rfl rfl h5 Tryz.underlying35 infoP) rfl ⟨by rw [← HE.out]; rfl, hbV⟩
    · have HZ : Hid (∀ w, Calls Tryz.prog 106 #[] w fun e w' => e = .returned (.agg #[.int .i64 0, .int .i64 0, .bool true]) ∧ Below w.heap.size w w') := sZero_any
      have h1n : ¬ n < 0 := by omega
      obtain ⟨M, hMn⟩ : ∃ M : Nat, M = n.natAbs := ⟨_, rfl⟩
      have hMi : n = (M : Int) := by omega
      have hM : M < 12108 := by omega
      obtain ⟨T, hT⟩ : ∃ T, T = pMul (x, y, z) M := ⟨_, rfl⟩
      have HT : Hid (POk (x, y, z) ∧ POk pZ ∧ pAdd pZ (pMul (x, y, z) M) = T) := ⟨HO.out rfl, pz_ok, by rw [hT]; rfl⟩
      obtain ⟨B0, hB0⟩ : ∃ B0 : Pt, B0 = (x, y, z) := ⟨_, rfl⟩
      rw [if_neg h1n, ← hMn, ← hT]
      rw [← hB0] at HT
      clear hT HO hMn
      unfold pv
      go_enter Tryz.func90, Tryz.ntmps90
      go_wp2_with fail
      obtain ⟨W, hW, hb, hx, hr⟩ := boxes1r w 35 35 #[.int .i64 x, .int .i64 y, .bool z] #[.int .i64 0, .int .i64 0, .bool false]
      rw [hW]
      clear hW
      refine (HP.out _).mono ?_
      rintro e w1 ⟨rfl, hb1⟩
      have hx1 := hx.on hb1 hx.lt
      have hr1 := hr.on hb1 hr.lt
      have hB1 := below_then hb hb1
      have hl1 : w.heap.size + 1 < w1.heap.size := hr1.lt
      clear hx hr hb hb1 HP
      go_wp2_with (refine load_blk rfl rfl rfl hx1 Tryz.underlying35 infoP ?_)
      obtain ⟨W2, hW2, hb2, h6⟩ := box1 w1 35 #[.int .i64 x, .int .i64 y, .bool z]
      rw [hW2]
      have hx2 := hx1.on hb2 hx1.lt
      have hr2 := hr1.on hb2 hr1.lt
      have hB2 := below_then hB1 hb2
      clear hx1 hr1 hB1 hb2 hW2
      clear hx2
      have h6' : Blk W2 w1.heap.size 35 (pc B0) := by rw [hB0]; exact h6
      clear h6 hB0
      refine (HZ.out _).mono ?_
      rintro e w4 ⟨rfl, hb4⟩
      have h6c := h6'.on hb4 h6'.lt
      have hr4 := hr2.on hb4 hr2.lt
      have hB4 := below_then hB2 hb4
      clear h6' hr2 hB2 hb4
      go_wp2
      obtain ⟨W5, hW5, hb5, h7⟩ := box1 w4 35 #[.int .i64 0, .int .i64 0, .bool true]
      rw [hW5]
      have HD0 : Hid (DblAt w W5 w1.heap.size w4.heap.size (w.heap.size + 1) B0 pZ) := ⟨h6c.on hb5 h6c.lt, h7, hr4.on hb5 hr4.lt, below_then hB4 hb5⟩
      have hl4 : w1.heap.size < w4.heap.size := h6c.lt
      clear hb5 h7 h6c hr4 hB4 hW5
      go_loopw [5] (fun i wr => ∃ (m : Nat) (B R : Pt), i = .int .i64 (m : Int) ∧ m < 12108 ∧ Hid (POk B ∧ POk R ∧ pAdd R (pMul B m) = T) ∧ Hid (DblAt w wr w1.heap.size w4.heap.size (w.heap.size + 1) B R)) (fun i _ => (intOf i).toNat)
      case atStart => exact ⟨M, B0, pZ, rfl, hM, HT, HD0⟩
      case round =>
        obtain ⟨m, B, R, rfl, hm, HX, HD⟩ := hrel
        clear HT HD0
        by_cases h0 : 0 < m
        · have h0' : (0 : Int) < (m : Int) := by omega
          have hq : Int.tdiv (m : Int) 2 = ((m / 2 : Nat) : Int) := by rw [Int.tdiv_eq_ediv_of_nonneg (by omega)]; omega
          have hqb : m / 2 < m := by omega
          have HBB : Hid (∀ w, Calls Tryz.prog 149 #[pv B, pv B] w fun e w' => e = .returned (pv (pAdd B B)) ∧ Below w.heap.size w w') := sAddR_any B B
          have HRB : Hid (∀ w, Calls Tryz.prog 149 #[pv R, pv B] w fun e w' => e = .returned (pv (pAdd R B)) ∧ Below w.heap.size w w') := sAddR_any R B
          have hb6 := HD.out.b
          have ho7 := HD.out.o
          have hr4 := HD.out.r
          have hBr := HD.out.bel
          clear HD
          by_cases h2 : m % 2 = 1
          · have h2' : Int.tmod (m : Int) 2 = 1 := by rw [Int.tmod_eq_emod_of_nonneg (by omega)]; omega
            have HN : Hid (POk (pAdd B B) ∧ POk (pAdd R B) ∧ pAdd (pAdd R B) (pMul (pAdd B B) (m / 2)) = T) := ⟨padd_ok HX.out.1 HX.out.1, padd_ok HX.out.2.1 HX.out.1, (dbl_odd HX.out.2.1 HX.out.1 h2).trans HX.out.2.2⟩
            generalize pAdd B B = B2 at HBB HN
            generalize pAdd R B = R2 at HRB HN
            generalize m / 2 = m2 at HN hq hqb
            clear h2 HX
            go_wp2_with (first | (refine load_blk rfl rfl rfl ho7 Tryz.underlying35 infoP ?_) | (refine load_blk rfl rfl rfl hb6 Tryz.underlying35 infoP ?_))
            refine (HRB.out _).mono ?_
            rintro e w5 ⟨rfl, hw5⟩
            have hb6a := hb6.on hw5 hb6.lt
            have ho7a := ho7.on hw5 ho7.lt
            have hr4a := hr4.on hw5 hr4.lt
            have hBa := below_then hBr hw5
            clear hb6 ho7 hr4 hBr hw5
            go_wp2_with (first | (refine store_blk (cs' := pc R2) rfl rfl rfl rfl rfl ho7a infoP rfl (ones3 _ _ _) ?_; intro V ho7b hoth hbel; have hb6b := hoth _ _ _ (by omega) hb6a; have hr4b := hoth _ _ _ (by omega) hr4a; have hBb := hbel _ _ (by omega) hBa; clear hoth hbel ho7a hb6a hr4a hBa) | (refine load_blk rfl rfl rfl hb6b Tryz.underlying35 infoP ?_))
            refine (HBB.out _).mono ?_
            rintro e w6 ⟨rfl, hw6⟩
            have hb6c := hb6b.on hw6 hb6b.lt
            have ho7c := ho7b.on hw6 ho7b.lt
            have hr4c := hr4b.on hw6 hr4b.lt
            have hBc := below_then hBb hw6
            clear hb6b ho7b hr4b hBb hw6
            go_wp2_with (refine store_blk (cs' := pc B2) rfl rfl rfl rfl rfl hb6c infoP rfl (ones3 _ _ _) ?_; intro U hb6d hoth hbel; have ho7d := hoth _ _ _ (by omega) ho7c; have hr4d := hoth _ _ _ (by omega) hr4c; have hBd := hbel _ _ (by omega) hBc; clear hoth hbel ho7c hb6c hr4c hBc)
            have HD2 : Hid (DblAt w U w1.heap.size w4.heap.size (w.heap.size + 1) B2 R2) := ⟨hb6d, ho7d, hr4d, hBd⟩
            clear hb6d ho7d hr4d hBd
            go_roundw
            case rel => exact ⟨m2, B2, R2, by go_num, by omega, HN, HD2⟩
            case measure => simp [intOf]; omega
          · have h2' : Int.tmod (m : Int) 2 = 0 := by rw [Int.tmod_eq_emod_of_nonneg (by omega)]; omega
            have HN : Hid (POk (pAdd B B) ∧ POk R ∧ pAdd R (pMul (pAdd B B) (m / 2)) = T) := ⟨padd_ok HX.out.1 HX.out.1, HX.out.2.1, (dbl_even HX.out.1 (by omega)).trans HX.out.2.2⟩
            generalize pAdd B B = B2 at HBB HN
            generalize m / 2 = m2 at HN hq hqb
            clear h2 HX HRB
            go_wp2_with (refine load_blk rfl rfl rfl hb6 Tryz.underlying35 infoP ?_)
            refine (HBB.out _).mono ?_
            rintro e w6 ⟨rfl, hw6⟩
            have hb6c := hb6.on hw6 hb6.lt
            have ho7c := ho7.on hw6 ho7.lt
            have hr4c := hr4.on hw6 hr4.lt
            have hBc := below_then hBr hw6
            clear hb6 ho7 hr4 hBr hw6
            go_wp2_with (refine store_blk (cs' := pc B2) rfl rfl rfl rfl rfl hb6c infoP rfl (ones3 _ _ _) ?_; intro U hb6d hoth hbel; have ho7d := hoth _ _ _ (by omega) ho7c; have hr4d := hoth _ _ _ (by omega) hr4c; have hBd := hbel _ _ (by omega) hBc; clear hoth hbel ho7c hb6c hr4c hBc)
            have HD2 : Hid (DblAt w U w1.heap.size w4.heap.size (w.heap.size + 1) B2 R) := ⟨hb6d, ho7d, hr4d, hBd⟩
            clear hb6d ho7d hr4d hBd
            go_roundw
            case rel => exact ⟨m2, B2, R, by go_num, by omega, HN, HD2⟩
            case measure => simp [intOf]; omega
        · have h0' : ¬ (0 : Int) < (m : Int) := by omega
          obtain rfl : m = 0 := by omega
          have HE : Hid (R = T) := by have := HX.out.2.2; rwa [show pMul B 0 = pZ from rfl, padd_zero HX.out.2.1] at this
          have ho7 := HD.out.o
          have hr4 := HD.out.r
          have hBr := HD.out.bel
          clear HX HD
          go_wp2_with (first | (refine load_blk rfl rfl rfl ho7 Tryz.underlying35 infoP ?_) | (refine store_blk (cs' := pc R) rfl rfl rfl rfl rfl hr4 infoP rfl (ones3 _ _ _) ?_; intro V h5 hoth hbel; have hbV := hbel _ _ (by omega) hBr; clear hoth hbel))
          refine bodyPost_ret_by (result_blk rfl rfl h5 Tryz.underlying35 infoP) rfl ⟨by rw [← HE.out]; rfl, hbV⟩

end Go.Proofs.YthnahalboomkoaaGreat

/-
  The walks of the specification's points: the group, sums of lists.
  (-DROP-: what the seat lacks is left out.)
-/
namespace Go.Proofs.YthnahalboomkoaaGreat
open Go.RowKit

/-- What a list of points holds; it lies below block c. -/
def PtsAt (w : World) (a : Option Addr) (len c : Nat) (f : Nat → Pt) : Prop :=
  ∀ j, j < len → ∃ b off, a = some ⟨b, off, none⟩ ∧ b < c ∧ w.cell? ⟨b, off + j * 3, none⟩ = some (.int .i64 (f j).1) ∧ w.cell? ⟨b, off + j * 3 + 1, none⟩ = some (.int .i64 (f j).2.1) ∧ w.cell? ⟨b, off + j * 3 + 2, none⟩ = some (.bool (f j).2.2)

theorem PtsAt.on {w w1 : World} {a : Option Addr} {len c : Nat} {f : Nat → Pt} (h : PtsAt w a len c f) (hb : Below c w w1) : PtsAt w1 a len c f := fun j hj => by
  obtain ⟨b, off, h1, h2, h3, h4, h5⟩ := h j hj
  exact ⟨b, off, h1, h2, (hb.cell (p := ⟨b, off + j * 3, none⟩) h2).trans h3, (hb.cell (p := ⟨b, off + j * 3 + 1, none⟩) h2).trans h4, (hb.cell (p := ⟨b, off + j * 3 + 2, none⟩) h2).trans h5⟩

theorem PtsAt.wide {w : World} {a : Option Addr} {len c d : Nat} {f : Nat → Pt} (h : PtsAt w a len c f) (hd : c ≤ d) : PtsAt w a len d f := fun j hj => by
  obtain ⟨b, off, h1, h2, h3⟩ := h j hj
  exact ⟨b, off, h1, by omega, h3⟩

end Go.Proofs.YthnahalboomkoaaGreat
