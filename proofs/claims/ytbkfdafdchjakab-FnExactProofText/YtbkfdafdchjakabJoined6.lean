/-
  Texts of one's own, joined.
-/
import Derived.Test.YtbkfdafdchjakabPtC3
import Derived.Test.YtbkfdafdchjakabJoined4

/-
  The walks of the program's places on the curve: so often, and their texts.
  (-DROP-: what the seat lacks is left out.)
-/
namespace Go.Proofs.Ytbkfdafdchjakab
open Go.RowKit

/-- A point so often, the sign taken ahead. -/
def pTim (k : Int) (P : Pt) : Pt := if Int.tmod k 12108 < 0 then pMul (pNeg P) (Int.tmod k 12108).natAbs else pMul P (Int.tmod k 12108).natAbs
theorem ptimes_tim {k : Int} {P : Pt} (h : pOkB P = true) : pTimes k P = pTim k P := by
  unfold pTimes pTim
  rw [if_pos h]
theorem tmod_12108 (k : Int) : -12108 < Int.tmod k 12108 ∧ Int.tmod k 12108 < 12108 := by
  have h1 := Int.tmod_lt_of_pos k (show (0 : Int) < 12108 by decide)
  have h2 := Int.lt_tmod_of_pos k (show (0 : Int) < 12108 by decide)
  omega

set_option maxHeartbeats 1600000 in
set_option maxRecDepth 100000 in
theorem timesC_any (v : Value) (P : Pt) (k : Int) (w : World) (hp : PAt w v P) (hP : POk P) :
    Calls Try.prog 98 #[v, .int .i64 k] w fun e w' => ∃ v', e = .returned v' ∧ PAt w' v' (pTim k P) ∧ Below w.heap.size w w' := by
  obtain ⟨n, hn⟩ : ∃ n, n = Int.tmod k 12108 := ⟨_, rfl⟩
  have hnb : -12108 < n ∧ n < 12108 := by rw [hn]; exact tmod_12108 k
  have HV : Hid (pTim k P = if n < 0 then pMul (pNeg P) n.natAbs else pMul P n.natAbs) := by rw [hn]; rfl
  have hk : Int.tmod k 12108 = n := hn.symm
  clear hn
  by_cases h1 : n < 0
  · obtain ⟨M, hMn⟩ : ∃ M : Nat, M = n.natAbs := ⟨_, rfl⟩
    have hMi : -n = (M : Int) := by omega
    have hM : M < 12108 := by omega
    have HT : Hid (pTim k P = pMul (pNeg P) M) := by rw [HV.out, if_pos h1, hMn]; rfl
    have HO : Hid (Calls Try.prog 132 #[v] w fun e w' => ∃ v', e = .returned v' ∧ PAt w' v' (pNeg P) ∧ Below w.heap.size w w') := opposite_any v P w hp hP
    have HB : Hid (POk (pNeg P)) := pneg_ok hP
    clear hMn HV hp hP
    generalize pTim k P = T at HT ⊢
    generalize pNeg P = B0 at HO HB HT
    go_enter Try.func98, Try.ntmps98
    go_wp2_with fail
    refine HO.out.mono ?_
    rintro e w1 ⟨v1, rfl, hv1, hb1⟩
    have HD0 : Hid (PAt w1 v1 B0 ∧ PAt w1 (.pointer none) pZ ∧ Below w.heap.size w w1) := ⟨hv1, pat_zero _, hb1⟩
    have HX0 : Hid (POk B0 ∧ POk pZ ∧ pAdd pZ (pMul B0 M) = T) := ⟨HB.out, pz_ok, by rw [HT.out]; rfl⟩
    clear hv1 hb1 HO HB HT
    go_wp2
    go_loopw [0, 1, 5] (fun p i s wr => ∃ (a d : Value) (m : Nat) (B R : Pt), a = p ∧ i = .int .i64 (m : Int) ∧ d = s ∧ m < 12108 ∧ Hid (POk B ∧ POk R ∧ pAdd R (pMul B m) = T) ∧ Hid (PAt wr a B ∧ PAt wr d R ∧ Below w.heap.size w wr)) (fun _ i _ _ => (intOf i).toNat)
    case atStart => exact ⟨_, _, M, B0, pZ, rfl, rfl, rfl, hM, HX0, HD0⟩
    case round =>
      obtain ⟨a, d, m, B, R, rfl, rfl, rfl, hm, HX, HD⟩ := hrel
      clear HX0 HD0
      by_cases h0 : 0 < m
      · have h0' : (0 : Int) < (m : Int) := by omega
        have hq : Int.tdiv (m : Int) 2 = ((m / 2 : Nat) : Int) := by rw [Int.tdiv_eq_ediv_of_nonneg (by omega)]; omega
        have hqb : m / 2 < m := by omega
        have HBB : Hid (∀ wx, PAt wx a B → Calls Try.prog 133 #[a, a] wx fun e w' => ∃ v', e = .returned v' ∧ PAt w' v' (pAdd B B) ∧ Below wx.heap.size wx w') := fun wx h => plusC_any _ _ _ _ wx h h HX.out.1 HX.out.1
        have HRB : Hid (∀ wx, PAt wx d R → PAt wx a B → Calls Try.prog 133 #[d, a] wx fun e w' => ∃ v', e = .returned v' ∧ PAt w' v' (pAdd R B) ∧ Below wx.heap.size wx w') := fun wx h h' => plusC_any _ _ _ _ wx h h' HX.out.2.1 HX.out.1
        by_cases h2 : m % 2 = 1
        · have h2' : Int.tmod (m : Int) 2 = 1 := by rw [Int.tmod_eq_emod_of_nonneg (by omega)]; omega
          have HN : Hid (POk (pAdd B B) ∧ POk (pAdd R B) ∧ pAdd (pAdd R B) (pMul (pAdd B B) (m / 2)) = T) := ⟨padd_ok HX.out.1 HX.out.1, padd_ok HX.out.2.1 HX.out.1, (dbl_odd HX.out.2.1 HX.out.1 h2).trans HX.out.2.2⟩
          generalize pAdd B B = B2 at HBB HN
          generalize pAdd R B = R2 at HRB HN
          generalize m / 2 = m2 at HN hq hqb
          clear h2 HX
          go_wp2_with fail
          refine (HRB.out _ HD.out.2.1 HD.out.1).mono ?_
          rintro e w5 ⟨s2, rfl, hs2, hb5⟩
          have hp5 := HD.out.1.on hb5
          have hB5 := below_then HD.out.2.2 hb5
          clear HD hb5 HRB
          go_wp2_with fail
          refine (HBB.out _ hp5).mono ?_
          rintro e w6 ⟨p2, rfl, hp2, hb6⟩
          have HD2 : Hid (PAt w6 p2 B2 ∧ PAt w6 s2 R2 ∧ Below w.heap.size w w6) := ⟨hp2, hs2.on hb6, below_then hB5 hb6⟩
          clear hp2 hs2 hB5 hb6 hp5 HBB
          go_wp2
          go_roundw
          case rel => exact ⟨_, _, m2, B2, R2, rfl, by go_num, rfl, by omega, HN, HD2⟩
          case measure => simp [intOf]; omega
        · have h2' : Int.tmod (m : Int) 2 = 0 := by rw [Int.tmod_eq_emod_of_nonneg (by omega)]; omega
          have HN : Hid (POk (pAdd B B) ∧ POk R ∧ pAdd R (pMul (pAdd B B) (m / 2)) = T) := ⟨padd_ok HX.out.1 HX.out.1, HX.out.2.1, (dbl_even HX.out.1 (by omega)).trans HX.out.2.2⟩
          generalize pAdd B B = B2 at HBB HN
          generalize m / 2 = m2 at HN hq hqb
          clear h2 HX HRB
          go_wp2_with fail
          refine (HBB.out _ HD.out.1).mono ?_
          rintro e w6 ⟨p2, rfl, hp2, hb6⟩
          have HD2 : Hid (PAt w6 p2 B2 ∧ PAt w6 d R ∧ Below w.heap.size w w6) := ⟨hp2, HD.out.2.1.on hb6, below_then HD.out.2.2 hb6⟩
          clear hp2 hb6 HD HBB
          go_wp2
          go_roundw
          case rel => exact ⟨_, _, m2, B2, R, rfl, by go_num, rfl, by omega, HN, HD2⟩
          case measure => simp [intOf]; omega
      · have h0' : ¬ (0 : Int) < (m : Int) := by omega
        obtain rfl : m = 0 := by omega
        have HE : Hid (R = T) := by have := HX.out.2.2; rwa [show pMul B 0 = pZ from rfl, padd_zero HX.out.2.1] at this
        clear HX
        go_wp2
        go_ret
        exact ⟨_, rfl, by rw [← HE.out]; exact HD.out.2.1, HD.out.2.2⟩
  · obtain ⟨M, hMn⟩ : ∃ M : Nat, M = n.natAbs := ⟨_, rfl⟩
    have hMi : n = (M : Int) := by omega
    have hM : M < 12108 := by omega
    have HX0 : Hid (POk P ∧ POk pZ ∧ pAdd pZ (pMul P M) = pTim k P) := ⟨hP, pz_ok, by rw [HV.out, if_neg h1, hMn]; rfl⟩
    have HD0 : Hid (PAt w v P ∧ PAt w (.pointer none) pZ ∧ Below w.heap.size w w) := ⟨hp, pat_zero _, Below.refl _ _⟩
    obtain ⟨B0, hB0⟩ : ∃ B0 : Pt, B0 = P := ⟨_, rfl⟩
    generalize pTim k P = T at HX0 ⊢
    rw [← hB0] at HX0 HD0
    clear hMn HV hp hP hB0
    go_enter Try.func98, Try.ntmps98
    go_wp2
    go_loopw [0, 1, 5] (fun p i s wr => ∃ (a d : Value) (m : Nat) (B R : Pt), a = p ∧ i = .int .i64 (m : Int) ∧ d = s ∧ m < 12108 ∧ Hid (POk B ∧ POk R ∧ pAdd R (pMul B m) = T) ∧ Hid (PAt wr a B ∧ PAt wr d R ∧ Below w.heap.size w wr)) (fun _ i _ _ => (intOf i).toNat)
    case atStart => exact ⟨_, _, M, B0, pZ, rfl, rfl, rfl, hM, HX0, HD0⟩
    case round =>
      obtain ⟨a, d, m, B, R, rfl, rfl, rfl, hm, HX, HD⟩ := hrel
      clear HX0 HD0
      by_cases h0 : 0 < m
      · have h0' : (0 : Int) < (m : Int) := by omega
        have hq : Int.tdiv (m : Int) 2 = ((m / 2 : Nat) : Int) := by rw [Int.tdiv_eq_ediv_of_nonneg (by omega)]; omega
        have hqb : m / 2 < m := by omega
        have HBB : Hid (∀ wx, PAt wx a B → Calls Try.prog 133 #[a, a] wx fun e w' => ∃ v', e = .returned v' ∧ PAt w' v' (pAdd B B) ∧ Below wx.heap.size wx w') := fun wx h => plusC_any _ _ _ _ wx h h HX.out.1 HX.out.1
        have HRB : Hid (∀ wx, PAt wx d R → PAt wx a B → Calls Try.prog 133 #[d, a] wx fun e w' => ∃ v', e = .returned v' ∧ PAt w' v' (pAdd R B) ∧ Below wx.heap.size wx w') := fun wx h h' => plusC_any _ _ _ _ wx h h' HX.out.2.1 HX.out.1
        by_cases h2 : m % 2 = 1
        · have h2' : Int.tmod (m : Int) 2 = 1 := by rw [Int.tmod_eq_emod_of_nonneg (by omega)]; omega
          have HN : Hid (POk (pAdd B B) ∧ POk (pAdd R B) ∧ pAdd (pAdd R B) (pMul (pAdd B B) (m / 2)) = T) := ⟨padd_ok HX.out.1 HX.out.1, padd_ok HX.out.2.1 HX.out.1, (dbl_odd HX.out.2.1 HX.out.1 h2).trans HX.out.2.2⟩
          generalize pAdd B B = B2 at HBB HN
          generalize pAdd R B = R2 at HRB HN
          generalize m / 2 = m2 at HN hq hqb
          clear h2 HX
          go_wp2_with fail
          refine (HRB.out _ HD.out.2.1 HD.out.1).mono ?_
          rintro e w5 ⟨s2, rfl, hs2, hb5⟩
          have hp5 := HD.out.1.on hb5
          have hB5 := below_then HD.out.2.2 hb5
          clear HD hb5 HRB
          go_wp2_with fail
          refine (HBB.out _ hp5).mono ?_
          rintro e w6 ⟨p2, rfl, hp2, hb6⟩
          have HD2 : Hid (PAt w6 p2 B2 ∧ PAt w6 s2 R2 ∧ Below w.heap.size w w6) := ⟨hp2, hs2.on hb6, below_then hB5 hb6⟩
          clear hp2 hs2 hB5 hb6 hp5 HBB
          go_wp2
          go_roundw
          case rel => exact ⟨_, _, m2, B2, R2, rfl, by go_num, rfl, by omega, HN, HD2⟩
          case measure => simp [intOf]; omega
        · have h2' : Int.tmod (m : Int) 2 = 0 := by rw [Int.tmod_eq_emod_of_nonneg (by omega)]; omega
          have HN : Hid (POk (pAdd B B) ∧ POk R ∧ pAdd R (pMul (pAdd B B) (m / 2)) = T) := ⟨padd_ok HX.out.1 HX.out.1, HX.out.2.1, (dbl_even HX.out.1 (by omega)).trans HX.out.2.2⟩
          generalize pAdd B B = B2 at HBB HN
          generalize m / 2 = m2 at HN hq hqb
          clear h2 HX HRB
          go_wp2_with fail
          refine (HBB.out _ HD.out.1).mono ?_
          rintro e w6 ⟨p2, rfl, hp2, hb6⟩
          have HD2 : Hid (PAt w6 p2 B2 ∧ PAt w6 d R ∧ Below w.heap.size w w6) := ⟨hp2, HD.out.2.1.on hb6, below_then HD.out.2.2 hb6⟩
          clear hp2 hb6 HD HBB
          go_wp2
          go_roundw
          case rel => exact ⟨_, _, m2, B2, R, rfl, by go_num, rfl, by omega, HN, HD2⟩
          case measure => simp [intOf]; omega
      · have h0' : ¬ (0 : Int) < (m : Int) := by omega
        obtain rfl : m = 0 := by omega
        have HE : Hid (R = T) := by have := HX.out.2.2; rwa [show pMul B 0 = pZ from rfl, padd_zero HX.out.2.1] at this
        clear HX
        go_wp2
        go_ret
        exact ⟨_, rfl, by rw [← HE.out]; exact HD.out.2.1, HD.out.2.2⟩

end Go.Proofs.Ytbkfdafdchjakab

/-
  The walk of the text of a place on the curve.
  (-DROP-: what the seat lacks is left out.)
-/
namespace Go.Proofs.Ytbkfdafdchjakab
open Go.RowKit

theorem make3 (w : World) : (Instr.makeSlice 135 (.int .i64 3) (.int .i64 3)).run Try.prog w = .ok (.slice (some ⟨w.heap.size, 0, none⟩) 3 3) (w.alloc (.cells #[.int .u8 0, .int .u8 0, .int .u8 0] 5)) := by
  kernel_rfl

-- (left out where function 63 is)
set_option maxHeartbeats 1600000 in
set_option maxRecDepth 100000 in
theorem ptext_any (v : Value) (P : Pt) (w : World) (hp : PAt w v P) (hP : POk P) :
    Calls Try.prog 102 #[v] w fun e w' => e = .returned (.string (ptText P)) ∧ Below w.heap.size w w' := by
  have hok : pOkB P = true := pokB.2 hP
  rcases hp with ⟨rfl, rfl⟩ | ⟨bb, x, y, rfl, rfl, hx⟩
  · have HT : Hid (ptText pZ = ⟨#[UInt8.ofNat 0, UInt8.ofNat 0, UInt8.ofNat 0]⟩) := rfl
    have hcv := text3 0 0 0 (by omega) (by omega) (by omega)
    simp only [Int.natCast_zero] at hcv
    have hmk := make3
    clear hok hP
    go_enter Try.func102, Try.ntmps102
    go_wp2
    go_ret
    exact ⟨by rw [HT.out]; rfl, (Below.refl _ _).alloc (Nat.le_refl _) _⟩
  · obtain ⟨hX0, hY0⟩ := pok_xy hP
    obtain ⟨X, Y, rfl, rfl, hXb, hYb⟩ : ∃ X Y : Nat, x = X ∧ y = Y ∧ X < 12107 ∧ Y < 12107 :=
      ⟨x.toNat, y.toNat, by have := hX0.1; omega, by have := hY0.1; omega, by have := hX0.1; have := hX0.2; omega, by have := hY0.1; have := hY0.2; omega⟩
    obtain ⟨N, hN⟩ : ∃ N : Nat, N = X + 1 := ⟨_, rfl⟩
    have hNi : (X : Int) + 1 = (N : Int) := by omega
    have hNb : N ≤ 12107 := by omega
    obtain ⟨a, ha⟩ : ∃ a : Nat, a = N / 256 := ⟨_, rfl⟩
    obtain ⟨b, hb⟩ : ∃ b : Nat, b = N % 256 := ⟨_, rfl⟩
    obtain ⟨c, hc⟩ : ∃ c : Nat, c = Y % 2 := ⟨_, rfl⟩
    have ha1 : Int.tdiv (N : Int) 256 = (a : Int) := by rw [Int.tdiv_eq_ediv_of_nonneg (by omega)]; omega
    have ha2 : IntKind.u8.wrap (a : Int) = (a : Int) := by rw [IntWalk.u8_in _ (by omega)]
    have hb1 : Int.tmod (N : Int) 256 = (b : Int) := by rw [Int.tmod_eq_emod_of_nonneg (by omega)]; omega
    have hb2 : IntKind.u8.wrap (b : Int) = (b : Int) := by rw [IntWalk.u8_in _ (by omega)]
    have hc1 : Int.tmod (Y : Int) 2 = (c : Int) := by rw [Int.tmod_eq_emod_of_nonneg (by omega)]; omega
    have hc2 : IntKind.u8.wrap (c : Int) = (c : Int) := by rw [IntWalk.u8_in _ (by omega)]
    have hal : a < 256 := by omega
    have hbl : b < 256 := by omega
    have hcl : c < 2 := by omega
    have hcv := text3 a b c (by omega) (by omega) (by omega)
    have HRES : Hid (ptText ((X : Int), (Y : Int), false) = ⟨#[UInt8.ofNat a, UInt8.ofNat b, UInt8.ofNat c]⟩) := by
      show ptText ((X : Int), (Y : Int), false) = _
      unfold ptText ptBytes
      rw [if_pos hok]
      simp only [Bool.false_eq_true, if_false]
      rw [Int.toNat_natCast, Int.toNat_natCast, ← hN, ← ha, ← hb, ← hc]
    have q0 := hx.cell 0
    have q1 := hx.cell 1
    clear ha hb hc hN hok hP hX0 hY0 hx
    go_enter Try.func102, Try.ntmps102
    go_wp2
    go_ret
    exact ⟨by rw [HRES.out]; rfl, (Below.refl _ _).alloc (Nat.le_refl _) _⟩

end Go.Proofs.Ytbkfdafdchjakab

/-
  The walks of the program's points.
  (-DROP-: what the seat lacks is left out.)
-/
namespace Go.Proofs.Ytbkfdafdchjakab
open Go.RowKit

set_option maxRecDepth 100000 in
theorem iBase_any (w : World) :
    Calls Try.prog 58 #[] w fun e w' => e = .returned (pv pB) ∧ Below w.heap.size w w' := by
  go_enter Try.func58, Try.ntmps58
  go_wp2
  refine bodyPost_ret_by (result_blk rfl rfl (Blk.newAt (by simp)) Try.underlying32 infoP) rfl ⟨rfl, (Below.refl _ _).alloc (Nat.le_refl _) _⟩

set_option maxHeartbeats 800000 in
set_option maxRecDepth 100000 in
theorem iNeg_any (P : Pt) (w : World) :
    Calls Try.prog 109 #[pv P] w fun e w' => e = .returned (pv (pNeg P)) ∧ Below w.heap.size w w' := by
  obtain ⟨x, y, z⟩ := P
  unfold pNeg
  cases z
  · simp only [Bool.false_eq_true, if_false]
    unfold pv
    go_enter Try.func109, Try.ntmps109
    go_wp2
    obtain ⟨W, hW, hb, hx, hr⟩ := boxes1r w 32 32 #[.int .i64 x, .int .i64 y, .bool false] #[.int .i64 0, .int .i64 0, .bool false]
    rw [hW]
    clear hW
    refine wp_region_class 6 (fun wz => Below W.heap.size W wz) mixes (by kernel_rfl) (Below.refl _ _).drew ?_
    simp only [List.take_succ_cons, List.take_zero, List.drop_succ_cons, List.drop_zero]
    repeat (refine cls_step rfl (fun K hK => ⟨_, (fun w' hw => by have q0 := (hx.on hw hx.lt).cell 0; have q1 := (hx.on hw hx.lt).cell 1; have q2 := (hx.on hw hx.lt).cell 2; go_simp; exact rfl), ?_⟩); go_simp; refine hK _ ?_; clear hK K)
    refine cls_call rfl (fun K hK => ⟨_, _, _, (fun w' => by go_simp <;> first | exact rfl | exact ⟨rfl, rfl⟩), (fun w' hw => calls_same hw (iSub_any _ _ _)), ?_⟩); go_simp; refine hK _ ?_; clear hK K
    repeat (refine cls_step rfl (fun K hK => ⟨_, (fun w' hw => by go_simp; exact rfl), ?_⟩); go_simp; refine hK _ ?_; clear hK K)
    refine wq_nil ?_
    intro w' hw
    have hr1 := hr.on hw hr.lt
    go_wp2_with (refine store_blk (cs' := #[.int .i64 x, .int .i64 (fpSub 0 y), .bool false]) rfl rfl rfl rfl rfl hr1 infoP rfl (ones3 _ _ _) ?_; intro V h5 hoth hbel; have hbV := hbel _ _ (by omega) (below_then hb hw); clear hoth hbel)
    refine bodyPost_ret_by (result_blk rfl rfl h5 Try.underlying32 infoP) rfl ⟨rfl, hbV⟩
  · simp only [if_true]
    unfold pv
    go_enter Try.func109, Try.ntmps109
    go_wp2
    refine bodyPost_ret_by (result_blk rfl rfl (Blk.newAt (by simp)) Try.underlying32 infoP) rfl ⟨rfl, ((Below.refl _ _).alloc (Nat.le_refl _) _).alloc (by simp) _⟩

set_option maxHeartbeats 1600000 in
set_option maxRecDepth 100000 in
theorem iPAdd_any (P Q : Pt) (w : World) :
    Calls Try.prog 123 #[pv P, pv Q] w fun e w' => e = .returned (pv (pSum P Q)) ∧ Below w.heap.size w w' := by
  have HP : Hid (∀ w, Calls Try.prog 84 #[pv P] w fun e w' => ∃ v', e = .returned (.tuple #[v', .bool (pOkB P)]) ∧ (pOkB P = true → PAt w' v' P) ∧ Below w.heap.size w w') := placeOf_any P
  have HQ : Hid (∀ w, Calls Try.prog 84 #[pv Q] w fun e w' => ∃ v', e = .returned (.tuple #[v', .bool (pOkB Q)]) ∧ (pOkB Q = true → PAt w' v' Q) ∧ Below w.heap.size w w') := placeOf_any Q
  have HS : Hid (pOkB P = true → pOkB Q = true → ∀ w v u, PAt w v P → PAt w u Q → Calls Try.prog 133 #[v, u] w fun e w' => ∃ v', e = .returned v' ∧ PAt w' v' (pAdd P Q) ∧ Below w.heap.size w w') := fun h1 h2 w v u h3 h4 => plusC_any v u P Q w h3 h4 (pokB.1 h1) (pokB.1 h2)
  have HG : Hid (∀ w v, PAt w v (pAdd P Q) → Calls Try.prog 99 #[v] w fun e w' => e = .returned (pv (pAdd P Q)) ∧ Below w.heap.size w w') := fun w v h => point_any v _ w h
  unfold pSum
  generalize pOkB P = a at HP HS ⊢
  generalize pOkB Q = b at HQ HS ⊢
  generalize pAdd P Q = S at HS HG ⊢
  obtain ⟨x, y, z⟩ := P
  obtain ⟨u, v, t⟩ := Q
  unfold pv at HP HQ HG ⊢
  simp only at HP HQ HG ⊢
  go_enter Try.func123, Try.ntmps123
  go_wp2_with fail
  obtain ⟨W, hW, hb, hx, hy, hr⟩ := boxes2r w 32 32 32 #[.int .i64 x, .int .i64 y, .bool z] #[.int .i64 u, .int .i64 v, .bool t] #[.int .i64 0, .int .i64 0, .bool false]
  rw [hW]
  clear hW
  refine (HP.out _).mono ?_
  rintro e w1 ⟨v1, rfl, hv1, hb1⟩
  have H1 : Hid (a = true → PAt w1 v1 (x, y, z)) := hv1
  have hy1 := hy.on hb1 hy.lt
  have hr1 := hr.on hb1 hr.lt
  have hB1 := below_then hb hb1
  clear hx hy hr hb hb1 hv1 HP
  go_wp2_with (refine load_blk rfl rfl rfl hy1 Try.underlying32 infoP ?_)
  refine (HQ.out _).mono ?_
  rintro e w2 ⟨v2, rfl, hv2, hb2⟩
  have H1' : Hid (a = true → PAt w2 v1 (x, y, z)) := fun h => (H1.out h).on hb2
  have H2 : Hid (b = true → PAt w2 v2 (u, v, t)) := hv2
  have hr2 := hr1.on hb2 hr1.lt
  have hB2 := below_then hB1 hb2
  clear hy1 hr1 hB1 hb2 hv2 HQ H1
  cases a
  · go_wp2_with (refine store_blk (cs' := pc pZ) rfl rfl rfl rfl rfl hr2 infoP rfl (ones3 _ _ _) ?_; intro V h5 hoth hbel; have hbV := hbel _ _ (by omega) hB2; clear hoth hbel)
    refine bodyPost_ret_by (result_blk rfl rfl h5 Try.underlying32 infoP) rfl ⟨rfl, hbV⟩
  · cases b
    · go_wp2_with (refine store_blk (cs' := pc pZ) rfl rfl rfl rfl rfl hr2 infoP rfl (ones3 _ _ _) ?_; intro V h5 hoth hbel; have hbV := hbel _ _ (by omega) hB2; clear hoth hbel)
      refine bodyPost_ret_by (result_blk rfl rfl h5 Try.underlying32 infoP) rfl ⟨rfl, hbV⟩
    · go_wp2_with fail
      refine (HS.out (by trivial) (by trivial) _ _ _ (H1'.out (by trivial)) (H2.out (by trivial))).mono ?_
      rintro e w3 ⟨v3, rfl, hv3, hb3⟩
      have hr3 := hr2.on hb3 hr2.lt
      have hB3 := below_then hB2 hb3
      clear hr2 hB2 hb3 H1' H2 HS
      go_wp2_with fail
      refine (HG.out _ _ hv3).mono ?_
      rintro e w4 ⟨rfl, hb4⟩
      have hr4 := hr3.on hb4 hr3.lt
      have hB4 := below_then hB3 hb4
      clear hr3 hB3 hb4 hv3 HG
      go_wp2_with (refine store_blk (cs' := pc S) rfl rfl rfl rfl rfl hr4 infoP rfl (ones3 _ _ _) ?_; intro V h5 hoth hbel; have hbV := hbel _ _ (by omega) hB4; clear hoth hbel)
      refine bodyPost_ret_by (result_blk rfl rfl h5 Try.underlying32 infoP) rfl ⟨rfl, hbV⟩

set_option maxHeartbeats 1600000 in
set_option maxRecDepth 100000 in
theorem iTimes_any (k : Int) (P : Pt) (w : World) :
    Calls Try.prog 57 #[.int .i64 k, pv P] w fun e w' => e = .returned (pv (pTimes k P)) ∧ Below w.heap.size w w' := by
  have HP : Hid (∀ w, Calls Try.prog 84 #[pv P] w fun e w' => ∃ v', e = .returned (.tuple #[v', .bool (pOkB P)]) ∧ (pOkB P = true → PAt w' v' P) ∧ Below w.heap.size w w') := placeOf_any P
  have HS : Hid (pOkB P = true → ∀ w v, PAt w v P → Calls Try.prog 98 #[v, .int .i64 k] w fun e w' => ∃ v', e = .returned v' ∧ PAt w' v' (pTim k P) ∧ Below w.heap.size w w') := fun h1 w v h3 => timesC_any v P k w h3 (pokB.1 h1)
  have HG : Hid (∀ w v, PAt w v (pTim k P) → Calls Try.prog 99 #[v] w fun e w' => e = .returned (pv (pTim k P)) ∧ Below w.heap.size w w') := fun w v h => point_any v _ w h
  rw [show pTimes k P = if pOkB P = true then pTim k P else pZ from rfl]
  generalize pOkB P = a at HP HS ⊢
  generalize pTim k P = S at HS HG ⊢
  obtain ⟨x, y, z⟩ := P
  unfold pv at HP HG ⊢
  simp only at HP HG ⊢
  go_enter Try.func57, Try.ntmps57
  go_wp2_with fail
  obtain ⟨W, hW, hb, hx, hr⟩ := boxes1r w 32 32 #[.int .i64 x, .int .i64 y, .bool z] #[.int .i64 0, .int .i64 0, .bool false]
  rw [hW]
  clear hW
  refine (HP.out _).mono ?_
  rintro e w1 ⟨v1, rfl, hv1, hb1⟩
  have H1 : Hid (a = true → PAt w1 v1 (x, y, z)) := hv1
  have hr1 := hr.on hb1 hr.lt
  have hB1 := below_then hb hb1
  clear hx hr hb hb1 hv1 HP
  cases a
  · go_wp2_with (refine store_blk (cs' := pc pZ) rfl rfl rfl rfl rfl hr1 infoP rfl (ones3 _ _ _) ?_; intro V h5 hoth hbel; have hbV := hbel _ _ (by omega) hB1; clear hoth hbel)
    refine bodyPost_ret_by (result_blk rfl rfl h5 Try.underlying32 infoP) rfl ⟨rfl, hbV⟩
  · go_wp2_with fail
    refine (HS.out (by trivial) _ _ (H1.out (by trivial))).mono ?_
    rintro e w3 ⟨v3, rfl, hv3, hb3⟩
    have hr3 := hr1.on hb3 hr1.lt
    have hB3 := below_then hB1 hb3
    clear hr1 hB1 hb3 H1 HS
    go_wp2_with fail
    refine (HG.out _ _ hv3).mono ?_
    rintro e w4 ⟨rfl, hb4⟩
    have hr4 := hr3.on hb4 hr3.lt
    have hB4 := below_then hB3 hb4
    clear hr3 hB3 hb4 hv3 HG
    go_wp2_with (refine store_blk (cs' := pc S) rfl rfl rfl rfl rfl hr4 infoP rfl (ones3 _ _ _) ?_; intro V h5 hoth hbel; have hbV := hbel _ _ (by omega) hB4; clear hoth hbel)
    refine bodyPost_ret_by (result_blk rfl rfl h5 Try.underlying32 infoP) rfl ⟨rfl, hbV⟩

set_option maxHeartbeats 1600000 in
set_option maxRecDepth 100000 in
theorem iInG_any (P : Pt) (w : World) :
    Calls Try.prog 66 #[pv P] w fun e w' => e = .returned (.bool (inGB P)) ∧ Below w.heap.size w w' := by
  have HP : Hid (∀ w, Calls Try.prog 84 #[pv P] w fun e w' => ∃ v', e = .returned (.tuple #[v', .bool (pOkB P)]) ∧ (pOkB P = true → PAt w' v' P) ∧ Below w.heap.size w w') := placeOf_any P
  have HS : Hid (pOkB P = true → ∀ w v, PAt w v P → Calls Try.prog 98 #[v, .int .i64 1009] w fun e w' => ∃ v', e = .returned v' ∧ PAt w' v' (pTim 1009 P) ∧ Below w.heap.size w w') := fun h1 w v h3 => timesC_any v P 1009 w h3 (pokB.1 h1)
  rw [show inGB P = (pOkB P && (if pOkB P = true then pTim 1009 P else pZ).2.2) from rfl]
  generalize pOkB P = a at HP HS ⊢
  generalize pTim 1009 P = S at HS ⊢
  obtain ⟨x, y, z⟩ := P
  unfold pv at HP ⊢
  simp only at HP ⊢
  go_enter Try.func66, Try.ntmps66
  go_wp2_with fail
  obtain ⟨W, hW, hb, hx⟩ := box1 w 32 #[.int .i64 x, .int .i64 y, .bool z]
  rw [hW]
  clear hW
  refine (HP.out _).mono ?_
  rintro e w1 ⟨v1, rfl, hv1, hb1⟩
  have H1 : Hid (a = true → PAt w1 v1 (x, y, z)) := hv1
  have hB1 := below_then hb hb1
  clear hx hb hb1 hv1 HP
  cases a
  · go_wp2
    go_ret
    exact ⟨rfl, hB1⟩
  · go_wp2_with fail
    refine (HS.out (by trivial) _ _ (H1.out (by trivial))).mono ?_
    rintro e w3 ⟨v3, rfl, hv3, hb3⟩
    have hB3 := below_then hB1 hb3
    clear hB1 hb3 H1 HS
    rcases hv3 with ⟨rfl, rfl⟩ | ⟨b, p, q, rfl, rfl, _⟩
    · go_wp2
      go_ret
      exact ⟨rfl, hB3⟩
    · go_wp2
      go_ret
      exact ⟨rfl, hB3⟩

set_option maxHeartbeats 800000 in
set_option maxRecDepth 100000 in
theorem iPText_any (P : Pt) (w : World) :
    Calls Try.prog 63 #[pv P] w fun e w' => e = .returned (.string (ptText P)) ∧ Below w.heap.size w w' := by
  have HP : Hid (∀ w, Calls Try.prog 84 #[pv P] w fun e w' => ∃ v', e = .returned (.tuple #[v', .bool (pOkB P)]) ∧ (pOkB P = true → PAt w' v' P) ∧ Below w.heap.size w w') := placeOf_any P
  have HS : Hid (pOkB P = true → ∀ w v, PAt w v P → Calls Try.prog 102 #[v] w fun e w' => e = .returned (.string (ptText P)) ∧ Below w.heap.size w w') := fun h1 w v h3 => ptext_any v P w h3 (pokB.1 h1)
  have HE : Hid (pOkB P = false → ptText P = ⟨#[]⟩) := fun h => by
    unfold ptText ptBytes
    rw [h]
    rfl
  generalize pOkB P = a at HP HS HE
  generalize ptText P = T at HS HE ⊢
  obtain ⟨x, y, z⟩ := P
  unfold pv at HP ⊢
  simp only at HP ⊢
  go_enter Try.func63, Try.ntmps63
  go_wp2_with fail
  obtain ⟨W, hW, hb, hx⟩ := box1 w 32 #[.int .i64 x, .int .i64 y, .bool z]
  rw [hW]
  clear hW
  refine (HP.out _).mono ?_
  rintro e w1 ⟨v1, rfl, hv1, hb1⟩
  have H1 : Hid (a = true → PAt w1 v1 (x, y, z)) := hv1
  have hB1 := below_then hb hb1
  clear hx hb hb1 hv1 HP
  cases a
  · go_wp2
    go_ret
    exact ⟨by rw [HE.out (by trivial)]; rfl, hB1⟩
  · clear HE
    go_wp2_with fail
    refine (HS.out (by trivial) _ _ (H1.out (by trivial))).mono ?_
    rintro e w3 ⟨rfl, hb3⟩
    have hB3 := below_then hB1 hb3
    clear hB1 hb3 H1 HS
    go_wp2
    go_ret
    exact ⟨rfl, hB3⟩

end Go.Proofs.Ytbkfdafdchjakab

/-
  The walk of the program's word on whether all points of a list are in the group.
  (-DROP-: what the seat lacks is left out.)
-/
namespace Go.Proofs.Ytbkfdafdchjakab
open Go.RowKit

/-- Whether the first n are in the group. -/
def allI (f : Nat → Pt) : Nat → Bool
  | 0 => true
  | n + 1 => allI f n && inGB (f n)
theorem allI_more (f : Nat → Pt) {k : Nat} (h : allI f k = false) : ∀ n, k ≤ n → allI f n = false
  | 0, hk => by rw [show (0 : Nat) = k by omega]; exact h
  | n + 1, hk => by
    by_cases e : k = n + 1
    · rw [← e]; exact h
    · show (allI f n && _) = false
      rw [allI_more f h n (by omega), Bool.false_and]

set_option maxHeartbeats 1600000 in
set_option maxRecDepth 100000 in
theorem allIn_any (a : Option Addr) (n c : Nat) (hm : n ≤ 9223372036854775807) (f : Nat → Pt) (w : World) (hA : PtsAt w a n w.heap.size f) :
    Calls Try.prog 35 #[.slice a n c] w fun e w' => e = .returned (.bool (allI f n)) ∧ Below w.heap.size w w' := by
  have HA : Hid (PtsAt w a n w.heap.size f) := hA
  clear hA
  go_enter Try.func35, Try.ntmps35
  go_wp2
  have H0 : Hid (allI f 0 = true ∧ Below w.heap.size w w) := ⟨rfl, Below.refl _ _⟩
  go_loopw [7] (fun i wr => ∃ k : Nat, i = .int .i64 (k : Int) ∧ k ≤ n ∧ Hid (allI f k = true ∧ Below w.heap.size w wr)) (fun i _ => n - (intOf i).toNat)
  case atStart => exact ⟨0, rfl, Nat.zero_le _, H0⟩
  case round =>
    obtain ⟨k, rfl, hk, HD⟩ := hrel
    clear H0
    by_cases hlt : k < n
    · have hlt' : (k : Int) < (n : Int) := by omega
      have hk0 : (0 : Int) ≤ (k : Int) := by omega
      have hB0 := HD.out.2
      obtain ⟨b, off, rfl, hb, z0, z1, z2⟩ := (HA.out.on hB0) k hlt
      have HG : Hid (allI f (k + 1) = inGB (f k)) := by show (allI f k && _) = _; rw [HD.out.1, Bool.true_and]
      have HG2 : Hid (allI f (k + 1) = false → allI f n = false) := fun h => allI_more f h n (by omega)
      have HI : Hid (∀ w, Calls Try.prog 66 #[pv (f k)] w fun e w' => e = .returned (.bool (inGB (f k))) ∧ Below w.heap.size w w') := iInG_any _
      generalize inGB (f k) = ga at HI HG
      generalize f k = F at z0 z1 z2 HI
      obtain ⟨x, y, z⟩ := F
      simp only at z0 z1 z2
      unfold pv at HI
      simp only at HI
      clear HD
      go_wp2_with fail
      obtain ⟨V, hV, hbV, h5⟩ := box1 wr 32 #[.int .i64 x, .int .i64 y, .bool z]
      rw [hV]
      refine (HI.out _).mono ?_
      rintro e w1 ⟨rfl, hb1⟩
      have hB1 : Below w.heap.size w w1 := hB0.trans ((below_then hbV hb1).mono hB0.size)
      clear hb1 hbV hV h5 hB0 z0 z1 z2 HI
      cases ga
      · have HF : Hid (allI f n = false) := HG2.out HG.out
        go_wp2
        go_ret
        exact ⟨by rw [HF.out]; rfl, hB1⟩
      · go_wp2
        go_roundw
        case rel => exact ⟨k + 1, by go_num, hlt, ⟨HG.out, hB1⟩⟩
        case measure => simp [intOf]; omega
    · have hlt' : ¬ (k : Int) < (n : Int) := by omega
      have HF : Hid (allI f n = true) := by
        show allI f n = true
        rw [show n = k by omega]; exact HD.out.1
      have hB0 := HD.out.2
      clear HD HA
      go_wp2
      go_ret
      exact ⟨by rw [HF.out]; rfl, hB0⟩

end Go.Proofs.Ytbkfdafdchjakab
