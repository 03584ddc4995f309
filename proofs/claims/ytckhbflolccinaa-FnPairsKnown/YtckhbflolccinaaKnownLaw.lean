/-
  The walk of the law that pairs of points that are no Zero are known.
-/
import Derived.Test.YtckhbflolccinaaJoined24
import Derived.Test.YtckhbflolccinaaJoined24
import Derived.Test.YtckhbflolccinaaJoined24
import Derived.Test.YtckhbflolccinaaJoined52
import Derived.Test.YtckhbflolccinaaJoined52
namespace Go.Proofs.Ytckhbflolccinaa
open Go.RowKit

theorem pneg_mul {i : Nat} (h : i < 1009) : pNeg (pMul pB i) = pMul pB ((1009 - i) % 1009) := by
  have oP := pmul_ok pb_ok i
  have oM := pmul_ok pb_ok (1009 - i)
  have e : pAdd (pMul pB i) (pMul pB (1009 - i)) = pZ := by rw [← pmul_add pb_ok, show i + (1009 - i) = 1009 by omega, b1009]
  have e2 : pNeg (pMul pB i) = pAdd (pAdd (pMul pB i) (pMul pB (1009 - i))) (pNeg (pMul pB i)) := by rw [e]; rfl
  rw [e2, padd_comm oP oM, padd_assoc oM oP (pneg_ok oP), padd_neg oP, padd_zero oM]
  exact pmul_rest pb_ok b1009 _

/-- Two points in a list. -/
def two (P Q : Pt) : Nat → Pt
  | 0 => P
  | _ => Q

theorem known_one (i j : Nat) (hi : i < 1009) (hj : j < 1009) : decide (pairS (pMul pB i) (pMul pB j) = (1, 0)) = ((pMul pB i).2.2 || (pMul pB j).2.2) := by
  rw [pair_gp i j hi hj]
  have f1 := zero_flag (pmul_ok pb_ok i)
  have f2 := zero_flag (pmul_ok pb_ok j)
  rw [pb_zero hi] at f1
  rw [pb_zero hj] at f2
  by_cases h1 : i = 0
  · rw [f1.2 h1, h1, Nat.zero_mul, pw_zero]; rfl
  · by_cases h2 : j = 0
    · rw [f2.2 h2, h2, Nat.mul_zero, pw_zero, Bool.or_true]; rfl
    · have n1 : (pMul pB i).2.2 = false := by
        cases h : (pMul pB i).2.2
        · rfl
        · exact absurd (f1.1 h) h1
      have n2 : (pMul pB j).2.2 = false := by
        cases h : (pMul pB j).2.2
        · rfl
        · exact absurd (f2.1 h) h2
      rw [n1, n2, pw_rest]
      exact decide_eq_false (gb_ne (by have := no_part (i := i) (j := j) (by omega) hi (by omega) hj; omega) (Nat.mod_lt _ (by decide)))

theorem known_right (i j : Nat) (hi : i < 1009) (hj : j < 1009) : rightL (two (pMul pB i) (pNeg (pMul pB i))) (two (pMul pB j) (pMul pB j)) 2 2 = true := by
  unfold rightL rightN
  rw [if_pos rfl, pneg_mul hi]
  show (((true && (inGB (pMul pB i) && inGB (pMul pB j))) && (inGB (pMul pB ((1009 - i) % 1009)) && inGB (pMul pB j))) && decide (tm (tm (1, 0) (pairS (pMul pB i) (pMul pB j))) (pairS (pMul pB ((1009 - i) % 1009)) (pMul pB j)) = (1, 0))) = true
  rw [ing_mul, ing_mul, ing_mul, pair_gp i j hi hj, pair_gp _ j (Nat.mod_lt _ (by decide)) hj, tm_comm (pw gB (i * j)) (1, 0), tm_one (in2_pw _ _), ← pw_add, pw_rest]
  have : (i * j + (1009 - i) % 1009 * j) % 1009 = 0 := by
    rw [← Nat.add_mul, Nat.mul_mod, Nat.add_mod_mod, show i + (1009 - i) = 1009 by omega]
    simp
  rw [this]
  rfl

theorem known_base : pairS pB pB = (372, 3632) := by
  have h := pair_gp 1 1 (by decide) (by decide)
  rw [pmul_one, Nat.mul_one, pw_one in2_gb] at h
  exact h

theorem pts_two {w : World} {g : Nat} {P Q : Pt} (h : Blk w g 25 #[.int .i64 P.1, .int .i64 P.2.1, .bool P.2.2, .int .i64 Q.1, .int .i64 Q.2.1, .bool Q.2.2]) : PtsAt w (some ⟨g, 0, none⟩) 2 w.heap.size (two P Q) := fun j hj => by
  match j, hj with
  | 0, _ => exact ⟨_, _, rfl, h.lt, h.cell 0, h.cell 1, h.cell 2⟩
  | 1, _ => exact ⟨_, _, rfl, h.lt, h.cell 3, h.cell 4, h.cell 5⟩

theorem two_told (E : Int × Int) (b : Bool) (w : World) (h : (E.1 == 1 && E.2 == 0) = b) : (if E.1 = 1 then (if E.2 = 0 then Result.ok (Next.value (Value.bool true)) w else Result.ok (Next.value (Value.bool false)) w) else Result.ok (Next.value (Value.bool false)) w) = Result.ok (Next.value (Value.bool b)) w := by
  subst h
  by_cases h1 : E.1 = 1 <;> by_cases h2 : E.2 = 0 <;> simp [h1, h2]

set_option maxHeartbeats 6400000 in
set_option maxRecDepth 100000 in
theorem lawKnown (a : Option Addr) (len cap : Nat) (hm : len ≤ 9223372036854775807) (w : World) (hA : ArgAt w a len w.heap.size) :
    Calls Try.prog 4 #[.slice a len cap] w fun e w' => e = .returned (.bool true) ∧ Below w.heap.size w w' := by
  have HA : Hid (ArgAt w a len w.heap.size) := hA
  clear hA
  by_cases hb : 1048576 < len
  · have hd : decide (1048576 < len) = true := decide_eq_true hb
    go_enter Try.func4, Try.ntmps4
    go_wp2_with (go_at_call 9; refine (big_any _ _ _ hm _).mono ?_; rintro e w0 ⟨rfl, rfl⟩)
    go_ret
    exact ⟨rfl, Below.refl _ _⟩
  have hd : decide (1048576 < len) = false := decide_eq_false hb
  have hm1 : len ≤ 1048576 := by omega
  go_enter Try.func4, Try.ntmps4
  go_wp2_with (go_at_call 9; refine (big_any _ _ _ hm _).mono ?_; rintro e w0 ⟨rfl, rfl⟩)
  refine (drawGroup_any len cap a hm1 _ HA.out).mono ?_
  rintro e w1 ⟨P, Q, R, rfl, ⟨hPc, hQc, hRc⟩, hb1⟩
  have HA0 : Hid (ArgAt w1 a len w1.heap.size) := HA.out.up hb1
  obtain ⟨i, hi, hPi⟩ := hPc
  obtain ⟨j, hj, hQj⟩ := hQc
  have F1 := known_one i j hi hj
  have F2 := known_right i j hi hj
  rw [← hPi, ← hQj] at F1 F2
  have HE : Hid (∀ w, Calls Try.prog 12 #[pv P, pv Q] w fun e w' => e = .returned (tv (pairS P Q)) ∧ Below w.heap.size w w') := iPairing_any P Q
  have HX : Hid (decide (pairS P Q = (1, 0)) = (P.2.2 || Q.2.2)) := F1
  have HNg : Hid (∀ w, Calls Try.prog 22 #[pv P] w fun e w' => e = .returned (pv (pNeg P)) ∧ Below w.heap.size w w') := iNeg_any P
  have HPR : Hid (∀ g1 g2 w, Blk w g1 25 #[.int .i64 P.1, .int .i64 P.2.1, .bool P.2.2, .int .i64 (pNeg P).1, .int .i64 (pNeg P).2.1, .bool (pNeg P).2.2] → Blk w g2 25 #[.int .i64 Q.1, .int .i64 Q.2.1, .bool Q.2.2, .int .i64 Q.1, .int .i64 Q.2.1, .bool Q.2.2] →
      Calls Try.prog 21 #[.slice (some ⟨g1, 0, none⟩) 2 2, .slice (some ⟨g2, 0, none⟩) 2 2] w fun e w' => e = .returned (.bool true) ∧ Below w.heap.size w w') := fun g1 g2 w h1 h2 => by
    have h := iPairs_any (some ⟨g1, 0, none⟩) (some ⟨g2, 0, none⟩) 2 2 2 2 (by decide) (by decide) _ _ w (pts_two h1) (pts_two h2)
    rw [F2] at h
    exact h
  have HPB : Hid (∀ w, Calls Try.prog 12 #[pv pB, pv pB] w fun e w' => e = .returned (.agg #[.int .i64 372, .int .i64 3632]) ∧ Below w.heap.size w w') := by
    have h := iPairing_any pB pB
    rw [known_base] at h
    exact h
  have HBs : Hid (∀ w, Calls Try.prog 28 #[] w fun e w' => e = .returned (pv pB) ∧ Below w.heap.size w w') := iBase_any
  generalize pairS P Q = E at HE HX
  generalize pNeg P = N at HNg HPR
  generalize pB = B0 at HPB HBs
  clear hb hd HA F1 F2 hPi hQj hi hj hRc
  obtain ⟨W1, hE1, hbW1, ta_1, tb_1, tc_1⟩ := boxes3 w1 25 25 25 #[.int .i64 P.1, .int .i64 P.2.1, .bool P.2.2] #[.int .i64 Q.1, .int .i64 Q.2.1, .bool Q.2.2] #[.int .i64 R.1, .int .i64 R.2.1, .bool R.2.2]
  go_wp2_with (first | (refine load_blk rfl rfl rfl (ta_1.alloc _) Try.underlying25 infoP ?_) | (refine load_blk rfl rfl rfl (tb_1.alloc _) Try.underlying25 infoP ?_))
  clear hE1
  obtain ⟨W2, hE2, hbW2, to_2⟩ := box1 W1 31 #[.int .i64 1, .int .i64 0]
  rw [hE2]
  have ta_2 := ta_1.on hbW2 ta_1.lt
  have tb_2 := tb_1.on hbW2 tb_1.lt
  have hB2 := below_then (below_then hb1 hbW1) hbW2
  have HA2 : Hid (ArgAt W2 a len W2.heap.size) := (HA0.out.up hbW1).up hbW2
  clear hb1 hbW1 hbW2 HA0 tc_1 ta_1 tb_1 hE2
  refine (HE.out _).mono ?_
  rintro e w3 ⟨rfl, hb3⟩
  obtain ⟨W3, hE3, hbW3, te_3⟩ := box1 w3 31 #[.int .i64 E.1, .int .i64 E.2]
  have hb23 := below_then hb3 hbW3
  have ta_3 := ta_2.on hb23 ta_2.lt
  have tb_3 := tb_2.on hb23 tb_2.lt
  have to_3 := to_2.on hb23 to_2.lt
  have hB3 := below_then hB2 hb23
  have HA3 : Hid (ArgAt W3 a len W3.heap.size) := HA2.out.up hb23
  clear hb3 hbW3 hb23 ta_2 tb_2 to_2 hB2 HA2 HE
  go_wp2_with fail
  clear hE3
  refine (drawPairs_any len cap a hm1 _ HA3.out).mono ?_
  rintro e w4 ⟨a1, a2, n1, c1, n2, c2, f, g, rfl, hn1, hn2, hf, hg, hb4⟩
  have HF4 : Hid (PtsAt w4 a1 n1 w4.heap.size f ∧ PtsAt w4 a2 n2 w4.heap.size g) := ⟨hf, hg⟩
  have ta_4 := ta_3.on hb4 ta_3.lt
  have tb_4 := tb_3.on hb4 tb_3.lt
  have to_4 := to_3.on hb4 to_3.lt
  have te_4 := te_3.on hb4 te_3.lt
  have hB4 := below_then hB3 hb4
  have HA4 : Hid (ArgAt w4 a len w4.heap.size) := HA3.out.up hb4
  clear hb4 ta_3 tb_3 to_3 te_3 hB3 HA3 hf hg
  go_wp2_with fail
  refine (drawLine_any len cap a hm1 _ HA4.out).mono ?_
  rintro e w5 ⟨L, M, O, rfl, hb5⟩
  obtain ⟨W5, hE5, hbW5, tl_5, tm_5, tn_5⟩ := boxes3 w5 25 25 25 #[.int .i64 L.1, .int .i64 L.2.1, .bool L.2.2] #[.int .i64 M.1, .int .i64 M.2.1, .bool M.2.2] #[.int .i64 O.1, .int .i64 O.2.1, .bool O.2.2]
  have hb45 := below_then hb5 hbW5
  have HF5 : Hid (PtsAt W5 a1 n1 w4.heap.size f ∧ PtsAt W5 a2 n2 w4.heap.size g) := ⟨HF4.out.1.on hb45, HF4.out.2.on hb45⟩
  have ta_5 := ta_4.on hb45 ta_4.lt
  have tb_5 := tb_4.on hb45 tb_4.lt
  have to_5 := to_4.on hb45 to_4.lt
  have te_5 := te_4.on hb45 te_4.lt
  have hB5 := below_then hB4 hb45
  have HA5 : Hid (ArgAt W5 a len W5.heap.size) := HA4.out.up hb45
  have hl5 : w4.heap.size ≤ W5.heap.size := hb45.size
  clear hb5 hbW5 hb45 ta_4 tb_4 to_4 te_4 hB4 HA4 HF4
  go_wp2_with fail
  clear hE5
  refine (drawMiller_any len cap a hm1 _ HA5.out).mono ?_
  rintro e w6 ⟨U, V, rfl, hb6⟩
  obtain ⟨W6, hE6, hbW6, tu_6, tv_6⟩ := boxes1r w6 25 25 #[.int .i64 U.1, .int .i64 U.2.1, .bool U.2.2] #[.int .i64 V.1, .int .i64 V.2.1, .bool V.2.2]
  have hb56 := below_then hb6 hbW6
  have HF6 : Hid (PtsAt W6 a1 n1 W6.heap.size f ∧ PtsAt W6 a2 n2 W6.heap.size g) := ⟨(HF5.out.1.on (hb56.mono hl5)).wide (by have := hb56.size; omega), (HF5.out.2.on (hb56.mono hl5)).wide (by have := hb56.size; omega)⟩
  have ta_6 := ta_5.on hb56 ta_5.lt
  have tb_6 := tb_5.on hb56 tb_5.lt
  have to_6 := to_5.on hb56 to_5.lt
  have te_6 := te_5.on hb56 te_5.lt
  have tl_6 := tl_5.on hb56 tl_5.lt
  have tm_6 := tm_5.on hb56 tm_5.lt
  have tn_6 := tn_5.on hb56 tn_5.lt
  have hB6 := below_then hB5 hb56
  clear hb6 hbW6 hb56 ta_5 tb_5 to_5 te_5 tl_5 tm_5 tn_5 hB5 HA5 HF5 hl5
  go_wp2_with fail
  clear hE6
  have HQ1 : Hid (∀ w, PtsAt w a1 n1 w.heap.size f → PtsAt w a2 n2 w.heap.size g → Calls Try.prog 21 #[.slice a1 n1 c1, .slice a2 n2 c2] w fun e w' => e = .returned (.bool (rightL f g n1 n2)) ∧ Below w.heap.size w w') := fun w h1 h2 => iPairs_any a1 a2 n1 c1 n2 c2 (by omega) (by omega) f g w h1 h2
  have HQ2 : Hid (∀ w, PtsAt w a1 n1 w.heap.size f → PtsAt w a2 n2 w.heap.size g → Calls Try.prog 23 #[.slice a1 n1 c1, .slice a2 n2 c2] w fun e w' => e = .returned (.bool (rightL f g n1 n2)) ∧ Below w.heap.size w w') := fun w h1 h2 => sPairs_any a1 a2 n1 c1 n2 c2 (by omega) (by omega) f g w h1 h2
  have HL1 : Hid (∀ w, Calls Try.prog 24 #[pv L, pv M, pv O] w fun e w' => e = .returned (tv (pLineB L M O)) ∧ Below w.heap.size w w') := iLine_any L M O
  have HL2 : Hid (∀ w, Calls Try.prog 25 #[pv L, pv M, pv O] w fun e w' => e = .returned (tv (pLineB L M O)) ∧ Below w.heap.size w w') := sLine_any L M O
  have HM1 : Hid (∀ w, Calls Try.prog 26 #[pv U, pv V] w fun e w' => e = .returned (tv (millS U V)) ∧ Below w.heap.size w w') := iMiller_any U V
  have HM2 : Hid (∀ w, Calls Try.prog 27 #[pv U, pv V] w fun e w' => e = .returned (tv (millS U V)) ∧ Below w.heap.size w w') := sMiller_any U V
  generalize rightL f g n1 n2 = bq at HQ1 HQ2
  generalize pLineB L M O = ln at HL1 HL2
  generalize millS U V = ml at HM1 HM2
  have hE1 : (E.1 == 1 && E.2 == 0) = (P.2.2 || Q.2.2) := by rw [← one_dec]; exact HX.out
  obtain ⟨px, py, z1⟩ := P
  obtain ⟨qx, qy, z2⟩ := Q
  simp only at hE1 ta_6 tb_6 HNg HPR
  unfold pv at HNg
  simp only at HNg
  refine wp_region_to [(0, false), (1, false), (2, false), (3, false), (4, false), (5, false), (6, false), (7, false), (8, false), (9, false), (10, false), (11, false), (12, false), (15, false), (16, false)] 42 #[true, true, true, true, true, true, true, true, true, true, true, true, true, false, false, true, true, false, false, false, false, false, false, false, false, false, false, false, false, false, false, false, false, false, false, false, false, false, false, false, false, false, false, false, false, false, false, false, false, false, false, false, false, false, false, false, false] (fun wz => Below W6.heap.size W6 wz) mixes (by kernel_rfl) (Below.refl _ _).drew ?_
  iterate 2 (refine ord_float rfl rfl (fun K hK => ⟨_, (fun w' hw => by have q0 := (te_6.on hw te_6.lt).cell 0; have q1 :=  (te_6.on hw te_6.lt).cell 1; have q2 :=  (to_6.on hw to_6.lt).cell 0; have q3 :=  (to_6.on hw to_6.lt).cell 1; go_simp; exact rfl), ?_⟩); go_simp; refine hK _ ?_; clear hK K)
  refine ord_told (.bool (z1 || z2)) rfl (.inl ⟨rfl, fun w' hw => by
    go_simp
    exact two_told E _ _ hE1⟩) (fun K hK => ?_)
  go_simp
  refine hK _ ?_
  clear hK K
  iterate 3 (refine ord_float rfl rfl (fun K hK => ⟨_, (fun w' hw => by have q0 := (ta_6.on hw ta_6.lt).cell 0; have q1 :=  (ta_6.on hw ta_6.lt).cell 1; have q2 :=  (ta_6.on hw ta_6.lt).cell 2; go_simp; exact rfl), ?_⟩); go_simp; refine hK _ ?_; clear hK K)
  refine ord_told (if z1 = true then undef else .pointer (some ⟨w1.heap.size + 1, 2, none⟩)) rfl (by cases z1; exact .inl ⟨rfl, fun w' hw => by go_simp⟩; exact .inr ⟨rfl, rfl⟩) (fun K hK => ?_)
  go_simp
  refine hK _ ?_
  clear hK K
  refine ord_told (if z1 = true then undef else .bool z2) rfl (by cases z1; exact .inl ⟨rfl, fun w' hw => by have q2 := (tb_6.on hw tb_6.lt).cell 2; go_simp⟩; exact .inr ⟨rfl, rfl⟩) (fun K hK => ?_)
  go_simp
  refine hK _ ?_
  clear hK K
  refine ord_told (.bool (z1 || z2)) rfl (by cases z1 <;> exact .inl ⟨rfl, fun w' hw => by go_simp⟩) (fun K hK => ?_)
  go_simp
  refine hK _ ?_
  clear hK K
  refine ord_told (.bool true) rfl (.inl ⟨rfl, fun w' hw => by go_simp⟩) (fun K hK => ?_)
  go_simp
  refine hK _ ?_
  clear hK K
  repeat (refine ord_float rfl rfl (fun K hK => ⟨_, (fun w' hw => by have q0 := (ta_6.on hw ta_6.lt).cell 0; have q1 :=  (ta_6.on hw ta_6.lt).cell 1; have q2 :=  (ta_6.on hw ta_6.lt).cell 2; have q3 :=  (tb_6.on hw tb_6.lt).cell 0; have q4 :=  (tb_6.on hw tb_6.lt).cell 1; have q5 :=  (tb_6.on hw tb_6.lt).cell 2; go_simp; exact rfl), ?_⟩); go_simp; refine hK _ ?_; clear hK K)
  refine ord_nil ?_
  have hP0 : Below W6.heap.size W6 W6.drew := (Below.refl _ _).drew
  generalize W6.drew = W7 at hP0 ⊢
  apply anyH_fork3 (G := fun g1 g2 w' => Below W6.heap.size W6 w' ∧ Blk w' g1 25 #[.int .i64 px, .int .i64 py, .bool z1, .int .i64 N.1, .int .i64 N.2.1, .bool N.2.2] ∧ Blk w' g2 25 #[.int .i64 qx, .int .i64 qy, .bool z2, .int .i64 qx, .int .i64 qy, .bool z2]) (L3 := #[true, true, true, true, true, true, true, true, true, true, true, true, true, true, true, true, true, true, false, false, false, false, false, false, false, false, false, false, false, false, false, false, false, false, false, false, false, false, false, false, false, false, false, false, false, false, false, false, false, false, false, false, false, false, false, false, false]) (i := 13) (i' := 14) (j := 17)
  · kernel_rfl
  · skip
    refine ord_call rfl rfl (fun K hK => ⟨_, _, (by go_simp <;> first | exact rfl | exact ⟨rfl, rfl⟩), ?_⟩)
    refine (HNg.out _).mono ?_
    rintro e w7 ⟨rfl, hb_w7⟩
    have hB7 := below_then hP0 hb_w7
    refine ⟨_, rfl, hB7, ?_⟩
    go_simp
    refine hK _ _ ?_
    clear hK K hb_w7
    refine ord_nil ⟨hB7, ?_, ?_⟩
    · refine ord_op rfl rfl (fun K hK => ⟨_, _, (by go_simp <;> first | exact ⟨rfl, rfl⟩ | exact rfl), hB7.alloc hB7.size _, ?_⟩)
      go_simp
      refine hK _ _ ?_
      clear hK K
      obtain ⟨X1, hE_X1, hb_X1, k1⟩ := box1 w7 25 #[.int .i64 px, .int .i64 py, .bool z1, .int .i64 N.1, .int .i64 N.2.1, .bool N.2.2]
      rw [hE_X1]
      have hB8 := below_then hB7 hb_X1
      clear hE_X1 hb_X1
      refine ord_op rfl rfl (fun K hK => ⟨_, _, (by go_simp <;> first | exact ⟨rfl, rfl⟩ | exact rfl), hB8.alloc hB8.size _, ?_⟩)
      go_simp
      refine hK _ _ ?_
      clear hK K
      obtain ⟨X2, hE_X2, hb_X2, k2⟩ := box1 X1 25 #[.int .i64 qx, .int .i64 qy, .bool z2, .int .i64 qx, .int .i64 qy, .bool z2]
      rw [hE_X2]
      have hB9 := below_then hB8 hb_X2
      have k1b := k1.on hb_X2 k1.lt
      clear hE_X2 hb_X2
      generalize w7.heap.size = g1 at k1b ⊢
      generalize X1.heap.size = g2 at k2 ⊢
      exact ord_nil ⟨g1, g2, rfl, hB9, k1b, k2⟩
    · refine ord_op rfl rfl (fun K hK => ⟨_, _, (by go_simp <;> first | exact ⟨rfl, rfl⟩ | exact rfl), hB7.alloc hB7.size _, ?_⟩)
      go_simp
      refine hK _ _ ?_
      clear hK K
      obtain ⟨X1, hE_X1, hb_X1, k2⟩ := box1 w7 25 #[.int .i64 qx, .int .i64 qy, .bool z2, .int .i64 qx, .int .i64 qy, .bool z2]
      rw [hE_X1]
      have hB8 := below_then hB7 hb_X1
      clear hE_X1 hb_X1
      refine ord_op rfl rfl (fun K hK => ⟨_, _, (by go_simp <;> first | exact ⟨rfl, rfl⟩ | exact rfl), hB8.alloc hB8.size _, ?_⟩)
      go_simp
      refine hK _ _ ?_
      clear hK K
      obtain ⟨X2, hE_X2, hb_X2, k1⟩ := box1 X1 25 #[.int .i64 px, .int .i64 py, .bool z1, .int .i64 N.1, .int .i64 N.2.1, .bool N.2.2]
      rw [hE_X2]
      have hB9 := below_then hB8 hb_X2
      have k2b := k2.on hb_X2 k2.lt
      clear hE_X2 hb_X2
      exact ord_nil ⟨_, _, rfl, hB9, k1, k2b⟩
  · skip
    refine ord_op rfl rfl (fun K hK => ⟨_, _, (by go_simp <;> first | exact ⟨rfl, rfl⟩ | exact rfl), hP0.alloc hP0.size _, ?_⟩)
    go_simp
    refine hK _ _ ?_
    clear hK K
    obtain ⟨X1, hE_X1, hb_X1, k2⟩ := box1 W7 25 #[.int .i64 qx, .int .i64 qy, .bool z2, .int .i64 qx, .int .i64 qy, .bool z2]
    rw [hE_X1]
    have hB7 := below_then hP0 hb_X1
    clear hE_X1 hb_X1
    refine ord_call rfl rfl (fun K hK => ⟨_, _, (by go_simp <;> first | exact rfl | exact ⟨rfl, rfl⟩), ?_⟩)
    refine (HNg.out _).mono ?_
    rintro e w7 ⟨rfl, hb_w7⟩
    have hB8 := below_then hB7 hb_w7
    have k2b := k2.on hb_w7 k2.lt
    refine ⟨_, rfl, hB8, ?_⟩
    go_simp
    refine hK _ _ ?_
    clear hK K hb_w7
    refine ord_op rfl rfl (fun K hK => ⟨_, _, (by go_simp <;> first | exact ⟨rfl, rfl⟩ | exact rfl), hB8.alloc hB8.size _, ?_⟩)
    go_simp
    refine hK _ _ ?_
    clear hK K
    obtain ⟨X2, hE_X2, hb_X2, k1⟩ := box1 w7 25 #[.int .i64 px, .int .i64 py, .bool z1, .int .i64 N.1, .int .i64 N.2.1, .bool N.2.2]
    rw [hE_X2]
    have hB9 := below_then hB8 hb_X2
    have k2c := k2b.on hb_X2 k2b.lt
    clear hE_X2 hb_X2
    exact ord_nil ⟨_, _, rfl, hB9, k1, k2c⟩
  · rintro g1 g2 w7 ⟨hB7, k1, k2⟩
    clear HNg
    refine anyH_ord [(18, true), (19, false), (20, false), (21, false), (22, false), (24, false), (25, false), (23, true), (26, true), (27, false), (28, false), (29, false), (30, false), (31, false), (32, false), (34, false), (35, false), (36, false), (33, true), (37, true), (38, false), (39, false), (40, false), (41, false), (42, false), (44, false), (45, false), (43, true), (46, true), (47, false), (48, false), (49, false), (53, false), (50, true), (51, true), (52, true), (54, false), (55, false), (56, false)] (by kernel_rfl) hB7 ?_
    refine ord_call rfl rfl (fun K hK => ⟨_, _, (by go_simp <;> first | exact rfl | exact ⟨rfl, rfl⟩), ?_⟩)
    refine (HPR.out _ _ _ k1 k2).mono ?_
    rintro e w8 ⟨rfl, hb8⟩
    have hB8 := below_then hB7 hb8
    have y1 := (HF6.out.1.on hB8).wide hB8.size
    have y2 := (HF6.out.2.on hB8).wide hB8.size
    clear hb8 hB7 k1 k2 HPR
    refine ⟨_, rfl, hB8, ?_⟩
    go_simp
    refine hK _ _ ?_
    clear hK K
    repeat (refine ord_float rfl rfl (fun K hK => ⟨_, (fun w' hw => by have q0 := (ta_6.on hw ta_6.lt).cell 0; go_simp; exact rfl), ?_⟩); go_simp; refine hK _ ?_; clear hK K)
    refine ord_call rfl rfl (fun K hK => ⟨_, _, (by go_simp <;> first | exact rfl | exact ⟨rfl, rfl⟩), ?_⟩)
    refine (HQ1.out _ y1 y2).mono ?_
    rintro e w9 ⟨rfl, hb9⟩
    have hB9 := below_then hB8 hb9
    have y3 := (HF6.out.1.on hB9).wide hB9.size
    have y4 := (HF6.out.2.on hB9).wide hB9.size
    clear hb9 hB8 y1 y2 HQ1
    refine ⟨_, rfl, hB9, ?_⟩
    go_simp
    refine hK _ _ ?_
    clear hK K
    refine ord_call rfl rfl (fun K hK => ⟨_, _, (by go_simp <;> first | exact rfl | exact ⟨rfl, rfl⟩), ?_⟩)
    refine (HQ2.out _ y3 y4).mono ?_
    rintro e w10 ⟨rfl, hb10⟩
    have hB10 := below_then hB9 hb10
    clear hb10 hB9 y3 y4 HQ2
    refine ⟨_, rfl, hB10, ?_⟩
    go_simp
    refine hK _ _ ?_
    clear hK K
    repeat (refine ord_float rfl rfl (fun K hK => ⟨_, (fun w' hw => by have q0 := (tl_6.on hw tl_6.lt).cell 0; have q1 :=  (tl_6.on hw tl_6.lt).cell 1; have q2 :=  (tl_6.on hw tl_6.lt).cell 2; have q3 :=  (tm_6.on hw tm_6.lt).cell 0; have q4 :=  (tm_6.on hw tm_6.lt).cell 1; have q5 :=  (tm_6.on hw tm_6.lt).cell 2; have q6 :=  (tn_6.on hw tn_6.lt).cell 0; have q7 :=  (tn_6.on hw tn_6.lt).cell 1; have q8 :=  (tn_6.on hw tn_6.lt).cell 2; go_simp; exact rfl), ?_⟩); go_simp; refine hK _ ?_; clear hK K)
    refine ord_call rfl rfl (fun K hK => ⟨_, _, (by go_simp <;> first | exact rfl | exact ⟨rfl, rfl⟩), ?_⟩)
    refine (HL1.out _).mono ?_
    rintro e w11 ⟨rfl, hb11⟩
    have hB11 := below_then hB10 hb11
    clear hb11 hB10 HL1
    refine ⟨_, rfl, hB11, ?_⟩
    go_simp
    refine hK _ _ ?_
    clear hK K
    refine ord_call rfl rfl (fun K hK => ⟨_, _, (by go_simp <;> first | exact rfl | exact ⟨rfl, rfl⟩), ?_⟩)
    refine (HL2.out _).mono ?_
    rintro e w12 ⟨rfl, hb12⟩
    have hB12 := below_then hB11 hb12
    clear hb12 hB11 HL2
    refine ⟨_, rfl, hB12, ?_⟩
    go_simp
    refine hK _ _ ?_
    clear hK K
    repeat (refine ord_float rfl rfl (fun K hK => ⟨_, (fun w' hw => by have q0 := (tu_6.on hw tu_6.lt).cell 0; have q1 :=  (tu_6.on hw tu_6.lt).cell 1; have q2 :=  (tu_6.on hw tu_6.lt).cell 2; have q3 :=  (tv_6.on hw tv_6.lt).cell 0; have q4 :=  (tv_6.on hw tv_6.lt).cell 1; have q5 :=  (tv_6.on hw tv_6.lt).cell 2; go_simp; exact rfl), ?_⟩); go_simp; refine hK _ ?_; clear hK K)
    refine ord_call rfl rfl (fun K hK => ⟨_, _, (by go_simp <;> first | exact rfl | exact ⟨rfl, rfl⟩), ?_⟩)
    refine (HM1.out _).mono ?_
    rintro e w13 ⟨rfl, hb13⟩
    have hB13 := below_then hB12 hb13
    clear hb13 hB12 HM1
    refine ⟨_, rfl, hB13, ?_⟩
    go_simp
    refine hK _ _ ?_
    clear hK K
    refine ord_call rfl rfl (fun K hK => ⟨_, _, (by go_simp <;> first | exact rfl | exact ⟨rfl, rfl⟩), ?_⟩)
    refine (HM2.out _).mono ?_
    rintro e w14 ⟨rfl, hb14⟩
    have hB14 := below_then hB13 hb14
    clear hb14 hB13 HM2
    refine ⟨_, rfl, hB14, ?_⟩
    go_simp
    refine hK _ _ ?_
    clear hK K
    repeat (refine ord_float rfl rfl (fun K hK => ⟨_, (fun w' hw => by have q0 := (ta_6.on hw ta_6.lt).cell 0; go_simp; exact rfl), ?_⟩); go_simp; refine hK _ ?_; clear hK K)
    refine ord_call rfl rfl (fun K hK => ⟨_, _, (by go_simp <;> first | exact rfl | exact ⟨rfl, rfl⟩), ?_⟩)
    refine (HBs.out _).mono ?_
    rintro e w15 ⟨rfl, hb15⟩
    have hB15 := below_then hB14 hb15
    clear hb15 hB14
    refine ⟨_, rfl, hB15, ?_⟩
    go_simp
    refine hK _ _ ?_
    clear hK K
    refine ord_call rfl rfl (fun K hK => ⟨_, _, (by go_simp <;> first | exact rfl | exact ⟨rfl, rfl⟩), ?_⟩)
    refine (HBs.out _).mono ?_
    rintro e w16 ⟨rfl, hb16⟩
    have hB16 := below_then hB15 hb16
    clear hb16 hB15
    refine ⟨_, rfl, hB16, ?_⟩
    go_simp
    refine hK _ _ ?_
    clear hK K
    refine ord_call rfl rfl (fun K hK => ⟨_, _, (by go_simp <;> first | exact rfl | exact ⟨rfl, rfl⟩), ?_⟩)
    refine (HPB.out _).mono ?_
    rintro e w17 ⟨rfl, hb17⟩
    have hB17 := below_then hB16 hb17
    clear hb17 hB16
    refine ⟨_, rfl, hB17, ?_⟩
    go_simp
    refine hK _ _ ?_
    clear hK K
    repeat (refine ord_float rfl rfl (fun K hK => ⟨_, (fun w' hw => by have q0 := (ta_6.on hw ta_6.lt).cell 0; go_simp; exact rfl), ?_⟩); go_simp; refine hK _ ?_; clear hK K)
    refine ord_nil ?_
    go_wp2
    all_goals go_ret
    all_goals exact ⟨rfl, below_then hB6 hB17⟩

end Go.Proofs.Ytckhbflolccinaa
