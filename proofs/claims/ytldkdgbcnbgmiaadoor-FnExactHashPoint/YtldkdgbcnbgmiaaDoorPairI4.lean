/-
  The walks of the program's pairs: Miller, the pair.
  (-DROP-: what the seat lacks is left out.)
-/
import Derived.Test.YtldkdgbcnbgmiaaDoorPairI3
import Derived.Test.YtldkdgbcnbgmiaaDoorJoined43
import Derived.Test.YtldkdgbcnbgmiaaDoorJoined40
namespace Go.Proofs.YtldkdgbcnbgmiaaDoor
open Go.RowKit

theorem in2_ti (x : Int × Int) : In2 (ti x) := by rw [← ti_by]; exact in2_tm _ _

/-- Where all lines are one, the number is one. -/
theorem mill_one {P R : Pt} (D : Pt → Prop) (h0 : D P) (h1 : ∀ T, D T → pLineB T T R = (1, 0) ∧ D (pSum T T) ∧ pLineB (pSum T T) P R = (1, 0) ∧ D (pSum (pSum T T) P)) : millS P R = (1, 0) := by
  have key : ∀ k, (mSt P R k).1 = (1, 0) ∧ D (mSt P R k).2 := by
    intro k
    induction k with
    | zero => exact ⟨rfl, h0⟩
    | succ k ih =>
      obtain ⟨i1, i2⟩ := ih
      obtain ⟨a, b, c, d⟩ := h1 _ i2
      show (mStepS P R _ (mSt P R k)).1 = (1, 0) ∧ D (mStepS P R _ (mSt P R k)).2
      unfold mStepS
      rw [i1, a, c]
      split
      · exact ⟨rfl, d⟩
      · exact ⟨rfl, b⟩
  exact (mst_all P R).symm.trans (key 9).1

theorem line_bad3 {P Q R : Pt} (h : pOkB R = false ∨ R = pZ) : pLineB P Q R = (1, 0) := by
  unfold pLineB
  rcases h with h | h
  · rw [h]; simp
  · subst h
    split
    · rw [pline_told]; simp [pZ]
    · rfl
theorem line_bad1 {P Q R : Pt} (h : pOkB P = false ∨ P = pZ) : pLineB P Q R = (1, 0) := by
  unfold pLineB
  rcases h with h | h
  · rw [h]; simp
  · subst h
    split
    · rw [pline_told]; simp [pZ]
    · rfl
theorem line_bad2 {P Q R : Pt} (h : pOkB Q = false ∨ Q = pZ) : pLineB P Q R = (1, 0) := by
  unfold pLineB
  rcases h with h | h
  · rw [h]; simp
  · subst h
    split
    · rw [pline_told]; simp [pZ]
    · rfl
theorem mill_bad2 {P R : Pt} (h : pOkB R = false ∨ R = pZ) : millS P R = (1, 0) :=
  mill_one (fun _ => True) trivial fun _ _ => ⟨line_bad3 h, trivial, line_bad3 h, trivial⟩
theorem sum_bad {T U : Pt} (hT : pOkB T = false ∨ T = pZ) (hU : pOkB U = false ∨ U = pZ) : pSum T U = pZ := by
  unfold pSum
  rcases hT with h | h
  · rw [h]; rfl
  · subst h
    rcases hU with h | h
    · rw [h]; simp
    · subst h; rfl
theorem mill_bad1 {P R : Pt} (h : pOkB P = false ∨ P = pZ) : millS P R = (1, 0) :=
  mill_one (fun T => pOkB T = false ∨ T = pZ) h fun _ hT => ⟨line_bad1 hT, .inr (sum_bad hT hT), line_bad2 h, .inr (sum_bad (.inr (sum_bad hT hT)) h)⟩

theorem np_mill (P R : Pt) : millS (nP P) (nP R) = millS P R := by
  unfold nP
  cases h1 : pOkB P
  · rw [if_neg Bool.false_ne_true, mill_bad1 (.inr rfl), mill_bad1 (.inl h1)]
  · rw [if_pos rfl]
    cases h2 : pOkB R
    · rw [if_neg Bool.false_ne_true, mill_bad2 (.inr rfl), mill_bad2 (.inl h2)]
    · rw [if_pos rfl]

theorem np_in {P : Pt} (h : inGB P = true) : nP P = P := by
  unfold nP
  rw [if_pos (pokB.2 (ing_iff.1 h).1)]

theorem mend_one : mEnd (1, 0) = (1, 0) := by kernel_rfl

theorem pair_told {P Q : Pt} (hP : inGB P = true) (hQ : inGB Q = true) : pairS P Q = mEnd (millS P Q) := by
  unfold pairS
  rw [hP, hQ]
  cases h1 : P.2.2
  · cases h2 : Q.2.2
    · rfl
    · rw [mill_bad2 (.inr ((zero_flag (ing_iff.1 hQ).1).1 h2)), mend_one]; rfl
  · rw [mill_bad1 (.inr ((zero_flag (ing_iff.1 hP).1).1 h1)), mend_one]; rfl

set_option maxHeartbeats 1600000 in
set_option maxRecDepth 100000 in
theorem pairWith_any (a b : Value) (P R : Pt) (w : World) (hp : PAt w a P) (hr : PAt w b R) (oP : POk P) (oR : POk R) :
    Calls Tryd.prog 52 #[a, b] w fun e w' => e = .returned (tv (mEnd (millS P R))) ∧ Below w.heap.size w w' := by
  obtain ⟨W, hW, hb, hs⟩ := box1 w 69 #[.int .i64 0, .int .i64 0]
  have HL : Hid (Calls Tryd.prog 71 #[a, b] W fun e w' => e = .returned (tv (millS P R)) ∧ Below W.heap.size W w') := linesAt_any a b P R W (hp.on hb) (hr.on hb) oP oR
  have hin := in2_mills P R
  generalize millS P R = x at HL hin ⊢
  have HT : Hid (∀ w, Calls Tryd.prog 72 #[tv x] w fun e w' => e = .returned (tv (tt x)) ∧ Below w.heap.size w w') := turned_any _ hin
  have HI : Hid (∀ w, Calls Tryd.prog 74 #[tv x] w fun e w' => e = .returned (tv (ti x)) ∧ Below w.heap.size w w') := inverse2_any _ hin
  have HX : Hid (∀ w, Calls Tryd.prog 73 #[tv (tt x), tv (ti x)] w fun e w' => e = .returned (tv (tm (tt x) (ti x))) ∧ Below w.heap.size w w') := times2_any _ _ (in2_tt hin) (in2_ti x)
  have HP : Hid (∀ w, Calls Tryd.prog 75 #[tv (tm (tt x) (ti x)), .int .i64 12] w fun e w' => e = .returned (tv (mEnd x)) ∧ Below w.heap.size w w') := by
    have h := power2_any (tm (tt x) (ti x)) (in2_tm _ _) 12 (by decide)
    rw [show tp (tm (tt x) (ti x)) 12 = mEnd x from tp_pw _ 12] at h
    exact h
  generalize mEnd x = E at HP ⊢
  generalize tm (tt x) (ti x) = M at HX HP
  generalize tt x = X1 at HT HX
  generalize ti x = X2 at HI HX
  clear hin hp hr oP oR
  go_enter Tryd.func52, Tryd.ntmps52
  go_wp2_with fail
  clear hW
  refine HL.out.mono ?_
  rintro e w1 ⟨rfl, hw⟩
  have hs1 := hs.on hw hs.lt
  have hb1 := below_then hb hw
  clear hs hb hw HL
  obtain ⟨V, hV, hbV, h5⟩ := box1 w1 69 #[.int .i64 x.1, .int .i64 x.2]
  go_wp2
  have hs2 := hs1.on hbV hs1.lt
  have hb2 := below_then hb1 hbV
  clear hV hbV hs1 hb1
  refine wp_region_class 6 (fun wz => Below V.heap.size V wz) mixes (by kernel_rfl) (Below.refl _ _).drew ?_
  simp only [List.take_succ_cons, List.take_zero, List.drop_succ_cons, List.drop_zero]
  repeat (refine cls_step rfl (fun K hK => ⟨_, (fun w' hw => by have q0 := (h5.on hw h5.lt).cell 0; have q1 := (h5.on hw h5.lt).cell 1; go_simp; exact rfl), ?_⟩); go_simp; refine hK _ ?_; clear hK K)
  refine cls_call rfl (fun K hK => ⟨_, _, _, (fun w' => by go_simp <;> first | exact rfl | exact ⟨rfl, rfl⟩), (fun w' hw => calls_below hw (HT.out _)), ?_⟩); go_simp; refine hK _ ?_; clear hK K
  repeat (refine cls_step rfl (fun K hK => ⟨_, (fun w' hw => by have q0 := (h5.on hw h5.lt).cell 0; have q1 := (h5.on hw h5.lt).cell 1; go_simp; exact rfl), ?_⟩); go_simp; refine hK _ ?_; clear hK K)
  refine cls_call rfl (fun K hK => ⟨_, _, _, (fun w' => by go_simp <;> first | exact rfl | exact ⟨rfl, rfl⟩), (fun w' hw => calls_below hw (HI.out _)), ?_⟩); go_simp; refine hK _ ?_; clear hK K
  refine cls_call rfl (fun K hK => ⟨_, _, _, (fun w' => by go_simp <;> first | exact rfl | exact ⟨rfl, rfl⟩), (fun w' hw => calls_below hw (HX.out _)), ?_⟩); go_simp; refine hK _ ?_; clear hK K
  refine cls_call rfl (fun K hK => ⟨_, _, _, (fun w' => by go_simp <;> first | exact rfl | exact ⟨rfl, rfl⟩), (fun w' hw => calls_below hw (HP.out _)), ?_⟩); go_simp; refine hK _ ?_; clear hK K
  refine wq_nil ?_
  intro w' hw
  have hs3 := hs2.on hw hs2.lt
  have hb3 := below_then hb2 hw
  clear hs2 hb2 hw h5
  go_wp2_with (refine store_blk (cs' := #[.int .i64 E.1, .int .i64 E.2]) rfl rfl rfl rfl rfl hs3 infoN rfl (ones2 _ _) ?_; intro U h7 hoth hbel; have hbU := hbel _ _ (by omega) hb3; clear hoth hbel)
  refine bodyPost_ret_by (result_blk rfl rfl h7 Tryd.underlying69 infoN) rfl ⟨rfl, hbU⟩

set_option maxHeartbeats 1600000 in
set_option maxRecDepth 100000 in
theorem iPairing_any (P Q : Pt) (w : World) :
    Calls Tryd.prog 29 #[pv P, pv Q] w fun e w' => e = .returned (tv (pairS P Q)) ∧ Below w.heap.size w w' := by
  have HA : Hid (∀ w, Calls Tryd.prog 28 #[pv P] w fun e w' => e = .returned (.bool (inGB P)) ∧ Below w.heap.size w w') := iInG_any P
  have HB : Hid (∀ w, Calls Tryd.prog 28 #[pv Q] w fun e w' => e = .returned (.bool (inGB Q)) ∧ Below w.heap.size w w') := iInG_any Q
  have HC : Hid (∀ w, Calls Tryd.prog 46 #[pv P] w fun e w' => ∃ v', e = .returned (.tuple #[v', .bool (pOkB P)]) ∧ PAt w' v' (nP P) ∧ Below w.heap.size w w') := placeZ_any P
  have HD : Hid (∀ w, Calls Tryd.prog 46 #[pv Q] w fun e w' => ∃ v', e = .returned (.tuple #[v', .bool (pOkB Q)]) ∧ PAt w' v' (nP Q) ∧ Below w.heap.size w w') := placeZ_any Q
  have HL : Hid (inGB P = true → inGB Q = true → ∀ a b w, PAt w a (nP P) → PAt w b (nP Q) → Calls Tryd.prog 52 #[a, b] w fun e w' => e = .returned (tv (pairS P Q)) ∧ Below w.heap.size w w') := fun g1 g2 a b w h1 h2 => by
    rw [pair_told g1 g2, ← np_mill]; exact pairWith_any a b _ _ w h1 h2 (np_ok P) (np_ok Q)
  have HT : Hid (∀ w, Calls Tryd.prog 53 #[tv (pairS P Q)] w fun e w' => e = .returned (tv (pairS P Q)) ∧ Below w.heap.size w w') := two_any _
  have H1 : Hid (inGB P = false → pairS P Q = (1, 0)) := fun h => by unfold pairS; rw [h]; rfl
  have H2 : Hid (inGB Q = false → pairS P Q = (1, 0)) := fun h => by unfold pairS; rw [h]; simp
  generalize pairS P Q = L at HL HT H1 H2 ⊢
  generalize inGB P = g1 at HA HL H1
  generalize inGB Q = g2 at HB HL H2
  generalize pOkB P = o1 at HC
  generalize pOkB Q = o2 at HD
  generalize nP P = N1 at HC HL
  generalize nP Q = N2 at HD HL
  obtain ⟨p1, p2, z1⟩ := P
  obtain ⟨q1, q2, z2⟩ := Q
  unfold pv at HA HB HC HD ⊢
  simp only at HA HB HC HD ⊢
  obtain ⟨W, hW, hb, hp, hq, hs⟩ := boxes2r w 23 23 45 #[.int .i64 p1, .int .i64 p2, .bool z1] #[.int .i64 q1, .int .i64 q2, .bool z2] #[.int .i64 0, .int .i64 0]
  cases g1
  · have hE := H1.out rfl
    rw [hE]
    clear hE H1 H2 HL HT HB HC HD
    go_enter Tryd.func29, Tryd.ntmps29
    go_wp2_with (refine load_blk rfl rfl rfl hp Tryd.underlying23 infoP ?_)
    clear hW
    refine (HA.out _).mono ?_
    rintro e w1 ⟨rfl, hw⟩
    have hs1 := hs.on hw hs.lt
    have hb1 := below_then hb hw
    clear hp hq hs hb hw HA
    go_wp2_with (refine store_blk (cs' := #[.int .i64 1, .int .i64 0]) rfl rfl rfl rfl rfl hs1 infoT rfl (ones2 _ _) ?_; intro V h5 hoth hbel; have hbV := hbel _ _ (by omega) hb1; clear hoth hbel)
    refine bodyPost_ret_by (result_blk rfl rfl h5 Tryd.underlying45 infoT) rfl ⟨rfl, hbV⟩
  · cases g2
    · have hE := H2.out rfl
      rw [hE]
      clear hE H1 H2 HL HT HC HD
      go_enter Tryd.func29, Tryd.ntmps29
      go_wp2_with (refine load_blk rfl rfl rfl hp Tryd.underlying23 infoP ?_)
      clear hW
      refine (HA.out _).mono ?_
      rintro e w1 ⟨rfl, hw⟩
      have hs1 := hs.on hw hs.lt
      have hq1 := hq.on hw hq.lt
      have hb1 := below_then hb hw
      have q0 := hq1.cell 0
      have q1 := hq1.cell 1
      have q2 := hq1.cell 2
      clear hp hq hs hb hw HA
      go_wp2_with fail
      clear q0 q1 q2
      refine (HB.out _).mono ?_
      rintro e w2 ⟨rfl, hw⟩
      have hs2 := hs1.on hw hs1.lt
      have hb2 := below_then hb1 hw
      clear hs1 hq1 hb1 hw HB
      go_wp2_with (refine store_blk (cs' := #[.int .i64 1, .int .i64 0]) rfl rfl rfl rfl rfl hs2 infoT rfl (ones2 _ _) ?_; intro V h5 hoth hbel; have hbV := hbel _ _ (by omega) hb2; clear hoth hbel)
      refine bodyPost_ret_by (result_blk rfl rfl h5 Tryd.underlying45 infoT) rfl ⟨rfl, hbV⟩
    · have HL' : Hid (∀ a b w, PAt w a N1 → PAt w b N2 → Calls Tryd.prog 52 #[a, b] w fun e w' => e = .returned (tv L) ∧ Below w.heap.size w w') := HL.out rfl rfl
      clear H1 H2 HL
      go_enter Tryd.func29, Tryd.ntmps29
      go_wp2_with (refine load_blk rfl rfl rfl hp Tryd.underlying23 infoP ?_)
      clear hW
      refine (HA.out _).mono ?_
      rintro e w1 ⟨rfl, hw⟩
      have hs1 := hs.on hw hs.lt
      have hp1 := hp.on hw hp.lt
      have hq1 := hq.on hw hq.lt
      have hb1 := below_then hb hw
      have q0 := hq1.cell 0
      have q1 := hq1.cell 1
      have q2 := hq1.cell 2
      clear hp hq hs hb hw HA
      go_wp2_with fail
      clear q0 q1 q2
      refine (HB.out _).mono ?_
      rintro e w2 ⟨rfl, hw⟩
      have hs2 := hs1.on hw hs1.lt
      have hp2 := hp1.on hw hp1.lt
      have hq2 := hq1.on hw hq1.lt
      have hb2 := below_then hb1 hw
      clear hs1 hp1 hq1 hb1 hw HB
      go_wp2_with (refine load_blk rfl rfl rfl hp2 Tryd.underlying23 infoP ?_)
      refine (HC.out _).mono ?_
      rintro e w3 ⟨v1, rfl, hv1, hw⟩
      have HV1 : Hid (PAt w3 v1 N1) := hv1
      have hq3 := hq2.on hw hq2.lt
      have hs3 := hs2.on hw hs2.lt
      have hb3 := below_then hb2 hw
      clear hp2 hq2 hs2 hb2 hw hv1 HC
      go_wp2_with (refine load_blk rfl rfl rfl hq3 Tryd.underlying23 infoP ?_)
      refine (HD.out _).mono ?_
      rintro e w4 ⟨v2, rfl, hv2, hw⟩
      have HV2 : Hid (PAt w4 v2 N2) := hv2
      have HV1' : Hid (PAt w4 v1 N1) := HV1.out.on hw
      have hs4 := hs3.on hw hs3.lt
      have hb4 := below_then hb3 hw
      clear hq3 hs3 hb3 hw hv2 HD HV1
      go_wp2_with fail
      refine (HL'.out _ _ _ HV1'.out HV2.out).mono ?_
      rintro e w5 ⟨rfl, hw⟩
      have hs5 := hs4.on hw hs4.lt
      have hb5 := below_then hb4 hw
      clear hs4 hb4 hw HL' HV1' HV2
      go_wp2_with fail
      refine (HT.out _).mono ?_
      rintro e w6 ⟨rfl, hw⟩
      have hs6 := hs5.on hw hs5.lt
      have hb6 := below_then hb5 hw
      clear hs5 hb5 hw HT
      go_wp2_with (refine store_blk (cs' := #[.int .i64 L.1, .int .i64 L.2]) rfl rfl rfl rfl rfl hs6 infoT rfl (ones2 _ _) ?_; intro V h5 hoth hbel; have hbV := hbel _ _ (by omega) hb6; clear hoth hbel)
      refine bodyPost_ret_by (result_blk rfl rfl h5 Tryd.underlying45 infoT) rfl ⟨rfl, hbV⟩

end Go.Proofs.YtldkdgbcnbgmiaaDoor
