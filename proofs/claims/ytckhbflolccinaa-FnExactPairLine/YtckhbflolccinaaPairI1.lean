/-
  The walks of the program's pairs: a line at a point.
  (-DROP-: what the seat lacks is left out.)
-/
import Derived.Test.YtckhbflolccinaaPlaceN
import Derived.Test.YtckhbflolccinaaPairS
import Derived.Test.YtckhbflolccinaaTwoQ
namespace Go.Proofs.Ytckhbflolccinaa
open Go.RowKit

theorem pline_told (P Q R : Pt) : pLine P Q R = if P.2.2 || Q.2.2 || R.2.2 then (1, 0) else if (pSlope P Q).2 = true then (fpSub (fpSub 0 P.2.1) (fpMul (pSlope P Q).1 (fpSub (fpSub 0 R.1) P.1)), R.2.1) else (1, 0) := by
  unfold pLine
  rw [psl_slope]
  cases P.2.2 <;> cases Q.2.2 <;> cases R.2.2 <;> cases (pSlope P Q).2 <;> simp

theorem in2_pline {P Q R : Pt} (hR : POk R) : In2 (pLine P Q R) := by
  rw [pline_told]
  by_cases h : (P.2.2 || Q.2.2 || R.2.2) = true
  · rw [if_pos h]; exact in2_one
  · rw [if_neg h]
    split
    · obtain ⟨x, y, z⟩ := R
      cases z
      · exact ⟨fi_sub _ _, (pok_xy hR).2⟩
      · simp at h
    · exact in2_one

set_option maxHeartbeats 1600000 in
set_option maxRecDepth 100000 in
theorem lineAt_any (a b c : Value) (P Q R : Pt) (w : World) (hp : PAt w a P) (hq : PAt w b Q) (hr : PAt w c R) (oP : POk P) (oQ : POk Q) (oR : POk R) :
    Calls Try.prog 58 #[a, b, c] w fun e w' => e = .returned (tv (pLine P Q R)) ∧ Below w.heap.size w w' := by
  rw [pline_told]
  rcases hp with ⟨rfl, rfl⟩ | ⟨b1, x, y, rfl, rfl, hx⟩
  · clear oP oQ oR hq hr
    show Calls _ _ _ _ fun e w' => e = .returned (tv (1, 0)) ∧ Below w.heap.size w w'
    go_enter Try.func58, Try.ntmps58
    go_wp2
    refine bodyPost_ret_by (result_blk rfl rfl (Blk.newAt (by simp)) Try.underlying66 infoN) rfl ⟨rfl, (Below.refl _ _).alloc (Nat.le_refl _) _⟩
  · rcases hq with ⟨rfl, rfl⟩ | ⟨b2, u, v, rfl, rfl, hy⟩
    · clear oP oQ oR hr hx
      show Calls _ _ _ _ fun e w' => e = .returned (tv (1, 0)) ∧ Below w.heap.size w w'
      go_enter Try.func58, Try.ntmps58
      go_wp2
      refine bodyPost_ret_by (result_blk rfl rfl (Blk.newAt (by simp)) Try.underlying66 infoN) rfl ⟨rfl, (Below.refl _ _).alloc (Nat.le_refl _) _⟩
    · rcases hr with ⟨rfl, rfl⟩ | ⟨b3, s, t, rfl, rfl, hz⟩
      · clear oP oQ oR hx hy
        show Calls _ _ _ _ fun e w' => e = .returned (tv (1, 0)) ∧ Below w.heap.size w w'
        go_enter Try.func58, Try.ntmps58
        go_wp2
        refine bodyPost_ret_by (result_blk rfl rfl (Blk.newAt (by simp)) Try.underlying66 infoN) rfl ⟨rfl, (Below.refl _ _).alloc (Nat.le_refl _) _⟩
      · have Fx : Hid (Fi x) := (pok_xy oP).1
        have Fy : Hid (Fi y) := (pok_xy oP).2
        have Fs : Hid (Fi s) := (pok_xy oR).1
        have Fl : Hid (Fi (pSlope (x, y, false) (u, v, false)).1) := fi_slope _ _
        obtain ⟨W, hW, hb, hres⟩ := box1 w 66 #[.int .i64 0, .int .i64 0]
        have hx0 := hx.on hb hx.lt
        have hy0 := hy.on hb hy.lt
        have hz0 := hz.on hb hz.lt
        have HL : Hid (Calls Try.prog 75 #[.pointer (some ⟨b1, 0, none⟩), .pointer (some ⟨b2, 0, none⟩)] W fun e w' => e = .returned (.tuple #[.int .i64 (pSlope (x, y, false) (u, v, false)).1, .bool (pSlope (x, y, false) (u, v, false)).2]) ∧ Below W.heap.size W w') := slopeTo_any b1 b2 x y u v W hx0 hy0 Fx.out Fy.out (pok_xy oQ).1 (pok_xy oQ).2
        clear oP oQ oR hx hy hz
        generalize pSlope (x, y, false) (u, v, false) = S at Fl HL ⊢
        obtain ⟨l, ok⟩ := S
        cases ok
        · show Calls _ _ _ _ fun e w' => e = .returned (tv (1, 0)) ∧ Below w.heap.size w w'
          go_enter Try.func58, Try.ntmps58
          go_wp2_with fail
          clear hW
          refine HL.out.mono ?_
          rintro e w1 ⟨rfl, hb1⟩
          have hr1 := hres.on hb1 hres.lt
          have hB1 := below_then hb hb1
          clear hx0 hy0 hz0 HL hres hb hb1
          go_wp2_with (refine store_blk (cs' := #[.int .i64 1, .int .i64 0]) rfl rfl rfl rfl rfl hr1 infoN rfl (ones2 _ _) ?_; intro V h5 hoth hbel; have hbV := hbel _ _ (by omega) hB1; clear hoth hbel)
          refine bodyPost_ret_by (result_blk rfl rfl h5 Try.underlying66 infoN) rfl ⟨rfl, hbV⟩
        · show Calls _ _ _ _ fun e w' => e = .returned (tv (fpSub (fpSub 0 y) (fpMul l (fpSub (fpSub 0 s) x)), t)) ∧ Below w.heap.size w w'
          go_enter Try.func58, Try.ntmps58
          go_wp2_with fail
          clear hW
          refine HL.out.mono ?_
          rintro e w1 ⟨rfl, hb1⟩
          have hr1 := hres.on hb1 hres.lt
          have hx1 := hx0.on hb1 hx0.lt
          have hz1 := hz0.on hb1 hz0.lt
          have hB1 := below_then hb hb1
          clear hx0 hy0 hz0 HL hres hb hb1
          go_wp2_with fail
          refine wp_region_class 10 (fun wz => Below w1.heap.size w1 wz) mixes (by kernel_rfl) (Below.refl _ _).drew ?_
          simp only [List.take_succ_cons, List.take_zero, List.drop_succ_cons, List.drop_zero]
          repeat (refine cls_step rfl (fun K hK => ⟨_, (fun w' hw => by have q0 := (hz1.on hw hz1.lt).cell 0; have q1 := (hz1.on hw hz1.lt).cell 1; go_simp; exact rfl), ?_⟩); go_simp; refine hK _ ?_; clear hK K)
          refine cls_call rfl (fun K hK => ⟨_, _, _, (fun w' => by go_simp <;> first | exact rfl | exact ⟨rfl, rfl⟩), (fun w' hw => calls_same hw (minus_f fi_0 Fs.out _)), ?_⟩); go_simp; refine hK _ ?_; clear hK K
          repeat (refine cls_step rfl (fun K hK => ⟨_, (fun w' hw => by have q0 := (hx1.on hw hx1.lt).cell 0; have q1 := (hx1.on hw hx1.lt).cell 1; go_simp; exact rfl), ?_⟩); go_simp; refine hK _ ?_; clear hK K)
          refine cls_call rfl (fun K hK => ⟨_, _, _, (fun w' => by go_simp <;> first | exact rfl | exact ⟨rfl, rfl⟩), (fun w' hw => calls_same hw (minus_f (fi_sub _ _) Fx.out _)), ?_⟩); go_simp; refine hK _ ?_; clear hK K
          refine wq_nil ?_
          intro w' hw
          have hr2 := hr1.on hw hr1.lt
          have hx2 := hx1.on hw hx1.lt
          have hz2 := hz1.on hw hz1.lt
          have hB2 := below_then hB1 hw
          clear hr1 hx1 hz1 hB1 hw
          go_wp2_with fail
          refine wp_region_class 14 (fun wz => Below w'.heap.size w' wz) mixes (by kernel_rfl) (Below.refl _ _).drew ?_
          simp only [List.take_succ_cons, List.take_zero, List.drop_succ_cons, List.drop_zero]
          repeat (refine cls_step rfl (fun K hK => ⟨_, (fun w' hw => by have q0 := (hx2.on hw hx2.lt).cell 0; have q1 := (hx2.on hw hx2.lt).cell 1; have q2 := (hz2.on hw hz2.lt).cell 0; have q3 := (hz2.on hw hz2.lt).cell 1; go_simp; exact rfl), ?_⟩); go_simp; refine hK _ ?_; clear hK K)
          refine cls_call rfl (fun K hK => ⟨_, _, _, (fun w' => by go_simp <;> first | exact rfl | exact ⟨rfl, rfl⟩), (fun w' hw => calls_same hw (minus_f fi_0 Fy.out _)), ?_⟩); go_simp; refine hK _ ?_; clear hK K
          repeat (refine cls_step rfl (fun K hK => ⟨_, (fun w' hw => by have q0 := (hx2.on hw hx2.lt).cell 0; have q1 := (hx2.on hw hx2.lt).cell 1; have q2 := (hz2.on hw hz2.lt).cell 0; have q3 := (hz2.on hw hz2.lt).cell 1; go_simp; exact rfl), ?_⟩); go_simp; refine hK _ ?_; clear hK K)
          refine cls_call rfl (fun K hK => ⟨_, _, _, (fun w' => by go_simp <;> first | exact rfl | exact ⟨rfl, rfl⟩), (fun w' hw => calls_same hw (times_f Fl.out (fi_sub _ _) _)), ?_⟩); go_simp; refine hK _ ?_; clear hK K
          refine cls_call rfl (fun K hK => ⟨_, _, _, (fun w' => by go_simp <;> first | exact rfl | exact ⟨rfl, rfl⟩), (fun w' hw => calls_same hw (minus_f (fi_sub _ _) (fi_mul _ _) _)), ?_⟩); go_simp; refine hK _ ?_; clear hK K
          repeat (refine cls_step rfl (fun K hK => ⟨_, (fun w' hw => by have q0 := (hx2.on hw hx2.lt).cell 0; have q1 := (hx2.on hw hx2.lt).cell 1; have q2 := (hz2.on hw hz2.lt).cell 0; have q3 := (hz2.on hw hz2.lt).cell 1; go_simp; exact rfl), ?_⟩); go_simp; refine hK _ ?_; clear hK K)
          refine wq_nil ?_
          intro w' hw
          have hr3 := hr2.on hw hr2.lt
          have hB3 := below_then hB2 hw
          clear hr2 hx2 hz2 hB2 hw
          go_wp2_with (refine store_blk (cs' := #[.int .i64 (fpSub (fpSub 0 y) (fpMul l (fpSub (fpSub 0 s) x))), .int .i64 t]) rfl rfl rfl rfl rfl hr3 infoN rfl (ones2 _ _) ?_; intro V h5 hoth hbel; have hbV := hbel _ _ (by omega) hB3; clear hoth hbel)
          refine bodyPost_ret_by (result_blk rfl rfl h5 Try.underlying66 infoN) rfl ⟨rfl, hbV⟩

theorem np_line (P Q R : Pt) : pLine (nP P) (nP Q) (nP R) = pLineB P Q R := by
  unfold nP pLineB
  cases pOkB P <;> cases pOkB Q <;> cases pOkB R <;> simp [pLine, pZ]

set_option maxHeartbeats 1600000 in
set_option maxRecDepth 100000 in
theorem iLine_any (P Q R : Pt) (w : World) :
    Calls Try.prog 24 #[pv P, pv Q, pv R] w fun e w' => e = .returned (tv (pLineB P Q R)) ∧ Below w.heap.size w w' := by
  have HA : Hid (∀ w, Calls Try.prog 39 #[pv P] w fun e w' => ∃ v', e = .returned (.tuple #[v', .bool (pOkB P)]) ∧ PAt w' v' (nP P) ∧ Below w.heap.size w w') := place_any P
  have HB : Hid (∀ w, Calls Try.prog 39 #[pv Q] w fun e w' => ∃ v', e = .returned (.tuple #[v', .bool (pOkB Q)]) ∧ PAt w' v' (nP Q) ∧ Below w.heap.size w w') := place_any Q
  have HC : Hid (∀ w, Calls Try.prog 39 #[pv R] w fun e w' => ∃ v', e = .returned (.tuple #[v', .bool (pOkB R)]) ∧ PAt w' v' (nP R) ∧ Below w.heap.size w w') := place_any R
  have HL : Hid (∀ a b c w, PAt w a (nP P) → PAt w b (nP Q) → PAt w c (nP R) → Calls Try.prog 58 #[a, b, c] w fun e w' => e = .returned (tv (pLineB P Q R)) ∧ Below w.heap.size w w') := fun a b c w h1 h2 h3 => by
    rw [← np_line]; exact lineAt_any a b c _ _ _ w h1 h2 h3 (np_ok P) (np_ok Q) (np_ok R)
  have HT : Hid (∀ w, Calls Try.prog 41 #[tv (pLineB P Q R)] w fun e w' => e = .returned (tv (pLineB P Q R)) ∧ Below w.heap.size w w') := two_any _
  generalize pLineB P Q R = L at HL HT ⊢
  generalize pOkB P = o1 at HA
  generalize pOkB Q = o2 at HB
  generalize pOkB R = o3 at HC
  generalize nP P = N1 at HA HL
  generalize nP Q = N2 at HB HL
  generalize nP R = N3 at HC HL
  obtain ⟨p1, p2, z1⟩ := P
  obtain ⟨q1, q2, z2⟩ := Q
  obtain ⟨r1, r2, z3⟩ := R
  unfold pv at HA HB HC ⊢
  simp only at HA HB HC ⊢
  obtain ⟨W, hW, hb, hp, hq, hr, hs⟩ := boxes4 w 25 25 25 31 #[.int .i64 p1, .int .i64 p2, .bool z1] #[.int .i64 q1, .int .i64 q2, .bool z2] #[.int .i64 r1, .int .i64 r2, .bool z3] #[.int .i64 0, .int .i64 0]
  go_enter Try.func24, Try.ntmps24
  go_wp2_with (refine load_blk rfl rfl rfl hp Try.underlying25 infoP ?_)
  clear hW
  refine (HA.out _).mono ?_
  rintro e w1 ⟨v1, rfl, hv1, hw⟩
  have HV1 : Hid (PAt w1 v1 N1) := hv1
  have hq1 := hq.on hw hq.lt
  have hr1 := hr.on hw hr.lt
  have hs1 := hs.on hw hs.lt
  have hb1 := below_then hb hw
  clear hp hq hr hs hb hw hv1 HA
  go_wp2_with (refine load_blk rfl rfl rfl hq1 Try.underlying25 infoP ?_)
  refine (HB.out _).mono ?_
  rintro e w2 ⟨v2, rfl, hv2, hw⟩
  have HV2 : Hid (PAt w2 v2 N2) := hv2
  have HV1' : Hid (PAt w2 v1 N1) := HV1.out.on hw
  have hr2 := hr1.on hw hr1.lt
  have hs2 := hs1.on hw hs1.lt
  have hb2 := below_then hb1 hw
  clear hq1 hr1 hs1 hb1 hw hv2 HB HV1
  go_wp2_with (refine load_blk rfl rfl rfl hr2 Try.underlying25 infoP ?_)
  refine (HC.out _).mono ?_
  rintro e w3 ⟨v3, rfl, hv3, hw⟩
  have HV3 : Hid (PAt w3 v3 N3) := hv3
  have HV2' : Hid (PAt w3 v2 N2) := HV2.out.on hw
  have HV1 : Hid (PAt w3 v1 N1) := HV1'.out.on hw
  have hs3 := hs2.on hw hs2.lt
  have hb3 := below_then hb2 hw
  clear hr2 hs2 hb2 hw hv3 HC HV2 HV1'
  go_wp2_with fail
  refine (HL.out _ _ _ _ HV1.out HV2'.out HV3.out).mono ?_
  rintro e w4 ⟨rfl, hw⟩
  have hs4 := hs3.on hw hs3.lt
  have hb4 := below_then hb3 hw
  clear hs3 hb3 hw HL HV1 HV2' HV3
  go_wp2_with fail
  refine (HT.out _).mono ?_
  rintro e w5 ⟨rfl, hw⟩
  have hs5 := hs4.on hw hs4.lt
  have hb5 := below_then hb4 hw
  clear hs4 hb4 hw HT
  go_wp2_with (refine store_blk (cs' := #[.int .i64 L.1, .int .i64 L.2]) rfl rfl rfl rfl rfl hs5 infoT rfl (ones2 _ _) ?_; intro V h5 hoth hbel; have hbV := hbel _ _ (by omega) hb5; clear hoth hbel)
  refine bodyPost_ret_by (result_blk rfl rfl h5 Try.underlying31 infoT) rfl ⟨rfl, hbV⟩

set_option maxRecDepth 100000 in
theorem len64_r (w : World) : Calls Try.prog 96 #[.int .u64 1009] w fun e w' => e = .returned (.int .i64 10) ∧ w = w' := by
  go_enter Try.func96, Try.ntmps96
  go_wp2
  go_ret
  exact ⟨by kernel_rfl, rfl⟩

set_option maxRecDepth 100000 in
theorem len_r (w : World) : Calls Try.prog 93 #[.int .u64 1009] w fun e w' => e = .returned (.int .i64 10) ∧ w = w' := by
  go_enter Try.func93, Try.ntmps93
  go_wp2_with fail
  refine (len64_r _).mono ?_
  rintro e w1 ⟨rfl, rfl⟩
  go_wp2
  go_ret
  exact ⟨rfl, rfl⟩

end Go.Proofs.Ytckhbflolccinaa
