/-
  The walk of the law on heads.
  (-DROP-: what the seat lacks is left out.)
-/
import Derived.Test.YtlaoikpbgbckjaaDoorHeadLaws
import Derived.Test.YtlaoikpbgbckjaaDoorJoined51
import Derived.Test.YtlaoikpbgbckjaaDoorJoined51
import Derived.Test.YtlaoikpbgbckjaaDoorJoined51
namespace Go.Proofs.YtlaoikpbgbckjaaDoor
open Go.RowKit

theorem heads_of (h : Hd) : ∃ (t : ByteArray) (ok : Bool) (X : Hd) (right : Bool),
    Hid (∀ w, Calls Tryd.prog 8 #[hv h] w fun e w' => e = .returned (.tuple #[.string t, .bool ok]) ∧ Below w.heap.size w w') ∧
    Hid (∀ w, Calls Tryd.prog 9 #[.string t] w fun e w' => e = .returned (.tuple #[hv X, .bool right]) ∧ Below w.heap.size w w') ∧
    Hid (∀ w, Calls Tryd.prog 17 #[hv h] w fun e w' => e = .returned (.bool ok) ∧ Below w.heap.size w w') ∧
    Hid (∀ w, Calls Tryd.prog 16 #[hv h] w fun e w' => e = .returned (.bool ok) ∧ Below w.heap.size w w') ∧
    (ok = true → right = true ∧ X = h) := by
  refine ⟨(hTextV h).1, hOkB h, (rdHead (hTextV h).1).1, (rdHead (hTextV h).1).2, ?_, fun w => iReadHead_any _ (by have := hTextV_size (h := h); omega) w, iHeadOk_any h, sHeadOk_any h, ?_⟩
  · have e : (hTextV h).2 = hOkB h := by
      unfold hTextV
      cases hk : hOkB h
      · rfl
      · rfl
    intro w
    have hh := iHeadText_any h w
    rw [e] at hh
    exact hh
  · intro hk
    have e : (hTextV h).1 = hTxt h := by unfold hTextV; rw [if_pos hk]
    rw [e, head_back hk]
    exact ⟨rfl, rfl⟩

theorem reads_of (u : ByteArray) (hu : u.size ≤ 121) : ∃ (Y : Hd) (may : Bool) (again : ByteArray) (q : Bool),
    Hid (∀ w, Calls Tryd.prog 9 #[.string u] w fun e w' => e = .returned (.tuple #[hv Y, .bool may]) ∧ Below w.heap.size w w') ∧
    Hid (∀ w, Calls Tryd.prog 11 #[.string u] w fun e w' => e = .returned (.tuple #[hv Y, .bool may]) ∧ Below w.heap.size w w') ∧
    Hid (∀ w, Calls Tryd.prog 8 #[hv Y] w fun e w' => e = .returned (.tuple #[.string again, .bool q]) ∧ Below w.heap.size w w') ∧
    (may = true → again = u) := by
  refine ⟨(rdHead u).1, (rdHead u).2, (hTextV (rdHead u).1).1, (hTextV (rdHead u).1).2, fun w => iReadHead_any u (by omega) w, fun w => sReadHead_any u (by omega) w, iHeadText_any _, fun hm => ?_⟩
  obtain ⟨hk, ht⟩ := head_text (t := u) (h := (rdHead u).1) (Prod.ext rfl hm)
  unfold hTextV
  rw [if_pos hk]
  exact ht

theorem roots_of (g : Hd) (hg : HdR g) : ∃ (RT SG : ByteArray), RT.size = 32 ∧ SG.size = 33 ∧
    Hid (∀ w, Tab w → Calls Tryd.prog 13 #[hv g] w fun e w' => e = .returned (.string RT) ∧ Below w.heap.size w w') ∧
    Hid (∀ w, Calls Tryd.prog 18 #[hv g] w fun e w' => e = .returned (.string RT) ∧ Below w.heap.size w w') ∧
    Hid (∀ w, Tab w → Calls Tryd.prog 19 #[hv g, .int .i64 7] w fun e w' => e = .returned (.string SG) ∧ Below w.heap.size w w') := by
  have hr : (hRootT g).size = 32 := by
    unfold hRootT
    rw [if_pos hg.ok]
    exact root_size (by simp) (by simp)
  refine ⟨hRootT g, sigT g 7, hr, ?_, fun w hT => iHeadRoot_any g w hT, sHeadRoot_any g, fun w hT => iSigText_any g 7 w hT⟩
  unfold sigT
  rw [if_pos ⟨hg.ok, by decide⟩, ByteArray.size_append, hr]
  rfl

theorem sigs_of (v : Hd) (d : Int) : ∃ SV : ByteArray,
    Hid (∀ w, Tab w → Calls Tryd.prog 19 #[hv v, .int .i64 d] w fun e w' => e = .returned (.string SV) ∧ Below w.heap.size w w') ∧
    Hid (∀ w, Calls Tryd.prog 20 #[hv v, .int .i64 d] w fun e w' => e = .returned (.string SV) ∧ Below w.heap.size w w') :=
  ⟨sigT v d, fun w hT => iSigText_any v d w hT, sSigText_any v d⟩

theorem branch_two (B : Nat) (w : World) (v : Value) (p t b : ByteArray) (hp : p.size = 32) (ht : t.size = 32) (hb : b.size = 32) (h : RowS B w v [noT, p, t, b]) :
    Calls Tryd.prog 14 #[v, .int .i64 2] w fun e w' => (∃ au cu, e = .returned (.slice au 2 cu)) ∧ Below w.heap.size w w' := by
  refine (sBranch_row 2 h (by simp) (fun j hj => ?_)).mono ?_
  · have hj4 : j < 4 := hj
    rcases (show j = 0 ∨ j = 1 ∨ j = 2 ∨ j = 3 by omega) with rfl | rfl | rfl | rfl
    · exact Nat.zero_le _
    · show p.size ≤ _; omega
    · show t.size ≤ _; omega
    · show b.size ≤ _; omega
  · rintro e w' ⟨u, rfl, hR, hb'⟩
    obtain ⟨au, cu, hu, _⟩ := hR.strs
    have hl : (branchT digT [noT, p, t, b] 2).length = 2 := (fold_branch (D := digT) (l := [noT, p, t, b]) (by simp) (i := 2) (by simp)).2
    rw [hl] at hu
    exact ⟨⟨au, cu, by rw [hu]⟩, hb'⟩

set_option maxHeartbeats 3200000 in
set_option maxRecDepth 100000 in
theorem lawHeads (a : Option Addr) (len cap : Nat) (hm : len ≤ 9223372036854775807) (w : World) (hA : ArgAt w a len w.heap.size) (hT : Tab w) :
    Calls Tryd.prog 3 #[.slice a len cap] w fun e w' => e = .returned (.bool true) ∧ Below w.heap.size w w' := by
  have HA : Hid (ArgAt w a len w.heap.size) := hA
  have HT : Hid (∀ w', Below w.heap.size w w' → Tab w') := fun w' hb => hT.on hb hT.1
  clear hA hT
  by_cases hb : 1048576 < len
  · have hd : decide (1048576 < len) = true := decide_eq_true hb
    go_enter Tryd.func3, Tryd.ntmps3
    go_wp2_with (go_at_call 6; refine (big_any _ _ _ hm _).mono ?_; rintro e w0 ⟨rfl, rfl⟩)
    go_ret
    exact ⟨rfl, Below.refl _ _⟩
  have hd : decide (1048576 < len) = false := decide_eq_false hb
  have hm1 : len ≤ 1048576 := by omega
  go_enter Tryd.func3, Tryd.ntmps3
  go_wp2_with (go_at_call 6; refine (big_any _ _ _ hm _).mono ?_; rintro e w0 ⟨rfl, rfl⟩)
  refine (drawHT_any len cap a hm1 _ HA.out).mono ?_
  rintro e w1 ⟨h, rfl, _, hb1⟩
  have HA0 : Hid (ArgAt w1 a len w1.heap.size) := arg_upH HA.out hb1
  obtain ⟨t, ok, X, right, HTx, HRx, HOi, HOs, hxr⟩ := heads_of h
  have HXR : Hid (ok = true → right = true ∧ X = h) := hxr
  clear hb hd HA hxr
  obtain ⟨W1, hE1, hbW1, ta_1⟩ := box1 w1 25 #[.int .i64 h.1, .string h.2.1, .string h.2.2.1, .string h.2.2.2]
  go_wp2_with (first | (refine load_blk rfl rfl rfl ta_1 Tryd.underlying25 infoH ?_))
  have hB1 := below_then hb1 hbW1
  have HA1 : Hid (ArgAt W1 a len W1.heap.size) := arg_upH HA0.out hbW1
  clear hb1 hbW1 hE1 HA0
  refine (HTx.out _).mono ?_
  rintro e w2_ ⟨rfl, hb2⟩
  have ta_2 := ta_1.on hb2 ta_1.lt
  have hB2 := below_then hB1 hb2
  have HA2 : Hid (ArgAt w2_ a len w2_.heap.size) := arg_upH HA1.out hb2
  clear ta_1 hB1 hb2 HA1
  go_wp2_with fail
  refine (HRx.out _).mono ?_
  rintro e w3_ ⟨rfl, hb3⟩
  have ta_3 := ta_2.on hb3 ta_2.lt
  have hB3 := below_then hB2 hb3
  have HA3 : Hid (ArgAt w3_ a len w3_.heap.size) := arg_upH HA2.out hb3
  clear ta_2 hB2 hb3 HA2
  obtain ⟨W4, hE4, hbW4, tx_4⟩ := box1 w3_ 25 #[.int .i64 X.1, .string X.2.1, .string X.2.2.1, .string X.2.2.2]
  go_wp2_with fail
  have ta_4 := ta_3.on hbW4 ta_3.lt
  have hB4 := below_then hB3 hbW4
  have HA4 : Hid (ArgAt W4 a len W4.heap.size) := arg_upH HA3.out hbW4
  clear ta_3 hB3 hbW4 hE4 HA3
  refine (drawRH_any len cap a hm1 _ HA4.out).mono ?_
  rintro e w5_ ⟨u, rfl, hu, hb5⟩
  obtain ⟨Y, may, again, q, HRu, HRs, HTu, hau⟩ := reads_of u hu
  have HAU : Hid (may = true → again = u) := hau
  clear hu hau
  have ta_5 := ta_4.on hb5 ta_4.lt
  have tx_5 := tx_4.on hb5 tx_4.lt
  have hB5 := below_then hB4 hb5
  have HA5 : Hid (ArgAt w5_ a len w5_.heap.size) := arg_upH HA4.out hb5
  clear ta_4 tx_4 hB4 hb5 HA4
  go_wp2_with fail
  refine (HRu.out _).mono ?_
  rintro e w6_ ⟨rfl, hb6⟩
  have ta_6 := ta_5.on hb6 ta_5.lt
  have tx_6 := tx_5.on hb6 tx_5.lt
  have hB6 := below_then hB5 hb6
  have HA6 : Hid (ArgAt w6_ a len w6_.heap.size) := arg_upH HA5.out hb6
  clear ta_5 tx_5 hB5 hb6 HA5
  obtain ⟨W7, hE7, hbW7, ty_7⟩ := box1 w6_ 25 #[.int .i64 Y.1, .string Y.2.1, .string Y.2.2.1, .string Y.2.2.2]
  go_wp2_with fail
  have ta_7 := ta_6.on hbW7 ta_6.lt
  have tx_7 := tx_6.on hbW7 tx_6.lt
  have hB7 := below_then hB6 hbW7
  have HA7 : Hid (ArgAt W7 a len W7.heap.size) := arg_upH HA6.out hbW7
  clear ta_6 tx_6 hB6 hbW7 hE7 HA6
  refine (HRs.out _).mono ?_
  rintro e w8_ ⟨rfl, hb8⟩
  have ta_8 := ta_7.on hb8 ta_7.lt
  have tx_8 := tx_7.on hb8 tx_7.lt
  have ty_8 := ty_7.on hb8 ty_7.lt
  have hB8 := below_then hB7 hb8
  have HA8 : Hid (ArgAt w8_ a len w8_.heap.size) := arg_upH HA7.out hb8
  clear ta_7 tx_7 ty_7 hB7 hb8 HA7
  obtain ⟨W9, hE9, hbW9, tz_9⟩ := box1 w8_ 25 #[.int .i64 Y.1, .string Y.2.1, .string Y.2.2.1, .string Y.2.2.2]
  have ty_l := ty_8.on hbW9 ty_8.lt
  go_wp2_with (first | (refine load_blk rfl rfl rfl ty_l Tryd.underlying25 infoH ?_))
  have ta_9 := ta_8.on hbW9 ta_8.lt
  have tx_9 := tx_8.on hbW9 tx_8.lt
  have ty_9 := ty_8.on hbW9 ty_8.lt
  have hB9 := below_then hB8 hbW9
  have HA9 : Hid (ArgAt W9 a len W9.heap.size) := arg_upH HA8.out hbW9
  clear ta_8 tx_8 ty_8 hB8 hbW9 hE9 HA8 ty_l
  refine (HTu.out _).mono ?_
  rintro e w10_ ⟨rfl, hb10⟩
  have ta_10 := ta_9.on hb10 ta_9.lt
  have tx_10 := tx_9.on hb10 tx_9.lt
  have hB10 := below_then hB9 hb10
  have HA10 : Hid (ArgAt w10_ a len w10_.heap.size) := arg_upH HA9.out hb10
  clear ta_9 tx_9 ty_9 tz_9 hB9 hb10 HA9
  go_wp2_with fail
  refine (drawHd_any len cap a hm1 _ HA10.out).mono ?_
  rintro e w11_ ⟨g, rfl, hg, hb11⟩
  obtain ⟨RT, SG, hRT, hSG, HGi, HGs, HGt⟩ := roots_of g hg
  have hgp := hg.2.1
  have hgt := hg.2.2.1
  have hgb := hg.2.2.2
  have HG2 : Hid (∀ w v, RowS w.heap.size w v [noT, g.2.1, g.2.2.1, g.2.2.2] → True) := fun _ _ _ => True.intro
  clear HG2
  have ta_11 := ta_10.on hb11 ta_10.lt
  have tx_11 := tx_10.on hb11 tx_10.lt
  have hB11 := below_then hB10 hb11
  have HA11 : Hid (ArgAt w11_ a len w11_.heap.size) := arg_upH HA10.out hb11
  clear ta_10 tx_10 hB10 hb11 HA10
  obtain ⟨W12, hE12, hbW12, tg_12⟩ := box1 w11_ 25 #[.int .i64 g.1, .string g.2.1, .string g.2.2.1, .string g.2.2.2]
  go_wp2_with (first | (refine load_blk rfl rfl rfl tg_12 Tryd.underlying25 infoH ?_))
  have ta_12 := ta_11.on hbW12 ta_11.lt
  have tx_12 := tx_11.on hbW12 tx_11.lt
  have hB12 := below_then hB11 hbW12
  have HA12 : Hid (ArgAt W12 a len W12.heap.size) := arg_upH HA11.out hbW12
  clear ta_11 tx_11 hB11 hbW12 hE12 HA11
  refine (HGi.out _ (HT.out _ hB12)).mono ?_
  rintro e w13_ ⟨rfl, hb13⟩
  have ta_13 := ta_12.on hb13 ta_12.lt
  have tx_13 := tx_12.on hb13 tx_12.lt
  have tg_13 := tg_12.on hb13 tg_12.lt
  have hB13 := below_then hB12 hb13
  have HA13 : Hid (ArgAt w13_ a len w13_.heap.size) := arg_upH HA12.out hb13
  clear ta_12 tx_12 tg_12 hB12 hb13 HA12
  have p1 := tg_13.cell 1
  have p2 := tg_13.cell 2
  have p3 := tg_13.cell 3
  obtain ⟨W14, hE14, hbW14, ts_14⟩ := box1 w13_ 9 #[.string (ByteArray.mk #[]), .string g.2.1, .string g.2.2.1, .string g.2.2.2]
  have HBR : Hid (Calls Tryd.prog 14 #[.slice (some ⟨w13_.heap.size, 0, none⟩) 4 4, .int .i64 2] W14 fun e w' => (∃ au cu, e = .returned (.slice au 2 cu)) ∧ Below W14.heap.size W14 w') := branch_two w13_.heap.size W14 _ g.2.1 g.2.2.1 g.2.2.2 hgp hgt hgb (row_four ts_14 (Nat.le_refl _))
  clear hgp hgt hgb
  go_wp2_with fail
  have ta_14 := ta_13.on hbW14 ta_13.lt
  have tx_14 := tx_13.on hbW14 tx_13.lt
  have tg_14 := tg_13.on hbW14 tg_13.lt
  have hB14 := below_then hB13 hbW14
  have HA14 : Hid (ArgAt W14 a len W14.heap.size) := arg_upH HA13.out hbW14
  clear ta_13 tx_13 tg_13 hB13 hbW14 hE14 HA13
  clear p1 p2 p3
  refine (HBR.out).mono ?_
  rintro e w15_ ⟨⟨au, cu, rfl⟩, hb15⟩
  have ta_15 := ta_14.on hb15 ta_14.lt
  have tx_15 := tx_14.on hb15 tx_14.lt
  have tg_15 := tg_14.on hb15 tg_14.lt
  have hB15 := below_then hB14 hb15
  have HA15 : Hid (ArgAt w15_ a len w15_.heap.size) := arg_upH HA14.out hb15
  clear ta_14 tx_14 tg_14 ts_14 hB14 hb15 HA14
  clear HBR
  go_wp2_with fail
  refine (drawST_any len cap a hm1 _ HA15.out).mono ?_
  rintro e w16_ ⟨v, d, rfl, _, _, hb16⟩
  obtain ⟨SV, HVi, HVs⟩ := sigs_of v d
  have ta_16 := ta_15.on hb16 ta_15.lt
  have tx_16 := tx_15.on hb16 tx_15.lt
  have tg_16 := tg_15.on hb16 tg_15.lt
  have hB16 := below_then hB15 hb16
  have HA16 : Hid (ArgAt w16_ a len w16_.heap.size) := arg_upH HA15.out hb16
  clear ta_15 tx_15 tg_15 hB15 hb16 HA15
  obtain ⟨W17, hE17, hbW17, tv_17⟩ := box1 w16_ 25 #[.int .i64 v.1, .string v.2.1, .string v.2.2.1, .string v.2.2.2]
  go_wp2_with fail
  have ta_17 := ta_16.on hbW17 ta_16.lt
  have tx_17 := tx_16.on hbW17 tx_16.lt
  have tg_17 := tg_16.on hbW17 tg_16.lt
  have hB17 := below_then hB16 hbW17
  have HA17 : Hid (ArgAt W17 a len W17.heap.size) := arg_upH HA16.out hbW17
  clear ta_16 tx_16 tg_16 hB16 hbW17 hE17 HA16
  go_wp2_with fail
  cases ok
  · clear HXR
    cases may
    · clear HAU
      refine wp_region_class 67 (fun wz => Below W17.heap.size W17 wz) mixes (by kernel_rfl) (Below.refl _ _).drew ?_
      simp only [List.append, List.take_succ_cons, List.take_zero, List.drop_succ_cons, List.drop_zero]
      iterate 2 (refine cls_step rfl (fun K hK => ⟨_, (fun w' hw => by have q0 := (ta_17.on hw ta_17.lt).cell 0; have q1 := (ta_17.on hw ta_17.lt).cell 1; have q2 := (ta_17.on hw ta_17.lt).cell 2; have q3 := (ta_17.on hw ta_17.lt).cell 3; go_simp; exact rfl), ?_⟩); go_simp; refine hK _ ?_; clear hK K)
      refine cls_call rfl (fun K hK => ⟨_, _, _, (fun w' => by go_simp <;> first | exact rfl | exact ⟨rfl, rfl⟩), (fun w' hw => calls_below hw (HOs.out _)), ?_⟩); go_simp; refine hK _ ?_; clear hK K
      repeat (refine cls_stepG rfl (fun K hK => ⟨_, (fun w' hw => by have q0 := (ta_17.on hw ta_17.lt).cell 0; have q1 := (ta_17.on hw ta_17.lt).cell 1; have q2 := (ta_17.on hw ta_17.lt).cell 2; have q3 := (ta_17.on hw ta_17.lt).cell 3; go_simp; exact rfl), ?_⟩); go_simp; refine hK _ ?_; clear hK K)
      refine cls_callG rfl (fun K hK => ⟨_, _, _, (fun w' => by go_simp <;> first | exact rfl | exact ⟨rfl, rfl⟩), (fun w' hw => calls_below hw (HOi.out _)), ?_⟩); go_simp; refine hK _ ?_; clear hK K
      repeat (refine cls_stepG rfl (fun K hK => ⟨_, (fun w' hw => by have q0 := (ta_17.on hw ta_17.lt).cell 0; have q1 := (ta_17.on hw ta_17.lt).cell 1; have q2 := (ta_17.on hw ta_17.lt).cell 2; have q3 := (ta_17.on hw ta_17.lt).cell 3; go_simp; exact rfl), ?_⟩); go_simp; refine hK _ ?_; clear hK K)
      iterate 6 (refine cls_skip rfl (fun K hK => ?_); go_simp; refine hK _ ?_; clear hK K)
      repeat (refine cls_stepG rfl (fun K hK => ⟨_, (fun w' hw => by have q0 := (ta_17.on hw ta_17.lt).cell 0; have q1 := (ta_17.on hw ta_17.lt).cell 1; have q2 := (ta_17.on hw ta_17.lt).cell 2; have q3 := (ta_17.on hw ta_17.lt).cell 3; go_simp; exact rfl), ?_⟩); go_simp; refine hK _ ?_; clear hK K)
      iterate 3 (refine cls_skip rfl (fun K hK => ?_); go_simp; refine hK _ ?_; clear hK K)
      repeat (refine cls_stepG rfl (fun K hK => ⟨_, (fun w' hw => by have q0 := (tg_17.on hw tg_17.lt).cell 0; have q1 := (tg_17.on hw tg_17.lt).cell 1; have q2 := (tg_17.on hw tg_17.lt).cell 2; have q3 := (tg_17.on hw tg_17.lt).cell 3; go_simp; exact rfl), ?_⟩); go_simp; refine hK _ ?_; clear hK K)
      refine cls_callG rfl (fun K hK => ⟨_, _, _, (fun w' => by go_simp <;> first | exact rfl | exact ⟨rfl, rfl⟩), (fun w' hw => calls_below hw (HGs.out _)), ?_⟩); go_simp; refine hK _ ?_; clear hK K
      repeat (refine cls_stepG rfl (fun K hK => ⟨_, (fun w' hw => by have q0 := (tv_17.on hw tv_17.lt).cell 0; have q1 := (tv_17.on hw tv_17.lt).cell 1; have q2 := (tv_17.on hw tv_17.lt).cell 2; have q3 := (tv_17.on hw tv_17.lt).cell 3; go_simp; exact rfl), ?_⟩); go_simp; refine hK _ ?_; clear hK K)
      refine cls_callG rfl (fun K hK => ⟨_, _, _, (fun w' => by go_simp <;> first | exact rfl | exact ⟨rfl, rfl⟩), (fun w' hw => calls_below hw (HVi.out _ (HT.out _ (below_then hB17 hw)))), ?_⟩); go_simp; refine hK _ ?_; clear hK K
      repeat (refine cls_stepG rfl (fun K hK => ⟨_, (fun w' hw => by have q0 := (tv_17.on hw tv_17.lt).cell 0; have q1 := (tv_17.on hw tv_17.lt).cell 1; have q2 := (tv_17.on hw tv_17.lt).cell 2; have q3 := (tv_17.on hw tv_17.lt).cell 3; go_simp; exact rfl), ?_⟩); go_simp; refine hK _ ?_; clear hK K)
      refine cls_callG rfl (fun K hK => ⟨_, _, _, (fun w' => by go_simp <;> first | exact rfl | exact ⟨rfl, rfl⟩), (fun w' hw => calls_below hw (HVs.out _)), ?_⟩); go_simp; refine hK _ ?_; clear hK K
      repeat (refine cls_stepG rfl (fun K hK => ⟨_, (fun w' hw => by have q0 := (tg_17.on hw tg_17.lt).cell 0; have q1 := (tg_17.on hw tg_17.lt).cell 1; have q2 := (tg_17.on hw tg_17.lt).cell 2; have q3 := (tg_17.on hw tg_17.lt).cell 3; go_simp; exact rfl), ?_⟩); go_simp; refine hK _ ?_; clear hK K)
      refine cls_callG rfl (fun K hK => ⟨_, _, _, (fun w' => by go_simp <;> first | exact rfl | exact ⟨rfl, rfl⟩), (fun w' hw => calls_below hw (HGt.out _ (HT.out _ (below_then hB17 hw)))), ?_⟩); go_simp; refine hK _ ?_; clear hK K
      repeat (refine cls_stepG rfl (fun K hK => ⟨_, (fun w' hw => by go_simp; exact rfl), ?_⟩); go_simp; refine hK _ ?_; clear hK K)
      refine wq_nil ?_
      intro w' hw
      go_wp2
      go_ret
      exact ⟨rfl, below_then hB17 hw⟩
    · obtain rfl := HAU.out rfl
      clear HAU
      refine wp_region_class 67 (fun wz => Below W17.heap.size W17 wz) mixes (by kernel_rfl) (Below.refl _ _).drew ?_
      simp only [List.append, List.take_succ_cons, List.take_zero, List.drop_succ_cons, List.drop_zero]
      iterate 2 (refine cls_step rfl (fun K hK => ⟨_, (fun w' hw => by have q0 := (ta_17.on hw ta_17.lt).cell 0; have q1 := (ta_17.on hw ta_17.lt).cell 1; have q2 := (ta_17.on hw ta_17.lt).cell 2; have q3 := (ta_17.on hw ta_17.lt).cell 3; go_simp; exact rfl), ?_⟩); go_simp; refine hK _ ?_; clear hK K)
      refine cls_call rfl (fun K hK => ⟨_, _, _, (fun w' => by go_simp <;> first | exact rfl | exact ⟨rfl, rfl⟩), (fun w' hw => calls_below hw (HOs.out _)), ?_⟩); go_simp; refine hK _ ?_; clear hK K
      repeat (refine cls_stepG rfl (fun K hK => ⟨_, (fun w' hw => by have q0 := (ta_17.on hw ta_17.lt).cell 0; have q1 := (ta_17.on hw ta_17.lt).cell 1; have q2 := (ta_17.on hw ta_17.lt).cell 2; have q3 := (ta_17.on hw ta_17.lt).cell 3; go_simp; exact rfl), ?_⟩); go_simp; refine hK _ ?_; clear hK K)
      refine cls_callG rfl (fun K hK => ⟨_, _, _, (fun w' => by go_simp <;> first | exact rfl | exact ⟨rfl, rfl⟩), (fun w' hw => calls_below hw (HOi.out _)), ?_⟩); go_simp; refine hK _ ?_; clear hK K
      repeat (refine cls_stepG rfl (fun K hK => ⟨_, (fun w' hw => by have q0 := (ta_17.on hw ta_17.lt).cell 0; have q1 := (ta_17.on hw ta_17.lt).cell 1; have q2 := (ta_17.on hw ta_17.lt).cell 2; have q3 := (ta_17.on hw ta_17.lt).cell 3; go_simp; exact rfl), ?_⟩); go_simp; refine hK _ ?_; clear hK K)
      iterate 6 (refine cls_skip rfl (fun K hK => ?_); go_simp; refine hK _ ?_; clear hK K)
      repeat (refine cls_stepG rfl (fun K hK => ⟨_, (fun w' hw => by have q0 := (ta_17.on hw ta_17.lt).cell 0; have q1 := (ta_17.on hw ta_17.lt).cell 1; have q2 := (ta_17.on hw ta_17.lt).cell 2; have q3 := (ta_17.on hw ta_17.lt).cell 3; go_simp; exact rfl), ?_⟩); go_simp; refine hK _ ?_; clear hK K)
      repeat (refine cls_stepG rfl (fun K hK => ⟨_, (fun w' hw => by have q0 := (tg_17.on hw tg_17.lt).cell 0; have q1 := (tg_17.on hw tg_17.lt).cell 1; have q2 := (tg_17.on hw tg_17.lt).cell 2; have q3 := (tg_17.on hw tg_17.lt).cell 3; go_simp; exact rfl), ?_⟩); go_simp; refine hK _ ?_; clear hK K)
      refine cls_callG rfl (fun K hK => ⟨_, _, _, (fun w' => by go_simp <;> first | exact rfl | exact ⟨rfl, rfl⟩), (fun w' hw => calls_below hw (HGs.out _)), ?_⟩); go_simp; refine hK _ ?_; clear hK K
      repeat (refine cls_stepG rfl (fun K hK => ⟨_, (fun w' hw => by have q0 := (tv_17.on hw tv_17.lt).cell 0; have q1 := (tv_17.on hw tv_17.lt).cell 1; have q2 := (tv_17.on hw tv_17.lt).cell 2; have q3 := (tv_17.on hw tv_17.lt).cell 3; go_simp; exact rfl), ?_⟩); go_simp; refine hK _ ?_; clear hK K)
      refine cls_callG rfl (fun K hK => ⟨_, _, _, (fun w' => by go_simp <;> first | exact rfl | exact ⟨rfl, rfl⟩), (fun w' hw => calls_below hw (HVi.out _ (HT.out _ (below_then hB17 hw)))), ?_⟩); go_simp; refine hK _ ?_; clear hK K
      repeat (refine cls_stepG rfl (fun K hK => ⟨_, (fun w' hw => by have q0 := (tv_17.on hw tv_17.lt).cell 0; have q1 := (tv_17.on hw tv_17.lt).cell 1; have q2 := (tv_17.on hw tv_17.lt).cell 2; have q3 := (tv_17.on hw tv_17.lt).cell 3; go_simp; exact rfl), ?_⟩); go_simp; refine hK _ ?_; clear hK K)
      refine cls_callG rfl (fun K hK => ⟨_, _, _, (fun w' => by go_simp <;> first | exact rfl | exact ⟨rfl, rfl⟩), (fun w' hw => calls_below hw (HVs.out _)), ?_⟩); go_simp; refine hK _ ?_; clear hK K
      repeat (refine cls_stepG rfl (fun K hK => ⟨_, (fun w' hw => by have q0 := (tg_17.on hw tg_17.lt).cell 0; have q1 := (tg_17.on hw tg_17.lt).cell 1; have q2 := (tg_17.on hw tg_17.lt).cell 2; have q3 := (tg_17.on hw tg_17.lt).cell 3; go_simp; exact rfl), ?_⟩); go_simp; refine hK _ ?_; clear hK K)
      refine cls_callG rfl (fun K hK => ⟨_, _, _, (fun w' => by go_simp <;> first | exact rfl | exact ⟨rfl, rfl⟩), (fun w' hw => calls_below hw (HGt.out _ (HT.out _ (below_then hB17 hw)))), ?_⟩); go_simp; refine hK _ ?_; clear hK K
      repeat (refine cls_stepG rfl (fun K hK => ⟨_, (fun w' hw => by go_simp; exact rfl), ?_⟩); go_simp; refine hK _ ?_; clear hK K)
      refine wq_nil ?_
      intro w' hw
      go_wp2
      go_ret
      exact ⟨rfl, below_then hB17 hw⟩
  · obtain ⟨rfl, rfl⟩ := HXR.out rfl
    clear HXR
    cases may
    · clear HAU
      refine wp_region_class 67 (fun wz => Below W17.heap.size W17 wz) mixes (by kernel_rfl) (Below.refl _ _).drew ?_
      simp only [List.append, List.take_succ_cons, List.take_zero, List.drop_succ_cons, List.drop_zero]
      iterate 2 (refine cls_step rfl (fun K hK => ⟨_, (fun w' hw => by have q0 := (ta_17.on hw ta_17.lt).cell 0; have q1 := (ta_17.on hw ta_17.lt).cell 1; have q2 := (ta_17.on hw ta_17.lt).cell 2; have q3 := (ta_17.on hw ta_17.lt).cell 3; go_simp; exact rfl), ?_⟩); go_simp; refine hK _ ?_; clear hK K)
      refine cls_call rfl (fun K hK => ⟨_, _, _, (fun w' => by go_simp <;> first | exact rfl | exact ⟨rfl, rfl⟩), (fun w' hw => calls_below hw (HOs.out _)), ?_⟩); go_simp; refine hK _ ?_; clear hK K
      repeat (refine cls_stepG rfl (fun K hK => ⟨_, (fun w' hw => by have q0 := (ta_17.on hw ta_17.lt).cell 0; have q1 := (ta_17.on hw ta_17.lt).cell 1; have q2 := (ta_17.on hw ta_17.lt).cell 2; have q3 := (ta_17.on hw ta_17.lt).cell 3; go_simp; exact rfl), ?_⟩); go_simp; refine hK _ ?_; clear hK K)
      refine cls_callG rfl (fun K hK => ⟨_, _, _, (fun w' => by go_simp <;> first | exact rfl | exact ⟨rfl, rfl⟩), (fun w' hw => calls_below hw (HOi.out _)), ?_⟩); go_simp; refine hK _ ?_; clear hK K
      repeat (refine cls_stepG rfl (fun K hK => ⟨_, (fun w' hw => by have q0 := (ta_17.on hw ta_17.lt).cell 0; have q1 := (ta_17.on hw ta_17.lt).cell 1; have q2 := (ta_17.on hw ta_17.lt).cell 2; have q3 := (ta_17.on hw ta_17.lt).cell 3; have q4 := (tx_17.on hw tx_17.lt).cell 0; have q5 := (tx_17.on hw tx_17.lt).cell 1; have q6 := (tx_17.on hw tx_17.lt).cell 2; have q7 := (tx_17.on hw tx_17.lt).cell 3; go_simp; exact rfl), ?_⟩); go_simp; refine hK _ ?_; clear hK K)
      iterate 3 (refine cls_skip rfl (fun K hK => ?_); go_simp; refine hK _ ?_; clear hK K)
      repeat (refine cls_stepG rfl (fun K hK => ⟨_, (fun w' hw => by have q0 := (tg_17.on hw tg_17.lt).cell 0; have q1 := (tg_17.on hw tg_17.lt).cell 1; have q2 := (tg_17.on hw tg_17.lt).cell 2; have q3 := (tg_17.on hw tg_17.lt).cell 3; go_simp; exact rfl), ?_⟩); go_simp; refine hK _ ?_; clear hK K)
      refine cls_callG rfl (fun K hK => ⟨_, _, _, (fun w' => by go_simp <;> first | exact rfl | exact ⟨rfl, rfl⟩), (fun w' hw => calls_below hw (HGs.out _)), ?_⟩); go_simp; refine hK _ ?_; clear hK K
      repeat (refine cls_stepG rfl (fun K hK => ⟨_, (fun w' hw => by have q0 := (tv_17.on hw tv_17.lt).cell 0; have q1 := (tv_17.on hw tv_17.lt).cell 1; have q2 := (tv_17.on hw tv_17.lt).cell 2; have q3 := (tv_17.on hw tv_17.lt).cell 3; go_simp; exact rfl), ?_⟩); go_simp; refine hK _ ?_; clear hK K)
      refine cls_callG rfl (fun K hK => ⟨_, _, _, (fun w' => by go_simp <;> first | exact rfl | exact ⟨rfl, rfl⟩), (fun w' hw => calls_below hw (HVi.out _ (HT.out _ (below_then hB17 hw)))), ?_⟩); go_simp; refine hK _ ?_; clear hK K
      repeat (refine cls_stepG rfl (fun K hK => ⟨_, (fun w' hw => by have q0 := (tv_17.on hw tv_17.lt).cell 0; have q1 := (tv_17.on hw tv_17.lt).cell 1; have q2 := (tv_17.on hw tv_17.lt).cell 2; have q3 := (tv_17.on hw tv_17.lt).cell 3; go_simp; exact rfl), ?_⟩); go_simp; refine hK _ ?_; clear hK K)
      refine cls_callG rfl (fun K hK => ⟨_, _, _, (fun w' => by go_simp <;> first | exact rfl | exact ⟨rfl, rfl⟩), (fun w' hw => calls_below hw (HVs.out _)), ?_⟩); go_simp; refine hK _ ?_; clear hK K
      repeat (refine cls_stepG rfl (fun K hK => ⟨_, (fun w' hw => by have q0 := (tg_17.on hw tg_17.lt).cell 0; have q1 := (tg_17.on hw tg_17.lt).cell 1; have q2 := (tg_17.on hw tg_17.lt).cell 2; have q3 := (tg_17.on hw tg_17.lt).cell 3; go_simp; exact rfl), ?_⟩); go_simp; refine hK _ ?_; clear hK K)
      refine cls_callG rfl (fun K hK => ⟨_, _, _, (fun w' => by go_simp <;> first | exact rfl | exact ⟨rfl, rfl⟩), (fun w' hw => calls_below hw (HGt.out _ (HT.out _ (below_then hB17 hw)))), ?_⟩); go_simp; refine hK _ ?_; clear hK K
      repeat (refine cls_stepG rfl (fun K hK => ⟨_, (fun w' hw => by go_simp; exact rfl), ?_⟩); go_simp; refine hK _ ?_; clear hK K)
      refine wq_nil ?_
      intro w' hw
      go_wp2
      go_ret
      exact ⟨rfl, below_then hB17 hw⟩
    · obtain rfl := HAU.out rfl
      clear HAU
      refine wp_region_class 67 (fun wz => Below W17.heap.size W17 wz) mixes (by kernel_rfl) (Below.refl _ _).drew ?_
      simp only [List.append, List.take_succ_cons, List.take_zero, List.drop_succ_cons, List.drop_zero]
      iterate 2 (refine cls_step rfl (fun K hK => ⟨_, (fun w' hw => by have q0 := (ta_17.on hw ta_17.lt).cell 0; have q1 := (ta_17.on hw ta_17.lt).cell 1; have q2 := (ta_17.on hw ta_17.lt).cell 2; have q3 := (ta_17.on hw ta_17.lt).cell 3; go_simp; exact rfl), ?_⟩); go_simp; refine hK _ ?_; clear hK K)
      refine cls_call rfl (fun K hK => ⟨_, _, _, (fun w' => by go_simp <;> first | exact rfl | exact ⟨rfl, rfl⟩), (fun w' hw => calls_below hw (HOs.out _)), ?_⟩); go_simp; refine hK _ ?_; clear hK K
      repeat (refine cls_stepG rfl (fun K hK => ⟨_, (fun w' hw => by have q0 := (ta_17.on hw ta_17.lt).cell 0; have q1 := (ta_17.on hw ta_17.lt).cell 1; have q2 := (ta_17.on hw ta_17.lt).cell 2; have q3 := (ta_17.on hw ta_17.lt).cell 3; go_simp; exact rfl), ?_⟩); go_simp; refine hK _ ?_; clear hK K)
      refine cls_callG rfl (fun K hK => ⟨_, _, _, (fun w' => by go_simp <;> first | exact rfl | exact ⟨rfl, rfl⟩), (fun w' hw => calls_below hw (HOi.out _)), ?_⟩); go_simp; refine hK _ ?_; clear hK K
      repeat (refine cls_stepG rfl (fun K hK => ⟨_, (fun w' hw => by have q0 := (ta_17.on hw ta_17.lt).cell 0; have q1 := (ta_17.on hw ta_17.lt).cell 1; have q2 := (ta_17.on hw ta_17.lt).cell 2; have q3 := (ta_17.on hw ta_17.lt).cell 3; have q4 := (tx_17.on hw tx_17.lt).cell 0; have q5 := (tx_17.on hw tx_17.lt).cell 1; have q6 := (tx_17.on hw tx_17.lt).cell 2; have q7 := (tx_17.on hw tx_17.lt).cell 3; go_simp; exact rfl), ?_⟩); go_simp; refine hK _ ?_; clear hK K)
      repeat (refine cls_stepG rfl (fun K hK => ⟨_, (fun w' hw => by have q0 := (tg_17.on hw tg_17.lt).cell 0; have q1 := (tg_17.on hw tg_17.lt).cell 1; have q2 := (tg_17.on hw tg_17.lt).cell 2; have q3 := (tg_17.on hw tg_17.lt).cell 3; go_simp; exact rfl), ?_⟩); go_simp; refine hK _ ?_; clear hK K)
      refine cls_callG rfl (fun K hK => ⟨_, _, _, (fun w' => by go_simp <;> first | exact rfl | exact ⟨rfl, rfl⟩), (fun w' hw => calls_below hw (HGs.out _)), ?_⟩); go_simp; refine hK _ ?_; clear hK K
      repeat (refine cls_stepG rfl (fun K hK => ⟨_, (fun w' hw => by have q0 := (tv_17.on hw tv_17.lt).cell 0; have q1 := (tv_17.on hw tv_17.lt).cell 1; have q2 := (tv_17.on hw tv_17.lt).cell 2; have q3 := (tv_17.on hw tv_17.lt).cell 3; go_simp; exact rfl), ?_⟩); go_simp; refine hK _ ?_; clear hK K)
      refine cls_callG rfl (fun K hK => ⟨_, _, _, (fun w' => by go_simp <;> first | exact rfl | exact ⟨rfl, rfl⟩), (fun w' hw => calls_below hw (HVi.out _ (HT.out _ (below_then hB17 hw)))), ?_⟩); go_simp; refine hK _ ?_; clear hK K
      repeat (refine cls_stepG rfl (fun K hK => ⟨_, (fun w' hw => by have q0 := (tv_17.on hw tv_17.lt).cell 0; have q1 := (tv_17.on hw tv_17.lt).cell 1; have q2 := (tv_17.on hw tv_17.lt).cell 2; have q3 := (tv_17.on hw tv_17.lt).cell 3; go_simp; exact rfl), ?_⟩); go_simp; refine hK _ ?_; clear hK K)
      refine cls_callG rfl (fun K hK => ⟨_, _, _, (fun w' => by go_simp <;> first | exact rfl | exact ⟨rfl, rfl⟩), (fun w' hw => calls_below hw (HVs.out _)), ?_⟩); go_simp; refine hK _ ?_; clear hK K
      repeat (refine cls_stepG rfl (fun K hK => ⟨_, (fun w' hw => by have q0 := (tg_17.on hw tg_17.lt).cell 0; have q1 := (tg_17.on hw tg_17.lt).cell 1; have q2 := (tg_17.on hw tg_17.lt).cell 2; have q3 := (tg_17.on hw tg_17.lt).cell 3; go_simp; exact rfl), ?_⟩); go_simp; refine hK _ ?_; clear hK K)
      refine cls_callG rfl (fun K hK => ⟨_, _, _, (fun w' => by go_simp <;> first | exact rfl | exact ⟨rfl, rfl⟩), (fun w' hw => calls_below hw (HGt.out _ (HT.out _ (below_then hB17 hw)))), ?_⟩); go_simp; refine hK _ ?_; clear hK K
      repeat (refine cls_stepG rfl (fun K hK => ⟨_, (fun w' hw => by go_simp; exact rfl), ?_⟩); go_simp; refine hK _ ?_; clear hK K)
      refine wq_nil ?_
      intro w' hw
      go_wp2
      go_ret
      exact ⟨rfl, below_then hB17 hw⟩

end Go.Proofs.YtlaoikpbgbckjaaDoor
