/-
  Texts of one's own, joined.
-/
import Derived.Test.YtldkdgbcnbgmiaaGreatDoorSignDraw
import Derived.Test.YtldkdgbcnbgmiaaGreatDoorJoined52
import Derived.Test.YtldkdgbcnbgmiaaGreatDoorRows
import Derived.Test.YtldkdgbcnbgmiaaGreatDoorJoined23
import Derived.Lib.LaidTab
import Derived.LaidSub
import Derived.MakeChecks
import Derived.OpenShut
import Derived.Carry
import Derived.ChangeVars
import Derived.ChangeStays
import Derived.WideKeyArgs
import Derived.ChangeOld

/-
  The walk of the law that what is signed is right.
-/
namespace Go.Proofs.YtldkdgbcnbgmiaaGreatDoor
open Go.RowKit

theorem scn_next {k : Int} : scn (k + 1) = (scn k + 1) % 1009 := by
  obtain ⟨h1, h2⟩ := sca_nat k
  obtain ⟨h3, h4⟩ := sca_nat (k + 1)
  unfold sca at h1 h3
  omega

set_option maxHeartbeats 6400000 in
set_option maxRecDepth 100000 in
theorem lawSigns (a : Option Addr) (len cap : Nat) (w : World) (hm : len ≤ 9223372036854775807) (hA : ArgAt w a len w.heap.size) (hT : Tab w) :
    Calls Tryz.prog 3 #[.slice a len cap] w fun e w' => e = .returned (.bool true) ∧ Below w.heap.size w w' := by
  have HA : Hid (ArgAt w a len w.heap.size) := hA
  have HTB : Hid (Tab w) := hT
  clear hA hT
  by_cases hb : 1048576 < len
  · have hd : decide (1048576 < len) = true := decide_eq_true hb
    go_enter Tryz.func3, Tryz.ntmps3
    go_wp2_with (go_at_call 5; refine (big_any _ _ _ hm _).mono ?_; rintro e w0 ⟨rfl, rfl⟩)
    go_ret
    exact ⟨rfl, Below.refl _ _⟩
  have hd : decide (1048576 < len) = false := decide_eq_false hb
  have hm1 : len ≤ 1048576 := by omega
  go_enter Tryz.func3, Tryz.ntmps3
  go_wp2_with (go_at_call 5; refine (big_any _ _ _ hm _).mono ?_; rintro e w0 ⟨rfl, rfl⟩)
  refine (drawSign_any len cap a hm1 _ HA.out).mono ?_
  rintro e w1 ⟨k, t, rfl, hk, ht, hb1⟩
  have HA1 : Hid (ArgAt w1 a len w1.heap.size) := HA.out.up hb1
  have HT1 : Hid (Tab w1) := HTB.out.on hb1 HTB.out.1
  obtain ⟨hk0, hk1⟩ := hk
  have hkn : IntKind.i64.wrap (k + 1) = k + 1 := IntWalk.i64_in _ (by omega)
  obtain ⟨H, hH, hHi, hHz, hF⟩ : ∃ H : Pt, H = hashPt t ∧ inGB H = true ∧ H.2.2 = false ∧ (sigB (keyP k) (signP k H) H = !decide (sca k = 0) ∧ (sca k ≠ 0 → sigB (keyP (k + 1)) (signP k H) H = false ∧ sigB (keyP k) (pSum (signP k H) pB) H = false)) := by
    refine ⟨_, rfl, hash_in t, hash_some t, ?_⟩
    obtain ⟨m, m0, m1, e⟩ := hash_gp t
    rw [e]
    exact signs_facts m0 m1 scn_next
  have HI : Hid (∀ w, Tab w → Calls Tryz.prog 7 #[.int .i64 k, .string t] w fun e w' => e = .returned (pv (signP k H)) ∧ Below w.heap.size w w') := by rw [hH]; exact fun w h => iSign_any k t (by omega) w h
  have HH : Hid (∀ w, Tab w → Calls Tryz.prog 10 #[.string t] w fun e w' => e = .returned (pv H) ∧ Below w.heap.size w w') := by rw [hH]; exact fun w h => iHash_any t (by omega) w h
  have HSH : Hid (∀ w, Calls Tryz.prog 16 #[.string t] w fun e w' => e = .returned (pv H) ∧ Below w.heap.size w w') := by rw [hH]; exact fun w => sHash_any t (by omega) w
  have HG : Hid (∀ K S w, Tab w → Calls Tryz.prog 12 #[pv K, .string t, pv S] w fun e w' => e = .returned (.bool (sigB K S H)) ∧ Below w.heap.size w w') := by rw [hH]; exact fun K S w h => iSigOk_any K S t (by omega) w h
  have HIG : Hid (∀ w, Calls Tryz.prog 15 #[pv H] w fun e w' => e = .returned (.bool true) ∧ Below w.heap.size w w') := by
    have h := iInG_any H
    rw [hHi] at h
    exact h
  have HK : Hid (∀ w, Calls Tryz.prog 8 #[.int .i64 k] w fun e w' => e = .returned (pv (keyP k)) ∧ Below w.heap.size w w') := iKey_any k
  have HK1 : Hid (∀ w, Calls Tryz.prog 8 #[.int .i64 (k + 1)] w fun e w' => e = .returned (pv (keyP (k + 1))) ∧ Below w.heap.size w w') := iKey_any (k + 1)
  have HPA : Hid (∀ w, Calls Tryz.prog 13 #[pv (signP k H), pv pB] w fun e w' => e = .returned (pv (pSum (signP k H) pB)) ∧ Below w.heap.size w w') := iPAdd_any _ _
  have HBs : Hid (∀ w, Calls Tryz.prog 14 #[] w fun e w' => e = .returned (pv pB) ∧ Below w.heap.size w w') := iBase_any
  have HSc : Hid (∀ w, Calls Tryz.prog 9 #[.int .i64 k] w fun e w' => e = .returned (.int .i64 (sca k)) ∧ w = w') := sScOf_any k
  have HG1 : Hid (∀ w, Tab w → Calls Tryz.prog 12 #[pv (keyP k), .string t, pv (signP k H)] w fun e w' => e = .returned (.bool (!decide (sca k = 0))) ∧ Below w.heap.size w w') := by
    rw [← hF.1]; exact HG.out (keyP k) (signP k H)
  have HG2 : Hid (sca k ≠ 0 → ∀ w, Tab w → Calls Tryz.prog 12 #[pv (keyP (k + 1)), .string t, pv (signP k H)] w fun e w' => e = .returned (.bool false) ∧ Below w.heap.size w w') := fun h => by
    rw [← (hF.2 h).1]; exact HG.out (keyP (k + 1)) (signP k H)
  have HG3 : Hid (sca k ≠ 0 → ∀ w, Tab w → Calls Tryz.prog 12 #[pv (keyP k), .string t, pv (pSum (signP k H) pB)] w fun e w' => e = .returned (.bool false) ∧ Below w.heap.size w w') := fun h => by
    rw [← (hF.2 h).2]; exact HG.out (keyP k) (pSum (signP k H) pB)
  clear hF hH hHi HG hb hd HA HTB ht
  generalize pSum (signP k H) pB = S2 at HPA HG3
  generalize signP k H = S at HI HPA HG1 HG2 HG3
  generalize keyP (k + 1) = K1 at HK1 HG2
  generalize keyP k = K at HK HG1 HG3
  generalize pB = B at HPA HBs
  generalize sca k = sk at HSc HG1 HG2 HG3
  obtain ⟨hx, hy, hz⟩ := H
  simp only at hHz
  subst hHz
  go_wp2_with fail
  refine (HI.out _ HT1.out).mono ?_
  rintro e w2 ⟨rfl, hb2⟩
  obtain ⟨W2, hE2, hbW2, ts_2⟩ := box1 w2 27 #[.int .i64 S.1, .int .i64 S.2.1, .bool S.2.2]
  have hb12 := below_then hb2 hbW2
  have hB2 := below_then hb1 hb12
  have HT2 : Hid (Tab W2) := HT1.out.on hb12 HT1.out.1
  have HA2 : Hid (ArgAt W2 a len W2.heap.size) := HA1.out.up hb12
  clear hb1 hb2 hbW2 hb12 HT1 HA1
  go_wp2_with fail
  clear hE2
  refine (HK.out _).mono ?_
  rintro e w3 ⟨rfl, hb3⟩
  obtain ⟨W3, hE3, hbW3, tk_3⟩ := box1 w3 27 #[.int .i64 K.1, .int .i64 K.2.1, .bool K.2.2]
  have hb23 := below_then hb3 hbW3
  have ts_3 := ts_2.on hb23 ts_2.lt
  have hB3 := below_then hB2 hb23
  have HT3 : Hid (Tab W3) := HT2.out.on hb23 HT2.out.1
  have HA3 : Hid (ArgAt W3 a len W3.heap.size) := HA2.out.up hb23
  clear hb3 hbW3 hb23 ts_2 hB2 HT2 HA2
  go_wp2_with fail
  clear hE3
  refine (HSc.out _).mono ?_
  rintro e w4 ⟨rfl, rfl⟩
  clear HSc
  go_wp2_with fail
  refine (HH.out _ HT3.out).mono ?_
  rintro e w4 ⟨rfl, hb4⟩
  have hb34 := hb4
  have ts_4 := ts_3.on hb34 ts_3.lt
  have tk_4 := tk_3.on hb34 tk_3.lt
  have hB4 := below_then hB3 hb34
  have HT4 : Hid (Tab w4) := HT3.out.on hb34 HT3.out.1
  have HA4 : Hid (ArgAt w4 a len w4.heap.size) := HA3.out.up hb34
  clear hb4 hb34 ts_3 tk_3 hB3 HT3 HA3
  go_wp2_with fail
  obtain ⟨W4, hE4, hbW4, th_4⟩ := box1 w4 27 #[.int .i64 hx, .int .i64 hy, .bool false]
  rw [hE4]
  have ts_5 := ts_4.on hbW4 ts_4.lt
  have tk_5 := tk_4.on hbW4 tk_4.lt
  have hB5 := below_then hB4 hbW4
  have HT5 : Hid (Tab W4) := HT4.out.on hbW4 HT4.out.1
  have HA5 : Hid (ArgAt W4 a len W4.heap.size) := HA4.out.up hbW4
  clear hE4 hbW4 ts_4 tk_4 hB4 HT4 HA4
  refine (drawSigOk_any len cap a hm1 _ HA5.out).mono ?_
  rintro e w6 ⟨K2, S3, t2, rfl, ht2, hb6⟩
  obtain ⟨W6, hE6, hbW6, tp_6, tq_6⟩ := boxes1r w6 27 27 #[.int .i64 K2.1, .int .i64 K2.2.1, .bool K2.2.2] #[.int .i64 S3.1, .int .i64 S3.2.1, .bool S3.2.2]
  have hb56 := below_then hb6 hbW6
  have ts_6 := ts_5.on hb56 ts_5.lt
  have tk_6 := tk_5.on hb56 tk_5.lt
  have th_6 := th_4.on hb56 th_4.lt
  have hB6 := below_then hB5 hb56
  have HT6 : Hid (Tab W6) := HT5.out.on hb56 HT5.out.1
  clear hb6 hbW6 hb56 ts_5 tk_5 th_4 hB5 HT5 HA5
  obtain ⟨bq, hq1, hq2⟩ : ∃ b : Bool, (∀ w, Tab w → Calls Tryz.prog 12 #[pv K2, .string t2, pv S3] w fun e w' => e = .returned (.bool b) ∧ Below w.heap.size w w') ∧ (∀ w, Calls Tryz.prog 17 #[pv K2, .string t2, pv S3] w fun e w' => e = .returned (.bool b) ∧ Below w.heap.size w w') := ⟨_, fun w h => iSigOk_any K2 S3 t2 (by omega) w h, fun w => sSigOk_any K2 S3 t2 (by omega) w⟩
  have HQ1 : Hid _ := hq1
  have HQ2 : Hid _ := hq2
  clear hq1 hq2 ht2
  go_wp2_with fail
  clear hE6
  by_cases hsk : sk = 0
  · subst hsk
    clear HG2 HG3
    refine wp_region_class 54 (fun wz => Below W6.heap.size W6 wz) mixes (by kernel_rfl) (Below.refl _ _).drew ?_
    simp only [List.take_succ_cons, List.take_zero, List.drop_succ_cons, List.drop_zero]
    iterate 3 (refine cls_step rfl (fun K hK => ⟨_, (fun w' hw => by have q0 := (ts_6.on hw ts_6.lt).cell 0; have q1 := (ts_6.on hw ts_6.lt).cell 1; have q2 := (ts_6.on hw ts_6.lt).cell 2; have q3 := (tk_6.on hw tk_6.lt).cell 0; have q4 := (tk_6.on hw tk_6.lt).cell 1; have q5 := (tk_6.on hw tk_6.lt).cell 2; go_simp; exact rfl), ?_⟩); go_simp; refine hK _ ?_; clear hK K)
    refine cls_call rfl (fun K hK => ⟨_, _, _, (fun w' => by go_simp <;> first | exact rfl | exact ⟨rfl, rfl⟩), (fun w' hw => calls_below hw (HG1.out _ (HT6.out.on hw HT6.out.1))), ?_⟩); go_simp; refine hK _ ?_; clear hK K
    iterate 4 (refine cls_stepG rfl (fun K hK => ⟨_, (fun w' hw => by have q0 := (th_6.on hw th_6.lt).cell 0; have q1 := (th_6.on hw th_6.lt).cell 1; have q2 := (th_6.on hw th_6.lt).cell 2; go_simp; exact rfl), ?_⟩); go_simp; refine hK _ ?_; clear hK K)
    iterate 2 (refine cls_stepG rfl (fun K hK => ⟨_, (fun w' hw => by have q0 := (th_6.on hw th_6.lt).cell 0; have q1 := (th_6.on hw th_6.lt).cell 1; have q2 := (th_6.on hw th_6.lt).cell 2; go_simp; exact rfl), ?_⟩); go_simp; refine hK _ ?_; clear hK K)
    iterate 16 (refine cls_skip rfl (fun K hK => ?_); go_simp; refine hK _ ?_; clear hK K)
    iterate 4 (refine cls_stepG rfl (fun K hK => ⟨_, (fun w' hw => by have q0 := (th_6.on hw th_6.lt).cell 0; have q1 := (th_6.on hw th_6.lt).cell 1; have q2 := (th_6.on hw th_6.lt).cell 2; go_simp; exact rfl), ?_⟩); go_simp; refine hK _ ?_; clear hK K)
    refine cls_callG rfl (fun K hK => ⟨_, _, _, (fun w' => by go_simp <;> first | exact rfl | exact ⟨rfl, rfl⟩), (fun w' hw => calls_below hw (HIG.out _)), ?_⟩); go_simp; refine hK _ ?_; clear hK K
    iterate 9 (refine cls_stepG rfl (fun K hK => ⟨_, (fun w' hw => by have q0 := (th_6.on hw th_6.lt).cell 0; have q1 := (th_6.on hw th_6.lt).cell 1; have q2 := (th_6.on hw th_6.lt).cell 2; go_simp; exact rfl), ?_⟩); go_simp; refine hK _ ?_; clear hK K)
    refine cls_callG rfl (fun K hK => ⟨_, _, _, (fun w' => by go_simp <;> first | exact rfl | exact ⟨rfl, rfl⟩), (fun w' hw => calls_below hw (HSH.out _)), ?_⟩); go_simp; refine hK _ ?_; clear hK K
    iterate 6 (refine cls_stepG rfl (fun K hK => ⟨_, (fun w' hw => by have q0 := (tp_6.on hw tp_6.lt).cell 0; have q1 := (tp_6.on hw tp_6.lt).cell 1; have q2 := (tp_6.on hw tp_6.lt).cell 2; have q3 := (tq_6.on hw tq_6.lt).cell 0; have q4 := (tq_6.on hw tq_6.lt).cell 1; have q5 := (tq_6.on hw tq_6.lt).cell 2; go_simp; exact rfl), ?_⟩); go_simp; refine hK _ ?_; clear hK K)
    refine cls_callG rfl (fun K hK => ⟨_, _, _, (fun w' => by go_simp <;> first | exact rfl | exact ⟨rfl, rfl⟩), (fun w' hw => calls_below hw (HQ1.out _ (HT6.out.on hw HT6.out.1))), ?_⟩); go_simp; refine hK _ ?_; clear hK K
    iterate 3 (refine cls_stepG rfl (fun K hK => ⟨_, (fun w' hw => by have q0 := (tp_6.on hw tp_6.lt).cell 0; have q1 := (tp_6.on hw tp_6.lt).cell 1; have q2 := (tp_6.on hw tp_6.lt).cell 2; have q3 := (tq_6.on hw tq_6.lt).cell 0; have q4 := (tq_6.on hw tq_6.lt).cell 1; have q5 := (tq_6.on hw tq_6.lt).cell 2; go_simp; exact rfl), ?_⟩); go_simp; refine hK _ ?_; clear hK K)
    refine cls_callG rfl (fun K hK => ⟨_, _, _, (fun w' => by go_simp <;> first | exact rfl | exact ⟨rfl, rfl⟩), (fun w' hw => calls_below hw (HQ2.out _)), ?_⟩); go_simp; refine hK _ ?_; clear hK K
    iterate 2 (refine cls_stepG rfl (fun K hK => ⟨_, (fun w' hw => by go_simp; exact rfl), ?_⟩); go_simp; refine hK _ ?_; clear hK K)
    refine wq_nil ?_
    intro w' hw
    go_wp2
    go_ret
    exact ⟨rfl, below_then hB6 hw⟩
  · have hsk' : (sk == 0) = false := by simp [hsk]
    have hskd : decide (sk = 0) = false := decide_eq_false hsk
    have HG2' : Hid _ := HG2.out hsk
    have HG3' : Hid _ := HG3.out hsk
    rw [hskd] at HG1
    clear HG2 HG3 hsk hskd
    refine wp_region_class 54 (fun wz => Below W6.heap.size W6 wz) mixes (by kernel_rfl) (Below.refl _ _).drew ?_
    simp only [List.take_succ_cons, List.take_zero, List.drop_succ_cons, List.drop_zero]
    iterate 3 (refine cls_step rfl (fun K hK => ⟨_, (fun w' hw => by have q0 := (ts_6.on hw ts_6.lt).cell 0; have q1 := (ts_6.on hw ts_6.lt).cell 1; have q2 := (ts_6.on hw ts_6.lt).cell 2; have q3 := (tk_6.on hw tk_6.lt).cell 0; have q4 := (tk_6.on hw tk_6.lt).cell 1; have q5 := (tk_6.on hw tk_6.lt).cell 2; go_simp; exact rfl), ?_⟩); go_simp; refine hK _ ?_; clear hK K)
    refine cls_call rfl (fun K hK => ⟨_, _, _, (fun w' => by go_simp <;> first | exact rfl | exact ⟨rfl, rfl⟩), (fun w' hw => calls_below hw (HG1.out _ (HT6.out.on hw HT6.out.1))), ?_⟩); go_simp; refine hK _ ?_; clear hK K
    iterate 4 (refine cls_stepG rfl (fun K hK => ⟨_, (fun w' hw => by have q0 := (th_6.on hw th_6.lt).cell 0; have q1 := (th_6.on hw th_6.lt).cell 1; have q2 := (th_6.on hw th_6.lt).cell 2; go_simp; exact rfl), ?_⟩); go_simp; refine hK _ ?_; clear hK K)
    iterate 2 (refine cls_stepG rfl (fun K hK => ⟨_, (fun w' hw => by have q0 := (th_6.on hw th_6.lt).cell 0; have q1 := (th_6.on hw th_6.lt).cell 1; have q2 := (th_6.on hw th_6.lt).cell 2; go_simp; exact rfl), ?_⟩); go_simp; refine hK _ ?_; clear hK K)
    iterate 2 (refine cls_stepG rfl (fun K hK => ⟨_, (fun w' hw => by have q0 := (th_6.on hw th_6.lt).cell 0; have q1 := (th_6.on hw th_6.lt).cell 1; have q2 := (th_6.on hw th_6.lt).cell 2; go_simp; exact rfl), ?_⟩); go_simp; refine hK _ ?_; clear hK K)
    refine cls_callG rfl (fun K hK => ⟨_, _, _, (fun w' => by go_simp <;> first | exact rfl | exact ⟨rfl, rfl⟩), (fun w' hw => calls_below hw (HK1.out _)), ?_⟩); go_simp; refine hK _ ?_; clear hK K
    iterate 2 (refine cls_stepG rfl (fun K hK => ⟨_, (fun w' hw => by have q0 := (ts_6.on hw ts_6.lt).cell 0; have q1 := (ts_6.on hw ts_6.lt).cell 1; have q2 := (ts_6.on hw ts_6.lt).cell 2; go_simp; exact rfl), ?_⟩); go_simp; refine hK _ ?_; clear hK K)
    refine cls_callG rfl (fun K hK => ⟨_, _, _, (fun w' => by go_simp <;> first | exact rfl | exact ⟨rfl, rfl⟩), (fun w' hw => calls_below hw (HG2'.out _ (HT6.out.on hw HT6.out.1))), ?_⟩); go_simp; refine hK _ ?_; clear hK K
    iterate 5 (refine cls_stepG rfl (fun K hK => ⟨_, (fun w' hw => by have q0 := (ts_6.on hw ts_6.lt).cell 0; have q1 := (ts_6.on hw ts_6.lt).cell 1; have q2 := (ts_6.on hw ts_6.lt).cell 2; have q3 := (tk_6.on hw tk_6.lt).cell 0; have q4 := (tk_6.on hw tk_6.lt).cell 1; have q5 := (tk_6.on hw tk_6.lt).cell 2; go_simp; exact rfl), ?_⟩); go_simp; refine hK _ ?_; clear hK K)
    refine cls_callG rfl (fun K hK => ⟨_, _, _, (fun w' => by go_simp <;> first | exact rfl | exact ⟨rfl, rfl⟩), (fun w' hw => calls_below hw (HBs.out _)), ?_⟩); go_simp; refine hK _ ?_; clear hK K
    refine cls_callG rfl (fun K hK => ⟨_, _, _, (fun w' => by go_simp <;> first | exact rfl | exact ⟨rfl, rfl⟩), (fun w' hw => calls_below hw (HPA.out _)), ?_⟩); go_simp; refine hK _ ?_; clear hK K
    refine cls_callG rfl (fun K hK => ⟨_, _, _, (fun w' => by go_simp <;> first | exact rfl | exact ⟨rfl, rfl⟩), (fun w' hw => calls_below hw (HG3'.out _ (HT6.out.on hw HT6.out.1))), ?_⟩); go_simp; refine hK _ ?_; clear hK K
    iterate 2 (refine cls_stepG rfl (fun K hK => ⟨_, (fun w' hw => by go_simp; exact rfl), ?_⟩); go_simp; refine hK _ ?_; clear hK K)
    iterate 4 (refine cls_stepG rfl (fun K hK => ⟨_, (fun w' hw => by have q0 := (th_6.on hw th_6.lt).cell 0; have q1 := (th_6.on hw th_6.lt).cell 1; have q2 := (th_6.on hw th_6.lt).cell 2; go_simp; exact rfl), ?_⟩); go_simp; refine hK _ ?_; clear hK K)
    refine cls_callG rfl (fun K hK => ⟨_, _, _, (fun w' => by go_simp <;> first | exact rfl | exact ⟨rfl, rfl⟩), (fun w' hw => calls_below hw (HIG.out _)), ?_⟩); go_simp; refine hK _ ?_; clear hK K
    iterate 9 (refine cls_stepG rfl (fun K hK => ⟨_, (fun w' hw => by have q0 := (th_6.on hw th_6.lt).cell 0; have q1 := (th_6.on hw th_6.lt).cell 1; have q2 := (th_6.on hw th_6.lt).cell 2; go_simp; exact rfl), ?_⟩); go_simp; refine hK _ ?_; clear hK K)
    refine cls_callG rfl (fun K hK => ⟨_, _, _, (fun w' => by go_simp <;> first | exact rfl | exact ⟨rfl, rfl⟩), (fun w' hw => calls_below hw (HSH.out _)), ?_⟩); go_simp; refine hK _ ?_; clear hK K
    iterate 6 (refine cls_stepG rfl (fun K hK => ⟨_, (fun w' hw => by have q0 := (tp_6.on hw tp_6.lt).cell 0; have q1 := (tp_6.on hw tp_6.lt).cell 1; have q2 := (tp_6.on hw tp_6.lt).cell 2; have q3 := (tq_6.on hw tq_6.lt).cell 0; have q4 := (tq_6.on hw tq_6.lt).cell 1; have q5 := (tq_6.on hw tq_6.lt).cell 2; go_simp; exact rfl), ?_⟩); go_simp; refine hK _ ?_; clear hK K)
    refine cls_callG rfl (fun K hK => ⟨_, _, _, (fun w' => by go_simp <;> first | exact rfl | exact ⟨rfl, rfl⟩), (fun w' hw => calls_below hw (HQ1.out _ (HT6.out.on hw HT6.out.1))), ?_⟩); go_simp; refine hK _ ?_; clear hK K
    iterate 3 (refine cls_stepG rfl (fun K hK => ⟨_, (fun w' hw => by have q0 := (tp_6.on hw tp_6.lt).cell 0; have q1 := (tp_6.on hw tp_6.lt).cell 1; have q2 := (tp_6.on hw tp_6.lt).cell 2; have q3 := (tq_6.on hw tq_6.lt).cell 0; have q4 := (tq_6.on hw tq_6.lt).cell 1; have q5 := (tq_6.on hw tq_6.lt).cell 2; go_simp; exact rfl), ?_⟩); go_simp; refine hK _ ?_; clear hK K)
    refine cls_callG rfl (fun K hK => ⟨_, _, _, (fun w' => by go_simp <;> first | exact rfl | exact ⟨rfl, rfl⟩), (fun w' hw => calls_below hw (HQ2.out _)), ?_⟩); go_simp; refine hK _ ?_; clear hK K
    iterate 2 (refine cls_stepG rfl (fun K hK => ⟨_, (fun w' hw => by go_simp; exact rfl), ?_⟩); go_simp; refine hK _ ?_; clear hK K)
    refine wq_nil ?_
    intro w' hw
    go_wp2
    go_ret
    exact ⟨rfl, below_then hB6 hw⟩

end Go.Proofs.YtldkdgbcnbgmiaaGreatDoor

/-
  What the rows list of the table of the rounds.
-/
namespace Go.Proofs.YtldkdgbcnbgmiaaGreatDoor
open Go.RowKit

theorem gTab : Tryz.prog.globalNamed "loop.example/g00321/impl.roundWords" = some 0 := by kernel_rfl
theorem gTabType : (Tryz.prog.globals[0]?).map (·.type) = some 99 := by kernel_rfl
theorem cellsT : Tryz.prog.cellsOf 99 = 24 := by kernel_rfl
theorem cellsW : Tryz.prog.cellsOf 83 = 1 := by kernel_rfl
theorem rcL_val : ∀ i, i < 24 → wv (rcW i) = ((rcL.getD i 0 : Nat) : Int) := by decide

theorem fnSigns_tab {W : World} (h : laidMetH Tryz.prog Rows.fnSignsRow.laid W) : Tab W := by
  rw [MakeChecks.laidMetH_plain _ _ _ (by kernel_rfl)] at h
  have e : Rows.fnSignsRow.laid = [("loop.example/g00321/impl.roundWords", Lib.tabData .u64 (rcL.map Int.ofNat))] := by kernel_rfl
  rw [e] at h
  have t := Lib.tabIs_of_head (rest := []) gTab gTabType Tryz.underlying99 Tryz.underlying83 cellsW cellsT h
  have c : ∀ i, i < 24 → W.cell? ⟨0, i, none⟩ = some (.int .u64 (wv (rcW i))) := fun i hi => by
    have := t.cell gTab i (by simpa [rcL] using hi)
    rw [this, rcL_val i hi]
    have hl : i < rcL.length := by simpa [rcL] using hi
    simp only [List.getD_eq_getElem?_getD, List.getElem?_map, List.getElem?_eq_getElem hl, Option.map_some, Option.getD_some]
    rfl
  exact ⟨Nat.lt_of_le_of_lt (Nat.zero_le _) (World.block_lt_of_cell? W _ (c 0 (by omega))), c⟩

theorem fnSignsTogether_tab {W : World} (h : laidMetH Tryz.prog Rows.fnSignsTogetherRow.laid W) : Tab W := by
  rw [MakeChecks.laidMetH_plain _ _ _ (by kernel_rfl)] at h
  have e : Rows.fnSignsTogetherRow.laid = [("loop.example/g00321/impl.roundWords", Lib.tabData .u64 (rcL.map Int.ofNat))] := by kernel_rfl
  rw [e] at h
  have t := Lib.tabIs_of_head (rest := []) gTab gTabType Tryz.underlying99 Tryz.underlying83 cellsW cellsT h
  have c : ∀ i, i < 24 → W.cell? ⟨0, i, none⟩ = some (.int .u64 (wv (rcW i))) := fun i hi => by
    have := t.cell gTab i (by simpa [rcL] using hi)
    rw [this, rcL_val i hi]
    have hl : i < rcL.length := by simpa [rcL] using hi
    simp only [List.getD_eq_getElem?_getD, List.getElem?_map, List.getElem?_eq_getElem hl, Option.map_some, Option.getD_some]
    rfl
  exact ⟨Nat.lt_of_le_of_lt (Nat.zero_le _) (World.block_lt_of_cell? W _ (c 0 (by omega))), c⟩

end Go.Proofs.YtldkdgbcnbgmiaaGreatDoor

/-
  Listed variables read behind a call as they read before, where nothing below the old memory's end has changed.
-/
namespace Go.Proofs.YtldkdgbcnbgmiaaGreatDoor
open Go.RowKit Go.ChangeShapes

/-- Each named variable is of a type that can be read. -/
def varsOk (P : Program) (ns : List String) : Bool := ns.all fun n => match (P.globalNamed n).bind fun g => (P.globals[g]?).map (·.type) with
  | some t => P.readableRec t && decide (t < P.types.size)
  | none => true

theorem trodVars_step {H : Type} {enc : TypeId × Value → H} {P : Program} {w : World} {spare : Nat → Bool} {n : String} {ns : List String} {gs : List (DataW H)} {ps : List MemPlace} (h : DataW.TrodVars enc P w spare (n :: ns) gs ps) :
    ∃ d ds q, gs = d :: ds ∧ DataW.TrodVars enc P w spare ns ds q := by
  cases gs with
  | nil => simp [DataW.TrodVars] at h
  | cons d ds =>
    obtain ⟨g, t, cs, fuel, p, q, _, _, _, _, hs, _⟩ := h
    exact ⟨d, ds, q, rfl, hs⟩

theorem var_below {P : Program} {W W' : World} (hb : Below W.heap.size W W') {n : String} {cs : Array Value} (h : W.var? P n = some cs) : W'.var? P n = some cs := by
  unfold World.var? at h ⊢
  cases hg : P.globalNamed n with
  | none => rw [hg] at h; cases h
  | some g =>
    rw [hg] at h
    simp only [Option.bind_some] at h ⊢
    have hlt : g < W.heap.size := by
      rcases Nat.lt_or_ge g W.heap.size with x | x
      · exact x
      · rw [Array.getElem?_eq_none x] at h; cases h
    rw [hb.block g hlt]
    exact h

theorem vars_below {H : Type} {enc : TypeId × Value → H} {P : Program} (hl : laidOutB P = true) {W W' : World} (hb : Below W.heap.size W W') : ∀ {ns : List String} {gs : List (DataW H)} {ps : List MemPlace},
    varsOk P ns = true → DataW.TrodVars enc P W (fun _ => true) ns gs ps → DataW.TrodVars enc P W' (fun b => decide (b < W.heap.size)) ns gs ps
  | [], [], _, _, h => h
  | [], _ :: _, _, _, h => h.elim
  | _ :: _, [], _, _, h => h.elim
  | n :: ns, d :: ds, ps, ho, h => by
    have hlt := DataW.TrodVars.lt h
    obtain ⟨g, t, cs, fuel, p, q, h1, h2, h3, h4, hs, rfl⟩ := h
    unfold varsOk at ho
    rw [List.all_cons, Bool.and_eq_true] at ho
    obtain ⟨ho1, ho2⟩ := ho
    rw [h1, Option.bind_some, h2] at ho1
    simp only [Bool.and_eq_true, decide_eq_true_eq] at ho1
    refine ⟨g, t, cs, fuel, p, q, h1, h2, var_below hb h3, ?_, vars_below hl hb ho2 hs, rfl⟩
    have hp : ∀ x ∈ p, x.block < W.heap.size := fun x hx => hlt x (by simp [hx])
    exact DataW.trod_stays (Go.kids_book hl ho1.1) (Go.book_sized ho1.1) (fun h => by cases h) ⟨ho1.2, Go.book_self t⟩ h4 (fun x hx => hb.same (hp x hx)) (fun x hx => by simpa using hp x hx)

end Go.Proofs.YtldkdgbcnbgmiaaGreatDoor
