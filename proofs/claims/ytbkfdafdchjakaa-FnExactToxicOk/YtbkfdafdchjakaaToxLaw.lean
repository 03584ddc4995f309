/-
  The walk of the exact law of the numbers of keys.
  (-DROP-: what the seat lacks is left out.)
-/
import Derived.Test.YtbkfdafdchjakaaPrfS1
import Derived.Test.YtbkfdafdchjakaaPrfI1
import Derived.Test.YtbkfdafdchjakaaToxArg
import Derived.Test.YtbkfdafdchjakaaOrd

namespace Go.Proofs.Ytbkfdafdchjakaa
open Go.RowKit

set_option maxHeartbeats 3200000 in
set_option maxRecDepth 100000 in
theorem lawToxicOk (wi pu : Int) (a : Option Addr) (n c : Nat) (ta al be ga de : Int) (hw0 : (Lit.int .i64 wi).wf = true) (hn : n ≤ 9223372036854775807) (ls : List (List Int)) (hz : ∀ j, (ls.getD j []).length ≤ 9223372036854775807) (w : World) (hA : NAt 3 w w.heap.size (.slice a n c) n ls) :
    Calls Try.prog 4 #[sysV wi pu (.slice a n c), .agg #[.int .i64 ta, .int .i64 al, .int .i64 be, .int .i64 ga, .int .i64 de]] w fun e w' => e = .returned (.bool true) ∧ Below w.heap.size w w' := by
  unfold sysV
  have HA : Hid (NAt 3 w w.heap.size (.slice a n c) n ls) := hA
  obtain ⟨W, hW, hbW, hs, hr⟩ := boxes1r w 50 51 #[.int .i64 wi, .int .i64 pu, .slice a n c] #[.int .i64 ta, .int .i64 al, .int .i64 be, .int .i64 ga, .int .i64 de]
  have HZ : Hid (szF 1048576 (n + tot ls) = -1 ∨ (¬ szF 1048576 (n + tot ls) < 0 ∧ n + tot ls ≤ 1048576)) := by show _ ∨ _; unfold szF; by_cases h : n + tot ls ≤ 1048576 <;> simp [h] <;> omega
  have HSZ : Hid (Calls Try.prog 12 #[.agg #[.int .i64 wi, .int .i64 pu, .slice a n c], .int .i64 1048576] W fun e w' => e = .returned (.int .i64 (szF 1048576 (n + tot ls))) ∧ Below W.heap.size W w') := szSystem_any wi pu a n c hn ls hz W ((hA.on hbW).wide hbW.size)
  generalize szF 1048576 (n + tot ls) = left at HZ HSZ
  have HBW : Hid (Below w.heap.size w W) := hbW
  clear hbW hA
  rcases HZ.out with rfl | ⟨hleft, htot⟩
  · skip
    go_enter Try.func4, Try.ntmps4
    go_wp2_with (refine load_blk rfl rfl rfl hs Try.underlying50 infoSl ?_)
    clear hW
    refine HSZ.out.mono ?_
    rintro e wz ⟨rfl, hbz⟩
    have hBz := below_then HBW.out hbz
    clear hbz HSZ
    go_wp2
    go_ret
    exact ⟨rfl, hBz⟩
  have hn1 : n ≤ 1048576 := by omega
  have hz1 : ∀ j, (ls.getD j []).length ≤ 1048576 := fun j => by
    rcases Nat.lt_or_ge j ls.length with h | h
    · have := tot_at_le ls h; omega
    · have e : ls.getD j [] = [] := by simp [h]
      rw [e]; exact Nat.zero_le _
  have CS : Hid (∀ g V, NAt 3 V V.heap.size (.slice (some ⟨g, 0, none⟩) n n) n ls → Calls Try.prog 13 #[.agg #[.int .i64 wi, .int .i64 pu, .slice (some ⟨g, 0, none⟩) n n], .agg #[.int .i64 ta, .int .i64 al, .int .i64 be, .int .i64 ga, .int .i64 de]] V fun e w' => e = .returned (.bool (toxB wi pu n ls ta al be ga de)) ∧ Below V.heap.size V w') := fun g V h => sToxic_any wi pu hw0 _ n n (by omega) ls (fun j => Nat.le_trans (hz1 j) (by decide)) ta al be ga de V h
  have CI : Hid (∀ g V, NAt 3 V V.heap.size (.slice (some ⟨g, 0, none⟩) n n) n ls → Calls Try.prog 16 #[.agg #[.int .i64 wi, .int .i64 pu, .slice (some ⟨g, 0, none⟩) n n], .agg #[.int .i64 ta, .int .i64 al, .int .i64 be, .int .i64 ga, .int .i64 de]] V fun e w' => e = .returned (.bool (toxB wi pu n ls ta al be ga de)) ∧ Below V.heap.size V w') := fun g V h => iToxic_any wi pu hw0 _ n n (by omega) ls (fun j => Nat.le_trans (hz1 j) (by decide)) ta al be ga de V h
  have CT : Hid (∀ V, Calls Try.prog 15 #[.agg #[.int .i64 ta, .int .i64 al, .int .i64 be, .int .i64 ga, .int .i64 de]] V fun e w' => e = .returned (.agg #[.int .i64 ta, .int .i64 al, .int .i64 be, .int .i64 ga, .int .i64 de]) ∧ Below V.heap.size V w') := toToxic_any ta al be ga de
  have CO : Hid (∀ V, Below w.heap.size w V → Calls Try.prog 14 #[.agg #[.int .i64 wi, .int .i64 pu, .slice a n c]] V fun e w' => ∃ g vs, e = .returned (.agg #[.int .i64 wi, .int .i64 pu, .slice (some ⟨g, 0, none⟩) n n]) ∧ NOwnV 3 93 V.heap.size w'.heap.size w' (.slice (some ⟨g, 0, none⟩) n n) n vs ls ∧ Below V.heap.size V w') := fun V hV => toSystem_any wi pu a n c hn1 ls hz1 V ((HA.out.on hV).wide hV.size)
  have CE : Hid (∀ g1 g2 V, NAt 3 V V.heap.size (.slice (some ⟨g1, 0, none⟩) n n) n ls → NAt 3 V V.heap.size (.slice (some ⟨g2, 0, none⟩) n n) n ls → Calls Try.prog 17 #[.agg #[.int .i64 wi, .int .i64 pu, .slice (some ⟨g1, 0, none⟩) n n], .agg #[.int .i64 wi, .int .i64 pu, .slice (some ⟨g2, 0, none⟩) n n]] V fun e w' => e = .returned (.bool true) ∧ Below V.heap.size V w') := fun g1 g2 V h1 h2 => eqSystem_any wi pu _ _ n n n hn1 ls hz1 V h1 h2
  generalize toxB wi pu n ls ta al be ga de = R at CS CI
  clear HZ hz hn hz1 htot
  go_enter Try.func4, Try.ntmps4
  go_wp2_with (refine load_blk rfl rfl rfl hs Try.underlying50 infoSl ?_)
  clear hW
  refine HSZ.out.mono ?_
  rintro e w1 ⟨rfl, hb1⟩
  have hs1 := hs.on hb1 hs.lt
  have hr1 := hr.on hb1 hr.lt
  have HB1 : Hid (Below w.heap.size w w1) := below_then HBW.out hb1
  clear hb1 hs hr HBW HSZ
  -- the specification
  go_wp2_with fail
  have T0 : Below w1.heap.size w1 w1.drew := (Below.refl _ _).drew
  refine wp_region_ord [(0, false), (2, false), (1, true), (3, true), (4, true), (5, false)] (fun wz => Below w1.heap.size w1 wz) mixes (by kernel_rfl) T0 ?_
  repeat (refine ord_float rfl rfl (fun K hK => ⟨_, (fun w' hw => by have q0 := (hs1.on hw hs1.lt).cell 0; have q1 :=  (hs1.on hw hs1.lt).cell 1; have q2 :=  (hs1.on hw hs1.lt).cell 2; have q3 :=  (hr1.on hw hr1.lt).cell 0; have q4 :=  (hr1.on hw hr1.lt).cell 1; have q5 :=  (hr1.on hw hr1.lt).cell 2; have q6 :=  (hr1.on hw hr1.lt).cell 3; have q7 :=  (hr1.on hw hr1.lt).cell 4; go_simp; exact rfl), ?_⟩); go_simp; refine hK _ ?_; clear hK K)
  refine ord_call rfl rfl (fun K hK => ⟨_, _, (by go_simp <;> first | exact rfl | exact ⟨rfl, rfl⟩), ?_⟩)
  refine (CO.out _ HB1.out.drew).mono ?_
  rintro e u1 ⟨g1, vs1, rfl, hO1, hu1⟩
  have T1 := below_then T0 hu1
  refine ⟨_, rfl, T1, ?_⟩
  go_simp
  refine hK _ _ ?_
  clear hK K
  refine ord_call rfl rfl (fun K hK => ⟨_, _, (by go_simp <;> first | exact rfl | exact ⟨rfl, rfl⟩), ?_⟩)
  refine (CT.out _).mono ?_
  rintro e u2 ⟨rfl, hu2⟩
  have T2 := below_then T1 hu2
  have hP2 := ((hO1.same (Same.of_below hu2 (Nat.le_refl _))).at.wide (c := _) (d := u2.heap.size) hu2.size)
  refine ⟨_, rfl, T2, ?_⟩
  go_simp
  refine hK _ _ ?_
  clear hK K
  refine ord_call rfl rfl (fun K hK => ⟨_, _, (by go_simp <;> first | exact rfl | exact ⟨rfl, rfl⟩), ?_⟩)
  refine (CS.out _ _ hP2).mono ?_
  rintro e u3 ⟨rfl, hu3⟩
  have T3 := below_then T2 hu3
  refine ⟨_, rfl, T3, ?_⟩
  go_simp
  refine hK _ _ ?_
  clear hK K
  repeat (refine ord_float rfl rfl (fun K hK => ⟨_, (fun w' hw => by have q0 := (hs1.on hw hs1.lt).cell 0; have q1 :=  (hs1.on hw hs1.lt).cell 1; have q2 :=  (hs1.on hw hs1.lt).cell 2; have q3 :=  (hr1.on hw hr1.lt).cell 0; have q4 :=  (hr1.on hw hr1.lt).cell 1; have q5 :=  (hr1.on hw hr1.lt).cell 2; have q6 :=  (hr1.on hw hr1.lt).cell 3; have q7 :=  (hr1.on hw hr1.lt).cell 4; go_simp; exact rfl), ?_⟩); go_simp; refine hK _ ?_; clear hK K)
  refine ord_nil ?_
  have hs3 := hs1.on T3 hs1.lt
  have hr3 := hr1.on T3 hr1.lt
  have HB3 : Hid (Below w.heap.size w u3) := HB1.out.trans (T3.mono HB1.out.size)
  clear hs1 hr1 HB1 T0 T1 T2 T3 hu1 hu2 hu3 hO1 hP2 CS
  -- the program
  go_wp2_with (refine load_blk rfl rfl rfl hs3 Try.underlying50 infoSl ?_)
  refine (CO.out _ HB3.out).mono ?_
  rintro e w4 ⟨g4, vs4, rfl, hO4, hb4⟩
  obtain ⟨W5, hW5, hb5, hx5⟩ := box1 w4 26 #[.int .i64 wi, .int .i64 pu, .slice (some ⟨g4, 0, none⟩) n n]
  have hs5 := (hs3.on hb4 hs3.lt).on hb5 (hs3.on hb4 hs3.lt).lt
  have hr5 := (hr3.on hb4 hr3.lt).on hb5 (hr3.on hb4 hr3.lt).lt
  have hs45 : w4.heap.size ≤ W5.heap.size := hb5.size
  have HO5 : Hid (NOwnV 3 93 u3.heap.size w4.heap.size W5 (.slice (some ⟨g4, 0, none⟩) n n) n vs4 ls) := hO4.same (Same.of_below hb5 (Nat.le_refl _))
  have HB5 : Hid (Below w.heap.size w W5) := (HB3.out.trans (hb4.mono HB3.out.size)).trans (hb5.mono (by have := HB3.out.size; have := hb4.size; omega))
  clear hO4 hb4 hb5 hs3 hr3 HB3
  go_wp2_with fail
  clear hW5
  have T0 : Below W5.heap.size W5 W5.drew := (Below.refl _ _).drew
  refine wp_region_ord [(0, false), (1, false), (2, true), (3, true), (4, false)] (fun wz => Below W5.heap.size W5 wz) mixes (by kernel_rfl) T0 ?_
  repeat (refine ord_float rfl rfl (fun K hK => ⟨_, (fun w' hw => by have q0 := (hx5.on hw hx5.lt).cell 0; have q1 :=  (hx5.on hw hx5.lt).cell 1; have q2 :=  (hx5.on hw hx5.lt).cell 2; have q3 :=  (hr5.on hw hr5.lt).cell 0; have q4 :=  (hr5.on hw hr5.lt).cell 1; have q5 :=  (hr5.on hw hr5.lt).cell 2; have q6 :=  (hr5.on hw hr5.lt).cell 3; have q7 :=  (hr5.on hw hr5.lt).cell 4; go_simp; exact rfl), ?_⟩); go_simp; refine hK _ ?_; clear hK K)
  refine ord_call rfl rfl (fun K hK => ⟨_, _, (by go_simp <;> first | exact rfl | exact ⟨rfl, rfl⟩), ?_⟩)
  refine (CT.out _).mono ?_
  rintro e u1 ⟨rfl, hu1⟩
  have T1 := below_then T0 hu1
  have hP1 := ((HO5.out.same (Same.of_below T1 hs45)).at.wide (c := _) (d := u1.heap.size) (by have := T1.size; omega))
  refine ⟨_, rfl, T1, ?_⟩
  go_simp
  refine hK _ _ ?_
  clear hK K
  refine ord_call rfl rfl (fun K hK => ⟨_, _, (by go_simp <;> first | exact rfl | exact ⟨rfl, rfl⟩), ?_⟩)
  refine (CI.out _ _ hP1).mono ?_
  rintro e u2 ⟨rfl, hu2⟩
  have T2 := below_then T1 hu2
  refine ⟨_, rfl, T2, ?_⟩
  go_simp
  refine hK _ _ ?_
  clear hK K
  repeat (refine ord_float rfl rfl (fun K hK => ⟨_, (fun w' hw => by have q0 := (hx5.on hw hx5.lt).cell 0; have q1 :=  (hx5.on hw hx5.lt).cell 1; have q2 :=  (hx5.on hw hx5.lt).cell 2; have q3 :=  (hr5.on hw hr5.lt).cell 0; have q4 :=  (hr5.on hw hr5.lt).cell 1; have q5 :=  (hr5.on hw hr5.lt).cell 2; have q6 :=  (hr5.on hw hr5.lt).cell 3; have q7 :=  (hr5.on hw hr5.lt).cell 4; go_simp; exact rfl), ?_⟩); go_simp; refine hK _ ?_; clear hK K)
  refine ord_nil ?_
  have hs6 := hs5.on T2 hs5.lt
  have hx6 := hx5.on T2 hx5.lt
  have HO6 : Hid (NOwnV 3 93 u3.heap.size w4.heap.size u2 (.slice (some ⟨g4, 0, none⟩) n n) n vs4 ls) := HO5.out.same (Same.of_below T2 hs45)
  have hs46 : w4.heap.size ≤ u2.heap.size := Nat.le_trans hs45 T2.size
  have HB6 : Hid (Below w.heap.size w u2) := HB5.out.trans (T2.mono HB5.out.size)
  clear hs5 hx5 HO5 HB5 T0 T1 T2 hu1 hu2 hP1 CI CT hr5
  -- the argument is as it was
  go_wp2_with fail
  have T0 : Below u2.heap.size u2 u2.drew := (Below.refl _ _).drew
  refine wp_region_ord [(0, false), (1, false), (2, true), (3, true), (4, true)] (fun wz => Below u2.heap.size u2 wz) mixes (by kernel_rfl) T0 ?_
  repeat (refine ord_float rfl rfl (fun K hK => ⟨_, (fun w' hw => by have q0 := (hx6.on hw hx6.lt).cell 0; have q1 :=  (hx6.on hw hx6.lt).cell 1; have q2 :=  (hx6.on hw hx6.lt).cell 2; have q3 :=  (hs6.on hw hs6.lt).cell 0; have q4 :=  (hs6.on hw hs6.lt).cell 1; have q5 :=  (hs6.on hw hs6.lt).cell 2; go_simp; exact rfl), ?_⟩); go_simp; refine hK _ ?_; clear hK K)
  refine ord_call rfl rfl (fun K hK => ⟨_, _, (by go_simp <;> first | exact rfl | exact ⟨rfl, rfl⟩), ?_⟩)
  refine (CO.out _ HB6.out.drew).mono ?_
  rintro e v1 ⟨g7, vs7, rfl, hO7, hv1⟩
  have T1 := below_then T0 hv1
  have hP1 := ((HO6.out.same (Same.of_below T1 hs46)).at.wide (c := _) (d := v1.heap.size) (by have := T1.size; omega))
  have hP2 := hO7.at
  refine ⟨_, rfl, T1, ?_⟩
  go_simp
  refine hK _ _ ?_
  clear hK K
  refine ord_call rfl rfl (fun K hK => ⟨_, _, (by go_simp <;> first | exact rfl | exact ⟨rfl, rfl⟩), ?_⟩)
  refine (CE.out _ _ _ hP1 hP2).mono ?_
  rintro e v2 ⟨rfl, hv2⟩
  have T2 := below_then T1 hv2
  refine ⟨_, rfl, T2, ?_⟩
  go_simp
  refine hK _ _ ?_
  clear hK K
  refine ord_op rfl rfl (fun K hK => ⟨_, _, (by go_simp <;> first | exact ⟨rfl, rfl⟩ | exact rfl), T2, ?_⟩)
  go_simp
  refine hK _ _ ?_
  clear hK K
  refine ord_nil ?_
  have hB8 := HB6.out.trans (T2.mono HB6.out.size)
  clear hs6 hx6 HO6 HB6 T0 T1 T2 hv1 hv2 hP1 hP2 hO7
  go_wp2
  go_ret
  exact ⟨rfl, hB8⟩

end Go.Proofs.Ytbkfdafdchjakaa
