/-
  The walks of the exact laws on ItemOk, ItemText.
  (-DROP-: what the seat lacks is left out.)
-/
import Derived.Test.YtmpjnabadplbjaaItemTo
import Derived.Test.YtmpjnabadplbjaaItemEq
import Derived.Test.YtmpjnabadplbjaaItemMath
import Derived.Test.YtmpjnabadplbjaaFormI6
import Derived.Test.YtmpjnabadplbjaaOrd
namespace Go.Proofs.Ytmpjnabadplbjaa
open Go.RowKit


set_option maxHeartbeats 6400000 in
set_option maxRecDepth 100000 in
theorem lawItemOk (d : Nat) (x : It (d + 1)) (v : Value) (w : World) (hT : (itT x).size ≤ 9223372036854775807) (hK : KAt d w w.heap.size v (itK x)) :
    Calls Try.prog 5 #[itV (itL x) (itT x) v] w fun e w' => e = .returned (.bool true) ∧ Below w.heap.size w w' := by
  obtain ⟨a, c, rfl⟩ := hK.in.slice
  obtain ⟨W, hW, hb, hx⟩ := box1 w 45 #[.bool (itL x), .string (itT x), .slice a (itK x).length c]
  have q0 := hx.cell 0
  have q1 := hx.cell 1
  have q2 := hx.cell 2
  have HK : Hid (KAt d w w.heap.size (.slice a (itK x).length c) (itK x) ∧ (itT x).size ≤ 9223372036854775807 ∧ Below w.heap.size w W ∧ Blk W w.heap.size 45 #[.bool (itL x), .string (itT x), .slice a (itK x).length c]) := ⟨hK, hT, hb, hx⟩
  have HZ : Hid (Calls Try.prog 27 #[.agg #[.bool (itL x), .string (itT x), .slice a (itK x).length c], .int .i64 1048576] W fun f w' => f = .returned (.int .i64 (szG 1048576 (szD (d + 1) x))) ∧ Below W.heap.size W w') := szItem_any d x _ 1048576 W (Nat.le_refl _) hT ((hK.on hb).wide hb.size)
  unfold itV
  clear hK hT hb hx
  by_cases hs : szD (d + 1) x ≤ 1048576
  · have hL : ¬ szG 1048576 (szD (d + 1) x) < 0 := by unfold szG; rw [if_pos hs]; omega
    generalize szG 1048576 (szD (d + 1) x) = left at HZ hL
    have HS : Hid (szD (d + 1) x ≤ 1048576) := hs
    clear hs
    go_enter Try.func5, Try.ntmps5
    go_wp2_with fail
    refine HZ.out.mono ?_
    rintro e w1 ⟨rfl, hb1⟩
    have B1 : Below W.heap.size W w1 := hb1
    have x1 := HK.out.2.2.2.on B1 HK.out.2.2.2.lt
    have hA1 := (HK.out.1.on (below_then HK.out.2.2.1 B1)).wide (below_then HK.out.2.2.1 B1).size
    clear q0 q1 q2 hW HZ hb1
    have q0 := x1.cell 0
    have q1 := x1.cell 1
    have q2 := x1.cell 2
    go_wp2_with fail
    refine (toItem_any d x HS.out _ w1 hA1).mono ?_
    rintro e w2 ⟨u2, rfl, hin2, hb2⟩
    obtain ⟨a2, c2, rfl⟩ := hin2.slice
    have B2 : Below W.heap.size W w2 := below_then B1 hb2
    have HC2 : Hid (Calls Try.prog 23 #[.agg #[.bool (itL x), .string (itT x), .slice a2 (itK x).length c2]] w2 fun f w' => f = .returned (.bool (okI x)) ∧ Below w2.heap.size w2 w') := sItemOk_any d x _ w2 HK.out.2.1 (hin2.at fun b hb => hb.2)
    clear q0 q1 q2 x1 hA1 B1 hb2 hin2
    unfold itV
    go_wp2_with fail
    refine HC2.out.mono ?_
    rintro e w3 ⟨rfl, hb3⟩
    have B3 : Below W.heap.size W w3 := below_then B2 hb3
    have x3 := HK.out.2.2.2.on B3 HK.out.2.2.2.lt
    have hA3 := (HK.out.1.on (below_then HK.out.2.2.1 B3)).wide (below_then HK.out.2.2.1 B3).size
    have q0 := x3.cell 0
    have q1 := x3.cell 1
    have q2 := x3.cell 2
    clear B2 hb3 HC2
    go_wp2_with fail
    refine (toItem_any d x HS.out _ w3 hA3).mono ?_
    rintro e w4 ⟨u4, rfl, hin4, hb4⟩
    obtain ⟨a4, c4, rfl⟩ := hin4.slice
    have B4 : Below W.heap.size W w4 := below_then B3 hb4
    obtain ⟨V, hV, hbV, hxV⟩ := box1 w4 26 #[.bool (itL x), .string (itT x), .slice a4 (itK x).length c4]
    have BV : Below W.heap.size W V := below_then B4 hbV
    have HI4 : Hid (KAt d w4 w4.heap.size (.slice a4 (itK x).length c4) (itK x) ∧ Below w4.heap.size w4 V ∧ Blk V w4.heap.size 26 #[.bool (itL x), .string (itT x), .slice a4 (itK x).length c4]) := ⟨hin4.at fun b hb => hb.2, hbV, hxV⟩
    have HC5 : Hid (Calls Try.prog 22 #[.agg #[.bool (itL x), .string (itT x), .slice a4 (itK x).length c4]] V fun f w' => f = .returned (.bool (okI x)) ∧ Below V.heap.size V w') := iItemOk_any d x _ V HK.out.2.1 ((HI4.out.1.on hbV).wide hbV.size)
    clear q0 q1 q2 x3 hA3 B3 hb4 hin4 B4 hbV
    have q0 := hxV.cell 0
    have q1 := hxV.cell 1
    have q2 := hxV.cell 2
    unfold itV
    go_wp2_with fail
    refine HC5.out.mono ?_
    rintro e w6 ⟨rfl, hb6⟩
    have B6 : Below W.heap.size W w6 := below_then BV hb6
    have x6 := HK.out.2.2.2.on B6 HK.out.2.2.2.lt
    have z6 := HI4.out.2.2.on hb6 HI4.out.2.2.lt
    have HP : Hid (KAt d w6 w6.heap.size (.slice a4 (itK x).length c4) (itK x) ∧ KAt d w6 w6.heap.size (.slice a (itK x).length c) (itK x)) := ⟨(HI4.out.1.on (below_then HI4.out.2.1 hb6)).wide (below_then HI4.out.2.1 hb6).size, (HK.out.1.on (below_then HK.out.2.2.1 B6)).wide (below_then HK.out.2.2.1 B6).size⟩
    clear q0 q1 q2 hV hxV BV hb6 HC5
    generalize okI x = o
    go_wp2_with fail
    have hD : Below w6.heap.size w6 w6.drew := (Below.refl _ _).drew
    have hAD := (HP.out.2.on hD).wide hD.size
    refine wp_region_ord [(0, false), (1, false), (2, true), (3, true), (4, true)] (fun wz => Below w6.heap.size w6 wz) mixes (by kernel_rfl) hD ?_
    repeat (refine ord_float rfl rfl (fun K hK => ⟨_, (fun w' hw => by have q0 := (z6.on hw z6.lt).cell 0; have q1 :=  (z6.on hw z6.lt).cell 1; have q2 :=  (z6.on hw z6.lt).cell 2; have q3 :=  (x6.on hw x6.lt).cell 0; have q4 :=  (x6.on hw x6.lt).cell 1; have q5 :=  (x6.on hw x6.lt).cell 2; go_simp; exact rfl), ?_⟩); go_simp; refine hK _ ?_; clear hK K)
    refine ord_call rfl rfl (fun K hK => ⟨_, _, (by go_simp <;> first | exact rfl | exact ⟨rfl, rfl⟩), ?_⟩)
    refine (toItem_any d x HS.out _ _ hAD).mono ?_
    rintro e v1 ⟨uz, rfl, hinz, hbz⟩
    have hBz := below_then hD hbz
    have hPx := (HP.out.1.on hBz).wide hBz.size
    have hPz := hinz.at (c := v1.heap.size) fun b hb => hb.2
    have hq := eqItem_any d d x x _ _ v1 hPx hPz
    rw [same_self] at hq
    clear hinz hbz hD hAD
    refine ⟨_, rfl, hBz, ?_⟩
    go_simp
    refine hK _ _ ?_
    clear hK K
    refine ord_call rfl rfl (fun K hK => ⟨_, _, (by go_simp <;> first | exact rfl | exact ⟨rfl, rfl⟩), ?_⟩)
    refine (hq).mono ?_
    rintro e v2 ⟨rfl, hby⟩
    have hBy := below_then hBz hby
    clear hby hBz hPx hPz hq
    refine ⟨_, rfl, hBy, ?_⟩
    go_simp
    refine hK _ _ ?_
    clear hK K
    refine ord_op rfl rfl (fun K hK => ⟨_, _, (by go_simp <;> first | exact ⟨rfl, rfl⟩ | exact rfl), hBy, ?_⟩)
    go_simp
    refine hK _ _ ?_
    clear hK K
    refine ord_nil ?_
    have BE := below_then HK.out.2.2.1 (below_then B6 hBy)
    clear x6 z6 B6 hBy HP HI4
    go_wp2
    go_ret
    exact ⟨rfl, BE⟩
  · have hL : szG 1048576 (szD (d + 1) x) = -1 := by unfold szG; rw [if_neg hs]
    rw [hL] at HZ
    go_enter Try.func5, Try.ntmps5
    go_wp2_with fail
    refine HZ.out.mono ?_
    rintro e w1 ⟨rfl, hb1⟩
    have BE := below_then HK.out.2.2.1 hb1
    clear q0 q1 q2
    go_wp2
    go_ret
    exact ⟨rfl, BE⟩

set_option maxHeartbeats 6400000 in
set_option maxRecDepth 100000 in
theorem lawItemText (d : Nat) (x : It (d + 1)) (v : Value) (w : World) (hT : (itT x).size ≤ 9223372036854775807) (hK : KAt d w w.heap.size v (itK x)) :
    Calls Try.prog 6 #[itV (itL x) (itT x) v] w fun e w' => e = .returned (.bool true) ∧ Below w.heap.size w w' := by
  obtain ⟨a, c, rfl⟩ := hK.in.slice
  obtain ⟨W, hW, hb, hx⟩ := box1 w 45 #[.bool (itL x), .string (itT x), .slice a (itK x).length c]
  have q0 := hx.cell 0
  have q1 := hx.cell 1
  have q2 := hx.cell 2
  have HK : Hid (KAt d w w.heap.size (.slice a (itK x).length c) (itK x) ∧ (itT x).size ≤ 9223372036854775807 ∧ Below w.heap.size w W ∧ Blk W w.heap.size 45 #[.bool (itL x), .string (itT x), .slice a (itK x).length c]) := ⟨hK, hT, hb, hx⟩
  have HZ : Hid (Calls Try.prog 27 #[.agg #[.bool (itL x), .string (itT x), .slice a (itK x).length c], .int .i64 1048576] W fun f w' => f = .returned (.int .i64 (szG 1048576 (szD (d + 1) x))) ∧ Below W.heap.size W w') := szItem_any d x _ 1048576 W (Nat.le_refl _) hT ((hK.on hb).wide hb.size)
  unfold itV
  clear hK hT hb hx
  by_cases hs : szD (d + 1) x ≤ 1048576
  · have hL : ¬ szG 1048576 (szD (d + 1) x) < 0 := by unfold szG; rw [if_pos hs]; omega
    generalize szG 1048576 (szD (d + 1) x) = left at HZ hL
    have HS : Hid (szD (d + 1) x ≤ 1048576) := hs
    clear hs
    go_enter Try.func6, Try.ntmps6
    go_wp2_with fail
    refine HZ.out.mono ?_
    rintro e w1 ⟨rfl, hb1⟩
    have B1 : Below W.heap.size W w1 := hb1
    have x1 := HK.out.2.2.2.on B1 HK.out.2.2.2.lt
    have hA1 := (HK.out.1.on (below_then HK.out.2.2.1 B1)).wide (below_then HK.out.2.2.1 B1).size
    clear q0 q1 q2 hW HZ hb1
    have q0 := x1.cell 0
    have q1 := x1.cell 1
    have q2 := x1.cell 2
    go_wp2_with fail
    refine (toItem_any d x HS.out _ w1 hA1).mono ?_
    rintro e w2 ⟨u2, rfl, hin2, hb2⟩
    obtain ⟨a2, c2, rfl⟩ := hin2.slice
    have B2 : Below W.heap.size W w2 := below_then B1 hb2
    have HC2 : Hid (Calls Try.prog 13 #[.agg #[.bool (itL x), .string (itT x), .slice a2 (itK x).length c2]] w2 fun f w' => f = .returned (.tuple #[.string (textI x).1, .bool (textI x).2]) ∧ Below w2.heap.size w2 w') := sItemText_any d x _ w2 HK.out.2.1 (hin2.at fun b hb => hb.2)
    clear q0 q1 q2 x1 hA1 B1 hb2 hin2
    unfold itV
    go_wp2_with fail
    refine HC2.out.mono ?_
    rintro e w3 ⟨rfl, hb3⟩
    have B3 : Below W.heap.size W w3 := below_then B2 hb3
    have x3 := HK.out.2.2.2.on B3 HK.out.2.2.2.lt
    have hA3 := (HK.out.1.on (below_then HK.out.2.2.1 B3)).wide (below_then HK.out.2.2.1 B3).size
    have q0 := x3.cell 0
    have q1 := x3.cell 1
    have q2 := x3.cell 2
    clear B2 hb3 HC2
    go_wp2_with fail
    refine (toItem_any d x HS.out _ w3 hA3).mono ?_
    rintro e w4 ⟨u4, rfl, hin4, hb4⟩
    obtain ⟨a4, c4, rfl⟩ := hin4.slice
    have B4 : Below W.heap.size W w4 := below_then B3 hb4
    obtain ⟨V, hV, hbV, hxV⟩ := box1 w4 26 #[.bool (itL x), .string (itT x), .slice a4 (itK x).length c4]
    have BV : Below W.heap.size W V := below_then B4 hbV
    have HI4 : Hid (KAt d w4 w4.heap.size (.slice a4 (itK x).length c4) (itK x) ∧ Below w4.heap.size w4 V ∧ Blk V w4.heap.size 26 #[.bool (itL x), .string (itT x), .slice a4 (itK x).length c4]) := ⟨hin4.at fun b hb => hb.2, hbV, hxV⟩
    have HC5 : Hid (Calls Try.prog 11 #[.agg #[.bool (itL x), .string (itT x), .slice a4 (itK x).length c4]] V fun f w' => f = .returned (.tuple #[.string (textI x).1, .bool (textI x).2]) ∧ Below V.heap.size V w') := iItemText_any d x _ V HK.out.2.1 ((HI4.out.1.on hbV).wide hbV.size)
    clear q0 q1 q2 x3 hA3 B3 hb4 hin4 B4 hbV
    have q0 := hxV.cell 0
    have q1 := hxV.cell 1
    have q2 := hxV.cell 2
    unfold itV
    go_wp2_with fail
    refine HC5.out.mono ?_
    rintro e w6 ⟨rfl, hb6⟩
    have B6 : Below W.heap.size W w6 := below_then BV hb6
    have x6 := HK.out.2.2.2.on B6 HK.out.2.2.2.lt
    have z6 := HI4.out.2.2.on hb6 HI4.out.2.2.lt
    have HP : Hid (KAt d w6 w6.heap.size (.slice a4 (itK x).length c4) (itK x) ∧ KAt d w6 w6.heap.size (.slice a (itK x).length c) (itK x)) := ⟨(HI4.out.1.on (below_then HI4.out.2.1 hb6)).wide (below_then HI4.out.2.1 hb6).size, (HK.out.1.on (below_then HK.out.2.2.1 B6)).wide (below_then HK.out.2.2.1 B6).size⟩
    clear q0 q1 q2 hV hxV BV hb6 HC5
    generalize (textI x).1 = T
    generalize (textI x).2 = o
    have hTT : (T.toList == T.toList) = true := beq_self_eq_true _
    go_wp2_with fail
    have hD : Below w6.heap.size w6 w6.drew := (Below.refl _ _).drew
    have hAD := (HP.out.2.on hD).wide hD.size
    refine wp_region_ord [(0, false), (1, false), (2, true), (3, true), (4, true)] (fun wz => Below w6.heap.size w6 wz) mixes (by kernel_rfl) hD ?_
    repeat (refine ord_float rfl rfl (fun K hK => ⟨_, (fun w' hw => by have q0 := (z6.on hw z6.lt).cell 0; have q1 :=  (z6.on hw z6.lt).cell 1; have q2 :=  (z6.on hw z6.lt).cell 2; have q3 :=  (x6.on hw x6.lt).cell 0; have q4 :=  (x6.on hw x6.lt).cell 1; have q5 :=  (x6.on hw x6.lt).cell 2; go_simp; exact rfl), ?_⟩); go_simp; refine hK _ ?_; clear hK K)
    refine ord_call rfl rfl (fun K hK => ⟨_, _, (by go_simp <;> first | exact rfl | exact ⟨rfl, rfl⟩), ?_⟩)
    refine (toItem_any d x HS.out _ _ hAD).mono ?_
    rintro e v1 ⟨uz, rfl, hinz, hbz⟩
    have hBz := below_then hD hbz
    have hPx := (HP.out.1.on hBz).wide hBz.size
    have hPz := hinz.at (c := v1.heap.size) fun b hb => hb.2
    have hq := eqItem_any d d x x _ _ v1 hPx hPz
    rw [same_self] at hq
    clear hinz hbz hD hAD
    refine ⟨_, rfl, hBz, ?_⟩
    go_simp
    refine hK _ _ ?_
    clear hK K
    refine ord_call rfl rfl (fun K hK => ⟨_, _, (by go_simp <;> first | exact rfl | exact ⟨rfl, rfl⟩), ?_⟩)
    refine (hq).mono ?_
    rintro e v2 ⟨rfl, hby⟩
    have hBy := below_then hBz hby
    clear hby hBz hPx hPz hq
    refine ⟨_, rfl, hBy, ?_⟩
    go_simp
    refine hK _ _ ?_
    clear hK K
    refine ord_op rfl rfl (fun K hK => ⟨_, _, (by go_simp <;> first | exact ⟨rfl, rfl⟩ | exact rfl), hBy, ?_⟩)
    go_simp
    refine hK _ _ ?_
    clear hK K
    refine ord_nil ?_
    have BE := below_then HK.out.2.2.1 (below_then B6 hBy)
    clear x6 z6 B6 hBy HP HI4
    go_wp2
    go_ret
    exact ⟨rfl, BE⟩
  · have hL : szG 1048576 (szD (d + 1) x) = -1 := by unfold szG; rw [if_neg hs]
    rw [hL] at HZ
    go_enter Try.func6, Try.ntmps6
    go_wp2_with fail
    refine HZ.out.mono ?_
    rintro e w1 ⟨rfl, hb1⟩
    have BE := below_then HK.out.2.2.1 hb1
    clear q0 q1 q2
    go_wp2
    go_ret
    exact ⟨rfl, BE⟩

end Go.Proofs.Ytmpjnabadplbjaa
