/-
  The walk of the exact law on SameItem.
  (-DROP-: what the seat lacks is left out.)
-/
import Derived.Test.YtmpjnabadplbjaaItemToP
import Derived.Test.YtmpjnabadplbjaaItemS5
import Derived.Test.YtmpjnabadplbjaaItemEq
import Derived.Test.YtmpjnabadplbjaaItemMath
import Derived.Test.YtmpjnabadplbjaaSameI3
import Derived.Test.YtmpjnabadplbjaaOrd
namespace Go.Proofs.Ytmpjnabadplbjaa
open Go.RowKit

theorem cnt_sz : ∀ (d : Nat) (x : It d), cntD d x ≤ szD d x + 1
  | 0, x => x.elim
  | d + 1, x => by
    have h : ∀ k, k ≤ (itK x).length → (((itK x).take k).map (cntD d)).sum ≤ k + sumK (fun j => ((itK x)[j]?.map (szD d)).getD 0) k := by
      intro k
      induction k with
      | zero => intro _; simp [sumK]
      | succ k ih =>
        intro hk
        have h1 := ih (by omega)
        have h2 := sum_take (cntD d) (itK x) k (by omega)
        have h3 := cnt_sz d ((itK x)[k]'(by omega))
        have h4 : sumK (fun j => ((itK x)[j]?.map (szD d)).getD 0) (k + 1) = sumK (fun j => ((itK x)[j]?.map (szD d)).getD 0) k + szD d ((itK x)[k]'(by omega)) := by
          rw [sumK, List.getElem?_eq_getElem (by omega)]
          rfl
        rw [h2, h4]
        omega
    have h5 := h (itK x).length (Nat.le_refl _)
    rw [List.take_of_length_le (Nat.le_refl _)] at h5
    rw [cntD, szD]
    omega

set_option maxHeartbeats 6400000 in
set_option maxRecDepth 100000 in
theorem lawSameItem (d : Nat) (x : It (d + 1)) (v : Value) (e : Nat) (y : It (e + 1)) (u : Value) (w : World) (hT : (itT x).size ≤ 9223372036854775807) (hK : KAt d w w.heap.size v (itK x)) (hT2 : (itT y).size ≤ 9223372036854775807) (hL : KAt e w w.heap.size u (itK y)) :
    Calls Try.prog 8 #[itV (itL x) (itT x) v, itV (itL y) (itT y) u] w fun f w' => f = .returned (.bool true) ∧ Below w.heap.size w w' := by
  obtain ⟨a, c, rfl⟩ := hK.in.slice
  obtain ⟨a', c', rfl⟩ := hL.in.slice
  obtain ⟨W, hW, hb, hx, hy⟩ := boxes1r w 45 45 #[.bool (itL x), .string (itT x), .slice a (itK x).length c] #[.bool (itL y), .string (itT y), .slice a' (itK y).length c']
  have q0 := hx.cell 0
  have q1 := hx.cell 1
  have q2 := hx.cell 2
  have HK : Hid (KAt d w w.heap.size (.slice a (itK x).length c) (itK x) ∧ (itT x).size ≤ 9223372036854775807 ∧ Below w.heap.size w W ∧ Blk W w.heap.size 45 #[.bool (itL x), .string (itT x), .slice a (itK x).length c]) := ⟨hK, hT, hb, hx⟩
  have HL : Hid (KAt e w w.heap.size (.slice a' (itK y).length c') (itK y) ∧ (itT y).size ≤ 9223372036854775807 ∧ Blk W (w.heap.size + 1) 45 #[.bool (itL y), .string (itT y), .slice a' (itK y).length c']) := ⟨hL, hT2, hy⟩
  have HZ : Hid (Calls Try.prog 27 #[.agg #[.bool (itL x), .string (itT x), .slice a (itK x).length c], .int .i64 1048576] W fun f w' => f = .returned (.int .i64 (szG 1048576 (szD (d + 1) x))) ∧ Below W.heap.size W w') := szItem_any d x _ 1048576 W (Nat.le_refl _) hT ((hK.on hb).wide hb.size)
  unfold itV
  clear hK hT hb hx hL hT2 hy
  by_cases hs : szD (d + 1) x ≤ 1048576
  · obtain ⟨m, hm⟩ : ∃ m, 1048576 - szD (d + 1) x = m := ⟨_, rfl⟩
    have hL1 : szG 1048576 (szD (d + 1) x) = (m : Int) := by unfold szG; rw [if_pos hs]; omega
    rw [hL1] at HZ
    have hm0 : ¬ (m : Int) < 0 := by omega
    have HS : Hid (szD (d + 1) x ≤ 1048576 ∧ m ≤ 1048576) := ⟨hs, by omega⟩
    clear hs hm hL1
    by_cases hs2 : szD (e + 1) y ≤ m
    · have HS2 : Hid (szD (e + 1) y ≤ m) := hs2
      have HZ2 : Hid (∀ w', KAt e w' w'.heap.size (.slice a' (itK y).length c') (itK y) → Calls Try.prog 27 #[.agg #[.bool (itL y), .string (itT y), .slice a' (itK y).length c'], .int .i64 (m : Int)] w' fun f w'' => f = .returned (.int .i64 ((m : Int) - (szD (e + 1) y : Int))) ∧ Below w'.heap.size w' w'') := fun w' h => by
        have h1 := szItem_any e y _ m w' HS.out.2 HL.out.2.1 h
        unfold szG at h1
        rw [if_pos hs2] at h1
        exact h1
      have hl2 : ¬ (m : Int) - (szD (e + 1) y : Int) < 0 := by omega
      generalize (m : Int) - (szD (e + 1) y : Int) = left at HZ2 hl2
      clear hs2
      have hsx : szD (d + 1) x ≤ 1048576 := HS.out.1
      have hsy : szD (e + 1) y ≤ 1048576 := by have h1 := HS.out.2; have h2 := HS2.out; omega
      have HX : Hid (szD (d + 1) x ≤ 1048576 ∧ szD (e + 1) y ≤ 1048576 ∧ cntD (d + 1) x ≤ 2000000) := ⟨hsx, hsy, by have h1 := cnt_sz (d + 1) x; omega⟩
      clear hsx hsy HS HS2
      go_enter Try.func8, Try.ntmps8
      go_wp2_with fail
      refine HZ.out.mono ?_
      rintro f w1 ⟨rfl, hb1⟩
      have y1 := HL.out.2.2.on hb1 HL.out.2.2.lt
      have hA1 := (HL.out.1.on (below_then HK.out.2.2.1 hb1)).wide (below_then HK.out.2.2.1 hb1).size
      have B1 : Below W.heap.size W w1 := hb1
      clear q0 q1 q2 hW HZ hb1
      have q0 := y1.cell 0
      have q1 := y1.cell 1
      have q2 := y1.cell 2
      go_wp2_with fail
      refine (HZ2.out _ hA1).mono ?_
      rintro f w2 ⟨rfl, hb2⟩
      have B2 := below_then B1 hb2
      have x2 := HK.out.2.2.2.on B2 HK.out.2.2.2.lt
      have y2 := HL.out.2.2.on B2 HL.out.2.2.lt
      have HP : Hid (KAt d w2 w2.heap.size (.slice a (itK x).length c) (itK x) ∧ KAt e w2 w2.heap.size (.slice a' (itK y).length c') (itK y)) := ⟨(HK.out.1.on (below_then HK.out.2.2.1 B2)).wide (below_then HK.out.2.2.1 B2).size, (HL.out.1.on (below_then HK.out.2.2.1 B2)).wide (below_then HK.out.2.2.1 B2).size⟩
      clear q0 q1 q2 y1 hA1 hb2 B1 HZ2
      go_wp2_with fail
      have hD : Below w2.heap.size w2 w2.drew := (Below.refl _ _).drew
      have hAD := (HP.out.1.on hD).wide hD.size
      refine wp_region_ord [(0, false), (2, false), (1, true), (3, true), (4, true), (5, true)] (fun wz => Below w2.heap.size w2 wz) mixes (by kernel_rfl) hD ?_
      repeat (refine ord_float rfl rfl (fun K hK => ⟨_, (fun w' hw => by have q0 := (x2.on hw x2.lt).cell 0; have q1 :=  (x2.on hw x2.lt).cell 1; have q2 :=  (x2.on hw x2.lt).cell 2; have q3 :=  (y2.on hw y2.lt).cell 0; have q4 :=  (y2.on hw y2.lt).cell 1; have q5 :=  (y2.on hw y2.lt).cell 2; go_simp; exact rfl), ?_⟩); go_simp; refine hK _ ?_; clear hK K)
      refine ord_call rfl rfl (fun K hK => ⟨_, _, (by go_simp <;> first | exact rfl | exact ⟨rfl, rfl⟩), ?_⟩)
      refine (toItem_any d x HX.out.1 _ _ hAD).mono ?_
      rintro e v1 ⟨u1, rfl, hin1, hbz⟩
      have hBz := below_then hD hbz
      have hPy := (HP.out.2.on hBz).wide hBz.size
      have hPx := hin1.in.at (c := v1.heap.size) fun b hb => hb.2
      clear hin1 hbz hD hAD
      refine ⟨_, rfl, hBz, ?_⟩
      go_simp
      refine hK _ _ ?_
      clear hK K
      refine ord_call rfl rfl (fun K hK => ⟨_, _, (by go_simp <;> first | exact rfl | exact ⟨rfl, rfl⟩), ?_⟩)
      refine (toItem_any e y HX.out.2.1 _ _ hPy).mono ?_
      rintro e v2 ⟨u2, rfl, hin2, hby⟩
      have hBy := below_then hBz hby
      have hPx2 := (hPx.on hby).wide hby.size
      have hPy2 := hin2.in.at (c := v2.heap.size) fun b hb => hb.2
      have HSp := sSame_any d e x y _ _ v2 hPx2 hPy2
      clear hin2 hby hBz hPx hPy hPx2 hPy2
      refine ⟨_, rfl, hBy, ?_⟩
      go_simp
      refine hK _ _ ?_
      clear hK K
      refine ord_call rfl rfl (fun K hK => ⟨_, _, (by go_simp <;> first | exact rfl | exact ⟨rfl, rfl⟩), ?_⟩)
      refine (HSp).mono ?_
      rintro e w3 ⟨rfl, hb3⟩
      have hB3 := below_then hBy hb3
      clear hb3 hBy HSp
      refine ⟨_, rfl, hB3, ?_⟩
      go_simp
      refine hK _ _ ?_
      clear hK K
      refine ord_op rfl rfl (fun K hK => ⟨_, _, (by go_simp <;> first | exact ⟨rfl, rfl⟩ | exact rfl), hB3, ?_⟩)
      go_simp
      refine hK _ _ ?_
      clear hK K
      refine ord_nil ?_
      have B3 := below_then B2 hB3
      have HI : Hid (∀ (v u : Value) (w : World), KPt (fun b => b < w.heap.size) d w v (itK x) → KPt (fun b => b < w.heap.size) e w u (itK y) → Calls Try.prog 24 #[.agg #[.bool (itL x), .string (itT x), v], .agg #[.bool (itL y), .string (itT y), u]] w fun f w' => f = .returned (.bool (sameD (d + 1) (e + 1) x y)) ∧ Below w.heap.size w w') := fun v u w h1 h2 => iSame_any d e x y v u w HX.out.2.2 h1 h2
      generalize sameD (d + 1) (e + 1) x y = R at HI ⊢
      have x3 := HK.out.2.2.2.on B3 HK.out.2.2.2.lt
      have hA3 := (HK.out.1.on (below_then HK.out.2.2.1 B3)).wide (below_then HK.out.2.2.1 B3).size
      clear x2 y2 HP B2 hB3
      have q0 := x3.cell 0
      have q1 := x3.cell 1
      have q2 := x3.cell 2
      go_wp2_with fail
      refine (toItem_any d x HX.out.1 _ w3 hA3).mono ?_
      rintro f w4 ⟨u4, rfl, hin4, hb4⟩
      obtain ⟨a4, c4, rfl⟩ := hin4.slice
      obtain ⟨V4, hV4, hbV4, hx4⟩ := box1 w4 26 #[.bool (itL x), .string (itT x), .slice a4 (itK x).length c4]
      have b34 := below_then hb4 hbV4
      have B4 := below_then B3 b34
      have y4 := HL.out.2.2.on B4 HL.out.2.2.lt
      have hA4 := (HL.out.1.on (below_then HK.out.2.2.1 B4)).wide (below_then HK.out.2.2.1 B4).size
      have HI4 : Hid (KPt (fun b => b < V4.heap.size) d V4 (.slice a4 (itK x).length c4) (itK x)) := (hin4.kept (w' := V4) fun b hb => hbV4.block b hb.2).more fun b hb => by have h1 := hb.2; have h2 := hbV4.size; omega
      clear q0 q1 q2 x3 hA3 hin4 hb4 hbV4 b34 B3
      have q0 := y4.cell 0
      have q1 := y4.cell 1
      have q2 := y4.cell 2
      unfold itV
      go_wp2_with fail
      refine (toItem_any e y HX.out.2.1 _ V4 hA4).mono ?_
      rintro f w5 ⟨u5, rfl, hin5, hb5⟩
      obtain ⟨a5, c5, rfl⟩ := hin5.slice
      obtain ⟨V5, hV5, hbV5, hy5⟩ := box1 w5 26 #[.bool (itL y), .string (itT y), .slice a5 (itK y).length c5]
      have b45 := below_then hb5 hbV5
      have B5 := below_then B4 b45
      have x5 := hx4.on b45 hx4.lt
      have HI5 : Hid (KPt (fun b => b < V5.heap.size) d V5 (.slice a4 (itK x).length c4) (itK x) ∧ KPt (fun b => b < V5.heap.size) e V5 (.slice a5 (itK y).length c5) (itK y)) := ⟨(HI4.out.kept (w' := V5) fun b hb => b45.block b hb).more fun b hb => by have h1 := b45.size; omega, (hin5.kept (w' := V5) fun b hb => hbV5.block b hb.2).more fun b hb => by have h1 := hb.2; have h2 := hbV5.size; omega⟩
      clear q0 q1 q2 y4 hA4 hin5 hb5 hbV5 b45 B4 HI4 hx4 hV4
      have q0 := x5.cell 0
      have q1 := x5.cell 1
      have q2 := x5.cell 2
      have p0 := hy5.cell 0
      have p1 := hy5.cell 1
      have p2 := hy5.cell 2
      unfold itV
      go_wp2_with fail
      refine (HI.out _ _ V5 HI5.out.1 HI5.out.2).mono ?_
      rintro f w6 ⟨rfl, hb6⟩
      have B6 := below_then B5 hb6
      have z6 := x5.on hb6 x5.lt
      have t6 := hy5.on hb6 hy5.lt
      have x6 := HK.out.2.2.2.on B6 HK.out.2.2.2.lt
      have HQ : Hid (KAt d w6 w6.heap.size (.slice a4 (itK x).length c4) (itK x) ∧ KAt e w6 w6.heap.size (.slice a5 (itK y).length c5) (itK y) ∧ KAt d w6 w6.heap.size (.slice a (itK x).length c) (itK x)) := ⟨((HI5.out.1.in.at (c := V5.heap.size) fun b hb => hb).on hb6).wide hb6.size, ((HI5.out.2.in.at (c := V5.heap.size) fun b hb => hb).on hb6).wide hb6.size, (HK.out.1.on (below_then HK.out.2.2.1 B6)).wide (below_then HK.out.2.2.1 B6).size⟩
      clear q0 q1 q2 p0 p1 p2 x5 hy5 B5 hb6 HI5 hV5 HI
      go_wp2_with fail
      have hD : Below w6.heap.size w6 w6.drew := (Below.refl _ _).drew
      have hAD := (HQ.out.2.2.on hD).wide hD.size
      refine wp_region_ord [(0, false), (1, false), (2, true), (3, true), (4, true)] (fun wz => Below w6.heap.size w6 wz) mixes (by kernel_rfl) hD ?_
      repeat (refine ord_float rfl rfl (fun K hK => ⟨_, (fun w' hw => by have q0 := (z6.on hw z6.lt).cell 0; have q1 :=  (z6.on hw z6.lt).cell 1; have q2 :=  (z6.on hw z6.lt).cell 2; have q3 :=  (x6.on hw x6.lt).cell 0; have q4 :=  (x6.on hw x6.lt).cell 1; have q5 :=  (x6.on hw x6.lt).cell 2; go_simp; exact rfl), ?_⟩); go_simp; refine hK _ ?_; clear hK K)
      refine ord_call rfl rfl (fun K hK => ⟨_, _, (by go_simp <;> first | exact rfl | exact ⟨rfl, rfl⟩), ?_⟩)
      refine (toItem_any d x HX.out.1 _ _ hAD).mono ?_
      rintro e v1 ⟨uz, rfl, hinz, hbz⟩
      have hBz := below_then hD hbz
      have hPx := (HQ.out.1.on hBz).wide hBz.size
      have hPz := hinz.in.at (c := v1.heap.size) fun b hb => hb.2
      have hq := eqItem_any d d x x _ _ v1 hPx hPz
      rw [same_self] at hq
      clear hinz hbz hD hAD
      refine ⟨_, rfl, hBz, ?_⟩
      go_simp
      refine hK _ _ ?_
      clear hK K
      refine ord_call rfl rfl (fun K hK => ⟨_, _, (by go_simp <;> first | exact rfl | exact ⟨rfl, rfl⟩), ?_⟩)
      refine (hq).mono ?_
      rintro e w7 ⟨rfl, hby⟩
      have hBy := below_then hBz hby
      clear hby hBz hPx hPz hq
      refine ⟨_, rfl, hBy, ?_⟩
      go_simp
      refine hK _ _ ?_
      clear hK K
      refine ord_op rfl rfl (fun K hK => ⟨_, _, (by go_simp <;> first | exact ⟨rfl, rfl⟩ | exact rfl), hBy, ?_⟩)
      go_simp
      refine hK _ _ ?_
      clear hK K
      refine ord_nil ?_
      have B7 := below_then B6 hBy
      have t7 := t6.on hBy t6.lt
      have y7 := HL.out.2.2.on B7 HL.out.2.2.lt
      have HQ7 : Hid (KAt e w7 w7.heap.size (.slice a5 (itK y).length c5) (itK y) ∧ KAt e w7 w7.heap.size (.slice a' (itK y).length c') (itK y)) := ⟨(HQ.out.2.1.on hBy).wide hBy.size, (HL.out.1.on (below_then HK.out.2.2.1 B7)).wide (below_then HK.out.2.2.1 B7).size⟩
      clear z6 t6 x6 B6 hBy HQ
      go_wp2_with fail
      have hD : Below w7.heap.size w7 w7.drew := (Below.refl _ _).drew
      have hAD := (HQ7.out.2.on hD).wide hD.size
      refine wp_region_ord [(0, false), (1, false), (2, true), (3, true), (4, true)] (fun wz => Below w7.heap.size w7 wz) mixes (by kernel_rfl) hD ?_
      repeat (refine ord_float rfl rfl (fun K hK => ⟨_, (fun w' hw => by have q0 := (t7.on hw t7.lt).cell 0; have q1 :=  (t7.on hw t7.lt).cell 1; have q2 :=  (t7.on hw t7.lt).cell 2; have q3 :=  (y7.on hw y7.lt).cell 0; have q4 :=  (y7.on hw y7.lt).cell 1; have q5 :=  (y7.on hw y7.lt).cell 2; go_simp; exact rfl), ?_⟩); go_simp; refine hK _ ?_; clear hK K)
      refine ord_call rfl rfl (fun K hK => ⟨_, _, (by go_simp <;> first | exact rfl | exact ⟨rfl, rfl⟩), ?_⟩)
      refine (toItem_any e y HX.out.2.1 _ _ hAD).mono ?_
      rintro e v1 ⟨uz, rfl, hinz, hbz⟩
      have hBz := below_then hD hbz
      have hPx := (HQ7.out.1.on hBz).wide hBz.size
      have hPz := hinz.in.at (c := v1.heap.size) fun b hb => hb.2
      have hq := eqItem_any e e y y _ _ v1 hPx hPz
      rw [same_self] at hq
      clear hinz hbz hD hAD
      refine ⟨_, rfl, hBz, ?_⟩
      go_simp
      refine hK _ _ ?_
      clear hK K
      refine ord_call rfl rfl (fun K hK => ⟨_, _, (by go_simp <;> first | exact rfl | exact ⟨rfl, rfl⟩), ?_⟩)
      refine (hq).mono ?_
      rintro e w8 ⟨rfl, hby⟩
      have hBy := below_then hBz hby
      clear hby hBz hPx hPz hq
      refine ⟨_, rfl, hBy, ?_⟩
      go_simp
      refine hK _ _ ?_
      clear hK K
      refine ord_op rfl rfl (fun K hK => ⟨_, _, (by go_simp <;> first | exact ⟨rfl, rfl⟩ | exact rfl), hBy, ?_⟩)
      go_simp
      refine hK _ _ ?_
      clear hK K
      refine ord_nil ?_
      have BE := below_then HK.out.2.2.1 (below_then B7 hBy)
      clear t7 y7 B7 hBy HQ7
      go_wp2
      go_ret
      exact ⟨rfl, BE⟩
    · have HZ2 : Hid (∀ w', KAt e w' w'.heap.size (.slice a' (itK y).length c') (itK y) → Calls Try.prog 27 #[.agg #[.bool (itL y), .string (itT y), .slice a' (itK y).length c'], .int .i64 (m : Int)] w' fun f w'' => f = .returned (.int .i64 (-1)) ∧ Below w'.heap.size w' w'') := fun w' h => by
        have h1 := szItem_any e y _ m w' HS.out.2 HL.out.2.1 h
        unfold szG at h1
        rw [if_neg hs2] at h1
        exact h1
      clear hs2
      go_enter Try.func8, Try.ntmps8
      go_wp2_with fail
      refine HZ.out.mono ?_
      rintro f w1 ⟨rfl, hb1⟩
      have y1 := HL.out.2.2.on hb1 HL.out.2.2.lt
      have hA1 := (HL.out.1.on (below_then HK.out.2.2.1 hb1)).wide (below_then HK.out.2.2.1 hb1).size
      clear q0 q1 q2 hW HZ
      have q0 := y1.cell 0
      have q1 := y1.cell 1
      have q2 := y1.cell 2
      go_wp2_with fail
      refine (HZ2.out _ hA1).mono ?_
      rintro f w2 ⟨rfl, hb2⟩
      have BE := below_then HK.out.2.2.1 (below_then hb1 hb2)
      clear q0 q1 q2 y1 hA1 hb1 hb2
      go_wp2
      go_ret
      exact ⟨rfl, BE⟩
  · have hL1 : szG 1048576 (szD (d + 1) x) = -1 := by unfold szG; rw [if_neg hs]
    rw [hL1] at HZ
    go_enter Try.func8, Try.ntmps8
    go_wp2_with fail
    refine HZ.out.mono ?_
    rintro f w1 ⟨rfl, hb1⟩
    have BE := below_then HK.out.2.2.1 hb1
    clear q0 q1 q2
    go_wp2
    go_ret
    exact ⟨rfl, BE⟩

end Go.Proofs.Ytmpjnabadplbjaa
