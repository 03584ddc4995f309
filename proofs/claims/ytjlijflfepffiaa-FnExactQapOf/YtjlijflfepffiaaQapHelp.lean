/-
  The walks of the helpers of the exact laws on three lists of lists: the same, marks, whether they are held.
  (-DROP-: what the seat lacks is left out.)
-/
import Derived.Test.YtjlijflfepffiaaLsHelp
import Derived.Test.YtjlijflfepffiaaJoined5
import Derived.Test.YtjlijflfepffiaaJoined2

namespace Go.Proofs.Ytjlijflfepffiaa
open Go.RowKit

set_option maxHeartbeats 1600000 in
set_option maxRecDepth 100000 in
theorem markQap_any (e : Nat) (U V X : Value) (n : Nat) (us vs xs : List Value) (LU LV LX : List (List Int)) (k lo hi : Nat) (hkb : k + tot LU + tot LV + tot LX ≤ 1099511627776) (zu : ∀ j, (LU.getD j []).length ≤ 1048576) (zv : ∀ j, (LV.getD j []).length ≤ 1048576) (zx : ∀ j, (LX.getD j []).length ≤ 1048576) (hn : n ≤ 1048576) (w : World) (h : Tri e lo hi w U n us LU V n vs LV X n xs LX) (hw : hi ≤ w.heap.size) :
    Calls Try.prog 34 #[.agg #[U, V, X], .int .i64 (k : Int)] w fun e' w' => e' = .returned (.int .i64 ((k + tot LU + tot LV + tot LX : Nat) : Int)) ∧ Tri e lo hi w' U n us (mkzz k LU) V n vs (mkzz (k + tot LU) LV) X n xs (mkzz (k + tot LU + tot LV) LX) ∧ Kps (fun b => lo ≤ b ∧ b < hi) w w' := by
  obtain ⟨W, hW, hb, hs⟩ := box1 w 41 #[U, V, X]
  have hT := h.same (w' := W) (Same.of_below hb hw)
  have hwW : hi ≤ W.heap.size := Nat.le_trans hw hb.size
  have M0 := markLs_any e U n us LU k lo hi (by omega) zu hn W hT.u
  have HK0 : Hid (Kps (fun b => lo ≤ b ∧ b < hi) w W) := Kps.of_below hb
  have HS : Hid (Blk W w.heap.size 41 #[U, V, X]) := hs
  obtain ⟨ua, uc, hu⟩ := row_form h.u.row
  subst hu
  obtain ⟨va, vc, hv⟩ := row_form h.v.row
  subst hv
  obtain ⟨xa, xc, hx⟩ := row_form h.x.row
  subst hx
  have HT : Hid (Tri e lo hi W (.slice ua n uc) n us LU (.slice va n vc) n vs LV (.slice xa n xc) n xs LX) := hT
  have q0 := hs.cell 0
  replace q0 : W.cell? ⟨w.heap.size, 0, none⟩ = some (.slice ua n uc) := q0
  have H0 : Hid (Calls Try.prog 41 #[.slice ua n uc, .int .i64 (k : Int)] W fun e' w' => e' = .returned (.int .i64 ((k + tot LU : Nat) : Int)) ∧ NOwnV 1 e lo hi w' (.slice ua n uc) n us (mkzz k LU) ∧ Kps (fun b => ∃ i, i < n ∧ (us.getD i undef).ownBlock = some b) W w') := M0
  have H1 : Hid (∀ w1, NOwnV 1 e lo hi w1 (.slice va n vc) n vs LV → Calls Try.prog 41 #[.slice va n vc, .int .i64 ((k + tot LU : Nat) : Int)] w1 fun e' w' => e' = .returned (.int .i64 ((k + tot LU + tot LV : Nat) : Int)) ∧ NOwnV 1 e lo hi w' (.slice va n vc) n vs (mkzz (k + tot LU) LV) ∧ Kps (fun b => ∃ i, i < n ∧ (vs.getD i undef).ownBlock = some b) w1 w') := fun w1 h1 => markLs_any e _ n vs LV (k + tot LU) lo hi (by omega) zv hn w1 h1
  have H2 : Hid (∀ w1, NOwnV 1 e lo hi w1 (.slice xa n xc) n xs LX → Calls Try.prog 41 #[.slice xa n xc, .int .i64 ((k + tot LU + tot LV : Nat) : Int)] w1 fun e' w' => e' = .returned (.int .i64 ((k + tot LU + tot LV + tot LX : Nat) : Int)) ∧ NOwnV 1 e lo hi w' (.slice xa n xc) n xs (mkzz (k + tot LU + tot LV) LX) ∧ Kps (fun b => ∃ i, i < n ∧ (xs.getD i undef).ownBlock = some b) w1 w') := fun w1 h1 => markLs_any e _ n xs LX (k + tot LU + tot LV) lo hi (by omega) zx hn w1 h1
  clear M0 hT h hb hs
  generalize hk1 : k + tot LU = k1 at *
  generalize hk2 : k1 + tot LV = k2 at *
  generalize hk3 : k2 + tot LX = k3 at *
  clear hk1 hk2 hk3 hkb
  go_enter Try.func34, Try.ntmps34
  go_wp2_with fail
  clear hW q0
  refine H0.out.mono ?_
  rintro e1 w1 ⟨rfl, hU1, hK1⟩
  have hV1 := HT.out.v.kept1 hK1 fun b hb ⟨i, hi', hb2⟩ => HT.out.uv b (.inr ⟨i, hi', hb2⟩) hb
  have hX1 := HT.out.x.kept1 hK1 fun b hb ⟨i, hi', hb2⟩ => HT.out.ux b (.inr ⟨i, hi', hb2⟩) hb
  have hS1 : Blk w1 w.heap.size 41 #[.slice ua n uc, .slice va n vc, .slice xa n xc] := hK1.blk HS.out fun ⟨i, hi', hb2⟩ => by have := HT.out.u.range (.inr ⟨i, hi', hb2⟩); omega
  have HK1 : Hid (Kps (fun b => lo ≤ b ∧ b < hi) w w1) := HK0.out.trans (hK1.more fun b ⟨i, hi', hb2⟩ => HT.out.u.range (.inr ⟨i, hi', hb2⟩))
  have HT1 : Hid (Tri e lo hi w1 (.slice ua n uc) n us (mkzz k LU) (.slice va n vc) n vs LV (.slice xa n xc) n xs LX) := ⟨hU1, hV1, hX1, HT.out.uv, HT.out.ux, HT.out.vx⟩
  have q1 := hS1.cell 1
  replace q1 : w1.cell? ⟨w.heap.size, 1, none⟩ = some (.slice va n vc) := q1
  have HS1 : Hid (Blk w1 w.heap.size 41 #[.slice ua n uc, .slice va n vc, .slice xa n xc]) := hS1
  clear hU1 hV1 hX1 hK1 hS1 HT HS HK0 H0
  go_wp2_with fail
  clear q1
  refine (H1.out _ HT1.out.v).mono ?_
  rintro e2 w2 ⟨rfl, hV2, hK2⟩
  have hU2 := HT1.out.u.kept1 hK2 fun b hb ⟨i, hi', hb2⟩ => HT1.out.uv b hb (.inr ⟨i, hi', hb2⟩)
  have hX2 := HT1.out.x.kept1 hK2 fun b hb ⟨i, hi', hb2⟩ => HT1.out.vx b (.inr ⟨i, hi', hb2⟩) hb
  have hS2 : Blk w2 w.heap.size 41 #[.slice ua n uc, .slice va n vc, .slice xa n xc] := hK2.blk HS1.out fun ⟨i, hi', hb2⟩ => by have := HT1.out.v.range (.inr ⟨i, hi', hb2⟩); omega
  have HK2 : Hid (Kps (fun b => lo ≤ b ∧ b < hi) w w2) := HK1.out.trans (hK2.more fun b ⟨i, hi', hb2⟩ => HT1.out.v.range (.inr ⟨i, hi', hb2⟩))
  have HT2 : Hid (Tri e lo hi w2 (.slice ua n uc) n us (mkzz k LU) (.slice va n vc) n vs (mkzz k1 LV) (.slice xa n xc) n xs LX) := ⟨hU2, hV2, hX2, HT1.out.uv, HT1.out.ux, HT1.out.vx⟩
  have q2 := hS2.cell 2
  replace q2 : w2.cell? ⟨w.heap.size, 2, none⟩ = some (.slice xa n xc) := q2
  clear hU2 hV2 hX2 hK2 hS2 HT1 HS1 HK1 H1
  go_wp2_with fail
  clear q2
  refine (H2.out _ HT2.out.x).mono ?_
  rintro e3 w3 ⟨rfl, hX3, hK3⟩
  have hU3 := HT2.out.u.kept1 hK3 fun b hb ⟨i, hi', hb2⟩ => HT2.out.ux b hb (.inr ⟨i, hi', hb2⟩)
  have hV3 := HT2.out.v.kept1 hK3 fun b hb ⟨i, hi', hb2⟩ => HT2.out.vx b hb (.inr ⟨i, hi', hb2⟩)
  have HK3 : Hid (Kps (fun b => lo ≤ b ∧ b < hi) w w3) := HK2.out.trans (hK3.more fun b ⟨i, hi', hb2⟩ => HT2.out.x.range (.inr ⟨i, hi', hb2⟩))
  have HT3 : Hid (Tri e lo hi w3 (.slice ua n uc) n us (mkzz k LU) (.slice va n vc) n vs (mkzz k1 LV) (.slice xa n xc) n xs (mkzz k2 LX)) := ⟨hU3, hV3, hX3, HT2.out.uv, HT2.out.ux, HT2.out.vx⟩
  clear hU3 hV3 hX3 hK3 HT2 HK2 H2
  go_wp2
  go_ret
  exact ⟨rfl, HT3.out, HK3.out⟩

set_option maxHeartbeats 1600000 in
set_option maxRecDepth 100000 in
theorem heldQap_any (e : Nat) (U V X : Value) (n : Nat) (us vs xs : List Value) (LU LV LX : List (List Int)) (k lo hi : Nat) (lu : LU.length = n) (lv : LV.length = n) (lx : LX.length = n) (hkb : k + tot LU + tot LV + tot LX ≤ 1099511627776) (zu : ∀ j, (LU.getD j []).length ≤ 1048576) (zv : ∀ j, (LV.getD j []).length ≤ 1048576) (zx : ∀ j, (LX.getD j []).length ≤ 1048576) (hn : n ≤ 1048576) (w : World) (h : Tri e lo hi w U n us (mkzz k LU) V n vs (mkzz (k + tot LU) LV) X n xs (mkzz (k + tot LU + tot LV) LX)) (hw : hi ≤ w.heap.size) :
    Calls Try.prog 35 #[.agg #[U, V, X], .int .i64 (k : Int)] w fun e' w' => e' = .returned (.int .i64 ((k + tot LU + tot LV + tot LX : Nat) : Int)) ∧ Below w.heap.size w w' := by
  obtain ⟨W, hW, hb, hs⟩ := box1 w 41 #[U, V, X]
  have hT := h.same (w' := W) (Same.of_below hb hw)
  have H0 := heldLs_any e U n us LU k lo hi lu (by omega) zu hn W hT.u
  have H1 := heldLs_any e V n vs LV (k + tot LU) lo hi lv (by omega) zv hn W hT.v
  have H2 := heldLs_any e X n xs LX (k + tot LU + tot LV) lo hi lx (by omega) zx hn W hT.x
  have HB : Hid (Below w.heap.size w W) := hb
  obtain ⟨ua, uc, hu⟩ := row_form h.u.row
  subst hu
  obtain ⟨va, vc, hv⟩ := row_form h.v.row
  subst hv
  obtain ⟨xa, xc, hx⟩ := row_form h.x.row
  subst hx
  have q0 := hs.cell 0
  replace q0 : W.cell? ⟨w.heap.size, 0, none⟩ = some (.slice ua n uc) := q0
  have q1 := hs.cell 1
  replace q1 : W.cell? ⟨w.heap.size, 1, none⟩ = some (.slice va n vc) := q1
  have q2 := hs.cell 2
  replace q2 : W.cell? ⟨w.heap.size, 2, none⟩ = some (.slice xa n xc) := q2
  have G0 : Hid (Calls Try.prog 74 #[.slice ua n uc, .int .i64 (k : Int)] W fun e' w' => e' = .returned (.int .i64 ((k + tot LU : Nat) : Int)) ∧ W = w') := H0
  have G1 : Hid (Calls Try.prog 74 #[.slice va n vc, .int .i64 ((k + tot LU : Nat) : Int)] W fun e' w' => e' = .returned (.int .i64 ((k + tot LU + tot LV : Nat) : Int)) ∧ W = w') := H1
  have G2 : Hid (Calls Try.prog 74 #[.slice xa n xc, .int .i64 ((k + tot LU + tot LV : Nat) : Int)] W fun e' w' => e' = .returned (.int .i64 ((k + tot LU + tot LV + tot LX : Nat) : Int)) ∧ W = w') := H2
  clear H0 H1 H2 hT h hb hs
  generalize k + tot LU = k1 at *
  generalize k1 + tot LV = k2 at *
  generalize k2 + tot LX = k3 at *
  have p1 : ¬ (k1 : Int) < 0 := by omega
  have p2 : ¬ (k2 : Int) < 0 := by omega
  have p3 : ¬ (k3 : Int) < 0 := by omega
  go_enter Try.func35, Try.ntmps35
  go_wp2_with fail
  clear hW
  refine G0.out.mono ?_
  rintro e1 w1 ⟨rfl, rfl⟩
  go_wp2_with fail
  refine G1.out.mono ?_
  rintro e1 w1 ⟨rfl, rfl⟩
  go_wp2_with fail
  refine G2.out.mono ?_
  rintro e1 w1 ⟨rfl, rfl⟩
  go_wp2
  go_ret
  exact ⟨rfl, HB.out⟩

theorem two_boxes (w : World) (t1 t2 : TypeId) (c1 c2 : Array Value) : ∃ W, (w.alloc (.cells c1 t1)).alloc (.cells c2 t2) = W ∧ Below w.heap.size w W ∧ Blk W w.heap.size t1 c1 ∧ Blk W (w.heap.size + 1) t2 c2 :=
  ⟨_, rfl, ((Below.refl _ _).alloc (Nat.le_refl _) _).alloc (by simp) _, (Blk.new w t1 c1).alloc _, Blk.newAt (by simp)⟩

set_option maxHeartbeats 1600000 in
set_option maxRecDepth 100000 in
theorem eqQap_any (U V X U' V' X' : Value) (n : Nat) (LU LV LX : List (List Int)) (zu : ∀ j, (LU.getD j []).length ≤ 1048576) (zv : ∀ j, (LV.getD j []).length ≤ 1048576) (zx : ∀ j, (LX.getD j []).length ≤ 1048576) (hn : n ≤ 1048576) (w : World) (hu : NAt 1 w w.heap.size U n LU) (hv : NAt 1 w w.heap.size V n LV) (hx : NAt 1 w w.heap.size X n LX) (hu' : NAt 1 w w.heap.size U' n LU) (hv' : NAt 1 w w.heap.size V' n LV) (hx' : NAt 1 w w.heap.size X' n LX) :
    Calls Try.prog 31 #[.agg #[U, V, X], .agg #[U', V', X']] w fun e w' => e = .returned (.bool true) ∧ Below w.heap.size w w' := by
  obtain ⟨W, hW, hb, hs, hs'⟩ := two_boxes w 41 41 #[U, V, X] #[U', V', X']
  have HB : Hid (Below w.heap.size w W) := hb
  have C0 : Hid (∀ Z, Below w.heap.size w Z → Calls Try.prog 40 #[U, U'] Z fun e w' => e = .returned (.bool true) ∧ Below Z.heap.size Z w') := fun Z hZ => eqLs_any U U' n LU hn zu Z ((hu.on hZ).wide hZ.size) ((hu'.on hZ).wide hZ.size)
  have C1 : Hid (∀ Z, Below w.heap.size w Z → Calls Try.prog 40 #[V, V'] Z fun e w' => e = .returned (.bool true) ∧ Below Z.heap.size Z w') := fun Z hZ => eqLs_any V V' n LV hn zv Z ((hv.on hZ).wide hZ.size) ((hv'.on hZ).wide hZ.size)
  have C2 : Hid (∀ Z, Below w.heap.size w Z → Calls Try.prog 40 #[X, X'] Z fun e w' => e = .returned (.bool true) ∧ Below Z.heap.size Z w') := fun Z hZ => eqLs_any X X' n LX hn zx Z ((hx.on hZ).wide hZ.size) ((hx'.on hZ).wide hZ.size)
  obtain ⟨_, ua, uc, rfl, _⟩ := hu
  obtain ⟨_, va, vc, rfl, _⟩ := hv
  obtain ⟨_, xa, xc, rfl, _⟩ := hx
  obtain ⟨_, ua', uc', rfl, _⟩ := hu'
  obtain ⟨_, va', vc', rfl, _⟩ := hv'
  obtain ⟨_, xa', xc', rfl, _⟩ := hx'
  have HC : Hid (∀ Z, Below W.heap.size W Z → (Z.cell? ⟨w.heap.size, 1, none⟩ = some (.slice va n vc) ∧ Z.cell? ⟨w.heap.size + 1, 1, none⟩ = some (.slice va' n vc')) ∧ Z.cell? ⟨w.heap.size, 2, none⟩ = some (.slice xa n xc) ∧ Z.cell? ⟨w.heap.size + 1, 2, none⟩ = some (.slice xa' n xc')) := fun Z hZ => ⟨⟨(hs.on hZ hs.lt).cell 1, (hs'.on hZ hs'.lt).cell 1⟩, (hs.on hZ hs.lt).cell 2, (hs'.on hZ hs'.lt).cell 2⟩
  have q0 := hs.cell 0
  replace q0 : W.cell? ⟨w.heap.size, 0, none⟩ = some (.slice ua n uc) := q0
  have q1 := hs'.cell 0
  replace q1 : W.cell? ⟨w.heap.size + 1, 0, none⟩ = some (.slice ua' n uc') := q1
  clear hb hs hs'
  go_enter Try.func31, Try.ntmps31
  go_wp2_with fail
  clear hW q0 q1
  refine (C0.out _ HB.out).mono ?_
  rintro e w1 ⟨rfl, hb1⟩
  have HB1 : Hid (Below W.heap.size W w1) := hb1
  have p0 := (HC.out _ hb1).1.1
  have p1 := (HC.out _ hb1).1.2
  clear hb1
  go_wp2_with fail
  clear p0 p1
  refine (C1.out _ (HB.out.trans (HB1.out.mono HB.out.size))).mono ?_
  rintro e w2 ⟨rfl, hb2⟩
  have HB2 : Hid (Below W.heap.size W w2) := HB1.out.trans (hb2.mono HB1.out.size)
  have p0 := (HC.out _ HB2.out).2.1
  have p1 := (HC.out _ HB2.out).2.2
  clear hb2
  go_wp2_with fail
  clear p0 p1
  refine (C2.out _ (HB.out.trans (HB2.out.mono HB.out.size))).mono ?_
  rintro e w3 ⟨rfl, hb3⟩
  have HB3 : Hid (Below w.heap.size w w3) := HB.out.trans ((HB2.out.trans (hb3.mono HB2.out.size)).mono HB.out.size)
  clear hb3
  go_wp2
  go_ret
  exact ⟨rfl, HB3.out⟩

end Go.Proofs.Ytjlijflfepffiaa
