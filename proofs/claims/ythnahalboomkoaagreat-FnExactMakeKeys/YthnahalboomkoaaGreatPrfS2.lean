/-
  The walk of what the specification says a wire is at Tau.
  (-DROP-: what the seat lacks is left out.)
-/
import Derived.Test.YthnahalboomkoaaGreatPrfS1
import Derived.Test.YthnahalboomkoaaGreatJoined11
import Derived.Test.YthnahalboomkoaaGreatJoined10
import Derived.Test.YthnahalboomkoaaGreatJoined9
import Derived.Test.YthnahalboomkoaaGreatJoined12

namespace Go.Proofs.YthnahalboomkoaaGreat
open Go.RowKit

set_option maxHeartbeats 3200000 in
set_option maxRecDepth 100000 in
theorem sWire_any (a0 : Option Addr) (c0 : Nat) (a1 : Option Addr) (c1 : Nat) (a2 : Option Addr) (c2 nq : Nat) (LU LV LX : List (List Int)) (zu : ∀ j, (LU.getD j []).length ≤ 1048576) (zv : ∀ j, (LV.getD j []).length ≤ 1048576) (zx : ∀ j, (LX.getD j []).length ≤ 1048576) (ta al be ga de : Int) (j : Nat) (hj : j < nq) (w : World)
    (hU : NAt 1 w w.heap.size (.slice a0 nq c0) nq LU) (hV : NAt 1 w w.heap.size (.slice a1 nq c1) nq LV) (hX : NAt 1 w w.heap.size (.slice a2 nq c2) nq LX) :
    Calls Tryz.prog 80 #[.agg #[.slice a0 nq c0, .slice a1 nq c1, .slice a2 nq c2], .agg #[.int .i64 ta, .int .i64 al, .int .i64 be, .int .i64 ga, .int .i64 de], .int .i64 (j : Int)] w fun e w' => e = .returned (.tuple #[.int .i64 (pAt (LU.getD j []) ta), .int .i64 (pAt (LV.getD j []) ta), .int .i64 (wireA al be (pAt (LU.getD j []) ta) (pAt (LV.getD j []) ta) (pAt (LX.getD j []) ta))]) ∧ Below w.heap.size w w' := by
  obtain ⟨W, hW, hb, hs, hr⟩ := boxes1r w 122 31 #[.slice a0 nq c0, .slice a1 nq c1, .slice a2 nq c2] #[.int .i64 ta, .int .i64 al, .int .i64 be, .int .i64 ga, .int .i64 de]
  have hj0 : (0 : Int) ≤ (j : Int) := by omega
  have hjn : (j : Int) < (nq : Int) := by omega
  have HB : Hid (Below w.heap.size w W) := hb
  obtain ⟨_, _, _, e0, F0⟩ := hU
  obtain ⟨b0, o0, v0, k0, l0, d0, y0⟩ := F0 j (by omega)
  have ea0 : a0 = some ⟨b0, o0, none⟩ := by injection e0 with e1; rw [e1, k0]
  subst ea0
  have C0 : Hid (∀ X, Below W.heap.size W X → Calls Tryz.prog 83 #[v0, .int .i64 ta] X fun e w' => e = .returned (.int .i64 (pAt (LU.getD j []) ta)) ∧ Below X.heap.size X w') := fun X hX => by
    have hbX := hb.trans (hX.mono hb.size)
    exact sAt_any v0 _ ta (zu j) X ((y0.on hbX).wide hbX.size)
  have D0 : Hid (∀ X, Below W.heap.size W X → X.cell? ⟨b0, o0 + j, none⟩ = some v0) := fun X hX => ((hb.trans (hX.mono hb.size)).cell (p := ⟨b0, o0 + j, none⟩) l0).trans d0
  obtain ⟨ya0, yc0, hy0, _⟩ := id y0
  subst hy0
  clear e0 F0 k0 l0 d0 y0
  obtain ⟨_, _, _, e1, F1⟩ := hV
  obtain ⟨b1, o1, v1, k1, l1, d1, y1⟩ := F1 j (by omega)
  have ea1 : a1 = some ⟨b1, o1, none⟩ := by injection e1 with e1; rw [e1, k1]
  subst ea1
  have C1 : Hid (∀ X, Below W.heap.size W X → Calls Tryz.prog 83 #[v1, .int .i64 ta] X fun e w' => e = .returned (.int .i64 (pAt (LV.getD j []) ta)) ∧ Below X.heap.size X w') := fun X hX => by
    have hbX := hb.trans (hX.mono hb.size)
    exact sAt_any v1 _ ta (zv j) X ((y1.on hbX).wide hbX.size)
  have D1 : Hid (∀ X, Below W.heap.size W X → X.cell? ⟨b1, o1 + j, none⟩ = some v1) := fun X hX => ((hb.trans (hX.mono hb.size)).cell (p := ⟨b1, o1 + j, none⟩) l1).trans d1
  obtain ⟨ya1, yc1, hy1, _⟩ := id y1
  subst hy1
  clear e1 F1 k1 l1 d1 y1
  obtain ⟨_, _, _, e2, F2⟩ := hX
  obtain ⟨b2, o2, v2, k2, l2, d2, y2⟩ := F2 j (by omega)
  have ea2 : a2 = some ⟨b2, o2, none⟩ := by injection e2 with e1; rw [e1, k2]
  subst ea2
  have C2 : Hid (∀ X, Below W.heap.size W X → Calls Tryz.prog 83 #[v2, .int .i64 ta] X fun e w' => e = .returned (.int .i64 (pAt (LX.getD j []) ta)) ∧ Below X.heap.size X w') := fun X hX => by
    have hbX := hb.trans (hX.mono hb.size)
    exact sAt_any v2 _ ta (zx j) X ((y2.on hbX).wide hbX.size)
  have D2 : Hid (∀ X, Below W.heap.size W X → X.cell? ⟨b2, o2 + j, none⟩ = some v2) := fun X hX => ((hb.trans (hX.mono hb.size)).cell (p := ⟨b2, o2 + j, none⟩) l2).trans d2
  obtain ⟨ya2, yc2, hy2, _⟩ := id y2
  subst hy2
  clear e2 F2 k2 l2 d2 y2
  generalize (LU.getD j []).length = n0 at *
  generalize pAt (LU.getD j []) ta = p0 at *
  generalize (LV.getD j []).length = n1 at *
  generalize pAt (LV.getD j []) ta = p1 at *
  generalize (LX.getD j []).length = n2 at *
  generalize pAt (LX.getD j []) ta = p2 at *
  have M0 : Hid (∀ X, Calls Tryz.prog 81 #[.int .i64 be, .int .i64 p0] X fun e w' => e = .returned (.int .i64 (scMul be p0)) ∧ X = w') := sScMul_any _ _
  have M1 : Hid (∀ X, Calls Tryz.prog 81 #[.int .i64 al, .int .i64 p1] X fun e w' => e = .returned (.int .i64 (scMul al p1)) ∧ X = w') := sScMul_any _ _
  have M2 : Hid (∀ X, Calls Tryz.prog 18 #[.int .i64 (scMul be p0), .int .i64 (scMul al p1)] X fun e w' => e = .returned (.int .i64 (scAdd (scMul be p0) (scMul al p1))) ∧ X = w') := sScAdd_any _ _
  have M3 : Hid (∀ X, Calls Tryz.prog 18 #[.int .i64 (scAdd (scMul be p0) (scMul al p1)), .int .i64 p2] X fun e w' => e = .returned (.int .i64 (wireA al be p0 p1 p2)) ∧ X = w') := sScAdd_any _ _
  generalize wireA al be p0 p1 p2 = r3 at *
  generalize scAdd (scMul be p0) (scMul al p1) = r2 at *
  generalize scMul be p0 = r0 at *
  generalize scMul al p1 = r1 at *
  clear hb
  go_enter Tryz.func80, Tryz.ntmps80
  go_wp2_with fail
  clear hW
  have T0 : Below W.heap.size W W.drew := (Below.refl _ _).drew
  refine wp_region_ord [(0, false), (1, false), (2, false), (3, false), (4, false), (5, false), (6, false), (7, true), (8, false)] (fun wz => Below W.heap.size W wz) mixesSc (by kernel_rfl) T0 ?_
  repeat (refine ord_float rfl rfl (fun K hK => ⟨_, (fun w' hw => by have q0 := (hs.on hw hs.lt).cell 0; have q1 :=  (hr.on hw hr.lt).cell 0; have q2 :=  D0.out _ hw; go_simp; exact rfl), ?_⟩); go_simp; refine hK _ ?_; clear hK K)
  refine ord_call rfl rfl (fun K hK => ⟨_, _, (by go_simp <;> first | exact rfl | exact ⟨rfl, rfl⟩), ?_⟩)
  refine (C0.out _ T0).mono ?_
  rintro e u1 ⟨rfl, hu1⟩
  have T1 := below_then T0 hu1
  refine ⟨_, rfl, T1, ?_⟩
  go_simp
  refine hK _ _ ?_
  clear hK K
  repeat (refine ord_float rfl rfl (fun K hK => ⟨_, (fun w' hw => by have q0 := (hs.on hw hs.lt).cell 0; have q1 :=  (hr.on hw hr.lt).cell 0; have q2 :=  D0.out _ hw; go_simp; exact rfl), ?_⟩); go_simp; refine hK _ ?_; clear hK K)
  refine ord_nil ?_
  go_wp2_with fail
  have T1d : Below W.heap.size W u1.drew := T1.drew
  refine wp_region_ord [(0, false), (1, false), (2, false), (3, false), (4, false), (5, false), (6, false), (7, true), (8, false)] (fun wz => Below W.heap.size W wz) mixesSc (by kernel_rfl) T1d ?_
  repeat (refine ord_float rfl rfl (fun K hK => ⟨_, (fun w' hw => by have q0 := (hs.on hw hs.lt).cell 1; have q1 :=  (hr.on hw hr.lt).cell 0; have q2 :=  D1.out _ hw; go_simp; exact rfl), ?_⟩); go_simp; refine hK _ ?_; clear hK K)
  refine ord_call rfl rfl (fun K hK => ⟨_, _, (by go_simp <;> first | exact rfl | exact ⟨rfl, rfl⟩), ?_⟩)
  refine (C1.out _ T1d).mono ?_
  rintro e u2 ⟨rfl, hu2⟩
  have T2 := below_then T1d hu2
  refine ⟨_, rfl, T2, ?_⟩
  go_simp
  refine hK _ _ ?_
  clear hK K
  repeat (refine ord_float rfl rfl (fun K hK => ⟨_, (fun w' hw => by have q0 := (hs.on hw hs.lt).cell 1; have q1 :=  (hr.on hw hr.lt).cell 0; have q2 :=  D1.out _ hw; go_simp; exact rfl), ?_⟩); go_simp; refine hK _ ?_; clear hK K)
  refine ord_nil ?_
  go_wp2_with fail
  have T2d : Below W.heap.size W u2.drew := T2.drew
  refine wp_region_ord [(0, false), (1, false), (2, false), (3, false), (4, false), (5, false), (6, false), (7, true), (8, false)] (fun wz => Below W.heap.size W wz) mixesSc (by kernel_rfl) T2d ?_
  repeat (refine ord_float rfl rfl (fun K hK => ⟨_, (fun w' hw => by have q0 := (hs.on hw hs.lt).cell 2; have q1 :=  (hr.on hw hr.lt).cell 0; have q2 :=  D2.out _ hw; go_simp; exact rfl), ?_⟩); go_simp; refine hK _ ?_; clear hK K)
  refine ord_call rfl rfl (fun K hK => ⟨_, _, (by go_simp <;> first | exact rfl | exact ⟨rfl, rfl⟩), ?_⟩)
  refine (C2.out _ T2d).mono ?_
  rintro e u3 ⟨rfl, hu3⟩
  have T3 := below_then T2d hu3
  refine ⟨_, rfl, T3, ?_⟩
  go_simp
  refine hK _ _ ?_
  clear hK K
  repeat (refine ord_float rfl rfl (fun K hK => ⟨_, (fun w' hw => by have q0 := (hs.on hw hs.lt).cell 2; have q1 :=  (hr.on hw hr.lt).cell 0; have q2 :=  D2.out _ hw; go_simp; exact rfl), ?_⟩); go_simp; refine hK _ ?_; clear hK K)
  refine ord_nil ?_
  go_wp2_with fail
  have T3d : Below W.heap.size W u3.drew := T3.drew
  refine wp_region_ord [(0, false), (1, false), (2, false), (3, false), (4, false), (6, false), (7, false), (8, false), (11, false), (5, true), (9, true), (10, true), (12, true), (13, false), (14, false), (15, false)] (fun wz => Below W.heap.size W wz) mixesSc (by kernel_rfl) T3d ?_
  repeat (refine ord_float rfl rfl (fun K hK => ⟨_, (fun w' hw => by have q0 := (hr.on hw hr.lt).cell 1; have q1 :=  (hr.on hw hr.lt).cell 2; go_simp; exact rfl), ?_⟩); go_simp; refine hK _ ?_; clear hK K)
  refine ord_call rfl rfl (fun K hK => ⟨_, _, (by go_simp <;> first | exact rfl | exact ⟨rfl, rfl⟩), ?_⟩)
  refine (M0.out _).mono ?_
  rintro e u4 ⟨rfl, hu4⟩
  have T4 : Below W.heap.size W u4 := hu4 ▸ T3d
  refine ⟨_, rfl, T4, ?_⟩
  go_simp
  refine hK _ _ ?_
  clear hK K
  repeat (refine ord_float rfl rfl (fun K hK => ⟨_, (fun w' hw => by have q0 := (hr.on hw hr.lt).cell 1; have q1 :=  (hr.on hw hr.lt).cell 2; go_simp; exact rfl), ?_⟩); go_simp; refine hK _ ?_; clear hK K)
  refine ord_call rfl rfl (fun K hK => ⟨_, _, (by go_simp <;> first | exact rfl | exact ⟨rfl, rfl⟩), ?_⟩)
  refine (M1.out _).mono ?_
  rintro e u5 ⟨rfl, hu5⟩
  have T5 : Below W.heap.size W u5 := hu5 ▸ T4
  refine ⟨_, rfl, T5, ?_⟩
  go_simp
  refine hK _ _ ?_
  clear hK K
  repeat (refine ord_float rfl rfl (fun K hK => ⟨_, (fun w' hw => by have q0 := (hr.on hw hr.lt).cell 1; have q1 :=  (hr.on hw hr.lt).cell 2; go_simp; exact rfl), ?_⟩); go_simp; refine hK _ ?_; clear hK K)
  refine ord_call rfl rfl (fun K hK => ⟨_, _, (by go_simp <;> first | exact rfl | exact ⟨rfl, rfl⟩), ?_⟩)
  refine (M2.out _).mono ?_
  rintro e u6 ⟨rfl, hu6⟩
  have T6 : Below W.heap.size W u6 := hu6 ▸ T5
  refine ⟨_, rfl, T6, ?_⟩
  go_simp
  refine hK _ _ ?_
  clear hK K
  repeat (refine ord_float rfl rfl (fun K hK => ⟨_, (fun w' hw => by have q0 := (hr.on hw hr.lt).cell 1; have q1 :=  (hr.on hw hr.lt).cell 2; go_simp; exact rfl), ?_⟩); go_simp; refine hK _ ?_; clear hK K)
  refine ord_call rfl rfl (fun K hK => ⟨_, _, (by go_simp <;> first | exact rfl | exact ⟨rfl, rfl⟩), ?_⟩)
  refine (M3.out _).mono ?_
  rintro e u7 ⟨rfl, hu7⟩
  have T7 : Below W.heap.size W u7 := hu7 ▸ T6
  refine ⟨_, rfl, T7, ?_⟩
  go_simp
  refine hK _ _ ?_
  clear hK K
  repeat (refine ord_float rfl rfl (fun K hK => ⟨_, (fun w' hw => by have q0 := (hr.on hw hr.lt).cell 1; have q1 :=  (hr.on hw hr.lt).cell 2; go_simp; exact rfl), ?_⟩); go_simp; refine hK _ ?_; clear hK K)
  refine ord_nil ?_
  go_wp2
  go_ret3
  exact ⟨rfl, HB.out.trans (T7.mono HB.out.size)⟩

end Go.Proofs.YthnahalboomkoaaGreat
