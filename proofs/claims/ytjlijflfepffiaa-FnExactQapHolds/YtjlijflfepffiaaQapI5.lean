/-
  The walks of the program's quotient.
  (-DROP-: what the seat lacks is left out.)
-/
import Derived.Test.YtjlijflfepffiaaQapI4

namespace Go.Proofs.Ytjlijflfepffiaa
open Go.RowKit

theorem lit2_num {X : World} {g c : Nat} {x y : Int} (hb : Blk X g 3 #[.int .i64 x, .int .i64 y]) (hg : g < c) : ZAt X c (.slice (some ⟨g, 0, none⟩) 2 2) [x, y] := by
  refine ⟨_, 2, rfl, fun j hj => ⟨g, 0, rfl, hg, ?_⟩⟩
  rw [Nat.zero_add, hb.cell j]
  have hj2 : j < 2 := hj
  rcases (by omega : j = 0 ∨ j = 1) with rfl | rfl <;> rfl
theorem lit2_nat {X : World} {g c t : Nat} {x y : Value} {l1 l2 : List Int} (hb : Blk X g t #[x, y]) (hg : g < c) (h1 : ZAt X c x l1) (h2 : ZAt X c y l2) : NAt 1 X c (.slice (some ⟨g, 0, none⟩) 2 2) 2 [l1, l2] := by
  refine ⟨rfl, _, 2, rfl, fun j hj => ?_⟩
  have hj2 : j < 2 := by omega
  rcases (by omega : j = 0 ∨ j = 1) with rfl | rfl
  · exact ⟨g, 0, x, rfl, hg, by rw [Nat.zero_add, hb.cell 0]; rfl, h1⟩
  · exact ⟨g, 0, y, rfl, hg, by rw [Nat.zero_add, hb.cell 1]; rfl, h2⟩

set_option maxHeartbeats 6400000 in
set_option maxRecDepth 100000 in
theorem iQuotient_any (a0 : Option Addr) (n0 c0 : Nat) (a1 : Option Addr) (n1 c1 : Nat) (a2 : Option Addr) (n2 c2 : Nat) (a3 : Option Addr) (n3 c3 : Nat) (A B C Z : List Int) (lA : A.length ≤ 1000) (lB : B.length ≤ 1000) (lC : C.length ≤ 1000) (lZ : Z.length ≤ 1000) (w : World)
    (hA : ZAt w w.heap.size (.slice a0 n0 c0) A) (hB : ZAt w w.heap.size (.slice a1 n1 c1) B) (hC : ZAt w w.heap.size (.slice a2 n2 c2) C) (hZ : ZAt w w.heap.size (.slice a3 n3 c3) Z) :
    Calls Try.prog 49 #[.agg #[.slice a0 n0 c0, .slice a1 n1 c1, .slice a2 n2 c2, .slice a3 n3 c3]] w fun e w' => ∃ q, e = .returned (.tuple #[q, .bool (pRem (numL A B C) Z).isEmpty]) ∧ ZOwn w.heap.size w'.heap.size w' q (if (pRem (numL A B C) Z).isEmpty then pQuo (numL A B C) Z else []) ∧ Below w.heap.size w w' := by
  obtain ⟨W, hW, hb, hs⟩ := box1 w 74 #[.slice a0 n0 c0, .slice a1 n1 c1, .slice a2 n2 c2, .slice a3 n3 c3]
  have HB : Hid (Below w.heap.size w W) := hb
  have HZ : Hid (ZAt W W.heap.size (.slice a0 n0 c0) A ∧ ZAt W W.heap.size (.slice a1 n1 c1) B ∧ ZAt W W.heap.size (.slice a2 n2 c2) C ∧ ZAt W W.heap.size (.slice a3 n3 c3) Z) := ⟨(hA.on hb).wide hb.size, (hB.on hb).wide hb.size, (hC.on hb).wide hb.size, (hZ.on hb).wide hb.size⟩
  have HLN : Hid ((numL A B C).length ≤ 1048576) := by
    have h1 := qAdd_len (qMul A B) (scl C (-1))
    have h2 := qMul_128 A B
    rw [scl_len] at h1
    show (qAdd _ _).length ≤ _
    omega
  have CP : Hid (∀ V, Below W.heap.size W V → Calls Try.prog 82 #[.slice a0 n0 c0, .slice a1 n1 c1] V fun e w' => ∃ u, e = .returned u ∧ ZOwn V.heap.size w'.heap.size w' u (qMul A B) ∧ Below V.heap.size V w') := fun V hV => iQMul_any _ _ _ _ (by omega) (by omega) V ((HZ.out.1.on hV).wide hV.size) ((HZ.out.2.1.on hV).wide hV.size)
  have CM : Hid (∀ (x : Value) (b : Nat) (V : World), ZAt V V.heap.size x [1, -1] → NAt 1 V V.heap.size (.slice (some ⟨b, 0, none⟩) 2 2) 2 [qMul A B, C] → Calls Try.prog 68 #[x, .slice (some ⟨b, 0, none⟩) 2 2] V fun e w' => ∃ u, e = .returned u ∧ ZOwn V.heap.size w'.heap.size w' u (numL A B C) ∧ Below V.heap.size V w') := fun x b V hx hN => by
    have h := iMix_any (some ⟨b, 0, none⟩) 2 x [qMul A B, C] [1, -1] (by simp) (fun j => by
      match j with
      | 0 => exact qMul_len A B
      | 1 => show C.length ≤ _; omega
      | j + 2 => simp) (by simp) (Nat.le_refl 2) V hN hx
    rw [mix_less] at h
    exact h
  have CD : Hid (∀ (x y : Value) V, ZAt V V.heap.size x (numL A B C) → ZAt V V.heap.size y Z → Calls Try.prog 83 #[x, y] V fun e w' => ∃ q r, e = .returned (.tuple #[q, r]) ∧ ZOwn V.heap.size w'.heap.size w' q (pQuo (numL A B C) Z) ∧ ZOwn V.heap.size w'.heap.size w' r (pRem (numL A B C) Z) ∧ (∀ g, q.ownBlock = some g → r.ownBlock ≠ some g) ∧ Below V.heap.size V w') := fun x y V hx hy => iDiv_any x y _ _ HLN.out (by omega) V hx hy
  have HS : Hid (Blk W w.heap.size 74 #[.slice a0 n0 c0, .slice a1 n1 c1, .slice a2 n2 c2, .slice a3 n3 c3]) := hs
  clear hA hB hC hZ hb lA lB lC lZ
  generalize numL A B C = D at *
  obtain ⟨Lq, hLq⟩ : ∃ Lq, Lq = if (pRem D Z).isEmpty = true then pQuo D Z else [] := ⟨_, rfl⟩
  have HLQ : Hid (Lq = if (pRem D Z).isEmpty = true then pQuo D Z else []) := hLq
  rw [← hLq]
  clear hLq
  obtain ⟨Eq, hEq⟩ : ∃ Eq, Eq = (pRem D Z).isEmpty := ⟨_, rfl⟩
  have HEQ : Hid (Eq = (pRem D Z).isEmpty) := hEq
  rw [← hEq]
  clear hEq
  go_enter Try.func49, Try.ntmps49
  go_wp2_with fail
  clear hW
  refine wp_region_to [(1, false), (2, false), (3, false), (4, false), (6, false), (7, false)] 5 #[false, true, true, true, true, false, true, true, false, false, false] (fun wz => Below W.heap.size W wz) mixesSc (by kernel_rfl) (Below.refl _ _).drew ?_
  repeat (refine ord_float rfl rfl (fun K hK => ⟨_, (fun w' hw => by have q0 := (hs.on hw hs.lt).cell 0; have q1 :=  (hs.on hw hs.lt).cell 1; have q2 :=  (hs.on hw hs.lt).cell 2; have q3 :=  (hs.on hw hs.lt).cell 3; go_simp; exact rfl), ?_⟩); go_simp; refine hK _ ?_; clear hK K)
  refine ord_nil ?_
  have hP0 : Below W.heap.size W W.drew := (Below.refl _ _).drew
  generalize W.drew = W7 at hP0 ⊢
  apply anyH_fork3v (n := 2) (i := 5) (i' := 8) (j := 0) (G := fun x _ z w' => Below W.heap.size W w' ∧ ZAt w' w'.heap.size x [1, -1] ∧ (∃ b, z = .slice (some ⟨b, 0, none⟩) 2 2) ∧ NAt 1 w' w'.heap.size z 2 [qMul A B, C]) (L3 := #[true, true, true, true, true, true, true, true, true, false, false])
  · kernel_rfl
  · refine ord_call rfl rfl (fun K hK => ⟨_, _, (by go_simp <;> first | exact rfl | exact ⟨rfl, rfl⟩), ?_⟩)
    refine (CP.out _ hP0).mono ?_
    rintro e w8 ⟨u, rfl, hu, hb8⟩
    obtain ⟨pa, pc, hpv⟩ := row_form hu.1
    subst hpv
    have hB8 := below_then hP0 hb8
    refine ⟨_, rfl, hB8, ?_⟩
    go_simp
    refine hK _ _ ?_
    clear hK K
    generalize (qMul A B).length = pl at *
    refine ord_nil ⟨hB8, ?_, ?_⟩
    · refine ord_op rfl rfl (fun K hK => ⟨.slice (some ⟨w8.heap.size, 0, none⟩) 2 2, w8.alloc (.cells #[.slice pa pl pc, .slice a2 n2 c2] 27), (by go_simp <;> rfl), hB8.alloc hB8.size _, ?_⟩)
      go_simp
      refine hK _ _ ?_
      clear hK K
      obtain ⟨X1, hE1, hbX, k1⟩ := box1 w8 27 #[.slice pa pl pc, .slice a2 n2 c2]
      rw [hE1]
      have hB9 := below_then hB8 hbX
      clear hE1
      refine ord_op rfl rfl (fun K hK => ⟨.slice (some ⟨X1.heap.size, 0, none⟩) 2 2, X1.alloc (.cells #[.int .i64 1, .int .i64 (-1)] 3), (by go_simp <;> rfl), hB9.alloc hB9.size _, ?_⟩)
      go_simp
      refine hK _ _ ?_
      clear hK K
      obtain ⟨X2, hE2, hbX2, k2⟩ := box1 X1 3 #[.int .i64 1, .int .i64 (-1)]
      rw [hE2]
      have hB10 := below_then hB9 hbX2
      have hk1 := k1.on hbX2 k1.lt
      have g1 : ZAt X2 X2.heap.size (.slice (some ⟨X1.heap.size, 0, none⟩) 2 2) [1, -1] := lit2_num k2 k2.lt
      have g2 : NAt 1 X2 X2.heap.size (.slice (some ⟨w8.heap.size, 0, none⟩) 2 2) 2 [qMul A B, C] := lit2_nat hk1 hk1.lt (((((hu.at.on hbX).wide hbX.size).on hbX2).wide hbX2.size)) ((HZ.out.2.2.1.on hB10).wide hB10.size)
      have g3 : ∃ b, Value.slice (some ⟨w8.heap.size, 0, none⟩) 2 2 = .slice (some ⟨b, 0, none⟩) 2 2 := ⟨_, rfl⟩
      generalize Value.slice (some ⟨X1.heap.size, 0, none⟩) 2 2 = x at g1 ⊢
      generalize Value.slice (some ⟨w8.heap.size, 0, none⟩) 2 2 = z at g2 g3 ⊢
      generalize Value.slice pa pl pc = y
      exact ord_nil ⟨x, y, z, rfl, hB10, g1, g3, g2⟩
    · refine ord_op rfl rfl (fun K hK => ⟨.slice (some ⟨w8.heap.size, 0, none⟩) 2 2, w8.alloc (.cells #[.int .i64 1, .int .i64 (-1)] 3), (by go_simp <;> rfl), hB8.alloc hB8.size _, ?_⟩)
      go_simp
      refine hK _ _ ?_
      clear hK K
      obtain ⟨X1, hE1, hbX, k1⟩ := box1 w8 3 #[.int .i64 1, .int .i64 (-1)]
      rw [hE1]
      have hB9 := below_then hB8 hbX
      clear hE1
      refine ord_op rfl rfl (fun K hK => ⟨.slice (some ⟨X1.heap.size, 0, none⟩) 2 2, X1.alloc (.cells #[.slice pa pl pc, .slice a2 n2 c2] 27), (by go_simp <;> rfl), hB9.alloc hB9.size _, ?_⟩)
      go_simp
      refine hK _ _ ?_
      clear hK K
      obtain ⟨X2, hE2, hbX2, k2⟩ := box1 X1 27 #[.slice pa pl pc, .slice a2 n2 c2]
      rw [hE2]
      have hB10 := below_then hB9 hbX2
      have hk1 := k1.on hbX2 k1.lt
      have g1 : ZAt X2 X2.heap.size (.slice (some ⟨w8.heap.size, 0, none⟩) 2 2) [1, -1] := lit2_num hk1 hk1.lt
      have g2 : NAt 1 X2 X2.heap.size (.slice (some ⟨X1.heap.size, 0, none⟩) 2 2) 2 [qMul A B, C] := lit2_nat k2 k2.lt (((((hu.at.on hbX).wide hbX.size).on hbX2).wide hbX2.size)) ((HZ.out.2.2.1.on hB10).wide hB10.size)
      have g3 : ∃ b, Value.slice (some ⟨X1.heap.size, 0, none⟩) 2 2 = .slice (some ⟨b, 0, none⟩) 2 2 := ⟨_, rfl⟩
      generalize Value.slice (some ⟨w8.heap.size, 0, none⟩) 2 2 = x at g1 ⊢
      generalize Value.slice (some ⟨X1.heap.size, 0, none⟩) 2 2 = z at g2 g3 ⊢
      generalize Value.slice pa pl pc = y
      exact ord_nil ⟨x, y, z, rfl, hB10, g1, g3, g2⟩
  · refine ord_op rfl rfl (fun K hK => ⟨.slice (some ⟨W7.heap.size, 0, none⟩) 2 2, W7.alloc (.cells #[.int .i64 1, .int .i64 (-1)] 3), (by go_simp <;> rfl), hP0.alloc hP0.size _, ?_⟩)
    go_simp
    refine hK _ _ ?_
    clear hK K
    obtain ⟨X1, hE1, hbX, k1⟩ := box1 W7 3 #[.int .i64 1, .int .i64 (-1)]
    rw [hE1]
    have hB9 := below_then hP0 hbX
    clear hE1
    refine ord_call rfl rfl (fun K hK => ⟨_, _, (by go_simp <;> first | exact rfl | exact ⟨rfl, rfl⟩), ?_⟩)
    refine (CP.out _ hB9).mono ?_
    rintro e w8 ⟨u, rfl, hu, hb8⟩
    obtain ⟨pa, pc, hpv⟩ := row_form hu.1
    subst hpv
    have hB8 := below_then hB9 hb8
    refine ⟨_, rfl, hB8, ?_⟩
    go_simp
    refine hK _ _ ?_
    clear hK K
    generalize (qMul A B).length = pl at *
    refine ord_op rfl rfl (fun K hK => ⟨.slice (some ⟨w8.heap.size, 0, none⟩) 2 2, w8.alloc (.cells #[.slice pa pl pc, .slice a2 n2 c2] 27), (by go_simp <;> rfl), hB8.alloc hB8.size _, ?_⟩)
    go_simp
    refine hK _ _ ?_
    clear hK K
    obtain ⟨X2, hE2, hbX2, k2⟩ := box1 w8 27 #[.slice pa pl pc, .slice a2 n2 c2]
    rw [hE2]
    have hB10 := below_then hB8 hbX2
    have hk0 := k1.on hb8 k1.lt
    have hk1 := hk0.on hbX2 hk0.lt
    have g1 : ZAt X2 X2.heap.size (.slice (some ⟨W7.heap.size, 0, none⟩) 2 2) [1, -1] := lit2_num hk1 hk1.lt
    have g2 : NAt 1 X2 X2.heap.size (.slice (some ⟨w8.heap.size, 0, none⟩) 2 2) 2 [qMul A B, C] := lit2_nat k2 k2.lt ((hu.at.on hbX2).wide hbX2.size) ((HZ.out.2.2.1.on hB10).wide hB10.size)
    have g3 : ∃ b, Value.slice (some ⟨w8.heap.size, 0, none⟩) 2 2 = .slice (some ⟨b, 0, none⟩) 2 2 := ⟨_, rfl⟩
    generalize Value.slice (some ⟨W7.heap.size, 0, none⟩) 2 2 = x at g1 ⊢
    generalize Value.slice (some ⟨w8.heap.size, 0, none⟩) 2 2 = z at g2 g3 ⊢
    generalize Value.slice pa pl pc = y
    exact ord_nil ⟨x, y, z, rfl, hB10, g1, g3, g2⟩
  · rintro x y z w' ⟨hB1, g1, ⟨b, rfl⟩, g2⟩
    refine anyH_ord [(9, true), (10, false)] (by kernel_rfl) hB1 ?_
    refine ord_call rfl rfl (fun K hK => ⟨_, _, (by go_simp <;> first | exact rfl | exact ⟨rfl, rfl⟩), ?_⟩)
    refine (CM.out _ _ _ g1 g2).mono ?_
    rintro e u1 ⟨d, rfl, hd, hu1⟩
    have T1 := below_then hB1 hu1
    refine ⟨_, rfl, T1, ?_⟩
    go_simp
    refine hK _ _ ?_
    clear hK K
    repeat (refine ord_float rfl rfl (fun K hK => ⟨_, (fun w' hw => by have q0 := (hs.on hw hs.lt).cell 3; go_simp; exact rfl), ?_⟩); go_simp; refine hK _ ?_; clear hK K)
    refine ord_nil ?_
    have q3 := (hs.on T1 hs.lt).cell 3
    replace q3 : u1.cell? ⟨w.heap.size, 3, none⟩ = some (.slice a3 n3 c3) := q3
    have CDD : Hid (Calls Try.prog 83 #[d, .slice a3 n3 c3] u1 fun e w' => ∃ q r, e = .returned (.tuple #[q, r]) ∧ ZOwn u1.heap.size w'.heap.size w' q (pQuo D Z) ∧ ZOwn u1.heap.size w'.heap.size w' r (pRem D Z) ∧ (∀ g, q.ownBlock = some g → r.ownBlock ≠ some g) ∧ Below u1.heap.size u1 w') := CD.out d (.slice a3 n3 c3) u1 hd.at ((HZ.out.2.2.2.on T1).wide T1.size)
    have HB1 : Hid (Below w.heap.size w u1) := HB.out.trans (T1.mono HB.out.size)
    clear g1 g2 hd hu1 T1 hB1 hP0 HZ CD CM CP HS hs
    go_wp2_with fail
    refine CDD.out.mono ?_
    rintro e u2 ⟨q, r, rfl, hq, hr, _, hb2⟩
    have HQ : Hid (ZOwn w.heap.size u2.heap.size u2 q (pQuo D Z)) := hq.wide HB1.out.size (Nat.le_refl _)
    have HB2 : Hid (Below w.heap.size w u2) := HB1.out.trans (hb2.mono HB1.out.size)
    obtain ⟨ra, rc, hrv⟩ := row_form hr.1
    subst hrv
    clear hq hr hb2 CDD q3
    by_cases hr0 : (pRem D Z).length = 0
    · have he : (pRem D Z).isEmpty = true := by rw [List.isEmpty_iff]; exact List.length_eq_zero_iff.1 hr0
      have he1 : Hid (Eq = true) := by show _ = _; rw [HEQ.out, he]
      have HE2 : Hid (Lq = pQuo D Z) := by show _ = _; rw [HLQ.out, he]; rfl
      rw [hr0]
      clear he
      go_wp2
      go_ret2
      exact ⟨q, by rw [he1.out]; rfl, by rw [HE2.out]; exact HQ.out, HB2.out⟩
    · have he : (pRem D Z).isEmpty = false := by rw [Bool.eq_false_iff]; intro h; exact hr0 (by rw [List.isEmpty_iff.1 h]; rfl)
      have hr' : (((pRem D Z).length : Nat) : Int) > 0 := by omega
      have he1 : Hid (Eq = false) := by show _ = _; rw [HEQ.out, he]
      have HE2 : Hid (Lq = []) := by show _ = _; rw [HLQ.out, he]; rfl
      clear he
      generalize (pRem D Z).length = rl at *
      go_wp2
      go_ret2
      exact ⟨.slice (some ⟨u2.heap.size, 0, none⟩) 0 0, by rw [he1.out]; rfl, by rw [HE2.out]; exact (ZOwn.of (slit0 u2)).wide HB2.out.size (Nat.le_refl _), HB2.out.alloc HB2.out.size _⟩

end Go.Proofs.Ytjlijflfepffiaa
