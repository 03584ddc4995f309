/-
  Texts of one's own, joined.
-/
import Derived.Test.YthnahalboomkoaaGreatJoined20
import Derived.Test.YthnahalboomkoaaGreatJoined15
import Derived.Test.YthnahalboomkoaaGreatJoined16

/-
  The walks of the program's quotient.
  (-DROP-: what the seat lacks is left out.)
-/
namespace Go.Proofs.YthnahalboomkoaaGreat
open Go.RowKit

theorem lit2_num {X : World} {g c : Nat} {x y : Int} (hb : Blk X g 3 #[.int .i64 x, .int .i64 y]) (hg : g < c) : ZAt X c (.slice (some ⟨g, 0, none⟩) 2 2) [x, y] := by
  refine ⟨_, 2, rfl, fun j hj => ⟨g, 0, rfl, hg, ?_⟩⟩
  rw [Nat.zero_add, hb.cell j]
  have hj2 : j < 2 := hj
  rcases (by omega : j = 0 ∨ j = 1) with rfl | rfl <;> rfl
theorem lit2_nat {X : World} {g c t : Nat} {x y : Value} {l1 l2 : List Int} (hb : Blk X g t #[x, y]) (hg : g < c) (h1 : ZAt X c x l1) (h2 : ZAt X c y l2) : NAt 1 X c (.slice (some ⟨g, 0, none⟩) 2 2) 2 [l1, l2] := by
  refine ⟨rfl, _, 2, rfl, fun j hj => ?_⟩
  have hj2 : j < 2 := by omega
  rcases (by omega : j = 0 ∨ j = 1) with rfl | rfl
  · exact ⟨g, 0, x, rfl, hg, by rw [Nat.zero_add, hb.cell 0]; rfl, h1⟩
  · exact ⟨g, 0, y, rfl, hg, by rw [Nat.zero_add, hb.cell 1]; rfl, h2⟩

set_option maxHeartbeats 6400000 in
set_option maxRecDepth 100000 in
theorem iQuotient_any (a0 : Option Addr) (n0 c0 : Nat) (a1 : Option Addr) (n1 c1 : Nat) (a2 : Option Addr) (n2 c2 : Nat) (a3 : Option Addr) (n3 c3 : Nat) (A B C Z : List Int) (lA : A.length ≤ 1000) (lB : B.length ≤ 1000) (lC : C.length ≤ 1000) (lZ : Z.length ≤ 1000) (w : World)
    (hA : ZAt w w.heap.size (.slice a0 n0 c0) A) (hB : ZAt w w.heap.size (.slice a1 n1 c1) B) (hC : ZAt w w.heap.size (.slice a2 n2 c2) C) (hZ : ZAt w w.heap.size (.slice a3 n3 c3) Z) :
    Calls Tryz.prog 130 #[.agg #[.slice a0 n0 c0, .slice a1 n1 c1, .slice a2 n2 c2, .slice a3 n3 c3]] w fun e w' => ∃ q, e = .returned (.tuple #[q, .bool (pRem (numL A B C) Z).isEmpty]) ∧ ZOwn w.heap.size w'.heap.size w' q (if (pRem (numL A B C) Z).isEmpty then pQuo (numL A B C) Z else []) ∧ Below w.heap.size w w' := by
  obtain ⟨W, hW, hb, hs⟩ := box1 w 154 #[.slice a0 n0 c0, .slice a1 n1 c1, .slice a2 n2 c2, .slice a3 n3 c3]
  have HB : Hid (Below w.heap.size w W) := hb
  have HZ : Hid (ZAt W W.heap.size (.slice a0 n0 c0) A ∧ ZAt W W.heap.size (.slice a1 n1 c1) B ∧ ZAt W W.heap.size (.slice a2 n2 c2) C ∧ ZAt W W.heap.size (.slice a3 n3 c3) Z) := ⟨(hA.on hb).wide hb.size, (hB.on hb).wide hb.size, (hC.on hb).wide hb.size, (hZ.on hb).wide hb.size⟩
  have HLN : Hid ((numL A B C).length ≤ 1048576) := by
    have h1 := qAdd_len (qMul A B) (scl C (-1))
    have h2 := qMul_128 A B
    rw [scl_len] at h1
    show (qAdd _ _).length ≤ _
    omega
  have CP : Hid (∀ V, Below W.heap.size W V → Calls Tryz.prog 180 #[.slice a0 n0 c0, .slice a1 n1 c1] V fun e w' => ∃ u, e = .returned u ∧ ZOwn V.heap.size w'.heap.size w' u (qMul A B) ∧ Below V.heap.size V w') := fun V hV => iQMul_any _ _ _ _ (by omega) (by omega) V ((HZ.out.1.on hV).wide hV.size) ((HZ.out.2.1.on hV).wide hV.size)
  have CM : Hid (∀ (x : Value) (b : Nat) (V : World), ZAt V V.heap.size x [1, -1] → NAt 1 V V.heap.size (.slice (some ⟨b, 0, none⟩) 2 2) 2 [qMul A B, C] → Calls Tryz.prog 183 #[x, .slice (some ⟨b, 0, none⟩) 2 2] V fun e w' => ∃ u, e = .returned u ∧ ZOwn V.heap.size w'.heap.size w' u (numL A B C) ∧ Below V.heap.size V w') := fun x b V hx hN => by
    have h := iMix_any (some ⟨b, 0, none⟩) 2 x [qMul A B, C] [1, -1] (by simp) (fun j => by
      match j with
      | 0 => exact qMul_len A B
      | 1 => show C.length ≤ _; omega
      | j + 2 => simp) (by simp) (Nat.le_refl 2) V hN hx
    rw [mix_less] at h
    exact h
  have CD : Hid (∀ (x y : Value) V, ZAt V V.heap.size x (numL A B C) → ZAt V V.heap.size y Z → Calls Tryz.prog 184 #[x, y] V fun e w' => ∃ q r, e = .returned (.tuple #[q, r]) ∧ ZOwn V.heap.size w'.heap.size w' q (pQuo (numL A B C) Z) ∧ ZOwn V.heap.size w'.heap.size w' r (pRem (numL A B C) Z) ∧ (∀ g, q.ownBlock = some g → r.ownBlock ≠ some g) ∧ Below V.heap.size V w') := fun x y V hx hy => iDiv_any x y _ _ HLN.out (by omega) V hx hy
  have HS : Hid (Blk W w.heap.size 154 #[.slice a0 n0 c0, .slice a1 n1 c1, .slice a2 n2 c2, .slice a3 n3 c3]) := hs
  clear hA hB hC hZ hb lA lB lC lZ
  generalize numL A B C = D at *
  obtain ⟨Lq, hLq⟩ : ∃ Lq, Lq = if (pRem D Z).isEmpty = true then pQuo D Z else [] := ⟨_, rfl⟩
  have HLQ : Hid (Lq = if (pRem D Z).isEmpty = true then pQuo D Z else []) := hLq
  rw [← hLq]
  clear hLq
  obtain ⟨Eq, hEq⟩ : ∃ Eq, Eq = (pRem D Z).isEmpty := ⟨_, rfl⟩
  have HEQ : Hid (Eq = (pRem D Z).isEmpty) := hEq
  rw [← hEq]
  clear hEq
  go_enter Tryz.func130, Tryz.ntmps130
  go_wp2_with fail
  clear hW
  refine wp_region_to [(1, false), (2, false), (3, false), (4, false), (6, false), (7, false)] 5 #[false, true, true, true, true, false, true, true, false, false, false] (fun wz => Below W.heap.size W wz) mixesSc (by kernel_rfl) (Below.refl _ _).drew ?_
  repeat (refine ord_float rfl rfl (fun K hK => ⟨_, (fun w' hw => by have q0 := (hs.on hw hs.lt).cell 0; have q1 :=  (hs.on hw hs.lt).cell 1; have q2 :=  (hs.on hw hs.lt).cell 2; have q3 :=  (hs.on hw hs.lt).cell 3; go_simp; exact rfl), ?_⟩); go_simp; refine hK _ ?_; clear hK K)
  refine ord_nil ?_
  have hP0 : Below W.heap.size W W.drew := (Below.refl _ _).drew
  generalize W.drew = W7 at hP0 ⊢
  apply anyH_fork3v (n := 2) (i := 5) (i' := 8) (j := 0) (G := fun x _ z w' => Below W.heap.size W w' ∧ ZAt w' w'.heap.size x [1, -1] ∧ (∃ b, z = .slice (some ⟨b, 0, none⟩) 2 2) ∧ NAt 1 w' w'.heap.size z 2 [qMul A B, C]) (L3 := #[true, true, true, true, true, true, true, true, true, false, false])
  · kernel_rfl
  · refine ord_call rfl rfl (fun K hK => ⟨_, _, (by go_simp <;> first | exact rfl | exact ⟨rfl, rfl⟩), ?_⟩)
    refine (CP.out _ hP0).mono ?_
    rintro e w8 ⟨u, rfl, hu, hb8⟩
    obtain ⟨pa, pc, hpv⟩ := row_form hu.1
    subst hpv
    have hB8 := below_then hP0 hb8
    refine ⟨_, rfl, hB8, ?_⟩
    go_simp
    refine hK _ _ ?_
    clear hK K
    generalize (qMul A B).length = pl at *
    refine ord_nil ⟨hB8, ?_, ?_⟩
    · refine ord_op rfl rfl (fun K hK => ⟨.slice (some ⟨w8.heap.size, 0, none⟩) 2 2, w8.alloc (.cells #[.slice pa pl pc, .slice a2 n2 c2] 27), (by go_simp <;> rfl), hB8.alloc hB8.size _, ?_⟩)
      go_simp
      refine hK _ _ ?_
      clear hK K
      obtain ⟨X1, hE1, hbX, k1⟩ := box1 w8 27 #[.slice pa pl pc, .slice a2 n2 c2]
      rw [hE1]
      have hB9 := below_then hB8 hbX
      clear hE1
      refine ord_op rfl rfl (fun K hK => ⟨.slice (some ⟨X1.heap.size, 0, none⟩) 2 2, X1.alloc (.cells #[.int .i64 1, .int .i64 (-1)] 3), (by go_simp <;> rfl), hB9.alloc hB9.size _, ?_⟩)
      go_simp
      refine hK _ _ ?_
      clear hK K
      obtain ⟨X2, hE2, hbX2, k2⟩ := box1 X1 3 #[.int .i64 1, .int .i64 (-1)]
      rw [hE2]
      have hB10 := below_then hB9 hbX2
      have hk1 := k1.on hbX2 k1.lt
      have g1 : ZAt X2 X2.heap.size (.slice (some ⟨X1.heap.size, 0, none⟩) 2 2) [1, -1] := lit2_num k2 k2.lt
      have g2 : NAt 1 X2 X2.heap.size (.slice (some ⟨w8.heap.size, 0, none⟩) 2 2) 2 [qMul A B, C] := lit2_nat hk1 hk1.lt (((((hu.at.on hbX).wide hbX.size).on hbX2).wide hbX2.size)) ((HZ.out.2.2.1.on hB10).wide hB10.size)
      have g3 : ∃ b, Value.slice (some ⟨w8.heap.size, 0, none⟩) 2 2 = .slice (some ⟨b, 0, none⟩) 2 2 := ⟨_, rfl⟩
      generalize Value.slice (some ⟨X1.heap.size, 0, none⟩) 2 2 = x at g1 ⊢
      generalize Value.slice (some ⟨w8.heap.size, 0, none⟩) 2 2 = z at g2 g3 ⊢
      generalize Value.slice pa pl pc = y
      exact ord_nil ⟨x, y, z, rfl, hB10, g1, g3, g2⟩
    · refine ord_op rfl rfl (fun K hK => ⟨.slice (some ⟨w8.heap.size, 0, none⟩) 2 2, w8.alloc (.cells #[.int .i64 1, .int .i64 (-1)] 3), (by go_simp <;> rfl), hB8.alloc hB8.size _, ?_⟩)
      go_simp
      refine hK _ _ ?_
      clear hK K
      obtain ⟨X1, hE1, hbX, k1⟩ := box1 w8 3 #[.int .i64 1, .int .i64 (-1)]
      rw [hE1]
      have hB9 := below_then hB8 hbX
      clear hE1
      refine ord_op rfl rfl (fun K hK => ⟨.slice (some ⟨X1.heap.size, 0, none⟩) 2 2, X1.alloc (.cells #[.slice pa pl pc, .slice a2 n2 c2] 27), (by go_simp <;> rfl), hB9.alloc hB9.size _, ?_⟩)
      go_simp
      refine hK _ _ ?_
      clear hK K
      obtain ⟨X2, hE2, hbX2, k2⟩ := box1 X1 27 #[.slice pa pl pc, .slice a2 n2 c2]
      rw [hE2]
      have hB10 := below_then hB9 hbX2
      have hk1 := k1.on hbX2 k1.lt
      have g1 : ZAt X2 X2.heap.size (.slice (some ⟨w8.heap.size, 0, none⟩) 2 2) [1, -1] := lit2_num hk1 hk1.lt
      have g2 : NAt 1 X2 X2.heap.size (.slice (some ⟨X1.heap.size, 0, none⟩) 2 2) 2 [qMul A B, C] := lit2_nat k2 k2.lt (((((hu.at.on hbX).wide hbX.size).on hbX2).wide hbX2.size)) ((HZ.out.2.2.1.on hB10).wide hB10.size)
      have g3 : ∃ b, Value.slice (some ⟨X1.heap.size, 0, none⟩) 2 2 = .slice (some ⟨b, 0, none⟩) 2 2 := ⟨_, rfl⟩
      generalize Value.slice (some ⟨w8.heap.size, 0, none⟩) 2 2 = x at g1 ⊢
      generalize Value.slice (some ⟨X1.heap.size, 0, none⟩) 2 2 = z at g2 g3 ⊢
      generalize Value.slice pa pl pc = y
      exact ord_nil ⟨x, y, z, rfl, hB10, g1, g3, g2⟩
  · refine ord_op rfl rfl (fun K hK => ⟨.slice (some ⟨W7.heap.size, 0, none⟩) 2 2, W7.alloc (.cells #[.int .i64 1, .int .i64 (-1)] 3), (by go_simp <;> rfl), hP0.alloc hP0.size _, ?_⟩)
    go_simp
    refine hK _ _ ?_
    clear hK K
    obtain ⟨X1, hE1, hbX, k1⟩ := box1 W7 3 #[.int .i64 1, .int .i64 (-1)]
    rw [hE1]
    have hB9 := below_then hP0 hbX
    clear hE1
    refine ord_call rfl rfl (fun K hK => ⟨_, _, (by go_simp <;> first | exact rfl | exact ⟨rfl, rfl⟩), ?_⟩)
    refine (CP.out _ hB9).mono ?_
    rintro e w8 ⟨u, rfl, hu, hb8⟩
    obtain ⟨pa, pc, hpv⟩ := row_form hu.1
    subst hpv
    have hB8 := below_then hB9 hb8
    refine ⟨_, rfl, hB8, ?_⟩
    go_simp
    refine hK _ _ ?_
    clear hK K
    generalize (qMul A B).length = pl at *
    refine ord_op rfl rfl (fun K hK => ⟨.slice (some ⟨w8.heap.size, 0, none⟩) 2 2, w8.alloc (.cells #[.slice pa pl pc, .slice a2 n2 c2] 27), (by go_simp <;> rfl), hB8.alloc hB8.size _, ?_⟩)
    go_simp
    refine hK _ _ ?_
    clear hK K
    obtain ⟨X2, hE2, hbX2, k2⟩ := box1 w8 27 #[.slice pa pl pc, .slice a2 n2 c2]
    rw [hE2]
    have hB10 := below_then hB8 hbX2
    have hk0 := k1.on hb8 k1.lt
    have hk1 := hk0.on hbX2 hk0.lt
    have g1 : ZAt X2 X2.heap.size (.slice (some ⟨W7.heap.size, 0, none⟩) 2 2) [1, -1] := lit2_num hk1 hk1.lt
    have g2 : NAt 1 X2 X2.heap.size (.slice (some ⟨w8.heap.size, 0, none⟩) 2 2) 2 [qMul A B, C] := lit2_nat k2 k2.lt ((hu.at.on hbX2).wide hbX2.size) ((HZ.out.2.2.1.on hB10).wide hB10.size)
    have g3 : ∃ b, Value.slice (some ⟨w8.heap.size, 0, none⟩) 2 2 = .slice (some ⟨b, 0, none⟩) 2 2 := ⟨_, rfl⟩
    generalize Value.slice (some ⟨W7.heap.size, 0, none⟩) 2 2 = x at g1 ⊢
    generalize Value.slice (some ⟨w8.heap.size, 0, none⟩) 2 2 = z at g2 g3 ⊢
    generalize Value.slice pa pl pc = y
    exact ord_nil ⟨x, y, z, rfl, hB10, g1, g3, g2⟩
  · rintro x y z w' ⟨hB1, g1, ⟨b, rfl⟩, g2⟩
    refine anyH_ord [(9, true), (10, false)] (by kernel_rfl) hB1 ?_
    refine ord_call rfl rfl (fun K hK => ⟨_, _, (by go_simp <;> first | exact rfl | exact ⟨rfl, rfl⟩), ?_⟩)
    refine (CM.out _ _ _ g1 g2).mono ?_
    rintro e u1 ⟨d, rfl, hd, hu1⟩
    have T1 := below_then hB1 hu1
    refine ⟨_, rfl, T1, ?_⟩
    go_simp
    refine hK _ _ ?_
    clear hK K
    repeat (refine ord_float rfl rfl (fun K hK => ⟨_, (fun w' hw => by have q0 := (hs.on hw hs.lt).cell 3; go_simp; exact rfl), ?_⟩); go_simp; refine hK _ ?_; clear hK K)
    refine ord_nil ?_
    have q3 := (hs.on T1 hs.lt).cell 3
    replace q3 : u1.cell? ⟨w.heap.size, 3, none⟩ = some (.slice a3 n3 c3) := q3
    have CDD : Hid (Calls Tryz.prog 184 #[d, .slice a3 n3 c3] u1 fun e w' => ∃ q r, e = .returned (.tuple #[q, r]) ∧ ZOwn u1.heap.size w'.heap.size w' q (pQuo D Z) ∧ ZOwn u1.heap.size w'.heap.size w' r (pRem D Z) ∧ (∀ g, q.ownBlock = some g → r.ownBlock ≠ some g) ∧ Below u1.heap.size u1 w') := CD.out d (.slice a3 n3 c3) u1 hd.at ((HZ.out.2.2.2.on T1).wide T1.size)
    have HB1 : Hid (Below w.heap.size w u1) := HB.out.trans (T1.mono HB.out.size)
    clear g1 g2 hd hu1 T1 hB1 hP0 HZ CD CM CP HS hs
    go_wp2_with fail
    refine CDD.out.mono ?_
    rintro e u2 ⟨q, r, rfl, hq, hr, _, hb2⟩
    have HQ : Hid (ZOwn w.heap.size u2.heap.size u2 q (pQuo D Z)) := hq.wide HB1.out.size (Nat.le_refl _)
    have HB2 : Hid (Below w.heap.size w u2) := HB1.out.trans (hb2.mono HB1.out.size)
    obtain ⟨ra, rc, hrv⟩ := row_form hr.1
    subst hrv
    clear hq hr hb2 CDD q3
    by_cases hr0 : (pRem D Z).length = 0
    · have he : (pRem D Z).isEmpty = true := by rw [List.isEmpty_iff]; exact List.length_eq_zero_iff.1 hr0
      have he1 : Hid (Eq = true) := by show _ = _; rw [HEQ.out, he]
      have HE2 : Hid (Lq = pQuo D Z) := by show _ = _; rw [HLQ.out, he]; rfl
      rw [hr0]
      clear he
      go_wp2
      go_ret2
      exact ⟨q, by rw [he1.out]; rfl, by rw [HE2.out]; exact HQ.out, HB2.out⟩
    · have he : (pRem D Z).isEmpty = false := by rw [Bool.eq_false_iff]; intro h; exact hr0 (by rw [List.isEmpty_iff.1 h]; rfl)
      have hr' : (((pRem D Z).length : Nat) : Int) > 0 := by omega
      have he1 : Hid (Eq = false) := by show _ = _; rw [HEQ.out, he]
      have HE2 : Hid (Lq = []) := by show _ = _; rw [HLQ.out, he]; rfl
      clear he
      generalize (pRem D Z).length = rl at *
      go_wp2
      go_ret2
      exact ⟨.slice (some ⟨u2.heap.size, 0, none⟩) 0 0, by rw [he1.out]; rfl, by rw [HE2.out]; exact (ZOwn.of (slit0 u2)).wide HB2.out.size (Nat.le_refl _), HB2.out.alloc HB2.out.size _⟩

end Go.Proofs.YthnahalboomkoaaGreat

/-
  The walks of the program's quotient of a system and of its word on whether it holds at a place.
  (-DROP-: what the seat lacks is left out.)
-/
namespace Go.Proofs.YthnahalboomkoaaGreat
open Go.RowKit

theorem mix_small3 {wi pu : Int} {n : Nat} {ls : List (List Int)} {m : List Int} (h : (sysOk wi pu n ls && wide m wi) = true) : (sideL ls n wi.toNat 0 m).length ≤ 1000 ∧ (sideL ls n wi.toNat 1 m).length ≤ 1000 ∧ (sideL ls n wi.toNat 2 m).length ≤ 1000 ∧ (zerL n).length ≤ 1000 := by
  rw [Bool.and_eq_true] at h
  obtain ⟨h1, h2⟩ := h
  unfold sysOk at h1
  simp only [Bool.and_eq_true, decide_eq_true_eq] at h1
  obtain ⟨⟨h3, h4⟩, _, ⟨h5, h6⟩, _⟩ := h1
  unfold wide at h2
  rw [Bool.and_eq_true] at h2
  have h7 := of_decide_eq_true h2.1
  have hn : n ≤ 16 := by omega
  have hm : m.length = wi.toNat := by omega
  have s0 := (sideL_small ls n wi.toNat 0 m hn hm).2
  have s1 := (sideL_small ls n wi.toNat 1 m hn hm).2
  have s2 := (sideL_small ls n wi.toNat 2 m hn hm).2
  have s3 := zerL_small n
  exact ⟨by omega, by omega, by omega, by omega⟩

set_option maxHeartbeats 3200000 in
set_option maxRecDepth 100000 in
theorem iQuot_any (wi pu : Int) (hwf : (Lit.int .i64 wi).wf = true) (a : Option Addr) (n c : Nat) (hn : n ≤ 9223372036854775807) (ls : List (List Int)) (hz : ∀ j, (ls.getD j []).length ≤ 9223372036854775807) (am : Option Addr) (cm : Nat) (m : List Int) (hm : m.length ≤ 1048576) (w : World) (hA : NAt 3 w w.heap.size (.slice a n c) n ls) (hu : ZAt w w.heap.size (.slice am m.length cm) m) :
    Calls Tryz.prog 53 #[sysV wi pu (.slice a n c), .slice am m.length cm] w fun e w' => ∃ q, e = .returned (.tuple #[q, .bool (quotB wi pu n ls m)]) ∧ ZOwn w.heap.size w'.heap.size w' q (quotL wi pu n ls m) ∧ Below w.heap.size w w' := by
  obtain ⟨W, hW, hb, hs⟩ := box1 w 26 #[.int .i64 wi, .int .i64 pu, .slice a n c]
  have HB : Hid (Below w.heap.size w W) := hb
  have CX : Hid (Calls Tryz.prog 129 #[.agg #[.int .i64 wi, .int .i64 pu, .slice a n c], .slice am m.length cm] W fun e w' => MixEnd W wi pu n ls m e w') := iMixture_any wi pu hwf a n c hn ls hz am cm m hm W ((hA.on hb).wide hb.size) ((hu.on hb).wide hb.size)
  have HQB : Hid (quotB wi pu n ls m = (sysOk wi pu n ls && (wide m wi && (pRem (topL ls n wi.toNat m) (zerL n)).isEmpty))) := rfl
  have HQL : Hid (quotL wi pu n ls m = if quotB wi pu n ls m then pQuo (topL ls n wi.toNat m) (zerL n) else []) := rfl
  have HSM : Hid ((sysOk wi pu n ls && wide m wi) = true → (sideL ls n wi.toNat 0 m).length ≤ 1000 ∧ (sideL ls n wi.toNat 1 m).length ≤ 1000 ∧ (sideL ls n wi.toNat 2 m).length ≤ 1000 ∧ (zerL n).length ≤ 1000) := fun h => mix_small3 h
  clear hA hu hb hz hwf
  unfold sysV
  generalize m.length = ml at *
  go_enter Tryz.func53, Tryz.ntmps53
  go_wp2_with (refine load_blk rfl rfl rfl hs Tryz.underlying26 infoSy ?_)
  clear hW
  refine CX.out.mono ?_
  rintro e w1 (⟨h0, rfl, hb1⟩ | ⟨h1, a0, n0, c0, a1, n1, c1, a2, n2, c2, a3, n3, c3, rfl, hA, hB, hC, hZ, hb1⟩)
  · have HE : Hid (quotB wi pu n ls m = false) := by show _ = _; rw [HQB.out, ← Bool.and_assoc, h0]; rfl
    have HF : Hid (quotL wi pu n ls m = []) := by show _ = _; rw [HQL.out, HE.out]; rfl
    have HB1 : Hid (Below w.heap.size w w1) := HB.out.trans (hb1.mono HB.out.size)
    obtain ⟨V0, hV0, hb0, hs0⟩ := box1 w1 154 #[.slice none 0 0, .slice none 0 0, .slice none 0 0, .slice none 0 0]
    go_wp2_with (refine store_blkS (cs' := #[.slice none 0 0, .slice none 0 0, .slice none 0 0, .slice none 0 0]) rfl rfl rfl rfl rfl hs0 infoMx rfl (onesMx _ _ _ _ _ _ _ _ _ _ _ _) ?_; intro w2 hq2 hheap hoth hbel; have hb2 := hbel _ _ (Nat.le_refl _) hb0; clear hoth hbel hheap)
    have HB2 : Hid (Below w.heap.size w w2) := HB1.out.trans (hb2.mono HB1.out.size)
    go_ret2
    exact ⟨.slice (some ⟨w2.heap.size, 0, none⟩) 0 0, by rw [HE.out]; rfl, by rw [HF.out]; exact (ZOwn.of (slit0 w2)).wide HB2.out.size (Nat.le_refl _), HB2.out.alloc HB2.out.size _⟩
  · have HE : Hid (quotB wi pu n ls m = (pRem (topL ls n wi.toNat m) (zerL n)).isEmpty) := by show _ = _; rw [HQB.out, ← Bool.and_assoc, h1, Bool.true_and]
    obtain ⟨s0, s1, s2, s3⟩ := HSM.out h1
    have HB1 : Hid (Below w.heap.size w w1) := HB.out.trans (hb1.mono HB.out.size)
    obtain ⟨V0, hV0, hb0, hs0⟩ := box1 w1 154 #[.slice none 0 0, .slice none 0 0, .slice none 0 0, .slice none 0 0]
    have CQ : Hid (∀ V, Below w1.heap.size w1 V → Calls Tryz.prog 130 #[.agg #[.slice a0 n0 c0, .slice a1 n1 c1, .slice a2 n2 c2, .slice a3 n3 c3]] V fun e w' => ∃ q, e = .returned (.tuple #[q, .bool (quotB wi pu n ls m)]) ∧ ZOwn V.heap.size w'.heap.size w' q (quotL wi pu n ls m) ∧ Below V.heap.size V w') := fun V hV => by
      have h := iQuotient_any a0 n0 c0 a1 n1 c1 a2 n2 c2 a3 n3 c3 _ _ _ _ s0 s1 s2 s3 V ((hA.on hV).wide hV.size) ((hB.on hV).wide hV.size) ((hC.on hV).wide hV.size) ((hZ.on hV).wide hV.size)
      rw [HQL.out, HE.out]
      exact h
    go_wp2_with (first
      | (refine store_blkS (cs' := #[.slice a0 n0 c0, .slice a1 n1 c1, .slice a2 n2 c2, .slice a3 n3 c3]) rfl rfl rfl rfl rfl hs0 infoMx rfl (onesMx _ _ _ _ _ _ _ _ _ _ _ _) ?_; intro w2 hq2 hheap hoth hbel; have hb2 := hbel _ _ (Nat.le_refl _) hb0; clear hoth hbel hheap)
      | (refine load_blk rfl rfl rfl hq2 Tryz.underlying154 infoMx ?_)
      | (go_at_call 130; refine (CQ.out _ hb2).mono ?_; rintro e w3 ⟨q, rfl, hq, hb3⟩))
    have HB2 : Hid (Below w.heap.size w w2) := HB1.out.trans (hb2.mono HB1.out.size)
    go_ret2
    exact ⟨q, rfl, hq.wide HB2.out.size (Nat.le_refl _), HB2.out.trans (hb3.mono HB2.out.size)⟩

end Go.Proofs.YthnahalboomkoaaGreat

/-
  The walks of what satisfies a system, the program's and the specification's.
  (-DROP-: what the seat lacks is left out.)
-/
namespace Go.Proofs.YthnahalboomkoaaGreat
open Go.RowKit

theorem sysOk_wires {wi pu : Int} {n : Nat} {ls : List (List Int)} (h : sysOk wi pu n ls = true) : 1 ≤ wi := by
  unfold sysOk at h
  simp only [Bool.and_eq_true, decide_eq_true_eq] at h
  exact h.1.1
theorem wide_len {l : List Int} {m : Int} (h : wide l m = true) : (l.length : Int) = m := by
  unfold wide at h
  simp only [Bool.and_eq_true, decide_eq_true_eq] at h
  exact h.1

set_option maxHeartbeats 1600000 in
set_option maxRecDepth 100000 in
theorem iSat_any (wi pu : Int) (hw0 : (Lit.int .i64 wi).wf = true) (a : Option Addr) (n c : Nat) (hn : n ≤ 9223372036854775807) (ls : List (List Int)) (hz : ∀ j, (ls.getD j []).length ≤ 9223372036854775807) (am : Option Addr) (cm : Nat) (m : List Int) (hm : m.length ≤ 9223372036854775807) (w : World) (hA : NAt 3 w w.heap.size (.slice a n c) n ls) (AM : IntsAt w am m.length w.heap.size (fun j => m.getD j 0)) :
    Calls Tryz.prog 50 #[sysV wi pu (.slice a n c), .slice am m.length cm] w fun e w' => e = .returned (.bool (sysSo wi pu n ls m)) ∧ Below w.heap.size w w' := by
  have HA : Hid (NAt 3 w w.heap.size (.slice a n c) n ls) := hA
  have HM : Hid (IntsAt w am m.length w.heap.size (fun j => m.getD j 0)) := AM
  have hlen : Hid (ls.length = n * 3) := hA.1
  have HZ : Hid (∀ j, (ls.getD j []).length ≤ 9223372036854775807) := hz
  obtain ⟨W, hW, hb, hx⟩ := box1 w 26 #[.int .i64 wi, .int .i64 pu, .slice a n c]
  have CO : Hid (Calls Tryz.prog 57 #[sysV wi pu (.slice a n c)] W fun e w' => e = .returned (.bool (sysOk wi pu n ls)) ∧ Below W.heap.size W w') := iSysOk_any wi pu hw0 a n c hn ls hz W ((hA.on hb).wide hb.size)
  have CW : Hid (∀ w', Below W.heap.size W w' → Calls Tryz.prog 52 #[.slice am m.length cm, .int .i64 wi] w' fun e w'' => e = .returned (.bool (wide m wi)) ∧ Below w'.heap.size w' w'') := fun w' hw => iWide_any am cm m wi hm w' ((AM.on (hb.trans (hw.mono hb.size))).wide (Nat.le_trans hb.size hw.size))
  have HE : Hid (sysSo wi pu n ls m = (sysOk wi pu n ls && (wide m wi && (decide (m.getD 0 0 = 1) && soN ls m n)))) := rfl
  unfold sysV at CO ⊢
  have HS1 : Hid (sysOk wi pu n ls = true → 1 ≤ wi) := sysOk_wires
  have HS2 : Hid (wide m wi = true → (m.length : Int) = wi) := wide_len
  generalize sysOk wi pu n ls = ok at CO HE HS1
  generalize wide m wi = wd at CW HE HS2
  obtain ⟨nm, hnm⟩ : ∃ nm, nm = m.length := ⟨_, rfl⟩
  have HNM : Hid (nm = m.length) := hnm
  rw [← hnm] at HM CW HS2 hm ⊢
  clear hnm hA AM hz
  cases ok
  · have HF : Hid (sysSo wi pu n ls m = false) := HE
    go_enter Tryz.func50, Tryz.ntmps50
    go_wp2_with (refine load_blk rfl rfl rfl hx Tryz.underlying26 infoSy ?_)
    clear hW
    refine CO.out.mono ?_
    rintro e w1 ⟨rfl, b1⟩
    have hB1 := below_then hb b1
    go_wp2
    go_ret
    exact ⟨by rw [HF.out]; rfl, hB1⟩
  have gw : 1 ≤ wi := HS1.out rfl
  cases wd
  · have HF : Hid (sysSo wi pu n ls m = false) := HE
    go_enter Tryz.func50, Tryz.ntmps50
    go_wp2_with (refine load_blk rfl rfl rfl hx Tryz.underlying26 infoSy ?_)
    clear hW
    refine CO.out.mono ?_
    rintro e w1 ⟨rfl, b1⟩
    have hB1 := below_then hb b1
    have q0 := (hx.on b1 hx.lt).cell 0
    go_wp2_with fail
    refine (CW.out _ b1).mono ?_
    rintro e w2 ⟨rfl, b2⟩
    have hB2 := below_then hB1 b2
    go_wp2
    go_ret
    exact ⟨by rw [HF.out]; rfl, hB2⟩
  have gl : 0 < nm := by have := HS2.out rfl; omega
  obtain ⟨bm, offm, rfl, hbm, zm⟩ := HM.out 0 gl
  replace zm : w.cell? ⟨bm, offm + 0, none⟩ = some (.int .i64 (m.getD 0 0)) := zm
  have HX0 : Hid (sysSo wi pu n ls m = (decide (m.getD 0 0 = 1) && soN ls m n)) := HE
  have ZM : ∀ w', Below w.heap.size w w' → w'.cell? ⟨bm, offm, none⟩ = some (.int .i64 (m.getD 0 0)) := fun w' hw => (hw.cell (p := ⟨bm, offm, none⟩) hbm).trans zm
  generalize m.getD 0 0 = x0 at ZM HX0
  clear zm hbm HS1 HS2 HE
  by_cases hx1 : x0 = 1
  · subst hx1
    have HE2 : Hid (sysSo wi pu n ls m = soN ls m n) := HX0
    clear HX0
    go_enter Tryz.func50, Tryz.ntmps50
    go_wp2_with (refine load_blk rfl rfl rfl hx Tryz.underlying26 infoSy ?_)
    clear hW
    refine CO.out.mono ?_
    rintro e w1 ⟨rfl, b1⟩
    have hB1 := below_then hb b1
    have q0 := (hx.on b1 hx.lt).cell 0
    go_wp2_with fail
    refine (CW.out _ b1).mono ?_
    rintro e w2 ⟨rfl, b2⟩
    have hB2 := below_then hB1 b2
    have hW2 := (hx.on b1 hx.lt).on b2 (hx.on b1 hx.lt).lt
    have zm := ZM _ hB2
    have q2 := hW2.cell 2
    have H0 : Hid (soN ls m 0 = true ∧ Below w.heap.size w w2 ∧ Blk w2 w.heap.size 26 #[.int .i64 wi, .int .i64 pu, .slice a n c]) := ⟨rfl, hB2, hW2⟩
    clear hB1 b1 b2 hB2 hW2 q0 CO CW hb hx
    go_wp2
    clear q2 zm ZM
    go_loopw [26] (fun i wr => ∃ k : Nat, i = .int .i64 (k : Int) ∧ k ≤ n ∧ Hid (soN ls m k = true ∧ Below w.heap.size w wr ∧ Blk wr w.heap.size 26 #[.int .i64 wi, .int .i64 pu, .slice a n c])) (fun i _ => n - (intOf i).toNat)
    case atStart => exact ⟨0, rfl, Nat.zero_le _, H0⟩
    case round =>
      obtain ⟨k, rfl, hk, HD⟩ := hrel
      clear H0
      have hx := HD.out.2.2
      have q2 := hx.cell 2
      by_cases hlt : k < n
      · have hlt' : (k : Int) < (n : Int) := by omega
        have hk0 : (0 : Int) ≤ (k : Int) := by omega
        have hB0 := HD.out.2.1
        have hws : w.heap.size ≤ wr.heap.size := hB0.size
        obtain ⟨b, off, a0, c0, a1, c1, a2, c2, rfl, hbb, z0, z1, z2, i0, i1, i2⟩ := (HA.out.on hB0).row3 hlt
        have IM := HM.out.on hB0
        have HR : Hid (∀ w', Below wr.heap.size wr w' → Calls Tryz.prog 127 #[.agg #[.slice a0 (ls.getD (k * 3) []).length c0, .slice a1 (ls.getD (k * 3 + 1) []).length c1, .slice a2 (ls.getD (k * 3 + 2) []).length c2], .slice (some ⟨bm, offm, none⟩) nm cm] w' fun e w'' => e = .returned (.bool (rowSo (ls.getD (k * 3) []) (ls.getD (k * 3 + 1) []) (ls.getD (k * 3 + 2) []) m)) ∧ Below w'.heap.size w' w'') := fun w' hw => by
          have h := HNM.out
          subst h
          exact iHolds_any a0 c0 _ (HZ.out _) a1 c1 _ (HZ.out _) a2 c2 _ (HZ.out _) _ cm m w' (((i0.wide hws).on hw).wide hw.size) (((i1.wide hws).on hw).wide hw.size) (((i2.wide hws).on hw).wide hw.size) (((IM.wide hws).on hw).wide hw.size)
        have HX : Hid (soN ls m (k + 1) = rowSo (ls.getD (k * 3) []) (ls.getD (k * 3 + 1) []) (ls.getD (k * 3 + 2) []) m) := by
          show (soN ls m k && _) = _
          rw [HD.out.1, Bool.true_and]
        generalize rowSo (ls.getD (k * 3) []) (ls.getD (k * 3 + 1) []) (ls.getD (k * 3 + 2) []) m = p at HR HX
        generalize (ls.getD (k * 3) []).length = m0 at HR z0
        generalize (ls.getD (k * 3 + 1) []).length = m1 at HR z1
        generalize (ls.getD (k * 3 + 2) []).length = m2 at HR z2
        have hB5 : Below wr.heap.size wr (wr.alloc (.cells #[.slice a0 m0 c0, .slice a1 m1 c1, .slice a2 m2 c2] 146)) := (Below.refl _ _).alloc (Nat.le_refl _) _
        clear HA HM hbb i0 i1 i2 HZ hlen HD IM HNM
        cases p
        · skip
          go_wp2_with (refine load_blk rfl rfl rfl (Blk.new _ _ _) Tryz.underlying146 infoRw ?_)
          refine (HR.out _ hB5).mono ?_
          rintro e w1 ⟨rfl, hb1⟩
          have hB1 := below_then hB5 hb1
          clear hb1 HR
          have HF : Hid (sysSo wi pu n ls m = false) := by
            show _ = _
            rw [HE2.out]
            exact soN_false ls m HX.out n (by omega)
          have hB3 : Below w.heap.size w w1 := hB0.trans (hB1.mono hws)
          clear hB0 hB5 z0 z1 z2 hx q2 hB1
          go_wp2
          go_ret
          exact ⟨by rw [HF.out]; rfl, hB3⟩
        · skip
          go_wp2_with (refine load_blk rfl rfl rfl (Blk.new _ _ _) Tryz.underlying146 infoRw ?_)
          refine (HR.out _ hB5).mono ?_
          rintro e w1 ⟨rfl, hb1⟩
          have hB1 := below_then hB5 hb1
          clear hb1 HR
          have HD2 : Hid (soN ls m (k + 1) = true ∧ Below w.heap.size w w1 ∧ Blk w1 w.heap.size 26 #[.int .i64 wi, .int .i64 pu, .slice (some ⟨b, off, none⟩) n c]) := ⟨HX.out, hB0.trans (hB1.mono hws), hx.on hB1 hx.lt⟩
          clear hB0 hB5 z0 z1 z2 hx q2 hB1
          go_wp2
          go_roundw
          case rel => exact ⟨k + 1, by go_num, hlt, HD2⟩
          case measure => simp [intOf]; omega
      · have hlt' : ¬ (k : Int) < (n : Int) := by omega
        have HF : Hid (sysSo wi pu n ls m = true) := by
          show _ = _
          rw [HE2.out, show n = k by omega]
          exact HD.out.1
        go_wp2
        go_ret
        exact ⟨by rw [HF.out]; rfl, HD.out.2.1⟩
  · have HF : Hid (sysSo wi pu n ls m = false) := by
      show _ = _
      rw [HX0.out, decide_eq_false hx1]
      rfl
    have hx1' : (x0 == 1) = false := by rw [beq_eq_false_iff_ne]; exact hx1
    have hx2' : (x0 != 1) = true := by rw [bne_iff_ne]; exact hx1
    go_enter Tryz.func50, Tryz.ntmps50
    go_wp2_with (refine load_blk rfl rfl rfl hx Tryz.underlying26 infoSy ?_)
    clear hW
    refine CO.out.mono ?_
    rintro e w1 ⟨rfl, b1⟩
    have hB1 := below_then hb b1
    have q0 := (hx.on b1 hx.lt).cell 0
    go_wp2_with fail
    refine (CW.out _ b1).mono ?_
    rintro e w2 ⟨rfl, b2⟩
    have hB2 := below_then hB1 b2
    have zm := ZM _ hB2
    go_wp2
    go_ret
    exact ⟨by rw [HF.out]; rfl, hB2⟩

end Go.Proofs.YthnahalboomkoaaGreat
