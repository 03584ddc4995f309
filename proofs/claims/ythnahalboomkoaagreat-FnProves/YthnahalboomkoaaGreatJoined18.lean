/-
  Texts of one's own, joined.
-/
import Derived.Test.YthnahalboomkoaaGreatJoined17
import Derived.Test.YthnahalboomkoaaGreatFork
import Derived.Test.YthnahalboomkoaaGreatJoined6

/-
  The walk of the specification's sum of what is told.
  (-DROP-: what the seat lacks is left out.)
-/
namespace Go.Proofs.YthnahalboomkoaaGreat
open Go.RowKit

/-- The first of the inputs, and each next one so often. -/
def inS (f : Nat → Pt) (t : Nat → Int) : Nat → Pt
  | 0 => pSum pZ (f 0)
  | k + 1 => pSum (inS f t k) (pTimes (t k) (f (k + 1)))
def inSum (f : Nat → Pt) (n : Nat) (m : List Int) : Pt := if n = m.length + 1 then inS f (fun j => m.getD j 0) m.length else pZ
theorem inS_gx (x t : Nat → Int) : ∀ k, inS (fun j => gx (x j)) t k = gx (x 0 + sumZ (fun j => t j * x (j + 1)) k)
  | 0 => by
    show pSum (gx 0) (gx (x 0)) = gx (x 0 + 0)
    rw [gx_add]
    exact gx_dp (dp_zero.of (by omega))
  | k + 1 => by
    show pSum (inS (fun j => gx (x j)) t k) (pTimes (t k) (gx (x (k + 1)))) = gx (x 0 + (sumZ (fun j => t j * x (j + 1)) k + t k * x (k + 1)))
    rw [inS_gx x t k, gx_times, gx_add, Int.add_assoc]
/-- Keys, with their list as a value. -/
def keyC (A B G D : Pt) (i : Value) : Array Value := #[.int .i64 A.1, .int .i64 A.2.1, .bool A.2.2, .int .i64 B.1, .int .i64 B.2.1, .bool B.2.2, .int .i64 G.1, .int .i64 G.2.1, .bool G.2.2, .int .i64 D.1, .int .i64 D.2.1, .bool D.2.2, i]

set_option maxHeartbeats 3200000 in
set_option maxRecDepth 100000 in
theorem sInput_any (A B G D : Pt) (a : Option Addr) (n cp : Nat) (hn : n ≤ 1048576) (f : Nat → Pt) (am : Option Addr) (cm : Nat) (m : List Int) (hm : m.length ≤ 1048576) (w : World) (hA : PtsAt w a n w.heap.size f) (hB : IntsAt w am m.length w.heap.size (fun j => m.getD j 0)) :
    Calls Tryz.prog 33 #[.agg (keyC A B G D (.slice a n cp)), .slice am m.length cm] w fun e w' => e = .returned (pv (inSum f n m)) ∧ Below w.heap.size w w' := by
  obtain ⟨W, hW, hb, hs, hr⟩ := boxes1r w 38 35 (keyC A B G D (.slice a n cp)) #[.int .i64 0, .int .i64 0, .bool false]
  have HB0 : Hid (Below w.heap.size w W ∧ Blk W w.heap.size 38 (keyC A B G D (.slice a n cp)) ∧ Blk W (w.heap.size + 1) 35 #[.int .i64 0, .int .i64 0, .bool false]) := ⟨hb, hs, hr⟩
  have HA : Hid (PtsAt w a n w.heap.size f) := hA
  have HM : Hid (IntsAt w am m.length w.heap.size (fun j => m.getD j 0)) := hB
  have HZ : Hid (∀ w, Calls Tryz.prog 106 #[] w fun e w' => e = .returned (.agg #[.int .i64 0, .int .i64 0, .bool true]) ∧ Below w.heap.size w w') := sZero_any
  have HI : Hid (inSum f n m = if n = m.length + 1 then inS f (fun j => m.getD j 0) m.length else pZ) := rfl
  have hs1 : w.heap.size + 1 < W.heap.size := hr.lt
  have qk : W.cell? ⟨w.heap.size, 12, none⟩ = some (.slice a n cp) := hs.cell 12
  clear hA hB hb hs hr
  unfold keyC at *
  generalize hml : m.length = ml at *
  clear hml
  by_cases hnm : n = ml + 1
  · have HE : Hid (inSum f n m = inS f (fun j => m.getD j 0) ml) := by show _ = _; rw [HI.out, if_pos hnm]
    have hnm' : (n : Int) = (ml : Int) + 1 := by omega
    have hwr : IntKind.i64.wrap ((ml : Int) + 1) = (ml : Int) + 1 := IntWalk.i64_in _ (by omega)
    obtain ⟨b, off, rfl, hbl, z0, z1, z2⟩ := HA.out 0 (by omega)
    have hn0 : (0 : Int) < (n : Int) := by omega
    have hn00 : 0 < n := by omega
    have HP : Hid (∀ X, Calls Tryz.prog 74 #[.agg #[.int .i64 0, .int .i64 0, .bool true], pv (f 0)] X fun e w' => e = .returned (pv (inS f (fun j => m.getD j 0) 0)) ∧ Below X.heap.size X w') := sPAdd_any pZ (f 0)
    have HNM : Hid (n = ml + 1) := hnm
    clear hnm
    have HC : Hid (∀ X, Below W.heap.size W X → X.cell? ⟨w.heap.size, 12, none⟩ = some (.slice (some ⟨b, off, none⟩) n cp) ∧ X.cell? ⟨b, off, none⟩ = some (.int .i64 (f 0).1) ∧ X.cell? ⟨b, off + 1, none⟩ = some (.int .i64 (f 0).2.1) ∧ X.cell? ⟨b, off + 2, none⟩ = some (.bool (f 0).2.2)) := fun X hX => by
      have h := HB0.out.1.trans (hX.mono HB0.out.1.size)
      refine ⟨(hX.cell (p := ⟨w.heap.size, 12, none⟩) (by show w.heap.size < _; omega)).trans qk, ?_, ?_, ?_⟩
      · have e := (h.cell (p := ⟨b, off + 0 * 3, none⟩) hbl).trans z0; simpa using e
      · have e := (h.cell (p := ⟨b, off + 0 * 3 + 1, none⟩) hbl).trans z1; simpa using e
      · have e := (h.cell (p := ⟨b, off + 0 * 3 + 2, none⟩) hbl).trans z2; simpa using e
    generalize hF : f 0 = F at HP HC
    obtain ⟨S0, hS0⟩ : ∃ S0, S0 = inS f (fun j => m.getD j 0) 0 := ⟨_, rfl⟩
    have HS0 : Hid (S0 = inS f (fun j => m.getD j 0) 0) := hS0
    rw [← hS0] at HP
    unfold pv at HP
    clear hS0 hF z0 z1 z2
    go_enter Tryz.func33, Tryz.ntmps33
    go_wp2_with fail
    clear hW qk
    refine wp_region_to [(1, false), (2, false), (3, false), (4, false)] 4 #[false, true, true, true, true, false, false, false] (fun wz => Below W.heap.size W wz) mixes (by kernel_rfl) (Below.refl _ _).drew ?_
    repeat (refine ord_float rfl rfl (fun K hK => ⟨_, (fun w' hw => by have q0 := (HC.out _ hw).1; have q1 :=  (HC.out _ hw).2.1; have q2 :=  (HC.out _ hw).2.2.1; have q3 :=  (HC.out _ hw).2.2.2; go_simp; exact rfl), ?_⟩); go_simp; refine hK _ ?_; clear hK K)
    refine ord_nil ?_
    have hP0 : Below W.heap.size W W.drew := (Below.refl _ _).drew
    generalize W.drew = W7 at hP0 ⊢
    apply anyH_fork3 (n := 1) (i := 0) (i' := 5) (j := 6) (G := fun g1 _ w' => Below W.heap.size W w' ∧ W.heap.size ≤ g1 ∧ Blk w' g1 35 #[.int .i64 0, .int .i64 0, .bool false]) (L3 := #[true, true, true, true, true, true, true, false])
    · kernel_rfl
    · refine ord_call rfl rfl (fun K hK => ⟨_, _, (by go_simp <;> first | exact rfl | exact ⟨rfl, rfl⟩), ?_⟩)
      refine (HZ.out _).mono ?_
      rintro e w8 ⟨rfl, hb8⟩
      have hB8 := below_then hP0 hb8
      refine ⟨_, rfl, hB8, ?_⟩
      go_simp
      refine hK _ _ ?_
      clear hK K hb8
      refine ord_nil ⟨hB8, ?_, ?_⟩
      · refine ord_call rfl rfl (fun K hK => ⟨_, _, (by go_simp <;> first | exact rfl | exact ⟨rfl, rfl⟩), ?_⟩)
        refine (HP.out _).mono ?_
        rintro e w9 ⟨rfl, hb9⟩
        have hB9 := below_then hB8 hb9
        refine ⟨_, rfl, hB9, ?_⟩
        go_simp
        refine hK _ _ ?_
        clear hK K hb9
        refine ord_op rfl rfl (fun K hK => ⟨.pointer (some ⟨w9.heap.size, 0, none⟩), w9.alloc (.cells #[.int .i64 0, .int .i64 0, .bool false] 35), (by go_simp <;> rfl), hB9.alloc hB9.size _, ?_⟩)
        go_simp
        refine hK _ _ ?_
        clear hK K
        obtain ⟨X2, hE2, hbX2, k2⟩ := box1 w9 35 #[.int .i64 0, .int .i64 0, .bool false]
        rw [hE2]
        have hB10 := below_then hB9 hbX2
        have hg : W.heap.size ≤ w9.heap.size := hB9.size
        generalize w9.heap.size = g1 at k2 hg ⊢
        obtain ⟨g2, _⟩ : ∃ g2 : Nat, g2 = 0 := ⟨_, rfl⟩
        exact ord_nil ⟨g1, g2, rfl, hB10, hg, k2⟩
      · refine ord_op rfl rfl (fun K hK => ⟨.pointer (some ⟨w8.heap.size, 0, none⟩), w8.alloc (.cells #[.int .i64 0, .int .i64 0, .bool false] 35), (by go_simp <;> rfl), hB8.alloc hB8.size _, ?_⟩)
        go_simp
        refine hK _ _ ?_
        clear hK K
        obtain ⟨X2, hE2, hbX2, k2⟩ := box1 w8 35 #[.int .i64 0, .int .i64 0, .bool false]
        rw [hE2]
        have hB10 := below_then hB8 hbX2
        have hg : W.heap.size ≤ w8.heap.size := hB8.size
        refine ord_call rfl rfl (fun K hK => ⟨_, _, (by go_simp <;> first | exact rfl | exact ⟨rfl, rfl⟩), ?_⟩)
        refine (HP.out _).mono ?_
        rintro e w9 ⟨rfl, hb9⟩
        have hB9 := below_then hB10 hb9
        have k3 := k2.on hb9 k2.lt
        refine ⟨_, rfl, hB9, ?_⟩
        go_simp
        refine hK _ _ ?_
        clear hK K hb9 k2
        generalize w8.heap.size = g1 at k3 hg ⊢
        obtain ⟨g2, _⟩ : ∃ g2 : Nat, g2 = 0 := ⟨_, rfl⟩
        exact ord_nil ⟨g1, g2, rfl, hB9, hg, k3⟩
    · refine ord_op rfl rfl (fun K hK => ⟨.pointer (some ⟨W7.heap.size, 0, none⟩), W7.alloc (.cells #[.int .i64 0, .int .i64 0, .bool false] 35), (by go_simp <;> rfl), hP0.alloc hP0.size _, ?_⟩)
      go_simp
      refine hK _ _ ?_
      clear hK K
      obtain ⟨X2, hE2, hbX2, k2⟩ := box1 W7 35 #[.int .i64 0, .int .i64 0, .bool false]
      rw [hE2]
      have hB10 := below_then hP0 hbX2
      have hg : W.heap.size ≤ W7.heap.size := hP0.size
      refine ord_call rfl rfl (fun K hK => ⟨_, _, (by go_simp <;> first | exact rfl | exact ⟨rfl, rfl⟩), ?_⟩)
      refine (HZ.out _).mono ?_
      rintro e w8 ⟨rfl, hb8⟩
      have hB8 := below_then hB10 hb8
      have k3 := k2.on hb8 k2.lt
      refine ⟨_, rfl, hB8, ?_⟩
      go_simp
      refine hK _ _ ?_
      clear hK K hb8
      refine ord_call rfl rfl (fun K hK => ⟨_, _, (by go_simp <;> first | exact rfl | exact ⟨rfl, rfl⟩), ?_⟩)
      refine (HP.out _).mono ?_
      rintro e w9 ⟨rfl, hb9⟩
      have hB9 := below_then hB8 hb9
      have k4 := k3.on hb9 k3.lt
      refine ⟨_, rfl, hB9, ?_⟩
      go_simp
      refine hK _ _ ?_
      clear hK K hb9 k2 k3
      generalize W7.heap.size = g1 at k4 hg ⊢
      obtain ⟨g2, _⟩ : ∃ g2 : Nat, g2 = 0 := ⟨_, rfl⟩
      exact ord_nil ⟨g1, g2, rfl, hB9, hg, k4⟩
    · rintro g1 g2 w' ⟨hB1, hg1, hk1⟩
      refine anyH_ord [(7, true)] (by kernel_rfl) hB1 ?_
      refine ord_store (cs' := #[.int .i64 S0.1, .int .i64 S0.2.1, .bool S0.2.2]) rfl rfl rfl rfl rfl rfl hk1 infoP rfl (ones3 _ _ _) ?_
      intro V hV hoth hbel
      have hBV : Below W.heap.size W V := hbel _ _ hg1 hB1
      refine ⟨hBV, ord_nil ?_⟩
      have HV : Hid (Blk V g1 35 (pc (inS f (fun j => m.getD j 0) 0)) ∧ Blk V (w.heap.size + 1) 35 #[.int .i64 0, .int .i64 0, .bool false] ∧ Below w.heap.size w V ∧ V.cell? ⟨w.heap.size, 12, none⟩ = some (.slice (some ⟨b, off, none⟩) n cp)) := ⟨by rw [← HS0.out]; exact hV, HB0.out.2.2.on hBV HB0.out.2.2.lt, HB0.out.1.trans (hBV.mono HB0.out.1.size), (HC.out _ hBV).1⟩
      clear hoth hbel hV hBV hB1 hk1 hP0 HP HZ
      go_wp2
      go_loopw [6] (fun i wr => ∃ k : Nat, i = .int .i64 (k : Int) ∧ k ≤ ml ∧ Hid (Blk wr g1 35 (pc (inS f (fun j => m.getD j 0) k)) ∧ Blk wr (w.heap.size + 1) 35 #[.int .i64 0, .int .i64 0, .bool false] ∧ Below w.heap.size w wr ∧ wr.cell? ⟨w.heap.size, 12, none⟩ = some (.slice (some ⟨b, off, none⟩) n cp))) (fun i _ => ml - (intOf i).toNat)
      case atStart => exact ⟨0, rfl, Nat.zero_le _, HV⟩
      case round =>
        obtain ⟨k, rfl, hk, HW⟩ := hrel
        clear HV
        by_cases hlt : k < ml
        · have hlt' : (k : Int) < (ml : Int) := by omega
          have hk0 : (0 : Int) ≤ (k : Int) := by omega
          obtain ⟨k1, hk1⟩ : ∃ k1 : Nat, k1 = k + 1 := ⟨_, rfl⟩
          have hkk : (k : Int) + 1 = (k1 : Int) := by omega
          have hkw : IntKind.i64.wrap (k1 : Int) = (k1 : Int) := IntWalk.i64_in _ (by omega)
          have hk10 : (0 : Int) ≤ (k1 : Int) := by omega
          have hk1n : (k1 : Int) < (n : Int) := by omega
          have hk1m : k1 < n := by omega
          obtain ⟨b', off', hab, hbb, z0, z1, z2⟩ := (HA.out.on HW.out.2.2.1) k1 hk1m
          have hbo : b = b' ∧ off = off' := by injection hab with e; injection e with e1 e2; exact ⟨e1, e2⟩
          obtain ⟨rfl, rfl⟩ := hbo
          obtain ⟨b2, o2, rfl, hb2, c2⟩ := (HM.out.on HW.out.2.2.1) k hlt
          replace c2 : wr.cell? ⟨b2, o2 + k, none⟩ = some (.int .i64 (m.getD k 0)) := c2
          have hs3 := HW.out.1
          have hr3 := HW.out.2.1
          have hB3 := HW.out.2.2.1
          have qk := HW.out.2.2.2
          have CT : Hid (∀ X, Calls Tryz.prog 90 #[.int .i64 (m.getD k 0), pv (f k1)] X fun e w' => e = .returned (pv (pTimes (m.getD k 0) (f k1))) ∧ Below X.heap.size X w') := sTimes_any (m.getD k 0) (f k1)
          have HS : Hid (∀ X, Calls Tryz.prog 74 #[pv (inS f (fun j => m.getD j 0) k), pv (pTimes (m.getD k 0) (f k1))] X fun e w' => e = .returned (pv (inS f (fun j => m.getD j 0) (k + 1))) ∧ Below X.heap.size X w') := by
            have h := sPAdd_any (inS f (fun j => m.getD j 0) k) (pTimes (m.getD k 0) (f k1))
            rw [hk1] at h ⊢
            exact h
          generalize inS f (fun j => m.getD j 0) k = S at HS hs3
          obtain ⟨S2, hS2⟩ : ∃ S2, S2 = inS f (fun j => m.getD j 0) (k + 1) := ⟨_, rfl⟩
          rw [← hS2] at HS
          have HE2 : Hid (S2 = inS f (fun j => m.getD j 0) (k + 1)) := hS2
          clear hS2 hk1
          generalize pTimes (m.getD k 0) (f k1) = PT at HS CT
          generalize f k1 = F1 at CT z0 z1 z2
          generalize m.getD k 0 = y at CT c2
          unfold pv at HS CT
          unfold pc at hs3
          have Z : Hid (∀ w', Below wr.heap.size wr w' → w'.cell? ⟨b, off + k1 * 3, none⟩ = some (.int .i64 F1.1) ∧ w'.cell? ⟨b, off + k1 * 3 + 1, none⟩ = some (.int .i64 F1.2.1) ∧ w'.cell? ⟨b, off + k1 * 3 + 2, none⟩ = some (.bool F1.2.2) ∧ w'.cell? ⟨b2, o2 + k, none⟩ = some (.int .i64 y) ∧ w'.cell? ⟨w.heap.size, 12, none⟩ = some (.slice (some ⟨b, off, none⟩) n cp)) := fun w' hw => ⟨(hw.cell (p := ⟨b, off + k1 * 3, none⟩) (by show b < _; have := hB3.size; omega)).trans z0, (hw.cell (p := ⟨b, off + k1 * 3 + 1, none⟩) (by show b < _; have := hB3.size; omega)).trans z1, (hw.cell (p := ⟨b, off + k1 * 3 + 2, none⟩) (by show b < _; have := hB3.size; omega)).trans z2, (hw.cell (p := ⟨b2, o2 + k, none⟩) (by show b2 < _; have := hB3.size; omega)).trans c2, (hw.cell (p := ⟨w.heap.size, 12, none⟩) (by show w.heap.size < _; have := hr3.lt; omega)).trans qk⟩
          have T0 : Below wr.heap.size wr wr.drew := (Below.refl _ _).drew
          clear HW hbb z0 z1 z2 c2 qk hab HA HM hnm' hwr
          go_wp2_with fail
          refine wp_region_last [(0, false), (1, false), (2, false), (3, false), (4, false), (5, false), (6, false), (7, false), (8, false), (9, false), (10, false), (11, true), (12, true)] 13 (fun wz => Below wr.heap.size wr wz) mixes (by kernel_rfl) T0 ?_
          repeat (refine ord_float rfl rfl (fun K hK => ⟨_, (fun w' hw => by have q0 := (hs3.on hw hs3.lt).cell 0; have q1 :=  (hs3.on hw hs3.lt).cell 1; have q2 :=  (hs3.on hw hs3.lt).cell 2; have q3 :=  (Z.out _ hw).1; have q4 :=  (Z.out _ hw).2.1; have q5 :=  (Z.out _ hw).2.2.1; have q6 :=  (Z.out _ hw).2.2.2.1; have q7 :=  (Z.out _ hw).2.2.2.2; go_simp; exact rfl), ?_⟩); go_simp; refine hK _ ?_; clear hK K)
          refine ord_call rfl rfl (fun K hK => ⟨_, _, (by go_simp <;> first | exact rfl | exact ⟨rfl, rfl⟩), ?_⟩)
          refine (CT.out _).mono ?_
          rintro e u1 ⟨rfl, hu1⟩
          have T1 := below_then T0 hu1
          refine ⟨_, rfl, T1, ?_⟩
          go_simp
          refine hK _ _ ?_
          clear hK K
          refine ord_call rfl rfl (fun K hK => ⟨_, _, (by go_simp <;> first | exact rfl | exact ⟨rfl, rfl⟩), ?_⟩)
          refine (HS.out _).mono ?_
          rintro e u2 ⟨rfl, hu2⟩
          have T2 := below_then T1 hu2
          refine ⟨_, rfl, T2, ?_⟩
          go_simp
          refine hK _ _ ?_
          clear hK K
          refine ord_nil ?_
          have hs4 := hs3.on T2 hs3.lt
          have hr4 := hr3.on T2 hr3.lt
          have hB4 := below_then hB3 T2
          have q4 := (Z.out _ T2).2.2.2.2
          have hr3l := hr3.lt
          refine last_storeB (cs' := #[.int .i64 S2.1, .int .i64 S2.2.1, .bool S2.2.2]) rfl rfl rfl rfl rfl rfl hs4 infoP rfl (ones3 _ _ _) ?_
          intro V hs5 hheap hoth hbel
          have hr5 := hoth _ _ _ (by omega) hr4
          have hB5 := hbel _ _ (by omega) hB4
          have q5 : V.cell? ⟨w.heap.size, 12, none⟩ = some (.slice (some ⟨b, off, none⟩) n cp) := (World.cell?_of_block (a := ⟨w.heap.size, 12, none⟩) (hheap w.heap.size (by omega))).trans q4
          clear hoth hbel hheap hs4 hr4 hB4 hs3 hr3 hB3 T0 T1 T2 hu1 hu2 Z CT HS q4
          go_wp2
          go_roundw
          case rel => exact ⟨k + 1, by go_num, hlt, ⟨by rw [← HE2.out]; exact hs5, hr5, hB5, q5⟩⟩
          case measure => simp [intOf]; omega
        · have hlt' : ¬ (k : Int) < (ml : Int) := by omega
          have HK : Hid (k = ml) := (show k = ml by omega)
          have hs3 := HW.out.1
          have hr3 := HW.out.2.1
          have hB3 := HW.out.2.2.1
          clear HW
          go_wp2_with (first | (refine load_blk rfl rfl rfl hs3 Tryz.underlying35 infoP ?_) | (refine store_blk (cs' := pc (inS f (fun j => m.getD j 0) k)) rfl rfl rfl rfl rfl hr3 infoP rfl (ones3 _ _ _) ?_; intro V h5 hoth hbel; have hbV := hbel _ _ (by omega) hB3; clear hoth hbel))
          refine bodyPost_ret_by (result_blk rfl rfl h5 Tryz.underlying35 infoP) rfl ⟨by rw [HE.out, ← HK.out]; rfl, hbV⟩
  · have HE : Hid (inSum f n m = pZ) := by show _ = _; rw [HI.out, if_neg hnm]
    have hnm' : ¬ (n : Int) = (ml : Int) + 1 := by omega
    have hwr : IntKind.i64.wrap ((ml : Int) + 1) = (ml : Int) + 1 := IntWalk.i64_in _ (by omega)
    go_enter Tryz.func33, Tryz.ntmps33
    go_wp2_with fail
    clear hW
    refine (HZ.out _).mono ?_
    rintro e w1 ⟨rfl, hb1⟩
    have hr3 := HB0.out.2.2.on hb1 HB0.out.2.2.lt
    have hB3 : Below w.heap.size w w1 := HB0.out.1.trans (hb1.mono HB0.out.1.size)
    go_wp2_with (refine store_blk (cs' := pc pZ) rfl rfl rfl rfl rfl hr3 infoP rfl (ones3 _ _ _) ?_; intro V h5 hoth hbel; have hbV := hbel _ _ (by omega) hB3; clear hoth hbel)
    refine bodyPost_ret_by (result_blk rfl rfl h5 Tryz.underlying35 infoP) rfl ⟨by rw [HE.out]; rfl, hbV⟩

end Go.Proofs.YthnahalboomkoaaGreat

/-
  The walk of the program's sum of what is told.
  (-DROP-: what the seat lacks is left out.)
-/
namespace Go.Proofs.YthnahalboomkoaaGreat
open Go.RowKit

theorem infoKs : (Tryz.prog.info? 38).map (·.size) = some 13 := by kernel_rfl
/-- The sum of what is told, as the program makes it. -/
def inSumI (f : Nat → Pt) (n : Nat) (m : List Int) : Pt := if n = m.length + 1 then wEach (f 0) (fun j => m.getD j 0) (fun j => f (j + 1)) m.length else pZ
theorem pts_rest {w : World} {b off p c : Nat} {f : Nat → Pt} (h : PtsAt w (some ⟨b, off, none⟩) (p + 1) c f) : PtsAt w (some ⟨b, off + 3, none⟩) p c (fun j => f (j + 1)) := fun j hj => by
  obtain ⟨b', o', e, hb, z0, z1, z2⟩ := h (j + 1) (by omega)
  injection e with e
  injection e with e1 e2
  subst e1 e2
  have e3 : off + (j + 1) * 3 = off + 3 + j * 3 := by omega
  rw [e3] at z0 z1 z2
  exact ⟨b, off + 3, rfl, hb, z0, z1, z2⟩
theorem pts_none {w : World} {a : Option Addr} {c : Nat} {f : Nat → Pt} : PtsAt w a 0 c f := fun j hj => absurd hj (by omega)

set_option maxHeartbeats 3200000 in
set_option maxRecDepth 100000 in
theorem iInput_any (A B G D : Pt) (a : Option Addr) (n cp : Nat) (hn : n ≤ 1048576) (hcp : n ≤ cp) (f : Nat → Pt) (am : Option Addr) (cm : Nat) (m : List Int) (hm : m.length ≤ 1048576) (w : World) (hA : PtsAt w a n w.heap.size f) (hB : IntsAt w am m.length w.heap.size (fun j => m.getD j 0)) :
    Calls Tryz.prog 17 #[.agg (keyC A B G D (.slice a n cp)), .slice am m.length cm] w fun e w' => e = .returned (pv (inSumI f n m)) ∧ Below w.heap.size w w' := by
  obtain ⟨W, hW, hb, hs, hr⟩ := boxes1r w 38 35 #[.int .i64 A.1, .int .i64 A.2.1, .bool A.2.2, .int .i64 B.1, .int .i64 B.2.1, .bool B.2.2, .int .i64 G.1, .int .i64 G.2.1, .bool G.2.2, .int .i64 D.1, .int .i64 D.2.1, .bool D.2.2, .slice a n cp] #[.int .i64 0, .int .i64 0, .bool false]
  have hl1 : w.heap.size + 1 < W.heap.size := hr.lt
  have HA : Hid (PtsAt w a n w.heap.size f) := hA
  have HB : Hid (IntsAt w am m.length w.heap.size (fun j => m.getD j 0)) := hB
  have q12 : W.cell? ⟨w.heap.size, 12, none⟩ = some (.slice a n cp) := hs.cell 12
  have HS : Hid (inSumI f n m = if n = m.length + 1 then wEach (f 0) (fun j => m.getD j 0) (fun j => f (j + 1)) m.length else pZ) := rfl
  obtain ⟨R, hR⟩ : ∃ R, R = inSumI f n m := ⟨_, rfl⟩
  rw [← hR] at HS ⊢
  clear hA hB hR
  obtain ⟨ml, hml⟩ : ∃ ml, ml = m.length := ⟨_, rfl⟩
  rw [← hml] at HB HS hm ⊢
  clear hml
  have hwr : IntKind.i64.wrap ((ml : Int) + 1) = (ml : Int) + 1 := IntWalk.i64_in _ (by omega)
  unfold keyC
  by_cases hnm : n = ml + 1
  · subst hnm
    have HR : Hid (R = wEach (f 0) (fun j => m.getD j 0) (fun j => f (j + 1)) ml) := by show _ = _; rw [HS.out, if_pos rfl]
    have CW : Hid (∀ ad cc X, Below w.heap.size w X → PtsAt X ad ml X.heap.size (fun j => f (j + 1)) → Calls Tryz.prog 54 #[.agg #[.int .i64 (f 0).1, .int .i64 (f 0).2.1, .bool (f 0).2.2], .slice am ml cm, .slice ad ml cc] X fun e w' => e = .returned (.agg #[.int .i64 R.1, .int .i64 R.2.1, .bool R.2.2]) ∧ Below X.heap.size X w') := fun ad cc X hX hP => by
      have h := iWith_any (f 0) am ml cm (fun j => m.getD j 0) ad ml cc (Nat.le_refl _) (by omega) (fun j => f (j + 1)) X ((HB.out.on hX).wide hX.size) hP
      rw [← HR.out] at h
      exact h
    obtain ⟨b, off, ea, hbl, z0, z1, z2⟩ := HA.out 0 (by omega)
    subst ea
    rw [Nat.zero_mul, Nat.add_zero] at z0 z1 z2
    have HPT : Hid (∀ X, Below w.heap.size w X → (cp = 1 → PtsAt X (some ⟨b, off, none⟩) ml X.heap.size (fun j => f (j + 1))) ∧ PtsAt X (some ⟨b, off + 3, none⟩) ml X.heap.size (fun j => f (j + 1))) := fun X hX => ⟨fun h => by
        have h0 : ml = 0 := by omega
        rw [h0]; exact pts_none, pts_rest ((HA.out.on hX).wide hX.size)⟩
    have ZC : Hid (∀ X, Below w.heap.size w X → X.cell? ⟨b, off, none⟩ = some (.int .i64 (f 0).1) ∧ X.cell? ⟨b, off + 1, none⟩ = some (.int .i64 (f 0).2.1) ∧ X.cell? ⟨b, off + 2, none⟩ = some (.bool (f 0).2.2)) := fun X hX => ⟨(hX.cell (p := ⟨b, off, none⟩) hbl).trans z0, (hX.cell (p := ⟨b, off + 1, none⟩) hbl).trans z1, (hX.cell (p := ⟨b, off + 2, none⟩) hbl).trans z2⟩
    generalize f 0 = F at CW ZC
    clear z0 z1 z2 HA HB HS HR
    have hp1 : 0 < ml + 1 := by omega
    have hp2 : (0 : Int) < ((ml + 1 : Nat) : Int) := by omega
    have hp3 : (1 : Int) ≤ ((ml + 1 : Nat) : Int) := by omega
    have hp4 : (1 : Int) ≤ (ml : Int) + 1 := by omega
    have hp5 : ¬ (ml : Int) + 1 < 1 := by omega
    have hp6 : (0 : Int) < (ml : Int) + 1 := by omega
    go_enter Tryz.func17, Tryz.ntmps17
    go_wp2_with fail
    clear hW q12
    have T0 : Below W.heap.size W W.drew := (Below.refl _ _).drew
    have TW : Hid (∀ X, Below W.heap.size W X → Below w.heap.size w X) := fun X hX => hb.trans (hX.mono hb.size)
    by_cases hc1 : cp = 1
    · subst hc1
      have hm0 : ml = 0 := by omega
      subst hm0
      refine wp_region_last [(0, false), (1, false), (2, false), (3, false), (4, false), (5, false), (6, false), (7, false), (8, true)] 9 (fun wz => Below W.heap.size W wz) mixes (by kernel_rfl) T0 ?_
      repeat (refine ord_float rfl rfl (fun K hK => ⟨_, (fun w' hw => by have q0 := (hs.on hw hs.lt).cell 12; have q1 :=  (ZC.out _ (TW.out _ hw)).1; have q2 :=  (ZC.out _ (TW.out _ hw)).2.1; have q3 :=  (ZC.out _ (TW.out _ hw)).2.2; go_simp; exact rfl), ?_⟩); go_simp; refine hK _ ?_; clear hK K)
      refine ord_call rfl rfl (fun K hK => ⟨_, _, (by go_simp <;> first | exact rfl | exact ⟨rfl, rfl⟩), ?_⟩)
      refine (CW.out _ _ _ (TW.out _ T0) ((HPT.out _ (TW.out _ T0)).1 rfl)).mono ?_
      rintro e u1 ⟨rfl, hu1⟩
      have T1 := below_then T0 hu1
      refine ⟨_, rfl, T1, ?_⟩
      go_simp
      refine hK _ _ ?_
      clear hK K
      refine ord_nil ?_
      have hr4 := hr.on T1 hr.lt
      have hB4 := TW.out _ T1
      refine last_storeB (cs' := #[.int .i64 R.1, .int .i64 R.2.1, .bool R.2.2]) rfl rfl rfl rfl rfl rfl hr4 infoP rfl (ones3 _ _ _) ?_
      intro V h5 _ hoth hbel
      have hB5 := hbel _ _ (by omega) hB4
      clear hoth hbel hr4 hB4 T0 T1 hu1
      go_wp2
      refine bodyPost_ret_by (result_blk rfl rfl h5 Tryz.underlying35 infoP) rfl ⟨rfl, hB5⟩
    · refine wp_region_last [(0, false), (1, false), (2, false), (3, false), (4, false), (5, false), (6, false), (7, false), (8, true)] 9 (fun wz => Below W.heap.size W wz) mixes (by kernel_rfl) T0 ?_
      repeat (refine ord_float rfl rfl (fun K hK => ⟨_, (fun w' hw => by have q0 := (hs.on hw hs.lt).cell 12; have q1 :=  (ZC.out _ (TW.out _ hw)).1; have q2 :=  (ZC.out _ (TW.out _ hw)).2.1; have q3 :=  (ZC.out _ (TW.out _ hw)).2.2; go_simp; exact rfl), ?_⟩); go_simp; refine hK _ ?_; clear hK K)
      refine ord_call rfl rfl (fun K hK => ⟨_, _, (by go_simp <;> first | exact rfl | exact ⟨rfl, rfl⟩), ?_⟩)
      refine (CW.out _ _ _ (TW.out _ T0) (HPT.out _ (TW.out _ T0)).2).mono ?_
      rintro e u1 ⟨rfl, hu1⟩
      have T1 := below_then T0 hu1
      refine ⟨_, rfl, T1, ?_⟩
      go_simp
      refine hK _ _ ?_
      clear hK K
      refine ord_nil ?_
      have hr4 := hr.on T1 hr.lt
      have hB4 := TW.out _ T1
      refine last_storeB (cs' := #[.int .i64 R.1, .int .i64 R.2.1, .bool R.2.2]) rfl rfl rfl rfl rfl rfl hr4 infoP rfl (ones3 _ _ _) ?_
      intro V h5 _ hoth hbel
      have hB5 := hbel _ _ (by omega) hB4
      clear hoth hbel hr4 hB4 T0 T1 hu1
      go_wp2
      refine bodyPost_ret_by (result_blk rfl rfl h5 Tryz.underlying35 infoP) rfl ⟨rfl, hB5⟩
  · have hnm' : ¬ (n : Int) = (ml : Int) + 1 := by omega
    have HR : Hid (R = pZ) := by show _ = _; rw [HS.out, if_neg hnm]
    go_enter Tryz.func17, Tryz.ntmps17
    go_wp2_with (refine store_blk (cs' := #[.int .i64 0, .int .i64 0, .bool true]) rfl rfl rfl rfl rfl hr infoP rfl (ones3 0 0 true) ?_; intro V h5 hoth hbel; have hbV := hbel _ _ (by omega) hb; clear hoth hbel)
    refine bodyPost_ret_by (result_blk rfl rfl h5 Tryz.underlying35 infoP) rfl ⟨by rw [HR.out]; rfl, hbV⟩

end Go.Proofs.YthnahalboomkoaaGreat
