/-
  Texts of one's own, joined.
-/
import Derived.Test.YthnahalboomkoaaGreatJoined24
import Derived.Test.YthnahalboomkoaaGreatJoined23
import Derived.RangeFuncNested
import Derived.RangeFuncBound
import Derived.RangeFuncCalls
import Derived.RangeFuncLeaves
import Derived.Shelf.Abstract
import Derived.Shelf.RegionOpen
import Derived.WalkKit
import Derived.OwnWalkIn
import Derived.TacticsInMore
import Derived.LoopNIn
import Derived.LoopIn
import Derived.Test.YthnahalboomkoaaGreatRnd
import Derived.Test.YthnahalboomkoaaGreatJoined5
import Derived.Test.YthnahalboomkoaaGreatJoined17
import Derived.Test.YthnahalboomkoaaGreatJoined18
import Derived.Test.YthnahalboomkoaaGreatPrfFkM
import Derived.Test.YthnahalboomkoaaGreatPrfI9

/-
  The walks of the program's pairs: a line at a point.
  (-DROP-: what the seat lacks is left out.)
-/
namespace Go.Proofs.YthnahalboomkoaaGreat
open Go.RowKit

theorem pline_told (P Q R : Pt) : pLine P Q R = if P.2.2 || Q.2.2 || R.2.2 then (1, 0) else if (pSlope P Q).2 = true then (fpSub (fpSub 0 P.2.1) (fpMul (pSlope P Q).1 (fpSub (fpSub 0 R.1) P.1)), R.2.1) else (1, 0) := by
  unfold pLine
  rw [psl_slope]
  cases P.2.2 <;> cases Q.2.2 <;> cases R.2.2 <;> cases (pSlope P Q).2 <;> simp

theorem in2_pline {P Q R : Pt} (hR : POk R) : In2 (pLine P Q R) := by
  rw [pline_told]
  by_cases h : (P.2.2 || Q.2.2 || R.2.2) = true
  · rw [if_pos h]; exact in2_one
  · rw [if_neg h]
    split
    · obtain ⟨x, y, z⟩ := R
      cases z
      · exact ⟨fi_sub _ _, (pok_xy hR).2⟩
      · simp at h
    · exact in2_one

set_option maxHeartbeats 1600000 in
set_option maxRecDepth 100000 in
theorem lineAt_any (a b c : Value) (P Q R : Pt) (w : World) (hp : PAt w a P) (hq : PAt w b Q) (hr : PAt w c R) (oP : POk P) (oQ : POk Q) (oR : POk R) :
    Calls Tryz.prog 211 #[a, b, c] w fun e w' => e = .returned (tv (pLine P Q R)) ∧ Below w.heap.size w w' := by
  rw [pline_told]
  rcases hp with ⟨rfl, rfl⟩ | ⟨b1, x, y, rfl, rfl, hx⟩
  · clear oP oQ oR hq hr
    show Calls _ _ _ _ fun e w' => e = .returned (tv (1, 0)) ∧ Below w.heap.size w w'
    go_enter Tryz.func211, Tryz.ntmps211
    go_wp2
    refine bodyPost_ret_by (result_blk rfl rfl (Blk.newAt (by simp)) Tryz.underlying160 infoN) rfl ⟨rfl, (Below.refl _ _).alloc (Nat.le_refl _) _⟩
  · rcases hq with ⟨rfl, rfl⟩ | ⟨b2, u, v, rfl, rfl, hy⟩
    · clear oP oQ oR hr hx
      show Calls _ _ _ _ fun e w' => e = .returned (tv (1, 0)) ∧ Below w.heap.size w w'
      go_enter Tryz.func211, Tryz.ntmps211
      go_wp2
      refine bodyPost_ret_by (result_blk rfl rfl (Blk.newAt (by simp)) Tryz.underlying160 infoN) rfl ⟨rfl, (Below.refl _ _).alloc (Nat.le_refl _) _⟩
    · rcases hr with ⟨rfl, rfl⟩ | ⟨b3, s, t, rfl, rfl, hz⟩
      · clear oP oQ oR hx hy
        show Calls _ _ _ _ fun e w' => e = .returned (tv (1, 0)) ∧ Below w.heap.size w w'
        go_enter Tryz.func211, Tryz.ntmps211
        go_wp2
        refine bodyPost_ret_by (result_blk rfl rfl (Blk.newAt (by simp)) Tryz.underlying160 infoN) rfl ⟨rfl, (Below.refl _ _).alloc (Nat.le_refl _) _⟩
      · have Fx : Hid (Fi x) := (pok_xy oP).1
        have Fy : Hid (Fi y) := (pok_xy oP).2
        have Fs : Hid (Fi s) := (pok_xy oR).1
        have Fl : Hid (Fi (pSlope (x, y, false) (u, v, false)).1) := fi_slope _ _
        obtain ⟨W, hW, hb, hres⟩ := box1 w 160 #[.int .i64 0, .int .i64 0]
        have hx0 := hx.on hb hx.lt
        have hy0 := hy.on hb hy.lt
        have hz0 := hz.on hb hz.lt
        have HL : Hid (Calls Tryz.prog 143 #[.pointer (some ⟨b1, 0, none⟩), .pointer (some ⟨b2, 0, none⟩)] W fun e w' => e = .returned (.tuple #[.int .i64 (pSlope (x, y, false) (u, v, false)).1, .bool (pSlope (x, y, false) (u, v, false)).2]) ∧ Below W.heap.size W w') := slopeTo_any b1 b2 x y u v W hx0 hy0 Fx.out Fy.out (pok_xy oQ).1 (pok_xy oQ).2
        clear oP oQ oR hx hy hz
        generalize pSlope (x, y, false) (u, v, false) = S at Fl HL ⊢
        obtain ⟨l, ok⟩ := S
        cases ok
        · show Calls _ _ _ _ fun e w' => e = .returned (tv (1, 0)) ∧ Below w.heap.size w w'
          go_enter Tryz.func211, Tryz.ntmps211
          go_wp2_with fail
          clear hW
          refine HL.out.mono ?_
          rintro e w1 ⟨rfl, hb1⟩
          have hr1 := hres.on hb1 hres.lt
          have hB1 := below_then hb hb1
          clear hx0 hy0 hz0 HL hres hb hb1
          go_wp2_with (refine store_blk (cs' := #[.int .i64 1, .int .i64 0]) rfl rfl rfl rfl rfl hr1 infoN rfl (ones2 _ _) ?_; intro V h5 hoth hbel; have hbV := hbel _ _ (by omega) hB1; clear hoth hbel)
          refine bodyPost_ret_by (result_blk rfl rfl h5 Tryz.underlying160 infoN) rfl ⟨rfl, hbV⟩
        · show Calls _ _ _ _ fun e w' => e = .returned (tv (fpSub (fpSub 0 y) (fpMul l (fpSub (fpSub 0 s) x)), t)) ∧ Below w.heap.size w w'
          go_enter Tryz.func211, Tryz.ntmps211
          go_wp2_with fail
          clear hW
          refine HL.out.mono ?_
          rintro e w1 ⟨rfl, hb1⟩
          have hr1 := hres.on hb1 hres.lt
          have hx1 := hx0.on hb1 hx0.lt
          have hz1 := hz0.on hb1 hz0.lt
          have hB1 := below_then hb hb1
          clear hx0 hy0 hz0 HL hres hb hb1
          go_wp2_with fail
          refine wp_region_class 10 (fun wz => Below w1.heap.size w1 wz) mixes (by kernel_rfl) (Below.refl _ _).drew ?_
          simp only [List.take_succ_cons, List.take_zero, List.drop_succ_cons, List.drop_zero]
          repeat (refine cls_step rfl (fun K hK => ⟨_, (fun w' hw => by have q0 := (hz1.on hw hz1.lt).cell 0; have q1 := (hz1.on hw hz1.lt).cell 1; go_simp; exact rfl), ?_⟩); go_simp; refine hK _ ?_; clear hK K)
          refine cls_call rfl (fun K hK => ⟨_, _, _, (fun w' => by go_simp <;> first | exact rfl | exact ⟨rfl, rfl⟩), (fun w' hw => calls_same hw (minus_f fi_0 Fs.out _)), ?_⟩); go_simp; refine hK _ ?_; clear hK K
          repeat (refine cls_step rfl (fun K hK => ⟨_, (fun w' hw => by have q0 := (hx1.on hw hx1.lt).cell 0; have q1 := (hx1.on hw hx1.lt).cell 1; go_simp; exact rfl), ?_⟩); go_simp; refine hK _ ?_; clear hK K)
          refine cls_call rfl (fun K hK => ⟨_, _, _, (fun w' => by go_simp <;> first | exact rfl | exact ⟨rfl, rfl⟩), (fun w' hw => calls_same hw (minus_f (fi_sub _ _) Fx.out _)), ?_⟩); go_simp; refine hK _ ?_; clear hK K
          refine wq_nil ?_
          intro w' hw
          have hr2 := hr1.on hw hr1.lt
          have hx2 := hx1.on hw hx1.lt
          have hz2 := hz1.on hw hz1.lt
          have hB2 := below_then hB1 hw
          clear hr1 hx1 hz1 hB1 hw
          go_wp2_with fail
          refine wp_region_class 14 (fun wz => Below w'.heap.size w' wz) mixes (by kernel_rfl) (Below.refl _ _).drew ?_
          simp only [List.take_succ_cons, List.take_zero, List.drop_succ_cons, List.drop_zero]
          repeat (refine cls_step rfl (fun K hK => ⟨_, (fun w' hw => by have q0 := (hx2.on hw hx2.lt).cell 0; have q1 := (hx2.on hw hx2.lt).cell 1; have q2 := (hz2.on hw hz2.lt).cell 0; have q3 := (hz2.on hw hz2.lt).cell 1; go_simp; exact rfl), ?_⟩); go_simp; refine hK _ ?_; clear hK K)
          refine cls_call rfl (fun K hK => ⟨_, _, _, (fun w' => by go_simp <;> first | exact rfl | exact ⟨rfl, rfl⟩), (fun w' hw => calls_same hw (minus_f fi_0 Fy.out _)), ?_⟩); go_simp; refine hK _ ?_; clear hK K
          repeat (refine cls_step rfl (fun K hK => ⟨_, (fun w' hw => by have q0 := (hx2.on hw hx2.lt).cell 0; have q1 := (hx2.on hw hx2.lt).cell 1; have q2 := (hz2.on hw hz2.lt).cell 0; have q3 := (hz2.on hw hz2.lt).cell 1; go_simp; exact rfl), ?_⟩); go_simp; refine hK _ ?_; clear hK K)
          refine cls_call rfl (fun K hK => ⟨_, _, _, (fun w' => by go_simp <;> first | exact rfl | exact ⟨rfl, rfl⟩), (fun w' hw => calls_same hw (times_f Fl.out (fi_sub _ _) _)), ?_⟩); go_simp; refine hK _ ?_; clear hK K
          refine cls_call rfl (fun K hK => ⟨_, _, _, (fun w' => by go_simp <;> first | exact rfl | exact ⟨rfl, rfl⟩), (fun w' hw => calls_same hw (minus_f (fi_sub _ _) (fi_mul _ _) _)), ?_⟩); go_simp; refine hK _ ?_; clear hK K
          repeat (refine cls_step rfl (fun K hK => ⟨_, (fun w' hw => by have q0 := (hx2.on hw hx2.lt).cell 0; have q1 := (hx2.on hw hx2.lt).cell 1; have q2 := (hz2.on hw hz2.lt).cell 0; have q3 := (hz2.on hw hz2.lt).cell 1; go_simp; exact rfl), ?_⟩); go_simp; refine hK _ ?_; clear hK K)
          refine wq_nil ?_
          intro w' hw
          have hr3 := hr2.on hw hr2.lt
          have hB3 := below_then hB2 hw
          clear hr2 hx2 hz2 hB2 hw
          go_wp2_with (refine store_blk (cs' := #[.int .i64 (fpSub (fpSub 0 y) (fpMul l (fpSub (fpSub 0 s) x))), .int .i64 t]) rfl rfl rfl rfl rfl hr3 infoN rfl (ones2 _ _) ?_; intro V h5 hoth hbel; have hbV := hbel _ _ (by omega) hB3; clear hoth hbel)
          refine bodyPost_ret_by (result_blk rfl rfl h5 Tryz.underlying160 infoN) rfl ⟨rfl, hbV⟩

set_option maxRecDepth 100000 in
theorem len64_r (w : World) : Calls Tryz.prog 196 #[.int .u64 1009] w fun e w' => e = .returned (.int .i64 10) ∧ w = w' := by
  go_enter Tryz.func196, Tryz.ntmps196
  go_wp2
  go_ret
  exact ⟨by kernel_rfl, rfl⟩

set_option maxRecDepth 100000 in
theorem len_r (w : World) : Calls Tryz.prog 159 #[.int .u64 1009] w fun e w' => e = .returned (.int .i64 10) ∧ w = w' := by
  go_enter Tryz.func159, Tryz.ntmps159
  go_wp2_with fail
  refine (len64_r _).mono ?_
  rintro e w1 ⟨rfl, rfl⟩
  go_wp2
  go_ret
  exact ⟨rfl, rfl⟩

end Go.Proofs.YthnahalboomkoaaGreat

/-
  The walks of the program's pairs: the way to 1009 times a point, told step by step.
  (-DROP-: what the seat lacks is left out.)
-/
namespace Go.Proofs.YthnahalboomkoaaGreat
open Go.RowKit
attribute [local go_sem] Oper.semAt_some

/-- A step of the way: two places and whether it is a doubling; the points that they stand for. -/
abbrev SX : Type := (Value × Value × Bool) × Pt × Pt
def encS (x : SX) : Array Value := #[.agg #[x.1.1, x.1.2.1, .bool x.1.2.2]]
def GS (x : SX) (W : World) : Prop := (PAt W x.1.1 x.2.1 ∧ PAt W x.1.2.1 x.2.2) ∧ POk x.2.1 ∧ POk x.2.2
def nxS (R : Pt) (F : Int × Int) (x : SX) : Int × Int := tm (if x.1.2.2 then tm F F else F) (pLine x.2.1 x.2.2 R)

theorem PAt.kept {w w1 : World} {v : Value} {P : Pt} (h : PAt w v P) (hb : ∀ b cs, Blk w b 172 cs → Blk w1 b 172 cs) : PAt w1 v P := by
  rcases h with h | ⟨b, x, y, h1, h2, h3⟩
  · exact .inl h
  · exact .inr ⟨b, x, y, h1, h2, hb _ _ h3⟩

theorem PAt.ptr {w : World} {v : Value} {P : Pt} (h : PAt w v P) : ∃ o, v = .pointer o := by
  rcases h with ⟨h, _⟩ | ⟨b, x, y, h, _⟩
  · exact ⟨_, h⟩
  · exact ⟨_, h⟩

theorem mst_ok {P R : Pt} (hP : POk P) (hR : POk R) : ∀ k, POk (mSt P R k).2
  | 0 => hP
  | k + 1 => by
    have h := mstep_eq hP hR (mBits.getD k false) (mst_ok hP hR k)
    show POk (mStepS P R _ _).2
    rw [h.1]
    exact h.2

set_option maxHeartbeats 1600000 in
set_option maxRecDepth 100000 in
theorem steps_in (l : Nat) (P R : Pt) (v : Value) (oP : POk P) (oR : POk R) (Jt : (Int × Int) → World → Prop) (hJ : ∀ s W W', Jt s W → Below W.heap.size W W' → Jt s W')
    (hY : ∀ s x W, Jt s W → GS x W → YieldAt Fence.wide (3 - 1 - 1) Tryz.prog l (encS x) W fun e W' => e = .returned (.bool true) ∧ Jt (nxS R s x) W' ∧ ∀ b cs, Blk W b 172 cs → Blk W' b 172 cs)
    (W : World) (hv : PAt W v P) (h0 : Jt (1, 0) W) :
    CallsIn Fence.wide (3 - 1) Tryz.prog 210 #[v, .func (.yield l) #[] #[]] W fun e W' => (∃ u, e = .returned u) ∧ Jt (millS P R) W' := by
  obtain ⟨ov, hov⟩ := hv.ptr
  subst hov
  have HJ : Hid (∀ s W W', Jt s W → Below W.heap.size W W' → Jt s W') := hJ
  have HY : Hid (∀ s x W, Jt s W → GS x W → YieldAt Fence.wide (3 - 1 - 1) Tryz.prog l (encS x) W fun e W' => e = .returned (.bool true) ∧ Jt (nxS R s x) W' ∧ ∀ b cs, Blk W b 172 cs → Blk W' b 172 cs) := hY
  have HO : Hid (∀ k, POk (mSt P R k).2) := mst_ok oP oR
  have HS : Hid (∀ k, mSt P R (k + 1) = mStep P R (mBits.getD k false) (mSt P R k)) := fun k => (mstep_eq oP oR (mBits.getD k false) (mst_ok oP oR k)).1
  have HV : Hid (PAt W (.pointer ov) P) := hv
  have H0 : Hid (Jt (1, 0) W) := h0
  have OP : Hid (POk P) := oP
  clear hJ hY hv h0 oP oR
  refine callsIn_of_wp Tryz.func210 rfl trivial ?_ rfl
  simp only [Tryz.ntmps210, List.size_toArray, List.length_cons, List.length_nil, Nat.reduceAdd, Nat.reduceSub, Array.replicate_succ, Array.replicate_zero, List.push_toArray, List.append_toArray, List.nil_append, List.cons_append]
  gi_wp2
  refine ⟨trivial, (callsIn_wide.2 (len_r _)).mono ?_⟩
  rintro e w1 ⟨rfl, rfl⟩
  gi_wp2
  gi_loopw [4, 5] (fun p i wr => ∃ j : Nat, i = .int .i64 ((j : Int) - 1) ∧ j ≤ 9 ∧ Hid (PAt wr p (mSt P R (9 - j)).2 ∧ Jt (mSt P R (9 - j)).1 wr ∧ PAt wr (.pointer ov) P)) (fun _ i _ => (intOf i + 1).toNat)
  case atStart => exact ⟨9, rfl, by omega, ⟨HV.out, H0.out, HV.out⟩⟩
  case round =>
    obtain ⟨j, rfl, hj, HD⟩ := hrel
    clear HV H0
    by_cases h0 : j = 0
    · subst h0
      have HF : Hid (Jt (millS P R) wr) := HD.out.2.1
      clear HD HJ HY HO HS
      have hneg : ¬ (0 : Int) ≤ ((0 : Nat) : Int) - 1 := by omega
      have hn1 : ((0 : Nat) : Int) - 1 = -1 := by omega
      rw [hn1] at hneg ⊢
      gi_wp2
      go_end0
      exact ⟨⟨_, rfl⟩, HF.out⟩
    · obtain ⟨i, rfl⟩ : ∃ i, j = i + 1 := ⟨j - 1, by omega⟩
      have hi9 : i < 9 := by omega
      have hii : ((i + 1 : Nat) : Int) - 1 = (i : Int) := by omega
      have hi0 : (0 : Int) ≤ (i : Int) := by omega
      have hbit := mbit hi9
      have hst : mSt P R (9 - i) = mStep P R (mBits.getD (8 - i) false) (mSt P R (8 - i)) := by
        rw [show 9 - i = (8 - i) + 1 by omega]; exact HS.out _
      have OT : Hid (POk (mSt P R (8 - i)).2) := HO.out _
      rw [show 9 - (i + 1) = 8 - i by omega] at HD
      rw [hii]
      have HST : Hid (mSt P R (9 - i) = mStep P R (mBits.getD (8 - i) false) (mSt P R (8 - i))) := hst
      clear hst
      generalize mSt P R (8 - i) = s at HD HST OT
      generalize mBits.getD (8 - i) false = bit at hbit HST
      obtain ⟨F, T⟩ := s
      have hsh : (1009 : Int) / 2 ^ i = ((1009 / 2 ^ i : Nat) : Int) := by rw [Int.natCast_ediv, Int.natCast_pow]; rfl
      have hwu : IntKind.u64.wrap (i : Int) = (i : Int) := IntWalk.u64_in _ (by omega)
      have HST1 : Hid (mStep P R true (F, T) = (tm (tm (tm F F) (pLine T T R)) (pLine (pAdd T T) P R), pAdd (pAdd T T) P)) := rfl
      have HST0 : Hid (mStep P R false (F, T) = (tm (tm F F) (pLine T T R), pAdd T T)) := rfl
      generalize 1009 / 2 ^ i = sh at hsh hbit
      have hrem : Int.tmod (sh : Int) 2 = if bit = true then 1 else 0 := by
        rw [Int.tmod_eq_emod_of_nonneg (Int.natCast_nonneg _)]
        cases bit
        · simp only [Bool.false_eq_true, if_false] at hbit ⊢; omega
        · simp only [if_true] at hbit ⊢; omega
      clear hbit hii
      obtain ⟨o4, ho4⟩ := HD.out.1.ptr
      subst ho4
      obtain ⟨fn, tmps, assign, body, hy, hR⟩ := HY.out F (((.pointer o4), (.pointer o4), true), T, T) wr HD.out.2.1 ⟨⟨HD.out.1, HD.out.1⟩, OT.out, OT.out⟩
      have hy' : (Instr.yield l #[.agg #[(.pointer o4), (.pointer o4), .bool true]]).run Tryz.prog wr = .ok (.round l fn tmps assign body) wr := hy
      clear hy
      gi_wp2
      refine hR.mono ?_
      rintro e W3 ⟨rfl, hJ3, hk3⟩
      have HJ3 : Hid (Jt (tm (tm F F) (pLine T T R)) W3) := hJ3
      have HP3 : Hid (PAt W3 (.pointer o4) T) := HD.out.1.kept hk3
      have HV3 : Hid (PAt W3 (.pointer ov) P) := HD.out.2.2.kept hk3
      clear HD hJ3 hk3 hy' hR
      gi_wp2
      refine ⟨trivial, (callsIn_wide.2 (plusC_any (.pointer o4) (.pointer o4) T T W3 HP3.out HP3.out OT.out OT.out)).mono ?_⟩
      rintro e W4 ⟨v', rfl, hq, hb⟩
      obtain ⟨q, hq0⟩ := hq.ptr
      subst hq0
      have HQ : Hid (PAt W4 (.pointer q) (pAdd T T)) := hq
      have HJ4 : Hid (Jt (tm (tm F F) (pLine T T R)) W4) := HJ.out _ _ _ HJ3.out hb
      have HV4 : Hid (PAt W4 (.pointer ov) P) := HV3.out.on hb
      have OQ : Hid (POk (pAdd T T)) := padd_ok OT.out OT.out
      clear HP3 HV3 HJ3 hq hb OT
      cases bit
      · simp only [Bool.false_eq_true, if_false] at hrem
        gi_wp2
        go_roundw
        case rel => exact ⟨i, by go_num, by omega, ⟨by rw [HST.out]; exact HQ.out, by rw [HST.out]; exact HJ4.out, HV4.out⟩⟩
        case measure => simp [intOf]
      · simp only [if_true] at hrem
        obtain ⟨fn, tmps, assign, body, hy, hR⟩ := HY.out _ ((.pointer q, .pointer ov, false), pAdd T T, P) W4 HJ4.out ⟨⟨HQ.out, HV4.out⟩, OQ.out, OP.out⟩
        have hy' : (Instr.yield l #[.agg #[.pointer q, .pointer ov, .bool false]]).run Tryz.prog W4 = .ok (.round l fn tmps assign body) W4 := hy
        clear hy
        gi_wp2
        refine hR.mono ?_
        rintro e W5 ⟨rfl, hJ5, hk5⟩
        have HJ5 : Hid (Jt (tm (tm (tm F F) (pLine T T R)) (pLine (pAdd T T) P R)) W5) := hJ5
        have HP5 : Hid (PAt W5 (.pointer q) (pAdd T T)) := HQ.out.kept hk5
        have HV5 : Hid (PAt W5 (.pointer ov) P) := HV4.out.kept hk5
        clear hJ5 hk5 hy' hR HQ HV4 HJ4
        gi_wp2
        refine ⟨trivial, (callsIn_wide.2 (plusC_any (.pointer q) (.pointer ov) (pAdd T T) P W5 HP5.out HV5.out OQ.out OP.out)).mono ?_⟩
        rintro e W6 ⟨q6, rfl, hq, hb⟩
        have HQ : Hid (PAt W6 q6 (pAdd (pAdd T T) P)) := hq
        have HJ6 : Hid (Jt (tm (tm (tm F F) (pLine T T R)) (pLine (pAdd T T) P R)) W6) := HJ.out _ _ _ HJ5.out hb
        have HV6 : Hid (PAt W6 (.pointer ov) P) := HV5.out.on hb
        clear HP5 HV5 HJ5 hq hb OQ
        gi_wp2
        go_roundw
        case rel => exact ⟨i, by go_num, by omega, ⟨by rw [HST.out]; exact HQ.out, by rw [HST.out]; exact HJ6.out, HV6.out⟩⟩
        case measure => simp [intOf]

end Go.Proofs.YthnahalboomkoaaGreat

/-
  The walks of the program's pairs: Miller's number.
  (-DROP-: what the seat lacks is left out.)
-/
namespace Go.Proofs.YthnahalboomkoaaGreat
open Go.RowKit
attribute [local go_sem] Oper.semAt_some

theorem PAt.kpt {w w1 : World} {v : Value} {P : Pt} {g : Nat} {t : TypeId} {cs : Array Value} (h : PAt w v P) (hk : Kpt g w w1) (hb : Blk w g t cs) (ht : t ≠ 172) : PAt w1 v P :=
  h.kept fun b cs' hb' => hk.blk hb' fun e => by
    subst e
    have := hb'.symm.trans hb
    cases this
    exact ht rfl

/-- What the loop over the steps needs: the second place's box, the result's block, the product. -/
structure LinAt (w W : World) (ob : Option Addr) (F : Int × Int) : Prop where
  in2 : In2 F
  q : Blk W w.heap.size 112 #[.pointer ob]
  r : Blk W (w.heap.size + 1) 160 #[.int .i64 0, .int .i64 0]
  f : Blk W (w.heap.size + 1 + 1) 160 #[.int .i64 F.1, .int .i64 F.2]
  bel : Below w.heap.size w W

theorem LinAt.kept {w W W' : World} {ob : Option Addr} {F : Int × Int} (h : LinAt w W ob F) (ht : W.tape = W'.tape) (ho : W.os = W'.os) (hu : W.output = W'.output) {n : Nat} (hn : w.heap.size + 1 + 1 < n) (hk : Kep (fun k => k = n ∨ k = n + 1) W W') : LinAt w W' ob F :=
  ⟨h.in2, hk.blk h.q (by omega), hk.blk h.r (by omega), hk.blk h.f (by omega), ⟨ho ▸ h.bel.os, ht ▸ h.bel.tape, hu ▸ h.bel.output, Nat.le_trans h.bel.size hk.1, fun k hkk => (hk.2 k (by have := h.bel.size; omega) (by omega)).trans (h.bel.block k hkk)⟩⟩

set_option maxHeartbeats 1600000 in
set_option maxRecDepth 100000 in
theorem linesAt_any (a b : Value) (P R : Pt) (w : World) (hp : PAt w a P) (hr : PAt w b R) (oP : POk P) (oR : POk R) :
    Calls Tryz.prog 186 #[a, b] w fun e w' => e = .returned (tv (millS P R)) ∧ Below w.heap.size w w' := by
  obtain ⟨oa, hoa⟩ := hp.ptr
  subst hoa
  obtain ⟨ob, hob⟩ := hr.ptr
  subst hob
  have HP : Hid (PAt w (.pointer oa) P) := hp
  have HR : Hid (PAt w (.pointer ob) R) := hr
  have OP : Hid (POk P) := oP
  have OR : Hid (POk R) := oR
  clear hp hr oP oR
  refine (callsIn_wide (n := 3)).1 ?_
  refine callsIn_of_wp_marks Tryz.func186 rfl trivial ?_
  simp only [Tryz.ntmps186, List.size_toArray, List.length_cons, List.length_nil, Nat.reduceAdd, Nat.reduceSub, Array.replicate_succ, Array.replicate_zero, List.push_toArray, List.append_toArray, List.nil_append, List.cons_append]
  gi_wp2
  obtain ⟨w1, hw1, hb1, hq1, hr1, hf1⟩ := boxes2r w 112 160 160 #[.pointer ob] #[.int .i64 0, .int .i64 0] #[.int .i64 1, .int .i64 0]
  have hsz : w1.heap.size = w.heap.size + 1 + 1 + 1 := by rw [← hw1]; simp
  rw [hw1]
  have H1 : Hid (LinAt w w1 ob (1, 0)) := ⟨in2_one, hq1, hr1, hf1, hb1⟩
  clear hw1 hb1 hq1 hr1 hf1
  refine range_told (σ := Int × Int) (α := SX) (gf := 210) (lb := #[.pointer oa]) rfl (enters_of Tryz.func210 (by kernel_rfl) rfl)
    encS (fun _ => rfl) GS (nxS R) (1, 0) (millS P R) 172 (w.heap.size + 1 + 1) (by omega)
    (fun F W => LinAt w W ob F) (fun F W W' h ht ho hu hk => h.kept ht ho hu (by omega) hk) (fun F W h => ⟨160, _, by decide, h.f⟩) H1.out ?it ?round ?done
  case it =>
    intro l W Jt hJ hY h0 hb
    exact steps_in l P R (.pointer oa) OP.out OR.out Jt hJ hY W (HP.out.on (below_then H1.out.bel hb)) h0
  case done =>
    intro D W hD hL hK
    clear H1 HP HR
    have q0 := hL.f.cell 0
    have q1 := hL.f.cell 1
    have r0 := hL.r.cell 0
    have r1 := hL.r.cell 1
    have z0 := hL.r.free 0
    have z1 := hL.r.free 1
    have hbel := hL.bel
    have hr := hL.r
    clear hL
    gi_wp2
    have hblk := (hr.set 0 (.int .i64 (millS P R).1)).set 1 (.int .i64 (millS P R).2)
    have hbel2 := (hbel.setCell (p := ⟨w.heap.size + 1, 0, none⟩) (by simp) (.int .i64 (millS P R).1)).setCell (p := ⟨w.heap.size + 1, 1, none⟩) (by simp) (.int .i64 (millS P R).2)
    have hK2 : ((W.setCell ⟨w.heap.size + 1, 0, none⟩ (.int .i64 (millS P R).1)).setCell ⟨w.heap.size + 1, 1, none⟩ (.int .i64 (millS P R).2)).heap[D]? = some (.deferred (some [])) := by
      rw [Below.heap_setCell _ _ _ _ (by show D ≠ w.heap.size + 1; omega), Below.heap_setCell _ _ _ _ (by show D ≠ w.heap.size + 1; omega)]
      exact hK
    clear q0 q1 r0 r1 z0 z1 hbel hr hK
    generalize (W.setCell ⟨w.heap.size + 1, 0, none⟩ (.int .i64 (millS P R).1)).setCell ⟨w.heap.size + 1, 1, none⟩ (.int .i64 (millS P R).2) = V at hblk hbel2 hK2 ⊢
    refine ⟨by simp, .inl ⟨_, _, rfl, run_takeDeferred hK2, ?_⟩⟩
    have hlt := (Array.getElem?_eq_some_iff.1 hK2).1
    exact ⟨_, result_blk rfl rfl ((Kep.put _).blk hblk (show ¬ w.heap.size + 1 = D by omega)) Tryz.underlying160 infoN, rfl, ⟨hbel2.os, hbel2.tape, hbel2.output, by simpa using hbel2.size, fun k hk => (World.putObj_heap_other (by omega)).trans (hbel2.block k hk)⟩⟩
  case round =>
    intro l F x W hl hL hx
    obtain ⟨⟨p, o, d⟩, T, O⟩ := x
    obtain ⟨⟨hT, hO⟩, oT', oO'⟩ := hx
    obtain ⟨p, hp⟩ := hT.ptr
    obtain ⟨o, ho⟩ := hO.ptr
    simp only at hp ho
    subst hp
    subst ho
    have oT : Hid (POk T) := oT'
    have oO : Hid (POk O) := oO'
    clear oT' oO'
    unfold encS
    gi_wp2
    refine ⟨(Below.refl _ _).alloc (Nat.le_refl _) _, ?_⟩
    intro W₂ hL2 hblk
    have hWs : w.heap.size + 1 + 1 < W.heap.size := hL.f.lt
    have s2 : Blk W₂ W.heap.size 212 #[.pointer p, .pointer o, .bool d] := hblk _ _ _ (Blk.new W _ _)
    have hT2 : Hid (PAt W₂ (.pointer p) T) := (PAt.on hT ((Below.refl _ W).alloc (Nat.le_refl _) _)).kept fun b cs h => hblk b _ cs h
    have hO2 : Hid (PAt W₂ (.pointer o) O) := (PAt.on hO ((Below.refl _ W).alloc (Nat.le_refl _) _)).kept fun b cs h => hblk b _ cs h
    have hR2 : Hid (PAt W₂ (.pointer ob) R) := HR.out.on hL2.bel
    have f2 := hL2.f
    have bq2 := hL2.q
    have br2 := hL2.r
    have hB2 := hL2.bel
    have hsz2 : w.heap.size ≤ W₂.heap.size := hB2.size
    have i2 : Hid (In2 F) := hL2.in2
    clear hL2 hblk hT hO hL HP HR H1 hl
    apply wpIn_block
    apply wpIn_seq_k
    intro K1 hK1
    apply wpIn_seq_k
    intro K2 hK2
    refine rnd_list rfl (fun ⟨_, _, h⟩ => by obtain ⟨h, _⟩ := h; cases h) ?_
    have c2 := s2.cell 2
    cases d
    · go_wp2
      clear c2
      refine wpIn_cond_false rfl ?_
      gi_wp2
      have hT4 := hT2
      have hO4 := hO2
      have hR4 := hR2
      have f4 := f2
      have bq4 := bq2
      have br4 := br2
      have s4 := s2
      have i4 := i2
      have k4 : Kpt (w.heap.size + 1 + 1) W₂ W₂ := .refl _ _
      clear hT2 hO2 hR2 f2 bq2 br2 s2 i2
      have HL : Hid (∀ w', Below W₂.heap.size W₂ w' → Calls Tryz.prog 211 #[.pointer p, .pointer o, .pointer ob] w' fun e w'' => e = .returned (tv (pLine T O R)) ∧ Below w'.heap.size w' w'') := fun w' hw => lineAt_any _ _ _ T O R w' (hT4.out.on hw) (hO4.out.on hw) (hR4.out.on hw) oT.out oO.out OR.out
      have HM : Hid (∀ w, Calls Tryz.prog 134 #[tv F, tv (pLine T O R)] w fun e w' => e = .returned (tv (tm F (pLine T O R))) ∧ Below w.heap.size w w') := times2_any _ _ i4.out (in2_pline OR.out)
      have HI : Hid (In2 (tm F (pLine T O R))) := in2_tm _ _
      have HE : Hid (nxS R F ((.pointer p, .pointer o, false), T, O) = tm F (pLine T O R)) := rfl
      generalize tm F (pLine T O R) = M at HM HI HE
      generalize pLine T O R = L at HL HM
      clear hT4 hO4 hR4
      refine rnd_class 8 (fun wz => Below W₂.heap.size W₂ wz) rfl (fun ⟨_, _, h⟩ => by obtain ⟨h, _⟩ := h; cases h) mixes (by kernel_rfl) (Below.refl _ _).drew ?_
      simp only [List.take_succ_cons, List.take_zero, List.drop_succ_cons, List.drop_zero]
      repeat (refine cls_step rfl (fun K hK => ⟨_, (fun w' hw => by have q0 := (f4.on hw f4.lt).cell 0; have q1 := (f4.on hw f4.lt).cell 1; have q2 := (s4.on hw s4.lt).cell 0; have q3 := (s4.on hw s4.lt).cell 1; have q4 := (s4.on hw s4.lt).cell 2; have q5 := (bq4.on hw bq4.lt).cell 0; go_simp; exact rfl), ?_⟩); go_simp; refine hK _ ?_; clear hK K)
      refine cls_call rfl (fun K hK => ⟨_, _, _, (fun w' => by go_simp <;> first | exact rfl | exact ⟨rfl, rfl⟩), (fun w' hw => calls_below hw (HL.out w' hw)), ?_⟩); go_simp; refine hK _ ?_; clear hK K
      refine cls_call rfl (fun K hK => ⟨_, _, _, (fun w' => by go_simp <;> first | exact rfl | exact ⟨rfl, rfl⟩), (fun w' hw => calls_below hw (HM.out _)), ?_⟩); go_simp; refine hK _ ?_; clear hK K
      refine wq_nil ?_
      intro w' hw
      have f5 := f4.on hw f4.lt
      have bq5 := bq4.on hw bq4.lt
      have br5 := br4.on hw br4.lt
      have k5 : Kpt (w.heap.size + 1 + 1) W₂ w' := k4.trans (.below hw)
      clear f4 s4 bq4 br4 k4 hw HL HM
      go_wp2_with (refine store_kpt (cs' := #[.int .i64 M.1, .int .i64 M.2]) rfl rfl rfl rfl rfl f5 infoN rfl (ones2 _ _) ?_; intro V f6 k6)
      have k7 := k5.trans k6
      exact ⟨trivial, k7.tape, k7.os, k7.output, k7.kep, by rw [HE.out]; exact ⟨HI.out, k6.blk bq5 (by omega), k6.blk br5 (by omega), f6, k7.bel hB2 (by omega) (by omega)⟩⟩
    · go_wp2
      clear c2
      refine wpIn_cond_true rfl ?_
      have HM1 : Hid (∀ w, Calls Tryz.prog 134 #[tv F, tv F] w fun e w' => e = .returned (tv (tm F F)) ∧ Below w.heap.size w w') := times2_any _ _ i2.out i2.out
      have i4 : Hid (In2 (tm F F)) := in2_tm _ _
      refine rnd_list rfl (fun ⟨_, _, h⟩ => by obtain ⟨h, _⟩ := h; cases h) ?_
      go_wp2_with (refine load_blk rfl rfl rfl f2 Tryz.underlying160 infoN ?_)
      refine (HM1.out _).mono ?_
      rintro e W₃ ⟨rfl, hw⟩
      have hT3 : Hid (PAt W₃ (.pointer p) T) := hT2.out.on hw
      have hO3 : Hid (PAt W₃ (.pointer o) O) := hO2.out.on hw
      have hR3 : Hid (PAt W₃ (.pointer ob) R) := hR2.out.on hw
      have f3 := f2.on hw f2.lt
      have bq3 := bq2.on hw bq2.lt
      have br3 := br2.on hw br2.lt
      have s3 := s2.on hw s2.lt
      have k3 : Kpt (w.heap.size + 1 + 1) W₂ W₃ := .below hw
      clear hT2 hO2 hR2 f2 bq2 br2 s2 hw HM1 i2
      go_wp2_with (refine store_kpt (cs' := #[.int .i64 (tm F F).1, .int .i64 (tm F F).2]) rfl rfl rfl rfl rfl f3 infoN rfl (ones2 _ _) ?_; intro W₄ f4 k')
      have hT4 : Hid (PAt W₄ (.pointer p) T) := hT3.out.kpt k' f3 (by decide)
      have hO4 : Hid (PAt W₄ (.pointer o) O) := hO3.out.kpt k' f3 (by decide)
      have hR4 : Hid (PAt W₄ (.pointer ob) R) := hR3.out.kpt k' f3 (by decide)
      have bq4 := k'.blk bq3 (by omega)
      have br4 := k'.blk br3 (by omega)
      have s4 := k'.blk s3 (by omega)
      have k4 := k3.trans k'
      clear hT3 hO3 hR3 f3 bq3 br3 s3 k3 k'
      have HL : Hid (∀ w', Below W₄.heap.size W₄ w' → Calls Tryz.prog 211 #[.pointer p, .pointer o, .pointer ob] w' fun e w'' => e = .returned (tv (pLine T O R)) ∧ Below w'.heap.size w' w'') := fun w' hw => lineAt_any _ _ _ T O R w' (hT4.out.on hw) (hO4.out.on hw) (hR4.out.on hw) oT.out oO.out OR.out
      have HM : Hid (∀ w, Calls Tryz.prog 134 #[tv (tm F F), tv (pLine T O R)] w fun e w' => e = .returned (tv (tm (tm F F) (pLine T O R))) ∧ Below w.heap.size w w') := times2_any _ _ i4.out (in2_pline OR.out)
      have HI : Hid (In2 (tm (tm F F) (pLine T O R))) := in2_tm _ _
      have HE : Hid (nxS R F ((.pointer p, .pointer o, true), T, O) = tm (tm F F) (pLine T O R)) := rfl
      generalize tm (tm F F) (pLine T O R) = M at HM HI HE
      generalize pLine T O R = L at HL HM
      clear hT4 hO4 hR4
      refine rnd_class 8 (fun wz => Below W₄.heap.size W₄ wz) rfl (fun ⟨_, _, h⟩ => by obtain ⟨h, _⟩ := h; cases h) mixes (by kernel_rfl) (Below.refl _ _).drew ?_
      simp only [List.take_succ_cons, List.take_zero, List.drop_succ_cons, List.drop_zero]
      repeat (refine cls_step rfl (fun K hK => ⟨_, (fun w' hw => by have q0 := (f4.on hw f4.lt).cell 0; have q1 := (f4.on hw f4.lt).cell 1; have q2 := (s4.on hw s4.lt).cell 0; have q3 := (s4.on hw s4.lt).cell 1; have q4 := (s4.on hw s4.lt).cell 2; have q5 := (bq4.on hw bq4.lt).cell 0; go_simp; exact rfl), ?_⟩); go_simp; refine hK _ ?_; clear hK K)
      refine cls_call rfl (fun K hK => ⟨_, _, _, (fun w' => by go_simp <;> first | exact rfl | exact ⟨rfl, rfl⟩), (fun w' hw => calls_below hw (HL.out w' hw)), ?_⟩); go_simp; refine hK _ ?_; clear hK K
      refine cls_call rfl (fun K hK => ⟨_, _, _, (fun w' => by go_simp <;> first | exact rfl | exact ⟨rfl, rfl⟩), (fun w' hw => calls_below hw (HM.out _)), ?_⟩); go_simp; refine hK _ ?_; clear hK K
      refine wq_nil ?_
      intro w' hw
      have f5 := f4.on hw f4.lt
      have bq5 := bq4.on hw bq4.lt
      have br5 := br4.on hw br4.lt
      have k5 : Kpt (w.heap.size + 1 + 1) W₂ w' := k4.trans (.below hw)
      clear f4 s4 bq4 br4 k4 hw HL HM
      go_wp2_with (refine store_kpt (cs' := #[.int .i64 M.1, .int .i64 M.2]) rfl rfl rfl rfl rfl f5 infoN rfl (ones2 _ _) ?_; intro V f6 k6)
      have k7 := k5.trans k6
      exact ⟨trivial, k7.tape, k7.os, k7.output, k7.kep, by rw [HE.out]; exact ⟨HI.out, k6.blk bq5 (by omega), k6.blk br5 (by omega), f6, k7.bel hB2 (by omega) (by omega)⟩⟩

end Go.Proofs.YthnahalboomkoaaGreat

/-
  The walks of the program's pairs: Miller, the pair.
  (-DROP-: what the seat lacks is left out.)
-/
namespace Go.Proofs.YthnahalboomkoaaGreat
open Go.RowKit

theorem in2_ti (x : Int × Int) : In2 (ti x) := by rw [← ti_by]; exact in2_tm _ _

/-- Where all lines are one, the number is one. -/
theorem mill_one {P R : Pt} (D : Pt → Prop) (h0 : D P) (h1 : ∀ T, D T → pLineB T T R = (1, 0) ∧ D (pSum T T) ∧ pLineB (pSum T T) P R = (1, 0) ∧ D (pSum (pSum T T) P)) : millS P R = (1, 0) := by
  have key : ∀ k, (mSt P R k).1 = (1, 0) ∧ D (mSt P R k).2 := by
    intro k
    induction k with
    | zero => exact ⟨rfl, h0⟩
    | succ k ih =>
      obtain ⟨i1, i2⟩ := ih
      obtain ⟨a, b, c, d⟩ := h1 _ i2
      show (mStepS P R _ (mSt P R k)).1 = (1, 0) ∧ D (mStepS P R _ (mSt P R k)).2
      unfold mStepS
      rw [i1, a, c]
      split
      · exact ⟨rfl, d⟩
      · exact ⟨rfl, b⟩
  exact (mst_all P R).symm.trans (key 9).1

theorem line_bad3 {P Q R : Pt} (h : pOkB R = false ∨ R = pZ) : pLineB P Q R = (1, 0) := by
  unfold pLineB
  rcases h with h | h
  · rw [h]; simp
  · subst h
    split
    · rw [pline_told]; simp [pZ]
    · rfl
theorem line_bad1 {P Q R : Pt} (h : pOkB P = false ∨ P = pZ) : pLineB P Q R = (1, 0) := by
  unfold pLineB
  rcases h with h | h
  · rw [h]; simp
  · subst h
    split
    · rw [pline_told]; simp [pZ]
    · rfl
theorem line_bad2 {P Q R : Pt} (h : pOkB Q = false ∨ Q = pZ) : pLineB P Q R = (1, 0) := by
  unfold pLineB
  rcases h with h | h
  · rw [h]; simp
  · subst h
    split
    · rw [pline_told]; simp [pZ]
    · rfl
theorem mill_bad2 {P R : Pt} (h : pOkB R = false ∨ R = pZ) : millS P R = (1, 0) :=
  mill_one (fun _ => True) trivial fun _ _ => ⟨line_bad3 h, trivial, line_bad3 h, trivial⟩
theorem sum_bad {T U : Pt} (hT : pOkB T = false ∨ T = pZ) (hU : pOkB U = false ∨ U = pZ) : pSum T U = pZ := by
  unfold pSum
  rcases hT with h | h
  · rw [h]; rfl
  · subst h
    rcases hU with h | h
    · rw [h]; simp
    · subst h; rfl
theorem mill_bad1 {P R : Pt} (h : pOkB P = false ∨ P = pZ) : millS P R = (1, 0) :=
  mill_one (fun T => pOkB T = false ∨ T = pZ) h fun _ hT => ⟨line_bad1 hT, .inr (sum_bad hT hT), line_bad2 h, .inr (sum_bad (.inr (sum_bad hT hT)) h)⟩

theorem np_mill (P R : Pt) : millS (nP P) (nP R) = millS P R := by
  unfold nP
  cases h1 : pOkB P
  · rw [if_neg Bool.false_ne_true, mill_bad1 (.inr rfl), mill_bad1 (.inl h1)]
  · rw [if_pos rfl]
    cases h2 : pOkB R
    · rw [if_neg Bool.false_ne_true, mill_bad2 (.inr rfl), mill_bad2 (.inl h2)]
    · rw [if_pos rfl]

theorem mend_one : mEnd (1, 0) = (1, 0) := by kernel_rfl

theorem pair_told {P Q : Pt} (hP : inGB P = true) (hQ : inGB Q = true) : pairS P Q = mEnd (millS P Q) := by
  unfold pairS
  rw [hP, hQ]
  cases h1 : P.2.2
  · cases h2 : Q.2.2
    · rfl
    · rw [mill_bad2 (.inr ((zero_flag (ing_iff.1 hQ).1).1 h2)), mend_one]; rfl
  · rw [mill_bad1 (.inr ((zero_flag (ing_iff.1 hP).1).1 h1)), mend_one]; rfl

set_option maxHeartbeats 1600000 in
set_option maxRecDepth 100000 in
theorem pairWith_any (a b : Value) (P R : Pt) (w : World) (hp : PAt w a P) (hr : PAt w b R) (oP : POk P) (oR : POk R) :
    Calls Tryz.prog 136 #[a, b] w fun e w' => e = .returned (tv (mEnd (millS P R))) ∧ Below w.heap.size w w' := by
  obtain ⟨W, hW, hb, hs⟩ := box1 w 160 #[.int .i64 0, .int .i64 0]
  have HL : Hid (Calls Tryz.prog 186 #[a, b] W fun e w' => e = .returned (tv (millS P R)) ∧ Below W.heap.size W w') := linesAt_any a b P R W (hp.on hb) (hr.on hb) oP oR
  have hin := in2_mills P R
  generalize millS P R = x at HL hin ⊢
  have HT : Hid (∀ w, Calls Tryz.prog 187 #[tv x] w fun e w' => e = .returned (tv (tt x)) ∧ Below w.heap.size w w') := turned_any _ hin
  have HI : Hid (∀ w, Calls Tryz.prog 188 #[tv x] w fun e w' => e = .returned (tv (ti x)) ∧ Below w.heap.size w w') := inverse2_any _ hin
  have HX : Hid (∀ w, Calls Tryz.prog 134 #[tv (tt x), tv (ti x)] w fun e w' => e = .returned (tv (tm (tt x) (ti x))) ∧ Below w.heap.size w w') := times2_any _ _ (in2_tt hin) (in2_ti x)
  have HP : Hid (∀ w, Calls Tryz.prog 189 #[tv (tm (tt x) (ti x)), .int .i64 12] w fun e w' => e = .returned (tv (mEnd x)) ∧ Below w.heap.size w w') := by
    have h := power2_any (tm (tt x) (ti x)) (in2_tm _ _) 12 (by decide)
    rw [show tp (tm (tt x) (ti x)) 12 = mEnd x from tp_pw _ 12] at h
    exact h
  generalize mEnd x = E at HP ⊢
  generalize tm (tt x) (ti x) = M at HX HP
  generalize tt x = X1 at HT HX
  generalize ti x = X2 at HI HX
  clear hin hp hr oP oR
  go_enter Tryz.func136, Tryz.ntmps136
  go_wp2_with fail
  clear hW
  refine HL.out.mono ?_
  rintro e w1 ⟨rfl, hw⟩
  have hs1 := hs.on hw hs.lt
  have hb1 := below_then hb hw
  clear hs hb hw HL
  obtain ⟨V, hV, hbV, h5⟩ := box1 w1 160 #[.int .i64 x.1, .int .i64 x.2]
  go_wp2
  have hs2 := hs1.on hbV hs1.lt
  have hb2 := below_then hb1 hbV
  clear hV hbV hs1 hb1
  refine wp_region_class 6 (fun wz => Below V.heap.size V wz) mixes (by kernel_rfl) (Below.refl _ _).drew ?_
  simp only [List.take_succ_cons, List.take_zero, List.drop_succ_cons, List.drop_zero]
  repeat (refine cls_step rfl (fun K hK => ⟨_, (fun w' hw => by have q0 := (h5.on hw h5.lt).cell 0; have q1 := (h5.on hw h5.lt).cell 1; go_simp; exact rfl), ?_⟩); go_simp; refine hK _ ?_; clear hK K)
  refine cls_call rfl (fun K hK => ⟨_, _, _, (fun w' => by go_simp <;> first | exact rfl | exact ⟨rfl, rfl⟩), (fun w' hw => calls_below hw (HT.out _)), ?_⟩); go_simp; refine hK _ ?_; clear hK K
  repeat (refine cls_step rfl (fun K hK => ⟨_, (fun w' hw => by have q0 := (h5.on hw h5.lt).cell 0; have q1 := (h5.on hw h5.lt).cell 1; go_simp; exact rfl), ?_⟩); go_simp; refine hK _ ?_; clear hK K)
  refine cls_call rfl (fun K hK => ⟨_, _, _, (fun w' => by go_simp <;> first | exact rfl | exact ⟨rfl, rfl⟩), (fun w' hw => calls_below hw (HI.out _)), ?_⟩); go_simp; refine hK _ ?_; clear hK K
  refine cls_call rfl (fun K hK => ⟨_, _, _, (fun w' => by go_simp <;> first | exact rfl | exact ⟨rfl, rfl⟩), (fun w' hw => calls_below hw (HX.out _)), ?_⟩); go_simp; refine hK _ ?_; clear hK K
  refine cls_call rfl (fun K hK => ⟨_, _, _, (fun w' => by go_simp <;> first | exact rfl | exact ⟨rfl, rfl⟩), (fun w' hw => calls_below hw (HP.out _)), ?_⟩); go_simp; refine hK _ ?_; clear hK K
  refine wq_nil ?_
  intro w' hw
  have hs3 := hs2.on hw hs2.lt
  have hb3 := below_then hb2 hw
  clear hs2 hb2 hw h5
  go_wp2_with (refine store_blk (cs' := #[.int .i64 E.1, .int .i64 E.2]) rfl rfl rfl rfl rfl hs3 infoN rfl (ones2 _ _) ?_; intro U h7 hoth hbel; have hbU := hbel _ _ (by omega) hb3; clear hoth hbel)
  refine bodyPost_ret_by (result_blk rfl rfl h7 Tryz.underlying160 infoN) rfl ⟨rfl, hbU⟩

set_option maxHeartbeats 1600000 in
set_option maxRecDepth 100000 in
theorem iPairing_any (P Q : Pt) (w : World) :
    Calls Tryz.prog 62 #[pv P, pv Q] w fun e w' => e = .returned (tv (pairS P Q)) ∧ Below w.heap.size w w' := by
  have HA : Hid (∀ w, Calls Tryz.prog 65 #[pv P] w fun e w' => e = .returned (.bool (inGB P)) ∧ Below w.heap.size w w') := iInG_any P
  have HB : Hid (∀ w, Calls Tryz.prog 65 #[pv Q] w fun e w' => e = .returned (.bool (inGB Q)) ∧ Below w.heap.size w w') := iInG_any Q
  have HC : Hid (∀ w, Calls Tryz.prog 68 #[pv P] w fun e w' => ∃ v', e = .returned (.tuple #[v', .bool (pOkB P)]) ∧ PAt w' v' (nP P) ∧ Below w.heap.size w w') := placeZ_any P
  have HD : Hid (∀ w, Calls Tryz.prog 68 #[pv Q] w fun e w' => ∃ v', e = .returned (.tuple #[v', .bool (pOkB Q)]) ∧ PAt w' v' (nP Q) ∧ Below w.heap.size w w') := placeZ_any Q
  have HL : Hid (inGB P = true → inGB Q = true → ∀ a b w, PAt w a (nP P) → PAt w b (nP Q) → Calls Tryz.prog 136 #[a, b] w fun e w' => e = .returned (tv (pairS P Q)) ∧ Below w.heap.size w w') := fun g1 g2 a b w h1 h2 => by
    rw [pair_told g1 g2, ← np_mill]; exact pairWith_any a b _ _ w h1 h2 (np_ok P) (np_ok Q)
  have HT : Hid (∀ w, Calls Tryz.prog 135 #[tv (pairS P Q)] w fun e w' => e = .returned (tv (pairS P Q)) ∧ Below w.heap.size w w') := two_any _
  have H1 : Hid (inGB P = false → pairS P Q = (1, 0)) := fun h => by unfold pairS; rw [h]; rfl
  have H2 : Hid (inGB Q = false → pairS P Q = (1, 0)) := fun h => by unfold pairS; rw [h]; simp
  generalize pairS P Q = L at HL HT H1 H2 ⊢
  generalize inGB P = g1 at HA HL H1
  generalize inGB Q = g2 at HB HL H2
  generalize pOkB P = o1 at HC
  generalize pOkB Q = o2 at HD
  generalize nP P = N1 at HC HL
  generalize nP Q = N2 at HD HL
  obtain ⟨p1, p2, z1⟩ := P
  obtain ⟨q1, q2, z2⟩ := Q
  unfold pv at HA HB HC HD ⊢
  simp only at HA HB HC HD ⊢
  obtain ⟨W, hW, hb, hp, hq, hs⟩ := boxes2r w 35 35 103 #[.int .i64 p1, .int .i64 p2, .bool z1] #[.int .i64 q1, .int .i64 q2, .bool z2] #[.int .i64 0, .int .i64 0]
  cases g1
  · have hE := H1.out rfl
    rw [hE]
    clear hE H1 H2 HL HT HB HC HD
    go_enter Tryz.func62, Tryz.ntmps62
    go_wp2_with (refine load_blk rfl rfl rfl hp Tryz.underlying35 infoP ?_)
    clear hW
    refine (HA.out _).mono ?_
    rintro e w1 ⟨rfl, hw⟩
    have hs1 := hs.on hw hs.lt
    have hb1 := below_then hb hw
    clear hp hq hs hb hw HA
    go_wp2_with (refine store_blk (cs' := #[.int .i64 1, .int .i64 0]) rfl rfl rfl rfl rfl hs1 infoT rfl (ones2 _ _) ?_; intro V h5 hoth hbel; have hbV := hbel _ _ (by omega) hb1; clear hoth hbel)
    refine bodyPost_ret_by (result_blk rfl rfl h5 Tryz.underlying103 infoT) rfl ⟨rfl, hbV⟩
  · cases g2
    · have hE := H2.out rfl
      rw [hE]
      clear hE H1 H2 HL HT HC HD
      go_enter Tryz.func62, Tryz.ntmps62
      go_wp2_with (refine load_blk rfl rfl rfl hp Tryz.underlying35 infoP ?_)
      clear hW
      refine (HA.out _).mono ?_
      rintro e w1 ⟨rfl, hw⟩
      have hs1 := hs.on hw hs.lt
      have hq1 := hq.on hw hq.lt
      have hb1 := below_then hb hw
      have q0 := hq1.cell 0
      have q1 := hq1.cell 1
      have q2 := hq1.cell 2
      clear hp hq hs hb hw HA
      go_wp2_with fail
      clear q0 q1 q2
      refine (HB.out _).mono ?_
      rintro e w2 ⟨rfl, hw⟩
      have hs2 := hs1.on hw hs1.lt
      have hb2 := below_then hb1 hw
      clear hs1 hq1 hb1 hw HB
      go_wp2_with (refine store_blk (cs' := #[.int .i64 1, .int .i64 0]) rfl rfl rfl rfl rfl hs2 infoT rfl (ones2 _ _) ?_; intro V h5 hoth hbel; have hbV := hbel _ _ (by omega) hb2; clear hoth hbel)
      refine bodyPost_ret_by (result_blk rfl rfl h5 Tryz.underlying103 infoT) rfl ⟨rfl, hbV⟩
    · have HL' : Hid (∀ a b w, PAt w a N1 → PAt w b N2 → Calls Tryz.prog 136 #[a, b] w fun e w' => e = .returned (tv L) ∧ Below w.heap.size w w') := HL.out rfl rfl
      clear H1 H2 HL
      go_enter Tryz.func62, Tryz.ntmps62
      go_wp2_with (refine load_blk rfl rfl rfl hp Tryz.underlying35 infoP ?_)
      clear hW
      refine (HA.out _).mono ?_
      rintro e w1 ⟨rfl, hw⟩
      have hs1 := hs.on hw hs.lt
      have hp1 := hp.on hw hp.lt
      have hq1 := hq.on hw hq.lt
      have hb1 := below_then hb hw
      have q0 := hq1.cell 0
      have q1 := hq1.cell 1
      have q2 := hq1.cell 2
      clear hp hq hs hb hw HA
      go_wp2_with fail
      clear q0 q1 q2
      refine (HB.out _).mono ?_
      rintro e w2 ⟨rfl, hw⟩
      have hs2 := hs1.on hw hs1.lt
      have hp2 := hp1.on hw hp1.lt
      have hq2 := hq1.on hw hq1.lt
      have hb2 := below_then hb1 hw
      clear hs1 hp1 hq1 hb1 hw HB
      go_wp2_with (refine load_blk rfl rfl rfl hp2 Tryz.underlying35 infoP ?_)
      refine (HC.out _).mono ?_
      rintro e w3 ⟨v1, rfl, hv1, hw⟩
      have HV1 : Hid (PAt w3 v1 N1) := hv1
      have hq3 := hq2.on hw hq2.lt
      have hs3 := hs2.on hw hs2.lt
      have hb3 := below_then hb2 hw
      clear hp2 hq2 hs2 hb2 hw hv1 HC
      go_wp2_with (refine load_blk rfl rfl rfl hq3 Tryz.underlying35 infoP ?_)
      refine (HD.out _).mono ?_
      rintro e w4 ⟨v2, rfl, hv2, hw⟩
      have HV2 : Hid (PAt w4 v2 N2) := hv2
      have HV1' : Hid (PAt w4 v1 N1) := HV1.out.on hw
      have hs4 := hs3.on hw hs3.lt
      have hb4 := below_then hb3 hw
      clear hq3 hs3 hb3 hw hv2 HD HV1
      go_wp2_with fail
      refine (HL'.out _ _ _ HV1'.out HV2.out).mono ?_
      rintro e w5 ⟨rfl, hw⟩
      have hs5 := hs4.on hw hs4.lt
      have hb5 := below_then hb4 hw
      clear hs4 hb4 hw HL' HV1' HV2
      go_wp2_with fail
      refine (HT.out _).mono ?_
      rintro e w6 ⟨rfl, hw⟩
      have hs6 := hs5.on hw hs5.lt
      have hb6 := below_then hb5 hw
      clear hs5 hb5 hw HT
      go_wp2_with (refine store_blk (cs' := #[.int .i64 L.1, .int .i64 L.2]) rfl rfl rfl rfl rfl hs6 infoT rfl (ones2 _ _) ?_; intro V h5 hoth hbel; have hbV := hbel _ _ (by omega) hb6; clear hoth hbel)
      refine bodyPost_ret_by (result_blk rfl rfl h5 Tryz.underlying103 infoT) rfl ⟨rfl, hbV⟩

end Go.Proofs.YthnahalboomkoaaGreat

/-
  The walk of the program's word on whether a proof is right.
  (-DROP-: what the seat lacks is left out.)
-/
namespace Go.Proofs.YthnahalboomkoaaGreat
open Go.RowKit

def prfOkI (A B G D : Pt) (f : Nat → Pt) (n : Nat) (m : List Int) (X Y Z : Pt) : Bool := prfMay n m X Y Z && prfRight A B G D (inSumI f n m) X Y Z
theorem may_parts (n : Nat) (m : List Int) (X Y Z : Pt) : prfMay n m X Y Z = (!X.2.2 && (!Y.2.2 && (prfIn X Y Z && wide m ((n : Int) - 1)))) := by
  have e : (decide (n = m.length + 1) && wide m (m.length : Int)) = wide m ((n : Int) - 1) := by
    unfold wide
    by_cases h : n = m.length + 1
    · have h1 : (m.length : Int) = (n : Int) - 1 := by omega
      rw [decide_eq_true h, decide_eq_true h1, decide_eq_true rfl]
      rfl
    · have h1 : ¬ (m.length : Int) = (n : Int) - 1 := by omega
      rw [decide_eq_false h, decide_eq_false h1]
      simp
  unfold prfMay prfIn
  rw [Bool.and_assoc (b := decide (n = m.length + 1)), e]
  cases inGB X <;> cases inGB Y <;> cases inGB Z <;> cases X.2.2 <;> cases Y.2.2 <;> cases wide m ((n : Int) - 1) <;> rfl

set_option maxHeartbeats 6400000 in
set_option maxRecDepth 100000 in
theorem iProofOk_any (A B G D : Pt) (a : Option Addr) (n cp : Nat) (hn : n ≤ 1048576) (hcp : n ≤ cp) (f : Nat → Pt) (am : Option Addr) (cm : Nat) (m : List Int) (hm : m.length ≤ 1048576) (X Y Z : Pt) (w : World) (hA : PtsAt w a n w.heap.size f) (hB : IntsAt w am m.length w.heap.size (fun j => m.getD j 0)) :
    Calls Tryz.prog 14 #[.agg (keyC A B G D (.slice a n cp)), .slice am m.length cm, .agg (prfC X Y Z)] w fun e w' => e = .returned (.bool (prfOkI A B G D f n m X Y Z)) ∧ Below w.heap.size w w' := by
  obtain ⟨W, hW, hb, hs, hr⟩ := boxes1r w 38 44 #[.int .i64 A.1, .int .i64 A.2.1, .bool A.2.2, .int .i64 B.1, .int .i64 B.2.1, .bool B.2.2, .int .i64 G.1, .int .i64 G.2.1, .bool G.2.2, .int .i64 D.1, .int .i64 D.2.1, .bool D.2.2, .slice a n cp] (prfC X Y Z)
  have HB : Hid (Below w.heap.size w W ∧ Blk W w.heap.size 38 #[.int .i64 A.1, .int .i64 A.2.1, .bool A.2.2, .int .i64 B.1, .int .i64 B.2.1, .bool B.2.2, .int .i64 G.1, .int .i64 G.2.1, .bool G.2.2, .int .i64 D.1, .int .i64 D.2.1, .bool D.2.2, .slice a n cp] ∧ Blk W (w.heap.size + 1) 44 #[.int .i64 X.1, .int .i64 X.2.1, .bool X.2.2, .int .i64 Y.1, .int .i64 Y.2.1, .bool Y.2.2, .int .i64 Z.1, .int .i64 Z.2.1, .bool Z.2.2]) := ⟨hb, hs, hr⟩
  have CI : Hid (∀ V, Below w.heap.size w V → Calls Tryz.prog 17 #[.agg #[.int .i64 A.1, .int .i64 A.2.1, .bool A.2.2, .int .i64 B.1, .int .i64 B.2.1, .bool B.2.2, .int .i64 G.1, .int .i64 G.2.1, .bool G.2.2, .int .i64 D.1, .int .i64 D.2.1, .bool D.2.2, .slice a n cp], .slice am m.length cm] V fun e w' => e = .returned (pv (inSumI f n m)) ∧ Below V.heap.size V w') := fun V hV => iInput_any A B G D a n cp hn hcp f am cm m hm V ((hA.on hV).wide hV.size) ((hB.on hV).wide hV.size)
  have CW : Hid (∀ V, Below w.heap.size w V → Calls Tryz.prog 52 #[.slice am m.length cm, .int .i64 ((n : Int) - 1)] V fun e w' => e = .returned (.bool (wide m ((n : Int) - 1))) ∧ Below V.heap.size V w') := fun V hV => iWide_any am cm m ((n : Int) - 1) (by omega) V ((hB.on hV).wide hV.size)
  have CP : Hid (∀ V, Calls Tryz.prog 59 #[.agg (prfC X Y Z)] V fun e w' => e = .returned (.agg (prfC X Y Z)) ∧ Below V.heap.size V w') := points_any X Y Z
  have CG : Hid (∀ g c V, g < V.heap.size → Blk V g 99 (prfC X Y Z) → Calls Tryz.prog 60 #[.slice (some ⟨g, 0, none⟩) 3 c] V fun e w' => e = .returned (.bool (prfIn X Y Z)) ∧ Below V.heap.size V w') := fun g c V hg h => by
    have h1 := allIn_any (some ⟨g, 0, none⟩) 3 c (by decide) (three X Y Z) V (pts3 hg h)
    rw [three_all] at h1
    exact h1
  have HOK : Hid (prfOkI A B G D f n m X Y Z = ((!X.2.2 && (!Y.2.2 && (prfIn X Y Z && wide m ((n : Int) - 1)))) && prfRight A B G D (inSumI f n m) X Y Z)) := by show _ = _; unfold prfOkI; rw [may_parts]
  have HRG : Hid (prfRight A B G D (inSumI f n m) X Y Z = decide (pairS X Y = tm (tm (pairS A B) (pairS (inSumI f n m) G)) (pairS Z D))) := rfl
  obtain ⟨R, hR⟩ : ∃ R, R = prfOkI A B G D f n m X Y Z := ⟨_, rfl⟩
  rw [← hR] at HOK ⊢
  clear hR
  generalize prfRight A B G D (inSumI f n m) X Y Z = RG at HOK HRG
  generalize inSumI f n m = J at CI HRG
  have P1 : Hid (∀ V, Calls Tryz.prog 62 #[.agg #[.int .i64 A.1, .int .i64 A.2.1, .bool A.2.2], .agg #[.int .i64 B.1, .int .i64 B.2.1, .bool B.2.2]] V fun e w' => e = .returned (tv (pairS A B)) ∧ Below V.heap.size V w') := iPairing_any A B
  have P2 : Hid (∀ V, Calls Tryz.prog 62 #[.agg #[.int .i64 J.1, .int .i64 J.2.1, .bool J.2.2], .agg #[.int .i64 G.1, .int .i64 G.2.1, .bool G.2.2]] V fun e w' => e = .returned (tv (pairS J G)) ∧ Below V.heap.size V w') := iPairing_any J G
  have P3 : Hid (∀ V, Calls Tryz.prog 62 #[.agg #[.int .i64 Z.1, .int .i64 Z.2.1, .bool Z.2.2], .agg #[.int .i64 D.1, .int .i64 D.2.1, .bool D.2.2]] V fun e w' => e = .returned (tv (pairS Z D)) ∧ Below V.heap.size V w') := iPairing_any Z D
  have P4 : Hid (∀ V, Calls Tryz.prog 62 #[.agg #[.int .i64 X.1, .int .i64 X.2.1, .bool X.2.2], .agg #[.int .i64 Y.1, .int .i64 Y.2.1, .bool Y.2.2]] V fun e w' => e = .returned (tv (pairS X Y)) ∧ Below V.heap.size V w') := iPairing_any X Y
  have M1 : Hid (∀ V, Calls Tryz.prog 61 #[tv (pairS A B), tv (pairS J G)] V fun e w' => e = .returned (tv (tm (pairS A B) (pairS J G))) ∧ Below V.heap.size V w') := iMul2_any _ _
  have M2 : Hid (∀ V, Calls Tryz.prog 61 #[tv (tm (pairS A B) (pairS J G)), tv (pairS Z D)] V fun e w' => e = .returned (tv (tm (tm (pairS A B) (pairS J G)) (pairS Z D))) ∧ Below V.heap.size V w') := iMul2_any _ _
  generalize tm (tm (pairS A B) (pairS J G)) (pairS Z D) = t5 at *
  generalize tm (pairS A B) (pairS J G) = t4 at *
  generalize pairS A B = t1 at *
  generalize pairS J G = t2 at *
  generalize pairS Z D = t3 at *
  generalize pairS X Y = t6 at *
  unfold pv at CI
  unfold tv at P1 P2 P3 P4 M1 M2
  unfold keyC
  clear hA hB hb hs
  generalize hml : m.length = ml at *
  clear hml
  generalize hwd : wide m ((n : Int) - 1) = wd at CW HOK
  clear hwd
  have hs1 : w.heap.size + 1 < W.heap.size := hr.lt
  go_enter Tryz.func14, Tryz.ntmps14
  go_wp2_with (refine load_blk rfl rfl rfl hr Tryz.underlying44 infoPr ?_)
  clear hW hr
  refine (CP.out _).mono ?_
  rintro e w1 ⟨rfl, hb1⟩
  have hB1 := HB.out.1.trans (hb1.mono HB.out.1.size)
  have hk1 := HB.out.2.1.on hb1 HB.out.2.1.lt
  have hp1 := HB.out.2.2.on hb1 HB.out.2.2.lt
  have hs2 : w.heap.size + 1 < w1.heap.size := hp1.lt
  clear HB hb1 CP hs1
  obtain ⟨V0, hV0, hb0, hs0⟩ := box1 w1 99 #[.int .i64 0, .int .i64 0, .bool false, .int .i64 0, .int .i64 0, .bool false, .int .i64 0, .int .i64 0, .bool false]
  have K0 : Hid (∀ V1, Below w1.heap.size w1 V1 → Below w.heap.size w V1 ∧ Blk V1 w.heap.size 38 #[.int .i64 A.1, .int .i64 A.2.1, .bool A.2.2, .int .i64 B.1, .int .i64 B.2.1, .bool B.2.2, .int .i64 G.1, .int .i64 G.2.1, .bool G.2.2, .int .i64 D.1, .int .i64 D.2.1, .bool D.2.2, .slice a n cp] ∧ Blk V1 (w.heap.size + 1) 44 #[.int .i64 X.1, .int .i64 X.2.1, .bool X.2.2, .int .i64 Y.1, .int .i64 Y.2.1, .bool Y.2.2, .int .i64 Z.1, .int .i64 Z.2.1, .bool Z.2.2]) := fun V1 h => ⟨hB1.trans (h.mono hB1.size), hk1.on h hk1.lt, hp1.on h hp1.lt⟩
  clear hB1 hk1 hp1
  cases h3 : X.2.2
  · cases h4 : Y.2.2
    · rw [h3, h4] at HOK
      go_wp2_with (refine store_blkS (cs' := prfC X Y Z) rfl rfl rfl rfl rfl hs0 infoPp rfl (ones9 _ _ _) ?_; intro V1 hq1 hheap hoth hbel; have hb3 := hbel _ _ (Nat.le_refl _) hb0; clear hoth hbel hheap; have hK1 := K0.out V1 hb3; have q2 : V1.cell? ⟨w.heap.size + 1, 2, none⟩ = some (.bool false) := (by rw [← h3]; exact hK1.2.2.cell 2); have q5 : V1.cell? ⟨w.heap.size + 1, 5, none⟩ = some (.bool false) := (by rw [← h4]; exact hK1.2.2.cell 5))
      clear hV0 hb0 hs0 K0 q2 q5 hb3
      refine (CG.out _ _ _ hq1.lt hq1).mono ?_
      rintro e w3 ⟨rfl, hb3⟩
      have hB3 := hK1.1.trans (hb3.mono hK1.1.size)
      have hk3 := hK1.2.1.on hb3 hK1.2.1.lt
      have hp3 := hK1.2.2.on hb3 hK1.2.2.lt
      clear hK1 hq1 hb3 CG
      cases h2 : prfIn X Y Z
      · skip
        have HE : Hid (R = false) := by show _ = _; rw [HOK.out, h2]; simp
        go_wp2
        go_ret
        exact ⟨by rw [HE.out]; rfl, hB3⟩
      · have qk : w3.cell? ⟨w.heap.size, 12, none⟩ = some (.slice a n cp) := hk3.cell 12
        have hwr : IntKind.i64.wrap ((n : Int) - 1) = (n : Int) - 1 := IntWalk.i64_in _ (by omega)
        go_wp2_with fail
        clear qk
        refine (CW.out _ hB3).mono ?_
        rintro e w4 ⟨rfl, hb4⟩
        have hB4w := hB3.trans (hb4.mono hB3.size)
        have hs4 := hk3.on hb4 hk3.lt
        have hr4 := hp3.on hb4 hp3.lt
        clear hB3 hk3 hp3 hb4 CW
        cases wd
        · skip
          have HE : Hid (R = false) := by show _ = _; rw [HOK.out, h2]; simp
          go_wp2
          go_ret
          exact ⟨by rw [HE.out]; rfl, hB4w⟩
        · have HE : Hid (R = decide (t6 = t5)) := by show _ = _; rw [HOK.out, h2, HRG.out]; simp
          go_wp2_with fail
          refine wp_region_made 12 mixes (by kernel_rfl) rfl rfl (fun a w => by go_simp <;> rfl) ?_
          simp only [List.take_succ_cons, List.take_zero, List.drop_succ_cons, List.drop_zero]
          repeat (refine bel_step rfl (fun K hK => ⟨_, (fun w' hw => by have q0 := (hs4.on hw hs4.lt).cell 0; have q1 := (hs4.on hw hs4.lt).cell 1; have q2 := (hs4.on hw hs4.lt).cell 2; have q3 := (hs4.on hw hs4.lt).cell 3; have q4 := (hs4.on hw hs4.lt).cell 4; have q5 := (hs4.on hw hs4.lt).cell 5; have q6 := (hs4.on hw hs4.lt).cell 6; have q7 := (hs4.on hw hs4.lt).cell 7; have q8 := (hs4.on hw hs4.lt).cell 8; have q9 := (hs4.on hw hs4.lt).cell 9; have q10 := (hs4.on hw hs4.lt).cell 10; have q11 := (hs4.on hw hs4.lt).cell 11; have q12 := (hs4.on hw hs4.lt).cell 12; have q13 := (hr4.on hw hr4.lt).cell 0; have q14 := (hr4.on hw hr4.lt).cell 1; have q15 := (hr4.on hw hr4.lt).cell 2; have q16 := (hr4.on hw hr4.lt).cell 3; have q17 := (hr4.on hw hr4.lt).cell 4; have q18 := (hr4.on hw hr4.lt).cell 5; have q19 := (hr4.on hw hr4.lt).cell 6; have q20 := (hr4.on hw hr4.lt).cell 7; have q21 := (hr4.on hw hr4.lt).cell 8; go_simp; exact rfl), ?_⟩); go_simp; refine hK _ ?_; clear hK K)
          refine bel_call rfl (fun K hK => ⟨_, _, _, (fun w' => by go_simp <;> first | exact rfl | exact ⟨rfl, rfl⟩), (fun w' hw => P1.out _), ?_⟩); go_simp; refine hK _ ?_; clear hK K
          repeat (refine bel_step rfl (fun K hK => ⟨_, (fun w' hw => by have q0 := (hs4.on hw hs4.lt).cell 0; have q1 := (hs4.on hw hs4.lt).cell 1; have q2 := (hs4.on hw hs4.lt).cell 2; have q3 := (hs4.on hw hs4.lt).cell 3; have q4 := (hs4.on hw hs4.lt).cell 4; have q5 := (hs4.on hw hs4.lt).cell 5; have q6 := (hs4.on hw hs4.lt).cell 6; have q7 := (hs4.on hw hs4.lt).cell 7; have q8 := (hs4.on hw hs4.lt).cell 8; have q9 := (hs4.on hw hs4.lt).cell 9; have q10 := (hs4.on hw hs4.lt).cell 10; have q11 := (hs4.on hw hs4.lt).cell 11; have q12 := (hs4.on hw hs4.lt).cell 12; have q13 := (hr4.on hw hr4.lt).cell 0; have q14 := (hr4.on hw hr4.lt).cell 1; have q15 := (hr4.on hw hr4.lt).cell 2; have q16 := (hr4.on hw hr4.lt).cell 3; have q17 := (hr4.on hw hr4.lt).cell 4; have q18 := (hr4.on hw hr4.lt).cell 5; have q19 := (hr4.on hw hr4.lt).cell 6; have q20 := (hr4.on hw hr4.lt).cell 7; have q21 := (hr4.on hw hr4.lt).cell 8; go_simp; exact rfl), ?_⟩); go_simp; refine hK _ ?_; clear hK K)
          refine bel_call rfl (fun K hK => ⟨_, _, _, (fun w' => by go_simp <;> first | exact rfl | exact ⟨rfl, rfl⟩), (fun w' hw => CI.out _ (hB4w.trans (hw.mono hB4w.size))), ?_⟩); go_simp; refine hK _ ?_; clear hK K
          repeat (refine bel_step rfl (fun K hK => ⟨_, (fun w' hw => by have q0 := (hs4.on hw hs4.lt).cell 0; have q1 := (hs4.on hw hs4.lt).cell 1; have q2 := (hs4.on hw hs4.lt).cell 2; have q3 := (hs4.on hw hs4.lt).cell 3; have q4 := (hs4.on hw hs4.lt).cell 4; have q5 := (hs4.on hw hs4.lt).cell 5; have q6 := (hs4.on hw hs4.lt).cell 6; have q7 := (hs4.on hw hs4.lt).cell 7; have q8 := (hs4.on hw hs4.lt).cell 8; have q9 := (hs4.on hw hs4.lt).cell 9; have q10 := (hs4.on hw hs4.lt).cell 10; have q11 := (hs4.on hw hs4.lt).cell 11; have q12 := (hs4.on hw hs4.lt).cell 12; have q13 := (hr4.on hw hr4.lt).cell 0; have q14 := (hr4.on hw hr4.lt).cell 1; have q15 := (hr4.on hw hr4.lt).cell 2; have q16 := (hr4.on hw hr4.lt).cell 3; have q17 := (hr4.on hw hr4.lt).cell 4; have q18 := (hr4.on hw hr4.lt).cell 5; have q19 := (hr4.on hw hr4.lt).cell 6; have q20 := (hr4.on hw hr4.lt).cell 7; have q21 := (hr4.on hw hr4.lt).cell 8; go_simp; exact rfl), ?_⟩); go_simp; refine hK _ ?_; clear hK K)
          refine bel_call rfl (fun K hK => ⟨_, _, _, (fun w' => by go_simp <;> first | exact rfl | exact ⟨rfl, rfl⟩), (fun w' hw => P2.out _), ?_⟩); go_simp; refine hK _ ?_; clear hK K
          refine bel_call rfl (fun K hK => ⟨_, _, _, (fun w' => by go_simp <;> first | exact rfl | exact ⟨rfl, rfl⟩), (fun w' hw => M1.out _), ?_⟩); go_simp; refine hK _ ?_; clear hK K
          refine bel_nil ?_
          intro gn w' hw hgn hnew
          refine frame_out fun K hK => ?_
          go_simp
          refine hK _ ?_
          clear hK K
          refine store_blk (cs' := #[.int .i64 t4.1, .int .i64 t4.2]) rfl rfl rfl rfl rfl hnew infoT rfl (ones2 _ _) ?_
          intro V h7 hoth hbel
          have hr5 := hoth _ _ _ (by have := hr4.lt; omega) (hr4.on hw hr4.lt)
          have hs5 := hoth _ _ _ (by have := hs4.lt; omega) (hs4.on hw hs4.lt)
          have hB5 : Below w.heap.size w V := hbel _ _ (by have := hB4w.size; omega) (hB4w.trans (hw.mono hB4w.size))
          clear hoth hbel hnew hgn hw hs4 hr4
          go_wp2_with fail
          have T0 : Below V.heap.size V V.drew := (Below.refl _ _).drew
          clear P1 P2 M1 CI h2 h3 h4 HOK HRG
          obtain ⟨x1, x2⟩ := t6
          obtain ⟨y1, y2⟩ := t5
          dsimp only at P4 M2
          by_cases e1 : x1 = y1
          · subst e1
            by_cases e2 : x2 = y2
            · subst e2
              have HX : Hid (R = true) := by show _ = _; rw [HE.out]; exact decide_eq_true rfl
              clear HE
              refine wp_region_ord [(0, false), (1, false), (2, false), (3, false), (5, false), (6, false), (7, false), (8, false), (9, false), (4, true), (10, true), (11, true), (12, false), (13, false)] (fun wz => Below V.heap.size V wz) mixes (by kernel_rfl) T0 ?_
              repeat (refine ord_float rfl rfl (fun K hK => ⟨_, (fun w' hw => by have q0 := (hr5.on hw hr5.lt).cell 0; have q1 :=  (hr5.on hw hr5.lt).cell 1; have q2 :=  (hr5.on hw hr5.lt).cell 2; have q3 :=  (hr5.on hw hr5.lt).cell 3; have q4 :=  (hr5.on hw hr5.lt).cell 4; have q5 :=  (hr5.on hw hr5.lt).cell 5; have q6 :=  (hr5.on hw hr5.lt).cell 6; have q7 :=  (hr5.on hw hr5.lt).cell 7; have q8 :=  (hr5.on hw hr5.lt).cell 8; have q9 :=  (hs5.on hw hs5.lt).cell 0; have q10 :=  (hs5.on hw hs5.lt).cell 1; have q11 :=  (hs5.on hw hs5.lt).cell 2; have q12 :=  (hs5.on hw hs5.lt).cell 3; have q13 :=  (hs5.on hw hs5.lt).cell 4; have q14 :=  (hs5.on hw hs5.lt).cell 5; have q15 :=  (hs5.on hw hs5.lt).cell 6; have q16 :=  (hs5.on hw hs5.lt).cell 7; have q17 :=  (hs5.on hw hs5.lt).cell 8; have q18 :=  (hs5.on hw hs5.lt).cell 9; have q19 :=  (hs5.on hw hs5.lt).cell 10; have q20 :=  (hs5.on hw hs5.lt).cell 11; have q21 :=  (hs5.on hw hs5.lt).cell 12; have q22 :=  (h7.on hw h7.lt).cell 0; have q23 :=  (h7.on hw h7.lt).cell 1; go_simp; exact rfl), ?_⟩); go_simp; refine hK _ ?_; clear hK K)
              refine ord_call rfl rfl (fun K hK => ⟨_, _, (by go_simp <;> first | exact rfl | exact ⟨rfl, rfl⟩), ?_⟩)
              refine (P4.out _).mono ?_
              rintro e u1 ⟨rfl, hu1⟩
              have T1 := below_then T0 hu1
              refine ⟨_, rfl, T1, ?_⟩
              go_simp
              refine hK _ _ ?_
              clear hK K
              refine ord_call rfl rfl (fun K hK => ⟨_, _, (by go_simp <;> first | exact rfl | exact ⟨rfl, rfl⟩), ?_⟩)
              refine (P3.out _).mono ?_
              rintro e u2 ⟨rfl, hu2⟩
              have T2 := below_then T1 hu2
              refine ⟨_, rfl, T2, ?_⟩
              go_simp
              refine hK _ _ ?_
              clear hK K
              refine ord_call rfl rfl (fun K hK => ⟨_, _, (by go_simp <;> first | exact rfl | exact ⟨rfl, rfl⟩), ?_⟩)
              refine (M2.out _).mono ?_
              rintro e u3 ⟨rfl, hu3⟩
              have T3 := below_then T2 hu3
              refine ⟨_, rfl, T3, ?_⟩
              go_simp
              refine hK _ _ ?_
              clear hK K
              repeat (refine ord_float rfl rfl (fun K hK => ⟨_, (fun w' hw => by have q0 := (h7.on hw h7.lt).cell 0; go_simp; exact rfl), ?_⟩); go_simp; refine hK _ ?_; clear hK K)
              refine ord_nil ?_
              go_wp2
              go_ret
              exact ⟨by rw [HX.out]; rfl, hB5.trans (T3.mono hB5.size)⟩
            · have e3 : (x2 == y2) = false := by rw [beq_eq_false_iff_ne]; exact e2
              have HX : Hid (R = false) := by show _ = _; rw [HE.out]; exact decide_eq_false (fun h => e2 (congrArg Prod.snd h))
              clear HE
              refine wp_region_ord [(0, false), (1, false), (2, false), (3, false), (5, false), (6, false), (7, false), (8, false), (9, false), (4, true), (10, true), (11, true), (12, false), (13, false)] (fun wz => Below V.heap.size V wz) mixes (by kernel_rfl) T0 ?_
              repeat (refine ord_float rfl rfl (fun K hK => ⟨_, (fun w' hw => by have q0 := (hr5.on hw hr5.lt).cell 0; have q1 :=  (hr5.on hw hr5.lt).cell 1; have q2 :=  (hr5.on hw hr5.lt).cell 2; have q3 :=  (hr5.on hw hr5.lt).cell 3; have q4 :=  (hr5.on hw hr5.lt).cell 4; have q5 :=  (hr5.on hw hr5.lt).cell 5; have q6 :=  (hr5.on hw hr5.lt).cell 6; have q7 :=  (hr5.on hw hr5.lt).cell 7; have q8 :=  (hr5.on hw hr5.lt).cell 8; have q9 :=  (hs5.on hw hs5.lt).cell 0; have q10 :=  (hs5.on hw hs5.lt).cell 1; have q11 :=  (hs5.on hw hs5.lt).cell 2; have q12 :=  (hs5.on hw hs5.lt).cell 3; have q13 :=  (hs5.on hw hs5.lt).cell 4; have q14 :=  (hs5.on hw hs5.lt).cell 5; have q15 :=  (hs5.on hw hs5.lt).cell 6; have q16 :=  (hs5.on hw hs5.lt).cell 7; have q17 :=  (hs5.on hw hs5.lt).cell 8; have q18 :=  (hs5.on hw hs5.lt).cell 9; have q19 :=  (hs5.on hw hs5.lt).cell 10; have q20 :=  (hs5.on hw hs5.lt).cell 11; have q21 :=  (hs5.on hw hs5.lt).cell 12; have q22 :=  (h7.on hw h7.lt).cell 0; have q23 :=  (h7.on hw h7.lt).cell 1; go_simp; exact rfl), ?_⟩); go_simp; refine hK _ ?_; clear hK K)
              refine ord_call rfl rfl (fun K hK => ⟨_, _, (by go_simp <;> first | exact rfl | exact ⟨rfl, rfl⟩), ?_⟩)
              refine (P4.out _).mono ?_
              rintro e u1 ⟨rfl, hu1⟩
              have T1 := below_then T0 hu1
              refine ⟨_, rfl, T1, ?_⟩
              go_simp
              refine hK _ _ ?_
              clear hK K
              refine ord_call rfl rfl (fun K hK => ⟨_, _, (by go_simp <;> first | exact rfl | exact ⟨rfl, rfl⟩), ?_⟩)
              refine (P3.out _).mono ?_
              rintro e u2 ⟨rfl, hu2⟩
              have T2 := below_then T1 hu2
              refine ⟨_, rfl, T2, ?_⟩
              go_simp
              refine hK _ _ ?_
              clear hK K
              refine ord_call rfl rfl (fun K hK => ⟨_, _, (by go_simp <;> first | exact rfl | exact ⟨rfl, rfl⟩), ?_⟩)
              refine (M2.out _).mono ?_
              rintro e u3 ⟨rfl, hu3⟩
              have T3 := below_then T2 hu3
              refine ⟨_, rfl, T3, ?_⟩
              go_simp
              refine hK _ _ ?_
              clear hK K
              repeat (refine ord_float rfl rfl (fun K hK => ⟨_, (fun w' hw => by have q0 := (h7.on hw h7.lt).cell 0; go_simp; exact rfl), ?_⟩); go_simp; refine hK _ ?_; clear hK K)
              refine ord_nil ?_
              go_wp2
              go_ret
              exact ⟨by rw [HX.out]; rfl, hB5.trans (T3.mono hB5.size)⟩
          · have e3 : (x1 == y1) = false := by rw [beq_eq_false_iff_ne]; exact e1
            have HX : Hid (R = false) := by show _ = _; rw [HE.out]; exact decide_eq_false (fun h => e1 (congrArg Prod.fst h))
            clear HE
            refine wp_region_ord [(0, false), (1, false), (2, false), (3, false), (5, false), (6, false), (7, false), (8, false), (9, false), (4, true), (10, true), (11, true), (12, false), (13, false)] (fun wz => Below V.heap.size V wz) mixes (by kernel_rfl) T0 ?_
            repeat (refine ord_float rfl rfl (fun K hK => ⟨_, (fun w' hw => by have q0 := (hr5.on hw hr5.lt).cell 0; have q1 :=  (hr5.on hw hr5.lt).cell 1; have q2 :=  (hr5.on hw hr5.lt).cell 2; have q3 :=  (hr5.on hw hr5.lt).cell 3; have q4 :=  (hr5.on hw hr5.lt).cell 4; have q5 :=  (hr5.on hw hr5.lt).cell 5; have q6 :=  (hr5.on hw hr5.lt).cell 6; have q7 :=  (hr5.on hw hr5.lt).cell 7; have q8 :=  (hr5.on hw hr5.lt).cell 8; have q9 :=  (hs5.on hw hs5.lt).cell 0; have q10 :=  (hs5.on hw hs5.lt).cell 1; have q11 :=  (hs5.on hw hs5.lt).cell 2; have q12 :=  (hs5.on hw hs5.lt).cell 3; have q13 :=  (hs5.on hw hs5.lt).cell 4; have q14 :=  (hs5.on hw hs5.lt).cell 5; have q15 :=  (hs5.on hw hs5.lt).cell 6; have q16 :=  (hs5.on hw hs5.lt).cell 7; have q17 :=  (hs5.on hw hs5.lt).cell 8; have q18 :=  (hs5.on hw hs5.lt).cell 9; have q19 :=  (hs5.on hw hs5.lt).cell 10; have q20 :=  (hs5.on hw hs5.lt).cell 11; have q21 :=  (hs5.on hw hs5.lt).cell 12; have q22 :=  (h7.on hw h7.lt).cell 0; have q23 :=  (h7.on hw h7.lt).cell 1; go_simp; exact rfl), ?_⟩); go_simp; refine hK _ ?_; clear hK K)
            refine ord_call rfl rfl (fun K hK => ⟨_, _, (by go_simp <;> first | exact rfl | exact ⟨rfl, rfl⟩), ?_⟩)
            refine (P4.out _).mono ?_
            rintro e u1 ⟨rfl, hu1⟩
            have T1 := below_then T0 hu1
            refine ⟨_, rfl, T1, ?_⟩
            go_simp
            refine hK _ _ ?_
            clear hK K
            refine ord_call rfl rfl (fun K hK => ⟨_, _, (by go_simp <;> first | exact rfl | exact ⟨rfl, rfl⟩), ?_⟩)
            refine (P3.out _).mono ?_
            rintro e u2 ⟨rfl, hu2⟩
            have T2 := below_then T1 hu2
            refine ⟨_, rfl, T2, ?_⟩
            go_simp
            refine hK _ _ ?_
            clear hK K
            refine ord_call rfl rfl (fun K hK => ⟨_, _, (by go_simp <;> first | exact rfl | exact ⟨rfl, rfl⟩), ?_⟩)
            refine (M2.out _).mono ?_
            rintro e u3 ⟨rfl, hu3⟩
            have T3 := below_then T2 hu3
            refine ⟨_, rfl, T3, ?_⟩
            go_simp
            refine hK _ _ ?_
            clear hK K
            repeat (refine ord_float rfl rfl (fun K hK => ⟨_, (fun w' hw => by have q0 := (h7.on hw h7.lt).cell 0; go_simp; exact rfl), ?_⟩); go_simp; refine hK _ ?_; clear hK K)
            refine ord_nil ?_
            go_wp2
            go_ret
            exact ⟨by rw [HX.out]; rfl, hB5.trans (T3.mono hB5.size)⟩
    · have HE : Hid (R = false) := by show _ = _; rw [HOK.out, h4]; simp
      go_wp2_with (refine store_blkS (cs' := prfC X Y Z) rfl rfl rfl rfl rfl hs0 infoPp rfl (ones9 _ _ _) ?_; intro V1 hq1 hheap hoth hbel; have hb3 := hbel _ _ (Nat.le_refl _) hb0; clear hoth hbel hheap; have hK1 := K0.out V1 hb3; have q2 : V1.cell? ⟨w.heap.size + 1, 2, none⟩ = some (.bool false) := (by rw [← h3]; exact hK1.2.2.cell 2); have q5 : V1.cell? ⟨w.heap.size + 1, 5, none⟩ = some (.bool true) := (by rw [← h4]; exact hK1.2.2.cell 5))
      go_ret
      exact ⟨by rw [HE.out]; rfl, hK1.1⟩
  · have HE : Hid (R = false) := by show _ = _; rw [HOK.out, h3]; simp
    go_wp2_with (refine store_blkS (cs' := prfC X Y Z) rfl rfl rfl rfl rfl hs0 infoPp rfl (ones9 _ _ _) ?_; intro V1 hq1 hheap hoth hbel; have hb3 := hbel _ _ (Nat.le_refl _) hb0; clear hoth hbel hheap; have hK1 := K0.out V1 hb3; have q2 : V1.cell? ⟨w.heap.size + 1, 2, none⟩ = some (.bool true) := (by rw [← h3]; exact hK1.2.2.cell 2))
    go_ret
    exact ⟨by rw [HE.out]; rfl, hK1.1⟩

end Go.Proofs.YthnahalboomkoaaGreat

/-
  A proof without a witness is right: no program in here.
-/
namespace Go.Proofs.YthnahalboomkoaaGreat

theorem gx_live {x : Int} (h : 1 ≤ x ∧ x ≤ 1008) : (gx x).2.2 = false := by
  rw [gx_zero]
  refine decide_eq_false fun h0 => ?_
  have h1 := (scn_zero x).1 h0
  unfold Dp at h1
  omega
theorem gxL_get (l : List Int) {j : Nat} (h : j < l.length) : (gxL l).getD j pZ = gx (l.getD j 0) := by
  unfold gxL
  simp [h]
/-- What is told, all together. -/
theorem inSum_gx (x : Nat → Int) (m : List Int) (p : Nat) (hm : m.length = p) : inSumI (fun j => (gxL (zls x (p + 1))).getD j pZ) (p + 1) m = gx (x 0 + sumZ (fun j => m.getD j 0 * x (j + 1)) p) := by
  unfold inSumI
  rw [if_pos (by omega), hm]
  have hat : ∀ j, j < p + 1 → (gxL (zls x (p + 1))).getD j pZ = gx (x j) := fun j hj => by rw [gxL_get _ (by rw [zls_length]; exact hj), zls_at _ hj]
  have e : wEach ((gxL (zls x (p + 1))).getD 0 pZ) (fun j => m.getD j 0) (fun j => (gxL (zls x (p + 1))).getD (j + 1) pZ) p = wEach (gx (x 0)) (fun j => m.getD j 0) (fun j => gx (x (j + 1))) p := by
    rw [hat 0 (by omega)]
    exact wEach_congr p (fun _ _ => rfl) (fun j hj => hat (j + 1) (by omega))
  rw [e, wEach_gx]
theorem told_dp (ls : List (List Int)) (n : Nat) (ta al be gi : Int) (m : Nat → Int) (p : Nat) : Dp (kBy ls n ta al be gi 0 + sumZ (fun j => m j * kBy ls n ta al be gi (j + 1)) p - fkSum ls n ta al be m p * gi) := by
  have h1 := fkIn_dp ls n ta al be gi m p
  have h2 := dp_scAdd (kBy ls n ta al be gi 0) (dotN (fun j => kBy ls n ta al be gi (j + 1)) m p)
  have h3 := dot_dp (fun j => kBy ls n ta al be gi (j + 1)) m p
  have e : (fun j => kBy ls n ta al be gi (j + 1) * m j) = fun j => m j * kBy ls n ta al be gi (j + 1) := funext fun j => Int.mul_comm _ _
  rw [e] at h3
  exact ((h1.sub h2).sub h3).of (by grind)
theorem fakes_ok {n p : Nat} {ls : List (List Int)} {ta al be ga de : Int} (hT : Tox n ta al be ga de) (m : List Int) (hm : m.length = p) (hw : wide m (m.length : Int) = true) {x y : Int} (hx : 1 ≤ x ∧ x ≤ 1008) (hy : 1 ≤ y ∧ y ≤ 1008) :
    prfOkI (gx al) (gx be) (gx ga) (gx de) (fun j => (gxL (zls (kBy ls n ta al be (scInv ga)) (p + 1))).getD j pZ) (p + 1) m (gx x) (gx y) (gx (fkV ls n ta al be de (fun j => m.getD j 0) p x y)) = true := by
  unfold prfOkI prfMay
  rw [gx_in, gx_in, gx_in, gx_live hx, gx_live hy, hw, decide_eq_true (by omega : p + 1 = m.length + 1)]
  show prfRight _ _ _ _ _ _ _ _ = true
  unfold prfRight
  refine decide_eq_true ?_
  rw [inSum_gx _ m p hm, pair_three]
  exact fakes_sum (inv_dp hT.gOk) (inv_dp hT.dOk) (told_dp ls n ta al be (scInv ga) (fun j => m.getD j 0) p) (dp_zero.of (by unfold fkV; omega))

end Go.Proofs.YthnahalboomkoaaGreat

/-
  A proof of a right witness, in how often the base its points are: no program in here.
-/
namespace Go.Proofs.YthnahalboomkoaaGreat

theorem gxz_at (x : Nat → Int) {k j : Nat} (h : j < k) : (gxL (zls x k)).getD j pZ = gx (x j) := by rw [gxL_get _ (by rw [zls_length]; exact h), zls_at _ h]
theorem wEach_gxz (s : Int) (t x : Nat → Int) (k n : Nat) (hk : k ≤ n) : wEach (gx s) t (fun j => (gxL (zls x n)).getD j pZ) k = gx (s + sumZ (fun j => t j * x j) k) := by
  rw [wEach_congr (t' := t) (f' := fun j => gx (x j)) k (fun _ _ => rfl) (fun j hj => gxz_at x (by omega)), wEach_gx]
theorem pvA_gx (al de : Int) (x : Nat → Int) (m : List Int) (wn : Nat) (r : Int) : pvA (gx al) (gx de) (fun j => (gxL (zls x wn)).getD j pZ) m wn r = gx (al + sumZ (fun j => m.getD j 0 * x j) wn + r * de) := by
  unfold pvA
  rw [wEach_gxz _ _ _ _ _ (Nat.le_refl _), gx_times, gx_add]
theorem pv1_gx (x y : Nat → Int) (m q : List Int) (p ln zn : Nat) (hq : q.length ≤ zn) : pv1 (fun j => (gxL (zls x ln)).getD j pZ) (fun j => (gxL (zls y zn)).getD j pZ) m q p ln = gx (sumZ (fun j => m.getD (p + 1 + j) 0 * x j) ln + sumZ (fun i => q.getD i 0 * y i) q.length) := by
  unfold pv1 pv0
  have e := wEach_gxz 0 (fun j => m.getD (p + 1 + j) 0) x ln ln (Nat.le_refl _)
  rw [gx_null, Int.zero_add] at e
  rw [e, wEach_gxz _ _ _ _ _ hq]
theorem pvC_gx (de : Int) (x y : Nat → Int) (m q : List Int) (p ln zn : Nat) (hq : q.length ≤ zn) (r z a b : Int) : pvC (gx de) (fun j => (gxL (zls x ln)).getD j pZ) (fun j => (gxL (zls y zn)).getD j pZ) m q p ln r z (gx a) (gx b) = gx (sumZ (fun j => m.getD (p + 1 + j) 0 * x j) ln + sumZ (fun i => q.getD i 0 * y i) q.length + z * a + r * b + -(r * z) * de) := by
  unfold pvC pv2
  rw [pv1_gx x y m q p ln zn hq]
  generalize sumZ (fun j => m.getD (p + 1 + j) 0 * x j) ln + sumZ (fun i => q.getD i 0 * y i) q.length = S
  have e : wEach (gx S) (fun j => ([z, r] : List Int).getD j 0) (fun j => ([gx a, gx b] : List Pt).getD j pZ) 2 = gx (S + z * a + r * b) := by
    show pSum (pSum (gx S) (pTimes z (gx a))) (pTimes r (gx b)) = _
    rw [gx_times, gx_add, gx_times, gx_add]
  rw [e, gx_times, gx_neg, gx_add]
  have h := dp_scMul r z
  exact gx_dp ((h.mul (-de)).of (by grind))
/-- What is told of a witness. -/
theorem told_sum (x : Nat → Int) (m : List Int) (t : List Int) (p : Nat) (h0 : m.getD 0 0 = 1) (ht : ∀ j, j < p → t.getD j 0 = m.getD (j + 1) 0) : x 0 + sumZ (fun j => t.getD j 0 * x (j + 1)) p = sumZ (fun j => m.getD j 0 * x j) (p + 1) := by
  rw [sumZ_front, h0]
  have e : ∀ k, k ≤ p → sumZ (fun j => t.getD j 0 * x (j + 1)) k = sumZ (fun j => m.getD (j + 1) 0 * x (j + 1)) k := by
    intro k
    induction k with
    | zero => intro _; rfl
    | succ k ih =>
      intro hk
      show sumZ _ k + t.getD k 0 * x (k + 1) = sumZ _ k + m.getD (k + 1) 0 * x (k + 1)
      rw [ih (by omega), ht k (by omega)]
  rw [e p (Nat.le_refl _)]
  omega
/-- What is proven is right, unless A or B is Zero. -/
theorem proves_ok {wi pu : Int} {n wn p : Nat} {ls : List (List Int)} {m t : List Int} (hR : Right wi pu n ls m) (hl : ls.length = n * 3) (hS : Sides wi pu n ls wn p) {ta al be ga de : Int} (hT : Tox n ta al be ga de) (r z : Int) (h0 : m.getD 0 0 = 1) (htl : t.length = p) (ht : ∀ j, j < p → t.getD j 0 = m.getD (j + 1) 0) (hw : wide t (t.length : Int) = true) :
    prfOkI (gx al) (gx be) (gx ga) (gx de) (fun j => (gxL (zls (kBy ls n ta al be (scInv ga)) (p + 1))).getD j pZ) (p + 1) t (gx (pA ls n wn ta al de r m)) (gx (pBn ls n wn ta be de z m)) (gx (pC wi pu ls n wn p ta al be de r z m)) = (!(gx (pA ls n wn ta al de r m)).2.2 && !(gx (pBn ls n wn ta be de z m)).2.2) := by
  unfold prfOkI prfMay
  rw [gx_in, gx_in, gx_in, hw, decide_eq_true (by omega : p + 1 = t.length + 1)]
  have e : prfRight (gx al) (gx be) (gx ga) (gx de) (inSumI (fun j => (gxL (zls (kBy ls n ta al be (scInv ga)) (p + 1))).getD j pZ) (p + 1) t) (gx (pA ls n wn ta al de r m)) (gx (pBn ls n wn ta be de z m)) (gx (pC wi pu ls n wn p ta al be de r z m)) = true := by
    unfold prfRight
    refine decide_eq_true ?_
    rw [inSum_gx _ t p htl, told_sum _ m t p h0 ht, pair_three]
    exact proves_right hR hl hS hT r z
  rw [e]
  simp

end Go.Proofs.YthnahalboomkoaaGreat
