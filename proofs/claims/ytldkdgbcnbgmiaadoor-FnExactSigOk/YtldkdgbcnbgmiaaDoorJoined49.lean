/-
  Texts of one's own, joined.
-/
import Derived.Test.YtldkdgbcnbgmiaaDoorJoined47
import Derived.Test.YtldkdgbcnbgmiaaDoorPairS
import Derived.Test.YtldkdgbcnbgmiaaDoorTwoQ
import Derived.RangeFuncNested
import Derived.RangeFuncBound
import Derived.RangeFuncCalls
import Derived.RangeFuncLeaves
import Derived.Shelf.Abstract
import Derived.Shelf.RegionOpen
import Derived.WalkKit
import Derived.OwnWalkIn
import Derived.TacticsInMore
import Derived.LoopNIn
import Derived.LoopIn
import Derived.Test.YtldkdgbcnbgmiaaDoorRnd
import Derived.Test.YtldkdgbcnbgmiaaDoorPairS2

/-
  The walks of the program's pairs: a line at a point.
  (-DROP-: what the seat lacks is left out.)
-/
namespace Go.Proofs.YtldkdgbcnbgmiaaDoor
open Go.RowKit

theorem pline_told (P Q R : Pt) : pLine P Q R = if P.2.2 || Q.2.2 || R.2.2 then (1, 0) else if (pSlope P Q).2 = true then (fpSub (fpSub 0 P.2.1) (fpMul (pSlope P Q).1 (fpSub (fpSub 0 R.1) P.1)), R.2.1) else (1, 0) := by
  unfold pLine
  rw [psl_slope]
  cases P.2.2 <;> cases Q.2.2 <;> cases R.2.2 <;> cases (pSlope P Q).2 <;> simp

theorem in2_pline {P Q R : Pt} (hR : POk R) : In2 (pLine P Q R) := by
  rw [pline_told]
  by_cases h : (P.2.2 || Q.2.2 || R.2.2) = true
  · rw [if_pos h]; exact in2_one
  · rw [if_neg h]
    split
    · obtain ⟨x, y, z⟩ := R
      cases z
      · exact ⟨fi_sub _ _, (pok_xy hR).2⟩
      · simp at h
    · exact in2_one

set_option maxHeartbeats 1600000 in
set_option maxRecDepth 100000 in
theorem lineAt_any (a b c : Value) (P Q R : Pt) (w : World) (hp : PAt w a P) (hq : PAt w b Q) (hr : PAt w c R) (oP : POk P) (oQ : POk Q) (oR : POk R) :
    Calls Tryd.prog 84 #[a, b, c] w fun e w' => e = .returned (tv (pLine P Q R)) ∧ Below w.heap.size w w' := by
  rw [pline_told]
  rcases hp with ⟨rfl, rfl⟩ | ⟨b1, x, y, rfl, rfl, hx⟩
  · clear oP oQ oR hq hr
    show Calls _ _ _ _ fun e w' => e = .returned (tv (1, 0)) ∧ Below w.heap.size w w'
    go_enter Tryd.func84, Tryd.ntmps84
    go_wp2
    refine bodyPost_ret_by (result_blk rfl rfl (Blk.newAt (by simp)) Tryd.underlying69 infoN) rfl ⟨rfl, (Below.refl _ _).alloc (Nat.le_refl _) _⟩
  · rcases hq with ⟨rfl, rfl⟩ | ⟨b2, u, v, rfl, rfl, hy⟩
    · clear oP oQ oR hr hx
      show Calls _ _ _ _ fun e w' => e = .returned (tv (1, 0)) ∧ Below w.heap.size w w'
      go_enter Tryd.func84, Tryd.ntmps84
      go_wp2
      refine bodyPost_ret_by (result_blk rfl rfl (Blk.newAt (by simp)) Tryd.underlying69 infoN) rfl ⟨rfl, (Below.refl _ _).alloc (Nat.le_refl _) _⟩
    · rcases hr with ⟨rfl, rfl⟩ | ⟨b3, s, t, rfl, rfl, hz⟩
      · clear oP oQ oR hx hy
        show Calls _ _ _ _ fun e w' => e = .returned (tv (1, 0)) ∧ Below w.heap.size w w'
        go_enter Tryd.func84, Tryd.ntmps84
        go_wp2
        refine bodyPost_ret_by (result_blk rfl rfl (Blk.newAt (by simp)) Tryd.underlying69 infoN) rfl ⟨rfl, (Below.refl _ _).alloc (Nat.le_refl _) _⟩
      · have Fx : Hid (Fi x) := (pok_xy oP).1
        have Fy : Hid (Fi y) := (pok_xy oP).2
        have Fs : Hid (Fi s) := (pok_xy oR).1
        have Fl : Hid (Fi (pSlope (x, y, false) (u, v, false)).1) := fi_slope _ _
        obtain ⟨W, hW, hb, hres⟩ := box1 w 69 #[.int .i64 0, .int .i64 0]
        have hx0 := hx.on hb hx.lt
        have hy0 := hy.on hb hy.lt
        have hz0 := hz.on hb hz.lt
        have HL : Hid (Calls Tryd.prog 82 #[.pointer (some ⟨b1, 0, none⟩), .pointer (some ⟨b2, 0, none⟩)] W fun e w' => e = .returned (.tuple #[.int .i64 (pSlope (x, y, false) (u, v, false)).1, .bool (pSlope (x, y, false) (u, v, false)).2]) ∧ Below W.heap.size W w') := slopeTo_any b1 b2 x y u v W hx0 hy0 Fx.out Fy.out (pok_xy oQ).1 (pok_xy oQ).2
        clear oP oQ oR hx hy hz
        generalize pSlope (x, y, false) (u, v, false) = S at Fl HL ⊢
        obtain ⟨l, ok⟩ := S
        cases ok
        · show Calls _ _ _ _ fun e w' => e = .returned (tv (1, 0)) ∧ Below w.heap.size w w'
          go_enter Tryd.func84, Tryd.ntmps84
          go_wp2_with fail
          clear hW
          refine HL.out.mono ?_
          rintro e w1 ⟨rfl, hb1⟩
          have hr1 := hres.on hb1 hres.lt
          have hB1 := below_then hb hb1
          clear hx0 hy0 hz0 HL hres hb hb1
          go_wp2_with (refine store_blk (cs' := #[.int .i64 1, .int .i64 0]) rfl rfl rfl rfl rfl hr1 infoN rfl (ones2 _ _) ?_; intro V h5 hoth hbel; have hbV := hbel _ _ (by omega) hB1; clear hoth hbel)
          refine bodyPost_ret_by (result_blk rfl rfl h5 Tryd.underlying69 infoN) rfl ⟨rfl, hbV⟩
        · show Calls _ _ _ _ fun e w' => e = .returned (tv (fpSub (fpSub 0 y) (fpMul l (fpSub (fpSub 0 s) x)), t)) ∧ Below w.heap.size w w'
          go_enter Tryd.func84, Tryd.ntmps84
          go_wp2_with fail
          clear hW
          refine HL.out.mono ?_
          rintro e w1 ⟨rfl, hb1⟩
          have hr1 := hres.on hb1 hres.lt
          have hx1 := hx0.on hb1 hx0.lt
          have hz1 := hz0.on hb1 hz0.lt
          have hB1 := below_then hb hb1
          clear hx0 hy0 hz0 HL hres hb hb1
          go_wp2_with fail
          refine wp_region_class 10 (fun wz => Below w1.heap.size w1 wz) mixes (by kernel_rfl) (Below.refl _ _).drew ?_
          simp only [List.take_succ_cons, List.take_zero, List.drop_succ_cons, List.drop_zero]
          repeat (refine cls_step rfl (fun K hK => ⟨_, (fun w' hw => by have q0 := (hz1.on hw hz1.lt).cell 0; have q1 := (hz1.on hw hz1.lt).cell 1; go_simp; exact rfl), ?_⟩); go_simp; refine hK _ ?_; clear hK K)
          refine cls_call rfl (fun K hK => ⟨_, _, _, (fun w' => by go_simp <;> first | exact rfl | exact ⟨rfl, rfl⟩), (fun w' hw => calls_same hw (minus_f fi_0 Fs.out _)), ?_⟩); go_simp; refine hK _ ?_; clear hK K
          repeat (refine cls_step rfl (fun K hK => ⟨_, (fun w' hw => by have q0 := (hx1.on hw hx1.lt).cell 0; have q1 := (hx1.on hw hx1.lt).cell 1; go_simp; exact rfl), ?_⟩); go_simp; refine hK _ ?_; clear hK K)
          refine cls_call rfl (fun K hK => ⟨_, _, _, (fun w' => by go_simp <;> first | exact rfl | exact ⟨rfl, rfl⟩), (fun w' hw => calls_same hw (minus_f (fi_sub _ _) Fx.out _)), ?_⟩); go_simp; refine hK _ ?_; clear hK K
          refine wq_nil ?_
          intro w' hw
          have hr2 := hr1.on hw hr1.lt
          have hx2 := hx1.on hw hx1.lt
          have hz2 := hz1.on hw hz1.lt
          have hB2 := below_then hB1 hw
          clear hr1 hx1 hz1 hB1 hw
          go_wp2_with fail
          refine wp_region_class 14 (fun wz => Below w'.heap.size w' wz) mixes (by kernel_rfl) (Below.refl _ _).drew ?_
          simp only [List.take_succ_cons, List.take_zero, List.drop_succ_cons, List.drop_zero]
          repeat (refine cls_step rfl (fun K hK => ⟨_, (fun w' hw => by have q0 := (hx2.on hw hx2.lt).cell 0; have q1 := (hx2.on hw hx2.lt).cell 1; have q2 := (hz2.on hw hz2.lt).cell 0; have q3 := (hz2.on hw hz2.lt).cell 1; go_simp; exact rfl), ?_⟩); go_simp; refine hK _ ?_; clear hK K)
          refine cls_call rfl (fun K hK => ⟨_, _, _, (fun w' => by go_simp <;> first | exact rfl | exact ⟨rfl, rfl⟩), (fun w' hw => calls_same hw (minus_f fi_0 Fy.out _)), ?_⟩); go_simp; refine hK _ ?_; clear hK K
          repeat (refine cls_step rfl (fun K hK => ⟨_, (fun w' hw => by have q0 := (hx2.on hw hx2.lt).cell 0; have q1 := (hx2.on hw hx2.lt).cell 1; have q2 := (hz2.on hw hz2.lt).cell 0; have q3 := (hz2.on hw hz2.lt).cell 1; go_simp; exact rfl), ?_⟩); go_simp; refine hK _ ?_; clear hK K)
          refine cls_call rfl (fun K hK => ⟨_, _, _, (fun w' => by go_simp <;> first | exact rfl | exact ⟨rfl, rfl⟩), (fun w' hw => calls_same hw (times_f Fl.out (fi_sub _ _) _)), ?_⟩); go_simp; refine hK _ ?_; clear hK K
          refine cls_call rfl (fun K hK => ⟨_, _, _, (fun w' => by go_simp <;> first | exact rfl | exact ⟨rfl, rfl⟩), (fun w' hw => calls_same hw (minus_f (fi_sub _ _) (fi_mul _ _) _)), ?_⟩); go_simp; refine hK _ ?_; clear hK K
          repeat (refine cls_step rfl (fun K hK => ⟨_, (fun w' hw => by have q0 := (hx2.on hw hx2.lt).cell 0; have q1 := (hx2.on hw hx2.lt).cell 1; have q2 := (hz2.on hw hz2.lt).cell 0; have q3 := (hz2.on hw hz2.lt).cell 1; go_simp; exact rfl), ?_⟩); go_simp; refine hK _ ?_; clear hK K)
          refine wq_nil ?_
          intro w' hw
          have hr3 := hr2.on hw hr2.lt
          have hB3 := below_then hB2 hw
          clear hr2 hx2 hz2 hB2 hw
          go_wp2_with (refine store_blk (cs' := #[.int .i64 (fpSub (fpSub 0 y) (fpMul l (fpSub (fpSub 0 s) x))), .int .i64 t]) rfl rfl rfl rfl rfl hr3 infoN rfl (ones2 _ _) ?_; intro V h5 hoth hbel; have hbV := hbel _ _ (by omega) hB3; clear hoth hbel)
          refine bodyPost_ret_by (result_blk rfl rfl h5 Tryd.underlying69 infoN) rfl ⟨rfl, hbV⟩

theorem np_line (P Q R : Pt) : pLine (nP P) (nP Q) (nP R) = pLineB P Q R := by
  unfold nP pLineB
  cases pOkB P <;> cases pOkB Q <;> cases pOkB R <;> simp [pLine, pZ]

set_option maxRecDepth 100000 in
theorem len64_r (w : World) : Calls Tryd.prog 94 #[.int .u64 1009] w fun e w' => e = .returned (.int .i64 10) ∧ w = w' := by
  go_enter Tryd.func94, Tryd.ntmps94
  go_wp2
  go_ret
  exact ⟨by kernel_rfl, rfl⟩

set_option maxRecDepth 100000 in
theorem len_r (w : World) : Calls Tryd.prog 89 #[.int .u64 1009] w fun e w' => e = .returned (.int .i64 10) ∧ w = w' := by
  go_enter Tryd.func89, Tryd.ntmps89
  go_wp2_with fail
  refine (len64_r _).mono ?_
  rintro e w1 ⟨rfl, rfl⟩
  go_wp2
  go_ret
  exact ⟨rfl, rfl⟩

end Go.Proofs.YtldkdgbcnbgmiaaDoor

/-
  The walks of the program's pairs: the way to 1009 times a point, told step by step.
  (-DROP-: what the seat lacks is left out.)
-/
namespace Go.Proofs.YtldkdgbcnbgmiaaDoor
open Go.RowKit
attribute [local go_sem] Oper.semAt_some

/-- A step of the way: two places and whether it is a doubling; the points that they stand for. -/
abbrev SX : Type := (Value × Value × Bool) × Pt × Pt
def encS (x : SX) : Array Value := #[.agg #[x.1.1, x.1.2.1, .bool x.1.2.2]]
def GS (x : SX) (W : World) : Prop := (PAt W x.1.1 x.2.1 ∧ PAt W x.1.2.1 x.2.2) ∧ POk x.2.1 ∧ POk x.2.2
def nxS (R : Pt) (F : Int × Int) (x : SX) : Int × Int := tm (if x.1.2.2 then tm F F else F) (pLine x.2.1 x.2.2 R)

theorem PAt.kept {w w1 : World} {v : Value} {P : Pt} (h : PAt w v P) (hb : ∀ b cs, Blk w b 61 cs → Blk w1 b 61 cs) : PAt w1 v P := by
  rcases h with h | ⟨b, x, y, h1, h2, h3⟩
  · exact .inl h
  · exact .inr ⟨b, x, y, h1, h2, hb _ _ h3⟩

theorem PAt.ptr {w : World} {v : Value} {P : Pt} (h : PAt w v P) : ∃ o, v = .pointer o := by
  rcases h with ⟨h, _⟩ | ⟨b, x, y, h, _⟩
  · exact ⟨_, h⟩
  · exact ⟨_, h⟩

theorem mst_ok {P R : Pt} (hP : POk P) (hR : POk R) : ∀ k, POk (mSt P R k).2
  | 0 => hP
  | k + 1 => by
    have h := mstep_eq hP hR (mBits.getD k false) (mst_ok hP hR k)
    show POk (mStepS P R _ _).2
    rw [h.1]
    exact h.2

set_option maxHeartbeats 1600000 in
set_option maxRecDepth 100000 in
theorem steps_in (l : Nat) (P R : Pt) (v : Value) (oP : POk P) (oR : POk R) (Jt : (Int × Int) → World → Prop) (hJ : ∀ s W W', Jt s W → Below W.heap.size W W' → Jt s W')
    (hY : ∀ s x W, Jt s W → GS x W → YieldAt Fence.wide (3 - 1 - 1) Tryd.prog l (encS x) W fun e W' => e = .returned (.bool true) ∧ Jt (nxS R s x) W' ∧ ∀ b cs, Blk W b 61 cs → Blk W' b 61 cs)
    (W : World) (hv : PAt W v P) (h0 : Jt (1, 0) W) :
    CallsIn Fence.wide (3 - 1) Tryd.prog 83 #[v, .func (.yield l) #[] #[]] W fun e W' => (∃ u, e = .returned u) ∧ Jt (millS P R) W' := by
  obtain ⟨ov, hov⟩ := hv.ptr
  subst hov
  have HJ : Hid (∀ s W W', Jt s W → Below W.heap.size W W' → Jt s W') := hJ
  have HY : Hid (∀ s x W, Jt s W → GS x W → YieldAt Fence.wide (3 - 1 - 1) Tryd.prog l (encS x) W fun e W' => e = .returned (.bool true) ∧ Jt (nxS R s x) W' ∧ ∀ b cs, Blk W b 61 cs → Blk W' b 61 cs) := hY
  have HO : Hid (∀ k, POk (mSt P R k).2) := mst_ok oP oR
  have HS : Hid (∀ k, mSt P R (k + 1) = mStep P R (mBits.getD k false) (mSt P R k)) := fun k => (mstep_eq oP oR (mBits.getD k false) (mst_ok oP oR k)).1
  have HV : Hid (PAt W (.pointer ov) P) := hv
  have H0 : Hid (Jt (1, 0) W) := h0
  have OP : Hid (POk P) := oP
  clear hJ hY hv h0 oP oR
  refine callsIn_of_wp Tryd.func83 rfl trivial ?_ rfl
  simp only [Tryd.ntmps83, List.size_toArray, List.length_cons, List.length_nil, Nat.reduceAdd, Nat.reduceSub, Array.replicate_succ, Array.replicate_zero, List.push_toArray, List.append_toArray, List.nil_append, List.cons_append]
  gi_wp2
  refine ⟨trivial, (callsIn_wide.2 (len_r _)).mono ?_⟩
  rintro e w1 ⟨rfl, rfl⟩
  gi_wp2
  gi_loopw [4, 5] (fun p i wr => ∃ j : Nat, i = .int .i64 ((j : Int) - 1) ∧ j ≤ 9 ∧ Hid (PAt wr p (mSt P R (9 - j)).2 ∧ Jt (mSt P R (9 - j)).1 wr ∧ PAt wr (.pointer ov) P)) (fun _ i _ => (intOf i + 1).toNat)
  case atStart => exact ⟨9, rfl, by omega, ⟨HV.out, H0.out, HV.out⟩⟩
  case round =>
    obtain ⟨j, rfl, hj, HD⟩ := hrel
    clear HV H0
    by_cases h0 : j = 0
    · subst h0
      have HF : Hid (Jt (millS P R) wr) := HD.out.2.1
      clear HD HJ HY HO HS
      have hneg : ¬ (0 : Int) ≤ ((0 : Nat) : Int) - 1 := by omega
      have hn1 : ((0 : Nat) : Int) - 1 = -1 := by omega
      rw [hn1] at hneg ⊢
      gi_wp2
      go_end0
      exact ⟨⟨_, rfl⟩, HF.out⟩
    · obtain ⟨i, rfl⟩ : ∃ i, j = i + 1 := ⟨j - 1, by omega⟩
      have hi9 : i < 9 := by omega
      have hii : ((i + 1 : Nat) : Int) - 1 = (i : Int) := by omega
      have hi0 : (0 : Int) ≤ (i : Int) := by omega
      have hbit := mbit hi9
      have hst : mSt P R (9 - i) = mStep P R (mBits.getD (8 - i) false) (mSt P R (8 - i)) := by
        rw [show 9 - i = (8 - i) + 1 by omega]; exact HS.out _
      have OT : Hid (POk (mSt P R (8 - i)).2) := HO.out _
      rw [show 9 - (i + 1) = 8 - i by omega] at HD
      rw [hii]
      have HST : Hid (mSt P R (9 - i) = mStep P R (mBits.getD (8 - i) false) (mSt P R (8 - i))) := hst
      clear hst
      generalize mSt P R (8 - i) = s at HD HST OT
      generalize mBits.getD (8 - i) false = bit at hbit HST
      obtain ⟨F, T⟩ := s
      have hsh : (1009 : Int) / 2 ^ i = ((1009 / 2 ^ i : Nat) : Int) := by rw [Int.natCast_ediv, Int.natCast_pow]; rfl
      have hwu : IntKind.u64.wrap (i : Int) = (i : Int) := IntWalk.u64_in _ (by omega)
      have HST1 : Hid (mStep P R true (F, T) = (tm (tm (tm F F) (pLine T T R)) (pLine (pAdd T T) P R), pAdd (pAdd T T) P)) := rfl
      have HST0 : Hid (mStep P R false (F, T) = (tm (tm F F) (pLine T T R), pAdd T T)) := rfl
      generalize 1009 / 2 ^ i = sh at hsh hbit
      have hrem : Int.tmod (sh : Int) 2 = if bit = true then 1 else 0 := by
        rw [Int.tmod_eq_emod_of_nonneg (Int.natCast_nonneg _)]
        cases bit
        · simp only [Bool.false_eq_true, if_false] at hbit ⊢; omega
        · simp only [if_true] at hbit ⊢; omega
      clear hbit hii
      obtain ⟨o4, ho4⟩ := HD.out.1.ptr
      subst ho4
      obtain ⟨fn, tmps, assign, body, hy, hR⟩ := HY.out F (((.pointer o4), (.pointer o4), true), T, T) wr HD.out.2.1 ⟨⟨HD.out.1, HD.out.1⟩, OT.out, OT.out⟩
      have hy' : (Instr.yield l #[.agg #[(.pointer o4), (.pointer o4), .bool true]]).run Tryd.prog wr = .ok (.round l fn tmps assign body) wr := hy
      clear hy
      gi_wp2
      refine hR.mono ?_
      rintro e W3 ⟨rfl, hJ3, hk3⟩
      have HJ3 : Hid (Jt (tm (tm F F) (pLine T T R)) W3) := hJ3
      have HP3 : Hid (PAt W3 (.pointer o4) T) := HD.out.1.kept hk3
      have HV3 : Hid (PAt W3 (.pointer ov) P) := HD.out.2.2.kept hk3
      clear HD hJ3 hk3 hy' hR
      gi_wp2
      refine ⟨trivial, (callsIn_wide.2 (plusC_any (.pointer o4) (.pointer o4) T T W3 HP3.out HP3.out OT.out OT.out)).mono ?_⟩
      rintro e W4 ⟨v', rfl, hq, hb⟩
      obtain ⟨q, hq0⟩ := hq.ptr
      subst hq0
      have HQ : Hid (PAt W4 (.pointer q) (pAdd T T)) := hq
      have HJ4 : Hid (Jt (tm (tm F F) (pLine T T R)) W4) := HJ.out _ _ _ HJ3.out hb
      have HV4 : Hid (PAt W4 (.pointer ov) P) := HV3.out.on hb
      have OQ : Hid (POk (pAdd T T)) := padd_ok OT.out OT.out
      clear HP3 HV3 HJ3 hq hb OT
      cases bit
      · simp only [Bool.false_eq_true, if_false] at hrem
        gi_wp2
        go_roundw
        case rel => exact ⟨i, by go_num, by omega, ⟨by rw [HST.out]; exact HQ.out, by rw [HST.out]; exact HJ4.out, HV4.out⟩⟩
        case measure => simp [intOf]
      · simp only [if_true] at hrem
        obtain ⟨fn, tmps, assign, body, hy, hR⟩ := HY.out _ ((.pointer q, .pointer ov, false), pAdd T T, P) W4 HJ4.out ⟨⟨HQ.out, HV4.out⟩, OQ.out, OP.out⟩
        have hy' : (Instr.yield l #[.agg #[.pointer q, .pointer ov, .bool false]]).run Tryd.prog W4 = .ok (.round l fn tmps assign body) W4 := hy
        clear hy
        gi_wp2
        refine hR.mono ?_
        rintro e W5 ⟨rfl, hJ5, hk5⟩
        have HJ5 : Hid (Jt (tm (tm (tm F F) (pLine T T R)) (pLine (pAdd T T) P R)) W5) := hJ5
        have HP5 : Hid (PAt W5 (.pointer q) (pAdd T T)) := HQ.out.kept hk5
        have HV5 : Hid (PAt W5 (.pointer ov) P) := HV4.out.kept hk5
        clear hJ5 hk5 hy' hR HQ HV4 HJ4
        gi_wp2
        refine ⟨trivial, (callsIn_wide.2 (plusC_any (.pointer q) (.pointer ov) (pAdd T T) P W5 HP5.out HV5.out OQ.out OP.out)).mono ?_⟩
        rintro e W6 ⟨q6, rfl, hq, hb⟩
        have HQ : Hid (PAt W6 q6 (pAdd (pAdd T T) P)) := hq
        have HJ6 : Hid (Jt (tm (tm (tm F F) (pLine T T R)) (pLine (pAdd T T) P R)) W6) := HJ.out _ _ _ HJ5.out hb
        have HV6 : Hid (PAt W6 (.pointer ov) P) := HV5.out.on hb
        clear HP5 HV5 HJ5 hq hb OQ
        gi_wp2
        go_roundw
        case rel => exact ⟨i, by go_num, by omega, ⟨by rw [HST.out]; exact HQ.out, by rw [HST.out]; exact HJ6.out, HV6.out⟩⟩
        case measure => simp [intOf]

end Go.Proofs.YtldkdgbcnbgmiaaDoor
