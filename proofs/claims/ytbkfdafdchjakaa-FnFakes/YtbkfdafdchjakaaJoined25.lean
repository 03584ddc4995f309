/-
  Texts of one's own, joined.
-/
import Derived.Test.YtbkfdafdchjakaaJoined24
import Derived.Test.YtbkfdafdchjakaaJoined23
import Derived.RangeFuncNested
import Derived.RangeFuncBound
import Derived.RangeFuncCalls
import Derived.RangeFuncLeaves
import Derived.Shelf.Abstract
import Derived.Shelf.RegionOpen
import Derived.WalkKit
import Derived.OwnWalkIn
import Derived.TacticsInMore
import Derived.LoopNIn
import Derived.LoopIn
import Derived.Test.YtbkfdafdchjakaaRnd
import Derived.Test.YtbkfdafdchjakaaJoined18

/-
  The walks of the program's pairs: a line at a point.
  (-DROP-: what the seat lacks is left out.)
-/
namespace Go.Proofs.Ytbkfdafdchjakaa
open Go.RowKit

theorem pline_told (P Q R : Pt) : pLine P Q R = if P.2.2 || Q.2.2 || R.2.2 then (1, 0) else if (pSlope P Q).2 = true then (fpSub (fpSub 0 P.2.1) (fpMul (pSlope P Q).1 (fpSub (fpSub 0 R.1) P.1)), R.2.1) else (1, 0) := by
  unfold pLine
  rw [psl_slope]
  cases P.2.2 <;> cases Q.2.2 <;> cases R.2.2 <;> cases (pSlope P Q).2 <;> simp

theorem in2_pline {P Q R : Pt} (hR : POk R) : In2 (pLine P Q R) := by
  rw [pline_told]
  by_cases h : (P.2.2 || Q.2.2 || R.2.2) = true
  · rw [if_pos h]; exact in2_one
  · rw [if_neg h]
    split
    · obtain ⟨x, y, z⟩ := R
      cases z
      · exact ⟨fi_sub _ _, (pok_xy hR).2⟩
      · simp at h
    · exact in2_one

set_option maxHeartbeats 1600000 in
set_option maxRecDepth 100000 in
theorem lineAt_any (a b c : Value) (P Q R : Pt) (w : World) (hp : PAt w a P) (hq : PAt w b Q) (hr : PAt w c R) (oP : POk P) (oQ : POk Q) (oR : POk R) :
    Calls Try.prog 102 #[a, b, c] w fun e w' => e = .returned (tv (pLine P Q R)) ∧ Below w.heap.size w w' := by
  rw [pline_told]
  rcases hp with ⟨rfl, rfl⟩ | ⟨b1, x, y, rfl, rfl, hx⟩
  · clear oP oQ oR hq hr
    show Calls _ _ _ _ fun e w' => e = .returned (tv (1, 0)) ∧ Below w.heap.size w w'
    go_enter Try.func102, Try.ntmps102
    go_wp2
    refine bodyPost_ret_by (result_blk rfl rfl (Blk.newAt (by simp)) Try.underlying112 infoN) rfl ⟨rfl, (Below.refl _ _).alloc (Nat.le_refl _) _⟩
  · rcases hq with ⟨rfl, rfl⟩ | ⟨b2, u, v, rfl, rfl, hy⟩
    · clear oP oQ oR hr hx
      show Calls _ _ _ _ fun e w' => e = .returned (tv (1, 0)) ∧ Below w.heap.size w w'
      go_enter Try.func102, Try.ntmps102
      go_wp2
      refine bodyPost_ret_by (result_blk rfl rfl (Blk.newAt (by simp)) Try.underlying112 infoN) rfl ⟨rfl, (Below.refl _ _).alloc (Nat.le_refl _) _⟩
    · rcases hr with ⟨rfl, rfl⟩ | ⟨b3, s, t, rfl, rfl, hz⟩
      · clear oP oQ oR hx hy
        show Calls _ _ _ _ fun e w' => e = .returned (tv (1, 0)) ∧ Below w.heap.size w w'
        go_enter Try.func102, Try.ntmps102
        go_wp2
        refine bodyPost_ret_by (result_blk rfl rfl (Blk.newAt (by simp)) Try.underlying112 infoN) rfl ⟨rfl, (Below.refl _ _).alloc (Nat.le_refl _) _⟩
      · have Fx : Hid (Fi x) := (pok_xy oP).1
        have Fy : Hid (Fi y) := (pok_xy oP).2
        have Fs : Hid (Fi s) := (pok_xy oR).1
        have Fl : Hid (Fi (pSlope (x, y, false) (u, v, false)).1) := fi_slope _ _
        obtain ⟨W, hW, hb, hres⟩ := box1 w 112 #[.int .i64 0, .int .i64 0]
        have hx0 := hx.on hb hx.lt
        have hy0 := hy.on hb hy.lt
        have hz0 := hz.on hb hz.lt
        have HL : Hid (Calls Try.prog 100 #[.pointer (some ⟨b1, 0, none⟩), .pointer (some ⟨b2, 0, none⟩)] W fun e w' => e = .returned (.tuple #[.int .i64 (pSlope (x, y, false) (u, v, false)).1, .bool (pSlope (x, y, false) (u, v, false)).2]) ∧ Below W.heap.size W w') := slopeTo_any b1 b2 x y u v W hx0 hy0 Fx.out Fy.out (pok_xy oQ).1 (pok_xy oQ).2
        clear oP oQ oR hx hy hz
        generalize pSlope (x, y, false) (u, v, false) = S at Fl HL ⊢
        obtain ⟨l, ok⟩ := S
        cases ok
        · show Calls _ _ _ _ fun e w' => e = .returned (tv (1, 0)) ∧ Below w.heap.size w w'
          go_enter Try.func102, Try.ntmps102
          go_wp2_with fail
          clear hW
          refine HL.out.mono ?_
          rintro e w1 ⟨rfl, hb1⟩
          have hr1 := hres.on hb1 hres.lt
          have hB1 := below_then hb hb1
          clear hx0 hy0 hz0 HL hres hb hb1
          go_wp2_with (refine store_blk (cs' := #[.int .i64 1, .int .i64 0]) rfl rfl rfl rfl rfl hr1 infoN rfl (ones2 _ _) ?_; intro V h5 hoth hbel; have hbV := hbel _ _ (by omega) hB1; clear hoth hbel)
          refine bodyPost_ret_by (result_blk rfl rfl h5 Try.underlying112 infoN) rfl ⟨rfl, hbV⟩
        · show Calls _ _ _ _ fun e w' => e = .returned (tv (fpSub (fpSub 0 y) (fpMul l (fpSub (fpSub 0 s) x)), t)) ∧ Below w.heap.size w w'
          go_enter Try.func102, Try.ntmps102
          go_wp2_with fail
          clear hW
          refine HL.out.mono ?_
          rintro e w1 ⟨rfl, hb1⟩
          have hr1 := hres.on hb1 hres.lt
          have hx1 := hx0.on hb1 hx0.lt
          have hz1 := hz0.on hb1 hz0.lt
          have hB1 := below_then hb hb1
          clear hx0 hy0 hz0 HL hres hb hb1
          go_wp2_with fail
          refine wp_region_class 10 (fun wz => Below w1.heap.size w1 wz) mixes (by kernel_rfl) (Below.refl _ _).drew ?_
          simp only [List.take_succ_cons, List.take_zero, List.drop_succ_cons, List.drop_zero]
          repeat (refine cls_step rfl (fun K hK => ⟨_, (fun w' hw => by have q0 := (hz1.on hw hz1.lt).cell 0; have q1 := (hz1.on hw hz1.lt).cell 1; go_simp; exact rfl), ?_⟩); go_simp; refine hK _ ?_; clear hK K)
          refine cls_call rfl (fun K hK => ⟨_, _, _, (fun w' => by go_simp <;> first | exact rfl | exact ⟨rfl, rfl⟩), (fun w' hw => calls_same hw (minus_f fi_0 Fs.out _)), ?_⟩); go_simp; refine hK _ ?_; clear hK K
          repeat (refine cls_step rfl (fun K hK => ⟨_, (fun w' hw => by have q0 := (hx1.on hw hx1.lt).cell 0; have q1 := (hx1.on hw hx1.lt).cell 1; go_simp; exact rfl), ?_⟩); go_simp; refine hK _ ?_; clear hK K)
          refine cls_call rfl (fun K hK => ⟨_, _, _, (fun w' => by go_simp <;> first | exact rfl | exact ⟨rfl, rfl⟩), (fun w' hw => calls_same hw (minus_f (fi_sub _ _) Fx.out _)), ?_⟩); go_simp; refine hK _ ?_; clear hK K
          refine wq_nil ?_
          intro w' hw
          have hr2 := hr1.on hw hr1.lt
          have hx2 := hx1.on hw hx1.lt
          have hz2 := hz1.on hw hz1.lt
          have hB2 := below_then hB1 hw
          clear hr1 hx1 hz1 hB1 hw
          go_wp2_with fail
          refine wp_region_class 14 (fun wz => Below w'.heap.size w' wz) mixes (by kernel_rfl) (Below.refl _ _).drew ?_
          simp only [List.take_succ_cons, List.take_zero, List.drop_succ_cons, List.drop_zero]
          repeat (refine cls_step rfl (fun K hK => ⟨_, (fun w' hw => by have q0 := (hx2.on hw hx2.lt).cell 0; have q1 := (hx2.on hw hx2.lt).cell 1; have q2 := (hz2.on hw hz2.lt).cell 0; have q3 := (hz2.on hw hz2.lt).cell 1; go_simp; exact rfl), ?_⟩); go_simp; refine hK _ ?_; clear hK K)
          refine cls_call rfl (fun K hK => ⟨_, _, _, (fun w' => by go_simp <;> first | exact rfl | exact ⟨rfl, rfl⟩), (fun w' hw => calls_same hw (minus_f fi_0 Fy.out _)), ?_⟩); go_simp; refine hK _ ?_; clear hK K
          repeat (refine cls_step rfl (fun K hK => ⟨_, (fun w' hw => by have q0 := (hx2.on hw hx2.lt).cell 0; have q1 := (hx2.on hw hx2.lt).cell 1; have q2 := (hz2.on hw hz2.lt).cell 0; have q3 := (hz2.on hw hz2.lt).cell 1; go_simp; exact rfl), ?_⟩); go_simp; refine hK _ ?_; clear hK K)
          refine cls_call rfl (fun K hK => ⟨_, _, _, (fun w' => by go_simp <;> first | exact rfl | exact ⟨rfl, rfl⟩), (fun w' hw => calls_same hw (times_f Fl.out (fi_sub _ _) _)), ?_⟩); go_simp; refine hK _ ?_; clear hK K
          refine cls_call rfl (fun K hK => ⟨_, _, _, (fun w' => by go_simp <;> first | exact rfl | exact ⟨rfl, rfl⟩), (fun w' hw => calls_same hw (minus_f (fi_sub _ _) (fi_mul _ _) _)), ?_⟩); go_simp; refine hK _ ?_; clear hK K
          repeat (refine cls_step rfl (fun K hK => ⟨_, (fun w' hw => by have q0 := (hx2.on hw hx2.lt).cell 0; have q1 := (hx2.on hw hx2.lt).cell 1; have q2 := (hz2.on hw hz2.lt).cell 0; have q3 := (hz2.on hw hz2.lt).cell 1; go_simp; exact rfl), ?_⟩); go_simp; refine hK _ ?_; clear hK K)
          refine wq_nil ?_
          intro w' hw
          have hr3 := hr2.on hw hr2.lt
          have hB3 := below_then hB2 hw
          clear hr2 hx2 hz2 hB2 hw
          go_wp2_with (refine store_blk (cs' := #[.int .i64 (fpSub (fpSub 0 y) (fpMul l (fpSub (fpSub 0 s) x))), .int .i64 t]) rfl rfl rfl rfl rfl hr3 infoN rfl (ones2 _ _) ?_; intro V h5 hoth hbel; have hbV := hbel _ _ (by omega) hB3; clear hoth hbel)
          refine bodyPost_ret_by (result_blk rfl rfl h5 Try.underlying112 infoN) rfl ⟨rfl, hbV⟩

theorem np_line (P Q R : Pt) : pLine (nP P) (nP Q) (nP R) = pLineB P Q R := by
  unfold nP pLineB
  cases pOkB P <;> cases pOkB Q <;> cases pOkB R <;> simp [pLine, pZ]

set_option maxRecDepth 100000 in
theorem len64_r (w : World) : Calls Try.prog 84 #[.int .u64 1009] w fun e w' => e = .returned (.int .i64 10) ∧ w = w' := by
  go_enter Try.func84, Try.ntmps84
  go_wp2
  go_ret
  exact ⟨by kernel_rfl, rfl⟩

set_option maxRecDepth 100000 in
theorem len_r (w : World) : Calls Try.prog 59 #[.int .u64 1009] w fun e w' => e = .returned (.int .i64 10) ∧ w = w' := by
  go_enter Try.func59, Try.ntmps59
  go_wp2_with fail
  refine (len64_r _).mono ?_
  rintro e w1 ⟨rfl, rfl⟩
  go_wp2
  go_ret
  exact ⟨rfl, rfl⟩

end Go.Proofs.Ytbkfdafdchjakaa

/-
  The walks of the program's pairs: the way to 1009 times a point, told step by step.
  (-DROP-: what the seat lacks is left out.)
-/
namespace Go.Proofs.Ytbkfdafdchjakaa
open Go.RowKit
attribute [local go_sem] Oper.semAt_some

/-- A step of the way: two places and whether it is a doubling; the points that they stand for. -/
abbrev SX : Type := (Value × Value × Bool) × Pt × Pt
def encS (x : SX) : Array Value := #[.agg #[x.1.1, x.1.2.1, .bool x.1.2.2]]
def GS (x : SX) (W : World) : Prop := (PAt W x.1.1 x.2.1 ∧ PAt W x.1.2.1 x.2.2) ∧ POk x.2.1 ∧ POk x.2.2
def nxS (R : Pt) (F : Int × Int) (x : SX) : Int × Int := tm (if x.1.2.2 then tm F F else F) (pLine x.2.1 x.2.2 R)

theorem PAt.kept {w w1 : World} {v : Value} {P : Pt} (h : PAt w v P) (hb : ∀ b cs, Blk w b 127 cs → Blk w1 b 127 cs) : PAt w1 v P := by
  rcases h with h | ⟨b, x, y, h1, h2, h3⟩
  · exact .inl h
  · exact .inr ⟨b, x, y, h1, h2, hb _ _ h3⟩

theorem PAt.ptr {w : World} {v : Value} {P : Pt} (h : PAt w v P) : ∃ o, v = .pointer o := by
  rcases h with ⟨h, _⟩ | ⟨b, x, y, h, _⟩
  · exact ⟨_, h⟩
  · exact ⟨_, h⟩

theorem mst_ok {P R : Pt} (hP : POk P) (hR : POk R) : ∀ k, POk (mSt P R k).2
  | 0 => hP
  | k + 1 => by
    have h := mstep_eq hP hR (mBits.getD k false) (mst_ok hP hR k)
    show POk (mStepS P R _ _).2
    rw [h.1]
    exact h.2

set_option maxHeartbeats 1600000 in
set_option maxRecDepth 100000 in
theorem steps_in (l : Nat) (P R : Pt) (v : Value) (oP : POk P) (oR : POk R) (Jt : (Int × Int) → World → Prop) (hJ : ∀ s W W', Jt s W → Below W.heap.size W W' → Jt s W')
    (hY : ∀ s x W, Jt s W → GS x W → YieldAt Fence.wide (3 - 1 - 1) Try.prog l (encS x) W fun e W' => e = .returned (.bool true) ∧ Jt (nxS R s x) W' ∧ ∀ b cs, Blk W b 127 cs → Blk W' b 127 cs)
    (W : World) (hv : PAt W v P) (h0 : Jt (1, 0) W) :
    CallsIn Fence.wide (3 - 1) Try.prog 101 #[v, .func (.yield l) #[] #[]] W fun e W' => (∃ u, e = .returned u) ∧ Jt (millS P R) W' := by
  obtain ⟨ov, hov⟩ := hv.ptr
  subst hov
  have HJ : Hid (∀ s W W', Jt s W → Below W.heap.size W W' → Jt s W') := hJ
  have HY : Hid (∀ s x W, Jt s W → GS x W → YieldAt Fence.wide (3 - 1 - 1) Try.prog l (encS x) W fun e W' => e = .returned (.bool true) ∧ Jt (nxS R s x) W' ∧ ∀ b cs, Blk W b 127 cs → Blk W' b 127 cs) := hY
  have HO : Hid (∀ k, POk (mSt P R k).2) := mst_ok oP oR
  have HS : Hid (∀ k, mSt P R (k + 1) = mStep P R (mBits.getD k false) (mSt P R k)) := fun k => (mstep_eq oP oR (mBits.getD k false) (mst_ok oP oR k)).1
  have HV : Hid (PAt W (.pointer ov) P) := hv
  have H0 : Hid (Jt (1, 0) W) := h0
  have OP : Hid (POk P) := oP
  clear hJ hY hv h0 oP oR
  refine callsIn_of_wp Try.func101 rfl trivial ?_ rfl
  simp only [Try.ntmps101, List.size_toArray, List.length_cons, List.length_nil, Nat.reduceAdd, Nat.reduceSub, Array.replicate_succ, Array.replicate_zero, List.push_toArray, List.append_toArray, List.nil_append, List.cons_append]
  gi_wp2
  refine ⟨trivial, (callsIn_wide.2 (len_r _)).mono ?_⟩
  rintro e w1 ⟨rfl, rfl⟩
  gi_wp2
  gi_loopw [4, 5] (fun p i wr => ∃ j : Nat, i = .int .i64 ((j : Int) - 1) ∧ j ≤ 9 ∧ Hid (PAt wr p (mSt P R (9 - j)).2 ∧ Jt (mSt P R (9 - j)).1 wr ∧ PAt wr (.pointer ov) P)) (fun _ i _ => (intOf i + 1).toNat)
  case atStart => exact ⟨9, rfl, by omega, ⟨HV.out, H0.out, HV.out⟩⟩
  case round =>
    obtain ⟨j, rfl, hj, HD⟩ := hrel
    clear HV H0
    by_cases h0 : j = 0
    · subst h0
      have HF : Hid (Jt (millS P R) wr) := HD.out.2.1
      clear HD HJ HY HO HS
      have hneg : ¬ (0 : Int) ≤ ((0 : Nat) : Int) - 1 := by omega
      have hn1 : ((0 : Nat) : Int) - 1 = -1 := by omega
      rw [hn1] at hneg ⊢
      gi_wp2
      go_end0
      exact ⟨⟨_, rfl⟩, HF.out⟩
    · obtain ⟨i, rfl⟩ : ∃ i, j = i + 1 := ⟨j - 1, by omega⟩
      have hi9 : i < 9 := by omega
      have hii : ((i + 1 : Nat) : Int) - 1 = (i : Int) := by omega
      have hi0 : (0 : Int) ≤ (i : Int) := by omega
      have hbit := mbit hi9
      have hst : mSt P R (9 - i) = mStep P R (mBits.getD (8 - i) false) (mSt P R (8 - i)) := by
        rw [show 9 - i = (8 - i) + 1 by omega]; exact HS.out _
      have OT : Hid (POk (mSt P R (8 - i)).2) := HO.out _
      rw [show 9 - (i + 1) = 8 - i by omega] at HD
      rw [hii]
      have HST : Hid (mSt P R (9 - i) = mStep P R (mBits.getD (8 - i) false) (mSt P R (8 - i))) := hst
      clear hst
      generalize mSt P R (8 - i) = s at HD HST OT
      generalize mBits.getD (8 - i) false = bit at hbit HST
      obtain ⟨F, T⟩ := s
      have hsh : (1009 : Int) / 2 ^ i = ((1009 / 2 ^ i : Nat) : Int) := by rw [Int.natCast_ediv, Int.natCast_pow]; rfl
      have hwu : IntKind.u64.wrap (i : Int) = (i : Int) := IntWalk.u64_in _ (by omega)
      have HST1 : Hid (mStep P R true (F, T) = (tm (tm (tm F F) (pLine T T R)) (pLine (pAdd T T) P R), pAdd (pAdd T T) P)) := rfl
      have HST0 : Hid (mStep P R false (F, T) = (tm (tm F F) (pLine T T R), pAdd T T)) := rfl
      generalize 1009 / 2 ^ i = sh at hsh hbit
      have hrem : Int.tmod (sh : Int) 2 = if bit = true then 1 else 0 := by
        rw [Int.tmod_eq_emod_of_nonneg (Int.natCast_nonneg _)]
        cases bit
        · simp only [Bool.false_eq_true, if_false] at hbit ⊢; omega
        · simp only [if_true] at hbit ⊢; omega
      clear hbit hii
      obtain ⟨o4, ho4⟩ := HD.out.1.ptr
      subst ho4
      obtain ⟨fn, tmps, assign, body, hy, hR⟩ := HY.out F (((.pointer o4), (.pointer o4), true), T, T) wr HD.out.2.1 ⟨⟨HD.out.1, HD.out.1⟩, OT.out, OT.out⟩
      have hy' : (Instr.yield l #[.agg #[(.pointer o4), (.pointer o4), .bool true]]).run Try.prog wr = .ok (.round l fn tmps assign body) wr := hy
      clear hy
      gi_wp2
      refine hR.mono ?_
      rintro e W3 ⟨rfl, hJ3, hk3⟩
      have HJ3 : Hid (Jt (tm (tm F F) (pLine T T R)) W3) := hJ3
      have HP3 : Hid (PAt W3 (.pointer o4) T) := HD.out.1.kept hk3
      have HV3 : Hid (PAt W3 (.pointer ov) P) := HD.out.2.2.kept hk3
      clear HD hJ3 hk3 hy' hR
      gi_wp2
      refine ⟨trivial, (callsIn_wide.2 (plusC_any (.pointer o4) (.pointer o4) T T W3 HP3.out HP3.out OT.out OT.out)).mono ?_⟩
      rintro e W4 ⟨v', rfl, hq, hb⟩
      obtain ⟨q, hq0⟩ := hq.ptr
      subst hq0
      have HQ : Hid (PAt W4 (.pointer q) (pAdd T T)) := hq
      have HJ4 : Hid (Jt (tm (tm F F) (pLine T T R)) W4) := HJ.out _ _ _ HJ3.out hb
      have HV4 : Hid (PAt W4 (.pointer ov) P) := HV3.out.on hb
      have OQ : Hid (POk (pAdd T T)) := padd_ok OT.out OT.out
      clear HP3 HV3 HJ3 hq hb OT
      cases bit
      · simp only [Bool.false_eq_true, if_false] at hrem
        gi_wp2
        go_roundw
        case rel => exact ⟨i, by go_num, by omega, ⟨by rw [HST.out]; exact HQ.out, by rw [HST.out]; exact HJ4.out, HV4.out⟩⟩
        case measure => simp [intOf]
      · simp only [if_true] at hrem
        obtain ⟨fn, tmps, assign, body, hy, hR⟩ := HY.out _ ((.pointer q, .pointer ov, false), pAdd T T, P) W4 HJ4.out ⟨⟨HQ.out, HV4.out⟩, OQ.out, OP.out⟩
        have hy' : (Instr.yield l #[.agg #[.pointer q, .pointer ov, .bool false]]).run Try.prog W4 = .ok (.round l fn tmps assign body) W4 := hy
        clear hy
        gi_wp2
        refine hR.mono ?_
        rintro e W5 ⟨rfl, hJ5, hk5⟩
        have HJ5 : Hid (Jt (tm (tm (tm F F) (pLine T T R)) (pLine (pAdd T T) P R)) W5) := hJ5
        have HP5 : Hid (PAt W5 (.pointer q) (pAdd T T)) := HQ.out.kept hk5
        have HV5 : Hid (PAt W5 (.pointer ov) P) := HV4.out.kept hk5
        clear hJ5 hk5 hy' hR HQ HV4 HJ4
        gi_wp2
        refine ⟨trivial, (callsIn_wide.2 (plusC_any (.pointer q) (.pointer ov) (pAdd T T) P W5 HP5.out HV5.out OQ.out OP.out)).mono ?_⟩
        rintro e W6 ⟨q6, rfl, hq, hb⟩
        have HQ : Hid (PAt W6 q6 (pAdd (pAdd T T) P)) := hq
        have HJ6 : Hid (Jt (tm (tm (tm F F) (pLine T T R)) (pLine (pAdd T T) P R)) W6) := HJ.out _ _ _ HJ5.out hb
        have HV6 : Hid (PAt W6 (.pointer ov) P) := HV5.out.on hb
        clear HP5 HV5 HJ5 hq hb OQ
        gi_wp2
        go_roundw
        case rel => exact ⟨i, by go_num, by omega, ⟨by rw [HST.out]; exact HQ.out, by rw [HST.out]; exact HJ6.out, HV6.out⟩⟩
        case measure => simp [intOf]

end Go.Proofs.Ytbkfdafdchjakaa

/-
  The walks of the program's pairs: Miller's number.
  (-DROP-: what the seat lacks is left out.)
-/
namespace Go.Proofs.Ytbkfdafdchjakaa
open Go.RowKit
attribute [local go_sem] Oper.semAt_some

theorem PAt.kpt {w w1 : World} {v : Value} {P : Pt} {g : Nat} {t : TypeId} {cs : Array Value} (h : PAt w v P) (hk : Kpt g w w1) (hb : Blk w g t cs) (ht : t ≠ 127) : PAt w1 v P :=
  h.kept fun b cs' hb' => hk.blk hb' fun e => by
    subst e
    have := hb'.symm.trans hb
    cases this
    exact ht rfl

/-- What the loop over the steps needs: the second place's box, the result's block, the product. -/
structure LinAt (w W : World) (ob : Option Addr) (F : Int × Int) : Prop where
  in2 : In2 F
  q : Blk W w.heap.size 104 #[.pointer ob]
  r : Blk W (w.heap.size + 1) 112 #[.int .i64 0, .int .i64 0]
  f : Blk W (w.heap.size + 1 + 1) 112 #[.int .i64 F.1, .int .i64 F.2]
  bel : Below w.heap.size w W

theorem LinAt.kept {w W W' : World} {ob : Option Addr} {F : Int × Int} (h : LinAt w W ob F) (ht : W.tape = W'.tape) (ho : W.os = W'.os) (hu : W.output = W'.output) {n : Nat} (hn : w.heap.size + 1 + 1 < n) (hk : Kep (fun k => k = n ∨ k = n + 1) W W') : LinAt w W' ob F :=
  ⟨h.in2, hk.blk h.q (by omega), hk.blk h.r (by omega), hk.blk h.f (by omega), ⟨ho ▸ h.bel.os, ht ▸ h.bel.tape, hu ▸ h.bel.output, Nat.le_trans h.bel.size hk.1, fun k hkk => (hk.2 k (by have := h.bel.size; omega) (by omega)).trans (h.bel.block k hkk)⟩⟩

set_option maxHeartbeats 1600000 in
set_option maxRecDepth 100000 in
theorem linesAt_any (a b : Value) (P R : Pt) (w : World) (hp : PAt w a P) (hr : PAt w b R) (oP : POk P) (oR : POk R) :
    Calls Try.prog 88 #[a, b] w fun e w' => e = .returned (tv (millS P R)) ∧ Below w.heap.size w w' := by
  obtain ⟨oa, hoa⟩ := hp.ptr
  subst hoa
  obtain ⟨ob, hob⟩ := hr.ptr
  subst hob
  have HP : Hid (PAt w (.pointer oa) P) := hp
  have HR : Hid (PAt w (.pointer ob) R) := hr
  have OP : Hid (POk P) := oP
  have OR : Hid (POk R) := oR
  clear hp hr oP oR
  refine (callsIn_wide (n := 3)).1 ?_
  refine callsIn_of_wp_marks Try.func88 rfl trivial ?_
  simp only [Try.ntmps88, List.size_toArray, List.length_cons, List.length_nil, Nat.reduceAdd, Nat.reduceSub, Array.replicate_succ, Array.replicate_zero, List.push_toArray, List.append_toArray, List.nil_append, List.cons_append]
  gi_wp2
  obtain ⟨w1, hw1, hb1, hq1, hr1, hf1⟩ := boxes2r w 104 112 112 #[.pointer ob] #[.int .i64 0, .int .i64 0] #[.int .i64 1, .int .i64 0]
  have hsz : w1.heap.size = w.heap.size + 1 + 1 + 1 := by rw [← hw1]; simp
  rw [hw1]
  have H1 : Hid (LinAt w w1 ob (1, 0)) := ⟨in2_one, hq1, hr1, hf1, hb1⟩
  clear hw1 hb1 hq1 hr1 hf1
  refine range_told (σ := Int × Int) (α := SX) (gf := 101) (lb := #[.pointer oa]) rfl (enters_of Try.func101 (by kernel_rfl) rfl)
    encS (fun _ => rfl) GS (nxS R) (1, 0) (millS P R) 127 (w.heap.size + 1 + 1) (by omega)
    (fun F W => LinAt w W ob F) (fun F W W' h ht ho hu hk => h.kept ht ho hu (by omega) hk) (fun F W h => ⟨112, _, by decide, h.f⟩) H1.out ?it ?round ?done
  case it =>
    intro l W Jt hJ hY h0 hb
    exact steps_in l P R (.pointer oa) OP.out OR.out Jt hJ hY W (HP.out.on (below_then H1.out.bel hb)) h0
  case done =>
    intro D W hD hL hK
    clear H1 HP HR
    have q0 := hL.f.cell 0
    have q1 := hL.f.cell 1
    have r0 := hL.r.cell 0
    have r1 := hL.r.cell 1
    have z0 := hL.r.free 0
    have z1 := hL.r.free 1
    have hbel := hL.bel
    have hr := hL.r
    clear hL
    gi_wp2
    have hblk := (hr.set 0 (.int .i64 (millS P R).1)).set 1 (.int .i64 (millS P R).2)
    have hbel2 := (hbel.setCell (p := ⟨w.heap.size + 1, 0, none⟩) (by simp) (.int .i64 (millS P R).1)).setCell (p := ⟨w.heap.size + 1, 1, none⟩) (by simp) (.int .i64 (millS P R).2)
    have hK2 : ((W.setCell ⟨w.heap.size + 1, 0, none⟩ (.int .i64 (millS P R).1)).setCell ⟨w.heap.size + 1, 1, none⟩ (.int .i64 (millS P R).2)).heap[D]? = some (.deferred (some [])) := by
      rw [Below.heap_setCell _ _ _ _ (by show D ≠ w.heap.size + 1; omega), Below.heap_setCell _ _ _ _ (by show D ≠ w.heap.size + 1; omega)]
      exact hK
    clear q0 q1 r0 r1 z0 z1 hbel hr hK
    generalize (W.setCell ⟨w.heap.size + 1, 0, none⟩ (.int .i64 (millS P R).1)).setCell ⟨w.heap.size + 1, 1, none⟩ (.int .i64 (millS P R).2) = V at hblk hbel2 hK2 ⊢
    refine ⟨by simp, .inl ⟨_, _, rfl, run_takeDeferred hK2, ?_⟩⟩
    have hlt := (Array.getElem?_eq_some_iff.1 hK2).1
    exact ⟨_, result_blk rfl rfl ((Kep.put _).blk hblk (show ¬ w.heap.size + 1 = D by omega)) Try.underlying112 infoN, rfl, ⟨hbel2.os, hbel2.tape, hbel2.output, by simpa using hbel2.size, fun k hk => (World.putObj_heap_other (by omega)).trans (hbel2.block k hk)⟩⟩
  case round =>
    intro l F x W hl hL hx
    obtain ⟨⟨p, o, d⟩, T, O⟩ := x
    obtain ⟨⟨hT, hO⟩, oT', oO'⟩ := hx
    obtain ⟨p, hp⟩ := hT.ptr
    obtain ⟨o, ho⟩ := hO.ptr
    simp only at hp ho
    subst hp
    subst ho
    have oT : Hid (POk T) := oT'
    have oO : Hid (POk O) := oO'
    clear oT' oO'
    unfold encS
    gi_wp2
    refine ⟨(Below.refl _ _).alloc (Nat.le_refl _) _, ?_⟩
    intro W₂ hL2 hblk
    have hWs : w.heap.size + 1 + 1 < W.heap.size := hL.f.lt
    have s2 : Blk W₂ W.heap.size 147 #[.pointer p, .pointer o, .bool d] := hblk _ _ _ (Blk.new W _ _)
    have hT2 : Hid (PAt W₂ (.pointer p) T) := (PAt.on hT ((Below.refl _ W).alloc (Nat.le_refl _) _)).kept fun b cs h => hblk b _ cs h
    have hO2 : Hid (PAt W₂ (.pointer o) O) := (PAt.on hO ((Below.refl _ W).alloc (Nat.le_refl _) _)).kept fun b cs h => hblk b _ cs h
    have hR2 : Hid (PAt W₂ (.pointer ob) R) := HR.out.on hL2.bel
    have f2 := hL2.f
    have bq2 := hL2.q
    have br2 := hL2.r
    have hB2 := hL2.bel
    have hsz2 : w.heap.size ≤ W₂.heap.size := hB2.size
    have i2 : Hid (In2 F) := hL2.in2
    clear hL2 hblk hT hO hL HP HR H1 hl
    apply wpIn_block
    apply wpIn_seq_k
    intro K1 hK1
    apply wpIn_seq_k
    intro K2 hK2
    refine rnd_list rfl (fun ⟨_, _, h⟩ => by obtain ⟨h, _⟩ := h; cases h) ?_
    have c2 := s2.cell 2
    cases d
    · go_wp2
      clear c2
      refine wpIn_cond_false rfl ?_
      gi_wp2
      have hT4 := hT2
      have hO4 := hO2
      have hR4 := hR2
      have f4 := f2
      have bq4 := bq2
      have br4 := br2
      have s4 := s2
      have i4 := i2
      have k4 : Kpt (w.heap.size + 1 + 1) W₂ W₂ := .refl _ _
      clear hT2 hO2 hR2 f2 bq2 br2 s2 i2
      have HL : Hid (∀ w', Below W₂.heap.size W₂ w' → Calls Try.prog 102 #[.pointer p, .pointer o, .pointer ob] w' fun e w'' => e = .returned (tv (pLine T O R)) ∧ Below w'.heap.size w' w'') := fun w' hw => lineAt_any _ _ _ T O R w' (hT4.out.on hw) (hO4.out.on hw) (hR4.out.on hw) oT.out oO.out OR.out
      have HM : Hid (∀ w, Calls Try.prog 62 #[tv F, tv (pLine T O R)] w fun e w' => e = .returned (tv (tm F (pLine T O R))) ∧ Below w.heap.size w w') := times2_any _ _ i4.out (in2_pline OR.out)
      have HI : Hid (In2 (tm F (pLine T O R))) := in2_tm _ _
      have HE : Hid (nxS R F ((.pointer p, .pointer o, false), T, O) = tm F (pLine T O R)) := rfl
      generalize tm F (pLine T O R) = M at HM HI HE
      generalize pLine T O R = L at HL HM
      clear hT4 hO4 hR4
      refine rnd_class 8 (fun wz => Below W₂.heap.size W₂ wz) rfl (fun ⟨_, _, h⟩ => by obtain ⟨h, _⟩ := h; cases h) mixes (by kernel_rfl) (Below.refl _ _).drew ?_
      simp only [List.take_succ_cons, List.take_zero, List.drop_succ_cons, List.drop_zero]
      repeat (refine cls_step rfl (fun K hK => ⟨_, (fun w' hw => by have q0 := (f4.on hw f4.lt).cell 0; have q1 := (f4.on hw f4.lt).cell 1; have q2 := (s4.on hw s4.lt).cell 0; have q3 := (s4.on hw s4.lt).cell 1; have q4 := (s4.on hw s4.lt).cell 2; have q5 := (bq4.on hw bq4.lt).cell 0; go_simp; exact rfl), ?_⟩); go_simp; refine hK _ ?_; clear hK K)
      refine cls_call rfl (fun K hK => ⟨_, _, _, (fun w' => by go_simp <;> first | exact rfl | exact ⟨rfl, rfl⟩), (fun w' hw => calls_below hw (HL.out w' hw)), ?_⟩); go_simp; refine hK _ ?_; clear hK K
      refine cls_call rfl (fun K hK => ⟨_, _, _, (fun w' => by go_simp <;> first | exact rfl | exact ⟨rfl, rfl⟩), (fun w' hw => calls_below hw (HM.out _)), ?_⟩); go_simp; refine hK _ ?_; clear hK K
      refine wq_nil ?_
      intro w' hw
      have f5 := f4.on hw f4.lt
      have bq5 := bq4.on hw bq4.lt
      have br5 := br4.on hw br4.lt
      have k5 : Kpt (w.heap.size + 1 + 1) W₂ w' := k4.trans (.below hw)
      clear f4 s4 bq4 br4 k4 hw HL HM
      go_wp2_with (refine store_kpt (cs' := #[.int .i64 M.1, .int .i64 M.2]) rfl rfl rfl rfl rfl f5 infoN rfl (ones2 _ _) ?_; intro V f6 k6)
      have k7 := k5.trans k6
      exact ⟨trivial, k7.tape, k7.os, k7.output, k7.kep, by rw [HE.out]; exact ⟨HI.out, k6.blk bq5 (by omega), k6.blk br5 (by omega), f6, k7.bel hB2 (by omega) (by omega)⟩⟩
    · go_wp2
      clear c2
      refine wpIn_cond_true rfl ?_
      have HM1 : Hid (∀ w, Calls Try.prog 62 #[tv F, tv F] w fun e w' => e = .returned (tv (tm F F)) ∧ Below w.heap.size w w') := times2_any _ _ i2.out i2.out
      have i4 : Hid (In2 (tm F F)) := in2_tm _ _
      refine rnd_list rfl (fun ⟨_, _, h⟩ => by obtain ⟨h, _⟩ := h; cases h) ?_
      go_wp2_with (refine load_blk rfl rfl rfl f2 Try.underlying112 infoN ?_)
      refine (HM1.out _).mono ?_
      rintro e W₃ ⟨rfl, hw⟩
      have hT3 : Hid (PAt W₃ (.pointer p) T) := hT2.out.on hw
      have hO3 : Hid (PAt W₃ (.pointer o) O) := hO2.out.on hw
      have hR3 : Hid (PAt W₃ (.pointer ob) R) := hR2.out.on hw
      have f3 := f2.on hw f2.lt
      have bq3 := bq2.on hw bq2.lt
      have br3 := br2.on hw br2.lt
      have s3 := s2.on hw s2.lt
      have k3 : Kpt (w.heap.size + 1 + 1) W₂ W₃ := .below hw
      clear hT2 hO2 hR2 f2 bq2 br2 s2 hw HM1 i2
      go_wp2_with (refine store_kpt (cs' := #[.int .i64 (tm F F).1, .int .i64 (tm F F).2]) rfl rfl rfl rfl rfl f3 infoN rfl (ones2 _ _) ?_; intro W₄ f4 k')
      have hT4 : Hid (PAt W₄ (.pointer p) T) := hT3.out.kpt k' f3 (by decide)
      have hO4 : Hid (PAt W₄ (.pointer o) O) := hO3.out.kpt k' f3 (by decide)
      have hR4 : Hid (PAt W₄ (.pointer ob) R) := hR3.out.kpt k' f3 (by decide)
      have bq4 := k'.blk bq3 (by omega)
      have br4 := k'.blk br3 (by omega)
      have s4 := k'.blk s3 (by omega)
      have k4 := k3.trans k'
      clear hT3 hO3 hR3 f3 bq3 br3 s3 k3 k'
      have HL : Hid (∀ w', Below W₄.heap.size W₄ w' → Calls Try.prog 102 #[.pointer p, .pointer o, .pointer ob] w' fun e w'' => e = .returned (tv (pLine T O R)) ∧ Below w'.heap.size w' w'') := fun w' hw => lineAt_any _ _ _ T O R w' (hT4.out.on hw) (hO4.out.on hw) (hR4.out.on hw) oT.out oO.out OR.out
      have HM : Hid (∀ w, Calls Try.prog 62 #[tv (tm F F), tv (pLine T O R)] w fun e w' => e = .returned (tv (tm (tm F F) (pLine T O R))) ∧ Below w.heap.size w w') := times2_any _ _ i4.out (in2_pline OR.out)
      have HI : Hid (In2 (tm (tm F F) (pLine T O R))) := in2_tm _ _
      have HE : Hid (nxS R F ((.pointer p, .pointer o, true), T, O) = tm (tm F F) (pLine T O R)) := rfl
      generalize tm (tm F F) (pLine T O R) = M at HM HI HE
      generalize pLine T O R = L at HL HM
      clear hT4 hO4 hR4
      refine rnd_class 8 (fun wz => Below W₄.heap.size W₄ wz) rfl (fun ⟨_, _, h⟩ => by obtain ⟨h, _⟩ := h; cases h) mixes (by kernel_rfl) (Below.refl _ _).drew ?_
      simp only [List.take_succ_cons, List.take_zero, List.drop_succ_cons, List.drop_zero]
      repeat (refine cls_step rfl (fun K hK => ⟨_, (fun w' hw => by have q0 := (f4.on hw f4.lt).cell 0; have q1 := (f4.on hw f4.lt).cell 1; have q2 := (s4.on hw s4.lt).cell 0; have q3 := (s4.on hw s4.lt).cell 1; have q4 := (s4.on hw s4.lt).cell 2; have q5 := (bq4.on hw bq4.lt).cell 0; go_simp; exact rfl), ?_⟩); go_simp; refine hK _ ?_; clear hK K)
      refine cls_call rfl (fun K hK => ⟨_, _, _, (fun w' => by go_simp <;> first | exact rfl | exact ⟨rfl, rfl⟩), (fun w' hw => calls_below hw (HL.out w' hw)), ?_⟩); go_simp; refine hK _ ?_; clear hK K
      refine cls_call rfl (fun K hK => ⟨_, _, _, (fun w' => by go_simp <;> first | exact rfl | exact ⟨rfl, rfl⟩), (fun w' hw => calls_below hw (HM.out _)), ?_⟩); go_simp; refine hK _ ?_; clear hK K
      refine wq_nil ?_
      intro w' hw
      have f5 := f4.on hw f4.lt
      have bq5 := bq4.on hw bq4.lt
      have br5 := br4.on hw br4.lt
      have k5 : Kpt (w.heap.size + 1 + 1) W₂ w' := k4.trans (.below hw)
      clear f4 s4 bq4 br4 k4 hw HL HM
      go_wp2_with (refine store_kpt (cs' := #[.int .i64 M.1, .int .i64 M.2]) rfl rfl rfl rfl rfl f5 infoN rfl (ones2 _ _) ?_; intro V f6 k6)
      have k7 := k5.trans k6
      exact ⟨trivial, k7.tape, k7.os, k7.output, k7.kep, by rw [HE.out]; exact ⟨HI.out, k6.blk bq5 (by omega), k6.blk br5 (by omega), f6, k7.bel hB2 (by omega) (by omega)⟩⟩

end Go.Proofs.Ytbkfdafdchjakaa

/-
  The walks of the program's pairs: Miller, the pair.
  (-DROP-: what the seat lacks is left out.)
-/
namespace Go.Proofs.Ytbkfdafdchjakaa
open Go.RowKit

theorem in2_ti (x : Int × Int) : In2 (ti x) := by rw [← ti_by]; exact in2_tm _ _

/-- Where all lines are one, the number is one. -/
theorem mill_one {P R : Pt} (D : Pt → Prop) (h0 : D P) (h1 : ∀ T, D T → pLineB T T R = (1, 0) ∧ D (pSum T T) ∧ pLineB (pSum T T) P R = (1, 0) ∧ D (pSum (pSum T T) P)) : millS P R = (1, 0) := by
  have key : ∀ k, (mSt P R k).1 = (1, 0) ∧ D (mSt P R k).2 := by
    intro k
    induction k with
    | zero => exact ⟨rfl, h0⟩
    | succ k ih =>
      obtain ⟨i1, i2⟩ := ih
      obtain ⟨a, b, c, d⟩ := h1 _ i2
      show (mStepS P R _ (mSt P R k)).1 = (1, 0) ∧ D (mStepS P R _ (mSt P R k)).2
      unfold mStepS
      rw [i1, a, c]
      split
      · exact ⟨rfl, d⟩
      · exact ⟨rfl, b⟩
  exact (mst_all P R).symm.trans (key 9).1

theorem line_bad3 {P Q R : Pt} (h : pOkB R = false ∨ R = pZ) : pLineB P Q R = (1, 0) := by
  unfold pLineB
  rcases h with h | h
  · rw [h]; simp
  · subst h
    split
    · rw [pline_told]; simp [pZ]
    · rfl
theorem line_bad1 {P Q R : Pt} (h : pOkB P = false ∨ P = pZ) : pLineB P Q R = (1, 0) := by
  unfold pLineB
  rcases h with h | h
  · rw [h]; simp
  · subst h
    split
    · rw [pline_told]; simp [pZ]
    · rfl
theorem line_bad2 {P Q R : Pt} (h : pOkB Q = false ∨ Q = pZ) : pLineB P Q R = (1, 0) := by
  unfold pLineB
  rcases h with h | h
  · rw [h]; simp
  · subst h
    split
    · rw [pline_told]; simp [pZ]
    · rfl
theorem mill_bad2 {P R : Pt} (h : pOkB R = false ∨ R = pZ) : millS P R = (1, 0) :=
  mill_one (fun _ => True) trivial fun _ _ => ⟨line_bad3 h, trivial, line_bad3 h, trivial⟩
theorem sum_bad {T U : Pt} (hT : pOkB T = false ∨ T = pZ) (hU : pOkB U = false ∨ U = pZ) : pSum T U = pZ := by
  unfold pSum
  rcases hT with h | h
  · rw [h]; rfl
  · subst h
    rcases hU with h | h
    · rw [h]; simp
    · subst h; rfl
theorem mill_bad1 {P R : Pt} (h : pOkB P = false ∨ P = pZ) : millS P R = (1, 0) :=
  mill_one (fun T => pOkB T = false ∨ T = pZ) h fun _ hT => ⟨line_bad1 hT, .inr (sum_bad hT hT), line_bad2 h, .inr (sum_bad (.inr (sum_bad hT hT)) h)⟩

theorem np_mill (P R : Pt) : millS (nP P) (nP R) = millS P R := by
  unfold nP
  cases h1 : pOkB P
  · rw [if_neg Bool.false_ne_true, mill_bad1 (.inr rfl), mill_bad1 (.inl h1)]
  · rw [if_pos rfl]
    cases h2 : pOkB R
    · rw [if_neg Bool.false_ne_true, mill_bad2 (.inr rfl), mill_bad2 (.inl h2)]
    · rw [if_pos rfl]

theorem np_in {P : Pt} (h : inGB P = true) : nP P = P := by
  unfold nP
  rw [if_pos (pokB.2 (ing_iff.1 h).1)]

theorem mend_one : mEnd (1, 0) = (1, 0) := by kernel_rfl

theorem pair_told {P Q : Pt} (hP : inGB P = true) (hQ : inGB Q = true) : pairS P Q = mEnd (millS P Q) := by
  unfold pairS
  rw [hP, hQ]
  cases h1 : P.2.2
  · cases h2 : Q.2.2
    · rfl
    · rw [mill_bad2 (.inr ((zero_flag (ing_iff.1 hQ).1).1 h2)), mend_one]; rfl
  · rw [mill_bad1 (.inr ((zero_flag (ing_iff.1 hP).1).1 h1)), mend_one]; rfl

set_option maxHeartbeats 1600000 in
set_option maxRecDepth 100000 in
theorem pairWith_any (a b : Value) (P R : Pt) (w : World) (hp : PAt w a P) (hr : PAt w b R) (oP : POk P) (oR : POk R) :
    Calls Try.prog 64 #[a, b] w fun e w' => e = .returned (tv (mEnd (millS P R))) ∧ Below w.heap.size w w' := by
  obtain ⟨W, hW, hb, hs⟩ := box1 w 112 #[.int .i64 0, .int .i64 0]
  have HL : Hid (Calls Try.prog 88 #[a, b] W fun e w' => e = .returned (tv (millS P R)) ∧ Below W.heap.size W w') := linesAt_any a b P R W (hp.on hb) (hr.on hb) oP oR
  have hin := in2_mills P R
  generalize millS P R = x at HL hin ⊢
  have HT : Hid (∀ w, Calls Try.prog 89 #[tv x] w fun e w' => e = .returned (tv (tt x)) ∧ Below w.heap.size w w') := turned_any _ hin
  have HI : Hid (∀ w, Calls Try.prog 90 #[tv x] w fun e w' => e = .returned (tv (ti x)) ∧ Below w.heap.size w w') := inverse2_any _ hin
  have HX : Hid (∀ w, Calls Try.prog 62 #[tv (tt x), tv (ti x)] w fun e w' => e = .returned (tv (tm (tt x) (ti x))) ∧ Below w.heap.size w w') := times2_any _ _ (in2_tt hin) (in2_ti x)
  have HP : Hid (∀ w, Calls Try.prog 91 #[tv (tm (tt x) (ti x)), .int .i64 12] w fun e w' => e = .returned (tv (mEnd x)) ∧ Below w.heap.size w w') := by
    have h := power2_any (tm (tt x) (ti x)) (in2_tm _ _) 12 (by decide)
    rw [show tp (tm (tt x) (ti x)) 12 = mEnd x from tp_pw _ 12] at h
    exact h
  generalize mEnd x = E at HP ⊢
  generalize tm (tt x) (ti x) = M at HX HP
  generalize tt x = X1 at HT HX
  generalize ti x = X2 at HI HX
  clear hin hp hr oP oR
  go_enter Try.func64, Try.ntmps64
  go_wp2_with fail
  clear hW
  refine HL.out.mono ?_
  rintro e w1 ⟨rfl, hw⟩
  have hs1 := hs.on hw hs.lt
  have hb1 := below_then hb hw
  clear hs hb hw HL
  obtain ⟨V, hV, hbV, h5⟩ := box1 w1 112 #[.int .i64 x.1, .int .i64 x.2]
  go_wp2
  have hs2 := hs1.on hbV hs1.lt
  have hb2 := below_then hb1 hbV
  clear hV hbV hs1 hb1
  refine wp_region_class 6 (fun wz => Below V.heap.size V wz) mixes (by kernel_rfl) (Below.refl _ _).drew ?_
  simp only [List.take_succ_cons, List.take_zero, List.drop_succ_cons, List.drop_zero]
  repeat (refine cls_step rfl (fun K hK => ⟨_, (fun w' hw => by have q0 := (h5.on hw h5.lt).cell 0; have q1 := (h5.on hw h5.lt).cell 1; go_simp; exact rfl), ?_⟩); go_simp; refine hK _ ?_; clear hK K)
  refine cls_call rfl (fun K hK => ⟨_, _, _, (fun w' => by go_simp <;> first | exact rfl | exact ⟨rfl, rfl⟩), (fun w' hw => calls_below hw (HT.out _)), ?_⟩); go_simp; refine hK _ ?_; clear hK K
  repeat (refine cls_step rfl (fun K hK => ⟨_, (fun w' hw => by have q0 := (h5.on hw h5.lt).cell 0; have q1 := (h5.on hw h5.lt).cell 1; go_simp; exact rfl), ?_⟩); go_simp; refine hK _ ?_; clear hK K)
  refine cls_call rfl (fun K hK => ⟨_, _, _, (fun w' => by go_simp <;> first | exact rfl | exact ⟨rfl, rfl⟩), (fun w' hw => calls_below hw (HI.out _)), ?_⟩); go_simp; refine hK _ ?_; clear hK K
  refine cls_call rfl (fun K hK => ⟨_, _, _, (fun w' => by go_simp <;> first | exact rfl | exact ⟨rfl, rfl⟩), (fun w' hw => calls_below hw (HX.out _)), ?_⟩); go_simp; refine hK _ ?_; clear hK K
  refine cls_call rfl (fun K hK => ⟨_, _, _, (fun w' => by go_simp <;> first | exact rfl | exact ⟨rfl, rfl⟩), (fun w' hw => calls_below hw (HP.out _)), ?_⟩); go_simp; refine hK _ ?_; clear hK K
  refine wq_nil ?_
  intro w' hw
  have hs3 := hs2.on hw hs2.lt
  have hb3 := below_then hb2 hw
  clear hs2 hb2 hw h5
  go_wp2_with (refine store_blk (cs' := #[.int .i64 E.1, .int .i64 E.2]) rfl rfl rfl rfl rfl hs3 infoN rfl (ones2 _ _) ?_; intro U h7 hoth hbel; have hbU := hbel _ _ (by omega) hb3; clear hoth hbel)
  refine bodyPost_ret_by (result_blk rfl rfl h7 Try.underlying112 infoN) rfl ⟨rfl, hbU⟩

set_option maxHeartbeats 1600000 in
set_option maxRecDepth 100000 in
theorem iPairing_any (P Q : Pt) (w : World) :
    Calls Try.prog 36 #[pv P, pv Q] w fun e w' => e = .returned (tv (pairS P Q)) ∧ Below w.heap.size w w' := by
  have HA : Hid (∀ w, Calls Try.prog 60 #[pv P] w fun e w' => e = .returned (.bool (inGB P)) ∧ Below w.heap.size w w') := iInG_any P
  have HB : Hid (∀ w, Calls Try.prog 60 #[pv Q] w fun e w' => e = .returned (.bool (inGB Q)) ∧ Below w.heap.size w w') := iInG_any Q
  have HC : Hid (∀ w, Calls Try.prog 55 #[pv P] w fun e w' => ∃ v', e = .returned (.tuple #[v', .bool (pOkB P)]) ∧ PAt w' v' (nP P) ∧ Below w.heap.size w w') := placeZ_any P
  have HD : Hid (∀ w, Calls Try.prog 55 #[pv Q] w fun e w' => ∃ v', e = .returned (.tuple #[v', .bool (pOkB Q)]) ∧ PAt w' v' (nP Q) ∧ Below w.heap.size w w') := placeZ_any Q
  have HL : Hid (inGB P = true → inGB Q = true → ∀ a b w, PAt w a (nP P) → PAt w b (nP Q) → Calls Try.prog 64 #[a, b] w fun e w' => e = .returned (tv (pairS P Q)) ∧ Below w.heap.size w w') := fun g1 g2 a b w h1 h2 => by
    rw [pair_told g1 g2, ← np_mill]; exact pairWith_any a b _ _ w h1 h2 (np_ok P) (np_ok Q)
  have HT : Hid (∀ w, Calls Try.prog 63 #[tv (pairS P Q)] w fun e w' => e = .returned (tv (pairS P Q)) ∧ Below w.heap.size w w') := two_any _
  have H1 : Hid (inGB P = false → pairS P Q = (1, 0)) := fun h => by unfold pairS; rw [h]; rfl
  have H2 : Hid (inGB Q = false → pairS P Q = (1, 0)) := fun h => by unfold pairS; rw [h]; simp
  generalize pairS P Q = L at HL HT H1 H2 ⊢
  generalize inGB P = g1 at HA HL H1
  generalize inGB Q = g2 at HB HL H2
  generalize pOkB P = o1 at HC
  generalize pOkB Q = o2 at HD
  generalize nP P = N1 at HC HL
  generalize nP Q = N2 at HD HL
  obtain ⟨p1, p2, z1⟩ := P
  obtain ⟨q1, q2, z2⟩ := Q
  unfold pv at HA HB HC HD ⊢
  simp only at HA HB HC HD ⊢
  obtain ⟨W, hW, hb, hp, hq, hs⟩ := boxes2r w 35 35 81 #[.int .i64 p1, .int .i64 p2, .bool z1] #[.int .i64 q1, .int .i64 q2, .bool z2] #[.int .i64 0, .int .i64 0]
  cases g1
  · have hE := H1.out rfl
    rw [hE]
    clear hE H1 H2 HL HT HB HC HD
    go_enter Try.func36, Try.ntmps36
    go_wp2_with (refine load_blk rfl rfl rfl hp Try.underlying35 infoP ?_)
    clear hW
    refine (HA.out _).mono ?_
    rintro e w1 ⟨rfl, hw⟩
    have hs1 := hs.on hw hs.lt
    have hb1 := below_then hb hw
    clear hp hq hs hb hw HA
    go_wp2_with (refine store_blk (cs' := #[.int .i64 1, .int .i64 0]) rfl rfl rfl rfl rfl hs1 infoT rfl (ones2 _ _) ?_; intro V h5 hoth hbel; have hbV := hbel _ _ (by omega) hb1; clear hoth hbel)
    refine bodyPost_ret_by (result_blk rfl rfl h5 Try.underlying81 infoT) rfl ⟨rfl, hbV⟩
  · cases g2
    · have hE := H2.out rfl
      rw [hE]
      clear hE H1 H2 HL HT HC HD
      go_enter Try.func36, Try.ntmps36
      go_wp2_with (refine load_blk rfl rfl rfl hp Try.underlying35 infoP ?_)
      clear hW
      refine (HA.out _).mono ?_
      rintro e w1 ⟨rfl, hw⟩
      have hs1 := hs.on hw hs.lt
      have hq1 := hq.on hw hq.lt
      have hb1 := below_then hb hw
      have q0 := hq1.cell 0
      have q1 := hq1.cell 1
      have q2 := hq1.cell 2
      clear hp hq hs hb hw HA
      go_wp2_with fail
      clear q0 q1 q2
      refine (HB.out _).mono ?_
      rintro e w2 ⟨rfl, hw⟩
      have hs2 := hs1.on hw hs1.lt
      have hb2 := below_then hb1 hw
      clear hs1 hq1 hb1 hw HB
      go_wp2_with (refine store_blk (cs' := #[.int .i64 1, .int .i64 0]) rfl rfl rfl rfl rfl hs2 infoT rfl (ones2 _ _) ?_; intro V h5 hoth hbel; have hbV := hbel _ _ (by omega) hb2; clear hoth hbel)
      refine bodyPost_ret_by (result_blk rfl rfl h5 Try.underlying81 infoT) rfl ⟨rfl, hbV⟩
    · have HL' : Hid (∀ a b w, PAt w a N1 → PAt w b N2 → Calls Try.prog 64 #[a, b] w fun e w' => e = .returned (tv L) ∧ Below w.heap.size w w') := HL.out rfl rfl
      clear H1 H2 HL
      go_enter Try.func36, Try.ntmps36
      go_wp2_with (refine load_blk rfl rfl rfl hp Try.underlying35 infoP ?_)
      clear hW
      refine (HA.out _).mono ?_
      rintro e w1 ⟨rfl, hw⟩
      have hs1 := hs.on hw hs.lt
      have hp1 := hp.on hw hp.lt
      have hq1 := hq.on hw hq.lt
      have hb1 := below_then hb hw
      have q0 := hq1.cell 0
      have q1 := hq1.cell 1
      have q2 := hq1.cell 2
      clear hp hq hs hb hw HA
      go_wp2_with fail
      clear q0 q1 q2
      refine (HB.out _).mono ?_
      rintro e w2 ⟨rfl, hw⟩
      have hs2 := hs1.on hw hs1.lt
      have hp2 := hp1.on hw hp1.lt
      have hq2 := hq1.on hw hq1.lt
      have hb2 := below_then hb1 hw
      clear hs1 hp1 hq1 hb1 hw HB
      go_wp2_with (refine load_blk rfl rfl rfl hp2 Try.underlying35 infoP ?_)
      refine (HC.out _).mono ?_
      rintro e w3 ⟨v1, rfl, hv1, hw⟩
      have HV1 : Hid (PAt w3 v1 N1) := hv1
      have hq3 := hq2.on hw hq2.lt
      have hs3 := hs2.on hw hs2.lt
      have hb3 := below_then hb2 hw
      clear hp2 hq2 hs2 hb2 hw hv1 HC
      go_wp2_with (refine load_blk rfl rfl rfl hq3 Try.underlying35 infoP ?_)
      refine (HD.out _).mono ?_
      rintro e w4 ⟨v2, rfl, hv2, hw⟩
      have HV2 : Hid (PAt w4 v2 N2) := hv2
      have HV1' : Hid (PAt w4 v1 N1) := HV1.out.on hw
      have hs4 := hs3.on hw hs3.lt
      have hb4 := below_then hb3 hw
      clear hq3 hs3 hb3 hw hv2 HD HV1
      go_wp2_with fail
      refine (HL'.out _ _ _ HV1'.out HV2.out).mono ?_
      rintro e w5 ⟨rfl, hw⟩
      have hs5 := hs4.on hw hs4.lt
      have hb5 := below_then hb4 hw
      clear hs4 hb4 hw HL' HV1' HV2
      go_wp2_with fail
      refine (HT.out _).mono ?_
      rintro e w6 ⟨rfl, hw⟩
      have hs6 := hs5.on hw hs5.lt
      have hb6 := below_then hb5 hw
      clear hs5 hb5 hw HT
      go_wp2_with (refine store_blk (cs' := #[.int .i64 L.1, .int .i64 L.2]) rfl rfl rfl rfl rfl hs6 infoT rfl (ones2 _ _) ?_; intro V h5 hoth hbel; have hbV := hbel _ _ (by omega) hb6; clear hoth hbel)
      refine bodyPost_ret_by (result_blk rfl rfl h5 Try.underlying81 infoT) rfl ⟨rfl, hbV⟩

end Go.Proofs.Ytbkfdafdchjakaa
