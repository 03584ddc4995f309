/-
  The draws of points.
  (-DROP-: what the seat lacks is left out.)
-/
import Derived.Test.YtckhbflolccinaaJoined2
import Derived.Test.YtckhbflolccinaaJoined6
import Derived.Test.YtckhbflolccinaaJoined20
import Derived.Test.YtckhbflolccinaaJoined20
namespace Go.Proofs.Ytckhbflolccinaa
open Go.RowKit

/-- A point of the curve that is not Zero. -/
def OnC (P : Pt) : Prop := POk P ∧ P.2.2 = false

theorem onC_root {z : Int} (hz : 0 ≤ z ∧ z < 12107) (hb : rootB (rhs z) = true) : OnC (z, rootV (rhs z), false) :=
  ⟨.inr ⟨rfl, hz, rootV_in, wc_rhs.2 (root_right' (rhs_in z).1 (rhs_in z).2 hb)⟩, rfl⟩

theorem onC_base : OnC pB := ⟨pb_ok, rfl⟩

set_option maxHeartbeats 1600000 in
set_option maxRecDepth 100000 in
theorem curve_any (c len cap : Nat) (a : Option Addr) (hm : len ≤ 1048576) (w : World) (hC : CurAt w c a len cap) (hA : ArgAt w a len c) :
    Calls Try.prog 83 #[.pointer (some ⟨c, 0, none⟩)] w fun e w' => ∃ P : Pt, e = .returned (pv P) ∧ OnC P ∧ CurEnd w w' c a len cap := by
  have hcl := hC.lt
  have H0 : Hid (CurEnd w (w.alloc (.cells #[.int .i64 0, .int .i64 0, .bool false] 25)) c a len cap) := (CurEnd.refl hC hA).alloc _
  have HB : Hid (Blk (w.alloc (.cells #[.int .i64 0, .int .i64 0, .bool false] 25)) w.heap.size 25 #[.int .i64 0, .int .i64 0, .bool false]) := Blk.new _ _ _
  clear hC hA
  go_enter Try.func83, Try.ntmps83
  go_wp2_with fail
  refine (below_any c len cap a hm 250 (by omega) (by omega) _ H0.out.cur H0.out.arg).mono ?_
  rintro e w1 ⟨x, rfl, x0, x1, hE⟩
  have H1 : Hid (CurEnd w w1 c a len cap) := H0.out.trans hE
  have HB1 : Hid (Blk w1 w.heap.size 25 #[.int .i64 0, .int .i64 0, .bool false]) := HB.out.grown hE.grown (by omega)
  clear hE H0 HB
  go_wp2
  go_loopw [4] (fun i wr => ∃ k : Nat, i = .int .i64 (k : Int) ∧ k ≤ 60 ∧ w1 = wr) (fun i _ => 60 - (intOf i).toNat)
  case atStart => exact ⟨0, rfl, by omega, rfl⟩
  case round =>
    obtain ⟨k, rfl, hk, rfl⟩ := hrel
    by_cases hlt : k < 60
    · have hlt' : (k : Int) < 60 := by omega
      obtain ⟨z, hz⟩ : ∃ z : Int, z = x + (k : Int) := ⟨_, rfl⟩
      have hz' := hz.symm
      have hzb : 0 ≤ z ∧ z < 12107 := by omega
      clear hz
      have HRH : Hid (∀ w, Calls Try.prog 86 #[.int .i64 z] w fun e w' => e = .returned (.int .i64 (rhs z)) ∧ w = w') := sRight_any z
      have HRT : Hid (∀ w, Calls Try.prog 91 #[.int .i64 (rhs z)] w fun e w' => e = .returned (.tuple #[.int .i64 (rootV (rhs z)), .bool (rootB (rhs z))]) ∧ w = w') := sRoot_any (rhs z)
      have HO : Hid (rootB (rhs z) = true → OnC (z, rootV (rhs z), false)) := fun h => onC_root hzb h
      generalize rootV (rhs z) = v at HRT HO
      generalize rootB (rhs z) = q at HRT HO
      generalize rhs z = rr at HRH HRT
      cases q
      · go_wp2_with (first | (go_at_call 86; refine (HRH.out _).mono ?_; rintro e w2 ⟨rfl, rfl⟩) | (go_at_call 91; refine (HRT.out _).mono ?_; rintro e w2 ⟨rfl, rfl⟩))
        go_roundw
        case rel => exact ⟨k + 1, by go_num, by omega, by trivial⟩
        case measure => simp [intOf]; omega
      · have hB1 := HB1.out
        go_wp2_with (first | (go_at_call 86; refine (HRH.out _).mono ?_; rintro e w2 ⟨rfl, rfl⟩) | (go_at_call 91; refine (HRT.out _).mono ?_; rintro e w2 ⟨rfl, rfl⟩) | (refine store_blk (cs' := #[.int .i64 z, .int .i64 v, .bool false]) rfl rfl rfl rfl rfl hB1 infoP rfl (ones3 _ _ _) ?_; intro V h5 hoth hbel; have hE2 : Hid (CurEnd w V c a len cap) := H1.out.store (Nat.le_refl _) hcl hoth hbel; clear hoth hbel))
        refine bodyPost_ret_by (result_blk rfl rfl h5 Try.underlying25 infoP) rfl ⟨(z, v, false), rfl, HO.out (by trivial), hE2.out⟩
    · have hlt' : ¬ (k : Int) < 60 := by omega
      have HBA : Hid (∀ w, Calls Try.prog 68 #[] w fun e w' => e = .returned (.agg #[.int .i64 8445, .int .i64 859, .bool false]) ∧ Below w.heap.size w w') := sBase_any
      go_wp2_with fail
      refine (HBA.out _).mono ?_
      rintro e w2 ⟨rfl, hb2⟩
      have H2 : Hid (CurEnd w w2 c a len cap) := H1.out.below hb2
      have hB2 := HB1.out.on hb2 HB1.out.lt
      clear hb2 HB1 H1
      go_wp2_with (refine store_blk (cs' := #[.int .i64 8445, .int .i64 859, .bool false]) rfl rfl rfl rfl rfl hB2 infoP rfl (ones3 _ _ _) ?_; intro V h5 hoth hbel; have hE2 : Hid (CurEnd w V c a len cap) := H2.out.store (Nat.le_refl _) hcl hoth hbel; clear hoth hbel)
      refine bodyPost_ret_by (result_blk rfl rfl h5 Try.underlying25 infoP) rfl ⟨pB, rfl, onC_base, hE2.out⟩

/-- Of a multiple of the base. -/
def InGp (P : Pt) : Prop := ∃ k, k < 1009 ∧ P = pMul pB k
theorem InGp.ok {P : Pt} (h : InGp P) : POk P := by
  obtain ⟨k, _, rfl⟩ := h
  exact pmul_ok pb_ok k

/-- What is picked for a multiple of the base. -/
def Sm9 (z : Int) : Prop := 0 ≤ z ∧ z ≤ 1008

set_option maxHeartbeats 1600000 in
set_option maxRecDepth 100000 in
theorem group_any (c len cap : Nat) (a : Option Addr) (hm : len ≤ 1048576) (w : World) (hC : CurAt w c a len cap) (hA : ArgAt w a len c) :
    Calls Try.prog 35 #[.pointer (some ⟨c, 0, none⟩)] w fun e w' => ∃ P : Pt, e = .returned (pv P) ∧ InGp P ∧ CurEnd w w' c a len cap := by
  have hcl := hC.lt
  have H0 : Hid (CurEnd w (w.alloc (.cells #[.int .i64 0, .int .i64 0, .bool false] 25)) c a len cap) := (CurEnd.refl hC hA).alloc _
  have HB0 : Hid (Blk (w.alloc (.cells #[.int .i64 0, .int .i64 0, .bool false] 25)) w.heap.size 25 #[.int .i64 0, .int .i64 0, .bool false]) := Blk.new _ _ _
  clear hC hA
  go_enter Try.func35, Try.ntmps35
  go_wp2_with fail
  refine (below_any c len cap a hm 256 (by omega) (by omega) _ H0.out.cur H0.out.arg).mono ?_
  rintro e w1 ⟨y, rfl, y0, y1, hE⟩
  have H1 : Hid (CurEnd w w1 c a len cap) := H0.out.trans hE
  have HB1 : Hid (Blk w1 w.heap.size 25 #[.int .i64 0, .int .i64 0, .bool false]) := HB0.out.grown hE.grown (by omega)
  clear hE H0 HB0
  go_wp2_with fail
  have HW := H1.out.alloc (.cells #[.int .i64 1, .int .i64 2, .int .i64 3, .int .i64 0, .int .i64 500, .int .i64 1008, .int .i64 y] 3)
  have hHB := HB1.out.alloc (.cells #[.int .i64 1, .int .i64 2, .int .i64 3, .int .i64 0, .int .i64 500, .int .i64 1008, .int .i64 y] 3)
  have hcl1 := H1.out.cur.lt
  refine (pick_any c len cap a hm w1.heap.size 7 7 (by omega) (by omega) _ HW.cur HW.arg (by omega) Sm9 (ints_new w1 [1, 2, 3, 0, 500, 1008, y] _ rfl Sm9 (by unfold Sm9; intro z hz; simp at hz; omega))).mono ?_
  rintro e w2 ⟨z, rfl, hz, hE⟩
  have H2 : Hid (CurEnd w w2 c a len cap) := HW.trans hE
  have HB2 : Hid (Blk w2 w.heap.size 25 #[.int .i64 0, .int .i64 0, .bool false]) := hHB.grown hE.grown (by omega)
  obtain ⟨k, rfl⟩ : ∃ k : Nat, z = k := ⟨z.toNat, by have := hz.1; omega⟩
  have hk : k < 1009 := by have := hz.2; omega
  clear hE H1 HB1 HW hHB hz
  have HBA : Hid (∀ w, Calls Try.prog 68 #[] w fun e w' => e = .returned (pv pB) ∧ Below w.heap.size w w') := sBase_any
  have HTI : Hid (∀ w, Calls Try.prog 66 #[.int .i64 (k : Int), pv pB] w fun e w' => e = .returned (pv (pMul pB k)) ∧ Below w.heap.size w w') := by
    have h := sTimes_any (k : Int) pB
    rw [ptimes_small pb_ok (by omega)] at h
    exact h
  have HG : Hid (InGp (pMul pB k)) := ⟨k, hk, rfl⟩
  generalize pMul pB k = P at HTI HG
  generalize pB = B at HBA HTI
  go_wp2_with fail
  refine (HBA.out _).mono ?_
  rintro e w3 ⟨rfl, hb3⟩
  have H3 : Hid (CurEnd w w3 c a len cap) := H2.out.below hb3
  have HB3 : Hid (Blk w3 w.heap.size 25 #[.int .i64 0, .int .i64 0, .bool false]) := HB2.out.on hb3 HB2.out.lt
  clear hb3 H2 HB2
  go_wp2_with fail
  refine (HTI.out _).mono ?_
  rintro e w4 ⟨rfl, hb4⟩
  have H4 : Hid (CurEnd w w4 c a len cap) := H3.out.below hb4
  have hB4 := HB3.out.on hb4 HB3.out.lt
  clear hb4 H3 HB3
  go_wp2_with (refine store_blk (cs' := pc P) rfl rfl rfl rfl rfl hB4 infoP rfl (ones3 _ _ _) ?_; intro V h5 hoth hbel; have hE9 : Hid (CurEnd w V c a len cap) := H4.out.store (Nat.le_refl _) hcl hoth hbel; clear hoth hbel)
  refine bodyPost_ret_by (result_blk rfl rfl h5 Try.underlying25 infoP) rfl ⟨P, rfl, HG.out, hE9.out⟩

set_option maxHeartbeats 1600000 in
set_option maxRecDepth 100000 in
theorem anyP_any (c len cap : Nat) (a : Option Addr) (hm : len ≤ 1048576) (w : World) (hC : CurAt w c a len cap) (hA : ArgAt w a len c) :
    Calls Try.prog 54 #[.pointer (some ⟨c, 0, none⟩)] w fun e w' => ∃ P : Pt, e = .returned (pv P) ∧ CurEnd w w' c a len cap := by
  have hcl := hC.lt
  have H0 : Hid (CurEnd w (w.alloc (.cells #[.int .i64 0, .int .i64 0, .bool false] 25)) c a len cap) := (CurEnd.refl hC hA).alloc _
  have HB0 : Hid (Blk (w.alloc (.cells #[.int .i64 0, .int .i64 0, .bool false] 25)) w.heap.size 25 #[.int .i64 0, .int .i64 0, .bool false]) := Blk.new _ _ _
  clear hC hA
  go_enter Try.func54, Try.ntmps54
  go_wp2_with fail
  refine (below_any c len cap a hm 10 (by omega) (by omega) _ H0.out.cur H0.out.arg).mono ?_
  rintro e w1 ⟨x, rfl, x0, x1, hE⟩
  have H1 : Hid (CurEnd w w1 c a len cap) := H0.out.trans hE
  have HB1 : Hid (Blk w1 w.heap.size 25 #[.int .i64 0, .int .i64 0, .bool false]) := HB0.out.grown hE.grown (by omega)
  clear hE H0 HB0
  rcases (show x = 0 ∨ x = 1 ∨ x = 2 ∨ x = 3 ∨ x = 4 ∨ x = 5 ∨ 6 ≤ x by omega) with rfl | rfl | rfl | rfl | rfl | rfl | h6
  · go_wp2_with fail
    refine (curve_any c len cap a hm _ H1.out.cur H1.out.arg).mono ?_
    rintro e w2 ⟨P, rfl, _, hE⟩
    have H2 : Hid (CurEnd w w2 c a len cap) := H1.out.trans hE
    have HB2 : Hid (Blk w2 w.heap.size 25 #[.int .i64 0, .int .i64 0, .bool false]) := HB1.out.grown hE.grown (by omega)
    clear hE H1 HB1
    have hB2 := HB2.out
    go_wp2_with (refine store_blk (cs' := pc P) rfl rfl rfl rfl rfl hB2 infoP rfl (ones3 _ _ _) ?_; intro V h5 hoth hbel; have hE9 : Hid (CurEnd w V c a len cap) := H2.out.store (Nat.le_refl _) hcl hoth hbel; clear hoth hbel)
    refine bodyPost_ret_by (result_blk rfl rfl h5 Try.underlying25 infoP) rfl ⟨P, rfl, hE9.out⟩
  · go_wp2_with fail
    refine (curve_any c len cap a hm _ H1.out.cur H1.out.arg).mono ?_
    rintro e w2 ⟨P, rfl, _, hE⟩
    have H2 : Hid (CurEnd w w2 c a len cap) := H1.out.trans hE
    have HB2 : Hid (Blk w2 w.heap.size 25 #[.int .i64 0, .int .i64 0, .bool false]) := HB1.out.grown hE.grown (by omega)
    clear hE H1 HB1
    have hB2 := HB2.out
    go_wp2_with (refine store_blk (cs' := pc P) rfl rfl rfl rfl rfl hB2 infoP rfl (ones3 _ _ _) ?_; intro V h5 hoth hbel; have hE9 : Hid (CurEnd w V c a len cap) := H2.out.store (Nat.le_refl _) hcl hoth hbel; clear hoth hbel)
    refine bodyPost_ret_by (result_blk rfl rfl h5 Try.underlying25 infoP) rfl ⟨P, rfl, hE9.out⟩
  · go_wp2_with fail
    refine (curve_any c len cap a hm _ H1.out.cur H1.out.arg).mono ?_
    rintro e w2 ⟨P, rfl, _, hE⟩
    have H2 : Hid (CurEnd w w2 c a len cap) := H1.out.trans hE
    have HB2 : Hid (Blk w2 w.heap.size 25 #[.int .i64 0, .int .i64 0, .bool false]) := HB1.out.grown hE.grown (by omega)
    clear hE H1 HB1
    have hB2 := HB2.out
    go_wp2_with (refine store_blk (cs' := pc P) rfl rfl rfl rfl rfl hB2 infoP rfl (ones3 _ _ _) ?_; intro V h5 hoth hbel; have hE9 : Hid (CurEnd w V c a len cap) := H2.out.store (Nat.le_refl _) hcl hoth hbel; clear hoth hbel)
    refine bodyPost_ret_by (result_blk rfl rfl h5 Try.underlying25 infoP) rfl ⟨P, rfl, hE9.out⟩
  · go_wp2_with fail
    refine (num_any c len cap a hm _ H1.out.cur H1.out.arg).mono ?_
    rintro e w2 ⟨u, rfl, _, hE⟩
    have H2 : Hid (CurEnd w w2 c a len cap) := H1.out.trans hE
    have HB2 : Hid (Blk w2 w.heap.size 25 #[.int .i64 0, .int .i64 0, .bool false]) := HB1.out.grown hE.grown (by omega)
    clear hE H1 HB1
    go_wp2_with fail
    refine (num_any c len cap a hm _ H2.out.cur H2.out.arg).mono ?_
    rintro e w3 ⟨v, rfl, _, hE⟩
    have H3 : Hid (CurEnd w w3 c a len cap) := H2.out.trans hE
    have HB3 : Hid (Blk w3 w.heap.size 25 #[.int .i64 0, .int .i64 0, .bool false]) := HB2.out.grown hE.grown (by omega)
    clear hE H2 HB2
    have hB3 := HB3.out
    go_wp2_with (refine store_blk (cs' := #[.int .i64 u, .int .i64 v, .bool false]) rfl rfl rfl rfl rfl hB3 infoP rfl (ones3 _ _ _) ?_; intro V h5 hoth hbel; have hE9 : Hid (CurEnd w V c a len cap) := H3.out.store (Nat.le_refl _) hcl hoth hbel; clear hoth hbel)
    refine bodyPost_ret_by (result_blk rfl rfl h5 Try.underlying25 infoP) rfl ⟨(u, v, false), rfl, hE9.out⟩
  · go_wp2_with fail
    refine (below_any c len cap a hm 3 (by omega) (by omega) _ H1.out.cur H1.out.arg).mono ?_
    rintro e w2 ⟨u, rfl, _, _, hE⟩
    have H2 : Hid (CurEnd w w2 c a len cap) := H1.out.trans hE
    have HB2 : Hid (Blk w2 w.heap.size 25 #[.int .i64 0, .int .i64 0, .bool false]) := HB1.out.grown hE.grown (by omega)
    clear hE H1 HB1
    have hB2 := HB2.out
    go_wp2_with (refine store_blk (cs' := #[.int .i64 u, .int .i64 0, .bool true]) rfl rfl rfl rfl rfl hB2 infoP rfl (ones3 _ _ _) ?_; intro V h5 hoth hbel; have hE9 : Hid (CurEnd w V c a len cap) := H2.out.store (Nat.le_refl _) hcl hoth hbel; clear hoth hbel)
    refine bodyPost_ret_by (result_blk rfl rfl h5 Try.underlying25 infoP) rfl ⟨(u, 0, true), rfl, hE9.out⟩
  · have hB1 := HB1.out
    go_wp2_with (refine store_blk (cs' := #[.int .i64 0, .int .i64 0, .bool false]) rfl rfl rfl rfl rfl hB1 infoP rfl (ones3 _ _ _) ?_; intro V h5 hoth hbel; have hE9 : Hid (CurEnd w V c a len cap) := H1.out.store (Nat.le_refl _) hcl hoth hbel; clear hoth hbel)
    refine bodyPost_ret_by (result_blk rfl rfl h5 Try.underlying25 infoP) rfl ⟨(0, 0, false), rfl, hE9.out⟩
  · have n0 : (x == 0) = false := by rw [beq_eq_false_iff_ne]; omega
    have n1 : (x == 1) = false := by rw [beq_eq_false_iff_ne]; omega
    have n2 : (x == 2) = false := by rw [beq_eq_false_iff_ne]; omega
    have n3 : (x == 3) = false := by rw [beq_eq_false_iff_ne]; omega
    have n4 : (x == 4) = false := by rw [beq_eq_false_iff_ne]; omega
    have n5 : (x == 5) = false := by rw [beq_eq_false_iff_ne]; omega
    go_wp2_with fail
    refine (group_any c len cap a hm _ H1.out.cur H1.out.arg).mono ?_
    rintro e w2 ⟨P, rfl, _, hE⟩
    have H2 : Hid (CurEnd w w2 c a len cap) := H1.out.trans hE
    have HB2 : Hid (Blk w2 w.heap.size 25 #[.int .i64 0, .int .i64 0, .bool false]) := HB1.out.grown hE.grown (by omega)
    clear hE H1 HB1
    have hB2 := HB2.out
    go_wp2_with (refine store_blk (cs' := pc P) rfl rfl rfl rfl rfl hB2 infoP rfl (ones3 _ _ _) ?_; intro V h5 hoth hbel; have hE9 : Hid (CurEnd w V c a len cap) := H2.out.store (Nat.le_refl _) hcl hoth hbel; clear hoth hbel)
    refine bodyPost_ret_by (result_blk rfl rfl h5 Try.underlying25 infoP) rfl ⟨P, rfl, hE9.out⟩

end Go.Proofs.Ytckhbflolccinaa
