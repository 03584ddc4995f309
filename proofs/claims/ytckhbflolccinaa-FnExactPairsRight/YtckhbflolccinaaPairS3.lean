/-
  The walks of the specification's pairs: the pair, many pairs.
  (-DROP-: what the seat lacks is left out.)
-/
import Derived.Test.YtckhbflolccinaaPairS2
namespace Go.Proofs.Ytckhbflolccinaa
open Go.RowKit

set_option maxHeartbeats 1600000 in
set_option maxRecDepth 100000 in
theorem sPairing_any (P Q : Pt) (w : World) :
    Calls Try.prog 17 #[pv P, pv Q] w fun e w' => e = .returned (tv (pairS P Q)) ∧ Below w.heap.size w w' := by
  have HA : Hid (∀ w, Calls Try.prog 48 #[pv P] w fun e w' => e = .returned (.bool (inGB P)) ∧ Below w.heap.size w w') := sInG_any P
  have HB : Hid (∀ w, Calls Try.prog 48 #[pv Q] w fun e w' => e = .returned (.bool (inGB Q)) ∧ Below w.heap.size w w') := sInG_any Q
  have HM : Hid (∀ w, Calls Try.prog 27 #[pv P, pv Q] w fun e w' => e = .returned (tv (millS P Q)) ∧ Below w.heap.size w w') := sMiller_any P Q
  have hin := in2_mills P Q
  unfold pairS
  generalize inGB P = a at HA ⊢
  generalize inGB Q = b at HB ⊢
  generalize millS P Q = x at HM hin ⊢
  have HT : Hid (∀ w, Calls Try.prog 51 #[tv x] w fun e w' => e = .returned (tv (tt x)) ∧ Below w.heap.size w w') := sTurn_in hin
  have HI : Hid (∀ w, Calls Try.prog 52 #[tv x] w fun e w' => e = .returned (tv (ti x)) ∧ Below w.heap.size w w') := sInv2_any x
  have HX : Hid (∀ w, Calls Try.prog 50 #[tv (tt x), tv (ti x)] w fun e w' => e = .returned (tv (tm (tt x) (ti x))) ∧ Below w.heap.size w w') := sMul2_any _ _
  have HP : Hid (∀ w, Calls Try.prog 49 #[tv (tm (tt x) (ti x)), .int .i64 12] w fun e w' => e = .returned (tv (mEnd x)) ∧ Below w.heap.size w w') := by
    have h := sPow2_any (tm (tt x) (ti x)) 12 (by decide)
    rw [show tp (tm (tt x) (ti x)) 12 = mEnd x from tp_pw _ 12] at h
    exact h
  generalize mEnd x = E at HP ⊢
  generalize tm (tt x) (ti x) = M at HX HP
  generalize tt x = X1 at HT HX
  generalize ti x = X2 at HI HX
  clear hin
  obtain ⟨p1, p2, z1⟩ := P
  obtain ⟨q1, q2, z2⟩ := Q
  unfold pv at HA HB HM ⊢
  simp only at HA HB HM ⊢
  cases a
  · show Calls _ _ _ _ fun e w' => e = .returned (tv (1, 0)) ∧ Below w.heap.size w w'
    go_enter Try.func17, Try.ntmps17
    go_wp2_with fail
    obtain ⟨W, hW, hb, hp, hq, hr⟩ := boxes2r w 25 25 31 #[.int .i64 p1, .int .i64 p2, .bool z1] #[.int .i64 q1, .int .i64 q2, .bool z2] #[.int .i64 0, .int .i64 0]
    rw [hW]
    clear hW
    refine (HA.out _).mono ?_
    rintro e w1 ⟨rfl, hw1⟩
    have hp1 := hp.on hw1 hp.lt
    have hq1 := hq.on hw1 hq.lt
    have hr1 := hr.on hw1 hr.lt
    have hb1 := below_then hb hw1
    clear hp hq hr hb hw1
    go_wp2_with (refine store_blk (cs' := #[.int .i64 1, .int .i64 0]) rfl rfl rfl rfl rfl hr1 infoT rfl (ones2 _ _) ?_; intro V h5 hoth hbel; have hbV := hbel _ _ (by omega) hb1; clear hoth hbel)
    refine bodyPost_ret_by (result_blk rfl rfl h5 Try.underlying31 infoT) rfl ⟨rfl, hbV⟩
  · cases b
    · show Calls _ _ _ _ fun e w' => e = .returned (tv (1, 0)) ∧ Below w.heap.size w w'
      go_enter Try.func17, Try.ntmps17
      go_wp2_with fail
      obtain ⟨W, hW, hb, hp, hq, hr⟩ := boxes2r w 25 25 31 #[.int .i64 p1, .int .i64 p2, .bool z1] #[.int .i64 q1, .int .i64 q2, .bool z2] #[.int .i64 0, .int .i64 0]
      rw [hW]
      clear hW
      refine (HA.out _).mono ?_
      rintro e w1 ⟨rfl, hw1⟩
      have hp1 := hp.on hw1 hp.lt
      have hq1 := hq.on hw1 hq.lt
      have hr1 := hr.on hw1 hr.lt
      have hb1 := below_then hb hw1
      clear hp hq hr hb hw1
      have q0 := hq1.cell 0
      have q1 := hq1.cell 1
      have q2 := hq1.cell 2
      go_wp2_with fail
      clear q0 q1 q2
      refine (HB.out _).mono ?_
      rintro e w2 ⟨rfl, hw2⟩
      have hp2 := hp1.on hw2 hp1.lt
      have hq2 := hq1.on hw2 hq1.lt
      have hr2 := hr1.on hw2 hr1.lt
      have hb2 := below_then hb1 hw2
      clear hp1 hq1 hr1 hb1 hw2
      go_wp2_with (refine store_blk (cs' := #[.int .i64 1, .int .i64 0]) rfl rfl rfl rfl rfl hr2 infoT rfl (ones2 _ _) ?_; intro V h5 hoth hbel; have hbV := hbel _ _ (by omega) hb2; clear hoth hbel)
      refine bodyPost_ret_by (result_blk rfl rfl h5 Try.underlying31 infoT) rfl ⟨rfl, hbV⟩
    · cases z1
      · cases z2
        · show Calls _ _ _ _ fun e w' => e = .returned (tv E) ∧ Below w.heap.size w w'
          go_enter Try.func17, Try.ntmps17
          go_wp2_with fail
          obtain ⟨W, hW, hb, hp, hq, hr⟩ := boxes2r w 25 25 31 #[.int .i64 p1, .int .i64 p2, .bool false] #[.int .i64 q1, .int .i64 q2, .bool false] #[.int .i64 0, .int .i64 0]
          rw [hW]
          clear hW
          refine (HA.out _).mono ?_
          rintro e w1 ⟨rfl, hw1⟩
          have hp1 := hp.on hw1 hp.lt
          have hq1 := hq.on hw1 hq.lt
          have hr1 := hr.on hw1 hr.lt
          have hb1 := below_then hb hw1
          clear hp hq hr hb hw1
          have q0 := hq1.cell 0
          have q1 := hq1.cell 1
          have q2 := hq1.cell 2
          go_wp2_with fail
          clear q0 q1 q2
          refine (HB.out _).mono ?_
          rintro e w2 ⟨rfl, hw2⟩
          have hp2 := hp1.on hw2 hp1.lt
          have hq2 := hq1.on hw2 hq1.lt
          have hr2 := hr1.on hw2 hr1.lt
          have hb2 := below_then hb1 hw2
          clear hp1 hq1 hr1 hb1 hw2
          have p2c := hp2.cell 2
          have q2c := hq2.cell 2
          go_wp2_with (first | (refine load_blk rfl rfl rfl hp2 Try.underlying25 infoP ?_) | (refine load_blk rfl rfl rfl hq2 Try.underlying25 infoP ?_))
          clear p2c q2c
          refine (HM.out _).mono ?_
          rintro e w3 ⟨rfl, hw3⟩
          have hp3 := hp2.on hw3 hp2.lt
          have hq3 := hq2.on hw3 hq2.lt
          have hr3 := hr2.on hw3 hr2.lt
          have hb3 := below_then hb2 hw3
          clear hp2 hq2 hr2 hb2 hw3
          obtain ⟨V, hV, hbV, h5⟩ := box1 w3 31 #[.int .i64 x.1, .int .i64 x.2]
          go_wp2
          have hr4 := hr3.on hbV hr3.lt
          have hb4 := below_then hb3 hbV
          clear hV hbV hp3 hq3 hr3 hb3
          refine wp_region_class 6 (fun wz => Below V.heap.size V wz) mixes (by kernel_rfl) (Below.refl _ _).drew ?_
          simp only [List.take_succ_cons, List.take_zero, List.drop_succ_cons, List.drop_zero]
          repeat (refine cls_step rfl (fun K hK => ⟨_, (fun w' hw => by have q0 := (h5.on hw h5.lt).cell 0; have q1 := (h5.on hw h5.lt).cell 1; go_simp; exact rfl), ?_⟩); go_simp; refine hK _ ?_; clear hK K)
          refine cls_call rfl (fun K hK => ⟨_, _, _, (fun w' => by go_simp <;> first | exact rfl | exact ⟨rfl, rfl⟩), (fun w' hw => calls_below hw (HT.out _)), ?_⟩); go_simp; refine hK _ ?_; clear hK K
          repeat (refine cls_step rfl (fun K hK => ⟨_, (fun w' hw => by have q0 := (h5.on hw h5.lt).cell 0; have q1 := (h5.on hw h5.lt).cell 1; go_simp; exact rfl), ?_⟩); go_simp; refine hK _ ?_; clear hK K)
          refine cls_call rfl (fun K hK => ⟨_, _, _, (fun w' => by go_simp <;> first | exact rfl | exact ⟨rfl, rfl⟩), (fun w' hw => calls_below hw (HI.out _)), ?_⟩); go_simp; refine hK _ ?_; clear hK K
          refine cls_call rfl (fun K hK => ⟨_, _, _, (fun w' => by go_simp <;> first | exact rfl | exact ⟨rfl, rfl⟩), (fun w' hw => calls_below hw (HX.out _)), ?_⟩); go_simp; refine hK _ ?_; clear hK K
          refine cls_call rfl (fun K hK => ⟨_, _, _, (fun w' => by go_simp <;> first | exact rfl | exact ⟨rfl, rfl⟩), (fun w' hw => calls_below hw (HP.out _)), ?_⟩); go_simp; refine hK _ ?_; clear hK K
          refine wq_nil ?_
          intro w' hw
          have hr6 := hr4.on hw hr4.lt
          have hb6 := below_then hb4 hw
          clear hr4 hb4 hw h5
          go_wp2_with (refine store_blk (cs' := #[.int .i64 E.1, .int .i64 E.2]) rfl rfl rfl rfl rfl hr6 infoT rfl (ones2 _ _) ?_; intro U h7 hoth hbel; have hbU := hbel _ _ (by omega) hb6; clear hoth hbel)
          refine bodyPost_ret_by (result_blk rfl rfl h7 Try.underlying31 infoT) rfl ⟨rfl, hbU⟩
        · show Calls _ _ _ _ fun e w' => e = .returned (tv (1, 0)) ∧ Below w.heap.size w w'
          go_enter Try.func17, Try.ntmps17
          go_wp2_with fail
          obtain ⟨W, hW, hb, hp, hq, hr⟩ := boxes2r w 25 25 31 #[.int .i64 p1, .int .i64 p2, .bool false] #[.int .i64 q1, .int .i64 q2, .bool true] #[.int .i64 0, .int .i64 0]
          rw [hW]
          clear hW
          refine (HA.out _).mono ?_
          rintro e w1 ⟨rfl, hw1⟩
          have hp1 := hp.on hw1 hp.lt
          have hq1 := hq.on hw1 hq.lt
          have hr1 := hr.on hw1 hr.lt
          have hb1 := below_then hb hw1
          clear hp hq hr hb hw1
          have q0 := hq1.cell 0
          have q1 := hq1.cell 1
          have q2 := hq1.cell 2
          go_wp2_with fail
          clear q0 q1 q2
          refine (HB.out _).mono ?_
          rintro e w2 ⟨rfl, hw2⟩
          have hp2 := hp1.on hw2 hp1.lt
          have hq2 := hq1.on hw2 hq1.lt
          have hr2 := hr1.on hw2 hr1.lt
          have hb2 := below_then hb1 hw2
          clear hp1 hq1 hr1 hb1 hw2
          have p2c := hp2.cell 2
          have q2c := hq2.cell 2
          go_wp2_with (refine store_blk (cs' := #[.int .i64 1, .int .i64 0]) rfl rfl rfl rfl rfl hr2 infoT rfl (ones2 _ _) ?_; intro V h5 hoth hbel; have hbV := hbel _ _ (by omega) hb2; clear hoth hbel)
          refine bodyPost_ret_by (result_blk rfl rfl h5 Try.underlying31 infoT) rfl ⟨rfl, hbV⟩
      · show Calls _ _ _ _ fun e w' => e = .returned (tv (1, 0)) ∧ Below w.heap.size w w'
        go_enter Try.func17, Try.ntmps17
        go_wp2_with fail
        obtain ⟨W, hW, hb, hp, hq, hr⟩ := boxes2r w 25 25 31 #[.int .i64 p1, .int .i64 p2, .bool true] #[.int .i64 q1, .int .i64 q2, .bool z2] #[.int .i64 0, .int .i64 0]
        rw [hW]
        clear hW
        refine (HA.out _).mono ?_
        rintro e w1 ⟨rfl, hw1⟩
        have hp1 := hp.on hw1 hp.lt
        have hq1 := hq.on hw1 hq.lt
        have hr1 := hr.on hw1 hr.lt
        have hb1 := below_then hb hw1
        clear hp hq hr hb hw1
        have q0 := hq1.cell 0
        have q1 := hq1.cell 1
        have q2 := hq1.cell 2
        go_wp2_with fail
        clear q0 q1 q2
        refine (HB.out _).mono ?_
        rintro e w2 ⟨rfl, hw2⟩
        have hp2 := hp1.on hw2 hp1.lt
        have hq2 := hq1.on hw2 hq1.lt
        have hr2 := hr1.on hw2 hr1.lt
        have hb2 := below_then hb1 hw2
        clear hp1 hq1 hr1 hb1 hw2
        have p2c := hp2.cell 2
        have q2c := hq2.cell 2
        go_wp2_with (refine store_blk (cs' := #[.int .i64 1, .int .i64 0]) rfl rfl rfl rfl rfl hr2 infoT rfl (ones2 _ _) ?_; intro V h5 hoth hbel; have hbV := hbel _ _ (by omega) hb2; clear hoth hbel)
        refine bodyPost_ret_by (result_blk rfl rfl h5 Try.underlying31 infoT) rfl ⟨rfl, hbV⟩

/-- Many pairs: whether all are in the group, and their product, of the first n. -/
def allG (f g : Nat → Pt) : Nat → Bool
  | 0 => true
  | n + 1 => allG f g n && (inGB (f n) && inGB (g n))
def prodN (f g : Nat → Pt) : Nat → Int × Int
  | 0 => (1, 0)
  | n + 1 => tm (prodN f g n) (pairS (f n) (g n))
def rightN (f g : Nat → Pt) (n : Nat) : Bool := allG f g n && decide (prodN f g n = (1, 0))

theorem allG_more (f g : Nat → Pt) {k : Nat} (h : allG f g k = false) : ∀ n, k ≤ n → allG f g n = false
  | 0, hk => by rw [show (0 : Nat) = k by omega]; exact h
  | n + 1, hk => by
    by_cases e : k = n + 1
    · rw [← e]; exact h
    · show (allG f g n && _) = false
      rw [allG_more f g h n (by omega), Bool.false_and]

end Go.Proofs.Ytckhbflolccinaa
