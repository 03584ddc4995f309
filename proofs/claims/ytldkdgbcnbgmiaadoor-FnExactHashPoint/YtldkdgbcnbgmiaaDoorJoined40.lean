/-
  Texts of one's own, joined.
-/
import Derived.Test.YtldkdgbcnbgmiaaDoorPairS2
import Derived.Test.YtldkdgbcnbgmiaaDoorJoined35
import Derived.Test.YtldkdgbcnbgmiaaDoorJoined36

/-
  The walks of the specification's pairs: the pair, many pairs.
  (-DROP-: what the seat lacks is left out.)
-/
namespace Go.Proofs.YtldkdgbcnbgmiaaDoor
open Go.RowKit

set_option maxHeartbeats 1600000 in
set_option maxRecDepth 100000 in
theorem sPairing_any (P Q : Pt) (w : World) :
    Calls Tryd.prog 27 #[pv P, pv Q] w fun e w' => e = .returned (tv (pairS P Q)) ∧ Below w.heap.size w w' := by
  have HA : Hid (∀ w, Calls Tryd.prog 26 #[pv P] w fun e w' => e = .returned (.bool (inGB P)) ∧ Below w.heap.size w w') := sInG_any P
  have HB : Hid (∀ w, Calls Tryd.prog 26 #[pv Q] w fun e w' => e = .returned (.bool (inGB Q)) ∧ Below w.heap.size w w') := sInG_any Q
  have HM : Hid (∀ w, Calls Tryd.prog 47 #[pv P, pv Q] w fun e w' => e = .returned (tv (millS P Q)) ∧ Below w.heap.size w w') := sMiller_any P Q
  have hin := in2_mills P Q
  unfold pairS
  generalize inGB P = a at HA ⊢
  generalize inGB Q = b at HB ⊢
  generalize millS P Q = x at HM hin ⊢
  have HT : Hid (∀ w, Calls Tryd.prog 50 #[tv x] w fun e w' => e = .returned (tv (tt x)) ∧ Below w.heap.size w w') := sTurn_in hin
  have HI : Hid (∀ w, Calls Tryd.prog 51 #[tv x] w fun e w' => e = .returned (tv (ti x)) ∧ Below w.heap.size w w') := sInv2_any x
  have HX : Hid (∀ w, Calls Tryd.prog 49 #[tv (tt x), tv (ti x)] w fun e w' => e = .returned (tv (tm (tt x) (ti x))) ∧ Below w.heap.size w w') := sMul2_any _ _
  have HP : Hid (∀ w, Calls Tryd.prog 48 #[tv (tm (tt x) (ti x)), .int .i64 12] w fun e w' => e = .returned (tv (mEnd x)) ∧ Below w.heap.size w w') := by
    have h := sPow2_any (tm (tt x) (ti x)) 12 (by decide)
    rw [show tp (tm (tt x) (ti x)) 12 = mEnd x from tp_pw _ 12] at h
    exact h
  generalize mEnd x = E at HP ⊢
  generalize tm (tt x) (ti x) = M at HX HP
  generalize tt x = X1 at HT HX
  generalize ti x = X2 at HI HX
  clear hin
  obtain ⟨p1, p2, z1⟩ := P
  obtain ⟨q1, q2, z2⟩ := Q
  unfold pv at HA HB HM ⊢
  simp only at HA HB HM ⊢
  cases a
  · show Calls _ _ _ _ fun e w' => e = .returned (tv (1, 0)) ∧ Below w.heap.size w w'
    go_enter Tryd.func27, Tryd.ntmps27
    go_wp2_with fail
    obtain ⟨W, hW, hb, hp, hq, hr⟩ := boxes2r w 23 23 45 #[.int .i64 p1, .int .i64 p2, .bool z1] #[.int .i64 q1, .int .i64 q2, .bool z2] #[.int .i64 0, .int .i64 0]
    rw [hW]
    clear hW
    refine (HA.out _).mono ?_
    rintro e w1 ⟨rfl, hw1⟩
    have hp1 := hp.on hw1 hp.lt
    have hq1 := hq.on hw1 hq.lt
    have hr1 := hr.on hw1 hr.lt
    have hb1 := below_then hb hw1
    clear hp hq hr hb hw1
    go_wp2_with (refine store_blk (cs' := #[.int .i64 1, .int .i64 0]) rfl rfl rfl rfl rfl hr1 infoT rfl (ones2 _ _) ?_; intro V h5 hoth hbel; have hbV := hbel _ _ (by omega) hb1; clear hoth hbel)
    refine bodyPost_ret_by (result_blk rfl rfl h5 Tryd.underlying45 infoT) rfl ⟨rfl, hbV⟩
  · cases b
    · show Calls _ _ _ _ fun e w' => e = .returned (tv (1, 0)) ∧ Below w.heap.size w w'
      go_enter Tryd.func27, Tryd.ntmps27
      go_wp2_with fail
      obtain ⟨W, hW, hb, hp, hq, hr⟩ := boxes2r w 23 23 45 #[.int .i64 p1, .int .i64 p2, .bool z1] #[.int .i64 q1, .int .i64 q2, .bool z2] #[.int .i64 0, .int .i64 0]
      rw [hW]
      clear hW
      refine (HA.out _).mono ?_
      rintro e w1 ⟨rfl, hw1⟩
      have hp1 := hp.on hw1 hp.lt
      have hq1 := hq.on hw1 hq.lt
      have hr1 := hr.on hw1 hr.lt
      have hb1 := below_then hb hw1
      clear hp hq hr hb hw1
      have q0 := hq1.cell 0
      have q1 := hq1.cell 1
      have q2 := hq1.cell 2
      go_wp2_with fail
      clear q0 q1 q2
      refine (HB.out _).mono ?_
      rintro e w2 ⟨rfl, hw2⟩
      have hp2 := hp1.on hw2 hp1.lt
      have hq2 := hq1.on hw2 hq1.lt
      have hr2 := hr1.on hw2 hr1.lt
      have hb2 := below_then hb1 hw2
      clear hp1 hq1 hr1 hb1 hw2
      go_wp2_with (refine store_blk (cs' := #[.int .i64 1, .int .i64 0]) rfl rfl rfl rfl rfl hr2 infoT rfl (ones2 _ _) ?_; intro V h5 hoth hbel; have hbV := hbel _ _ (by omega) hb2; clear hoth hbel)
      refine bodyPost_ret_by (result_blk rfl rfl h5 Tryd.underlying45 infoT) rfl ⟨rfl, hbV⟩
    · cases z1
      · cases z2
        · show Calls _ _ _ _ fun e w' => e = .returned (tv E) ∧ Below w.heap.size w w'
          go_enter Tryd.func27, Tryd.ntmps27
          go_wp2_with fail
          obtain ⟨W, hW, hb, hp, hq, hr⟩ := boxes2r w 23 23 45 #[.int .i64 p1, .int .i64 p2, .bool false] #[.int .i64 q1, .int .i64 q2, .bool false] #[.int .i64 0, .int .i64 0]
          rw [hW]
          clear hW
          refine (HA.out _).mono ?_
          rintro e w1 ⟨rfl, hw1⟩
          have hp1 := hp.on hw1 hp.lt
          have hq1 := hq.on hw1 hq.lt
          have hr1 := hr.on hw1 hr.lt
          have hb1 := below_then hb hw1
          clear hp hq hr hb hw1
          have q0 := hq1.cell 0
          have q1 := hq1.cell 1
          have q2 := hq1.cell 2
          go_wp2_with fail
          clear q0 q1 q2
          refine (HB.out _).mono ?_
          rintro e w2 ⟨rfl, hw2⟩
          have hp2 := hp1.on hw2 hp1.lt
          have hq2 := hq1.on hw2 hq1.lt
          have hr2 := hr1.on hw2 hr1.lt
          have hb2 := below_then hb1 hw2
          clear hp1 hq1 hr1 hb1 hw2
          have p2c := hp2.cell 2
          have q2c := hq2.cell 2
          go_wp2_with (first | (refine load_blk rfl rfl rfl hp2 Tryd.underlying23 infoP ?_) | (refine load_blk rfl rfl rfl hq2 Tryd.underlying23 infoP ?_))
          clear p2c q2c
          refine (HM.out _).mono ?_
          rintro e w3 ⟨rfl, hw3⟩
          have hp3 := hp2.on hw3 hp2.lt
          have hq3 := hq2.on hw3 hq2.lt
          have hr3 := hr2.on hw3 hr2.lt
          have hb3 := below_then hb2 hw3
          clear hp2 hq2 hr2 hb2 hw3
          obtain ⟨V, hV, hbV, h5⟩ := box1 w3 45 #[.int .i64 x.1, .int .i64 x.2]
          go_wp2
          have hr4 := hr3.on hbV hr3.lt
          have hb4 := below_then hb3 hbV
          clear hV hbV hp3 hq3 hr3 hb3
          refine wp_region_class 6 (fun wz => Below V.heap.size V wz) mixes (by kernel_rfl) (Below.refl _ _).drew ?_
          simp only [List.take_succ_cons, List.take_zero, List.drop_succ_cons, List.drop_zero]
          repeat (refine cls_step rfl (fun K hK => ⟨_, (fun w' hw => by have q0 := (h5.on hw h5.lt).cell 0; have q1 := (h5.on hw h5.lt).cell 1; go_simp; exact rfl), ?_⟩); go_simp; refine hK _ ?_; clear hK K)
          refine cls_call rfl (fun K hK => ⟨_, _, _, (fun w' => by go_simp <;> first | exact rfl | exact ⟨rfl, rfl⟩), (fun w' hw => calls_below hw (HT.out _)), ?_⟩); go_simp; refine hK _ ?_; clear hK K
          repeat (refine cls_step rfl (fun K hK => ⟨_, (fun w' hw => by have q0 := (h5.on hw h5.lt).cell 0; have q1 := (h5.on hw h5.lt).cell 1; go_simp; exact rfl), ?_⟩); go_simp; refine hK _ ?_; clear hK K)
          refine cls_call rfl (fun K hK => ⟨_, _, _, (fun w' => by go_simp <;> first | exact rfl | exact ⟨rfl, rfl⟩), (fun w' hw => calls_below hw (HI.out _)), ?_⟩); go_simp; refine hK _ ?_; clear hK K
          refine cls_call rfl (fun K hK => ⟨_, _, _, (fun w' => by go_simp <;> first | exact rfl | exact ⟨rfl, rfl⟩), (fun w' hw => calls_below hw (HX.out _)), ?_⟩); go_simp; refine hK _ ?_; clear hK K
          refine cls_call rfl (fun K hK => ⟨_, _, _, (fun w' => by go_simp <;> first | exact rfl | exact ⟨rfl, rfl⟩), (fun w' hw => calls_below hw (HP.out _)), ?_⟩); go_simp; refine hK _ ?_; clear hK K
          refine wq_nil ?_
          intro w' hw
          have hr6 := hr4.on hw hr4.lt
          have hb6 := below_then hb4 hw
          clear hr4 hb4 hw h5
          go_wp2_with (refine store_blk (cs' := #[.int .i64 E.1, .int .i64 E.2]) rfl rfl rfl rfl rfl hr6 infoT rfl (ones2 _ _) ?_; intro U h7 hoth hbel; have hbU := hbel _ _ (by omega) hb6; clear hoth hbel)
          refine bodyPost_ret_by (result_blk rfl rfl h7 Tryd.underlying45 infoT) rfl ⟨rfl, hbU⟩
        · show Calls _ _ _ _ fun e w' => e = .returned (tv (1, 0)) ∧ Below w.heap.size w w'
          go_enter Tryd.func27, Tryd.ntmps27
          go_wp2_with fail
          obtain ⟨W, hW, hb, hp, hq, hr⟩ := boxes2r w 23 23 45 #[.int .i64 p1, .int .i64 p2, .bool false] #[.int .i64 q1, .int .i64 q2, .bool true] #[.int .i64 0, .int .i64 0]
          rw [hW]
          clear hW
          refine (HA.out _).mono ?_
          rintro e w1 ⟨rfl, hw1⟩
          have hp1 := hp.on hw1 hp.lt
          have hq1 := hq.on hw1 hq.lt
          have hr1 := hr.on hw1 hr.lt
          have hb1 := below_then hb hw1
          clear hp hq hr hb hw1
          have q0 := hq1.cell 0
          have q1 := hq1.cell 1
          have q2 := hq1.cell 2
          go_wp2_with fail
          clear q0 q1 q2
          refine (HB.out _).mono ?_
          rintro e w2 ⟨rfl, hw2⟩
          have hp2 := hp1.on hw2 hp1.lt
          have hq2 := hq1.on hw2 hq1.lt
          have hr2 := hr1.on hw2 hr1.lt
          have hb2 := below_then hb1 hw2
          clear hp1 hq1 hr1 hb1 hw2
          have p2c := hp2.cell 2
          have q2c := hq2.cell 2
          go_wp2_with (refine store_blk (cs' := #[.int .i64 1, .int .i64 0]) rfl rfl rfl rfl rfl hr2 infoT rfl (ones2 _ _) ?_; intro V h5 hoth hbel; have hbV := hbel _ _ (by omega) hb2; clear hoth hbel)
          refine bodyPost_ret_by (result_blk rfl rfl h5 Tryd.underlying45 infoT) rfl ⟨rfl, hbV⟩
      · show Calls _ _ _ _ fun e w' => e = .returned (tv (1, 0)) ∧ Below w.heap.size w w'
        go_enter Tryd.func27, Tryd.ntmps27
        go_wp2_with fail
        obtain ⟨W, hW, hb, hp, hq, hr⟩ := boxes2r w 23 23 45 #[.int .i64 p1, .int .i64 p2, .bool true] #[.int .i64 q1, .int .i64 q2, .bool z2] #[.int .i64 0, .int .i64 0]
        rw [hW]
        clear hW
        refine (HA.out _).mono ?_
        rintro e w1 ⟨rfl, hw1⟩
        have hp1 := hp.on hw1 hp.lt
        have hq1 := hq.on hw1 hq.lt
        have hr1 := hr.on hw1 hr.lt
        have hb1 := below_then hb hw1
        clear hp hq hr hb hw1
        have q0 := hq1.cell 0
        have q1 := hq1.cell 1
        have q2 := hq1.cell 2
        go_wp2_with fail
        clear q0 q1 q2
        refine (HB.out _).mono ?_
        rintro e w2 ⟨rfl, hw2⟩
        have hp2 := hp1.on hw2 hp1.lt
        have hq2 := hq1.on hw2 hq1.lt
        have hr2 := hr1.on hw2 hr1.lt
        have hb2 := below_then hb1 hw2
        clear hp1 hq1 hr1 hb1 hw2
        have p2c := hp2.cell 2
        have q2c := hq2.cell 2
        go_wp2_with (refine store_blk (cs' := #[.int .i64 1, .int .i64 0]) rfl rfl rfl rfl rfl hr2 infoT rfl (ones2 _ _) ?_; intro V h5 hoth hbel; have hbV := hbel _ _ (by omega) hb2; clear hoth hbel)
        refine bodyPost_ret_by (result_blk rfl rfl h5 Tryd.underlying45 infoT) rfl ⟨rfl, hbV⟩

/-- Many pairs: whether all are in the group, and their product, of the first n. -/
def allG (f g : Nat → Pt) : Nat → Bool
  | 0 => true
  | n + 1 => allG f g n && (inGB (f n) && inGB (g n))
def prodN (f g : Nat → Pt) : Nat → Int × Int
  | 0 => (1, 0)
  | n + 1 => tm (prodN f g n) (pairS (f n) (g n))
def rightN (f g : Nat → Pt) (n : Nat) : Bool := allG f g n && decide (prodN f g n = (1, 0))

theorem allG_more (f g : Nat → Pt) {k : Nat} (h : allG f g k = false) : ∀ n, k ≤ n → allG f g n = false
  | 0, hk => by rw [show (0 : Nat) = k by omega]; exact h
  | n + 1, hk => by
    by_cases e : k = n + 1
    · rw [← e]; exact h
    · show (allG f g n && _) = false
      rw [allG_more f g h n (by omega), Bool.false_and]

end Go.Proofs.YtldkdgbcnbgmiaaDoor

/-
  The walks of the specification's signatures.
  (-DROP-: what the seat lacks is left out.)
-/
namespace Go.Proofs.YtldkdgbcnbgmiaaDoor
open Go.RowKit

set_option maxHeartbeats 800000 in
set_option maxRecDepth 100000 in
theorem sSign_any (k : Int) (t : ByteArray) (ht : t.size ≤ 1048576) (w : World) :
    Calls Tryd.prog 9 #[.int .i64 k, .string t] w fun e w' => e = .returned (pv (signP k (hashPt t))) ∧ Below w.heap.size w w' := by
  obtain ⟨H, hH⟩ : ∃ H, H = hashPt t := ⟨_, rfl⟩
  have HB : Hid (∀ w, Calls Tryd.prog 6 #[.string t] w fun e w' => e = .returned (pv H) ∧ Below w.heap.size w w') := by rw [hH]; exact sHash_any t ht
  rw [← hH]
  clear hH
  have HO : Hid (∀ w, Calls Tryd.prog 23 #[.int .i64 k] w fun e w' => e = .returned (.int .i64 (sca k)) ∧ w = w') := sScOf_any k
  have HT : Hid (∀ w, Calls Tryd.prog 18 #[.int .i64 (sca k), pv H] w fun e w' => e = .returned (pv (signP k H)) ∧ Below w.heap.size w w') := sTimes_any (sca k) H
  generalize signP k H = K at HT ⊢
  generalize sca k = s at HO HT
  go_enter Tryd.func9, Tryd.ntmps9
  go_wp2_with fail
  obtain ⟨W, hW, hb, hr⟩ := box1 w 23 #[.int .i64 0, .int .i64 0, .bool false]
  rw [hW]
  clear hW
  refine (HO.out _).mono ?_
  rintro e w1 ⟨rfl, rfl⟩
  go_wp2_with fail
  refine (HB.out _).mono ?_
  rintro e w2 ⟨rfl, hb2⟩
  go_wp2_with fail
  refine (HT.out _).mono ?_
  rintro e w3 ⟨rfl, hb3⟩
  have hr3 := (hr.on hb2 hr.lt).on hb3 (by have := hb2.size; have := hr.lt; omega)
  have hB3 := below_then (below_then hb hb2) hb3
  clear hb hb2 hb3 hr
  go_wp2_with (refine store_blk (cs' := pc K) rfl rfl rfl rfl rfl hr3 infoP rfl (ones3 _ _ _) ?_; intro V h5 hoth hbel; have hbV := hbel _ _ (by omega) hB3; clear hoth hbel)
  refine bodyPost_ret_by (result_blk rfl rfl h5 Tryd.underlying23 infoP) rfl ⟨rfl, hbV⟩

/-- Two by two that are not the same. -/
theorem two_ne {X Y : Int × Int} (h : X ≠ Y) : (X.1 == Y.1) = false ∨ (X.1 = Y.1 ∧ (X.2 == Y.2) = false) := by
  by_cases h1 : X.1 = Y.1
  · refine .inr ⟨h1, ?_⟩
    rw [beq_eq_false_iff_ne]
    intro h2
    exact h (Prod.ext h1 h2)
  · exact .inl (by rw [beq_eq_false_iff_ne]; exact h1)

set_option maxHeartbeats 1600000 in
set_option maxRecDepth 100000 in
theorem sSigOk_any (K S : Pt) (t : ByteArray) (ht : t.size ≤ 1048576) (w : World) :
    Calls Tryd.prog 11 #[pv K, .string t, pv S] w fun e w' => e = .returned (.bool (sigB K S (hashPt t))) ∧ Below w.heap.size w w' := by
  obtain ⟨H, hH⟩ : ∃ H, H = hashPt t := ⟨_, rfl⟩
  have HH : Hid (∀ w, Calls Tryd.prog 6 #[.string t] w fun e w' => e = .returned (pv H) ∧ Below w.heap.size w w') := by rw [hH]; exact sHash_any t ht
  rw [← hH]
  clear hH
  have HK : Hid (∀ w, Calls Tryd.prog 26 #[pv K] w fun e w' => e = .returned (.bool (inGB K)) ∧ Below w.heap.size w w') := sInG_any K
  have HS : Hid (∀ w, Calls Tryd.prog 26 #[pv S] w fun e w' => e = .returned (.bool (inGB S)) ∧ Below w.heap.size w w') := sInG_any S
  have HP1 : Hid (∀ w, Calls Tryd.prog 27 #[pv S, pv pB] w fun e w' => e = .returned (tv (pairS S pB)) ∧ Below w.heap.size w w') := sPairing_any S pB
  have HP2 : Hid (∀ w, Calls Tryd.prog 27 #[pv H, pv K] w fun e w' => e = .returned (tv (pairS H K)) ∧ Below w.heap.size w w') := sPairing_any H K
  have HB : Hid (∀ w, Calls Tryd.prog 19 #[] w fun e w' => e = .returned (pv pB) ∧ Below w.heap.size w w') := sBase_any
  unfold sigB
  generalize inGB K = a at HK ⊢
  generalize inGB S = b at HS ⊢
  generalize pairS S pB = X at HP1 ⊢
  generalize pairS H K = Y at HP2 ⊢
  generalize pB = B at HP1 HB
  obtain ⟨x, y, z⟩ := K
  obtain ⟨u, v, q⟩ := S
  unfold pv at HK HS HH HP1 HP2 HB ⊢
  simp only at HK HS HP1 HP2 ⊢
  cases a
  · rw [if_neg (by simp)]
    go_enter Tryd.func11, Tryd.ntmps11
    go_wp2_with fail
    obtain ⟨W, hW, hb, hx, hy⟩ := boxes1r w 23 23 #[.int .i64 x, .int .i64 y, .bool z] #[.int .i64 u, .int .i64 v, .bool q]
    rw [hW]
    clear hW
    refine (HK.out _).mono ?_
    rintro e w1 ⟨rfl, hb1⟩
    have hB1 := below_then hb hb1
    clear hb hb1 hx hy
    go_wp2
    go_ret
    exact ⟨rfl, hB1⟩
  · cases b
    · rw [if_neg (by simp)]
      go_enter Tryd.func11, Tryd.ntmps11
      go_wp2_with fail
      obtain ⟨W, hW, hb, hx, hy⟩ := boxes1r w 23 23 #[.int .i64 x, .int .i64 y, .bool z] #[.int .i64 u, .int .i64 v, .bool q]
      rw [hW]
      clear hW
      refine (HK.out _).mono ?_
      rintro e w1 ⟨rfl, hb1⟩
      have hB1 := below_then hb hb1
      have hy1 := hy.on hb1 hy.lt
      clear hb hb1 hx hy
      have c0 := hy1.cell 0
      have c1 := hy1.cell 1
      have c2 := hy1.cell 2
      go_wp2_with fail
      refine (HS.out _).mono ?_
      rintro e w2 ⟨rfl, hb2⟩
      have hB2 := below_then hB1 hb2
      clear hB1 hb2 hy1 c0 c1 c2
      go_wp2
      go_ret
      exact ⟨rfl, hB2⟩
    · have HZ : Hid ((z = true ∨ q = true) → (if (true = true ∧ true = true ∧ z = false ∧ q = false) then decide (X = Y) else false) = false) := fun h => by
        rcases h with h | h <;> simp [h]
      have HZ2 : Hid (z = false → q = false → (if (true = true ∧ true = true ∧ z = false ∧ q = false) then decide (X = Y) else false) = decide (X = Y)) := fun h1 h2 => by
        rw [if_pos ⟨rfl, rfl, h1, h2⟩]
      generalize (if (true = true ∧ true = true ∧ z = false ∧ q = false) then decide (X = Y) else false) = RS at HZ HZ2 ⊢
      go_enter Tryd.func11, Tryd.ntmps11
      go_wp2_with fail
      obtain ⟨W, hW, hb, hx, hy⟩ := boxes1r w 23 23 #[.int .i64 x, .int .i64 y, .bool z] #[.int .i64 u, .int .i64 v, .bool q]
      rw [hW]
      clear hW
      refine (HK.out _).mono ?_
      rintro e w1 ⟨rfl, hb1⟩
      have hB1 := below_then hb hb1
      have hx1 := hx.on hb1 hx.lt
      have hy1 := hy.on hb1 hy.lt
      clear hb hb1 hx hy
      have c0 := hy1.cell 0
      have c1 := hy1.cell 1
      have c2 := hy1.cell 2
      go_wp2_with fail
      refine (HS.out _).mono ?_
      rintro e w2 ⟨rfl, hb2⟩
      have hB2 := below_then hB1 hb2
      have hx2 := hx1.on hb2 hx1.lt
      have hy2 := hy1.on hb2 hy1.lt
      have q0 := hx2.cell 2
      have q1 := hy2.cell 2
      clear hB1 hb2 hx1 hy1 c0 c1 c2
      cases z
      · cases q
        · have HR : Hid (RS = decide (X = Y)) := HZ2.out rfl rfl
          clear HZ HZ2
          go_wp2_with fail
          clear q0 q1
          refine wp_region_class 7 (fun wz => Below w2.heap.size w2 wz) mixes (by kernel_rfl) (Below.refl _ _).drew ?_
          simp only [List.take_succ_cons, List.take_zero, List.drop_succ_cons, List.drop_zero]
          repeat (refine cls_step rfl (fun K hK => ⟨_, (fun w' hw => by have q0 := (hx2.on hw hx2.lt).cell 0; have q1 := (hx2.on hw hx2.lt).cell 1; have q2 := (hx2.on hw hx2.lt).cell 2; have q3 := (hy2.on hw hy2.lt).cell 0; have q4 := (hy2.on hw hy2.lt).cell 1; have q5 := (hy2.on hw hy2.lt).cell 2; go_simp; exact rfl), ?_⟩); go_simp; refine hK _ ?_; clear hK K)
          refine cls_call rfl (fun K hK => ⟨_, _, _, (fun w' => by go_simp <;> first | exact rfl | exact ⟨rfl, rfl⟩), (fun w' hw => calls_below hw (HB.out _)), ?_⟩); go_simp; refine hK _ ?_; clear hK K
          refine cls_call rfl (fun K hK => ⟨_, _, _, (fun w' => by go_simp <;> first | exact rfl | exact ⟨rfl, rfl⟩), (fun w' hw => calls_below hw (HP1.out _)), ?_⟩); go_simp; refine hK _ ?_; clear hK K
          repeat (refine cls_step rfl (fun K hK => ⟨_, (fun w' hw => by have q0 := (hx2.on hw hx2.lt).cell 0; have q1 := (hx2.on hw hx2.lt).cell 1; have q2 := (hx2.on hw hx2.lt).cell 2; have q3 := (hy2.on hw hy2.lt).cell 0; have q4 := (hy2.on hw hy2.lt).cell 1; have q5 := (hy2.on hw hy2.lt).cell 2; go_simp; exact rfl), ?_⟩); go_simp; refine hK _ ?_; clear hK K)
          refine cls_call rfl (fun K hK => ⟨_, _, _, (fun w' => by go_simp <;> first | exact rfl | exact ⟨rfl, rfl⟩), (fun w' hw => calls_below hw (HH.out _)), ?_⟩); go_simp; refine hK _ ?_; clear hK K
          repeat (refine cls_step rfl (fun K hK => ⟨_, (fun w' hw => by have q0 := (hx2.on hw hx2.lt).cell 0; have q1 := (hx2.on hw hx2.lt).cell 1; have q2 := (hx2.on hw hx2.lt).cell 2; have q3 := (hy2.on hw hy2.lt).cell 0; have q4 := (hy2.on hw hy2.lt).cell 1; have q5 := (hy2.on hw hy2.lt).cell 2; go_simp; exact rfl), ?_⟩); go_simp; refine hK _ ?_; clear hK K)
          refine cls_call rfl (fun K hK => ⟨_, _, _, (fun w' => by go_simp <;> first | exact rfl | exact ⟨rfl, rfl⟩), (fun w' hw => calls_below hw (HP2.out _)), ?_⟩); go_simp; refine hK _ ?_; clear hK K
          refine wq_nil ?_
          intro w' hw
          have hB3 := below_then hB2 hw
          clear hB2 hw hx2 hy2
          by_cases hXY : X = Y
          · have HR2 : Hid (RS = true) := HR.out.trans (decide_eq_true hXY)
            subst hXY
            clear HR
            go_wp2
            go_ret
            exact ⟨by rw [HR2.out]; rfl, hB3⟩
          · have HR2 : Hid (RS = false) := HR.out.trans (decide_eq_false hXY)
            clear HR
            rcases two_ne hXY with h1 | ⟨h1, h2⟩
            · have h1' : ¬ X.1 = Y.1 := by rw [beq_eq_false_iff_ne] at h1; exact h1
              go_wp2
              go_ret
              exact ⟨by rw [HR2.out]; rfl, hB3⟩
            · have h2' : ¬ X.2 = Y.2 := by rw [beq_eq_false_iff_ne] at h2; exact h2
              go_wp2
              go_ret
              exact ⟨by rw [HR2.out]; rfl, hB3⟩
        · have HR : Hid (RS = false) := HZ.out (.inr rfl)
          clear HZ HZ2
          go_wp2
          go_ret
          exact ⟨by rw [HR.out]; rfl, hB2⟩
      · have HR : Hid (RS = false) := HZ.out (.inl rfl)
        clear HZ HZ2
        go_wp2
        go_ret
        exact ⟨by rw [HR.out]; rfl, hB2⟩

/-- Whether what many signed is right. -/
def allB (f : Nat → Pt) (n : Nat) (S H : Pt) : Bool := decide (0 < n) && sigB (sumN f n) S H

end Go.Proofs.YtldkdgbcnbgmiaaDoor
