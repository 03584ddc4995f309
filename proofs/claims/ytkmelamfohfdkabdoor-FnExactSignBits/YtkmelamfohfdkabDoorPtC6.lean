/-
  The walks of the program's points.
  (-DROP-: what the seat lacks is left out.)
-/
import Derived.Test.YtkmelamfohfdkabDoorJoined45
import Derived.Test.YtkmelamfohfdkabDoorJoined45
namespace Go.Proofs.YtkmelamfohfdkabDoor
open Go.RowKit

set_option maxRecDepth 100000 in
theorem iBase_any (w : World) :
    Calls Tryd.prog 36 #[] w fun e w' => e = .returned (pv pB) ∧ Below w.heap.size w w' := by
  go_enter Tryd.func36, Tryd.ntmps36
  go_wp2
  refine bodyPost_ret_by (result_blk rfl rfl (Blk.newAt (by simp)) Tryd.underlying23 infoP) rfl ⟨rfl, (Below.refl _ _).alloc (Nat.le_refl _) _⟩

set_option maxHeartbeats 1600000 in
set_option maxRecDepth 100000 in
theorem iPAdd_any (P Q : Pt) (w : World) :
    Calls Tryd.prog 23 #[pv P, pv Q] w fun e w' => e = .returned (pv (pSum P Q)) ∧ Below w.heap.size w w' := by
  have HP : Hid (∀ w, Calls Tryd.prog 32 #[pv P] w fun e w' => ∃ v', e = .returned (.tuple #[v', .bool (pOkB P)]) ∧ (pOkB P = true → PAt w' v' P) ∧ Below w.heap.size w w') := placeOf_any P
  have HQ : Hid (∀ w, Calls Tryd.prog 32 #[pv Q] w fun e w' => ∃ v', e = .returned (.tuple #[v', .bool (pOkB Q)]) ∧ (pOkB Q = true → PAt w' v' Q) ∧ Below w.heap.size w w') := placeOf_any Q
  have HS : Hid (pOkB P = true → pOkB Q = true → ∀ w v u, PAt w v P → PAt w u Q → Calls Tryd.prog 37 #[v, u] w fun e w' => ∃ v', e = .returned v' ∧ PAt w' v' (pAdd P Q) ∧ Below w.heap.size w w') := fun h1 h2 w v u h3 h4 => plusC_any v u P Q w h3 h4 (pokB.1 h1) (pokB.1 h2)
  have HG : Hid (∀ w v, PAt w v (pAdd P Q) → Calls Tryd.prog 34 #[v] w fun e w' => e = .returned (pv (pAdd P Q)) ∧ Below w.heap.size w w') := fun w v h => point_any v _ w h
  unfold pSum
  generalize pOkB P = a at HP HS ⊢
  generalize pOkB Q = b at HQ HS ⊢
  generalize pAdd P Q = S at HS HG ⊢
  obtain ⟨x, y, z⟩ := P
  obtain ⟨u, v, t⟩ := Q
  unfold pv at HP HQ HG ⊢
  simp only at HP HQ HG ⊢
  go_enter Tryd.func23, Tryd.ntmps23
  go_wp2_with fail
  obtain ⟨W, hW, hb, hx, hy, hr⟩ := boxes2r w 23 23 23 #[.int .i64 x, .int .i64 y, .bool z] #[.int .i64 u, .int .i64 v, .bool t] #[.int .i64 0, .int .i64 0, .bool false]
  rw [hW]
  clear hW
  refine (HP.out _).mono ?_
  rintro e w1 ⟨v1, rfl, hv1, hb1⟩
  have H1 : Hid (a = true → PAt w1 v1 (x, y, z)) := hv1
  have hy1 := hy.on hb1 hy.lt
  have hr1 := hr.on hb1 hr.lt
  have hB1 := below_then hb hb1
  clear hx hy hr hb hb1 hv1 HP
  go_wp2_with (refine load_blk rfl rfl rfl hy1 Tryd.underlying23 infoP ?_)
  refine (HQ.out _).mono ?_
  rintro e w2 ⟨v2, rfl, hv2, hb2⟩
  have H1' : Hid (a = true → PAt w2 v1 (x, y, z)) := fun h => (H1.out h).on hb2
  have H2 : Hid (b = true → PAt w2 v2 (u, v, t)) := hv2
  have hr2 := hr1.on hb2 hr1.lt
  have hB2 := below_then hB1 hb2
  clear hy1 hr1 hB1 hb2 hv2 HQ H1
  cases a
  · go_wp2_with (refine store_blk (cs' := pc pZ) rfl rfl rfl rfl rfl hr2 infoP rfl (ones3 _ _ _) ?_; intro V h5 hoth hbel; have hbV := hbel _ _ (by omega) hB2; clear hoth hbel)
    refine bodyPost_ret_by (result_blk rfl rfl h5 Tryd.underlying23 infoP) rfl ⟨rfl, hbV⟩
  · cases b
    · go_wp2_with (refine store_blk (cs' := pc pZ) rfl rfl rfl rfl rfl hr2 infoP rfl (ones3 _ _ _) ?_; intro V h5 hoth hbel; have hbV := hbel _ _ (by omega) hB2; clear hoth hbel)
      refine bodyPost_ret_by (result_blk rfl rfl h5 Tryd.underlying23 infoP) rfl ⟨rfl, hbV⟩
    · go_wp2_with fail
      refine (HS.out (by trivial) (by trivial) _ _ _ (H1'.out (by trivial)) (H2.out (by trivial))).mono ?_
      rintro e w3 ⟨v3, rfl, hv3, hb3⟩
      have hr3 := hr2.on hb3 hr2.lt
      have hB3 := below_then hB2 hb3
      clear hr2 hB2 hb3 H1' H2 HS
      go_wp2_with fail
      refine (HG.out _ _ hv3).mono ?_
      rintro e w4 ⟨rfl, hb4⟩
      have hr4 := hr3.on hb4 hr3.lt
      have hB4 := below_then hB3 hb4
      clear hr3 hB3 hb4 hv3 HG
      go_wp2_with (refine store_blk (cs' := pc S) rfl rfl rfl rfl rfl hr4 infoP rfl (ones3 _ _ _) ?_; intro V h5 hoth hbel; have hbV := hbel _ _ (by omega) hB4; clear hoth hbel)
      refine bodyPost_ret_by (result_blk rfl rfl h5 Tryd.underlying23 infoP) rfl ⟨rfl, hbV⟩

set_option maxHeartbeats 1600000 in
set_option maxRecDepth 100000 in
theorem iTimes_any (k : Int) (P : Pt) (w : World) :
    Calls Tryd.prog 20 #[.int .i64 k, pv P] w fun e w' => e = .returned (pv (pTimes k P)) ∧ Below w.heap.size w w' := by
  have HP : Hid (∀ w, Calls Tryd.prog 32 #[pv P] w fun e w' => ∃ v', e = .returned (.tuple #[v', .bool (pOkB P)]) ∧ (pOkB P = true → PAt w' v' P) ∧ Below w.heap.size w w') := placeOf_any P
  have HS : Hid (pOkB P = true → ∀ w v, PAt w v P → Calls Tryd.prog 33 #[v, .int .i64 k] w fun e w' => ∃ v', e = .returned v' ∧ PAt w' v' (pTim k P) ∧ Below w.heap.size w w') := fun h1 w v h3 => timesC_any v P k w h3 (pokB.1 h1)
  have HG : Hid (∀ w v, PAt w v (pTim k P) → Calls Tryd.prog 34 #[v] w fun e w' => e = .returned (pv (pTim k P)) ∧ Below w.heap.size w w') := fun w v h => point_any v _ w h
  rw [show pTimes k P = if pOkB P = true then pTim k P else pZ from rfl]
  generalize pOkB P = a at HP HS ⊢
  generalize pTim k P = S at HS HG ⊢
  obtain ⟨x, y, z⟩ := P
  unfold pv at HP HG ⊢
  simp only at HP HG ⊢
  go_enter Tryd.func20, Tryd.ntmps20
  go_wp2_with fail
  obtain ⟨W, hW, hb, hx, hr⟩ := boxes1r w 23 23 #[.int .i64 x, .int .i64 y, .bool z] #[.int .i64 0, .int .i64 0, .bool false]
  rw [hW]
  clear hW
  refine (HP.out _).mono ?_
  rintro e w1 ⟨v1, rfl, hv1, hb1⟩
  have H1 : Hid (a = true → PAt w1 v1 (x, y, z)) := hv1
  have hr1 := hr.on hb1 hr.lt
  have hB1 := below_then hb hb1
  clear hx hr hb hb1 hv1 HP
  cases a
  · go_wp2_with (refine store_blk (cs' := pc pZ) rfl rfl rfl rfl rfl hr1 infoP rfl (ones3 _ _ _) ?_; intro V h5 hoth hbel; have hbV := hbel _ _ (by omega) hB1; clear hoth hbel)
    refine bodyPost_ret_by (result_blk rfl rfl h5 Tryd.underlying23 infoP) rfl ⟨rfl, hbV⟩
  · go_wp2_with fail
    refine (HS.out (by trivial) _ _ (H1.out (by trivial))).mono ?_
    rintro e w3 ⟨v3, rfl, hv3, hb3⟩
    have hr3 := hr1.on hb3 hr1.lt
    have hB3 := below_then hB1 hb3
    clear hr1 hB1 hb3 H1 HS
    go_wp2_with fail
    refine (HG.out _ _ hv3).mono ?_
    rintro e w4 ⟨rfl, hb4⟩
    have hr4 := hr3.on hb4 hr3.lt
    have hB4 := below_then hB3 hb4
    clear hr3 hB3 hb4 hv3 HG
    go_wp2_with (refine store_blk (cs' := pc S) rfl rfl rfl rfl rfl hr4 infoP rfl (ones3 _ _ _) ?_; intro V h5 hoth hbel; have hbV := hbel _ _ (by omega) hB4; clear hoth hbel)
    refine bodyPost_ret_by (result_blk rfl rfl h5 Tryd.underlying23 infoP) rfl ⟨rfl, hbV⟩

end Go.Proofs.YtkmelamfohfdkabDoor
