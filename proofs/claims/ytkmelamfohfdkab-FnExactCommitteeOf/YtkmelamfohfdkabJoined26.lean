/-
  Texts of one's own, joined.
-/
import Derived.Test.YtkmelamfohfdkabPtC3
import Derived.Test.YtkmelamfohfdkabPtC4

/-
  The walk of the text of a place on the curve.
  (-DROP-: what the seat lacks is left out.)
-/
namespace Go.Proofs.Ytkmelamfohfdkab
open Go.RowKit

end Go.Proofs.Ytkmelamfohfdkab

/-
  The walks of the program's points.
  (-DROP-: what the seat lacks is left out.)
-/
namespace Go.Proofs.Ytkmelamfohfdkab
open Go.RowKit

set_option maxRecDepth 100000 in
theorem iBase_any (w : World) :
    Calls Try.prog 46 #[] w fun e w' => e = .returned (pv pB) ∧ Below w.heap.size w w' := by
  go_enter Try.func46, Try.ntmps46
  go_wp2
  refine bodyPost_ret_by (result_blk rfl rfl (Blk.newAt (by simp)) Try.underlying49 infoP) rfl ⟨rfl, (Below.refl _ _).alloc (Nat.le_refl _) _⟩

set_option maxHeartbeats 1600000 in
set_option maxRecDepth 100000 in
theorem iTimes_any (k : Int) (P : Pt) (w : World) :
    Calls Try.prog 44 #[.int .i64 k, pv P] w fun e w' => e = .returned (pv (pTimes k P)) ∧ Below w.heap.size w w' := by
  have HP : Hid (∀ w, Calls Try.prog 48 #[pv P] w fun e w' => ∃ v', e = .returned (.tuple #[v', .bool (pOkB P)]) ∧ (pOkB P = true → PAt w' v' P) ∧ Below w.heap.size w w') := placeOf_any P
  have HS : Hid (pOkB P = true → ∀ w v, PAt w v P → Calls Try.prog 49 #[v, .int .i64 k] w fun e w' => ∃ v', e = .returned v' ∧ PAt w' v' (pTim k P) ∧ Below w.heap.size w w') := fun h1 w v h3 => timesC_any v P k w h3 (pokB.1 h1)
  have HG : Hid (∀ w v, PAt w v (pTim k P) → Calls Try.prog 53 #[v] w fun e w' => e = .returned (pv (pTim k P)) ∧ Below w.heap.size w w') := fun w v h => point_any v _ w h
  rw [show pTimes k P = if pOkB P = true then pTim k P else pZ from rfl]
  generalize pOkB P = a at HP HS ⊢
  generalize pTim k P = S at HS HG ⊢
  obtain ⟨x, y, z⟩ := P
  unfold pv at HP HG ⊢
  simp only at HP HG ⊢
  go_enter Try.func44, Try.ntmps44
  go_wp2_with fail
  obtain ⟨W, hW, hb, hx, hr⟩ := boxes1r w 49 49 #[.int .i64 x, .int .i64 y, .bool z] #[.int .i64 0, .int .i64 0, .bool false]
  rw [hW]
  clear hW
  refine (HP.out _).mono ?_
  rintro e w1 ⟨v1, rfl, hv1, hb1⟩
  have H1 : Hid (a = true → PAt w1 v1 (x, y, z)) := hv1
  have hr1 := hr.on hb1 hr.lt
  have hB1 := below_then hb hb1
  clear hx hr hb hb1 hv1 HP
  cases a
  · go_wp2_with (refine store_blk (cs' := pc pZ) rfl rfl rfl rfl rfl hr1 infoP rfl (ones3 _ _ _) ?_; intro V h5 hoth hbel; have hbV := hbel _ _ (by omega) hB1; clear hoth hbel)
    refine bodyPost_ret_by (result_blk rfl rfl h5 Try.underlying49 infoP) rfl ⟨rfl, hbV⟩
  · go_wp2_with fail
    refine (HS.out (by trivial) _ _ (H1.out (by trivial))).mono ?_
    rintro e w3 ⟨v3, rfl, hv3, hb3⟩
    have hr3 := hr1.on hb3 hr1.lt
    have hB3 := below_then hB1 hb3
    clear hr1 hB1 hb3 H1 HS
    go_wp2_with fail
    refine (HG.out _ _ hv3).mono ?_
    rintro e w4 ⟨rfl, hb4⟩
    have hr4 := hr3.on hb4 hr3.lt
    have hB4 := below_then hB3 hb4
    clear hr3 hB3 hb4 hv3 HG
    go_wp2_with (refine store_blk (cs' := pc S) rfl rfl rfl rfl rfl hr4 infoP rfl (ones3 _ _ _) ?_; intro V h5 hoth hbel; have hbV := hbel _ _ (by omega) hB4; clear hoth hbel)
    refine bodyPost_ret_by (result_blk rfl rfl h5 Try.underlying49 infoP) rfl ⟨rfl, hbV⟩

set_option maxHeartbeats 1600000 in
set_option maxRecDepth 100000 in
theorem iInG_any (P : Pt) (w : World) :
    Calls Try.prog 39 #[pv P] w fun e w' => e = .returned (.bool (inGB P)) ∧ Below w.heap.size w w' := by
  have HP : Hid (∀ w, Calls Try.prog 48 #[pv P] w fun e w' => ∃ v', e = .returned (.tuple #[v', .bool (pOkB P)]) ∧ (pOkB P = true → PAt w' v' P) ∧ Below w.heap.size w w') := placeOf_any P
  have HS : Hid (pOkB P = true → ∀ w v, PAt w v P → Calls Try.prog 49 #[v, .int .i64 1009] w fun e w' => ∃ v', e = .returned v' ∧ PAt w' v' (pTim 1009 P) ∧ Below w.heap.size w w') := fun h1 w v h3 => timesC_any v P 1009 w h3 (pokB.1 h1)
  rw [show inGB P = (pOkB P && (if pOkB P = true then pTim 1009 P else pZ).2.2) from rfl]
  generalize pOkB P = a at HP HS ⊢
  generalize pTim 1009 P = S at HS ⊢
  obtain ⟨x, y, z⟩ := P
  unfold pv at HP ⊢
  simp only at HP ⊢
  go_enter Try.func39, Try.ntmps39
  go_wp2_with fail
  obtain ⟨W, hW, hb, hx⟩ := box1 w 49 #[.int .i64 x, .int .i64 y, .bool z]
  rw [hW]
  clear hW
  refine (HP.out _).mono ?_
  rintro e w1 ⟨v1, rfl, hv1, hb1⟩
  have H1 : Hid (a = true → PAt w1 v1 (x, y, z)) := hv1
  have hB1 := below_then hb hb1
  clear hx hb hb1 hv1 HP
  cases a
  · go_wp2
    go_ret
    exact ⟨rfl, hB1⟩
  · go_wp2_with fail
    refine (HS.out (by trivial) _ _ (H1.out (by trivial))).mono ?_
    rintro e w3 ⟨v3, rfl, hv3, hb3⟩
    have hB3 := below_then hB1 hb3
    clear hB1 hb3 H1 HS
    rcases hv3 with ⟨rfl, rfl⟩ | ⟨b, p, q, rfl, rfl, _⟩
    · go_wp2
      go_ret
      exact ⟨rfl, hB3⟩
    · go_wp2
      go_ret
      exact ⟨rfl, hB3⟩

end Go.Proofs.Ytkmelamfohfdkab
