/-
  Texts of one's own, joined.
-/
import Derived.Test.YtkmelamfohfdkaaPtC3
import Derived.Test.YtkmelamfohfdkaaPtC4

/-
  The walk of the text of a place on the curve.
  (-DROP-: what the seat lacks is left out.)
-/
namespace Go.Proofs.Ytkmelamfohfdkaa
open Go.RowKit

theorem make3 (w : World) : (Instr.makeSlice 62 (.int .i64 3) (.int .i64 3)).run Try.prog w = .ok (.slice (some ⟨w.heap.size, 0, none⟩) 3 3) (w.alloc (.cells #[.int .u8 0, .int .u8 0, .int .u8 0] 5)) := by
  kernel_rfl

-- (left out where function 25 is)
set_option maxHeartbeats 1600000 in
set_option maxRecDepth 100000 in
theorem ptext_any (v : Value) (P : Pt) (w : World) (hp : PAt w v P) (hP : POk P) :
    Calls Try.prog 41 #[v] w fun e w' => e = .returned (.string (ptText P)) ∧ Below w.heap.size w w' := by
  have hok : pOkB P = true := pokB.2 hP
  rcases hp with ⟨rfl, rfl⟩ | ⟨bb, x, y, rfl, rfl, hx⟩
  · have HT : Hid (ptText pZ = ⟨#[UInt8.ofNat 0, UInt8.ofNat 0, UInt8.ofNat 0]⟩) := rfl
    have hcv := text3 0 0 0 (by omega) (by omega) (by omega)
    simp only [Int.natCast_zero] at hcv
    have hmk := make3
    clear hok hP
    go_enter Try.func41, Try.ntmps41
    go_wp2
    go_ret
    exact ⟨by rw [HT.out]; rfl, (Below.refl _ _).alloc (Nat.le_refl _) _⟩
  · obtain ⟨hX0, hY0⟩ := pok_xy hP
    obtain ⟨X, Y, rfl, rfl, hXb, hYb⟩ : ∃ X Y : Nat, x = X ∧ y = Y ∧ X < 12107 ∧ Y < 12107 :=
      ⟨x.toNat, y.toNat, by have := hX0.1; omega, by have := hY0.1; omega, by have := hX0.1; have := hX0.2; omega, by have := hY0.1; have := hY0.2; omega⟩
    obtain ⟨N, hN⟩ : ∃ N : Nat, N = X + 1 := ⟨_, rfl⟩
    have hNi : (X : Int) + 1 = (N : Int) := by omega
    have hNb : N ≤ 12107 := by omega
    obtain ⟨a, ha⟩ : ∃ a : Nat, a = N / 256 := ⟨_, rfl⟩
    obtain ⟨b, hb⟩ : ∃ b : Nat, b = N % 256 := ⟨_, rfl⟩
    obtain ⟨c, hc⟩ : ∃ c : Nat, c = Y % 2 := ⟨_, rfl⟩
    have ha1 : Int.tdiv (N : Int) 256 = (a : Int) := by rw [Int.tdiv_eq_ediv_of_nonneg (by omega)]; omega
    have ha2 : IntKind.u8.wrap (a : Int) = (a : Int) := by rw [IntWalk.u8_in _ (by omega)]
    have hb1 : Int.tmod (N : Int) 256 = (b : Int) := by rw [Int.tmod_eq_emod_of_nonneg (by omega)]; omega
    have hb2 : IntKind.u8.wrap (b : Int) = (b : Int) := by rw [IntWalk.u8_in _ (by omega)]
    have hc1 : Int.tmod (Y : Int) 2 = (c : Int) := by rw [Int.tmod_eq_emod_of_nonneg (by omega)]; omega
    have hc2 : IntKind.u8.wrap (c : Int) = (c : Int) := by rw [IntWalk.u8_in _ (by omega)]
    have hal : a < 256 := by omega
    have hbl : b < 256 := by omega
    have hcl : c < 2 := by omega
    have hcv := text3 a b c (by omega) (by omega) (by omega)
    have HRES : Hid (ptText ((X : Int), (Y : Int), false) = ⟨#[UInt8.ofNat a, UInt8.ofNat b, UInt8.ofNat c]⟩) := by
      show ptText ((X : Int), (Y : Int), false) = _
      unfold ptText ptBytes
      rw [if_pos hok]
      simp only [Bool.false_eq_true, if_false]
      rw [Int.toNat_natCast, Int.toNat_natCast, ← hN, ← ha, ← hb, ← hc]
    have q0 := hx.cell 0
    have q1 := hx.cell 1
    clear ha hb hc hN hok hP hX0 hY0 hx
    go_enter Try.func41, Try.ntmps41
    go_wp2
    go_ret
    exact ⟨by rw [HRES.out]; rfl, (Below.refl _ _).alloc (Nat.le_refl _) _⟩

end Go.Proofs.Ytkmelamfohfdkaa

/-
  The walks of the program's points.
  (-DROP-: what the seat lacks is left out.)
-/
namespace Go.Proofs.Ytkmelamfohfdkaa
open Go.RowKit

set_option maxHeartbeats 800000 in
set_option maxRecDepth 100000 in
theorem iNeg_any (P : Pt) (w : World) :
    Calls Try.prog 53 #[pv P] w fun e w' => e = .returned (pv (pNeg P)) ∧ Below w.heap.size w w' := by
  obtain ⟨x, y, z⟩ := P
  unfold pNeg
  cases z
  · simp only [Bool.false_eq_true, if_false]
    unfold pv
    go_enter Try.func53, Try.ntmps53
    go_wp2
    obtain ⟨W, hW, hb, hx, hr⟩ := boxes1r w 42 42 #[.int .i64 x, .int .i64 y, .bool false] #[.int .i64 0, .int .i64 0, .bool false]
    rw [hW]
    clear hW
    refine wp_region_class 6 (fun wz => Below W.heap.size W wz) mixes (by kernel_rfl) (Below.refl _ _).drew ?_
    simp only [List.take_succ_cons, List.take_zero, List.drop_succ_cons, List.drop_zero]
    repeat (refine cls_step rfl (fun K hK => ⟨_, (fun w' hw => by have q0 := (hx.on hw hx.lt).cell 0; have q1 := (hx.on hw hx.lt).cell 1; have q2 := (hx.on hw hx.lt).cell 2; go_simp; exact rfl), ?_⟩); go_simp; refine hK _ ?_; clear hK K)
    refine cls_call rfl (fun K hK => ⟨_, _, _, (fun w' => by go_simp <;> first | exact rfl | exact ⟨rfl, rfl⟩), (fun w' hw => calls_same hw (iSub_any _ _ _)), ?_⟩); go_simp; refine hK _ ?_; clear hK K
    repeat (refine cls_step rfl (fun K hK => ⟨_, (fun w' hw => by go_simp; exact rfl), ?_⟩); go_simp; refine hK _ ?_; clear hK K)
    refine wq_nil ?_
    intro w' hw
    have hr1 := hr.on hw hr.lt
    go_wp2_with (refine store_blk (cs' := #[.int .i64 x, .int .i64 (fpSub 0 y), .bool false]) rfl rfl rfl rfl rfl hr1 infoP rfl (ones3 _ _ _) ?_; intro V h5 hoth hbel; have hbV := hbel _ _ (by omega) (below_then hb hw); clear hoth hbel)
    refine bodyPost_ret_by (result_blk rfl rfl h5 Try.underlying42 infoP) rfl ⟨rfl, hbV⟩
  · simp only [if_true]
    unfold pv
    go_enter Try.func53, Try.ntmps53
    go_wp2
    refine bodyPost_ret_by (result_blk rfl rfl (Blk.newAt (by simp)) Try.underlying42 infoP) rfl ⟨rfl, ((Below.refl _ _).alloc (Nat.le_refl _) _).alloc (by simp) _⟩

set_option maxHeartbeats 1600000 in
set_option maxRecDepth 100000 in
theorem iPAdd_any (P Q : Pt) (w : World) :
    Calls Try.prog 42 #[pv P, pv Q] w fun e w' => e = .returned (pv (pSum P Q)) ∧ Below w.heap.size w w' := by
  have HP : Hid (∀ w, Calls Try.prog 35 #[pv P] w fun e w' => ∃ v', e = .returned (.tuple #[v', .bool (pOkB P)]) ∧ (pOkB P = true → PAt w' v' P) ∧ Below w.heap.size w w') := placeOf_any P
  have HQ : Hid (∀ w, Calls Try.prog 35 #[pv Q] w fun e w' => ∃ v', e = .returned (.tuple #[v', .bool (pOkB Q)]) ∧ (pOkB Q = true → PAt w' v' Q) ∧ Below w.heap.size w w') := placeOf_any Q
  have HS : Hid (pOkB P = true → pOkB Q = true → ∀ w v u, PAt w v P → PAt w u Q → Calls Try.prog 60 #[v, u] w fun e w' => ∃ v', e = .returned v' ∧ PAt w' v' (pAdd P Q) ∧ Below w.heap.size w w') := fun h1 h2 w v u h3 h4 => plusC_any v u P Q w h3 h4 (pokB.1 h1) (pokB.1 h2)
  have HG : Hid (∀ w v, PAt w v (pAdd P Q) → Calls Try.prog 62 #[v] w fun e w' => e = .returned (pv (pAdd P Q)) ∧ Below w.heap.size w w') := fun w v h => point_any v _ w h
  unfold pSum
  generalize pOkB P = a at HP HS ⊢
  generalize pOkB Q = b at HQ HS ⊢
  generalize pAdd P Q = S at HS HG ⊢
  obtain ⟨x, y, z⟩ := P
  obtain ⟨u, v, t⟩ := Q
  unfold pv at HP HQ HG ⊢
  simp only at HP HQ HG ⊢
  go_enter Try.func42, Try.ntmps42
  go_wp2_with fail
  obtain ⟨W, hW, hb, hx, hy, hr⟩ := boxes2r w 42 42 42 #[.int .i64 x, .int .i64 y, .bool z] #[.int .i64 u, .int .i64 v, .bool t] #[.int .i64 0, .int .i64 0, .bool false]
  rw [hW]
  clear hW
  refine (HP.out _).mono ?_
  rintro e w1 ⟨v1, rfl, hv1, hb1⟩
  have H1 : Hid (a = true → PAt w1 v1 (x, y, z)) := hv1
  have hy1 := hy.on hb1 hy.lt
  have hr1 := hr.on hb1 hr.lt
  have hB1 := below_then hb hb1
  clear hx hy hr hb hb1 hv1 HP
  go_wp2_with (refine load_blk rfl rfl rfl hy1 Try.underlying42 infoP ?_)
  refine (HQ.out _).mono ?_
  rintro e w2 ⟨v2, rfl, hv2, hb2⟩
  have H1' : Hid (a = true → PAt w2 v1 (x, y, z)) := fun h => (H1.out h).on hb2
  have H2 : Hid (b = true → PAt w2 v2 (u, v, t)) := hv2
  have hr2 := hr1.on hb2 hr1.lt
  have hB2 := below_then hB1 hb2
  clear hy1 hr1 hB1 hb2 hv2 HQ H1
  cases a
  · go_wp2_with (refine store_blk (cs' := pc pZ) rfl rfl rfl rfl rfl hr2 infoP rfl (ones3 _ _ _) ?_; intro V h5 hoth hbel; have hbV := hbel _ _ (by omega) hB2; clear hoth hbel)
    refine bodyPost_ret_by (result_blk rfl rfl h5 Try.underlying42 infoP) rfl ⟨rfl, hbV⟩
  · cases b
    · go_wp2_with (refine store_blk (cs' := pc pZ) rfl rfl rfl rfl rfl hr2 infoP rfl (ones3 _ _ _) ?_; intro V h5 hoth hbel; have hbV := hbel _ _ (by omega) hB2; clear hoth hbel)
      refine bodyPost_ret_by (result_blk rfl rfl h5 Try.underlying42 infoP) rfl ⟨rfl, hbV⟩
    · go_wp2_with fail
      refine (HS.out (by trivial) (by trivial) _ _ _ (H1'.out (by trivial)) (H2.out (by trivial))).mono ?_
      rintro e w3 ⟨v3, rfl, hv3, hb3⟩
      have hr3 := hr2.on hb3 hr2.lt
      have hB3 := below_then hB2 hb3
      clear hr2 hB2 hb3 H1' H2 HS
      go_wp2_with fail
      refine (HG.out _ _ hv3).mono ?_
      rintro e w4 ⟨rfl, hb4⟩
      have hr4 := hr3.on hb4 hr3.lt
      have hB4 := below_then hB3 hb4
      clear hr3 hB3 hb4 hv3 HG
      go_wp2_with (refine store_blk (cs' := pc S) rfl rfl rfl rfl rfl hr4 infoP rfl (ones3 _ _ _) ?_; intro V h5 hoth hbel; have hbV := hbel _ _ (by omega) hB4; clear hoth hbel)
      refine bodyPost_ret_by (result_blk rfl rfl h5 Try.underlying42 infoP) rfl ⟨rfl, hbV⟩

set_option maxHeartbeats 1600000 in
set_option maxRecDepth 100000 in
theorem iInG_any (P : Pt) (w : World) :
    Calls Try.prog 20 #[pv P] w fun e w' => e = .returned (.bool (inGB P)) ∧ Below w.heap.size w w' := by
  have HP : Hid (∀ w, Calls Try.prog 35 #[pv P] w fun e w' => ∃ v', e = .returned (.tuple #[v', .bool (pOkB P)]) ∧ (pOkB P = true → PAt w' v' P) ∧ Below w.heap.size w w') := placeOf_any P
  have HS : Hid (pOkB P = true → ∀ w v, PAt w v P → Calls Try.prog 36 #[v, .int .i64 1009] w fun e w' => ∃ v', e = .returned v' ∧ PAt w' v' (pTim 1009 P) ∧ Below w.heap.size w w') := fun h1 w v h3 => timesC_any v P 1009 w h3 (pokB.1 h1)
  rw [show inGB P = (pOkB P && (if pOkB P = true then pTim 1009 P else pZ).2.2) from rfl]
  generalize pOkB P = a at HP HS ⊢
  generalize pTim 1009 P = S at HS ⊢
  obtain ⟨x, y, z⟩ := P
  unfold pv at HP ⊢
  simp only at HP ⊢
  go_enter Try.func20, Try.ntmps20
  go_wp2_with fail
  obtain ⟨W, hW, hb, hx⟩ := box1 w 42 #[.int .i64 x, .int .i64 y, .bool z]
  rw [hW]
  clear hW
  refine (HP.out _).mono ?_
  rintro e w1 ⟨v1, rfl, hv1, hb1⟩
  have H1 : Hid (a = true → PAt w1 v1 (x, y, z)) := hv1
  have hB1 := below_then hb hb1
  clear hx hb hb1 hv1 HP
  cases a
  · go_wp2
    go_ret
    exact ⟨rfl, hB1⟩
  · go_wp2_with fail
    refine (HS.out (by trivial) _ _ (H1.out (by trivial))).mono ?_
    rintro e w3 ⟨v3, rfl, hv3, hb3⟩
    have hB3 := below_then hB1 hb3
    clear hB1 hb3 H1 HS
    rcases hv3 with ⟨rfl, rfl⟩ | ⟨b, p, q, rfl, rfl, _⟩
    · go_wp2
      go_ret
      exact ⟨rfl, hB3⟩
    · go_wp2
      go_ret
      exact ⟨rfl, hB3⟩

set_option maxHeartbeats 800000 in
set_option maxRecDepth 100000 in
theorem iPText_any (P : Pt) (w : World) :
    Calls Try.prog 25 #[pv P] w fun e w' => e = .returned (.string (ptText P)) ∧ Below w.heap.size w w' := by
  have HP : Hid (∀ w, Calls Try.prog 35 #[pv P] w fun e w' => ∃ v', e = .returned (.tuple #[v', .bool (pOkB P)]) ∧ (pOkB P = true → PAt w' v' P) ∧ Below w.heap.size w w') := placeOf_any P
  have HS : Hid (pOkB P = true → ∀ w v, PAt w v P → Calls Try.prog 41 #[v] w fun e w' => e = .returned (.string (ptText P)) ∧ Below w.heap.size w w') := fun h1 w v h3 => ptext_any v P w h3 (pokB.1 h1)
  have HE : Hid (pOkB P = false → ptText P = ⟨#[]⟩) := fun h => by
    unfold ptText ptBytes
    rw [h]
    rfl
  generalize pOkB P = a at HP HS HE
  generalize ptText P = T at HS HE ⊢
  obtain ⟨x, y, z⟩ := P
  unfold pv at HP ⊢
  simp only at HP ⊢
  go_enter Try.func25, Try.ntmps25
  go_wp2_with fail
  obtain ⟨W, hW, hb, hx⟩ := box1 w 42 #[.int .i64 x, .int .i64 y, .bool z]
  rw [hW]
  clear hW
  refine (HP.out _).mono ?_
  rintro e w1 ⟨v1, rfl, hv1, hb1⟩
  have H1 : Hid (a = true → PAt w1 v1 (x, y, z)) := hv1
  have hB1 := below_then hb hb1
  clear hx hb hb1 hv1 HP
  cases a
  · go_wp2
    go_ret
    exact ⟨by rw [HE.out (by trivial)]; rfl, hB1⟩
  · clear HE
    go_wp2_with fail
    refine (HS.out (by trivial) _ _ (H1.out (by trivial))).mono ?_
    rintro e w3 ⟨rfl, hb3⟩
    have hB3 := below_then hB1 hb3
    clear hB1 hb3 H1 HS
    go_wp2
    go_ret
    exact ⟨rfl, hB3⟩

end Go.Proofs.Ytkmelamfohfdkaa
