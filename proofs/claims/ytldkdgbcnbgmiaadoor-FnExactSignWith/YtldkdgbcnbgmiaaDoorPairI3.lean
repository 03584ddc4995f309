/-
  The walks of the program's pairs: Miller's number.
  (-DROP-: what the seat lacks is left out.)
-/
import Derived.Test.YtldkdgbcnbgmiaaDoorJoined49
namespace Go.Proofs.YtldkdgbcnbgmiaaDoor
open Go.RowKit
attribute [local go_sem] Oper.semAt_some

theorem PAt.kpt {w w1 : World} {v : Value} {P : Pt} {g : Nat} {t : TypeId} {cs : Array Value} (h : PAt w v P) (hk : Kpt g w w1) (hb : Blk w g t cs) (ht : t ≠ 61) : PAt w1 v P :=
  h.kept fun b cs' hb' => hk.blk hb' fun e => by
    subst e
    have := hb'.symm.trans hb
    cases this
    exact ht rfl

/-- What the loop over the steps needs: the second place's box, the result's block, the product. -/
structure LinAt (w W : World) (ob : Option Addr) (F : Int × Int) : Prop where
  in2 : In2 F
  q : Blk W w.heap.size 41 #[.pointer ob]
  r : Blk W (w.heap.size + 1) 69 #[.int .i64 0, .int .i64 0]
  f : Blk W (w.heap.size + 1 + 1) 69 #[.int .i64 F.1, .int .i64 F.2]
  bel : Below w.heap.size w W

theorem LinAt.kept {w W W' : World} {ob : Option Addr} {F : Int × Int} (h : LinAt w W ob F) (ht : W.tape = W'.tape) (ho : W.os = W'.os) (hu : W.output = W'.output) {n : Nat} (hn : w.heap.size + 1 + 1 < n) (hk : Kep (fun k => k = n ∨ k = n + 1) W W') : LinAt w W' ob F :=
  ⟨h.in2, hk.blk h.q (by omega), hk.blk h.r (by omega), hk.blk h.f (by omega), ⟨ho ▸ h.bel.os, ht ▸ h.bel.tape, hu ▸ h.bel.output, Nat.le_trans h.bel.size hk.1, fun k hkk => (hk.2 k (by have := h.bel.size; omega) (by omega)).trans (h.bel.block k hkk)⟩⟩

set_option maxHeartbeats 1600000 in
set_option maxRecDepth 100000 in
theorem linesAt_any (a b : Value) (P R : Pt) (w : World) (hp : PAt w a P) (hr : PAt w b R) (oP : POk P) (oR : POk R) :
    Calls Tryd.prog 71 #[a, b] w fun e w' => e = .returned (tv (millS P R)) ∧ Below w.heap.size w w' := by
  obtain ⟨oa, hoa⟩ := hp.ptr
  subst hoa
  obtain ⟨ob, hob⟩ := hr.ptr
  subst hob
  have HP : Hid (PAt w (.pointer oa) P) := hp
  have HR : Hid (PAt w (.pointer ob) R) := hr
  have OP : Hid (POk P) := oP
  have OR : Hid (POk R) := oR
  clear hp hr oP oR
  refine (callsIn_wide (n := 3)).1 ?_
  refine callsIn_of_wp_marks Tryd.func71 rfl trivial ?_
  simp only [Tryd.ntmps71, List.size_toArray, List.length_cons, List.length_nil, Nat.reduceAdd, Nat.reduceSub, Array.replicate_succ, Array.replicate_zero, List.push_toArray, List.append_toArray, List.nil_append, List.cons_append]
  gi_wp2
  obtain ⟨w1, hw1, hb1, hq1, hr1, hf1⟩ := boxes2r w 41 69 69 #[.pointer ob] #[.int .i64 0, .int .i64 0] #[.int .i64 1, .int .i64 0]
  have hsz : w1.heap.size = w.heap.size + 1 + 1 + 1 := by rw [← hw1]; simp
  rw [hw1]
  have H1 : Hid (LinAt w w1 ob (1, 0)) := ⟨in2_one, hq1, hr1, hf1, hb1⟩
  clear hw1 hb1 hq1 hr1 hf1
  refine range_told (σ := Int × Int) (α := SX) (gf := 83) (lb := #[.pointer oa]) rfl (enters_of Tryd.func83 (by kernel_rfl) rfl)
    encS (fun _ => rfl) GS (nxS R) (1, 0) (millS P R) 61 (w.heap.size + 1 + 1) (by omega)
    (fun F W => LinAt w W ob F) (fun F W W' h ht ho hu hk => h.kept ht ho hu (by omega) hk) (fun F W h => ⟨69, _, by decide, h.f⟩) H1.out ?it ?round ?done
  case it =>
    intro l W Jt hJ hY h0 hb
    exact steps_in l P R (.pointer oa) OP.out OR.out Jt hJ hY W (HP.out.on (below_then H1.out.bel hb)) h0
  case done =>
    intro D W hD hL hK
    clear H1 HP HR
    have q0 := hL.f.cell 0
    have q1 := hL.f.cell 1
    have r0 := hL.r.cell 0
    have r1 := hL.r.cell 1
    have z0 := hL.r.free 0
    have z1 := hL.r.free 1
    have hbel := hL.bel
    have hr := hL.r
    clear hL
    gi_wp2
    have hblk := (hr.set 0 (.int .i64 (millS P R).1)).set 1 (.int .i64 (millS P R).2)
    have hbel2 := (hbel.setCell (p := ⟨w.heap.size + 1, 0, none⟩) (by simp) (.int .i64 (millS P R).1)).setCell (p := ⟨w.heap.size + 1, 1, none⟩) (by simp) (.int .i64 (millS P R).2)
    have hK2 : ((W.setCell ⟨w.heap.size + 1, 0, none⟩ (.int .i64 (millS P R).1)).setCell ⟨w.heap.size + 1, 1, none⟩ (.int .i64 (millS P R).2)).heap[D]? = some (.deferred (some [])) := by
      rw [Below.heap_setCell _ _ _ _ (by show D ≠ w.heap.size + 1; omega), Below.heap_setCell _ _ _ _ (by show D ≠ w.heap.size + 1; omega)]
      exact hK
    clear q0 q1 r0 r1 z0 z1 hbel hr hK
    generalize (W.setCell ⟨w.heap.size + 1, 0, none⟩ (.int .i64 (millS P R).1)).setCell ⟨w.heap.size + 1, 1, none⟩ (.int .i64 (millS P R).2) = V at hblk hbel2 hK2 ⊢
    refine ⟨by simp, .inl ⟨_, _, rfl, run_takeDeferred hK2, ?_⟩⟩
    have hlt := (Array.getElem?_eq_some_iff.1 hK2).1
    exact ⟨_, result_blk rfl rfl ((Kep.put _).blk hblk (show ¬ w.heap.size + 1 = D by omega)) Tryd.underlying69 infoN, rfl, ⟨hbel2.os, hbel2.tape, hbel2.output, by simpa using hbel2.size, fun k hk => (World.putObj_heap_other (by omega)).trans (hbel2.block k hk)⟩⟩
  case round =>
    intro l F x W hl hL hx
    obtain ⟨⟨p, o, d⟩, T, O⟩ := x
    obtain ⟨⟨hT, hO⟩, oT', oO'⟩ := hx
    obtain ⟨p, hp⟩ := hT.ptr
    obtain ⟨o, ho⟩ := hO.ptr
    simp only at hp ho
    subst hp
    subst ho
    have oT : Hid (POk T) := oT'
    have oO : Hid (POk O) := oO'
    clear oT' oO'
    unfold encS
    gi_wp2
    refine ⟨(Below.refl _ _).alloc (Nat.le_refl _) _, ?_⟩
    intro W₂ hL2 hblk
    have hWs : w.heap.size + 1 + 1 < W.heap.size := hL.f.lt
    have s2 : Blk W₂ W.heap.size 96 #[.pointer p, .pointer o, .bool d] := hblk _ _ _ (Blk.new W _ _)
    have hT2 : Hid (PAt W₂ (.pointer p) T) := (PAt.on hT ((Below.refl _ W).alloc (Nat.le_refl _) _)).kept fun b cs h => hblk b _ cs h
    have hO2 : Hid (PAt W₂ (.pointer o) O) := (PAt.on hO ((Below.refl _ W).alloc (Nat.le_refl _) _)).kept fun b cs h => hblk b _ cs h
    have hR2 : Hid (PAt W₂ (.pointer ob) R) := HR.out.on hL2.bel
    have f2 := hL2.f
    have bq2 := hL2.q
    have br2 := hL2.r
    have hB2 := hL2.bel
    have hsz2 : w.heap.size ≤ W₂.heap.size := hB2.size
    have i2 : Hid (In2 F) := hL2.in2
    clear hL2 hblk hT hO hL HP HR H1 hl
    apply wpIn_block
    apply wpIn_seq_k
    intro K1 hK1
    apply wpIn_seq_k
    intro K2 hK2
    refine rnd_list rfl (fun ⟨_, _, h⟩ => by obtain ⟨h, _⟩ := h; cases h) ?_
    have c2 := s2.cell 2
    cases d
    · go_wp2
      clear c2
      refine wpIn_cond_false rfl ?_
      gi_wp2
      have hT4 := hT2
      have hO4 := hO2
      have hR4 := hR2
      have f4 := f2
      have bq4 := bq2
      have br4 := br2
      have s4 := s2
      have i4 := i2
      have k4 : Kpt (w.heap.size + 1 + 1) W₂ W₂ := .refl _ _
      clear hT2 hO2 hR2 f2 bq2 br2 s2 i2
      have HL : Hid (∀ w', Below W₂.heap.size W₂ w' → Calls Tryd.prog 84 #[.pointer p, .pointer o, .pointer ob] w' fun e w'' => e = .returned (tv (pLine T O R)) ∧ Below w'.heap.size w' w'') := fun w' hw => lineAt_any _ _ _ T O R w' (hT4.out.on hw) (hO4.out.on hw) (hR4.out.on hw) oT.out oO.out OR.out
      have HM : Hid (∀ w, Calls Tryd.prog 73 #[tv F, tv (pLine T O R)] w fun e w' => e = .returned (tv (tm F (pLine T O R))) ∧ Below w.heap.size w w') := times2_any _ _ i4.out (in2_pline OR.out)
      have HI : Hid (In2 (tm F (pLine T O R))) := in2_tm _ _
      have HE : Hid (nxS R F ((.pointer p, .pointer o, false), T, O) = tm F (pLine T O R)) := rfl
      generalize tm F (pLine T O R) = M at HM HI HE
      generalize pLine T O R = L at HL HM
      clear hT4 hO4 hR4
      refine rnd_class 8 (fun wz => Below W₂.heap.size W₂ wz) rfl (fun ⟨_, _, h⟩ => by obtain ⟨h, _⟩ := h; cases h) mixes (by kernel_rfl) (Below.refl _ _).drew ?_
      simp only [List.take_succ_cons, List.take_zero, List.drop_succ_cons, List.drop_zero]
      repeat (refine cls_step rfl (fun K hK => ⟨_, (fun w' hw => by have q0 := (f4.on hw f4.lt).cell 0; have q1 := (f4.on hw f4.lt).cell 1; have q2 := (s4.on hw s4.lt).cell 0; have q3 := (s4.on hw s4.lt).cell 1; have q4 := (s4.on hw s4.lt).cell 2; have q5 := (bq4.on hw bq4.lt).cell 0; go_simp; exact rfl), ?_⟩); go_simp; refine hK _ ?_; clear hK K)
      refine cls_call rfl (fun K hK => ⟨_, _, _, (fun w' => by go_simp <;> first | exact rfl | exact ⟨rfl, rfl⟩), (fun w' hw => calls_below hw (HL.out w' hw)), ?_⟩); go_simp; refine hK _ ?_; clear hK K
      refine cls_call rfl (fun K hK => ⟨_, _, _, (fun w' => by go_simp <;> first | exact rfl | exact ⟨rfl, rfl⟩), (fun w' hw => calls_below hw (HM.out _)), ?_⟩); go_simp; refine hK _ ?_; clear hK K
      refine wq_nil ?_
      intro w' hw
      have f5 := f4.on hw f4.lt
      have bq5 := bq4.on hw bq4.lt
      have br5 := br4.on hw br4.lt
      have k5 : Kpt (w.heap.size + 1 + 1) W₂ w' := k4.trans (.below hw)
      clear f4 s4 bq4 br4 k4 hw HL HM
      go_wp2_with (refine store_kpt (cs' := #[.int .i64 M.1, .int .i64 M.2]) rfl rfl rfl rfl rfl f5 infoN rfl (ones2 _ _) ?_; intro V f6 k6)
      have k7 := k5.trans k6
      exact ⟨trivial, k7.tape, k7.os, k7.output, k7.kep, by rw [HE.out]; exact ⟨HI.out, k6.blk bq5 (by omega), k6.blk br5 (by omega), f6, k7.bel hB2 (by omega) (by omega)⟩⟩
    · go_wp2
      clear c2
      refine wpIn_cond_true rfl ?_
      have HM1 : Hid (∀ w, Calls Tryd.prog 73 #[tv F, tv F] w fun e w' => e = .returned (tv (tm F F)) ∧ Below w.heap.size w w') := times2_any _ _ i2.out i2.out
      have i4 : Hid (In2 (tm F F)) := in2_tm _ _
      refine rnd_list rfl (fun ⟨_, _, h⟩ => by obtain ⟨h, _⟩ := h; cases h) ?_
      go_wp2_with (refine load_blk rfl rfl rfl f2 Tryd.underlying69 infoN ?_)
      refine (HM1.out _).mono ?_
      rintro e W₃ ⟨rfl, hw⟩
      have hT3 : Hid (PAt W₃ (.pointer p) T) := hT2.out.on hw
      have hO3 : Hid (PAt W₃ (.pointer o) O) := hO2.out.on hw
      have hR3 : Hid (PAt W₃ (.pointer ob) R) := hR2.out.on hw
      have f3 := f2.on hw f2.lt
      have bq3 := bq2.on hw bq2.lt
      have br3 := br2.on hw br2.lt
      have s3 := s2.on hw s2.lt
      have k3 : Kpt (w.heap.size + 1 + 1) W₂ W₃ := .below hw
      clear hT2 hO2 hR2 f2 bq2 br2 s2 hw HM1 i2
      go_wp2_with (refine store_kpt (cs' := #[.int .i64 (tm F F).1, .int .i64 (tm F F).2]) rfl rfl rfl rfl rfl f3 infoN rfl (ones2 _ _) ?_; intro W₄ f4 k')
      have hT4 : Hid (PAt W₄ (.pointer p) T) := hT3.out.kpt k' f3 (by decide)
      have hO4 : Hid (PAt W₄ (.pointer o) O) := hO3.out.kpt k' f3 (by decide)
      have hR4 : Hid (PAt W₄ (.pointer ob) R) := hR3.out.kpt k' f3 (by decide)
      have bq4 := k'.blk bq3 (by omega)
      have br4 := k'.blk br3 (by omega)
      have s4 := k'.blk s3 (by omega)
      have k4 := k3.trans k'
      clear hT3 hO3 hR3 f3 bq3 br3 s3 k3 k'
      have HL : Hid (∀ w', Below W₄.heap.size W₄ w' → Calls Tryd.prog 84 #[.pointer p, .pointer o, .pointer ob] w' fun e w'' => e = .returned (tv (pLine T O R)) ∧ Below w'.heap.size w' w'') := fun w' hw => lineAt_any _ _ _ T O R w' (hT4.out.on hw) (hO4.out.on hw) (hR4.out.on hw) oT.out oO.out OR.out
      have HM : Hid (∀ w, Calls Tryd.prog 73 #[tv (tm F F), tv (pLine T O R)] w fun e w' => e = .returned (tv (tm (tm F F) (pLine T O R))) ∧ Below w.heap.size w w') := times2_any _ _ i4.out (in2_pline OR.out)
      have HI : Hid (In2 (tm (tm F F) (pLine T O R))) := in2_tm _ _
      have HE : Hid (nxS R F ((.pointer p, .pointer o, true), T, O) = tm (tm F F) (pLine T O R)) := rfl
      generalize tm (tm F F) (pLine T O R) = M at HM HI HE
      generalize pLine T O R = L at HL HM
      clear hT4 hO4 hR4
      refine rnd_class 8 (fun wz => Below W₄.heap.size W₄ wz) rfl (fun ⟨_, _, h⟩ => by obtain ⟨h, _⟩ := h; cases h) mixes (by kernel_rfl) (Below.refl _ _).drew ?_
      simp only [List.take_succ_cons, List.take_zero, List.drop_succ_cons, List.drop_zero]
      repeat (refine cls_step rfl (fun K hK => ⟨_, (fun w' hw => by have q0 := (f4.on hw f4.lt).cell 0; have q1 := (f4.on hw f4.lt).cell 1; have q2 := (s4.on hw s4.lt).cell 0; have q3 := (s4.on hw s4.lt).cell 1; have q4 := (s4.on hw s4.lt).cell 2; have q5 := (bq4.on hw bq4.lt).cell 0; go_simp; exact rfl), ?_⟩); go_simp; refine hK _ ?_; clear hK K)
      refine cls_call rfl (fun K hK => ⟨_, _, _, (fun w' => by go_simp <;> first | exact rfl | exact ⟨rfl, rfl⟩), (fun w' hw => calls_below hw (HL.out w' hw)), ?_⟩); go_simp; refine hK _ ?_; clear hK K
      refine cls_call rfl (fun K hK => ⟨_, _, _, (fun w' => by go_simp <;> first | exact rfl | exact ⟨rfl, rfl⟩), (fun w' hw => calls_below hw (HM.out _)), ?_⟩); go_simp; refine hK _ ?_; clear hK K
      refine wq_nil ?_
      intro w' hw
      have f5 := f4.on hw f4.lt
      have bq5 := bq4.on hw bq4.lt
      have br5 := br4.on hw br4.lt
      have k5 : Kpt (w.heap.size + 1 + 1) W₂ w' := k4.trans (.below hw)
      clear f4 s4 bq4 br4 k4 hw HL HM
      go_wp2_with (refine store_kpt (cs' := #[.int .i64 M.1, .int .i64 M.2]) rfl rfl rfl rfl rfl f5 infoN rfl (ones2 _ _) ?_; intro V f6 k6)
      have k7 := k5.trans k6
      exact ⟨trivial, k7.tape, k7.os, k7.output, k7.kep, by rw [HE.out]; exact ⟨HI.out, k6.blk bq5 (by omega), k6.blk br5 (by omega), f6, k7.bel hB2 (by omega) (by omega)⟩⟩

end Go.Proofs.YtldkdgbcnbgmiaaDoor
