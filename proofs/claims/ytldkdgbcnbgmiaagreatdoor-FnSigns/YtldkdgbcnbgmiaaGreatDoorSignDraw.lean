/-
  The draws of signatures.
  (-DROP-: what the seat lacks is left out.)
-/
import Derived.Test.YtldkdgbcnbgmiaaGreatDoorSignS
import Derived.Test.YtldkdgbcnbgmiaaGreatDoorJoined40
import Derived.Test.YtldkdgbcnbgmiaaGreatDoorJoined40
namespace Go.Proofs.YtldkdgbcnbgmiaaGreatDoor
open Go.RowKit

/-- A secret that is drawn. -/
def Sec (z : Int) : Prop := -3 ≤ z ∧ z ≤ 123456

set_option maxHeartbeats 800000 in
set_option maxRecDepth 100000 in
theorem secret_any (c len cap : Nat) (a : Option Addr) (hm : len ≤ 1048576) (w : World) (hC : CurAt w c a len cap) (hA : ArgAt w a len c) :
    Calls Tryz.prog 24 #[.pointer (some ⟨c, 0, none⟩)] w fun e w' => ∃ z : Int, e = .returned (.int .i64 z) ∧ Sec z ∧ CurEnd w w' c a len cap := by
  have hcl := hC.lt
  have HW : Hid (CurEnd w (w.alloc (.cells #[.int .i64 1, .int .i64 2, .int .i64 77, .int .i64 500, .int .i64 1008, .int .i64 0, .int .i64 1009, .int .i64 (-3), .int .i64 123456] 3)) c a len cap) := (CurEnd.refl hC hA).alloc _
  clear hC hA
  go_enter Tryz.func24, Tryz.ntmps24
  go_wp2_with fail
  refine (pick_any c len cap a hm w.heap.size 9 9 (by omega) (by omega) _ HW.out.cur HW.out.arg (by omega) Sec (ints_new w [1, 2, 77, 500, 1008, 0, 1009, -3, 123456] _ rfl Sec (by unfold Sec; intro z hz; simp at hz; omega))).mono ?_
  rintro e w2 ⟨z, rfl, hz, hE⟩
  have H2 : Hid (Sec z ∧ CurEnd w w2 c a len cap) := ⟨hz, HW.out.trans hE⟩
  clear hz hE HW
  go_wp2
  go_ret
  exact ⟨z, rfl, H2.out.1, H2.out.2⟩

set_option maxHeartbeats 800000 in
set_option maxRecDepth 100000 in
theorem drawSign_any (len cap : Nat) (a : Option Addr) (hm : len ≤ 1048576) (w : World) (hA : ArgAt w a len w.heap.size) :
    Calls Tryz.prog 6 #[.slice a len cap] w fun e w' => ∃ (k : Int) (t : ByteArray), e = .returned (.tuple #[.int .i64 k, .string t]) ∧ Sec k ∧ t.size ≤ 5 ∧ Below w.heap.size w w' := by
  have HA : Hid (ArgAt w a len w.heap.size) := hA
  clear hA
  go_enter Tryz.func6, Tryz.ntmps6
  go_wp2_with fail
  refine (new_any len cap a hm _ HA.out).mono ?_
  rintro e w1 ⟨rfl, hC, hA1, hb1⟩
  have H1 : Hid (CurEnd w1 w1 w.heap.size a len cap) := CurEnd.refl hC hA1
  have hl1 : w.heap.size ≤ w1.heap.size := by have := hC.lt; omega
  have HB1 : Hid (Below w.heap.size w w1) := hb1
  clear hC hA1 hb1 HA
  go_wp2_with fail
  refine (secret_any _ len cap a hm _ H1.out.cur H1.out.arg).mono ?_
  rintro e w2 ⟨k, rfl, hk, hE⟩
  have HK : Hid (Sec k) := hk
  have H2 : Hid (CurEnd w1 w2 w.heap.size a len cap) := H1.out.trans hE
  clear hE H1 hk
  go_wp2_with fail
  refine (below_any _ len cap a hm 6 (by omega) (by omega) _ H2.out.cur H2.out.arg).mono ?_
  rintro e w3 ⟨x, rfl, x0, x1, hE⟩
  have H3 : Hid (CurEnd w1 w3 w.heap.size a len cap) := H2.out.trans hE
  obtain ⟨n, rfl⟩ : ∃ n : Nat, x = n := ⟨x.toNat, by omega⟩
  clear hE H2
  go_wp2_with fail
  refine (drawn_any _ len cap a hm n (by omega) _ H3.out.cur H3.out.arg).mono ?_
  rintro e w4 ⟨t, rfl, htl, hE⟩
  have H4 : Hid (CurEnd w1 w4 w.heap.size a len cap) := H3.out.trans hE
  have HT : Hid ((⟨t.toArray⟩ : ByteArray).size ≤ 5) := by
    show t.toArray.size ≤ 5
    rw [List.size_toArray]
    omega
  generalize (⟨t.toArray⟩ : ByteArray) = T at HT ⊢
  clear hE H3 htl
  go_wp2
  go_ret2
  exact ⟨k, T, rfl, HK.out, HT.out, HB1.out.trans (below_of_grown H4.out.grown hl1)⟩

/-- A result in a block, one in a slot, one in a block. -/
theorem result_btb {P : Program} {fn : Func} {p q r : Tmp} {ty ty' t t' : TypeId} {fs fs' : Array Field} (h : fn.results = #[.cell p ty, .tmp q, .cell r ty']) {tmps : Array Value} {w : World} {g g' : Nat} {cs cs' : Array Value} {v : Value} (hp : tmps.getD p undef = .pointer (some ⟨g, 0, none⟩)) (hq : tmps.getD q undef = v) (hr : tmps.getD r undef = .pointer (some ⟨g', 0, none⟩))
    (hA : Blk w g t cs) (hB : Blk w g' t' cs') (hu : P.underlying ty = some (.struct fs)) (hi : (P.info? ty).map (·.size) = some cs.size) (hu' : P.underlying ty' = some (.struct fs')) (hi' : (P.info? ty').map (·.size) = some cs'.size) :
    (results fn tmps).run P w = .ok (.tuple #[.agg cs, v, .agg cs']) w := by
  have hl := hA.load hu hi
  have hl' := hB.load hu' hi'
  have hp' : tmps[p]?.getD undef = .pointer (some ⟨g, 0, none⟩) := by simpa using hp
  have hq' : tmps[q]?.getD undef = v := by simpa using hq
  have hr' : tmps[r]?.getD undef = .pointer (some ⟨g', 0, none⟩) := by simpa using hr
  simp [results, h, hp', hq', hr', asAddr, hl, hl', Result.andThen]

set_option maxHeartbeats 3200000 in
set_option maxRecDepth 100000 in
theorem drawSigOk_any (len cap : Nat) (a : Option Addr) (hm : len ≤ 1048576) (w : World) (hA : ArgAt w a len w.heap.size) :
    Calls Tryz.prog 11 #[.slice a len cap] w fun e w' => ∃ (K S : Pt) (t : ByteArray), e = .returned (.tuple #[pv K, .string t, pv S]) ∧ t.size ≤ 6 ∧ Below w.heap.size w w' := by
  obtain ⟨W, hW, hb, hr, hs⟩ := boxes1r w 27 27 #[.int .i64 0, .int .i64 0, .bool false] #[.int .i64 0, .int .i64 0, .bool false]
  have hWs : w.heap.size + 1 < W.heap.size := hs.lt
  have HA : Hid (ArgAt W a len W.heap.size) := hA.up hb
  clear hA
  go_enter Tryz.func11, Tryz.ntmps11
  go_wp2_with fail
  clear hW
  refine (new_any len cap a hm _ HA.out).mono ?_
  rintro e w1 ⟨rfl, hC, hA1, hb1⟩
  have H1 : Hid (CurEnd w1 w1 W.heap.size a len cap) := CurEnd.refl hC hA1
  have hl1 : W.heap.size < w1.heap.size := hC.lt
  have hr1 := hr.on hb1 hr.lt
  have hs1 := hs.on hb1 hs.lt
  have hB1 := below_then hb hb1
  clear hC hA1 hr hs hb hb1
  go_wp2_with fail
  refine (below_any _ len cap a hm 6 (by omega) (by omega) _ H1.out.cur H1.out.arg).mono ?_
  rintro e w2 ⟨x, rfl, x0, x1, hE⟩
  have H2 : Hid (CurEnd w1 w2 W.heap.size a len cap) := H1.out.trans hE
  clear hE H1
  go_wp2_with fail
  refine (secret_any _ len cap a hm _ H2.out.cur H2.out.arg).mono ?_
  rintro e w3 ⟨k, rfl, hk, hE⟩
  have H3 : Hid (CurEnd w1 w3 W.heap.size a len cap) := H2.out.trans hE
  clear hE H2 hk
  go_wp2_with fail
  refine (below_any _ len cap a hm 6 (by omega) (by omega) _ H3.out.cur H3.out.arg).mono ?_
  rintro e w4 ⟨y, rfl, y0, y1, hE⟩
  have H4 : Hid (CurEnd w1 w4 W.heap.size a len cap) := H3.out.trans hE
  obtain ⟨n, rfl⟩ : ∃ n : Nat, y = n := ⟨y.toNat, by omega⟩
  clear hE H3
  go_wp2_with fail
  refine (drawn_any _ len cap a hm n (by omega) _ H4.out.cur H4.out.arg).mono ?_
  rintro e w5 ⟨t, rfl, htl, hE⟩
  have H5 : Hid (CurEnd w1 w5 W.heap.size a len cap) := H4.out.trans hE
  have hT : (⟨t.toArray⟩ : ByteArray).size ≤ 5 := by
    show t.toArray.size ≤ 5
    rw [List.size_toArray]
    omega
  generalize (⟨t.toArray⟩ : ByteArray) = T at hT ⊢
  clear hE H4 htl
  obtain ⟨K, hK0⟩ : ∃ K : Pt, ∀ w, Calls Tryz.prog 31 #[.int .i64 k] w fun e w' => e = .returned (pv K) ∧ Below w.heap.size w w' := ⟨_, sKey_any k⟩
  obtain ⟨S, hS0⟩ : ∃ S : Pt, ∀ w, Calls Tryz.prog 32 #[.int .i64 k, .string T] w fun e w' => e = .returned (pv S) ∧ Below w.heap.size w w' := ⟨_, sSign_any k T (by omega)⟩
  have HK : Hid _ := hK0
  have HS : Hid _ := hS0
  clear hK0 hS0
  have hg5 := H5.out.grown
  have hr5 := hr1.grown hg5 (by omega)
  have hs5 := hs1.grown hg5 (by omega)
  have hB5 := hB1.trans ((below_of_grown hg5 (by omega)).mono (by omega : w.heap.size ≤ W.heap.size))
  clear hr1 hs1 hB1 hg5
  go_wp2_with fail
  refine (HK.out _).mono ?_
  rintro e w6 ⟨rfl, hb6⟩
  obtain ⟨W6, hE6, hbW6, h9⟩ := box1 w6 27 #[.int .i64 K.1, .int .i64 K.2.1, .bool K.2.2]
  have hb56 := below_then hb6 hbW6
  have hr6 := hr5.on hb56 hr5.lt
  have hs6 := hs5.on hb56 hs5.lt
  have hB6 := below_then hB5 hb56
  have H6 : Hid (CurEnd w1 W6 W.heap.size a len cap) := H5.out.below hb56
  have hl6 : w1.heap.size ≤ w6.heap.size := by have := H5.out.grown.size; have := hb6.size; omega
  clear hb6 hbW6 hb56 hr5 hs5 hB5 H5
  go_wp2_with fail
  clear hE6
  refine (HS.out _).mono ?_
  rintro e w7 ⟨rfl, hb7⟩
  obtain ⟨W7, hE7, hbW7, h10⟩ := box1 w7 27 #[.int .i64 S.1, .int .i64 S.2.1, .bool S.2.2]
  have hb67 := below_then hb7 hbW7
  have hr7 := hr6.on hb67 hr6.lt
  have hs7 := hs6.on hb67 hs6.lt
  have h97 := h9.on hb67 h9.lt
  have hB7 := below_then hB6 hb67
  have H7 : Hid (CurEnd w1 W7 W.heap.size a len cap) := H6.out.below hb67
  have hl7 : w6.heap.size < w7.heap.size := by have := hb7.size; have := h9.lt; omega
  clear hb7 hbW7 hb67 hr6 hs6 h9 hB6 H6
  by_cases hx0 : x = 0
  · subst hx0
    have hs1 : ¬ 9223372036854775807 < T.size + (ByteArray.mk #[120]).size := by
      have : (ByteArray.mk #[120]).size = 1 := rfl
      omega
    have HT2 : Hid ((T ++ ByteArray.mk #[120]).size ≤ 6) := by
      show (T ++ ByteArray.mk #[120]).size ≤ 6
      rw [ByteArray.size_append]
      have : (ByteArray.mk #[120]).size = 1 := rfl
      omega
    go_wp2_with fail
    clear hE7 H7 hs1
    generalize T ++ ByteArray.mk #[120] = T2 at HT2 ⊢
    have d9 := h97.drew
    have d10 := h10.drew
    have dr := hr7.drew
    have ds := hs7.drew
    have dB := hB7.drew
    clear h97 h10 hr7 hs7 hB7
    generalize w6.heap.size = g9 at hl6 hl7 d9 ⊢
    generalize w7.heap.size = g10 at hl7 d10 ⊢
    refine wp_region_ord [(0, false), (1, false), (2, false), (3, true), (4, true), (5, true)] (fun w' => Blk w' g9 27 #[.int .i64 K.1, .int .i64 K.2.1, .bool K.2.2] ∧ Blk w' g10 27 #[.int .i64 S.1, .int .i64 S.2.1, .bool S.2.2]) mixes (by kernel_rfl) ⟨d9, d10⟩ ?_
    repeat (refine ord_float rfl rfl (fun K hK => ⟨_, (fun w' hw => by have q0 := hw.1.cell 0; have q1 :=  hw.1.cell 1; have q2 :=  hw.1.cell 2; have q3 :=  hw.2.cell 0; have q4 :=  hw.2.cell 1; have q5 :=  hw.2.cell 2; go_simp; exact rfl), ?_⟩); go_simp; refine hK _ ?_; clear hK K)
    refine ord_store (cs' := #[.int .i64 K.1, .int .i64 K.2.1, .bool K.2.2]) rfl rfl rfl rfl rfl rfl dr infoP rfl (ones3 _ _ _) ?_
    intro u1 er hoth hbel
    have e9 := hoth _ _ _ (by omega) d9
    have e10 := hoth _ _ _ (by omega) d10
    have es := hoth _ _ _ (by omega) ds
    have eB := hbel _ _ (by omega) dB
    clear hoth hbel d9 d10 dr ds dB
    refine ⟨⟨e9, e10⟩, ?_⟩
    refine ord_op rfl rfl (fun K hK => ⟨_, _, (by go_simp <;> first | exact ⟨rfl, rfl⟩ | exact rfl), ⟨e9, e10⟩, ?_⟩)
    go_simp
    refine hK _ _ ?_
    clear hK K
    refine ord_store (cs' := #[.int .i64 S.1, .int .i64 S.2.1, .bool S.2.2]) rfl rfl rfl rfl rfl rfl es infoP rfl (ones3 _ _ _) ?_
    intro u2 fs hoth hbel
    have f9 := hoth _ _ _ (by omega) e9
    have f10 := hoth _ _ _ (by omega) e10
    have fr := hoth _ _ _ (by omega) er
    have fB := hbel _ _ (by omega) eB
    clear hoth hbel e9 e10 er es eB
    refine ⟨⟨f9, f10⟩, ord_nil ?_⟩
    clear f9 f10
    go_wp2
    refine bodyPost_ret_by (result_btb rfl rfl rfl rfl fr fs Tryz.underlying27 infoP Tryz.underlying27 infoP) rfl ⟨K, S, T2, rfl, HT2.out, fB⟩
  · have hx0' : (x == 0) = false := by simp [hx0]
    by_cases hx1 : x = 1
    · subst hx1
      go_wp2_with fail
      refine (anyP_any _ len cap a hm _ H7.out.cur H7.out.arg).mono ?_
      rintro e w8 ⟨R, rfl, hE⟩
      have hr8 := hr7.grown hE.grown (by omega)
      have hs8 := hs7.grown hE.grown (by omega)
      have h98 := h97.grown hE.grown (by omega)
      have h108 := h10.grown hE.grown (by omega)
      have hB8 := hB7.trans ((below_of_grown hE.grown (by have := H7.out.cur.lt; omega)).mono (by omega : w.heap.size ≤ W.heap.size))
      clear hr7 hs7 h97 h10 hB7 hE H7 hE7
      go_wp2_with (refine store_blk (cs' := pc R) rfl rfl rfl rfl rfl h98 infoP rfl (ones3 _ _ _) ?_; intro V9 h99 hoth hbel; have hr9 := hoth _ _ _ (by omega) hr8; have hs9 := hoth _ _ _ (by omega) hs8; have h109 := hoth _ _ _ (by omega) h108; have hB9 := hbel _ _ (by omega) hB8; clear hoth hbel h98 hr8 hs8 h108 hB8)
      have d9 := h99.drew
      have d10 := h109.drew
      have dr := hr9.drew
      have ds := hs9.drew
      have dB := hB9.drew
      clear h99 h109 hr9 hs9 hB9
      generalize w6.heap.size = g9 at hl6 hl7 d9 ⊢
      generalize w7.heap.size = g10 at hl7 d10 ⊢
      refine wp_region_ord [(0, false), (1, false), (2, false), (3, true), (4, true), (5, true)] (fun w' => Blk w' g9 27 #[.int .i64 R.1, .int .i64 R.2.1, .bool R.2.2] ∧ Blk w' g10 27 #[.int .i64 S.1, .int .i64 S.2.1, .bool S.2.2]) mixes (by kernel_rfl) ⟨d9, d10⟩ ?_
      repeat (refine ord_float rfl rfl (fun K hK => ⟨_, (fun w' hw => by have q0 := hw.1.cell 0; have q1 :=  hw.1.cell 1; have q2 :=  hw.1.cell 2; have q3 :=  hw.2.cell 0; have q4 :=  hw.2.cell 1; have q5 :=  hw.2.cell 2; go_simp; exact rfl), ?_⟩); go_simp; refine hK _ ?_; clear hK K)
      refine ord_store (cs' := #[.int .i64 R.1, .int .i64 R.2.1, .bool R.2.2]) rfl rfl rfl rfl rfl rfl dr infoP rfl (ones3 _ _ _) ?_
      intro u1 er hoth hbel
      have e9 := hoth _ _ _ (by omega) d9
      have e10 := hoth _ _ _ (by omega) d10
      have es := hoth _ _ _ (by omega) ds
      have eB := hbel _ _ (by omega) dB
      clear hoth hbel d9 d10 dr ds dB
      refine ⟨⟨e9, e10⟩, ?_⟩
      refine ord_op rfl rfl (fun K hK => ⟨_, _, (by go_simp <;> first | exact ⟨rfl, rfl⟩ | exact rfl), ⟨e9, e10⟩, ?_⟩)
      go_simp
      refine hK _ _ ?_
      clear hK K
      refine ord_store (cs' := #[.int .i64 S.1, .int .i64 S.2.1, .bool S.2.2]) rfl rfl rfl rfl rfl rfl es infoP rfl (ones3 _ _ _) ?_
      intro u2 fs hoth hbel
      have f9 := hoth _ _ _ (by omega) e9
      have f10 := hoth _ _ _ (by omega) e10
      have fr := hoth _ _ _ (by omega) er
      have fB := hbel _ _ (by omega) eB
      clear hoth hbel e9 e10 er es eB
      refine ⟨⟨f9, f10⟩, ord_nil ?_⟩
      clear f9 f10
      go_wp2
      refine bodyPost_ret_by (result_btb rfl rfl rfl rfl fr fs Tryz.underlying27 infoP Tryz.underlying27 infoP) rfl ⟨R, S, T, rfl, by omega, fB⟩
    · have hx1' : (x == 1) = false := by simp [hx1]
      by_cases hx2 : x = 2
      · subst hx2
        go_wp2_with fail
        refine (anyP_any _ len cap a hm _ H7.out.cur H7.out.arg).mono ?_
        rintro e w8 ⟨R, rfl, hE⟩
        have hr8 := hr7.grown hE.grown (by omega)
        have hs8 := hs7.grown hE.grown (by omega)
        have h98 := h97.grown hE.grown (by omega)
        have h108 := h10.grown hE.grown (by omega)
        have hB8 := hB7.trans ((below_of_grown hE.grown (by have := H7.out.cur.lt; omega)).mono (by omega : w.heap.size ≤ W.heap.size))
        clear hr7 hs7 h97 h10 hB7 hE H7 hE7
        go_wp2_with (refine store_blk (cs' := pc R) rfl rfl rfl rfl rfl h108 infoP rfl (ones3 _ _ _) ?_; intro V9 h109 hoth hbel; have hr9 := hoth _ _ _ (by omega) hr8; have hs9 := hoth _ _ _ (by omega) hs8; have h99 := hoth _ _ _ (by omega) h98; have hB9 := hbel _ _ (by omega) hB8; clear hoth hbel h98 hr8 hs8 h108 hB8)
        have d9 := h99.drew
        have d10 := h109.drew
        have dr := hr9.drew
        have ds := hs9.drew
        have dB := hB9.drew
        clear h99 h109 hr9 hs9 hB9
        generalize w6.heap.size = g9 at hl6 hl7 d9 ⊢
        generalize w7.heap.size = g10 at hl7 d10 ⊢
        refine wp_region_ord [(0, false), (1, false), (2, false), (3, true), (4, true), (5, true)] (fun w' => Blk w' g9 27 #[.int .i64 K.1, .int .i64 K.2.1, .bool K.2.2] ∧ Blk w' g10 27 #[.int .i64 R.1, .int .i64 R.2.1, .bool R.2.2]) mixes (by kernel_rfl) ⟨d9, d10⟩ ?_
        repeat (refine ord_float rfl rfl (fun K hK => ⟨_, (fun w' hw => by have q0 := hw.1.cell 0; have q1 :=  hw.1.cell 1; have q2 :=  hw.1.cell 2; have q3 :=  hw.2.cell 0; have q4 :=  hw.2.cell 1; have q5 :=  hw.2.cell 2; go_simp; exact rfl), ?_⟩); go_simp; refine hK _ ?_; clear hK K)
        refine ord_store (cs' := #[.int .i64 K.1, .int .i64 K.2.1, .bool K.2.2]) rfl rfl rfl rfl rfl rfl dr infoP rfl (ones3 _ _ _) ?_
        intro u1 er hoth hbel
        have e9 := hoth _ _ _ (by omega) d9
        have e10 := hoth _ _ _ (by omega) d10
        have es := hoth _ _ _ (by omega) ds
        have eB := hbel _ _ (by omega) dB
        clear hoth hbel d9 d10 dr ds dB
        refine ⟨⟨e9, e10⟩, ?_⟩
        refine ord_op rfl rfl (fun K hK => ⟨_, _, (by go_simp <;> first | exact ⟨rfl, rfl⟩ | exact rfl), ⟨e9, e10⟩, ?_⟩)
        go_simp
        refine hK _ _ ?_
        clear hK K
        refine ord_store (cs' := #[.int .i64 R.1, .int .i64 R.2.1, .bool R.2.2]) rfl rfl rfl rfl rfl rfl es infoP rfl (ones3 _ _ _) ?_
        intro u2 fs hoth hbel
        have f9 := hoth _ _ _ (by omega) e9
        have f10 := hoth _ _ _ (by omega) e10
        have fr := hoth _ _ _ (by omega) er
        have fB := hbel _ _ (by omega) eB
        clear hoth hbel e9 e10 er es eB
        refine ⟨⟨f9, f10⟩, ord_nil ?_⟩
        clear f9 f10
        go_wp2
        refine bodyPost_ret_by (result_btb rfl rfl rfl rfl fr fs Tryz.underlying27 infoP Tryz.underlying27 infoP) rfl ⟨K, R, T, rfl, by omega, fB⟩
      · have hx2' : (x == 2) = false := by simp [hx2]
        go_wp2_with fail
        clear hE7 H7
        have d9 := h97.drew
        have d10 := h10.drew
        have dr := hr7.drew
        have ds := hs7.drew
        have dB := hB7.drew
        clear h97 h10 hr7 hs7 hB7
        generalize w6.heap.size = g9 at hl6 hl7 d9 ⊢
        generalize w7.heap.size = g10 at hl7 d10 ⊢
        refine wp_region_ord [(0, false), (1, false), (2, false), (3, true), (4, true), (5, true)] (fun w' => Blk w' g9 27 #[.int .i64 K.1, .int .i64 K.2.1, .bool K.2.2] ∧ Blk w' g10 27 #[.int .i64 S.1, .int .i64 S.2.1, .bool S.2.2]) mixes (by kernel_rfl) ⟨d9, d10⟩ ?_
        repeat (refine ord_float rfl rfl (fun K hK => ⟨_, (fun w' hw => by have q0 := hw.1.cell 0; have q1 :=  hw.1.cell 1; have q2 :=  hw.1.cell 2; have q3 :=  hw.2.cell 0; have q4 :=  hw.2.cell 1; have q5 :=  hw.2.cell 2; go_simp; exact rfl), ?_⟩); go_simp; refine hK _ ?_; clear hK K)
        refine ord_store (cs' := #[.int .i64 K.1, .int .i64 K.2.1, .bool K.2.2]) rfl rfl rfl rfl rfl rfl dr infoP rfl (ones3 _ _ _) ?_
        intro u1 er hoth hbel
        have e9 := hoth _ _ _ (by omega) d9
        have e10 := hoth _ _ _ (by omega) d10
        have es := hoth _ _ _ (by omega) ds
        have eB := hbel _ _ (by omega) dB
        clear hoth hbel d9 d10 dr ds dB
        refine ⟨⟨e9, e10⟩, ?_⟩
        refine ord_op rfl rfl (fun K hK => ⟨_, _, (by go_simp <;> first | exact ⟨rfl, rfl⟩ | exact rfl), ⟨e9, e10⟩, ?_⟩)
        go_simp
        refine hK _ _ ?_
        clear hK K
        refine ord_store (cs' := #[.int .i64 S.1, .int .i64 S.2.1, .bool S.2.2]) rfl rfl rfl rfl rfl rfl es infoP rfl (ones3 _ _ _) ?_
        intro u2 fs hoth hbel
        have f9 := hoth _ _ _ (by omega) e9
        have f10 := hoth _ _ _ (by omega) e10
        have fr := hoth _ _ _ (by omega) er
        have fB := hbel _ _ (by omega) eB
        clear hoth hbel e9 e10 er es eB
        refine ⟨⟨f9, f10⟩, ord_nil ?_⟩
        clear f9 f10
        go_wp2
        refine bodyPost_ret_by (result_btb rfl rfl rfl rfl fr fs Tryz.underlying27 infoP Tryz.underlying27 infoP) rfl ⟨K, S, T, rfl, by omega, fB⟩

end Go.Proofs.YtldkdgbcnbgmiaaGreatDoor
