/-
  Texts of one's own, joined.
-/
import Derived.Test.YtckhbflolccinaaJoined22
import Derived.Test.YtckhbflolccinaaJoined1
import Derived.OpenShut

/-
  The draws of pairs.
  (-DROP-: what the seat lacks is left out.)
-/
namespace Go.Proofs.Ytckhbflolccinaa
open Go.RowKit

set_option maxHeartbeats 1600000 in
set_option maxRecDepth 100000 in
theorem drawGroup_any (len cap : Nat) (a : Option Addr) (hm : len ≤ 1048576) (w : World) (hA : ArgAt w a len w.heap.size) :
    Calls Try.prog 10 #[.slice a len cap] w fun e w' => ∃ P Q R : Pt, e = .returned (.tuple #[pv P, pv Q, pv R]) ∧ (InGp P ∧ InGp Q ∧ InGp R) ∧ Below w.heap.size w w' := by
  obtain ⟨W, hW, hb, hr, hs, ht⟩ := boxes3 w 25 25 25 #[.int .i64 0, .int .i64 0, .bool false] #[.int .i64 0, .int .i64 0, .bool false] #[.int .i64 0, .int .i64 0, .bool false]
  have hWs : w.heap.size + 1 + 1 < W.heap.size := ht.lt
  have HA : Hid (ArgAt W a len W.heap.size) := hA.up hb
  clear hA
  go_enter Try.func10, Try.ntmps10
  go_wp2_with fail
  clear hW
  refine (new_any len cap a hm _ HA.out).mono ?_
  rintro e w1 ⟨rfl, hC, hA1, hb1⟩
  have HC : Hid (CurAt w1 W.heap.size a len cap) := hC
  have HA1 : Hid (ArgAt w1 a len W.heap.size) := hA1
  have hl1 := HC.out.lt
  have hr1 := hr.on hb1 hr.lt
  have hs1 := hs.on hb1 hs.lt
  have ht1 := ht.on hb1 ht.lt
  have hB1 := below_then hb hb1
  clear hC hA1 hr hs ht hb hb1
  go_wp2_with fail
  refine (group_any _ len cap a hm _ HC.out HA1.out).mono ?_
  rintro e w2 ⟨P, rfl, hP, hE⟩
  have HP : Hid (InGp P) := hP
  obtain ⟨W2, hW2, hb2, h6⟩ := box1 w2 25 #[.int .i64 P.1, .int .i64 P.2.1, .bool P.2.2]
  have hr2 := (hr1.grown hE.grown (by omega)).on hb2 (by have := hE.grown.size; omega)
  have hs2 := (hs1.grown hE.grown (by omega)).on hb2 (by have := hE.grown.size; omega)
  have ht2 := (ht1.grown hE.grown (by omega)).on hb2 (by have := hE.grown.size; omega)
  have HE2 : Hid (CurEnd w1 W2 W.heap.size a len cap) := hE.below hb2
  have hB2 := (hB1.trans ((below_of_grown hE.grown (by omega)).mono (by omega : w.heap.size ≤ W.heap.size)))
  have hB2 := hB2.trans (hb2.mono hB2.size)
  have hl2 : W.heap.size < w2.heap.size := hE.cur.lt
  clear hE hP HC HA1 hr1 hs1 ht1 hB1 hb2
  go_wp2_with fail
  refine (group_any _ len cap a hm _ HE2.out.cur HE2.out.arg).mono ?_
  rintro e w3 ⟨Q, rfl, hQ, hE⟩
  have HQ : Hid (InGp Q) := hQ
  obtain ⟨W3, hW3, hb3, h7⟩ := box1 w3 25 #[.int .i64 Q.1, .int .i64 Q.2.1, .bool Q.2.2]
  have hr3 := (hr2.grown hE.grown (by omega)).on hb3 (by have := hE.grown.size; have := hr2.lt; omega)
  have hs3 := (hs2.grown hE.grown (by omega)).on hb3 (by have := hE.grown.size; have := hs2.lt; omega)
  have ht3 := (ht2.grown hE.grown (by omega)).on hb3 (by have := hE.grown.size; have := ht2.lt; omega)
  have h63 := (h6.grown hE.grown (by omega)).on hb3 (by have := hE.grown.size; have := h6.lt; omega)
  have HE3 : Hid (CurEnd w1 W3 W.heap.size a len cap) := (HE2.out.trans hE).below hb3
  have hB3 := hB2.trans ((below_of_grown hE.grown (by have := h6.lt; omega)).mono (by omega : w.heap.size ≤ W.heap.size))
  have hB3 := hB3.trans (hb3.mono hB3.size)
  have hl3 : w2.heap.size < w3.heap.size := by have := hE.grown.size; have := h6.lt; omega
  clear hE hQ HE2 hr2 hs2 ht2 hB2 hb3 h6
  go_wp2
  clear hW2 hW3
  generalize w2.heap.size = g6 at hl2 hl3 h63 ⊢
  generalize w3.heap.size = g7 at hl3 h7 ⊢
  have HED : Hid (CurEnd w1 W3.drew W.heap.size a len cap) := HE3.out.drew
  have h6d := h63.drew
  have h7d := h7.drew
  have hr3d := hr3.drew
  have hs3d := hs3.drew
  have ht3d := ht3.drew
  have hB3d := hB3.drew
  clear HE3 h63 h7 hr3 hs3 ht3 hB3
  refine wp_region_ord [(0, false), (1, false), (2, false), (3, true), (4, true), (5, true), (6, true)] (fun w' => Blk w' g6 25 #[.int .i64 P.1, .int .i64 P.2.1, .bool P.2.2] ∧ Blk w' g7 25 #[.int .i64 Q.1, .int .i64 Q.2.1, .bool Q.2.2]) mixes (by kernel_rfl) ⟨h6d, h7d⟩ ?_
  repeat (refine ord_float rfl rfl (fun K hK => ⟨_, (fun w' hw => by have q0 := hw.1.cell 0; have q1 :=  hw.1.cell 1; have q2 :=  hw.1.cell 2; have q3 :=  hw.2.cell 0; have q4 :=  hw.2.cell 1; have q5 :=  hw.2.cell 2; go_simp; exact rfl), ?_⟩); go_simp; refine hK _ ?_; clear hK K)
  refine ord_call rfl rfl (fun K hK => ⟨_, _, (by go_simp <;> first | exact rfl | exact ⟨rfl, rfl⟩), ?_⟩)
  refine (group_any _ len cap a hm _ HED.out.cur HED.out.arg).mono ?_
  rintro e w4 ⟨R, rfl, hR, hE⟩
  have h6e := h6d.grown hE.grown (by omega)
  have h7e := h7d.grown hE.grown (by omega)
  have hr4 := hr3d.grown hE.grown (by omega)
  have hs4 := hs3d.grown hE.grown (by omega)
  have ht4 := ht3d.grown hE.grown (by omega)
  have hB4 := hB3d.trans ((below_of_grown hE.grown (by have := HED.out.cur.lt; omega)).mono (by omega : w.heap.size ≤ W.heap.size))
  clear hE
  refine ⟨_, rfl, ⟨h6e, h7e⟩, ?_⟩
  go_simp
  refine hK _ _ ?_
  clear hK K
  refine ord_store (cs' := #[.int .i64 P.1, .int .i64 P.2.1, .bool P.2.2]) rfl rfl rfl rfl rfl rfl hr4 infoP rfl (ones3 _ _ _) ?_
  intro w5 hr5 hoth hbel
  have h6f := hoth _ _ _ (by omega) h6e
  have h7f := hoth _ _ _ (by omega) h7e
  have hs5 := hoth _ _ _ (by omega) hs4
  have ht5 := hoth _ _ _ (by omega) ht4
  have hB5 := hbel _ _ (by omega) hB4
  clear hoth hbel
  refine ⟨⟨h6f, h7f⟩, ?_⟩
  refine ord_store (cs' := #[.int .i64 Q.1, .int .i64 Q.2.1, .bool Q.2.2]) rfl rfl rfl rfl rfl rfl hs5 infoP rfl (ones3 _ _ _) ?_
  intro w6 hs6 hoth hbel
  have h6g := hoth _ _ _ (by omega) h6f
  have h7g := hoth _ _ _ (by omega) h7f
  have hr6 := hoth _ _ _ (by omega) hr5
  have ht6 := hoth _ _ _ (by omega) ht5
  have hB6 := hbel _ _ (by omega) hB5
  clear hoth hbel
  refine ⟨⟨h6g, h7g⟩, ?_⟩
  refine ord_store (cs' := #[.int .i64 R.1, .int .i64 R.2.1, .bool R.2.2]) rfl rfl rfl rfl rfl rfl ht6 infoP rfl (ones3 _ _ _) ?_
  intro w7 ht7 hoth hbel
  have h6h := hoth _ _ _ (by omega) h6g
  have h7h := hoth _ _ _ (by omega) h7g
  have hr7 := hoth _ _ _ (by omega) hr6
  have hs7 := hoth _ _ _ (by omega) hs6
  have hB7 := hbel _ _ (by omega) hB6
  clear hoth hbel
  refine ⟨⟨h6h, h7h⟩, ord_nil ?_⟩
  have HR : Hid (InGp R) := hR
  clear hR h6d h7d hr3d hs3d ht3d hB3d h6e h7e hr4 hs4 ht4 hB4 h6f h7f hr5 hs5 ht5 hB5 h6g h7g hr6 hs6 ht6 hB6 h6h h7h HED
  go_wp2
  refine bodyPost_ret_by (result_blk3 rfl rfl rfl rfl hr7 hs7 ht7 Try.underlying25 infoP Try.underlying25 infoP Try.underlying25 infoP) rfl ⟨P, Q, R, rfl, ⟨HP.out, HQ.out, HR.out⟩, hB7⟩

set_option maxHeartbeats 800000 in
set_option maxRecDepth 100000 in
theorem drawMiller_any (len cap : Nat) (a : Option Addr) (hm : len ≤ 1048576) (w : World) (hA : ArgAt w a len w.heap.size) :
    Calls Try.prog 20 #[.slice a len cap] w fun e w' => ∃ P Q : Pt, e = .returned (.tuple #[pv P, pv Q]) ∧ Below w.heap.size w w' := by
  obtain ⟨W, hW, hb, hr, hs⟩ := boxes1r w 25 25 #[.int .i64 0, .int .i64 0, .bool false] #[.int .i64 0, .int .i64 0, .bool false]
  have hWs : w.heap.size + 1 < W.heap.size := hs.lt
  have HA : Hid (ArgAt W a len W.heap.size) := hA.up hb
  clear hA
  go_enter Try.func20, Try.ntmps20
  go_wp2_with fail
  clear hW
  refine (pairP_any len cap a hm _ HA.out).mono ?_
  rintro e w1 ⟨P, Q, rfl, hb1⟩
  have hr4 := hr.on hb1 hr.lt
  have hs4 := hs.on hb1 hs.lt
  have hB4 := below_then hb hb1
  clear hr hs hb hb1 HA
  go_wp2_with (first | (refine store_blk (cs' := #[.int .i64 P.1, .int .i64 P.2.1, .bool P.2.2]) rfl rfl rfl rfl rfl hr4 infoP rfl (ones3 _ _ _) ?_; intro V hr5 hoth hbel; have hs5 := hoth _ _ _ (by omega) hs4; have hB5 := hbel _ _ (by omega) hB4; clear hoth hbel hr4 hs4 hB4) | (refine store_blk (cs' := #[.int .i64 Q.1, .int .i64 Q.2.1, .bool Q.2.2]) rfl rfl rfl rfl rfl hs5 infoP rfl (ones3 _ _ _) ?_; intro U hs6 hoth hbel; have hr6 := hoth _ _ _ (by omega) hr5; have hB6 := hbel _ _ (by omega) hB5; clear hoth hbel hr5 hs5 hB5))
  refine bodyPost_ret_by (result_blk2 rfl rfl rfl hr6 hs6 Try.underlying25 infoP Try.underlying25 infoP) rfl ⟨P, Q, rfl, hB6⟩

set_option maxHeartbeats 1600000 in
set_option maxRecDepth 100000 in
theorem drawLine_any (len cap : Nat) (a : Option Addr) (hm : len ≤ 1048576) (w : World) (hA : ArgAt w a len w.heap.size) :
    Calls Try.prog 19 #[.slice a len cap] w fun e w' => ∃ P Q R : Pt, e = .returned (.tuple #[pv P, pv Q, pv R]) ∧ Below w.heap.size w w' := by
  obtain ⟨W, hW, hb, hr, hs, ht⟩ := boxes3 w 25 25 25 #[.int .i64 0, .int .i64 0, .bool false] #[.int .i64 0, .int .i64 0, .bool false] #[.int .i64 0, .int .i64 0, .bool false]
  have hWs : w.heap.size + 1 + 1 < W.heap.size := ht.lt
  have HA : Hid (ArgAt W a len W.heap.size) := hA.up hb
  clear hA
  go_enter Try.func19, Try.ntmps19
  go_wp2_with fail
  clear hW
  refine (new_any len cap a hm _ HA.out).mono ?_
  rintro e w1 ⟨rfl, hC, hA1, hb1⟩
  have HC : Hid (CurAt w1 W.heap.size a len cap) := hC
  have HA1 : Hid (ArgAt w1 a len W.heap.size) := hA1
  have hl1 := HC.out.lt
  have hr1 := hr.on hb1 hr.lt
  have hs1 := hs.on hb1 hs.lt
  have ht1 := ht.on hb1 ht.lt
  have hB1 := below_then hb hb1
  have HAW : Hid (ArgAt w1 a len w1.heap.size) := HA.out.up hb1
  clear hC hA1 hr hs ht hb hb1 HA
  go_wp2_with fail
  refine (anyP_any _ len cap a hm _ HC.out HA1.out).mono ?_
  rintro e w2 ⟨R, rfl, hE⟩
  have hBel := below_of_grown hE.grown (by omega)
  obtain ⟨W2, hW2, hb2, h6⟩ := box1 w2 25 #[.int .i64 R.1, .int .i64 R.2.1, .bool R.2.2]
  have hr2 := (hr1.grown hE.grown (by omega)).on hb2 (by have := hE.grown.size; omega)
  have hs2 := (hs1.grown hE.grown (by omega)).on hb2 (by have := hE.grown.size; omega)
  have ht2 := (ht1.grown hE.grown (by omega)).on hb2 (by have := hE.grown.size; omega)
  have hAr : ArgAt w2 a len W.heap.size := hE.arg
  have HA2 : Hid (ArgAt W2 a len W2.heap.size) := fun j hj => by
    obtain ⟨b, off, z, h1, h2, h3⟩ := (hAr.on (hb2.mono (by have := hE.grown.size; omega))) j hj
    exact ⟨b, off, z, h1, by have := hb2.size; have := hE.grown.size; omega, h3⟩
  have hB2 := hB1.trans (hBel.mono (by omega : w.heap.size ≤ W.heap.size))
  have hB2 := hB2.trans (hb2.mono hB2.size)
  have hl2 : W.heap.size < w2.heap.size := hE.cur.lt
  clear hE HC HA1 hr1 hs1 ht1 hB1 hb2 hBel hAr HAW
  go_wp2_with fail
  clear hW2
  refine (pairP_any len cap a hm _ HA2.out).mono ?_
  rintro e w3 ⟨P, Q, rfl, hb3⟩
  obtain ⟨W3, hW3, hb4, h7, h8⟩ := boxes1r w3 25 25 #[.int .i64 P.1, .int .i64 P.2.1, .bool P.2.2] #[.int .i64 Q.1, .int .i64 Q.2.1, .bool Q.2.2]
  have hb34 := below_then hb3 hb4
  have hr3 := hr2.on hb34 hr2.lt
  have hs3 := hs2.on hb34 hs2.lt
  have ht3 := ht2.on hb34 ht2.lt
  have h63 := h6.on hb34 h6.lt
  have hB3 := below_then hB2 hb34
  have hl3 : w2.heap.size < w3.heap.size := by have := hb3.size; have := h6.lt; omega
  clear hb3 hb4 hb34 hr2 hs2 ht2 h6 hB2 HA2
  go_wp2
  clear hW3
  generalize w2.heap.size = g6 at hl2 hl3 h63 ⊢
  generalize w3.heap.size = g7 at hl3 h7 h8 ⊢
  have h6d := h63.drew
  have h7d := h7.drew
  have h8d := h8.drew
  have hr3d := hr3.drew
  have hs3d := hs3.drew
  have ht3d := ht3.drew
  have hB3d := hB3.drew
  clear h63 h7 h8 hr3 hs3 ht3 hB3
  refine wp_region_ord [(0, false), (1, false), (2, false), (3, true), (4, true), (5, true)] (fun w' => Blk w' g6 25 #[.int .i64 R.1, .int .i64 R.2.1, .bool R.2.2] ∧ Blk w' g7 25 #[.int .i64 P.1, .int .i64 P.2.1, .bool P.2.2] ∧ Blk w' (g7 + 1) 25 #[.int .i64 Q.1, .int .i64 Q.2.1, .bool Q.2.2]) mixes (by kernel_rfl) ⟨h6d, h7d, h8d⟩ ?_
  repeat (refine ord_float rfl rfl (fun K hK => ⟨_, (fun w' hw => by have q0 := hw.1.cell 0; have q1 :=  hw.1.cell 1; have q2 :=  hw.1.cell 2; have q3 :=  hw.2.1.cell 0; have q4 :=  hw.2.1.cell 1; have q5 :=  hw.2.1.cell 2; have q6 :=  hw.2.2.cell 0; have q7 :=  hw.2.2.cell 1; have q8 :=  hw.2.2.cell 2; go_simp; exact rfl), ?_⟩); go_simp; refine hK _ ?_; clear hK K)
  refine ord_store (cs' := #[.int .i64 P.1, .int .i64 P.2.1, .bool P.2.2]) rfl rfl rfl rfl rfl rfl hr3d infoP rfl (ones3 _ _ _) ?_
  intro w5 hr5 hoth hbel
  have h6f := hoth _ _ _ (by omega) h6d
  have h7f := hoth _ _ _ (by omega) h7d
  have h8f := hoth _ _ _ (by omega) h8d
  have hs5 := hoth _ _ _ (by omega) hs3d
  have ht5 := hoth _ _ _ (by omega) ht3d
  have hB5 := hbel _ _ (by omega) hB3d
  clear hoth hbel
  refine ⟨⟨h6f, h7f, h8f⟩, ?_⟩
  refine ord_store (cs' := #[.int .i64 Q.1, .int .i64 Q.2.1, .bool Q.2.2]) rfl rfl rfl rfl rfl rfl hs5 infoP rfl (ones3 _ _ _) ?_
  intro w6 hs6 hoth hbel
  have h6g := hoth _ _ _ (by omega) h6f
  have h7g := hoth _ _ _ (by omega) h7f
  have h8g := hoth _ _ _ (by omega) h8f
  have hr6 := hoth _ _ _ (by omega) hr5
  have ht6 := hoth _ _ _ (by omega) ht5
  have hB6 := hbel _ _ (by omega) hB5
  clear hoth hbel
  refine ⟨⟨h6g, h7g, h8g⟩, ?_⟩
  refine ord_store (cs' := #[.int .i64 R.1, .int .i64 R.2.1, .bool R.2.2]) rfl rfl rfl rfl rfl rfl ht6 infoP rfl (ones3 _ _ _) ?_
  intro w7 ht7 hoth hbel
  have h6h := hoth _ _ _ (by omega) h6g
  have h7h := hoth _ _ _ (by omega) h7g
  have h8h := hoth _ _ _ (by omega) h8g
  have hr7 := hoth _ _ _ (by omega) hr6
  have hs7 := hoth _ _ _ (by omega) hs6
  have hB7 := hbel _ _ (by omega) hB6
  clear hoth hbel
  refine ⟨⟨h6h, h7h, h8h⟩, ord_nil ?_⟩
  clear h6d h7d h8d hr3d hs3d ht3d hB3d h6f h7f h8f hr5 hs5 ht5 hB5 h6g h7g h8g hr6 hs6 ht6 hB6 h6h h7h h8h
  go_wp2
  refine bodyPost_ret_by (result_blk3 rfl rfl rfl rfl hr7 hs7 ht7 Try.underlying25 infoP Try.underlying25 infoP Try.underlying25 infoP) rfl ⟨P, Q, R, rfl, hB7⟩

end Go.Proofs.Ytckhbflolccinaa

/-
  What an argument of bytes is to the walk.
-/
namespace Go.Proofs.Ytckhbflolccinaa
open Go.RowKit Go.ChangeShapes Go.WideShapes

theorem argAt_of {W : World} {x : Addr} {zs : List Int} {len cap : Nat} (hl : len ≤ cap) (hz : zs.length = cap) (hcell : ∀ i, i < zs.length → W.cell? (x.add i) = some (.int .u8 (zs.getD i 0))) (hwz : ∀ n ∈ zs, (Lit.int .u8 n).wf = true) : ArgAt W (some x) len W.heap.size := by
  intro j hj
  obtain ⟨b, off, spot⟩ := x
  have hspot : spot = none := by simpa [Addr.add] using World.cell?_spot (hcell 0 (by omega))
  subst hspot
  have hc := hcell j (by omega)
  have hc0 : W.cell? ⟨b, off + j, none⟩ = some (.int .u8 (zs.getD j 0)) := by rw [← Addr.add_lit]; exact hc
  have hlt := World.block_lt_of_cell? W _ hc0
  have hb := bounds_u8 (hwz (zs.getD j 0) (by rw [List.getD_eq_getElem?_getD, List.getElem?_eq_getElem (by omega)]; simp))
  exact ⟨b, off, _, rfl, hlt, hc0, hb.1, hb.2⟩


end Go.Proofs.Ytckhbflolccinaa
