/-
  The draws of two numbers two by two, and of a power.
-/
import Derived.Test.YtolmcmoimbennaaTwoDraw
namespace Go.Proofs.Ytolmcmoimbennaa
open Go.RowKit

set_option maxHeartbeats 800000 in
set_option maxRecDepth 100000 in
theorem drawTwoMul_any (len cap : Nat) (a : Option Addr) (hm : len ≤ 1048576) (w : World) (hA : ArgAt w a len w.heap.size) :
    Calls Try.prog 20 #[.slice a len cap] w fun e w' => ∃ x y : Int × Int, e = .returned (.tuple #[tv x, tv y]) ∧ ((Inside x.1 ∧ Inside x.2) ∧ Inside y.1 ∧ Inside y.2) ∧ Below w.heap.size w w' := by
  obtain ⟨W, hW, hb, hr, hs⟩ := boxes1r w 25 25 #[.int .i64 0, .int .i64 0] #[.int .i64 0, .int .i64 0]
  have HA : Hid (ArgAt W a len W.heap.size) := fun j hj => by
    obtain ⟨b, off, z, h1, h2, h3⟩ := (hA.on hb) j hj
    exact ⟨b, off, z, h1, by have := hs.lt; omega, h3⟩
  clear hA
  go_enter Try.func20, Try.ntmps20
  go_wp2_with fail
  clear hW
  refine (pair2_draw len cap a hm _ HA.out).mono ?_
  rintro e w1 ⟨x, y, rfl, hxy, hb1⟩
  have HX : Hid ((Inside x.1 ∧ Inside x.2) ∧ Inside y.1 ∧ Inside y.2) := hxy
  have hr1 := hr.on hb1 hr.lt
  have hs1 := hs.on hb1 hs.lt
  have hB1 := below_then hb hb1
  clear hxy hr hs hb hb1 HA
  go_wp2_with (first | (refine store_blk (cs' := #[.int .i64 x.1, .int .i64 x.2]) rfl rfl rfl rfl rfl hr1 infoT rfl (ones2 _ _) ?_; intro w2 hr2 hoth hbel; have hs2 := hoth _ _ _ (by omega) hs1; have hB2 := hbel _ _ (by omega) hB1; clear hoth hbel hr1 hs1 hB1) | (refine store_blk (cs' := #[.int .i64 y.1, .int .i64 y.2]) rfl rfl rfl rfl rfl hs2 infoT rfl (ones2 _ _) ?_; intro w3 hs3 hoth hbel; have hr3 := hoth _ _ _ (by omega) hr2; have hB3 := hbel _ _ (by omega) hB2; clear hoth hbel hr2 hs2 hB2))
  refine bodyPost_ret_by (result_blk2 rfl rfl rfl hr3 hs3 Try.underlying25 infoT Try.underlying25 infoT) rfl ⟨x, y, rfl, HX.out, hB3⟩

/-- A result that lives in a block, and one in a slot. -/
theorem result_blk_tmp {P : Program} {fn : Func} {p u : Tmp} {ty t : TypeId} {fs : Array Field} (h : fn.results = #[.cell p ty, .tmp u]) {tmps : Array Value} {w : World} {g : Nat} {cs : Array Value} {v : Value} (hp : tmps.getD p undef = .pointer (some ⟨g, 0, none⟩)) (hv : tmps.getD u undef = v)
    (hA : Blk w g t cs) (hu : P.underlying ty = some (.struct fs)) (hi : (P.info? ty).map (·.size) = some cs.size) : (results fn tmps).run P w = .ok (.tuple #[.agg cs, v]) w := by
  have hl := hA.load hu hi
  have hp' : tmps[p]?.getD undef = .pointer (some ⟨g, 0, none⟩) := by simpa using hp
  have hv' : tmps[u]?.getD undef = v := by simpa using hv
  simp [results, h, hp', hv', asAddr, hl, Result.andThen]

set_option maxHeartbeats 800000 in
set_option maxRecDepth 100000 in
theorem drawTwoPow_any (len cap : Nat) (a : Option Addr) (hm : len ≤ 1048576) (w : World) (hA : ArgAt w a len w.heap.size) :
    Calls Try.prog 15 #[.slice a len cap] w fun e w' => ∃ (x : Int × Int) (n : Int), e = .returned (.tuple #[tv x, .int .i64 n]) ∧ Inside n ∧ Below w.heap.size w w' := by
  obtain ⟨W, hW, hb, hr⟩ := box1 w 25 #[.int .i64 0, .int .i64 0]
  have HA : Hid (ArgAt W a len W.heap.size) := fun j hj => by
    obtain ⟨b, off, z, h1, h2, h3⟩ := (hA.on hb) j hj
    exact ⟨b, off, z, h1, by have := hr.lt; omega, h3⟩
  clear hA
  have hWs : w.heap.size < W.heap.size := hr.lt
  go_enter Try.func15, Try.ntmps15
  go_wp2_with fail
  clear hW
  refine (new_any len cap a hm _ HA.out).mono ?_
  rintro e w1 ⟨rfl, hC, hA1, hb1⟩
  have HC : Hid (CurAt w1 W.heap.size a len cap) := hC
  have HA1 : Hid (ArgAt w1 a len W.heap.size) := hA1
  have hl1 := HC.out.lt
  have hr1 := hr.on hb1 hr.lt
  have hB1 := below_then hb hb1
  clear hC hA1 hr hb hb1
  go_wp2_with fail
  refine (num_any _ len cap a hm _ HC.out HA1.out).mono ?_
  rintro e w2 ⟨n, rfl, hn, hE⟩
  have HE : Hid (CurEnd w1 w2 W.heap.size a len cap) := hE
  have HN : Hid (Inside n) := hn
  clear hE hn HC HA1
  go_wp2_with fail
  refine (two_draw _ len cap a hm _ HE.out.cur HE.out.arg).mono ?_
  rintro e w3 ⟨x, rfl, _, hE3⟩
  have hE := HE.out.trans hE3
  have hr3 := hr1.grown hE.grown (by omega)
  have hB3 := hB1.trans ((below_of_grown hE.grown (by omega)).mono (by omega : w.heap.size ≤ W.heap.size))
  clear hE hE3 HE hr1 hB1
  go_wp2_with (refine store_blk (cs' := #[.int .i64 x.1, .int .i64 x.2]) rfl rfl rfl rfl rfl hr3 infoT rfl (ones2 _ _) ?_; intro w4 hr4 hoth hbel; have hB4 := hbel _ _ (by omega) hB3; clear hoth hbel hr3 hB3)
  refine bodyPost_ret_by (result_blk_tmp rfl rfl rfl hr4 Try.underlying25 infoT) rfl ⟨x, n, rfl, HN.out, hB4⟩

set_option maxHeartbeats 1600000 in
set_option maxRecDepth 100000 in
theorem drawTwos_any (len cap : Nat) (a : Option Addr) (hm : len ≤ 1048576) (w : World) (hA : ArgAt w a len w.heap.size) :
    Calls Try.prog 9 #[.slice a len cap] w fun e w' => ∃ p q : Int × Int, e = .returned (.tuple #[tv p, tv q]) ∧ (In2 p ∧ p.1 ≠ 0 ∧ In2 q) ∧ Below w.heap.size w w' := by
  obtain ⟨W, hW, hb, hr, hs⟩ := boxes1r w 25 25 #[.int .i64 0, .int .i64 0] #[.int .i64 0, .int .i64 0]
  have hWs : w.heap.size + 1 < W.heap.size := hs.lt
  have HA : Hid (ArgAt W a len W.heap.size) := fun j hj => by
    obtain ⟨b, off, z, h1, h2, h3⟩ := (hA.on hb) j hj
    exact ⟨b, off, z, h1, by omega, h3⟩
  clear hA
  go_enter Try.func9, Try.ntmps9
  go_wp2_with fail
  clear hW
  refine (new_any len cap a hm _ HA.out).mono ?_
  rintro e w1 ⟨rfl, hC, hA1, hb1⟩
  have HC : Hid (CurAt w1 W.heap.size a len cap) := hC
  have HA1 : Hid (ArgAt w1 a len W.heap.size) := hA1
  have hl1 := HC.out.lt
  have hr1 := hr.on hb1 hr.lt
  have hs1 := hs.on hb1 hs.lt
  have hB1 := below_then hb hb1
  clear hC hA1 hr hs hb hb1
  go_wp2_with fail
  refine (below_any _ len cap a hm 250 (by omega) (by omega) _ HC.out HA1.out).mono ?_
  rintro e w2 ⟨x, rfl, x0, x1, hE⟩
  have HE : Hid (CurEnd w1 w2 W.heap.size a len cap) := hE
  clear hE HC HA1
  go_wp2_with fail
  refine (below_any _ len cap a hm 250 (by omega) (by omega) _ HE.out.cur HE.out.arg).mono ?_
  rintro e w3 ⟨y, rfl, y0, y1, hE3⟩
  have hE := HE.out.trans hE3
  obtain ⟨p1, hp1⟩ : ∃ p1 : Int, p1 = 1 + x * 47 := ⟨_, rfl⟩
  obtain ⟨p2, hp2⟩ : ∃ p2 : Int, p2 = y * 31 := ⟨_, rfl⟩
  have HP : Hid (In2 (p1, p2) ∧ p1 ≠ 0) := ⟨⟨⟨by simp only; omega, by simp only; omega⟩, by simp only; omega, by simp only; omega⟩, by omega⟩
  have hp1' := hp1.symm
  have hp2' := hp2.symm
  clear hp1 hp2
  have hr2 := (hr1.grown hE.grown (by omega)).alloc (.cells #[.int .i64 p1, .int .i64 p2] 25)
  have hs2 := (hs1.grown hE.grown (by omega)).alloc (.cells #[.int .i64 p1, .int .i64 p2] 25)
  have h5 := Blk.new w3 25 #[.int .i64 p1, .int .i64 p2]
  have HE' : Hid (CurEnd w1 (w3.alloc (.cells #[.int .i64 p1, .int .i64 p2] 25)) W.heap.size a len cap) := hE.alloc _
  have hB2 := (hB1.trans ((below_of_grown hE.grown (by omega)).mono (by omega : w.heap.size ≤ W.heap.size))).alloc (by have := hE.grown.size; omega) (.cells #[.int .i64 p1, .int .i64 p2] 25)
  have hl2 : W.heap.size < w3.heap.size := hE.cur.lt
  clear hE hE3 HE hr1 hs1 hB1
  go_wp2
  clear hp1' hp2' x0 x1 y0 y1
  generalize hg5 : w3.heap.size = g5 at h5 hl2 ⊢
  generalize w3.alloc (.cells #[.int .i64 p1, .int .i64 p2] 25) = V at hr2 hs2 h5 HE' hB2 ⊢
  clear hg5
  have HED : Hid (CurEnd w1 V.drew W.heap.size a len cap) := ⟨HE'.out.cur, HE'.out.arg, grown_drew HE'.out.grown⟩
  have h5d := h5.drew
  have hr2d := hr2.drew
  have hs2d := hs2.drew
  have hB2d := hB2.drew
  clear HE' h5 hr2 hs2 hB2
  refine wp_region_ord [(0, false), (1, false), (4, false), (2, true), (3, false), (5, true), (6, false), (7, false), (8, false), (9, true), (10, true)] (fun w' => Blk w' g5 25 #[.int .i64 p1, .int .i64 p2]) mixes (by kernel_rfl) h5d ?_
  repeat (refine ord_float rfl rfl (fun K hK => ⟨_, (fun w' hw => by have q0 := hw.cell 0; have q1 :=  hw.cell 1; go_simp; exact rfl), ?_⟩); go_simp; refine hK _ ?_; clear hK K)
  refine ord_call rfl rfl (fun K hK => ⟨_, _, (by go_simp <;> first | exact rfl | exact ⟨rfl, rfl⟩), ?_⟩)
  refine (below_any _ len cap a hm 250 (by omega) (by omega) _ HED.out.cur HED.out.arg).mono ?_
  rintro e w4 ⟨z, rfl, z0, z1, hE4⟩
  have h5b := h5d.grown hE4.grown (by omega)
  have HE4 : Hid (CurEnd w1 w4 W.heap.size a len cap) := HED.out.trans hE4
  have hr4 := hr2d.grown hE4.grown (by omega)
  have hs4 := hs2d.grown hE4.grown (by omega)
  have hB4 := hB2d.trans ((below_of_grown hE4.grown (by have := HED.out.cur.lt; omega)).mono (by omega : w.heap.size ≤ W.heap.size))
  clear hE4
  have hz : IntKind.i64.wrap (z * 41) = z * 41 := IntWalk.i64_in _ (by omega)
  refine ⟨_, rfl, h5b, ?_⟩
  go_simp
  refine hK _ _ ?_
  clear hK K
  repeat (refine ord_float rfl rfl (fun K hK => ⟨_, (fun w' hw => by have q0 := hw.cell 0; have q1 :=  hw.cell 1; go_simp; exact rfl), ?_⟩); go_simp; refine hK _ ?_; clear hK K)
  refine ord_call rfl rfl (fun K hK => ⟨_, _, (by go_simp <;> first | exact rfl | exact ⟨rfl, rfl⟩), ?_⟩)
  refine (below_any _ len cap a hm 250 (by omega) (by omega) _ HE4.out.cur HE4.out.arg).mono ?_
  rintro e w5 ⟨u, rfl, u0, u1, hE5⟩
  have h5c := h5b.grown hE5.grown (by omega)
  have hr5 := hr4.grown hE5.grown (by omega)
  have hs5 := hs4.grown hE5.grown (by omega)
  have hB5 := hB4.trans ((below_of_grown hE5.grown (by have := HE4.out.cur.lt; omega)).mono (by omega : w.heap.size ≤ W.heap.size))
  clear hE5
  have hu : IntKind.i64.wrap (u * 13) = u * 13 := IntWalk.i64_in _ (by omega)
  have hu' : IntKind.i64.wrap (1 + u * 13) = 1 + u * 13 := IntWalk.i64_in _ (by omega)
  refine ⟨_, rfl, h5c, ?_⟩
  go_simp
  refine hK _ _ ?_
  clear hK K
  repeat (refine ord_float rfl rfl (fun K hK => ⟨_, (fun w' hw => by have q0 := hw.cell 0; have q1 :=  hw.cell 1; go_simp; exact rfl), ?_⟩); go_simp; refine hK _ ?_; clear hK K)
  refine ord_store (cs' := #[.int .i64 p1, .int .i64 p2]) rfl rfl rfl rfl rfl rfl hr5 infoT rfl (ones2 _ _) ?_
  intro w6 hr6 hoth hbel
  have h5e := hoth _ _ _ (by omega) h5c
  have hs6 := hoth _ _ _ (by omega) hs5
  have hB6 := hbel _ _ (by omega) hB5
  clear hoth hbel
  refine ⟨h5e, ?_⟩
  refine ord_store (cs' := #[.int .i64 (z * 41), .int .i64 (1 + u * 13)]) rfl rfl rfl rfl rfl rfl hs6 infoT rfl (ones2 _ _) ?_
  intro w7 hs7 hoth hbel
  have h5f := hoth _ _ _ (by omega) h5e
  have hr7 := hoth _ _ _ (by omega) hr6
  have hB7 := hbel _ _ (by omega) hB6
  clear hoth hbel
  refine ⟨h5f, ord_nil ?_⟩
  have HQ : Hid (In2 (z * 41, 1 + u * 13)) := ⟨⟨by simp only; omega, by simp only; omega⟩, by simp only; omega, by simp only; omega⟩
  clear h5d hr2d hs2d hB2d h5b hr4 hs4 hB4 h5c hr5 hs5 hB5 h5e hr6 hs6 hB6 h5f HED HE4
  go_wp2
  refine bodyPost_ret_by (result_blk2 rfl rfl rfl hr7 hs7 Try.underlying25 infoT Try.underlying25 infoT) rfl ⟨(p1, p2), (z * 41, 1 + u * 13), rfl, ⟨HP.out.1, HP.out.2, HQ.out⟩, hB7⟩

end Go.Proofs.Ytolmcmoimbennaa
