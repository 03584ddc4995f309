/-
  The draws of numbers two by two.
-/
import Derived.Test.YtolmcmoimbennaaFieldDraw
import Derived.Test.YtolmcmoimbennaaTwoI
import Derived.Test.YtolmcmoimbennaaOrd
namespace Go.Proofs.Ytolmcmoimbennaa
open Go.RowKit

/-- A block that lies there is left alone by what grows the cursor. -/
theorem Blk.grown {w w' : World} {c g : Nat} {t : TypeId} {cs : Array Value} (h : Blk w g t cs) (hg : w.grownBy w' (some c)) (hne : g ≠ c) : Blk w' g t cs := (hg.block g h.lt (fun e => hne (Option.some.inj e))).trans h
/-- The cursor behind a store into a block of one's own. -/
theorem CurEnd.row {w w1 w2 : World} {c len cap g : Nat} {a : Option Addr} (h : CurEnd w w1 c a len cap) (hg : w.heap.size ≤ g) (hc : c < w.heap.size) (hoth : ∀ k, k ≠ g → w2.heap[k]? = w1.heap[k]?) (hb : ∀ B w0, B ≤ g → Below B w0 w1 → Below B w0 w2) : CurEnd w w2 c a len cap := by
  obtain ⟨i, hh, hi, hbk⟩ := h.cur
  have hbel := hb g w1 (Nat.le_refl _) (Below.refl _ _)
  refine ⟨⟨i, hh, hi, (hoth c (by omega)).trans hbk⟩, h.arg.on (hbel.mono (by omega)), ?_⟩
  refine ⟨hbel.os.trans h.grown.os, hbel.tape.trans h.grown.tape, hbel.output.trans h.grown.output, Nat.le_trans h.grown.size hbel.size, fun k hk hne => ?_⟩
  rw [hoth k (by omega)]
  exact h.grown.block k hk hne
theorem heap_setCell_ne (w : World) (g i k : Nat) (v : Value) (h : k ≠ g) : (w.setCell ⟨g, i, none⟩ v).heap[k]? = w.heap[k]? := Below.heap_setCell w ⟨g, i, none⟩ v k h
theorem CurEnd.cell {w w1 : World} {c len cap g i : Nat} {a : Option Addr} (h : CurEnd w w1 c a len cap) (hg : w.heap.size ≤ g) (hc : c < w.heap.size) (v : Value) : CurEnd w (w1.setCell ⟨g, i, none⟩ v) c a len cap :=
  h.row hg hc (fun k hk => heap_setCell_ne w1 g i k v hk) (fun _ _ hB hb => hb.setCell hB v)

set_option maxHeartbeats 800000 in
set_option maxRecDepth 100000 in
theorem two_draw (c len cap : Nat) (a : Option Addr) (hm : len ≤ 1048576) (w : World) (hC : CurAt w c a len cap) (hA : ArgAt w a len c) :
    Calls Try.prog 37 #[.pointer (some ⟨c, 0, none⟩)] w fun e w' => ∃ x : Int × Int, e = .returned (tv x) ∧ (Inside x.1 ∧ Inside x.2) ∧ CurEnd w w' c a len cap := by
  have hcl := hC.lt
  have H0 : Hid (CurEnd w (w.alloc (.cells #[.int .i64 0, .int .i64 0] 25)) c a len cap) := (CurEnd.refl hC hA).alloc _
  have HB : Hid (Blk (w.alloc (.cells #[.int .i64 0, .int .i64 0] 25)) w.heap.size 25 #[.int .i64 0, .int .i64 0]) := Blk.new _ _ _
  clear hC hA
  go_enter Try.func37, Try.ntmps37
  go_wp2_with fail
  refine (num_any c len cap a hm _ H0.out.cur H0.out.arg).mono ?_
  rintro e w1 ⟨x, rfl, hx, hE⟩
  have H1 : Hid (CurEnd w w1 c a len cap) := H0.out.trans hE
  have HB1 : Hid (Blk w1 w.heap.size 25 #[.int .i64 0, .int .i64 0]) := HB.out.grown hE.grown (by omega)
  have HX : Hid (Inside x) := hx
  clear hE hx H0 HB
  go_wp2_with fail
  refine (num_any c len cap a hm _ H1.out.cur H1.out.arg).mono ?_
  rintro e w2 ⟨y, rfl, hy, hE⟩
  have H2 : Hid (CurEnd w w2 c a len cap) := H1.out.trans hE
  have hB2 : Blk w2 w.heap.size 25 #[.int .i64 0, .int .i64 0] := HB1.out.grown hE.grown (by omega)
  have HY : Hid (Inside y) := hy
  have q0 := hB2.cell 0
  have q1 := hB2.cell 1
  have r0 := hB2.free 0
  have r1 := hB2.free 1
  clear hE hy H1 HB1
  go_wp2
  refine bodyPost_ret_by (result_blk rfl rfl ((hB2.set 0 _).set 1 _) Try.underlying25 infoT) rfl ⟨(x, y), rfl, ⟨HX.out, HY.out⟩, (H2.out.cell (Nat.le_refl _) hcl _).cell (Nat.le_refl _) hcl _⟩

set_option maxHeartbeats 800000 in
set_option maxRecDepth 100000 in
theorem drawTwoOk_any (len cap : Nat) (a : Option Addr) (hm : len ≤ 1048576) (w : World) (hA : ArgAt w a len w.heap.size) :
    Calls Try.prog 19 #[.slice a len cap] w fun e w' => ∃ x : Int × Int, e = .returned (tv x) ∧ (Inside x.1 ∧ Inside x.2) ∧ Below w.heap.size w w' := by
  obtain ⟨W, hW, hb, hr⟩ := box1 w 25 #[.int .i64 0, .int .i64 0]
  have HA : Hid (ArgAt W a len W.heap.size) := fun j hj => by
    obtain ⟨b, off, z, h1, h2, h3⟩ := (hA.on hb) j hj
    exact ⟨b, off, z, h1, by have := hr.lt; omega, h3⟩
  clear hA
  have hWs : w.heap.size < W.heap.size := hr.lt
  go_enter Try.func19, Try.ntmps19
  go_wp2_with fail
  clear hW
  refine (new_any len cap a hm _ HA.out).mono ?_
  rintro e w1 ⟨rfl, hC, hA1, hb1⟩
  have HC : Hid (CurAt w1 W.heap.size a len cap) := hC
  have HA1 : Hid (ArgAt w1 a len W.heap.size) := hA1
  have hl1 := HC.out.lt
  have hr1 := hr.on hb1 hr.lt
  have hB1 := below_then hb hb1
  clear hC hA1 hr hb hb1
  go_wp2_with fail
  refine (two_draw _ len cap a hm _ HC.out HA1.out).mono ?_
  rintro e w2 ⟨x, rfl, hx, hE⟩
  have hr2 := hr1.grown hE.grown (by omega)
  have hB2 := hB1.trans ((below_of_grown hE.grown (by omega)).mono (by omega : w.heap.size ≤ W.heap.size))
  have HX : Hid (Inside x.1 ∧ Inside x.2) := hx
  have q0 := hr2.cell 0
  have q1 := hr2.cell 1
  have r0 := hr2.free 0
  have r1 := hr2.free 1
  clear hE hx HC HA1 hr1 hB1
  go_wp2
  refine bodyPost_ret_by (result_blk rfl rfl ((hr2.set 0 _).set 1 _) Try.underlying25 infoT) rfl ⟨x, rfl, HX.out, (hB2.setCell (by simp) _).setCell (by simp) _⟩

/-- Two results that live in blocks. -/
theorem result_blk2 {P : Program} {fn : Func} {p q : Tmp} {ty ty' t t' : TypeId} {fs fs' : Array Field} (h : fn.results = #[.cell p ty, .cell q ty']) {tmps : Array Value} {w : World} {g g' : Nat} {cs cs' : Array Value} (hp : tmps.getD p undef = .pointer (some ⟨g, 0, none⟩)) (hq : tmps.getD q undef = .pointer (some ⟨g', 0, none⟩))
    (hA : Blk w g t cs) (hB : Blk w g' t' cs') (hu : P.underlying ty = some (.struct fs)) (hi : (P.info? ty).map (·.size) = some cs.size) (hu' : P.underlying ty' = some (.struct fs')) (hi' : (P.info? ty').map (·.size) = some cs'.size) : (results fn tmps).run P w = .ok (.tuple #[.agg cs, .agg cs']) w := by
  have hl := hA.load hu hi
  have hl' := hB.load hu' hi'
  have hp' : tmps[p]?.getD undef = .pointer (some ⟨g, 0, none⟩) := by simpa using hp
  have hq' : tmps[q]?.getD undef = .pointer (some ⟨g', 0, none⟩) := by simpa using hq
  simp [results, h, hp', hq', asAddr, hl, hl', Result.andThen]

set_option maxHeartbeats 1600000 in
set_option maxRecDepth 100000 in
theorem pair2_draw (len cap : Nat) (a : Option Addr) (hm : len ≤ 1048576) (w : World) (hA : ArgAt w a len w.heap.size) :
    Calls Try.prog 40 #[.slice a len cap] w fun e w' => ∃ x y : Int × Int, e = .returned (.tuple #[tv x, tv y]) ∧ ((Inside x.1 ∧ Inside x.2) ∧ Inside y.1 ∧ Inside y.2) ∧ Below w.heap.size w w' := by
  obtain ⟨W, hW, hb, hr, hs⟩ := boxes1r w 25 25 #[.int .i64 0, .int .i64 0] #[.int .i64 0, .int .i64 0]
  have hWs : w.heap.size + 1 < W.heap.size := hs.lt
  have HA : Hid (ArgAt W a len W.heap.size) := fun j hj => by
    obtain ⟨b, off, z, h1, h2, h3⟩ := (hA.on hb) j hj
    exact ⟨b, off, z, h1, by omega, h3⟩
  clear hA
  go_enter Try.func40, Try.ntmps40
  go_wp2_with fail
  clear hW
  refine (new_any len cap a hm _ HA.out).mono ?_
  rintro e w1 ⟨rfl, hC, hA1, hb1⟩
  have HC : Hid (CurAt w1 W.heap.size a len cap) := hC
  have HA1 : Hid (ArgAt w1 a len W.heap.size) := hA1
  have hl1 := HC.out.lt
  have hr1 := hr.on hb1 hr.lt
  have hs1 := hs.on hb1 hs.lt
  have hB1 := below_then hb hb1
  clear hC hA1 hr hs hb hb1
  go_wp2_with fail
  refine (two_draw _ len cap a hm _ HC.out HA1.out).mono ?_
  rintro e w2 ⟨x, rfl, hx, hE⟩
  have hr2 := (hr1.grown hE.grown (by omega)).alloc (.cells #[.int .i64 x.1, .int .i64 x.2] 25)
  have hs2 := (hs1.grown hE.grown (by omega)).alloc (.cells #[.int .i64 x.1, .int .i64 x.2] 25)
  have h5 := Blk.new w2 25 #[.int .i64 x.1, .int .i64 x.2]
  have HE : Hid (CurEnd w1 (w2.alloc (.cells #[.int .i64 x.1, .int .i64 x.2] 25)) W.heap.size a len cap) := hE.alloc _
  have hB2 := (hB1.trans ((below_of_grown hE.grown (by omega)).mono (by omega : w.heap.size ≤ W.heap.size))).alloc (by have := hE.grown.size; omega) (.cells #[.int .i64 x.1, .int .i64 x.2] 25)
  have HX : Hid (Inside x.1 ∧ Inside x.2) := hx
  have hl2 : W.heap.size < w2.heap.size := hE.cur.lt
  clear hE hx HC HA1 hr1 hs1 hB1
  go_wp2
  generalize hg5 : w2.heap.size = g5 at h5 hl2 ⊢
  generalize w2.alloc (.cells #[.int .i64 x.1, .int .i64 x.2] 25) = V at hr2 hs2 h5 HE hB2 ⊢
  clear hg5
  have HED : Hid (CurEnd w1 V.drew W.heap.size a len cap) := ⟨HE.out.cur, HE.out.arg, grown_drew HE.out.grown⟩
  have h5d := h5.drew
  have hr2d := hr2.drew
  have hs2d := hs2.drew
  have hB2d := hB2.drew
  clear HE h5 hr2 hs2 hB2
  refine wp_region_ord [(0, false), (1, false), (2, true), (3, true), (4, true)] (fun w' => Blk w' g5 25 #[.int .i64 x.1, .int .i64 x.2]) mixes (by kernel_rfl) h5d ?_
  repeat (refine ord_float rfl rfl (fun K hK => ⟨_, (fun w' hw => by have q0 := hw.cell 0; have q1 :=  hw.cell 1; go_simp; exact rfl), ?_⟩); go_simp; refine hK _ ?_; clear hK K)
  refine ord_call rfl rfl (fun K hK => ⟨_, _, (by go_simp <;> first | exact rfl | exact ⟨rfl, rfl⟩), ?_⟩)
  refine (two_draw _ len cap a hm _ HED.out.cur HED.out.arg).mono ?_
  rintro e w3 ⟨y, rfl, hy, hE3⟩
  have h5b := h5d.grown hE3.grown (by omega)
  have hr3 := hr2d.grown hE3.grown (by omega)
  have hs3 := hs2d.grown hE3.grown (by omega)
  have hB3 := hB2d.trans ((below_of_grown hE3.grown (by have := HED.out.cur.lt; omega)).mono (by omega : w.heap.size ≤ W.heap.size))
  clear hE3
  refine ⟨_, rfl, h5b, ?_⟩
  go_simp
  refine hK _ _ ?_
  clear hK K
  refine ord_store (cs' := #[.int .i64 x.1, .int .i64 x.2]) rfl rfl rfl rfl rfl rfl hr3 infoT rfl (ones2 _ _) ?_
  intro w4 hr4 hoth hbel
  have h5c := hoth _ _ _ (by omega) h5b
  have hs4 := hoth _ _ _ (by omega) hs3
  have hB4 := hbel _ _ (by omega) hB3
  clear hoth hbel
  refine ⟨h5c, ?_⟩
  refine ord_store (cs' := #[.int .i64 y.1, .int .i64 y.2]) rfl rfl rfl rfl rfl rfl hs4 infoT rfl (ones2 _ _) ?_
  intro w5 hs5 hoth hbel
  have h5e := hoth _ _ _ (by omega) h5c
  have hr5 := hoth _ _ _ (by omega) hr4
  have hB5 := hbel _ _ (by omega) hB4
  clear hoth hbel
  refine ⟨h5e, ord_nil ?_⟩
  have HY : Hid (Inside y.1 ∧ Inside y.2) := hy
  clear hy h5d hr2d hs2d hB2d h5b hr3 hs3 hB3 hr4 h5c hs4 hB4 h5e HED
  go_wp2
  refine bodyPost_ret_by (result_blk2 rfl rfl rfl hr5 hs5 Try.underlying25 infoT Try.underlying25 infoT) rfl ⟨x, y, rfl, ⟨HX.out, HY.out⟩, hB5⟩

end Go.Proofs.Ytolmcmoimbennaa
