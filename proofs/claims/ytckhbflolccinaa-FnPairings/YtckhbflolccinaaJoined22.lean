/-
  Texts of one's own, joined.
-/
import Derived.Test.YtckhbflolccinaaPtDraw
import Derived.Test.YtckhbflolccinaaJoined6
import Derived.Test.YtckhbflolccinaaJoined20

/-
  The draws of points: two and three of them.
  (-DROP-: what the seat lacks is left out.)
-/
namespace Go.Proofs.Ytckhbflolccinaa
open Go.RowKit

theorem ArgAt.up {w W : World} {a : Option Addr} {len : Nat} (h : ArgAt w a len w.heap.size) (hb : Below w.heap.size w W) : ArgAt W a len W.heap.size := fun j hj => by
  obtain ⟨b, off, z, h1, h2, h3⟩ := (h.on hb) j hj
  exact ⟨b, off, z, h1, by have := hb.size; omega, h3⟩

/-- Three blocks. -/
theorem boxes3 (w : World) (t1 t2 t3 : TypeId) (c1 c2 c3 : Array Value) : ∃ W, ((w.alloc (.cells c1 t1)).alloc (.cells c2 t2)).alloc (.cells c3 t3) = W ∧ Below w.heap.size w W ∧ Blk W w.heap.size t1 c1 ∧ Blk W (w.heap.size + 1) t2 c2 ∧ Blk W (w.heap.size + 1 + 1) t3 c3 := boxes2r w t1 t2 t3 c1 c2 c3

end Go.Proofs.Ytckhbflolccinaa

/-
  The draws: a text that is spoilt.
  (-DROP-: what the seat lacks is left out.)
-/
namespace Go.Proofs.Ytckhbflolccinaa
open Go.RowKit

theorem size_cut (s : ByteArray) (i j : Nat) (h : j ≤ s.size) : (s.extract i j).size = j - i := by
  rw [ByteArray.size_extract]; omega

end Go.Proofs.Ytckhbflolccinaa

/-
  The draws of points: pairs, numbers and points, texts.
  (-DROP-: what the seat lacks is left out.)
-/
namespace Go.Proofs.Ytckhbflolccinaa
open Go.RowKit

theorem ptText_size (P : Pt) : (ptText P).size ≤ 3 := by
  show (ptBytes P).toArray.size ≤ 3
  unfold ptBytes
  split
  · split <;> simp
  · simp

end Go.Proofs.Ytckhbflolccinaa

/-
  The draws of points: two for a sum, lists.
  (-DROP-: what the seat lacks is left out.)
-/
namespace Go.Proofs.Ytckhbflolccinaa
open Go.RowKit

set_option maxHeartbeats 1600000 in
set_option maxRecDepth 100000 in
theorem pairP_any (len cap : Nat) (a : Option Addr) (hm : len ≤ 1048576) (w : World) (hA : ArgAt w a len w.heap.size) :
    Calls Try.prog 55 #[.slice a len cap] w fun e w' => ∃ P Q : Pt, e = .returned (.tuple #[pv P, pv Q]) ∧ Below w.heap.size w w' := by
  obtain ⟨W, hW, hb, hr, hs⟩ := boxes1r w 25 25 #[.int .i64 0, .int .i64 0, .bool false] #[.int .i64 0, .int .i64 0, .bool false]
  have hWs : w.heap.size + 1 < W.heap.size := hs.lt
  have HA : Hid (ArgAt W a len W.heap.size) := hA.up hb
  clear hA
  go_enter Try.func55, Try.ntmps55
  go_wp2_with fail
  clear hW
  refine (new_any len cap a hm _ HA.out).mono ?_
  rintro e w1 ⟨rfl, hC, hA1, hb1⟩
  have H1 : Hid (CurEnd w1 w1 W.heap.size a len cap) := CurEnd.refl hC hA1
  have hl1 : W.heap.size < w1.heap.size := hC.lt
  have hr1 := hr.on hb1 hr.lt
  have hs1 := hs.on hb1 hs.lt
  have hB1 := below_then hb hb1
  clear hC hA1 hr hs hb hb1 HA
  go_wp2_with fail
  refine (below_any _ len cap a hm 5 (by omega) (by omega) _ H1.out.cur H1.out.arg).mono ?_
  rintro e w2 ⟨x, rfl, x0, x1, hE⟩
  have H2 : Hid (CurEnd w1 w2 W.heap.size a len cap) := H1.out.trans hE
  clear hE H1
  go_wp2_with fail
  refine (anyP_any _ len cap a hm _ H2.out.cur H2.out.arg).mono ?_
  rintro e w3 ⟨P, rfl, hE⟩
  have hE3 := H2.out.trans hE
  obtain ⟨W3, hW3, hb3, h6⟩ := box1 w3 25 #[.int .i64 P.1, .int .i64 P.2.1, .bool P.2.2]
  have hr3 := (hr1.grown hE3.grown (by omega)).on hb3 (by have := hE3.grown.size; omega)
  have hs3 := (hs1.grown hE3.grown (by omega)).on hb3 (by have := hE3.grown.size; omega)
  have HE3 : Hid (CurEnd w1 W3 W.heap.size a len cap) := hE3.below hb3
  have hB3 := hB1.trans ((below_of_grown hE3.grown (by omega)).mono (by omega : w.heap.size ≤ W.heap.size))
  have hB3 := hB3.trans (hb3.mono hB3.size)
  have hl3 : W.heap.size < w3.heap.size := hE3.cur.lt
  clear hE hE3 H2 hr1 hs1 hB1 hb3
  rcases (show x = 0 ∨ x = 1 ∨ 2 ≤ x by omega) with rfl | rfl | h2
  · go_wp2
    clear hW3
    generalize w3.heap.size = g6 at hl3 h6 ⊢
    have h6d := h6.drew
    have hr3d := hr3.drew
    have hs3d := hs3.drew
    have hB3d := hB3.drew
    clear HE3 h6 hr3 hs3 hB3
    refine wp_region_ord [(0, false), (1, false), (2, true), (3, true)] (fun w' => Blk w' g6 25 #[.int .i64 P.1, .int .i64 P.2.1, .bool P.2.2]) mixes (by kernel_rfl) h6d ?_
    repeat (refine ord_float rfl rfl (fun K hK => ⟨_, (fun w' hw => by have q0 := hw.cell 0; have q1 :=  hw.cell 1; have q2 :=  hw.cell 2; go_simp; exact rfl), ?_⟩); go_simp; refine hK _ ?_; clear hK K)
    refine ord_store (cs' := #[.int .i64 P.1, .int .i64 P.2.1, .bool P.2.2]) rfl rfl rfl rfl rfl rfl hr3d infoP rfl (ones3 _ _ _) ?_
    intro w5 hr5 hoth hbel
    have h6f := hoth _ _ _ (by omega) h6d
    have hs5 := hoth _ _ _ (by omega) hs3d
    have hB5 := hbel _ _ (by omega) hB3d
    clear hoth hbel
    refine ⟨h6f, ?_⟩
    refine ord_store (cs' := #[.int .i64 P.1, .int .i64 P.2.1, .bool P.2.2]) rfl rfl rfl rfl rfl rfl hs5 infoP rfl (ones3 _ _ _) ?_
    intro w6 hs6 hoth hbel
    have h6g := hoth _ _ _ (by omega) h6f
    have hr6 := hoth _ _ _ (by omega) hr5
    have hB6 := hbel _ _ (by omega) hB5
    clear hoth hbel
    refine ⟨h6g, ord_nil ?_⟩
    clear h6d hr3d hs3d hB3d h6f hr5 hs5 hB5 h6g
    go_wp2
    refine bodyPost_ret_by (result_blk2 rfl rfl rfl hr6 hs6 Try.underlying25 infoP Try.underlying25 infoP) rfl ⟨P, P, rfl, hB6⟩
  · have HN : Hid (∀ w, Calls Try.prog 53 #[pv P] w fun e w' => e = .returned (pv (pNeg P)) ∧ Below w.heap.size w w') := sNeg_any P
    generalize pNeg P = N at HN
    go_wp2
    clear hW3
    generalize w3.heap.size = g6 at hl3 h6 ⊢
    refine wp_region_class 3 (fun wz => Below W3.heap.size W3 wz) mixes (by kernel_rfl) (Below.refl _ _).drew ?_
    simp only [List.take_succ_cons, List.take_zero, List.drop_succ_cons, List.drop_zero]
    repeat (refine cls_step rfl (fun K hK => ⟨_, (fun w' hw => by have q0 := (h6.on hw h6.lt).cell 0; have q1 := (h6.on hw h6.lt).cell 1; have q2 := (h6.on hw h6.lt).cell 2; go_simp; exact rfl), ?_⟩); go_simp; refine hK _ ?_; clear hK K)
    refine cls_call rfl (fun K hK => ⟨_, _, _, (fun w' => by go_simp <;> first | exact rfl | exact ⟨rfl, rfl⟩), (fun w' hw => calls_below hw (HN.out _)), ?_⟩); go_simp; refine hK _ ?_; clear hK K
    refine wq_nil ?_
    intro w' hw
    have hr4 := hr3.on hw hr3.lt
    have hs4 := hs3.on hw hs3.lt
    have hB4 := below_then hB3 hw
    clear hr3 hs3 hB3 hw h6
    go_wp2_with (first | (refine store_blk (cs' := #[.int .i64 P.1, .int .i64 P.2.1, .bool P.2.2]) rfl rfl rfl rfl rfl hr4 infoP rfl (ones3 _ _ _) ?_; intro V hr5 hoth hbel; have hs5 := hoth _ _ _ (by omega) hs4; have hB5 := hbel _ _ (by omega) hB4; clear hoth hbel hr4 hs4 hB4) | (refine store_blk (cs' := #[.int .i64 N.1, .int .i64 N.2.1, .bool N.2.2]) rfl rfl rfl rfl rfl hs5 infoP rfl (ones3 _ _ _) ?_; intro U hs6 hoth hbel; have hr6 := hoth _ _ _ (by omega) hr5; have hB6 := hbel _ _ (by omega) hB5; clear hoth hbel hr5 hs5 hB5))
    refine bodyPost_ret_by (result_blk2 rfl rfl rfl hr6 hs6 Try.underlying25 infoP Try.underlying25 infoP) rfl ⟨P, N, rfl, hB6⟩
  · have n0 : (x == 0) = false := by rw [beq_eq_false_iff_ne]; omega
    have n1 : (x == 1) = false := by rw [beq_eq_false_iff_ne]; omega
    go_wp2
    clear hW3
    generalize w3.heap.size = g6 at hl3 h6 ⊢
    have HED : Hid (CurEnd w1 W3.drew W.heap.size a len cap) := HE3.out.drew
    have h6d := h6.drew
    have hr3d := hr3.drew
    have hs3d := hs3.drew
    have hB3d := hB3.drew
    clear HE3 h6 hr3 hs3 hB3
    refine wp_region_ord [(0, false), (1, false), (2, true), (3, true), (4, true)] (fun w' => Blk w' g6 25 #[.int .i64 P.1, .int .i64 P.2.1, .bool P.2.2]) mixes (by kernel_rfl) h6d ?_
    repeat (refine ord_float rfl rfl (fun K hK => ⟨_, (fun w' hw => by have q0 := hw.cell 0; have q1 :=  hw.cell 1; have q2 :=  hw.cell 2; go_simp; exact rfl), ?_⟩); go_simp; refine hK _ ?_; clear hK K)
    refine ord_call rfl rfl (fun K hK => ⟨_, _, (by go_simp <;> first | exact rfl | exact ⟨rfl, rfl⟩), ?_⟩)
    refine (anyP_any _ len cap a hm _ HED.out.cur HED.out.arg).mono ?_
    rintro e w4 ⟨Q, rfl, hE⟩
    have h6e := h6d.grown hE.grown (by omega)
    have hr4 := hr3d.grown hE.grown (by omega)
    have hs4 := hs3d.grown hE.grown (by omega)
    have hB4 := hB3d.trans ((below_of_grown hE.grown (by have := HED.out.cur.lt; omega)).mono (by omega : w.heap.size ≤ W.heap.size))
    clear hE
    refine ⟨_, rfl, h6e, ?_⟩
    go_simp
    refine hK _ _ ?_
    clear hK K
    refine ord_store (cs' := #[.int .i64 P.1, .int .i64 P.2.1, .bool P.2.2]) rfl rfl rfl rfl rfl rfl hr4 infoP rfl (ones3 _ _ _) ?_
    intro w5 hr5 hoth hbel
    have h6f := hoth _ _ _ (by omega) h6e
    have hs5 := hoth _ _ _ (by omega) hs4
    have hB5 := hbel _ _ (by omega) hB4
    clear hoth hbel
    refine ⟨h6f, ?_⟩
    refine ord_store (cs' := #[.int .i64 Q.1, .int .i64 Q.2.1, .bool Q.2.2]) rfl rfl rfl rfl rfl rfl hs5 infoP rfl (ones3 _ _ _) ?_
    intro w6 hs6 hoth hbel
    have h6g := hoth _ _ _ (by omega) h6f
    have hr6 := hoth _ _ _ (by omega) hr5
    have hB6 := hbel _ _ (by omega) hB5
    clear hoth hbel
    refine ⟨h6g, ord_nil ?_⟩
    clear h6d hr3d hs3d hB3d h6e hr4 hs4 hB4 h6f hr5 hs5 hB5 h6g HED
    go_wp2
    refine bodyPost_ret_by (result_blk2 rfl rfl rfl hr6 hs6 Try.underlying25 infoP Try.underlying25 infoP) rfl ⟨P, Q, rfl, hB6⟩

/-- The cells of a list of points. -/
def ptsV (l : List Pt) : List Value := l.flatMap fun P => [.int .i64 P.1, .int .i64 P.2.1, .bool P.2.2]

theorem ptsV_append (a b : List Pt) : ptsV (a ++ b) = ptsV a ++ ptsV b := by simp [ptsV]

theorem ptsV_at : ∀ (l : List Pt) (j i : Nat), j < l.length → i < 3 → (ptsV l)[j * 3 + i]? = (pc (l.getD j pZ))[i]?
  | P :: l, 0, i, _, hi => by
    show ([.int .i64 P.1, .int .i64 P.2.1, .bool P.2.2] ++ ptsV l)[0 * 3 + i]? = _
    rw [List.getElem?_append_left (by simp; omega)]
    match i, hi with
    | 0, _ => rfl
    | 1, _ => rfl
    | 2, _ => rfl
  | P :: l, j + 1, i, hj, hi => by
    show ([.int .i64 P.1, .int .i64 P.2.1, .bool P.2.2] ++ ptsV l)[(j + 1) * 3 + i]? = _
    rw [List.getElem?_append_right (by simp; omega)]
    have := ptsV_at l j i (by simpa using hj) hi
    rw [show (j + 1) * 3 + i - [Value.int .i64 P.1, .int .i64 P.2.1, .bool P.2.2].length = j * 3 + i by simp; omega, this]
    simp

/-- A value is a list of these points, owned from B on. -/
def RowP (B : Nat) (w : World) (v : Value) (l : List Pt) : Prop := w.ownsRow B 25 3 v l.length (ptsV l)

theorem RowP.pts {B : Nat} {w : World} {v : Value} {l : List Pt} (h : RowP B w v l) : ∃ a cp, v = .slice a l.length cp ∧ PtsAt w a l.length w.heap.size (fun j => l.getD j pZ) := by
  rcases h.2 with ⟨rfl, h0⟩ | ⟨g, cp, cur, rfl, hg, hh, hrest⟩
  · exact ⟨none, 0, by rw [h0], fun j hj => by omega⟩
  · refine ⟨_, cp, rfl, fun j hj => ⟨g, 0, rfl, ?_, ?_, ?_, ?_⟩⟩
    · have hc := h.cellAt (j * 3 + 0) (by omega)
      rw [ptsV_at l j 0 hj (by omega)] at hc
      exact World.block_lt_of_cell? w _ hc
    · have hc := h.cellAt (j * 3 + 0) (by omega)
      rw [ptsV_at l j 0 hj (by omega)] at hc
      rw [Nat.zero_add]
      exact hc
    · have hc := h.cellAt (j * 3 + 1) (by omega)
      rw [ptsV_at l j 1 hj (by omega)] at hc
      rw [Nat.zero_add]
      exact hc
    · have hc := h.cellAt (j * 3 + 2) (by omega)
      rw [ptsV_at l j 2 hj (by omega)] at hc
      rw [Nat.zero_add]
      exact hc

theorem infoPz : (Try.prog.info? 25).map (fun i => (i.zero, i.size, i.bytes)) = some (some (.agg #[.int .i64 0, .int .i64 0, .bool false]), 3, 24) := by kernel_rfl

theorem cell_three_new (w : World) (x y z : Value) (t : TypeId) : ∀ j u, [x, y, z][j]? = some u → (w.alloc (.cells #[x, y, z] t)).cell? ((⟨w.heap.size, 0, none⟩ : Addr).add j) = some u := by
  intro j u hj
  rw [Addr.add_lit, Nat.zero_add, cell_of_row _ w.heap.size j #[x, y, z] t (0, 0) (heap_alloc_new w _)]
  simpa using hj

theorem three_cell (a b : Int) (c : Bool) : ∀ u ∈ [Value.int .i64 a, Value.int .i64 b, Value.bool c], u.oneCell' = true := by
  intro u hu
  simp at hu
  rcases hu with rfl | rfl | rfl <;> rfl

/-- What DrawSumPoints leaves. -/
def SumEnd (w : World) (e : Ending) (w' : World) : Prop := ∃ (a : Option Addr) (n cp : Nat) (f : Nat → Pt), e = .returned (.slice a n cp) ∧ n ≤ 5 ∧ PtsAt w' a n w'.heap.size f ∧ Below w.heap.size w w'

end Go.Proofs.Ytckhbflolccinaa
