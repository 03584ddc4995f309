/-
  Texts of one's own, joined.
-/
import Derived.Test.YtckhbflolccinaaPairDraw
import Derived.Maps.AppendAt
import Derived.Test.YtckhbflolccinaaJoined20
import Derived.Test.YtckhbflolccinaaJoined1
import Derived.OpenShut

/-
  The draw of two lists of points.
  (-DROP-: what the seat lacks is left out.)
-/
namespace Go.Proofs.Ytckhbflolccinaa
open Go.RowKit

/-- What DrawPairsRight leaves. -/
def PairsEnd (w : World) (e : Ending) (w' : World) : Prop := ∃ (a1 a2 : Option Addr) (n1 c1 n2 c2 : Nat) (f g : Nat → Pt), e = .returned (.tuple #[.slice a1 n1 c1, .slice a2 n2 c2]) ∧ n1 ≤ 3 ∧ n2 ≤ 3 ∧ PtsAt w' a1 n1 w'.heap.size f ∧ PtsAt w' a2 n2 w'.heap.size g ∧ Below w.heap.size w w'

theorem pairs_end {w w' : World} {B : Nat} {v1 v2 : Value} {l1 l2 : List Pt} (h1 : RowP B w' v1 l1) (h2 : RowP B w' v2 l2) (hl1 : l1.length ≤ 3) (hl2 : l2.length ≤ 3) (hb : Below w.heap.size w w') : PairsEnd w (.returned (.tuple #[v1, v2])) w' := by
  obtain ⟨a1, c1, rfl, p1⟩ := h1.pts
  obtain ⟨a2, c2, rfl, p2⟩ := h2.pts
  exact ⟨a1, a2, _, c1, _, c2, _, _, rfl, hl1, hl2, p1, p2, hb⟩

set_option maxHeartbeats 3200000 in
set_option maxRecDepth 100000 in
theorem drawPairs_any (len cap : Nat) (a : Option Addr) (hm : len ≤ 1048576) (w : World) (hA : ArgAt w a len w.heap.size) :
    Calls Try.prog 18 #[.slice a len cap] w fun e w' => PairsEnd w e w' := by
  obtain ⟨i0, hi, hz0, hz1, hz2⟩ := info_parts infoPz
  have HA : Hid (ArgAt w a len w.heap.size) := hA
  clear hA
  go_enter Try.func18, Try.ntmps18
  go_wp2_with fail
  refine (new_any len cap a hm _ HA.out).mono ?_
  rintro e w1 ⟨rfl, hC, hA1, hb1⟩
  have H1 : Hid (CurEnd w1 w1 w.heap.size a len cap) := CurEnd.refl hC hA1
  have hl1 : w.heap.size < w1.heap.size := hC.lt
  have HB1 : Hid (Below w.heap.size w w1) := hb1
  clear hC hA1 hb1 HA
  go_wp2_with fail
  refine (below_any _ len cap a hm 4 (by omega) (by omega) _ H1.out.cur H1.out.arg).mono ?_
  rintro e w2 ⟨x, rfl, x0, x1, hE⟩
  have H2 : Hid (CurEnd w1 w2 w.heap.size a len cap) := H1.out.trans hE
  clear hE H1
  go_wp2_with fail
  refine (group_any _ len cap a hm _ H2.out.cur H2.out.arg).mono ?_
  rintro e w3 ⟨P, rfl, _, hE⟩
  obtain ⟨W3, hW3, hb3, h6⟩ := box1 w3 25 #[.int .i64 P.1, .int .i64 P.2.1, .bool P.2.2]
  have hl3 : w1.heap.size ≤ w3.heap.size := by have := H2.out.grown.size; have := hE.grown.size; omega
  have H3 : Hid (CurEnd w1 W3 w.heap.size a len cap) := (H2.out.trans hE).below hb3
  clear hE H2 hb3
  go_wp2_with fail
  refine (group_any _ len cap a hm _ H3.out.cur H3.out.arg).mono ?_
  rintro e w4 ⟨Q, rfl, _, hE⟩
  obtain ⟨W4, hW4, hb4, h7⟩ := box1 w4 25 #[.int .i64 Q.1, .int .i64 Q.2.1, .bool Q.2.2]
  have h64 := (h6.grown hE.grown (by omega)).on hb4 (by have := hE.grown.size; have := h6.lt; omega)
  have H4 : Hid (CurEnd w1 W4 w.heap.size a len cap) := (H3.out.trans hE).below hb4
  clear hE H3 hb4 h6 hW3
  go_wp2_with fail
  clear hW4
  refine wp_region_class 3 (fun wz => Below W4.heap.size W4 wz) mixes (by kernel_rfl) (Below.refl _ _).drew ?_
  simp only [List.take_succ_cons, List.take_zero, List.drop_succ_cons, List.drop_zero]
  repeat (refine cls_step rfl (fun K hK => ⟨_, (fun w' hw => by have q0 := (h64.on hw h64.lt).cell 0; have q1 := (h64.on hw h64.lt).cell 1; have q2 := (h64.on hw h64.lt).cell 2; go_simp; exact rfl), ?_⟩); go_simp; refine hK _ ?_; clear hK K)
  refine cls_call rfl (fun K hK => ⟨_, _, _, (fun w' => by go_simp <;> first | exact rfl | exact ⟨rfl, rfl⟩), (fun w' hw => calls_below hw (sNeg_any P _)), ?_⟩); go_simp; refine hK _ ?_; clear hK K
  refine wq_nil ?_
  intro w' hw
  have h65 := h64.on hw h64.lt
  have h75 := h7.on hw h7.lt
  have H5 : Hid (CurEnd w1 w' w.heap.size a len cap) := H4.out.below hw
  have hl5 : w1.heap.size ≤ w'.heap.size := H5.out.grown.size
  clear h64 h7 H4 hw
  generalize pNeg P = N
  generalize w3.heap.size = g6 at h65
  generalize w4.heap.size = g7 at h75
  have hrow1 : ((w'.alloc (.cells #[.int .i64 P.1, .int .i64 P.2.1, .bool P.2.2, .int .i64 N.1, .int .i64 N.2.1, .bool N.2.2] 25)).alloc (.cells #[.int .i64 Q.1, .int .i64 Q.2.1, .bool Q.2.2, .int .i64 Q.1, .int .i64 Q.2.1, .bool Q.2.2] 25)).ownsRow w1.heap.size 25 3 (.slice (some ⟨w'.heap.size, 0, none⟩) 2 2) 2 (ptsV [P, N]) :=
    (World.ownsRow_lit w' #[.int .i64 P.1, .int .i64 P.2.1, .bool P.2.2, .int .i64 N.1, .int .i64 N.2.1, .bool N.2.2] 2 hl5 (by simp [maxLen]) (by simp)).alloc _
  have hrow2 : ((w'.alloc (.cells #[.int .i64 P.1, .int .i64 P.2.1, .bool P.2.2, .int .i64 N.1, .int .i64 N.2.1, .bool N.2.2] 25)).alloc (.cells #[.int .i64 Q.1, .int .i64 Q.2.1, .bool Q.2.2, .int .i64 Q.1, .int .i64 Q.2.1, .bool Q.2.2] 25)).ownsRow w1.heap.size 25 3 (.slice (some ⟨w'.heap.size + 1, 0, none⟩) 2 2) 2 (ptsV [Q, Q]) := by
    have h := World.ownsRow_lit (base := w1.heap.size) (e := 25) (size := 3) (w'.alloc (.cells #[.int .i64 P.1, .int .i64 P.2.1, .bool P.2.2, .int .i64 N.1, .int .i64 N.2.1, .bool N.2.2] 25)) #[.int .i64 Q.1, .int .i64 Q.2.1, .bool Q.2.2, .int .i64 Q.1, .int .i64 Q.2.1, .bool Q.2.2] 2 (by simp; omega) (by simp [maxLen]) (by simp)
    rw [show (w'.alloc (.cells #[.int .i64 P.1, .int .i64 P.2.1, .bool P.2.2, .int .i64 N.1, .int .i64 N.2.1, .bool N.2.2] 25)).heap.size = w'.heap.size + 1 by simp] at h
    exact h
  obtain ⟨W6, hW6, hb6, _, _⟩ := boxes1r w' 25 25 #[.int .i64 P.1, .int .i64 P.2.1, .bool P.2.2, .int .i64 N.1, .int .i64 N.2.1, .bool N.2.2] #[.int .i64 Q.1, .int .i64 Q.2.1, .bool Q.2.2, .int .i64 Q.1, .int .i64 Q.2.1, .bool Q.2.2]
  rw [hW6] at hrow1 hrow2
  have H6 : Hid (CurEnd w1 W6 w.heap.size a len cap) := H5.out.below hb6
  have h66 := h65.on hb6 h65.lt
  have hl6 : w1.heap.size ≤ W6.heap.size := H6.out.grown.size
  have hne1 : (Value.slice (some ⟨w'.heap.size, 0, none⟩) 2 2).ownBlock ≠ some w.heap.size := fun e => by
    have := Option.some.inj e
    simp at this
    omega
  have hne2 : (Value.slice (some ⟨w'.heap.size + 1, 0, none⟩) 2 2).ownBlock ≠ some w.heap.size := fun e => by
    have := Option.some.inj e
    simp at this
    omega
  have hne12 : (Value.slice (some ⟨w'.heap.size + 1, 0, none⟩) 2 2).ownBlock ≠ (Value.slice (some ⟨w'.heap.size, 0, none⟩) 2 2).ownBlock := fun e => by
    have := Option.some.inj e
    simp at this
  have HR0 : Hid (W6.ownsRow w1.heap.size 25 3 (.slice (some ⟨w'.heap.size, 0, none⟩) 2 2) 2 (ptsV [P, N]) ∧ W6.ownsRow w1.heap.size 25 3 (.slice (some ⟨w'.heap.size + 1, 0, none⟩) 2 2) 2 (ptsV [Q, Q])) := ⟨hrow1, hrow2⟩
  clear hrow1 hrow2 hb6 h65 H5
  by_cases hx0 : x = 0
  · subst hx0
    go_wp2_with (refine load_blk rfl rfl rfl (h75.alloc _) Try.underlying25 infoP ?_)
    refine (anyP_any _ len cap a hm _ H6.out.cur H6.out.arg).mono ?_
    rintro e w7 ⟨R, rfl, hE⟩
    have hr17 := HR0.out.1.kept hE.grown (.inr hne1)
    have hr27 := HR0.out.2.kept hE.grown (.inr hne2)
    have H7 : Hid (CurEnd w1 w7 w.heap.size a len cap) := H6.out.trans hE
    have hsz : w1.heap.size ≤ w7.heap.size := H7.out.grown.size
    have hl7 : w'.heap.size + 1 < w7.heap.size := (hr27.lt _ rfl).2
    clear hE H6 HR0 hW6 h66
    go_wp2_with (at_builtin; refine wpList_append_own_at _ rfl _ _ 37 rfl w1.heap.size 25 i0 (.agg #[.int .i64 0, .int .i64 0, .bool false]) 3 24 Try.underlying37 hi hz0 hz1 hz2 rfl (by decide) _ _ _ rfl (hr17.alloc _) ⟨w7.heap.size, 0, none⟩ 1 1 [.int .i64 R.1, .int .i64 R.2.1, .bool R.2.2] rfl rfl (cell_three_new _ _ _ _ _) (three_cell _ _ _) (by simp [maxLen]) (by decide) (room_for hsz _) ?_)
    intro v1 w8 hown1 hgrow1 _ hat1
    have HR1 : Hid (RowP w1.heap.size w8 v1 [P, N, R]) := hown1
    have HR2 : Hid (w8.ownsRow w1.heap.size 25 3 (.slice (some ⟨w'.heap.size + 1, 0, none⟩) 2 2) 2 (ptsV [Q, Q])) := (hr27.alloc _).kept hgrow1 (.inr hne12)
    have H8 : Hid (CurEnd w1 w8 w.heap.size a len cap) := (H7.out.alloc _).push hgrow1 (fun k hk => by have := (hr17.lt k hk).1; omega) (fun k hk => (hr17.lt k hk).1)
    have HV1 : Hid (v1.ownBlock ≠ some (w'.heap.size + 1) ∧ v1.ownBlock ≠ some w.heap.size) := by
      rcases hat1 with h | h
      · rw [h]
        exact ⟨fun e => hne12 e.symm, hne1⟩
      · rw [h]
        exact ⟨fun e => by have := Option.some.inj e; (try simp at this); omega, fun e => by have := Option.some.inj e; (try simp at this); omega⟩
    clear hown1 hgrow1 hat1 hr17 hr27 H7 hsz hne1 hne12
    go_wp2_with fail
    refine (anyP_any _ len cap a hm _ H8.out.cur H8.out.arg).mono ?_
    rintro e w9 ⟨R2, rfl, hE⟩
    have hr29 := HR2.out.kept hE.grown (.inr hne2)
    have HR19 : Hid (w9.ownsRow w1.heap.size 25 3 v1 3 (ptsV [P, N, R])) := World.ownsRow.kept HR1.out hE.grown (.inr HV1.out.2)
    have H9 : Hid (CurEnd w1 w9 w.heap.size a len cap) := H8.out.trans hE
    have hsz : w1.heap.size ≤ w9.heap.size := H9.out.grown.size
    clear hE H8 HR1 HR2 hne2
    go_wp2_with (at_builtin; refine wpList_append_own_at _ rfl _ _ 37 rfl w1.heap.size 25 i0 (.agg #[.int .i64 0, .int .i64 0, .bool false]) 3 24 Try.underlying37 hi hz0 hz1 hz2 rfl (by decide) _ _ _ rfl (hr29.alloc _) ⟨w9.heap.size, 0, none⟩ 1 1 [.int .i64 R2.1, .int .i64 R2.2.1, .bool R2.2.2] rfl rfl (cell_three_new _ _ _ _ _) (three_cell _ _ _) (by simp [maxLen]) (by decide) (room_for hsz _) ?_)
    intro v2 w10 hown2 hgrow2 _ _
    have HR3 : Hid (RowP w1.heap.size w10 v2 [Q, Q, R2]) := hown2
    have HR4 : Hid (RowP w1.heap.size w10 v1 [P, N, R]) := (HR19.out.alloc _).kept hgrow2 (.inr HV1.out.1)
    have H10 : Hid (CurEnd w1 w10 w.heap.size a len cap) := (H9.out.alloc _).push hgrow2 (fun k hk => by have := (hr29.lt k hk).1; omega) (fun k hk => (hr29.lt k hk).1)
    clear hown2 hgrow2 hr29 H9 HR19 hsz HV1
    go_wp2
    go_ret2
    exact pairs_end HR4.out HR3.out (by simp) (by simp) (HB1.out.trans (below_of_grown H10.out.grown (by omega)))
  · have hx0' : (x == 0) = false := by simp [hx0]
    by_cases hx1 : x = 1
    · subst hx1
      have hsz : w1.heap.size ≤ W6.heap.size := hl6
      have hr17 := HR0.out.1
      go_wp2_with (first | (refine load_blk rfl rfl rfl (h75.alloc _) Try.underlying25 infoP ?_) | (refine load_blk rfl rfl rfl h66 Try.underlying25 infoP ?_) | (at_builtin; refine wpList_append_own_at _ rfl _ _ 37 rfl w1.heap.size 25 i0 (.agg #[.int .i64 0, .int .i64 0, .bool false]) 3 24 Try.underlying37 hi hz0 hz1 hz2 rfl (by decide) _ _ _ rfl (hr17.alloc _) ⟨W6.heap.size, 0, none⟩ 1 1 [.int .i64 P.1, .int .i64 P.2.1, .bool P.2.2] rfl rfl (cell_three_new _ _ _ _ _) (three_cell _ _ _) (by simp [maxLen]) (by decide) (room_for hsz _) ?_))
      intro v1 w8 hown1 hgrow1 _ _
      have HR1 : Hid (RowP w1.heap.size w8 v1 [P, N, P]) := hown1
      have HR2 : Hid (RowP w1.heap.size w8 (.slice (some ⟨w'.heap.size + 1, 0, none⟩) 2 2) [Q, Q]) := (HR0.out.2.alloc _).kept hgrow1 (.inr hne12)
      have H8 : Hid (CurEnd w1 w8 w.heap.size a len cap) := (H6.out.alloc _).push hgrow1 (fun k hk => by have := (hr17.lt k hk).1; omega) (fun k hk => (hr17.lt k hk).1)
      clear hown1 hgrow1 hr17 H6 hsz hne1 hne2 hne12 HR0 hW6
      go_wp2
      go_ret2
      exact pairs_end HR1.out HR2.out (by simp) (by simp) (HB1.out.trans (below_of_grown H8.out.grown (by omega)))
    · have hx1' : (x == 1) = false := by simp [hx1]
      have HR1 : Hid (RowP w1.heap.size W6 (.slice (some ⟨w'.heap.size, 0, none⟩) 2 2) [P, N]) := HR0.out.1
      have HR2 : Hid (RowP w1.heap.size W6 (.slice (some ⟨w'.heap.size + 1, 0, none⟩) 2 2) [Q, Q]) := HR0.out.2
      clear hne1 hne2 hne12 HR0
      go_wp2_with (refine load_blk rfl rfl rfl (h75.alloc _) Try.underlying25 infoP ?_)
      go_ret2
      exact pairs_end HR1.out HR2.out (by simp) (by simp) (HB1.out.trans (below_of_grown H6.out.grown (by omega)))

end Go.Proofs.Ytckhbflolccinaa

/-
  A region that draws its order, where two operations are ready at once: each way, to one end.
-/
namespace Go.Proofs.Ytckhbflolccinaa
open Go.RowKit

section
variable {P : Program} {ops : Array Oper} {S : World → Prop} {Q : Exit → Act → World → Prop} {R : Act → World → Prop}

/-- An operation with a value that is told. -/
theorem ord_told {k : Nat} {r : List (Nat × Bool)} {a : Act} {w : World} {o : Oper} (v : Value) (ho : ops[k]? = some o) (hy : YieldsIf P ops S o v a)
    (h : ∀ K : Act → Prop, (∀ a, wpOrd P ops Q S R r a w → K a) → K (a.put o.dst v)) : wpOrd P ops Q S R ((k, false) :: r) a w :=
  ⟨o, v, ho, hy, h _ (fun _ h => h)⟩

/-- Two chains, i then i', and j: in whatever order, to one end. -/
theorem anyH_fork3 {n i i' j : Nat} {L0 : Array Bool} {a : Act} {w : World} {F : Nat → Nat → Act} (G : Nat → Nat → World → Prop) (L3 : Array Bool)
    (hB : (Region.noSelect ops && decide (Region.ready .any ops L0 = [i, j]) && decide (Region.ready .any ops (L0.setIfInBounds i true) = [i', j]) && decide (ordTo ops [(j, true)] ((L0.setIfInBounds i true).setIfInBounds i' true) = some L3) && decide (ordTo ops [(i', true)] ((L0.setIfInBounds i true).setIfInBounds j true) = some L3) && decide (ordTo ops [(i, true), (i', true)] (L0.setIfInBounds j true) = some L3)) = true)
    (h1 : wpOrd P ops Q S (fun a' w' => S w' ∧ wpOrd P ops Q S (fun a' w' => ∃ g1 g2, a' = F g1 g2 ∧ G g1 g2 w') [(i', true), (j, true)] a' w' ∧ wpOrd P ops Q S (fun a' w' => ∃ g1 g2, a' = F g1 g2 ∧ G g1 g2 w') [(j, true), (i', true)] a' w') [(i, true)] a w)
    (h2 : wpOrd P ops Q S (fun a' w' => ∃ g1 g2, a' = F g1 g2 ∧ G g1 g2 w') [(j, true), (i, true), (i', true)] a w)
    (hK : ∀ g1 g2 w', G g1 g2 w' → wpAnyH P .any ops (NoPanic Q) S n L3 (F g1 g2) w') : wpAnyH P .any ops (NoPanic Q) S (n + 3) L0 a w := by
  simp only [Bool.and_eq_true, decide_eq_true_eq] at hB
  obtain ⟨⟨⟨⟨⟨hs, h0⟩, hi⟩, hij⟩, hji⟩, hj⟩ := hB
  have up : ∀ (order : List (Nat × Bool)) (a : Act) (w : World), wpOrd P ops Q S (fun a' w' => ∃ g1 g2, a' = F g1 g2 ∧ G g1 g2 w') order a w → wpOrd P ops Q S (fun a w => wpAnyH P .any ops (NoPanic Q) S n L3 a w) order a w := by
    intro order
    induction order with
    | nil =>
      rintro a w ⟨g1, g2, rfl, hG⟩
      exact hK g1 g2 w hG
    | cons x r ih =>
      obtain ⟨k, b⟩ := x
      cases b
      · rintro a w ⟨o, v, ho, hy, hr⟩
        exact ⟨o, v, ho, hy, ih _ _ hr⟩
      · intro a w h
        exact wpOp_mono (fun a' w' ⟨h1, h2⟩ => ⟨h1, ih _ _ h2⟩) h
  refine wpAnyH_all h0 (by simp) fun k hk => ?_
  simp only [List.mem_cons, List.not_mem_nil, or_false] at hk
  rcases hk with rfl | rfl
  · refine wpOp_mono (fun a' w' ⟨hS, _, ha, hb⟩ => ⟨hS, ?_⟩) h1
    refine wpAnyH_all hi (by simp) fun k' hk' => ?_
    simp only [List.mem_cons, List.not_mem_nil, or_false] at hk'
    rcases hk' with rfl | rfl
    · exact wpOp_mono (fun a2 w2 ⟨hS2, h⟩ => ⟨hS2, anyH_of_to hs [(_, true)] n _ _ a2 w2 hij hS2 (up _ _ _ h)⟩) ha
    · exact wpOp_mono (fun a2 w2 ⟨hS2, h⟩ => ⟨hS2, anyH_of_to hs [(_, true)] n _ _ a2 w2 hji hS2 (up _ _ _ h)⟩) hb
  · exact wpOp_mono (fun a2 w2 ⟨hS2, h⟩ => ⟨hS2, anyH_of_to hs [(_, true), (_, true)] n _ _ a2 w2 hj hS2 (up _ _ _ h)⟩) h2

end
end Go.Proofs.Ytckhbflolccinaa

/-
  What an argument of bytes is to the walk.
-/
namespace Go.Proofs.Ytckhbflolccinaa
open Go.RowKit Go.ChangeShapes Go.WideShapes

theorem argAt_of {W : World} {x : Addr} {zs : List Int} {len cap : Nat} (hl : len ≤ cap) (hz : zs.length = cap) (hcell : ∀ i, i < zs.length → W.cell? (x.add i) = some (.int .u8 (zs.getD i 0))) (hwz : ∀ n ∈ zs, (Lit.int .u8 n).wf = true) : ArgAt W (some x) len W.heap.size := by
  intro j hj
  obtain ⟨b, off, spot⟩ := x
  have hspot : spot = none := by simpa [Addr.add] using World.cell?_spot (hcell 0 (by omega))
  subst hspot
  have hc := hcell j (by omega)
  have hc0 : W.cell? ⟨b, off + j, none⟩ = some (.int .u8 (zs.getD j 0)) := by rw [← Addr.add_lit]; exact hc
  have hlt := World.block_lt_of_cell? W _ hc0
  have hb := bounds_u8 (hwz (zs.getD j 0) (by rw [List.getD_eq_getElem?_getD, List.getElem?_eq_getElem (by omega)]; simp))
  exact ⟨b, off, _, rfl, hlt, hc0, hb.1, hb.2⟩


end Go.Proofs.Ytckhbflolccinaa
