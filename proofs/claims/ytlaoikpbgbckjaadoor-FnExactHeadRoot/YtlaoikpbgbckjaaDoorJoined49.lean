/-
  Texts of one's own, joined.
-/
import Derived.Test.YtlaoikpbgbckjaaDoorHeadSR
import Derived.Test.YtlaoikpbgbckjaaDoorJoined48
import Derived.Test.YtlaoikpbgbckjaaDoorOrd

/-
  The walks of the specification's heads: the root.
  (-DROP-: what the seat lacks is left out.)
-/
namespace Go.Proofs.YtlaoikpbgbckjaaDoor
open Go.RowKit

/-- The root of a head; the text that is signed. -/
def hRootT (h : Hd) : ByteArray := if hOkB h = true then rootT digT [vT h.1, h.2.1, h.2.2.1, h.2.2.2] else noT
def sigT (h : Hd) (d : Int) : ByteArray := if hOkB h = true ∧ 0 ≤ d ∧ d ≤ 255 then ⟨#[UInt8.ofNat d.toNat]⟩ ++ hRootT h else noT

theorem row_four {w : World} {g B : Nat} {a b c d : ByteArray} (h : Blk w g 9 #[.string a, .string b, .string c, .string d]) (hB : B ≤ g) : RowS B w (.slice (some ⟨g, 0, none⟩) 4 4) [a, b, c, d] :=
  ⟨rfl, .inr ⟨g, 4, #[.string a, .string b, .string c, .string d], rfl, hB, h, Nat.le_refl _, by unfold maxLen; omega, rfl, rfl⟩⟩

set_option maxHeartbeats 800000 in
set_option maxRecDepth 100000 in
theorem sHeadRoot_any (h : Hd) (w : World) :
    Calls Tryd.prog 18 #[hv h] w fun e w' => e = .returned (.string (hRootT h)) ∧ Below w.heap.size w w' := by
  have HO : Hid (∀ w, Calls Tryd.prog 16 #[hv h] w fun e w' => e = .returned (.bool (hOkB h)) ∧ Below w.heap.size w w') := sHeadOk_any h
  unfold hRootT
  cases hk : hOkB h
  · rw [hk] at HO
    simp only [Bool.false_eq_true, if_false]
    obtain ⟨s, p, t, b⟩ := h
    clear hk
    unfold hv hc at HO ⊢
    simp only at HO ⊢
    obtain ⟨W, hW, hb, hx⟩ := box1 w 25 #[.int .i64 s, .string p, .string t, .string b]
    go_enter Tryd.func18, Tryd.ntmps18
    go_wp2_with (refine load_blk rfl rfl rfl hx Tryd.underlying25 infoH ?_)
    clear hW
    refine (HO.out _).mono ?_
    rintro e w1 ⟨rfl, hb1⟩
    have hB := below_then hb hb1
    clear hb hb1 hx
    go_wp2
    go_ret
    exact ⟨rfl, hB⟩
  · rw [hk] at HO
    simp only [if_true]
    obtain ⟨⟨s0, s1⟩, hp, ht, hbb⟩ := hok_iff.1 hk
    obtain ⟨s, p, t, b⟩ := h
    simp only at s0 s1 hp ht hbb
    obtain ⟨n, rfl⟩ : ∃ n : Nat, s = (n : Int) := ⟨s.toNat, by omega⟩
    have HVR : Hid (∀ w, Calls Tryd.prog 42 #[.int .i64 (n : Int)] w fun e w' => e = .returned (.string (vT (n : Int))) ∧ Below w.heap.size w w') := by rw [vT_of]; exact var_any n (by omega)
    have hvs : (vT (n : Int)).size ≤ 5 := by rw [vT_size]; exact varB_five (by omega)
    have HRC : Hid (∀ B w' v, RowS B w' v [vT (n : Int), p, t, b] → Calls Tryd.prog 41 #[v] w' fun e w'' => e = .returned (.string (rootT digT [vT (n : Int), p, t, b])) ∧ Below w'.heap.size w' w'') := fun B w' v h => sRoot_row h (by simp) (fun j hj => by
      have hj4 : j < 4 := hj
      rcases (show j = 0 ∨ j = 1 ∨ j = 2 ∨ j = 3 by omega) with rfl | rfl | rfl | rfl
      · show (vT (n : Int)).size ≤ _; omega
      · show p.size ≤ _; omega
      · show t.size ≤ _; omega
      · show b.size ≤ _; omega)
    clear hk hp ht hbb hvs
    unfold hv hc at HO ⊢
    simp only at HO ⊢
    generalize rootT digT [vT (n : Int), p, t, b] = RT at HRC ⊢
    generalize vT (n : Int) = v at HVR HRC
    obtain ⟨W, hW, hb, hx⟩ := box1 w 25 #[.int .i64 (n : Int), .string p, .string t, .string b]
    go_enter Tryd.func18, Tryd.ntmps18
    go_wp2_with (refine load_blk rfl rfl rfl hx Tryd.underlying25 infoH ?_)
    clear hW
    refine (HO.out _).mono ?_
    rintro e w1 ⟨rfl, hb1⟩
    have hB := below_then hb hb1
    have hx1 := hx.on hb1 hx.lt
    clear hb hb1 hx
    go_wp2_with fail
    refine wp_region_class 9 (fun wz => Below w1.heap.size w1 wz) mixes (by kernel_rfl) (Below.refl _ _).drew ?_
    simp only [List.take_succ_cons, List.take_zero, List.drop_succ_cons, List.drop_zero]
    repeat (refine cls_step rfl (fun K hK => ⟨_, (fun w' hw => by have q0 := (hx1.on hw hx1.lt).cell 0; have q1 := (hx1.on hw hx1.lt).cell 1; have q2 := (hx1.on hw hx1.lt).cell 2; have q3 := (hx1.on hw hx1.lt).cell 3; go_simp; exact rfl), ?_⟩); go_simp; refine hK _ ?_; clear hK K)
    refine cls_call rfl (fun K hK => ⟨_, _, _, (fun w' => by go_simp <;> first | exact rfl | exact ⟨rfl, rfl⟩), (fun w' hw => calls_below hw (HVR.out _)), ?_⟩); go_simp; refine hK _ ?_; clear hK K
    repeat (refine cls_step rfl (fun K hK => ⟨_, (fun w' hw => by have q0 := (hx1.on hw hx1.lt).cell 0; have q1 := (hx1.on hw hx1.lt).cell 1; have q2 := (hx1.on hw hx1.lt).cell 2; have q3 := (hx1.on hw hx1.lt).cell 3; go_simp; exact rfl), ?_⟩); go_simp; refine hK _ ?_; clear hK K)
    refine wq_nil ?_
    intro w' hw
    have hB2 := below_then hB hw
    clear hB hw hx1
    obtain ⟨V, hV, hbV, h4⟩ := box1 w' 9 #[.string v, .string p, .string t, .string b]
    have HRW := HRC.out w'.heap.size V _ (row_four h4 (Nat.le_refl _))
    have HRW' : Hid (Calls Tryd.prog 41 #[.slice (some ⟨w'.heap.size, 0, none⟩) 4 4] V fun e w'' => e = .returned (.string RT) ∧ Below V.heap.size V w'') := HRW
    have hB3 := below_then hB2 hbV
    clear HRW HRC hB2 hbV h4
    go_wp2_with fail
    clear hV
    refine HRW'.out.mono ?_
    rintro e w5 ⟨rfl, hb5⟩
    have hB4 := below_then hB3 hb5
    clear hB3 hb5
    go_wp2
    go_ret
    exact ⟨rfl, hB4⟩

end Go.Proofs.YtlaoikpbgbckjaaDoor

/-
  A region that draws its order, where two operations are ready at once: each way, to one end.
-/
namespace Go.Proofs.YtlaoikpbgbckjaaDoor
open Go.RowKit

section
variable {P : Program} {ops : Array Oper} {S : World → Prop} {Q : Exit → Act → World → Prop} {R : Act → World → Prop}

/-- An operation with a value that is told. -/
theorem ord_told {k : Nat} {r : List (Nat × Bool)} {a : Act} {w : World} {o : Oper} (v : Value) (ho : ops[k]? = some o) (hy : YieldsIf P ops S o v a)
    (h : ∀ K : Act → Prop, (∀ a, wpOrd P ops Q S R r a w → K a) → K (a.put o.dst v)) : wpOrd P ops Q S R ((k, false) :: r) a w :=
  ⟨o, v, ho, hy, h _ (fun _ h => h)⟩

/-- Two chains, i then i', and j: in whatever order, to one end. -/
theorem anyH_fork3 {n i i' j : Nat} {L0 : Array Bool} {a : Act} {w : World} {F : Nat → Nat → Act} (G : Nat → Nat → World → Prop) (L3 : Array Bool)
    (hB : (Region.noSelect ops && decide (Region.ready .any ops L0 = [i, j]) && decide (Region.ready .any ops (L0.setIfInBounds i true) = [i', j]) && decide (ordTo ops [(j, true)] ((L0.setIfInBounds i true).setIfInBounds i' true) = some L3) && decide (ordTo ops [(i', true)] ((L0.setIfInBounds i true).setIfInBounds j true) = some L3) && decide (ordTo ops [(i, true), (i', true)] (L0.setIfInBounds j true) = some L3)) = true)
    (h1 : wpOrd P ops Q S (fun a' w' => S w' ∧ wpOrd P ops Q S (fun a' w' => ∃ g1 g2, a' = F g1 g2 ∧ G g1 g2 w') [(i', true), (j, true)] a' w' ∧ wpOrd P ops Q S (fun a' w' => ∃ g1 g2, a' = F g1 g2 ∧ G g1 g2 w') [(j, true), (i', true)] a' w') [(i, true)] a w)
    (h2 : wpOrd P ops Q S (fun a' w' => ∃ g1 g2, a' = F g1 g2 ∧ G g1 g2 w') [(j, true), (i, true), (i', true)] a w)
    (hK : ∀ g1 g2 w', G g1 g2 w' → wpAnyH P .any ops (NoPanic Q) S n L3 (F g1 g2) w') : wpAnyH P .any ops (NoPanic Q) S (n + 3) L0 a w := by
  simp only [Bool.and_eq_true, decide_eq_true_eq] at hB
  obtain ⟨⟨⟨⟨⟨hs, h0⟩, hi⟩, hij⟩, hji⟩, hj⟩ := hB
  have up : ∀ (order : List (Nat × Bool)) (a : Act) (w : World), wpOrd P ops Q S (fun a' w' => ∃ g1 g2, a' = F g1 g2 ∧ G g1 g2 w') order a w → wpOrd P ops Q S (fun a w => wpAnyH P .any ops (NoPanic Q) S n L3 a w) order a w := by
    intro order
    induction order with
    | nil =>
      rintro a w ⟨g1, g2, rfl, hG⟩
      exact hK g1 g2 w hG
    | cons x r ih =>
      obtain ⟨k, b⟩ := x
      cases b
      · rintro a w ⟨o, v, ho, hy, hr⟩
        exact ⟨o, v, ho, hy, ih _ _ hr⟩
      · intro a w h
        exact wpOp_mono (fun a' w' ⟨h1, h2⟩ => ⟨h1, ih _ _ h2⟩) h
  refine wpAnyH_all h0 (by simp) fun k hk => ?_
  simp only [List.mem_cons, List.not_mem_nil, or_false] at hk
  rcases hk with rfl | rfl
  · refine wpOp_mono (fun a' w' ⟨hS, _, ha, hb⟩ => ⟨hS, ?_⟩) h1
    refine wpAnyH_all hi (by simp) fun k' hk' => ?_
    simp only [List.mem_cons, List.not_mem_nil, or_false] at hk'
    rcases hk' with rfl | rfl
    · exact wpOp_mono (fun a2 w2 ⟨hS2, h⟩ => ⟨hS2, anyH_of_to hs [(_, true)] n _ _ a2 w2 hij hS2 (up _ _ _ h)⟩) ha
    · exact wpOp_mono (fun a2 w2 ⟨hS2, h⟩ => ⟨hS2, anyH_of_to hs [(_, true)] n _ _ a2 w2 hji hS2 (up _ _ _ h)⟩) hb
  · exact wpOp_mono (fun a2 w2 ⟨hS2, h⟩ => ⟨hS2, anyH_of_to hs [(_, true), (_, true)] n _ _ a2 w2 hj hS2 (up _ _ _ h)⟩) h2

end
end Go.Proofs.YtlaoikpbgbckjaaDoor
