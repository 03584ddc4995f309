/-
  The walks of the exact laws of heads: the root, the text that is signed.
  (-DROP-: what the seat lacks is left out.)
-/
import Derived.Test.YtlaoikpbgbckjaaDoorJoined23
import Derived.Test.YtlaoikpbgbckjaaDoorHeadI
namespace Go.Proofs.YtlaoikpbgbckjaaDoor
open Go.RowKit

set_option maxHeartbeats 800000 in
set_option maxRecDepth 100000 in
theorem lawHeadRoot (h : Hd) (hl : HLen h) (w : World) (hT : Tab w) :
    Calls Tryd.prog 4 #[hv h] w fun e w' => e = .returned (.bool true) ∧ Below w.heap.size w w' := by
  have HTB : Hid (∀ w', Below w.heap.size w w' → Tab w') := fun w' hb => hT.on hb hT.1
  clear hT
  have HZ : Hid (∀ w, Calls Tryd.prog 21 #[hv h, .int .i64 1048576] w fun e w' => ∃ r : Int, e = .returned (.int .i64 r) ∧ Below w.heap.size w w') := szHead_any h hl
  have HT : Hid (∀ w, Calls Tryd.prog 22 #[hv h] w fun e w' => e = .returned (hv h) ∧ Below w.heap.size w w') := toHead_any h
  have HS : Hid (∀ w, Calls Tryd.prog 18 #[hv h] w fun e w' => e = .returned (.string (hRootT h)) ∧ Below w.heap.size w w') := sHeadRoot_any h
  have HI : Hid (∀ w, Tab w → Calls Tryd.prog 13 #[hv h] w fun e w' => e = .returned (.string (hRootT h)) ∧ Below w.heap.size w w') := iHeadRoot_any h
  generalize hRootT h = x at HS HI
  obtain ⟨s, p, t, b⟩ := h
  unfold hv hc at HZ HT HS HI ⊢
  simp only at HZ HT HS HI ⊢
  obtain ⟨W, hW, hb, hx⟩ := box1 w 39 #[.int .i64 s, .string p, .string t, .string b]
  go_enter Tryd.func4, Tryd.ntmps4
  go_wp2_with (refine load_blk rfl rfl rfl hx Tryd.underlying39 infoLH ?_)
  clear hW
  refine (HZ.out _).mono ?_
  rintro e w1 ⟨r, rfl, hb1⟩
  have hx1 := hx.on hb1 hx.lt
  have hB1 := below_then hb hb1
  clear hx hb hb1
  by_cases h0 : r < 0
  · go_wp2
    go_ret
    exact ⟨rfl, hB1⟩
  · go_wp2_with (refine load_blk rfl rfl rfl hx1 Tryd.underlying39 infoLH ?_)
    refine (HT.out _).mono ?_
    rintro e w2 ⟨rfl, hb2⟩
    have hx2 := hx1.on hb2 hx1.lt
    have hB2 := below_then hB1 hb2
    clear hx1 hB1 hb2
    go_wp2_with fail
    refine (HS.out _).mono ?_
    rintro e w3 ⟨rfl, hb3⟩
    have hx3 := hx2.on hb3 hx2.lt
    have hB3 := below_then hB2 hb3
    clear hx2 hB2 hb3
    go_wp2_with (refine load_blk rfl rfl rfl hx3 Tryd.underlying39 infoLH ?_)
    refine (HT.out _).mono ?_
    rintro e w4 ⟨rfl, hb4⟩
    have hB4 := below_then hB3 hb4
    clear hx3 hB3 hb4
    go_wp2_with fail
    refine (HI.out _ (HTB.out _ hB4)).mono ?_
    rintro e w5 ⟨rfl, hb5⟩
    have hB5 := below_then hB4 hb5
    clear hB4 hb5
    go_wp2
    go_ret
    exact ⟨rfl, hB5⟩

set_option maxHeartbeats 800000 in
set_option maxRecDepth 100000 in
theorem lawSigText (h : Hd) (d : Int) (hl : HLen h) (_hd : (Lit.int .i64 d).wf = true) (w : World) (hT : Tab w) :
    Calls Tryd.prog 5 #[hv h, .int .i64 d] w fun e w' => e = .returned (.bool true) ∧ Below w.heap.size w w' := by
  have HTB : Hid (∀ w', Below w.heap.size w w' → Tab w') := fun w' hb => hT.on hb hT.1
  clear hT
  have HZ : Hid (∀ w, Calls Tryd.prog 21 #[hv h, .int .i64 1048576] w fun e w' => ∃ r : Int, e = .returned (.int .i64 r) ∧ Below w.heap.size w w') := szHead_any h hl
  have HT : Hid (∀ w, Calls Tryd.prog 22 #[hv h] w fun e w' => e = .returned (hv h) ∧ Below w.heap.size w w') := toHead_any h
  have HS : Hid (∀ w, Calls Tryd.prog 20 #[hv h, .int .i64 d] w fun e w' => e = .returned (.string (sigT h d)) ∧ Below w.heap.size w w') := sSigText_any h d
  have HI : Hid (∀ w, Tab w → Calls Tryd.prog 19 #[hv h, .int .i64 d] w fun e w' => e = .returned (.string (sigT h d)) ∧ Below w.heap.size w w') := iSigText_any h d
  generalize sigT h d = x at HS HI
  obtain ⟨s, p, t, b⟩ := h
  unfold hv hc at HZ HT HS HI ⊢
  simp only at HZ HT HS HI ⊢
  obtain ⟨W, hW, hb, hx⟩ := box1 w 39 #[.int .i64 s, .string p, .string t, .string b]
  go_enter Tryd.func5, Tryd.ntmps5
  go_wp2_with (refine load_blk rfl rfl rfl hx Tryd.underlying39 infoLH ?_)
  clear hW
  refine (HZ.out _).mono ?_
  rintro e w1 ⟨r, rfl, hb1⟩
  have hx1 := hx.on hb1 hx.lt
  have hB1 := below_then hb hb1
  clear hx hb hb1
  by_cases h0 : r < 0
  · go_wp2
    go_ret
    exact ⟨rfl, hB1⟩
  · go_wp2_with (refine load_blk rfl rfl rfl hx1 Tryd.underlying39 infoLH ?_)
    refine (HT.out _).mono ?_
    rintro e w2 ⟨rfl, hb2⟩
    have hx2 := hx1.on hb2 hx1.lt
    have hB2 := below_then hB1 hb2
    clear hx1 hB1 hb2
    go_wp2_with fail
    refine (HS.out _).mono ?_
    rintro e w3 ⟨rfl, hb3⟩
    have hx3 := hx2.on hb3 hx2.lt
    have hB3 := below_then hB2 hb3
    clear hx2 hB2 hb3
    go_wp2_with (refine load_blk rfl rfl rfl hx3 Tryd.underlying39 infoLH ?_)
    refine (HT.out _).mono ?_
    rintro e w4 ⟨rfl, hb4⟩
    have hB4 := below_then hB3 hb4
    clear hx3 hB3 hb4
    go_wp2_with fail
    refine (HI.out _ (HTB.out _ hB4)).mono ?_
    rintro e w5 ⟨rfl, hb5⟩
    have hB5 := below_then hB4 hb5
    clear hB4 hb5
    go_wp2
    go_ret
    exact ⟨rfl, hB5⟩

end Go.Proofs.YtlaoikpbgbckjaaDoor
