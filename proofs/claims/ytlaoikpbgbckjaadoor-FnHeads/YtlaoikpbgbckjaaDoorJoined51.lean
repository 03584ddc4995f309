/-
  Texts of one's own, joined.
-/
import Derived.Test.YtlaoikpbgbckjaaDoorHeadDraw
import Derived.Test.YtlaoikpbgbckjaaDoorDraw
import Derived.Test.YtlaoikpbgbckjaaDoorJoined13

/-
  The draws of heads: of a code.
  (-DROP-: what the seat lacks is left out.)
-/
namespace Go.Proofs.YtlaoikpbgbckjaaDoor
open Go.RowKit

theorem arg_upH {w W : World} {a : Option Addr} {len : Nat} (h : ArgAt w a len w.heap.size) (hb : Below w.heap.size w W) : ArgAt W a len W.heap.size := fun j hj => by
  obtain ⟨b, off, z, h1, h2, h3⟩ := (h.on hb) j hj
  exact ⟨b, off, z, h1, by have := hb.size; omega, h3⟩

set_option maxHeartbeats 1600000 in
set_option maxRecDepth 100000 in
theorem drawHT_any (len cap : Nat) (a : Option Addr) (hm : len ≤ 1048576) (w : World) (hA : ArgAt w a len w.heap.size) :
    Calls Tryd.prog 7 #[.slice a len cap] w fun e w' => ∃ h : Hd, e = .returned (hv h) ∧ HdS h ∧ Below w.heap.size w w' := by
  obtain ⟨W, hW, hb, hr⟩ := box1 w 25 (hc hZ)
  have HA : Hid (ArgAt W a len W.heap.size) := arg_upH hA hb
  clear hA
  have hWs : w.heap.size < W.heap.size := hr.lt
  have hW' : w.alloc (.cells #[.int .i64 0, .string noT, .string noT, .string noT] 25) = W := hW
  clear hW
  go_enter Tryd.func7, Tryd.ntmps7
  go_wp2_with fail
  rw [show w.alloc (.cells #[.int .i64 0, .string { data := #[] }, .string { data := #[] }, .string { data := #[] }] 25) = W from hW']
  clear hW'
  refine (new_any len cap a hm _ HA.out).mono ?_
  rintro e w1 ⟨rfl, hC, hA1, hb1⟩
  have H1 : Hid (CurEnd w1 w1 W.heap.size a len cap) := CurEnd.refl hC hA1
  have hl1 : W.heap.size < w1.heap.size := hC.lt
  have hr1 := hr.on hb1 hr.lt
  have hB1 := below_then hb hb1
  clear hC hA1 hr hb hb1 HA
  go_wp2_with fail
  refine (any11_any _ len cap a hm _ H1.out.cur H1.out.arg).mono ?_
  rintro e w3 ⟨h, rfl, hS, hE⟩
  have H3 : Hid (CurEnd w1 w3 W.heap.size a len cap) := H1.out.trans hE
  have hr3 := hr1.grown hE.grown (by omega)
  have hB3 := hB1.trans ((below_of_grown H3.out.grown (by omega)).mono (by omega : w.heap.size ≤ W.heap.size))
  have HS : Hid (HdS h) := hS
  clear hE H1 hr1 hB1 hS
  go_wp2_with (refine store_blk (cs' := hc h) rfl rfl rfl rfl rfl hr3 infoH rfl (ones4 _) ?_; intro V h5 hoth hbel; have hbV := hbel _ _ (by omega) hB3; clear hoth hbel)
  refine bodyPost_ret_by (result_blk rfl rfl h5 Tryd.underlying25 infoH) rfl ⟨h, rfl, HS.out, hbV⟩

set_option maxHeartbeats 1600000 in
set_option maxRecDepth 100000 in
theorem drawHd_any (len cap : Nat) (a : Option Addr) (hm : len ≤ 1048576) (w : World) (hA : ArgAt w a len w.heap.size) :
    Calls Tryd.prog 12 #[.slice a len cap] w fun e w' => ∃ h : Hd, e = .returned (hv h) ∧ HdR h ∧ Below w.heap.size w w' := by
  obtain ⟨W, hW, hb, hr⟩ := box1 w 25 (hc hZ)
  have HA : Hid (ArgAt W a len W.heap.size) := arg_upH hA hb
  clear hA
  have hWs : w.heap.size < W.heap.size := hr.lt
  have hW' : w.alloc (.cells #[.int .i64 0, .string noT, .string noT, .string noT] 25) = W := hW
  clear hW
  go_enter Tryd.func12, Tryd.ntmps12
  go_wp2_with fail
  rw [show w.alloc (.cells #[.int .i64 0, .string { data := #[] }, .string { data := #[] }, .string { data := #[] }] 25) = W from hW']
  clear hW'
  refine (new_any len cap a hm _ HA.out).mono ?_
  rintro e w1 ⟨rfl, hC, hA1, hb1⟩
  have H1 : Hid (CurEnd w1 w1 W.heap.size a len cap) := CurEnd.refl hC hA1
  have hl1 : W.heap.size < w1.heap.size := hC.lt
  have hr1 := hr.on hb1 hr.lt
  have hB1 := below_then hb hb1
  clear hC hA1 hr hb hb1 HA
  go_wp2_with fail
  refine (head11_any _ len cap a hm _ H1.out.cur H1.out.arg).mono ?_
  rintro e w3 ⟨h, rfl, hS, hE⟩
  have H3 : Hid (CurEnd w1 w3 W.heap.size a len cap) := H1.out.trans hE
  have hr3 := hr1.grown hE.grown (by omega)
  have hB3 := hB1.trans ((below_of_grown H3.out.grown (by omega)).mono (by omega : w.heap.size ≤ W.heap.size))
  have HS : Hid (HdR h) := hS
  clear hE H1 hr1 hB1 hS
  go_wp2_with (refine store_blk (cs' := hc h) rfl rfl rfl rfl rfl hr3 infoH rfl (ones4 _) ?_; intro V h5 hoth hbel; have hbV := hbel _ _ (by omega) hB3; clear hoth hbel)
  refine bodyPost_ret_by (result_blk rfl rfl h5 Tryd.underlying25 infoH) rfl ⟨h, rfl, HS.out, hbV⟩

/-- What is picked for the domain of a text that is signed. -/
def Dom5 (z : Int) : Prop := -1 ≤ z ∧ z ≤ 256

set_option maxHeartbeats 1600000 in
set_option maxRecDepth 100000 in
theorem drawST_any (len cap : Nat) (a : Option Addr) (hm : len ≤ 1048576) (w : World) (hA : ArgAt w a len w.heap.size) :
    Calls Tryd.prog 15 #[.slice a len cap] w fun e w' => ∃ (h : Hd) (d : Int), e = .returned (.tuple #[hv h, .int .i64 d]) ∧ HdS h ∧ Dom5 d ∧ Below w.heap.size w w' := by
  obtain ⟨W, hW, hb, hr⟩ := box1 w 25 (hc hZ)
  have HA : Hid (ArgAt W a len W.heap.size) := arg_upH hA hb
  clear hA
  have hWs : w.heap.size < W.heap.size := hr.lt
  have hW' : w.alloc (.cells #[.int .i64 0, .string noT, .string noT, .string noT] 25) = W := hW
  clear hW
  go_enter Tryd.func15, Tryd.ntmps15
  go_wp2_with fail
  rw [show w.alloc (.cells #[.int .i64 0, .string { data := #[] }, .string { data := #[] }, .string { data := #[] }] 25) = W from hW']
  clear hW'
  refine (new_any len cap a hm _ HA.out).mono ?_
  rintro e w1 ⟨rfl, hC, hA1, hb1⟩
  have H1 : Hid (CurEnd w1 w1 W.heap.size a len cap) := CurEnd.refl hC hA1
  have hl1 : W.heap.size < w1.heap.size := hC.lt
  have hr1 := hr.on hb1 hr.lt
  have hB1 := below_then hb hb1
  clear hC hA1 hr hb hb1 HA
  go_wp2_with fail
  have HW := H1.out.alloc (.cells #[.int .i64 0, .int .i64 7, .int .i64 255, .int .i64 256, .int .i64 (-1)] 3)
  have hr1a := hr1.alloc (.cells #[.int .i64 0, .int .i64 7, .int .i64 255, .int .i64 256, .int .i64 (-1)] 3)
  refine (pick_any _ len cap a hm w1.heap.size 5 5 (by omega) (by omega) _ HW.cur HW.arg (by omega) Dom5 (ints_new w1 [0, 7, 255, 256, -1] _ rfl Dom5 (by unfold Dom5; intro z hz; simp at hz; omega))).mono ?_
  rintro e w2 ⟨d, rfl, hd, hE⟩
  have H2 : Hid (CurEnd w1 w2 W.heap.size a len cap) := HW.trans hE
  have hr2 := hr1a.grown hE.grown (by omega)
  have HD : Hid (Dom5 d) := hd
  clear hE H1 HW hr1 hr1a hd
  go_wp2_with fail
  refine (any11_any _ len cap a hm _ H2.out.cur H2.out.arg).mono ?_
  rintro e w3 ⟨h, rfl, hS, hE⟩
  have H3 : Hid (CurEnd w1 w3 W.heap.size a len cap) := H2.out.trans hE
  have hr3 := hr2.grown hE.grown (by omega)
  have hB3 := hB1.trans ((below_of_grown H3.out.grown (by omega)).mono (by omega : w.heap.size ≤ W.heap.size))
  have HS : Hid (HdS h) := hS
  clear hE H2 hr2 hB1 hS
  go_wp2_with (refine store_blk (cs' := hc h) rfl rfl rfl rfl rfl hr3 infoH rfl (ones4 _) ?_; intro V h5 hoth hbel; have hbV := hbel _ _ (by omega) hB3; clear hoth hbel)
  refine bodyPost_ret_by (result_hT rfl rfl rfl h5 Tryd.underlying25 infoH) rfl ⟨h, d, rfl, HS.out, HD.out, hbV⟩

theorem hTextV_size {h : Hd} : (hTextV h).1.size ≤ 120 := by
  unfold hTextV
  split
  · rename_i hk
    obtain ⟨hs, ha, hb, hc⟩ := hok_iff.1 hk
    obtain ⟨n, hn⟩ : ∃ n : Nat, h.1 = (n : Int) := ⟨h.1.toNat, by omega⟩
    have hv : (vT h.1).size ≤ 5 := by rw [hn, vT_size]; exact varB_five (by omega)
    show (hTxt h).size ≤ 120
    unfold hTxt
    rw [ByteArray.size_append, ByteArray.size_append, ByteArray.size_append]
    omega
  · exact Nat.zero_le _

set_option maxHeartbeats 1600000 in
set_option maxRecDepth 100000 in
theorem drawRH_any (len cap : Nat) (a : Option Addr) (hm : len ≤ 1048576) (w : World) (hA : ArgAt w a len w.heap.size) :
    Calls Tryd.prog 10 #[.slice a len cap] w fun e w' => ∃ t : ByteArray, e = .returned (.string t) ∧ t.size ≤ 121 ∧ Below w.heap.size w w' := by
  have HA : Hid (ArgAt w a len w.heap.size) := hA
  clear hA
  go_enter Tryd.func10, Tryd.ntmps10
  go_wp2_with fail
  refine (new_any len cap a hm _ HA.out).mono ?_
  rintro e w1 ⟨rfl, hC, hA1, hb1⟩
  have H1 : Hid (CurEnd w1 w1 w.heap.size a len cap) := CurEnd.refl hC hA1
  have hl1 : w.heap.size ≤ w1.heap.size := hb1.size
  have HB1 : Hid (Below w.heap.size w w1) := hb1
  clear hC hA1 hb1 HA
  go_wp2_with fail
  refine (below_any _ len cap a hm 4 (by omega) (by omega) _ H1.out.cur H1.out.arg).mono ?_
  rintro e w2 ⟨x, rfl, x0, x1, hE⟩
  have H2 : Hid (CurEnd w1 w2 w.heap.size a len cap) := H1.out.trans hE
  clear hE H1
  go_wp2_with fail
  refine (any11_any _ len cap a hm _ H2.out.cur H2.out.arg).mono ?_
  rintro e w3 ⟨h, rfl, _, hE⟩
  have H3 : Hid (CurEnd w1 w3 w.heap.size a len cap) := H2.out.trans hE
  have HT : Hid (∀ w, Calls Tryd.prog 32 #[hv h] w fun e w' => e = .returned (.tuple #[.string (hTextV h).1, .bool (hTextV h).2]) ∧ Below w.heap.size w w') := sHeadText_any h
  have hs := hTextV_size (h := h)
  generalize (hTextV h).1 = s at HT hs
  generalize (hTextV h).2 = q at HT
  clear hE H2
  go_wp2_with fail
  refine (HT.out _).mono ?_
  rintro e w4 ⟨rfl, hb4⟩
  have H4 : Hid (CurEnd w1 w4 w.heap.size a len cap) := H3.out.below hb4
  clear hb4 H3 HT
  rcases (show x = 0 ∨ x = 1 ∨ 2 ≤ x by omega) with rfl | rfl | h2
  · have hs1 : ¬ 9223372036854775807 < s.size + (ByteArray.mk #[120]).size := by
      have : (ByteArray.mk #[120]).size = 1 := rfl
      omega
    go_wp2
    go_ret
    exact ⟨_, rfl, by rw [ByteArray.size_append]; have : (ByteArray.mk #[120]).size = 1 := rfl; omega, HB1.out.trans (below_of_grown H4.out.grown hl1)⟩
  · by_cases hz : (0 : Int) < (s.size : Int)
    · go_wp2_with fail
      refine (spoilt_any _ len cap a hm s (by omega) _ H4.out.cur H4.out.arg).mono ?_
      rintro e w5 ⟨t, rfl, ht, hE⟩
      have H5 : Hid (CurEnd w1 w5 w.heap.size a len cap) := H4.out.trans hE
      clear hE H4
      go_wp2
      go_ret
      exact ⟨_, rfl, by omega, HB1.out.trans (below_of_grown H5.out.grown hl1)⟩
    · go_wp2
      go_ret
      exact ⟨_, rfl, by omega, HB1.out.trans (below_of_grown H4.out.grown hl1)⟩
  · have n0 : (x == 0) = false := by rw [beq_eq_false_iff_ne]; omega
    have n1 : (x == 1) = false := by rw [beq_eq_false_iff_ne]; omega
    go_wp2
    go_ret
    exact ⟨_, rfl, by omega, HB1.out.trans (below_of_grown H4.out.grown hl1)⟩

end Go.Proofs.YtlaoikpbgbckjaaDoor

/-
  The draws: twelve places.
  (-DROP-: what the seat lacks is left out.)
-/
namespace Go.Proofs.YtlaoikpbgbckjaaDoor
open Go.RowKit

def intsV (l : List Nat) : List Value := l.map fun (n : Nat) => .int .i64 (n : Int)

theorem intsV_append (a b : List Nat) : intsV (a ++ b) = intsV a ++ intsV b := by simp [intsV]

theorem intsV_length (a : List Nat) : (intsV a).length = a.length := by simp [intsV]

theorem intsV_at {l : List Nat} {j : Nat} (h : j < l.length) : (intsV l)[j]? = some (.int .i64 (l[j] : Int)) := by simp [intsV, h]

theorem info3 : (Tryd.prog.info? 3).map (fun i => (i.zero, i.size, i.bytes)) = some (some (.int .i64 0), 1, 8) := by kernel_rfl

set_option maxRecDepth 100000 in
theorem big_any (len cap : Nat) (a : Option Addr) (hm : len ≤ 9223372036854775807) (w : World) :
    Calls Tryd.prog 6 #[.slice a len cap] w fun e w' => e = .returned (.bool (decide (1048576 < len))) ∧ w = w' := by
  by_cases h : 1048576 < len
  · have h' : (1048576 : Int) < (len : Int) := by omega
    have hd : decide (1048576 < len) = true := by simpa using h
    rw [hd]
    clear h hd
    go_enter Tryd.func6, Tryd.ntmps6
    go_wp2
    go_ret
    exact ⟨rfl, rfl⟩
  · have h' : ¬ (1048576 : Int) < (len : Int) := by omega
    have hd : decide (1048576 < len) = false := by simpa using h
    rw [hd]
    clear h hd
    go_enter Tryd.func6, Tryd.ntmps6
    go_wp2
    go_ret
    exact ⟨rfl, rfl⟩

/-- What DrawPlaces leaves. -/
def PlacesEnd (w : World) (e : Ending) (w' : World) : Prop := ∃ (g cp : Nat) (x : Nat → Nat), e = .returned (.slice (some ⟨g, 0, none⟩) 12 cp) ∧ g < w'.heap.size ∧ w.heap.size ≤ g ∧ (∀ j, j < 12 → x j < 10000 ∧
  w'.cell? ⟨g, j, none⟩ = some (.int .i64 (x j : Int))) ∧ Below w.heap.size w w'

end Go.Proofs.YtlaoikpbgbckjaaDoor

/-
  The steps of the law of a class where operations are guarded.
-/
namespace Go.Proofs.YtlaoikpbgbckjaaDoor

section
variable {P : Program} {ops : Array Oper} {C : World → Prop}

theorem cls_stepG {R : Act → Prop} {a : Act} {o : Oper} {rest : List Oper} (hg : Region.wanted o (yielded ops a.tmps) = true)
    (h : ∀ K : Act → Prop, (∀ a, WQ P ops C R rest a → K a) → ∃ v, (∀ w, C w → (execOp a.eval o).run P w = .ok (.value v) w) ∧ K (a.put o.dst v)) : WQ P ops C R (o :: rest) a := by
  refine ⟨wpQuiet_step fun K hK => ?_⟩
  rw [if_pos hg]
  obtain ⟨v, h1, h2⟩ := h K fun a ha => hK a ha.out
  exact ⟨v, fun w hw => by unfold Oper.quietAt; rw [h1 w hw]; exact ⟨rfl, rfl⟩, h2⟩

theorem cls_callG {R : Act → Prop} {a : Act} {o : Oper} {rest : List Oper} (hg : Region.wanted o (yielded ops a.tmps) = true)
    (h : ∀ K : Act → Prop, (∀ a, WQ P ops C R rest a → K a) → ∃ f args v, (∀ w, (execOp a.eval o).run P w = .ok (.enter f args) w) ∧ (∀ w, C w → Calls P f args w fun e w' => e = .returned v ∧ C w') ∧ K (a.put o.dst v)) : WQ P ops C R (o :: rest) a := by
  refine ⟨wpQuiet_step fun K hK => ?_⟩
  rw [if_pos hg]
  obtain ⟨f, args, v, h1, h2, h3⟩ := h K fun a ha => hK a ha.out
  exact ⟨v, fun w hw => by unfold Oper.quietAt; rw [h1 w]; exact ⟨rfl, h2 w hw⟩, h3⟩

/-- One that is passed over. -/
theorem cls_skip {R : Act → Prop} {a : Act} {o : Oper} {rest : List Oper} (hg : Region.wanted o (yielded ops a.tmps) = false)
    (h : ∀ K : Act → Prop, (∀ a, WQ P ops C R rest a → K a) → K (a.put o.dst undef)) : WQ P ops C R (o :: rest) a := by
  refine ⟨wpQuiet_step fun K hK => ?_⟩
  rw [if_neg (by rw [hg]; exact Bool.false_ne_true)]
  exact h K fun a ha => hK a ha.out

end
end Go.Proofs.YtlaoikpbgbckjaaDoor
