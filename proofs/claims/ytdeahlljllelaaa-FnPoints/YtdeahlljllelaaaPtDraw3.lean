/-
  The draws of points: pairs, numbers and points, texts.
  (-DROP-: what the seat lacks is left out.)
-/
import Derived.Test.YtdeahlljllelaaaPtDraw2
import Derived.Test.YtdeahlljllelaaaSpoilt
namespace Go.Proofs.Ytdeahlljllelaaa
open Go.RowKit

theorem ptText_size (P : Pt) : (ptText P).size ≤ 3 := by
  show (ptBytes P).toArray.size ≤ 3
  unfold ptBytes
  split
  · split <;> simp
  · simp

set_option maxHeartbeats 1600000 in
set_option maxRecDepth 100000 in
theorem drawRead_any (len cap : Nat) (a : Option Addr) (hm : len ≤ 1048576) (w : World) (hA : ArgAt w a len w.heap.size) :
    Calls Try.prog 18 #[.slice a len cap] w fun e w' => ∃ t : ByteArray, e = .returned (.string t) ∧ t.size ≤ 4 ∧ Below w.heap.size w w' := by
  have HA : Hid (ArgAt w a len w.heap.size) := hA
  clear hA
  go_enter Try.func18, Try.ntmps18
  go_wp2_with fail
  refine (new_any len cap a hm _ HA.out).mono ?_
  rintro e w1 ⟨rfl, hC, hA1, hb1⟩
  have H1 : Hid (CurEnd w1 w1 w.heap.size a len cap) := CurEnd.refl hC hA1
  have hl1 : w.heap.size ≤ w1.heap.size := hb1.size
  have HB1 : Hid (Below w.heap.size w w1) := hb1
  clear hC hA1 hb1 HA
  go_wp2_with fail
  refine (below_any _ len cap a hm 4 (by omega) (by omega) _ H1.out.cur H1.out.arg).mono ?_
  rintro e w2 ⟨x, rfl, x0, x1, hE⟩
  have H2 : Hid (CurEnd w1 w2 w.heap.size a len cap) := H1.out.trans hE
  clear hE H1
  go_wp2_with fail
  refine (anyP_any _ len cap a hm _ H2.out.cur H2.out.arg).mono ?_
  rintro e w3 ⟨P, rfl, hE⟩
  have H3 : Hid (CurEnd w1 w3 w.heap.size a len cap) := H2.out.trans hE
  have HT : Hid (∀ w, Calls Try.prog 48 #[pv P] w fun e w' => e = .returned (.string (ptText P)) ∧ Below w.heap.size w w') := sPText_any P
  have hs := ptText_size P
  generalize ptText P = s at HT hs
  clear hE H2
  go_wp2_with fail
  refine (HT.out _).mono ?_
  rintro e w4 ⟨rfl, hb4⟩
  have H4 : Hid (CurEnd w1 w4 w.heap.size a len cap) := H3.out.below hb4
  clear hb4 H3 HT
  rcases (show x = 0 ∨ x = 1 ∨ x = 2 ∨ x = 3 by omega) with rfl | rfl | rfl | rfl
  · go_wp2_with fail
    refine (drawn_any _ len cap a hm 3 (by omega) _ H4.out.cur H4.out.arg).mono ?_
    rintro e w5 ⟨t, rfl, htl, hE⟩
    have H5 : Hid (CurEnd w1 w5 w.heap.size a len cap) := H4.out.trans hE
    have hT : (⟨t.toArray⟩ : ByteArray).size = 3 := htl
    generalize (⟨t.toArray⟩ : ByteArray) = T at hT ⊢
    clear hE H4 htl
    go_wp2
    go_ret
    exact ⟨_, rfl, by omega, HB1.out.trans (below_of_grown H5.out.grown hl1)⟩
  · have hs1 : ¬ 9223372036854775807 < s.size + (ByteArray.mk #[120]).size := by
      have : (ByteArray.mk #[120]).size = 1 := rfl
      omega
    go_wp2
    go_ret
    exact ⟨_, rfl, by rw [ByteArray.size_append]; have : (ByteArray.mk #[120]).size = 1 := rfl; omega, HB1.out.trans (below_of_grown H4.out.grown hl1)⟩
  · go_wp2_with fail
    refine (spoilt_any _ len cap a hm s (by omega) _ H4.out.cur H4.out.arg).mono ?_
    rintro e w5 ⟨t, rfl, ht, hE⟩
    have H5 : Hid (CurEnd w1 w5 w.heap.size a len cap) := H4.out.trans hE
    clear hE H4
    go_wp2
    go_ret
    exact ⟨_, rfl, by omega, HB1.out.trans (below_of_grown H5.out.grown hl1)⟩
  · go_wp2
    go_ret
    exact ⟨_, rfl, by omega, HB1.out.trans (below_of_grown H4.out.grown hl1)⟩

set_option maxHeartbeats 1600000 in
set_option maxRecDepth 100000 in
theorem drawTimes_any (len cap : Nat) (a : Option Addr) (hm : len ≤ 1048576) (w : World) (hA : ArgAt w a len w.heap.size) :
    Calls Try.prog 22 #[.slice a len cap] w fun e w' => ∃ (k : Int) (P : Pt), e = .returned (.tuple #[.int .i64 k, pv P]) ∧ Inside k ∧ Below w.heap.size w w' := by
  obtain ⟨W, hW, hb, hr⟩ := box1 w 25 #[.int .i64 0, .int .i64 0, .bool false]
  have HA : Hid (ArgAt W a len W.heap.size) := hA.up hb
  clear hA
  have hWs : w.heap.size < W.heap.size := hr.lt
  go_enter Try.func22, Try.ntmps22
  go_wp2_with fail
  clear hW
  refine (new_any len cap a hm _ HA.out).mono ?_
  rintro e w1 ⟨rfl, hC, hA1, hb1⟩
  have H1 : Hid (CurEnd w1 w1 W.heap.size a len cap) := CurEnd.refl hC hA1
  have hl1 : W.heap.size < w1.heap.size := hC.lt
  have hr1 := hr.on hb1 hr.lt
  have hB1 := below_then hb hb1
  clear hC hA1 hr hb hb1 HA
  go_wp2_with fail
  have HW := H1.out.alloc (.cells #[.int .i64 0, .int .i64 1, .int .i64 2, .int .i64 (-1), .int .i64 1009, .int .i64 12108, .int .i64 12109, .int .i64 (-9223372036854775808), .int .i64 9223372036854775807, .int .i64 77] 3)
  have hr1a := hr1.alloc (.cells #[.int .i64 0, .int .i64 1, .int .i64 2, .int .i64 (-1), .int .i64 1009, .int .i64 12108, .int .i64 12109, .int .i64 (-9223372036854775808), .int .i64 9223372036854775807, .int .i64 77] 3)
  refine (pick_any _ len cap a hm w1.heap.size 10 10 (by omega) (by omega) _ HW.cur HW.arg (by omega) Inside (ints_new w1 [0, 1, 2, -1, 1009, 12108, 12109, -9223372036854775808, 9223372036854775807, 77] _ rfl Inside (by unfold Inside; intro z hz; simp at hz; omega))).mono ?_
  rintro e w2 ⟨k, rfl, hk, hE⟩
  have H2 : Hid (CurEnd w1 w2 W.heap.size a len cap) := HW.trans hE
  have hr2 := hr1a.grown hE.grown (by omega)
  have HK : Hid (Inside k) := hk
  clear hE H1 HW hr1 hr1a hk
  go_wp2_with fail
  refine (anyP_any _ len cap a hm _ H2.out.cur H2.out.arg).mono ?_
  rintro e w3 ⟨P, rfl, hE⟩
  have H3 : Hid (CurEnd w1 w3 W.heap.size a len cap) := H2.out.trans hE
  have hr3 := hr2.grown hE.grown (by omega)
  have hB3 := hB1.trans ((below_of_grown H3.out.grown (by omega)).mono (by omega : w.heap.size ≤ W.heap.size))
  clear hE H2 hr2 hB1
  go_wp2_with (refine store_blk (cs' := pc P) rfl rfl rfl rfl rfl hr3 infoP rfl (ones3 _ _ _) ?_; intro V h5 hoth hbel; have hbV := hbel _ _ (by omega) hB3; clear hoth hbel)
  refine bodyPost_ret_by (result_tmpB rfl rfl rfl h5 Try.underlying25 infoP) rfl ⟨k, P, rfl, HK.out, hbV⟩

end Go.Proofs.Ytdeahlljllelaaa
