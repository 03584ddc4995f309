/-
  The draws of texts for a digest.
-/
import Derived.Test.YthncegemhaofnaaDoorDraw2
namespace Go.Proofs.YthncegemhaofnaaDoor
open Go.RowKit

/-- What an int holds. -/
def Inside (z : Int) : Prop := -9223372036854775808 ≤ z ∧ z ≤ 9223372036854775807

theorem CurEnd.below {w w1 w2 : World} {c len cap : Nat} {a : Option Addr} (h : CurEnd w w1 c a len cap) (hb : Below w1.heap.size w1 w2) : CurEnd w w2 c a len cap := by
  have hlt := h.cur.lt
  obtain ⟨i, hh, hi, hbk⟩ := h.cur
  refine ⟨⟨i, hh, hi, (hb.block c hlt).trans hbk⟩, h.arg.on (hb.mono (Nat.le_of_lt hlt)), ?_⟩
  refine grown_trans h.grown ⟨hb.os, hb.tape, hb.output, hb.size, fun k hk _ => hb.block k hk⟩

theorem size_mk (t : List UInt8) : (ByteArray.mk t.toArray).size = t.length := by show t.toArray.size = _; simp

set_option maxHeartbeats 800000 in
set_option maxRecDepth 100000 in
theorem some_any (c len cap : Nat) (a : Option Addr) (hm : len ≤ 1048576) (w : World) (hC : CurAt w c a len cap) (hA : ArgAt w a len c) :
    Calls Tryd.prog 23 #[.pointer (some ⟨c, 0, none⟩)] w fun e w' => ∃ s : ByteArray, e = .returned (.string s) ∧ s.size ≤ 272 ∧ CurEnd w w' c a len cap := by
  have HS : Hid (CurEnd w w c a len cap) := CurEnd.refl hC hA
  clear hA hC
  go_enter Tryd.func23, Tryd.ntmps23
  go_wp2_with fail
  have HW := HS.out.alloc (.cells #[.int .i64 0, .int .i64 1, .int .i64 3, .int .i64 9, .int .i64 32, .int .i64 134, .int .i64 135, .int .i64 136, .int .i64 137, .int .i64 200, .int .i64 272] 3)
  have hcl := HS.out.cur.lt
  refine (pick_any c len cap a hm w.heap.size 11 11 (by omega) (by omega) _ HW.cur HW.arg (by omega) (fun z => 0 ≤ z ∧ z ≤ 272) (ints_new w [0, 1, 3, 9, 32, 134, 135, 136, 137, 200, 272] _ rfl (fun z => 0 ≤ z ∧ z ≤ 272) (by intro z hz; simp at hz; omega))).mono ?_
  rintro e w1 ⟨z, rfl, hz, hE⟩
  have HE1 : Hid (CurEnd w w1 c a len cap) := HW.trans hE
  obtain ⟨n, rfl⟩ : ∃ n : Nat, z = n := ⟨z.toNat, by omega⟩
  have HN : Hid (n ≤ 272) := (show n ≤ 272 by omega)
  clear hE HW hz hcl
  go_wp2_with fail
  refine (drawn_any c len cap a hm n (by have := HN.out; omega) _ HE1.out.cur HE1.out.arg).mono ?_
  rintro e w2 ⟨t, rfl, ht, hE⟩
  have HE2 : Hid (CurEnd w w2 c a len cap) := HE1.out.trans hE
  have HT : Hid ((ByteArray.mk t.toArray).size ≤ 272) := (show _ ≤ 272 by rw [size_mk, ht]; exact HN.out)
  generalize ByteArray.mk t.toArray = s at HT
  clear hE ht
  go_wp2
  go_ret
  exact ⟨s, rfl, HT.out, HE2.out⟩

set_option maxHeartbeats 800000 in
set_option maxRecDepth 100000 in
theorem state_any (c len cap : Nat) (a : Option Addr) (hm : len ≤ 1048576) (w : World) (hC : CurAt w c a len cap) (hA : ArgAt w a len c) :
    Calls Tryd.prog 34 #[.pointer (some ⟨c, 0, none⟩)] w fun e w' => ∃ s : ByteArray, e = .returned (.string s) ∧ s.size = 200 ∧ CurEnd w w' c a len cap := by
  have HS : Hid (CurEnd w w c a len cap) := CurEnd.refl hC hA
  clear hA hC
  go_enter Tryd.func34, Tryd.ntmps34
  go_wp2_with fail
  refine (drawn_any c len cap a hm 40 (by omega) _ HS.out.cur HS.out.arg).mono ?_
  rintro e w1 ⟨t, rfl, ht, hE⟩
  have HE1 : Hid (CurEnd w w1 c a len cap) := HS.out.trans hE
  have hts : (ByteArray.mk t.toArray).size = 40 := by rw [size_mk, ht]
  generalize ByteArray.mk t.toArray = u at hts
  have HU : Hid (u.size = 40) := hts
  clear hE ht
  go_wp2_with fail
  refine (below_any c len cap a hm 250 (by omega) (by omega) _ HE1.out.cur HE1.out.arg).mono ?_
  rintro e w2 ⟨x, rfl, x0, x1, hE⟩
  have HE2 : Hid (CurEnd w w2 c a len cap) := HE1.out.trans hE
  have hx : IntKind.u8.wrap x = x := IntWalk.u8_in _ (by omega)
  clear hE
  go_wp2_with fail
  refine (long_any 160 x x0 (by omega) (by omega) _).mono ?_
  rintro e w3 ⟨t, rfl, ht, hb⟩
  have HE3 : Hid (CurEnd w w3 c a len cap) := HE2.out.below hb
  have HV : Hid ((ByteArray.mk t.toArray).size = 160) := (show _ = 160 by rw [size_mk, ht])
  generalize ByteArray.mk t.toArray = v at HV
  have hu1 : u.size ≤ 40 := by rw [HU.out]; omega
  have hv1 : v.size ≤ 160 := by rw [HV.out]; omega
  clear hb ht hts
  go_wp2
  go_ret
  exact ⟨u ++ v, rfl, by rw [ByteArray.size_append, HU.out, HV.out], HE3.out⟩

set_option maxHeartbeats 800000 in
set_option maxRecDepth 100000 in
theorem place_any (c len cap : Nat) (a : Option Addr) (hm : len ≤ 1048576) (w : World) (hC : CurAt w c a len cap) (hA : ArgAt w a len c) :
    Calls Tryd.prog 42 #[.pointer (some ⟨c, 0, none⟩), .int .i64 23] w fun e w' => ∃ x : Int, e = .returned (.int .i64 x) ∧ Inside x ∧ CurEnd w w' c a len cap := by
  have HS : Hid (CurEnd w w c a len cap) := CurEnd.refl hC hA
  clear hA hC
  go_enter Tryd.func42, Tryd.ntmps42
  go_wp2_with fail
  refine (once_any c len cap a hm 15 (by omega) (by omega) _ HS.out.cur HS.out.arg).mono ?_
  rintro e w1 ⟨x, rfl, hE⟩
  have HE1 : Hid (CurEnd w w1 c a len cap) := HS.out.trans hE
  clear hE
  cases x
  · go_wp2_with fail
    refine (below_any c len cap a hm 23 (by omega) (by omega) _ HE1.out.cur HE1.out.arg).mono ?_
    rintro e w2 ⟨x, rfl, x0, x1, hE⟩
    have HE2 : Hid (CurEnd w w2 c a len cap) := HE1.out.trans hE
    have HI : Hid (Inside x) := (show Inside x by unfold Inside; omega)
    clear hE
    go_wp2
    go_ret
    exact ⟨_, rfl, HI.out, HE2.out⟩
  · go_wp2_with fail
    have HW := HE1.out.alloc (.cells #[.int .i64 (-1), .int .i64 23, .int .i64 24, .int .i64 9223372036854775807, .int .i64 (-9223372036854775808)] 3)
    have hcl := HE1.out.cur.lt
    refine (pick_any c len cap a hm w1.heap.size 5 5 (by omega) (by omega) _ HW.cur HW.arg (by omega) Inside (ints_new w1 [-1, 23, 24, 9223372036854775807, -9223372036854775808] _ rfl Inside (by unfold Inside; intro z hz; simp at hz; omega))).mono ?_
    rintro e w2 ⟨z, rfl, hz, hE⟩
    have HE2 : Hid (CurEnd w w2 c a len cap) := HW.trans hE
    have HZ : Hid (Inside z) := hz
    clear hE HW hz
    go_wp2
    go_ret
    exact ⟨_, rfl, HZ.out, HE2.out⟩

set_option maxHeartbeats 800000 in
set_option maxRecDepth 100000 in
theorem drawText_any (len cap : Nat) (a : Option Addr) (hm : len ≤ 1048576) (w : World) (hA : ArgAt w a len w.heap.size) :
    Calls Tryd.prog 8 #[.slice a len cap] w fun e w' => ∃ s : ByteArray, e = .returned (.string s) ∧ s.size ≤ 272 ∧ Below w.heap.size w w' := by
  have HA : Hid (ArgAt w a len w.heap.size) := hA
  clear hA
  go_enter Tryd.func8, Tryd.ntmps8
  go_wp2_with fail
  refine (new_any len cap a hm _ HA.out).mono ?_
  rintro e w1 ⟨rfl, hC, hA1, hb⟩
  have HS : Hid (CurEnd w1 w1 w.heap.size a len cap) := CurEnd.refl hC hA1
  have hl1 : w.heap.size ≤ w1.heap.size := hb.size
  clear hC hA1
  go_wp2_with fail
  refine (some_any w.heap.size len cap a hm _ HS.out.cur HS.out.arg).mono ?_
  rintro e w2 ⟨s, rfl, hs, hE⟩
  have hb2 : Below w.heap.size w w2 := hb.trans (below_of_grown hE.grown hl1)
  have HT : Hid (s.size ≤ 272) := hs
  clear hE hs
  go_wp2
  go_ret
  exact ⟨s, rfl, HT.out, hb2⟩

set_option maxHeartbeats 800000 in
set_option maxRecDepth 100000 in
theorem drawKF_any (len cap : Nat) (a : Option Addr) (hm : len ≤ 1048576) (w : World) (hA : ArgAt w a len w.heap.size) :
    Calls Tryd.prog 15 #[.slice a len cap] w fun e w' => ∃ s : ByteArray, e = .returned (.string s) ∧ s.size ≤ 201 ∧ Below w.heap.size w w' := by
  have HA : Hid (ArgAt w a len w.heap.size) := hA
  clear hA
  go_enter Tryd.func15, Tryd.ntmps15
  go_wp2_with fail
  refine (new_any len cap a hm _ HA.out).mono ?_
  rintro e w1 ⟨rfl, hC, hA1, hb⟩
  have HS : Hid (CurEnd w1 w1 w.heap.size a len cap) := CurEnd.refl hC hA1
  have hl1 : w.heap.size ≤ w1.heap.size := hb.size
  clear hC hA1
  go_wp2_with fail
  refine (state_any w.heap.size len cap a hm _ HS.out.cur HS.out.arg).mono ?_
  rintro e w2 ⟨s, rfl, hs, hE⟩
  have HE2 : Hid (CurEnd w1 w2 w.heap.size a len cap) := HS.out.trans hE
  have HT : Hid (s.size = 200) := hs
  have hs2 : s.size ≤ 200 := by omega
  clear hE hs
  go_wp2_with fail
  refine (once_any w.heap.size len cap a hm 12 (by omega) (by omega) _ HE2.out.cur HE2.out.arg).mono ?_
  rintro e w3 ⟨x, rfl, hE⟩
  have hb2 : Below w.heap.size w w3 := hb.trans (below_of_grown (HE2.out.trans hE).grown hl1)
  clear hE
  cases x
  · go_wp2
    go_ret
    exact ⟨s, rfl, by rw [HT.out]; omega, hb2⟩
  · go_wp2
    go_ret
    exact ⟨_, rfl, by rw [ByteArray.size_append, HT.out]; decide, hb2⟩

set_option maxHeartbeats 800000 in
set_option maxRecDepth 100000 in
theorem drawKR_any (len cap : Nat) (a : Option Addr) (hm : len ≤ 1048576) (w : World) (hA : ArgAt w a len w.heap.size) :
    Calls Tryd.prog 19 #[.slice a len cap] w fun e w' => ∃ (s : ByteArray) (r : Int), e = .returned (.tuple #[.string s, .int .i64 r]) ∧ s.size ≤ 201 ∧ Below w.heap.size w w' := by
  have HA : Hid (ArgAt w a len w.heap.size) := hA
  clear hA
  go_enter Tryd.func19, Tryd.ntmps19
  go_wp2_with fail
  refine (new_any len cap a hm _ HA.out).mono ?_
  rintro e w1 ⟨rfl, hC, hA1, hb⟩
  have HS : Hid (CurEnd w1 w1 w.heap.size a len cap) := CurEnd.refl hC hA1
  have hl1 : w.heap.size ≤ w1.heap.size := hb.size
  clear hC hA1
  go_wp2_with fail
  refine (place_any w.heap.size len cap a hm _ HS.out.cur HS.out.arg).mono ?_
  rintro e w2 ⟨r, rfl, _, hE⟩
  have HE1 : Hid (CurEnd w1 w2 w.heap.size a len cap) := HS.out.trans hE
  clear hE
  go_wp2_with fail
  refine (state_any w.heap.size len cap a hm _ HE1.out.cur HE1.out.arg).mono ?_
  rintro e w3 ⟨s, rfl, hs, hE⟩
  have HE2 : Hid (CurEnd w1 w3 w.heap.size a len cap) := HE1.out.trans hE
  have HT : Hid (s.size = 200) := hs
  have hs1 : (1 : Int) ≤ (s.size : Int) := by omega
  clear hE hs
  go_wp2_with fail
  refine (once_any w.heap.size len cap a hm 12 (by omega) (by omega) _ HE2.out.cur HE2.out.arg).mono ?_
  rintro e w4 ⟨x, rfl, hE⟩
  have hb2 : Below w.heap.size w w4 := hb.trans (below_of_grown (HE2.out.trans hE).grown hl1)
  clear hE
  cases x
  · go_wp2
    go_ret2
    exact ⟨s, r, rfl, by rw [HT.out]; omega, hb2⟩
  · go_wp2
    go_ret2
    exact ⟨_, r, rfl, by rw [ByteArray.size_extract, HT.out]; omega, hb2⟩

set_option maxHeartbeats 800000 in
set_option maxRecDepth 100000 in
theorem drawRot_any (len cap : Nat) (a : Option Addr) (hm : len ≤ 1048576) (w : World) (hA : ArgAt w a len w.heap.size) :
    Calls Tryd.prog 17 #[.slice a len cap] w fun e w' => ∃ (s : ByteArray) (n : Int), e = .returned (.tuple #[.string s, .int .i64 n]) ∧ s.size ≤ 9 ∧ Inside n ∧ Below w.heap.size w w' := by
  have HA : Hid (ArgAt w a len w.heap.size) := hA
  clear hA
  go_enter Tryd.func17, Tryd.ntmps17
  go_wp2_with fail
  refine (new_any len cap a hm _ HA.out).mono ?_
  rintro e w1 ⟨rfl, hC, hA1, hb⟩
  have HS : Hid (CurEnd w1 w1 w.heap.size a len cap) := CurEnd.refl hC hA1
  have hl1 : w.heap.size ≤ w1.heap.size := hb.size
  clear hC hA1
  go_wp2_with fail
  have HW := HS.out.alloc (.cells #[.int .i64 0, .int .i64 1, .int .i64 7, .int .i64 63, .int .i64 64, .int .i64 65, .int .i64 (-1), .int .i64 9223372036854775807] 3)
  have hcl := HS.out.cur.lt
  refine (pick_any w.heap.size len cap a hm w1.heap.size 8 8 (by omega) (by omega) _ HW.cur HW.arg (by omega) Inside (ints_new w1 [0, 1, 7, 63, 64, 65, -1, 9223372036854775807] _ rfl Inside (by unfold Inside; intro z hz; simp at hz; omega))).mono ?_
  rintro e w2 ⟨n, rfl, hn, hE⟩
  have HE2 : Hid (CurEnd w1 w2 w.heap.size a len cap) := HW.trans hE
  have HN : Hid (Inside n) := hn
  clear hE HW hn hcl
  go_wp2_with fail
  have HW := HE2.out.alloc (.cells #[.int .i64 8, .int .i64 8, .int .i64 8, .int .i64 7, .int .i64 9] 3)
  have hcl := HE2.out.cur.lt
  refine (pick_any w.heap.size len cap a hm w2.heap.size 5 5 (by omega) (by omega) _ HW.cur HW.arg (by omega) (fun z => 0 ≤ z ∧ z ≤ 9) (ints_new w2 [8, 8, 8, 7, 9] _ rfl (fun z => 0 ≤ z ∧ z ≤ 9) (by intro z hz; simp at hz; omega))).mono ?_
  rintro e w3 ⟨z, rfl, hz, hE⟩
  have HE3 : Hid (CurEnd w1 w3 w.heap.size a len cap) := HW.trans hE
  obtain ⟨m, rfl⟩ : ∃ m : Nat, z = m := ⟨z.toNat, by omega⟩
  have HM : Hid (m ≤ 9) := (show m ≤ 9 by omega)
  clear hE HW hz hcl
  go_wp2_with fail
  refine (drawn_any w.heap.size len cap a hm m (by have := HM.out; omega) _ HE3.out.cur HE3.out.arg).mono ?_
  rintro e w4 ⟨t, rfl, ht, hE⟩
  have hb2 : Below w.heap.size w w4 := hb.trans (below_of_grown (HE3.out.trans hE).grown hl1)
  have HT : Hid ((ByteArray.mk t.toArray).size ≤ 9) := (show _ ≤ 9 by rw [size_mk, ht]; exact HM.out)
  generalize ByteArray.mk t.toArray = s at HT
  clear hE ht
  go_wp2
  go_ret2
  exact ⟨s, n, rfl, HT.out, HN.out, hb2⟩

end Go.Proofs.YthncegemhaofnaaDoor
