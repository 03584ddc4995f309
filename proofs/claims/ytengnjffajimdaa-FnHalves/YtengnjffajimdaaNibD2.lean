/-
  The draws of paths by halves.
  (-DROP-: what the seat lacks is left out.)
-/
import Derived.Test.YtengnjffajimdaaNibD1
import Derived.Test.YtengnjffajimdaaNibS7
namespace Go.Proofs.Ytengnjffajimdaa
open Go.RowKit

theorem CurEnd.past {w w1 w2 : World} {c len cap : Nat} {a : Option Addr} (h : CurEnd w w1 c a len cap) (hb : Below w1.heap.size w1 w2) : CurEnd w w2 c a len cap := by
  have hc := h.cur.lt
  obtain ⟨i, hh, hi, hcell⟩ := h.cur
  exact ⟨⟨i, hh, hi, (hb.block c hc).trans hcell⟩, h.arg.on (hb.mono (Nat.le_of_lt hc)), ⟨hb.os.trans h.grown.os, hb.tape.trans h.grown.tape, hb.output.trans h.grown.output, Nat.le_trans h.grown.size hb.size, fun k hk hne => (hb.block k (Nat.lt_of_lt_of_le hk h.grown.size)).trans (h.grown.block k hk hne)⟩⟩
theorem preT_short (l : List Int) (b : Bool) : (preT l b).size ≤ 40 := by
  unfold preT
  split
  · rename_i h
    have h1 := (nib_in h).1
    show (preL l b).toArray.size ≤ 40
    rw [List.size_toArray]
    unfold preL
    rw [List.length_cons]
    have h2 := preR_len l
    rw [twoL_length ((preR l).length / 2) _ (by rw [h2]; omega)]
    omega
  · exact Nat.zero_le _

set_option maxHeartbeats 800000 in
set_option maxRecDepth 100000 in
theorem dPre_any (len cap : Nat) (a : Option Addr) (hm : len ≤ 1048576) (w : World) (hA : ArgAt w a len w.heap.size) :
    Calls Try.prog 10 #[.slice a len cap] w fun e w' => ∃ (v : Value) (l : List Int) (b : Bool), e = .returned (.tuple #[v, .bool b]) ∧ l.length ≤ 65 ∧ ZOwn w.heap.size w'.heap.size w' v l ∧ Below w.heap.size w w' := by
  have HA : Hid (ArgAt w a len w.heap.size) := hA
  clear hA
  go_enter Try.func10, Try.ntmps10
  go_wp2_with fail
  refine (new_any len cap a hm _ HA.out).mono ?_
  rintro e w1 ⟨rfl, hC, hA1, hb⟩
  have HC : Hid (CurAt w1 w.heap.size a len cap) := hC
  have HA1 : Hid (ArgAt w1 a len w.heap.size) := hA1
  have hl1 : w.heap.size ≤ w1.heap.size := hb.size
  have HB1 : Hid (Below w.heap.size w w1) := hb
  clear hC hA1 HA hb
  go_wp2_with fail
  refine (once_any w.heap.size len cap a hm 2 (by decide) (by decide) _ HC.out HA1.out).mono ?_
  rintro e w2 ⟨b, rfl, hE⟩
  have HE2 : Hid (CurEnd w1 w2 w.heap.size a len cap) := hE
  clear hE HC HA1
  go_wp2_with fail
  refine (dNibs_any w.heap.size len cap a hm _ HE2.out.cur HE2.out.arg).mono ?_
  rintro e w3 ⟨g, cv, l, rfl, hl, hR, hE⟩
  have HE3 := HE2.out.trans hE
  have HB3 : Hid (Below w.heap.size w w3) := HB1.out.trans (below_of_grown HE3.grown hl1)
  have HZ : Hid (ZOwn w.heap.size w3.heap.size w3 (.slice (some ⟨g, 0, none⟩) l.length cv) l) := (ZOwn.of hR).wide (Nat.le_trans hl1 HE2.out.grown.size) (Nat.le_refl _)
  have HL : Hid (l.length ≤ 65) := hl
  generalize hn : l.length = n at *
  clear hR hE HE3 hl HE2
  go_wp2
  go_ret2
  exact ⟨_, l, b, rfl, by rw [hn]; exact HL.out, HZ.out, HB3.out⟩

set_option maxHeartbeats 800000 in
set_option maxRecDepth 100000 in
theorem dHalf_any (len cap : Nat) (a : Option Addr) (hm : len ≤ 1048576) (w : World) (hA : ArgAt w a len w.heap.size) :
    Calls Try.prog 15 #[.slice a len cap] w fun e w' => ∃ t : ByteArray, e = .returned (.string t) ∧ t.size ≤ 40 ∧ Below w.heap.size w w' := by
  have HA : Hid (ArgAt w a len w.heap.size) := hA
  clear hA
  go_enter Try.func15, Try.ntmps15
  go_wp2_with fail
  refine (new_any len cap a hm _ HA.out).mono ?_
  rintro e w1 ⟨rfl, hC, hA1, hb⟩
  have HC : Hid (CurAt w1 w.heap.size a len cap) := hC
  have HA1 : Hid (ArgAt w1 a len w.heap.size) := hA1
  have hl1 : w.heap.size ≤ w1.heap.size := hb.size
  have HB1 : Hid (Below w.heap.size w w1) := hb
  clear hC hA1 HA hb
  go_wp2_with fail
  refine (below_any w.heap.size len cap a hm 6 (by decide) (by decide) _ HC.out HA1.out).mono ?_
  rintro e w2 ⟨x, rfl, x0, x1, hE⟩
  obtain ⟨k, rfl⟩ : ∃ k : Nat, x = (k : Int) := ⟨x.toNat, by omega⟩
  have HE2 : Hid (CurEnd w1 w2 w.heap.size a len cap) := hE
  clear hE HC HA1
  go_wp2_with fail
  refine (drawn_any w.heap.size len cap a hm k (by omega) _ HE2.out.cur HE2.out.arg).mono ?_
  rintro e w3 ⟨t, rfl, htl, hE⟩
  have HB3 : Hid (Below w.heap.size w w3) := HB1.out.trans (below_of_grown (HE2.out.trans hE).grown hl1)
  have HS : Hid ((ByteArray.mk t.toArray).size ≤ 40) := by
    show t.toArray.size ≤ 40
    rw [List.size_toArray]
    omega
  generalize ByteArray.mk t.toArray = T at HS ⊢
  clear hE HE2 htl x0 x1
  go_wp2
  go_ret
  exact ⟨_, rfl, HS.out, HB3.out⟩

set_option maxHeartbeats 800000 in
set_option maxRecDepth 100000 in
theorem dRead_any (len cap : Nat) (a : Option Addr) (hm : len ≤ 1048576) (w : World) (hA : ArgAt w a len w.heap.size) :
    Calls Try.prog 13 #[.slice a len cap] w fun e w' => ∃ t : ByteArray, e = .returned (.string t) ∧ t.size ≤ 40 ∧ Below w.heap.size w w' := by
  have HA : Hid (ArgAt w a len w.heap.size) := hA
  clear hA
  go_enter Try.func13, Try.ntmps13
  go_wp2_with fail
  refine (new_any len cap a hm _ HA.out).mono ?_
  rintro e w1 ⟨rfl, hC, hA1, hb⟩
  have HC : Hid (CurAt w1 w.heap.size a len cap) := hC
  have HA1 : Hid (ArgAt w1 a len w.heap.size) := hA1
  have hl1 : w.heap.size ≤ w1.heap.size := hb.size
  have HB1 : Hid (Below w.heap.size w w1) := hb
  clear hC hA1 HA hb
  go_wp2_with fail
  refine (below_any w.heap.size len cap a hm 4 (by decide) (by decide) _ HC.out HA1.out).mono ?_
  rintro e w2 ⟨x, rfl, x0, x1, hE⟩
  have HE2 : Hid (CurEnd w1 w2 w.heap.size a len cap) := hE
  clear hE HC HA1
  go_wp2_with fail
  refine (dNibs_any w.heap.size len cap a hm _ HE2.out.cur HE2.out.arg).mono ?_
  rintro e w3 ⟨g, cv, l, rfl, hl, hR, hE⟩
  have HE3 : Hid (CurEnd w1 w3 w.heap.size a len cap) := HE2.out.trans hE
  have HZ : Hid (ZOwn w2.heap.size w3.heap.size w3 (.slice (some ⟨g, 0, none⟩) l.length cv) l) := ZOwn.of hR
  have hc2 : w.heap.size < w2.heap.size := HE2.out.cur.lt
  clear hR hE HE2
  go_wp2_with fail
  refine (once_any w.heap.size len cap a hm 2 (by decide) (by decide) _ HE3.out.cur HE3.out.arg).mono ?_
  rintro e w4 ⟨b, rfl, hE⟩
  have HE4 : Hid (CurEnd w1 w4 w.heap.size a len cap) := HE3.out.trans hE
  have HZ4 : ZAt w4 w4.heap.size (.slice (some ⟨g, 0, none⟩) l.length cv) l := (HZ.out.same (Same.of_grown hE.grown (Nat.le_refl _) (fun k h1 h2 e => by injection e with e; omega))).at.wide hE.grown.size
  have HPX := sPrefix_any _ l b (by omega) w4 HZ4
  clear hE HE3 HZ HZ4
  go_wp2_with fail
  refine HPX.mono ?_
  rintro e w5 ⟨rfl, hb5⟩
  have HE5 : Hid (CurEnd w1 w5 w.heap.size a len cap) := HE4.out.past hb5
  have HS : Hid ((preT l b).size ≤ 40) := preT_short l b
  generalize preT l b = T at HS ⊢
  clear hb5 HE4 HPX
  by_cases h0 : x = 0
  · subst h0
    go_wp2_with fail
    refine (below_any w.heap.size len cap a hm 4 (by decide) (by decide) _ HE5.out.cur HE5.out.arg).mono ?_
    rintro e w6 ⟨y, rfl, y0, y1, hE⟩
    obtain ⟨k, rfl⟩ : ∃ k : Nat, y = (k : Int) := ⟨y.toNat, by omega⟩
    have HE6 : Hid (CurEnd w1 w6 w.heap.size a len cap) := HE5.out.trans hE
    clear hE HE5
    go_wp2_with fail
    refine (drawn_any w.heap.size len cap a hm k (by omega) _ HE6.out.cur HE6.out.arg).mono ?_
    rintro e w7 ⟨t, rfl, htl, hE⟩
    have HB7 : Hid (Below w.heap.size w w7) := HB1.out.trans (below_of_grown (HE6.out.trans hE).grown hl1)
    have HS2 : Hid ((ByteArray.mk t.toArray).size ≤ 40) := by
      show t.toArray.size ≤ 40
      rw [List.size_toArray]
      omega
    generalize ByteArray.mk t.toArray = T2 at HS2 ⊢
    clear hE HE6 htl y0 y1
    go_wp2
    go_ret
    exact ⟨_, rfl, HS2.out, HB7.out⟩
  · have h0' : (x == 0) = false := beq_eq_false_iff_ne.2 h0
    have HB5 : Hid (Below w.heap.size w w5) := HB1.out.trans (below_of_grown HE5.out.grown hl1)
    clear x0 x1 HE5
    go_wp2
    go_ret
    exact ⟨_, rfl, HS.out, HB5.out⟩

end Go.Proofs.Ytengnjffajimdaa
