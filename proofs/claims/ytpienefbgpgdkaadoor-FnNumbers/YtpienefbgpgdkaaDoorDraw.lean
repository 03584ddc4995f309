/-
  The walks of the functions that draw: l01New, l01Once, l01PickInt, l01Number, l01Text, l01Long, DrawVarText, DrawHex.
-/
import Derived.Test.YtpienefbgpgdkaaDoorCur
namespace Go.Proofs.YtpienefbgpgdkaaDoor
open Go.RowKit

set_option maxHeartbeats 800000 in
set_option maxRecDepth 100000 in
theorem new_any (len cap : Nat) (a : Option Addr) (hm : len ≤ 1048576) (w : World) (hA : ArgAt w a len w.heap.size) :
    Calls Tryd.prog 16 #[.slice a len cap] w fun e w' => e = .returned (.pointer (some ⟨w.heap.size, 0, none⟩)) ∧ CurAt w' w.heap.size a len cap ∧ ArgAt w' a len w.heap.size ∧ Below w.heap.size w w' := by
  go_enter Tryd.func16, Tryd.ntmps16
  go_wp2
  go_loop [3, 4] (fun x i => ∃ (h : Int) (k : Nat), x = .int .i64 h ∧ i = .int .i64 (k : Int) ∧ k ≤ len) (fun _ i => len - (intOf i).toNat)
  case atStart => exact ⟨_, 0, rfl, rfl, Nat.zero_le _⟩
  case round =>
    obtain ⟨h, k, rfl, rfl, hk⟩ := hrel
    have fin : ∀ w', w' = w.alloc (.cells #[.slice a len cap, .int .i64 0, .int .i64 h] 49) → CurAt w' w.heap.size a len cap ∧ ArgAt w' a len w.heap.size ∧ Below w.heap.size w w' := by
      intro w' hw
      have hb : Below w.heap.size w w' := by rw [hw]; exact (Below.refl _ _).alloc (Nat.le_refl _) _
      exact ⟨⟨0, h, Nat.zero_le _, by rw [hw]; exact heap_alloc_new w _⟩, hA.on hb, hb⟩
    have FIN : Hid (∀ w', w' = w.alloc (.cells #[.slice a len cap, .int .i64 0, .int .i64 h] 49) → CurAt w' w.heap.size a len cap ∧ ArgAt w' a len w.heap.size ∧ Below w.heap.size w w') := fin
    clear fin
    by_cases hlt : k < len
    · have hlt' : (k : Int) < (len : Int) := by omega
      by_cases h4 : k < 4000
      · have h4' : (k : Int) < 4000 := by omega
        obtain ⟨b, off, z, ha, hbc, hz, hz0, hz1⟩ := hA k hlt
        subst ha
        have hk0 : (0 : Int) ≤ (k : Int) := by omega
        go_wp2
        go_round
        case rel => exact ⟨_, k + 1, rfl, by go_num, hlt⟩
        case measure => simp [intOf]; omega
      · have h4' : ¬ (k : Int) < 4000 := by omega
        go_wp2
        go_ret
        exact ⟨rfl, FIN.out _ rfl⟩
    · have hlt' : ¬ (k : Int) < (len : Int) := by omega
      go_wp2
      go_ret
      exact ⟨rfl, FIN.out _ rfl⟩

set_option maxRecDepth 100000 in
theorem once_any (c len cap : Nat) (a : Option Addr) (hm : len ≤ 1048576) (n : Int) (hn : 0 < n) (hn2 : n ≤ 1000000000000) (w : World) (hC : CurAt w c a len cap) (hA : ArgAt w a len c) :
    Calls Tryd.prog 19 #[.pointer (some ⟨c, 0, none⟩), .int .i64 n] w fun e w' => ∃ x : Bool, e = .returned (.bool x) ∧ CurEnd w w' c a len cap := by
  have HA : Hid (ArgAt w a len c) := hA
  have HC : Hid (CurAt w c a len cap) := hC
  clear hA hC
  go_enter Tryd.func19, Tryd.ntmps19
  go_wp2_with fail
  refine (below_any c len cap a hm n hn hn2 _ HC.out HA.out).mono ?_
  rintro e w1 ⟨x, rfl, x0, x1, hE⟩
  have HE : Hid (CurEnd w w1 c a len cap) := hE
  clear hE
  go_wp2
  go_ret
  exact ⟨_, rfl, HE.out⟩

set_option maxRecDepth 100000 in
theorem pick_any (c len cap : Nat) (a : Option Addr) (hm : len ≤ 1048576) (g n m : Nat) (hn : 0 < n) (hn2 : n ≤ 1000) (w : World) (hC : CurAt w c a len cap) (hA : ArgAt w a len c) (hg : g ≠ c)
    (hl : ∀ j, j < n → ∃ z : Int, w.cell? ⟨g, j, none⟩ = some (.int .i64 z)) :
    Calls Tryd.prog 24 #[.pointer (some ⟨c, 0, none⟩), .slice (some ⟨g, 0, none⟩) n m] w fun e w' => ∃ x : Int, e = .returned (.int .i64 x) ∧ CurEnd w w' c a len cap := by
  have HA : Hid (ArgAt w a len c) := hA
  have HC : Hid (CurAt w c a len cap) := hC
  have HL : Hid (∀ j, j < n → ∃ z : Int, w.cell? ⟨g, j, none⟩ = some (.int .i64 z)) := hl
  clear hA hC hl
  go_enter Tryd.func24, Tryd.ntmps24
  go_wp2_with fail
  refine (below_any c len cap a hm (n : Int) (by omega) (by omega) _ HC.out HA.out).mono ?_
  rintro e w1 ⟨x, rfl, x0, x1, hE⟩
  have HE : Hid (CurEnd w w1 c a len cap) := hE
  clear hE
  obtain ⟨k, rfl⟩ : ∃ k : Nat, x = k := ⟨x.toNat, by omega⟩
  obtain ⟨z, hz⟩ := HL.out k (by omega)
  have hz1 : w1.cell? ⟨g, k, none⟩ = some (.int .i64 z) := HE.out.grown.cell hz (fun e => hg (Option.some.inj e))
  clear hz
  go_wp2
  go_ret
  exact ⟨_, rfl, HE.out⟩

theorem CurEnd.alloc {w w1 : World} {c len cap : Nat} {a : Option Addr} (h : CurEnd w w1 c a len cap) (o : Obj) : CurEnd w (w1.alloc o) c a len cap := by
  have hlt := h.cur.lt
  obtain ⟨i, hh, hi, hb⟩ := h.cur
  exact ⟨⟨i, hh, hi, (Below.heap_alloc w1 o c hlt).trans hb⟩, h.arg.on ((Below.refl c w1).alloc (Nat.le_of_lt hlt) o), grown_trans h.grown (World.grownBy_alloc _ _ _)⟩

theorem ints_new (w : World) (zs : List Int) (arr : Array Value) (he : arr = (zs.map (Value.int .i64)).toArray) : ∀ j, j < zs.length → ∃ z : Int, (w.alloc (.cells arr 3)).cell? ⟨w.heap.size, j, none⟩ = some (.int .i64 z) := by
  intro j hj
  refine ⟨zs[j], ?_⟩
  rw [cell_of_row _ w.heap.size j arr 3 (0, 0) (heap_alloc_new w _), he]
  simp [hj]

set_option maxHeartbeats 800000 in
set_option maxRecDepth 100000 in
theorem number_any (c len cap : Nat) (a : Option Addr) (hm : len ≤ 1048576) (w : World) (hC : CurAt w c a len cap) (hA : ArgAt w a len c) :
    Calls Tryd.prog 15 #[.pointer (some ⟨c, 0, none⟩)] w fun e w' => ∃ x : Int, e = .returned (.int .i64 x) ∧ CurEnd w w' c a len cap := by
  have HA : Hid (ArgAt w a len c) := hA
  have HC : Hid (CurAt w c a len cap) := hC
  clear hA hC
  go_enter Tryd.func15, Tryd.ntmps15
  go_wp2_with fail
  refine (below_any c len cap a hm 4 (by omega) (by omega) _ HC.out HA.out).mono ?_
  rintro e w1 ⟨x, rfl, x0, x1, hE⟩
  have HE : Hid (CurEnd w w1 c a len cap) := hE
  clear hE
  by_cases h0 : x = 0
  · have h0' : (x == 0) = true := by rw [beq_iff_eq]; exact h0
    clear h0
    go_wp2_with fail
    have HW := HE.out.alloc (.cells #[.int .i64 (-1), .int .i64 0, .int .i64 127, .int .i64 128, .int .i64 16383, .int .i64 16384, .int .i64 1000000000, .int .i64 1000000001, .int .i64 9223372036854775807, .int .i64 (-9223372036854775808)] 3)
    have hcl := HE.out.cur.lt
    refine (pick_any c len cap a hm w1.heap.size 10 10 (by omega) (by omega) _ HW.cur HW.arg (by omega) (ints_new w1 [-1, 0, 127, 128, 16383, 16384, 1000000000, 1000000001, 9223372036854775807, -9223372036854775808] _ rfl)).mono ?_
    rintro e w2 ⟨y, rfl, hE⟩
    have HE2 : Hid (CurEnd w w2 c a len cap) := HW.trans hE
    clear hE HW
    go_wp2
    go_ret
    exact ⟨_, rfl, HE2.out⟩
  · have h0' : (x == 0) = false := by rw [beq_eq_false_iff_ne]; exact h0
    by_cases h1 : x = 1
    · have h1' : (x == 1) = true := by rw [beq_iff_eq]; exact h1
      clear h1
      go_wp2_with fail
      refine (below_any c len cap a hm 1000000000 (by omega) (by omega) _ HE.out.cur HE.out.arg).mono ?_
      rintro e w2 ⟨y, rfl, y0, y1, hE⟩
      have HE2 : Hid (CurEnd w w2 c a len cap) := HE.out.trans hE
      clear hE
      go_wp2
      go_ret
      exact ⟨_, rfl, HE2.out⟩
    · have h1' : (x == 1) = false := by rw [beq_eq_false_iff_ne]; exact h1
      go_wp2_with fail
      refine (below_any c len cap a hm 400 (by omega) (by omega) _ HE.out.cur HE.out.arg).mono ?_
      rintro e w2 ⟨y, rfl, y0, y1, hE⟩
      have HE2 : Hid (CurEnd w w2 c a len cap) := HE.out.trans hE
      clear hE
      go_wp2
      go_ret
      exact ⟨_, rfl, HE2.out⟩

set_option maxRecDepth 100000 in
theorem drawVar_any (len cap : Nat) (a : Option Addr) (hm : len ≤ 1048576) (w : World) (hA : ArgAt w a len w.heap.size) :
    Calls Tryd.prog 5 #[.slice a len cap] w fun e w' => ∃ x : Int, e = .returned (.int .i64 x) ∧ Below w.heap.size w w' := by
  have HA : Hid (ArgAt w a len w.heap.size) := hA
  clear hA
  go_enter Tryd.func5, Tryd.ntmps5
  go_wp2_with fail
  refine (new_any len cap a hm _ HA.out).mono ?_
  rintro e w1 ⟨rfl, hC, hA1, hb⟩
  have HC : Hid (CurAt w1 w.heap.size a len cap) := hC
  have HA1 : Hid (ArgAt w1 a len w.heap.size) := hA1
  clear hC hA1
  go_wp2_with fail
  refine (number_any w.heap.size len cap a hm _ HC.out HA1.out).mono ?_
  rintro e w2 ⟨x, rfl, hE⟩
  have hb2 : Below w.heap.size w w2 := hb.trans (below_of_grown hE.grown (Nat.le_of_lt HC.out.lt))
  clear hE
  go_wp2
  go_ret
  exact ⟨x, rfl, hb2⟩

end Go.Proofs.YtpienefbgpgdkaaDoor
