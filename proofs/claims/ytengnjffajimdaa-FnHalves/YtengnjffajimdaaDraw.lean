/-
  The draws: a new cursor, whether, a pick of ints, a text.
  (-DROP-: what the seat lacks is left out.)
-/
import Derived.Test.YtengnjffajimdaaCur
namespace Go.Proofs.Ytengnjffajimdaa
open Go.RowKit

set_option maxHeartbeats 800000 in
set_option maxRecDepth 100000 in
theorem new_any (len cap : Nat) (a : Option Addr) (hm : len ≤ 1048576) (w : World) (hA : ArgAt w a len w.heap.size) :
    Calls Try.prog 29 #[.slice a len cap] w fun e w' => e = .returned (.pointer (some ⟨w.heap.size, 0, none⟩)) ∧ CurAt w' w.heap.size a len cap ∧ ArgAt w' a len w.heap.size ∧ Below w.heap.size w w' := by
  go_enter Try.func29, Try.ntmps29
  go_wp2
  go_loop [3, 4] (fun x i => ∃ (h : Int) (k : Nat), x = .int .i64 h ∧ i = .int .i64 (k : Int) ∧ k ≤ len) (fun _ i => len - (intOf i).toNat)
  case atStart => exact ⟨_, 0, rfl, rfl, Nat.zero_le _⟩
  case round =>
    obtain ⟨h, k, rfl, rfl, hk⟩ := hrel
    have fin : ∀ w', w' = w.alloc (.cells #[.slice a len cap, .int .i64 0, .int .i64 h] 52) → CurAt w' w.heap.size a len cap ∧ ArgAt w' a len w.heap.size ∧ Below w.heap.size w w' := by
      intro w' hw
      have hb : Below w.heap.size w w' := by rw [hw]; exact (Below.refl _ _).alloc (Nat.le_refl _) _
      exact ⟨⟨0, h, Nat.zero_le _, by rw [hw]; exact heap_alloc_new w _⟩, hA.on hb, hb⟩
    have FIN : Hid (∀ w', w' = w.alloc (.cells #[.slice a len cap, .int .i64 0, .int .i64 h] 52) → CurAt w' w.heap.size a len cap ∧ ArgAt w' a len w.heap.size ∧ Below w.heap.size w w') := fin
    clear fin
    by_cases hlt : k < len
    · have hlt' : (k : Int) < (len : Int) := by omega
      by_cases h4 : k < 4000
      · have h4' : (k : Int) < 4000 := by omega
        obtain ⟨b, off, z, ha, hbc, hz, hz0, hz1⟩ := hA k hlt
        subst ha
        have hk0 : (0 : Int) ≤ (k : Int) := by omega
        go_wp2
        go_round
        case rel => exact ⟨_, k + 1, rfl, by go_num, hlt⟩
        case measure => simp [intOf]; omega
      · have h4' : ¬ (k : Int) < 4000 := by omega
        go_wp2
        go_ret
        exact ⟨rfl, FIN.out _ rfl⟩
    · have hlt' : ¬ (k : Int) < (len : Int) := by omega
      go_wp2
      go_ret
      exact ⟨rfl, FIN.out _ rfl⟩

theorem CurEnd.alloc {w w1 : World} {c len cap : Nat} {a : Option Addr} (h : CurEnd w w1 c a len cap) (o : Obj) : CurEnd w (w1.alloc o) c a len cap := by
  have hlt := h.cur.lt
  obtain ⟨i, hh, hi, hb⟩ := h.cur
  exact ⟨⟨i, hh, hi, (Below.heap_alloc w1 o c hlt).trans hb⟩, h.arg.on ((Below.refl c w1).alloc (Nat.le_of_lt hlt) o), grown_trans h.grown (World.grownBy_alloc _ _ _)⟩

/-- The cursor behind an append to a row above it. -/
theorem CurEnd.push {w w1 w2 : World} {c len cap : Nat} {a : Option Addr} {row : Option Nat} (h : CurEnd w w1 c a len cap) (hg : w1.grownBy w2 row) (hr : ∀ k, row = some k → c < k) (hw : ∀ k, row = some k → w.heap.size ≤ k) : CurEnd w w2 c a len cap := by
  have hlt := h.cur.lt
  obtain ⟨i, hh, hi, hb⟩ := h.cur
  have hne : some c ≠ row := fun e => by have := hr c e.symm; omega
  refine ⟨⟨i, hh, hi, (hg.block c hlt hne).trans hb⟩, h.arg.on ((Below.refl c w1).grown hg (Nat.le_of_lt hlt) (fun k hk => Nat.le_of_lt (hr k hk))), ?_⟩
  refine ⟨hg.os.trans h.grown.os, hg.tape.trans h.grown.tape, hg.output.trans h.grown.output, Nat.le_trans h.grown.size hg.size, fun k hk hne2 => ?_⟩
  rw [hg.block k (Nat.lt_of_lt_of_le hk h.grown.size) (fun e => by have := hw k e.symm; omega)]
  exact h.grown.block k hk hne2

set_option maxHeartbeats 800000 in
set_option maxRecDepth 100000 in
theorem drawn_any (c len cap : Nat) (a : Option Addr) (hm : len ≤ 1048576) (n : Nat) (hn : n ≤ 5000) (w : World) (hC : CurAt w c a len cap) (hA : ArgAt w a len c) :
    Calls Try.prog 34 #[.pointer (some ⟨c, 0, none⟩), .int .i64 (n : Int)] w fun e w' => ∃ t : List UInt8, e = .returned (.string ⟨t.toArray⟩) ∧ t.length = n ∧ CurEnd w w' c a len cap := by
  obtain ⟨i0, hi, hz0, hz1, hz2⟩ := info_parts info5
  have hcl := hC.lt
  have HS : Hid (CurEnd w w c a len cap) := CurEnd.refl hC hA
  clear hA hC
  have h5 : ¬ (5000 : Int) < (n : Int) := by omega
  go_enter Try.func34, Try.ntmps34
  go_wp2
  go_loopw [5, 6] (fun v i wr => ∃ (k : Nat) (t : List UInt8), i = .int .i64 (k : Int) ∧ k ≤ n ∧ t.length = k ∧ wr.ownsRow w.heap.size 5 1 v t.length (bytesV t) ∧ CurEnd w wr c a len cap) (fun _ i _ => n - (intOf i).toNat)
  case atStart => exact ⟨0, [], rfl, Nat.zero_le _, rfl, World.ownsRow_lit _ _ _ (Nat.le_refl _) (by simp [maxLen]) (by simp), HS.out.alloc _⟩
  case round =>
    obtain ⟨k, t, rfl, hk, htl, hown, hE⟩ := hrel
    have HE : Hid (CurEnd w wr c a len cap) := hE
    clear hE
    have HTL : Hid (t.length = k) := htl
    have hm63 : t.length + 1 ≤ maxLen := by unfold maxLen; omega
    have hm47 : (t.length + 1) * 1 ≤ 140737488355328 := by omega
    clear htl
    by_cases hlt : k < n
    · have hlt' : (k : Int) < (n : Int) := by omega
      go_wp2_with fail
      refine (byte_end c len cap a hm _ HE.out.cur HE.out.arg).mono ?_
      rintro e w1 ⟨x, rfl, x0, x1, hE1⟩
      obtain ⟨y, rfl⟩ : ∃ y : Nat, x = y := ⟨x.toNat, by omega⟩
      have hown1 : w1.ownsRow w.heap.size 5 1 _ t.length (bytesV t) := hown.kept hE1.grown (by
        refine .inr ?_
        intro e
        have := (hown.lt c e).1
        omega)
      have HE1 : Hid (CurEnd w w1 c a len cap) := HE.out.trans hE1
      have hsz : w.heap.size ≤ w1.heap.size := HE1.out.grown.size
      clear hE1 hown
      go_wp2_with (at_builtin; refine wpList_append_own _ rfl _ _ 22 rfl w.heap.size 5 i0 (.int .u8 0) 1 1 Try.underlying22 hi hz0 hz1 hz2 rfl (by decide) _ _ _ rfl (hown1.alloc _) ⟨w1.heap.size, 0, none⟩ 1 1 [.int .u8 (y : Int)] rfl rfl (cell_one_new _ _ _) (one_cell _ _) hm63 hm47 (room_for hsz _) ?_)
      intro v' w2 hown' hgrow _
      have hy : y < 256 := by omega
      have R : w2.ownsRow w.heap.size 5 1 v' (t ++ [UInt8.ofNat y]).length (bytesV (t ++ [UInt8.ofNat y])) := by
        rw [bytesV_append, bytesV_one hy, List.length_append]; exact hown'
      have HE2 : Hid (CurEnd w w2 c a len cap) := (HE1.out.alloc _).push hgrow (fun k hk => by have := (hown1.lt k hk).1; omega) (fun k hk => (hown1.lt k hk).1)
      clear hown' hgrow hown1
      go_wp2
      go_roundw
      case rel => exact ⟨k + 1, _, by go_num, hlt, by simp [HTL.out], R, HE2.out⟩
      case measure => simp [intOf]; omega
    · have hlt' : ¬ (k : Int) < (n : Int) := by omega
      have hcv := text_of_row hown
      go_wp2
      go_ret
      exact ⟨t, rfl, by have := HTL.out; omega, HE.out⟩

set_option maxRecDepth 100000 in
theorem once_any (c len cap : Nat) (a : Option Addr) (hm : len ≤ 1048576) (n : Int) (hn : 0 < n) (hn2 : n ≤ 1000000000000) (w : World) (hC : CurAt w c a len cap) (hA : ArgAt w a len c) :
    Calls Try.prog 30 #[.pointer (some ⟨c, 0, none⟩), .int .i64 n] w fun e w' => ∃ x : Bool, e = .returned (.bool x) ∧ CurEnd w w' c a len cap := by
  have HA : Hid (ArgAt w a len c) := hA
  have HC : Hid (CurAt w c a len cap) := hC
  clear hA hC
  go_enter Try.func30, Try.ntmps30
  go_wp2_with fail
  refine (below_any c len cap a hm n hn hn2 _ HC.out HA.out).mono ?_
  rintro e w1 ⟨x, rfl, x0, x1, hE⟩
  have HE : Hid (CurEnd w w1 c a len cap) := hE
  clear hE
  go_wp2
  go_ret
  exact ⟨_, rfl, HE.out⟩

set_option maxRecDepth 100000 in
theorem pick_any (c len cap : Nat) (a : Option Addr) (hm : len ≤ 1048576) (g n m : Nat) (hn : 0 < n) (hn2 : n ≤ 1000) (w : World) (hC : CurAt w c a len cap) (hA : ArgAt w a len c) (hg : g ≠ c)
    (Q : Int → Prop) (hl : ∀ j, j < n → ∃ z : Int, w.cell? ⟨g, j, none⟩ = some (.int .i64 z) ∧ Q z) :
    Calls Try.prog 37 #[.pointer (some ⟨c, 0, none⟩), .slice (some ⟨g, 0, none⟩) n m] w fun e w' => ∃ x : Int, e = .returned (.int .i64 x) ∧ Q x ∧ CurEnd w w' c a len cap := by
  have HA : Hid (ArgAt w a len c) := hA
  have HC : Hid (CurAt w c a len cap) := hC
  have HL : Hid (∀ j, j < n → ∃ z : Int, w.cell? ⟨g, j, none⟩ = some (.int .i64 z) ∧ Q z) := hl
  clear hA hC hl
  go_enter Try.func37, Try.ntmps37
  go_wp2_with fail
  refine (below_any c len cap a hm (n : Int) (by omega) (by omega) _ HC.out HA.out).mono ?_
  rintro e w1 ⟨x, rfl, x0, x1, hE⟩
  have HE : Hid (CurEnd w w1 c a len cap) := hE
  clear hE
  obtain ⟨k, rfl⟩ : ∃ k : Nat, x = k := ⟨x.toNat, by omega⟩
  obtain ⟨z, hz, hQ⟩ := HL.out k (by omega)
  have HQ : Hid (Q z) := hQ
  have hz1 : w1.cell? ⟨g, k, none⟩ = some (.int .i64 z) := HE.out.grown.cell hz (fun e => hg (Option.some.inj e))
  clear hz hQ
  go_wp2
  go_ret
  exact ⟨_, rfl, HQ.out, HE.out⟩

theorem ints_new (w : World) (zs : List Int) (arr : Array Value) (he : arr = (zs.map (Value.int .i64)).toArray) (Q : Int → Prop) (hQ : ∀ z ∈ zs, Q z) : ∀ j, j < zs.length → ∃ z : Int, (w.alloc (.cells arr 3)).cell? ⟨w.heap.size, j, none⟩ = some (.int .i64 z) ∧ Q z := by
  intro j hj
  refine ⟨zs[j], ?_, hQ _ (List.getElem_mem hj)⟩
  rw [cell_of_row _ w.heap.size j arr 3 (0, 0) (heap_alloc_new w _), he]
  simp [hj]

end Go.Proofs.Ytengnjffajimdaa
