/-
  The walks of l01Text, l01Long and DrawHex.
-/
import Derived.Test.YtpienefbgpgdkaaDoorDraw
import Derived.Test.YtpienefbgpgdkaaDoorFigPure
namespace Go.Proofs.YtpienefbgpgdkaaDoor
open Go.RowKit

theorem info5 : (Tryd.prog.info? 5).map (fun i => (i.zero, i.size, i.bytes)) = some (some (.int .u8 0), 1, 1) := by kernel_rfl

theorem text_of_nil (w : World) : (convert 22 9 (.slice none 0 0)).run Tryd.prog w = .ok (.string ⟨#[]⟩) w := by
  rw [run_convert_bytes_string w 22 9 5 none 0 0 Tryd.underlying22 Tryd.underlying5 Tryd.underlying9]
  rfl
theorem text_of_row {w : World} {B : Nat} {v : Value} {l : List UInt8} (h : w.ownsRow B 5 1 v l.length (bytesV l)) :
    (convert 22 9 v).run Tryd.prog w = .ok (.string ⟨l.toArray⟩) w := by
  rcases h.2 with ⟨rfl, h0⟩ | ⟨g, cap, cur, rfl, hg, hh, hnc, hcp, hcs, htake⟩
  · obtain rfl : l = [] := List.length_eq_zero_iff.1 h0
    exact text_of_nil w
  · exact run_convert_bytes_back (P := Tryd.prog) w 22 9 5 ⟨g, 0, none⟩ cap l Tryd.underlying22 Tryd.underlying5 Tryd.underlying9 (cells_of_row h)

/-- The cursor behind an append to a row above it. -/
theorem CurEnd.push {w w1 w2 : World} {c len cap : Nat} {a : Option Addr} {row : Option Nat} (h : CurEnd w w1 c a len cap) (hg : w1.grownBy w2 row) (hr : ∀ k, row = some k → c < k) (hw : ∀ k, row = some k → w.heap.size ≤ k) : CurEnd w w2 c a len cap := by
  have hlt := h.cur.lt
  obtain ⟨i, hh, hi, hb⟩ := h.cur
  have hne : some c ≠ row := fun e => by have := hr c e.symm; omega
  refine ⟨⟨i, hh, hi, (hg.block c hlt hne).trans hb⟩, h.arg.on ((Below.refl c w1).grown hg (Nat.le_of_lt hlt) (fun k hk => Nat.le_of_lt (hr k hk))), ?_⟩
  refine ⟨hg.os.trans h.grown.os, hg.tape.trans h.grown.tape, hg.output.trans h.grown.output, Nat.le_trans h.grown.size hg.size, fun k hk hne2 => ?_⟩
  rw [hg.block k (Nat.lt_of_lt_of_le hk h.grown.size) (fun e => by have := hw k e.symm; omega)]
  exact h.grown.block k hk hne2

set_option maxHeartbeats 800000 in
set_option maxRecDepth 100000 in
theorem text_any (c len cap : Nat) (a : Option Addr) (hm : len ≤ 1048576) (n : Nat) (hn : n ≤ 5000) (w : World) (hC : CurAt w c a len cap) (hA : ArgAt w a len c) :
    Calls Tryd.prog 22 #[.pointer (some ⟨c, 0, none⟩), .int .i64 (n : Int)] w fun e w' => ∃ t : List UInt8, e = .returned (.string ⟨t.toArray⟩) ∧ t.length = n ∧ CurEnd w w' c a len cap := by
  obtain ⟨i0, hi, hz0, hz1, hz2⟩ := info_parts info5
  have hcl := hC.lt
  have HS : Hid (CurEnd w w c a len cap) := CurEnd.refl hC hA
  clear hA hC
  have h5 : ¬ (5000 : Int) < (n : Int) := by omega
  go_enter Tryd.func22, Tryd.ntmps22
  go_wp2
  go_loopw [5, 6] (fun v i wr => ∃ (k : Nat) (t : List UInt8), i = .int .i64 (k : Int) ∧ k ≤ n ∧ t.length = k ∧ wr.ownsRow w.heap.size 5 1 v t.length (bytesV t) ∧ CurEnd w wr c a len cap) (fun _ i _ => n - (intOf i).toNat)
  case atStart => exact ⟨0, [], rfl, Nat.zero_le _, rfl, World.ownsRow_lit _ _ _ (Nat.le_refl _) (by simp [maxLen]) (by simp), HS.out.alloc _⟩
  case round =>
    obtain ⟨k, t, rfl, hk, htl, hown, hE⟩ := hrel
    have HE : Hid (CurEnd w wr c a len cap) := hE
    clear hE
    have HTL : Hid (t.length = k) := htl
    have hm63 : t.length + 1 ≤ maxLen := by unfold maxLen; omega
    have hm47 : (t.length + 1) * 1 ≤ 140737488355328 := by omega
    clear htl
    by_cases hlt : k < n
    · have hlt' : (k : Int) < (n : Int) := by omega
      go_wp2_with fail
      refine (byte_end c len cap a hm _ HE.out.cur HE.out.arg).mono ?_
      rintro e w1 ⟨x, rfl, x0, x1, hE1⟩
      obtain ⟨y, rfl⟩ : ∃ y : Nat, x = y := ⟨x.toNat, by omega⟩
      have hown1 : w1.ownsRow w.heap.size 5 1 _ t.length (bytesV t) := hown.kept hE1.grown (by
        refine .inr ?_
        intro e
        have := (hown.lt c e).1
        omega)
      have HE1 : Hid (CurEnd w w1 c a len cap) := HE.out.trans hE1
      have hsz : w.heap.size ≤ w1.heap.size := HE1.out.grown.size
      clear hE1 hown
      go_wp2_with (at_builtin; refine wpList_append_own _ rfl _ _ 22 rfl w.heap.size 5 i0 (.int .u8 0) 1 1 Tryd.underlying22 hi hz0 hz1 hz2 rfl (by decide) _ _ _ rfl (hown1.alloc _) ⟨w1.heap.size, 0, none⟩ 1 1 [.int .u8 (y : Int)] rfl rfl (cell_one_new _ _ _) (one_cell _ _) hm63 hm47 (room_for hsz _) ?_)
      intro v' w2 hown' hgrow _
      have hy : y < 256 := by omega
      have R : w2.ownsRow w.heap.size 5 1 v' (t ++ [UInt8.ofNat y]).length (bytesV (t ++ [UInt8.ofNat y])) := by
        rw [bytesV_append, bytesV_one hy, List.length_append]; exact hown'
      have HE2 : Hid (CurEnd w w2 c a len cap) := (HE1.out.alloc _).push hgrow (fun k hk => by have := (hown1.lt k hk).1; omega) (fun k hk => (hown1.lt k hk).1)
      clear hown' hgrow hown1
      go_wp2
      go_roundw
      case rel => exact ⟨k + 1, _, by go_num, hlt, by simp [HTL.out], R, HE2.out⟩
      case measure => simp [intOf]; omega
    · have hlt' : ¬ (k : Int) < (n : Int) := by omega
      have hcv := text_of_row hown
      go_wp2
      go_ret
      exact ⟨t, rfl, by have := HTL.out; omega, HE.out⟩

set_option maxHeartbeats 800000 in
set_option maxRecDepth 100000 in
theorem long_any (n : Nat) (x : Int) (x0 : 0 ≤ x) (x1 : x ≤ 255) (hn : n ≤ 1000000) (w : World) :
    Calls Tryd.prog 20 #[.int .i64 (n : Int), .int .u8 x] w fun e w' => ∃ t : List UInt8, e = .returned (.string ⟨t.toArray⟩) ∧ t.length = n ∧ Below w.heap.size w w' := by
  obtain ⟨i0, hi, hz0, hz1, hz2⟩ := info_parts info5
  obtain ⟨M, hM⟩ : ∃ M, M = madeCells (Value.int .u8 0).cells ((n : Int).toNat * i0.size) := ⟨_, rfl⟩
  have hMs : M.size = n * 1 := by rw [hM, size_madeCells, hz1]; simp
  have hMl : M.toList = bytesV (List.replicate n 0) := by
    rw [hM, hz1]
    have := toList_madeCells_one (.int .u8 0) n
    simpa [bytesV, Value.cells] using this
  have hmk : ∀ W : World, (Instr.makeSlice 22 (.int .i64 (n : Int)) (.int .i64 (n : Int))).run Tryd.prog W = .ok (.slice (some ⟨W.heap.size, 0, none⟩) n n) (W.alloc (.cells M 5)) := fun W => by
    have h := run_make (P := Tryd.prog) W 22 5 i0 (.int .u8 0) Tryd.underlying22 hi hz0 .i64 .i64 (n : Int) (n : Int) (by omega) (by omega) (by rw [hz2]; omega) (by omega)
    rw [← hM] at h
    simpa using h
  clear hM
  obtain ⟨y, rfl⟩ : ∃ y : Nat, x = y := ⟨x.toNat, by omega⟩
  go_enter Tryd.func20, Tryd.ntmps20
  go_wp2
  go_loopw [6] (fun i wr => ∃ (k : Nat) (t : List UInt8), i = .int .i64 (k : Int) ∧ k ≤ n ∧ Hid (t.length = n) ∧ wr.ownsRow w.heap.size 5 1 (.slice (some ⟨w.heap.size, 0, none⟩) n n) n (bytesV t) ∧ Below w.heap.size w wr) (fun i _ => n - (intOf i).toNat)
  case atStart =>
    refine ⟨0, List.replicate n 0, rfl, Nat.zero_le _, (show (List.replicate n (0 : UInt8)).length = n by simp), ?_, (Below.refl _ _).alloc (Nat.le_refl _) _⟩
    have := World.ownsRow_lit (base := w.heap.size) (e := 5) (size := 1) w M n (Nat.le_refl _) (by unfold maxLen; omega) hMs
    rw [hMl] at this
    exact this
  case round =>
    obtain ⟨k, t, rfl, hk, htl, hown, hbel⟩ := hrel
    clear hmk
    by_cases hlt : k < n
    · have hk0 : (0 : Int) ≤ (k : Int) := by omega
      have hlt' : (k : Int) < (n : Int) := by omega
      obtain ⟨old, hc⟩ : ∃ old, wr.cell? ⟨w.heap.size, k, none⟩ = some (.int .u8 old) := by
        have hkt : k < t.length := by rw [htl.out]; exact hlt
        exact ⟨(t[k].toNat : Int), (hown.cellAt k (by omega)).trans (by simp [bytesV, hkt])⟩
      have hf := hown.frozenAt k
      have hst := (hown.stored k (.int .u8 (y : Int))).1
      have hset : (bytesV t).set k (.int .u8 (y : Int)) = bytesV (t.set k (UInt8.ofNat y)) := by
        rw [bytesV, bytesV, List.map_set, toNat_of (by omega)]
      rw [hset] at hst
      have HST : Hid ((wr.setCell ⟨w.heap.size, k, none⟩ (.int .u8 (y : Int))).ownsRow w.heap.size 5 1 (.slice (some ⟨w.heap.size, 0, none⟩) n n) n (bytesV (t.set k (UInt8.ofNat y)))) := hst
      have HBS : Hid (Below w.heap.size w (wr.setCell ⟨w.heap.size, k, none⟩ (.int .u8 (y : Int)))) := hbel.setCell (Nat.le_refl _) _
      clear hst hset hown
      go_wp2
      go_roundw
      case rel => exact ⟨k + 1, _, by go_num, hlt, (show (t.set k (UInt8.ofNat y)).length = n by rw [List.length_set]; exact htl.out), HST.out, HBS.out⟩
      case measure => simp [intOf]; omega
    · have hlt' : ¬ (k : Int) < (n : Int) := by omega
      have hcv := text_of_row (l := t) (by rw [htl.out]; exact hown)
      go_wp2
      go_ret
      exact ⟨t, rfl, htl.out, hbel⟩

set_option maxHeartbeats 800000 in
set_option maxRecDepth 100000 in
theorem drawHex_any (len cap : Nat) (a : Option Addr) (hm : len ≤ 1048576) (w : World) (hA : ArgAt w a len w.heap.size) :
    Calls Tryd.prog 10 #[.slice a len cap] w fun e w' => ∃ t : List UInt8, e = .returned (.string ⟨t.toArray⟩) ∧ t.length ≤ 30000 ∧ Below w.heap.size w w' := by
  have HA : Hid (ArgAt w a len w.heap.size) := hA
  clear hA
  go_enter Tryd.func10, Tryd.ntmps10
  go_wp2_with fail
  refine (new_any len cap a hm _ HA.out).mono ?_
  rintro e w1 ⟨rfl, hC, hA1, hb⟩
  have HC : Hid (CurAt w1 w.heap.size a len cap) := hC
  have HA1 : Hid (ArgAt w1 a len w.heap.size) := hA1
  clear hC hA1
  have hl1 : w.heap.size ≤ w1.heap.size := hb.size
  go_wp2_with fail
  refine (once_any w.heap.size len cap a hm 60 (by omega) (by omega) _ HC.out HA1.out).mono ?_
  rintro e w2 ⟨x, rfl, hE⟩
  have HE : Hid (CurEnd w1 w2 w.heap.size a len cap) := hE
  have hb2 : Below w.heap.size w w2 := hb.trans (below_of_grown hE.grown hl1)
  have hl2 : w.heap.size ≤ w2.heap.size := hb2.size
  clear hE
  cases x with
  | true =>
    go_wp2_with fail
    refine (below_any w.heap.size len cap a hm 2 (by omega) (by omega) _ HE.out.cur HE.out.arg).mono ?_
    rintro e w3 ⟨y, rfl, y0, y1, hE3⟩
    obtain ⟨z, rfl⟩ : ∃ z : Nat, y = z := ⟨y.toNat, by omega⟩
    have hb3 : Below w.heap.size w w3 := hb2.trans (below_of_grown hE3.grown hl2)
    have hl3 : w.heap.size ≤ w3.heap.size := hb3.size
    clear hE3
    go_wp2_with fail
    rw [show (20000 : Int) + (z : Int) = ((20000 + z : Nat) : Int) by omega]
    refine (long_any (20000 + z) 200 (by omega) (by omega) (by omega) _).mono ?_
    rintro e w4 ⟨t, rfl, ht, hb4⟩
    have HTL : Hid (t.length ≤ 30000) := (show t.length ≤ 30000 by omega)
    clear ht
    go_wp2
    go_ret
    exact ⟨t, rfl, HTL.out, hb3.trans (hb4.mono hl3)⟩
  | false =>
    go_wp2_with fail
    refine (below_any w.heap.size len cap a hm 30 (by omega) (by omega) _ HE.out.cur HE.out.arg).mono ?_
    rintro e w3 ⟨y, rfl, y0, y1, hE3⟩
    obtain ⟨z, rfl⟩ : ∃ z : Nat, y = z := ⟨y.toNat, by omega⟩
    have HE3 : Hid (CurEnd w2 w3 w.heap.size a len cap) := hE3
    have hb3 : Below w.heap.size w w3 := hb2.trans (below_of_grown hE3.grown hl2)
    have hl3 : w.heap.size ≤ w3.heap.size := hb3.size
    clear hE3
    go_wp2_with fail
    refine (text_any w.heap.size len cap a hm z (by omega) _ HE3.out.cur HE3.out.arg).mono ?_
    rintro e w4 ⟨t, rfl, ht, hE4⟩
    have hb4 : Below w.heap.size w w4 := hb3.trans (below_of_grown hE4.grown hl3)
    have HTL : Hid (t.length ≤ 30000) := (show t.length ≤ 30000 by omega)
    clear ht hE4
    go_wp2
    go_ret
    exact ⟨t, rfl, HTL.out, hb4⟩

end Go.Proofs.YtpienefbgpgdkaaDoor
