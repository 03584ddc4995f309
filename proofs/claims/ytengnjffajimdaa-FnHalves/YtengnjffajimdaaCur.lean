/-
  The cursor over the bytes of a draw.
  (-DROP-: what the seat lacks is left out.)
-/
import Derived.Test.YtengnjffajimdaaBytes
import Derived.WalkLawsBesides
import Derived.WalkSpells
import Derived.Deep.QuietTactic
import Derived.BigQuiet
namespace Go.Proofs.Ytengnjffajimdaa
open Go.RowKit

theorem and_255 (z : Int) : 0 ≤ bits .and .i64 z 255 ∧ bits .and .i64 z 255 ≤ 255 := by
  have e : bits .and .i64 z 255 = IntKind.i64.wrap ((BitVec.ofInt 64 z &&& BitVec.ofInt 64 255).toNat : Int) := rfl
  have h2 : (BitVec.ofInt 64 255).toNat = 255 := by decide
  rw [e, BitVec.toNat_and, h2]
  have hle : (BitVec.ofInt 64 z).toNat &&& 255 ≤ 255 := Nat.and_le_right
  rw [IntWalk.i64_in _ (by omega)]
  omega

/-- The bytes of the draw lie below block c. -/
def ArgAt (w : World) (a : Option Addr) (len c : Nat) : Prop :=
  ∀ j, j < len → ∃ b off z, a = some ⟨b, off, none⟩ ∧ b < c ∧ w.cell? ⟨b, off + j, none⟩ = some (.int .u8 z) ∧ 0 ≤ z ∧ z ≤ 255

/-- Block c is the cursor. -/
def CurAt (w : World) (c : Nat) (a : Option Addr) (len cap : Nat) : Prop :=
  ∃ (i : Nat) (h : Int), i ≤ len ∧ w.heap[c]? = some (.cells #[.slice a len cap, .int .i64 (i : Int), .int .i64 h] 52 (0, 0))

theorem grown_refl (w : World) (row : Option Nat) : w.grownBy w row := ⟨rfl, rfl, rfl, Nat.le_refl _, fun _ _ _ => rfl⟩

theorem grown_drew {w w1 : World} {row : Option Nat} (h : w.grownBy w1 row) : w.grownBy w1.drew row := ⟨h.os, h.tape, h.output, h.size, h.block⟩

theorem grown_drewN {w w1 : World} {row : Option Nat} (h : w.grownBy w1 row) (n : Nat) : w.grownBy (w1.drewN n) row := ⟨h.os, h.tape, h.output, h.size, h.block⟩

theorem grown_set {w w1 : World} {c : Nat} (h : w.grownBy w1 (some c)) (j : Nat) (v : Value) : w.grownBy (w1.setCell ⟨c, j, none⟩ v) (some c) :=
  ⟨h.os, h.tape, h.output, by simpa using h.size, fun k hk hne => (heap_setCell_other w1 ⟨c, j, none⟩ k v (fun e => hne (by rw [e]))).trans (h.block k hk hne)⟩

theorem grown_trans {w w1 w2 : World} {row : Option Nat} (h : w.grownBy w1 row) (h2 : w1.grownBy w2 row) : w.grownBy w2 row :=
  ⟨h2.os.trans h.os, h2.tape.trans h.tape, h2.output.trans h.output, Nat.le_trans h.size h2.size, fun k hk hne => (h2.block k (Nat.lt_of_lt_of_le hk h.size) hne).trans (h.block k hk hne)⟩

theorem below_of_grown {w w1 : World} {c : Nat} (h : w.grownBy w1 (some c)) (hc : c ≤ w.heap.size) : Below c w w1 := (Below.refl c w).grown h hc (fun k hk => by cases hk; exact Nat.le_refl _)

theorem ArgAt.on {w w1 : World} {a : Option Addr} {len c : Nat} (h : ArgAt w a len c) (hb : Below c w w1) : ArgAt w1 a len c := fun j hj => by
  obtain ⟨b, off, z, h1, h2, h3, h4⟩ := h j hj
  exact ⟨b, off, z, h1, h2, (hb.cell (p := ⟨b, off + j, none⟩) h2).trans h3, h4⟩

set_option maxHeartbeats 1600000 in
set_option maxRecDepth 100000 in
theorem byte_any (c len cap : Nat) (a : Option Addr) (hm : len ≤ 1048576) (w : World) (hC : CurAt w c a len cap) (hA : ArgAt w a len c) :
    Calls Try.prog 39 #[.pointer (some ⟨c, 0, none⟩)] w fun e w' => ∃ x : Int, e = .returned (.int .i64 x) ∧ 0 ≤ x ∧ x ≤ 255 ∧ CurAt w' c a len cap ∧ w.grownBy w' (some c) := by
  obtain ⟨i, h, hi, hblk⟩ := hC
  have c0 : w.cell? ⟨c, 0, none⟩ = some (.slice a len cap) := by simpa using cell_of_row w c 0 _ 52 (0, 0) hblk
  have c1 : w.cell? ⟨c, 1, none⟩ = some (.int .i64 (i : Int)) := by simpa using cell_of_row w c 1 _ 52 (0, 0) hblk
  have c2 : w.cell? ⟨c, 2, none⟩ = some (.int .i64 h) := by simpa using cell_of_row w c 2 _ 52 (0, 0) hblk
  have f1 := frozen_of_row w c 1 _ 52 hblk
  have f2 := frozen_of_row w c 2 _ 52 hblk
  have HB : Hid (w.heap[c]? = some (.cells #[.slice a len cap, .int .i64 (i : Int), .int .i64 h] 52 (0, 0))) := hblk
  clear hblk
  by_cases hlt : i < len
  · obtain ⟨b, off, z, ha, hbc, hz, hz0, hz1⟩ := hA i hlt
    subst ha
    have hlt' : (i : Int) < (len : Int) := by omega
    have hi0 : (0 : Int) ≤ (i : Int) := by omega
    have hne : b ≠ c := by omega
    go_enter Try.func39, Try.ntmps39
    go_wp2_with fail
    go_quiet (fail)
    go_wp2_with fail
    go_quiet (fail)
    go_wp2_with fail
    go_quiet (fail)
    go_wp2
    go_ret
    refine ⟨_, rfl, (and_255 _).1, (and_255 _).2, ⟨i + 1, wrap64 (wrap64 (h * 6364136223846793005) + 1442695040888963407), hlt, ?_⟩, ?_⟩
    · have hb2 := heap_setCell_same w c 2 _ 52 (.int .i64 (wrap64 (wrap64 (h * 6364136223846793005) + 1442695040888963407))) HB.out
      exact (heap_setCell_same _ c 1 _ 52 _ hb2).trans rfl
    · exact grown_set (grown_drewN (grown_set (grown_refl w _) 2 _) _) 1 _
  · have hlt' : ¬ (i : Int) < (len : Int) := by omega
    go_enter Try.func39, Try.ntmps39
    go_wp2_with fail
    go_quiet (fail)
    go_wp2_with fail
    go_quiet (fail)
    go_wp2
    go_ret
    refine ⟨_, rfl, (and_255 _).1, (and_255 _).2, ⟨i, wrap64 (wrap64 (h * 6364136223846793005) + 1442695040888963407), hi, ?_⟩, ?_⟩
    · exact (heap_setCell_same w c 2 _ 52 _ HB.out).trans rfl
    · exact grown_drewN (grown_drewN (grown_set (grown_refl w _) 2 _) _) _

/-- What a function of the cursor leaves. -/
structure CurEnd (w w' : World) (c : Nat) (a : Option Addr) (len cap : Nat) : Prop where
  cur : CurAt w' c a len cap
  arg : ArgAt w' a len c
  grown : w.grownBy w' (some c)

theorem CurAt.lt {w : World} {c len cap : Nat} {a : Option Addr} (h : CurAt w c a len cap) : c < w.heap.size := by
  obtain ⟨i, hh, _, hb⟩ := h
  rcases Nat.lt_or_ge c w.heap.size with x | x
  · exact x
  · rw [Array.getElem?_eq_none x] at hb; cases hb

theorem byte_end (c len cap : Nat) (a : Option Addr) (hm : len ≤ 1048576) (w : World) (hC : CurAt w c a len cap) (hA : ArgAt w a len c) :
    Calls Try.prog 39 #[.pointer (some ⟨c, 0, none⟩)] w fun e w' => ∃ x : Int, e = .returned (.int .i64 x) ∧ 0 ≤ x ∧ x ≤ 255 ∧ CurEnd w w' c a len cap :=
  (byte_any c len cap a hm w hC hA).mono fun _ _ ⟨x, h1, h2, h3, h4, h5⟩ => ⟨x, h1, h2, h3, ⟨h4, hA.on (below_of_grown h5 (Nat.le_of_lt hC.lt)), h5⟩⟩

theorem CurEnd.trans {w w1 w2 : World} {c len cap : Nat} {a : Option Addr} (h : CurEnd w w1 c a len cap) (h2 : CurEnd w1 w2 c a len cap) : CurEnd w w2 c a len cap :=
  ⟨h2.cur, h2.arg, grown_trans h.grown h2.grown⟩

theorem CurEnd.refl {w : World} {c len cap : Nat} {a : Option Addr} (hC : CurAt w c a len cap) (hA : ArgAt w a len c) : CurEnd w w c a len cap := ⟨hC, hA, grown_refl _ _⟩

set_option maxHeartbeats 800000 in
set_option maxRecDepth 100000 in
theorem below_any (c len cap : Nat) (a : Option Addr) (hm : len ≤ 1048576) (n : Int) (hn : 0 < n) (hn2 : n ≤ 1000000000000) (w : World) (hC : CurAt w c a len cap) (hA : ArgAt w a len c) :
    Calls Try.prog 33 #[.pointer (some ⟨c, 0, none⟩), .int .i64 n] w fun e w' => ∃ x : Int, e = .returned (.int .i64 x) ∧ 0 ≤ x ∧ x < n ∧ CurEnd w w' c a len cap := by
  have h0 : ¬ n ≤ 0 := by omega
  have HA : Hid (ArgAt w a len c) := hA
  have HC : Hid (CurAt w c a len cap) := hC
  clear hA hC
  by_cases h2 : n ≤ 256
  · go_enter Try.func33, Try.ntmps33
    go_wp2_with fail
    refine (byte_end c len cap a hm _ HC.out HA.out).mono ?_
    rintro e w1 ⟨x, rfl, x0, x1, hE⟩
    have HE : Hid (CurEnd w w1 c a len cap) := hE
    clear hE
    go_wp2
    go_ret
    exact ⟨_, rfl, Int.emod_nonneg _ (by omega), Int.emod_lt_of_pos _ hn, HE.out⟩
  · go_enter Try.func33, Try.ntmps33
    go_wp2_with fail
    refine (byte_end c len cap a hm _ HC.out HA.out).mono ?_
    rintro e w1 ⟨x, rfl, x0, x1, hE⟩
    have HE : Hid (CurEnd w w1 c a len cap) := hE
    clear hE
    go_wp2_with fail
    refine (byte_end c len cap a hm _ HE.out.cur HE.out.arg).mono ?_
    rintro e w2 ⟨y, rfl, y0, y1, hE⟩
    have HE2 : Hid (CurEnd w w2 c a len cap) := HE.out.trans hE
    clear hE
    go_wp2_with fail
    refine (byte_end c len cap a hm _ HE2.out.cur HE2.out.arg).mono ?_
    rintro e w3 ⟨z, rfl, z0, z1, hE⟩
    have HE3 : Hid (CurEnd w w3 c a len cap) := HE2.out.trans hE
    clear hE
    go_wp2_with fail
    refine (byte_end c len cap a hm _ HE3.out.cur HE3.out.arg).mono ?_
    rintro e w4 ⟨u, rfl, u0, u1, hE⟩
    have HE4 : Hid (CurEnd w w4 c a len cap) := HE3.out.trans hE
    clear hE
    go_wp2
    go_ret
    exact ⟨_, rfl, Int.emod_nonneg _ (by omega), Int.emod_lt_of_pos _ hn, HE4.out⟩

end Go.Proofs.Ytengnjffajimdaa
