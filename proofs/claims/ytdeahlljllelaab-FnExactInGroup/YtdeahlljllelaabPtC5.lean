/-
  The walk of the text of a place on the curve.
  (-DROP-: what the seat lacks is left out.)
-/
import Derived.Test.YtdeahlljllelaabPtC3
namespace Go.Proofs.Ytdeahlljllelaab
open Go.RowKit

theorem make3 (w : World) : (Instr.makeSlice 48 (.int .i64 3) (.int .i64 3)).run Try.prog w = .ok (.slice (some ⟨w.heap.size, 0, none⟩) 3 3) (w.alloc (.cells #[.int .u8 0, .int .u8 0, .int .u8 0] 5)) := by
  kernel_rfl

set_option maxHeartbeats 1600000 in
set_option maxRecDepth 100000 in
theorem text_any (v : Value) (P : Pt) (w : World) (hp : PAt w v P) (hP : POk P) :
    Calls Try.prog 27 #[v] w fun e w' => e = .returned (.string (ptText P)) ∧ Below w.heap.size w w' := by
  have hok : pOkB P = true := pokB.2 hP
  rcases hp with ⟨rfl, rfl⟩ | ⟨bb, x, y, rfl, rfl, hx⟩
  · have HT : Hid (ptText pZ = ⟨#[UInt8.ofNat 0, UInt8.ofNat 0, UInt8.ofNat 0]⟩) := rfl
    have hcv := text3 0 0 0 (by omega) (by omega) (by omega)
    simp only [Int.natCast_zero] at hcv
    have hmk := make3
    clear hok hP
    go_enter Try.func27, Try.ntmps27
    go_wp2
    go_ret
    exact ⟨by rw [HT.out]; rfl, (Below.refl _ _).alloc (Nat.le_refl _) _⟩
  · obtain ⟨hX0, hY0⟩ := pok_xy hP
    obtain ⟨X, Y, rfl, rfl, hXb, hYb⟩ : ∃ X Y : Nat, x = X ∧ y = Y ∧ X < 12107 ∧ Y < 12107 :=
      ⟨x.toNat, y.toNat, by have := hX0.1; omega, by have := hY0.1; omega, by have := hX0.1; have := hX0.2; omega, by have := hY0.1; have := hY0.2; omega⟩
    obtain ⟨N, hN⟩ : ∃ N : Nat, N = X + 1 := ⟨_, rfl⟩
    have hNi : (X : Int) + 1 = (N : Int) := by omega
    have hNb : N ≤ 12107 := by omega
    obtain ⟨a, ha⟩ : ∃ a : Nat, a = N / 256 := ⟨_, rfl⟩
    obtain ⟨b, hb⟩ : ∃ b : Nat, b = N % 256 := ⟨_, rfl⟩
    obtain ⟨c, hc⟩ : ∃ c : Nat, c = Y % 2 := ⟨_, rfl⟩
    have ha1 : Int.tdiv (N : Int) 256 = (a : Int) := by rw [Int.tdiv_eq_ediv_of_nonneg (by omega)]; omega
    have ha2 : IntKind.u8.wrap (a : Int) = (a : Int) := by rw [IntWalk.u8_in _ (by omega)]
    have hb1 : Int.tmod (N : Int) 256 = (b : Int) := by rw [Int.tmod_eq_emod_of_nonneg (by omega)]; omega
    have hb2 : IntKind.u8.wrap (b : Int) = (b : Int) := by rw [IntWalk.u8_in _ (by omega)]
    have hc1 : Int.tmod (Y : Int) 2 = (c : Int) := by rw [Int.tmod_eq_emod_of_nonneg (by omega)]; omega
    have hc2 : IntKind.u8.wrap (c : Int) = (c : Int) := by rw [IntWalk.u8_in _ (by omega)]
    have hal : a < 256 := by omega
    have hbl : b < 256 := by omega
    have hcl : c < 2 := by omega
    have hcv := text3 a b c (by omega) (by omega) (by omega)
    have HRES : Hid (ptText ((X : Int), (Y : Int), false) = ⟨#[UInt8.ofNat a, UInt8.ofNat b, UInt8.ofNat c]⟩) := by
      show ptText ((X : Int), (Y : Int), false) = _
      unfold ptText ptBytes
      rw [if_pos hok]
      simp only [Bool.false_eq_true, if_false]
      rw [Int.toNat_natCast, Int.toNat_natCast, ← hN, ← ha, ← hb, ← hc]
    have q0 := hx.cell 0
    have q1 := hx.cell 1
    clear ha hb hc hN hok hP hX0 hY0 hx
    go_enter Try.func27, Try.ntmps27
    go_wp2
    go_ret
    exact ⟨by rw [HRES.out]; rfl, (Below.refl _ _).alloc (Nat.le_refl _) _⟩

end Go.Proofs.Ytdeahlljllelaab
