/-
  The walks of the specification's points: their texts.
  (-DROP-: what the seat lacks is left out.)
-/
import Derived.Test.YtbkfdafdchjakabJoined4
import Derived.Test.YtbkfdafdchjakabBytes

namespace Go.Proofs.Ytbkfdafdchjakab
open Go.RowKit

/-- Three bytes in a row as a text. -/
theorem text3 (a b c : Nat) (ha : a < 256) (hb : b < 256) (hc : c < 256) (W : World) :
    (convert 135 9 (.slice (some ⟨W.heap.size, 0, none⟩) 3 3)).run Try.prog (W.alloc (.cells #[.int .u8 (a : Int), .int .u8 (b : Int), .int .u8 (c : Int)] 5)) = .ok (.string ⟨#[UInt8.ofNat a, UInt8.ofNat b, UInt8.ofNat c]⟩) (W.alloc (.cells #[.int .u8 (a : Int), .int .u8 (b : Int), .int .u8 (c : Int)] 5)) := by
  have h := World.ownsRow_lit (base := W.heap.size) (e := 5) (size := 1) W #[.int .u8 (a : Int), .int .u8 (b : Int), .int .u8 (c : Int)] 3 (Nat.le_refl _) (by simp [maxLen]) (by simp)
  have e : (#[Value.int .u8 (a : Int), .int .u8 (b : Int), .int .u8 (c : Int)]).toList = bytesV [UInt8.ofNat a, UInt8.ofNat b, UInt8.ofNat c] := by
    simp only [bytesV, List.map_cons, List.map_nil, toNat_of ha, toNat_of hb, toNat_of hc]
  rw [e] at h
  exact text_of_row (l := [UInt8.ofNat a, UInt8.ofNat b, UInt8.ofNat c]) h

set_option maxHeartbeats 800000 in
set_option maxRecDepth 100000 in
theorem sPText_any (P : Pt) (w : World) :
    Calls Try.prog 62 #[pv P] w fun e w' => e = .returned (.string (ptText P)) ∧ Below w.heap.size w w' := by
  have HP : Hid (∀ w, Calls Try.prog 68 #[pv P] w fun e w' => e = .returned (.bool (pOkB P)) ∧ Below w.heap.size w w') := sPOk_any P
  have HO : Hid (pOkB P = true → POk P) := fun h => pokB.1 h
  unfold ptText ptBytes
  generalize pOkB P = a at HP HO ⊢
  obtain ⟨x, y, z⟩ := P
  unfold pv at HP ⊢
  simp only at HP ⊢
  cases a
  · simp only [Bool.false_eq_true, if_false]
    go_enter Try.func62, Try.ntmps62
    go_wp2_with fail
    obtain ⟨W, hW, hb, hx⟩ := box1 w 32 #[.int .i64 x, .int .i64 y, .bool z]
    rw [hW]
    clear hW
    refine (HP.out _).mono ?_
    rintro e w1 ⟨rfl, hb1⟩
    have hB1 := below_then hb hb1
    clear hb hb1 hx
    go_wp2
    go_ret
    exact ⟨rfl, hB1⟩
  · simp only [if_true]
    cases z
    · simp only [Bool.false_eq_true, if_false]
      obtain ⟨X, Y, hX, hY, hXb, hYb⟩ : ∃ X Y : Nat, x = X ∧ y = Y ∧ X < 12107 ∧ Y < 12107 := by
        rcases HO.out rfl with h | ⟨_, h2, h3, _⟩
        · cases h
        · exact ⟨x.toNat, y.toNat, by simp only at h2; omega, by simp only at h3; omega, by simp only at h2; omega, by simp only at h3; omega⟩
      subst hX hY
      obtain ⟨N, hN⟩ : ∃ N : Nat, N = X + 1 := ⟨_, rfl⟩
      have hNi : (X : Int) + 1 = (N : Int) := by omega
      have hNb : N ≤ 12107 := by omega
      obtain ⟨a, ha⟩ : ∃ a : Nat, a = N / 256 := ⟨_, rfl⟩
      obtain ⟨b, hb⟩ : ∃ b : Nat, b = N % 256 := ⟨_, rfl⟩
      obtain ⟨c, hc⟩ : ∃ c : Nat, c = Y % 2 := ⟨_, rfl⟩
      have ha1 : (N : Int) / 256 = (a : Int) := by omega
      have ha2 : IntKind.u8.wrap (a : Int) = (a : Int) := by rw [IntWalk.u8_in _ (by omega)]
      have hb1 : IntKind.u8.wrap (N : Int) = (b : Int) := by show (N : Int) % 256 = _; omega
      have hc1 : Int.tmod (Y : Int) 2 = (c : Int) := by rw [Int.tmod_eq_emod_of_nonneg (by omega)]; omega
      have hc2 : IntKind.u8.wrap (c : Int) = (c : Int) := by rw [IntWalk.u8_in _ (by omega)]
      have hcv := text3 a b c (by omega) (by omega) (by omega)
      have hres : (#[UInt8.ofNat a, UInt8.ofNat b, UInt8.ofNat c] : Array UInt8) = [UInt8.ofNat (((X : Int).toNat + 1) / 256), UInt8.ofNat (((X : Int).toNat + 1) % 256), UInt8.ofNat ((Y : Int).toNat % 2)].toArray := by
        rw [Int.toNat_natCast, Int.toNat_natCast, ← hN, ← ha, ← hb, ← hc]
      have HRES : Hid _ := hres
      clear hres ha hb hc hN HO
      go_enter Try.func62, Try.ntmps62
      go_wp2_with fail
      obtain ⟨W, hW, hb, hx⟩ := box1 w 32 #[.int .i64 (X : Int), .int .i64 (Y : Int), .bool false]
      rw [hW]
      clear hW
      refine (HP.out _).mono ?_
      rintro e w1 ⟨rfl, hb1'⟩
      have hB1 := below_then hb hb1'
      have hx1 := hx.on hb1' hx.lt
      have q0 := hx1.cell 0
      have q1 := hx1.cell 1
      have q2 := hx1.cell 2
      clear hb hb1' hx hx1
      go_wp2
      go_ret
      exact ⟨by rw [← HRES.out]; rfl, hB1.alloc hB1.size _⟩
    · simp only [if_true]
      go_enter Try.func62, Try.ntmps62
      go_wp2_with fail
      obtain ⟨W, hW, hb, hx⟩ := box1 w 32 #[.int .i64 x, .int .i64 y, .bool true]
      rw [hW]
      clear hW
      refine (HP.out _).mono ?_
      rintro e w1 ⟨rfl, hb1⟩
      have hB1 := below_then hb hb1
      have hx1 := hx.on hb1 hx.lt
      have q2 := hx1.cell 2
      clear hb hb1 hx hx1
      go_wp2
      go_ret
      exact ⟨rfl, hB1⟩

end Go.Proofs.Ytbkfdafdchjakab
