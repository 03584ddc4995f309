/-
  The walks of the specification's KeccakRound and KeccakF, and of the laws on both.
-/
import Derived.Test.YthncegemhaofnaaDoorSAll
import Derived.Test.YthncegemhaofnaaDoorKeccI
namespace Go.Proofs.YthncegemhaofnaaDoor
open Go.RowKit

set_option maxRecDepth 100000 in
theorem in_any (x : Int) (b : Bool) (hb : b = (decide (0 ≤ x) && decide (x ≤ 23))) (w : World) :
    Calls Tryd.prog 46 #[.int .i64 x, .int .i64 0, .int .i64 23] w fun e w' => e = .returned (.bool b) ∧ w = w' := by
  subst hb
  by_cases h0 : 0 ≤ x
  · by_cases h1 : x ≤ 23
    · have HB : Hid ((decide (0 ≤ x) && decide (x ≤ 23)) = true) := by show (decide (0 ≤ x) && decide (x ≤ 23)) = true; simp [h0, h1]
      rw [HB.out]
      go_enter Tryd.func46, Tryd.ntmps46
      go_wp2
      go_ret
      exact ⟨rfl, rfl⟩
    · have h1' : decide (x ≤ 23) = false := by simpa using h1
      have HB : Hid ((decide (0 ≤ x) && decide (x ≤ 23)) = false) := by show (decide (0 ≤ x) && decide (x ≤ 23)) = false; rw [h1']; simp
      rw [HB.out]
      go_enter Tryd.func46, Tryd.ntmps46
      go_wp2
      go_ret
      exact ⟨rfl, rfl⟩
  · have h0' : decide (0 ≤ x) = false := by simpa using h0
    have HB : Hid ((decide (0 ≤ x) && decide (x ≤ 23)) = false) := by show (decide (0 ≤ x) && decide (x ≤ 23)) = false; rw [h0']; simp
    rw [HB.out]
    go_enter Tryd.func46, Tryd.ntmps46
    go_wp2
    go_ret
    exact ⟨rfl, rfl⟩

theorem index_row (cs : Array Value) (m : Nat) (hm : m < 24) (v : Value) (h : cs[m]? = some v) (w : World) :
    (Instr.index 63 (.agg cs) (.int .i64 (m : Int))).run Tryd.prog w = .ok v w := by
  have h1 : (0 : Int) ≤ (m : Int) ∧ (m : Int) < 24 := by omega
  simp [Instr.index, asIntOf, run_underlying Tryd.underlying63, h1, part, Tryd.isAgg35, Tryd.sizeOf35, h]
  intro h24
  omega

set_option maxHeartbeats 400000 in
set_option maxRecDepth 100000 in
theorem sKR_any (s : ByteArray) (r : Int) (w : World) :
    Calls Tryd.prog 22 #[.string s, .int .i64 r] w fun e w' => e = .returned (.string (roundT s r)) ∧ Below w.heap.size w w' := by
  by_cases hy : s.size = 200 ∧ 0 ≤ r ∧ r < 24
  · obtain ⟨h2, h0, h24⟩ := hy
    obtain ⟨m, rfl⟩ : ∃ m : Nat, r = m := ⟨r.toNat, by omega⟩
    have HM : Hid (m < 24) := (show m < 24 by omega)
    have HA : Hid (roundT s (m : Int) = textT (roundF (loadF s.data.toList) m) 25) := roundT_yes h2 HM.out
    have hd : ((s.size : Int) != 200) = false := by rw [h2]; rfl
    have HS : Hid (s.size = 200) := h2
    have HI : Hid (∀ w, Calls Tryd.prog 46 #[.int .i64 (m : Int), .int .i64 0, .int .i64 23] w fun e w' => e = .returned (.bool true) ∧ w = w') := fun w => in_any _ _ (by simp; omega) w
    have hat := sc_at rcW 24 m HM.out
    have hsz := sc_size rcW 24
    have HR : Hid (∀ w, Calls Tryd.prog 47 #[.agg (sc (loadF s.data.toList) 25), .agg (sc offW 25), .int .u64 (wv (rcW m))] w fun e w' => e = .returned (.agg (sc (roundF (loadF s.data.toList) m) 25)) ∧ Below w.heap.size w w') := fun w => sRound_any _ (rcW m) w
    have hm24 : (m : Int) < 24 := by omega
    have HC : Hid (∀ w, Calls Tryd.prog 49 #[] w fun e w' => e = .returned (.agg (sc rcW 24)) ∧ Below w.heap.size w w') := fun w => sRcs_any w
    generalize rcW m = c at hat HR
    generalize sc rcW 24 = cs at hat hsz HC
    have hidx := index_row cs m HM.out _ hat
    clear hat hsz
    clear h2
    go_enter Tryd.func22, Tryd.ntmps22
    go_wp2_with fail
    refine (HI.out _).mono ?_
    rintro e w0 ⟨rfl, rfl⟩
    go_wp2_with fail
    refine (sLoad_any s HS.out _).mono ?_
    rintro e w1 ⟨rfl, hb1⟩
    go_wp2_with fail
    refine (sOff_any _).mono ?_
    rintro e w2 ⟨rfl, hb2⟩
    go_wp2_with fail
    refine (HC.out _).mono ?_
    rintro e w3 ⟨rfl, hb3⟩
    go_wp2_with fail
    refine (HR.out _).mono ?_
    rintro e w4 ⟨rfl, hb4⟩
    go_wp2_with fail
    refine (sText_any _ _).mono ?_
    rintro e w5 ⟨rfl, hb5⟩
    go_wp2
    go_ret
    exact ⟨by rw [HA.out]; rfl, hb1.trans ((hb2.mono hb1.size).trans ((hb3.mono (Nat.le_trans hb1.size hb2.size)).trans ((hb4.mono (Nat.le_trans hb1.size (Nat.le_trans hb2.size hb3.size))).trans (hb5.mono (Nat.le_trans hb1.size (Nat.le_trans hb2.size (Nat.le_trans hb3.size hb4.size)))))))⟩
  · have HA : Hid (roundT s r = s) := roundT_no hy
    by_cases h2 : s.size = 200
    · have hd : ((s.size : Int) != 200) = false := by rw [h2]; rfl
      have HI : Hid (∀ w, Calls Tryd.prog 46 #[.int .i64 r, .int .i64 0, .int .i64 23] w fun e w' => e = .returned (.bool false) ∧ w = w') := fun w => in_any _ _ (by simp; omega) w
      clear h2 hy
      go_enter Tryd.func22, Tryd.ntmps22
      go_wp2_with fail
      refine (HI.out _).mono ?_
      rintro e w1 ⟨rfl, rfl⟩
      go_wp2
      go_ret
      exact ⟨by rw [HA.out]; rfl, Below.refl _ _⟩
    · have hd : ((s.size : Int) != 200) = true := by rw [bne_iff_ne]; omega
      clear h2 hy
      go_enter Tryd.func22, Tryd.ntmps22
      go_wp2
      go_ret
      exact ⟨by rw [HA.out]; rfl, Below.refl _ _⟩

set_option maxHeartbeats 400000 in
set_option maxRecDepth 100000 in
theorem sKF_any (s : ByteArray) (w : World) :
    Calls Tryd.prog 20 #[.string s] w fun e w' => e = .returned (.string (fullT s)) ∧ Below w.heap.size w w' := by
  by_cases h2 : s.size = 200
  · have HA : Hid (fullT s = textT (allF (loadF s.data.toList)) 25) := if_pos h2
    have hd : ((s.size : Int) != 200) = false := by rw [h2]; rfl
    have HS : Hid (s.size = 200) := h2
    clear h2
    go_enter Tryd.func20, Tryd.ntmps20
    go_wp2_with fail
    refine (sLoad_any s HS.out _).mono ?_
    rintro e w1 ⟨rfl, hb1⟩
    go_wp2_with fail
    refine (sAll_any _ _).mono ?_
    rintro e w2 ⟨rfl, hb2⟩
    go_wp2_with fail
    refine (sText_any _ _).mono ?_
    rintro e w3 ⟨rfl, hb3⟩
    go_wp2
    go_ret
    exact ⟨by rw [HA.out]; rfl, hb1.trans ((hb2.mono hb1.size).trans (hb3.mono (Nat.le_trans hb1.size hb2.size)))⟩
  · have HA : Hid (fullT s = s) := if_neg h2
    have hd : ((s.size : Int) != 200) = true := by rw [bne_iff_ne]; omega
    clear h2
    go_enter Tryd.func20, Tryd.ntmps20
    go_wp2
    go_ret
    exact ⟨by rw [HA.out]; rfl, Below.refl _ _⟩

end Go.Proofs.YthncegemhaofnaaDoor
