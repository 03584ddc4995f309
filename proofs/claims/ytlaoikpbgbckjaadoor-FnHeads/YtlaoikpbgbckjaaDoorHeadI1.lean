/-
  The walks of the program's heads: whether one is right.
  (-DROP-: what the seat lacks is left out.)
-/
import Derived.Test.YtlaoikpbgbckjaaDoorHeadSR
namespace Go.Proofs.YtlaoikpbgbckjaaDoor
open Go.RowKit

theorem infoHS : (Tryd.prog.info? 50).map (·.size) = some 4 := by kernel_rfl

/-- A place of a row of three texts. -/
theorem three_at (cs : Array Value) (m : Nat) (v : Value) (hm : m < 3) (h : cs[m]? = some v) (w : World) :
    (Instr.index 48 (.agg cs) (.int .i64 (m : Int))).run Tryd.prog w = .ok v w := by
  simp [Instr.index, asIntOf, run_underlying Tryd.underlying48, part, Tryd.isAgg9, Tryd.sizeOf9, h]
  intro h3
  omega

set_option maxHeartbeats 400000 in
set_option maxRecDepth 100000 in
theorem slotted_any (h : Hd) (w : World) :
    Calls Tryd.prog 25 #[hv h] w fun e w' => e = .returned (hv h) ∧ Below w.heap.size w w' := by
  obtain ⟨s, p, t, b⟩ := h
  unfold hv hc
  simp only
  go_enter Tryd.func25, Tryd.ntmps25
  go_wp2
  refine bodyPost_ret_by (result_blk rfl rfl (Blk.newAt (by simp)) Tryd.underlying50 infoHS) rfl ⟨rfl, ((Below.refl _ _).alloc (Nat.le_refl _) _).alloc (by simp) _⟩

set_option maxHeartbeats 400000 in
set_option maxRecDepth 100000 in
theorem slotRight_any (s : Int) (w : World) :
    Calls Tryd.prog 43 #[.int .i64 s] w fun e w' => e = .returned (.bool (decide (0 ≤ s ∧ s ≤ 10000))) ∧ w = w' := by
  by_cases h0 : 0 ≤ s
  · by_cases h1 : s ≤ 10000
    · rw [decide_eq_true ⟨h0, h1⟩]
      go_enter Tryd.func43, Tryd.ntmps43
      go_wp2
      go_ret
      exact ⟨rfl, rfl⟩
    · rw [decide_eq_false (fun e => h1 e.2)]
      go_enter Tryd.func43, Tryd.ntmps43
      go_wp2
      go_ret
      exact ⟨rfl, rfl⟩
  · rw [decide_eq_false (fun e => h0 e.1)]
    go_enter Tryd.func43, Tryd.ntmps43
    go_wp2
    go_ret
    exact ⟨rfl, rfl⟩

set_option maxHeartbeats 1600000 in
set_option maxRecDepth 100000 in
theorem right_any (h : Hd) (w : World) :
    Calls Tryd.prog 26 #[hv h] w fun e w' => e = .returned (.bool (hOkB h)) ∧ Below w.heap.size w w' := by
  obtain ⟨s, p, t, b⟩ := h
  have HB : Hid (∀ w, Calls Tryd.prog 43 #[.int .i64 s] w fun e w' => e = .returned (.bool (decide (0 ≤ s ∧ s ≤ 10000))) ∧ w = w') := slotRight_any s
  unfold hOkB
  simp only
  generalize decide (0 ≤ s ∧ s ≤ 10000) = q at HB ⊢
  obtain ⟨np, hnp⟩ : ∃ n, p.size = n := ⟨_, rfl⟩
  obtain ⟨nt, hnt⟩ : ∃ n, t.size = n := ⟨_, rfl⟩
  obtain ⟨nb, hnb⟩ : ∃ n, b.size = n := ⟨_, rfl⟩
  rw [hnp, hnt, hnb]
  obtain ⟨R, hR⟩ : ∃ R, R = (q && decide (np = 32) && decide (nt = 32) && decide (nb = 32)) := ⟨_, rfl⟩
  rw [← hR]
  have HR : Hid (R = (q && decide (np = 32) && decide (nt = 32) && decide (nb = 32))) := hR
  clear hR
  obtain ⟨W, hW, hb, hx⟩ := box1 w 50 #[.int .i64 s, .string p, .string t, .string b]
  have HBE : Hid (Below w.heap.size w W) := hb
  have q0 := hx.cell 0
  have q1 := hx.cell 1
  have q2 := hx.cell 2
  have q3 := hx.cell 3
  clear hb
  have i0 : ∀ W : World, (Instr.index 48 (.agg #[.string p, .string t, .string b]) (.int .i64 0)).run Tryd.prog W = .ok (.string p) W := fun W => three_at _ 0 _ (by omega) rfl W
  have i1 : ∀ W : World, (Instr.index 48 (.agg #[.string p, .string t, .string b]) (.int .i64 1)).run Tryd.prog W = .ok (.string t) W := fun W => three_at _ 1 _ (by omega) rfl W
  have i2 : ∀ W : World, (Instr.index 48 (.agg #[.string p, .string t, .string b]) (.int .i64 2)).run Tryd.prog W = .ok (.string b) W := fun W => three_at _ 2 _ (by omega) rfl W
  go_enter Tryd.func26, Tryd.ntmps26
  go_wp2
  go_loopw [7] (fun i wr => ∃ k : Nat, i = .int .i64 (k : Int) ∧ k ≤ 3 ∧ Hid ((0 < k → np = 32) ∧ (1 < k → nt = 32) ∧ (2 < k → nb = 32)) ∧ W = wr) (fun i _ => 4 - (intOf i).toNat)
  case atStart => exact ⟨0, rfl, by omega, ⟨by omega, by omega, by omega⟩, rfl⟩
  case round =>
    obtain ⟨k, rfl, hk, HK, rfl⟩ := hrel
    rcases (show k = 0 ∨ k = 1 ∨ k = 2 ∨ k = 3 by omega) with rfl | rfl | rfl | rfl
    · by_cases h1 : np = 32
      · subst h1
        go_wp2
        go_roundw
        case rel => exact ⟨1, by go_num, by omega, ⟨fun _ => by trivial, by omega, by omega⟩, by trivial⟩
        case measure => simp [intOf]
      · have h1' : ((np : Int) != 32) = true := by simp; omega
        go_wp2
        go_ret
        exact ⟨by rw [HR.out]; simp [h1], HBE.out⟩
    · by_cases h1 : nt = 32
      · have HK1 := HK.out.1 (by omega)
        subst h1
        go_wp2
        go_roundw
        case rel => exact ⟨2, by go_num, by omega, ⟨fun _ => HK1, fun _ => by trivial, by omega⟩, by trivial⟩
        case measure => simp [intOf]
      · have h1' : ((nt : Int) != 32) = true := by simp; omega
        go_wp2
        go_ret
        exact ⟨by rw [HR.out]; simp [h1], HBE.out⟩
    · by_cases h1 : nb = 32
      · have HK2 : Hid (np = 32 ∧ nt = 32) := ⟨HK.out.1 (by omega), HK.out.2.1 (by omega)⟩
        subst h1
        go_wp2
        go_roundw
        case rel => exact ⟨3, by go_num, by omega, ⟨fun _ => HK2.out.1, fun _ => HK2.out.2, fun _ => by trivial⟩, by trivial⟩
        case measure => simp [intOf]
      · have h1' : ((nb : Int) != 32) = true := by simp; omega
        go_wp2
        go_ret
        exact ⟨by rw [HR.out]; simp [h1], HBE.out⟩
    · have HQ : Hid (R = q) := by
        show R = q
        rw [HR.out, HK.out.1 (by omega), HK.out.2.1 (by omega), HK.out.2.2 (by omega)]
        simp
      clear HK HR
      go_wp2_with fail
      refine (HB.out _).mono ?_
      rintro e w1 ⟨rfl, rfl⟩
      go_wp2
      go_ret
      exact ⟨by rw [HQ.out]; rfl, HBE.out⟩

set_option maxHeartbeats 400000 in
set_option maxRecDepth 100000 in
theorem iHeadOk_any (h : Hd) (w : World) :
    Calls Tryd.prog 17 #[hv h] w fun e w' => e = .returned (.bool (hOkB h)) ∧ Below w.heap.size w w' := by
  have HS : Hid (∀ w, Calls Tryd.prog 25 #[hv h] w fun e w' => e = .returned (hv h) ∧ Below w.heap.size w w') := slotted_any h
  have HR : Hid (∀ w, Calls Tryd.prog 26 #[hv h] w fun e w' => e = .returned (.bool (hOkB h)) ∧ Below w.heap.size w w') := right_any h
  generalize hOkB h = q at HR ⊢
  obtain ⟨s, p, t, b⟩ := h
  unfold hv hc at HS HR ⊢
  simp only at HS HR ⊢
  obtain ⟨W, hW, hb, hx⟩ := box1 w 25 #[.int .i64 s, .string p, .string t, .string b]
  go_enter Tryd.func17, Tryd.ntmps17
  go_wp2_with (refine load_blk rfl rfl rfl hx Tryd.underlying25 infoH ?_)
  clear hW
  refine (HS.out _).mono ?_
  rintro e w1 ⟨rfl, hb1⟩
  have hB := below_then hb hb1
  clear hb hb1 hx
  go_wp2_with fail
  refine (HR.out _).mono ?_
  rintro e w2 ⟨rfl, hb2⟩
  have hB2 := below_then hB hb2
  clear hB hb2
  go_wp2
  go_ret
  exact ⟨rfl, hB2⟩

end Go.Proofs.YtlaoikpbgbckjaaDoor
