/-
  The walks of the specification's polynomial with given zeros and of its polynomial through given values.
  (-DROP-: what the seat lacks is left out.)
-/
import Derived.Test.YtjlijflfepffiaaPolyMulS
import Derived.Test.YtjlijflfepffiaaPolyAddS
import Derived.Test.YtjlijflfepffiaaJoined4
import Derived.Test.YtjlijflfepffiaaJoined10

namespace Go.Proofs.Ytjlijflfepffiaa
open Go.RowKit

set_option maxHeartbeats 800000 in
set_option maxRecDepth 100000 in
theorem in16_any (n : Int) (w : World) : Calls Try.prog 92 #[.int .i64 n, .int .i64 0, .int .i64 16] w fun e w' => e = .returned (.bool (decide (0 ≤ n ∧ n ≤ 16))) ∧ w = w' := by
  by_cases h1 : n ≥ 0
  · by_cases h2 : n ≤ 16
    · have e : decide (0 ≤ n ∧ n ≤ 16) = true := by simp; omega
      rw [e]
      go_enter Try.func92, Try.ntmps92
      go_wp2
      go_ret
      exact ⟨rfl, rfl⟩
    · have e : decide (0 ≤ n ∧ n ≤ 16) = false := by simp; omega
      rw [e]
      go_enter Try.func92, Try.ntmps92
      go_wp2
      go_ret
      exact ⟨rfl, rfl⟩
  · have e : decide (0 ≤ n ∧ n ≤ 16) = false := by simp; omega
    rw [e]
    go_enter Try.func92, Try.ntmps92
    go_wp2
    go_ret
    exact ⟨rfl, rfl⟩

set_option maxHeartbeats 1600000 in
set_option maxRecDepth 100000 in
theorem sZer_any (n : Int) (w : World) : Calls Try.prog 66 #[.int .i64 n] w fun e w' => ∃ u, e = .returned u ∧ ZOwn w.heap.size w'.heap.size w' u (pZer n) ∧ Below w.heap.size w w' := by
  have CI : Hid (∀ w, Calls Try.prog 92 #[.int .i64 n, .int .i64 0, .int .i64 16] w fun e w' => e = .returned (.bool (decide (0 ≤ n ∧ n ≤ 16))) ∧ w = w') := in16_any n
  by_cases h0 : n < 0 ∨ n > 16
  · have HE : Hid (pZer n = []) := by show _ = _; unfold pZer; rw [if_pos h0]
    have e : decide (0 ≤ n ∧ n ≤ 16) = false := by simp; omega
    rw [e] at CI
    clear e h0
    go_enter Try.func66, Try.ntmps66
    go_wp2_with (go_at_call 92; refine (CI.out _).mono ?_; rintro e wz ⟨rfl, rfl⟩)
    go_ret
    exact ⟨_, rfl, by rw [HE.out]; exact ZOwn.of (World.ownsRow_lit _ _ _ (Nat.le_refl _) (by simp [maxLen]) (by simp)), (Below.refl _ _).alloc (Nat.le_refl _) _⟩
  · obtain ⟨m, rfl⟩ : ∃ m : Nat, n = (m : Int) := ⟨n.toNat, by omega⟩
    have HE : Hid (pZer (m : Int) = zerL m) := by show _ = _; exact pZer_nat (by omega)
    have hm : m ≤ 16 := by omega
    have e : decide (0 ≤ (m : Int) ∧ (m : Int) ≤ 16) = true := by simp; omega
    rw [e] at CI
    clear e h0
    go_enter Try.func66, Try.ntmps66
    go_wp2_with (go_at_call 92; refine (CI.out _).mono ?_; rintro e wz ⟨rfl, rfl⟩)
    go_loopw [3, 4] (fun u i wr => ∃ (k : Nat), i = .int .i64 ((k : Int) + 1) ∧ k ≤ m ∧ Hid (ZOwn w.heap.size wr.heap.size wr u (zerL k)) ∧ Hid (Below w.heap.size w wr)) (fun _ i _ => m + 1 - (intOf i).toNat)
    case atStart => exact ⟨0, rfl, Nat.zero_le _, ZOwn.of (own_lit w [1] (by simp)), (Below.refl _ _).alloc (Nat.le_refl _) _⟩
    case round =>
      obtain ⟨k, rfl, hk, HU, HB⟩ := hrel
      obtain ⟨xa, xc, hxv⟩ := row_form HU.out.1
      subst hxv
      generalize hzl : (zerL k).length = zn at HU
      clear hzl
      by_cases hlt : k < m
      · have hlt' : (k : Int) + 1 ≤ (m : Int) := by omega
        have hwn : IntKind.i64.wrap (-((k : Int) + 1)) = -((k : Int) + 1) := IntWalk.i64_in _ (by omega)
        have CM : Hid (∀ V : World, V = wr.alloc (.cells #[.int .i64 (-((k : Int) + 1)), .int .i64 1] 3) → Calls Try.prog 64 #[.slice xa zn xc, .slice (some ⟨wr.heap.size, 0, none⟩) 2 2] V fun e w' => ∃ x, e = .returned x ∧ ZOwn V.heap.size w'.heap.size w' x (zerL (k + 1)) ∧ Below V.heap.size V w') := fun V hV => by
          subst hV
          have hb : Below wr.heap.size wr (wr.alloc (.cells #[.int .i64 (-((k : Int) + 1)), .int .i64 1] 3)) := (Below.refl _ _).alloc (Nat.le_refl _) _
          refine sQMul_any _ _ (zerL k) [-((k : Int) + 1), 1] (zerL_len k) (by simp) _ (((HU.out.at).on hb).wide hb.size) ?_
          exact (ZOwn.of (own_lit wr [-((k : Int) + 1), 1] (by simp))).at
        clear HU
        go_wp2_with (go_at_call 64; refine (CM.out _ rfl).mono ?_; rintro e w2 ⟨x, rfl, hx, hb2⟩)
        have hs : wr.heap.size ≤ (wr.alloc (.cells #[.int .i64 (-((k : Int) + 1)), .int .i64 1] 3)).heap.size := by simp
        have HX : Hid (ZOwn w.heap.size w2.heap.size w2 x (zerL (k + 1))) := hx.wide (Nat.le_trans HB.out.size hs) (Nat.le_refl _)
        have HB2 : Hid (Below w.heap.size w w2) := (HB.out.alloc HB.out.size _).trans (hb2.mono (Nat.le_trans HB.out.size hs))
        clear hx hb2 hs CM
        go_wp2
        go_roundw
        case rel => exact ⟨k + 1, by go_num, hlt, HX, HB2⟩
        case measure => simp [intOf]; omega
      · have hlt' : ¬ (k : Int) + 1 ≤ (m : Int) := by omega
        obtain rfl : m = k := by omega
        go_wp2
        go_ret
        exact ⟨_, rfl, by rw [HE.out]; exact HU.out, HB.out⟩

set_option maxHeartbeats 1600000 in
set_option maxRecDepth 100000 in
theorem sScl_any (v : Value) (l : List Int) (c : Int) (hl : l.length ≤ 1048576) (w : World) (h : ZAt w w.heap.size v l) :
    Calls Try.prog 65 #[v, .int .i64 c] w fun e w' => ∃ u, e = .returned u ∧ ZOwn w.heap.size w'.heap.size w' u (scl l c) ∧ Below w.heap.size w w' := by
  obtain ⟨i0, hi, hz0, hz1, hz2⟩ := info_parts info3I
  obtain ⟨a, cp, rfl, hA⟩ := h
  have HA : Hid (IntsAt w a l.length w.heap.size (fun j => l.getD j 0)) := hA
  obtain ⟨n, hn⟩ : ∃ n, n = l.length := ⟨_, rfl⟩
  have HN : Hid (n = l.length) := hn
  rw [← hn] at HA hl ⊢
  clear hn hA
  go_enter Try.func65, Try.ntmps65
  go_wp2
  go_loopw [5, 6] (fun u i wr => ∃ (k : Nat) (m : List Int), i = .int .i64 (k : Int) ∧ k ≤ n ∧ Hid (m = scl (l.take k) c) ∧ m.length = k ∧ wr.ownsRow w.heap.size 3 1 u k (zsV m) ∧ Hid (Below w.heap.size w wr)) (fun _ i _ => n - (intOf i).toNat)
  case atStart => exact ⟨0, [], rfl, by omega, rfl, rfl, World.ownsRow_lit _ _ _ (Nat.le_refl _) (by simp [maxLen]) (by simp), (Below.refl _ _).alloc (Nat.le_refl _) _⟩
  case round =>
    obtain ⟨k, m, rfl, hk, HM, hml, hown, HB⟩ := hrel
    have hsz : w.heap.size ≤ wr.heap.size := HB.out.size
    by_cases hlt : k < n
    · have hlt' : (k : Int) < (n : Int) := by omega
      have hk0 : (0 : Int) ≤ (k : Int) := by omega
      have hm63 : k + 1 ≤ maxLen := by unfold maxLen; omega
      have hm47 : (k + 1) * 8 ≤ 140737488355328 := by omega
      obtain ⟨b, off, rfl, hb, hz⟩ := (HA.out.on HB.out) k hlt
      replace hz : wr.cell? ⟨b, off + k, none⟩ = some (.int .i64 (l.getD k 0)) := hz
      have HS : Hid (∀ w, Calls Try.prog 14 #[.int .i64 (l.getD k 0), .int .i64 c] w fun e w' => e = .returned (.int .i64 (scMul (l.getD k 0) c)) ∧ w = w') := sScMul_any _ _
      have HM2 : Hid (m ++ [scMul (l.getD k 0) c] = scl (l.take (k + 1)) c) := by
        show _ = _
        have hkl : k < l.length := by have := HN.out; omega
        rw [HM.out, List.take_succ_eq_append_getElem hkl]
        unfold scl
        rw [List.map_append]
        simp [hkl]
      generalize scMul (l.getD k 0) c = y at HS HM2
      generalize l.getD k 0 = x at hz HS
      clear hb HA HM
      go_wp2_with (first
        | (go_at_call 14; refine (HS.out _).mono ?_; rintro e wz ⟨rfl, rfl⟩)
        | (at_builtin; refine wpList_append_own _ rfl _ _ 27 rfl w.heap.size 3 i0 (.int .i64 0) 1 8 Try.underlying27 hi hz0 hz1 hz2 rfl (by decide) _ _ _ rfl (hown.alloc _) ⟨wr.heap.size, 0, none⟩ 1 1 [.int .i64 y] rfl rfl (cell_one_new _ _ _) (one_cell _ _) hm63 hm47 (room_for hsz _) ?_))
      intro v' w4 hown' hgrow _
      have R : w4.ownsRow w.heap.size 3 1 v' (k + 1) (zsV (m ++ [y])) := by rw [zsV_append]; exact hown'
      have HB2 : Hid (Below w.heap.size w w4) := (HB.out.alloc hsz _).grown hgrow (by simp; omega) (fun k hk => (hown.lt k hk).1)
      have hml2 : (m ++ [y]).length = k + 1 := by simp [hml]
      clear hown' hgrow hown
      go_wp2
      go_roundw
      case rel => exact ⟨k + 1, _, by go_num, hlt, HM2, hml2, R, HB2⟩
      case measure => simp [intOf]; omega
    · have hlt' : ¬ (k : Int) < (n : Int) := by omega
      obtain rfl : n = k := by omega
      have HM2 : Hid (m = scl l c) := by
        show _ = _
        rw [HM.out, HN.out, List.take_length]
      obtain ⟨ra, rc, hv⟩ := row_form hown
      subst hv
      have HR : Hid (RowZs w.heap.size wr (.slice ra n rc) (scl l c)) := by
        show wr.ownsRow w.heap.size 3 1 _ (scl l c).length (zsV (scl l c))
        rw [← HM2.out, hml]
        exact hown
      clear HM hown HM2
      go_wp2
      go_ret
      exact ⟨_, rfl, ZOwn.of HR.out, HB.out⟩

end Go.Proofs.Ytjlijflfepffiaa
