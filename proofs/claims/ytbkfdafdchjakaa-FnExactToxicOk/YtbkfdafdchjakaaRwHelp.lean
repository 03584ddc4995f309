/-
  The walks of the helpers of the exact laws on rows and systems: how long, copies, whether two are the same.
  (-DROP-: what the seat lacks is left out.)
-/
import Derived.Test.YtbkfdafdchjakaaNest
import Derived.Test.YtbkfdafdchjakaaClsG
import Derived.StillTail
import Derived.StillTailTactics

namespace Go.Proofs.Ytbkfdafdchjakaa
open Go.RowKit

/-- What is left of so many, behind n of them. -/
def szF (L n : Nat) : Int := if n ≤ L then (L : Int) - (n : Int) else -1

set_option maxHeartbeats 400000 in
set_option maxRecDepth 100000 in
theorem szIntS_any (a : Option Addr) (n cap L : Nat) (hn : n ≤ 9223372036854775807) (hL : L ≤ 1048576) (w : World) :
    Calls Try.prog 93 #[.slice a n cap, .int .i64 (L : Int)] w fun e w' => e = .returned (.int .i64 (szF L n)) ∧ w = w' := by
  unfold szF
  by_cases h : n ≤ L
  · rw [if_pos h]
    have h' : ¬ (L : Int) - (n : Int) < 0 := by omega
    go_enter Try.func93, Try.ntmps93
    go_wp2
    go_ret
    exact ⟨rfl, rfl⟩
  · rw [if_neg h]
    have h' : (L : Int) - (n : Int) < 0 := by omega
    go_enter Try.func93, Try.ntmps93
    go_wp2
    go_ret
    exact ⟨rfl, rfl⟩

set_option maxHeartbeats 800000 in
set_option maxRecDepth 100000 in
theorem szRow_any (a0 a1 a2 : Option Addr) (n0 n1 n2 c0 c1 c2 L : Nat) (h0 : n0 ≤ 9223372036854775807) (h1 : n1 ≤ 9223372036854775807) (h2 : n2 ≤ 9223372036854775807) (hL : L ≤ 1048576) (w : World) :
    Calls Try.prog 66 #[.agg #[.slice a0 n0 c0, .slice a1 n1 c1, .slice a2 n2 c2], .int .i64 (L : Int)] w fun e w' => e = .returned (.int .i64 (szF L (n0 + n1 + n2))) ∧ Below w.heap.size w w' := by
  obtain ⟨W, hW, hb, hx⟩ := box1 w 119 #[.slice a0 n0 c0, .slice a1 n1 c1, .slice a2 n2 c2]
  have q0 := hx.cell 0
  have q1 := hx.cell 1
  have q2 := hx.cell 2
  by_cases g0 : n0 ≤ L
  · have e0 : szF L n0 = ((L - n0 : Nat) : Int) := by unfold szF; rw [if_pos g0]; omega
    have p0 : ¬ ((L - n0 : Nat) : Int) < 0 := by omega
    have C0 : Hid (∀ w, Calls Try.prog 93 #[.slice a0 n0 c0, .int .i64 (L : Int)] w fun e w' => e = .returned (.int .i64 ((L - n0 : Nat) : Int)) ∧ w = w') := fun w => by rw [← e0]; exact szIntS_any a0 n0 c0 L h0 hL w
    by_cases g1 : n1 ≤ L - n0
    · have e1 : szF (L - n0) n1 = ((L - n0 - n1 : Nat) : Int) := by unfold szF; rw [if_pos g1]; omega
      have p1 : ¬ ((L - n0 - n1 : Nat) : Int) < 0 := by omega
      have C1 : Hid (∀ w, Calls Try.prog 93 #[.slice a1 n1 c1, .int .i64 ((L - n0 : Nat) : Int)] w fun e w' => e = .returned (.int .i64 ((L - n0 - n1 : Nat) : Int)) ∧ w = w') := fun w => by rw [← e1]; exact szIntS_any a1 n1 c1 (L - n0) h1 (by omega) w
      by_cases g2 : n2 ≤ L - n0 - n1
      · have e2 : szF (L - n0 - n1) n2 = ((L - n0 - n1 - n2 : Nat) : Int) := by unfold szF; rw [if_pos g2]; omega
        have p2 : ¬ ((L - n0 - n1 - n2 : Nat) : Int) < 0 := by omega
        have C2 : Hid (∀ w, Calls Try.prog 93 #[.slice a2 n2 c2, .int .i64 ((L - n0 - n1 : Nat) : Int)] w fun e w' => e = .returned (.int .i64 ((L - n0 - n1 - n2 : Nat) : Int)) ∧ w = w') := fun w => by rw [← e2]; exact szIntS_any a2 n2 c2 (L - n0 - n1) h2 (by omega) w
        have HE : Hid (szF L (n0 + n1 + n2) = ((L - n0 - n1 - n2 : Nat) : Int)) := by show szF _ _ = _; unfold szF; rw [if_pos (by omega)]; omega
        generalize ((L - n0 - n1 - n2 : Nat) : Int) = r2 at p2 C2 HE
        generalize ((L - n0 - n1 : Nat) : Int) = r1 at p1 C1 C2
        generalize ((L - n0 : Nat) : Int) = r0 at p0 C0 C1
        clear g0 g1 g2 e0 e1 e2
        go_enter Try.func66, Try.ntmps66
        go_wp2_with fail
        refine (C0.out _).mono ?_
        rintro e w0 ⟨rfl, rfl⟩
        go_wp2_with fail
        refine (C1.out _).mono ?_
        rintro e w0 ⟨rfl, rfl⟩
        go_wp2_with fail
        refine (C2.out _).mono ?_
        rintro e w0 ⟨rfl, rfl⟩
        go_wp2
        go_ret
        exact ⟨by rw [HE.out]; rfl, hb⟩
      · have e2 : szF (L - n0 - n1) n2 = -1 := by unfold szF; rw [if_neg g2]
        have C2 : Hid (∀ w, Calls Try.prog 93 #[.slice a2 n2 c2, .int .i64 ((L - n0 - n1 : Nat) : Int)] w fun e w' => e = .returned (.int .i64 (-1)) ∧ w = w') := fun w => by rw [← e2]; exact szIntS_any a2 n2 c2 (L - n0 - n1) h2 (by omega) w
        have HE : Hid (szF L (n0 + n1 + n2) = -1) := by show szF _ _ = _; unfold szF; rw [if_neg (by omega)]
        generalize ((L - n0 - n1 : Nat) : Int) = r1 at p1 C1 C2
        generalize ((L - n0 : Nat) : Int) = r0 at p0 C0 C1
        clear g0 g1 g2 e0 e1 e2
        go_enter Try.func66, Try.ntmps66
        go_wp2_with fail
        refine (C0.out _).mono ?_
        rintro e w0 ⟨rfl, rfl⟩
        go_wp2_with fail
        refine (C1.out _).mono ?_
        rintro e w0 ⟨rfl, rfl⟩
        go_wp2_with fail
        refine (C2.out _).mono ?_
        rintro e w0 ⟨rfl, rfl⟩
        go_wp2
        go_ret
        exact ⟨by rw [HE.out]; rfl, hb⟩
    · have e1 : szF (L - n0) n1 = -1 := by unfold szF; rw [if_neg g1]
      have C1 : Hid (∀ w, Calls Try.prog 93 #[.slice a1 n1 c1, .int .i64 ((L - n0 : Nat) : Int)] w fun e w' => e = .returned (.int .i64 (-1)) ∧ w = w') := fun w => by rw [← e1]; exact szIntS_any a1 n1 c1 (L - n0) h1 (by omega) w
      have HE : Hid (szF L (n0 + n1 + n2) = -1) := by show szF _ _ = _; unfold szF; rw [if_neg (by omega)]
      generalize ((L - n0 : Nat) : Int) = r0 at p0 C0 C1
      clear g0 g1 e0 e1
      go_enter Try.func66, Try.ntmps66
      go_wp2_with fail
      refine (C0.out _).mono ?_
      rintro e w0 ⟨rfl, rfl⟩
      go_wp2_with fail
      refine (C1.out _).mono ?_
      rintro e w0 ⟨rfl, rfl⟩
      go_wp2
      go_ret
      exact ⟨by rw [HE.out]; rfl, hb⟩
  · have e0 : szF L n0 = -1 := by unfold szF; rw [if_neg g0]
    have C0 : Hid (∀ w, Calls Try.prog 93 #[.slice a0 n0 c0, .int .i64 (L : Int)] w fun e w' => e = .returned (.int .i64 (-1)) ∧ w = w') := fun w => by rw [← e0]; exact szIntS_any a0 n0 c0 L h0 hL w
    have HE : Hid (szF L (n0 + n1 + n2) = -1) := by show szF _ _ = _; unfold szF; rw [if_neg (by omega)]
    clear g0 e0
    go_enter Try.func66, Try.ntmps66
    go_wp2_with fail
    refine (C0.out _).mono ?_
    rintro e w0 ⟨rfl, rfl⟩
    go_wp2
    go_ret
    exact ⟨by rw [HE.out]; rfl, hb⟩

/-- The three lists of a row that lies in a list. -/
theorem NAt.row3 {w : World} {c n cp : Nat} {a : Option Addr} {ls : List (List Int)} (h : NAt 3 w c (.slice a n cp) n ls) {i : Nat} (hi : i < n) : ∃ b off a0 c0 a1 c1 a2 c2, a = some ⟨b, off, none⟩ ∧ b < c ∧ w.cell? ⟨b, off + i * 3, none⟩ = some (.slice a0 (ls.getD (i * 3) []).length c0) ∧ w.cell? ⟨b, off + i * 3 + 1, none⟩ = some (.slice a1 (ls.getD (i * 3 + 1) []).length c1) ∧ w.cell? ⟨b, off + i * 3 + 2, none⟩ = some (.slice a2 (ls.getD (i * 3 + 2) []).length c2)
    ∧ IntsAt w a0 (ls.getD (i * 3) []).length c (fun j => (ls.getD (i * 3) []).getD j 0) ∧ IntsAt w a1 (ls.getD (i * 3 + 1) []).length c (fun j => (ls.getD (i * 3 + 1) []).getD j 0) ∧ IntsAt w a2 (ls.getD (i * 3 + 2) []).length c (fun j => (ls.getD (i * 3 + 2) []).getD j 0) := by
  obtain ⟨_, a', cp', hv, hc⟩ := h
  have ha : a = a' := by injection hv
  subst ha
  obtain ⟨b, off, u0, e0, l0, z0, a0, c0, rfl, i0⟩ := hc (i * 3) (by omega)
  obtain ⟨b1, off1, u1, e1, l1, z1, a1, c1, rfl, i1⟩ := hc (i * 3 + 1) (by omega)
  obtain ⟨b2, off2, u2, e2, l2, z2, a2, c2, rfl, i2⟩ := hc (i * 3 + 2) (by omega)
  subst e0
  obtain ⟨rfl, rfl⟩ : b = b1 ∧ off = off1 := by injection e1 with e; injection e with e3 e4; exact ⟨e3, e4⟩
  obtain ⟨rfl, rfl⟩ : b = b2 ∧ off = off2 := by injection e2 with e; injection e with e3 e4; exact ⟨e3, e4⟩
  exact ⟨b, off, a0, c0, a1, c1, a2, c2, rfl, l0, z0, z1, z2, i0, i1, i2⟩

theorem tot_take_three (ls : List (List Int)) (k : Nat) (h : (k + 1) * 3 ≤ ls.length) : tot (ls.take ((k + 1) * 3)) = tot (ls.take (k * 3)) + ((ls.getD (k * 3) []).length + (ls.getD (k * 3 + 1) []).length + (ls.getD (k * 3 + 2) []).length) := by
  have t2 : tot (ls.take (k * 3 + 3)) = tot (ls.take (k * 3 + 2)) + (ls.getD (k * 3 + 2) []).length := tot_take_next ls (j := k * 3 + 2) (by omega)
  have t1 : tot (ls.take (k * 3 + 2)) = tot (ls.take (k * 3 + 1)) + (ls.getD (k * 3 + 1) []).length := tot_take_next ls (j := k * 3 + 1) (by omega)
  have t0 := tot_take_next ls (j := k * 3) (by omega)
  rw [show (k + 1) * 3 = k * 3 + 3 by omega]
  omega

set_option maxHeartbeats 800000 in
set_option maxRecDepth 100000 in
theorem szRowS_any (a : Option Addr) (n cap : Nat) (hn : n ≤ 9223372036854775807) (ls : List (List Int)) (hz : ∀ j, (ls.getD j []).length ≤ 9223372036854775807) (w : World) (hA : NAt 3 w w.heap.size (.slice a n cap) n ls) :
    Calls Try.prog 38 #[.slice a n cap, .int .i64 1048576] w fun e w' => e = .returned (.int .i64 (szF 1048576 (n + tot ls))) ∧ Below w.heap.size w w' := by
  have HA : Hid (NAt 3 w w.heap.size (.slice a n cap) n ls) := hA
  have hlen := hA.1
  clear hA
  by_cases h1 : 1048576 < n
  · have h1' : (1048576 : Int) - (n : Int) < 0 := by omega
    have HE : Hid (szF 1048576 (n + tot ls) = -1) := by show szF _ _ = _; unfold szF; rw [if_neg (by omega)]
    go_enter Try.func38, Try.ntmps38
    go_wp2
    go_ret
    exact ⟨by rw [HE.out]; rfl, Below.refl _ _⟩
  have h1' : ¬ (1048576 : Int) - (n : Int) < 0 := by omega
  have hLn : ((1048576 - n : Nat) : Int) = 1048576 - (n : Int) := by omega
  have HZ : Hid (∀ j, (ls.getD j []).length ≤ 9223372036854775807) := hz
  clear hz
  go_enter Try.func38, Try.ntmps38
  go_wp2
  go_loopw [1, 5] (fun x i wr => ∃ k L : Nat, x = .int .i64 (L : Int) ∧ i = .int .i64 (k : Int) ∧ k ≤ n ∧ Hid (L + n + tot (ls.take (k * 3)) = 1048576) ∧ Hid (Below w.heap.size w wr)) (fun _ i _ => n - (intOf i).toNat)
  case atStart => exact ⟨0, 1048576 - n, by rw [hLn], rfl, Nat.zero_le _, (show 1048576 - n + n + 0 = 1048576 by omega), Below.refl _ _⟩
  case round =>
    obtain ⟨k, L, rfl, rfl, hk, HL, HW⟩ := hrel
    by_cases hlt : k < n
    · have hlt' : (k : Int) < (n : Int) := by omega
      have hk0 : (0 : Int) ≤ (k : Int) := by omega
      obtain ⟨b, off, a0, c0, a1, c1, a2, c2, rfl, hb, z0, z1, z2, _, _, _⟩ := (HA.out.on HW.out).row3 hlt
      have HT : Hid (tot (ls.take ((k + 1) * 3)) = tot (ls.take (k * 3)) + ((ls.getD (k * 3) []).length + (ls.getD (k * 3 + 1) []).length + (ls.getD (k * 3 + 2) []).length)) := by
        exact tot_take_three ls k (by omega)
      have HTL : Hid (tot (ls.take ((k + 1) * 3)) ≤ tot ls) := tot_take_le _ _
      have HC : Hid (∀ w, Calls Try.prog 66 #[.agg #[.slice a0 (ls.getD (k * 3) []).length c0, .slice a1 (ls.getD (k * 3 + 1) []).length c1, .slice a2 (ls.getD (k * 3 + 2) []).length c2], .int .i64 (L : Int)] w fun e w' => e = .returned (.int .i64 (szF L ((ls.getD (k * 3) []).length + (ls.getD (k * 3 + 1) []).length + (ls.getD (k * 3 + 2) []).length))) ∧ Below w.heap.size w w') := szRow_any a0 a1 a2 _ _ _ c0 c1 c2 L (HZ.out _) (HZ.out _) (HZ.out _) (by have := HL.out; omega)
      generalize (ls.getD (k * 3) []).length = m0 at HC HT z0
      generalize (ls.getD (k * 3 + 1) []).length = m1 at HC HT z1
      generalize (ls.getD (k * 3 + 2) []).length = m2 at HC HT z2
      generalize htk : tot (ls.take ((k + 1) * 3)) = T1 at HT HTL
      have HTK : Hid (tot (ls.take ((k + 1) * 3)) = T1) := htk
      clear htk
      generalize tot (ls.take (k * 3)) = T0 at HT HL
      clear HA hb
      by_cases hs : m0 + m1 + m2 ≤ L
      · have he : szF L (m0 + m1 + m2) = ((L - (m0 + m1 + m2) : Nat) : Int) := by unfold szF; rw [if_pos hs]; omega
        have hp : ¬ ((L - (m0 + m1 + m2) : Nat) : Int) < 0 := by omega
        rw [he] at HC
        have HL2 : Hid (L - (m0 + m1 + m2) + n + tot (ls.take ((k + 1) * 3)) = 1048576) := by
          show _ = _
          rw [HTK.out, HT.out]
          have := HL.out
          omega
        clear he hs
        generalize L - (m0 + m1 + m2) = L2 at HC hp HL2
        go_wp2_with fail
        refine (HC.out _).mono ?_
        rintro e w1 ⟨rfl, hb1⟩
        have HW2 : Hid (Below w.heap.size w w1) := HW.out.trans (hb1.mono HW.out.size)
        clear hb1 HW z0 z1 z2 HC
        go_wp2
        go_roundw
        case rel => exact ⟨k + 1, L2, rfl, by go_num, hlt, HL2, HW2⟩
        case measure => simp [intOf]; omega
      · have he : szF L (m0 + m1 + m2) = -1 := by unfold szF; rw [if_neg hs]
        have HE : Hid (szF 1048576 (n + tot ls) = -1) := by
          show szF _ _ = _
          unfold szF
          rw [if_neg (by have := HL.out; have := HT.out; have := HTL.out; omega)]
        rw [he] at HC
        clear he hs
        go_wp2_with fail
        refine (HC.out _).mono ?_
        rintro e w1 ⟨rfl, hb1⟩
        have HW2 : Hid (Below w.heap.size w w1) := HW.out.trans (hb1.mono HW.out.size)
        clear hb1 HW z0 z1 z2 HC
        go_wp2
        go_ret
        exact ⟨by rw [HE.out]; rfl, HW2.out⟩
    · have hlt' : ¬ (k : Int) < (n : Int) := by omega
      have hkn : k = n := by omega
      have HE : Hid (szF 1048576 (n + tot ls) = (L : Int)) := by
        have h := HL.out
        rw [hkn, ← hlen, List.take_length] at h
        show szF _ _ = _
        unfold szF
        rw [if_pos (by omega)]
        omega
      clear hkn
      go_wp2
      go_ret
      exact ⟨by rw [HE.out]; rfl, HW.out⟩

end Go.Proofs.Ytbkfdafdchjakaa
