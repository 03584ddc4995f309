/-
  Texts of one's own, joined.
-/
import Derived.Test.YthnahalboomkoaaGreatJoined6
import Derived.Test.YthnahalboomkoaaGreatJoined3
import Derived.StillTail
import Derived.StillTailTactics
import Derived.Test.YthnahalboomkoaaGreatProg
import Derived.WalkLawsBesides
import Derived.WalkSpells
import Derived.Lib.MinMax
import Derived.WalkKit
import Derived.Test.YthnahalboomkoaaGreatJoined9
import Derived.Maps.AppendAt
import Derived.Test.YthnahalboomkoaaGreatJoined10

/-
  The walks of the helpers of the exact laws on rows and systems: how long, copies, whether two are the same.
  (-DROP-: what the seat lacks is left out.)
-/
namespace Go.Proofs.YthnahalboomkoaaGreat
open Go.RowKit

/-- What is left of so many, behind n of them. -/
def szF (L n : Nat) : Int := if n ≤ L then (L : Int) - (n : Int) else -1

set_option maxHeartbeats 400000 in
set_option maxRecDepth 100000 in
theorem szIntS_any (a : Option Addr) (n cap L : Nat) (hn : n ≤ 9223372036854775807) (hL : L ≤ 1048576) (w : World) :
    Calls Tryz.prog 201 #[.slice a n cap, .int .i64 (L : Int)] w fun e w' => e = .returned (.int .i64 (szF L n)) ∧ w = w' := by
  unfold szF
  by_cases h : n ≤ L
  · rw [if_pos h]
    have h' : ¬ (L : Int) - (n : Int) < 0 := by omega
    go_enter Tryz.func201, Tryz.ntmps201
    go_wp2
    go_ret
    exact ⟨rfl, rfl⟩
  · rw [if_neg h]
    have h' : (L : Int) - (n : Int) < 0 := by omega
    go_enter Tryz.func201, Tryz.ntmps201
    go_wp2
    go_ret
    exact ⟨rfl, rfl⟩

set_option maxHeartbeats 800000 in
set_option maxRecDepth 100000 in
theorem szRow_any (a0 a1 a2 : Option Addr) (n0 n1 n2 c0 c1 c2 L : Nat) (h0 : n0 ≤ 9223372036854775807) (h1 : n1 ≤ 9223372036854775807) (h2 : n2 ≤ 9223372036854775807) (hL : L ≤ 1048576) (w : World) :
    Calls Tryz.prog 172 #[.agg #[.slice a0 n0 c0, .slice a1 n1 c1, .slice a2 n2 c2], .int .i64 (L : Int)] w fun e w' => e = .returned (.int .i64 (szF L (n0 + n1 + n2))) ∧ Below w.heap.size w w' := by
  obtain ⟨W, hW, hb, hx⟩ := box1 w 189 #[.slice a0 n0 c0, .slice a1 n1 c1, .slice a2 n2 c2]
  have q0 := hx.cell 0
  have q1 := hx.cell 1
  have q2 := hx.cell 2
  by_cases g0 : n0 ≤ L
  · have e0 : szF L n0 = ((L - n0 : Nat) : Int) := by unfold szF; rw [if_pos g0]; omega
    have p0 : ¬ ((L - n0 : Nat) : Int) < 0 := by omega
    have C0 : Hid (∀ w, Calls Tryz.prog 201 #[.slice a0 n0 c0, .int .i64 (L : Int)] w fun e w' => e = .returned (.int .i64 ((L - n0 : Nat) : Int)) ∧ w = w') := fun w => by rw [← e0]; exact szIntS_any a0 n0 c0 L h0 hL w
    by_cases g1 : n1 ≤ L - n0
    · have e1 : szF (L - n0) n1 = ((L - n0 - n1 : Nat) : Int) := by unfold szF; rw [if_pos g1]; omega
      have p1 : ¬ ((L - n0 - n1 : Nat) : Int) < 0 := by omega
      have C1 : Hid (∀ w, Calls Tryz.prog 201 #[.slice a1 n1 c1, .int .i64 ((L - n0 : Nat) : Int)] w fun e w' => e = .returned (.int .i64 ((L - n0 - n1 : Nat) : Int)) ∧ w = w') := fun w => by rw [← e1]; exact szIntS_any a1 n1 c1 (L - n0) h1 (by omega) w
      by_cases g2 : n2 ≤ L - n0 - n1
      · have e2 : szF (L - n0 - n1) n2 = ((L - n0 - n1 - n2 : Nat) : Int) := by unfold szF; rw [if_pos g2]; omega
        have p2 : ¬ ((L - n0 - n1 - n2 : Nat) : Int) < 0 := by omega
        have C2 : Hid (∀ w, Calls Tryz.prog 201 #[.slice a2 n2 c2, .int .i64 ((L - n0 - n1 : Nat) : Int)] w fun e w' => e = .returned (.int .i64 ((L - n0 - n1 - n2 : Nat) : Int)) ∧ w = w') := fun w => by rw [← e2]; exact szIntS_any a2 n2 c2 (L - n0 - n1) h2 (by omega) w
        have HE : Hid (szF L (n0 + n1 + n2) = ((L - n0 - n1 - n2 : Nat) : Int)) := by show szF _ _ = _; unfold szF; rw [if_pos (by omega)]; omega
        generalize ((L - n0 - n1 - n2 : Nat) : Int) = r2 at p2 C2 HE
        generalize ((L - n0 - n1 : Nat) : Int) = r1 at p1 C1 C2
        generalize ((L - n0 : Nat) : Int) = r0 at p0 C0 C1
        clear g0 g1 g2 e0 e1 e2
        go_enter Tryz.func172, Tryz.ntmps172
        go_wp2_with fail
        refine (C0.out _).mono ?_
        rintro e w0 ⟨rfl, rfl⟩
        go_wp2_with fail
        refine (C1.out _).mono ?_
        rintro e w0 ⟨rfl, rfl⟩
        go_wp2_with fail
        refine (C2.out _).mono ?_
        rintro e w0 ⟨rfl, rfl⟩
        go_wp2
        go_ret
        exact ⟨by rw [HE.out]; rfl, hb⟩
      · have e2 : szF (L - n0 - n1) n2 = -1 := by unfold szF; rw [if_neg g2]
        have C2 : Hid (∀ w, Calls Tryz.prog 201 #[.slice a2 n2 c2, .int .i64 ((L - n0 - n1 : Nat) : Int)] w fun e w' => e = .returned (.int .i64 (-1)) ∧ w = w') := fun w => by rw [← e2]; exact szIntS_any a2 n2 c2 (L - n0 - n1) h2 (by omega) w
        have HE : Hid (szF L (n0 + n1 + n2) = -1) := by show szF _ _ = _; unfold szF; rw [if_neg (by omega)]
        generalize ((L - n0 - n1 : Nat) : Int) = r1 at p1 C1 C2
        generalize ((L - n0 : Nat) : Int) = r0 at p0 C0 C1
        clear g0 g1 g2 e0 e1 e2
        go_enter Tryz.func172, Tryz.ntmps172
        go_wp2_with fail
        refine (C0.out _).mono ?_
        rintro e w0 ⟨rfl, rfl⟩
        go_wp2_with fail
        refine (C1.out _).mono ?_
        rintro e w0 ⟨rfl, rfl⟩
        go_wp2_with fail
        refine (C2.out _).mono ?_
        rintro e w0 ⟨rfl, rfl⟩
        go_wp2
        go_ret
        exact ⟨by rw [HE.out]; rfl, hb⟩
    · have e1 : szF (L - n0) n1 = -1 := by unfold szF; rw [if_neg g1]
      have C1 : Hid (∀ w, Calls Tryz.prog 201 #[.slice a1 n1 c1, .int .i64 ((L - n0 : Nat) : Int)] w fun e w' => e = .returned (.int .i64 (-1)) ∧ w = w') := fun w => by rw [← e1]; exact szIntS_any a1 n1 c1 (L - n0) h1 (by omega) w
      have HE : Hid (szF L (n0 + n1 + n2) = -1) := by show szF _ _ = _; unfold szF; rw [if_neg (by omega)]
      generalize ((L - n0 : Nat) : Int) = r0 at p0 C0 C1
      clear g0 g1 e0 e1
      go_enter Tryz.func172, Tryz.ntmps172
      go_wp2_with fail
      refine (C0.out _).mono ?_
      rintro e w0 ⟨rfl, rfl⟩
      go_wp2_with fail
      refine (C1.out _).mono ?_
      rintro e w0 ⟨rfl, rfl⟩
      go_wp2
      go_ret
      exact ⟨by rw [HE.out]; rfl, hb⟩
  · have e0 : szF L n0 = -1 := by unfold szF; rw [if_neg g0]
    have C0 : Hid (∀ w, Calls Tryz.prog 201 #[.slice a0 n0 c0, .int .i64 (L : Int)] w fun e w' => e = .returned (.int .i64 (-1)) ∧ w = w') := fun w => by rw [← e0]; exact szIntS_any a0 n0 c0 L h0 hL w
    have HE : Hid (szF L (n0 + n1 + n2) = -1) := by show szF _ _ = _; unfold szF; rw [if_neg (by omega)]
    clear g0 e0
    go_enter Tryz.func172, Tryz.ntmps172
    go_wp2_with fail
    refine (C0.out _).mono ?_
    rintro e w0 ⟨rfl, rfl⟩
    go_wp2
    go_ret
    exact ⟨by rw [HE.out]; rfl, hb⟩

/-- The three lists of a row that lies in a list. -/
theorem NAt.row3 {w : World} {c n cp : Nat} {a : Option Addr} {ls : List (List Int)} (h : NAt 3 w c (.slice a n cp) n ls) {i : Nat} (hi : i < n) : ∃ b off a0 c0 a1 c1 a2 c2, a = some ⟨b, off, none⟩ ∧ b < c ∧ w.cell? ⟨b, off + i * 3, none⟩ = some (.slice a0 (ls.getD (i * 3) []).length c0) ∧ w.cell? ⟨b, off + i * 3 + 1, none⟩ = some (.slice a1 (ls.getD (i * 3 + 1) []).length c1) ∧ w.cell? ⟨b, off + i * 3 + 2, none⟩ = some (.slice a2 (ls.getD (i * 3 + 2) []).length c2)
    ∧ IntsAt w a0 (ls.getD (i * 3) []).length c (fun j => (ls.getD (i * 3) []).getD j 0) ∧ IntsAt w a1 (ls.getD (i * 3 + 1) []).length c (fun j => (ls.getD (i * 3 + 1) []).getD j 0) ∧ IntsAt w a2 (ls.getD (i * 3 + 2) []).length c (fun j => (ls.getD (i * 3 + 2) []).getD j 0) := by
  obtain ⟨_, a', cp', hv, hc⟩ := h
  have ha : a = a' := by injection hv
  subst ha
  obtain ⟨b, off, u0, e0, l0, z0, a0, c0, rfl, i0⟩ := hc (i * 3) (by omega)
  obtain ⟨b1, off1, u1, e1, l1, z1, a1, c1, rfl, i1⟩ := hc (i * 3 + 1) (by omega)
  obtain ⟨b2, off2, u2, e2, l2, z2, a2, c2, rfl, i2⟩ := hc (i * 3 + 2) (by omega)
  subst e0
  obtain ⟨rfl, rfl⟩ : b = b1 ∧ off = off1 := by injection e1 with e; injection e with e3 e4; exact ⟨e3, e4⟩
  obtain ⟨rfl, rfl⟩ : b = b2 ∧ off = off2 := by injection e2 with e; injection e with e3 e4; exact ⟨e3, e4⟩
  exact ⟨b, off, a0, c0, a1, c1, a2, c2, rfl, l0, z0, z1, z2, i0, i1, i2⟩

theorem tot_take_three (ls : List (List Int)) (k : Nat) (h : (k + 1) * 3 ≤ ls.length) : tot (ls.take ((k + 1) * 3)) = tot (ls.take (k * 3)) + ((ls.getD (k * 3) []).length + (ls.getD (k * 3 + 1) []).length + (ls.getD (k * 3 + 2) []).length) := by
  have t2 : tot (ls.take (k * 3 + 3)) = tot (ls.take (k * 3 + 2)) + (ls.getD (k * 3 + 2) []).length := tot_take_next ls (j := k * 3 + 2) (by omega)
  have t1 : tot (ls.take (k * 3 + 2)) = tot (ls.take (k * 3 + 1)) + (ls.getD (k * 3 + 1) []).length := tot_take_next ls (j := k * 3 + 1) (by omega)
  have t0 := tot_take_next ls (j := k * 3) (by omega)
  rw [show (k + 1) * 3 = k * 3 + 3 by omega]
  omega

set_option maxHeartbeats 800000 in
set_option maxRecDepth 100000 in
theorem szRowS_any (a : Option Addr) (n cap : Nat) (hn : n ≤ 9223372036854775807) (ls : List (List Int)) (hz : ∀ j, (ls.getD j []).length ≤ 9223372036854775807) (w : World) (hA : NAt 3 w w.heap.size (.slice a n cap) n ls) :
    Calls Tryz.prog 107 #[.slice a n cap, .int .i64 1048576] w fun e w' => e = .returned (.int .i64 (szF 1048576 (n + tot ls))) ∧ Below w.heap.size w w' := by
  have HA : Hid (NAt 3 w w.heap.size (.slice a n cap) n ls) := hA
  have hlen := hA.1
  clear hA
  by_cases h1 : 1048576 < n
  · have h1' : (1048576 : Int) - (n : Int) < 0 := by omega
    have HE : Hid (szF 1048576 (n + tot ls) = -1) := by show szF _ _ = _; unfold szF; rw [if_neg (by omega)]
    go_enter Tryz.func107, Tryz.ntmps107
    go_wp2
    go_ret
    exact ⟨by rw [HE.out]; rfl, Below.refl _ _⟩
  have h1' : ¬ (1048576 : Int) - (n : Int) < 0 := by omega
  have hLn : ((1048576 - n : Nat) : Int) = 1048576 - (n : Int) := by omega
  have HZ : Hid (∀ j, (ls.getD j []).length ≤ 9223372036854775807) := hz
  clear hz
  go_enter Tryz.func107, Tryz.ntmps107
  go_wp2
  go_loopw [1, 5] (fun x i wr => ∃ k L : Nat, x = .int .i64 (L : Int) ∧ i = .int .i64 (k : Int) ∧ k ≤ n ∧ Hid (L + n + tot (ls.take (k * 3)) = 1048576) ∧ Hid (Below w.heap.size w wr)) (fun _ i _ => n - (intOf i).toNat)
  case atStart => exact ⟨0, 1048576 - n, by rw [hLn], rfl, Nat.zero_le _, (show 1048576 - n + n + 0 = 1048576 by omega), Below.refl _ _⟩
  case round =>
    obtain ⟨k, L, rfl, rfl, hk, HL, HW⟩ := hrel
    by_cases hlt : k < n
    · have hlt' : (k : Int) < (n : Int) := by omega
      have hk0 : (0 : Int) ≤ (k : Int) := by omega
      obtain ⟨b, off, a0, c0, a1, c1, a2, c2, rfl, hb, z0, z1, z2, _, _, _⟩ := (HA.out.on HW.out).row3 hlt
      have HT : Hid (tot (ls.take ((k + 1) * 3)) = tot (ls.take (k * 3)) + ((ls.getD (k * 3) []).length + (ls.getD (k * 3 + 1) []).length + (ls.getD (k * 3 + 2) []).length)) := by
        exact tot_take_three ls k (by omega)
      have HTL : Hid (tot (ls.take ((k + 1) * 3)) ≤ tot ls) := tot_take_le _ _
      have HC : Hid (∀ w, Calls Tryz.prog 172 #[.agg #[.slice a0 (ls.getD (k * 3) []).length c0, .slice a1 (ls.getD (k * 3 + 1) []).length c1, .slice a2 (ls.getD (k * 3 + 2) []).length c2], .int .i64 (L : Int)] w fun e w' => e = .returned (.int .i64 (szF L ((ls.getD (k * 3) []).length + (ls.getD (k * 3 + 1) []).length + (ls.getD (k * 3 + 2) []).length))) ∧ Below w.heap.size w w') := szRow_any a0 a1 a2 _ _ _ c0 c1 c2 L (HZ.out _) (HZ.out _) (HZ.out _) (by have := HL.out; omega)
      generalize (ls.getD (k * 3) []).length = m0 at HC HT z0
      generalize (ls.getD (k * 3 + 1) []).length = m1 at HC HT z1
      generalize (ls.getD (k * 3 + 2) []).length = m2 at HC HT z2
      generalize htk : tot (ls.take ((k + 1) * 3)) = T1 at HT HTL
      have HTK : Hid (tot (ls.take ((k + 1) * 3)) = T1) := htk
      clear htk
      generalize tot (ls.take (k * 3)) = T0 at HT HL
      clear HA hb
      by_cases hs : m0 + m1 + m2 ≤ L
      · have he : szF L (m0 + m1 + m2) = ((L - (m0 + m1 + m2) : Nat) : Int) := by unfold szF; rw [if_pos hs]; omega
        have hp : ¬ ((L - (m0 + m1 + m2) : Nat) : Int) < 0 := by omega
        rw [he] at HC
        have HL2 : Hid (L - (m0 + m1 + m2) + n + tot (ls.take ((k + 1) * 3)) = 1048576) := by
          show _ = _
          rw [HTK.out, HT.out]
          have := HL.out
          omega
        clear he hs
        generalize L - (m0 + m1 + m2) = L2 at HC hp HL2
        go_wp2_with fail
        refine (HC.out _).mono ?_
        rintro e w1 ⟨rfl, hb1⟩
        have HW2 : Hid (Below w.heap.size w w1) := HW.out.trans (hb1.mono HW.out.size)
        clear hb1 HW z0 z1 z2 HC
        go_wp2
        go_roundw
        case rel => exact ⟨k + 1, L2, rfl, by go_num, hlt, HL2, HW2⟩
        case measure => simp [intOf]; omega
      · have he : szF L (m0 + m1 + m2) = -1 := by unfold szF; rw [if_neg hs]
        have HE : Hid (szF 1048576 (n + tot ls) = -1) := by
          show szF _ _ = _
          unfold szF
          rw [if_neg (by have := HL.out; have := HT.out; have := HTL.out; omega)]
        rw [he] at HC
        clear he hs
        go_wp2_with fail
        refine (HC.out _).mono ?_
        rintro e w1 ⟨rfl, hb1⟩
        have HW2 : Hid (Below w.heap.size w w1) := HW.out.trans (hb1.mono HW.out.size)
        clear hb1 HW z0 z1 z2 HC
        go_wp2
        go_ret
        exact ⟨by rw [HE.out]; rfl, HW2.out⟩
    · have hlt' : ¬ (k : Int) < (n : Int) := by omega
      have hkn : k = n := by omega
      have HE : Hid (szF 1048576 (n + tot ls) = (L : Int)) := by
        have h := HL.out
        rw [hkn, ← hlen, List.take_length] at h
        show szF _ _ = _
        unfold szF
        rw [if_pos (by omega)]
        omega
      clear hkn
      go_wp2
      go_ret
      exact ⟨by rw [HE.out]; rfl, HW.out⟩

end Go.Proofs.YthnahalboomkoaaGreat

/-
  The walks of the helpers of the exact laws on rows and systems: copies, whether two are the same, marks.
  (-DROP-: what the seat lacks is left out.)
-/
namespace Go.Proofs.YthnahalboomkoaaGreat
open Go.RowKit

theorem infoRw : (Tryz.prog.info? 146).map (·.size) = some 3 := by kernel_rfl
theorem ones3R (a b c : Option Addr) (n m k n' m' k' : Nat) : (#[Value.slice a n n', .slice b m m', .slice c k k']).all (·.oneCell') = true := by simp [Value.oneCell']

set_option maxHeartbeats 800000 in
set_option maxRecDepth 100000 in
theorem toRow_any (a0 : Option Addr) (n0 c0 : Nat) (h0 : n0 ≤ 1048576) (f0 : Nat → Int) (a1 : Option Addr) (n1 c1 : Nat) (h1 : n1 ≤ 1048576) (f1 : Nat → Int) (a2 : Option Addr) (n2 c2 : Nat) (h2 : n2 ≤ 1048576) (f2 : Nat → Int) (w : World) (A0 : IntsAt w a0 n0 w.heap.size f0) (A1 : IntsAt w a1 n1 w.heap.size f1) (A2 : IntsAt w a2 n2 w.heap.size f2) :
    Calls Tryz.prog 173 #[.agg #[.slice a0 n0 c0, .slice a1 n1 c1, .slice a2 n2 c2]] w fun e w' => ∃ g0 g1 g2, e = .returned (.agg #[.slice (some ⟨g0, 0, none⟩) n0 n0, .slice (some ⟨g1, 0, none⟩) n1 n1, .slice (some ⟨g2, 0, none⟩) n2 n2]) ∧ w.heap.size ≤ g0 ∧ g0 < g1 ∧ g1 < g2 ∧ g2 < w'.heap.size ∧ RowI w' g0 n0 f0 ∧ RowI w' g1 n1 f1 ∧ RowI w' g2 n2 f2 ∧ Below w.heap.size w w' := by
  obtain ⟨W, hW, hB, hx, hr, ho⟩ := boxes2r w 189 146 146 #[.slice a0 n0 c0, .slice a1 n1 c1, .slice a2 n2 c2] #[.slice none 0 0, .slice none 0 0, .slice none 0 0] #[.slice none 0 0, .slice none 0 0, .slice none 0 0]
  have H0 : Hid (IntsAt w a0 n0 w.heap.size f0) := A0
  have H1 : Hid (IntsAt w a1 n1 w.heap.size f1) := A1
  have H2 : Hid (IntsAt w a2 n2 w.heap.size f2) := A2
  have hWs : w.heap.size + 3 ≤ W.heap.size := by rw [← hW]; simp
  clear A0 A1 A2
  have q0 := hx.cell 0
  go_enter Tryz.func173, Tryz.ntmps173
  go_wp2_with fail
  clear hW q0
  refine (toIntS_any a0 n0 c0 h0 f0 _ ((H0.out.on hB).wide hB.size)).mono ?_
  rintro e w1 ⟨rfl, R0, hb⟩
  have hsz := hb.size
  obtain ⟨g0, hg0⟩ : ∃ g, g = W.heap.size := ⟨_, rfl⟩
  rw [← hg0] at R0 hsz ⊢
  have hge0 : w.heap.size + 3 ≤ g0 := by omega
  have hl0 := R0.lt
  clear hg0 hWs
  replace hx := hx.on hb hx.lt
  replace hr := hr.on hb hr.lt
  replace ho := ho.on hb ho.lt
  replace hB := below_then hB hb
  have p0 := ho.cell 0
  have s0 := ho.free 0
  have t1 := hx.cell 1
  replace hx := hx.other (i := 0) (g' := w.heap.size + 1 + 1) (by omega) (.slice (some ⟨g0, 0, none⟩) n0 n0)
  replace hr := hr.other (i := 0) (g' := w.heap.size + 1 + 1) (by omega) (.slice (some ⟨g0, 0, none⟩) n0 n0)
  replace ho := ho.set 0 (.slice (some ⟨g0, 0, none⟩) n0 n0)
  replace R0 : RowI _ g0 n0 f0 := Blk.other (i := 0) (g' := w.heap.size + 1 + 1) R0 (by omega) (.slice (some ⟨g0, 0, none⟩) n0 n0)
  replace hB := hB.setCell (p := ⟨w.heap.size + 1 + 1, 0, none⟩) (by show w.heap.size ≤ w.heap.size + 1 + 1; omega) (.slice (some ⟨g0, 0, none⟩) n0 n0)
  have hS1 : w1.heap.size = (w1.setCell ⟨w.heap.size + 1 + 1, 0, none⟩ (.slice (some ⟨g0, 0, none⟩) n0 n0)).heap.size := by simp [World.setCell]
  have q1 := hx.cell 1
  clear hb hsz
  go_wp2_with fail
  generalize w1.setCell ⟨w.heap.size + 1 + 1, 0, none⟩ (.slice (some ⟨g0, 0, none⟩) n0 n0) = V1 at hx hr ho hB q1 hS1 R0 ⊢
  clear q1 t1 p0 s0
  refine (toIntS_any a1 n1 c1 h1 f1 _ ((H1.out.on hB).wide hB.size)).mono ?_
  rintro e w2 ⟨rfl, R1, hb⟩
  have hsz := hb.size
  obtain ⟨g1, hg1⟩ : ∃ g, g = V1.heap.size := ⟨_, rfl⟩
  rw [← hg1] at R1 hsz ⊢
  have hge1 : w.heap.size + 3 ≤ g1 := by have := ho.lt; omega
  have hlt1 : g0 < g1 := by have := hl0; omega
  have hl1 := R1.lt
  clear hg1 hS1
  replace hx := hx.on hb hx.lt
  replace hr := hr.on hb hr.lt
  replace ho := ho.on hb ho.lt
  replace R0 := R0.on hb R0.lt
  replace hB := below_then hB hb
  have p1 := ho.cell 1
  have s1 := ho.free 1
  have t2 := hx.cell 2
  replace hx := hx.other (i := 1) (g' := w.heap.size + 1 + 1) (by omega) (.slice (some ⟨g1, 0, none⟩) n1 n1)
  replace hr := hr.other (i := 1) (g' := w.heap.size + 1 + 1) (by omega) (.slice (some ⟨g1, 0, none⟩) n1 n1)
  replace ho := ho.set 1 (.slice (some ⟨g1, 0, none⟩) n1 n1)
  replace R0 : RowI _ g0 n0 f0 := Blk.other (i := 1) (g' := w.heap.size + 1 + 1) R0 (by omega) (.slice (some ⟨g1, 0, none⟩) n1 n1)
  replace R1 : RowI _ g1 n1 f1 := Blk.other (i := 1) (g' := w.heap.size + 1 + 1) R1 (by omega) (.slice (some ⟨g1, 0, none⟩) n1 n1)
  replace hB := hB.setCell (p := ⟨w.heap.size + 1 + 1, 1, none⟩) (by show w.heap.size ≤ w.heap.size + 1 + 1; omega) (.slice (some ⟨g1, 0, none⟩) n1 n1)
  have hS2 : w2.heap.size = (w2.setCell ⟨w.heap.size + 1 + 1, 1, none⟩ (.slice (some ⟨g1, 0, none⟩) n1 n1)).heap.size := by simp [World.setCell]
  have q2 := hx.cell 2
  clear hb hsz
  go_wp2_with fail
  generalize w2.setCell ⟨w.heap.size + 1 + 1, 1, none⟩ (.slice (some ⟨g1, 0, none⟩) n1 n1) = V2 at hx hr ho hB q2 hS2 R0 R1 ⊢
  clear q2 t2 p1 s1
  refine (toIntS_any a2 n2 c2 h2 f2 _ ((H2.out.on hB).wide hB.size)).mono ?_
  rintro e w3 ⟨rfl, R2, hb⟩
  have hsz := hb.size
  obtain ⟨g2, hg2⟩ : ∃ g, g = V2.heap.size := ⟨_, rfl⟩
  rw [← hg2] at R2 hsz ⊢
  have hge2 : w.heap.size + 3 ≤ g2 := by have := ho.lt; omega
  have hlt2 : g1 < g2 := by have := hl1; omega
  have hl2 := R2.lt
  clear hg2 hS2
  replace hx := hx.on hb hx.lt
  replace hr := hr.on hb hr.lt
  replace ho := ho.on hb ho.lt
  replace R0 := R0.on hb R0.lt
  replace R1 := R1.on hb R1.lt
  replace hB := below_then hB hb
  have p2 := ho.cell 2
  have s2 := ho.free 2
  replace hx := hx.other (i := 2) (g' := w.heap.size + 1 + 1) (by omega) (.slice (some ⟨g2, 0, none⟩) n2 n2)
  replace hr := hr.other (i := 2) (g' := w.heap.size + 1 + 1) (by omega) (.slice (some ⟨g2, 0, none⟩) n2 n2)
  replace ho := ho.set 2 (.slice (some ⟨g2, 0, none⟩) n2 n2)
  replace R0 : RowI _ g0 n0 f0 := Blk.other (i := 2) (g' := w.heap.size + 1 + 1) R0 (by omega) (.slice (some ⟨g2, 0, none⟩) n2 n2)
  replace R1 : RowI _ g1 n1 f1 := Blk.other (i := 2) (g' := w.heap.size + 1 + 1) R1 (by omega) (.slice (some ⟨g2, 0, none⟩) n2 n2)
  replace R2 : RowI _ g2 n2 f2 := Blk.other (i := 2) (g' := w.heap.size + 1 + 1) R2 (by omega) (.slice (some ⟨g2, 0, none⟩) n2 n2)
  replace hB := hB.setCell (p := ⟨w.heap.size + 1 + 1, 2, none⟩) (by show w.heap.size ≤ w.heap.size + 1 + 1; omega) (.slice (some ⟨g2, 0, none⟩) n2 n2)
  have hS3 : w3.heap.size = (w3.setCell ⟨w.heap.size + 1 + 1, 2, none⟩ (.slice (some ⟨g2, 0, none⟩) n2 n2)).heap.size := by simp [World.setCell]
  clear hb hsz
  clear H0 H1 H2 hx
  go_wp2_with (first | (refine load_blk rfl rfl rfl ho Tryz.underlying146 infoRw ?_) | (refine store_blk (cs' := #[.slice (some ⟨g0, 0, none⟩) n0 n0, .slice (some ⟨g1, 0, none⟩) n1 n1, .slice (some ⟨g2, 0, none⟩) n2 n2]) rfl rfl rfl rfl rfl hr infoRw rfl (ones3R _ _ _ _ _ _ _ _ _) ?_; intro V h5 hoth hbel; have hbV := hbel _ _ (by omega) hB; have T0 := hoth _ _ _ (by omega) R0; have T1 := hoth _ _ _ (by omega) R1; have T2 := hoth _ _ _ (by omega) R2; clear hoth hbel))
  refine bodyPost_ret_by (result_blk rfl rfl h5 Tryz.underlying146 infoRw) rfl ⟨_, _, _, rfl, by omega, by omega, by omega, T2.lt, T0, T1, T2, hbV⟩

theorem infoRwM : (Tryz.prog.info? 146).map (fun i => (i.zero, i.size, i.bytes)) = some (some (.agg #[.slice none 0 0, .slice none 0 0, .slice none 0 0]), 3, 72) := by kernel_rfl

/-- The cells of so many rows of nothing. -/
def nil3 (n : Nat) : Array Value := Array.replicate (n * 3) (.slice none 0 0)

/-- make([]Row, n). -/
theorem make_rows (n : Nat) (h2 : n ≤ 1073741824) (W : World) :
    (Instr.makeSlice 24 (.int .i64 (n : Int)) (.int .i64 (n : Int))).run Tryz.prog W = .ok (.slice (some ⟨W.heap.size, 0, none⟩) n n) (W.alloc (.cells (nil3 n) 146)) := by
  obtain ⟨i0, hi, hz0, hz1, hz2⟩ := info_parts infoRwM
  have hM : madeCells (Value.agg #[.slice none 0 0, .slice none 0 0, .slice none 0 0]).cells ((n : Int).toNat * i0.size) = nil3 n := by
    rw [hz1]
    apply Array.ext_getElem?
    intro k
    unfold nil3
    by_cases hk : k < n * 3
    · have hm : k % 3 = 0 ∨ k % 3 = 1 ∨ k % 3 = 2 := by omega
      rcases hm with h | h | h <;> simp [madeCells, Value.cells, hk, h]
    · rw [Array.getElem?_eq_none (by rw [size_madeCells]; simp; omega), Array.getElem?_eq_none (by simp; omega)]
  have h := run_make (P := Tryz.prog) W 24 146 i0 (.agg #[.slice none 0 0, .slice none 0 0, .slice none 0 0]) Tryz.underlying24 hi hz0 .i64 .i64 (n : Int) (n : Int) (by omega) (by omega) (by rw [hz2]; omega) (by omega)
  rw [hM] at h
  simpa using h

theorem zown_nil (lo hi : Nat) (w : World) : ZOwn lo hi w (.slice none 0 0) [] := ⟨World.ownsRow_nil _ _ _ _, fun k hk => by cases hk⟩

theorem nown_made (w : World) (n : Nat) (hn : n ≤ 1048576) : NOwnV 3 146 w.heap.size (w.heap.size + 1) (w.alloc (.cells (nil3 n) 146)) (.slice (some ⟨w.heap.size, 0, none⟩) n n) n (List.replicate (n * 3) (.slice none 0 0)) (List.replicate (n * 3) []) := by
  have hv : ∀ j, j < n * 3 → (List.replicate (n * 3) (Value.slice none 0 0)).getD j undef = .slice none 0 0 := fun j hj => by simp [hj]
  refine ⟨?_, by simp, fun k hk => ?_, fun j hj => ?_, fun i j k h1 h2 h3 h4 => ?_, fun j k h1 h2 => ?_⟩
  · have h := World.ownsRow_lit (base := w.heap.size) (e := 146) (size := 3) w (nil3 n) n (Nat.le_refl _) (by unfold maxLen; omega) (by simp [nil3])
    simpa [nil3] using h
  · have e1 : some w.heap.size = some k := hk
    injection e1 with e1
    omega
  · rw [hv j hj]
    have : (List.replicate (n * 3) ([] : List Int)).getD j [] = [] := by simp [hj]
    rw [this]
    exact zown_nil _ _ _
  · rw [hv i h1] at h4; cases h4
  · rw [hv j h1] at h2; cases h2

theorem zown_row {w : World} {g lo hi : Nat} {l : List Int} (h : RowI w g l.length (fun j => l.getD j 0)) (hlo : lo ≤ g) (hhi : g < hi) (hn : l.length ≤ 1048576) : ZOwn lo hi w (.slice (some ⟨g, 0, none⟩) l.length l.length) l := by
  refine ⟨?_, fun k hk => ?_⟩
  · have h1 := h.rowZ hlo hn
    rw [zls_getD] at h1
    exact h1
  · have e1 : some g = some k := hk
    injection e1 with e1
    omega

theorem up_set (ls : List (List Int)) (m j : Nat) (hm : ls.length = m) (hj : j < m) : (ls.take j ++ List.replicate (m - j) []).set j (ls.getD j []) = ls.take (j + 1) ++ List.replicate (m - (j + 1)) [] := by
  have hl : (ls.take j).length = j := by rw [List.length_take]; omega
  have e2 : ls.getD j [] = ls[j]'(by omega) := by simp [show j < ls.length by omega]
  rw [List.take_succ_eq_append_getElem (by omega), List.append_assoc, List.set_append_right _ _ (by omega), hl, Nat.sub_self, e2, show m - j = (m - (j + 1)) + 1 by omega, List.replicate_succ]
  rfl

/-- A row is put into a list of rows. -/
theorem NOwnV.put3 {lo hi hi' n g cp e : Nat} {w : World} {vs : List Value} {ls : List (List Int)} {i : Nat} {l0 l1 l2 : List Int} {g0 g1 g2 : Nat} (h : NOwnV 3 e lo hi w (.slice (some ⟨g, 0, none⟩) n cp) n vs ls) (hi3 : i < n) (hlo : lo ≤ hi) (h0 : hi ≤ g0) (h1 : g0 < g1) (h2 : g1 < g2) (h3 : g2 < hi') (b0 : l0.length ≤ 1048576) (b1 : l1.length ≤ 1048576) (b2 : l2.length ≤ 1048576)
    (r0 : RowI w g0 l0.length (fun j => l0.getD j 0)) (r1 : RowI w g1 l1.length (fun j => l1.getD j 0)) (r2 : RowI w g2 l2.length (fun j => l2.getD j 0)) :
    ∃ vs', NOwnV 3 e lo hi' (((w.setCell ⟨g, i * 3, none⟩ (.slice (some ⟨g0, 0, none⟩) l0.length l0.length)).setCell ⟨g, i * 3 + 1, none⟩ (.slice (some ⟨g1, 0, none⟩) l1.length l1.length)).setCell ⟨g, i * 3 + 2, none⟩ (.slice (some ⟨g2, 0, none⟩) l2.length l2.length)) (.slice (some ⟨g, 0, none⟩) n cp) n vs' (((ls.set (i * 3) l0).set (i * 3 + 1) l1).set (i * 3 + 2) l2) := by
  have hg : g < hi := h.top g rfl
  have k0 := h.put (j := i * 3) (by omega) (zown_row r0 h0 (show g0 < g0 + 1 by omega) b0) (by omega) hlo
  have s1 : RowI (w.setCell ⟨g, i * 3, none⟩ (.slice (some ⟨g0, 0, none⟩) l0.length l0.length)) g1 l1.length (fun j => l1.getD j 0) := Blk.other r1 (by omega) _
  have s2 : RowI (w.setCell ⟨g, i * 3, none⟩ (.slice (some ⟨g0, 0, none⟩) l0.length l0.length)) g2 l2.length (fun j => l2.getD j 0) := Blk.other r2 (by omega) _
  have k1 := k0.put (j := i * 3 + 1) (by omega) (zown_row s1 (show g0 + 1 ≤ g1 by omega) (show g1 < g1 + 1 by omega) b1) (by omega) (by omega)
  have t2 : RowI ((w.setCell ⟨g, i * 3, none⟩ (.slice (some ⟨g0, 0, none⟩) l0.length l0.length)).setCell ⟨g, i * 3 + 1, none⟩ (.slice (some ⟨g1, 0, none⟩) l1.length l1.length)) g2 l2.length (fun j => l2.getD j 0) := Blk.other s2 (by omega) _
  exact ⟨_, k1.put (j := i * 3 + 2) (by omega) (zown_row t2 (show g1 + 1 ≤ g2 by omega) h3 b2) (by omega) (by omega)⟩

set_option maxHeartbeats 1600000 in
set_option maxRecDepth 100000 in
theorem toRowS_any (a : Option Addr) (n cap : Nat) (hn : n ≤ 1048576) (ls : List (List Int)) (hz : ∀ j, (ls.getD j []).length ≤ 1048576) (w : World) (hA : NAt 3 w w.heap.size (.slice a n cap) n ls) :
    Calls Tryz.prog 108 #[.slice a n cap] w fun e w' => e = .returned (.slice (some ⟨w.heap.size, 0, none⟩) n n) ∧ (∃ vs, NOwnV 3 146 w.heap.size w'.heap.size w' (.slice (some ⟨w.heap.size, 0, none⟩) n n) n vs ls) ∧ Below w.heap.size w w' := by
  have HA : Hid (NAt 3 w w.heap.size (.slice a n cap) n ls) := hA
  have hlen := hA.1
  have HZ : Hid (∀ j, (ls.getD j []).length ≤ 1048576) := hz
  clear hA hz
  have hmk : ∀ W : World, (Instr.makeSlice 24 (.int .i64 (n : Int)) (.int .i64 (n : Int))).run Tryz.prog W = .ok (.slice (some ⟨W.heap.size, 0, none⟩) n n) (W.alloc (.cells (nil3 n) 146)) := fun W => make_rows n (by omega) W
  have H0 : Hid (NOwnV 3 146 w.heap.size (w.heap.size + 1) (w.alloc (.cells (nil3 n) 146)) (.slice (some ⟨w.heap.size, 0, none⟩) n n) n (List.replicate (n * 3) (.slice none 0 0)) (ls.take (0 * 3) ++ List.replicate (n * 3 - 0 * 3) [])) := by show NOwnV _ _ _ _ _ _ _ _ _; simpa using nown_made w n hn
  generalize nil3 n = M at hmk H0
  go_enter Tryz.func108, Tryz.ntmps108
  go_wp2
  go_loopw [4] (fun i wr => ∃ (k hi : Nat) (vs : List Value), i = .int .i64 (k : Int) ∧ k ≤ n ∧ Hid (w.heap.size < hi ∧ hi ≤ wr.heap.size) ∧ Hid (NOwnV 3 146 w.heap.size hi wr (.slice (some ⟨w.heap.size, 0, none⟩) n n) n vs (ls.take (k * 3) ++ List.replicate (n * 3 - k * 3) [])) ∧ Hid (Below w.heap.size w wr)) (fun i _ => n - (intOf i).toNat)
  case atStart => exact ⟨0, w.heap.size + 1, _, rfl, Nat.zero_le _, ⟨by omega, by simp⟩, H0, (Below.refl _ _).alloc (Nat.le_refl _) _⟩
  case round =>
    obtain ⟨k, hi, vs, rfl, hk, HH, HR, HW⟩ := hrel
    clear hmk H0
    by_cases hlt : k < n
    · have hlt' : (k : Int) < (n : Int) := by omega
      have hk0 : (0 : Int) ≤ (k : Int) := by omega
      obtain ⟨b, off, a0, c0, a1, c1, a2, c2, rfl, hb, z0, z1, z2, i0, i1, i2⟩ := (HA.out.on HW.out).row3 hlt
      have hws : w.heap.size ≤ wr.heap.size := HW.out.size
      have HC : Hid (Calls Tryz.prog 173 #[.agg #[.slice a0 (ls.getD (k * 3) []).length c0, .slice a1 (ls.getD (k * 3 + 1) []).length c1, .slice a2 (ls.getD (k * 3 + 2) []).length c2]] wr fun e w' => ∃ g0 g1 g2, e = .returned (.agg #[.slice (some ⟨g0, 0, none⟩) (ls.getD (k * 3) []).length (ls.getD (k * 3) []).length, .slice (some ⟨g1, 0, none⟩) (ls.getD (k * 3 + 1) []).length (ls.getD (k * 3 + 1) []).length, .slice (some ⟨g2, 0, none⟩) (ls.getD (k * 3 + 2) []).length (ls.getD (k * 3 + 2) []).length]) ∧ wr.heap.size ≤ g0 ∧ g0 < g1 ∧ g1 < g2 ∧ g2 < w'.heap.size ∧ RowI w' g0 (ls.getD (k * 3) []).length (fun j => (ls.getD (k * 3) []).getD j 0) ∧ RowI w' g1 (ls.getD (k * 3 + 1) []).length (fun j => (ls.getD (k * 3 + 1) []).getD j 0) ∧ RowI w' g2 (ls.getD (k * 3 + 2) []).length (fun j => (ls.getD (k * 3 + 2) []).getD j 0) ∧ Below wr.heap.size wr w') := toRow_any a0 _ c0 (HZ.out _) _ a1 _ c1 (HZ.out _) _ a2 _ c2 (HZ.out _) _ wr (i0.wide hws) (i1.wide hws) (i2.wide hws)
      have HS : Hid ((((ls.take (k * 3) ++ List.replicate (n * 3 - k * 3) []).set (k * 3) (ls.getD (k * 3) [])).set (k * 3 + 1) (ls.getD (k * 3 + 1) [])).set (k * 3 + 2) (ls.getD (k * 3 + 2) []) = ls.take ((k + 1) * 3) ++ List.replicate (n * 3 - (k + 1) * 3) []) := by
        show _ = _
        rw [up_set ls (n * 3) (k * 3) hlen (by omega), up_set ls (n * 3) (k * 3 + 1) hlen (by omega), up_set ls (n * 3) (k * 3 + 2) hlen (by omega), show (k + 1) * 3 = k * 3 + 2 + 1 by omega]
      have e0 := HZ.out (k * 3)
      have e1 := HZ.out (k * 3 + 1)
      have e2 := HZ.out (k * 3 + 2)
      generalize ls.take (k * 3) ++ List.replicate (n * 3 - k * 3) [] = cur at HS HR
      generalize ls.getD (k * 3) [] = l0 at HC HS z0 e0
      generalize ls.getD (k * 3 + 1) [] = l1 at HC HS z1 e1
      generalize ls.getD (k * 3 + 2) [] = l2 at HC HS z2 e2
      clear i0 i1 i2 hb HA HZ
      go_wp2_with fail
      refine HC.out.mono ?_
      rintro e w1 ⟨g0, g1, g2, rfl, hg0, hg1, hg2, hg3, r0, r1, r2, hb1⟩
      have hR1 := HR.out.same (Same.of_below hb1 HH.out.2)
      have c0 := hR1.cell (j := k * 3) (by omega)
      have c1 := hR1.cell (j := k * 3 + 1) (by omega)
      have c2 := hR1.cell (j := k * 3 + 2) (by omega)
      have f0 := World.ownsRow.frozenAt hR1.row (k * 3)
      have f1 := World.ownsRow.frozenAt hR1.row (k * 3 + 1)
      have f2 := World.ownsRow.frozenAt hR1.row (k * 3 + 2)
      obtain ⟨vs', hR2⟩ := hR1.put3 (hi' := w1.heap.size) hlt (by have := HH.out; omega) (by have := HH.out; omega) hg1 hg2 hg3 e0 e1 e2 r0 r1 r2
      rw [HS.out] at hR2
      have hB1 : Below w.heap.size w w1 := HW.out.trans (hb1.mono HW.out.size)
      have HW2 : Hid (Below w.heap.size w (((w1.setCell ⟨w.heap.size, k * 3, none⟩ (.slice (some ⟨g0, 0, none⟩) l0.length l0.length)).setCell ⟨w.heap.size, k * 3 + 1, none⟩ (.slice (some ⟨g1, 0, none⟩) l1.length l1.length)).setCell ⟨w.heap.size, k * 3 + 2, none⟩ (.slice (some ⟨g2, 0, none⟩) l2.length l2.length))) := ((hB1.setCell (Nat.le_refl _) _).setCell (Nat.le_refl _) _).setCell (Nat.le_refl _) _
      have HR2 : Hid (NOwnV 3 146 w.heap.size w1.heap.size (((w1.setCell ⟨w.heap.size, k * 3, none⟩ (.slice (some ⟨g0, 0, none⟩) l0.length l0.length)).setCell ⟨w.heap.size, k * 3 + 1, none⟩ (.slice (some ⟨g1, 0, none⟩) l1.length l1.length)).setCell ⟨w.heap.size, k * 3 + 2, none⟩ (.slice (some ⟨g2, 0, none⟩) l2.length l2.length)) (.slice (some ⟨w.heap.size, 0, none⟩) n n) n vs' (ls.take ((k + 1) * 3) ++ List.replicate (n * 3 - (k + 1) * 3) [])) := hR2
      have HH2 : Hid (w.heap.size < w1.heap.size ∧ w1.heap.size ≤ (((w1.setCell ⟨w.heap.size, k * 3, none⟩ (.slice (some ⟨g0, 0, none⟩) l0.length l0.length)).setCell ⟨w.heap.size, k * 3 + 1, none⟩ (.slice (some ⟨g1, 0, none⟩) l1.length l1.length)).setCell ⟨w.heap.size, k * 3 + 2, none⟩ (.slice (some ⟨g2, 0, none⟩) l2.length l2.length)).heap.size) := ⟨by have := HH.out; have := hb1.size; omega, by simp [World.setCell]⟩
      generalize vs.getD (k * 3) undef = o0 at c0
      generalize vs.getD (k * 3 + 1) undef = o1 at c1
      generalize vs.getD (k * 3 + 2) undef = o2 at c2
      clear HR HW HH hR1 hR2 hB1 hb1 z0 z1 z2 HC HS r0 r1 r2
      go_wp2
      go_roundw
      case rel => exact ⟨k + 1, _, vs', by go_num, hlt, HH2, HR2, HW2⟩
      case measure => simp [intOf]; omega
    · have hlt' : ¬ (k : Int) < (n : Int) := by omega
      have HE : Hid (NOwnV 3 146 w.heap.size wr.heap.size wr (.slice (some ⟨w.heap.size, 0, none⟩) n n) n vs ls) := by
        have h := HR.out
        rw [show k = n by omega, Nat.sub_self, ← hlen, List.take_length] at h
        simp only [List.replicate_zero, List.append_nil] at h
        exact h.wide HH.out.2
      go_wp2
      go_ret
      exact ⟨rfl, ⟨vs, HE.out⟩, HW.out⟩

end Go.Proofs.YthnahalboomkoaaGreat

/-
  The walks of the helpers of the exact laws on rows and systems: systems copied, whether two are the same, marks.
  (-DROP-: what the seat lacks is left out.)
-/
namespace Go.Proofs.YthnahalboomkoaaGreat
open Go.RowKit

theorem infoSy : (Tryz.prog.info? 26).map (·.size) = some 3 := by kernel_rfl

theorem infoSl : (Tryz.prog.info? 69).map (·.size) = some 3 := by kernel_rfl

/-- A system is its numbers and its rows. -/
def sysV (wi pu : Int) (v : Value) : Value := .agg #[.int .i64 wi, .int .i64 pu, v]
theorem ZOwn.oth {lo hi g : Nat} {w w' : World} {v : Value} {l : List Int} (h : ZOwn lo hi w v l) (hoth : ∀ g' t cs, g ≠ g' → Blk w g' t cs → Blk w' g' t cs) (hg : g < lo) : ZOwn lo hi w' v l := ⟨owns_other h.1 hoth hg, h.2⟩
theorem NOwnV.oth {sz e lo hi n g : Nat} {w w' : World} {v : Value} {vs : List Value} {ls : List (List Int)} (h : NOwnV sz e lo hi w v n vs ls) (hoth : ∀ g' t cs, g ≠ g' → Blk w g' t cs → Blk w' g' t cs) (hg : g < lo) : NOwnV sz e lo hi w' v n vs ls :=
  ⟨owns_other h.row hoth hg, h.len, h.top, fun j hj => (h.each j hj).oth hoth hg, h.apart, h.off⟩
theorem NOwnV.low {sz e lo lo' hi n : Nat} {w : World} {v : Value} {vs : List Value} {ls : List (List Int)} (h : NOwnV sz e lo hi w v n vs ls) (h2 : lo' ≤ lo) : NOwnV sz e lo' hi w v n vs ls :=
  ⟨owns_low h.row h2, h.len, h.top, fun j hj => (h.each j hj).wide h2 (Nat.le_refl _), h.apart, h.off⟩
theorem onesSy (wi pu : Int) (a : Option Addr) (n c : Nat) : (#[Value.int .i64 wi, .int .i64 pu, .slice a n c]).all (·.oneCell') = true := by simp [Value.oneCell']

set_option maxHeartbeats 800000 in
set_option maxRecDepth 100000 in
theorem eqRow_any (a0 b0 : Option Addr) (n0 c0 d0 : Nat) (h0 : n0 ≤ 1048576) (f0 : Nat → Int) (a1 b1 : Option Addr) (n1 c1 d1 : Nat) (h1 : n1 ≤ 1048576) (f1 : Nat → Int) (a2 b2 : Option Addr) (n2 c2 d2 : Nat) (h2 : n2 ≤ 1048576) (f2 : Nat → Int) (w : World) (A0 : IntsAt w a0 n0 w.heap.size f0) (B0 : IntsAt w b0 n0 w.heap.size f0) (A1 : IntsAt w a1 n1 w.heap.size f1) (B1 : IntsAt w b1 n1 w.heap.size f1) (A2 : IntsAt w a2 n2 w.heap.size f2) (B2 : IntsAt w b2 n2 w.heap.size f2) :
    Calls Tryz.prog 175 #[.agg #[.slice a0 n0 c0, .slice a1 n1 c1, .slice a2 n2 c2], .agg #[.slice b0 n0 d0, .slice b1 n1 d1, .slice b2 n2 d2]] w fun e w' => e = .returned (.bool true) ∧ Below w.heap.size w w' := by
  obtain ⟨W, hW, hB, hx, hy⟩ := boxes1r w 146 146 #[.slice a0 n0 c0, .slice a1 n1 c1, .slice a2 n2 c2] #[.slice b0 n0 d0, .slice b1 n1 d1, .slice b2 n2 d2]
  have H0 : Hid (IntsAt w a0 n0 w.heap.size f0 ∧ IntsAt w b0 n0 w.heap.size f0) := ⟨A0, B0⟩
  have H1 : Hid (IntsAt w a1 n1 w.heap.size f1 ∧ IntsAt w b1 n1 w.heap.size f1) := ⟨A1, B1⟩
  have H2 : Hid (IntsAt w a2 n2 w.heap.size f2 ∧ IntsAt w b2 n2 w.heap.size f2) := ⟨A2, B2⟩
  clear A0 A1 A2 B0 B1 B2
  have q0 := hx.cell 0
  have r0 := hy.cell 0
  go_enter Tryz.func175, Tryz.ntmps175
  go_wp2_with fail
  clear hW
  refine (eqIntS_any a0 b0 n0 c0 d0 h0 f0 _ ((H0.out.1.on hB).wide hB.size) ((H0.out.2.on hB).wide hB.size)).mono ?_
  rintro e w1 ⟨rfl, hb⟩
  clear q0 r0
  replace hx := hx.on hb hx.lt
  replace hy := hy.on hb hy.lt
  replace hB := below_then hB hb
  clear hb
  have q1 := hx.cell 1
  have r1 := hy.cell 1
  go_wp2_with fail
  refine (eqIntS_any a1 b1 n1 c1 d1 h1 f1 _ ((H1.out.1.on hB).wide hB.size) ((H1.out.2.on hB).wide hB.size)).mono ?_
  rintro e w2 ⟨rfl, hb⟩
  clear q1 r1
  replace hx := hx.on hb hx.lt
  replace hy := hy.on hb hy.lt
  replace hB := below_then hB hb
  clear hb
  have q2 := hx.cell 2
  have r2 := hy.cell 2
  go_wp2_with fail
  refine (eqIntS_any a2 b2 n2 c2 d2 h2 f2 _ ((H2.out.1.on hB).wide hB.size) ((H2.out.2.on hB).wide hB.size)).mono ?_
  rintro e w3 ⟨rfl, hb⟩
  clear q2 r2
  replace hx := hx.on hb hx.lt
  replace hy := hy.on hb hy.lt
  replace hB := below_then hB hb
  clear hb
  go_wp2
  go_ret
  exact ⟨rfl, hB⟩

set_option maxHeartbeats 800000 in
set_option maxRecDepth 100000 in
theorem eqRowS_any (a b : Option Addr) (n c1 c2 : Nat) (hn : n ≤ 1048576) (ls : List (List Int)) (hz : ∀ j, (ls.getD j []).length ≤ 1048576) (w : World) (hA : NAt 3 w w.heap.size (.slice a n c1) n ls) (hB : NAt 3 w w.heap.size (.slice b n c2) n ls) :
    Calls Tryz.prog 111 #[.slice a n c1, .slice b n c2] w fun e w' => e = .returned (.bool true) ∧ Below w.heap.size w w' := by
  have HA : Hid (NAt 3 w w.heap.size (.slice a n c1) n ls) := hA
  have HB : Hid (NAt 3 w w.heap.size (.slice b n c2) n ls) := hB
  have HZ : Hid (∀ j, (ls.getD j []).length ≤ 1048576) := hz
  clear hA hB hz
  go_enter Tryz.func111, Tryz.ntmps111
  go_wp2
  go_loopw [5] (fun i wr => ∃ k : Nat, i = .int .i64 (k : Int) ∧ k ≤ n ∧ Hid (Below w.heap.size w wr)) (fun i _ => n - (intOf i).toNat)
  case atStart => exact ⟨0, rfl, Nat.zero_le _, Below.refl _ _⟩
  case round =>
    obtain ⟨k, rfl, hk, HW⟩ := hrel
    by_cases hlt : k < n
    · have hlt' : (k : Int) < (n : Int) := by omega
      have hk0 : (0 : Int) ≤ (k : Int) := by omega
      have hws : w.heap.size ≤ wr.heap.size := HW.out.size
      obtain ⟨b, off, a0, c0, a1, c1, a2, c2, rfl, hb, z0, z1, z2, i0, i1, i2⟩ := (HA.out.on HW.out).row3 hlt
      obtain ⟨b', off', b0, d0, b1, d1, b2, d2, rfl, hb', y0, y1, y2, j0, j1, j2⟩ := (HB.out.on HW.out).row3 hlt
      have HT : Hid (∀ w', Below wr.heap.size wr w' → Calls Tryz.prog 175 #[.agg #[.slice a0 (ls.getD (k * 3) []).length c0, .slice a1 (ls.getD (k * 3 + 1) []).length c1, .slice a2 (ls.getD (k * 3 + 2) []).length c2], .agg #[.slice b0 (ls.getD (k * 3) []).length d0, .slice b1 (ls.getD (k * 3 + 1) []).length d1, .slice b2 (ls.getD (k * 3 + 2) []).length d2]] w' fun e w'' => e = .returned (.bool true) ∧ Below w'.heap.size w' w'') := fun w' hw =>
        eqRow_any a0 b0 _ c0 d0 (HZ.out _) _ a1 b1 _ c1 d1 (HZ.out _) _ a2 b2 _ c2 d2 (HZ.out _) _ w' (((i0.wide hws).on hw).wide hw.size) (((j0.wide hws).on hw).wide hw.size) (((i1.wide hws).on hw).wide hw.size) (((j1.wide hws).on hw).wide hw.size) (((i2.wide hws).on hw).wide hw.size) (((j2.wide hws).on hw).wide hw.size)
      generalize (ls.getD (k * 3) []).length = m0 at HT z0 y0
      generalize (ls.getD (k * 3 + 1) []).length = m1 at HT z1 y1
      generalize (ls.getD (k * 3 + 2) []).length = m2 at HT z2 y2
      have Z0 : ∀ w', Below wr.heap.size wr w' → w'.cell? ⟨b, off + k * 3, none⟩ = some (.slice a0 m0 c0) := fun w' hw => (hw.cell (p := ⟨b, off + k * 3, none⟩) (by show b < _; omega)).trans z0
      have Z1 : ∀ w', Below wr.heap.size wr w' → w'.cell? ⟨b, off + k * 3 + 1, none⟩ = some (.slice a1 m1 c1) := fun w' hw => (hw.cell (p := ⟨b, off + k * 3 + 1, none⟩) (by show b < _; omega)).trans z1
      have Z2 : ∀ w', Below wr.heap.size wr w' → w'.cell? ⟨b, off + k * 3 + 2, none⟩ = some (.slice a2 m2 c2) := fun w' hw => (hw.cell (p := ⟨b, off + k * 3 + 2, none⟩) (by show b < _; omega)).trans z2
      have Y0 : ∀ w', Below wr.heap.size wr w' → w'.cell? ⟨b', off' + k * 3, none⟩ = some (.slice b0 m0 d0) := fun w' hw => (hw.cell (p := ⟨b', off' + k * 3, none⟩) (by show b' < _; omega)).trans y0
      have Y1 : ∀ w', Below wr.heap.size wr w' → w'.cell? ⟨b', off' + k * 3 + 1, none⟩ = some (.slice b1 m1 d1) := fun w' hw => (hw.cell (p := ⟨b', off' + k * 3 + 1, none⟩) (by show b' < _; omega)).trans y1
      have Y2 : ∀ w', Below wr.heap.size wr w' → w'.cell? ⟨b', off' + k * 3 + 2, none⟩ = some (.slice b2 m2 d2) := fun w' hw => (hw.cell (p := ⟨b', off' + k * 3 + 2, none⟩) (by show b' < _; omega)).trans y2
      clear HA HB hb hb' z0 z1 z2 y0 y1 y2 i0 i1 i2 j0 j1 j2 HZ
      go_wp2
      refine wp_region_class 9 (fun wz => Below wr.heap.size wr wz) mixes (by kernel_rfl) (Below.refl _ _).drew ?_
      simp only [List.take_succ_cons, List.take_zero, List.drop_succ_cons, List.drop_zero]
      repeat (refine cls_step rfl (fun K hK => ⟨_, (fun w' hw => by have z0 := Z0 w' hw; have z1 := Z1 w' hw; have z2 := Z2 w' hw; have z3 := Y0 w' hw; have z4 := Y1 w' hw; have z5 := Y2 w' hw; go_simp; exact rfl), ?_⟩); go_simp; refine hK _ ?_; clear hK K)
      refine cls_call rfl (fun K hK => ⟨_, _, _, (fun w' => by go_simp <;> first | exact rfl | exact ⟨rfl, rfl⟩), (fun w' hw => calls_below hw (HT.out _ hw)), ?_⟩); go_simp; refine hK _ ?_; clear hK K
      refine wq_nil ?_
      intro w' hw
      have HW2 : Hid (Below w.heap.size w w') := HW.out.trans (hw.mono hws)
      clear hw HW
      go_wp2
      go_roundw
      case rel => exact ⟨k + 1, by go_num, hlt, HW2⟩
      case measure => simp [intOf]; omega
    · have hlt' : ¬ (k : Int) < (n : Int) := by omega
      go_wp2
      go_ret
      exact ⟨rfl, HW.out⟩

set_option maxHeartbeats 800000 in
set_option maxRecDepth 100000 in
theorem eqSystem_any (wi pu : Int) (a b : Option Addr) (n c1 c2 : Nat) (hn : n ≤ 1048576) (ls : List (List Int)) (hz : ∀ j, (ls.getD j []).length ≤ 1048576) (w : World) (hA : NAt 3 w w.heap.size (.slice a n c1) n ls) (hB : NAt 3 w w.heap.size (.slice b n c2) n ls) :
    Calls Tryz.prog 38 #[sysV wi pu (.slice a n c1), sysV wi pu (.slice b n c2)] w fun e w' => e = .returned (.bool true) ∧ Below w.heap.size w w' := by
  obtain ⟨W, hW, hb, hx, hy⟩ := boxes1r w 26 26 #[.int .i64 wi, .int .i64 pu, .slice a n c1] #[.int .i64 wi, .int .i64 pu, .slice b n c2]
  have HA : Hid (NAt 3 W W.heap.size (.slice a n c1) n ls) := (hA.on hb).wide hb.size
  have HB : Hid (NAt 3 W W.heap.size (.slice b n c2) n ls) := (hB.on hb).wide hb.size
  have q0 := hx.cell 0
  have q1 := hx.cell 1
  have q2 := hx.cell 2
  have r0 := hy.cell 0
  have r1 := hy.cell 1
  have r2 := hy.cell 2
  clear hA hB
  unfold sysV
  go_enter Tryz.func38, Tryz.ntmps38
  go_wp2_with fail
  clear hW
  refine (eqRowS_any a b n c1 c2 hn ls hz _ HA.out HB.out).mono ?_
  rintro e w1 ⟨rfl, hb1⟩
  have hB1 := below_then hb hb1
  clear hb hb1 hx hy q0 q1 q2 r0 r1 r2 HA HB
  go_wp2
  go_ret
  exact ⟨rfl, hB1⟩

set_option maxHeartbeats 800000 in
set_option maxRecDepth 100000 in
theorem toSystem_any (wi pu : Int) (a : Option Addr) (n c : Nat) (hn : n ≤ 1048576) (ls : List (List Int)) (hz : ∀ j, (ls.getD j []).length ≤ 1048576) (w : World) (hA : NAt 3 w w.heap.size (.slice a n c) n ls) :
    Calls Tryz.prog 35 #[sysV wi pu (.slice a n c)] w fun e w' => ∃ g vs, e = .returned (sysV wi pu (.slice (some ⟨g, 0, none⟩) n n)) ∧ NOwnV 3 146 w.heap.size w'.heap.size w' (.slice (some ⟨g, 0, none⟩) n n) n vs ls ∧ Below w.heap.size w w' := by
  obtain ⟨W, hW, hb, hx, hr, ho⟩ := boxes2r w 69 26 26 #[.int .i64 wi, .int .i64 pu, .slice a n c] #[.int .i64 0, .int .i64 0, .slice none 0 0] #[.int .i64 0, .int .i64 0, .slice none 0 0]
  have HA : Hid (NAt 3 w w.heap.size (.slice a n c) n ls) := hA
  have hWs : w.heap.size + 3 ≤ W.heap.size := by rw [← hW]; simp
  have x0 := hx.cell 0
  have x1 := hx.cell 1
  have x2 := hx.cell 2
  have p0 := ho.cell 0
  have p1 := ho.cell 1
  have s0 := ho.free 0
  have s1 := ho.free 1
  clear hA
  have ho1 := (ho.set 0 (.int .i64 wi)).set 1 (.int .i64 pu)
  have hr1 := (hr.other (i := 0) (g' := w.heap.size + 1 + 1) (by omega) (.int .i64 wi)).other (i := 1) (g' := w.heap.size + 1 + 1) (by omega) (.int .i64 pu)
  have hB1 := (hb.setCell (p := ⟨w.heap.size + 1 + 1, 0, none⟩) (by show w.heap.size ≤ w.heap.size + 1 + 1; omega) (.int .i64 wi)).setCell (p := ⟨w.heap.size + 1 + 1, 1, none⟩) (by show w.heap.size ≤ w.heap.size + 1 + 1; omega) (.int .i64 pu)
  unfold sysV
  go_enter Tryz.func35, Tryz.ntmps35
  go_wp2_with fail
  clear hW x0 x1 x2 p0 p1 s0 s1 hx hr ho hb
  have hVs : w.heap.size + 3 ≤ ((W.setCell ⟨w.heap.size + 1 + 1, 0, none⟩ (.int .i64 wi)).setCell ⟨w.heap.size + 1 + 1, 1, none⟩ (.int .i64 pu)).heap.size := by simp [World.setCell]; exact hWs
  clear hWs
  generalize (W.setCell ⟨w.heap.size + 1 + 1, 0, none⟩ (.int .i64 wi)).setCell ⟨w.heap.size + 1 + 1, 1, none⟩ (.int .i64 pu) = V at ho1 hr1 hB1 hVs ⊢
  refine (toRowS_any a n c hn ls hz _ ((HA.out.on hB1).wide hB1.size)).mono ?_
  rintro e w1 ⟨rfl, ⟨vs, hO⟩, hb1⟩
  have ho2 := ho1.on hb1 ho1.lt
  have hr2 := hr1.on hb1 hr1.lt
  have hB2 := below_then hB1 hb1
  have p2 := ho2.cell 2
  have s2 := ho2.free 2
  obtain ⟨g, hg⟩ : ∃ g, g = V.heap.size := ⟨_, rfl⟩
  rw [← hg] at hO hVs ⊢
  clear hg hb1
  have ho3 := ho2.set 2 (.slice (some ⟨g, 0, none⟩) n n)
  have hr3 := hr2.other (i := 2) (g' := w.heap.size + 1 + 1) (by omega) (.slice (some ⟨g, 0, none⟩) n n)
  have hO3 := hO.same (Same.set w1 ⟨w.heap.size + 1 + 1, 2, none⟩ (.slice (some ⟨g, 0, none⟩) n n) (.inl (by show w.heap.size + 1 + 1 < g; omega)))
  have hB3 := hB2.setCell (p := ⟨w.heap.size + 1 + 1, 2, none⟩) (by show w.heap.size ≤ w.heap.size + 1 + 1; omega) (.slice (some ⟨g, 0, none⟩) n n)
  have hS3 : w1.heap.size ≤ (w1.setCell ⟨w.heap.size + 1 + 1, 2, none⟩ (.slice (some ⟨g, 0, none⟩) n n)).heap.size := by simp [World.setCell]
  clear ho1 hr1 hB1 ho2 hr2 hB2 hO HA
  go_wp2_with (first | (refine load_blk rfl rfl rfl ho3 Tryz.underlying26 infoSy ?_) | (refine store_blk (cs' := #[.int .i64 wi, .int .i64 pu, .slice (some ⟨g, 0, none⟩) n n]) rfl rfl rfl rfl rfl hr3 infoSy rfl (onesSy _ _ _ _ _) ?_; intro V2 h5 hoth hbel; have hbV := hbel _ _ (by omega) hB3; have hbV2 := hbel 0 _ (by omega) (Below.refl 0 _); have hOV := hO3.oth hoth (by omega); clear hoth hbel))
  refine bodyPost_ret_by (result_blk rfl rfl h5 Tryz.underlying26 infoSy) rfl ⟨g, vs, rfl, (hOV.wide (Nat.le_trans hS3 hbV2.size)).low (by omega), hbV⟩

set_option maxHeartbeats 800000 in
set_option maxRecDepth 100000 in
theorem szSystem_any (wi pu : Int) (a : Option Addr) (n c : Nat) (hn : n ≤ 9223372036854775807) (ls : List (List Int)) (hz : ∀ j, (ls.getD j []).length ≤ 9223372036854775807) (w : World) (hA : NAt 3 w w.heap.size (.slice a n c) n ls) :
    Calls Tryz.prog 34 #[sysV wi pu (.slice a n c), .int .i64 1048576] w fun e w' => e = .returned (.int .i64 (szF 1048576 (n + tot ls))) ∧ Below w.heap.size w w' := by
  obtain ⟨W, hW, hb, hx⟩ := box1 w 69 #[.int .i64 wi, .int .i64 pu, .slice a n c]
  have HA : Hid (NAt 3 W W.heap.size (.slice a n c) n ls) := (hA.on hb).wide hb.size
  have q0 := hx.cell 2
  clear hA
  have HC : Hid (Calls Tryz.prog 107 #[.slice a n c, .int .i64 1048576] W fun e w' => e = .returned (.int .i64 (szF 1048576 (n + tot ls))) ∧ Below W.heap.size W w') := szRowS_any a n c hn ls hz W HA.out
  have hs : szF 1048576 (n + tot ls) = -1 ∨ ¬ szF 1048576 (n + tot ls) < 0 := by unfold szF; by_cases h : n + tot ls ≤ 1048576 <;> simp [h] <;> omega
  generalize szF 1048576 (n + tot ls) = r at hs HC ⊢
  unfold sysV
  rcases hs with rfl | hs
  · go_enter Tryz.func34, Tryz.ntmps34
    go_wp2_with fail
    clear hW
    refine HC.out.mono ?_
    rintro e w1 ⟨rfl, hb1⟩
    have hB1 := below_then hb hb1
    clear hb hb1 hx q0 HA HC
    go_wp2
    go_ret
    exact ⟨rfl, hB1⟩
  · go_enter Tryz.func34, Tryz.ntmps34
    go_wp2_with fail
    clear hW
    refine HC.out.mono ?_
    rintro e w1 ⟨rfl, hb1⟩
    have hB1 := below_then hb hb1
    clear hb hb1 hx q0 HA HC
    go_wp2
    go_ret
    exact ⟨rfl, hB1⟩

end Go.Proofs.YthnahalboomkoaaGreat

/-
  The walks of the program's scalars.
  (-DROP-: what the seat lacks is left out.)
-/
namespace Go.Proofs.YthnahalboomkoaaGreat
open Go.RowKit

set_option maxHeartbeats 400000 in
set_option maxRecDepth 100000 in
theorem iScOf_any (n : Int) (w : World) :
    Calls Tryz.prog 128 #[.int .i64 n] w fun e w' => e = .returned (.int .i64 (sca n)) ∧ w = w' := by
  have hb := tmod_bounds_sca n
  by_cases h : Int.tmod n 1009 < 0
  · have he := tmod_neg_sca h
    go_enter Tryz.func128, Tryz.ntmps128
    go_wp2
    go_ret
    exact ⟨rfl, rfl⟩
  · have he := tmod_nonneg_sca h
    go_enter Tryz.func128, Tryz.ntmps128
    go_wp2
    go_ret
    exact ⟨rfl, rfl⟩

set_option maxHeartbeats 400000 in
set_option maxRecDepth 100000 in
theorem iScAdd_any (a b : Int) (w : World) :
    Calls Tryz.prog 94 #[.int .i64 a, .int .i64 b] w fun e w' => e = .returned (.int .i64 (scAdd a b)) ∧ w = w' := by
  have ha0 := sca_nonneg a
  have ha1 := sca_lt a
  have hb0 := sca_nonneg b
  have hb1 := sca_lt b
  have HE : Hid (scAdd a b = sca (sca a + sca b)) := rfl
  go_enter Tryz.func94, Tryz.ntmps94
  go_wp2_with (go_at_call 128; refine (iScOf_any _ _).mono ?_; rintro e w1 ⟨rfl, rfl⟩)
  go_ret
  exact ⟨by rw [HE.out]; rfl, rfl⟩

set_option maxHeartbeats 400000 in
set_option maxRecDepth 100000 in
theorem iScMul_any (a b : Int) (w : World) :
    Calls Tryz.prog 56 #[.int .i64 a, .int .i64 b] w fun e w' => e = .returned (.int .i64 (scMul a b)) ∧ w = w' := by
  have hp := sca_prod a b
  have HE : Hid (scMul a b = sca (sca a * sca b)) := rfl
  go_enter Tryz.func56, Tryz.ntmps56
  go_wp2_with (go_at_call 128; refine (iScOf_any _ _).mono ?_; rintro e w1 ⟨rfl, rfl⟩)
  go_ret
  exact ⟨by rw [HE.out]; rfl, rfl⟩

set_option maxHeartbeats 400000 in
set_option maxRecDepth 100000 in
theorem iScNeg_any (a : Int) (w : World) :
    Calls Tryz.prog 204 #[.int .i64 a] w fun e w' => e = .returned (.int .i64 (scNeg a)) ∧ w = w' := by
  have ha0 := sca_nonneg a
  have ha1 := sca_lt a
  have HE : Hid (scNeg a = sca (-sca a)) := rfl
  go_enter Tryz.func204, Tryz.ntmps204
  go_wp2_with (go_at_call 128; refine (iScOf_any _ _).mono ?_; rintro e w1 ⟨rfl, rfl⟩)
  go_ret
  exact ⟨by rw [HE.out]; rfl, rfl⟩

set_option maxHeartbeats 800000 in
set_option maxRecDepth 100000 in
theorem len64_any (w : World) :
    Calls Tryz.prog 196 #[.int .u64 1007] w fun e w' => e = .returned (.int .i64 10) ∧ w = w' := by
  go_enter Tryz.func196, Tryz.ntmps196
  go_wp2
  go_ret
  exact ⟨by kernel_rfl, rfl⟩

set_option maxHeartbeats 800000 in
set_option maxRecDepth 100000 in
theorem len_any (w : World) :
    Calls Tryz.prog 159 #[.int .u64 1007] w fun e w' => e = .returned (.int .i64 10) ∧ w = w' := by
  go_enter Tryz.func159, Tryz.ntmps159
  go_wp2_with (go_at_call 196; refine (len64_any _).mono ?_; rintro e w1 ⟨rfl, rfl⟩)
  go_ret
  exact ⟨rfl, rfl⟩

set_option maxHeartbeats 800000 in
set_option maxRecDepth 100000 in
theorem iScInv_any (a : Int) (w : World) :
    Calls Tryz.prog 96 #[.int .i64 a] w fun e w' => e = .returned (.int .i64 (scInv a)) ∧ w = w' := by
  obtain ⟨R, hR⟩ : ∃ R, R = scn a ^ eS % 1009 := ⟨_, rfl⟩
  have HV : Hid (scInv a = (R : Int)) := by rw [hR]; rfl
  have HR : Hid (R = scn a ^ eS % 1009) := hR
  clear hR
  go_enter Tryz.func96, Tryz.ntmps96
  go_wp2_with (go_at_call 159; refine (len_any _).mono ?_; rintro e w1 ⟨rfl, rfl⟩)
  go_loopw [3, 4, 8] (fun x b i wr => ∃ (k r : Nat) (s : Int), i = .int .i64 (k : Int) ∧ k ≤ 10 ∧ x = .int .i64 (r : Int) ∧ b = .int .i64 s ∧ r < 1009 ∧ Hid (r * scn s ^ (eS / 2 ^ k) % 1009 = R) ∧ w = wr) (fun _ _ i _ => 10 - (intOf i).toNat)
  case atStart => exact ⟨0, 1, a, rfl, by omega, rfl, rfl, by omega, (show 1 * scn a ^ (eS / 2 ^ 0) % 1009 = R by rw [Nat.one_mul, Nat.pow_zero, Nat.div_one, HR.out]), rfl⟩
  case round =>
    obtain ⟨k, r, s, rfl, hk, rfl, rfl, hr, HP, rfl⟩ := hrel
    by_cases h0 : k < 10
    · have h0' : (k : Int) < 10 := by omega
      have HS2 : Hid (scn s * scn s % 1009 < 1009) := Nat.mod_lt _ (by decide)
      have HR2 : Hid (r * scn s % 1009 < 1009) := Nat.mod_lt _ (by decide)
      have HC : Hid (∀ w, Calls Tryz.prog 56 #[.int .i64 (r : Int), .int .i64 s] w fun e w' => e = .returned (.int .i64 ((r * scn s % 1009 : Nat) : Int)) ∧ w = w') := fun w => by
        have h := iScMul_any r s w
        rw [scMul_nat, scn_small hr] at h
        exact h
      have HD : Hid (∀ w, Calls Tryz.prog 56 #[.int .i64 s, .int .i64 s] w fun e w' => e = .returned (.int .i64 ((scn s * scn s % 1009 : Nat) : Int)) ∧ w = w') := fun w => by
        have h := iScMul_any s s w
        rw [scMul_nat] at h
        exact h
      have HE : Hid (eS / 2 ^ (k + 1) = eS / 2 ^ k / 2) := by show _ = _; rw [Nat.pow_succ, Nat.div_div_eq_div_mul]
      obtain ⟨m, hm⟩ : ∃ m, m = eS / 2 ^ k := ⟨_, rfl⟩
      have HM : Hid (m = eS / 2 ^ k) := hm
      have hml : m ≤ 1007 := by rw [hm]; exact Nat.div_le_self _ _
      rw [← hm] at HP HE
      clear hm
      have hshr : (1007 : Int) / 2 ^ k = (m : Int) := by
        rw [HM.out, Int.natCast_ediv, Int.natCast_pow]; rfl
      by_cases h2 : m % 2 = 1
      · have h2' : Int.tmod (m : Int) 2 = 1 := by rw [Int.tmod_eq_emod_of_nonneg (by omega)]; omega
        have HN : Hid (r * scn s % 1009 * (scn s * scn s % 1009) ^ (m / 2) % 1009 = R) := (sca_odd r (scn s) m h2).trans HP.out
        rw [← HE.out] at HN
        generalize r * scn s % 1009 = r2 at HN HC HR2
        generalize hS2 : scn s * scn s % 1009 = s2 at HN HD HS2
        have HN2 : Hid (r2 * scn (s2 : Int) ^ (eS / 2 ^ (k + 1)) % 1009 = R) := by rw [scn_small HS2.out]; exact HN
        clear h2 HP HN hS2 HE HM
        go_wp2_with fail
        refine (HC.out _).mono ?_
        rintro e w1 ⟨rfl, rfl⟩
        go_wp2_with fail
        refine (HD.out _).mono ?_
        rintro e w1 ⟨rfl, rfl⟩
        go_wp2
        go_roundw
        case rel => exact ⟨k + 1, r2, s2, by go_num, by omega, rfl, rfl, HR2.out, HN2, by trivial⟩
        case measure => simp [intOf]; omega
      · have h2' : Int.tmod (m : Int) 2 = 0 := by rw [Int.tmod_eq_emod_of_nonneg (by omega)]; omega
        have HN : Hid (r * (scn s * scn s % 1009) ^ (m / 2) % 1009 = R) := (sca_even r (scn s) m (by omega)).trans HP.out
        rw [← HE.out] at HN
        generalize hS2 : scn s * scn s % 1009 = s2 at HN HD HS2
        have HN2 : Hid (r * scn (s2 : Int) ^ (eS / 2 ^ (k + 1)) % 1009 = R) := by rw [scn_small HS2.out]; exact HN
        clear h2 HP HN hS2 HE HM HC HR2
        go_wp2_with fail
        refine (HD.out _).mono ?_
        rintro e w1 ⟨rfl, rfl⟩
        go_wp2
        go_roundw
        case rel => exact ⟨k + 1, r, s2, by go_num, by omega, rfl, rfl, hr, HN2, by trivial⟩
        case measure => simp [intOf]; omega
    · have h0' : ¬ (k : Int) < 10 := by omega
      obtain rfl : k = 10 := by omega
      have HF : Hid (R = r) := by
        have h := HP.out
        rw [show eS / 2 ^ 10 = 0 from rfl, Nat.pow_zero, Nat.mul_one, Nat.mod_eq_of_lt hr] at h
        exact h.symm
      clear HP
      go_wp2
      go_ret
      exact ⟨by rw [HV.out, HF.out]; rfl, rfl⟩

end Go.Proofs.YthnahalboomkoaaGreat

/-
  The walks of the specification's scalars.
  (-DROP-: what the seat lacks is left out.)
-/
namespace Go.Proofs.YthnahalboomkoaaGreat
open Go.RowKit

set_option maxHeartbeats 400000 in
set_option maxRecDepth 100000 in
theorem sScOf_any (n : Int) (w : World) :
    Calls Tryz.prog 67 #[.int .i64 n] w fun e w' => e = .returned (.int .i64 (sca n)) ∧ w = w' := by
  have hb := tmod_bounds_sca n
  by_cases h : Int.tmod n 1009 < 0
  · have he := tmod_neg_sca h
    go_enter Tryz.func67, Tryz.ntmps67
    go_wp2
    go_ret
    exact ⟨rfl, rfl⟩
  · have he := tmod_nonneg_sca h
    go_enter Tryz.func67, Tryz.ntmps67
    go_wp2
    go_ret
    exact ⟨rfl, rfl⟩

set_option maxHeartbeats 400000 in
set_option maxRecDepth 100000 in
theorem sScAdd_any (a b : Int) (w : World) :
    Calls Tryz.prog 18 #[.int .i64 a, .int .i64 b] w fun e w' => e = .returned (.int .i64 (scAdd a b)) ∧ w = w' := by
  have ha0 := sca_nonneg a
  have ha1 := sca_lt a
  have hb0 := sca_nonneg b
  have hb1 := sca_lt b
  have HE : Hid (scAdd a b = sca (sca a + sca b)) := rfl
  go_enter Tryz.func18, Tryz.ntmps18
  go_wp2_with (go_at_call 67; refine (sScOf_any _ _).mono ?_; rintro e w1 ⟨rfl, rfl⟩)
  go_ret
  exact ⟨by rw [HE.out]; rfl, rfl⟩

set_option maxHeartbeats 400000 in
set_option maxRecDepth 100000 in
theorem sScMul_any (a b : Int) (w : World) :
    Calls Tryz.prog 81 #[.int .i64 a, .int .i64 b] w fun e w' => e = .returned (.int .i64 (scMul a b)) ∧ w = w' := by
  have hp := sca_prod a b
  have HE : Hid (scMul a b = sca (sca a * sca b)) := rfl
  go_enter Tryz.func81, Tryz.ntmps81
  go_wp2_with (go_at_call 67; refine (sScOf_any _ _).mono ?_; rintro e w1 ⟨rfl, rfl⟩)
  go_ret
  exact ⟨by rw [HE.out]; rfl, rfl⟩

set_option maxHeartbeats 400000 in
set_option maxRecDepth 100000 in
theorem sScNeg_any (a : Int) (w : World) :
    Calls Tryz.prog 91 #[.int .i64 a] w fun e w' => e = .returned (.int .i64 (scNeg a)) ∧ w = w' := by
  have ha0 := sca_nonneg a
  have ha1 := sca_lt a
  have HE : Hid (scNeg a = sca (-sca a)) := rfl
  go_enter Tryz.func91, Tryz.ntmps91
  go_wp2_with (go_at_call 67; refine (sScOf_any _ _).mono ?_; rintro e w1 ⟨rfl, rfl⟩)
  go_ret
  exact ⟨by rw [HE.out]; rfl, rfl⟩

set_option maxHeartbeats 800000 in
set_option maxRecDepth 100000 in
theorem sScInv_any (a : Int) (w : World) :
    Calls Tryz.prog 82 #[.int .i64 a] w fun e w' => e = .returned (.int .i64 (scInv a)) ∧ w = w' := by
  obtain ⟨A, hA⟩ : ∃ A, A = scn a := ⟨_, rfl⟩
  have HA : Hid (A < 1009) := by rw [hA]; exact scn_lt a
  have HFA : Hid (sca a = (A : Int)) := by rw [hA]; exact (scn_cast a).symm
  obtain ⟨R, hR⟩ : ∃ R, R = A ^ eS % 1009 := ⟨_, rfl⟩
  have HV : Hid (scInv a = (R : Int)) := by rw [hR, hA]; rfl
  have HR : Hid (R = A ^ eS % 1009) := hR
  clear hA hR
  go_enter Tryz.func82, Tryz.ntmps82
  go_wp2_with (go_at_call 67; refine (sScOf_any _ _).mono ?_; rintro e w1 ⟨rfl, rfl⟩)
  rw [HFA.out]
  go_loopw [3, 4, 5] (fun x b m wr => ∃ k r s : Nat, m = .int .i64 (k : Int) ∧ k ≤ 1007 ∧ x = .int .i64 (r : Int) ∧ b = .int .i64 (s : Int) ∧ r < 1009 ∧ s < 1009 ∧ Hid (r * s ^ k % 1009 = R) ∧ w = wr) (fun _ _ m _ => (intOf m).toNat)
  case atStart => exact ⟨eS, 1, A, rfl, Nat.le_refl _, rfl, rfl, by omega, HA.out, (show 1 * A ^ eS % 1009 = R by rw [Nat.one_mul, HR.out]), rfl⟩
  case round =>
    obtain ⟨k, r, s, rfl, hk, rfl, rfl, hr, hs, HP, rfl⟩ := hrel
    by_cases h0 : 0 < k
    · have h0' : (0 : Int) < (k : Int) := by omega
      have hq : Int.tdiv (k : Int) 2 = ((k / 2 : Nat) : Int) := by rw [Int.tdiv_eq_ediv_of_nonneg (by omega)]; omega
      have hqb : k / 2 < k := by omega
      have HS2 : Hid (s * s % 1009 < 1009) := Nat.mod_lt _ (by decide)
      have HR2 : Hid (r * s % 1009 < 1009) := Nat.mod_lt _ (by decide)
      have HC : Hid (∀ w, Calls Tryz.prog 81 #[.int .i64 (r : Int), .int .i64 (s : Int)] w fun e w' => e = .returned (.int .i64 ((r * s % 1009 : Nat) : Int)) ∧ w = w') := fun w => by
        have h := sScMul_any r s w
        rw [scMul_nat, scn_small hr, scn_small hs] at h
        exact h
      have HD : Hid (∀ w, Calls Tryz.prog 81 #[.int .i64 (s : Int), .int .i64 (s : Int)] w fun e w' => e = .returned (.int .i64 ((s * s % 1009 : Nat) : Int)) ∧ w = w') := fun w => by
        have h := sScMul_any s s w
        rw [scMul_nat, scn_small hs] at h
        exact h
      by_cases h2 : k % 2 = 1
      · have h2' : Int.tmod (k : Int) 2 = 1 := by rw [Int.tmod_eq_emod_of_nonneg (by omega)]; omega
        have HN : Hid (r * s % 1009 * (s * s % 1009) ^ (k / 2) % 1009 = R) := (sca_odd r s k h2).trans HP.out
        generalize r * s % 1009 = r2 at HN HC HR2
        generalize s * s % 1009 = s2 at HN HD HS2
        generalize k / 2 = k2 at HN hq hqb
        clear h2 HP
        go_wp2_with fail
        refine (HC.out _).mono ?_
        rintro e w1 ⟨rfl, rfl⟩
        go_wp2_with fail
        refine (HD.out _).mono ?_
        rintro e w1 ⟨rfl, rfl⟩
        go_wp2
        go_roundw
        case rel => exact ⟨k2, r2, s2, by go_num, by omega, rfl, rfl, HR2.out, HS2.out, HN, by trivial⟩
        case measure => simp [intOf]; omega
      · have h2' : Int.tmod (k : Int) 2 = 0 := by rw [Int.tmod_eq_emod_of_nonneg (by omega)]; omega
        have HN : Hid (r * (s * s % 1009) ^ (k / 2) % 1009 = R) := (sca_even r s k (by omega)).trans HP.out
        generalize s * s % 1009 = s2 at HN HD HS2
        generalize k / 2 = k2 at HN hq hqb
        clear h2 HP HC HR2
        go_wp2_with fail
        refine (HD.out _).mono ?_
        rintro e w1 ⟨rfl, rfl⟩
        go_wp2
        go_roundw
        case rel => exact ⟨k2, r, s2, by go_num, by omega, rfl, rfl, hr, HS2.out, HN, by trivial⟩
        case measure => simp [intOf]; omega
    · have h0' : ¬ (0 : Int) < (k : Int) := by omega
      obtain rfl : k = 0 := by omega
      have HF : Hid (R = r) := by
        have h := HP.out
        rw [Nat.pow_zero, Nat.mul_one, Nat.mod_eq_of_lt hr] at h
        exact h.symm
      clear HP
      go_wp2
      go_ret
      exact ⟨by rw [HV.out, HF.out]; rfl, rfl⟩

end Go.Proofs.YthnahalboomkoaaGreat

/-
  The walks of ScDot, the program's and the specification's.
  (-DROP-: what the seat lacks is left out.)
-/
namespace Go.Proofs.YthnahalboomkoaaGreat
open Go.RowKit

set_option maxHeartbeats 800000 in
set_option maxRecDepth 100000 in
theorem iDot_any (a1 a2 : Option Addr) (n1 c1 n2 c2 : Nat) (hm1 : n1 ≤ 9223372036854775807) (f g : Nat → Int) (w : World)
    (hA : IntsAt w a1 n1 w.heap.size f) (hB : IntsAt w a2 n2 w.heap.size g) :
    Calls Tryz.prog 95 #[.slice a1 n1 c1, .slice a2 n2 c2] w fun e w' => e = .returned (.int .i64 (dotN f g (min n1 n2))) ∧ Below w.heap.size w w' := by
  have HA : Hid (IntsAt w a1 n1 w.heap.size f) := hA
  have HB : Hid (IntsAt w a2 n2 w.heap.size g) := hB
  clear hA hB
  obtain ⟨n, hn⟩ : ∃ n, n = min n1 n2 := ⟨_, rfl⟩
  have hmin : min (n1 : Int) (n2 : Int) = (n : Int) := by omega
  have hn1 : n ≤ n1 := by omega
  have hn2 : n ≤ n2 := by omega
  rw [← hn]
  clear hn
  go_enter Tryz.func95, Tryz.ntmps95
  go_wp2
  go_loopw [5, 12] (fun x i wr => ∃ k : Nat, i = .int .i64 (k : Int) ∧ k ≤ n ∧ x = .int .i64 (dotN f g k) ∧ Hid (Below w.heap.size w wr)) (fun _ i _ => n - (intOf i).toNat)
  case atStart => exact ⟨0, rfl, Nat.zero_le _, rfl, Below.refl _ _⟩
  case round =>
    obtain ⟨k, rfl, hk, rfl, HW⟩ := hrel
    by_cases hlt : k < n
    · have hlt' : (k : Int) < (n : Int) := by omega
      have hl1 : (k : Int) < (n1 : Int) := by omega
      have hl2 : (k : Int) < (n2 : Int) := by omega
      have hk0 : (0 : Int) ≤ (k : Int) := by omega
      obtain ⟨b, off, rfl, hb, hz⟩ := (HA.out.on HW.out) k (by omega)
      obtain ⟨b', off', rfl, hb', hz'⟩ := (HB.out.on HW.out) k (by omega)
      have HC : Hid (∀ w, Calls Tryz.prog 56 #[.int .i64 (f k), .int .i64 (g k)] w fun e w' => e = .returned (.int .i64 (scMul (f k) (g k))) ∧ w' = w) := fun w => (iScMul_any _ _ w).mono fun e w' h => ⟨h.1, h.2.symm⟩
      have HD : Hid (∀ w, Calls Tryz.prog 94 #[.int .i64 (dotN f g k), .int .i64 (scMul (f k) (g k))] w fun e w' => e = .returned (.int .i64 (dotN f g (k + 1))) ∧ w' = w) := fun w => (iScAdd_any _ _ w).mono fun e w' h => ⟨h.1, h.2.symm⟩
      generalize dotN f g k = d at HD
      generalize scMul (f k) (g k) = p at HC HD
      generalize f k = x at HC hz
      generalize g k = y at HC hz'
      clear hb hb' HA HB
      go_wp2
      refine wp_region_still_tail 11 mixesSc (by kernel_rfl) ?_
      simp only [List.take_succ_cons, List.take_zero, List.drop_succ_cons, List.drop_zero]
      repeat still_step
      still_call (HC.out _)
      repeat still_step
      still_call (HD.out _)
      repeat still_step
      refine wpStill_nil ?_
      go_wp2
      go_roundw
      case rel => exact ⟨k + 1, by go_num, hlt, rfl, HW.out.drew⟩
      case measure => simp [intOf]; omega
    · have hlt' : ¬ (k : Int) < (n : Int) := by omega
      have HK : Hid (k = n) := (show k = n by omega)
      go_wp2
      go_ret
      exact ⟨by rw [← HK.out]; rfl, HW.out⟩

set_option maxHeartbeats 800000 in
set_option maxRecDepth 100000 in
theorem sDot_any (a1 a2 : Option Addr) (n1 c1 n2 c2 : Nat) (hm1 : n1 ≤ 9223372036854775807) (f g : Nat → Int) (w : World)
    (hA : IntsAt w a1 n1 w.heap.size f) (hB : IntsAt w a2 n2 w.heap.size g) :
    Calls Tryz.prog 122 #[.slice a1 n1 c1, .slice a2 n2 c2] w fun e w' => e = .returned (.int .i64 (dotN f g (min n1 n2))) ∧ Below w.heap.size w w' := by
  have HA : Hid (IntsAt w a1 n1 w.heap.size f) := hA
  have HB : Hid (IntsAt w a2 n2 w.heap.size g) := hB
  clear hA hB
  obtain ⟨n, hn⟩ : ∃ n, n = min n1 n2 := ⟨_, rfl⟩
  have hn1 : n ≤ n1 := by omega
  have hn2 : n ≤ n2 := by omega
  have HN : Hid (n = min n1 n2) := hn
  rw [← hn]
  clear hn
  go_enter Tryz.func122, Tryz.ntmps122
  go_wp2
  go_loopw [5, 6] (fun x i wr => ∃ k : Nat, i = .int .i64 (k : Int) ∧ k ≤ n ∧ x = .int .i64 (dotN f g k) ∧ Hid (Below w.heap.size w wr)) (fun _ i _ => n - (intOf i).toNat)
  case atStart => exact ⟨0, rfl, Nat.zero_le _, rfl, Below.refl _ _⟩
  case round =>
    obtain ⟨k, rfl, hk, rfl, HW⟩ := hrel
    by_cases hlt : k < n
    · have hl1 : (k : Int) < (n1 : Int) := by omega
      have hl2 : (k : Int) < (n2 : Int) := by omega
      have hk0 : (0 : Int) ≤ (k : Int) := by omega
      obtain ⟨b, off, rfl, hb, hz⟩ := (HA.out.on HW.out) k (by omega)
      obtain ⟨b', off', rfl, hb', hz'⟩ := (HB.out.on HW.out) k (by omega)
      have HC : Hid (∀ w, Calls Tryz.prog 81 #[.int .i64 (f k), .int .i64 (g k)] w fun e w' => e = .returned (.int .i64 (scMul (f k) (g k))) ∧ w' = w) := fun w => (sScMul_any _ _ w).mono fun e w' h => ⟨h.1, h.2.symm⟩
      have HD : Hid (∀ w, Calls Tryz.prog 18 #[.int .i64 (dotN f g k), .int .i64 (scMul (f k) (g k))] w fun e w' => e = .returned (.int .i64 (dotN f g (k + 1))) ∧ w' = w) := fun w => (sScAdd_any _ _ w).mono fun e w' h => ⟨h.1, h.2.symm⟩
      generalize dotN f g k = d at HD
      generalize scMul (f k) (g k) = p at HC HD
      generalize f k = x at HC hz
      generalize g k = y at HC hz'
      clear hb hb' HA HB
      go_wp2
      refine wp_region_still_tail 11 mixesSc (by kernel_rfl) ?_
      simp only [List.take_succ_cons, List.take_zero, List.drop_succ_cons, List.drop_zero]
      repeat still_step
      still_call (HC.out _)
      repeat still_step
      still_call (HD.out _)
      repeat still_step
      refine wpStill_nil ?_
      go_wp2
      go_roundw
      case rel => exact ⟨k + 1, by go_num, hlt, rfl, HW.out.drew⟩
      case measure => simp [intOf]; omega
    · have HK : Hid (k = n) := (show k = n by omega)
      by_cases h1 : k < n1
      · have h1' : (k : Int) < (n1 : Int) := by omega
        have h2' : ¬ (k : Int) < (n2 : Int) := by have := HN.out; omega
        go_wp2
        go_ret
        exact ⟨by rw [← HK.out]; rfl, HW.out⟩
      · have h1' : ¬ (k : Int) < (n1 : Int) := by omega
        go_wp2
        go_ret
        exact ⟨by rw [← HK.out]; rfl, HW.out⟩

end Go.Proofs.YthnahalboomkoaaGreat

/-
  The walk of the specification's question whether a number lies between two.
  (-DROP-: what the seat lacks is left out.)
-/
namespace Go.Proofs.YthnahalboomkoaaGreat
open Go.RowKit

set_option maxHeartbeats 400000 in
set_option maxRecDepth 100000 in
theorem sBetween_any (x a b : Int) (w : World) :
    Calls Tryz.prog 87 #[.int .i64 x, .int .i64 a, .int .i64 b] w fun e w' => e = .returned (.bool (decide (a ≤ x ∧ x ≤ b))) ∧ w = w' := by
  by_cases h0 : a ≤ x
  · by_cases h1 : x ≤ b
    · rw [decide_eq_true ⟨h0, h1⟩]
      go_enter Tryz.func87, Tryz.ntmps87
      go_wp2
      go_ret
      exact ⟨rfl, rfl⟩
    · rw [decide_eq_false (by omega)]
      go_enter Tryz.func87, Tryz.ntmps87
      go_wp2
      go_ret
      exact ⟨rfl, rfl⟩
  · rw [decide_eq_false (by omega)]
    go_enter Tryz.func87, Tryz.ntmps87
    go_wp2
    go_ret
    exact ⟨rfl, rfl⟩

end Go.Proofs.YthnahalboomkoaaGreat

/-
  Bits as the document tells of them: no program in here.
-/
namespace Go.Proofs.YthnahalboomkoaaGreat

/-- Whether a bit is set. -/
def bitB (b : Int) (i : Nat) : Bool := decide (b / 2 ^ i % 2 = 1)
/-- How many bits are set, of so many. -/
def bitsN (b : Int) : Nat → Int
  | 0 => 0
  | n + 1 => bitsN b n + b / 2 ^ n % 2
def bitsB (b : Int) : Int := if 0 ≤ b ∧ b ≤ 255 then bitsN b 8 else 0
theorem bitsN_in (b : Int) : ∀ n : Nat, 0 ≤ bitsN b n ∧ bitsN b n ≤ n
  | 0 => ⟨Int.le_refl _, Int.le_refl _⟩
  | n + 1 => by
    obtain ⟨h1, h2⟩ := bitsN_in b n
    show 0 ≤ bitsN b n + b / 2 ^ n % 2 ∧ bitsN b n + b / 2 ^ n % 2 ≤ ((n + 1 : Nat) : Int)
    omega

end Go.Proofs.YthnahalboomkoaaGreat

/-
  Systems of products as the document tells of them: no program in here.
-/
namespace Go.Proofs.YthnahalboomkoaaGreat

/-- What is told of bits. -/
def pubOf (b : Int) : List Int := [b, bitsB b]
/-- The bits at so many places. -/
def bitL (b : Int) (k : Nat) : List Int := (List.range k).map fun j => b / 2 ^ j % 2
theorem bitL_next (b : Int) (k : Nat) : bitL b (k + 1) = bitL b k ++ [b / 2 ^ k % 2] := by
  unfold bitL
  rw [List.range_succ, List.map_append]
  rfl
theorem bitL_length (b : Int) (k : Nat) : (bitL b k).length = k := by simp [bitL]
/-- The witness of bits. -/
def witOf (b : Int) : List Int := if 0 ≤ b ∧ b ≤ 255 then [1, b, bitsB b] ++ bitL b 8 else []
theorem witOf_length (b : Int) : (witOf b).length ≤ 11 := by
  unfold witOf
  by_cases h : 0 ≤ b ∧ b ≤ 255
  · rw [if_pos h]; simp [bitL_length]
  · rw [if_neg h]; simp

/-- So many numbers, all of them scalars. -/
def wide (l : List Int) (n : Int) : Bool := decide ((l.length : Int) = n) && l.all fun x => decide (0 ≤ x ∧ x ≤ 1008)

end Go.Proofs.YthnahalboomkoaaGreat

/-
  The walks of systems: whether they are right, and what satisfies them; the program's and the specification's.
  (-DROP-: what the seat lacks is left out.)
-/
namespace Go.Proofs.YthnahalboomkoaaGreat
open Go.RowKit

/-- So many of its first numbers are scalars. -/
def scN (l : List Int) (k : Nat) : Bool := (l.take k).all fun x => decide (0 ≤ x ∧ x ≤ 1008)
theorem scN_next (l : List Int) {k : Nat} (h : k < l.length) : scN l (k + 1) = (scN l k && decide (0 ≤ l.getD k 0 ∧ l.getD k 0 ≤ 1008)) := by
  have e : l.getD k 0 = l[k] := by simp [h]
  rw [e]
  unfold scN
  rw [List.take_succ_eq_append_getElem h, List.all_append]
  simp
theorem scN_false (l : List Int) {k : Nat} (h : scN l k = false) : (l.all fun x => decide (0 ≤ x ∧ x ≤ 1008)) = false := by
  have e : (l.all fun x => decide (0 ≤ x ∧ x ≤ 1008)) = (scN l k && (l.drop k).all fun x => decide (0 ≤ x ∧ x ≤ 1008)) := by
    unfold scN
    rw [← List.all_append, List.take_append_drop]
  rw [e, h]
  rfl
theorem scN_all (l : List Int) : (l.all fun x => decide (0 ≤ x ∧ x ≤ 1008)) = scN l l.length := by unfold scN; rw [List.take_length]
theorem sca_id {x : Int} : x = sca x ↔ (0 ≤ x ∧ x ≤ 1008) := by
  have h0 := sca_nonneg x
  have h1 := sca_lt x
  constructor
  · intro h; omega
  · intro ⟨h2, h3⟩
    have : sca x = x := by
      have e := scn_small (n := x.toNat) (by omega)
      have c := scn_cast x
      rw [← c]
      have e2 : ((x.toNat : Nat) : Int) = x := by omega
      rw [e2] at e
      rw [e]
      exact e2
    exact this.symm

set_option maxHeartbeats 1600000 in
set_option maxRecDepth 100000 in
theorem sWide_any (a : Option Addr) (cap : Nat) (l : List Int) (m : Int) (hl : l.length ≤ 9223372036854775807) (w : World) (hA : IntsAt w a l.length w.heap.size (fun j => l.getD j 0)) :
    Calls Tryz.prog 102 #[.slice a l.length cap, .int .i64 m] w fun e w' => e = .returned (.bool (wide l m)) ∧ Below w.heap.size w w' := by
  have HA : Hid (IntsAt w a l.length w.heap.size (fun j => l.getD j 0)) := hA
  clear hA
  obtain ⟨n, hn⟩ : ∃ n, n = l.length := ⟨_, rfl⟩
  have HN : Hid (n = l.length) := hn
  rw [← hn] at HA hl ⊢
  clear hn
  go_enter Tryz.func102, Tryz.ntmps102
  go_wp2
  go_loopw [5] (fun i wr => ∃ k : Nat, i = .int .i64 (k : Int) ∧ k ≤ n ∧ Hid (scN l k = true) ∧ w = wr) (fun i _ => n - (intOf i).toNat)
  case atStart => exact ⟨0, rfl, Nat.zero_le _, rfl, rfl⟩
  case round =>
    obtain ⟨k, rfl, hk, HS, rfl⟩ := hrel
    by_cases hlt : k < n
    · have hlt' : (k : Int) < (n : Int) := by omega
      have hk0 : (0 : Int) ≤ (k : Int) := by omega
      obtain ⟨b, off, rfl, hb, hz⟩ := HA.out k hlt
      replace hz : w.cell? ⟨b, off + k, none⟩ = some (.int .i64 (l.getD k 0)) := hz
      have HX : Hid (scN l (k + 1) = decide (0 ≤ l.getD k 0 ∧ l.getD k 0 ≤ 1008)) := by
        show _ = _
        rw [scN_next l (by have := HN.out; omega), HS.out, Bool.true_and]
      have HI : Hid (∀ w, Calls Tryz.prog 87 #[.int .i64 (l.getD k 0), .int .i64 0, .int .i64 1008] w fun e w' => e = .returned (.bool (decide (0 ≤ l.getD k 0 ∧ l.getD k 0 ≤ 1008))) ∧ w = w') := sBetween_any _ 0 1008
      generalize l.getD k 0 = x at hz HI HX
      generalize decide (0 ≤ x ∧ x ≤ 1008) = q at HI HX
      clear hb HA
      cases q
      · have HF : Hid (wide l m = false) := by
          show _ = _
          unfold wide
          rw [scN_false l HX.out, Bool.and_false]
        go_wp2_with (go_at_call 87; refine (HI.out _).mono ?_; rintro e w1 ⟨rfl, rfl⟩)
        go_ret
        exact ⟨by rw [HF.out]; rfl, Below.refl _ _⟩
      · go_wp2_with (go_at_call 87; refine (HI.out _).mono ?_; rintro e w1 ⟨rfl, rfl⟩)
        go_roundw
        case rel => exact ⟨k + 1, by go_num, hlt, HX, by trivial⟩
        case measure => simp [intOf]; omega
    · have hlt' : ¬ (k : Int) < (n : Int) := by omega
      have HF : Hid (wide l m = decide ((n : Int) = m)) := by
        show _ = _
        have h1 := HS.out
        have h2 := HN.out
        unfold wide
        rw [scN_all, ← h2, show n = k by omega, h1, Bool.and_true]
      by_cases hnm : (n : Int) = m
      · subst hnm
        rw [decide_eq_true rfl] at HF
        go_wp2
        go_ret
        exact ⟨by rw [HF.out]; rfl, Below.refl _ _⟩
      · have hnm' : ((n : Int) == m) = false := by rw [beq_eq_false_iff_ne]; exact hnm
        rw [decide_eq_false hnm] at HF
        go_wp2
        go_ret
        exact ⟨by rw [HF.out]; rfl, Below.refl _ _⟩

set_option maxHeartbeats 1600000 in
set_option maxRecDepth 100000 in
theorem iWide_any (a : Option Addr) (cap : Nat) (l : List Int) (m : Int) (hl : l.length ≤ 9223372036854775807) (w : World) (hA : IntsAt w a l.length w.heap.size (fun j => l.getD j 0)) :
    Calls Tryz.prog 52 #[.slice a l.length cap, .int .i64 m] w fun e w' => e = .returned (.bool (wide l m)) ∧ Below w.heap.size w w' := by
  have HA : Hid (IntsAt w a l.length w.heap.size (fun j => l.getD j 0)) := hA
  clear hA
  obtain ⟨n, hn⟩ : ∃ n, n = l.length := ⟨_, rfl⟩
  have HN : Hid (n = l.length) := hn
  rw [← hn] at HA hl ⊢
  clear hn
  by_cases hnm : (n : Int) = m
  · have HD : Hid (wide l m = (l.all fun x => decide (0 ≤ x ∧ x ≤ 1008))) := by
      show _ = _
      unfold wide
      rw [← HN.out, decide_eq_true hnm, Bool.true_and]
    subst hnm
    go_enter Tryz.func52, Tryz.ntmps52
    go_wp2
    go_loopw [13] (fun i wr => ∃ k : Nat, i = .int .i64 (k : Int) ∧ k ≤ n ∧ Hid (scN l k = true) ∧ w = wr) (fun i _ => n - (intOf i).toNat)
    case atStart => exact ⟨0, rfl, Nat.zero_le _, rfl, rfl⟩
    case round =>
      obtain ⟨k, rfl, hk, HS, rfl⟩ := hrel
      by_cases hlt : k < n
      · have hlt' : (k : Int) < (n : Int) := by omega
        have hk0 : (0 : Int) ≤ (k : Int) := by omega
        obtain ⟨b, off, rfl, hb, hz⟩ := HA.out k hlt
        replace hz : w.cell? ⟨b, off + k, none⟩ = some (.int .i64 (l.getD k 0)) := hz
        have HX : Hid (scN l (k + 1) = decide (0 ≤ l.getD k 0 ∧ l.getD k 0 ≤ 1008)) := by
          show _ = _
          rw [scN_next l (by have := HN.out; omega), HS.out, Bool.true_and]
        have HI : Hid (∀ w, Calls Tryz.prog 128 #[.int .i64 (l.getD k 0)] w fun e w' => e = .returned (.int .i64 (sca (l.getD k 0))) ∧ w = w') := iScOf_any _
        have HQ : Hid (l.getD k 0 = sca (l.getD k 0) ↔ (0 ≤ l.getD k 0 ∧ l.getD k 0 ≤ 1008)) := sca_id
        generalize l.getD k 0 = x at hz HI HX HQ
        generalize sca x = y at HI HQ
        clear hb HA
        by_cases hxy : x = y
        · have HX2 : Hid (scN l (k + 1) = true) := by
            show _ = _
            rw [HX.out, decide_eq_true (HQ.out.1 hxy)]
          subst hxy
          go_wp2_with (go_at_call 128; refine (HI.out _).mono ?_; rintro e w1 ⟨rfl, rfl⟩)
          go_roundw
          case rel => exact ⟨k + 1, by go_num, hlt, HX2, by trivial⟩
          case measure => simp [intOf]; omega
        · have HF : Hid (wide l (n : Int) = false) := by
            show _ = _
            rw [HD.out]
            refine scN_false l (k := k + 1) ?_
            rw [HX.out, decide_eq_false fun h => hxy (HQ.out.2 h)]
          have hxy' : (x == y) = false := by rw [beq_eq_false_iff_ne]; exact hxy
          have hxy2 : (x != y) = true := by rw [bne_iff_ne]; exact hxy
          go_wp2_with (go_at_call 128; refine (HI.out _).mono ?_; rintro e w1 ⟨rfl, rfl⟩)
          go_ret
          exact ⟨by rw [HF.out]; rfl, Below.refl _ _⟩
      · have hlt' : ¬ (k : Int) < (n : Int) := by omega
        have HF : Hid (wide l (n : Int) = true) := by
          show _ = _
          have h1 := HS.out
          have h2 := HN.out
          rw [HD.out, scN_all, ← h2, show n = k by omega, h1]
        go_wp2
        go_ret
        exact ⟨by rw [HF.out]; rfl, Below.refl _ _⟩
  · have HF : Hid (wide l m = false) := by
      show _ = _
      unfold wide
      rw [← HN.out, decide_eq_false hnm, Bool.false_and]
    have hnm' : ((n : Int) == m) = false := by rw [beq_eq_false_iff_ne]; exact hnm
    have hnm2 : ((n : Int) != m) = true := by rw [bne_iff_ne]; exact hnm
    go_enter Tryz.func52, Tryz.ntmps52
    go_wp2
    go_ret
    exact ⟨by rw [HF.out]; rfl, Below.refl _ _⟩

/-- So many of the first rows are of as many scalars. -/
def wdN (ls : List (List Int)) (m : Int) (k : Nat) : Bool := (ls.take (k * 3)).all fun l => wide l m
theorem wdN_next (ls : List (List Int)) (m : Int) {k n : Nat} (hl : ls.length = n * 3) (h : k < n) : wdN ls m (k + 1) = (wdN ls m k && (wide (ls.getD (k * 3) []) m && (wide (ls.getD (k * 3 + 1) []) m && wide (ls.getD (k * 3 + 2) []) m))) := by
  have e0 : ls.getD (k * 3) [] = ls[k * 3] := by simp [show k * 3 < ls.length by omega]
  have e1 : ls.getD (k * 3 + 1) [] = ls[k * 3 + 1] := by simp [show k * 3 + 1 < ls.length by omega]
  have e2 : ls.getD (k * 3 + 2) [] = ls[k * 3 + 2] := by simp [show k * 3 + 2 < ls.length by omega]
  have t : ls.take ((k + 1) * 3) = ls.take (k * 3) ++ [ls.getD (k * 3) [], ls.getD (k * 3 + 1) [], ls.getD (k * 3 + 2) []] := by
    rw [e0, e1, e2]
    have t2 : ls.take (k * 3 + 3) = ls.take (k * 3 + 2) ++ [ls[k * 3 + 2]] := List.take_succ_eq_append_getElem (by omega)
    have t1 : ls.take (k * 3 + 2) = ls.take (k * 3 + 1) ++ [ls[k * 3 + 1]] := List.take_succ_eq_append_getElem (by omega)
    have t0 : ls.take (k * 3 + 1) = ls.take (k * 3) ++ [ls[k * 3]] := List.take_succ_eq_append_getElem (by omega)
    rw [show (k + 1) * 3 = k * 3 + 3 by omega, t2, t1, t0, List.append_assoc, List.append_assoc]
    rfl
  unfold wdN
  rw [t, List.all_append]
  simp
theorem wdN_false (ls : List (List Int)) (m : Int) {k : Nat} (h : wdN ls m k = false) : (ls.all fun l => wide l m) = false := by
  have e : (ls.all fun l => wide l m) = (wdN ls m k && (ls.drop (k * 3)).all fun l => wide l m) := by
    unfold wdN
    rw [← List.all_append, List.take_append_drop]
  rw [e, h]
  rfl
theorem wdN_all (ls : List (List Int)) (m : Int) {n : Nat} (hl : ls.length = n * 3) : (ls.all fun l => wide l m) = wdN ls m n := by unfold wdN; rw [← hl, List.take_length]

/-- Whether a system is right. -/
def sysOk (wi pu : Int) (n : Nat) (ls : List (List Int)) : Bool := decide (1 ≤ wi ∧ wi ≤ 20) && (decide (0 ≤ pu ∧ pu ≤ wi - 1) && (decide (1 ≤ (n : Int) ∧ (n : Int) ≤ 16) && ls.all fun l => wide l wi))

set_option maxHeartbeats 1600000 in
set_option maxRecDepth 100000 in
theorem sSysOk_any (wi pu : Int) (_hw : (Lit.int .i64 wi).wf = true) (a : Option Addr) (n c : Nat) (hn : n ≤ 9223372036854775807) (ls : List (List Int)) (hz : ∀ j, (ls.getD j []).length ≤ 9223372036854775807) (w : World) (hA : NAt 3 w w.heap.size (.slice a n c) n ls) :
    Calls Tryz.prog 150 #[sysV wi pu (.slice a n c)] w fun e w' => e = .returned (.bool (sysOk wi pu n ls)) ∧ Below w.heap.size w w' := by
  have HA : Hid (NAt 3 w w.heap.size (.slice a n c) n ls) := hA
  have hlen : Hid (ls.length = n * 3) := hA.1
  have HZ : Hid (∀ j, (ls.getD j []).length ≤ 9223372036854775807) := hz
  clear hA hz
  obtain ⟨W, hW, hb, hx⟩ := box1 w 26 #[.int .i64 wi, .int .i64 pu, .slice a n c]
  have q0 := hx.cell 0
  have q1 := hx.cell 1
  have q2 := hx.cell 2
  unfold sysV
  have C0 : Hid (∀ w, Calls Tryz.prog 87 #[.int .i64 wi, .int .i64 1, .int .i64 20] w fun e w' => e = .returned (.bool (decide (1 ≤ wi ∧ wi ≤ 20))) ∧ w = w') := sBetween_any wi 1 20
  have C1 : Hid (∀ w, Calls Tryz.prog 87 #[.int .i64 pu, .int .i64 0, .int .i64 (wi - 1)] w fun e w' => e = .returned (.bool (decide (0 ≤ pu ∧ pu ≤ wi - 1))) ∧ w = w') := sBetween_any pu 0 (wi - 1)
  have C2 : Hid (∀ w, Calls Tryz.prog 87 #[.int .i64 (n : Int), .int .i64 1, .int .i64 16] w fun e w' => e = .returned (.bool (decide (1 ≤ (n : Int) ∧ (n : Int) ≤ 16))) ∧ w = w') := sBetween_any n 1 16
  have HE : Hid (sysOk wi pu n ls = (decide (1 ≤ wi ∧ wi ≤ 20) && (decide (0 ≤ pu ∧ pu ≤ wi - 1) && (decide (1 ≤ (n : Int) ∧ (n : Int) ≤ 16) && ls.all fun l => wide l wi)))) := rfl
  by_cases g0 : 1 ≤ wi ∧ wi ≤ 20
  · rw [decide_eq_true g0] at C0 HE
    have gw : 1 ≤ wi := g0.1
    have gw2 : wi ≤ 20 := g0.2
    by_cases g1 : 0 ≤ pu ∧ pu ≤ wi - 1
    · rw [decide_eq_true g1] at C1 HE
      by_cases g2 : 1 ≤ (n : Int) ∧ (n : Int) ≤ 16
      · rw [decide_eq_true g2] at C2 HE
        have HE2 : Hid (sysOk wi pu n ls = ls.all fun l => wide l wi) := HE
        have H0 : Hid (wdN ls wi 0 = true ∧ Below w.heap.size w W ∧ Blk W w.heap.size 26 #[.int .i64 wi, .int .i64 pu, .slice a n c]) := ⟨by simp [wdN], hb, hx⟩
        clear g0 g1 g2
        go_enter Tryz.func150, Tryz.ntmps150
        go_wp2_with fail
        refine (C0.out _).mono ?_
        rintro e wz ⟨rfl, rfl⟩
        go_wp2_with fail
        refine (C1.out _).mono ?_
        rintro e wz ⟨rfl, rfl⟩
        go_wp2_with fail
        refine (C2.out _).mono ?_
        rintro e wz ⟨rfl, rfl⟩
        go_wp2
        clear hW hb hx q0 q1 q2 C0 C1 C2
        go_loopw [3] (fun i wr => ∃ k : Nat, i = .int .i64 (k : Int) ∧ k ≤ n ∧ Hid (wdN ls wi k = true ∧ Below w.heap.size w wr ∧ Blk wr w.heap.size 26 #[.int .i64 wi, .int .i64 pu, .slice a n c])) (fun i _ => n - (intOf i).toNat)
        case atStart => exact ⟨0, rfl, Nat.zero_le _, H0⟩
        case round =>
          obtain ⟨k, rfl, hk, HD⟩ := hrel
          clear H0
          have hx := HD.out.2.2
          have q2 := hx.cell 2
          by_cases hlt : k < n
          · have hlt' : (k : Int) < (n : Int) := by omega
            have hk0 : (0 : Int) ≤ (k : Int) := by omega
            have hB0 := HD.out.2.1
            have hws : w.heap.size ≤ wr.heap.size := hB0.size
            obtain ⟨b, off, a0, c0, a1, c1, a2, c2, rfl, hb, z0, z1, z2, i0, i1, i2⟩ := (HA.out.on hB0).row3 hlt
            have W0 : Hid (∀ w', Below wr.heap.size wr w' → Calls Tryz.prog 102 #[.slice a0 (ls.getD (k * 3) []).length c0, .int .i64 wi] w' fun e w'' => e = .returned (.bool (wide (ls.getD (k * 3) []) wi)) ∧ Below w'.heap.size w' w'') := fun w' hw => sWide_any a0 c0 _ wi (HZ.out _) w' (((i0.wide hws).on hw).wide hw.size)
            have W1 : Hid (∀ w', Below wr.heap.size wr w' → Calls Tryz.prog 102 #[.slice a1 (ls.getD (k * 3 + 1) []).length c1, .int .i64 wi] w' fun e w'' => e = .returned (.bool (wide (ls.getD (k * 3 + 1) []) wi)) ∧ Below w'.heap.size w' w'') := fun w' hw => sWide_any a1 c1 _ wi (HZ.out _) w' (((i1.wide hws).on hw).wide hw.size)
            have W2 : Hid (∀ w', Below wr.heap.size wr w' → Calls Tryz.prog 102 #[.slice a2 (ls.getD (k * 3 + 2) []).length c2, .int .i64 wi] w' fun e w'' => e = .returned (.bool (wide (ls.getD (k * 3 + 2) []) wi)) ∧ Below w'.heap.size w' w'') := fun w' hw => sWide_any a2 c2 _ wi (HZ.out _) w' (((i2.wide hws).on hw).wide hw.size)
            have HX : Hid (wdN ls wi (k + 1) = (wide (ls.getD (k * 3) []) wi && (wide (ls.getD (k * 3 + 1) []) wi && wide (ls.getD (k * 3 + 2) []) wi))) := by
              show _ = _
              rw [wdN_next ls wi hlen.out hlt, HD.out.1, Bool.true_and]
            generalize wide (ls.getD (k * 3) []) wi = p0 at W0 HX
            generalize wide (ls.getD (k * 3 + 1) []) wi = p1 at W1 HX
            generalize wide (ls.getD (k * 3 + 2) []) wi = p2 at W2 HX
            generalize (ls.getD (k * 3) []).length = m0 at W0 z0
            generalize (ls.getD (k * 3 + 1) []).length = m1 at W1 z1
            generalize (ls.getD (k * 3 + 2) []).length = m2 at W2 z2
            have Z0 : ∀ w', Below wr.heap.size wr w' → w'.cell? ⟨b, off + k * 3, none⟩ = some (.slice a0 m0 c0) := fun w' hw => (hw.cell (p := ⟨b, off + k * 3, none⟩) (by show b < _; omega)).trans z0
            have Z1 : ∀ w', Below wr.heap.size wr w' → w'.cell? ⟨b, off + k * 3 + 1, none⟩ = some (.slice a1 m1 c1) := fun w' hw => (hw.cell (p := ⟨b, off + k * 3 + 1, none⟩) (by show b < _; omega)).trans z1
            have Z2 : ∀ w', Below wr.heap.size wr w' → w'.cell? ⟨b, off + k * 3 + 2, none⟩ = some (.slice a2 m2 c2) := fun w' hw => (hw.cell (p := ⟨b, off + k * 3 + 2, none⟩) (by show b < _; omega)).trans z2
            clear HA hb z0 z1 z2 i0 i1 i2 HZ hlen HD
            cases p0
            · skip
              go_wp2
              refine wp_region_class 33 (fun wz => Below wr.heap.size wr wz) mixes (by kernel_rfl) (Below.refl _ _).drew ?_
              simp only [List.take_succ_cons, List.take_zero, List.drop_succ_cons, List.drop_zero]
              repeat (refine cls_stepG rfl (fun K hK => ⟨_, (fun w' hw => by have z0 := Z0 w' hw; have z1 := Z1 w' hw; have z2 := Z2 w' hw; have z3 := (hx.on hw hx.lt).cell 0; have z4 := (hx.on hw hx.lt).cell 2; go_simp; exact rfl), ?_⟩); go_simp; refine hK _ ?_; clear hK K)
              refine cls_callG rfl (fun K hK => ⟨_, _, _, (fun w' => by go_simp <;> first | exact rfl | exact ⟨rfl, rfl⟩), (fun w' hw => calls_below hw (W0.out _ hw)), ?_⟩); go_simp; refine hK _ ?_; clear hK K
              repeat (refine cls_stepG rfl (fun K hK => ⟨_, (fun w' hw => by have z0 := Z0 w' hw; have z1 := Z1 w' hw; have z2 := Z2 w' hw; have z3 := (hx.on hw hx.lt).cell 0; have z4 := (hx.on hw hx.lt).cell 2; go_simp; exact rfl), ?_⟩); go_simp; refine hK _ ?_; clear hK K)
              iterate 10 (refine cls_skip rfl (fun K hK => ?_); go_simp; refine hK _ ?_; clear hK K)
              repeat (refine cls_stepG rfl (fun K hK => ⟨_, (fun w' hw => by have z0 := Z0 w' hw; have z1 := Z1 w' hw; have z2 := Z2 w' hw; have z3 := (hx.on hw hx.lt).cell 0; have z4 := (hx.on hw hx.lt).cell 2; go_simp; exact rfl), ?_⟩); go_simp; refine hK _ ?_; clear hK K)
              iterate 10 (refine cls_skip rfl (fun K hK => ?_); go_simp; refine hK _ ?_; clear hK K)
              refine wq_nil ?_
              intro w' hw
              have HF : Hid (sysOk wi pu n ls = false) := by
                show _ = _
                rw [HE2.out]
                exact wdN_false ls wi HX.out
              have hB3 : Below w.heap.size w w' := hB0.trans (hw.mono hws)
              clear hw hx q2 Z0 Z1 Z2 W0 W1 W2 hB0
              go_wp2
              go_ret
              exact ⟨by rw [HF.out]; rfl, hB3⟩
            · cases p1
              · skip
                go_wp2
                refine wp_region_class 33 (fun wz => Below wr.heap.size wr wz) mixes (by kernel_rfl) (Below.refl _ _).drew ?_
                simp only [List.take_succ_cons, List.take_zero, List.drop_succ_cons, List.drop_zero]
                repeat (refine cls_stepG rfl (fun K hK => ⟨_, (fun w' hw => by have z0 := Z0 w' hw; have z1 := Z1 w' hw; have z2 := Z2 w' hw; have z3 := (hx.on hw hx.lt).cell 0; have z4 := (hx.on hw hx.lt).cell 2; go_simp; exact rfl), ?_⟩); go_simp; refine hK _ ?_; clear hK K)
                refine cls_callG rfl (fun K hK => ⟨_, _, _, (fun w' => by go_simp <;> first | exact rfl | exact ⟨rfl, rfl⟩), (fun w' hw => calls_below hw (W0.out _ hw)), ?_⟩); go_simp; refine hK _ ?_; clear hK K
                repeat (refine cls_stepG rfl (fun K hK => ⟨_, (fun w' hw => by have z0 := Z0 w' hw; have z1 := Z1 w' hw; have z2 := Z2 w' hw; have z3 := (hx.on hw hx.lt).cell 0; have z4 := (hx.on hw hx.lt).cell 2; go_simp; exact rfl), ?_⟩); go_simp; refine hK _ ?_; clear hK K)
                refine cls_callG rfl (fun K hK => ⟨_, _, _, (fun w' => by go_simp <;> first | exact rfl | exact ⟨rfl, rfl⟩), (fun w' hw => calls_below hw (W1.out _ hw)), ?_⟩); go_simp; refine hK _ ?_; clear hK K
                repeat (refine cls_stepG rfl (fun K hK => ⟨_, (fun w' hw => by have z0 := Z0 w' hw; have z1 := Z1 w' hw; have z2 := Z2 w' hw; have z3 := (hx.on hw hx.lt).cell 0; have z4 := (hx.on hw hx.lt).cell 2; go_simp; exact rfl), ?_⟩); go_simp; refine hK _ ?_; clear hK K)
                iterate 10 (refine cls_skip rfl (fun K hK => ?_); go_simp; refine hK _ ?_; clear hK K)
                refine wq_nil ?_
                intro w' hw
                have HF : Hid (sysOk wi pu n ls = false) := by
                  show _ = _
                  rw [HE2.out]
                  exact wdN_false ls wi HX.out
                have hB3 : Below w.heap.size w w' := hB0.trans (hw.mono hws)
                clear hw hx q2 Z0 Z1 Z2 W0 W1 W2 hB0
                go_wp2
                go_ret
                exact ⟨by rw [HF.out]; rfl, hB3⟩
              · cases p2
                · skip
                  go_wp2
                  refine wp_region_class 33 (fun wz => Below wr.heap.size wr wz) mixes (by kernel_rfl) (Below.refl _ _).drew ?_
                  simp only [List.take_succ_cons, List.take_zero, List.drop_succ_cons, List.drop_zero]
                  repeat (refine cls_stepG rfl (fun K hK => ⟨_, (fun w' hw => by have z0 := Z0 w' hw; have z1 := Z1 w' hw; have z2 := Z2 w' hw; have z3 := (hx.on hw hx.lt).cell 0; have z4 := (hx.on hw hx.lt).cell 2; go_simp; exact rfl), ?_⟩); go_simp; refine hK _ ?_; clear hK K)
                  refine cls_callG rfl (fun K hK => ⟨_, _, _, (fun w' => by go_simp <;> first | exact rfl | exact ⟨rfl, rfl⟩), (fun w' hw => calls_below hw (W0.out _ hw)), ?_⟩); go_simp; refine hK _ ?_; clear hK K
                  repeat (refine cls_stepG rfl (fun K hK => ⟨_, (fun w' hw => by have z0 := Z0 w' hw; have z1 := Z1 w' hw; have z2 := Z2 w' hw; have z3 := (hx.on hw hx.lt).cell 0; have z4 := (hx.on hw hx.lt).cell 2; go_simp; exact rfl), ?_⟩); go_simp; refine hK _ ?_; clear hK K)
                  refine cls_callG rfl (fun K hK => ⟨_, _, _, (fun w' => by go_simp <;> first | exact rfl | exact ⟨rfl, rfl⟩), (fun w' hw => calls_below hw (W1.out _ hw)), ?_⟩); go_simp; refine hK _ ?_; clear hK K
                  repeat (refine cls_stepG rfl (fun K hK => ⟨_, (fun w' hw => by have z0 := Z0 w' hw; have z1 := Z1 w' hw; have z2 := Z2 w' hw; have z3 := (hx.on hw hx.lt).cell 0; have z4 := (hx.on hw hx.lt).cell 2; go_simp; exact rfl), ?_⟩); go_simp; refine hK _ ?_; clear hK K)
                  refine cls_callG rfl (fun K hK => ⟨_, _, _, (fun w' => by go_simp <;> first | exact rfl | exact ⟨rfl, rfl⟩), (fun w' hw => calls_below hw (W2.out _ hw)), ?_⟩); go_simp; refine hK _ ?_; clear hK K
                  repeat (refine cls_stepG rfl (fun K hK => ⟨_, (fun w' hw => by have z0 := Z0 w' hw; have z1 := Z1 w' hw; have z2 := Z2 w' hw; have z3 := (hx.on hw hx.lt).cell 0; have z4 := (hx.on hw hx.lt).cell 2; go_simp; exact rfl), ?_⟩); go_simp; refine hK _ ?_; clear hK K)
                  refine wq_nil ?_
                  intro w' hw
                  have HF : Hid (sysOk wi pu n ls = false) := by
                    show _ = _
                    rw [HE2.out]
                    exact wdN_false ls wi HX.out
                  have hB3 : Below w.heap.size w w' := hB0.trans (hw.mono hws)
                  clear hw hx q2 Z0 Z1 Z2 W0 W1 W2 hB0
                  go_wp2
                  go_ret
                  exact ⟨by rw [HF.out]; rfl, hB3⟩
                · skip
                  go_wp2
                  refine wp_region_class 33 (fun wz => Below wr.heap.size wr wz) mixes (by kernel_rfl) (Below.refl _ _).drew ?_
                  simp only [List.take_succ_cons, List.take_zero, List.drop_succ_cons, List.drop_zero]
                  repeat (refine cls_stepG rfl (fun K hK => ⟨_, (fun w' hw => by have z0 := Z0 w' hw; have z1 := Z1 w' hw; have z2 := Z2 w' hw; have z3 := (hx.on hw hx.lt).cell 0; have z4 := (hx.on hw hx.lt).cell 2; go_simp; exact rfl), ?_⟩); go_simp; refine hK _ ?_; clear hK K)
                  refine cls_callG rfl (fun K hK => ⟨_, _, _, (fun w' => by go_simp <;> first | exact rfl | exact ⟨rfl, rfl⟩), (fun w' hw => calls_below hw (W0.out _ hw)), ?_⟩); go_simp; refine hK _ ?_; clear hK K
                  repeat (refine cls_stepG rfl (fun K hK => ⟨_, (fun w' hw => by have z0 := Z0 w' hw; have z1 := Z1 w' hw; have z2 := Z2 w' hw; have z3 := (hx.on hw hx.lt).cell 0; have z4 := (hx.on hw hx.lt).cell 2; go_simp; exact rfl), ?_⟩); go_simp; refine hK _ ?_; clear hK K)
                  refine cls_callG rfl (fun K hK => ⟨_, _, _, (fun w' => by go_simp <;> first | exact rfl | exact ⟨rfl, rfl⟩), (fun w' hw => calls_below hw (W1.out _ hw)), ?_⟩); go_simp; refine hK _ ?_; clear hK K
                  repeat (refine cls_stepG rfl (fun K hK => ⟨_, (fun w' hw => by have z0 := Z0 w' hw; have z1 := Z1 w' hw; have z2 := Z2 w' hw; have z3 := (hx.on hw hx.lt).cell 0; have z4 := (hx.on hw hx.lt).cell 2; go_simp; exact rfl), ?_⟩); go_simp; refine hK _ ?_; clear hK K)
                  refine cls_callG rfl (fun K hK => ⟨_, _, _, (fun w' => by go_simp <;> first | exact rfl | exact ⟨rfl, rfl⟩), (fun w' hw => calls_below hw (W2.out _ hw)), ?_⟩); go_simp; refine hK _ ?_; clear hK K
                  repeat (refine cls_stepG rfl (fun K hK => ⟨_, (fun w' hw => by have z0 := Z0 w' hw; have z1 := Z1 w' hw; have z2 := Z2 w' hw; have z3 := (hx.on hw hx.lt).cell 0; have z4 := (hx.on hw hx.lt).cell 2; go_simp; exact rfl), ?_⟩); go_simp; refine hK _ ?_; clear hK K)
                  refine wq_nil ?_
                  intro w' hw
                  have HD2 : Hid (wdN ls wi (k + 1) = true ∧ Below w.heap.size w w' ∧ Blk w' w.heap.size 26 #[.int .i64 wi, .int .i64 pu, .slice (some ⟨b, off, none⟩) n c]) := ⟨HX.out, hB0.trans (hw.mono hws), hx.on hw hx.lt⟩
                  clear hw hx q2 Z0 Z1 Z2 W0 W1 W2 hB0
                  go_wp2
                  go_roundw
                  case rel => exact ⟨k + 1, by go_num, hlt, HD2⟩
                  case measure => simp [intOf]; omega
          · have hlt' : ¬ (k : Int) < (n : Int) := by omega
            have HF : Hid (sysOk wi pu n ls = true) := by
              show _ = _
              rw [HE2.out, wdN_all ls wi hlen.out, show n = k by omega]
              exact HD.out.1
            go_wp2
            go_ret
            exact ⟨by rw [HF.out]; rfl, HD.out.2.1⟩
      · rw [decide_eq_false g2] at C2 HE
        have HE2 : Hid (sysOk wi pu n ls = false) := HE
        clear g0 g1 g2
        go_enter Tryz.func150, Tryz.ntmps150
        go_wp2_with fail
        refine (C0.out _).mono ?_
        rintro e wz ⟨rfl, rfl⟩
        go_wp2_with fail
        refine (C1.out _).mono ?_
        rintro e wz ⟨rfl, rfl⟩
        go_wp2_with fail
        refine (C2.out _).mono ?_
        rintro e wz ⟨rfl, rfl⟩
        go_wp2
        go_ret
        exact ⟨by rw [HE2.out]; rfl, hb⟩
    · rw [decide_eq_false g1] at C1 HE
      have HE2 : Hid (sysOk wi pu n ls = false) := HE
      clear g0 g1
      go_enter Tryz.func150, Tryz.ntmps150
      go_wp2_with fail
      refine (C0.out _).mono ?_
      rintro e wz ⟨rfl, rfl⟩
      go_wp2_with fail
      refine (C1.out _).mono ?_
      rintro e wz ⟨rfl, rfl⟩
      go_wp2
      go_ret
      exact ⟨by rw [HE2.out]; rfl, hb⟩
  · rw [decide_eq_false g0] at C0 HE
    have HE2 : Hid (sysOk wi pu n ls = false) := HE
    clear g0
    go_enter Tryz.func150, Tryz.ntmps150
    go_wp2_with (go_at_call 87; refine (C0.out _).mono ?_; rintro e wz ⟨rfl, rfl⟩)
    go_ret
    exact ⟨by rw [HE2.out]; rfl, hb⟩

end Go.Proofs.YthnahalboomkoaaGreat

/-
  Numbers of keys: no program in here.
-/
namespace Go.Proofs.YthnahalboomkoaaGreat

/-- What a wire is at Tau, all together. -/
def wireA (al be u v x : Int) : Int := scAdd (scAdd (scMul be u) (scMul al v)) x
def scalB (x : Int) : Bool := decide (1 ≤ x ∧ x ≤ 1008)
/-- Whether the numbers of keys are right for a system. -/
def toxB (wi pu : Int) (n : Nat) (ls : List (List Int)) (ta al be ga de : Int) : Bool := (((((sysOk wi pu n ls && scalB ta) && scalB al) && scalB be) && scalB ga) && scalB de) && decide ((n : Int) < ta)

end Go.Proofs.YthnahalboomkoaaGreat

/-
  What the exact laws need of lists of numbers: copies, whether two are the same, marks; in terms of what is read and what is owned.
  (-DROP-: what the seat lacks is left out.)
-/
namespace Go.Proofs.YthnahalboomkoaaGreat
open Go.RowKit

theorem toZ_any (v : Value) (l : List Int) (hl : l.length ≤ 1048576) (w : World) (h : ZAt w w.heap.size v l) :
    Calls Tryz.prog 202 #[v] w fun e w' => ∃ g, e = .returned (.slice (some ⟨g, 0, none⟩) l.length l.length) ∧ ZOwn w.heap.size w'.heap.size w' (.slice (some ⟨g, 0, none⟩) l.length l.length) l ∧ Below w.heap.size w w' := by
  obtain ⟨a, cp, rfl, hA⟩ := h
  refine (toIntS_any a l.length cp hl _ w hA).mono ?_
  rintro e w' ⟨rfl, hR, hb⟩
  refine ⟨_, rfl, ⟨?_, fun k hk => ?_⟩, hb⟩
  · have h1 := hR.rowZ (Nat.le_refl _) hl
    rw [zls_getD] at h1
    exact h1
  · have e1 : some w.heap.size = some k := hk
    injection e1 with e1
    have := hR.lt
    omega

theorem eqZ_any (v u : Value) (l : List Int) (hl : l.length ≤ 1048576) (w : World) (h : ZAt w w.heap.size v l) (h2 : ZAt w w.heap.size u l) :
    Calls Tryz.prog 203 #[v, u] w fun e w' => e = .returned (.bool true) ∧ Below w.heap.size w w' := by
  obtain ⟨a, cp, rfl, hA⟩ := h
  obtain ⟨b, cq, rfl, hB⟩ := h2
  exact eqIntS_any a b l.length cp cq hl _ w hA hB

theorem markZo_any (v : Value) (l : List Int) (k lo hi : Nat) (hkb : k ≤ 1099511627776) (hl : l.length ≤ 1048576) (w : World) (h : ZOwn lo hi w v l) :
    Calls Tryz.prog 176 #[v, .int .i64 (k : Int)] w fun e w' => e = .returned (.int .i64 ((k + l.length : Nat) : Int)) ∧ ZOwn lo hi w' v (mkz k l.length) ∧ Kps (fun b => lo ≤ b ∧ b < hi) w w' := by
  refine (markZ_any v l k lo hkb hl w h.1).mono ?_
  rintro e w' ⟨rfl, hR, hK⟩
  exact ⟨rfl, ⟨hR, h.2⟩, hK.more fun b hb => h.in b hb⟩

end Go.Proofs.YthnahalboomkoaaGreat

/-
  The walks of the specification's polynomials.
  (-DROP-: what the seat lacks is left out.)
-/
namespace Go.Proofs.YthnahalboomkoaaGreat
open Go.RowKit

/-- A list without its last number. -/
theorem RowZs.init {B : Nat} {w : World} {g n c : Nat} {l : List Int} {x : Int} (h : RowZs B w (.slice (some ⟨g, 0, none⟩) (n + 1) c) (l ++ [x])) (hn : l.length = n) : RowZs B w (.slice (some ⟨g, 0, none⟩) n c) l := by
  rcases h.2 with ⟨h0, _⟩ | ⟨g', c', cur, hv, hg, hh, h1, h2, h3, h4⟩
  · cases h0
  · injection hv with e1 e2 e3
    injection e1 with e1
    injection e1 with e1
    subst e1
    subst e3
    unfold RowZs
    rw [hn]
    refine ⟨by simp [zsV, hn], .inr ⟨g, c, cur, rfl, hg, hh, by omega, h2, h3, ?_⟩⟩
    have h5 := congrArg (List.take n) h4
    have hz : (zsV l).length = n := by simp [zsV, hn]
    have e : min n ((l ++ [x]).length * 1) = n := by rw [List.length_append]; simp; omega
    rw [List.take_take, e, zsV_append, List.take_left' hz] at h5
    rw [Nat.mul_one]
    exact h5
theorem list_init {l : List Int} (h : 0 < l.length) : ∃ t x, l = t ++ [x] := ⟨l.dropLast, l.getLast (by intro e; rw [e] at h; simp at h), (List.dropLast_concat_getLast _).symm⟩

set_option maxHeartbeats 1600000 in
set_option maxRecDepth 100000 in
theorem sTrim_any (v : Value) (l : List Int) (hl : l.length ≤ 1048576) (w : World) (h : ZAt w w.heap.size v l) :
    Calls Tryz.prog 193 #[v] w fun e w' => ∃ u, e = .returned u ∧ ZOwn w.heap.size w'.heap.size w' u (pTrim l) ∧ Below w.heap.size w w' := by
  obtain ⟨i0, hi, hz0, hz1, hz2⟩ := info_parts info3I
  obtain ⟨a, cp, rfl, hA⟩ := h
  have HA : Hid (IntsAt w a l.length w.heap.size (fun j => l.getD j 0)) := hA
  have HT : Hid (pTrim l = trimZ (l.map sca)) := rfl
  obtain ⟨n, hn⟩ : ∃ n, n = l.length := ⟨_, rfl⟩
  have HN : Hid (n = l.length) := hn
  rw [← hn] at HA hl ⊢
  clear hn hA
  go_enter Tryz.func193, Tryz.ntmps193
  go_wp2
  go_loopw [3, 4] (fun u i wr => ∃ (k : Nat) (m : List Int), i = .int .i64 (k : Int) ∧ k ≤ n ∧ Hid (m = (l.take k).map sca) ∧ m.length = k ∧ wr.ownsRow w.heap.size 3 1 u k (zsV m) ∧ Hid (Below w.heap.size w wr)) (fun _ i _ => n - (intOf i).toNat)
  case atStart => exact ⟨0, [], rfl, by omega, rfl, rfl, World.ownsRow_lit _ _ _ (Nat.le_refl _) (by simp [maxLen]) (by simp), (Below.refl _ _).alloc (Nat.le_refl _) _⟩
  case round =>
    obtain ⟨k, m, rfl, hk, HM, hml, hown, HB⟩ := hrel
    have hsz : w.heap.size ≤ wr.heap.size := HB.out.size
    by_cases hlt : k < n
    · have hlt' : (k : Int) < (n : Int) := by omega
      have hk0 : (0 : Int) ≤ (k : Int) := by omega
      have hm63 : k + 1 ≤ maxLen := by unfold maxLen; omega
      have hm47 : (k + 1) * 8 ≤ 140737488355328 := by omega
      obtain ⟨b, off, rfl, hb, hz⟩ := (HA.out.on HB.out) k hlt
      replace hz : wr.cell? ⟨b, off + k, none⟩ = some (.int .i64 (l.getD k 0)) := hz
      have HS : Hid (∀ w, Calls Tryz.prog 67 #[.int .i64 (l.getD k 0)] w fun e w' => e = .returned (.int .i64 (sca (l.getD k 0))) ∧ w = w') := sScOf_any _
      have HM2 : Hid (m ++ [sca (l.getD k 0)] = (l.take (k + 1)).map sca) := by
        show _ = _
        have hkl : k < l.length := by have := HN.out; omega
        rw [HM.out, List.take_succ_eq_append_getElem hkl, List.map_append]
        simp [hkl]
      generalize sca (l.getD k 0) = y at HS HM2
      generalize l.getD k 0 = x at hz HS
      clear hb HA HM
      go_wp2_with (first
        | (go_at_call 67; refine (HS.out _).mono ?_; rintro e wz ⟨rfl, rfl⟩)
        | (at_builtin; refine wpList_append_own _ rfl _ _ 27 rfl w.heap.size 3 i0 (.int .i64 0) 1 8 Tryz.underlying27 hi hz0 hz1 hz2 rfl (by decide) _ _ _ rfl (hown.alloc _) ⟨wr.heap.size, 0, none⟩ 1 1 [.int .i64 y] rfl rfl (cell_one_new _ _ _) (one_cell _ _) hm63 hm47 (room_for hsz _) ?_))
      intro v' w4 hown' hgrow _
      have R : w4.ownsRow w.heap.size 3 1 v' (k + 1) (zsV (m ++ [y])) := by rw [zsV_append]; exact hown'
      have HB2 : Hid (Below w.heap.size w w4) := (HB.out.alloc hsz _).grown hgrow (by simp; omega) (fun k hk => (hown.lt k hk).1)
      have hml2 : (m ++ [y]).length = k + 1 := by simp [hml]
      clear hown' hgrow hown
      go_wp2
      go_roundw
      case rel => exact ⟨k + 1, _, by go_num, hlt, HM2, hml2, R, HB2⟩
      case measure => simp [intOf]; omega
    · have hlt' : ¬ (k : Int) < (n : Int) := by omega
      obtain rfl : n = k := by omega
      have HM2 : Hid (trimZ m = pTrim l) := by
        show _ = _
        rw [HT.out, HM.out, HN.out, List.take_length]
      obtain ⟨ra0, rc0, hv0⟩ := row_form hown
      subst hv0
      have HR : Hid (RowZs w.heap.size wr (.slice ra0 n rc0) m) := by
        show wr.ownsRow w.heap.size 3 1 _ m.length (zsV m)
        rw [hml]
        exact hown
      generalize wr = w0 at *
      clear HM hown
      go_wp2
      go_loopw [3] (fun u wr => ∃ t : List Int, Hid (trimZ t = pTrim l) ∧ t.length ≤ 1048576 ∧ Hid (RowZs w.heap.size w0 u t) ∧ w0 = wr) (fun u _ => slLen u)
      case atStart => exact ⟨m, HM2, by omega, HR, rfl⟩
      case round =>
        obtain ⟨t, HTT, htl, HRT, rfl⟩ := hrel
        clear HM2 HR
        obtain ⟨ra, rc, hv⟩ := row_form HRT.out
        subst hv
        by_cases h0 : 0 < t.length
        · have h0' : (0 : Int) < (t.length : Int) := by omega
          obtain ⟨s, x, hsx⟩ := list_init h0
          rcases HRT.out.2 with ⟨_, hz⟩ | ⟨g, c', cur, hve, _⟩
          · omega
          · have hra : ra = some ⟨g, 0, none⟩ := by injection hve
            subst hra
            have hlen : t.length = s.length + 1 := by rw [hsx]; simp
            have hcell : w0.cell? ⟨g, s.length, none⟩ = some (.int .i64 x) := by
              have hq : w0.ownsRow w.heap.size 3 1 (.slice (some ⟨g, 0, none⟩) t.length rc) t.length (zsV t) := HRT.out
              rw [World.ownsRow.cellAt hq s.length (by omega), hsx]
              simp [zsV]
            have hi1 : (t.length : Int) - 1 = (s.length : Int) := by omega
            have hi2 : (0 : Int) ≤ (s.length : Int) := by omega
            have hi3 : (s.length : Int) < (t.length : Int) := by omega
            by_cases hx : x = 0
            · subst hx
              have HR2 : Hid (RowZs w.heap.size w0 (.slice (some ⟨g, 0, none⟩) s.length rc) s) := by
                have hq := HRT.out
                rw [hlen, hsx] at hq
                exact hq.init rfl
              have HT2 : Hid (trimZ s = pTrim l) := by
                show _ = _
                rw [← HTT.out, hsx, trimZ_zero]
              have hrc : (s.length : Int) ≤ (rc : Int) := by
                rcases HRT.out.2 with ⟨_, hz⟩ | ⟨_, _, _, hve2, _, _, hc2, _⟩
                · omega
                · injection hve2 with _ _ e3; omega
              clear HRT HTT hsx
              go_wp2
              go_roundw
              case rel => exact ⟨s, HT2, by omega, HR2, by trivial⟩
              case measure => simp [slLen]; omega
            · have hx' : (x == 0) = false := by rw [beq_eq_false_iff_ne]; exact hx
              have HE : Hid (pTrim l = t) := by
                show _ = _
                rw [← HTT.out, hsx, trimZ_some s hx]
              clear hsx
              go_wp2
              go_ret
              exact ⟨_, rfl, by rw [HE.out]; exact ZOwn.of HRT.out, HB.out⟩
        · have h0' : ¬ (0 : Int) < (t.length : Int) := by omega
          have HE : Hid (pTrim l = t) := by
            show _ = _
            have e : t = [] := List.length_eq_zero_iff.1 (by omega)
            rw [← HTT.out, e]
            rfl
          go_wp2
          go_ret
          exact ⟨_, rfl, by rw [HE.out]; exact ZOwn.of HRT.out, HB.out⟩

theorem drop_at {l : List Int} {k : Nat} (h : k < l.length) : l.drop k = l.getD k 0 :: l.drop (k + 1) := by
  rw [List.drop_eq_getElem_cons h]
  simp [h]

set_option maxHeartbeats 1600000 in
set_option maxRecDepth 100000 in
theorem sAt_any (v : Value) (l : List Int) (x : Int) (hl : l.length ≤ 1048576) (w : World) (h : ZAt w w.heap.size v l) :
    Calls Tryz.prog 83 #[v, .int .i64 x] w fun e w' => e = .returned (.int .i64 (pAt l x)) ∧ Below w.heap.size w w' := by
  obtain ⟨a, cp, rfl, hA⟩ := h
  have HA : Hid (IntsAt w a l.length w.heap.size (fun j => l.getD j 0)) := hA
  clear hA
  obtain ⟨n, hn⟩ : ∃ n, n = l.length := ⟨_, rfl⟩
  have HN : Hid (n = l.length) := hn
  rw [← hn] at HA hl ⊢
  clear hn
  go_enter Tryz.func83, Tryz.ntmps83
  go_wp2
  go_loopw [5, 6] (fun y i wr => ∃ (k : Nat), i = .int .i64 ((k : Int) - 1) ∧ k ≤ n ∧ y = .int .i64 (pAt (l.drop k) x) ∧ Hid (Below w.heap.size w wr)) (fun _ i _ => (intOf i + 1).toNat)
  case atStart => exact ⟨n, rfl, Nat.le_refl _, by rw [HN.out, List.drop_length]; rfl, Below.refl _ _⟩
  case round =>
    obtain ⟨k, rfl, hk, rfl, HB⟩ := hrel
    by_cases h0 : 0 < k
    · obtain ⟨j, rfl⟩ : ∃ j, k = j + 1 := ⟨k - 1, by omega⟩
      have hi1 : ((j + 1 : Nat) : Int) - 1 = (j : Int) := by omega
      have hi2 : (0 : Int) ≤ (j : Int) := by omega
      have hi3 : (j : Int) < (n : Int) := by omega
      obtain ⟨b, off, rfl, hb, hz⟩ := (HA.out.on HB.out) j (by omega)
      replace hz : wr.cell? ⟨b, off + j, none⟩ = some (.int .i64 (l.getD j 0)) := hz
      have HP : Hid (pAt (l.drop j) x = scAdd (scMul (pAt (l.drop (j + 1)) x) x) (l.getD j 0)) := by
        show _ = _
        rw [drop_at (l := l) (k := j) (by have := HN.out; omega)]
        rfl
      have HC : Hid (∀ w, Calls Tryz.prog 81 #[.int .i64 (pAt (l.drop (j + 1)) x), .int .i64 x] w fun e w' => e = .returned (.int .i64 (scMul (pAt (l.drop (j + 1)) x) x)) ∧ w' = w) := fun w => (sScMul_any _ _ w).mono fun e w' h => ⟨h.1, h.2.symm⟩
      have HD : Hid (∀ w, Calls Tryz.prog 18 #[.int .i64 (scMul (pAt (l.drop (j + 1)) x) x), .int .i64 (l.getD j 0)] w fun e w' => e = .returned (.int .i64 (pAt (l.drop j) x)) ∧ w' = w) := fun w => by
        rw [HP.out]
        exact (sScAdd_any _ _ w).mono fun e w' h => ⟨h.1, h.2.symm⟩
      obtain ⟨r, hr⟩ : ∃ r, r = pAt (l.drop j) x := ⟨_, rfl⟩
      have HR : Hid (r = pAt (l.drop j) x) := hr
      rw [← hr] at HD
      clear hr HP
      generalize scMul (pAt (l.drop (j + 1)) x) x = p at HC HD
      generalize pAt (l.drop (j + 1)) x = q at HC
      generalize l.getD j 0 = z at HD hz
      clear hb HA
      go_wp2
      refine wp_region_still_tail 8 mixesSc (by kernel_rfl) ?_
      simp only [List.take_succ_cons, List.take_zero, List.drop_succ_cons, List.drop_zero]
      repeat still_step
      still_call (HC.out _)
      repeat still_step
      still_call (HD.out _)
      repeat still_step
      refine wpStill_nil ?_
      go_wp2
      go_roundw
      case rel => exact ⟨j, by go_num, by omega, by rw [HR.out], HB.out.drew⟩
      case measure => simp [intOf]
    · obtain rfl : k = 0 := by omega
      go_wp2
      go_ret
      exact ⟨by simp, HB.out⟩

theorem padF_case (a b : List Int) (k : Nat) : padF a b k = if k < b.length then scAdd (if k < a.length then scAdd 0 (a.getD k 0) else 0) (b.getD k 0) else if k < a.length then scAdd 0 (a.getD k 0) else 0 := rfl

/-- out[i] = ScAdd(out[i], x): what the world is behind it. -/
theorem row_step {w wr : World} {n k : Nat} {F : Nat → Int} (x : Int) (h : RowI wr w.heap.size n F) (hb : Below w.heap.size w wr) : RowI (wr.setCell ⟨w.heap.size, k, none⟩ (.int .i64 x)) w.heap.size n (fun i => if i = k then x else F i) ∧ Below w.heap.size w (wr.setCell ⟨w.heap.size, k, none⟩ (.int .i64 x)) := ⟨h.set k x, hb.setCell (Nat.le_refl _) _⟩

end Go.Proofs.YthnahalboomkoaaGreat

/-
  The walks of the program's lists of numbers: each, at, with, trimmed; PolyTrim, PolyAdd.
  (-DROP-: what the seat lacks is left out.)
-/
namespace Go.Proofs.YthnahalboomkoaaGreat
open Go.RowKit

/-- The first so many of a list. -/
theorem RowZs.take {B : Nat} {w : World} {a : Option Addr} {n c : Nat} {l : List Int} (h : RowZs B w (.slice a n c) l) (k : Nat) (hk : k ≤ l.length) : RowZs B w (.slice a k c) (l.take k) := by
  rcases h.2 with ⟨h0, h1⟩ | ⟨g, c', cur, hv, hg, hh, h1, h2, h3, h4⟩
  · injection h0 with e1 e2 e3
    subst e1
    subst e3
    have e : k = 0 := by omega
    subst e
    exact ⟨rfl, .inl ⟨rfl, rfl⟩⟩
  · injection hv with e1 e2 e3
    subst e1
    subst e3
    have hl : (l.take k).length = k := by simp [hk]
    unfold RowZs
    rw [hl]
    refine ⟨by simp [zsV, hk], .inr ⟨g, c, cur, rfl, hg, hh, by omega, h2, h3, ?_⟩⟩
    have h5 := congrArg (List.take k) h4
    rw [List.take_take, Nat.mul_one, Nat.min_eq_left hk] at h5
    rw [Nat.mul_one, h5]
    simp [zsV]
theorem RowZs.cap {B : Nat} {w : World} {a : Option Addr} {n c : Nat} {l : List Int} (h : RowZs B w (.slice a n c) l) : l.length ≤ c := by
  rcases h.2 with ⟨h0, h1⟩ | ⟨g, c', cur, hv, hg, hh, h1, h2, h3, h4⟩
  · omega
  · injection hv with e1 e2 e3; omega
theorem RowZs.len {B : Nat} {w : World} {a : Option Addr} {n c : Nat} {l : List Int} (h : RowZs B w (.slice a n c) l) : n = l.length := by
  rcases h.2 with ⟨h0, h1⟩ | ⟨g, c', cur, hv, hg, hh, h1, h2, h3, h4⟩
  · injection h0 with e1 e2 e3; omega
  · injection hv with e1 e2 e3
/-- The cells of a list. -/
theorem RowZs.cellZ {B : Nat} {w : World} {v : Value} {l : List Int} (h : RowZs B w v l) {j : Nat} (hj : j < l.length) : ∃ g c, v = .slice (some ⟨g, 0, none⟩) l.length c ∧ B ≤ g ∧ g < w.heap.size ∧ w.cell? ⟨g, j, none⟩ = some (.int .i64 (l.getD j 0)) ∧ w.frozen? ⟨g, j, none⟩ = false := by
  rcases h.2 with ⟨rfl, h0⟩ | ⟨g, cp, cur, rfl, hg, hh, hrest⟩
  · omega
  · refine ⟨g, cp, rfl, hg, (Array.getElem?_eq_some_iff.1 hh).1, ?_, frozen_of_row w g j _ 3 hh⟩
    have hc := h.cellAt j (by omega)
    rw [hc]
    simp [zsV, hj]
/-- A number is stored. -/
theorem RowZs.put {B : Nat} {w : World} {g n c : Nat} {l : List Int} (h : RowZs B w (.slice (some ⟨g, 0, none⟩) n c) l) (j : Nat) (x : Int) : RowZs B (w.setCell ⟨g, j, none⟩ (.int .i64 x)) (.slice (some ⟨g, 0, none⟩) n c) (l.set j x) := by
  have e := h.len
  subst e
  have h1 := (World.ownsRow.stored h j (.int .i64 x)).1
  unfold RowZs
  rw [List.length_set]
  have e2 : zsV (l.set j x) = (zsV l).set j (.int .i64 x) := by simp [zsV, List.map_set]
  rw [e2]
  exact h1

/-- make(numbers[int], n). -/
theorem make_nums (n m : Nat) (h1 : n ≤ m) (h2 : m ≤ 1073741824) (W : World) :
    (Instr.makeSlice 206 (.int .i64 (n : Int)) (.int .i64 (m : Int))).run Tryz.prog W = .ok (.slice (some ⟨W.heap.size, 0, none⟩) n m) (W.alloc (.cells (ic (fun _ => 0) m) 3)) := by
  obtain ⟨i0, hi, hz0, hz1, hz2⟩ := info_parts info3I
  have hM : madeCells (Value.int .i64 0).cells ((m : Int).toNat * i0.size) = ic (fun _ => 0) m := by
    rw [hz1]
    have h3 := toList_madeCells_one (.int .i64 0) m
    apply Array.toList_inj.1
    have e : (ic (fun _ => 0) m).toList = List.replicate m (Value.int .i64 0) := by
      simp [ic, List.map_const', List.length_range]
    rw [e]
    simpa [Value.cells] using h3
  have h := run_make (P := Tryz.prog) W 206 3 i0 (.int .i64 0) Tryz.underlying206 hi hz0 .i64 .i64 (n : Int) (m : Int) (by omega) (by omega) (by rw [hz2]; omega) (by omega)
  rw [hM] at h
  simpa using h

set_option maxHeartbeats 1600000 in
set_option maxRecDepth 100000 in
theorem trimmed_any (v : Value) (l : List Int) (hl : l.length ≤ 1048576) (B : Nat) (w : World) (h : RowZs B w v l) :
    Calls Tryz.prog 207 #[v] w fun e w' => ∃ a n c, v = .slice a n c ∧ e = .returned (.slice a (trimZ l).length c) ∧ RowZs B w (.slice a (trimZ l).length c) (trimZ l) ∧ w = w' := by
  obtain ⟨a, c, hv⟩ := row_form h
  subst hv
  have HR : Hid (RowZs B w (.slice a l.length c) l) := h
  obtain ⟨n, hn⟩ : ∃ n, n = l.length := ⟨_, rfl⟩
  have HN : Hid (n = l.length) := hn
  have hcap : n ≤ c := by have := h.cap; omega
  rw [← hn] at HR hl ⊢
  clear hn h
  go_enter Tryz.func207, Tryz.ntmps207
  go_wp2
  go_loopw [3] (fun i wr => ∃ k : Nat, i = .int .i64 (k : Int) ∧ k ≤ n ∧ Hid (trimZ (l.take k) = trimZ l) ∧ w = wr) (fun i _ => (intOf i).toNat)
  case atStart => exact ⟨n, rfl, Nat.le_refl _, by show _ = _; rw [HN.out, List.take_length], rfl⟩
  case round =>
    obtain ⟨k, rfl, hk, HT, rfl⟩ := hrel
    have hkl : k ≤ l.length := by have := HN.out; omega
    by_cases h0 : 0 < k
    · obtain ⟨j, rfl⟩ : ∃ j, k = j + 1 := ⟨k - 1, by omega⟩
      have hj : j < l.length := by omega
      have HTK : Hid (l.take (j + 1) = l.take j ++ [l.getD j 0]) := by
        show _ = _
        rw [List.take_succ_eq_append_getElem hj]
        simp [hj]
      obtain ⟨g, c', hv, hg, hgs, hz, hf⟩ := HR.out.cellZ hj
      have ha : a = some ⟨g, 0, none⟩ := by injection hv
      subst ha
      have hi1 : ((j + 1 : Nat) : Int) - 1 = (j : Int) := by omega
      have hi2 : (0 : Int) ≤ (j : Int) := by omega
      have hi3 : (j : Int) < (n : Int) := by omega
      have hi4 : ((j + 1 : Nat) : Int) > 0 := by omega
      clear hv hg hgs hf
      by_cases hx : l.getD j 0 = 0
      · rw [hx] at hz HTK
        have HT2 : Hid (trimZ (l.take j) = trimZ l) := by
          show _ = _
          rw [← HT.out, HTK.out, trimZ_zero]
        clear HT HTK hx
        go_wp2
        go_roundw
        case rel => exact ⟨j, by go_num, by omega, HT2, trivial⟩
        case measure => simp [intOf]
      · have HE : Hid (l.take (j + 1) = trimZ l) := by
          show _ = _
          rw [← HT.out, HTK.out, trimZ_some _ hx]
        have hx' : (l.getD j 0 == 0) = false := by rw [beq_eq_false_iff_ne]; exact hx
        have HL : Hid ((trimZ l).length = j + 1) := by
          show _ = _
          rw [← HE.out, List.length_take]
          omega
        have HR2 : Hid (RowZs B w (.slice (some ⟨g, 0, none⟩) (j + 1) c) (trimZ l)) := by
          have := HR.out.take (j + 1) (by omega)
          rwa [HE.out] at this
        generalize l.getD j 0 = z at *
        have hcc : ((j + 1 : Nat) : Int) ≤ (c : Int) := by omega
        clear HT HTK
        go_wp2
        go_ret
        exact ⟨_, _, _, rfl, by rw [HL.out]; rfl, by rw [HL.out]; exact HR2.out, rfl⟩
    · obtain rfl : k = 0 := by omega
      have HE : Hid (trimZ l = []) := by show _ = _; rw [← HT.out]; rfl
      have HR2 : Hid (RowZs B w (.slice a 0 c) []) := by
        have := HR.out.take 0 (by omega)
        exact this
      have hcc : (0 : Int) ≤ (c : Int) := by omega
      clear HT
      go_wp2
      go_ret
      exact ⟨_, _, _, rfl, by rw [HE.out]; rfl, by rw [HE.out]; exact HR2.out, rfl⟩

theorem map_zls (l : List Int) : zls (fun j => sca (l.getD j 0)) l.length = l.map sca := by
  apply List.ext_getElem
  · simp [zls]
  · intro i h1 h2
    have h3 : i < l.length := by simpa using h2
    simp [zls, h3]

set_option maxHeartbeats 1600000 in
set_option maxRecDepth 100000 in
theorem each_any (v : Value) (l : List Int) (hl : l.length ≤ 1048576) (w : World) (h : ZAt w w.heap.size v l) :
    Calls Tryz.prog 213 #[v, .func (Fn.func 128) #[] #[]] w fun e w' => ∃ u, e = .returned u ∧ RowZs w.heap.size w' u (l.map sca) ∧ Below w.heap.size w w' := by
  obtain ⟨a, cp, rfl, hA⟩ := h
  have HA : Hid (IntsAt w a l.length w.heap.size (fun j => l.getD j 0)) := hA
  have HM : Hid (zls (fun j => sca (l.getD j 0)) l.length = l.map sca) := map_zls l
  obtain ⟨n, hn⟩ : ∃ n, n = l.length := ⟨_, rfl⟩
  rw [← hn] at HA HM hl ⊢
  have hmk : ∀ W : World, (Instr.makeSlice 206 (.int .i64 (n : Int)) (.int .i64 (n : Int))).run Tryz.prog W = .ok (.slice (some ⟨W.heap.size, 0, none⟩) n n) (W.alloc (.cells (ic (fun _ => 0) n) 3)) := fun W => make_nums n n (Nat.le_refl _) (by omega) W
  have H0 : Hid (RowI (w.alloc (.cells (ic (fun _ => 0) n) 3)) w.heap.size n (upTo (fun j => sca (l.getD j 0)) 0)) := (rowI_new w (fun _ => 0) n).congr fun j _ => by unfold upTo; rw [if_neg (by omega)]
  generalize ic (fun _ => 0) n = M at hmk H0
  clear hn hA
  go_enter Tryz.func213, Tryz.ntmps213
  go_wp2
  go_loopw [13] (fun i wr => ∃ k : Nat, i = .int .i64 (k : Int) ∧ k ≤ n ∧ Hid (RowI wr w.heap.size n (upTo (fun j => sca (l.getD j 0)) k)) ∧ Hid (Below w.heap.size w wr)) (fun i _ => n - (intOf i).toNat)
  case atStart => exact ⟨0, rfl, Nat.zero_le _, H0, (Below.refl _ _).alloc (Nat.le_refl _) _⟩
  case round =>
    obtain ⟨k, rfl, hk, HR, HB⟩ := hrel
    clear hmk H0
    by_cases hlt : k < n
    · have hlt' : (k : Int) < (n : Int) := by omega
      have hk0 : (0 : Int) ≤ (k : Int) := by omega
      obtain ⟨b, off, rfl, hb, hz⟩ := (HA.out.on HB.out) k hlt
      replace hz : wr.cell? ⟨b, off + k, none⟩ = some (.int .i64 (l.getD k 0)) := hz
      have HS : Hid (∀ w, Calls Tryz.prog 128 #[.int .i64 (l.getD k 0)] w fun e w' => e = .returned (.int .i64 (sca (l.getD k 0))) ∧ w = w') := iScOf_any _
      have hc := HR.out.cell hlt
      have hf := HR.out.free k
      have N := HR.out.set k (sca (l.getD k 0))
      have NB := HB.out.setCell (p := ⟨w.heap.size, k, none⟩) (Nat.le_refl _) (.int .i64 (sca (l.getD k 0)))
      have hu : (fun i => if i = k then sca (l.getD k 0) else upTo (fun j => sca (l.getD j 0)) k i) = upTo (fun j => sca (l.getD j 0)) (k + 1) := upTo_next _ _
      rw [hu] at N
      have HN2 : Hid (RowI (wr.setCell ⟨w.heap.size, k, none⟩ (.int .i64 (sca (l.getD k 0)))) w.heap.size n (upTo (fun j => sca (l.getD j 0)) (k + 1)) ∧ Below w.heap.size w (wr.setCell ⟨w.heap.size, k, none⟩ (.int .i64 (sca (l.getD k 0))))) := ⟨N, NB⟩
      obtain ⟨F, hF⟩ : ∃ F, F = upTo (fun j => sca (l.getD j 0)) (k + 1) := ⟨_, rfl⟩
      have HF : Hid (F = upTo (fun j => sca (l.getD j 0)) (k + 1)) := hF
      rw [← hF] at HN2
      clear hF hu N NB hb
      generalize upTo (fun j => sca (l.getD j 0)) k k = old at hc
      generalize sca (l.getD k 0) = y at HS HN2
      generalize l.getD k 0 = x at hz HS
      clear HA HR HB HM
      go_wp2_with (go_at_call 128; refine (HS.out _).mono ?_; rintro e wz ⟨rfl, rfl⟩)
      go_roundw
      case rel => exact ⟨k + 1, by go_num, hlt, HF.out ▸ HN2.out.1, HN2.out.2⟩
      case measure => simp [intOf]; omega
    · have hlt' : ¬ (k : Int) < (n : Int) := by omega
      obtain rfl : n = k := by omega
      go_wp2
      go_ret
      refine ⟨_, rfl, ?_, HB.out⟩
      rw [← HM.out]
      exact (HR.out.congr fun j hj => upTo_in _ hj).rowZ (Nat.le_refl _) hl

theorem iTrim_any (v : Value) (l : List Int) (hl : l.length ≤ 1048576) (w : World) (h : ZAt w w.heap.size v l) : Calls Tryz.prog 208 #[v] w fun e w' => ∃ u, e = .returned u ∧ ZOwn w.heap.size w'.heap.size w' u (pTrim l) ∧ Below w.heap.size w w' := by
  have HE : Hid (∀ W : World, W = w → Calls Tryz.prog 213 #[v, .func (Fn.func 128) #[] #[]] W fun e w' => ∃ u, e = .returned u ∧ RowZs W.heap.size w' u (l.map sca) ∧ Below W.heap.size W w') := fun W e => by subst e; exact each_any v l hl _ h
  have HT : Hid (∀ (u : Value) (B : Nat) (W : World), RowZs B W u (l.map sca) → Calls Tryz.prog 207 #[u] W fun e w' => ∃ x, e = .returned x ∧ RowZs B W x (pTrim l) ∧ W = w') := fun u B W hu => (trimmed_any u (l.map sca) (by simpa using hl) B W hu).mono fun e w' ⟨a, n, c, h1, h2, h3, h4⟩ => ⟨_, h2, h3, h4⟩
  clear h hl
  go_enter Tryz.func208, Tryz.ntmps208
  go_wp2_with (first
    | (go_at_call 213; refine (HE.out _ rfl).mono ?_; rintro e w2 ⟨u, rfl, hu, hb⟩)
    | (go_at_call 207; refine (HT.out _ _ _ hu).mono ?_; rintro e w3 ⟨x, rfl, hx, rfl⟩))
  go_ret
  exact ⟨_, rfl, ZOwn.of hx, hb⟩

end Go.Proofs.YthnahalboomkoaaGreat

/-
  The walk of the specification's product of polynomials.
  (-DROP-: what the seat lacks is left out.)
-/
namespace Go.Proofs.YthnahalboomkoaaGreat
open Go.RowKit

theorem rowZ_none (w : World) (n : Nat) (hn : n ≤ 1048576) : RowZs w.heap.size (w.alloc (.cells (ic (fun _ => 0) n) 3)) (.slice (some ⟨w.heap.size, 0, none⟩) n n) (List.replicate n 0) := by
  have h := (rowI_new w (fun _ => 0) n).rowZ (Nat.le_refl _) hn
  have e : zls (fun _ => 0) n = List.replicate n 0 := by simp [zls, List.map_const']
  rwa [e] at h
theorem RowZs.heap {B : Nat} {w w' : World} {v : Value} {l : List Int} (h : RowZs B w v l) (e : w'.heap = w.heap) : RowZs B w' v l :=
  owns_same (lo := 0) (hi := w.heap.size) h (fun k _ _ => by rw [e]) (fun k hk => ⟨Nat.zero_le _, (h.lt k hk).2⟩)
theorem cell_heap {w w' : World} {p : Addr} {x : Option Value} (h : w.cell? p = x) (e : w'.heap = w.heap) : w'.cell? p = x := (World.cell?_of_block (by rw [e])).trans h
theorem free_heap {w w' : World} {p : Addr} (h : w.frozen? p = false) (e : w'.heap = w.heap) : w'.frozen? p = false := by
  rw [← h]
  unfold World.frozen?
  rw [e]

set_option maxHeartbeats 3200000 in
set_option maxRecDepth 100000 in
theorem sQMul_any (v u : Value) (l m : List Int) (hl : l.length ≤ 1048576) (hm : m.length ≤ 1048576) (w : World) (h : ZAt w w.heap.size v l) (h2 : ZAt w w.heap.size u m) : Calls Tryz.prog 152 #[v, u] w fun e w' => ∃ u, e = .returned u ∧ ZOwn w.heap.size w'.heap.size w' u (qMul l m) ∧ Below w.heap.size w w' := by
  obtain ⟨a, cp, rfl, hA⟩ := h
  obtain ⟨b, cq, rfl, hB⟩ := h2
  have HA : Hid (IntsAt w a l.length w.heap.size (fun j => l.getD j 0)) := hA
  have HB : Hid (IntsAt w b m.length w.heap.size (fun j => m.getD j 0)) := hB
  clear hA hB
  by_cases hbig : l.length = 0 ∨ m.length = 0 ∨ 64 < l.length ∨ 64 < m.length
  · have HE : Hid (qMul l m = []) := by
      show _ = _
      rcases hbig with h | h | h
      · rw [List.length_eq_zero_iff.1 h, qMul_left]
      · rw [List.length_eq_zero_iff.1 h, qMul_right]
      · unfold qMul; rw [if_pos h]
    generalize hla : l.length = la at *
    generalize hlb : m.length = lb at *
    clear hla hlb HA HB
    by_cases h1 : la = 0
    · subst h1
      clear hbig
      go_enter Tryz.func152, Tryz.ntmps152
      go_wp2
      go_ret
      exact ⟨_, rfl, by rw [HE.out]; exact ZOwn.of (World.ownsRow_lit _ _ _ (Nat.le_refl _) (by simp [maxLen]) (by simp)), (Below.refl _ _).alloc (Nat.le_refl _) _⟩
    · have h1' : ((la : Int) == 0) = false := by rw [beq_eq_false_iff_ne]; omega
      by_cases h2 : lb = 0
      · subst h2
        clear hbig
        go_enter Tryz.func152, Tryz.ntmps152
        go_wp2
        go_ret
        exact ⟨_, rfl, by rw [HE.out]; exact ZOwn.of (World.ownsRow_lit _ _ _ (Nat.le_refl _) (by simp [maxLen]) (by simp)), (Below.refl _ _).alloc (Nat.le_refl _) _⟩
      · have h2' : ((lb : Int) == 0) = false := by rw [beq_eq_false_iff_ne]; omega
        by_cases h3 : 64 < la
        · have h3' : (la : Int) > 64 := by omega
          clear hbig h1 h2
          go_enter Tryz.func152, Tryz.ntmps152
          go_wp2
          go_ret
          exact ⟨_, rfl, by rw [HE.out]; exact ZOwn.of (World.ownsRow_lit _ _ _ (Nat.le_refl _) (by simp [maxLen]) (by simp)), (Below.refl _ _).alloc (Nat.le_refl _) _⟩
        · have h3' : ¬ (la : Int) > 64 := by omega
          have h4' : (lb : Int) > 64 := by omega
          clear hbig h1 h2
          go_enter Tryz.func152, Tryz.ntmps152
          go_wp2
          go_ret
          exact ⟨_, rfl, by rw [HE.out]; exact ZOwn.of (World.ownsRow_lit _ _ _ (Nat.le_refl _) (by simp [maxLen]) (by simp)), (Below.refl _ _).alloc (Nat.le_refl _) _⟩
  · have hl0 : ((l.length : Int) == 0) = false := by rw [beq_eq_false_iff_ne]; omega
    have hm0 : ((m.length : Int) == 0) = false := by rw [beq_eq_false_iff_ne]; omega
    have hl64 : ¬ (l.length : Int) > 64 := by omega
    have hm64 : ¬ (m.length : Int) > 64 := by omega
    have hlm : l.length ≤ 64 ∧ m.length ≤ 64 ∧ 0 < l.length ∧ 0 < m.length := by omega
    obtain ⟨n, hn⟩ : ∃ n, n = l.length + m.length - 1 := ⟨_, rfl⟩
    have HE : Hid (pTrim (mulR m (l.drop 0) 0 (List.replicate n 0)) = qMul l m) := by
      show _ = _
      rw [hn]
      exact qMul_short l m (by omega) (by omega)
    have HD : Hid (∀ k, k < l.length → l.drop k = l.getD k 0 :: l.drop (k + 1)) := fun k hk => drop_at hk
    have HD0 : Hid (l.drop l.length = []) := by show _ = _; simp
    have hmk : ∀ W : World, (Instr.makeSlice 27 (.int .i64 (n : Int)) (.int .i64 (n : Int))).run Tryz.prog W = .ok (.slice (some ⟨W.heap.size, 0, none⟩) n n) (W.alloc (.cells (ic (fun _ => 0) n) 3)) := fun W => make_ints n n (Nat.le_refl _) (by omega) W
    have H0 : Hid (RowZs w.heap.size (w.alloc (.cells (ic (fun _ => 0) n) 3)) (.slice (some ⟨w.heap.size, 0, none⟩) n n) (List.replicate n 0)) := rowZ_none w n (by omega)
    generalize ic (fun _ => 0) n = M at hmk H0
    have HMT : Hid (∀ (p : List Int) (s : Nat) (k : Int), addSh p s k (m.take m.length) = addSh p s k m) := fun p s k => by rw [List.take_length]
    have HX : Hid (∀ (p : List Int) (s : Nat) (k : Int) (t : Nat), t < m.length → s + m.length ≤ p.length → (addSh p s k (m.take t)).getD (s + t) 0 = p.getD (s + t) 0) := fun p s k t ht hs => addSh_new p s k m hs ht
    have HY : Hid (∀ (p : List Int) (s : Nat) (k : Int) (t : Nat), t < m.length → s + m.length ≤ p.length → (addSh p s k (m.take t)).set (s + t) (scAdd (p.getD (s + t) 0) (scMul k (m.getD t 0))) = addSh p s k (m.take (t + 1))) := fun p s k t ht hs => addSh_next p s k m hs ht
    generalize hla : l.length = la at *
    generalize hlb : m.length = lb at *
    have hsum : (la : Int) + (lb : Int) - 1 = (n : Int) := by omega
    have hw1 : IntKind.i64.wrap ((la : Int) + (lb : Int)) = (la : Int) + (lb : Int) := IntWalk.i64_in _ (by omega)
    have hw2 : IntKind.i64.wrap (n : Int) = (n : Int) := IntWalk.i64_in _ (by omega)
    have hnn : n + 1 ≤ la + lb ∧ la + lb ≤ n + 1 := by omega
    clear hla hlb hbig hn
    go_enter Tryz.func152, Tryz.ntmps152
    go_wp2
    go_loopw [6] (fun i wr => ∃ (k : Nat) (p : List Int), i = .int .i64 (k : Int) ∧ k ≤ la ∧ Hid (p.length = n) ∧ Hid (pTrim (mulR m (l.drop k) k p) = qMul l m) ∧ Hid (RowZs w.heap.size wr (.slice (some ⟨w.heap.size, 0, none⟩) n n) p) ∧ Hid (Below w.heap.size w wr)) (fun i _ => la - (intOf i).toNat)
    case atStart => exact ⟨0, _, rfl, Nat.zero_le _, by show _ = _; simp, HE, H0, (Below.refl _ _).alloc (Nat.le_refl _) _⟩
    case round =>
      obtain ⟨k, p, rfl, hk, HPL, HQ, HR, HW⟩ := hrel
      clear hmk H0 HE hsum hw1 hw2
      by_cases hlt : k < la
      · have hlt' : (k : Int) < (la : Int) := by omega
        have hk0 : (0 : Int) ≤ (k : Int) := by omega
        have HQ2 : Hid (pTrim (mulR m (l.drop (k + 1)) (k + 1) (addSh p k (l.getD k 0) (m.take lb))) = qMul l m) := by
          show _ = _
          rw [← HQ.out, HD.out k hlt, mulR, HMT.out]
        have HI : Hid (RowZs w.heap.size wr (.slice (some ⟨w.heap.size, 0, none⟩) n n) (addSh p k (l.getD k 0) (m.take 0))) := by
          show RowZs _ _ _ _
          rw [List.take_zero, addSh_nil]
          exact HR.out
        generalize wr = w0 at *
        clear HR HQ
        go_wp2
        go_loopw [7] (fun i wr => ∃ (t : Nat), i = .int .i64 (t : Int) ∧ t ≤ lb ∧ Hid (RowZs w.heap.size wr (.slice (some ⟨w.heap.size, 0, none⟩) n n) (addSh p k (l.getD k 0) (m.take t))) ∧ Hid (Below w.heap.size w wr)) (fun i _ => lb - (intOf i).toNat)
        case atStart => exact ⟨0, rfl, Nat.zero_le _, HI, HW⟩
        case round =>
          obtain ⟨t, rfl, ht, HR, HV⟩ := hrel
          clear HI HW
          by_cases htl : t < lb
          · have htl' : (t : Int) < (lb : Int) := by omega
            have ht0 : (0 : Int) ≤ (t : Int) := by omega
            have hpn : k + lb ≤ p.length := by rw [HPL.out]; omega
            have hxt := HX.out p k (l.getD k 0) t htl hpn
            have hyt := HY.out p k (l.getD k 0) t htl hpn
            generalize hii : k + t = i at hxt hyt
            have hst : (k : Int) + (t : Int) = (i : Int) := by omega
            have hst0 : (0 : Int) ≤ (i : Int) := by omega
            have hst1 : (i : Int) < (n : Int) := by omega
            have hwr : IntKind.i64.wrap (i : Int) = (i : Int) := IntWalk.i64_in _ (by omega)
            have hiL : i < n := by omega
            clear hii hpn
            obtain ⟨g', c', hv, hg1, hg2, hz, hf⟩ := HR.out.cellZ (j := i) (by rw [addSh_len, HPL.out]; exact hiL)
            rw [hxt] at hz
            have hgg : g' = w.heap.size := by injection hv with e1; injection e1 with e1; injection e1 with e1; exact e1.symm
            subst hgg
            obtain ⟨ba, offa, rfl, hba, hza⟩ := (HA.out.on HV.out) k hlt
            obtain ⟨bb, offb, rfl, hbb, hzb⟩ := (HB.out.on HV.out) t htl
            replace hza : wr.cell? ⟨ba, offa + k, none⟩ = some (.int .i64 (l.getD k 0)) := hza
            replace hzb : wr.cell? ⟨bb, offb + t, none⟩ = some (.int .i64 (m.getD t 0)) := hzb
            have CM : Hid (∀ w, Calls Tryz.prog 81 #[.int .i64 (l.getD k 0), .int .i64 (m.getD t 0)] w fun e w' => e = .returned (.int .i64 (scMul (l.getD k 0) (m.getD t 0))) ∧ w = w') := sScMul_any _ _
            have CA : Hid (∀ w, Calls Tryz.prog 18 #[.int .i64 (p.getD i 0), .int .i64 (scMul (l.getD k 0) (m.getD t 0))] w fun e w' => e = .returned (.int .i64 (scAdd (p.getD i 0) (scMul (l.getD k 0) (m.getD t 0)))) ∧ w = w') := sScAdd_any _ _
            obtain ⟨L, hL⟩ : ∃ L, L = addSh p k (l.getD k 0) (m.take t) := ⟨_, rfl⟩
            have HR2 : Hid (RowZs w.heap.size wr (.slice (some ⟨w.heap.size, 0, none⟩) n n) L) := by rw [hL]; exact HR
            rw [← hL] at hyt
            obtain ⟨L2, hL2⟩ : ∃ L, L = addSh p k (l.getD k 0) (m.take (t + 1)) := ⟨_, rfl⟩
            have HL2 : Hid (L2 = addSh p k (l.getD k 0) (m.take (t + 1))) := hL2
            rw [← hL2] at hyt
            have HNY : Hid (L.set i (scAdd (p.getD i 0) (scMul (l.getD k 0) (m.getD t 0))) = L2) := hyt
            have HC : Hid (∀ wz : World, wz.heap = wr.heap → wz.cell? ⟨w.heap.size, i, none⟩ = some (.int .i64 (p.getD i 0)) ∧ wz.frozen? ⟨w.heap.size, i, none⟩ = false ∧ wz.cell? ⟨ba, offa + k, none⟩ = some (.int .i64 (l.getD k 0)) ∧ wz.cell? ⟨bb, offb + t, none⟩ = some (.int .i64 (m.getD t 0))) := fun wz hwz => ⟨cell_heap hz hwz, free_heap hf hwz, cell_heap hza hwz, cell_heap hzb hwz⟩
            clear hyt hL hL2 hz hf hza hzb hxt hv hg1 hg2 HR
            generalize scAdd (p.getD i 0) (scMul (l.getD k 0) (m.getD t 0)) = y at CA HNY
            generalize scMul (l.getD k 0) (m.getD t 0) = q at CM CA
            generalize p.getD i 0 = x at HC CA
            generalize hlk : l.getD k 0 = lk at HC CM
            generalize m.getD t 0 = z at CM HC
            rw [hlk] at HL2 HQ2
            clear HX HY HA HB HD HD0 HMT
            go_wp2_with fail
            refine wp_region_last [(0, false), (1, false), (2, false), (3, false), (4, false), (5, false), (6, false), (7, false), (8, false), (9, false), (10, false), (11, false), (12, false), (13, false), (14, false), (15, false), (16, false), (17, false), (18, true), (19, true), (20, false)] 21 (fun wz => wz.heap = wr.heap) mixesSc (by kernel_rfl) rfl ?_
            repeat (refine ord_float rfl rfl (fun K hK => ⟨_, (fun w' hw => by have q0 := (HC.out w' hw).1; have q1 :=  (HC.out w' hw).2.2.1; have q2 :=  (HC.out w' hw).2.2.2; go_simp; exact rfl), ?_⟩); go_simp; refine hK _ ?_; clear hK K)
            refine ord_call rfl rfl (fun K hK => ⟨_, _, (by go_simp <;> first | exact rfl | exact ⟨rfl, rfl⟩), ?_⟩)
            refine (CM.out _).mono ?_
            rintro e u1 ⟨rfl, hu1⟩
            have T1 : u1.heap = wr.heap := (by rw [← hu1]; rfl)
            refine ⟨_, rfl, T1, ?_⟩
            go_simp
            refine hK _ _ ?_
            clear hK K
            repeat (refine ord_float rfl rfl (fun K hK => ⟨_, (fun w' hw => by have q0 := (HC.out w' hw).1; go_simp; exact rfl), ?_⟩); go_simp; refine hK _ ?_; clear hK K)
            refine ord_call rfl rfl (fun K hK => ⟨_, _, (by go_simp <;> first | exact rfl | exact ⟨rfl, rfl⟩), ?_⟩)
            refine (CA.out _).mono ?_
            rintro e u2 ⟨rfl, hu2⟩
            have T2 : u2.heap = wr.heap := (congrArg World.heap hu2.symm).trans T1
            refine ⟨_, rfl, T2, ?_⟩
            go_simp
            refine hK _ _ ?_
            clear hK K
            repeat (refine ord_float rfl rfl (fun K hK => ⟨_, (fun w' hw => by have q0 := (HC.out w' hw).1; go_simp; exact rfl), ?_⟩); go_simp; refine hK _ ?_; clear hK K)
            refine ord_nil ?_
            have hc2 := (HC.out u2 T2).1
            have hf2 := (HC.out u2 T2).2.1
            refine last_store rfl rfl rfl (u2.setCell ⟨w.heap.size, i, none⟩ (.int .i64 y)) (by go_simp <;> rfl) ?_
            have HR3 : Hid (RowZs w.heap.size (u2.setCell ⟨w.heap.size, i, none⟩ (.int .i64 y)) (.slice (some ⟨w.heap.size, 0, none⟩) n n) L2) := by
              show RowZs _ _ _ _
              rw [← HNY.out]
              exact (HR2.out.heap T2).put i y
            have HV3 : Hid (Below w.heap.size w (u2.setCell ⟨w.heap.size, i, none⟩ (.int .i64 y))) := by
              subst hu1 hu2
              exact HV.out.drew.setCell (Nat.le_refl _) _
            generalize u2.setCell ⟨w.heap.size, i, none⟩ (.int .i64 y) = V at HR3 HV3 ⊢
            clear hu1 hu2 T1 T2 hc2 hf2 HC HR2 HNY HV
            go_wp2
            go_roundw
            case rel => exact ⟨t + 1, by go_num, htl, by rw [← HL2.out]; exact HR3, HV3⟩
            case measure => simp [intOf]; omega
          · have htl' : ¬ (t : Int) < (lb : Int) := by omega
            obtain rfl : lb = t := by omega
            have HPL2 : Hid ((addSh p k (l.getD k 0) (m.take lb)).length = n) := by show _ = _; rw [addSh_len, HPL.out]
            go_wp2
            go_roundw
            case rel => exact ⟨k + 1, _, by go_num, hlt, HPL2, HQ2, HR, HV⟩
            case measure => simp [intOf]; omega
      · have hlt' : ¬ (k : Int) < (la : Int) := by omega
        obtain rfl : la = k := by omega
        have CT : Hid (Calls Tryz.prog 193 #[.slice (some ⟨w.heap.size, 0, none⟩) n n] wr fun e w' => ∃ x, e = .returned x ∧ ZOwn wr.heap.size w'.heap.size w' x (qMul l m) ∧ Below wr.heap.size wr w') := by
          refine (sTrim_any _ p (by rw [HPL.out]; omega) wr (ZOwn.of HR.out).at).mono ?_
          rintro e w' ⟨x, h2, h3, h4⟩
          refine ⟨x, h2, ?_, h4⟩
          have h5 := HQ.out
          rw [HD0.out] at h5
          rw [← h5]
          exact h3
        clear HQ HR
        go_wp2_with (go_at_call 193; refine CT.out.mono ?_; rintro e w3 ⟨x, rfl, hx, hb3⟩)
        go_ret
        exact ⟨_, rfl, hx.wide HW.out.size (Nat.le_refl _), HW.out.trans (hb3.mono HW.out.size)⟩

end Go.Proofs.YthnahalboomkoaaGreat
