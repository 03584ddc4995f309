/-
  The walks of systems: whether they are right, the program's; what satisfies them, the program's and the specification's.
  (-DROP-: what the seat lacks is left out.)
-/
import Derived.Test.YthnahalboomkoaaGreatRwSys

namespace Go.Proofs.YthnahalboomkoaaGreat
open Go.RowKit

set_option maxHeartbeats 1600000 in
set_option maxRecDepth 100000 in
theorem iIsOf_any (a0 : Option Addr) (c0 : Nat) (l0 : List Int) (h0 : l0.length ≤ 9223372036854775807) (a1 : Option Addr) (c1 : Nat) (l1 : List Int) (h1 : l1.length ≤ 9223372036854775807) (a2 : Option Addr) (c2 : Nat) (l2 : List Int) (h2 : l2.length ≤ 9223372036854775807) (m : Int) (w : World) (A0 : IntsAt w a0 l0.length w.heap.size (fun j => l0.getD j 0)) (A1 : IntsAt w a1 l1.length w.heap.size (fun j => l1.getD j 0)) (A2 : IntsAt w a2 l2.length w.heap.size (fun j => l2.getD j 0)) :
    Calls Tryz.prog 132 #[.agg #[.slice a0 l0.length c0, .slice a1 l1.length c1, .slice a2 l2.length c2], .int .i64 m] w fun e w' => e = .returned (.bool (wide l0 m && (wide l1 m && wide l2 m))) ∧ Below w.heap.size w w' := by
  obtain ⟨W, hW, hb, hx⟩ := box1 w 146 #[.slice a0 l0.length c0, .slice a1 l1.length c1, .slice a2 l2.length c2]
  have q0 := hx.cell 0
  have q1 := hx.cell 1
  have q2 := hx.cell 2
  have W0 : Hid (∀ w', Below W.heap.size W w' → Calls Tryz.prog 52 #[.slice a0 l0.length c0, .int .i64 m] w' fun e w'' => e = .returned (.bool (wide l0 m)) ∧ Below w'.heap.size w' w'') := fun w' hw => iWide_any a0 c0 l0 m h0 w' ((A0.on (hb.trans (hw.mono hb.size))).wide (Nat.le_trans hb.size hw.size))
  have W1 : Hid (∀ w', Below W.heap.size W w' → Calls Tryz.prog 52 #[.slice a1 l1.length c1, .int .i64 m] w' fun e w'' => e = .returned (.bool (wide l1 m)) ∧ Below w'.heap.size w' w'') := fun w' hw => iWide_any a1 c1 l1 m h1 w' ((A1.on (hb.trans (hw.mono hb.size))).wide (Nat.le_trans hb.size hw.size))
  have W2 : Hid (∀ w', Below W.heap.size W w' → Calls Tryz.prog 52 #[.slice a2 l2.length c2, .int .i64 m] w' fun e w'' => e = .returned (.bool (wide l2 m)) ∧ Below w'.heap.size w' w'') := fun w' hw => iWide_any a2 c2 l2 m h2 w' ((A2.on (hb.trans (hw.mono hb.size))).wide (Nat.le_trans hb.size hw.size))
  generalize wide l0 m = p0 at W0
  generalize wide l1 m = p1 at W1
  generalize wide l2 m = p2 at W2
  generalize l0.length = n0 at *
  generalize l1.length = n1 at *
  generalize l2.length = n2 at *
  clear A0 A1 A2
  cases p0
  · skip
    go_enter Tryz.func132, Tryz.ntmps132
    go_wp2_with fail
    clear hW
    refine (W0.out _ (Below.refl _ _)).mono ?_
    rintro e w1 ⟨rfl, b1⟩
    have hx1 := hx.on b1 hx.lt
    have r1 := hx1.cell 1
    go_wp2
    go_ret
    exact ⟨rfl, below_then hb b1⟩
  · cases p1
    · skip
      go_enter Tryz.func132, Tryz.ntmps132
      go_wp2_with fail
      clear hW
      refine (W0.out _ (Below.refl _ _)).mono ?_
      rintro e w1 ⟨rfl, b1⟩
      have hx1 := hx.on b1 hx.lt
      have r1 := hx1.cell 1
      go_wp2_with fail
      refine (W1.out _ b1).mono ?_
      rintro e w2 ⟨rfl, b2⟩
      have b3 := below_then b1 b2
      have hx2 := hx.on b3 hx.lt
      have r2 := hx2.cell 2
      go_wp2
      go_ret
      exact ⟨rfl, below_then hb b3⟩
    · cases p2
      · skip
        go_enter Tryz.func132, Tryz.ntmps132
        go_wp2_with fail
        clear hW
        refine (W0.out _ (Below.refl _ _)).mono ?_
        rintro e w1 ⟨rfl, b1⟩
        have hx1 := hx.on b1 hx.lt
        have r1 := hx1.cell 1
        go_wp2_with fail
        refine (W1.out _ b1).mono ?_
        rintro e w2 ⟨rfl, b2⟩
        have b3 := below_then b1 b2
        have hx2 := hx.on b3 hx.lt
        have r2 := hx2.cell 2
        go_wp2_with fail
        refine (W2.out _ b3).mono ?_
        rintro e w3 ⟨rfl, b4⟩
        have b5 := below_then b3 b4
        go_wp2
        go_ret
        exact ⟨rfl, below_then hb b5⟩
      · skip
        go_enter Tryz.func132, Tryz.ntmps132
        go_wp2_with fail
        clear hW
        refine (W0.out _ (Below.refl _ _)).mono ?_
        rintro e w1 ⟨rfl, b1⟩
        have hx1 := hx.on b1 hx.lt
        have r1 := hx1.cell 1
        go_wp2_with fail
        refine (W1.out _ b1).mono ?_
        rintro e w2 ⟨rfl, b2⟩
        have b3 := below_then b1 b2
        have hx2 := hx.on b3 hx.lt
        have r2 := hx2.cell 2
        go_wp2_with fail
        refine (W2.out _ b3).mono ?_
        rintro e w3 ⟨rfl, b4⟩
        have b5 := below_then b3 b4
        go_wp2
        go_ret
        exact ⟨rfl, below_then hb b5⟩

set_option maxHeartbeats 1600000 in
set_option maxRecDepth 100000 in
theorem iSysOk_any (wi pu : Int) (_hw : (Lit.int .i64 wi).wf = true) (a : Option Addr) (n c : Nat) (hn : n ≤ 9223372036854775807) (ls : List (List Int)) (hz : ∀ j, (ls.getD j []).length ≤ 9223372036854775807) (w : World) (hA : NAt 3 w w.heap.size (.slice a n c) n ls) :
    Calls Tryz.prog 57 #[sysV wi pu (.slice a n c)] w fun e w' => e = .returned (.bool (sysOk wi pu n ls)) ∧ Below w.heap.size w w' := by
  have HA : Hid (NAt 3 w w.heap.size (.slice a n c) n ls) := hA
  have hlen : Hid (ls.length = n * 3) := hA.1
  have HZ : Hid (∀ j, (ls.getD j []).length ≤ 9223372036854775807) := hz
  clear hA hz
  obtain ⟨W, hW, hb, hx⟩ := box1 w 26 #[.int .i64 wi, .int .i64 pu, .slice a n c]
  have q0 := hx.cell 0
  have q1 := hx.cell 1
  have q2 := hx.cell 2
  unfold sysV
  have HE : Hid (sysOk wi pu n ls = (decide (1 ≤ wi ∧ wi ≤ 20) && (decide (0 ≤ pu ∧ pu ≤ wi - 1) && (decide (1 ≤ (n : Int) ∧ (n : Int) ≤ 16) && ls.all fun l => wide l wi)))) := rfl
  by_cases g0 : wi < 1
  · have HF : Hid (sysOk wi pu n ls = false) := by show _ = _; rw [HE.out, decide_eq_false (by omega), Bool.false_and]
    go_enter Tryz.func57, Tryz.ntmps57
    go_wp2
    go_ret
    exact ⟨by rw [HF.out]; rfl, hb⟩
  by_cases g1 : 20 < wi
  · have HF : Hid (sysOk wi pu n ls = false) := by show _ = _; rw [HE.out, decide_eq_false (by omega), Bool.false_and]
    go_enter Tryz.func57, Tryz.ntmps57
    go_wp2
    go_ret
    exact ⟨by rw [HF.out]; rfl, hb⟩
  by_cases g2 : pu < 0
  · have HF : Hid (sysOk wi pu n ls = false) := by show _ = _; rw [HE.out, decide_eq_false (p := 0 ≤ pu ∧ pu ≤ wi - 1) (by omega), Bool.false_and, Bool.and_false]
    go_enter Tryz.func57, Tryz.ntmps57
    go_wp2
    go_ret
    exact ⟨by rw [HF.out]; rfl, hb⟩
  by_cases g3 : wi ≤ pu
  · have HF : Hid (sysOk wi pu n ls = false) := by show _ = _; rw [HE.out, decide_eq_false (p := 0 ≤ pu ∧ pu ≤ wi - 1) (by omega), Bool.false_and, Bool.and_false]
    go_enter Tryz.func57, Tryz.ntmps57
    go_wp2
    go_ret
    exact ⟨by rw [HF.out]; rfl, hb⟩
  by_cases g4 : (n : Int) < 1
  · have HF : Hid (sysOk wi pu n ls = false) := by show _ = _; rw [HE.out, decide_eq_false (p := 1 ≤ (n : Int) ∧ (n : Int) ≤ 16) (by omega), Bool.false_and, Bool.and_false, Bool.and_false]
    go_enter Tryz.func57, Tryz.ntmps57
    go_wp2
    go_ret
    exact ⟨by rw [HF.out]; rfl, hb⟩
  by_cases g5 : (16 : Int) < (n : Int)
  · have HF : Hid (sysOk wi pu n ls = false) := by show _ = _; rw [HE.out, decide_eq_false (p := 1 ≤ (n : Int) ∧ (n : Int) ≤ 16) (by omega), Bool.false_and, Bool.and_false, Bool.and_false]
    go_enter Tryz.func57, Tryz.ntmps57
    go_wp2
    go_ret
    exact ⟨by rw [HF.out]; rfl, hb⟩
  have HE2 : Hid (sysOk wi pu n ls = ls.all fun l => wide l wi) := by
    show _ = _
    rw [HE.out, decide_eq_true (p := 1 ≤ wi ∧ wi ≤ 20) (by omega), decide_eq_true (p := 0 ≤ pu ∧ pu ≤ wi - 1) (by omega), decide_eq_true (p := 1 ≤ (n : Int) ∧ (n : Int) ≤ 16) (by omega), Bool.true_and, Bool.true_and, Bool.true_and]
  have H0 : Hid (wdN ls wi 0 = true ∧ Below w.heap.size w W ∧ Blk W w.heap.size 26 #[.int .i64 wi, .int .i64 pu, .slice a n c]) := ⟨by simp [wdN], hb, hx⟩
  go_enter Tryz.func57, Tryz.ntmps57
  go_wp2
  clear hW hb hx q0 q1 q2
  go_loopw [36] (fun i wr => ∃ k : Nat, i = .int .i64 (k : Int) ∧ k ≤ n ∧ Hid (wdN ls wi k = true ∧ Below w.heap.size w wr ∧ Blk wr w.heap.size 26 #[.int .i64 wi, .int .i64 pu, .slice a n c])) (fun i _ => n - (intOf i).toNat)
  case atStart => exact ⟨0, rfl, Nat.zero_le _, H0⟩
  case round =>
    obtain ⟨k, rfl, hk, HD⟩ := hrel
    clear H0
    by_cases hlt : k < n
    · have hlt' : (k : Int) < (n : Int) := by omega
      have hk0 : (0 : Int) ≤ (k : Int) := by omega
      have hB0 := HD.out.2.1
      have hws : w.heap.size ≤ wr.heap.size := hB0.size
      have hx := HD.out.2.2
      have q0 := hx.cell 0
      obtain ⟨b, off, a0, c0, a1, c1, a2, c2, rfl, hb, z0, z1, z2, i0, i1, i2⟩ := (HA.out.on hB0).row3 hlt
      have W0 : Hid (∀ w', Below wr.heap.size wr w' → Calls Tryz.prog 132 #[.agg #[.slice a0 (ls.getD (k * 3) []).length c0, .slice a1 (ls.getD (k * 3 + 1) []).length c1, .slice a2 (ls.getD (k * 3 + 2) []).length c2], .int .i64 wi] w' fun e w'' => e = .returned (.bool (wide (ls.getD (k * 3) []) wi && (wide (ls.getD (k * 3 + 1) []) wi && wide (ls.getD (k * 3 + 2) []) wi))) ∧ Below w'.heap.size w' w'') := fun w' hw => iIsOf_any a0 c0 _ (HZ.out _) a1 c1 _ (HZ.out _) a2 c2 _ (HZ.out _) wi w' (((i0.wide hws).on hw).wide hw.size) (((i1.wide hws).on hw).wide hw.size) (((i2.wide hws).on hw).wide hw.size)
      have HX : Hid (wdN ls wi (k + 1) = (wide (ls.getD (k * 3) []) wi && (wide (ls.getD (k * 3 + 1) []) wi && wide (ls.getD (k * 3 + 2) []) wi))) := by
        show _ = _
        rw [wdN_next ls wi hlen.out hlt, HD.out.1, Bool.true_and]
      generalize (wide (ls.getD (k * 3) []) wi && (wide (ls.getD (k * 3 + 1) []) wi && wide (ls.getD (k * 3 + 2) []) wi)) = p at W0 HX
      generalize (ls.getD (k * 3) []).length = m0 at W0 z0
      generalize (ls.getD (k * 3 + 1) []).length = m1 at W0 z1
      generalize (ls.getD (k * 3 + 2) []).length = m2 at W0 z2
      have hB5 : Below wr.heap.size wr (wr.alloc (.cells #[.slice a0 m0 c0, .slice a1 m1 c1, .slice a2 m2 c2] 146)) := (Below.refl _ _).alloc (Nat.le_refl _) _
      have q5 := (hx.on hB5 hx.lt).cell 0
      clear HA hb i0 i1 i2 HZ hlen HD
      cases p
      · have HF : Hid (sysOk wi pu n ls = false) := by
          show _ = _
          rw [HE2.out]
          exact wdN_false ls wi HX.out
        go_wp2_with (refine load_blk rfl rfl rfl (Blk.new _ _ _) Tryz.underlying146 infoRw ?_)
        refine (W0.out _ hB5).mono ?_
        rintro e w1 ⟨rfl, hb1⟩
        have hB1 : Below w.heap.size w w1 := hB0.trans ((below_then hB5 hb1).mono hws)
        clear hb1 hB0 hB5 z0 z1 z2 W0 hx q0 q5
        go_wp2
        go_ret
        exact ⟨by rw [HF.out]; rfl, hB1⟩
      · go_wp2_with (refine load_blk rfl rfl rfl (Blk.new _ _ _) Tryz.underlying146 infoRw ?_)
        refine (W0.out _ hB5).mono ?_
        rintro e w1 ⟨rfl, hb1⟩
        have hB1 := below_then hB5 hb1
        have HD2 : Hid (wdN ls wi (k + 1) = true ∧ Below w.heap.size w w1 ∧ Blk w1 w.heap.size 26 #[.int .i64 wi, .int .i64 pu, .slice (some ⟨b, off, none⟩) n c]) := ⟨HX.out, hB0.trans (hB1.mono hws), hx.on hB1 hx.lt⟩
        clear hb1 hB0 hB5 z0 z1 z2 W0 hx q0 q5 hB1
        go_wp2
        go_roundw
        case rel => exact ⟨k + 1, by go_num, hlt, HD2⟩
        case measure => simp [intOf]; omega
    · have hlt' : ¬ (k : Int) < (n : Int) := by omega
      have HF : Hid (sysOk wi pu n ls = true) := by
        show _ = _
        rw [HE2.out, wdN_all ls wi hlen.out, show n = k by omega]
        exact HD.out.1
      go_wp2
      go_ret
      exact ⟨by rw [HF.out]; rfl, HD.out.2.1⟩

end Go.Proofs.YthnahalboomkoaaGreat
