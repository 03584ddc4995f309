/-
  Texts of one's own, joined.
-/
import Derived.Test.YthnahalboomkoaaGreatJoined11
import Derived.Test.YthnahalboomkoaaGreatJoined15
import Derived.Test.YthnahalboomkoaaGreatJoined14

/-
  The walks of systems: whether they are right, the program's; what satisfies them, the program's and the specification's.
  (-DROP-: what the seat lacks is left out.)
-/
namespace Go.Proofs.YthnahalboomkoaaGreat
open Go.RowKit

set_option maxHeartbeats 1600000 in
set_option maxRecDepth 100000 in
theorem iIsOf_any (a0 : Option Addr) (c0 : Nat) (l0 : List Int) (h0 : l0.length ≤ 9223372036854775807) (a1 : Option Addr) (c1 : Nat) (l1 : List Int) (h1 : l1.length ≤ 9223372036854775807) (a2 : Option Addr) (c2 : Nat) (l2 : List Int) (h2 : l2.length ≤ 9223372036854775807) (m : Int) (w : World) (A0 : IntsAt w a0 l0.length w.heap.size (fun j => l0.getD j 0)) (A1 : IntsAt w a1 l1.length w.heap.size (fun j => l1.getD j 0)) (A2 : IntsAt w a2 l2.length w.heap.size (fun j => l2.getD j 0)) :
    Calls Tryz.prog 132 #[.agg #[.slice a0 l0.length c0, .slice a1 l1.length c1, .slice a2 l2.length c2], .int .i64 m] w fun e w' => e = .returned (.bool (wide l0 m && (wide l1 m && wide l2 m))) ∧ Below w.heap.size w w' := by
  obtain ⟨W, hW, hb, hx⟩ := box1 w 146 #[.slice a0 l0.length c0, .slice a1 l1.length c1, .slice a2 l2.length c2]
  have q0 := hx.cell 0
  have q1 := hx.cell 1
  have q2 := hx.cell 2
  have W0 : Hid (∀ w', Below W.heap.size W w' → Calls Tryz.prog 52 #[.slice a0 l0.length c0, .int .i64 m] w' fun e w'' => e = .returned (.bool (wide l0 m)) ∧ Below w'.heap.size w' w'') := fun w' hw => iWide_any a0 c0 l0 m h0 w' ((A0.on (hb.trans (hw.mono hb.size))).wide (Nat.le_trans hb.size hw.size))
  have W1 : Hid (∀ w', Below W.heap.size W w' → Calls Tryz.prog 52 #[.slice a1 l1.length c1, .int .i64 m] w' fun e w'' => e = .returned (.bool (wide l1 m)) ∧ Below w'.heap.size w' w'') := fun w' hw => iWide_any a1 c1 l1 m h1 w' ((A1.on (hb.trans (hw.mono hb.size))).wide (Nat.le_trans hb.size hw.size))
  have W2 : Hid (∀ w', Below W.heap.size W w' → Calls Tryz.prog 52 #[.slice a2 l2.length c2, .int .i64 m] w' fun e w'' => e = .returned (.bool (wide l2 m)) ∧ Below w'.heap.size w' w'') := fun w' hw => iWide_any a2 c2 l2 m h2 w' ((A2.on (hb.trans (hw.mono hb.size))).wide (Nat.le_trans hb.size hw.size))
  generalize wide l0 m = p0 at W0
  generalize wide l1 m = p1 at W1
  generalize wide l2 m = p2 at W2
  generalize l0.length = n0 at *
  generalize l1.length = n1 at *
  generalize l2.length = n2 at *
  clear A0 A1 A2
  cases p0
  · skip
    go_enter Tryz.func132, Tryz.ntmps132
    go_wp2_with fail
    clear hW
    refine (W0.out _ (Below.refl _ _)).mono ?_
    rintro e w1 ⟨rfl, b1⟩
    have hx1 := hx.on b1 hx.lt
    have r1 := hx1.cell 1
    go_wp2
    go_ret
    exact ⟨rfl, below_then hb b1⟩
  · cases p1
    · skip
      go_enter Tryz.func132, Tryz.ntmps132
      go_wp2_with fail
      clear hW
      refine (W0.out _ (Below.refl _ _)).mono ?_
      rintro e w1 ⟨rfl, b1⟩
      have hx1 := hx.on b1 hx.lt
      have r1 := hx1.cell 1
      go_wp2_with fail
      refine (W1.out _ b1).mono ?_
      rintro e w2 ⟨rfl, b2⟩
      have b3 := below_then b1 b2
      have hx2 := hx.on b3 hx.lt
      have r2 := hx2.cell 2
      go_wp2
      go_ret
      exact ⟨rfl, below_then hb b3⟩
    · cases p2
      · skip
        go_enter Tryz.func132, Tryz.ntmps132
        go_wp2_with fail
        clear hW
        refine (W0.out _ (Below.refl _ _)).mono ?_
        rintro e w1 ⟨rfl, b1⟩
        have hx1 := hx.on b1 hx.lt
        have r1 := hx1.cell 1
        go_wp2_with fail
        refine (W1.out _ b1).mono ?_
        rintro e w2 ⟨rfl, b2⟩
        have b3 := below_then b1 b2
        have hx2 := hx.on b3 hx.lt
        have r2 := hx2.cell 2
        go_wp2_with fail
        refine (W2.out _ b3).mono ?_
        rintro e w3 ⟨rfl, b4⟩
        have b5 := below_then b3 b4
        go_wp2
        go_ret
        exact ⟨rfl, below_then hb b5⟩
      · skip
        go_enter Tryz.func132, Tryz.ntmps132
        go_wp2_with fail
        clear hW
        refine (W0.out _ (Below.refl _ _)).mono ?_
        rintro e w1 ⟨rfl, b1⟩
        have hx1 := hx.on b1 hx.lt
        have r1 := hx1.cell 1
        go_wp2_with fail
        refine (W1.out _ b1).mono ?_
        rintro e w2 ⟨rfl, b2⟩
        have b3 := below_then b1 b2
        have hx2 := hx.on b3 hx.lt
        have r2 := hx2.cell 2
        go_wp2_with fail
        refine (W2.out _ b3).mono ?_
        rintro e w3 ⟨rfl, b4⟩
        have b5 := below_then b3 b4
        go_wp2
        go_ret
        exact ⟨rfl, below_then hb b5⟩

set_option maxHeartbeats 1600000 in
set_option maxRecDepth 100000 in
theorem iSysOk_any (wi pu : Int) (_hw : (Lit.int .i64 wi).wf = true) (a : Option Addr) (n c : Nat) (hn : n ≤ 9223372036854775807) (ls : List (List Int)) (hz : ∀ j, (ls.getD j []).length ≤ 9223372036854775807) (w : World) (hA : NAt 3 w w.heap.size (.slice a n c) n ls) :
    Calls Tryz.prog 57 #[sysV wi pu (.slice a n c)] w fun e w' => e = .returned (.bool (sysOk wi pu n ls)) ∧ Below w.heap.size w w' := by
  have HA : Hid (NAt 3 w w.heap.size (.slice a n c) n ls) := hA
  have hlen : Hid (ls.length = n * 3) := hA.1
  have HZ : Hid (∀ j, (ls.getD j []).length ≤ 9223372036854775807) := hz
  clear hA hz
  obtain ⟨W, hW, hb, hx⟩ := box1 w 26 #[.int .i64 wi, .int .i64 pu, .slice a n c]
  have q0 := hx.cell 0
  have q1 := hx.cell 1
  have q2 := hx.cell 2
  unfold sysV
  have HE : Hid (sysOk wi pu n ls = (decide (1 ≤ wi ∧ wi ≤ 20) && (decide (0 ≤ pu ∧ pu ≤ wi - 1) && (decide (1 ≤ (n : Int) ∧ (n : Int) ≤ 16) && ls.all fun l => wide l wi)))) := rfl
  by_cases g0 : wi < 1
  · have HF : Hid (sysOk wi pu n ls = false) := by show _ = _; rw [HE.out, decide_eq_false (by omega), Bool.false_and]
    go_enter Tryz.func57, Tryz.ntmps57
    go_wp2
    go_ret
    exact ⟨by rw [HF.out]; rfl, hb⟩
  by_cases g1 : 20 < wi
  · have HF : Hid (sysOk wi pu n ls = false) := by show _ = _; rw [HE.out, decide_eq_false (by omega), Bool.false_and]
    go_enter Tryz.func57, Tryz.ntmps57
    go_wp2
    go_ret
    exact ⟨by rw [HF.out]; rfl, hb⟩
  by_cases g2 : pu < 0
  · have HF : Hid (sysOk wi pu n ls = false) := by show _ = _; rw [HE.out, decide_eq_false (p := 0 ≤ pu ∧ pu ≤ wi - 1) (by omega), Bool.false_and, Bool.and_false]
    go_enter Tryz.func57, Tryz.ntmps57
    go_wp2
    go_ret
    exact ⟨by rw [HF.out]; rfl, hb⟩
  by_cases g3 : wi ≤ pu
  · have HF : Hid (sysOk wi pu n ls = false) := by show _ = _; rw [HE.out, decide_eq_false (p := 0 ≤ pu ∧ pu ≤ wi - 1) (by omega), Bool.false_and, Bool.and_false]
    go_enter Tryz.func57, Tryz.ntmps57
    go_wp2
    go_ret
    exact ⟨by rw [HF.out]; rfl, hb⟩
  by_cases g4 : (n : Int) < 1
  · have HF : Hid (sysOk wi pu n ls = false) := by show _ = _; rw [HE.out, decide_eq_false (p := 1 ≤ (n : Int) ∧ (n : Int) ≤ 16) (by omega), Bool.false_and, Bool.and_false, Bool.and_false]
    go_enter Tryz.func57, Tryz.ntmps57
    go_wp2
    go_ret
    exact ⟨by rw [HF.out]; rfl, hb⟩
  by_cases g5 : (16 : Int) < (n : Int)
  · have HF : Hid (sysOk wi pu n ls = false) := by show _ = _; rw [HE.out, decide_eq_false (p := 1 ≤ (n : Int) ∧ (n : Int) ≤ 16) (by omega), Bool.false_and, Bool.and_false, Bool.and_false]
    go_enter Tryz.func57, Tryz.ntmps57
    go_wp2
    go_ret
    exact ⟨by rw [HF.out]; rfl, hb⟩
  have HE2 : Hid (sysOk wi pu n ls = ls.all fun l => wide l wi) := by
    show _ = _
    rw [HE.out, decide_eq_true (p := 1 ≤ wi ∧ wi ≤ 20) (by omega), decide_eq_true (p := 0 ≤ pu ∧ pu ≤ wi - 1) (by omega), decide_eq_true (p := 1 ≤ (n : Int) ∧ (n : Int) ≤ 16) (by omega), Bool.true_and, Bool.true_and, Bool.true_and]
  have H0 : Hid (wdN ls wi 0 = true ∧ Below w.heap.size w W ∧ Blk W w.heap.size 26 #[.int .i64 wi, .int .i64 pu, .slice a n c]) := ⟨by simp [wdN], hb, hx⟩
  go_enter Tryz.func57, Tryz.ntmps57
  go_wp2
  clear hW hb hx q0 q1 q2
  go_loopw [36] (fun i wr => ∃ k : Nat, i = .int .i64 (k : Int) ∧ k ≤ n ∧ Hid (wdN ls wi k = true ∧ Below w.heap.size w wr ∧ Blk wr w.heap.size 26 #[.int .i64 wi, .int .i64 pu, .slice a n c])) (fun i _ => n - (intOf i).toNat)
  case atStart => exact ⟨0, rfl, Nat.zero_le _, H0⟩
  case round =>
    obtain ⟨k, rfl, hk, HD⟩ := hrel
    clear H0
    by_cases hlt : k < n
    · have hlt' : (k : Int) < (n : Int) := by omega
      have hk0 : (0 : Int) ≤ (k : Int) := by omega
      have hB0 := HD.out.2.1
      have hws : w.heap.size ≤ wr.heap.size := hB0.size
      have hx := HD.out.2.2
      have q0 := hx.cell 0
      obtain ⟨b, off, a0, c0, a1, c1, a2, c2, rfl, hb, z0, z1, z2, i0, i1, i2⟩ := (HA.out.on hB0).row3 hlt
      have W0 : Hid (∀ w', Below wr.heap.size wr w' → Calls Tryz.prog 132 #[.agg #[.slice a0 (ls.getD (k * 3) []).length c0, .slice a1 (ls.getD (k * 3 + 1) []).length c1, .slice a2 (ls.getD (k * 3 + 2) []).length c2], .int .i64 wi] w' fun e w'' => e = .returned (.bool (wide (ls.getD (k * 3) []) wi && (wide (ls.getD (k * 3 + 1) []) wi && wide (ls.getD (k * 3 + 2) []) wi))) ∧ Below w'.heap.size w' w'') := fun w' hw => iIsOf_any a0 c0 _ (HZ.out _) a1 c1 _ (HZ.out _) a2 c2 _ (HZ.out _) wi w' (((i0.wide hws).on hw).wide hw.size) (((i1.wide hws).on hw).wide hw.size) (((i2.wide hws).on hw).wide hw.size)
      have HX : Hid (wdN ls wi (k + 1) = (wide (ls.getD (k * 3) []) wi && (wide (ls.getD (k * 3 + 1) []) wi && wide (ls.getD (k * 3 + 2) []) wi))) := by
        show _ = _
        rw [wdN_next ls wi hlen.out hlt, HD.out.1, Bool.true_and]
      generalize (wide (ls.getD (k * 3) []) wi && (wide (ls.getD (k * 3 + 1) []) wi && wide (ls.getD (k * 3 + 2) []) wi)) = p at W0 HX
      generalize (ls.getD (k * 3) []).length = m0 at W0 z0
      generalize (ls.getD (k * 3 + 1) []).length = m1 at W0 z1
      generalize (ls.getD (k * 3 + 2) []).length = m2 at W0 z2
      have hB5 : Below wr.heap.size wr (wr.alloc (.cells #[.slice a0 m0 c0, .slice a1 m1 c1, .slice a2 m2 c2] 146)) := (Below.refl _ _).alloc (Nat.le_refl _) _
      have q5 := (hx.on hB5 hx.lt).cell 0
      clear HA hb i0 i1 i2 HZ hlen HD
      cases p
      · have HF : Hid (sysOk wi pu n ls = false) := by
          show _ = _
          rw [HE2.out]
          exact wdN_false ls wi HX.out
        go_wp2_with (refine load_blk rfl rfl rfl (Blk.new _ _ _) Tryz.underlying146 infoRw ?_)
        refine (W0.out _ hB5).mono ?_
        rintro e w1 ⟨rfl, hb1⟩
        have hB1 : Below w.heap.size w w1 := hB0.trans ((below_then hB5 hb1).mono hws)
        clear hb1 hB0 hB5 z0 z1 z2 W0 hx q0 q5
        go_wp2
        go_ret
        exact ⟨by rw [HF.out]; rfl, hB1⟩
      · go_wp2_with (refine load_blk rfl rfl rfl (Blk.new _ _ _) Tryz.underlying146 infoRw ?_)
        refine (W0.out _ hB5).mono ?_
        rintro e w1 ⟨rfl, hb1⟩
        have hB1 := below_then hB5 hb1
        have HD2 : Hid (wdN ls wi (k + 1) = true ∧ Below w.heap.size w w1 ∧ Blk w1 w.heap.size 26 #[.int .i64 wi, .int .i64 pu, .slice (some ⟨b, off, none⟩) n c]) := ⟨HX.out, hB0.trans (hB1.mono hws), hx.on hB1 hx.lt⟩
        clear hb1 hB0 hB5 z0 z1 z2 W0 hx q0 q5 hB1
        go_wp2
        go_roundw
        case rel => exact ⟨k + 1, by go_num, hlt, HD2⟩
        case measure => simp [intOf]; omega
    · have hlt' : ¬ (k : Int) < (n : Int) := by omega
      have HF : Hid (sysOk wi pu n ls = true) := by
        show _ = _
        rw [HE2.out, wdN_all ls wi hlen.out, show n = k by omega]
        exact HD.out.1
      go_wp2
      go_ret
      exact ⟨by rw [HF.out]; rfl, HD.out.2.1⟩

/-- What is put together of two lists. -/
def zdot (l m : List Int) : Int := dotN (fun j => l.getD j 0) (fun j => m.getD j 0) (min l.length m.length)
/-- Whether a row is so. -/
def rowSo (l0 l1 l2 m : List Int) : Bool := decide (scMul (zdot l0 m) (zdot l1 m) = zdot l2 m)
/-- Whether so many of the first rows are so. -/
def soN (ls : List (List Int)) (m : List Int) : Nat → Bool
  | 0 => true
  | k + 1 => soN ls m k && rowSo (ls.getD (k * 3) []) (ls.getD (k * 3 + 1) []) (ls.getD (k * 3 + 2) []) m
theorem soN_false (ls : List (List Int)) (m : List Int) {k : Nat} (h : soN ls m k = false) : ∀ n, k ≤ n → soN ls m n = false
  | 0, hn => by rw [show k = 0 by omega] at h; exact h
  | n + 1, hn => by
    rcases Nat.lt_or_ge k (n + 1) with h1 | h1
    · show (soN ls m n && _) = false
      rw [soN_false ls m h n (by omega)]
      rfl
    · rw [show n + 1 = k by omega]; exact h
/-- Whether numbers satisfy a system. -/
def sysSo (wi pu : Int) (n : Nat) (ls : List (List Int)) (m : List Int) : Bool := sysOk wi pu n ls && (wide m wi && (decide (m.getD 0 0 = 1) && soN ls m n))

set_option maxHeartbeats 1600000 in
set_option maxRecDepth 100000 in
theorem iHolds_any (a0 : Option Addr) (c0 : Nat) (l0 : List Int) (h0 : l0.length ≤ 9223372036854775807) (a1 : Option Addr) (c1 : Nat) (l1 : List Int) (h1 : l1.length ≤ 9223372036854775807) (a2 : Option Addr) (c2 : Nat) (l2 : List Int) (h2 : l2.length ≤ 9223372036854775807) (am : Option Addr) (cm : Nat) (m : List Int) (w : World) (A0 : IntsAt w a0 l0.length w.heap.size (fun j => l0.getD j 0)) (A1 : IntsAt w a1 l1.length w.heap.size (fun j => l1.getD j 0)) (A2 : IntsAt w a2 l2.length w.heap.size (fun j => l2.getD j 0)) (AM : IntsAt w am m.length w.heap.size (fun j => m.getD j 0)) :
    Calls Tryz.prog 127 #[.agg #[.slice a0 l0.length c0, .slice a1 l1.length c1, .slice a2 l2.length c2], .slice am m.length cm] w fun e w' => e = .returned (.bool (rowSo l0 l1 l2 m)) ∧ Below w.heap.size w w' := by
  obtain ⟨W, hW, hb, hx⟩ := box1 w 146 #[.slice a0 l0.length c0, .slice a1 l1.length c1, .slice a2 l2.length c2]
  have D0 : Hid (∀ w', Below W.heap.size W w' → Calls Tryz.prog 95 #[.slice a0 l0.length c0, .slice am m.length cm] w' fun e w'' => e = .returned (.int .i64 (zdot l0 m)) ∧ Below w'.heap.size w' w'') := fun w' hw => iDot_any a0 am l0.length c0 m.length cm h0 _ _ w' ((A0.on (hb.trans (hw.mono hb.size))).wide (Nat.le_trans hb.size hw.size)) ((AM.on (hb.trans (hw.mono hb.size))).wide (Nat.le_trans hb.size hw.size))
  have D1 : Hid (∀ w', Below W.heap.size W w' → Calls Tryz.prog 95 #[.slice a1 l1.length c1, .slice am m.length cm] w' fun e w'' => e = .returned (.int .i64 (zdot l1 m)) ∧ Below w'.heap.size w' w'') := fun w' hw => iDot_any a1 am l1.length c1 m.length cm h1 _ _ w' ((A1.on (hb.trans (hw.mono hb.size))).wide (Nat.le_trans hb.size hw.size)) ((AM.on (hb.trans (hw.mono hb.size))).wide (Nat.le_trans hb.size hw.size))
  have D2 : Hid (∀ w', Below W.heap.size W w' → Calls Tryz.prog 95 #[.slice a2 l2.length c2, .slice am m.length cm] w' fun e w'' => e = .returned (.int .i64 (zdot l2 m)) ∧ Below w'.heap.size w' w'') := fun w' hw => iDot_any a2 am l2.length c2 m.length cm h2 _ _ w' ((A2.on (hb.trans (hw.mono hb.size))).wide (Nat.le_trans hb.size hw.size)) ((AM.on (hb.trans (hw.mono hb.size))).wide (Nat.le_trans hb.size hw.size))
  have DM : Hid (∀ w, Calls Tryz.prog 56 #[.int .i64 (zdot l0 m), .int .i64 (zdot l1 m)] w fun e w' => e = .returned (.int .i64 (scMul (zdot l0 m) (zdot l1 m))) ∧ w = w') := iScMul_any _ _
  unfold rowSo
  generalize scMul (zdot l0 m) (zdot l1 m) = p at DM
  generalize zdot l0 m = d0 at D0 DM
  generalize zdot l1 m = d1 at D1 DM
  generalize zdot l2 m = d2 at D2
  generalize l0.length = n0 at *
  generalize l1.length = n1 at *
  generalize l2.length = n2 at *
  generalize m.length = nm at *
  clear A0 A1 A2 AM
  by_cases hpd : p = d2
  · subst hpd
    go_enter Tryz.func127, Tryz.ntmps127
    go_wp2
    clear hW
    refine wp_region_class 14 (fun wz => Below W.heap.size W wz) mixes (by kernel_rfl) (Below.refl _ _).drew ?_
    simp only [List.take_succ_cons, List.take_zero, List.drop_succ_cons, List.drop_zero]
    repeat (refine cls_step rfl (fun K hK => ⟨_, (fun w' hw => by have q0 := (hx.on hw hx.lt).cell 0; have q1 := (hx.on hw hx.lt).cell 1; have q2 := (hx.on hw hx.lt).cell 2; go_simp; exact rfl), ?_⟩); go_simp; refine hK _ ?_; clear hK K)
    refine cls_call rfl (fun K hK => ⟨_, _, _, (fun w' => by go_simp <;> first | exact rfl | exact ⟨rfl, rfl⟩), (fun w' hw => calls_below hw (D0.out _ hw)), ?_⟩); go_simp; refine hK _ ?_; clear hK K
    repeat (refine cls_step rfl (fun K hK => ⟨_, (fun w' hw => by have q0 := (hx.on hw hx.lt).cell 0; have q1 := (hx.on hw hx.lt).cell 1; have q2 := (hx.on hw hx.lt).cell 2; go_simp; exact rfl), ?_⟩); go_simp; refine hK _ ?_; clear hK K)
    refine cls_call rfl (fun K hK => ⟨_, _, _, (fun w' => by go_simp <;> first | exact rfl | exact ⟨rfl, rfl⟩), (fun w' hw => calls_below hw (D1.out _ hw)), ?_⟩); go_simp; refine hK _ ?_; clear hK K
    repeat (refine cls_step rfl (fun K hK => ⟨_, (fun w' hw => by have q0 := (hx.on hw hx.lt).cell 0; have q1 := (hx.on hw hx.lt).cell 1; have q2 := (hx.on hw hx.lt).cell 2; go_simp; exact rfl), ?_⟩); go_simp; refine hK _ ?_; clear hK K)
    refine cls_call rfl (fun K hK => ⟨_, _, _, (fun w' => by go_simp <;> first | exact rfl | exact ⟨rfl, rfl⟩), (fun w' hw => calls_same hw (DM.out _)), ?_⟩); go_simp; refine hK _ ?_; clear hK K
    repeat (refine cls_step rfl (fun K hK => ⟨_, (fun w' hw => by have q0 := (hx.on hw hx.lt).cell 0; have q1 := (hx.on hw hx.lt).cell 1; have q2 := (hx.on hw hx.lt).cell 2; go_simp; exact rfl), ?_⟩); go_simp; refine hK _ ?_; clear hK K)
    refine cls_call rfl (fun K hK => ⟨_, _, _, (fun w' => by go_simp <;> first | exact rfl | exact ⟨rfl, rfl⟩), (fun w' hw => calls_below hw (D2.out _ hw)), ?_⟩); go_simp; refine hK _ ?_; clear hK K
    repeat (refine cls_step rfl (fun K hK => ⟨_, (fun w' hw => by have q0 := (hx.on hw hx.lt).cell 0; have q1 := (hx.on hw hx.lt).cell 1; have q2 := (hx.on hw hx.lt).cell 2; go_simp; exact rfl), ?_⟩); go_simp; refine hK _ ?_; clear hK K)
    refine wq_nil ?_
    intro w' hw
    have hB2 := below_then hb hw
    clear hw
    go_wp2
    go_ret
    exact ⟨rfl, hB2⟩
  · have hpd' : (p == d2) = false := by rw [beq_eq_false_iff_ne]; exact hpd
    go_enter Tryz.func127, Tryz.ntmps127
    go_wp2
    clear hW
    refine wp_region_class 14 (fun wz => Below W.heap.size W wz) mixes (by kernel_rfl) (Below.refl _ _).drew ?_
    simp only [List.take_succ_cons, List.take_zero, List.drop_succ_cons, List.drop_zero]
    repeat (refine cls_step rfl (fun K hK => ⟨_, (fun w' hw => by have q0 := (hx.on hw hx.lt).cell 0; have q1 := (hx.on hw hx.lt).cell 1; have q2 := (hx.on hw hx.lt).cell 2; go_simp; exact rfl), ?_⟩); go_simp; refine hK _ ?_; clear hK K)
    refine cls_call rfl (fun K hK => ⟨_, _, _, (fun w' => by go_simp <;> first | exact rfl | exact ⟨rfl, rfl⟩), (fun w' hw => calls_below hw (D0.out _ hw)), ?_⟩); go_simp; refine hK _ ?_; clear hK K
    repeat (refine cls_step rfl (fun K hK => ⟨_, (fun w' hw => by have q0 := (hx.on hw hx.lt).cell 0; have q1 := (hx.on hw hx.lt).cell 1; have q2 := (hx.on hw hx.lt).cell 2; go_simp; exact rfl), ?_⟩); go_simp; refine hK _ ?_; clear hK K)
    refine cls_call rfl (fun K hK => ⟨_, _, _, (fun w' => by go_simp <;> first | exact rfl | exact ⟨rfl, rfl⟩), (fun w' hw => calls_below hw (D1.out _ hw)), ?_⟩); go_simp; refine hK _ ?_; clear hK K
    repeat (refine cls_step rfl (fun K hK => ⟨_, (fun w' hw => by have q0 := (hx.on hw hx.lt).cell 0; have q1 := (hx.on hw hx.lt).cell 1; have q2 := (hx.on hw hx.lt).cell 2; go_simp; exact rfl), ?_⟩); go_simp; refine hK _ ?_; clear hK K)
    refine cls_call rfl (fun K hK => ⟨_, _, _, (fun w' => by go_simp <;> first | exact rfl | exact ⟨rfl, rfl⟩), (fun w' hw => calls_same hw (DM.out _)), ?_⟩); go_simp; refine hK _ ?_; clear hK K
    repeat (refine cls_step rfl (fun K hK => ⟨_, (fun w' hw => by have q0 := (hx.on hw hx.lt).cell 0; have q1 := (hx.on hw hx.lt).cell 1; have q2 := (hx.on hw hx.lt).cell 2; go_simp; exact rfl), ?_⟩); go_simp; refine hK _ ?_; clear hK K)
    refine cls_call rfl (fun K hK => ⟨_, _, _, (fun w' => by go_simp <;> first | exact rfl | exact ⟨rfl, rfl⟩), (fun w' hw => calls_below hw (D2.out _ hw)), ?_⟩); go_simp; refine hK _ ?_; clear hK K
    repeat (refine cls_step rfl (fun K hK => ⟨_, (fun w' hw => by have q0 := (hx.on hw hx.lt).cell 0; have q1 := (hx.on hw hx.lt).cell 1; have q2 := (hx.on hw hx.lt).cell 2; go_simp; exact rfl), ?_⟩); go_simp; refine hK _ ?_; clear hK K)
    refine wq_nil ?_
    intro w' hw
    have hB2 := below_then hb hw
    clear hw
    go_wp2
    go_ret
    exact ⟨by rw [decide_eq_false hpd]; rfl, hB2⟩

end Go.Proofs.YthnahalboomkoaaGreat

/-
  A system holds just when its quotient leaves nothing.
  (-DROP-: what the seat lacks is left out.)
-/
namespace Go.Proofs.YthnahalboomkoaaGreat
open Go.RowKit

theorem dotN_sum (f g : Nat → Int) : ∀ k, Dp (dotN f g k - sumZ (fun j => g j * f j) k)
  | 0 => dp_zero.of (by show (0 : Int) - 0 = 0; omega)
  | k + 1 => by
    have h1 := dotN_sum f g k
    have h2 := dp_scAdd (dotN f g k) (scMul (f k) (g k))
    have h3 := dp_scMul (f k) (g k)
    refine ((h1.add h2).add h3).of ?_
    show scAdd (dotN f g k) (scMul (f k) (g k)) - (sumZ (fun j => g j * f j) k + g k * f k) = _
    grind
theorem dotN_sc (f g : Nat → Int) : ∀ k, Sc (dotN f g k)
  | 0 => sc_zero
  | _ + 1 => sc_add _ _
/-- What a row makes of the numbers, as a scalar. -/
theorem zdot_row (ls : List (List Int)) (m : List Int) {wn t i : Nat} (hl : (ls.getD (i * 3 + t) []).length = wn) (hm : m.length = wn) : Dp (zdot (ls.getD (i * 3 + t) []) m - rowE ls m wn t i) ∧ Sc (zdot (ls.getD (i * 3 + t) []) m) := by
  unfold zdot rowE
  rw [hl, hm, Nat.min_self]
  exact ⟨dotN_sum _ _ _, dotN_sc _ _ _⟩
theorem rowSo_iff (ls : List (List Int)) (m : List Int) {wn i : Nat} (h0 : (ls.getD (i * 3) []).length = wn) (h1 : (ls.getD (i * 3 + 1) []).length = wn) (h2 : (ls.getD (i * 3 + 2) []).length = wn) (hm : m.length = wn) :
    rowSo (ls.getD (i * 3) []) (ls.getD (i * 3 + 1) []) (ls.getD (i * 3 + 2) []) m = true ↔ Dp (rowE ls m wn 0 i * rowE ls m wn 1 i - rowE ls m wn 2 i) := by
  obtain ⟨a0, _⟩ := zdot_row ls m (t := 0) (i := i) h0 hm
  obtain ⟨a1, _⟩ := zdot_row ls m (t := 1) (i := i) h1 hm
  obtain ⟨a2, s2⟩ := zdot_row ls m (t := 2) (i := i) h2 hm
  rw [Nat.add_zero] at a0
  unfold rowSo
  rw [decide_eq_true_eq]
  have hmul := dp_scMul (zdot (ls.getD (i * 3) []) m) (zdot (ls.getD (i * 3 + 1) []) m)
  have smul := sc_mul (zdot (ls.getD (i * 3) []) m) (zdot (ls.getD (i * 3 + 1) []) m)
  generalize scMul (zdot (ls.getD (i * 3) []) m) (zdot (ls.getD (i * 3 + 1) []) m) = P at *
  generalize zdot (ls.getD (i * 3) []) m = A at *
  generalize zdot (ls.getD (i * 3 + 1) []) m = B at *
  generalize zdot (ls.getD (i * 3 + 2) []) m = C at *
  generalize rowE ls m wn 0 i = A' at *
  generalize rowE ls m wn 1 i = B' at *
  generalize rowE ls m wn 2 i = C' at *
  constructor
  · intro h
    subst h
    exact ((((a0.mul B).add (a1.mul A')).neg.add a2).sub hmul).of (by grind)
  · intro h
    exact dp_small (((((a0.mul B).add (a1.mul A')).add h).add hmul).sub a2 |>.of (by grind)) smul s2
theorem soN_iff (ls : List (List Int)) (m : List Int) : ∀ k, soN ls m k = true ↔ ∀ i, i < k → rowSo (ls.getD (i * 3) []) (ls.getD (i * 3 + 1) []) (ls.getD (i * 3 + 2) []) m = true
  | 0 => by simp [soN]
  | k + 1 => by
    rw [soN, Bool.and_eq_true, soN_iff ls m k]
    constructor
    · intro ⟨h1, h2⟩ i hi
      by_cases e : i = k
      · subst e; exact h2
      · exact h1 i (by omega)
    · intro h
      exact ⟨fun i hi => h i (by omega), h k (by omega)⟩
/-- All rows are so just when nothing is left. -/
theorem quot_so (wi pu : Int) (n : Nat) (ls : List (List Int)) (m : List Int) (hls : ls.length = n * 3) (hok : sysOk wi pu n ls = true) (hwd : wide m wi = true) : quotB wi pu n ls m = soN ls m n := by
  have hok1 := hok
  unfold sysOk at hok1
  simp only [Bool.and_eq_true, decide_eq_true_eq] at hok1
  obtain ⟨⟨h1, h2⟩, _, ⟨h3, h4⟩, hall⟩ := hok1
  have hml : m.length = wi.toNat := by
    have h := hwd
    unfold wide at h
    rw [Bool.and_eq_true] at h
    have := of_decide_eq_true h.1
    omega
  have hw : ∀ k, k < n * 3 → (ls.getD k []).length = wi.toNat := fun k hk => by have := wide_lenQ hall (k := k) (by omega); omega
  have S0 := sideL_small ls n wi.toNat 0 m (by omega) hml
  have S1 := sideL_small ls n wi.toNat 1 m (by omega) hml
  have S2 := sideL_small ls n wi.toNat 2 m (by omega) hml
  have key := left_none (a := sideL ls n wi.toNat 0 m) (b := sideL ls n wi.toNat 1 m) (c := sideL ls n wi.toNat 2 m) (n := n) (by omega) (by omega) S0.2 S1.2 S2.2
  rw [Bool.eq_iff_iff, soN_iff]
  unfold quotB
  rw [hok, hwd, Bool.true_and, Bool.true_and, List.isEmpty_iff]
  show pRem (numL (sideL ls n wi.toNat 0 m) (sideL ls n wi.toNat 1 m) (sideL ls n wi.toNat 2 m)) (zerL n) = [] ↔ _
  rw [key]
  refine forall_congr' fun i => forall_congr' fun hi => ?_
  rw [rowSo_iff ls m (hw _ (by omega)) (hw _ (by omega)) (hw _ (by omega)) hml]
  have r0 := mix_row ls m (wi := wi.toNat) 0 (n := n) (by omega) hi
  have r1 := mix_row ls m (wi := wi.toNat) 1 (n := n) (by omega) hi
  have r2 := mix_row ls m (wi := wi.toNat) 2 (n := n) (by omega) hi
  rw [← S0.1] at r0
  rw [← S1.1] at r1
  rw [← S2.1] at r2
  generalize ev (sideL ls n wi.toNat 0 m) ((i : Int) + 1) = A at *
  generalize ev (sideL ls n wi.toNat 1 m) ((i : Int) + 1) = B at *
  generalize ev (sideL ls n wi.toNat 2 m) ((i : Int) + 1) = C at *
  generalize rowE ls m wi.toNat 0 i = A' at *
  generalize rowE ls m wi.toNat 1 i = B' at *
  generalize rowE ls m wi.toNat 2 i = C' at *
  constructor
  · intro h
    exact ((h.sub ((r0.mul B).add (r1.mul A'))).add r2).of (by grind)
  · intro h
    exact ((h.add ((r0.mul B).add (r1.mul A'))).sub r2).of (by grind)

end Go.Proofs.YthnahalboomkoaaGreat

/-
  A system that is drawn right: no program in here.
-/
namespace Go.Proofs.YthnahalboomkoaaGreat

/-- A right system and numbers that are right for it. -/
def Right (wi pu : Int) (n : Nat) (ls : List (List Int)) (m : List Int) : Prop := sysOk wi pu n ls = true ∧ wide m wi = true ∧ soN ls m n = true

theorem dotN_on (f f' g : Nat → Int) : ∀ n, (∀ j, j < n → f j = f' j) → dotN f g n = dotN f' g n
  | 0, _ => rfl
  | n + 1, h => by
    show scAdd (dotN f g n) (scMul (f n) (g n)) = scAdd (dotN f' g n) (scMul (f' n) (g n))
    rw [dotN_on f f' g n fun j hj => h j (by omega), h n (by omega)]
theorem zdot_zls (F : Nat → Int) (N : Nat) (l : List Int) : zdot (zls F N) l = dotN F (fun j => l.getD j 0) (min N l.length) := by
  unfold zdot
  rw [zls_length]
  exact dotN_on _ _ _ _ fun j hj => zls_at F (by omega)
theorem sca_self {z : Int} (h0 : 0 ≤ z) (h1 : z ≤ 1008) : sca z = z := by unfold sca; omega
theorem dot_first (z : Int) (h0 : 0 ≤ z) (h1 : z ≤ 1008) (g : Nat → Int) (hg : g 0 = 1) : ∀ n, 1 ≤ n → dotN (fun i => if i = 0 then z else 0) g n = z
  | 0, h => by omega
  | 1, _ => by
    show scAdd 0 (scMul z (g 0)) = z
    rw [hg, scMul_eq, scAdd_eq, Int.mul_one, sca_self h0 h1, Int.zero_add, sca_self h0 h1]
  | n + 2, _ => by
    show scAdd (dotN (fun i => if i = 0 then z else 0) g (n + 1)) (scMul 0 (g (n + 1))) = z
    rw [dot_first z h0 h1 g hg (n + 1) (by omega), scMul_eq, Int.zero_mul, scAdd_eq, show sca 0 = 0 by decide, Int.add_zero, sca_self h0 h1]
theorem row_right (F0 F1 : Nat → Int) (N : Nat) (l : List Int) (hl : l.length = N) (h1 : 1 ≤ N) (hg : l.getD 0 0 = 1) :
    rowSo (zls F0 N) (zls F1 N) (zls (fun i => if i = 0 then scMul (dotN F0 (fun j => l.getD j 0) (min N l.length)) (dotN F1 (fun j => l.getD j 0) (min N l.length)) else 0) N) l = true := by
  unfold rowSo
  rw [zdot_zls, zdot_zls, zdot_zls]
  have hm : 1 ≤ min N l.length := by omega
  rw [dot_first _ (by rw [scMul_eq]; exact sca_nonneg _) (by rw [scMul_eq]; have := sca_lt (dotN F0 (fun j => l.getD j 0) (min N l.length) * dotN F1 (fun j => l.getD j 0) (min N l.length)); omega) _ hg _ hm]
  exact decide_eq_true rfl
theorem wide_zls (F : Nat → Int) (N : Nat) (h : ∀ i, 0 ≤ F i ∧ F i ≤ 1008) : wide (zls F N) (N : Int) = true := by
  unfold wide
  rw [Bool.and_eq_true, zls_length]
  refine ⟨decide_eq_true rfl, List.all_eq_true.2 fun x hx => ?_⟩
  unfold zls at hx
  obtain ⟨j, _, rfl⟩ := List.mem_map.1 hx
  exact decide_eq_true (h j)
theorem soN_app (ls t : List (List Int)) (m : List Int) : ∀ k, k * 3 ≤ ls.length → soN (ls ++ t) m k = soN ls m k
  | 0, _ => rfl
  | k + 1, h => by
    have e : ∀ j, j < (k + 1) * 3 → (ls ++ t).getD j [] = ls.getD j [] := fun j hj => by
      rw [List.getD_eq_getElem?_getD, List.getElem?_append_left (by omega), List.getD_eq_getElem?_getD]
    rw [soN, soN, soN_app ls t m k (by omega), e _ (by omega), e _ (by omega), e _ (by omega)]
theorem so_next {ls : List (List Int)} {m : List Int} {k : Nat} {x y z : List Int} (hl : ls.length = k * 3) (h : soN ls m k = true) (hr : rowSo x y z m = true) : soN (ls ++ [x, y, z]) m (k + 1) = true := by
  have e : ∀ j, (ls ++ [x, y, z]).getD (k * 3 + j) [] = ([x, y, z] : List (List Int)).getD j [] := fun j => by
    rw [List.getD_eq_getElem?_getD, List.getElem?_append_right (by omega), List.getD_eq_getElem?_getD, show k * 3 + j - ls.length = j by omega]
  rw [soN, soN_app ls _ m k (by omega), h, Bool.true_and, e 1, e 2]
  have e0 := e 0
  rw [Nat.add_zero] at e0
  rw [e0]
  exact hr
theorem sys_right {wi pu : Int} {n : Nat} {ls : List (List Int)} (h1 : 1 ≤ wi ∧ wi ≤ 20) (h2 : 0 ≤ pu ∧ pu ≤ wi - 1) (h3 : 1 ≤ n ∧ n ≤ 16) (hl : ls.length = n * 3) (h : ∀ j, j < n * 3 → wide (ls.getD j []) wi = true) : sysOk wi pu n ls = true := by
  unfold sysOk
  rw [decide_eq_true h1, decide_eq_true h2, decide_eq_true (show 1 ≤ (n : Int) ∧ (n : Int) ≤ 16 by omega)]
  simp only [Bool.true_and]
  refine List.all_eq_true.2 fun l hx => ?_
  obtain ⟨j, hj, rfl⟩ := List.getElem_of_mem hx
  have := h j (by omega)
  rwa [List.getD_eq_getElem?_getD, List.getElem?_eq_getElem hj] at this
theorem wit_rights : ((List.range 256).all fun b => wide (witOf (b : Int)) 11 && soN (csN 10) (witOf (b : Int)) 10) = true := by decide +kernel
theorem wit_right {b : Int} (h0 : 0 ≤ b) (h1 : b < 256) : Right 11 2 10 (csN 10) (witOf b) := by
  have h := List.all_eq_true.1 wit_rights b.toNat (List.mem_range.2 (by omega))
  rw [Int.toNat_of_nonneg h0, Bool.and_eq_true] at h
  exact ⟨by decide +kernel, h.1, h.2⟩

end Go.Proofs.YthnahalboomkoaaGreat
