/-
  Texts of one's own, joined.
-/
import Derived.Test.YthnahalboomkoaaGreatJoined8
import Derived.Test.YthnahalboomkoaaGreatProg
import Derived.Test.YthnahalboomkoaaGreatScPure
import Derived.WalkLawsBesides
import Derived.WalkSpells
import Derived.Test.YthnahalboomkoaaGreatJoined6
import Derived.StillTail
import Derived.StillTailTactics
import Derived.Lib.MinMax
import Derived.WalkKit

/-
  The walks of the helpers of the exact laws on rows and systems: systems copied, whether two are the same, marks.
  (-DROP-: what the seat lacks is left out.)
-/
namespace Go.Proofs.YthnahalboomkoaaGreat
open Go.RowKit

theorem infoSy : (Tryz.prog.info? 26).map (·.size) = some 3 := by kernel_rfl

theorem infoSl : (Tryz.prog.info? 69).map (·.size) = some 3 := by kernel_rfl

/-- A system is its numbers and its rows. -/
def sysV (wi pu : Int) (v : Value) : Value := .agg #[.int .i64 wi, .int .i64 pu, v]
theorem ZOwn.oth {lo hi g : Nat} {w w' : World} {v : Value} {l : List Int} (h : ZOwn lo hi w v l) (hoth : ∀ g' t cs, g ≠ g' → Blk w g' t cs → Blk w' g' t cs) (hg : g < lo) : ZOwn lo hi w' v l := ⟨owns_other h.1 hoth hg, h.2⟩
theorem NOwnV.oth {sz e lo hi n g : Nat} {w w' : World} {v : Value} {vs : List Value} {ls : List (List Int)} (h : NOwnV sz e lo hi w v n vs ls) (hoth : ∀ g' t cs, g ≠ g' → Blk w g' t cs → Blk w' g' t cs) (hg : g < lo) : NOwnV sz e lo hi w' v n vs ls :=
  ⟨owns_other h.row hoth hg, h.len, h.top, fun j hj => (h.each j hj).oth hoth hg, h.apart, h.off⟩
theorem NOwnV.low {sz e lo lo' hi n : Nat} {w : World} {v : Value} {vs : List Value} {ls : List (List Int)} (h : NOwnV sz e lo hi w v n vs ls) (h2 : lo' ≤ lo) : NOwnV sz e lo' hi w v n vs ls :=
  ⟨owns_low h.row h2, h.len, h.top, fun j hj => (h.each j hj).wide h2 (Nat.le_refl _), h.apart, h.off⟩
theorem onesSy (wi pu : Int) (a : Option Addr) (n c : Nat) : (#[Value.int .i64 wi, .int .i64 pu, .slice a n c]).all (·.oneCell') = true := by simp [Value.oneCell']

set_option maxHeartbeats 800000 in
set_option maxRecDepth 100000 in
theorem eqRow_any (a0 b0 : Option Addr) (n0 c0 d0 : Nat) (h0 : n0 ≤ 1048576) (f0 : Nat → Int) (a1 b1 : Option Addr) (n1 c1 d1 : Nat) (h1 : n1 ≤ 1048576) (f1 : Nat → Int) (a2 b2 : Option Addr) (n2 c2 d2 : Nat) (h2 : n2 ≤ 1048576) (f2 : Nat → Int) (w : World) (A0 : IntsAt w a0 n0 w.heap.size f0) (B0 : IntsAt w b0 n0 w.heap.size f0) (A1 : IntsAt w a1 n1 w.heap.size f1) (B1 : IntsAt w b1 n1 w.heap.size f1) (A2 : IntsAt w a2 n2 w.heap.size f2) (B2 : IntsAt w b2 n2 w.heap.size f2) :
    Calls Tryz.prog 175 #[.agg #[.slice a0 n0 c0, .slice a1 n1 c1, .slice a2 n2 c2], .agg #[.slice b0 n0 d0, .slice b1 n1 d1, .slice b2 n2 d2]] w fun e w' => e = .returned (.bool true) ∧ Below w.heap.size w w' := by
  obtain ⟨W, hW, hB, hx, hy⟩ := boxes1r w 146 146 #[.slice a0 n0 c0, .slice a1 n1 c1, .slice a2 n2 c2] #[.slice b0 n0 d0, .slice b1 n1 d1, .slice b2 n2 d2]
  have H0 : Hid (IntsAt w a0 n0 w.heap.size f0 ∧ IntsAt w b0 n0 w.heap.size f0) := ⟨A0, B0⟩
  have H1 : Hid (IntsAt w a1 n1 w.heap.size f1 ∧ IntsAt w b1 n1 w.heap.size f1) := ⟨A1, B1⟩
  have H2 : Hid (IntsAt w a2 n2 w.heap.size f2 ∧ IntsAt w b2 n2 w.heap.size f2) := ⟨A2, B2⟩
  clear A0 A1 A2 B0 B1 B2
  have q0 := hx.cell 0
  have r0 := hy.cell 0
  go_enter Tryz.func175, Tryz.ntmps175
  go_wp2_with fail
  clear hW
  refine (eqIntS_any a0 b0 n0 c0 d0 h0 f0 _ ((H0.out.1.on hB).wide hB.size) ((H0.out.2.on hB).wide hB.size)).mono ?_
  rintro e w1 ⟨rfl, hb⟩
  clear q0 r0
  replace hx := hx.on hb hx.lt
  replace hy := hy.on hb hy.lt
  replace hB := below_then hB hb
  clear hb
  have q1 := hx.cell 1
  have r1 := hy.cell 1
  go_wp2_with fail
  refine (eqIntS_any a1 b1 n1 c1 d1 h1 f1 _ ((H1.out.1.on hB).wide hB.size) ((H1.out.2.on hB).wide hB.size)).mono ?_
  rintro e w2 ⟨rfl, hb⟩
  clear q1 r1
  replace hx := hx.on hb hx.lt
  replace hy := hy.on hb hy.lt
  replace hB := below_then hB hb
  clear hb
  have q2 := hx.cell 2
  have r2 := hy.cell 2
  go_wp2_with fail
  refine (eqIntS_any a2 b2 n2 c2 d2 h2 f2 _ ((H2.out.1.on hB).wide hB.size) ((H2.out.2.on hB).wide hB.size)).mono ?_
  rintro e w3 ⟨rfl, hb⟩
  clear q2 r2
  replace hx := hx.on hb hx.lt
  replace hy := hy.on hb hy.lt
  replace hB := below_then hB hb
  clear hb
  go_wp2
  go_ret
  exact ⟨rfl, hB⟩

set_option maxHeartbeats 800000 in
set_option maxRecDepth 100000 in
theorem eqRowS_any (a b : Option Addr) (n c1 c2 : Nat) (hn : n ≤ 1048576) (ls : List (List Int)) (hz : ∀ j, (ls.getD j []).length ≤ 1048576) (w : World) (hA : NAt 3 w w.heap.size (.slice a n c1) n ls) (hB : NAt 3 w w.heap.size (.slice b n c2) n ls) :
    Calls Tryz.prog 111 #[.slice a n c1, .slice b n c2] w fun e w' => e = .returned (.bool true) ∧ Below w.heap.size w w' := by
  have HA : Hid (NAt 3 w w.heap.size (.slice a n c1) n ls) := hA
  have HB : Hid (NAt 3 w w.heap.size (.slice b n c2) n ls) := hB
  have HZ : Hid (∀ j, (ls.getD j []).length ≤ 1048576) := hz
  clear hA hB hz
  go_enter Tryz.func111, Tryz.ntmps111
  go_wp2
  go_loopw [5] (fun i wr => ∃ k : Nat, i = .int .i64 (k : Int) ∧ k ≤ n ∧ Hid (Below w.heap.size w wr)) (fun i _ => n - (intOf i).toNat)
  case atStart => exact ⟨0, rfl, Nat.zero_le _, Below.refl _ _⟩
  case round =>
    obtain ⟨k, rfl, hk, HW⟩ := hrel
    by_cases hlt : k < n
    · have hlt' : (k : Int) < (n : Int) := by omega
      have hk0 : (0 : Int) ≤ (k : Int) := by omega
      have hws : w.heap.size ≤ wr.heap.size := HW.out.size
      obtain ⟨b, off, a0, c0, a1, c1, a2, c2, rfl, hb, z0, z1, z2, i0, i1, i2⟩ := (HA.out.on HW.out).row3 hlt
      obtain ⟨b', off', b0, d0, b1, d1, b2, d2, rfl, hb', y0, y1, y2, j0, j1, j2⟩ := (HB.out.on HW.out).row3 hlt
      have HT : Hid (∀ w', Below wr.heap.size wr w' → Calls Tryz.prog 175 #[.agg #[.slice a0 (ls.getD (k * 3) []).length c0, .slice a1 (ls.getD (k * 3 + 1) []).length c1, .slice a2 (ls.getD (k * 3 + 2) []).length c2], .agg #[.slice b0 (ls.getD (k * 3) []).length d0, .slice b1 (ls.getD (k * 3 + 1) []).length d1, .slice b2 (ls.getD (k * 3 + 2) []).length d2]] w' fun e w'' => e = .returned (.bool true) ∧ Below w'.heap.size w' w'') := fun w' hw =>
        eqRow_any a0 b0 _ c0 d0 (HZ.out _) _ a1 b1 _ c1 d1 (HZ.out _) _ a2 b2 _ c2 d2 (HZ.out _) _ w' (((i0.wide hws).on hw).wide hw.size) (((j0.wide hws).on hw).wide hw.size) (((i1.wide hws).on hw).wide hw.size) (((j1.wide hws).on hw).wide hw.size) (((i2.wide hws).on hw).wide hw.size) (((j2.wide hws).on hw).wide hw.size)
      generalize (ls.getD (k * 3) []).length = m0 at HT z0 y0
      generalize (ls.getD (k * 3 + 1) []).length = m1 at HT z1 y1
      generalize (ls.getD (k * 3 + 2) []).length = m2 at HT z2 y2
      have Z0 : ∀ w', Below wr.heap.size wr w' → w'.cell? ⟨b, off + k * 3, none⟩ = some (.slice a0 m0 c0) := fun w' hw => (hw.cell (p := ⟨b, off + k * 3, none⟩) (by show b < _; omega)).trans z0
      have Z1 : ∀ w', Below wr.heap.size wr w' → w'.cell? ⟨b, off + k * 3 + 1, none⟩ = some (.slice a1 m1 c1) := fun w' hw => (hw.cell (p := ⟨b, off + k * 3 + 1, none⟩) (by show b < _; omega)).trans z1
      have Z2 : ∀ w', Below wr.heap.size wr w' → w'.cell? ⟨b, off + k * 3 + 2, none⟩ = some (.slice a2 m2 c2) := fun w' hw => (hw.cell (p := ⟨b, off + k * 3 + 2, none⟩) (by show b < _; omega)).trans z2
      have Y0 : ∀ w', Below wr.heap.size wr w' → w'.cell? ⟨b', off' + k * 3, none⟩ = some (.slice b0 m0 d0) := fun w' hw => (hw.cell (p := ⟨b', off' + k * 3, none⟩) (by show b' < _; omega)).trans y0
      have Y1 : ∀ w', Below wr.heap.size wr w' → w'.cell? ⟨b', off' + k * 3 + 1, none⟩ = some (.slice b1 m1 d1) := fun w' hw => (hw.cell (p := ⟨b', off' + k * 3 + 1, none⟩) (by show b' < _; omega)).trans y1
      have Y2 : ∀ w', Below wr.heap.size wr w' → w'.cell? ⟨b', off' + k * 3 + 2, none⟩ = some (.slice b2 m2 d2) := fun w' hw => (hw.cell (p := ⟨b', off' + k * 3 + 2, none⟩) (by show b' < _; omega)).trans y2
      clear HA HB hb hb' z0 z1 z2 y0 y1 y2 i0 i1 i2 j0 j1 j2 HZ
      go_wp2
      refine wp_region_class 9 (fun wz => Below wr.heap.size wr wz) mixes (by kernel_rfl) (Below.refl _ _).drew ?_
      simp only [List.take_succ_cons, List.take_zero, List.drop_succ_cons, List.drop_zero]
      repeat (refine cls_step rfl (fun K hK => ⟨_, (fun w' hw => by have z0 := Z0 w' hw; have z1 := Z1 w' hw; have z2 := Z2 w' hw; have z3 := Y0 w' hw; have z4 := Y1 w' hw; have z5 := Y2 w' hw; go_simp; exact rfl), ?_⟩); go_simp; refine hK _ ?_; clear hK K)
      refine cls_call rfl (fun K hK => ⟨_, _, _, (fun w' => by go_simp <;> first | exact rfl | exact ⟨rfl, rfl⟩), (fun w' hw => calls_below hw (HT.out _ hw)), ?_⟩); go_simp; refine hK _ ?_; clear hK K
      refine wq_nil ?_
      intro w' hw
      have HW2 : Hid (Below w.heap.size w w') := HW.out.trans (hw.mono hws)
      clear hw HW
      go_wp2
      go_roundw
      case rel => exact ⟨k + 1, by go_num, hlt, HW2⟩
      case measure => simp [intOf]; omega
    · have hlt' : ¬ (k : Int) < (n : Int) := by omega
      go_wp2
      go_ret
      exact ⟨rfl, HW.out⟩

set_option maxHeartbeats 800000 in
set_option maxRecDepth 100000 in
theorem eqSystem_any (wi pu : Int) (a b : Option Addr) (n c1 c2 : Nat) (hn : n ≤ 1048576) (ls : List (List Int)) (hz : ∀ j, (ls.getD j []).length ≤ 1048576) (w : World) (hA : NAt 3 w w.heap.size (.slice a n c1) n ls) (hB : NAt 3 w w.heap.size (.slice b n c2) n ls) :
    Calls Tryz.prog 38 #[sysV wi pu (.slice a n c1), sysV wi pu (.slice b n c2)] w fun e w' => e = .returned (.bool true) ∧ Below w.heap.size w w' := by
  obtain ⟨W, hW, hb, hx, hy⟩ := boxes1r w 26 26 #[.int .i64 wi, .int .i64 pu, .slice a n c1] #[.int .i64 wi, .int .i64 pu, .slice b n c2]
  have HA : Hid (NAt 3 W W.heap.size (.slice a n c1) n ls) := (hA.on hb).wide hb.size
  have HB : Hid (NAt 3 W W.heap.size (.slice b n c2) n ls) := (hB.on hb).wide hb.size
  have q0 := hx.cell 0
  have q1 := hx.cell 1
  have q2 := hx.cell 2
  have r0 := hy.cell 0
  have r1 := hy.cell 1
  have r2 := hy.cell 2
  clear hA hB
  unfold sysV
  go_enter Tryz.func38, Tryz.ntmps38
  go_wp2_with fail
  clear hW
  refine (eqRowS_any a b n c1 c2 hn ls hz _ HA.out HB.out).mono ?_
  rintro e w1 ⟨rfl, hb1⟩
  have hB1 := below_then hb hb1
  clear hb hb1 hx hy q0 q1 q2 r0 r1 r2 HA HB
  go_wp2
  go_ret
  exact ⟨rfl, hB1⟩

set_option maxHeartbeats 800000 in
set_option maxRecDepth 100000 in
theorem toSystem_any (wi pu : Int) (a : Option Addr) (n c : Nat) (hn : n ≤ 1048576) (ls : List (List Int)) (hz : ∀ j, (ls.getD j []).length ≤ 1048576) (w : World) (hA : NAt 3 w w.heap.size (.slice a n c) n ls) :
    Calls Tryz.prog 35 #[sysV wi pu (.slice a n c)] w fun e w' => ∃ g vs, e = .returned (sysV wi pu (.slice (some ⟨g, 0, none⟩) n n)) ∧ NOwnV 3 146 w.heap.size w'.heap.size w' (.slice (some ⟨g, 0, none⟩) n n) n vs ls ∧ Below w.heap.size w w' := by
  obtain ⟨W, hW, hb, hx, hr, ho⟩ := boxes2r w 69 26 26 #[.int .i64 wi, .int .i64 pu, .slice a n c] #[.int .i64 0, .int .i64 0, .slice none 0 0] #[.int .i64 0, .int .i64 0, .slice none 0 0]
  have HA : Hid (NAt 3 w w.heap.size (.slice a n c) n ls) := hA
  have hWs : w.heap.size + 3 ≤ W.heap.size := by rw [← hW]; simp
  have x0 := hx.cell 0
  have x1 := hx.cell 1
  have x2 := hx.cell 2
  have p0 := ho.cell 0
  have p1 := ho.cell 1
  have s0 := ho.free 0
  have s1 := ho.free 1
  clear hA
  have ho1 := (ho.set 0 (.int .i64 wi)).set 1 (.int .i64 pu)
  have hr1 := (hr.other (i := 0) (g' := w.heap.size + 1 + 1) (by omega) (.int .i64 wi)).other (i := 1) (g' := w.heap.size + 1 + 1) (by omega) (.int .i64 pu)
  have hB1 := (hb.setCell (p := ⟨w.heap.size + 1 + 1, 0, none⟩) (by show w.heap.size ≤ w.heap.size + 1 + 1; omega) (.int .i64 wi)).setCell (p := ⟨w.heap.size + 1 + 1, 1, none⟩) (by show w.heap.size ≤ w.heap.size + 1 + 1; omega) (.int .i64 pu)
  unfold sysV
  go_enter Tryz.func35, Tryz.ntmps35
  go_wp2_with fail
  clear hW x0 x1 x2 p0 p1 s0 s1 hx hr ho hb
  have hVs : w.heap.size + 3 ≤ ((W.setCell ⟨w.heap.size + 1 + 1, 0, none⟩ (.int .i64 wi)).setCell ⟨w.heap.size + 1 + 1, 1, none⟩ (.int .i64 pu)).heap.size := by simp [World.setCell]; exact hWs
  clear hWs
  generalize (W.setCell ⟨w.heap.size + 1 + 1, 0, none⟩ (.int .i64 wi)).setCell ⟨w.heap.size + 1 + 1, 1, none⟩ (.int .i64 pu) = V at ho1 hr1 hB1 hVs ⊢
  refine (toRowS_any a n c hn ls hz _ ((HA.out.on hB1).wide hB1.size)).mono ?_
  rintro e w1 ⟨rfl, ⟨vs, hO⟩, hb1⟩
  have ho2 := ho1.on hb1 ho1.lt
  have hr2 := hr1.on hb1 hr1.lt
  have hB2 := below_then hB1 hb1
  have p2 := ho2.cell 2
  have s2 := ho2.free 2
  obtain ⟨g, hg⟩ : ∃ g, g = V.heap.size := ⟨_, rfl⟩
  rw [← hg] at hO hVs ⊢
  clear hg hb1
  have ho3 := ho2.set 2 (.slice (some ⟨g, 0, none⟩) n n)
  have hr3 := hr2.other (i := 2) (g' := w.heap.size + 1 + 1) (by omega) (.slice (some ⟨g, 0, none⟩) n n)
  have hO3 := hO.same (Same.set w1 ⟨w.heap.size + 1 + 1, 2, none⟩ (.slice (some ⟨g, 0, none⟩) n n) (.inl (by show w.heap.size + 1 + 1 < g; omega)))
  have hB3 := hB2.setCell (p := ⟨w.heap.size + 1 + 1, 2, none⟩) (by show w.heap.size ≤ w.heap.size + 1 + 1; omega) (.slice (some ⟨g, 0, none⟩) n n)
  have hS3 : w1.heap.size ≤ (w1.setCell ⟨w.heap.size + 1 + 1, 2, none⟩ (.slice (some ⟨g, 0, none⟩) n n)).heap.size := by simp [World.setCell]
  clear ho1 hr1 hB1 ho2 hr2 hB2 hO HA
  go_wp2_with (first | (refine load_blk rfl rfl rfl ho3 Tryz.underlying26 infoSy ?_) | (refine store_blk (cs' := #[.int .i64 wi, .int .i64 pu, .slice (some ⟨g, 0, none⟩) n n]) rfl rfl rfl rfl rfl hr3 infoSy rfl (onesSy _ _ _ _ _) ?_; intro V2 h5 hoth hbel; have hbV := hbel _ _ (by omega) hB3; have hbV2 := hbel 0 _ (by omega) (Below.refl 0 _); have hOV := hO3.oth hoth (by omega); clear hoth hbel))
  refine bodyPost_ret_by (result_blk rfl rfl h5 Tryz.underlying26 infoSy) rfl ⟨g, vs, rfl, (hOV.wide (Nat.le_trans hS3 hbV2.size)).low (by omega), hbV⟩

set_option maxHeartbeats 800000 in
set_option maxRecDepth 100000 in
theorem szSystem_any (wi pu : Int) (a : Option Addr) (n c : Nat) (hn : n ≤ 9223372036854775807) (ls : List (List Int)) (hz : ∀ j, (ls.getD j []).length ≤ 9223372036854775807) (w : World) (hA : NAt 3 w w.heap.size (.slice a n c) n ls) :
    Calls Tryz.prog 34 #[sysV wi pu (.slice a n c), .int .i64 1048576] w fun e w' => e = .returned (.int .i64 (szF 1048576 (n + tot ls))) ∧ Below w.heap.size w w' := by
  obtain ⟨W, hW, hb, hx⟩ := box1 w 69 #[.int .i64 wi, .int .i64 pu, .slice a n c]
  have HA : Hid (NAt 3 W W.heap.size (.slice a n c) n ls) := (hA.on hb).wide hb.size
  have q0 := hx.cell 2
  clear hA
  have HC : Hid (Calls Tryz.prog 107 #[.slice a n c, .int .i64 1048576] W fun e w' => e = .returned (.int .i64 (szF 1048576 (n + tot ls))) ∧ Below W.heap.size W w') := szRowS_any a n c hn ls hz W HA.out
  have hs : szF 1048576 (n + tot ls) = -1 ∨ ¬ szF 1048576 (n + tot ls) < 0 := by unfold szF; by_cases h : n + tot ls ≤ 1048576 <;> simp [h] <;> omega
  generalize szF 1048576 (n + tot ls) = r at hs HC ⊢
  unfold sysV
  rcases hs with rfl | hs
  · go_enter Tryz.func34, Tryz.ntmps34
    go_wp2_with fail
    clear hW
    refine HC.out.mono ?_
    rintro e w1 ⟨rfl, hb1⟩
    have hB1 := below_then hb hb1
    clear hb hb1 hx q0 HA HC
    go_wp2
    go_ret
    exact ⟨rfl, hB1⟩
  · go_enter Tryz.func34, Tryz.ntmps34
    go_wp2_with fail
    clear hW
    refine HC.out.mono ?_
    rintro e w1 ⟨rfl, hb1⟩
    have hB1 := below_then hb hb1
    clear hb hb1 hx q0 HA HC
    go_wp2
    go_ret
    exact ⟨rfl, hB1⟩

end Go.Proofs.YthnahalboomkoaaGreat

/-
  The walks of the program's scalars.
  (-DROP-: what the seat lacks is left out.)
-/
namespace Go.Proofs.YthnahalboomkoaaGreat
open Go.RowKit

set_option maxHeartbeats 400000 in
set_option maxRecDepth 100000 in
theorem iScOf_any (n : Int) (w : World) :
    Calls Tryz.prog 128 #[.int .i64 n] w fun e w' => e = .returned (.int .i64 (sca n)) ∧ w = w' := by
  have hb := tmod_bounds_sca n
  by_cases h : Int.tmod n 1009 < 0
  · have he := tmod_neg_sca h
    go_enter Tryz.func128, Tryz.ntmps128
    go_wp2
    go_ret
    exact ⟨rfl, rfl⟩
  · have he := tmod_nonneg_sca h
    go_enter Tryz.func128, Tryz.ntmps128
    go_wp2
    go_ret
    exact ⟨rfl, rfl⟩

set_option maxHeartbeats 400000 in
set_option maxRecDepth 100000 in
theorem iScAdd_any (a b : Int) (w : World) :
    Calls Tryz.prog 94 #[.int .i64 a, .int .i64 b] w fun e w' => e = .returned (.int .i64 (scAdd a b)) ∧ w = w' := by
  have ha0 := sca_nonneg a
  have ha1 := sca_lt a
  have hb0 := sca_nonneg b
  have hb1 := sca_lt b
  have HE : Hid (scAdd a b = sca (sca a + sca b)) := rfl
  go_enter Tryz.func94, Tryz.ntmps94
  go_wp2_with (go_at_call 128; refine (iScOf_any _ _).mono ?_; rintro e w1 ⟨rfl, rfl⟩)
  go_ret
  exact ⟨by rw [HE.out]; rfl, rfl⟩

set_option maxHeartbeats 400000 in
set_option maxRecDepth 100000 in
theorem iScMul_any (a b : Int) (w : World) :
    Calls Tryz.prog 56 #[.int .i64 a, .int .i64 b] w fun e w' => e = .returned (.int .i64 (scMul a b)) ∧ w = w' := by
  have hp := sca_prod a b
  have HE : Hid (scMul a b = sca (sca a * sca b)) := rfl
  go_enter Tryz.func56, Tryz.ntmps56
  go_wp2_with (go_at_call 128; refine (iScOf_any _ _).mono ?_; rintro e w1 ⟨rfl, rfl⟩)
  go_ret
  exact ⟨by rw [HE.out]; rfl, rfl⟩

set_option maxHeartbeats 400000 in
set_option maxRecDepth 100000 in
theorem iScNeg_any (a : Int) (w : World) :
    Calls Tryz.prog 204 #[.int .i64 a] w fun e w' => e = .returned (.int .i64 (scNeg a)) ∧ w = w' := by
  have ha0 := sca_nonneg a
  have ha1 := sca_lt a
  have HE : Hid (scNeg a = sca (-sca a)) := rfl
  go_enter Tryz.func204, Tryz.ntmps204
  go_wp2_with (go_at_call 128; refine (iScOf_any _ _).mono ?_; rintro e w1 ⟨rfl, rfl⟩)
  go_ret
  exact ⟨by rw [HE.out]; rfl, rfl⟩

set_option maxHeartbeats 800000 in
set_option maxRecDepth 100000 in
theorem len64_any (w : World) :
    Calls Tryz.prog 196 #[.int .u64 1007] w fun e w' => e = .returned (.int .i64 10) ∧ w = w' := by
  go_enter Tryz.func196, Tryz.ntmps196
  go_wp2
  go_ret
  exact ⟨by kernel_rfl, rfl⟩

set_option maxHeartbeats 800000 in
set_option maxRecDepth 100000 in
theorem len_any (w : World) :
    Calls Tryz.prog 159 #[.int .u64 1007] w fun e w' => e = .returned (.int .i64 10) ∧ w = w' := by
  go_enter Tryz.func159, Tryz.ntmps159
  go_wp2_with (go_at_call 196; refine (len64_any _).mono ?_; rintro e w1 ⟨rfl, rfl⟩)
  go_ret
  exact ⟨rfl, rfl⟩

set_option maxHeartbeats 800000 in
set_option maxRecDepth 100000 in
theorem iScInv_any (a : Int) (w : World) :
    Calls Tryz.prog 96 #[.int .i64 a] w fun e w' => e = .returned (.int .i64 (scInv a)) ∧ w = w' := by
  obtain ⟨R, hR⟩ : ∃ R, R = scn a ^ eS % 1009 := ⟨_, rfl⟩
  have HV : Hid (scInv a = (R : Int)) := by rw [hR]; rfl
  have HR : Hid (R = scn a ^ eS % 1009) := hR
  clear hR
  go_enter Tryz.func96, Tryz.ntmps96
  go_wp2_with (go_at_call 159; refine (len_any _).mono ?_; rintro e w1 ⟨rfl, rfl⟩)
  go_loopw [3, 4, 8] (fun x b i wr => ∃ (k r : Nat) (s : Int), i = .int .i64 (k : Int) ∧ k ≤ 10 ∧ x = .int .i64 (r : Int) ∧ b = .int .i64 s ∧ r < 1009 ∧ Hid (r * scn s ^ (eS / 2 ^ k) % 1009 = R) ∧ w = wr) (fun _ _ i _ => 10 - (intOf i).toNat)
  case atStart => exact ⟨0, 1, a, rfl, by omega, rfl, rfl, by omega, (show 1 * scn a ^ (eS / 2 ^ 0) % 1009 = R by rw [Nat.one_mul, Nat.pow_zero, Nat.div_one, HR.out]), rfl⟩
  case round =>
    obtain ⟨k, r, s, rfl, hk, rfl, rfl, hr, HP, rfl⟩ := hrel
    by_cases h0 : k < 10
    · have h0' : (k : Int) < 10 := by omega
      have HS2 : Hid (scn s * scn s % 1009 < 1009) := Nat.mod_lt _ (by decide)
      have HR2 : Hid (r * scn s % 1009 < 1009) := Nat.mod_lt _ (by decide)
      have HC : Hid (∀ w, Calls Tryz.prog 56 #[.int .i64 (r : Int), .int .i64 s] w fun e w' => e = .returned (.int .i64 ((r * scn s % 1009 : Nat) : Int)) ∧ w = w') := fun w => by
        have h := iScMul_any r s w
        rw [scMul_nat, scn_small hr] at h
        exact h
      have HD : Hid (∀ w, Calls Tryz.prog 56 #[.int .i64 s, .int .i64 s] w fun e w' => e = .returned (.int .i64 ((scn s * scn s % 1009 : Nat) : Int)) ∧ w = w') := fun w => by
        have h := iScMul_any s s w
        rw [scMul_nat] at h
        exact h
      have HE : Hid (eS / 2 ^ (k + 1) = eS / 2 ^ k / 2) := by show _ = _; rw [Nat.pow_succ, Nat.div_div_eq_div_mul]
      obtain ⟨m, hm⟩ : ∃ m, m = eS / 2 ^ k := ⟨_, rfl⟩
      have HM : Hid (m = eS / 2 ^ k) := hm
      have hml : m ≤ 1007 := by rw [hm]; exact Nat.div_le_self _ _
      rw [← hm] at HP HE
      clear hm
      have hshr : (1007 : Int) / 2 ^ k = (m : Int) := by
        rw [HM.out, Int.natCast_ediv, Int.natCast_pow]; rfl
      by_cases h2 : m % 2 = 1
      · have h2' : Int.tmod (m : Int) 2 = 1 := by rw [Int.tmod_eq_emod_of_nonneg (by omega)]; omega
        have HN : Hid (r * scn s % 1009 * (scn s * scn s % 1009) ^ (m / 2) % 1009 = R) := (sca_odd r (scn s) m h2).trans HP.out
        rw [← HE.out] at HN
        generalize r * scn s % 1009 = r2 at HN HC HR2
        generalize hS2 : scn s * scn s % 1009 = s2 at HN HD HS2
        have HN2 : Hid (r2 * scn (s2 : Int) ^ (eS / 2 ^ (k + 1)) % 1009 = R) := by rw [scn_small HS2.out]; exact HN
        clear h2 HP HN hS2 HE HM
        go_wp2_with fail
        refine (HC.out _).mono ?_
        rintro e w1 ⟨rfl, rfl⟩
        go_wp2_with fail
        refine (HD.out _).mono ?_
        rintro e w1 ⟨rfl, rfl⟩
        go_wp2
        go_roundw
        case rel => exact ⟨k + 1, r2, s2, by go_num, by omega, rfl, rfl, HR2.out, HN2, by trivial⟩
        case measure => simp [intOf]; omega
      · have h2' : Int.tmod (m : Int) 2 = 0 := by rw [Int.tmod_eq_emod_of_nonneg (by omega)]; omega
        have HN : Hid (r * (scn s * scn s % 1009) ^ (m / 2) % 1009 = R) := (sca_even r (scn s) m (by omega)).trans HP.out
        rw [← HE.out] at HN
        generalize hS2 : scn s * scn s % 1009 = s2 at HN HD HS2
        have HN2 : Hid (r * scn (s2 : Int) ^ (eS / 2 ^ (k + 1)) % 1009 = R) := by rw [scn_small HS2.out]; exact HN
        clear h2 HP HN hS2 HE HM HC HR2
        go_wp2_with fail
        refine (HD.out _).mono ?_
        rintro e w1 ⟨rfl, rfl⟩
        go_wp2
        go_roundw
        case rel => exact ⟨k + 1, r, s2, by go_num, by omega, rfl, rfl, hr, HN2, by trivial⟩
        case measure => simp [intOf]; omega
    · have h0' : ¬ (k : Int) < 10 := by omega
      obtain rfl : k = 10 := by omega
      have HF : Hid (R = r) := by
        have h := HP.out
        rw [show eS / 2 ^ 10 = 0 from rfl, Nat.pow_zero, Nat.mul_one, Nat.mod_eq_of_lt hr] at h
        exact h.symm
      clear HP
      go_wp2
      go_ret
      exact ⟨by rw [HV.out, HF.out]; rfl, rfl⟩

end Go.Proofs.YthnahalboomkoaaGreat

/-
  The walks of the specification's scalars.
  (-DROP-: what the seat lacks is left out.)
-/
namespace Go.Proofs.YthnahalboomkoaaGreat
open Go.RowKit

set_option maxHeartbeats 400000 in
set_option maxRecDepth 100000 in
theorem sScOf_any (n : Int) (w : World) :
    Calls Tryz.prog 67 #[.int .i64 n] w fun e w' => e = .returned (.int .i64 (sca n)) ∧ w = w' := by
  have hb := tmod_bounds_sca n
  by_cases h : Int.tmod n 1009 < 0
  · have he := tmod_neg_sca h
    go_enter Tryz.func67, Tryz.ntmps67
    go_wp2
    go_ret
    exact ⟨rfl, rfl⟩
  · have he := tmod_nonneg_sca h
    go_enter Tryz.func67, Tryz.ntmps67
    go_wp2
    go_ret
    exact ⟨rfl, rfl⟩

set_option maxHeartbeats 400000 in
set_option maxRecDepth 100000 in
theorem sScAdd_any (a b : Int) (w : World) :
    Calls Tryz.prog 18 #[.int .i64 a, .int .i64 b] w fun e w' => e = .returned (.int .i64 (scAdd a b)) ∧ w = w' := by
  have ha0 := sca_nonneg a
  have ha1 := sca_lt a
  have hb0 := sca_nonneg b
  have hb1 := sca_lt b
  have HE : Hid (scAdd a b = sca (sca a + sca b)) := rfl
  go_enter Tryz.func18, Tryz.ntmps18
  go_wp2_with (go_at_call 67; refine (sScOf_any _ _).mono ?_; rintro e w1 ⟨rfl, rfl⟩)
  go_ret
  exact ⟨by rw [HE.out]; rfl, rfl⟩

set_option maxHeartbeats 400000 in
set_option maxRecDepth 100000 in
theorem sScMul_any (a b : Int) (w : World) :
    Calls Tryz.prog 81 #[.int .i64 a, .int .i64 b] w fun e w' => e = .returned (.int .i64 (scMul a b)) ∧ w = w' := by
  have hp := sca_prod a b
  have HE : Hid (scMul a b = sca (sca a * sca b)) := rfl
  go_enter Tryz.func81, Tryz.ntmps81
  go_wp2_with (go_at_call 67; refine (sScOf_any _ _).mono ?_; rintro e w1 ⟨rfl, rfl⟩)
  go_ret
  exact ⟨by rw [HE.out]; rfl, rfl⟩

set_option maxHeartbeats 800000 in
set_option maxRecDepth 100000 in
theorem sScInv_any (a : Int) (w : World) :
    Calls Tryz.prog 82 #[.int .i64 a] w fun e w' => e = .returned (.int .i64 (scInv a)) ∧ w = w' := by
  obtain ⟨A, hA⟩ : ∃ A, A = scn a := ⟨_, rfl⟩
  have HA : Hid (A < 1009) := by rw [hA]; exact scn_lt a
  have HFA : Hid (sca a = (A : Int)) := by rw [hA]; exact (scn_cast a).symm
  obtain ⟨R, hR⟩ : ∃ R, R = A ^ eS % 1009 := ⟨_, rfl⟩
  have HV : Hid (scInv a = (R : Int)) := by rw [hR, hA]; rfl
  have HR : Hid (R = A ^ eS % 1009) := hR
  clear hA hR
  go_enter Tryz.func82, Tryz.ntmps82
  go_wp2_with (go_at_call 67; refine (sScOf_any _ _).mono ?_; rintro e w1 ⟨rfl, rfl⟩)
  rw [HFA.out]
  go_loopw [3, 4, 5] (fun x b m wr => ∃ k r s : Nat, m = .int .i64 (k : Int) ∧ k ≤ 1007 ∧ x = .int .i64 (r : Int) ∧ b = .int .i64 (s : Int) ∧ r < 1009 ∧ s < 1009 ∧ Hid (r * s ^ k % 1009 = R) ∧ w = wr) (fun _ _ m _ => (intOf m).toNat)
  case atStart => exact ⟨eS, 1, A, rfl, Nat.le_refl _, rfl, rfl, by omega, HA.out, (show 1 * A ^ eS % 1009 = R by rw [Nat.one_mul, HR.out]), rfl⟩
  case round =>
    obtain ⟨k, r, s, rfl, hk, rfl, rfl, hr, hs, HP, rfl⟩ := hrel
    by_cases h0 : 0 < k
    · have h0' : (0 : Int) < (k : Int) := by omega
      have hq : Int.tdiv (k : Int) 2 = ((k / 2 : Nat) : Int) := by rw [Int.tdiv_eq_ediv_of_nonneg (by omega)]; omega
      have hqb : k / 2 < k := by omega
      have HS2 : Hid (s * s % 1009 < 1009) := Nat.mod_lt _ (by decide)
      have HR2 : Hid (r * s % 1009 < 1009) := Nat.mod_lt _ (by decide)
      have HC : Hid (∀ w, Calls Tryz.prog 81 #[.int .i64 (r : Int), .int .i64 (s : Int)] w fun e w' => e = .returned (.int .i64 ((r * s % 1009 : Nat) : Int)) ∧ w = w') := fun w => by
        have h := sScMul_any r s w
        rw [scMul_nat, scn_small hr, scn_small hs] at h
        exact h
      have HD : Hid (∀ w, Calls Tryz.prog 81 #[.int .i64 (s : Int), .int .i64 (s : Int)] w fun e w' => e = .returned (.int .i64 ((s * s % 1009 : Nat) : Int)) ∧ w = w') := fun w => by
        have h := sScMul_any s s w
        rw [scMul_nat, scn_small hs] at h
        exact h
      by_cases h2 : k % 2 = 1
      · have h2' : Int.tmod (k : Int) 2 = 1 := by rw [Int.tmod_eq_emod_of_nonneg (by omega)]; omega
        have HN : Hid (r * s % 1009 * (s * s % 1009) ^ (k / 2) % 1009 = R) := (sca_odd r s k h2).trans HP.out
        generalize r * s % 1009 = r2 at HN HC HR2
        generalize s * s % 1009 = s2 at HN HD HS2
        generalize k / 2 = k2 at HN hq hqb
        clear h2 HP
        go_wp2_with fail
        refine (HC.out _).mono ?_
        rintro e w1 ⟨rfl, rfl⟩
        go_wp2_with fail
        refine (HD.out _).mono ?_
        rintro e w1 ⟨rfl, rfl⟩
        go_wp2
        go_roundw
        case rel => exact ⟨k2, r2, s2, by go_num, by omega, rfl, rfl, HR2.out, HS2.out, HN, by trivial⟩
        case measure => simp [intOf]; omega
      · have h2' : Int.tmod (k : Int) 2 = 0 := by rw [Int.tmod_eq_emod_of_nonneg (by omega)]; omega
        have HN : Hid (r * (s * s % 1009) ^ (k / 2) % 1009 = R) := (sca_even r s k (by omega)).trans HP.out
        generalize s * s % 1009 = s2 at HN HD HS2
        generalize k / 2 = k2 at HN hq hqb
        clear h2 HP HC HR2
        go_wp2_with fail
        refine (HD.out _).mono ?_
        rintro e w1 ⟨rfl, rfl⟩
        go_wp2
        go_roundw
        case rel => exact ⟨k2, r, s2, by go_num, by omega, rfl, rfl, hr, HS2.out, HN, by trivial⟩
        case measure => simp [intOf]; omega
    · have h0' : ¬ (0 : Int) < (k : Int) := by omega
      obtain rfl : k = 0 := by omega
      have HF : Hid (R = r) := by
        have h := HP.out
        rw [Nat.pow_zero, Nat.mul_one, Nat.mod_eq_of_lt hr] at h
        exact h.symm
      clear HP
      go_wp2
      go_ret
      exact ⟨by rw [HV.out, HF.out]; rfl, rfl⟩

end Go.Proofs.YthnahalboomkoaaGreat

/-
  The walks of ScDot, the program's and the specification's.
  (-DROP-: what the seat lacks is left out.)
-/
namespace Go.Proofs.YthnahalboomkoaaGreat
open Go.RowKit

set_option maxHeartbeats 800000 in
set_option maxRecDepth 100000 in
theorem iDot_any (a1 a2 : Option Addr) (n1 c1 n2 c2 : Nat) (hm1 : n1 ≤ 9223372036854775807) (f g : Nat → Int) (w : World)
    (hA : IntsAt w a1 n1 w.heap.size f) (hB : IntsAt w a2 n2 w.heap.size g) :
    Calls Tryz.prog 95 #[.slice a1 n1 c1, .slice a2 n2 c2] w fun e w' => e = .returned (.int .i64 (dotN f g (min n1 n2))) ∧ Below w.heap.size w w' := by
  have HA : Hid (IntsAt w a1 n1 w.heap.size f) := hA
  have HB : Hid (IntsAt w a2 n2 w.heap.size g) := hB
  clear hA hB
  obtain ⟨n, hn⟩ : ∃ n, n = min n1 n2 := ⟨_, rfl⟩
  have hmin : min (n1 : Int) (n2 : Int) = (n : Int) := by omega
  have hn1 : n ≤ n1 := by omega
  have hn2 : n ≤ n2 := by omega
  rw [← hn]
  clear hn
  go_enter Tryz.func95, Tryz.ntmps95
  go_wp2
  go_loopw [5, 12] (fun x i wr => ∃ k : Nat, i = .int .i64 (k : Int) ∧ k ≤ n ∧ x = .int .i64 (dotN f g k) ∧ Hid (Below w.heap.size w wr)) (fun _ i _ => n - (intOf i).toNat)
  case atStart => exact ⟨0, rfl, Nat.zero_le _, rfl, Below.refl _ _⟩
  case round =>
    obtain ⟨k, rfl, hk, rfl, HW⟩ := hrel
    by_cases hlt : k < n
    · have hlt' : (k : Int) < (n : Int) := by omega
      have hl1 : (k : Int) < (n1 : Int) := by omega
      have hl2 : (k : Int) < (n2 : Int) := by omega
      have hk0 : (0 : Int) ≤ (k : Int) := by omega
      obtain ⟨b, off, rfl, hb, hz⟩ := (HA.out.on HW.out) k (by omega)
      obtain ⟨b', off', rfl, hb', hz'⟩ := (HB.out.on HW.out) k (by omega)
      have HC : Hid (∀ w, Calls Tryz.prog 56 #[.int .i64 (f k), .int .i64 (g k)] w fun e w' => e = .returned (.int .i64 (scMul (f k) (g k))) ∧ w' = w) := fun w => (iScMul_any _ _ w).mono fun e w' h => ⟨h.1, h.2.symm⟩
      have HD : Hid (∀ w, Calls Tryz.prog 94 #[.int .i64 (dotN f g k), .int .i64 (scMul (f k) (g k))] w fun e w' => e = .returned (.int .i64 (dotN f g (k + 1))) ∧ w' = w) := fun w => (iScAdd_any _ _ w).mono fun e w' h => ⟨h.1, h.2.symm⟩
      generalize dotN f g k = d at HD
      generalize scMul (f k) (g k) = p at HC HD
      generalize f k = x at HC hz
      generalize g k = y at HC hz'
      clear hb hb' HA HB
      go_wp2
      refine wp_region_still_tail 11 mixesSc (by kernel_rfl) ?_
      simp only [List.take_succ_cons, List.take_zero, List.drop_succ_cons, List.drop_zero]
      repeat still_step
      still_call (HC.out _)
      repeat still_step
      still_call (HD.out _)
      repeat still_step
      refine wpStill_nil ?_
      go_wp2
      go_roundw
      case rel => exact ⟨k + 1, by go_num, hlt, rfl, HW.out.drew⟩
      case measure => simp [intOf]; omega
    · have hlt' : ¬ (k : Int) < (n : Int) := by omega
      have HK : Hid (k = n) := (show k = n by omega)
      go_wp2
      go_ret
      exact ⟨by rw [← HK.out]; rfl, HW.out⟩

end Go.Proofs.YthnahalboomkoaaGreat

/-
  The walk of the specification's question whether a number lies between two.
  (-DROP-: what the seat lacks is left out.)
-/
namespace Go.Proofs.YthnahalboomkoaaGreat
open Go.RowKit

set_option maxHeartbeats 400000 in
set_option maxRecDepth 100000 in
theorem sBetween_any (x a b : Int) (w : World) :
    Calls Tryz.prog 87 #[.int .i64 x, .int .i64 a, .int .i64 b] w fun e w' => e = .returned (.bool (decide (a ≤ x ∧ x ≤ b))) ∧ w = w' := by
  by_cases h0 : a ≤ x
  · by_cases h1 : x ≤ b
    · rw [decide_eq_true ⟨h0, h1⟩]
      go_enter Tryz.func87, Tryz.ntmps87
      go_wp2
      go_ret
      exact ⟨rfl, rfl⟩
    · rw [decide_eq_false (by omega)]
      go_enter Tryz.func87, Tryz.ntmps87
      go_wp2
      go_ret
      exact ⟨rfl, rfl⟩
  · rw [decide_eq_false (by omega)]
    go_enter Tryz.func87, Tryz.ntmps87
    go_wp2
    go_ret
    exact ⟨rfl, rfl⟩

end Go.Proofs.YthnahalboomkoaaGreat

/-
  Systems of products as the document tells of them: no program in here.
-/
namespace Go.Proofs.YthnahalboomkoaaGreat

/-- So many numbers, all of them scalars. -/
def wide (l : List Int) (n : Int) : Bool := decide ((l.length : Int) = n) && l.all fun x => decide (0 ≤ x ∧ x ≤ 1008)

end Go.Proofs.YthnahalboomkoaaGreat
