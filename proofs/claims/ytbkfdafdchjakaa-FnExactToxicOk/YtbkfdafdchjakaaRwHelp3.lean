/-
  The walks of the helpers of the exact laws on rows and systems: systems copied, whether two are the same, marks.
  (-DROP-: what the seat lacks is left out.)
-/
import Derived.Test.YtbkfdafdchjakaaRwHelp2

namespace Go.Proofs.Ytbkfdafdchjakaa
open Go.RowKit

theorem infoSy : (Try.prog.info? 26).map (·.size) = some 3 := by kernel_rfl

theorem infoSl : (Try.prog.info? 50).map (·.size) = some 3 := by kernel_rfl

/-- A system is its numbers and its rows. -/
def sysV (wi pu : Int) (v : Value) : Value := .agg #[.int .i64 wi, .int .i64 pu, v]
theorem ZOwn.oth {lo hi g : Nat} {w w' : World} {v : Value} {l : List Int} (h : ZOwn lo hi w v l) (hoth : ∀ g' t cs, g ≠ g' → Blk w g' t cs → Blk w' g' t cs) (hg : g < lo) : ZOwn lo hi w' v l := ⟨owns_other h.1 hoth hg, h.2⟩
theorem NOwnV.oth {sz e lo hi n g : Nat} {w w' : World} {v : Value} {vs : List Value} {ls : List (List Int)} (h : NOwnV sz e lo hi w v n vs ls) (hoth : ∀ g' t cs, g ≠ g' → Blk w g' t cs → Blk w' g' t cs) (hg : g < lo) : NOwnV sz e lo hi w' v n vs ls :=
  ⟨owns_other h.row hoth hg, h.len, h.top, fun j hj => (h.each j hj).oth hoth hg, h.apart, h.off⟩
theorem NOwnV.low {sz e lo lo' hi n : Nat} {w : World} {v : Value} {vs : List Value} {ls : List (List Int)} (h : NOwnV sz e lo hi w v n vs ls) (h2 : lo' ≤ lo) : NOwnV sz e lo' hi w v n vs ls :=
  ⟨owns_low h.row h2, h.len, h.top, fun j hj => (h.each j hj).wide h2 (Nat.le_refl _), h.apart, h.off⟩
theorem onesSy (wi pu : Int) (a : Option Addr) (n c : Nat) : (#[Value.int .i64 wi, .int .i64 pu, .slice a n c]).all (·.oneCell') = true := by simp [Value.oneCell']

set_option maxHeartbeats 800000 in
set_option maxRecDepth 100000 in
theorem eqRow_any (a0 b0 : Option Addr) (n0 c0 d0 : Nat) (h0 : n0 ≤ 1048576) (f0 : Nat → Int) (a1 b1 : Option Addr) (n1 c1 d1 : Nat) (h1 : n1 ≤ 1048576) (f1 : Nat → Int) (a2 b2 : Option Addr) (n2 c2 d2 : Nat) (h2 : n2 ≤ 1048576) (f2 : Nat → Int) (w : World) (A0 : IntsAt w a0 n0 w.heap.size f0) (B0 : IntsAt w b0 n0 w.heap.size f0) (A1 : IntsAt w a1 n1 w.heap.size f1) (B1 : IntsAt w b1 n1 w.heap.size f1) (A2 : IntsAt w a2 n2 w.heap.size f2) (B2 : IntsAt w b2 n2 w.heap.size f2) :
    Calls Try.prog 71 #[.agg #[.slice a0 n0 c0, .slice a1 n1 c1, .slice a2 n2 c2], .agg #[.slice b0 n0 d0, .slice b1 n1 d1, .slice b2 n2 d2]] w fun e w' => e = .returned (.bool true) ∧ Below w.heap.size w w' := by
  obtain ⟨W, hW, hB, hx, hy⟩ := boxes1r w 93 93 #[.slice a0 n0 c0, .slice a1 n1 c1, .slice a2 n2 c2] #[.slice b0 n0 d0, .slice b1 n1 d1, .slice b2 n2 d2]
  have H0 : Hid (IntsAt w a0 n0 w.heap.size f0 ∧ IntsAt w b0 n0 w.heap.size f0) := ⟨A0, B0⟩
  have H1 : Hid (IntsAt w a1 n1 w.heap.size f1 ∧ IntsAt w b1 n1 w.heap.size f1) := ⟨A1, B1⟩
  have H2 : Hid (IntsAt w a2 n2 w.heap.size f2 ∧ IntsAt w b2 n2 w.heap.size f2) := ⟨A2, B2⟩
  clear A0 A1 A2 B0 B1 B2
  have q0 := hx.cell 0
  have r0 := hy.cell 0
  go_enter Try.func71, Try.ntmps71
  go_wp2_with fail
  clear hW
  refine (eqIntS_any a0 b0 n0 c0 d0 h0 f0 _ ((H0.out.1.on hB).wide hB.size) ((H0.out.2.on hB).wide hB.size)).mono ?_
  rintro e w1 ⟨rfl, hb⟩
  clear q0 r0
  replace hx := hx.on hb hx.lt
  replace hy := hy.on hb hy.lt
  replace hB := below_then hB hb
  clear hb
  have q1 := hx.cell 1
  have r1 := hy.cell 1
  go_wp2_with fail
  refine (eqIntS_any a1 b1 n1 c1 d1 h1 f1 _ ((H1.out.1.on hB).wide hB.size) ((H1.out.2.on hB).wide hB.size)).mono ?_
  rintro e w2 ⟨rfl, hb⟩
  clear q1 r1
  replace hx := hx.on hb hx.lt
  replace hy := hy.on hb hy.lt
  replace hB := below_then hB hb
  clear hb
  have q2 := hx.cell 2
  have r2 := hy.cell 2
  go_wp2_with fail
  refine (eqIntS_any a2 b2 n2 c2 d2 h2 f2 _ ((H2.out.1.on hB).wide hB.size) ((H2.out.2.on hB).wide hB.size)).mono ?_
  rintro e w3 ⟨rfl, hb⟩
  clear q2 r2
  replace hx := hx.on hb hx.lt
  replace hy := hy.on hb hy.lt
  replace hB := below_then hB hb
  clear hb
  go_wp2
  go_ret
  exact ⟨rfl, hB⟩

set_option maxHeartbeats 800000 in
set_option maxRecDepth 100000 in
theorem eqRowS_any (a b : Option Addr) (n c1 c2 : Nat) (hn : n ≤ 1048576) (ls : List (List Int)) (hz : ∀ j, (ls.getD j []).length ≤ 1048576) (w : World) (hA : NAt 3 w w.heap.size (.slice a n c1) n ls) (hB : NAt 3 w w.heap.size (.slice b n c2) n ls) :
    Calls Try.prog 43 #[.slice a n c1, .slice b n c2] w fun e w' => e = .returned (.bool true) ∧ Below w.heap.size w w' := by
  have HA : Hid (NAt 3 w w.heap.size (.slice a n c1) n ls) := hA
  have HB : Hid (NAt 3 w w.heap.size (.slice b n c2) n ls) := hB
  have HZ : Hid (∀ j, (ls.getD j []).length ≤ 1048576) := hz
  clear hA hB hz
  go_enter Try.func43, Try.ntmps43
  go_wp2
  go_loopw [5] (fun i wr => ∃ k : Nat, i = .int .i64 (k : Int) ∧ k ≤ n ∧ Hid (Below w.heap.size w wr)) (fun i _ => n - (intOf i).toNat)
  case atStart => exact ⟨0, rfl, Nat.zero_le _, Below.refl _ _⟩
  case round =>
    obtain ⟨k, rfl, hk, HW⟩ := hrel
    by_cases hlt : k < n
    · have hlt' : (k : Int) < (n : Int) := by omega
      have hk0 : (0 : Int) ≤ (k : Int) := by omega
      have hws : w.heap.size ≤ wr.heap.size := HW.out.size
      obtain ⟨b, off, a0, c0, a1, c1, a2, c2, rfl, hb, z0, z1, z2, i0, i1, i2⟩ := (HA.out.on HW.out).row3 hlt
      obtain ⟨b', off', b0, d0, b1, d1, b2, d2, rfl, hb', y0, y1, y2, j0, j1, j2⟩ := (HB.out.on HW.out).row3 hlt
      have HT : Hid (∀ w', Below wr.heap.size wr w' → Calls Try.prog 71 #[.agg #[.slice a0 (ls.getD (k * 3) []).length c0, .slice a1 (ls.getD (k * 3 + 1) []).length c1, .slice a2 (ls.getD (k * 3 + 2) []).length c2], .agg #[.slice b0 (ls.getD (k * 3) []).length d0, .slice b1 (ls.getD (k * 3 + 1) []).length d1, .slice b2 (ls.getD (k * 3 + 2) []).length d2]] w' fun e w'' => e = .returned (.bool true) ∧ Below w'.heap.size w' w'') := fun w' hw =>
        eqRow_any a0 b0 _ c0 d0 (HZ.out _) _ a1 b1 _ c1 d1 (HZ.out _) _ a2 b2 _ c2 d2 (HZ.out _) _ w' (((i0.wide hws).on hw).wide hw.size) (((j0.wide hws).on hw).wide hw.size) (((i1.wide hws).on hw).wide hw.size) (((j1.wide hws).on hw).wide hw.size) (((i2.wide hws).on hw).wide hw.size) (((j2.wide hws).on hw).wide hw.size)
      generalize (ls.getD (k * 3) []).length = m0 at HT z0 y0
      generalize (ls.getD (k * 3 + 1) []).length = m1 at HT z1 y1
      generalize (ls.getD (k * 3 + 2) []).length = m2 at HT z2 y2
      have Z0 : ∀ w', Below wr.heap.size wr w' → w'.cell? ⟨b, off + k * 3, none⟩ = some (.slice a0 m0 c0) := fun w' hw => (hw.cell (p := ⟨b, off + k * 3, none⟩) (by show b < _; omega)).trans z0
      have Z1 : ∀ w', Below wr.heap.size wr w' → w'.cell? ⟨b, off + k * 3 + 1, none⟩ = some (.slice a1 m1 c1) := fun w' hw => (hw.cell (p := ⟨b, off + k * 3 + 1, none⟩) (by show b < _; omega)).trans z1
      have Z2 : ∀ w', Below wr.heap.size wr w' → w'.cell? ⟨b, off + k * 3 + 2, none⟩ = some (.slice a2 m2 c2) := fun w' hw => (hw.cell (p := ⟨b, off + k * 3 + 2, none⟩) (by show b < _; omega)).trans z2
      have Y0 : ∀ w', Below wr.heap.size wr w' → w'.cell? ⟨b', off' + k * 3, none⟩ = some (.slice b0 m0 d0) := fun w' hw => (hw.cell (p := ⟨b', off' + k * 3, none⟩) (by show b' < _; omega)).trans y0
      have Y1 : ∀ w', Below wr.heap.size wr w' → w'.cell? ⟨b', off' + k * 3 + 1, none⟩ = some (.slice b1 m1 d1) := fun w' hw => (hw.cell (p := ⟨b', off' + k * 3 + 1, none⟩) (by show b' < _; omega)).trans y1
      have Y2 : ∀ w', Below wr.heap.size wr w' → w'.cell? ⟨b', off' + k * 3 + 2, none⟩ = some (.slice b2 m2 d2) := fun w' hw => (hw.cell (p := ⟨b', off' + k * 3 + 2, none⟩) (by show b' < _; omega)).trans y2
      clear HA HB hb hb' z0 z1 z2 y0 y1 y2 i0 i1 i2 j0 j1 j2 HZ
      go_wp2
      refine wp_region_class 9 (fun wz => Below wr.heap.size wr wz) mixes (by kernel_rfl) (Below.refl _ _).drew ?_
      simp only [List.take_succ_cons, List.take_zero, List.drop_succ_cons, List.drop_zero]
      repeat (refine cls_step rfl (fun K hK => ⟨_, (fun w' hw => by have z0 := Z0 w' hw; have z1 := Z1 w' hw; have z2 := Z2 w' hw; have z3 := Y0 w' hw; have z4 := Y1 w' hw; have z5 := Y2 w' hw; go_simp; exact rfl), ?_⟩); go_simp; refine hK _ ?_; clear hK K)
      refine cls_call rfl (fun K hK => ⟨_, _, _, (fun w' => by go_simp <;> first | exact rfl | exact ⟨rfl, rfl⟩), (fun w' hw => calls_below hw (HT.out _ hw)), ?_⟩); go_simp; refine hK _ ?_; clear hK K
      refine wq_nil ?_
      intro w' hw
      have HW2 : Hid (Below w.heap.size w w') := HW.out.trans (hw.mono hws)
      clear hw HW
      go_wp2
      go_roundw
      case rel => exact ⟨k + 1, by go_num, hlt, HW2⟩
      case measure => simp [intOf]; omega
    · have hlt' : ¬ (k : Int) < (n : Int) := by omega
      go_wp2
      go_ret
      exact ⟨rfl, HW.out⟩

set_option maxHeartbeats 800000 in
set_option maxRecDepth 100000 in
theorem eqSystem_any (wi pu : Int) (a b : Option Addr) (n c1 c2 : Nat) (hn : n ≤ 1048576) (ls : List (List Int)) (hz : ∀ j, (ls.getD j []).length ≤ 1048576) (w : World) (hA : NAt 3 w w.heap.size (.slice a n c1) n ls) (hB : NAt 3 w w.heap.size (.slice b n c2) n ls) :
    Calls Try.prog 17 #[sysV wi pu (.slice a n c1), sysV wi pu (.slice b n c2)] w fun e w' => e = .returned (.bool true) ∧ Below w.heap.size w w' := by
  obtain ⟨W, hW, hb, hx, hy⟩ := boxes1r w 26 26 #[.int .i64 wi, .int .i64 pu, .slice a n c1] #[.int .i64 wi, .int .i64 pu, .slice b n c2]
  have HA : Hid (NAt 3 W W.heap.size (.slice a n c1) n ls) := (hA.on hb).wide hb.size
  have HB : Hid (NAt 3 W W.heap.size (.slice b n c2) n ls) := (hB.on hb).wide hb.size
  have q0 := hx.cell 0
  have q1 := hx.cell 1
  have q2 := hx.cell 2
  have r0 := hy.cell 0
  have r1 := hy.cell 1
  have r2 := hy.cell 2
  clear hA hB
  unfold sysV
  go_enter Try.func17, Try.ntmps17
  go_wp2_with fail
  clear hW
  refine (eqRowS_any a b n c1 c2 hn ls hz _ HA.out HB.out).mono ?_
  rintro e w1 ⟨rfl, hb1⟩
  have hB1 := below_then hb hb1
  clear hb hb1 hx hy q0 q1 q2 r0 r1 r2 HA HB
  go_wp2
  go_ret
  exact ⟨rfl, hB1⟩

set_option maxHeartbeats 800000 in
set_option maxRecDepth 100000 in
theorem toSystem_any (wi pu : Int) (a : Option Addr) (n c : Nat) (hn : n ≤ 1048576) (ls : List (List Int)) (hz : ∀ j, (ls.getD j []).length ≤ 1048576) (w : World) (hA : NAt 3 w w.heap.size (.slice a n c) n ls) :
    Calls Try.prog 14 #[sysV wi pu (.slice a n c)] w fun e w' => ∃ g vs, e = .returned (sysV wi pu (.slice (some ⟨g, 0, none⟩) n n)) ∧ NOwnV 3 93 w.heap.size w'.heap.size w' (.slice (some ⟨g, 0, none⟩) n n) n vs ls ∧ Below w.heap.size w w' := by
  obtain ⟨W, hW, hb, hx, hr, ho⟩ := boxes2r w 50 26 26 #[.int .i64 wi, .int .i64 pu, .slice a n c] #[.int .i64 0, .int .i64 0, .slice none 0 0] #[.int .i64 0, .int .i64 0, .slice none 0 0]
  have HA : Hid (NAt 3 w w.heap.size (.slice a n c) n ls) := hA
  have hWs : w.heap.size + 3 ≤ W.heap.size := by rw [← hW]; simp
  have x0 := hx.cell 0
  have x1 := hx.cell 1
  have x2 := hx.cell 2
  have p0 := ho.cell 0
  have p1 := ho.cell 1
  have s0 := ho.free 0
  have s1 := ho.free 1
  clear hA
  have ho1 := (ho.set 0 (.int .i64 wi)).set 1 (.int .i64 pu)
  have hr1 := (hr.other (i := 0) (g' := w.heap.size + 1 + 1) (by omega) (.int .i64 wi)).other (i := 1) (g' := w.heap.size + 1 + 1) (by omega) (.int .i64 pu)
  have hB1 := (hb.setCell (p := ⟨w.heap.size + 1 + 1, 0, none⟩) (by show w.heap.size ≤ w.heap.size + 1 + 1; omega) (.int .i64 wi)).setCell (p := ⟨w.heap.size + 1 + 1, 1, none⟩) (by show w.heap.size ≤ w.heap.size + 1 + 1; omega) (.int .i64 pu)
  unfold sysV
  go_enter Try.func14, Try.ntmps14
  go_wp2_with fail
  clear hW x0 x1 x2 p0 p1 s0 s1 hx hr ho hb
  have hVs : w.heap.size + 3 ≤ ((W.setCell ⟨w.heap.size + 1 + 1, 0, none⟩ (.int .i64 wi)).setCell ⟨w.heap.size + 1 + 1, 1, none⟩ (.int .i64 pu)).heap.size := by simp [World.setCell]; exact hWs
  clear hWs
  generalize (W.setCell ⟨w.heap.size + 1 + 1, 0, none⟩ (.int .i64 wi)).setCell ⟨w.heap.size + 1 + 1, 1, none⟩ (.int .i64 pu) = V at ho1 hr1 hB1 hVs ⊢
  refine (toRowS_any a n c hn ls hz _ ((HA.out.on hB1).wide hB1.size)).mono ?_
  rintro e w1 ⟨rfl, ⟨vs, hO⟩, hb1⟩
  have ho2 := ho1.on hb1 ho1.lt
  have hr2 := hr1.on hb1 hr1.lt
  have hB2 := below_then hB1 hb1
  have p2 := ho2.cell 2
  have s2 := ho2.free 2
  obtain ⟨g, hg⟩ : ∃ g, g = V.heap.size := ⟨_, rfl⟩
  rw [← hg] at hO hVs ⊢
  clear hg hb1
  have ho3 := ho2.set 2 (.slice (some ⟨g, 0, none⟩) n n)
  have hr3 := hr2.other (i := 2) (g' := w.heap.size + 1 + 1) (by omega) (.slice (some ⟨g, 0, none⟩) n n)
  have hO3 := hO.same (Same.set w1 ⟨w.heap.size + 1 + 1, 2, none⟩ (.slice (some ⟨g, 0, none⟩) n n) (.inl (by show w.heap.size + 1 + 1 < g; omega)))
  have hB3 := hB2.setCell (p := ⟨w.heap.size + 1 + 1, 2, none⟩) (by show w.heap.size ≤ w.heap.size + 1 + 1; omega) (.slice (some ⟨g, 0, none⟩) n n)
  have hS3 : w1.heap.size ≤ (w1.setCell ⟨w.heap.size + 1 + 1, 2, none⟩ (.slice (some ⟨g, 0, none⟩) n n)).heap.size := by simp [World.setCell]
  clear ho1 hr1 hB1 ho2 hr2 hB2 hO HA
  go_wp2_with (first | (refine load_blk rfl rfl rfl ho3 Try.underlying26 infoSy ?_) | (refine store_blk (cs' := #[.int .i64 wi, .int .i64 pu, .slice (some ⟨g, 0, none⟩) n n]) rfl rfl rfl rfl rfl hr3 infoSy rfl (onesSy _ _ _ _ _) ?_; intro V2 h5 hoth hbel; have hbV := hbel _ _ (by omega) hB3; have hbV2 := hbel 0 _ (by omega) (Below.refl 0 _); have hOV := hO3.oth hoth (by omega); clear hoth hbel))
  refine bodyPost_ret_by (result_blk rfl rfl h5 Try.underlying26 infoSy) rfl ⟨g, vs, rfl, (hOV.wide (Nat.le_trans hS3 hbV2.size)).low (by omega), hbV⟩

set_option maxHeartbeats 800000 in
set_option maxRecDepth 100000 in
theorem szSystem_any (wi pu : Int) (a : Option Addr) (n c : Nat) (hn : n ≤ 9223372036854775807) (ls : List (List Int)) (hz : ∀ j, (ls.getD j []).length ≤ 9223372036854775807) (w : World) (hA : NAt 3 w w.heap.size (.slice a n c) n ls) :
    Calls Try.prog 12 #[sysV wi pu (.slice a n c), .int .i64 1048576] w fun e w' => e = .returned (.int .i64 (szF 1048576 (n + tot ls))) ∧ Below w.heap.size w w' := by
  obtain ⟨W, hW, hb, hx⟩ := box1 w 50 #[.int .i64 wi, .int .i64 pu, .slice a n c]
  have HA : Hid (NAt 3 W W.heap.size (.slice a n c) n ls) := (hA.on hb).wide hb.size
  have q0 := hx.cell 2
  clear hA
  have HC : Hid (Calls Try.prog 38 #[.slice a n c, .int .i64 1048576] W fun e w' => e = .returned (.int .i64 (szF 1048576 (n + tot ls))) ∧ Below W.heap.size W w') := szRowS_any a n c hn ls hz W HA.out
  have hs : szF 1048576 (n + tot ls) = -1 ∨ ¬ szF 1048576 (n + tot ls) < 0 := by unfold szF; by_cases h : n + tot ls ≤ 1048576 <;> simp [h] <;> omega
  generalize szF 1048576 (n + tot ls) = r at hs HC ⊢
  unfold sysV
  rcases hs with rfl | hs
  · go_enter Try.func12, Try.ntmps12
    go_wp2_with fail
    clear hW
    refine HC.out.mono ?_
    rintro e w1 ⟨rfl, hb1⟩
    have hB1 := below_then hb hb1
    clear hb hb1 hx q0 HA HC
    go_wp2
    go_ret
    exact ⟨rfl, hB1⟩
  · go_enter Try.func12, Try.ntmps12
    go_wp2_with fail
    clear hW
    refine HC.out.mono ?_
    rintro e w1 ⟨rfl, hb1⟩
    have hB1 := below_then hb hb1
    clear hb hb1 hx q0 HA HC
    go_wp2
    go_ret
    exact ⟨rfl, hB1⟩

end Go.Proofs.Ytbkfdafdchjakaa
