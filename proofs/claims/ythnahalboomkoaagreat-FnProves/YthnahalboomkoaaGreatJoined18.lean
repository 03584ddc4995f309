/-
  Texts of one's own, joined.
-/
import Derived.Test.YthnahalboomkoaaGreatJoined5
import Derived.Test.YthnahalboomkoaaGreatJoined4
import Derived.Test.YthnahalboomkoaaGreatJoined13
import Derived.Test.YthnahalboomkoaaGreatPrfS5

/-
  The walk of the program's word on whether all points of a list are in the group.
  (-DROP-: what the seat lacks is left out.)
-/
namespace Go.Proofs.YthnahalboomkoaaGreat
open Go.RowKit

/-- Whether the first n are in the group. -/
def allI (f : Nat → Pt) : Nat → Bool
  | 0 => true
  | n + 1 => allI f n && inGB (f n)
theorem allI_more (f : Nat → Pt) {k : Nat} (h : allI f k = false) : ∀ n, k ≤ n → allI f n = false
  | 0, hk => by rw [show (0 : Nat) = k by omega]; exact h
  | n + 1, hk => by
    by_cases e : k = n + 1
    · rw [← e]; exact h
    · show (allI f n && _) = false
      rw [allI_more f h n (by omega), Bool.false_and]

set_option maxHeartbeats 1600000 in
set_option maxRecDepth 100000 in
theorem allIn_any (a : Option Addr) (n c : Nat) (hm : n ≤ 9223372036854775807) (f : Nat → Pt) (w : World) (hA : PtsAt w a n w.heap.size f) :
    Calls Tryz.prog 60 #[.slice a n c] w fun e w' => e = .returned (.bool (allI f n)) ∧ Below w.heap.size w w' := by
  have HA : Hid (PtsAt w a n w.heap.size f) := hA
  clear hA
  go_enter Tryz.func60, Tryz.ntmps60
  go_wp2
  have H0 : Hid (allI f 0 = true ∧ Below w.heap.size w w) := ⟨rfl, Below.refl _ _⟩
  go_loopw [7] (fun i wr => ∃ k : Nat, i = .int .i64 (k : Int) ∧ k ≤ n ∧ Hid (allI f k = true ∧ Below w.heap.size w wr)) (fun i _ => n - (intOf i).toNat)
  case atStart => exact ⟨0, rfl, Nat.zero_le _, H0⟩
  case round =>
    obtain ⟨k, rfl, hk, HD⟩ := hrel
    clear H0
    by_cases hlt : k < n
    · have hlt' : (k : Int) < (n : Int) := by omega
      have hk0 : (0 : Int) ≤ (k : Int) := by omega
      have hB0 := HD.out.2
      obtain ⟨b, off, rfl, hb, z0, z1, z2⟩ := (HA.out.on hB0) k hlt
      have HG : Hid (allI f (k + 1) = inGB (f k)) := by show (allI f k && _) = _; rw [HD.out.1, Bool.true_and]
      have HG2 : Hid (allI f (k + 1) = false → allI f n = false) := fun h => allI_more f h n (by omega)
      have HI : Hid (∀ w, Calls Tryz.prog 65 #[pv (f k)] w fun e w' => e = .returned (.bool (inGB (f k))) ∧ Below w.heap.size w w') := iInG_any _
      generalize inGB (f k) = ga at HI HG
      generalize f k = F at z0 z1 z2 HI
      obtain ⟨x, y, z⟩ := F
      simp only at z0 z1 z2
      unfold pv at HI
      simp only at HI
      clear HD
      go_wp2_with fail
      obtain ⟨V, hV, hbV, h5⟩ := box1 wr 35 #[.int .i64 x, .int .i64 y, .bool z]
      rw [hV]
      refine (HI.out _).mono ?_
      rintro e w1 ⟨rfl, hb1⟩
      have hB1 : Below w.heap.size w w1 := hB0.trans ((below_then hbV hb1).mono hB0.size)
      clear hb1 hbV hV h5 hB0 z0 z1 z2 HI
      cases ga
      · have HF : Hid (allI f n = false) := HG2.out HG.out
        go_wp2
        go_ret
        exact ⟨by rw [HF.out]; rfl, hB1⟩
      · go_wp2
        go_roundw
        case rel => exact ⟨k + 1, by go_num, hlt, ⟨HG.out, hB1⟩⟩
        case measure => simp [intOf]; omega
    · have hlt' : ¬ (k : Int) < (n : Int) := by omega
      have HF : Hid (allI f n = true) := by
        show allI f n = true
        rw [show n = k by omega]; exact HD.out.1
      have hB0 := HD.out.2
      clear HD HA
      go_wp2
      go_ret
      exact ⟨by rw [HF.out]; rfl, hB0⟩

end Go.Proofs.YthnahalboomkoaaGreat

/-
  Whole arrays out of their blocks, and as results.
-/
namespace Go.Proofs.YthnahalboomkoaaGreat
open Go.RowKit

theorem Blk.loadA {P : Program} {w : World} {g n : Nat} {t ty e : TypeId} {cs : Array Value} (h : Blk w g t cs) (hu : P.underlying ty = some (.array n e)) (hi : (P.info? ty).map (·.size) = some cs.size) :
    (loadVar ty ⟨g, 0, none⟩).run P w = .ok (.agg cs) w := run_loadVar_row w g t ty cs (0, 0) _ h hu rfl hi

theorem result_blkA {P : Program} {fn : Func} {p : Tmp} {ty t e : TypeId} {n : Nat} (h : fn.results = #[.cell p ty]) {tmps : Array Value} {w : World} {g : Nat} {cs : Array Value} (hp : tmps.getD p undef = .pointer (some ⟨g, 0, none⟩))
    (hA : Blk w g t cs) (hu : P.underlying ty = some (.array n e)) (hi : (P.info? ty).map (·.size) = some cs.size) : (results fn tmps).run P w = .ok (.agg cs) w := by
  have hl := hA.loadA hu hi
  have hp' : tmps[p]?.getD undef = .pointer (some ⟨g, 0, none⟩) := by simpa using hp
  simp [results, h, hp', asAddr, hl]

theorem load_blkA {P : Program} {w : World} {ops : Array Oper} {rest : List Oper} {o : Oper} {a : Act} {Q : Exit → Act → World → Prop} (hg : o.guard = none) {t : TypeId} {p : Operand} (hop : o.op = Op.load t p)
    {g n : Nat} {t' e : TypeId} {cs : Array Value} (hp : a.eval p = .pointer (some ⟨g, 0, none⟩)) (h : Blk w g t' cs) (hu : P.underlying t = some (.array n e)) (hi : (P.info? t).map (·.size) = some cs.size)
    (K : wpList P ops Q rest (a.put o.dst (.agg cs)) w) : wpList P ops Q (o :: rest) a w := by
  refine wpList_plain hg fun K' hK' => ?_
  have hrun : (Instr.loadAt t (.pointer (some ⟨g, 0, none⟩))).run P w = .ok (.agg cs) w := by
    simp only [Instr.loadAt, Instr.sureAddr, Sem.run_bind, Sem.run_pure, Result.andThen]
    exact h.loadA hu hi
  unfold Oper.wp
  simp [execOp, hop, hp, hrun, Result.andThen]
  exact hK' _ _ K

end Go.Proofs.YthnahalboomkoaaGreat

/-
  The walks of the program's points of a proof, and of its text.
  (-DROP-: what the seat lacks is left out.)
-/
namespace Go.Proofs.YthnahalboomkoaaGreat
open Go.RowKit

theorem infoPr : (Tryz.prog.info? 44).map (·.size) = some 9 := by kernel_rfl
theorem infoPp : (Tryz.prog.info? 99).map (·.size) = some 9 := by kernel_rfl
theorem ones9 (A B C : Pt) : (prfC A B C).all (·.oneCell') = true := by simp [prfC, Value.oneCell']
/-- Three points, by place. -/
def three (A B C : Pt) : Nat → Pt
  | 0 => A
  | 1 => B
  | _ => C
theorem three_all (A B C : Pt) : allI (three A B C) 3 = prfIn A B C := by
  show (((true && inGB A) && inGB B) && inGB C) = (inGB A && (inGB B && inGB C))
  rw [Bool.true_and, Bool.and_assoc]
theorem pts3 {w : World} {g t c : Nat} (hc : g < c) {A B C : Pt} (h : Blk w g t (prfC A B C)) : PtsAt w (some ⟨g, 0, none⟩) 3 c (three A B C) := fun j hj => by
  refine ⟨g, 0, rfl, hc, ?_⟩
  match j, hj with
  | 0, _ => exact ⟨h.cell 0, h.cell 1, h.cell 2⟩
  | 1, _ => exact ⟨h.cell 3, h.cell 4, h.cell 5⟩
  | 2, _ => exact ⟨h.cell 6, h.cell 7, h.cell 8⟩

set_option maxHeartbeats 800000 in
set_option maxRecDepth 100000 in
theorem points_any (A B C : Pt) (w : World) : Calls Tryz.prog 59 #[.agg (prfC A B C)] w fun e w' => e = .returned (.agg (prfC A B C)) ∧ Below w.heap.size w w' := by
  unfold prfC
  go_enter Tryz.func59, Tryz.ntmps59
  go_wp2
  obtain ⟨W, hW, hb, hs, hr⟩ := boxes1r w 44 99 (prfC A B C) (prfC A B C)
  unfold prfC at hW
  rw [hW]
  refine bodyPost_ret_by (result_blkA rfl rfl hr Tryz.underlying99 infoPp) rfl ⟨rfl, hb⟩

/-- A place of a row of three points. -/
theorem point_at (A B C : Pt) (m : Nat) (hm : m < 3) (w : World) :
    (Instr.index 99 (.agg (prfC A B C)) (.int .i64 (m : Int))).run Tryz.prog w = .ok (pv (three A B C m)) w := by
  match m, hm with
  | 0, _ => simp [Instr.index, asIntOf, run_underlying Tryz.underlying99, part, Tryz.isAgg35, Tryz.sizeOf35]; rfl
  | 1, _ => simp [Instr.index, asIntOf, run_underlying Tryz.underlying99, part, Tryz.isAgg35, Tryz.sizeOf35]; rfl
  | 2, _ => simp [Instr.index, asIntOf, run_underlying Tryz.underlying99, part, Tryz.isAgg35, Tryz.sizeOf35]; rfl

/-- The texts of the first k of three points. -/
def txtN (A B C : Pt) : Nat → ByteArray
  | 0 => ByteArray.empty
  | k + 1 => txtN A B C k ++ ptText (three A B C k)
theorem txtN_three (A B C : Pt) : txtN A B C 3 = ptText A ++ ptText B ++ ptText C := by
  show ByteArray.empty ++ ptText A ++ ptText B ++ ptText C = _
  rw [ByteArray.empty_append]
theorem txtN_small (A B C : Pt) : ∀ k, (txtN A B C k).size ≤ 3 * k
  | 0 => by show (0 : Nat) ≤ 0; omega
  | k + 1 => by
    have h1 := txtN_small A B C k
    have h2 := ptText_small (three A B C k)
    show (txtN A B C k ++ ptText (three A B C k)).size ≤ _
    rw [ByteArray.size_append]
    omega

set_option maxHeartbeats 1600000 in
set_option maxRecDepth 100000 in
theorem iProofText_any (A B C : Pt) (w : World) : Calls Tryz.prog 15 #[.agg (prfC A B C)] w fun e w' => e = .returned (.tuple #[.string (prfText A B C), .bool (prfIn A B C)]) ∧ Below w.heap.size w w' := by
  obtain ⟨W, hW, hb, hs⟩ := box1 w 44 (prfC A B C)
  have CP : Hid (∀ V, Calls Tryz.prog 59 #[.agg (prfC A B C)] V fun e w' => e = .returned (.agg (prfC A B C)) ∧ Below V.heap.size V w') := points_any A B C
  have CI : Hid (∀ g c V, g < V.heap.size → Blk V g 99 (prfC A B C) → Calls Tryz.prog 60 #[.slice (some ⟨g, 0, none⟩) 3 c] V fun e w' => e = .returned (.bool (prfIn A B C)) ∧ Below V.heap.size V w') := fun g c V hg h => by
    have h1 := allIn_any (some ⟨g, 0, none⟩) 3 c (by decide) (three A B C) V (pts3 hg h)
    rw [three_all] at h1
    exact h1
  have HT : Hid (prfText A B C = if prfIn A B C then ptText A ++ ptText B ++ ptText C else ByteArray.empty) := rfl
  have DA : Hid (∀ X, Calls Tryz.prog 63 #[.agg #[.int .i64 A.1, .int .i64 A.2.1, .bool A.2.2]] X fun e w' => e = .returned (.string (ptText A)) ∧ Below X.heap.size X w') := iPText_any A
  have DB : Hid (∀ X, Calls Tryz.prog 63 #[.agg #[.int .i64 B.1, .int .i64 B.2.1, .bool B.2.2]] X fun e w' => e = .returned (.string (ptText B)) ∧ Below X.heap.size X w') := iPText_any B
  have DC : Hid (∀ X, Calls Tryz.prog 63 #[.agg #[.int .i64 C.1, .int .i64 C.2.1, .bool C.2.2]] X fun e w' => e = .returned (.string (ptText C)) ∧ Below X.heap.size X w') := iPText_any C
  go_enter Tryz.func15, Tryz.ntmps15
  go_wp2_with (refine load_blk rfl rfl rfl hs Tryz.underlying44 infoPr ?_)
  clear hW
  refine (CP.out _).mono ?_
  rintro e w1 ⟨rfl, hb1⟩
  have HB1 : Hid (Below w.heap.size w w1) := hb.trans (hb1.mono hb.size)
  clear hb hs hb1 CP
  obtain ⟨V0, hV0, hb0, hs0⟩ := box1 w1 99 #[.int .i64 0, .int .i64 0, .bool false, .int .i64 0, .int .i64 0, .bool false, .int .i64 0, .int .i64 0, .bool false]
  go_wp2_with (refine store_blkS (cs' := prfC A B C) rfl rfl rfl rfl rfl hs0 infoPp rfl (ones9 _ _ _) ?_; intro V4 hq4 hheap hoth hbel; have hb4 := hbel _ _ (Nat.le_refl _) hb0; clear hoth hbel hheap)
  clear hV0 hb0 hs0
  refine (CI.out w1.heap.size 3 V4 hq4.lt hq4).mono ?_
  rintro e w2 ⟨rfl, hb2⟩
  have HB2 : Hid (Below w.heap.size w w2) := (HB1.out.trans (hb4.mono HB1.out.size)).trans (hb2.mono (by have := HB1.out.size; have := hb4.size; omega))
  have hq2 := hq4.on hb2 hq4.lt
  clear hb4 hb2 hq4 HB1 CI
  cases hin : prfIn A B C
  · have HF : Hid (prfText A B C = ByteArray.empty) := by show _ = _; rw [HT.out, hin]; rfl
    go_wp2
    go_ret2
    exact ⟨by rw [HF.out, hin]; rfl, HB2.out⟩
  · have HF : Hid (prfText A B C = txtN A B C 3) := by show _ = _; rw [HT.out, hin, txtN_three]; rfl
    have HX : ∀ (k : Nat), k < 3 → ∀ w : World, (Instr.index 99 (.agg (prfC A B C)) (.int .i64 (k : Int))).run Tryz.prog w = .ok (pv (three A B C k)) w := fun k hk w => point_at A B C k hk w
    have HP : Hid (∀ (k : Nat) (X : World), Calls Tryz.prog 63 #[pv (three A B C k)] X fun e w' => e = .returned (.string (ptText (three A B C k))) ∧ Below X.heap.size X w') := fun k => iPText_any (three A B C k)
    clear HT DA DB DC
    have HH : Hid (∀ (k : Nat) (w : World), k < 3 → (Instr.index 99 (.agg (prfC A B C)) (.int .i64 (k : Int))).run Tryz.prog w = .ok (pv (three A B C k)) w) := fun k w hk => HX k hk w
    clear HX
    obtain ⟨av, hav⟩ : ∃ av, av = prfC A B C := ⟨_, rfl⟩
    rw [← hav] at HH hq2
    have HIa : Hid ((Tryz.prog.info? 99).map (·.size) = some av.size) := by show _ = _; rw [hav]; exact infoPp
    clear hav
    go_wp2_with (refine load_blkA rfl rfl rfl hq2 Tryz.underlying99 HIa.out ?_)
    have H0 : Hid (Below w.heap.size w w2) := HB2.out
    clear hq2
    go_loopw [5, 14] (fun t i wr => ∃ k : Nat, t = .string (txtN A B C k) ∧ i = .int .i64 (k : Int) ∧ k ≤ 3 ∧ Hid (Below w.heap.size w wr)) (fun _ i _ => 3 - (intOf i).toNat)
    case atStart => exact ⟨0, rfl, rfl, by omega, H0⟩
    case round =>
      obtain ⟨k, rfl, rfl, hk, HB⟩ := hrel
      by_cases hlt : k < 3
      · have hlt' : (k : Int) < 3 := by omega
        have hx := fun w => HH.out k w hlt
        have C0 : Hid (∀ X, Calls Tryz.prog 63 #[pv (three A B C k)] X fun e w' => e = .returned (.string (ptText (three A B C k))) ∧ Below X.heap.size X w') := HP.out k
        have HN : Hid (txtN A B C (k + 1) = txtN A B C k ++ ptText (three A B C k)) := rfl
        have L1 : (txtN A B C k).size ≤ 9 := by have := txtN_small A B C k; omega
        have L2 : (ptText (three A B C k)).size ≤ 3 := ptText_small _
        generalize ptText (three A B C k) = tk at *
        generalize three A B C k = P at *
        generalize txtN A B C k = tn at *
        unfold pv at hx C0
        have L3 : (tn ++ tk).size ≤ 9223372036854775807 := by rw [ByteArray.size_append]; omega
        go_wp2_with fail
        refine (C0.out _).mono ?_
        rintro e w5 ⟨rfl, hb5⟩
        have HB5 : Hid (Below w.heap.size w w5) := (HB.out.alloc HB.out.size _).trans (hb5.mono (by simp; have := HB.out.size; omega))
        go_wp2
        go_roundw
        case rel => exact ⟨k + 1, by rw [HN.out], by go_num, hlt, HB5⟩
        case measure => simp [intOf]; omega
      · have hlt' : ¬ (k : Int) < 3 := by omega
        have hk3 : k = 3 := by omega
        subst hk3
        go_wp2
        go_ret2
        exact ⟨by rw [HF.out]; rfl, HB.out⟩

end Go.Proofs.YthnahalboomkoaaGreat
