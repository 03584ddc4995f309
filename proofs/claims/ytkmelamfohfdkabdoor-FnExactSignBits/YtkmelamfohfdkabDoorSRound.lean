/-
  The walk of the specification's round.
-/
import Derived.Test.YtkmelamfohfdkabDoorSpecPure
import Derived.Test.YtkmelamfohfdkabDoorJoined12
namespace Go.Proofs.YtkmelamfohfdkabDoor
open Go.RowKit

theorem infoA : (Tryd.prog.info? 56).map (·.size) = some 25 := by kernel_rfl
theorem info5w : (Tryd.prog.info? 76).map (·.size) = some 5 := by kernel_rfl

/-- Is a number above nought? -/
theorem gtr_word {w : World} {ops : Array Oper} {rest : List Oper} {o : Oper} {a : Act} {Q : Exit → Act → World → Prop} (hg : o.guard = none) {p : Operand} (hop : o.op = Op.binOp .gtr 31 p (.const (.int .u64 0)) 31)
    {n : Nat} {b : Bool} (hp : a.eval p = .int .u64 (n : Int)) (hb : b = decide (0 < n)) (K : wpList Tryd.prog ops Q rest (a.put o.dst (.bool b)) w) : wpList Tryd.prog ops Q (o :: rest) a w := by
  refine wpList_plain hg fun K' hK' => ?_
  have hc : a.eval (.const (.int .u64 0)) = .int .u64 0 := rfl
  have hrun : (binOp .gtr 31 (.int .u64 (n : Int)) (.int .u64 0)).run Tryd.prog w = .ok (.bool b) w := by
    subst hb
    go_simp
  have heq : (eqGuard .gtr 31 p (.const (.int .u64 0)) (.int .u64 (n : Int)) (.int .u64 0)).run Tryd.prog w = .ok () w := by
    go_simp
  unfold Oper.wp
  simp only [execOp, hop, hp, hc, Sem.run_bind, heq, hrun, Result.andThen, Sem.run_pure, Oper.upon_value]
  exact hK' _ _ K

set_option maxHeartbeats 2000000 in
set_option maxRecDepth 100000 in
theorem sRound_any (f : Nat → BitVec 64) (c : BitVec 64) (w : World) :
    Calls Tryd.prog 59 #[.agg (sc f 25), .agg (sc offW 25), .int .u64 (wv c)] w fun e w' => e = .returned (.agg (sc (iota (chiW (rhoPi (theta f))) c) 25)) ∧ Below w.heap.size w w' := by
  obtain ⟨b1, HB1⟩ : ∃ b, Hid (b = w.heap.size) := ⟨_, rfl⟩
  obtain ⟨b2, HB2⟩ : ∃ b, Hid (b = w.heap.size + 1) := ⟨_, rfl⟩
  obtain ⟨b3, HB3⟩ : ∃ b, Hid (b = w.heap.size + 1 + 1) := ⟨_, rfl⟩
  obtain ⟨b4, HB4⟩ : ∃ b, Hid (b = w.heap.size + 1 + 1 + 1) := ⟨_, rfl⟩
  go_enter Tryd.func59, Tryd.ntmps59
  go_wp2
  rw [← HB4.out, ← HB3.out, ← HB2.out, ← HB1.out]
  go_loopw [8] (fun i wr => ∃ x : Nat, i = .int .i64 (x : Int) ∧ x ≤ 5 ∧ At wr b1 56 25 f ∧ At wr b2 69 25 offW ∧ At wr b3 56 25 zf ∧ At wr b4 76 5 (cS f x) ∧ Below b1 w wr) (fun i _ => 5 - (intOf i).toNat)
  case atStart =>
    obtain rfl := HB1.out
    obtain rfl := HB2.out
    obtain rfl := HB3.out
    obtain rfl := HB4.out
    refine ⟨0, rfl, by omega, (((At.new w _ 25 f).alloc _).alloc _).alloc _, ?_, ?_, ?_, ?_⟩
    · refine At.alloc (At.alloc (At.new' ?_ ?_) _) _
      · rw [size_alloc]
      · rfl
    · refine At.alloc (At.new' ?_ ?_) _
      · rw [size_alloc, size_alloc]
      · rfl
    · refine At.new' ?_ ?_
      · rw [size_alloc, size_alloc, size_alloc]
      · rfl
    · refine Below.alloc (Below.alloc (Below.alloc (Below.alloc (Below.refl _ _) (Nat.le_refl _) _) ?_ _) ?_ _) ?_ _ <;> (simp only [size_alloc]; omega)
  case round =>
    obtain ⟨x, rfl, hx, hA1, hA2, hA3, hA4, hbel⟩ := hrel
    have HN : Hid (b4 ≠ b1 ∧ b4 ≠ b2 ∧ b4 ≠ b3 ∧ b1 ≤ b4 ∧ b1 ≠ b2 ∧ b1 ≠ b3 ∧ b1 ≤ b3) := (show b4 ≠ b1 ∧ b4 ≠ b2 ∧ b4 ≠ b3 ∧ b1 ≤ b4 ∧ b1 ≠ b2 ∧ b1 ≠ b3 ∧ b1 ≤ b3 by have := HB1.out; have := HB2.out; have := HB3.out; have := HB4.out; omega)
    by_cases hlt : x < 5
    · have hlt' : (x : Int) < 5 := by omega
      have hlt25 : (x : Int) < 25 := by omega
      have hx0 : (0 : Int) ≤ (x : Int) := by omega
      obtain ⟨m1, hm1⟩ : ∃ m, m = x + 5 := ⟨_, rfl⟩
      obtain ⟨m2, hm2⟩ : ∃ m, m = x + 10 := ⟨_, rfl⟩
      obtain ⟨m3, hm3⟩ : ∃ m, m = x + 15 := ⟨_, rfl⟩
      obtain ⟨m4, hm4⟩ : ∃ m, m = x + 20 := ⟨_, rfl⟩
      have hi1 : (x : Int) + 5 = (m1 : Int) := by omega
      have hi2 : (x : Int) + 10 = (m2 : Int) := by omega
      have hi3 : (x : Int) + 15 = (m3 : Int) := by omega
      have hi4 : (x : Int) + 20 = (m4 : Int) := by omega
      have hwr : ∀ m : Nat, m < 25 → IntKind.i64.wrap (m : Int) = (m : Int) := fun m h => by rw [IntKind.wrap_i64]; omega
      have hw1 := hwr m1 (by omega)
      have hw2 := hwr m2 (by omega)
      have hw3 := hwr m3 (by omega)
      have hw4 := hwr m4 (by omega)
      have hl1 : (m1 : Int) < 25 := by omega
      have hl2 : (m2 : Int) < 25 := by omega
      have hl3 : (m3 : Int) < 25 := by omega
      have hl4 : (m4 : Int) < 25 := by omega
      have hc0 := hA1.cell x (by omega)
      have hc1 := hA1.cell m1 (by omega)
      have hc2 := hA1.cell m2 (by omega)
      have hc3 := hA1.cell m3 (by omega)
      have hc4 := hA1.cell m4 (by omega)
      have hxor := wv_xor
      have HC : Hid (∀ W, At W b4 76 5 (upd (cS f x) x (f x ^^^ f m1 ^^^ f m2 ^^^ f m3 ^^^ f m4)) → At W b4 76 5 (cS f (x + 1))) := fun W h => by
        rw [hm1, hm2, hm3, hm4] at h; exact h
      have hD4 : At wr.drew b4 76 5 (cS f x) := hA4
      clear hm1 hm2 hm3 hm4 hwr
      go_wp2
      refine wp_region_still_tail 24 mixesW (by kernel_rfl) ?_
      simp only [List.take_succ_cons, List.take_zero, List.drop_succ_cons, List.drop_zero]
      repeat still_step
      refine wpStill_nil ?_
      go_wp2_with ((refine store_cell rfl rfl rfl rfl hD4 hlt ?_; intro w1 hB4 ho1 hl1'))
      go_roundw
      case rel => exact ⟨x + 1, by go_num, hlt, ho1 _ _ _ _ HN.out.1 hA1, ho1 _ _ _ _ HN.out.2.1 hA2, ho1 _ _ _ _ HN.out.2.2.1 hA3, HC.out _ hB4, hl1' _ _ HN.out.2.2.2.1 hbel.drew⟩
      case measure => simp [intOf]; omega
    · have hlt' : ¬ (x : Int) < 5 := by omega
      obtain rfl : x = 5 := by omega
      generalize hcc : cS f 5 = cc at hA4
      have hX5 : At (wr.alloc (.cells (sc zf 25) 56)) wr.heap.size 56 25 zf := At.new _ _ _ _
      have HY1 : Hid (At (wr.alloc (.cells (sc zf 25) 56)) b1 56 25 f) := hA1.alloc _
      have HY2 : Hid (At (wr.alloc (.cells (sc zf 25) 56)) b2 69 25 offW) := hA2.alloc _
      have HY3 : Hid (At (wr.alloc (.cells (sc zf 25) 56)) b3 56 25 zf) := hA3.alloc _
      have HY4 : Hid (At (wr.alloc (.cells (sc zf 25) 56)) b4 76 5 cc) := hA4.alloc _
      have HYB : Hid (Below b1 w (wr.alloc (.cells (sc zf 25) 56))) := hbel.alloc (Nat.le_of_lt hA1.lt) _
      obtain ⟨b5, HB5⟩ : ∃ b, Hid (b = wr.heap.size) := ⟨_, rfl⟩
      have HN5 : Hid (b5 ≠ b1 ∧ b5 ≠ b2 ∧ b5 ≠ b3 ∧ b5 ≠ b4 ∧ b1 ≤ b5) := by
        have h1 := hA1.lt
        have h2 := hA2.lt
        have h3 := hA3.lt
        have h4 := hA4.lt
        have h5 := HB5.out
        show b5 ≠ b1 ∧ b5 ≠ b2 ∧ b5 ≠ b3 ∧ b5 ≠ b4 ∧ b1 ≤ b5
        omega
      have HCC : Hid (cS f 5 = cc) := hcc
      clear hA1 hA2 hA3 hA4 hbel hcc
      go_wp2_with ((refine store_to (f' := zf) rfl rfl rfl rfl hX5 infoA ?_; intro w5 hB5 hk5 hs5 hl5))
      have hB1 := (hk5 b1 (by rw [← HB5.out]; exact HN5.out.1)).trans HY1.out
      have hB2 := (hk5 b2 (by rw [← HB5.out]; exact HN5.out.2.1)).trans HY2.out
      have hB3 := (hk5 b3 (by rw [← HB5.out]; exact HN5.out.2.2.1)).trans HY3.out
      have hB4 := (hk5 b4 (by rw [← HB5.out]; exact HN5.out.2.2.2.1)).trans HY4.out
      have hbl5 : Below b1 w w5 := hl5 _ _ (by rw [← HB5.out]; exact HN5.out.2.2.2.2) HYB.out
      rw [← HB5.out] at hB5 ⊢
      clear hX5 HY1 HY2 HY3 HY4 HYB hk5 hs5 hl5
      go_wp2
      go_loopw [10] (fun i wr => ∃ x : Nat, i = .int .i64 (x : Int) ∧ x ≤ 5 ∧ At wr b1 56 25 f ∧ At wr b2 69 25 offW ∧ At wr b3 56 25 zf ∧ At wr b4 76 5 cc ∧ At wr b5 56 25 (spK f cc x) ∧ Below b1 w wr) (fun i _ => 5 - (intOf i).toNat)
      case atStart => exact ⟨0, rfl, by omega, hB1, hB2, hB3, hB4, hB5, hbl5⟩
      case round =>
        clear hB1 hB2 hB3 hB4 hB5 hbl5
        obtain ⟨x, rfl, hx, hA1, hA2, hA3, hA4, hA5, hbel⟩ := hrel
        by_cases hlx : x < 5
        · have hlx' : (x : Int) < 5 := by omega
          obtain ⟨p, hp⟩ : ∃ p, p = (x + 4) % 5 := ⟨_, rfl⟩
          obtain ⟨q, hq⟩ : ∃ q, q = (x + 1) % 5 := ⟨_, rfl⟩
          have hp1 : ((x : Int) + 4) % 5 = (p : Int) := by omega
          have hp2 : Int.tmod ((x : Int) + 4) 5 = (p : Int) := by rw [Int.tmod_eq_emod_of_nonneg (by omega)]; exact hp1
          have hq1 : ((x : Int) + 1) % 5 = (q : Int) := by omega
          have hq2 : Int.tmod ((x : Int) + 1) 5 = (q : Int) := by rw [Int.tmod_eq_emod_of_nonneg (by omega)]; exact hq1
          have hp5 : (p : Int) < 5 := by omega
          have hq5 : (q : Int) < 5 := by omega
          have hp0 : (0 : Int) ≤ (p : Int) := by omega
          have hq0 : (0 : Int) ≤ (q : Int) := by omega
          have hcp := hA4.cell p (by omega)
          have hcq := hA4.cell q (by omega)
          have hxor := wv_xor
          have HTT : Hid (∀ y, y = spJ f (cc p ^^^ rotl (cc q) 1) x (spK f cc x) 5 → spK f cc (x + 1) = y) := fun y e => by rw [e, spK, hp, hq]
          generalize cc p = cp at hcp HTT
          generalize cc q = cq at hcq HTT
          clear hp hq
          go_wp2
          go_quiet ((go_at_call 65; refine Calls.quiet_of_same ((sTurn_any cq 1 (by omega) _).mono fun e w1 h => ⟨h.1, h.2.symm⟩)))
          have hA1' := hA1.drewN nq
          have hA2' := hA2.drewN nq
          have hA3' := hA3.drewN nq
          have hA4' := hA4.drewN nq
          have hA5' := hA5.drewN nq
          have hbel' := below_drewN hbel nq
          clear hA1 hA2 hA3 hA4 hA5 hbel hcp hcq hp1 hp2 hq1 hq2 hp5 hq5 hp0 hq0
          generalize hd : cp ^^^ rotl cq 1 = d at HTT ⊢
          go_wp2
          go_loopw [12] (fun i wr => ∃ y : Nat, i = .int .i64 (y : Int) ∧ y ≤ 5 ∧ At wr b1 56 25 f ∧ At wr b2 69 25 offW ∧ At wr b3 56 25 zf ∧ At wr b4 76 5 cc ∧ At wr b5 56 25 (spJ f d x (spK f cc x) y) ∧ Below b1 w wr) (fun i _ => 5 - (intOf i).toNat)
          case atStart => exact ⟨0, rfl, by omega, hA1', hA2', hA3', hA4', hA5', hbel'⟩
          case round =>
            clear hA1' hA2' hA3' hA4' hA5' hbel'
            obtain ⟨y, rfl, hy, hA1, hA2, hA3, hA4, hA5, hbel⟩ := hrel
            by_cases hly : y < 5
            · have hly' : (y : Int) < 5 := by omega
              obtain ⟨m, hm⟩ : ∃ m, m = x + 5 * y := ⟨_, rfl⟩
              obtain ⟨z, hz⟩ : ∃ z, z = (2 * x + 3 * y) % 5 := ⟨_, rfl⟩
              obtain ⟨j, hj⟩ : ∃ j, j = y + 5 * z := ⟨_, rfl⟩
              have hix : (x : Int) + 5 * (y : Int) = (m : Int) := by omega
              have hm25 : (m : Int) < 25 := by omega
              have hz1 : (2 * (x : Int) + 3 * (y : Int)) % 5 = (z : Int) := by omega
              have hz2 : Int.tmod (2 * (x : Int) + 3 * (y : Int)) 5 = (z : Int) := by rw [Int.tmod_eq_emod_of_nonneg (by omega)]; exact hz1
              have hjx : (y : Int) + 5 * (z : Int) = (j : Int) := by omega
              have hj25 : (j : Int) < 25 := by omega
              have hz5 : (z : Int) < 5 := by omega
              have HJ : Hid (j < 25) := (show j < 25 by omega)
              have hc1 := hA1.cell m (by omega)
              have hc2 := hA2.cell m (by omega)
              obtain ⟨n, hn⟩ : ∃ n, n = offN m := ⟨_, rfl⟩
              rw [offW_val m (by omega), ← hn] at hc2
              have hn64 : n < 64 := by rw [hn]; exact offN_lt m (by omega)
              have HC : Hid (∀ W, At W b5 56 25 (upd (spJ f d x (spK f cc x) y) j (rotl (f m ^^^ d) n)) → At W b5 56 25 (spJ f d x (spK f cc x) (y + 1))) := fun W h => by
                rw [hn, hj, hz, hm] at h; exact h
              have HTU : Hid (∀ w, Calls Tryd.prog 65 #[.int .u64 (wv (f m ^^^ d)), .int .u64 (n : Int)] w fun e w' => e = .returned (.int .u64 (wv (rotl (f m ^^^ d) n))) ∧ w = w') := fun w => sTurn_any _ n hn64 w
              have HZ : Hid (n = 0 → f m ^^^ d = rotl (f m ^^^ d) n) := fun e => by rw [e, rotl_zero]
              generalize spJ f d x (spK f cc x) y = gy at hA5 HC
              clear hm hz hj hn hd
              by_cases hn0 : n = 0
              · have HB0 : false = decide (0 < n) := by rw [hn0]; rfl
                have hv := HZ.out hn0
                generalize rotl (f m ^^^ d) n = v at HC HTU hv
                rw [← hv] at HC
                have hg1 : decide ((n : Int) > 0) = false := by rw [HB0]; exact decide_eq_decide.2 (by omega)
                have hg2 : decide (0 < n) = false := HB0.symm
                clear hv hn0 HTU HZ HB0
                go_wp2_with (first | (refine store_cell rfl rfl rfl rfl hA5 HJ.out ?_; intro w1 hB5 ho1 hl1'))
                go_roundw
                case rel => exact ⟨y + 1, by go_num, hly, ho1 _ _ _ _ HN5.out.1 hA1, ho1 _ _ _ _ HN5.out.2.1 hA2, ho1 _ _ _ _ HN5.out.2.2.1 hA3, ho1 _ _ _ _ HN5.out.2.2.2.1 hA4, HC.out _ hB5, hl1' _ _ HN5.out.2.2.2.2 hbel⟩
                case measure => simp [intOf]; omega
              · have HB0 : true = decide (0 < n) := by simp; omega
                have hg1 : decide ((n : Int) > 0) = true := by rw [HB0]; exact decide_eq_decide.2 (by omega)
                have hg2 : decide (0 < n) = true := HB0.symm
                clear hn0 HZ HB0
                go_wp2_with (first | (go_at_call 65; refine (HTU.out _).mono ?_; rintro e w0 ⟨rfl, rfl⟩) | (refine store_cell rfl rfl rfl rfl hA5 HJ.out ?_; intro w1 hB5 ho1 hl1'))
                go_roundw
                case rel => exact ⟨y + 1, by go_num, hly, ho1 _ _ _ _ HN5.out.1 hA1, ho1 _ _ _ _ HN5.out.2.1 hA2, ho1 _ _ _ _ HN5.out.2.2.1 hA3, ho1 _ _ _ _ HN5.out.2.2.2.1 hA4, HC.out _ hB5, hl1' _ _ HN5.out.2.2.2.2 hbel⟩
                case measure => simp [intOf]; omega
            · have hly' : ¬ (y : Int) < 5 := by omega
              obtain rfl : y = 5 := by omega
              have HA5 : Hid (At wr b5 56 25 (spK f cc (x + 1))) := hA5.eq (HTT.out _ rfl).symm
              clear hA5
              go_wp2
              go_roundw
              case rel => exact ⟨x + 1, by go_num, hlx, hA1, hA2, hA3, hA4, HA5.out, hbel⟩
              case measure => simp [intOf]; omega
        · have hlx' : ¬ (x : Int) < 5 := by omega
          obtain rfl : x = 5 := by omega
          have HGG : Hid (∀ i, i < 25 → upd (chK (spK f cc 5) f 5) 0 (chK (spK f cc 5) f 5 0 ^^^ c) i = iota (chiW (rhoPi (theta f))) c i) := fun i hi => by
            rw [← HCC.out]; exact spec_round f c i hi
          generalize spK f cc 5 = gg at hA5 HGG
          clear hA2 hA4
          go_wp2
          go_loopw [15] (fun i wr => ∃ y : Nat, i = .int .i64 (y : Int) ∧ y ≤ 5 ∧ At wr b1 56 25 (chK gg f y) ∧ At wr b3 56 25 zf ∧ At wr b5 56 25 gg ∧ Below b1 w wr) (fun i _ => 5 - (intOf i).toNat)
          case atStart => exact ⟨0, rfl, by omega, hA1, hA3, hA5, hbel⟩
          case round =>
            clear hA1 hA3 hA5 hbel
            obtain ⟨y, rfl, hy, hA1, hA3, hA5, hbel⟩ := hrel
            by_cases hly : y < 5
            · have hly' : (y : Int) < 5 := by omega
              go_wp2
              go_loopw [16] (fun i wr => ∃ x : Nat, i = .int .i64 (x : Int) ∧ x ≤ 5 ∧ At wr b1 56 25 (chJ gg y (chK gg f y) x) ∧ At wr b3 56 25 zf ∧ At wr b5 56 25 gg ∧ Below b1 w wr) (fun i _ => 5 - (intOf i).toNat)
              case atStart => exact ⟨0, rfl, by omega, hA1, hA3, hA5, hbel⟩
              case round =>
                clear hA1 hA3 hA5 hbel
                obtain ⟨x, rfl, hx, hA1, hA3, hA5, hbel⟩ := hrel
                by_cases hlx : x < 5
                · have hlx' : (x : Int) < 5 := by omega
                  obtain ⟨u, hu⟩ : ∃ u, u = 5 * y := ⟨_, rfl⟩
                  obtain ⟨p, hp⟩ : ∃ p, p = (x + 1) % 5 := ⟨_, rfl⟩
                  obtain ⟨q, hq⟩ : ∃ q, q = (x + 2) % 5 := ⟨_, rfl⟩
                  obtain ⟨m0, hm0⟩ : ∃ m, m = x + u := ⟨_, rfl⟩
                  obtain ⟨m1, hm1⟩ : ∃ m, m = p + u := ⟨_, rfl⟩
                  obtain ⟨m2, hm2⟩ : ∃ m, m = q + u := ⟨_, rfl⟩
                  have bp : p < 5 := by rw [hp]; exact Nat.mod_lt _ (by decide)
                  have bq : q < 5 := by rw [hq]; exact Nat.mod_lt _ (by decide)
                  have hp' : p = (x + 1) % 5 := hp
                  have hq' : q = (x + 2) % 5 := hq
                  have b0 : m0 < 25 := by clear hp hq hp' hq' hm1 hm2; omega
                  have b1' : m1 < 25 := by clear hp hq hp' hq' hm0 hm2; omega
                  have b2' : m2 < 25 := by clear hp hq hp' hq' hm0 hm1; omega
                  have bu : u < 100 := by clear hp hq hp' hq' hm0 hm1 hm2; omega
                  have hwr : ∀ z : Nat, z < 100 → IntKind.i64.wrap (z : Int) = (z : Int) := fun z h => by clear hp hq hp' hq' hm0 hm1 hm2; rw [IntKind.wrap_i64]; omega
                  have e1 : 5 * (y : Int) = (u : Int) := by rw [hu]; exact (Int.natCast_mul 5 y).symm
                  have e2 : IntKind.i64.wrap (u : Int) = (u : Int) := hwr u bu
                  have e3 : (x : Int) + (u : Int) = (m0 : Int) := by rw [hm0]; exact (Int.natCast_add x u).symm
                  have e4 : IntKind.i64.wrap (m0 : Int) = (m0 : Int) := hwr m0 (Nat.lt_trans b0 (by decide))
                  have f1 : IntKind.i64.wrap ((x : Int) + 1) = (x : Int) + 1 := hwr (x + 1) (by clear hp hq hp' hq' hm0 hm1 hm2; omega)
                  have f2 : IntKind.i64.wrap ((x : Int) + 2) = (x : Int) + 2 := hwr (x + 2) (by clear hp hq hp' hq' hm0 hm1 hm2; omega)
                  have f3 : ((x : Int) + 1) % 5 = (p : Int) := by rw [hp']; rfl
                  have f4 : Int.tmod ((x : Int) + 1) 5 = (p : Int) := by rw [Int.tmod_eq_emod_of_nonneg (show (0 : Int) ≤ (x : Int) + 1 from Int.natCast_nonneg (x + 1))]; exact f3
                  have f5 : ((x : Int) + 2) % 5 = (q : Int) := by rw [hq']; rfl
                  have f6 : Int.tmod ((x : Int) + 2) 5 = (q : Int) := by rw [Int.tmod_eq_emod_of_nonneg (show (0 : Int) ≤ (x : Int) + 2 from Int.natCast_nonneg (x + 2))]; exact f5
                  have f7 : IntKind.i64.wrap (p : Int) = (p : Int) := hwr p (Nat.lt_trans bp (by decide))
                  have f8 : IntKind.i64.wrap (q : Int) = (q : Int) := hwr q (Nat.lt_trans bq (by decide))
                  have g1 : (p : Int) + (u : Int) = (m1 : Int) := by rw [hm1]; exact (Int.natCast_add p u).symm
                  have g2 : (q : Int) + (u : Int) = (m2 : Int) := by rw [hm2]; exact (Int.natCast_add q u).symm
                  have g3 : IntKind.i64.wrap (m1 : Int) = (m1 : Int) := hwr m1 (Nat.lt_trans b1' (by decide))
                  have g4 : IntKind.i64.wrap (m2 : Int) = (m2 : Int) := hwr m2 (Nat.lt_trans b2' (by decide))
                  have l0 : (m0 : Int) < 25 := Int.ofNat_lt.2 b0
                  have l1 : (m1 : Int) < 25 := Int.ofNat_lt.2 b1'
                  have l2 : (m2 : Int) < 25 := Int.ofNat_lt.2 b2'
                  have hc0 := hA5.cell m0 b0
                  have hc1 := hA5.cell m1 b1'
                  have hc2 := hA5.cell m2 b2'
                  have HM0 : Hid (m0 < 25) := b0
                  clear hp' hq'
                  have hxor := wv_xor
                  have hand := wv_and
                  have hnot := wv_not'
                  have hD1 : At wr.drew b1 56 25 (chJ gg y (chK gg f y) x) := hA1
                  have HC : Hid (∀ W, At W b1 56 25 (upd (chJ gg y (chK gg f y) x) m0 (gg m0 ^^^ (~~~ gg m1 &&& gg m2))) → At W b1 56 25 (chJ gg y (chK gg f y) (x + 1))) := fun W h => by
                    rw [hm0, hm1, hm2, hp, hq, hu] at h; exact h
                  generalize chJ gg y (chK gg f y) x = gy at hD1 HC hA1
                  clear hu hp hq hm0 hm1 hm2 hwr hA1
                  go_wp2
                  refine wp_region_still_tail 29 mixesW (by kernel_rfl) ?_
                  simp only [List.take_succ_cons, List.take_zero, List.drop_succ_cons, List.drop_zero]
                  repeat still_step
                  refine wpStill_nil ?_
                  clear hnot
                  go_wp2_with ((refine store_cell rfl rfl rfl rfl hD1 HM0.out ?_; intro w1 hG1 ho1 hl1'))
                  go_roundw
                  case rel => exact ⟨x + 1, by go_num, hlx, HC.out _ hG1, ho1 _ _ _ _ HN.out.2.2.2.2.2.1 hA3, ho1 _ _ _ _ (fun e => HN5.out.1 e.symm) hA5, hl1' _ _ (Nat.le_refl _) hbel.drew⟩
                  case measure => simp [intOf]; omega
                · have hlx' : ¬ (x : Int) < 5 := by omega
                  obtain rfl : x = 5 := by omega
                  have HG1 : Hid (At wr b1 56 25 (chK gg f (y + 1))) := hA1
                  clear hA1
                  go_wp2
                  go_roundw
                  case rel => exact ⟨y + 1, by go_num, hly, HG1.out, hA3, hA5, hbel⟩
                  case measure => simp [intOf]; omega
            · have hly' : ¬ (y : Int) < 5 := by omega
              obtain rfl : y = 5 := by omega
              generalize chK gg f 5 = hh at hA1 HGG
              have HE : Hid (sc (upd hh 0 (hh 0 ^^^ c)) 25 = sc (iota (chiW (rhoPi (theta f))) c) 25) := sc_congr HGG.out
              have hxor := wv_xor
              have hc0 := hA1.cell 0 (by omega)
              clear hA5
              go_wp2_with (first | (refine store_cell rfl rfl rfl rfl hA1 (by omega) ?_; intro w7 hG1 ho7 hl7) | (refine load_at rfl rfl rfl hG1 Tryd.underlying56 infoA ?_) | (refine store_at rfl rfl rfl rfl (ho7 _ _ _ _ HN.out.2.2.2.2.2.1 hA3) infoA ?_))
              have hG3 := ho7 _ _ _ _ HN.out.2.2.2.2.2.1 hA3
              have hbl7 := hl7 _ _ (Nat.le_refl _) hbel
              (try simp only [Exit.inBlock, Exit.then])
              refine bodyPost_ret_by (result_at rfl rfl (hG3.row _) Tryd.underlying56 infoA) rfl ⟨by rw [HE.out], ?_⟩
              rw [← HB1.out]
              exact below_row hbl7 HN.out.2.2.2.2.2.2 _

end Go.Proofs.YtkmelamfohfdkabDoor
