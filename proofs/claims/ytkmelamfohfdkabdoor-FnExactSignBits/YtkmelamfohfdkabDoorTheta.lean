/-
  The walk of theta.
-/
import Derived.Test.YtkmelamfohfdkabDoorJoined11
import Derived.Test.YtkmelamfohfdkabDoorJoined12
namespace Go.Proofs.YtkmelamfohfdkabDoor
open Go.RowKit

theorem info64 : (Tryd.prog.info? 55).map (fun i => i.size) = some 1 := by kernel_rfl

/-- Are the five words noughts? -/
def zeros (g : Nat → BitVec 64) : Bool := wv (g 0) == 0 && (wv (g 1) == 0 && (wv (g 2) == 0 && (wv (g 3) == 0 && wv (g 4) == 0)))
theorem wv_eq0 {x : BitVec 64} (h : wv x = 0) : x = 0#64 := wv_inj h
theorem zeros_true {g : Nat → BitVec 64} (h : zeros g = true) : ∀ x, x < 5 → g x = 0#64 := by
  simp only [zeros, Bool.and_eq_true, beq_iff_eq] at h
  intro x hx
  rcases cases5 hx with rfl | rfl | rfl | rfl | rfl
  · exact wv_eq0 h.1
  · exact wv_eq0 h.2.1
  · exact wv_eq0 h.2.2.1
  · exact wv_eq0 h.2.2.2.1
  · exact wv_eq0 h.2.2.2.2

theorem eq_step (w : World) (xs ys : Array Value) (i : Nat) (is : List Nat) (x y : Int) (hx : xs[i]? = some (.int .u64 x)) (hy : ys[i]? = some (.int .u64 y)) :
    (Op.eqItems 9999 55 1 xs ys (i :: is)).run Tryd.prog w = if x == y then (Op.eqItems 9999 55 1 xs ys is).run Tryd.prog w else .ok false w := by
  have hp : ∀ (zs : Array Value) (v : Value), zs[i]? = some v → ∀ w, (part 55 zs (i * 1)).run Tryd.prog w = .ok v w := fun zs v h w => by
    simp [part, Tryd.isAgg55, h]
  simp only [Op.eqItems, Sem.run_bind, hp _ _ hx, hp _ _ hy, Result.andThen_ok, run_equalIn_int _ 9998 55 .u64 .u64 x y Tryd.underlying55]
  cases x == y <;> simp

theorem same_words (g : Nat → BitVec 64) (w : World) :
    (Op.equalIn 10000 86 (.agg (sc g 5)) (.agg #[.int .u64 0, .int .u64 0, .int .u64 0, .int .u64 0, .int .u64 0])).run Tryd.prog w = .ok (zeros g) w := by
  cases hq : Tryd.prog.info? 55 with
  | none => have := info64; rw [hq] at this; cases this
  | some i =>
    rw [run_equalIn_array w 9999 _ _ Tryd.underlying86 hq]
    have he : (sc g 5) = #[.int .u64 (wv (g 0)), .int .u64 (wv (g 1)), .int .u64 (wv (g 2)), .int .u64 (wv (g 3)), .int .u64 (wv (g 4))] := rfl
    rw [he]
    have hr : List.range 5 = [0, 1, 2, 3, 4] := rfl
    rw [hr]
    unfold zeros
    generalize wv (g 0) = a0
    generalize wv (g 1) = a1
    generalize wv (g 2) = a2
    generalize wv (g 3) = a3
    generalize wv (g 4) = a4
    have hc : Tryd.prog.cellsOf 55 = 1 := by kernel_rfl
    rw [hc]
    rw [eq_step w _ _ 0 _ a0 0 rfl rfl, eq_step w _ _ 1 _ a1 0 rfl rfl, eq_step w _ _ 2 _ a2 0 rfl rfl, eq_step w _ _ 3 _ a3 0 rfl rfl, eq_step w _ _ 4 _ a4 0 rfl rfl]
    cases a0 == 0 <;> cases a1 == 0 <;> cases a2 == 0 <;> cases a3 == 0 <;> cases a4 == 0 <;> simp [Op.eqItems]

set_option maxHeartbeats 1600000 in
set_option maxRecDepth 100000 in
theorem theta_any (f : Nat → BitVec 64) (w : World) :
    Calls Tryd.prog 73 #[.agg (sc f 25)] w fun e w' => e = .returned (.agg (sc (theta f) 25)) ∧ Below w.heap.size w w' := by
  obtain ⟨b1, HB1⟩ : ∃ b, Hid (b = w.heap.size) := ⟨_, rfl⟩
  obtain ⟨b2, HB2⟩ : ∃ b, Hid (b = w.heap.size + 1) := ⟨_, rfl⟩
  obtain ⟨b3, HB3⟩ : ∃ b, Hid (b = w.heap.size + 1 + 1) := ⟨_, rfl⟩
  go_enter Tryd.func73, Tryd.ntmps73
  go_wp2
  rw [← HB3.out, ← HB2.out, ← HB1.out]
  go_loopw [4] (fun i wr => ∃ k : Nat, i = .int .i64 (5 * (k : Int)) ∧ k ≤ 5 ∧ At wr b1 78 25 f ∧ At wr b2 78 25 zf ∧ At wr b3 86 5 (colK f k) ∧ Below b1 w wr) (fun i _ => 25 - (intOf i).toNat)
  case atStart =>
    obtain rfl := HB1.out
    obtain rfl := HB2.out
    obtain rfl := HB3.out
    refine ⟨0, rfl, by omega, ((At.new w _ 25 f).alloc _).alloc _, ?_, ?_, ?_⟩
    · refine At.alloc (At.new' ?_ ?_) _
      · rw [size_alloc]
      · rfl
    · refine At.new' ?_ ?_
      · rw [size_alloc, size_alloc]
      · rfl
    refine Below.alloc (Below.alloc (Below.alloc (Below.refl _ _) (Nat.le_refl _) _) ?_ _) ?_ _ <;> (simp only [size_alloc]; omega)
  case round =>
    obtain ⟨k, rfl, hk, hA1, hA2, hA3, hbel⟩ := hrel
    by_cases hlt : k < 5
    · have hlt' : 5 * (k : Int) < 25 := by omega
      go_wp2
      go_loopw [13] (fun i wr => ∃ j : Nat, i = .int .i64 (j : Int) ∧ j ≤ 5 ∧ At wr b1 78 25 f ∧ At wr b2 78 25 zf ∧ At wr b3 86 5 (colJ f (5 * k) (colK f k) j) ∧ Below b1 w wr) (fun i _ => 5 - (intOf i).toNat)
      case atStart => exact ⟨0, rfl, by omega, hA1, hA2, hA3, hbel⟩
      case round =>
        clear hA1 hA2 hA3 hbel
        obtain ⟨j, rfl, hj, hA1, hA2, hA3, hbel⟩ := hrel
        by_cases hlj : j < 5
        · have hlj' : (j : Int) < 5 := by omega
          have hj0 : (0 : Int) ≤ (j : Int) := by omega
          have hc1 := hA1.cell (5 * k + j) (by omega)
          have hc3 := hA3.cell j hlj
          have hf3 := hA3.free j
          obtain ⟨m, hm⟩ : ∃ m, m = 5 * k + j := ⟨_, rfl⟩
          have hix : 5 * (k : Int) + (j : Int) = (m : Int) := by omega
          have hm0 : (0 : Int) ≤ (m : Int) := by omega
          have hm25 : (m : Int) < 25 := by omega
          rw [← hm] at hc1
          have hxor := wv_xor
          have HA1 : Hid (At (wr.setCell ⟨b3, j, none⟩ (.int .u64 (wv (colJ f (5 * k) (colK f k) j j ^^^ f m)))) b1 78 25 f) := hA1.other (by have := HB1.out; have := HB3.out; omega) _
          have HA2 : Hid (At (wr.setCell ⟨b3, j, none⟩ (.int .u64 (wv (colJ f (5 * k) (colK f k) j j ^^^ f m)))) b2 78 25 zf) := hA2.other (by have := HB2.out; have := HB3.out; omega) _
          have HA3 : Hid (At (wr.setCell ⟨b3, j, none⟩ (.int .u64 (wv (colJ f (5 * k) (colK f k) j j ^^^ f m)))) b3 86 5 (colJ f (5 * k) (colK f k) (j + 1))) := by
            show At _ _ _ _ _
            rw [colJ, ← hm]
            exact hA3.set j _
          have HBL : Hid (Below b1 w (wr.setCell ⟨b3, j, none⟩ (.int .u64 (wv (colJ f (5 * k) (colK f k) j j ^^^ f m))))) := hbel.setCell (by have := HB1.out; have := HB3.out; show b1 ≤ b3; omega) _
          clear hm hA1 hA2 hA3 hbel
          generalize colJ f (5 * k) (colK f k) j j = s0 at hc3 HA1 HA2 HA3 HBL
          go_wp2
          go_region
          go_wp2
          go_roundw
          case rel => exact ⟨j + 1, by go_num, hlj, HA1.out, HA2.out, HA3.out, HBL.out.drew⟩
          case measure => simp [intOf]; omega
        · have hlj' : ¬ (j : Int) < 5 := by omega
          obtain rfl : j = 5 := by omega
          go_wp2
          go_roundw
          case rel => exact ⟨k + 1, by go_num, hlt, hA1, hA2, hA3, hbel⟩
          case measure => simp [intOf]; omega
    · have hlt' : ¬ 5 * (k : Int) < 25 := by omega
      obtain rfl : k = 5 := by omega
      have hsw := same_words (colK f 5)
      have HB12 : Hid (b2 ≠ b1) := (show b2 ≠ b1 by have := HB1.out; have := HB2.out; omega)
      have HB1' : Hid (b1 ≤ b2) := (show b1 ≤ b2 by have := HB1.out; have := HB2.out; omega)
      by_cases hz : zeros (colK f 5) = true
      · have HE : Hid (sc f 25 = sc (theta f) 25) := sc_congr fun i _ => (theta_none f (fun x hx => (colK_all f x hx).symm.trans (zeros_true hz x hx)) i).symm
        go_wp2_with (first | (refine load_at rfl rfl rfl hA3 Tryd.underlying86 infoCw ?_) | (refine load_at rfl rfl rfl hA1 Tryd.underlying78 infoS ?_) | (refine store_at rfl rfl rfl rfl hA2 infoS ?_))
        (try simp only [Exit.inBlock, Exit.then])
        refine bodyPost_ret_by (result_at rfl rfl (hA2.row f) Tryd.underlying78 infoS) rfl ⟨by rw [HE.out], ?_⟩
        rw [← HB1.out]
        exact below_row hbel HB1'.out _
      · have hz' : zeros (colK f 5) = false := by simpa using hz
        clear hz
        go_wp2_with (refine load_at rfl rfl rfl hA3 Tryd.underlying86 infoCw ?_)
        go_loopw [31] (fun i wr => ∃ x : Nat, i = .int .i64 (x : Int) ∧ x ≤ 5 ∧ At wr b1 78 25 (thK (colK f 5) f x) ∧ At wr b2 78 25 zf ∧ At wr b3 86 5 (colK f 5) ∧ Below b1 w wr) (fun i _ => 5 - (intOf i).toNat)
        case atStart => exact ⟨0, rfl, by omega, hA1, hA2, hA3, hbel⟩
        case round =>
          clear hA1 hA2 hA3 hbel
          obtain ⟨x, rfl, hx, hA1, hA2, hA3, hbel⟩ := hrel
          by_cases hlx : x < 5
          · have hlx' : (x : Int) < 5 := by omega
            obtain ⟨p, hp⟩ : ∃ p, p = (x + 4) % 5 := ⟨_, rfl⟩
            obtain ⟨q, hq⟩ : ∃ q, q = (x + 1) % 5 := ⟨_, rfl⟩
            have hp1 : ((x : Int) + 4) % 5 = (p : Int) := by omega
            have hp2 : Int.tmod ((x : Int) + 4) 5 = (p : Int) := by rw [Int.tmod_eq_emod_of_nonneg (by omega)]; exact hp1
            have hq1 : ((x : Int) + 1) % 5 = (q : Int) := by omega
            have hq2 : Int.tmod ((x : Int) + 1) 5 = (q : Int) := by rw [Int.tmod_eq_emod_of_nonneg (by omega)]; exact hq1
            have hp5 : (p : Int) < 5 := by omega
            have hq5 : (q : Int) < 5 := by omega
            have hp0 : (0 : Int) ≤ (p : Int) := by omega
            have hq0 : (0 : Int) ≤ (q : Int) := by omega
            have hcp := hA3.cell p (by omega)
            have hcq := hA3.cell q (by omega)
            have hxor := wv_xor
            have HT : Hid (∀ y, y = thJ (colK f 5 p ^^^ rotl (colK f 5 q) 1) x (thK (colK f 5) f x) 5 → thK (colK f 5) f (x + 1) = y) := fun y e => by rw [e, thK, hp, hq]
            generalize colK f 5 p = cp at hcp HT
            generalize colK f 5 q = cq at hcq HT
            clear hp hq
            go_wp2
            go_quiet ((go_at_call 76; refine Calls.quiet_of_same ((turn_any cq 1 (by omega) _).mono fun e w1 h => ⟨h.1, h.2.symm⟩)))
            have hA1' := hA1.drewN nq
            have hA2' := hA2.drewN nq
            have hA3' := hA3.drewN nq
            have hbel' := below_drewN hbel nq
            clear hA1 hA2 hA3 hbel hcp hcq
            generalize hd : cp ^^^ rotl cq 1 = d at HT ⊢
            go_wp2
            go_loopw [8] (fun i wr => ∃ y : Nat, i = .int .i64 (5 * (y : Int)) ∧ y ≤ 5 ∧ At wr b1 78 25 (thJ d x (thK (colK f 5) f x) y) ∧ At wr b2 78 25 zf ∧ At wr b3 86 5 (colK f 5) ∧ Below b1 w wr) (fun i _ => 25 - (intOf i).toNat)
            case atStart => exact ⟨0, rfl, by omega, hA1', hA2', hA3', hbel'⟩
            case round =>
              clear hA1' hA2' hA3' hbel'
              obtain ⟨y, rfl, hy, hA1, hA2, hA3, hbel⟩ := hrel
              by_cases hly : y < 5
              · have hly' : 5 * (y : Int) < 25 := by omega
                obtain ⟨m, hm⟩ : ∃ m, m = 5 * y + x := ⟨_, rfl⟩
                have hix : 5 * (y : Int) + (x : Int) = (m : Int) := by omega
                have hm0 : (0 : Int) ≤ (m : Int) := by omega
                have hm25 : (m : Int) < 25 := by omega
                have hc1 := hA1.cell m (by omega)
                have hf1 := hA1.free m
                have HA1 : Hid (At (wr.setCell ⟨b1, m, none⟩ (.int .u64 (wv (thJ d x (thK (colK f 5) f x) y m ^^^ d)))) b1 78 25 (thJ d x (thK (colK f 5) f x) (y + 1))) := by
                  show At _ _ _ _ _
                  rw [thJ, ← hm]
                  exact hA1.set m _
                have HA2 : Hid (At (wr.setCell ⟨b1, m, none⟩ (.int .u64 (wv (thJ d x (thK (colK f 5) f x) y m ^^^ d)))) b2 78 25 zf) := hA2.other (fun e => HB12.out e.symm) _
                have HA3 : Hid (At (wr.setCell ⟨b1, m, none⟩ (.int .u64 (wv (thJ d x (thK (colK f 5) f x) y m ^^^ d)))) b3 86 5 (colK f 5)) := hA3.other (by have := HB1.out; have := HB3.out; omega) _
                have HBL : Hid (Below b1 w (wr.setCell ⟨b1, m, none⟩ (.int .u64 (wv (thJ d x (thK (colK f 5) f x) y m ^^^ d))))) := hbel.setCell (Nat.le_refl _) _
                clear hm hA1 hA2 hA3 hbel
                generalize thJ d x (thK (colK f 5) f x) y m = s0 at hc1 HA1 HA2 HA3 HBL
                go_wp2
                go_roundw
                case rel => exact ⟨y + 1, by go_num, hly, HA1.out, HA2.out, HA3.out, HBL.out⟩
                case measure => simp [intOf]; omega
              · have hly' : ¬ 5 * (y : Int) < 25 := by omega
                obtain rfl : y = 5 := by omega
                have HA1 : Hid (At wr b1 78 25 (thK (colK f 5) f (x + 1))) := hA1.eq (HT.out _ rfl).symm
                clear hA1
                go_wp2
                go_roundw
                case rel => exact ⟨x + 1, by go_num, hlx, HA1.out, hA2, hA3, hbel⟩
                case measure => simp [intOf]; omega
          · have hlx' : ¬ (x : Int) < 5 := by omega
            obtain rfl : x = 5 := by omega
            have HE : Hid (sc (thK (colK f 5) f 5) 25 = sc (theta f) 25) := sc_congr fun i hi => by
              rw [thK_congr (colK_all f) f 5]; exact thK_all f i hi
            go_wp2_with (first | (refine load_at rfl rfl rfl hA1 Tryd.underlying78 infoS ?_) | (refine store_at rfl rfl rfl rfl hA2 infoS ?_))
            (try simp only [Exit.inBlock, Exit.then])
            refine bodyPost_ret_by (result_at rfl rfl (hA2.row _) Tryd.underlying78 infoS) rfl ⟨by rw [HE.out], ?_⟩
            rw [← HB1.out]
            exact below_row hbel HB1'.out _

end Go.Proofs.YtkmelamfohfdkabDoor
