/-
  The walks of the specification's tables, of all its rounds, of KeccakRound and KeccakF.
-/
import Derived.Test.YtkmelamfohfdkabDoorSRound
import Derived.Test.YtkmelamfohfdkabDoorSText
import Derived.Test.YtkmelamfohfdkabDoorRoundW
namespace Go.Proofs.YtkmelamfohfdkabDoor
open Go.RowKit

theorem infoO : (Tryd.prog.info? 69).map (·.size) = some 25 := by kernel_rfl
theorem infoR : (Tryd.prog.info? 71).map (·.size) = some 24 := by kernel_rfl

set_option maxRecDepth 100000 in
theorem sOff_any (w : World) :
    Calls Tryd.prog 57 #[] w fun e w' => e = .returned (.agg (sc offW 25)) ∧ Below w.heap.size w w' := by
  have hX : At (w.alloc (.cells (sc zf 25) 69)) w.heap.size 69 25 zf := At.new _ _ _ _
  go_enter Tryd.func57, Tryd.ntmps57
  go_wp2_with ((refine store_at (f' := offW) rfl rfl rfl rfl hX infoO ?_))
  (try simp only [Exit.inBlock, Exit.then])
  refine bodyPost_ret_by (result_at rfl rfl (hX.row _) Tryd.underlying69 infoO) rfl ⟨rfl, ?_⟩
  exact below_row ((Below.refl _ _).alloc (Nat.le_refl _) _) (Nat.le_refl _) _

set_option maxRecDepth 100000 in
theorem sRcs_any (w : World) :
    Calls Tryd.prog 58 #[] w fun e w' => e = .returned (.agg (sc rcW 24)) ∧ Below w.heap.size w w' := by
  have hX : At (w.alloc (.cells (sc zf 24) 71)) w.heap.size 71 24 zf := At.new _ _ _ _
  go_enter Tryd.func58, Tryd.ntmps58
  go_wp2_with ((refine store_at (f' := rcW) rfl rfl rfl rfl hX infoR ?_))
  (try simp only [Exit.inBlock, Exit.then])
  refine bodyPost_ret_by (result_at rfl rfl (hX.row _) Tryd.underlying71 infoR) rfl ⟨rfl, ?_⟩
  exact below_row ((Below.refl _ _).alloc (Nat.le_refl _) _) (Nat.le_refl _) _

/-- A whole array out of its block, in a region that draws its order. -/
theorem still_load {P : Program} {w : World} {ops : Array Oper} {rest : List Oper} {o : Oper} {a : Act} {Q : Act → Prop} (hg : o.guard = none) {t : TypeId} {p : Operand} (hop : o.op = Op.load t p)
    {g n : Nat} {t' e : TypeId} {f : Nat → BitVec 64} (hp : a.eval p = .pointer (some ⟨g, 0, none⟩)) (h : At w g t' n f) (hu : P.underlying t = some (.array n e)) (hi : (P.info? t).map (·.size) = some n)
    (K : wpStill P ops w Q rest (a.put o.dst (.agg (sc f n)))) : wpStill P ops w Q (o :: rest) a := by
  refine wpStill_step (fun K' hK' => ?_)
  have hrun : (Instr.loadAt t (.pointer (some ⟨g, 0, none⟩))).run P w = .ok (.agg (sc f n)) w := by
    simp only [Instr.loadAt, Instr.sureAddr, Sem.run_bind, Sem.run_pure, Result.andThen]
    exact run_loadVar_row w g t' t (sc f n) (0, 0) _ h hu rfl (by rw [sc_size]; exact hi)
  have hw : Region.wanted o (yielded ops a.tmps) = true := by simp [Region.wanted, hg]
  rw [if_pos hw]
  unfold Oper.still
  simp [execOp, hop, hp, hrun, Oper.stillUpon]
  exact hK' _ K

set_option maxHeartbeats 1000000 in
set_option maxRecDepth 100000 in
theorem sAll_any (f : Nat → BitVec 64) (w : World) :
    Calls Tryd.prog 44 #[.agg (sc f 25)] w fun e w' => e = .returned (.agg (sc (allF f) 25)) ∧ Below w.heap.size w w' := by
  obtain ⟨b1, HB1⟩ : ∃ b, Hid (b = w.heap.size) := ⟨_, rfl⟩
  obtain ⟨b2, HB2⟩ : ∃ b, Hid (b = w.heap.size + 1) := ⟨_, rfl⟩
  have HX1 : Hid (At ((w.alloc (.cells (sc f 25) 56)).alloc (.cells (sc zf 25) 56)) w.heap.size 56 25 f) := (At.new _ _ _ _).alloc _
  have HX2 : Hid (At ((w.alloc (.cells (sc f 25) 56)).alloc (.cells (sc zf 25) 56)) (w.heap.size + 1) 56 25 zf) := At.new' (by rw [size_alloc]) rfl
  have HBL : Hid (Below w.heap.size w ((w.alloc (.cells (sc f 25) 56)).alloc (.cells (sc zf 25) 56))) := by
    show Below _ _ _
    refine Below.alloc (Below.alloc (Below.refl _ _) (Nat.le_refl _) _) ?_ _ <;> (simp only [size_alloc]; omega)
  rw [← HB1.out] at HX1 HBL
  rw [← HB2.out] at HX2
  go_enter Tryd.func44, Tryd.ntmps44
  go_wp2_with fail
  rw [← HB2.out, ← HB1.out]
  refine (sOff_any _).mono ?_
  rintro e w1 ⟨rfl, hb1⟩
  have hA1 : At w1 b1 56 25 f := HX1.out.on hb1 HX1.out.lt
  have hA2 : At w1 b2 56 25 zf := HX2.out.on hb1 HX2.out.lt
  have hbel : Below b1 w w1 := HBL.out.trans (hb1.mono (Nat.le_of_lt HX1.out.lt))
  clear HX1 HX2 HBL hb1
  have hX3 : At (w1.alloc (.cells (sc zf 25) 69)) w1.heap.size 69 25 zf := At.new _ _ _ _
  have hl1 := hA1.lt
  have hl2 := hA2.lt
  have HL1 : Hid (b1 < w1.heap.size ∧ b2 < w1.heap.size) := ⟨hl1, hl2⟩
  clear hl1 hl2
  go_wp2_with ((refine store_to rfl rfl rfl rfl hX3 infoO ?_; intro w2 hA3 hk2 hs2 hl2))
  have hB1 : At w2 b1 56 25 f := (hk2 b1 (by have := HL1.out; omega)).trans (hA1.alloc _)
  have hB2 : At w2 b2 56 25 zf := (hk2 b2 (by have := HL1.out; omega)).trans (hA2.alloc _)
  have hbel2 : Below b1 w w2 := hl2 _ _ (Nat.le_of_lt HL1.out.1) (hbel.alloc (Nat.le_of_lt HL1.out.1) _)
  obtain ⟨b3, HB3⟩ : ∃ b, Hid (b = w1.heap.size) := ⟨_, rfl⟩
  rw [← HB3.out] at hA3 ⊢
  clear hA1 hA2 hbel hX3 hk2 hs2 hl2
  refine (sRcs_any _).mono ?_
  rintro e w3 ⟨rfl, hb3⟩
  have hC1 : At w3 b1 56 25 f := hB1.on hb3 hB1.lt
  have hC2 : At w3 b2 56 25 zf := hB2.on hb3 hB2.lt
  have hC3 : At w3 b3 69 25 offW := hA3.on hb3 hA3.lt
  have hbel3 : Below b1 w w3 := hbel2.trans (hb3.mono (Nat.le_of_lt hB1.lt))
  have HL3 : Hid (b1 < w3.heap.size ∧ b2 < w3.heap.size ∧ b3 < w3.heap.size) := ⟨hC1.lt, hC2.lt, hC3.lt⟩
  have HN : Hid (b1 ≠ b2 ∧ b1 ≠ b3 ∧ b1 ≤ b2) := by
    have e1 := HB1.out
    have e2 := HB2.out
    have e3 := HB3.out
    have e4 := HL1.out
    show b1 ≠ b2 ∧ b1 ≠ b3 ∧ b1 ≤ b2
    omega
  clear hB1 hB2 hbel2 hA3 hb3
  have hX4 : At (w3.alloc (.cells (sc zf 24) 71)) w3.heap.size 71 24 zf := At.new _ _ _ _
  go_wp2_with ((refine store_to rfl rfl rfl rfl hX4 infoR ?_; intro w4 hD4 hk4 hs4 hl4))
  have hD1 : At w4 b1 56 25 f := (hk4 b1 (by have := HL3.out; omega)).trans (hC1.alloc _)
  have hD2 : At w4 b2 56 25 zf := (hk4 b2 (by have := HL3.out; omega)).trans (hC2.alloc _)
  have hD3 : At w4 b3 69 25 offW := (hk4 b3 (by have := HL3.out; omega)).trans (hC3.alloc _)
  have hbel4 : Below b1 w w4 := hl4 _ _ (Nat.le_of_lt HL3.out.1) (hbel3.alloc (Nat.le_of_lt HL3.out.1) _)
  obtain ⟨b4, HB4⟩ : ∃ b, Hid (b = w3.heap.size) := ⟨_, rfl⟩
  rw [← HB4.out] at hD4 ⊢
  have HN4 : Hid (b1 ≠ b4) := (show b1 ≠ b4 by have := HB4.out; have := HL3.out; omega)
  clear hC1 hC2 hC3 hbel3 hX4 hk4 hs4 hl4
  go_loopw [5] (fun i wr => ∃ k : Nat, i = .int .i64 (k : Int) ∧ k ≤ 24 ∧ At wr b1 56 25 (allK f k) ∧ At wr b2 56 25 zf ∧ At wr b3 69 25 offW ∧ At wr b4 71 24 rcW ∧ Below b1 w wr) (fun i _ => 24 - (intOf i).toNat)
  case atStart => exact ⟨0, rfl, by omega, hD1, hD2, hD3, hD4, hbel4⟩
  case round =>
    clear hD1 hD2 hD3 hD4 hbel4
    obtain ⟨k, rfl, hk, hA1, hA2, hA3, hA4, hbel⟩ := hrel
    by_cases hlt : k < 24
    · have hlt' : (k : Int) < 24 := by omega
      have hk0 : (0 : Int) ≤ (k : Int) := by omega
      have hc4 := hA4.cell k hlt
      have hE1 : At wr.drew b1 56 25 (allK f k) := hA1
      have hE3 : At wr.drew b3 69 25 offW := hA3
      have HR : Hid (∀ w, Calls Tryd.prog 59 #[.agg (sc (allK f k) 25), .agg (sc offW 25), .int .u64 (wv (rcW k))] w fun e w' => e = .returned (.agg (sc (allK f (k + 1)) 25)) ∧ Below w.heap.size w w') := fun w => sRound_any (allK f k) (rcW k) w
      generalize rcW k = c at hc4 HR
      go_wp2
      refine wp_region_still_tail 5 mixesW (by kernel_rfl) ?_
      simp only [List.take_succ_cons, List.take_zero, List.drop_succ_cons, List.drop_zero]
      refine still_load rfl rfl rfl hE1 Tryd.underlying56 infoA' ?_
      refine still_load rfl rfl rfl hE3 Tryd.underlying69 infoO ?_
      repeat still_step
      refine wpStill_nil ?_
      go_wp2_with fail
      refine (HR.out _).mono ?_
      rintro e w5 ⟨rfl, hb5⟩
      have hF1 : At w5 b1 56 25 (allK f k) := hE1.on hb5 hE1.lt
      have hF2 : At w5 b2 56 25 zf := hA2.drew.on hb5 hA2.lt
      have hF3 : At w5 b3 69 25 offW := hE3.on hb5 hE3.lt
      have hF4 : At w5 b4 71 24 rcW := hA4.drew.on hb5 hA4.lt
      have hbF : Below b1 w w5 := hbel.drew.trans (hb5.mono (Nat.le_of_lt hE1.lt))
      clear hA1 hA2 hA3 hA4 hbel hE1 hE3 hb5 hc4
      go_wp2_with ((refine store_to rfl rfl rfl rfl hF1 infoA' ?_; intro w6 hG1 hk6 hs6 hl6))
      go_roundw
      case rel => exact ⟨k + 1, by go_num, hlt, hG1, (hk6 _ HN.out.1).trans hF2, (hk6 _ HN.out.2.1).trans hF3, (hk6 _ HN4.out).trans hF4, hl6 _ _ (Nat.le_refl _) hbF⟩
      case measure => simp [intOf]; omega
    · have hlt' : ¬ (k : Int) < 24 := by omega
      obtain rfl : k = 24 := by omega
      go_wp2_with (first | (refine load_at rfl rfl rfl hA1 Tryd.underlying56 infoA' ?_) | (refine store_at rfl rfl rfl rfl hA2 infoA' ?_))
      (try simp only [Exit.inBlock, Exit.then])
      refine bodyPost_ret_by (result_at rfl rfl (hA2.row _) Tryd.underlying56 infoA') rfl ⟨rfl, ?_⟩
      rw [← HB1.out]
      exact below_row hbel HN.out.2.2 _

end Go.Proofs.YtkmelamfohfdkabDoor
