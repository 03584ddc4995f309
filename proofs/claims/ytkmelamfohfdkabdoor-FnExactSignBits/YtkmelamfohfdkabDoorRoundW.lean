/-
  The walks of a round and of all rounds.
-/
import Derived.Test.YtkmelamfohfdkabDoorTheta
import Derived.Test.YtkmelamfohfdkabDoorRho
import Derived.Test.YtkmelamfohfdkabDoorChi
namespace Go.Proofs.YtkmelamfohfdkabDoor
open Go.RowKit

/-- The table of the rounds lies in its variable's block. -/
def Tab (w : World) : Prop := 0 < w.heap.size ∧ ∀ i, i < 24 → w.cell? ⟨0, i, none⟩ = some (.int .u64 (wv (rcW i)))
theorem Tab.on {w w1 : World} {c : Nat} (h : Tab w) (hb : Below c w w1) (hc : 0 < c) : Tab w1 :=
  ⟨Nat.lt_of_lt_of_le h.1 hb.size, fun i hi => (hb.cell (p := ⟨0, i, none⟩) hc).trans (h.2 i hi)⟩

set_option maxHeartbeats 400000 in
set_option maxRecDepth 100000 in
theorem round_any (f : Nat → BitVec 64) (r : Nat) (hr : r < 24) (w : World) (hT : Tab w) :
    Calls Tryd.prog 71 #[.agg (sc f 25), .int .i64 (r : Int)] w fun e w' => e = .returned (.agg (sc (roundF f r) 25)) ∧ Below w.heap.size w w' := by
  obtain ⟨b1, HB1⟩ : ∃ b, Hid (b = w.heap.size) := ⟨_, rfl⟩
  obtain ⟨b2, HB2⟩ : ∃ b, Hid (b = w.heap.size + 1) := ⟨_, rfl⟩
  have HT : Hid (Tab w) := hT
  have hX1 : At ((w.alloc (.cells (sc f 25) 78)).alloc (.cells (sc zf 25) 78)) w.heap.size 78 25 f := (At.new _ _ _ _).alloc _
  have HX2 : Hid (At ((w.alloc (.cells (sc f 25) 78)).alloc (.cells (sc zf 25) 78)) (w.heap.size + 1) 78 25 zf) := At.new' (by rw [size_alloc]) rfl
  have HBL : Hid (Below w.heap.size w ((w.alloc (.cells (sc f 25) 78)).alloc (.cells (sc zf 25) 78))) := by
    show Below _ _ _
    refine Below.alloc (Below.alloc (Below.refl _ _) (Nat.le_refl _) _) ?_ _ <;> (simp only [size_alloc]; omega)
  clear hT
  go_enter Tryd.func71, Tryd.ntmps71
  go_wp2_with (first | (refine load_at rfl rfl rfl hX1 Tryd.underlying78 infoS ?_))
  refine (theta_any f _).mono ?_
  rintro e w1 ⟨rfl, hb1⟩
  go_wp2_with fail
  refine (rhoPi_any (theta f) _).mono ?_
  rintro e w2 ⟨rfl, hb2⟩
  go_wp2_with fail
  refine (chi_any (rhoPi (theta f)) _).mono ?_
  rintro e w3 ⟨rfl, hb3⟩
  have hs2 : ((w.alloc (.cells (sc f 25) 78)).alloc (.cells (sc zf 25) 78)).heap.size = w.heap.size + 1 + 1 := by simp only [size_alloc]
  have hb3' : Below (w.heap.size + 1 + 1) ((w.alloc (.cells (sc f 25) 78)).alloc (.cells (sc zf 25) 78)) w3 := by
    rw [← hs2]
    exact hb1.trans ((hb2.mono hb1.size).trans (hb3.mono (Nat.le_trans hb1.size hb2.size)))
  have hY1 : At w3 w.heap.size 78 25 f := hX1.on hb3' (by omega)
  have hY2 : At w3 (w.heap.size + 1) 78 25 zf := HX2.out.on hb3' (by omega)
  have hbel : Below w.heap.size w w3 := HBL.out.trans (hb3'.mono (by omega))
  have hTw := HT.out
  have h00 := HT.out.1
  have HG : Hid (∀ W, At W b2 78 25 (upd (chiW (rhoPi (theta f))) 0 (chiW (rhoPi (theta f)) 0 ^^^ rcW r)) → At W b2 78 25 (roundF f r)) := fun _ h => h
  clear hX1 HX2 HBL hs2 hb1 hb2 hb3 hb3' HT
  generalize chiW (rhoPi (theta f)) = g at HG
  rw [← HB2.out, ← HB1.out]
  rw [← HB1.out] at hY1 hbel h00
  rw [← HB2.out] at hY2
  have hne : b1 ≠ b2 := by have := HB1.out; have := HB2.out; omega
  have HNE : Hid (b1 ≠ b2) := hne
  have HLE : Hid (b1 ≤ b2) := (show b1 ≤ b2 by have := HB1.out; have := HB2.out; omega)
  clear hne
  have HT0 : Hid (∀ w4, Below b1 w w4 → w4.cell? ⟨0, r, none⟩ = some (.int .u64 (wv (rcW r)))) := fun w4 hb => (hb.cell (p := ⟨0, r, none⟩) h00).trans (hTw.2 r hr)
  clear hTw
  go_wp2_with ((refine store_to rfl rfl rfl rfl hY1 infoS ?_; intro w4 hA4 hk4 hs4 hl4))
  have hc0 := hA4.cell 0 (by omega)
  have hf0 := hA4.free 0
  have hb4 : Below b1 w w4 := hl4 _ _ (Nat.le_refl _) hbel
  have hct := HT0.out w4 hb4
  have hA2 : At w4 b2 78 25 zf := (hk4 _ HNE.out).trans hY2
  have hr' : (r : Int) < 24 := by omega
  have hxor := wv_xor
  have HA1 : Hid (At (w4.setCell ⟨b1, 0, none⟩ (.int .u64 (wv (g 0 ^^^ rcW r)))).drew b1 78 25 (upd g 0 (g 0 ^^^ rcW r))) := hA4.set 0 _
  have HA2 : Hid (At (w4.setCell ⟨b1, 0, none⟩ (.int .u64 (wv (g 0 ^^^ rcW r)))).drew b2 78 25 zf) := hA2.other HNE.out _
  have HBL : Hid (Below b1 w (w4.setCell ⟨b1, 0, none⟩ (.int .u64 (wv (g 0 ^^^ rcW r)))).drew) := (hb4.setCell (Nat.le_refl _) _).drew
  generalize rcW r = c at hct HA1 HA2 HBL HG
  clear hY1 hY2 hbel hA4 hk4 hs4 hl4 hb4 hA2
  go_region
  all_goals
    generalize (w4.setCell ⟨b1, 0, none⟩ (.int .u64 (wv (g 0 ^^^ c)))).drew = V at HA1 HA2 HBL ⊢
    have hV1 := HA1.out
    have hV2 := HA2.out
    go_wp2_with (first | (refine load_at rfl rfl rfl hV1 Tryd.underlying78 infoS ?_) | (refine store_at rfl rfl rfl rfl hV2 infoS ?_))
    (try simp only [Exit.inBlock, Exit.then])
    refine bodyPost_ret_by (result_at rfl rfl (HG.out _ (hV2.row _)) Tryd.underlying78 infoS) rfl ⟨rfl, ?_⟩
    rw [← HB1.out]
    exact below_row HBL.out HLE.out _

set_option maxHeartbeats 400000 in
set_option maxRecDepth 100000 in
theorem all_any (f : Nat → BitVec 64) (w : World) (hT : Tab w) :
    Calls Tryd.prog 68 #[.agg (sc f 25)] w fun e w' => e = .returned (.agg (sc (allF f) 25)) ∧ Below w.heap.size w w' := by
  obtain ⟨b1, HB1⟩ : ∃ b, Hid (b = w.heap.size) := ⟨_, rfl⟩
  obtain ⟨b2, HB2⟩ : ∃ b, Hid (b = w.heap.size + 1) := ⟨_, rfl⟩
  have HT : Hid (Tab w) := hT
  clear hT
  go_enter Tryd.func68, Tryd.ntmps68
  go_wp2
  rw [← HB2.out, ← HB1.out]
  go_loopw [4] (fun i wr => ∃ k : Nat, i = .int .i64 (k : Int) ∧ k ≤ 24 ∧ At wr b1 78 25 (allK f k) ∧ At wr b2 78 25 zf ∧ Below b1 w wr) (fun i _ => 24 - (intOf i).toNat)
  case atStart =>
    obtain rfl := HB1.out
    obtain rfl := HB2.out
    refine ⟨0, rfl, by omega, (At.new w _ 25 f).alloc _, ?_, ?_⟩
    · refine At.new' ?_ ?_
      · rw [size_alloc]
      · rfl
    · refine Below.alloc (Below.alloc (Below.refl _ _) (Nat.le_refl _) _) ?_ _ <;> (simp only [size_alloc]; omega)
  case round =>
    obtain ⟨k, rfl, hk, hA1, hA2, hbel⟩ := hrel
    by_cases hlt : k < 24
    · have hlt' : (k : Int) < 24 := by omega
      go_wp2_with (refine load_at rfl rfl rfl hA1 Tryd.underlying78 infoS ?_)
      have hTr : Tab wr := HT.out.on hbel (by rw [HB1.out]; exact HT.out.1)
      refine (round_any (allK f k) k hlt _ hTr).mono ?_
      rintro e w1 ⟨rfl, hb1⟩
      have hA1' := hA1.on hb1 hA1.lt
      have hA2' := hA2.on hb1 hA2.lt
      have hbel' : Below b1 w w1 := hbel.trans (hb1.mono (Nat.le_of_lt hA1.lt))
      have HNE : Hid (b1 ≠ b2) := (show b1 ≠ b2 by have := HB1.out; have := HB2.out; omega)
      clear hA1 hA2 hbel hb1 hTr
      go_wp2_with ((refine store_to rfl rfl rfl rfl hA1' infoS ?_; intro w4 hA4 hk4 hs4 hl4))
      go_roundw
      case rel => exact ⟨k + 1, by go_num, hlt, hA4, (hk4 _ HNE.out).trans hA2', hl4 _ _ (Nat.le_refl _) hbel'⟩
      case measure => simp [intOf]; omega
    · have hlt' : ¬ (k : Int) < 24 := by omega
      obtain rfl : k = 24 := by omega
      have HLE : Hid (b1 ≤ b2) := (show b1 ≤ b2 by have := HB1.out; have := HB2.out; omega)
      go_wp2_with (first | (refine load_at rfl rfl rfl hA1 Tryd.underlying78 infoS ?_) | (refine store_at rfl rfl rfl rfl hA2 infoS ?_))
      (try simp only [Exit.inBlock, Exit.then])
      refine bodyPost_ret_by (result_at rfl rfl (hA2.row _) Tryd.underlying78 infoS) rfl ⟨rfl, ?_⟩
      rw [← HB1.out]
      exact below_row hbel HLE.out _

end Go.Proofs.YtkmelamfohfdkabDoor
