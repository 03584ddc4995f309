/-
  Texts of one's own, joined.
-/
import Derived.Test.YtldkdgbcnbgmiabDoorJoined19
import Derived.Test.YtldkdgbcnbgmiabDoorJoined20
import Derived.Test.YtldkdgbcnbgmiabDoorJoined22
import Derived.Test.YtldkdgbcnbgmiabDoorJoined23

/-
  The walk of chiW.
-/
namespace Go.Proofs.YtldkdgbcnbgmiabDoor
open Go.RowKit

set_option maxHeartbeats 3200000 in
set_option maxRecDepth 100000 in
theorem chi_any (f : Nat → BitVec 64) (w : World) :
    Calls Tryd.prog 95 #[.agg (sc f 25)] w fun e w' => e = .returned (.agg (sc (chiW f) 25)) ∧ Below w.heap.size w w' := by
  obtain ⟨b1, HB1⟩ : ∃ b, Hid (b = w.heap.size) := ⟨_, rfl⟩
  obtain ⟨b2, HB2⟩ : ∃ b, Hid (b = w.heap.size + 1) := ⟨_, rfl⟩
  go_enter Tryd.func95, Tryd.ntmps95
  go_wp2
  rw [← HB2.out, ← HB1.out]
  go_loopw [3] (fun i wr => ∃ k : Nat, i = .int .i64 (5 * (k : Int)) ∧ k ≤ 5 ∧ At wr b1 101 25 (chiK f k) ∧ At wr b2 101 25 zf ∧ Below b1 w wr) (fun i _ => 25 - (intOf i).toNat)
  case atStart =>
    obtain rfl := HB1.out
    obtain rfl := HB2.out
    refine ⟨0, rfl, by omega, (At.new w _ 25 f).alloc _, ?_, ?_⟩
    · refine At.new' ?_ ?_
      · rw [size_alloc]
      · rfl
    · refine Below.alloc (Below.alloc (Below.refl _ _) (Nat.le_refl _) _) ?_ _ <;> (simp only [size_alloc]; omega)
  case round =>
    obtain ⟨k, rfl, hk, hA1, hA2, hbel⟩ := hrel
    by_cases hlt : k < 5
    · have hlt' : 5 * (k : Int) < 25 := by omega
      obtain ⟨m0, hm0⟩ : ∃ m, m = 5 * k := ⟨_, rfl⟩
      obtain ⟨m1, hm1⟩ : ∃ m, m = 5 * k + 1 := ⟨_, rfl⟩
      obtain ⟨m2, hm2⟩ : ∃ m, m = 5 * k + 2 := ⟨_, rfl⟩
      obtain ⟨m3, hm3⟩ : ∃ m, m = 5 * k + 3 := ⟨_, rfl⟩
      obtain ⟨m4, hm4⟩ : ∃ m, m = 5 * k + 4 := ⟨_, rfl⟩
      have hi0 : 5 * (k : Int) = (m0 : Int) := by omega
      have hi1 : (m0 : Int) + 1 = (m1 : Int) := by omega
      have hi2 : (m0 : Int) + 2 = (m2 : Int) := by omega
      have hi3 : (m0 : Int) + 3 = (m3 : Int) := by omega
      have hi4 : (m0 : Int) + 4 = (m4 : Int) := by omega
      have hl0 : (m0 : Int) < 25 := by omega
      have hl1 : (m1 : Int) < 25 := by omega
      have hl2 : (m2 : Int) < 25 := by omega
      have hl3 : (m3 : Int) < 25 := by omega
      have hl4 : (m4 : Int) < 25 := by omega
      have hc0 := hA1.cell m0 (by omega)
      have hc1 := hA1.cell m1 (by omega)
      have hc2 := hA1.cell m2 (by omega)
      have hc3 := hA1.cell m3 (by omega)
      have hc4 := hA1.cell m4 (by omega)
      have HL : Hid (m0 < 25 ∧ m1 < 25 ∧ m2 < 25 ∧ m3 < 25 ∧ m4 < 25) := (show m0 < 25 ∧ m1 < 25 ∧ m2 < 25 ∧ m3 < 25 ∧ m4 < 25 by omega)
      have HN : Hid (5 * (k : Int) + 5 = 5 * ((k + 1 : Nat) : Int)) := (show 5 * (k : Int) + 5 = 5 * ((k + 1 : Nat) : Int) by omega)
      have hxor := wv_xor
      have hand := wv_and
      have hb0 : (m0 : Int) + 5 ≤ 25 := by omega
      have HE : Hid (chiK f (k + 1) = upd (upd (upd (upd (upd (chiK f k) m0 (chiK f k m0 ^^^ (~~~ chiK f k m1 &&& chiK f k m2))) m1 (chiK f k m1 ^^^ (~~~ chiK f k m2 &&& chiK f k m3))) m2 (chiK f k m2 ^^^ (~~~ chiK f k m3 &&& chiK f k m4))) m3 (chiK f k m3 ^^^ (~~~ chiK f k m4 &&& chiK f k m0))) m4 (chiK f k m4 ^^^ (~~~ chiK f k m0 &&& chiK f k m1))) := by
        show chiK f (k + 1) = _
        rw [hm0, hm1, hm2, hm3, hm4]; rfl
      rw [hi0] at HN
      clear hm0 hm1 hm2 hm3 hm4
      go_wp2
      go_quiet (fail)
      have hA1' := hA1.drewN nq
      have hA2' := hA2.drewN nq
      have hbel' := below_drewN hbel nq
      clear hA1 hA2 hbel hc0 hc1 hc2 hc3 hc4
      generalize wr.drewN nq = w0 at hA1' hA2' hbel' ⊢
      go_wp2_with (first
        | (refine not_word rfl rfl rfl ?_)
        | (refine store_cell rfl rfl rfl rfl hA1' HL.out.1 ?_; intro w1 hB1 ho1 hl1')
        | (refine store_cell rfl rfl rfl rfl hB1 HL.out.2.1 ?_; intro w2 hB2 ho2 hl2')
        | (refine store_cell rfl rfl rfl rfl hB2 HL.out.2.2.1 ?_; intro w3 hB3 ho3 hl3')
        | (refine store_cell rfl rfl rfl rfl hB3 HL.out.2.2.2.1 ?_; intro w4 hB4 ho4 hl4')
        | (refine store_cell rfl rfl rfl rfl hB4 HL.out.2.2.2.2 ?_; intro w5 hB5 ho5 hl5'))
      have hne : b1 ≠ b2 := by have := HB1.out; have := HB2.out; omega
      go_roundw
      case rel =>
        refine ⟨k + 1, by rw [HN.out], hlt, hB5.eq HE.out.symm, ?_, ?_⟩
        · exact ho5 _ _ _ _ hne (ho4 _ _ _ _ hne (ho3 _ _ _ _ hne (ho2 _ _ _ _ hne (ho1 _ _ _ _ hne hA2'))))
        · exact hl5' _ _ (Nat.le_refl _) (hl4' _ _ (Nat.le_refl _) (hl3' _ _ (Nat.le_refl _) (hl2' _ _ (Nat.le_refl _) (hl1' _ _ (Nat.le_refl _) hbel'))))
      case measure => simp [intOf]; omega
    · have hlt' : ¬ 5 * (k : Int) < 25 := by omega
      obtain rfl : k = 5 := by omega
      have HB12 : Hid (b1 ≤ b2) := (show b1 ≤ b2 by have := HB1.out; have := HB2.out; omega)
      have HE : Hid (sc (chiK f 5) 25 = sc (chiW f) 25) := sc_congr fun i hi => chiK_all f i hi
      go_wp2_with (first | (refine load_at rfl rfl rfl hA1 Tryd.underlying101 infoS ?_) | (refine store_at rfl rfl rfl rfl hA2 infoS ?_))
      (try simp only [Exit.inBlock, Exit.then])
      refine bodyPost_ret_by (result_at rfl rfl (hA2.row _) Tryd.underlying101 infoS) rfl ⟨by rw [HE.out], ?_⟩
      rw [← HB1.out]
      exact below_row hbel HB12.out _

end Go.Proofs.YtldkdgbcnbgmiabDoor

/-
  The walks of a round and of all rounds.
-/
namespace Go.Proofs.YtldkdgbcnbgmiabDoor
open Go.RowKit

/-- The table of the rounds lies in block 0. -/
def Tab (w : World) : Prop := 0 < w.heap.size ∧ ∀ i, i < 24 → w.cell? ⟨0, i, none⟩ = some (.int .u64 (wv (rcW i)))
theorem Tab.on {w w1 : World} {c : Nat} (h : Tab w) (hb : Below c w w1) (hc : 0 < c) : Tab w1 :=
  ⟨Nat.lt_of_lt_of_le h.1 hb.size, fun i hi => (hb.cell (p := ⟨0, i, none⟩) hc).trans (h.2 i hi)⟩

set_option maxHeartbeats 400000 in
set_option maxRecDepth 100000 in
theorem round_any (f : Nat → BitVec 64) (r : Nat) (hr : r < 24) (w : World) (hT : Tab w) :
    Calls Tryd.prog 91 #[.agg (sc f 25), .int .i64 (r : Int)] w fun e w' => e = .returned (.agg (sc (roundF f r) 25)) ∧ Below w.heap.size w w' := by
  obtain ⟨b1, HB1⟩ : ∃ b, Hid (b = w.heap.size) := ⟨_, rfl⟩
  obtain ⟨b2, HB2⟩ : ∃ b, Hid (b = w.heap.size + 1) := ⟨_, rfl⟩
  have HT : Hid (Tab w) := hT
  have hX1 : At ((w.alloc (.cells (sc f 25) 101)).alloc (.cells (sc zf 25) 101)) w.heap.size 101 25 f := (At.new _ _ _ _).alloc _
  have HX2 : Hid (At ((w.alloc (.cells (sc f 25) 101)).alloc (.cells (sc zf 25) 101)) (w.heap.size + 1) 101 25 zf) := At.new' (by rw [size_alloc]) rfl
  have HBL : Hid (Below w.heap.size w ((w.alloc (.cells (sc f 25) 101)).alloc (.cells (sc zf 25) 101))) := by
    show Below _ _ _
    refine Below.alloc (Below.alloc (Below.refl _ _) (Nat.le_refl _) _) ?_ _ <;> (simp only [size_alloc]; omega)
  clear hT
  go_enter Tryd.func91, Tryd.ntmps91
  go_wp2_with (first | (refine load_at rfl rfl rfl hX1 Tryd.underlying101 infoS ?_))
  refine (theta_any f _).mono ?_
  rintro e w1 ⟨rfl, hb1⟩
  go_wp2_with fail
  refine (rhoPi_any (theta f) _).mono ?_
  rintro e w2 ⟨rfl, hb2⟩
  go_wp2_with fail
  refine (chi_any (rhoPi (theta f)) _).mono ?_
  rintro e w3 ⟨rfl, hb3⟩
  have hs2 : ((w.alloc (.cells (sc f 25) 101)).alloc (.cells (sc zf 25) 101)).heap.size = w.heap.size + 1 + 1 := by simp only [size_alloc]
  have hb3' : Below (w.heap.size + 1 + 1) ((w.alloc (.cells (sc f 25) 101)).alloc (.cells (sc zf 25) 101)) w3 := by
    rw [← hs2]
    exact hb1.trans ((hb2.mono hb1.size).trans (hb3.mono (Nat.le_trans hb1.size hb2.size)))
  have hY1 : At w3 w.heap.size 101 25 f := hX1.on hb3' (by omega)
  have hY2 : At w3 (w.heap.size + 1) 101 25 zf := HX2.out.on hb3' (by omega)
  have hbel : Below w.heap.size w w3 := HBL.out.trans (hb3'.mono (by omega))
  have hTw := HT.out
  have h00 := HT.out.1
  have HG : Hid (∀ W, At W b2 101 25 (upd (chiW (rhoPi (theta f))) 0 (chiW (rhoPi (theta f)) 0 ^^^ rcW r)) → At W b2 101 25 (roundF f r)) := fun _ h => h
  clear hX1 HX2 HBL hs2 hb1 hb2 hb3 hb3' HT
  generalize chiW (rhoPi (theta f)) = g at HG
  rw [← HB2.out, ← HB1.out]
  rw [← HB1.out] at hY1 hbel h00
  rw [← HB2.out] at hY2
  have hne : b1 ≠ b2 := by have := HB1.out; have := HB2.out; omega
  have HNE : Hid (b1 ≠ b2) := hne
  have HLE : Hid (b1 ≤ b2) := (show b1 ≤ b2 by have := HB1.out; have := HB2.out; omega)
  clear hne
  have HT0 : Hid (∀ w4, Below b1 w w4 → w4.cell? ⟨0, r, none⟩ = some (.int .u64 (wv (rcW r)))) := fun w4 hb => (hb.cell (p := ⟨0, r, none⟩) h00).trans (hTw.2 r hr)
  clear hTw
  go_wp2_with ((refine store_to rfl rfl rfl rfl hY1 infoS ?_; intro w4 hA4 hk4 hs4 hl4))
  have hc0 := hA4.cell 0 (by omega)
  have hf0 := hA4.free 0
  have hb4 : Below b1 w w4 := hl4 _ _ (Nat.le_refl _) hbel
  have hct := HT0.out w4 hb4
  have hA2 : At w4 b2 101 25 zf := (hk4 _ HNE.out).trans hY2
  have hr' : (r : Int) < 24 := by omega
  have hxor := wv_xor
  have HA1 : Hid (At (w4.setCell ⟨b1, 0, none⟩ (.int .u64 (wv (g 0 ^^^ rcW r)))).drew b1 101 25 (upd g 0 (g 0 ^^^ rcW r))) := hA4.set 0 _
  have HA2 : Hid (At (w4.setCell ⟨b1, 0, none⟩ (.int .u64 (wv (g 0 ^^^ rcW r)))).drew b2 101 25 zf) := hA2.other HNE.out _
  have HBL : Hid (Below b1 w (w4.setCell ⟨b1, 0, none⟩ (.int .u64 (wv (g 0 ^^^ rcW r)))).drew) := (hb4.setCell (Nat.le_refl _) _).drew
  generalize rcW r = c at hct HA1 HA2 HBL HG
  clear hY1 hY2 hbel hA4 hk4 hs4 hl4 hb4 hA2
  go_region
  all_goals
    generalize (w4.setCell ⟨b1, 0, none⟩ (.int .u64 (wv (g 0 ^^^ c)))).drew = V at HA1 HA2 HBL ⊢
    have hV1 := HA1.out
    have hV2 := HA2.out
    go_wp2_with (first | (refine load_at rfl rfl rfl hV1 Tryd.underlying101 infoS ?_) | (refine store_at rfl rfl rfl rfl hV2 infoS ?_))
    (try simp only [Exit.inBlock, Exit.then])
    refine bodyPost_ret_by (result_at rfl rfl (HG.out _ (hV2.row _)) Tryd.underlying101 infoS) rfl ⟨rfl, ?_⟩
    rw [← HB1.out]
    exact below_row HBL.out HLE.out _

set_option maxHeartbeats 400000 in
set_option maxRecDepth 100000 in
theorem all_any (f : Nat → BitVec 64) (w : World) (hT : Tab w) :
    Calls Tryd.prog 86 #[.agg (sc f 25)] w fun e w' => e = .returned (.agg (sc (allF f) 25)) ∧ Below w.heap.size w w' := by
  obtain ⟨b1, HB1⟩ : ∃ b, Hid (b = w.heap.size) := ⟨_, rfl⟩
  obtain ⟨b2, HB2⟩ : ∃ b, Hid (b = w.heap.size + 1) := ⟨_, rfl⟩
  have HT : Hid (Tab w) := hT
  clear hT
  go_enter Tryd.func86, Tryd.ntmps86
  go_wp2
  rw [← HB2.out, ← HB1.out]
  go_loopw [4] (fun i wr => ∃ k : Nat, i = .int .i64 (k : Int) ∧ k ≤ 24 ∧ At wr b1 101 25 (allK f k) ∧ At wr b2 101 25 zf ∧ Below b1 w wr) (fun i _ => 24 - (intOf i).toNat)
  case atStart =>
    obtain rfl := HB1.out
    obtain rfl := HB2.out
    refine ⟨0, rfl, by omega, (At.new w _ 25 f).alloc _, ?_, ?_⟩
    · refine At.new' ?_ ?_
      · rw [size_alloc]
      · rfl
    · refine Below.alloc (Below.alloc (Below.refl _ _) (Nat.le_refl _) _) ?_ _ <;> (simp only [size_alloc]; omega)
  case round =>
    obtain ⟨k, rfl, hk, hA1, hA2, hbel⟩ := hrel
    by_cases hlt : k < 24
    · have hlt' : (k : Int) < 24 := by omega
      go_wp2_with (refine load_at rfl rfl rfl hA1 Tryd.underlying101 infoS ?_)
      have hTr : Tab wr := HT.out.on hbel (by rw [HB1.out]; exact HT.out.1)
      refine (round_any (allK f k) k hlt _ hTr).mono ?_
      rintro e w1 ⟨rfl, hb1⟩
      have hA1' := hA1.on hb1 hA1.lt
      have hA2' := hA2.on hb1 hA2.lt
      have hbel' : Below b1 w w1 := hbel.trans (hb1.mono (Nat.le_of_lt hA1.lt))
      have HNE : Hid (b1 ≠ b2) := (show b1 ≠ b2 by have := HB1.out; have := HB2.out; omega)
      clear hA1 hA2 hbel hb1 hTr
      go_wp2_with ((refine store_to rfl rfl rfl rfl hA1' infoS ?_; intro w4 hA4 hk4 hs4 hl4))
      go_roundw
      case rel => exact ⟨k + 1, by go_num, hlt, hA4, (hk4 _ HNE.out).trans hA2', hl4 _ _ (Nat.le_refl _) hbel'⟩
      case measure => simp [intOf]; omega
    · have hlt' : ¬ (k : Int) < 24 := by omega
      obtain rfl : k = 24 := by omega
      have HLE : Hid (b1 ≤ b2) := (show b1 ≤ b2 by have := HB1.out; have := HB2.out; omega)
      go_wp2_with (first | (refine load_at rfl rfl rfl hA1 Tryd.underlying101 infoS ?_) | (refine store_at rfl rfl rfl rfl hA2 infoS ?_))
      (try simp only [Exit.inBlock, Exit.then])
      refine bodyPost_ret_by (result_at rfl rfl (hA2.row _) Tryd.underlying101 infoS) rfl ⟨rfl, ?_⟩
      rw [← HB1.out]
      exact below_row hbel HLE.out _

end Go.Proofs.YtldkdgbcnbgmiabDoor

/-
  The specification's round: plain mathematics.
-/
namespace Go.Proofs.YtldkdgbcnbgmiabDoor

def offL : List Nat := [0, 1, 62, 28, 27, 36, 44, 6, 55, 20, 3, 10, 43, 25, 39, 41, 45, 15, 21, 8, 18, 2, 61, 56, 14]
def offN (i : Nat) : Nat := offL.getD i 0
def offW (i : Nat) : BitVec 64 := BitVec.ofNat 64 (offN i)
theorem offN_lt : ∀ i, i < 25 → offN i < 64 := by decide
theorem offW_val (i : Nat) (h : i < 25) : wv (offW i) = (offN i : Int) := wv_ofNat (by have := offN_lt i h; omega)

/-- The columns, x of them. -/
def cS (f : Nat → BitVec 64) : Nat → Nat → BitVec 64
  | 0 => zf
  | x + 1 => upd (cS f x) x (f x ^^^ f (x + 5) ^^^ f (x + 10) ^^^ f (x + 15) ^^^ f (x + 20))
/-- The turned words of column x, y of them. -/
def spJ (f : Nat → BitVec 64) (d : BitVec 64) (x : Nat) (g : Nat → BitVec 64) : Nat → Nat → BitVec 64
  | 0 => g
  | y + 1 => upd (spJ f d x g y) (y + 5 * ((2 * x + 3 * y) % 5)) (rotl (f (x + 5 * y) ^^^ d) (offN (x + 5 * y)))
def spK (f c : Nat → BitVec 64) : Nat → Nat → BitVec 64
  | 0 => zf
  | x + 1 => spJ f (c ((x + 4) % 5) ^^^ rotl (c ((x + 1) % 5)) 1) x (spK f c x) 5
/-- The last step of row y, x words. -/
def chJ (g : Nat → BitVec 64) (y : Nat) (a : Nat → BitVec 64) : Nat → Nat → BitVec 64
  | 0 => a
  | x + 1 => upd (chJ g y a x) (x + 5 * y) (g (x + 5 * y) ^^^ (~~~ g ((x + 1) % 5 + 5 * y) &&& g ((x + 2) % 5 + 5 * y)))
def chK (g f : Nat → BitVec 64) : Nat → Nat → BitVec 64
  | 0 => f
  | y + 1 => chJ g y (chK g f y) 5
theorem spK_all (f : Nat → BitVec 64) (i : Nat) (h : i < 25) : spK f (cS f 5) 5 i = rhoPi (theta f) i := by
  rcases cases25 h with rfl | rfl | rfl | rfl | rfl | rfl | rfl | rfl | rfl | rfl | rfl | rfl | rfl | rfl | rfl | rfl | rfl | rfl | rfl | rfl | rfl | rfl | rfl | rfl | rfl
  · show rotl (f 0 ^^^ both f 0) 0 = theta f 0
    rw [rotl_zero]; rfl
  all_goals rfl
theorem chK_all (g f : Nat → BitVec 64) (i : Nat) (h : i < 25) : chK g f 5 i = chiW g i := by
  rcases cases25 h with rfl | rfl | rfl | rfl | rfl | rfl | rfl | rfl | rfl | rfl | rfl | rfl | rfl | rfl | rfl | rfl | rfl | rfl | rfl | rfl | rfl | rfl | rfl | rfl | rfl <;> rfl
theorem spec_round (f : Nat → BitVec 64) (c : BitVec 64) (i : Nat) (h : i < 25) :
    upd (chK (spK f (cS f 5) 5) f 5) 0 (chK (spK f (cS f 5) 5) f 5 0 ^^^ c) i = iota (chiW (rhoPi (theta f))) c i := by
  have hc : ∀ i, i < 25 → chK (spK f (cS f 5) 5) f 5 i = chiW (rhoPi (theta f)) i := fun i hi => by
    rw [chK_all _ _ _ hi]
    unfold chiW
    rw [spK_all f i hi, spK_all f _ (by omega), spK_all f ((i % 5 + 2) % 5 + 5 * (i / 5)) (by omega)]
  exact congr_upd hc (by rw [hc 0 (by omega)]) i h

end Go.Proofs.YtldkdgbcnbgmiabDoor
