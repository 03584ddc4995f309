/-
  The walk of the specification's Digest.
-/
import Derived.Test.YtlaoikpbgbckjaaDoorDigI
namespace Go.Proofs.YtlaoikpbgbckjaaDoor
open Go.RowKit

set_option maxHeartbeats 800000 in
set_option maxRecDepth 100000 in
theorem sDig_any (s : ByteArray) (hs : s.size ≤ 2097152) (w : World) :
    Calls Tryd.prog 54 #[.string s] w fun e w' => e = .returned (.string (digT s)) ∧ Below w.heap.size w w' := by
  obtain ⟨p, hp⟩ : ∃ p, p = padT s := ⟨_, rfl⟩
  obtain ⟨m, hm⟩ : ∃ m, m = blocks s := ⟨_, rfl⟩
  have hps : p.size = 136 * m := by rw [hp, hm]; exact padT_size s
  have hmb : m ≤ 15421 := by rw [hm]; unfold blocks; omega
  have HP : Hid (∀ w, Calls Tryd.prog 64 #[.string s] w fun e w' => e = .returned (.string p) ∧ Below w.heap.size w w') := by
    rw [hp]; exact sPad_any s hs
  have HD : Hid (digT s = textT (absK p.data.toList m) 4) := by rw [hp, hm]; rfl
  have HPS : Hid (p.size = 136 * m) := hps
  have hpb : (p.size : Int) ≤ 2097256 := by omega
  clear hp hm hps
  go_enter Tryd.func54, Tryd.ntmps54
  go_wp2_with fail
  refine (HP.out _).mono ?_
  rintro e w1 ⟨rfl, hb1⟩
  have hX : At (w1.alloc (.cells (sc zf 25) 90)) w1.heap.size 90 25 zf := At.new _ _ _ _
  go_wp2_with ((refine store_to (f' := zf) rfl rfl rfl rfl hX infoA' ?_; intro w2 hA2 hk2 hs2 hl2))
  have hbel2 : Below w.heap.size w w2 := hl2 _ _ hb1.size (hb1.alloc hb1.size _)
  have HSZ : Hid (w.heap.size ≤ w1.heap.size) := hb1.size
  obtain ⟨b1, HB1⟩ : ∃ b, Hid (b = w1.heap.size) := ⟨_, rfl⟩
  rw [← HB1.out] at hA2 HSZ ⊢
  clear hX hk2 hs2 hl2 hb1
  go_loopw [5] (fun i wr => ∃ k : Nat, i = .int .i64 ((136 * k : Nat) : Int) ∧ k ≤ m ∧ At wr b1 90 25 (absK p.data.toList k) ∧ Below w.heap.size w wr) (fun i _ => (136 * m - (intOf i).toNat))
  case atStart => exact ⟨0, rfl, by omega, hA2, hbel2⟩
  case round =>
    clear hA2 hbel2
    obtain ⟨k, rfl, hk, hA1, hbel⟩ := hrel
    obtain ⟨c, hc⟩ : ∃ c, c = 136 * k := ⟨_, rfl⟩
    rw [← hc]
    by_cases hlt : k < m
    · have hps := HPS.out
      have hlt' : (c : Int) < (p.size : Int) := by omega
      have hcb : c + 136 ≤ p.size := by omega
      have HC : Hid (c = 136 * k) := hc
      have HX : Hid (mixA (absK p.data.toList k) p.data.toList c 17 = mixK (absK p.data.toList k) (blk p.data.toList k) 17) := by
        rw [hc]; exact mixA_blk _ _ _
      have HAB : Hid (allF (mixK (absK p.data.toList k) (blk p.data.toList k) 17) = absK p.data.toList (k + 1)) := rfl
      generalize mixK (absK p.data.toList k) (blk p.data.toList k) 17 = g17 at HX HAB
      have HFK : Hid (∀ W, At W b1 90 25 (absK p.data.toList (k + 1)) → At W b1 90 25 (absK p.data.toList (k + 1))) := fun _ h => h
      generalize absK p.data.toList k = fk at hA1 HX
      clear hc hps
      go_wp2
      go_loopw [6] (fun i wr => ∃ j : Nat, i = .int .i64 (j : Int) ∧ j ≤ 17 ∧ At wr b1 90 25 (mixA fk p.data.toList c j) ∧ Below w.heap.size w wr) (fun i _ => (17 - (intOf i).toNat))
      case atStart => exact ⟨0, rfl, by omega, hA1, hbel⟩
      case round =>
        clear hA1 hbel
        obtain ⟨j, rfl, hj, hA1, hbel⟩ := hrel
        by_cases hl17 : j < 17
        · have hl17' : (j : Int) < 17 := by omega
          have hj0 : (0 : Int) ≤ (j : Int) := by omega
          have hj25 : (j : Int) < 25 := by omega
          obtain ⟨d, hd⟩ : ∃ d, d = c + 8 * j := ⟨_, rfl⟩
          have hd' : (c : Int) + 8 * (j : Int) = (d : Int) := by omega
          have hw1 : IntKind.i64.wrap (8 * (j : Int)) = 8 * (j : Int) := IntWalk.i64_in _ (by omega)
          have hw2 : IntKind.i64.wrap (d : Int) = (d : Int) := IntWalk.i64_in _ (by omega)
          have HF : Hid (∀ w, Calls Tryd.prog 65 #[.string p, .int .i64 (d : Int)] w fun e w' => e = .returned (.int .u64 (wv (wordAt p.data.toList d))) ∧ w' = w) := fun w => by
            have := sWord_any p d (by omega) (by omega) w
            exact this.mono fun e w' h => ⟨h.1, h.2.symm⟩
          have hcl := hA1.cell j (by omega)
          have hxor := wv_xor
          have hD1 : At wr.drew b1 90 25 (mixA fk p.data.toList c j) := hA1
          have HJ : Hid (j < 25) := (show j < 25 by omega)
          have HW : Hid (∀ W, At W b1 90 25 (upd (mixA fk p.data.toList c j) j (mixA fk p.data.toList c j j ^^^ wordAt p.data.toList d)) → At W b1 90 25 (mixA fk p.data.toList c (j + 1))) := fun W h => by
            rw [hd] at h; exact h
          generalize wordAt p.data.toList d = x at HF HW
          generalize mixA fk p.data.toList c j = f at hcl HW hD1 hA1
          generalize f j = y at hcl HW
          clear hA1 hd
          go_wp2
          refine wp_region_still_tail 12 mixesW (by kernel_rfl) ?_
          simp only [List.take_succ_cons, List.take_zero, List.drop_succ_cons, List.drop_zero]
          repeat still_step
          still_call (HF.out _)
          repeat still_step
          refine wpStill_nil ?_
          go_wp2_with ((refine store_cell rfl rfl rfl rfl hD1 HJ.out ?_; intro w3 hG1 ho1 hl1'))
          go_roundw
          case rel => exact ⟨j + 1, by go_num, hl17, HW.out _ hG1, hl1' _ _ HSZ.out hbel.drew⟩
          case measure => simp [intOf]; omega
        · have hl17' : ¬ (j : Int) < 17 := by omega
          obtain rfl : j = 17 := by omega
          rw [HX.out] at hA1
          go_wp2_with (refine load_at rfl rfl rfl hA1 Tryd.underlying90 infoA' ?_)
          refine (sAll_any g17 _).mono ?_
          rintro e w3 ⟨rfl, hb3⟩
          rw [HAB.out]
          have hF1 : At w3 b1 90 25 g17 := hA1.on hb3 hA1.lt
          have hbF : Below w.heap.size w w3 := hbel.trans (hb3.mono hbel.size)
          clear hA1 hbel hb3
          go_wp2_with ((refine store_to rfl rfl rfl rfl hF1 infoA' ?_; intro w6 hG1 hk6 hs6 hl6))
          go_roundw
          case rel => exact ⟨k + 1, by have := HC.out; rw [show ((136 * (k + 1) : Nat) : Int) = (c : Int) + 136 by omega], hlt, HFK.out _ hG1, hl6 _ _ HSZ.out hbF⟩
          case measure => simp [intOf]; have := HC.out; have := HPS.out; omega
    · have hps := HPS.out
      have hlt' : ¬ (c : Int) < (p.size : Int) := by omega
      obtain rfl : k = m := by omega
      have hsz := textT_size (absK p.data.toList k) 25
      have HCUT : Hid ((textT (absK p.data.toList k) 25).extract 0 32 = digT s) := (textT_cut _).trans HD.out.symm
      clear hps hc
      generalize absK p.data.toList k = fk at hA1 hsz HCUT
      have HTX : Hid (∀ w, Calls Tryd.prog 67 #[.agg (sc fk 25)] w fun e w' => e = .returned (.string (textT fk 25)) ∧ Below w.heap.size w w') := sText_any fk
      generalize textT fk 25 = tx at hsz HCUT HTX
      have hsz' : (32 : Int) ≤ (tx.size : Int) := by omega
      have HSX : Hid (tx.size = 8 * 25) := hsz
      clear hsz
      go_wp2_with (first | (refine load_at rfl rfl rfl hA1 Tryd.underlying90 infoA' ?_) | (go_at_call 67; refine (HTX.out _).mono ?_; rintro e w2 ⟨rfl, hb2⟩))
      go_ret
      exact ⟨by rw [← HCUT.out]; rfl, hbel.trans (hb2.mono hbel.size)⟩

end Go.Proofs.YtlaoikpbgbckjaaDoor
