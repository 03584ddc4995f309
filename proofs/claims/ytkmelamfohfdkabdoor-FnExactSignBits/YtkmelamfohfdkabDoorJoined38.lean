/-
  Texts of one's own, joined.
-/
import Derived.Test.YtkmelamfohfdkabDoorJoined13
import Derived.Test.YtkmelamfohfdkabDoorJoined12
import Derived.Test.YtkmelamfohfdkabDoorRoundW
import Derived.Test.YtkmelamfohfdkabDoorSAll

/-
  The walk of the program's Digest.
-/
namespace Go.Proofs.YtkmelamfohfdkabDoor
open Go.RowKit

/-- A block of a text, as a text. -/
def blkT (s : ByteArray) (k : Nat) : ByteArray := s.extract (136 * k) (136 * k + 136)
theorem blkT_size {s : ByteArray} {k m : Nat} (h : s.size = 136 * m) (hk : k < m) : (blkT s k).size = 8 * 17 := by
  unfold blkT; rw [ByteArray.size_extract]; omega

set_option maxHeartbeats 800000 in
set_option maxRecDepth 100000 in
theorem iDig_any (s : ByteArray) (hs : s.size ≤ 2097152) (w : World) (hT : Tab w) :
    Calls Tryd.prog 61 #[.string s] w fun e w' => e = .returned (.string (digT s)) ∧ Below w.heap.size w w' := by
  have HT : Hid (Tab w) := hT
  obtain ⟨p, hp⟩ : ∃ p, p = padT s := ⟨_, rfl⟩
  obtain ⟨m, hm⟩ : ∃ m, m = blocks s := ⟨_, rfl⟩
  have hps : p.size = 136 * m := by rw [hp, hm]; exact padT_size s
  have hmb : m ≤ 15421 := by rw [hm]; unfold blocks; omega
  have HP : Hid (∀ w, Calls Tryd.prog 66 #[.string s] w fun e w' => e = .returned (.string p) ∧ Below w.heap.size w w') := by
    rw [hp]; exact iPad_any s hs
  have HD : Hid (digT s = textT (absK p.data.toList m) 4) := by rw [hp, hm]; rfl
  have HPS : Hid (p.size = 136 * m) := hps
  have hpb : (p.size : Int) ≤ 2097256 := by omega
  clear hT hp hm hps
  go_enter Tryd.func61, Tryd.ntmps61
  go_wp2_with (go_at_call 66; refine (HP.out _).mono ?_; rintro e w1 ⟨rfl, hb1⟩)
  obtain ⟨b1, HB1⟩ : ∃ b, Hid (b = w1.heap.size) := ⟨_, rfl⟩
  rw [← HB1.out]
  go_loopw [5] (fun i wr => ∃ k : Nat, i = .int .i64 ((136 * k : Nat) : Int) ∧ k ≤ m ∧ At wr b1 78 25 (absK p.data.toList k) ∧ Below w.heap.size w wr) (fun i _ => (136 * m - (intOf i).toNat))
  case atStart =>
    refine ⟨0, rfl, by omega, ?_, hb1.alloc hb1.size _⟩
    show At _ b1 78 25 zf
    exact At.new' HB1.out rfl
  case round =>
    obtain ⟨k, rfl, hk, hA1, hbel⟩ := hrel
    obtain ⟨c, hc⟩ : ∃ c, c = 136 * k := ⟨_, rfl⟩
    rw [← hc]
    by_cases hlt : k < m
    · have hps := HPS.out
      have hlt' : (c : Int) < (p.size : Int) := by omega
      have hc0 : (0 : Int) ≤ (c : Int) := by omega
      have hc1 : (c : Int) + 136 ≤ (p.size : Int) := by omega
      have hcb : (c : Int) ≤ 2097256 := by omega
      have hwr : IntKind.i64.wrap ((c : Int) + 136) = (c : Int) + 136 := IntWalk.i64_in _ (by omega)
      have hE1 : At wr.drew b1 78 25 (absK p.data.toList k) := hA1
      have hcut : ∀ wx : World, (Instr.slice 9 (.string p) (some (.int .i64 (c : Int))) (some (.int .i64 ((c : Int) + 136))) none).run Tryd.prog wx = .ok (.string (blkT p k)) wx := fun wx => by
        rw [run_slice_string wx 9 p .i64 .i64 (c : Int) ((c : Int) + 136) Tryd.underlying9 (by omega) (by omega) (by omega)]
        unfold blkT
        rw [← hc, show ((c : Int) + 136).toNat = c + 136 by omega, Int.toNat_natCast]
      have HM : Hid (∀ w, Calls Tryd.prog 67 #[.agg (sc (absK p.data.toList k) 25), .string (blkT p k)] w fun e w' => e = .returned (.agg (sc (mixK (absK p.data.toList k) (blk p.data.toList k) 17) 25)) ∧ Below w.heap.size w w') := fun w => by
        have := mixed_any (absK p.data.toList k) (blkT p k) 17 (by omega) (blkT_size hps hlt) w
        rw [show (blkT p k).data.toList = blk p.data.toList k from extract_blk p k] at this
        exact this
      have HA : Hid (∀ w, Tab w → Calls Tryd.prog 68 #[.agg (sc (mixK (absK p.data.toList k) (blk p.data.toList k) 17) 25)] w fun e w' => e = .returned (.agg (sc (absK p.data.toList (k + 1)) 25)) ∧ Below w.heap.size w w') := fun w hT => all_any _ w hT
      have HTr : Hid (Tab wr.drew) := HT.out.on hbel.drew HT.out.1
      generalize blkT p k = q at hcut HM
      generalize mixK (absK p.data.toList k) (blk p.data.toList k) 17 = g at HM HA
      have HC : Hid (c = 136 * k) := hc
      clear hc hps
      go_wp2
      refine wp_region_still_tail 6 mixesW (by kernel_rfl) ?_
      simp only [List.take_succ_cons, List.take_zero, List.drop_succ_cons, List.drop_zero]
      refine still_load rfl rfl rfl hE1 Tryd.underlying78 infoS ?_
      repeat still_step
      refine wpStill_nil ?_
      go_wp2_with fail
      refine (HM.out _).mono ?_
      rintro e w2 ⟨rfl, hb2⟩
      go_wp2_with fail
      refine (HA.out _ (HTr.out.on hb2 HTr.out.1)).mono ?_
      rintro e w3 ⟨rfl, hb3⟩
      have hb23 : Below wr.drew.heap.size wr.drew w3 := hb2.trans (hb3.mono hb2.size)
      have hF1 : At w3 b1 78 25 (absK p.data.toList k) := hE1.on hb23 hE1.lt
      have hbF : Below w.heap.size w w3 := hbel.drew.trans (hb23.mono hbel.size)
      clear hA1 hE1 hbel hb2 hb3 hb23
      go_wp2_with ((refine store_to rfl rfl rfl rfl hF1 infoS ?_; intro w6 hG1 hk6 hs6 hl6))
      go_roundw
      case rel => exact ⟨k + 1, by have := HC.out; rw [show ((136 * (k + 1) : Nat) : Int) = (c : Int) + 136 by omega], hlt, hG1, hl6 _ _ (by have := HB1.out; have := hb1.size; omega) hbF⟩
      case measure => simp [intOf]; have := HC.out; have := HPS.out; omega
    · have hps := HPS.out
      have hlt' : ¬ (c : Int) < (p.size : Int) := by omega
      obtain rfl : k = m := by omega
      clear hps hc
      go_wp2_with (first | (refine load_at rfl rfl rfl hA1 Tryd.underlying78 infoS ?_) | (go_at_call 69; refine (text_any _ 4 (by omega) _).mono ?_; rintro e w2 ⟨rfl, hb2⟩))
      go_ret
      exact ⟨by rw [HD.out]; rfl, hbel.trans (hb2.mono hbel.size)⟩

end Go.Proofs.YtkmelamfohfdkabDoor

/-
  The walk of the specification's Digest.
-/
namespace Go.Proofs.YtkmelamfohfdkabDoor
open Go.RowKit

set_option maxHeartbeats 800000 in
set_option maxRecDepth 100000 in
theorem sDig_any (s : ByteArray) (hs : s.size ≤ 2097152) (w : World) :
    Calls Tryd.prog 27 #[.string s] w fun e w' => e = .returned (.string (digT s)) ∧ Below w.heap.size w w' := by
  obtain ⟨p, hp⟩ : ∃ p, p = padT s := ⟨_, rfl⟩
  obtain ⟨m, hm⟩ : ∃ m, m = blocks s := ⟨_, rfl⟩
  have hps : p.size = 136 * m := by rw [hp, hm]; exact padT_size s
  have hmb : m ≤ 15421 := by rw [hm]; unfold blocks; omega
  have HP : Hid (∀ w, Calls Tryd.prog 42 #[.string s] w fun e w' => e = .returned (.string p) ∧ Below w.heap.size w w') := by
    rw [hp]; exact sPad_any s hs
  have HD : Hid (digT s = textT (absK p.data.toList m) 4) := by rw [hp, hm]; rfl
  have HPS : Hid (p.size = 136 * m) := hps
  have hpb : (p.size : Int) ≤ 2097256 := by omega
  clear hp hm hps
  go_enter Tryd.func27, Tryd.ntmps27
  go_wp2_with fail
  refine (HP.out _).mono ?_
  rintro e w1 ⟨rfl, hb1⟩
  have hX : At (w1.alloc (.cells (sc zf 25) 56)) w1.heap.size 56 25 zf := At.new _ _ _ _
  go_wp2_with ((refine store_to (f' := zf) rfl rfl rfl rfl hX infoA' ?_; intro w2 hA2 hk2 hs2 hl2))
  have hbel2 : Below w.heap.size w w2 := hl2 _ _ hb1.size (hb1.alloc hb1.size _)
  have HSZ : Hid (w.heap.size ≤ w1.heap.size) := hb1.size
  obtain ⟨b1, HB1⟩ : ∃ b, Hid (b = w1.heap.size) := ⟨_, rfl⟩
  rw [← HB1.out] at hA2 HSZ ⊢
  clear hX hk2 hs2 hl2 hb1
  go_loopw [5] (fun i wr => ∃ k : Nat, i = .int .i64 ((136 * k : Nat) : Int) ∧ k ≤ m ∧ At wr b1 56 25 (absK p.data.toList k) ∧ Below w.heap.size w wr) (fun i _ => (136 * m - (intOf i).toNat))
  case atStart => exact ⟨0, rfl, by omega, hA2, hbel2⟩
  case round =>
    clear hA2 hbel2
    obtain ⟨k, rfl, hk, hA1, hbel⟩ := hrel
    obtain ⟨c, hc⟩ : ∃ c, c = 136 * k := ⟨_, rfl⟩
    rw [← hc]
    by_cases hlt : k < m
    · have hps := HPS.out
      have hlt' : (c : Int) < (p.size : Int) := by omega
      have hcb : c + 136 ≤ p.size := by omega
      have HC : Hid (c = 136 * k) := hc
      have HX : Hid (mixA (absK p.data.toList k) p.data.toList c 17 = mixK (absK p.data.toList k) (blk p.data.toList k) 17) := by
        rw [hc]; exact mixA_blk _ _ _
      have HAB : Hid (allF (mixK (absK p.data.toList k) (blk p.data.toList k) 17) = absK p.data.toList (k + 1)) := rfl
      generalize mixK (absK p.data.toList k) (blk p.data.toList k) 17 = g17 at HX HAB
      have HFK : Hid (∀ W, At W b1 56 25 (absK p.data.toList (k + 1)) → At W b1 56 25 (absK p.data.toList (k + 1))) := fun _ h => h
      generalize absK p.data.toList k = fk at hA1 HX
      clear hc hps
      go_wp2
      go_loopw [6] (fun i wr => ∃ j : Nat, i = .int .i64 (j : Int) ∧ j ≤ 17 ∧ At wr b1 56 25 (mixA fk p.data.toList c j) ∧ Below w.heap.size w wr) (fun i _ => (17 - (intOf i).toNat))
      case atStart => exact ⟨0, rfl, by omega, hA1, hbel⟩
      case round =>
        clear hA1 hbel
        obtain ⟨j, rfl, hj, hA1, hbel⟩ := hrel
        by_cases hl17 : j < 17
        · have hl17' : (j : Int) < 17 := by omega
          have hj0 : (0 : Int) ≤ (j : Int) := by omega
          have hj25 : (j : Int) < 25 := by omega
          obtain ⟨d, hd⟩ : ∃ d, d = c + 8 * j := ⟨_, rfl⟩
          have hd' : (c : Int) + 8 * (j : Int) = (d : Int) := by omega
          have hw1 : IntKind.i64.wrap (8 * (j : Int)) = 8 * (j : Int) := IntWalk.i64_in _ (by omega)
          have hw2 : IntKind.i64.wrap (d : Int) = (d : Int) := IntWalk.i64_in _ (by omega)
          have HF : Hid (∀ w, Calls Tryd.prog 43 #[.string p, .int .i64 (d : Int)] w fun e w' => e = .returned (.int .u64 (wv (wordAt p.data.toList d))) ∧ w' = w) := fun w => by
            have := sWord_any p d (by omega) (by omega) w
            exact this.mono fun e w' h => ⟨h.1, h.2.symm⟩
          have hcl := hA1.cell j (by omega)
          have hxor := wv_xor
          have hD1 : At wr.drew b1 56 25 (mixA fk p.data.toList c j) := hA1
          have HJ : Hid (j < 25) := (show j < 25 by omega)
          have HW : Hid (∀ W, At W b1 56 25 (upd (mixA fk p.data.toList c j) j (mixA fk p.data.toList c j j ^^^ wordAt p.data.toList d)) → At W b1 56 25 (mixA fk p.data.toList c (j + 1))) := fun W h => by
            rw [hd] at h; exact h
          generalize wordAt p.data.toList d = x at HF HW
          generalize mixA fk p.data.toList c j = f at hcl HW hD1 hA1
          generalize f j = y at hcl HW
          clear hA1 hd
          go_wp2
          refine wp_region_still_tail 12 mixesW (by kernel_rfl) ?_
          simp only [List.take_succ_cons, List.take_zero, List.drop_succ_cons, List.drop_zero]
          repeat still_step
          still_call (HF.out _)
          repeat still_step
          refine wpStill_nil ?_
          go_wp2_with ((refine store_cell rfl rfl rfl rfl hD1 HJ.out ?_; intro w3 hG1 ho1 hl1'))
          go_roundw
          case rel => exact ⟨j + 1, by go_num, hl17, HW.out _ hG1, hl1' _ _ HSZ.out hbel.drew⟩
          case measure => simp [intOf]; omega
        · have hl17' : ¬ (j : Int) < 17 := by omega
          obtain rfl : j = 17 := by omega
          rw [HX.out] at hA1
          go_wp2_with (refine load_at rfl rfl rfl hA1 Tryd.underlying56 infoA' ?_)
          refine (sAll_any g17 _).mono ?_
          rintro e w3 ⟨rfl, hb3⟩
          rw [HAB.out]
          have hF1 : At w3 b1 56 25 g17 := hA1.on hb3 hA1.lt
          have hbF : Below w.heap.size w w3 := hbel.trans (hb3.mono hbel.size)
          clear hA1 hbel hb3
          go_wp2_with ((refine store_to rfl rfl rfl rfl hF1 infoA' ?_; intro w6 hG1 hk6 hs6 hl6))
          go_roundw
          case rel => exact ⟨k + 1, by have := HC.out; rw [show ((136 * (k + 1) : Nat) : Int) = (c : Int) + 136 by omega], hlt, HFK.out _ hG1, hl6 _ _ HSZ.out hbF⟩
          case measure => simp [intOf]; have := HC.out; have := HPS.out; omega
    · have hps := HPS.out
      have hlt' : ¬ (c : Int) < (p.size : Int) := by omega
      obtain rfl : k = m := by omega
      have hsz := textT_size (absK p.data.toList k) 25
      have HCUT : Hid ((textT (absK p.data.toList k) 25).extract 0 32 = digT s) := (textT_cut _).trans HD.out.symm
      clear hps hc
      generalize absK p.data.toList k = fk at hA1 hsz HCUT
      have HTX : Hid (∀ w, Calls Tryd.prog 45 #[.agg (sc fk 25)] w fun e w' => e = .returned (.string (textT fk 25)) ∧ Below w.heap.size w w') := sText_any fk
      generalize textT fk 25 = tx at hsz HCUT HTX
      have hsz' : (32 : Int) ≤ (tx.size : Int) := by omega
      have HSX : Hid (tx.size = 8 * 25) := hsz
      clear hsz
      go_wp2_with (first | (refine load_at rfl rfl rfl hA1 Tryd.underlying56 infoA' ?_) | (go_at_call 45; refine (HTX.out _).mono ?_; rintro e w2 ⟨rfl, hb2⟩))
      go_ret
      exact ⟨by rw [← HCUT.out]; rfl, hbel.trans (hb2.mono hbel.size)⟩

end Go.Proofs.YtkmelamfohfdkabDoor
