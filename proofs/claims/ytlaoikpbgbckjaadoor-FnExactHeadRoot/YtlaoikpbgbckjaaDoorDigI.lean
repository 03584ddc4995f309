/-
  The walk of the program's Digest.
-/
import Derived.Test.YtlaoikpbgbckjaaDoorJoined10
import Derived.Test.YtlaoikpbgbckjaaDoorMix
import Derived.Test.YtlaoikpbgbckjaaDoorRoundW
import Derived.Test.YtlaoikpbgbckjaaDoorSAll
namespace Go.Proofs.YtlaoikpbgbckjaaDoor
open Go.RowKit

/-- A block of a text, as a text. -/
def blkT (s : ByteArray) (k : Nat) : ByteArray := s.extract (136 * k) (136 * k + 136)
theorem blkT_size {s : ByteArray} {k m : Nat} (h : s.size = 136 * m) (hk : k < m) : (blkT s k).size = 8 * 17 := by
  unfold blkT; rw [ByteArray.size_extract]; omega

set_option maxHeartbeats 800000 in
set_option maxRecDepth 100000 in
theorem iDig_any (s : ByteArray) (hs : s.size ≤ 2097152) (w : World) (hT : Tab w) :
    Calls Tryd.prog 62 #[.string s] w fun e w' => e = .returned (.string (digT s)) ∧ Below w.heap.size w w' := by
  have HT : Hid (Tab w) := hT
  obtain ⟨p, hp⟩ : ∃ p, p = padT s := ⟨_, rfl⟩
  obtain ⟨m, hm⟩ : ∃ m, m = blocks s := ⟨_, rfl⟩
  have hps : p.size = 136 * m := by rw [hp, hm]; exact padT_size s
  have hmb : m ≤ 15421 := by rw [hm]; unfold blocks; omega
  have HP : Hid (∀ w, Calls Tryd.prog 70 #[.string s] w fun e w' => e = .returned (.string p) ∧ Below w.heap.size w w') := by
    rw [hp]; exact iPad_any s hs
  have HD : Hid (digT s = textT (absK p.data.toList m) 4) := by rw [hp, hm]; rfl
  have HPS : Hid (p.size = 136 * m) := hps
  have hpb : (p.size : Int) ≤ 2097256 := by omega
  clear hT hp hm hps
  go_enter Tryd.func62, Tryd.ntmps62
  go_wp2_with (go_at_call 70; refine (HP.out _).mono ?_; rintro e w1 ⟨rfl, hb1⟩)
  obtain ⟨b1, HB1⟩ : ∃ b, Hid (b = w1.heap.size) := ⟨_, rfl⟩
  rw [← HB1.out]
  go_loopw [5] (fun i wr => ∃ k : Nat, i = .int .i64 ((136 * k : Nat) : Int) ∧ k ≤ m ∧ At wr b1 97 25 (absK p.data.toList k) ∧ Below w.heap.size w wr) (fun i _ => (136 * m - (intOf i).toNat))
  case atStart =>
    refine ⟨0, rfl, by omega, ?_, hb1.alloc hb1.size _⟩
    show At _ b1 97 25 zf
    exact At.new' HB1.out rfl
  case round =>
    obtain ⟨k, rfl, hk, hA1, hbel⟩ := hrel
    obtain ⟨c, hc⟩ : ∃ c, c = 136 * k := ⟨_, rfl⟩
    rw [← hc]
    by_cases hlt : k < m
    · have hps := HPS.out
      have hlt' : (c : Int) < (p.size : Int) := by omega
      have hc0 : (0 : Int) ≤ (c : Int) := by omega
      have hc1 : (c : Int) + 136 ≤ (p.size : Int) := by omega
      have hcb : (c : Int) ≤ 2097256 := by omega
      have hwr : IntKind.i64.wrap ((c : Int) + 136) = (c : Int) + 136 := IntWalk.i64_in _ (by omega)
      have hE1 : At wr.drew b1 97 25 (absK p.data.toList k) := hA1
      have hcut : ∀ wx : World, (Instr.slice 9 (.string p) (some (.int .i64 (c : Int))) (some (.int .i64 ((c : Int) + 136))) none).run Tryd.prog wx = .ok (.string (blkT p k)) wx := fun wx => by
        rw [run_slice_string wx 9 p .i64 .i64 (c : Int) ((c : Int) + 136) Tryd.underlying9 (by omega) (by omega) (by omega)]
        unfold blkT
        rw [← hc, show ((c : Int) + 136).toNat = c + 136 by omega, Int.toNat_natCast]
      have HM : Hid (∀ w, Calls Tryd.prog 71 #[.agg (sc (absK p.data.toList k) 25), .string (blkT p k)] w fun e w' => e = .returned (.agg (sc (mixK (absK p.data.toList k) (blk p.data.toList k) 17) 25)) ∧ Below w.heap.size w w') := fun w => by
        have := mixed_any (absK p.data.toList k) (blkT p k) 17 (by omega) (blkT_size hps hlt) w
        rw [show (blkT p k).data.toList = blk p.data.toList k from extract_blk p k] at this
        exact this
      have HA : Hid (∀ w, Tab w → Calls Tryd.prog 72 #[.agg (sc (mixK (absK p.data.toList k) (blk p.data.toList k) 17) 25)] w fun e w' => e = .returned (.agg (sc (absK p.data.toList (k + 1)) 25)) ∧ Below w.heap.size w w') := fun w hT => all_any _ w hT
      have HTr : Hid (Tab wr.drew) := HT.out.on hbel.drew HT.out.1
      generalize blkT p k = q at hcut HM
      generalize mixK (absK p.data.toList k) (blk p.data.toList k) 17 = g at HM HA
      have HC : Hid (c = 136 * k) := hc
      clear hc hps
      go_wp2
      refine wp_region_still_tail 6 mixesW (by kernel_rfl) ?_
      simp only [List.take_succ_cons, List.take_zero, List.drop_succ_cons, List.drop_zero]
      refine still_load rfl rfl rfl hE1 Tryd.underlying97 infoS ?_
      repeat still_step
      refine wpStill_nil ?_
      go_wp2_with fail
      refine (HM.out _).mono ?_
      rintro e w2 ⟨rfl, hb2⟩
      go_wp2_with fail
      refine (HA.out _ (HTr.out.on hb2 HTr.out.1)).mono ?_
      rintro e w3 ⟨rfl, hb3⟩
      have hb23 : Below wr.drew.heap.size wr.drew w3 := hb2.trans (hb3.mono hb2.size)
      have hF1 : At w3 b1 97 25 (absK p.data.toList k) := hE1.on hb23 hE1.lt
      have hbF : Below w.heap.size w w3 := hbel.drew.trans (hb23.mono hbel.size)
      clear hA1 hE1 hbel hb2 hb3 hb23
      go_wp2_with ((refine store_to rfl rfl rfl rfl hF1 infoS ?_; intro w6 hG1 hk6 hs6 hl6))
      go_roundw
      case rel => exact ⟨k + 1, by have := HC.out; rw [show ((136 * (k + 1) : Nat) : Int) = (c : Int) + 136 by omega], hlt, hG1, hl6 _ _ (by have := HB1.out; have := hb1.size; omega) hbF⟩
      case measure => simp [intOf]; have := HC.out; have := HPS.out; omega
    · have hps := HPS.out
      have hlt' : ¬ (c : Int) < (p.size : Int) := by omega
      obtain rfl : k = m := by omega
      clear hps hc
      go_wp2_with (first | (refine load_at rfl rfl rfl hA1 Tryd.underlying97 infoS ?_) | (go_at_call 73; refine (text_any _ 4 (by omega) _).mono ?_; rintro e w2 ⟨rfl, hb2⟩))
      go_ret
      exact ⟨by rw [HD.out]; rfl, hbel.trans (hb2.mono hbel.size)⟩

end Go.Proofs.YtlaoikpbgbckjaaDoor
