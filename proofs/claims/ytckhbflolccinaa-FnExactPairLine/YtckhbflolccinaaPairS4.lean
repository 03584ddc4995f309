/-
  The walk of the specification's PairsRight.
  (-DROP-: what the seat lacks is left out.)
-/
import Derived.Test.YtckhbflolccinaaPairS3
namespace Go.Proofs.Ytckhbflolccinaa
open Go.RowKit

/-- Whether pairs of two lists are right. -/
def rightL (f g : Nat → Pt) (n m : Nat) : Bool := if n = m then rightN f g n else false

theorem one_dec (v : Int × Int) : decide (v = (1, 0)) = (v.1 == 1 && v.2 == 0) := by
  obtain ⟨a, b⟩ := v
  by_cases h1 : a = 1
  · by_cases h2 : b = 0
    · simp [h1, h2]
    · simp [h1, h2]
  · simp [h1]

set_option maxHeartbeats 3200000 in
set_option maxRecDepth 100000 in
theorem sPairs_any (a1 a2 : Option Addr) (n1 c1 n2 c2 : Nat) (hm1 : n1 ≤ 9223372036854775807) (hm2 : n2 ≤ 9223372036854775807) (f g : Nat → Pt) (w : World)
    (hA : PtsAt w a1 n1 w.heap.size f) (hB : PtsAt w a2 n2 w.heap.size g) :
    Calls Try.prog 23 #[.slice a1 n1 c1, .slice a2 n2 c2] w fun e w' => e = .returned (.bool (rightL f g n1 n2)) ∧ Below w.heap.size w w' := by
  have HA : Hid (PtsAt w a1 n1 w.heap.size f) := hA
  have HB : Hid (PtsAt w a2 n2 w.heap.size g) := hB
  clear hA hB
  unfold rightL
  by_cases he : n1 = n2
  · subst he
    rw [if_pos rfl]
    go_enter Try.func23, Try.ntmps23
    go_wp2
    obtain ⟨W, hW, hb, h5⟩ := box1 w 31 #[.int .i64 1, .int .i64 0]
    have H0 : Hid (Blk W w.heap.size 31 #[.int .i64 (prodN f g 0).1, .int .i64 (prodN f g 0).2] ∧ allG f g 0 = true ∧ Below w.heap.size w W) := ⟨h5, rfl, hb⟩
    rw [hW]
    clear h5 hb hW
    go_loopw [6] (fun i wr => ∃ k : Nat, i = .int .i64 (k : Int) ∧ k ≤ n1 ∧ Hid (Blk wr w.heap.size 31 #[.int .i64 (prodN f g k).1, .int .i64 (prodN f g k).2] ∧ allG f g k = true ∧ Below w.heap.size w wr)) (fun i _ => n1 - (intOf i).toNat)
    case atStart => exact ⟨0, rfl, Nat.zero_le _, H0⟩
    case round =>
      obtain ⟨k, rfl, hk, HD⟩ := hrel
      clear H0
      by_cases hlt : k < n1
      · have hlt' : (k : Int) < (n1 : Int) := by omega
        have hk0 : (0 : Int) ≤ (k : Int) := by omega
        have hB0 := HD.out.2.2
        have hsz : w.heap.size ≤ wr.heap.size := hB0.size
        obtain ⟨b, off, rfl, hb, z0, z1, z2⟩ := (HA.out.on hB0) k hlt
        obtain ⟨b', off', rfl, hb', y0, y1, y2⟩ := (HB.out.on hB0) k hlt
        have h5 := HD.out.1
        have HG : Hid (allG f g (k + 1) = (inGB (f k) && inGB (g k))) := by show (allG f g k && _) = _; rw [HD.out.2.1, Bool.true_and]
        have HG2 : Hid (allG f g (k + 1) = false → rightN f g n1 = false) := fun h => by unfold rightN; rw [allG_more f g h n1 (by omega), Bool.false_and]
        have HP2 : Hid (prodN f g (k + 1) = tm (prodN f g k) (pairS (f k) (g k))) := rfl
        have HI1 : Hid (∀ w, Calls Try.prog 48 #[pv (f k)] w fun e w' => e = .returned (.bool (inGB (f k))) ∧ Below w.heap.size w w') := sInG_any _
        have HI2 : Hid (∀ w, Calls Try.prog 48 #[pv (g k)] w fun e w' => e = .returned (.bool (inGB (g k))) ∧ Below w.heap.size w w') := sInG_any _
        have HPR : Hid (∀ w, Calls Try.prog 17 #[pv (f k), pv (g k)] w fun e w' => e = .returned (tv (pairS (f k) (g k))) ∧ Below w.heap.size w w') := sPairing_any _ _
        have HTM : Hid (∀ w, Calls Try.prog 50 #[tv (prodN f g k), tv (pairS (f k) (g k))] w fun e w' => e = .returned (tv (tm (prodN f g k) (pairS (f k) (g k)))) ∧ Below w.heap.size w w') := sMul2_any _ _
        generalize tm (prodN f g k) (pairS (f k) (g k)) = v2 at HTM HP2
        generalize prodN f g k = v at HTM h5
        generalize pairS (f k) (g k) = u at HPR HTM
        generalize inGB (f k) = ga at HI1 HG
        generalize inGB (g k) = gb at HI2 HG
        generalize f k = F at z0 z1 z2 HI1 HPR
        generalize g k = G at y0 y1 y2 HI2 HPR
        clear HD
        cases ga
        · have HF : Hid (rightN f g n1 = false) := HG2.out (by rw [HG.out]; rfl)
          go_wp2_with fail
          refine (HI1.out _).mono ?_
          rintro e w1 ⟨rfl, hb1⟩
          have hB1 : Below w.heap.size w w1 := hB0.trans (hb1.mono hsz)
          clear hb1 h5 hB0 z0 z1 z2 y0 y1 y2
          go_wp2
          go_ret
          exact ⟨by rw [HF.out]; rfl, hB1⟩
        · go_wp2_with fail
          refine (HI1.out _).mono ?_
          rintro e w1 ⟨rfl, hb1⟩
          have hB1 : Below w.heap.size w w1 := hB0.trans (hb1.mono hsz)
          have h51 := h5.on hb1 h5.lt
          have x0 := (hb1.cell (p := ⟨b, off + k * 3, none⟩) (by show b < _; omega)).trans z0
          have x1 := (hb1.cell (p := ⟨b, off + k * 3 + 1, none⟩) (by show b < _; omega)).trans z1
          have x2 := (hb1.cell (p := ⟨b, off + k * 3 + 2, none⟩) (by show b < _; omega)).trans z2
          have v0 := (hb1.cell (p := ⟨b', off' + k * 3, none⟩) (by show b' < _; omega)).trans y0
          have v1 := (hb1.cell (p := ⟨b', off' + k * 3 + 1, none⟩) (by show b' < _; omega)).trans y1
          have v2' := (hb1.cell (p := ⟨b', off' + k * 3 + 2, none⟩) (by show b' < _; omega)).trans y2
          have hsz1 : w.heap.size ≤ w1.heap.size := hB1.size
          clear hb1 h5 hB0 z0 z1 z2 y0 y1 y2 hsz
          go_wp2_with fail
          refine (HI2.out _).mono ?_
          rintro e w2 ⟨rfl, hb2⟩
          have hB2 : Below w.heap.size w w2 := hB1.trans (hb2.mono hsz1)
          have h52 := h51.on hb2 h51.lt
          have z0 := (hb2.cell (p := ⟨b, off + k * 3, none⟩) (by show b < _; omega)).trans x0
          have z1 := (hb2.cell (p := ⟨b, off + k * 3 + 1, none⟩) (by show b < _; omega)).trans x1
          have z2 := (hb2.cell (p := ⟨b, off + k * 3 + 2, none⟩) (by show b < _; omega)).trans x2
          have y0 := (hb2.cell (p := ⟨b', off' + k * 3, none⟩) (by show b' < _; omega)).trans v0
          have y1 := (hb2.cell (p := ⟨b', off' + k * 3 + 1, none⟩) (by show b' < _; omega)).trans v1
          have y2 := (hb2.cell (p := ⟨b', off' + k * 3 + 2, none⟩) (by show b' < _; omega)).trans v2'
          have hsz2 : w.heap.size ≤ w2.heap.size := hB2.size
          clear hb2 h51 hB1 x0 x1 x2 v0 v1 v2' hsz1
          cases gb
          · have HF : Hid (rightN f g n1 = false) := HG2.out (by rw [HG.out]; rfl)
            clear z0 z1 z2 y0 y1 y2 h52
            go_wp2
            go_ret
            exact ⟨by rw [HF.out]; rfl, hB2⟩
          · have HGT : Hid (allG f g (k + 1) = true) := (show allG f g (k + 1) = true by rw [HG.out]; rfl)
            have Z0 : ∀ w', Below w2.heap.size w2 w' → w'.cell? ⟨b, off + k * 3, none⟩ = some (.int .i64 F.1) := fun w' hw => (hw.cell (p := ⟨b, off + k * 3, none⟩) (by show b < _; omega)).trans z0
            have Z1 : ∀ w', Below w2.heap.size w2 w' → w'.cell? ⟨b, off + k * 3 + 1, none⟩ = some (.int .i64 F.2.1) := fun w' hw => (hw.cell (p := ⟨b, off + k * 3 + 1, none⟩) (by show b < _; omega)).trans z1
            have Z2 : ∀ w', Below w2.heap.size w2 w' → w'.cell? ⟨b, off + k * 3 + 2, none⟩ = some (.bool F.2.2) := fun w' hw => (hw.cell (p := ⟨b, off + k * 3 + 2, none⟩) (by show b < _; omega)).trans z2
            have Y0 : ∀ w', Below w2.heap.size w2 w' → w'.cell? ⟨b', off' + k * 3, none⟩ = some (.int .i64 G.1) := fun w' hw => (hw.cell (p := ⟨b', off' + k * 3, none⟩) (by show b' < _; omega)).trans y0
            have Y1 : ∀ w', Below w2.heap.size w2 w' → w'.cell? ⟨b', off' + k * 3 + 1, none⟩ = some (.int .i64 G.2.1) := fun w' hw => (hw.cell (p := ⟨b', off' + k * 3 + 1, none⟩) (by show b' < _; omega)).trans y1
            have Y2 : ∀ w', Below w2.heap.size w2 w' → w'.cell? ⟨b', off' + k * 3 + 2, none⟩ = some (.bool G.2.2) := fun w' hw => (hw.cell (p := ⟨b', off' + k * 3 + 2, none⟩) (by show b' < _; omega)).trans y2
            clear z0 z1 z2 y0 y1 y2 HA HB hb hb' HG HG2
            go_wp2
            refine wp_region_class 11 (fun wz => Below w2.heap.size w2 wz) mixes (by kernel_rfl) (Below.refl _ _).drew ?_
            simp only [List.take_succ_cons, List.take_zero, List.drop_succ_cons, List.drop_zero]
            repeat (refine cls_step rfl (fun K hK => ⟨_, (fun w' hw => by have q0 := (h52.on hw h52.lt).cell 0; have q1 := (h52.on hw h52.lt).cell 1; have z0 := Z0 w' hw; have z1 := Z1 w' hw; have z2 := Z2 w' hw; have z3 := Y0 w' hw; have z4 := Y1 w' hw; have z5 := Y2 w' hw; go_simp; exact rfl), ?_⟩); go_simp; refine hK _ ?_; clear hK K)
            refine cls_call rfl (fun K hK => ⟨_, _, _, (fun w' => by go_simp <;> first | exact rfl | exact ⟨rfl, rfl⟩), (fun w' hw => calls_below hw (HPR.out _)), ?_⟩); go_simp; refine hK _ ?_; clear hK K
            refine cls_call rfl (fun K hK => ⟨_, _, _, (fun w' => by go_simp <;> first | exact rfl | exact ⟨rfl, rfl⟩), (fun w' hw => calls_below hw (HTM.out _)), ?_⟩); go_simp; refine hK _ ?_; clear hK K
            refine wq_nil ?_
            intro w' hw
            have h53 := h52.on hw h52.lt
            have hB3 := below_then hB2 hw
            clear h52 hB2 hw
            go_wp2_with (refine store_blk (cs' := #[.int .i64 v2.1, .int .i64 v2.2]) rfl rfl rfl rfl rfl h53 infoT rfl (ones2 _ _) ?_; intro V h54 hoth hbel; have hB4 := hbel _ _ (by omega) hB3; clear hoth hbel h53 hB3)
            go_roundw
            case rel => exact ⟨k + 1, by go_num, hlt, ⟨by rw [HP2.out]; exact h54, HGT.out, hB4⟩⟩
            case measure => simp [intOf]; omega
      · have hlt' : ¬ (k : Int) < (n1 : Int) := by omega
        have HK : Hid (rightN f g n1 = decide (prodN f g k = (1, 0))) := by
          show rightN f g n1 = _
          unfold rightN
          rw [show n1 = k by omega, HD.out.2.1, Bool.true_and]
        rw [one_dec] at HK
        have h5 := HD.out.1
        have hB0 := HD.out.2.2
        clear HD HA HB
        generalize prodN f g k = v at HK h5
        obtain ⟨va, vb⟩ := v
        simp only at HK h5
        by_cases e1 : va = 1
        · subst e1
          by_cases e2 : vb = 0
          · subst e2
            have HT : Hid (rightN f g n1 = true) := (show rightN f g n1 = true by rw [HK.out]; rfl)
            go_wp2_with (refine load_blk rfl rfl rfl h5 Try.underlying31 infoT ?_)
            go_ret
            exact ⟨by rw [HT.out]; rfl, hB0⟩
          · have e2' : (vb == 0) = false := by simp [e2]
            have HT : Hid (rightN f g n1 = false) := (show rightN f g n1 = false by rw [HK.out, e2']; rfl)
            go_wp2_with (refine load_blk rfl rfl rfl h5 Try.underlying31 infoT ?_)
            go_ret
            exact ⟨by rw [HT.out]; rfl, hB0⟩
        · have e1' : (va == 1) = false := by simp [e1]
          have HT : Hid (rightN f g n1 = false) := (show rightN f g n1 = false by rw [HK.out, e1']; rfl)
          go_wp2_with (refine load_blk rfl rfl rfl h5 Try.underlying31 infoT ?_)
          go_ret
          exact ⟨by rw [HT.out]; rfl, hB0⟩
  · rw [if_neg he]
    have he' : ((n1 : Int) == (n2 : Int)) = false := by rw [beq_eq_false_iff_ne]; omega
    go_enter Try.func23, Try.ntmps23
    go_wp2
    go_ret
    exact ⟨rfl, Below.refl _ _⟩

end Go.Proofs.Ytckhbflolccinaa
