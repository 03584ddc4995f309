/-
  Texts of one's own, joined.
-/
import Derived.Test.YtckhbflolccinaaPairI4
import Derived.Test.YtckhbflolccinaaPairS4
import Derived.Test.YtckhbflolccinaaJoined50
import Derived.OpenShut

/-
  The walks of the program's pairs: many pairs.
  (-DROP-: what the seat lacks is left out.)
-/
namespace Go.Proofs.Ytckhbflolccinaa
open Go.RowKit

/-- Whether the first n are in the group. -/
def allI (f : Nat → Pt) : Nat → Bool
  | 0 => true
  | n + 1 => allI f n && inGB (f n)
theorem allI_more (f : Nat → Pt) {k : Nat} (h : allI f k = false) : ∀ n, k ≤ n → allI f n = false
  | 0, hk => by rw [show (0 : Nat) = k by omega]; exact h
  | n + 1, hk => by
    by_cases e : k = n + 1
    · rw [← e]; exact h
    · show (allI f n && _) = false
      rw [allI_more f h n (by omega), Bool.false_and]
theorem allG_eq (f g : Nat → Pt) : ∀ n, allG f g n = (allI f n && allI g n)
  | 0 => rfl
  | n + 1 => by
    show (allG f g n && (inGB (f n) && inGB (g n))) = ((allI f n && inGB (f n)) && (allI g n && inGB (g n)))
    rw [allG_eq f g n]
    cases allI f n <;> cases allI g n <;> cases inGB (f n) <;> cases inGB (g n) <;> rfl

set_option maxHeartbeats 1600000 in
set_option maxRecDepth 100000 in
theorem allIn_any (a : Option Addr) (n c : Nat) (hm : n ≤ 9223372036854775807) (f : Nat → Pt) (w : World) (hA : PtsAt w a n w.heap.size f) :
    Calls Try.prog 56 #[.slice a n c] w fun e w' => e = .returned (.bool (allI f n)) ∧ Below w.heap.size w w' := by
  have HA : Hid (PtsAt w a n w.heap.size f) := hA
  clear hA
  go_enter Try.func56, Try.ntmps56
  go_wp2
  have H0 : Hid (allI f 0 = true ∧ Below w.heap.size w w) := ⟨rfl, Below.refl _ _⟩
  go_loopw [7] (fun i wr => ∃ k : Nat, i = .int .i64 (k : Int) ∧ k ≤ n ∧ Hid (allI f k = true ∧ Below w.heap.size w wr)) (fun i _ => n - (intOf i).toNat)
  case atStart => exact ⟨0, rfl, Nat.zero_le _, H0⟩
  case round =>
    obtain ⟨k, rfl, hk, HD⟩ := hrel
    clear H0
    by_cases hlt : k < n
    · have hlt' : (k : Int) < (n : Int) := by omega
      have hk0 : (0 : Int) ≤ (k : Int) := by omega
      have hB0 := HD.out.2
      obtain ⟨b, off, rfl, hb, z0, z1, z2⟩ := (HA.out.on hB0) k hlt
      have HG : Hid (allI f (k + 1) = inGB (f k)) := by show (allI f k && _) = _; rw [HD.out.1, Bool.true_and]
      have HG2 : Hid (allI f (k + 1) = false → allI f n = false) := fun h => allI_more f h n (by omega)
      have HI : Hid (∀ w, Calls Try.prog 38 #[pv (f k)] w fun e w' => e = .returned (.bool (inGB (f k))) ∧ Below w.heap.size w w') := iInG_any _
      generalize inGB (f k) = ga at HI HG
      generalize f k = F at z0 z1 z2 HI
      obtain ⟨x, y, z⟩ := F
      simp only at z0 z1 z2
      unfold pv at HI
      simp only at HI
      clear HD
      go_wp2_with fail
      obtain ⟨V, hV, hbV, h5⟩ := box1 wr 25 #[.int .i64 x, .int .i64 y, .bool z]
      rw [hV]
      refine (HI.out _).mono ?_
      rintro e w1 ⟨rfl, hb1⟩
      have hB1 : Below w.heap.size w w1 := hB0.trans ((below_then hbV hb1).mono hB0.size)
      clear hb1 hbV hV h5 hB0 z0 z1 z2 HI
      cases ga
      · have HF : Hid (allI f n = false) := HG2.out HG.out
        go_wp2
        go_ret
        exact ⟨by rw [HF.out]; rfl, hB1⟩
      · go_wp2
        go_roundw
        case rel => exact ⟨k + 1, by go_num, hlt, ⟨HG.out, hB1⟩⟩
        case measure => simp [intOf]; omega
    · have hlt' : ¬ (k : Int) < (n : Int) := by omega
      have HF : Hid (allI f n = true) := by
        show allI f n = true
        rw [show n = k by omega]; exact HD.out.1
      have hB0 := HD.out.2
      clear HD HA
      go_wp2
      go_ret
      exact ⟨by rw [HF.out]; rfl, hB0⟩

set_option maxHeartbeats 3200000 in
set_option maxRecDepth 100000 in
theorem iPairs_any (a1 a2 : Option Addr) (n1 c1 n2 c2 : Nat) (hm1 : n1 ≤ 9223372036854775807) (hm2 : n2 ≤ 9223372036854775807) (f g : Nat → Pt) (w : World)
    (hA : PtsAt w a1 n1 w.heap.size f) (hB : PtsAt w a2 n2 w.heap.size g) :
    Calls Try.prog 21 #[.slice a1 n1 c1, .slice a2 n2 c2] w fun e w' => e = .returned (.bool (rightL f g n1 n2)) ∧ Below w.heap.size w w' := by
  have HA : Hid (PtsAt w a1 n1 w.heap.size f) := hA
  have HB : Hid (PtsAt w a2 n2 w.heap.size g) := hB
  clear hA hB
  unfold rightL
  by_cases he : n1 = n2
  · subst he
    rw [if_pos rfl]
    have H1 : Hid (Calls Try.prog 56 #[.slice a1 n1 c1] w fun e w' => e = .returned (.bool (allI f n1)) ∧ Below w.heap.size w w') := allIn_any a1 n1 c1 hm1 f w HA.out
    have H2 : Hid (∀ w1, Below w.heap.size w w1 → Calls Try.prog 56 #[.slice a2 n1 c2] w1 fun e w' => e = .returned (.bool (allI g n1)) ∧ Below w1.heap.size w1 w') := fun w1 hb => allIn_any a2 n1 c2 hm1 g w1 ((HB.out.on hb).wide hb.size)
    have HR : Hid (rightN f g n1 = ((allI f n1 && allI g n1) && decide (prodN f g n1 = (1, 0)))) := by
      show rightN f g n1 = _
      unfold rightN
      rw [allG_eq]
    generalize allI f n1 = ga at H1 HR
    generalize allI g n1 = gb at H2 HR
    cases ga
    · have HF : Hid (rightN f g n1 = false) := HR.out
      go_enter Try.func21, Try.ntmps21
      go_wp2_with fail
      refine H1.out.mono ?_
      rintro e w1 ⟨rfl, hb1⟩
      go_wp2
      go_ret
      exact ⟨by rw [HF.out]; rfl, hb1⟩
    · cases gb
      · have HF : Hid (rightN f g n1 = false) := HR.out
        go_enter Try.func21, Try.ntmps21
        go_wp2_with fail
        refine H1.out.mono ?_
        rintro e w1 ⟨rfl, hb1⟩
        have H3 := H2.out w1 hb1
        have H4 : Hid (Calls Try.prog 56 #[.slice a2 n1 c2] w1 fun e w' => e = .returned (.bool false) ∧ Below w1.heap.size w1 w') := H3
        clear H3 H2
        go_wp2_with fail
        refine H4.out.mono ?_
        rintro e w2 ⟨rfl, hb2⟩
        have hb3 := below_then hb1 hb2
        clear hb1 hb2
        go_wp2
        go_ret
        exact ⟨by rw [HF.out]; rfl, hb3⟩
      · have HF : Hid (rightN f g n1 = decide (prodN f g n1 = (1, 0))) := HR.out
        clear HR
        go_enter Try.func21, Try.ntmps21
        go_wp2_with fail
        refine H1.out.mono ?_
        rintro e w1 ⟨rfl, hb1⟩
        have H3 := H2.out w1 hb1
        have H4 : Hid (Calls Try.prog 56 #[.slice a2 n1 c2] w1 fun e w' => e = .returned (.bool true) ∧ Below w1.heap.size w1 w') := H3
        clear H3 H2 H1
        go_wp2_with fail
        refine H4.out.mono ?_
        rintro e w2 ⟨rfl, hb2⟩
        have hb3 := below_then hb1 hb2
        clear hb1 hb2 H4
        have hG : w.heap.size ≤ w2.heap.size := hb3.size
        go_wp2
        obtain ⟨W, hW, hb, h5⟩ := box1 w2 31 #[.int .i64 1, .int .i64 0]
        have H0 : Hid (Blk W w2.heap.size 31 #[.int .i64 (prodN f g 0).1, .int .i64 (prodN f g 0).2] ∧ Below w.heap.size w W) := ⟨h5, below_then hb3 hb⟩
        rw [hW]
        clear h5 hb hb3 hW
        go_loopw [25] (fun i wr => ∃ k : Nat, i = .int .i64 (k : Int) ∧ k ≤ n1 ∧ Hid (Blk wr w2.heap.size 31 #[.int .i64 (prodN f g k).1, .int .i64 (prodN f g k).2] ∧ Below w.heap.size w wr)) (fun i _ => n1 - (intOf i).toNat)
        case atStart => exact ⟨0, rfl, Nat.zero_le _, H0⟩
        case round =>
          obtain ⟨k, rfl, hk, HD⟩ := hrel
          clear H0
          by_cases hlt : k < n1
          · have hlt' : (k : Int) < (n1 : Int) := by omega
            have hk0 : (0 : Int) ≤ (k : Int) := by omega
            have hB0 := HD.out.2
            have hsz : w.heap.size ≤ wr.heap.size := hB0.size
            obtain ⟨b, off, rfl, hb, z0, z1, z2⟩ := (HA.out.on hB0) k hlt
            obtain ⟨b', off', rfl, hb', y0, y1, y2⟩ := (HB.out.on hB0) k hlt
            have h5 := HD.out.1
            have HP2 : Hid (prodN f g (k + 1) = tm (prodN f g k) (pairS (f k) (g k))) := rfl
            have HPR : Hid (∀ w, Calls Try.prog 12 #[pv (f k), pv (g k)] w fun e w' => e = .returned (tv (pairS (f k) (g k))) ∧ Below w.heap.size w w') := iPairing_any _ _
            have HTM : Hid (∀ w, Calls Try.prog 16 #[tv (prodN f g k), tv (pairS (f k) (g k))] w fun e w' => e = .returned (tv (tm (prodN f g k) (pairS (f k) (g k)))) ∧ Below w.heap.size w w') := iMul2_any _ _
            generalize tm (prodN f g k) (pairS (f k) (g k)) = v2 at HTM HP2
            generalize prodN f g k = v at HTM h5
            generalize pairS (f k) (g k) = u at HPR HTM
            generalize f k = F at z0 z1 z2 HPR
            generalize g k = G at y0 y1 y2 HPR
            have Z0 : ∀ w', Below wr.heap.size wr w' → w'.cell? ⟨b, off + k * 3, none⟩ = some (.int .i64 F.1) := fun w' hw => (hw.cell (p := ⟨b, off + k * 3, none⟩) (by show b < _; omega)).trans z0
            have Z1 : ∀ w', Below wr.heap.size wr w' → w'.cell? ⟨b, off + k * 3 + 1, none⟩ = some (.int .i64 F.2.1) := fun w' hw => (hw.cell (p := ⟨b, off + k * 3 + 1, none⟩) (by show b < _; omega)).trans z1
            have Z2 : ∀ w', Below wr.heap.size wr w' → w'.cell? ⟨b, off + k * 3 + 2, none⟩ = some (.bool F.2.2) := fun w' hw => (hw.cell (p := ⟨b, off + k * 3 + 2, none⟩) (by show b < _; omega)).trans z2
            have Y0 : ∀ w', Below wr.heap.size wr w' → w'.cell? ⟨b', off' + k * 3, none⟩ = some (.int .i64 G.1) := fun w' hw => (hw.cell (p := ⟨b', off' + k * 3, none⟩) (by show b' < _; omega)).trans y0
            have Y1 : ∀ w', Below wr.heap.size wr w' → w'.cell? ⟨b', off' + k * 3 + 1, none⟩ = some (.int .i64 G.2.1) := fun w' hw => (hw.cell (p := ⟨b', off' + k * 3 + 1, none⟩) (by show b' < _; omega)).trans y1
            have Y2 : ∀ w', Below wr.heap.size wr w' → w'.cell? ⟨b', off' + k * 3 + 2, none⟩ = some (.bool G.2.2) := fun w' hw => (hw.cell (p := ⟨b', off' + k * 3 + 2, none⟩) (by show b' < _; omega)).trans y2
            clear z0 z1 z2 y0 y1 y2 HA HB hb hb' HD
            go_wp2
            refine wp_region_class 11 (fun wz => Below wr.heap.size wr wz) mixes (by kernel_rfl) (Below.refl _ _).drew ?_
            simp only [List.take_succ_cons, List.take_zero, List.drop_succ_cons, List.drop_zero]
            repeat (refine cls_step rfl (fun K hK => ⟨_, (fun w' hw => by have q0 := (h5.on hw h5.lt).cell 0; have q1 := (h5.on hw h5.lt).cell 1; have z0 := Z0 w' hw; have z1 := Z1 w' hw; have z2 := Z2 w' hw; have z3 := Y0 w' hw; have z4 := Y1 w' hw; have z5 := Y2 w' hw; go_simp; exact rfl), ?_⟩); go_simp; refine hK _ ?_; clear hK K)
            refine cls_call rfl (fun K hK => ⟨_, _, _, (fun w' => by go_simp <;> first | exact rfl | exact ⟨rfl, rfl⟩), (fun w' hw => calls_below hw (HPR.out _)), ?_⟩); go_simp; refine hK _ ?_; clear hK K
            refine cls_call rfl (fun K hK => ⟨_, _, _, (fun w' => by go_simp <;> first | exact rfl | exact ⟨rfl, rfl⟩), (fun w' hw => calls_below hw (HTM.out _)), ?_⟩); go_simp; refine hK _ ?_; clear hK K
            refine wq_nil ?_
            intro w' hw
            have h53 := h5.on hw h5.lt
            have hB3 := below_then hB0 hw
            clear h5 hB0 hw
            go_wp2_with (refine store_blk (cs' := #[.int .i64 v2.1, .int .i64 v2.2]) rfl rfl rfl rfl rfl h53 infoT rfl (ones2 _ _) ?_; intro V h54 hoth hbel; have hB4 := hbel _ _ (by omega) hB3; clear hoth hbel h53 hB3)
            go_roundw
            case rel => exact ⟨k + 1, by go_num, hlt, ⟨by rw [HP2.out]; exact h54, hB4⟩⟩
            case measure => simp [intOf]; omega
          · have hlt' : ¬ (k : Int) < (n1 : Int) := by omega
            have HK : Hid (rightN f g n1 = decide (prodN f g k = (1, 0))) := by
              show rightN f g n1 = _
              rw [HF.out, show n1 = k by omega]
            rw [one_dec] at HK
            have h5 := HD.out.1
            have hB0 := HD.out.2
            clear HD HA HB HF
            generalize prodN f g k = v at HK h5
            obtain ⟨va, vb⟩ := v
            simp only at HK h5
            by_cases e1 : va = 1
            · subst e1
              by_cases e2 : vb = 0
              · subst e2
                have HT : Hid (rightN f g n1 = true) := (show rightN f g n1 = true by rw [HK.out]; rfl)
                go_wp2_with (refine load_blk rfl rfl rfl h5 Try.underlying31 infoT ?_)
                go_ret
                exact ⟨by rw [HT.out]; rfl, hB0⟩
              · have e2' : (vb == 0) = false := by simp [e2]
                have HT : Hid (rightN f g n1 = false) := (show rightN f g n1 = false by rw [HK.out, e2']; rfl)
                go_wp2_with (refine load_blk rfl rfl rfl h5 Try.underlying31 infoT ?_)
                go_ret
                exact ⟨by rw [HT.out]; rfl, hB0⟩
            · have e1' : (va == 1) = false := by simp [e1]
              have HT : Hid (rightN f g n1 = false) := (show rightN f g n1 = false by rw [HK.out, e1']; rfl)
              go_wp2_with (refine load_blk rfl rfl rfl h5 Try.underlying31 infoT ?_)
              go_ret
              exact ⟨by rw [HT.out]; rfl, hB0⟩
  · rw [if_neg he]
    have he' : ((n1 : Int) == (n2 : Int)) = false := by rw [beq_eq_false_iff_ne]; omega
    go_enter Try.func21, Try.ntmps21
    go_wp2
    go_ret
    exact ⟨rfl, Below.refl _ _⟩

end Go.Proofs.Ytckhbflolccinaa

/-
  The walks of the laws on the functions of points.
  (-DROP-: what the seat lacks is left out.)
-/
namespace Go.Proofs.Ytckhbflolccinaa
open Go.RowKit Go.ChangeShapes Go.WideShapes

theorem infoLP : (Try.prog.info? 46).map (·.size) = some 3 := by kernel_rfl

set_option maxHeartbeats 800000 in
set_option maxRecDepth 100000 in
theorem toPoint_any (P : Pt) (w : World) :
    Calls Try.prog 29 #[pv P] w fun e w' => e = .returned (pv P) ∧ Below w.heap.size w w' := by
  go_enter Try.func29, Try.ntmps29
  go_wp2
  obtain ⟨W, hW, hb, hx, hr, hv⟩ := boxes2r w 46 25 25 #[.int .i64 P.1, .int .i64 P.2.1, .bool P.2.2] #[.int .i64 P.1, .int .i64 P.2.1, .bool P.2.2] #[.int .i64 P.1, .int .i64 P.2.1, .bool P.2.2]
  rw [hW]
  refine bodyPost_ret_by (result_blk rfl rfl hr Try.underlying25 infoP) rfl ⟨rfl, hb⟩

set_option maxHeartbeats 800000 in
set_option maxRecDepth 100000 in
theorem eqPoint_same (P : Pt) (w : World) :
    Calls Try.prog 65 #[pv P, pv P] w fun e w' => e = .returned (.bool true) ∧ Below w.heap.size w w' := by
  go_enter Try.func65, Try.ntmps65
  go_wp2
  go_ret
  exact ⟨rfl, ((Below.refl _ _).alloc (Nat.le_refl _) _).alloc (by simp) _⟩

end Go.Proofs.Ytckhbflolccinaa
