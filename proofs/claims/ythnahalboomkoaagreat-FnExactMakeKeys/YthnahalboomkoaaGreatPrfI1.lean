/-
  The walks of the program's word on the numbers of keys.
  (-DROP-: what the seat lacks is left out.)
-/
import Derived.Test.YthnahalboomkoaaGreatRwSys2
import Derived.Test.YthnahalboomkoaaGreatJoined9
import Derived.Test.YthnahalboomkoaaGreatJoined10
import Derived.Test.YthnahalboomkoaaGreatJoined6

namespace Go.Proofs.YthnahalboomkoaaGreat
open Go.RowKit

theorem scal_of {x : Int} (h0 : x ≠ 0) : scalB x = decide (x = sca x) := by
  unfold scalB
  rw [Bool.eq_iff_iff, decide_eq_true_eq, decide_eq_true_eq, sca_id]
  omega

set_option maxHeartbeats 800000 in
set_option maxRecDepth 100000 in
theorem iFactor_any (x : Int) (w : World) : Calls Tryz.prog 58 #[.int .i64 x] w fun e w' => e = .returned (.bool (scalB x)) ∧ w = w' := by
  by_cases h0 : x = 0
  · subst h0
    go_enter Tryz.func58, Tryz.ntmps58
    go_wp2
    go_ret
    exact ⟨rfl, rfl⟩
  · have HI : Hid (∀ w, Calls Tryz.prog 128 #[.int .i64 x] w fun e w' => e = .returned (.int .i64 (sca x)) ∧ w = w') := iScOf_any _
    have HE : Hid (scalB x = decide (x = sca x)) := scal_of h0
    have h1 : (x == 0) = false := by rw [beq_eq_false_iff_ne]; exact h0
    have h2 : (x != 0) = true := by rw [bne_iff_ne]; exact h0
    generalize sca x = y at HI HE
    clear h0
    by_cases hxy : x = y
    · have HX : Hid (scalB x = true) := by show _ = _; rw [HE.out, decide_eq_true hxy]
      subst hxy
      go_enter Tryz.func58, Tryz.ntmps58
      go_wp2_with (go_at_call 128; refine (HI.out _).mono ?_; rintro e w1 ⟨rfl, rfl⟩)
      go_ret
      exact ⟨by rw [HX.out]; rfl, rfl⟩
    · have HX : Hid (scalB x = false) := by show _ = _; rw [HE.out, decide_eq_false hxy]
      have hxy' : (x == y) = false := by rw [beq_eq_false_iff_ne]; exact hxy
      go_enter Tryz.func58, Tryz.ntmps58
      go_wp2_with (go_at_call 128; refine (HI.out _).mono ?_; rintro e w1 ⟨rfl, rfl⟩)
      go_ret
      exact ⟨by rw [HX.out]; rfl, rfl⟩

/-- So many of the first are scalars that are not 0. -/
def fN (l : List Int) (k : Nat) : Bool := (l.take k).all scalB
theorem fN_next (l : List Int) {k : Nat} (h : k < l.length) : fN l (k + 1) = (fN l k && scalB (l.getD k 0)) := by
  have e : l.getD k 0 = l[k] := by simp [h]
  unfold fN
  rw [List.take_succ_eq_append_getElem h, List.all_append, e]
  simp
theorem fN_false (l : List Int) {k : Nat} (h : fN l k = false) : l.all scalB = false := by
  have e : l.all scalB = (fN l k && (l.drop k).all scalB) := by
    unfold fN
    rw [← List.all_append, List.take_append_drop]
  rw [e, h]
  rfl
theorem infoTxI : (Tryz.prog.info? 31).map (·.size) = some 5 := by kernel_rfl
theorem blk_at5 {w : World} {g t : Nat} {l : List Int} (h : Blk w g t #[.int .i64 (l.getD 0 0), .int .i64 (l.getD 1 0), .int .i64 (l.getD 2 0), .int .i64 (l.getD 3 0), .int .i64 (l.getD 4 0)]) : ∀ k, k < 5 → w.cell? ⟨g, k, none⟩ = some (.int .i64 (l.getD k 0)) := fun k hk => by
  match k, hk with
  | 0, _ => exact h.cell 0
  | 1, _ => exact h.cell 1
  | 2, _ => exact h.cell 2
  | 3, _ => exact h.cell 3
  | 4, _ => exact h.cell 4

set_option maxHeartbeats 3200000 in
set_option maxRecDepth 100000 in
theorem iToxic_any (wi pu : Int) (hwf : (Lit.int .i64 wi).wf = true) (a : Option Addr) (n c : Nat) (hn : n ≤ 9223372036854775807) (ls : List (List Int)) (hz : ∀ j, (ls.getD j []).length ≤ 9223372036854775807) (ta al be ga de : Int) (w : World) (hA : NAt 3 w w.heap.size (.slice a n c) n ls) :
    Calls Tryz.prog 13 #[.agg #[.int .i64 wi, .int .i64 pu, .slice a n c], .agg #[.int .i64 ta, .int .i64 al, .int .i64 be, .int .i64 ga, .int .i64 de]] w fun e w' => e = .returned (.bool (toxB wi pu n ls ta al be ga de)) ∧ Below w.heap.size w w' := by
  obtain ⟨W, hW, hb, hs, hr⟩ := boxes1r w 26 31 #[.int .i64 wi, .int .i64 pu, .slice a n c] #[.int .i64 ta, .int .i64 al, .int .i64 be, .int .i64 ga, .int .i64 de]
  have CS : Hid (∀ V, Below w.heap.size w V → Calls Tryz.prog 57 #[.agg #[.int .i64 wi, .int .i64 pu, .slice a n c]] V fun e w' => e = .returned (.bool (sysOk wi pu n ls)) ∧ Below V.heap.size V w') := fun V hV => iSysOk_any wi pu hwf a n c hn ls hz V ((hA.on hV).wide hV.size)
  have HT : Hid (toxB wi pu n ls ta al be ga de = (sysOk wi pu n ls && ([ta, al, be, ga, de].all scalB && decide ((n : Int) < ta)))) := by
    show _ = _
    unfold toxB
    simp [Bool.and_assoc]
  have HB : Hid (Below w.heap.size w W) := hb
  clear hA hz hwf
  go_enter Tryz.func13, Tryz.ntmps13
  go_wp2_with (refine load_blk rfl rfl rfl hs Tryz.underlying26 infoSy ?_)
  clear hW
  refine (CS.out _ HB.out).mono ?_
  rintro e w1 ⟨rfl, hb1⟩
  have hs1 := hs.on hb1 hs.lt
  have hr1 := hr.on hb1 hr.lt
  have HB1 : Hid (Below w.heap.size w w1) := HB.out.trans (hb1.mono HB.out.size)
  have q0 : w1.cell? ⟨w.heap.size + 1, 0, none⟩ = some (.int .i64 ta) := hr1.cell 0
  have q1 : w1.cell? ⟨w.heap.size + 1, 1, none⟩ = some (.int .i64 al) := hr1.cell 1
  have q2 : w1.cell? ⟨w.heap.size + 1, 2, none⟩ = some (.int .i64 be) := hr1.cell 2
  have q3 : w1.cell? ⟨w.heap.size + 1, 3, none⟩ = some (.int .i64 ga) := hr1.cell 3
  have q4 : w1.cell? ⟨w.heap.size + 1, 4, none⟩ = some (.int .i64 de) := hr1.cell 4
  have qs : w1.cell? ⟨w.heap.size, 2, none⟩ = some (.slice a n c) := hs1.cell 2
  clear hb1 hs hr hs1 hr1 CS HB
  cases h0 : sysOk wi pu n ls
  · have HE : Hid (toxB wi pu n ls ta al be ga de = false) := by show _ = _; rw [HT.out, h0]; rfl
    go_wp2
    go_ret
    exact ⟨by rw [HE.out]; rfl, HB1.out⟩
  · rw [h0, Bool.true_and] at HT
    by_cases hta : ta ≤ (n : Int)
    · have HE : Hid (toxB wi pu n ls ta al be ga de = false) := by show _ = _; rw [HT.out, decide_eq_false (show ¬ (n : Int) < ta by omega), Bool.and_false]
      go_wp2
      go_ret
      exact ⟨by rw [HE.out]; rfl, HB1.out⟩
    · rw [decide_eq_true (show (n : Int) < ta by omega), Bool.and_true] at HT
      obtain ⟨l, hl⟩ : ∃ l : List Int, l = [ta, al, be, ga, de] := ⟨_, rfl⟩
      have HL : Hid (l.length = 5) := by show _ = _; rw [hl]; rfl
      obtain ⟨V0, hV0, hb0, hs0⟩ := box1 w1 3 #[.int .i64 ta, .int .i64 al, .int .i64 be, .int .i64 ga, .int .i64 de]
      have HC : Hid (∀ k, k < 5 → V0.cell? ⟨w1.heap.size, k, none⟩ = some (.int .i64 (l.getD k 0))) := blk_at5 (by rw [hl]; exact hs0)
      rw [← hl] at HT
      have HBV : Hid (Below w.heap.size w V0) := HB1.out.trans (hb0.mono HB1.out.size)
      have HF : Hid (∀ x w, Calls Tryz.prog 58 #[.int .i64 x] w fun e w' => e = .returned (.bool (scalB x)) ∧ w = w') := iFactor_any
      clear hl hs0 hb0
      go_wp2
      clear q0 q1 q2 q3 q4 qs hV0
      go_loopw [30] (fun i wr => ∃ k : Nat, i = .int .i64 (k : Int) ∧ k ≤ 5 ∧ Hid (fN l k = true) ∧ V0 = wr) (fun i _ => 5 - (intOf i).toNat)
      case atStart => exact ⟨0, rfl, Nat.zero_le _, rfl, rfl⟩
      case round =>
        obtain ⟨k, rfl, hk, HS, rfl⟩ := hrel
        by_cases hlt : k < 5
        · have hlt' : (k : Int) < 5 := by omega
          have hk0 : (0 : Int) ≤ (k : Int) := by omega
          have hz := HC.out k hlt
          have HX : Hid (fN l (k + 1) = scalB (l.getD k 0)) := by show _ = _; rw [fN_next l (by rw [HL.out]; exact hlt), HS.out, Bool.true_and]
          have HI : Hid (∀ w, Calls Tryz.prog 58 #[.int .i64 (l.getD k 0)] w fun e w' => e = .returned (.bool (scalB (l.getD k 0))) ∧ w = w') := HF.out _
          generalize scalB (l.getD k 0) = b at HX HI
          generalize l.getD k 0 = x at hz HI
          cases b
          · have HE : Hid (toxB wi pu n ls ta al be ga de = false) := by show _ = _; rw [HT.out]; exact fN_false l HX.out
            go_wp2_with (go_at_call 58; refine (HI.out _).mono ?_; rintro e w2 ⟨rfl, rfl⟩)
            go_ret
            exact ⟨by rw [HE.out]; rfl, HBV.out⟩
          · go_wp2_with (go_at_call 58; refine (HI.out _).mono ?_; rintro e w2 ⟨rfl, rfl⟩)
            go_roundw
            case rel => exact ⟨k + 1, by go_num, hlt, HX, by trivial⟩
            case measure => simp [intOf]; omega
        · have hlt' : ¬ (k : Int) < 5 := by omega
          have HE : Hid (toxB wi pu n ls ta al be ga de = true) := by
            show _ = _
            have h := HS.out
            unfold fN at h
            rw [show k = 5 by omega, ← HL.out, List.take_length] at h
            rw [HT.out, h]
          go_wp2
          go_ret
          exact ⟨by rw [HE.out]; rfl, HBV.out⟩

end Go.Proofs.YthnahalboomkoaaGreat
