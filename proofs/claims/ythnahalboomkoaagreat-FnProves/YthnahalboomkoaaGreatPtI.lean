/-
  The walk of the program's ReadPoint.
  (-DROP-: what the seat lacks is left out.)
-/
import Derived.Test.YthnahalboomkoaaGreatJoined5
import Derived.Test.YthnahalboomkoaaGreatJoined26
import Derived.Test.YthnahalboomkoaaGreatJoined6

namespace Go.Proofs.YthnahalboomkoaaGreat
open Go.RowKit

/-- A text of three bytes that is a point's: it is read so. -/
theorem rd_hit {t : ByteArray} {P : Pt} (hs : t.size = 3) (h : ptText P = t) : rdPt t = (P, true) := by
  by_cases hp : pOkB P = true
  · rw [← h]; exact rdPt_back (pokB.1 hp)
  · exfalso
    have e : ptText P = ⟨#[]⟩ := by
      unfold ptText ptBytes
      rw [if_neg hp]
    rw [← h, e] at hs
    cases hs

/-- The three points that a text can be of. -/
def cand (x v : Int) : Nat → Pt
  | 0 => (x, v, false)
  | 1 => (x, fpSub 0 v, false)
  | _ => pZ

theorem rd_miss {a b c : UInt8} {x : Int} (hx : (a.toNat : Int) * 256 + b.toNat - 1 = x) (h : ∀ j, j < 3 → ptText (cand x (rootV (rhs (fp x))) j) ≠ ⟨#[a, b, c]⟩) : rdPt ⟨#[a, b, c]⟩ = ((0, 0, false), false) := by
  have h0 : ptText (x, rootV (rhs (fp x)), false) ≠ ⟨#[a, b, c]⟩ := h 0 (by decide)
  have h1 : ptText (x, fpSub 0 (rootV (rhs (fp x))), false) ≠ ⟨#[a, b, c]⟩ := h 1 (by decide)
  have h2 : ptText pZ ≠ ⟨#[a, b, c]⟩ := h 2 (by decide)
  show rd3 a b c = _
  unfold rd3
  rw [hx]
  split
  · rename_i e
    obtain ⟨rfl, rfl, rfl⟩ := e
    exact absurd rfl h2
  · split
    · rename_i e
      have hf : fp x = x := fp_small (fi_ok e.1).1 (fi_ok e.1).2
      rw [hf] at h0 h1
      split
      · split
        · rename_i e2
          exfalso
          unfold rdY at e2
          split at e2
          · exact h0 e2
          · exact h1 e2
        · rfl
      · rfl
    · rfl

set_option maxHeartbeats 1600000 in
set_option maxRecDepth 100000 in
theorem iRead_any (t : ByteArray) (hm : t.size ≤ 9223372036854775807) (w : World) :
    Calls Tryz.prog 64 #[.string t] w fun e w' => e = .returned (rv (rdPt t)) ∧ Below w.heap.size w w' := by
  by_cases hs : t.size = 3
  · obtain ⟨a, b, c, rfl⟩ := bytes3 hs
    have HH : Hid (∀ F, ptText F = ⟨#[a, b, c]⟩ → rdPt ⟨#[a, b, c]⟩ = (F, true)) := fun F h => rd_hit hs h
    clear hs hm
    obtain ⟨A, hA⟩ : ∃ A : Nat, A = a.toNat := ⟨_, rfl⟩
    obtain ⟨B, hB⟩ : ∃ B : Nat, B = b.toNat := ⟨_, rfl⟩
    have hAl : A < 256 := by rw [hA]; exact a.toNat_lt
    have hBl : B < 256 := by rw [hB]; exact b.toNat_lt
    obtain ⟨x, hx⟩ : ∃ x : Int, x = (A : Int) * 256 + (B : Int) - 1 := ⟨_, rfl⟩
    have HM : Hid ((∀ j, j < 3 → ptText (cand x (rootV (rhs (fp x))) j) ≠ ⟨#[a, b, c]⟩) → rdPt ⟨#[a, b, c]⟩ = ((0, 0, false), false)) := fun h => rd_miss (by rw [hx, hA, hB]) h
    have hA' := hA.symm
    have hB' := hB.symm
    clear hA hB
    generalize rdPt ⟨#[a, b, c]⟩ = RD at HH HM ⊢
    have hxl : -1 ≤ x ∧ x ≤ 65535 := by omega
    have hw1 : IntKind.i64.wrap ((A : Int) * 256) = (A : Int) * 256 := IntWalk.i64_in _ (by omega)
    have hw2 : IntKind.i64.wrap ((A : Int) * 256 + (B : Int)) = (A : Int) * 256 + (B : Int) := IntWalk.i64_in _ (by omega)
    have hw3 : IntKind.i64.wrap ((A : Int) * 256 + (B : Int) - 1) = x := by rw [IntWalk.i64_in _ (by omega), hx]
    have hwx : IntKind.i64.wrap x = x := IntWalk.i64_in _ (by omega)
    have hwA : IntKind.i64.wrap (A : Int) = (A : Int) := IntWalk.i64_in _ (by omega)
    have hwB : IntKind.i64.wrap (B : Int) = (B : Int) := IntWalk.i64_in _ (by omega)
    have at0 : ((⟨#[a, b, c]⟩ : ByteArray)[0]'(show 0 < 3 by decide)).toNat = A := hA'
    have at1 : ((⟨#[a, b, c]⟩ : ByteArray)[1]'(show 1 < 3 by decide)).toNat = B := hB'
    have hx' := hx.symm
    clear hx
    have HC : Hid (∀ w, Calls Tryz.prog 138 #[.int .i64 (fp x)] w fun e w' => e = .returned (.int .i64 (rhs (fp x))) ∧ w = w') := fun w => curveAt_any (fi_fp x) w
    have HRT : Hid (∀ w, Calls Tryz.prog 140 #[.int .i64 (rhs (fp x))] w fun e w' => e = .returned (.tuple #[.int .i64 (rootV (rhs (fp x))), .bool (rootB (rhs (fp x)))]) ∧ w = w') := fun w => root_any (rhs (fp x)) (fi_rhs _).1 (fi_rhs _).2 w
    have HF : Hid (∀ w, Calls Tryz.prog 139 #[.int .i64 x] w fun e w' => e = .returned (.int .i64 (fp x)) ∧ w = w') := fun w => fieldOf_any x w
    generalize rootV (rhs (fp x)) = v at HRT HM
    generalize rootB (rhs (fp x)) = q at HRT
    generalize rhs (fp x) = rr at HC HRT
    generalize fp x = fx at HC HF
    have HN : Hid (∀ w, Calls Tryz.prog 55 #[.agg #[.int .i64 x, .int .i64 v, .bool false]] w fun e w' => e = .returned (.agg #[.int .i64 x, .int .i64 (fpSub 0 v), .bool false]) ∧ Below w.heap.size w w') := iNeg_any (x, v, false)
    have HC0 : Hid (cand x v 0 = (x, v, false)) := rfl
    have HC1 : Hid (cand x v 1 = (x, fpSub 0 v, false)) := rfl
    have HC2 : Hid (cand x v 2 = pZ) := rfl
    generalize fpSub 0 v = v2 at HN HC1
    go_enter Tryz.func64, Tryz.ntmps64
    go_wp2_with fail
    obtain ⟨W, hW, hb, hr⟩ := box1 w 35 #[.int .i64 0, .int .i64 0, .bool false]
    rw [hW]
    clear hW
    refine wp_region_class 9 (fun wz => Below W.heap.size W wz) mixes (by kernel_rfl) (Below.refl _ _).drew ?_
    simp only [List.take_succ_cons, List.take_zero, List.drop_succ_cons, List.drop_zero]
    repeat (refine cls_step rfl (fun K hK => ⟨_, (fun w' hw => by go_simp; exact rfl), ?_⟩); go_simp; refine hK _ ?_; clear hK K)
    refine wq_nil ?_
    intro w' hw
    have hr1 := hr.on hw hr.lt
    have hB1 := below_then hb hw
    have hl1 : w.heap.size < w'.heap.size := hr1.lt
    clear hr hb hw
    go_wp2_with fail
    refine (HF.out _).mono ?_
    rintro e w1 ⟨rfl, rfl⟩
    go_wp2_with fail
    refine (HC.out _).mono ?_
    rintro e w1 ⟨rfl, rfl⟩
    go_wp2_with fail
    refine (HRT.out _).mono ?_
    rintro e w1 ⟨rfl, rfl⟩
    clear HF HC HRT
    go_wp2_with fail
    obtain ⟨W2, hW2, hb2, h7⟩ := box1 w' 35 #[.int .i64 x, .int .i64 v, .bool false]
    rw [hW2]
    have hr2 := hr1.on hb2 hr1.lt
    have hB2 := below_then hB1 hb2
    clear hr1 hB1 hb2 hW2
    have h7d := h7.drew
    refine wp_region_ord [(0, false), (1, false), (3, false), (6, false), (2, true), (4, true), (5, true)] (fun w'' => Blk w'' w'.heap.size 35 #[.int .i64 x, .int .i64 v, .bool false]) mixes (by kernel_rfl) h7d ?_
    repeat (refine ord_float rfl rfl (fun K hK => ⟨_, (fun w' hw => by have q0 := hw.cell 0; have q1 :=  hw.cell 1; have q2 :=  hw.cell 2; go_simp; exact rfl), ?_⟩); go_simp; refine hK _ ?_; clear hK K)
    refine ord_call rfl rfl (fun K hK => ⟨_, _, (by go_simp <;> first | exact rfl | exact ⟨rfl, rfl⟩), ?_⟩)
    refine (HN.out _).mono ?_
    rintro e w4 ⟨rfl, hb4⟩
    have h74 := h7d.on hb4 h7d.lt
    have hr4 := hr2.on (w := W2.drew) hb4 hr2.lt
    have hB4 := below_then hB2 (Below.trans (Below.refl _ _).drew hb4)
    clear hb4 h7 h7d hr2 hB2
    refine ⟨_, rfl, h74, ?_⟩
    go_simp
    refine hK _ _ ?_
    clear hK K
    refine ord_op rfl rfl (fun K hK => ⟨_, _, (by go_simp <;> first | exact ⟨rfl, rfl⟩ | exact rfl), h74.alloc _, ?_⟩)
    go_simp
    refine hK _ _ ?_
    clear hK K
    obtain ⟨W5, hW5, hb5, h9⟩ := box1 w4 35 #[.int .i64 x, .int .i64 v, .bool false, .int .i64 x, .int .i64 v2, .bool false, .int .i64 0, .int .i64 0, .bool true]
    rw [hW5]
    have h75 := h74.on hb5 h74.lt
    have hr5 := hr4.on hb5 hr4.lt
    have hB5 := below_then hB4 hb5
    have hl5 : w4.heap.size < W5.heap.size := h9.lt
    have hl6 : w.heap.size < W5.heap.size := hr5.lt
    clear hW5 hb5 h74 hr4 hB4
    refine ord_op rfl rfl (fun K hK => ⟨_, _, (by go_simp <;> first | exact ⟨rfl, rfl⟩ | exact rfl), h75, ?_⟩)
    go_simp
    refine hK _ _ ?_
    clear hK K
    refine ord_nil ?_
    have HP : Hid (PtsAt W5 (some ⟨w4.heap.size, 0, none⟩) 3 W5.heap.size (cand x v)) := fun j hj => by
      match j, hj with
      | 0, _ => exact ⟨_, _, rfl, hl5, h9.cell 0, h9.cell 1, h9.cell 2⟩
      | 1, _ => exact ⟨_, _, rfl, hl5, by rw [HC1.out]; exact h9.cell 3, by rw [HC1.out]; exact h9.cell 4, by rw [HC1.out]; exact h9.cell 5⟩
      | 2, _ => exact ⟨_, _, rfl, hl5, h9.cell 6, h9.cell 7, h9.cell 8⟩
    have HB5 : Hid (Blk W5 w.heap.size 35 #[.int .i64 0, .int .i64 0, .bool false] ∧ Below w.heap.size w W5) := ⟨hr5, hB5⟩
    clear h9 h75 hr5 hB5 HC0 HC1 HC2 HN
    generalize cand x v = cd at HP HM
    go_wp2
    go_loopw [39] (fun i wr => ∃ k : Nat, i = .int .i64 (k : Int) ∧ k ≤ 3 ∧ Hid ((∀ j, j < k → ptText (cd j) ≠ ⟨#[a, b, c]⟩) ∧ Below W5.heap.size W5 wr)) (fun i _ => 3 - (intOf i).toNat)
    case atStart => exact ⟨0, rfl, Nat.zero_le _, ⟨fun j hj => by omega, Below.refl _ _⟩⟩
    case round =>
      obtain ⟨k, rfl, hk, HW⟩ := hrel
      have hr6 := HB5.out.1.on HW.out.2 hl6
      have hB6 := below_then HB5.out.2 HW.out.2
      have hl7 : w.heap.size < wr.heap.size := hr6.lt
      by_cases hlt : k < 3
      · have hlt' : (k : Int) < 3 := by omega
        have hk0 : (0 : Int) ≤ (k : Int) := by omega
        obtain ⟨b0, off, hbo, hb0, z0, z1, z2⟩ := (HP.out.on HW.out.2) k hlt
        cases hbo
        simp only [Nat.zero_add] at z0 z1 z2
        have HTX : Hid (∀ w, Calls Tryz.prog 63 #[pv (cd k)] w fun e w' => e = .returned (.string (ptText (cd k))) ∧ Below w.heap.size w w') := iPText_any (cd k)
        have HH1 : Hid (ptText (cd k) = ⟨#[a, b, c]⟩ → RD = (cd k, true)) := HH.out (cd k)
        have HW1 : Hid (ptText (cd k) ≠ ⟨#[a, b, c]⟩ → ∀ j, j < k + 1 → ptText (cd j) ≠ ⟨#[a, b, c]⟩) := fun h j hj => by
          by_cases e : j = k
          · rw [e]; exact h
          · exact HW.out.1 j (by omega)
        have HW2 : Hid (Below W5.heap.size W5 wr) := HW.out.2
        clear HW HH HM HP HB5
        generalize ptText (cd k) = T at HTX HH1 HW1
        generalize cd k = F at HTX HH1 z0 z1 z2
        unfold pv at HTX
        by_cases h3 : T = ⟨#[a, b, c]⟩
        · subst h3
          have HR : Hid (RD = (F, true)) := HH1.out rfl
          clear HH1 HW1
          go_wp2_with (refine load_blk rfl rfl rfl (Blk.new _ _ _) Tryz.underlying35 infoP ?_)
          obtain ⟨W6, hW6, hb6, h6⟩ := box1 wr 35 #[.int .i64 F.1, .int .i64 F.2.1, .bool F.2.2]
          rw [hW6]
          have hr7 := hr6.on hb6 hr6.lt
          have hB7 := below_then hB6 hb6
          clear hr6 hB6 hb6 hW6 z0 z1 z2
          refine (HTX.out _).mono ?_
          rintro e w7 ⟨rfl, hb7⟩
          have h67 := h6.on hb7 h6.lt
          have hr8 := hr7.on hb7 hr7.lt
          have hB8 := below_then hB7 hb7
          clear h6 hr7 hB7 hb7
          go_wp2_with (first | (refine load_blk rfl rfl rfl h67 Tryz.underlying35 infoP ?_) | (refine store_blk (cs' := pc F) rfl rfl rfl rfl rfl hr8 infoP rfl (ones3 _ _ _) ?_; intro V h5 hoth hbel; have hbV := hbel _ _ (by omega) hB8; clear hoth hbel))
          refine bodyPost_ret_by (result_blkT rfl rfl rfl h5 Tryz.underlying35 infoP) rfl ⟨by rw [HR.out]; rfl, hbV⟩
        · have h3' : (T.toList == [a, b, c]) = false := bytes_ne h3
          have HN : Hid (∀ j, j < k + 1 → ptText (cd j) ≠ ⟨#[a, b, c]⟩) := HW1.out h3
          clear HH1 HW1 h3
          go_wp2_with (refine load_blk rfl rfl rfl (Blk.new _ _ _) Tryz.underlying35 infoP ?_)
          obtain ⟨W6, hW6, hb6, h6⟩ := box1 wr 35 #[.int .i64 F.1, .int .i64 F.2.1, .bool F.2.2]
          rw [hW6]
          have hB7 := HW2.out.trans (hb6.mono HW2.out.size)
          clear hr6 hB6 hb6 hW6 z0 z1 z2 h6 HW2
          refine (HTX.out _).mono ?_
          rintro e w7 ⟨rfl, hb7⟩
          have HB8 : Hid (Below W5.heap.size W5 w7) := hB7.trans (hb7.mono hB7.size)
          clear hB7 hb7
          go_wp2
          go_roundw
          case rel => exact ⟨k + 1, by go_num, hlt, ⟨HN.out, HB8.out⟩⟩
          case measure => simp [intOf]; omega
      · have hlt' : ¬ (k : Int) < 3 := by omega
        obtain rfl : k = 3 := by omega
        have HR : Hid (RD = ((0, 0, false), false)) := HM.out HW.out.1
        clear HW HH HM HP HB5
        go_wp2_with (refine store_blk (cs' := #[.int .i64 0, .int .i64 0, .bool false]) rfl rfl rfl rfl rfl hr6 infoP rfl (ones3 _ _ _) ?_; intro V h5 hoth hbel; have hbV := hbel _ _ (by omega) hB6; clear hoth hbel)
        refine bodyPost_ret_by (result_blkT rfl rfl rfl h5 Tryz.underlying35 infoP) rfl ⟨by rw [HR.out]; rfl, hbV⟩
  · rw [rdPt_size hs]
    have hs' : ((t.size : Int) == 3) = false := by rw [beq_eq_false_iff_ne]; omega
    go_enter Tryz.func64, Tryz.ntmps64
    go_wp2
    refine bodyPost_ret_by (result_blkT rfl rfl rfl (Blk.new w _ _) Tryz.underlying35 infoP) rfl ⟨rfl, (Below.refl _ _).alloc (Nat.le_refl _) _⟩

end Go.Proofs.YthnahalboomkoaaGreat
