/-
  Texts of one's own, joined.
-/
import Derived.Test.YthnahalboomkoaaGreatJoined5
import Derived.Test.YthnahalboomkoaaGreatPrfS5

/-
  The walk of the specification's ReadPoint.
  (-DROP-: what the seat lacks is left out.)
-/
namespace Go.Proofs.YthnahalboomkoaaGreat
open Go.RowKit

/-- A result that lives in a block, and one in a slot. -/
theorem result_blkT {P : Program} {fn : Func} {p q : Tmp} {ty t : TypeId} {fs : Array Field} (h : fn.results = #[.cell p ty, .tmp q]) {tmps : Array Value} {w : World} {g : Nat} {cs : Array Value} {v : Value} (hp : tmps.getD p undef = .pointer (some ⟨g, 0, none⟩)) (hq : tmps.getD q undef = v)
    (hA : Blk w g t cs) (hu : P.underlying ty = some (.struct fs)) (hi : (P.info? ty).map (·.size) = some cs.size) : (results fn tmps).run P w = .ok (.tuple #[.agg cs, v]) w := by
  have hl := hA.load hu hi
  have hp' : tmps[p]?.getD undef = .pointer (some ⟨g, 0, none⟩) := by simpa using hp
  have hq' : tmps[q]?.getD undef = v := by simpa using hq
  simp [results, h, hp', hq', asAddr, hl, Result.andThen]

theorem bytes_ne {t : ByteArray} {a b c : UInt8} (h : t ≠ ⟨#[a, b, c]⟩) : (t.toList == [a, b, c]) = false := by
  rw [beq_eq_false_iff_ne, ByteArray.toList_eq]
  intro e
  obtain ⟨d⟩ := t
  obtain ⟨l⟩ := d
  have e' : l = [a, b, c] := e
  subst e'
  exact h rfl

/-- What is read, as a value. -/
def rv (r : Pt × Bool) : Value := .tuple #[pv r.1, .bool r.2]

set_option maxHeartbeats 1600000 in
set_option maxRecDepth 100000 in
theorem sRead_any (t : ByteArray) (hm : t.size ≤ 9223372036854775807) (w : World) :
    Calls Tryz.prog 100 #[.string t] w fun e w' => e = .returned (rv (rdPt t)) ∧ Below w.heap.size w w' := by
  by_cases hs : t.size = 3
  · obtain ⟨a, b, c, rfl⟩ := bytes3 hs
    clear hs hm
    show Calls _ _ _ _ fun e w' => e = .returned (rv (rd3 a b c)) ∧ Below w.heap.size w w'
    unfold rd3
    by_cases h0 : a = 0 ∧ b = 0 ∧ c = 0
    · obtain ⟨rfl, rfl, rfl⟩ := h0
      rw [if_pos ⟨rfl, rfl, rfl⟩]
      go_enter Tryz.func100, Tryz.ntmps100
      go_wp2_with fail
      obtain ⟨W, hW, hb, hr⟩ := box1 w 35 #[.int .i64 0, .int .i64 0, .bool false]
      rw [hW]
      clear hW
      refine (sZero_any _).mono ?_
      rintro e w1 ⟨rfl, hb1⟩
      have hr1 := hr.on hb1 hr.lt
      have hB1 := below_then hb hb1
      clear hr hb hb1
      go_wp2_with (refine store_blk (cs' := pc pZ) rfl rfl rfl rfl rfl hr1 infoP rfl (ones3 _ _ _) ?_; intro V h5 hoth hbel; have hbV := hbel _ _ (by omega) hB1; clear hoth hbel)
      refine bodyPost_ret_by (result_blkT rfl rfl rfl h5 Tryz.underlying35 infoP) rfl ⟨rfl, hbV⟩
    · rw [if_neg h0]
      have h0' : (a == 0 && (b == 0 && c == 0)) = false := by
        rw [Bool.eq_false_iff]
        intro e
        simp at e
        exact h0 e
      obtain ⟨A, hA⟩ : ∃ A : Nat, A = a.toNat := ⟨_, rfl⟩
      obtain ⟨B, hB⟩ : ∃ B : Nat, B = b.toNat := ⟨_, rfl⟩
      obtain ⟨C, hC⟩ : ∃ C : Nat, C = c.toNat := ⟨_, rfl⟩
      have hAl : A < 256 := by rw [hA]; exact a.toNat_lt
      have hBl : B < 256 := by rw [hB]; exact b.toNat_lt
      have hCl : C < 256 := by rw [hC]; exact c.toNat_lt
      unfold rdY
      rw [← hA, ← hB, ← hC]
      have hA' := hA.symm
      have hB' := hB.symm
      have hC' := hC.symm
      clear hA hB hC h0
      obtain ⟨x, hx⟩ : ∃ x : Int, x = (A : Int) * 256 + (B : Int) - 1 := ⟨_, rfl⟩
      have hxl : -1 ≤ x ∧ x ≤ 65535 := by omega
      have hw1 : IntKind.i64.wrap ((A : Int) * 256) = (A : Int) * 256 := IntWalk.i64_in _ (by omega)
      have hw2 : IntKind.i64.wrap ((A : Int) * 256 + (B : Int)) = (A : Int) * 256 + (B : Int) := IntWalk.i64_in _ (by omega)
      have hw3 : IntKind.i64.wrap ((A : Int) * 256 + (B : Int) - 1) = x := by rw [IntWalk.i64_in _ (by omega), hx]
      have hv : IntKind.i64.wrap (IntKind.i64.wrap (IntKind.i64.wrap (IntKind.i64.wrap (A : Int) * 256) + IntKind.i64.wrap (B : Int)) - 1) = x := by
        rw [IntWalk.i64_in (A : Int) (by omega), IntWalk.i64_in (B : Int) (by omega), hw1, hw2, hw3]
      have at0 : ((⟨#[a, b, c]⟩ : ByteArray)[0]'(show 0 < 3 by decide)).toNat = A := hA'
      have at1 : ((⟨#[a, b, c]⟩ : ByteArray)[1]'(show 1 < 3 by decide)).toNat = B := hB'
      have at2 : ((⟨#[a, b, c]⟩ : ByteArray)[2]'(show 2 < 3 by decide)).toNat = C := hC'
      have hx' := hx.symm
      rw [← hx]
      clear hx
      have HOK : Hid (∀ w, Calls Tryz.prog 162 #[.int .i64 x] w fun e w' => e = .returned (.bool (fpOk x)) ∧ w = w') := sOk_any x
      have HRH : Hid (∀ w, Calls Tryz.prog 164 #[.int .i64 x] w fun e w' => e = .returned (.int .i64 (rhs x)) ∧ w = w') := sRight_any x
      have HRT : Hid (∀ w, Calls Tryz.prog 163 #[.int .i64 (rhs x)] w fun e w' => e = .returned (.tuple #[.int .i64 (rootV (rhs x)), .bool (rootB (rhs x))]) ∧ w = w') := sRoot_any (rhs x)
      have hrin := rootV_in (n := rhs x)
      generalize fpOk x = p at HOK ⊢
      generalize rootV (rhs x) = v at HRT hrin ⊢
      generalize rootB (rhs x) = q at HRT ⊢
      generalize rhs x = rr at HRH HRT
      obtain ⟨Y, rfl⟩ : ∃ Y : Nat, v = Y := ⟨v.toNat, by omega⟩
      have hYl : Y < 12107 := by omega
      obtain ⟨m, hm⟩ : ∃ m : Nat, m = Y % 2 := ⟨_, rfl⟩
      have hm1 : Int.tmod (Y : Int) 2 = (m : Int) := by rw [Int.tmod_eq_emod_of_nonneg (by omega)]; omega
      have hm2 : (Y : Int) % 2 = (m : Int) := by omega
      rw [hm2]
      clear hrin hm hm2
      cases p
      · rw [if_neg (by simp)]
        go_enter Tryz.func100, Tryz.ntmps100
        go_wp2_with fail
        obtain ⟨W, hW, hb, hr⟩ := box1 w 35 #[.int .i64 0, .int .i64 0, .bool false]
        rw [hW]
        clear hW
        refine wp_region_class 9 (fun wz => Below W.heap.size W wz) mixes (by kernel_rfl) (Below.refl _ _).drew ?_
        simp only [List.take_succ_cons, List.take_zero, List.drop_succ_cons, List.drop_zero]
        repeat (refine cls_step rfl (fun K hK => ⟨_, (fun w' hw => by go_simp; exact rfl), ?_⟩); go_simp; refine hK _ ?_; clear hK K)
        refine wq_nil ?_
        intro w' hw
        have hr1 := hr.on hw hr.lt
        have hB1 := below_then hb hw
        have hl1 : w.heap.size < w'.heap.size := hr1.lt
        clear hr hb hw
        go_wp2_with (first | (go_at_call 162; refine (HOK.out _).mono ?_; rintro e w1 ⟨rfl, rfl⟩) | (refine store_blk (cs' := #[.int .i64 0, .int .i64 0, .bool false]) rfl rfl rfl rfl rfl hr1 infoP rfl (ones3 _ _ _) ?_; intro V h5 hoth hbel; have hbV := hbel _ _ (by omega) hB1; clear hoth hbel))
        refine bodyPost_ret_by (result_blkT rfl rfl rfl h5 Tryz.underlying35 infoP) rfl ⟨rfl, hbV⟩
      · by_cases hc : C ≤ 1
        · have hd : decide ((1 : Int) < (C : Int)) = false := decide_eq_false (by omega)
          rw [if_pos ⟨rfl, hc⟩]
          cases q
          · rw [if_neg (by simp)]
            go_enter Tryz.func100, Tryz.ntmps100
            go_wp2_with fail
            obtain ⟨W, hW, hb, hr⟩ := box1 w 35 #[.int .i64 0, .int .i64 0, .bool false]
            rw [hW]
            clear hW
            refine wp_region_class 9 (fun wz => Below W.heap.size W wz) mixes (by kernel_rfl) (Below.refl _ _).drew ?_
            simp only [List.take_succ_cons, List.take_zero, List.drop_succ_cons, List.drop_zero]
            repeat (refine cls_step rfl (fun K hK => ⟨_, (fun w' hw => by go_simp; exact rfl), ?_⟩); go_simp; refine hK _ ?_; clear hK K)
            refine wq_nil ?_
            intro w' hw
            have hr1 := hr.on hw hr.lt
            have hB1 := below_then hb hw
            have hl1 : w.heap.size < w'.heap.size := hr1.lt
            clear hr hb hw
            go_wp2_with (first | (go_at_call 162; refine (HOK.out _).mono ?_; rintro e w1 ⟨rfl, rfl⟩) | (go_at_call 164; refine (HRH.out _).mono ?_; rintro e w1 ⟨rfl, rfl⟩) | (go_at_call 163; refine (HRT.out _).mono ?_; rintro e w1 ⟨rfl, rfl⟩) | (refine store_blk (cs' := #[.int .i64 0, .int .i64 0, .bool false]) rfl rfl rfl rfl rfl hr1 infoP rfl (ones3 _ _ _) ?_; intro V h5 hoth hbel; have hbV := hbel _ _ (by omega) hB1; clear hoth hbel))
            refine bodyPost_ret_by (result_blkT rfl rfl rfl h5 Tryz.underlying35 infoP) rfl ⟨rfl, hbV⟩
          · rw [if_pos rfl]
            by_cases h2 : (m : Int) = (C : Int)
            · rw [if_pos h2]
              have h2' : ((m : Int) == (C : Int)) = true := by rw [h2]; simp
              have HTX : Hid (∀ w, Calls Tryz.prog 160 #[.agg #[.int .i64 x, .int .i64 (Y : Int), .bool false]] w fun e w' => e = .returned (.string (ptText (x, (Y : Int), false))) ∧ Below w.heap.size w w') := sPText_any (x, (Y : Int), false)
              generalize ptText (x, (Y : Int), false) = T at HTX ⊢
              by_cases h3 : T = ⟨#[a, b, c]⟩
              · subst h3
                rw [if_pos rfl]
                go_enter Tryz.func100, Tryz.ntmps100
                go_wp2_with fail
                obtain ⟨W, hW, hb, hr⟩ := box1 w 35 #[.int .i64 0, .int .i64 0, .bool false]
                rw [hW]
                clear hW
                refine wp_region_class 9 (fun wz => Below W.heap.size W wz) mixes (by kernel_rfl) (Below.refl _ _).drew ?_
                simp only [List.take_succ_cons, List.take_zero, List.drop_succ_cons, List.drop_zero]
                repeat (refine cls_step rfl (fun K hK => ⟨_, (fun w' hw => by go_simp; exact rfl), ?_⟩); go_simp; refine hK _ ?_; clear hK K)
                refine wq_nil ?_
                intro w' hw
                have hr1 := hr.on hw hr.lt
                have hB1 := below_then hb hw
                have hl1 : w.heap.size < w'.heap.size := hr1.lt
                clear hr hb hw
                go_wp2_with (first | (go_at_call 162; refine (HOK.out _).mono ?_; rintro e w1 ⟨rfl, rfl⟩) | (go_at_call 164; refine (HRH.out _).mono ?_; rintro e w1 ⟨rfl, rfl⟩) | (go_at_call 163; refine (HRT.out _).mono ?_; rintro e w1 ⟨rfl, rfl⟩))
                obtain ⟨W2, hW2, hb2, h7⟩ := box1 w' 35 #[.int .i64 x, .int .i64 (Y : Int), .bool false]
                rw [hW2]
                have hr2 := hr1.on hb2 hr1.lt
                have hB2 := below_then hB1 hb2
                clear hr1 hB1 hb2 hW2
                refine (HTX.out _).mono ?_
                rintro e w3 ⟨rfl, hb3⟩
                have hr3 := hr2.on hb3 hr2.lt
                have h73 := h7.on hb3 h7.lt
                have hB3 := below_then hB2 hb3
                clear hr2 h7 hB2 hb3
                go_wp2_with (first | (refine load_blk rfl rfl rfl h73 Tryz.underlying35 infoP ?_) | (refine store_blk (cs' := #[.int .i64 x, .int .i64 (Y : Int), .bool false]) rfl rfl rfl rfl rfl hr3 infoP rfl (ones3 _ _ _) ?_; intro V h5 hoth hbel; have hbV := hbel _ _ (by omega) hB3; clear hoth hbel))
                refine bodyPost_ret_by (result_blkT rfl rfl rfl h5 Tryz.underlying35 infoP) rfl ⟨rfl, hbV⟩
              · rw [if_neg h3]
                have h3' : (T.toList == [a, b, c]) = false := bytes_ne h3
                go_enter Tryz.func100, Tryz.ntmps100
                go_wp2_with fail
                obtain ⟨W, hW, hb, hr⟩ := box1 w 35 #[.int .i64 0, .int .i64 0, .bool false]
                rw [hW]
                clear hW
                refine wp_region_class 9 (fun wz => Below W.heap.size W wz) mixes (by kernel_rfl) (Below.refl _ _).drew ?_
                simp only [List.take_succ_cons, List.take_zero, List.drop_succ_cons, List.drop_zero]
                repeat (refine cls_step rfl (fun K hK => ⟨_, (fun w' hw => by go_simp; exact rfl), ?_⟩); go_simp; refine hK _ ?_; clear hK K)
                refine wq_nil ?_
                intro w' hw
                have hr1 := hr.on hw hr.lt
                have hB1 := below_then hb hw
                have hl1 : w.heap.size < w'.heap.size := hr1.lt
                clear hr hb hw
                go_wp2_with (first | (go_at_call 162; refine (HOK.out _).mono ?_; rintro e w1 ⟨rfl, rfl⟩) | (go_at_call 164; refine (HRH.out _).mono ?_; rintro e w1 ⟨rfl, rfl⟩) | (go_at_call 163; refine (HRT.out _).mono ?_; rintro e w1 ⟨rfl, rfl⟩))
                obtain ⟨W2, hW2, hb2, h7⟩ := box1 w' 35 #[.int .i64 x, .int .i64 (Y : Int), .bool false]
                rw [hW2]
                have hr2 := hr1.on hb2 hr1.lt
                have hB2 := below_then hB1 hb2
                clear hr1 hB1 hb2 hW2
                refine (HTX.out _).mono ?_
                rintro e w3 ⟨rfl, hb3⟩
                have hr3 := hr2.on hb3 hr2.lt
                have hB3 := below_then hB2 hb3
                clear hr2 h7 hB2 hb3
                go_wp2_with (refine store_blk (cs' := #[.int .i64 0, .int .i64 0, .bool false]) rfl rfl rfl rfl rfl hr3 infoP rfl (ones3 _ _ _) ?_; intro V h5 hoth hbel; have hbV := hbel _ _ (by omega) hB3; clear hoth hbel)
                refine bodyPost_ret_by (result_blkT rfl rfl rfl h5 Tryz.underlying35 infoP) rfl ⟨rfl, hbV⟩
            · rw [if_neg h2]
              have h2' : ((m : Int) == (C : Int)) = false := by rw [beq_eq_false_iff_ne]; exact h2
              have HSB : Hid (∀ w, Calls Tryz.prog 165 #[.int .i64 0, .int .i64 (Y : Int)] w fun e w' => e = .returned (.int .i64 (fpSub 0 (Y : Int))) ∧ w = w') := sSub_any 0 (Y : Int)
              generalize fpSub 0 (Y : Int) = y2 at HSB ⊢
              have HTX : Hid (∀ w, Calls Tryz.prog 160 #[.agg #[.int .i64 x, .int .i64 y2, .bool false]] w fun e w' => e = .returned (.string (ptText (x, y2, false))) ∧ Below w.heap.size w w') := sPText_any (x, y2, false)
              generalize ptText (x, y2, false) = T at HTX ⊢
              by_cases h3 : T = ⟨#[a, b, c]⟩
              · subst h3
                rw [if_pos rfl]
                go_enter Tryz.func100, Tryz.ntmps100
                go_wp2_with fail
                obtain ⟨W, hW, hb, hr⟩ := box1 w 35 #[.int .i64 0, .int .i64 0, .bool false]
                rw [hW]
                clear hW
                refine wp_region_class 9 (fun wz => Below W.heap.size W wz) mixes (by kernel_rfl) (Below.refl _ _).drew ?_
                simp only [List.take_succ_cons, List.take_zero, List.drop_succ_cons, List.drop_zero]
                repeat (refine cls_step rfl (fun K hK => ⟨_, (fun w' hw => by go_simp; exact rfl), ?_⟩); go_simp; refine hK _ ?_; clear hK K)
                refine wq_nil ?_
                intro w' hw
                have hr1 := hr.on hw hr.lt
                have hB1 := below_then hb hw
                have hl1 : w.heap.size < w'.heap.size := hr1.lt
                clear hr hb hw
                go_wp2_with (first | (go_at_call 162; refine (HOK.out _).mono ?_; rintro e w1 ⟨rfl, rfl⟩) | (go_at_call 164; refine (HRH.out _).mono ?_; rintro e w1 ⟨rfl, rfl⟩) | (go_at_call 163; refine (HRT.out _).mono ?_; rintro e w1 ⟨rfl, rfl⟩) | (go_at_call 165; refine (HSB.out _).mono ?_; rintro e w1 ⟨rfl, rfl⟩))
                obtain ⟨W2, hW2, hb2, h7⟩ := box1 w' 35 #[.int .i64 x, .int .i64 y2, .bool false]
                rw [hW2]
                have hr2 := hr1.on hb2 hr1.lt
                have hB2 := below_then hB1 hb2
                clear hr1 hB1 hb2 hW2
                refine (HTX.out _).mono ?_
                rintro e w3 ⟨rfl, hb3⟩
                have hr3 := hr2.on hb3 hr2.lt
                have h73 := h7.on hb3 h7.lt
                have hB3 := below_then hB2 hb3
                clear hr2 h7 hB2 hb3
                go_wp2_with (first | (refine load_blk rfl rfl rfl h73 Tryz.underlying35 infoP ?_) | (refine store_blk (cs' := #[.int .i64 x, .int .i64 y2, .bool false]) rfl rfl rfl rfl rfl hr3 infoP rfl (ones3 _ _ _) ?_; intro V h5 hoth hbel; have hbV := hbel _ _ (by omega) hB3; clear hoth hbel))
                refine bodyPost_ret_by (result_blkT rfl rfl rfl h5 Tryz.underlying35 infoP) rfl ⟨rfl, hbV⟩
              · rw [if_neg h3]
                have h3' : (T.toList == [a, b, c]) = false := bytes_ne h3
                go_enter Tryz.func100, Tryz.ntmps100
                go_wp2_with fail
                obtain ⟨W, hW, hb, hr⟩ := box1 w 35 #[.int .i64 0, .int .i64 0, .bool false]
                rw [hW]
                clear hW
                refine wp_region_class 9 (fun wz => Below W.heap.size W wz) mixes (by kernel_rfl) (Below.refl _ _).drew ?_
                simp only [List.take_succ_cons, List.take_zero, List.drop_succ_cons, List.drop_zero]
                repeat (refine cls_step rfl (fun K hK => ⟨_, (fun w' hw => by go_simp; exact rfl), ?_⟩); go_simp; refine hK _ ?_; clear hK K)
                refine wq_nil ?_
                intro w' hw
                have hr1 := hr.on hw hr.lt
                have hB1 := below_then hb hw
                have hl1 : w.heap.size < w'.heap.size := hr1.lt
                clear hr hb hw
                go_wp2_with (first | (go_at_call 162; refine (HOK.out _).mono ?_; rintro e w1 ⟨rfl, rfl⟩) | (go_at_call 164; refine (HRH.out _).mono ?_; rintro e w1 ⟨rfl, rfl⟩) | (go_at_call 163; refine (HRT.out _).mono ?_; rintro e w1 ⟨rfl, rfl⟩) | (go_at_call 165; refine (HSB.out _).mono ?_; rintro e w1 ⟨rfl, rfl⟩))
                obtain ⟨W2, hW2, hb2, h7⟩ := box1 w' 35 #[.int .i64 x, .int .i64 y2, .bool false]
                rw [hW2]
                have hr2 := hr1.on hb2 hr1.lt
                have hB2 := below_then hB1 hb2
                clear hr1 hB1 hb2 hW2
                refine (HTX.out _).mono ?_
                rintro e w3 ⟨rfl, hb3⟩
                have hr3 := hr2.on hb3 hr2.lt
                have hB3 := below_then hB2 hb3
                clear hr2 h7 hB2 hb3
                go_wp2_with (refine store_blk (cs' := #[.int .i64 0, .int .i64 0, .bool false]) rfl rfl rfl rfl rfl hr3 infoP rfl (ones3 _ _ _) ?_; intro V h5 hoth hbel; have hbV := hbel _ _ (by omega) hB3; clear hoth hbel)
                refine bodyPost_ret_by (result_blkT rfl rfl rfl h5 Tryz.underlying35 infoP) rfl ⟨rfl, hbV⟩
        · rw [if_neg (by omega)]
          have hd : decide ((1 : Int) < (C : Int)) = true := decide_eq_true (by omega)
          go_enter Tryz.func100, Tryz.ntmps100
          go_wp2_with fail
          obtain ⟨W, hW, hb, hr⟩ := box1 w 35 #[.int .i64 0, .int .i64 0, .bool false]
          rw [hW]
          clear hW
          refine wp_region_class 9 (fun wz => Below W.heap.size W wz) mixes (by kernel_rfl) (Below.refl _ _).drew ?_
          simp only [List.take_succ_cons, List.take_zero, List.drop_succ_cons, List.drop_zero]
          repeat (refine cls_step rfl (fun K hK => ⟨_, (fun w' hw => by go_simp; exact rfl), ?_⟩); go_simp; refine hK _ ?_; clear hK K)
          refine wq_nil ?_
          intro w' hw
          have hr1 := hr.on hw hr.lt
          have hB1 := below_then hb hw
          have hl1 : w.heap.size < w'.heap.size := hr1.lt
          clear hr hb hw
          go_wp2_with (first | (go_at_call 162; refine (HOK.out _).mono ?_; rintro e w1 ⟨rfl, rfl⟩) | (refine store_blk (cs' := #[.int .i64 0, .int .i64 0, .bool false]) rfl rfl rfl rfl rfl hr1 infoP rfl (ones3 _ _ _) ?_; intro V h5 hoth hbel; have hbV := hbel _ _ (by omega) hB1; clear hoth hbel))
          refine bodyPost_ret_by (result_blkT rfl rfl rfl h5 Tryz.underlying35 infoP) rfl ⟨rfl, hbV⟩
  · rw [rdPt_size hs]
    have hs' : ((t.size : Int) == 3) = false := by rw [beq_eq_false_iff_ne]; omega
    go_enter Tryz.func100, Tryz.ntmps100
    go_wp2
    refine bodyPost_ret_by (result_blkT rfl rfl rfl (Blk.new w _ _) Tryz.underlying35 infoP) rfl ⟨rfl, (Below.refl _ _).alloc (Nat.le_refl _) _⟩

end Go.Proofs.YthnahalboomkoaaGreat

/-
  Three points out of a text: no program in here.
-/
namespace Go.Proofs.YthnahalboomkoaaGreat

/-- A third of a text. -/
def cut3 (t : ByteArray) (k : Nat) : ByteArray := t.extract (3 * k) (3 * k + 3)
theorem cut3_size (t : ByteArray) (k : Nat) : (cut3 t k).size ≤ 3 := by
  unfold cut3
  rw [ByteArray.size_extract]
  omega
/-- Whether three points are read. -/
def rdOk (t : ByteArray) : Bool := decide (t.size = 9) && ((((rdPt (cut3 t 0)).2 && (rdPt (cut3 t 1)).2) && (rdPt (cut3 t 2)).2) && prfIn (rdPt (cut3 t 0)).1 (rdPt (cut3 t 1)).1 (rdPt (cut3 t 2)).1)
def rdAtP (t : ByteArray) (k : Nat) : Pt := if rdOk t then (rdPt (cut3 t k)).1 else (0, 0, false)
def rdV (t : ByteArray) : Array Value := prfC (rdAtP t 0) (rdAtP t 1) (rdAtP t 2)
theorem rdV_no {t : ByteArray} (h : rdOk t = false) : rdV t = #[.int .i64 0, .int .i64 0, .bool false, .int .i64 0, .int .i64 0, .bool false, .int .i64 0, .int .i64 0, .bool false] := by
  unfold rdV rdAtP
  rw [h]
  rfl
theorem rdV_yes {t : ByteArray} (h : rdOk t = true) : rdV t = prfC (rdPt (cut3 t 0)).1 (rdPt (cut3 t 1)).1 (rdPt (cut3 t 2)).1 := by
  unfold rdV rdAtP
  rw [h]
  rfl

end Go.Proofs.YthnahalboomkoaaGreat
