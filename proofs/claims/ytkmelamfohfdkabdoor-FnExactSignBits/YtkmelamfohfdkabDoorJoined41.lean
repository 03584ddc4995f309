/-
  Texts of one's own, joined.
-/
import Derived.Test.YtkmelamfohfdkabDoorJoined20
import Derived.Test.YtkmelamfohfdkabDoorJoined40
import Derived.Test.YtkmelamfohfdkabDoorJoined28
import Derived.Test.YtkmelamfohfdkabDoorHashS
import Derived.Test.YtkmelamfohfdkabDoorJoined15

/-
  The walks of the specification's pairs.
  (-DROP-: what the seat lacks is left out.)
-/
namespace Go.Proofs.YtkmelamfohfdkabDoor
open Go.RowKit

/-- Three parameters in blocks of their own, the result's, and one more. -/
theorem boxes3r1 (w : World) (t1 t2 t3 tr t5 : TypeId) (c1 c2 c3 cr c5 : Array Value) : ∃ W, ((((w.alloc (.cells c1 t1)).alloc (.cells c2 t2)).alloc (.cells c3 t3)).alloc (.cells cr tr)).alloc (.cells c5 t5) = W ∧ Below w.heap.size w W ∧ Blk W w.heap.size t1 c1 ∧ Blk W (w.heap.size + 1) t2 c2 ∧ Blk W (w.heap.size + 1 + 1) t3 c3 ∧ Blk W (w.heap.size + 1 + 1 + 1) tr cr ∧ Blk W (w.heap.size + 1 + 1 + 1 + 1) t5 c5 :=
  ⟨_, rfl, (((((Below.refl _ _).alloc (Nat.le_refl _) _).alloc (by simp) _).alloc (by simp; omega) _).alloc (by simp; omega) _).alloc (by simp; omega) _, ((((Blk.new w t1 c1).alloc _).alloc _).alloc _).alloc _, (((Blk.newAt (by simp)).alloc _).alloc _).alloc _, ((Blk.newAt (by simp)).alloc _).alloc _, (Blk.newAt (by simp)).alloc _, Blk.newAt (by simp)⟩

theorem psl_slope (P Q : Pt) : pSl P Q = if (pSlope P Q).2 = true then some (pSlope P Q).1 else none := by
  unfold pSl pSlope
  by_cases h1 : P.1 = Q.1
  · by_cases h2 : fpAdd P.2.1 Q.2.1 = 0
    · simp [h1, h2]
    · simp [h1, h2]
  · simp [h1]

/-- The line, as it is told. -/
theorem plineB_told (P Q R : Pt) : pLineB P Q R = if P.2.2 || Q.2.2 || R.2.2 || !pOkB P || !pOkB Q || !pOkB R then (1, 0) else if (pSlope P Q).2 = true then (fpSub (fpSub 0 P.2.1) (fpMul (pSlope P Q).1 (fpSub (fpSub 0 R.1) P.1)), R.2.1) else (1, 0) := by
  unfold pLineB pLine
  rw [psl_slope]
  cases P.2.2 <;> cases Q.2.2 <;> cases R.2.2 <;> cases pOkB P <;> cases pOkB Q <;> cases pOkB R <;> cases (pSlope P Q).2 <;> simp

end Go.Proofs.YtkmelamfohfdkabDoor

/-
  The walks of the specification's pairs: Miller's number.
  (-DROP-: what the seat lacks is left out.)
-/
namespace Go.Proofs.YtkmelamfohfdkabDoor
open Go.RowKit

/-- Miller's steps, one by one. -/
def mSt (P R : Pt) : Nat → (Int × Int) × Pt
  | 0 => ((1, 0), P)
  | k + 1 => mStepS P R (mBits.getD k false) (mSt P R k)

theorem mst_all (P R : Pt) : (mSt P R 9).1 = millS P R := rfl

theorem mbit {j : Nat} (h : j < 9) : 1009 / 2 ^ j % 2 = if mBits.getD (8 - j) false = true then 1 else 0 := by
  have key : ∀ j : Fin 9, 1009 / 2 ^ j.val % 2 = if mBits.getD (8 - j.val) false = true then 1 else 0 := by decide
  exact key ⟨j, h⟩

end Go.Proofs.YtkmelamfohfdkabDoor

/-
  The walks of the specification's pairs: the pair, many pairs.
  (-DROP-: what the seat lacks is left out.)
-/
namespace Go.Proofs.YtkmelamfohfdkabDoor
open Go.RowKit

/-- Many pairs: whether all are in the group, and their product, of the first n. -/
def allG (f g : Nat → Pt) : Nat → Bool
  | 0 => true
  | n + 1 => allG f g n && (inGB (f n) && inGB (g n))
def prodN (f g : Nat → Pt) : Nat → Int × Int
  | 0 => (1, 0)
  | n + 1 => tm (prodN f g n) (pairS (f n) (g n))
def rightN (f g : Nat → Pt) (n : Nat) : Bool := allG f g n && decide (prodN f g n = (1, 0))

theorem allG_more (f g : Nat → Pt) {k : Nat} (h : allG f g k = false) : ∀ n, k ≤ n → allG f g n = false
  | 0, hk => by rw [show (0 : Nat) = k by omega]; exact h
  | n + 1, hk => by
    by_cases e : k = n + 1
    · rw [← e]; exact h
    · show (allG f g n && _) = false
      rw [allG_more f g h n (by omega), Bool.false_and]

end Go.Proofs.YtkmelamfohfdkabDoor

/-
  The walks of the specification's signatures.
  (-DROP-: what the seat lacks is left out.)
-/
namespace Go.Proofs.YtkmelamfohfdkabDoor
open Go.RowKit

set_option maxHeartbeats 800000 in
set_option maxRecDepth 100000 in
theorem sSign_any (k : Int) (t : ByteArray) (ht : t.size ≤ 1048576) (w : World) :
    Calls Tryd.prog 11 #[.int .i64 k, .string t] w fun e w' => e = .returned (pv (signP k (hashPt t))) ∧ Below w.heap.size w w' := by
  obtain ⟨H, hH⟩ : ∃ H, H = hashPt t := ⟨_, rfl⟩
  have HB : Hid (∀ w, Calls Tryd.prog 19 #[.string t] w fun e w' => e = .returned (pv H) ∧ Below w.heap.size w w') := by rw [hH]; exact sHash_any t ht
  rw [← hH]
  clear hH
  have HO : Hid (∀ w, Calls Tryd.prog 17 #[.int .i64 k] w fun e w' => e = .returned (.int .i64 (sca k)) ∧ w = w') := sScOf_any k
  have HT : Hid (∀ w, Calls Tryd.prog 18 #[.int .i64 (sca k), pv H] w fun e w' => e = .returned (pv (signP k H)) ∧ Below w.heap.size w w') := sTimes_any (sca k) H
  generalize signP k H = K at HT ⊢
  generalize sca k = s at HO HT
  go_enter Tryd.func11, Tryd.ntmps11
  go_wp2_with fail
  obtain ⟨W, hW, hb, hr⟩ := box1 w 23 #[.int .i64 0, .int .i64 0, .bool false]
  rw [hW]
  clear hW
  refine (HO.out _).mono ?_
  rintro e w1 ⟨rfl, rfl⟩
  go_wp2_with fail
  refine (HB.out _).mono ?_
  rintro e w2 ⟨rfl, hb2⟩
  go_wp2_with fail
  refine (HT.out _).mono ?_
  rintro e w3 ⟨rfl, hb3⟩
  have hr3 := (hr.on hb2 hr.lt).on hb3 (by have := hb2.size; have := hr.lt; omega)
  have hB3 := below_then (below_then hb hb2) hb3
  clear hb hb2 hb3 hr
  go_wp2_with (refine store_blk (cs' := pc K) rfl rfl rfl rfl rfl hr3 infoP rfl (ones3 _ _ _) ?_; intro V h5 hoth hbel; have hbV := hbel _ _ (by omega) hB3; clear hoth hbel)
  refine bodyPost_ret_by (result_blk rfl rfl h5 Tryd.underlying23 infoP) rfl ⟨rfl, hbV⟩

/-- Two by two that are not the same. -/
theorem two_ne {X Y : Int × Int} (h : X ≠ Y) : (X.1 == Y.1) = false ∨ (X.1 = Y.1 ∧ (X.2 == Y.2) = false) := by
  by_cases h1 : X.1 = Y.1
  · refine .inr ⟨h1, ?_⟩
    rw [beq_eq_false_iff_ne]
    intro h2
    exact h (Prod.ext h1 h2)
  · exact .inl (by rw [beq_eq_false_iff_ne]; exact h1)

/-- Whether what many signed is right. -/
def allB (f : Nat → Pt) (n : Nat) (S H : Pt) : Bool := decide (0 < n) && sigB (sumN f n) S H

end Go.Proofs.YtkmelamfohfdkabDoor

/-
  The walks of the specification's committees: who signs by bits.
  (-DROP-: what the seat lacks is left out.)
-/
namespace Go.Proofs.YtkmelamfohfdkabDoor
open Go.RowKit

/-- The secrets whose bits are set, put together. -/
def sumBits (n b : Int) : Nat → Int
  | 0 => 0
  | k + 1 => if b / 2 ^ k % 2 = 1 then scAdd (sumBits n b k) (sec n k) else sumBits n b k
def signBP (s b : Int) (H : Pt) : Pt := if 0 ≤ b ∧ b ≤ 255 then signP (sumBits (s % 1000) b 8) H else pZ

set_option maxHeartbeats 1600000 in
set_option maxRecDepth 100000 in
theorem sSignBits_any (s b : Int) (t : ByteArray) (ht : t.size ≤ 1048576) (w : World) :
    Calls Tryd.prog 4 #[.int .i64 s, .int .i64 b, .string t] w fun e w' => e = .returned (pv (signBP s b (hashPt t))) ∧ Below w.heap.size w w' := by
  obtain ⟨H, hH⟩ : ∃ H, H = hashPt t := ⟨_, rfl⟩
  have HSG : Hid (∀ (k : Int) (w : World), Calls Tryd.prog 11 #[.int .i64 k, .string t] w fun e w' => e = .returned (pv (signP k H)) ∧ Below w.heap.size w w') := fun k w => by rw [hH]; exact sSign_any k t ht w
  rw [← hH]
  clear hH ht
  have HB : Hid (∀ w, Calls Tryd.prog 7 #[.int .i64 b, .int .i64 0, .int .i64 255] w fun e w' => e = .returned (.bool (decide (0 ≤ b ∧ b ≤ 255))) ∧ w = w') := sBetween_any b 0 255
  have HZ : Hid (∀ w, Calls Tryd.prog 8 #[] w fun e w' => e = .returned (pv pZ) ∧ Below w.heap.size w w') := sZero_any
  unfold signBP
  obtain ⟨W, hW, hb, hr⟩ := box1 w 23 #[.int .i64 0, .int .i64 0, .bool false]
  by_cases hbb : 0 ≤ b ∧ b ≤ 255
  · rw [decide_eq_true hbb] at HB
    rw [if_pos hbb]
    obtain ⟨b0, b1⟩ := hbb
    obtain ⟨n, hn⟩ : ∃ n, n = s % 1000 := ⟨_, rfl⟩
    obtain ⟨RS, hRS⟩ : ∃ RS, RS = signP (sumBits (s % 1000) b 8) H := ⟨_, rfl⟩
    rw [← hRS]
    rw [← hn] at hRS
    have HRS : Hid (RS = signP (sumBits n b 8) H) := hRS
    have HNS : Hid (n = s % 1000) := hn
    clear hRS hn
    go_enter Tryd.func4, Tryd.ntmps4
    go_wp2_with (go_at_call 7; refine (HB.out _).mono ?_; rintro e wz ⟨rfl, rfl⟩)
    clear hW
    refine (sSecs_any s _).mono ?_
    rintro e w1 ⟨v, rfl, hR, hb1⟩
    obtain ⟨g, c, rfl, hcl⟩ := hR.form
    have hr1 := hr.on hb1 hr.lt
    have hB1 := below_then hb hb1
    rw [← HNS.out] at hcl
    have HC : Hid (∀ j, j < 8 → w1.cell? ⟨g, j, none⟩ = some (.int .i64 (sec n j))) := hcl
    clear hb hb1 hr hR hcl HZ HB
    go_wp2
    go_loopw [8, 9] (fun v i wr => ∃ k : Nat, v = .int .i64 (sumBits n b k) ∧ i = .int .i64 (k : Int) ∧ k ≤ 8 ∧ w1 = wr) (fun _ i _ => 8 - (intOf i).toNat)
    case atStart => exact ⟨0, rfl, rfl, Nat.zero_le _, rfl⟩
    case round =>
      obtain ⟨k, rfl, rfl, hk, rfl⟩ := hrel
      by_cases hlt : k < 8
      · have hlt' : (k : Int) < 8 := by omega
        have hk0 : (0 : Int) ≤ (k : Int) := by omega
        obtain ⟨m, hm⟩ : ∃ m : Int, b / 2 ^ k = m := ⟨_, rfl⟩
        have hm0 : 0 ≤ m := by rw [← hm]; exact Int.ediv_nonneg b0 (Int.le_of_lt (Int.pow_pos (by decide)))
        have hc := HC.out k hlt
        have HN : Hid (sumBits n b (k + 1) = if m % 2 = 1 then scAdd (sumBits n b k) (sec n k) else sumBits n b k) := by
          show (if b / 2 ^ k % 2 = 1 then _ else _) = _
          rw [hm]
        have HAD : Hid (∀ w, Calls Tryd.prog 10 #[.int .i64 (sumBits n b k), .int .i64 (sec n k)] w fun e w' => e = .returned (.int .i64 (scAdd (sumBits n b k) (sec n k))) ∧ w = w') := sScAdd_any _ _
        obtain ⟨S2, hS2⟩ : ∃ S2, S2 = sumBits n b (k + 1) := ⟨_, rfl⟩
        have HS2 : Hid (S2 = sumBits n b (k + 1)) := hS2
        rw [← hS2] at HN
        clear hS2
        generalize scAdd (sumBits n b k) (sec n k) = A2 at HN HAD
        generalize sumBits n b k = S at HN HAD
        generalize sec n k = x at hc HAD
        by_cases h2 : m % 2 = 1
        · have h2' : Int.tmod m 2 = 1 := by rw [Int.tmod_eq_emod_of_nonneg hm0]; exact h2
          have HE : Hid (S2 = A2) := by show _ = _; rw [HN.out, if_pos h2]
          clear HN h2
          go_wp2_with (go_at_call 10; refine (HAD.out _).mono ?_; rintro e wz ⟨rfl, rfl⟩)
          go_roundw
          case rel => exact ⟨k + 1, by rw [← HS2.out, HE.out], by go_num, hlt, by trivial⟩
          case measure => simp [intOf]; omega
        · have h2' : Int.tmod m 2 = 0 := by rw [Int.tmod_eq_emod_of_nonneg hm0]; omega
          have HE : Hid (S2 = S) := by show _ = _; rw [HN.out, if_neg h2]
          clear HN h2
          go_wp2
          go_roundw
          case rel => exact ⟨k + 1, by rw [← HS2.out, HE.out], by go_num, hlt, by trivial⟩
          case measure => simp [intOf]; omega
      · have hlt' : ¬ (k : Int) < 8 := by omega
        obtain rfl : k = 8 := by omega
        have HG := HSG.out (sumBits n b 8)
        rw [← HRS.out] at HG
        have HG' : Hid (∀ (w : World), Calls Tryd.prog 11 #[.int .i64 (sumBits n b 8), .string t] w fun e w' => e = .returned (pv RS) ∧ Below w.heap.size w w') := HG
        clear HG HRS HC
        generalize sumBits n b 8 = S at HG'
        go_wp2_with fail
        refine (HG'.out _).mono ?_
        rintro e w2 ⟨rfl, hb2⟩
        have hr2 := hr1.on hb2 hr1.lt
        have hB2 := below_then hB1 hb2
        clear hb2 hr1 hB1
        go_wp2_with (refine store_blk (cs' := pc RS) rfl rfl rfl rfl rfl hr2 infoP rfl (ones3 _ _ _) ?_; intro V h5 hoth hbel; have hbV := hbel _ _ (by omega) hB2; clear hoth hbel)
        refine bodyPost_ret_by (result_blk rfl rfl h5 Tryd.underlying23 infoP) rfl ⟨rfl, hbV⟩
  · rw [decide_eq_false hbb] at HB
    rw [if_neg hbb]
    go_enter Tryd.func4, Tryd.ntmps4
    go_wp2_with (go_at_call 7; refine (HB.out _).mono ?_; rintro e wz ⟨rfl, rfl⟩)
    clear hW
    refine (HZ.out _).mono ?_
    rintro e w1 ⟨rfl, hb1⟩
    have hr1 := hr.on hb1 hr.lt
    have hB1 := below_then hb hb1
    clear hb hb1 hr
    go_wp2_with (refine store_blk (cs' := pc pZ) rfl rfl rfl rfl rfl hr1 infoP rfl (ones3 _ _ _) ?_; intro V h5 hoth hbel; have hbV := hbel _ _ (by omega) hB1; clear hoth hbel)
    refine bodyPost_ret_by (result_blk rfl rfl h5 Tryd.underlying23 infoP) rfl ⟨rfl, hbV⟩

end Go.Proofs.YtkmelamfohfdkabDoor
