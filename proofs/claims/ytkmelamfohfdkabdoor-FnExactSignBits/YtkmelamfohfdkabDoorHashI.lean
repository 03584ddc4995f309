/-
  The walks of the program's HashPoint: a number and a place out of a digest, a search that is left by a goto.
  (-DROP-: what the seat lacks is left out.)
-/
import Derived.Test.YtkmelamfohfdkabDoorHashS
import Derived.Test.YtkmelamfohfdkabDoorJoined38
import Derived.Test.YtkmelamfohfdkabDoorPtC6
import Derived.ScopeJumps
import Derived.WalkMore
namespace Go.Proofs.YtkmelamfohfdkabDoor
open Go.RowKit

/-- The number that the first bytes are, one by one. -/
def numTo (d : ByteArray) : Nat → Nat
  | 0 => 0
  | i + 1 => numTo d i * 256 + byt d i
theorem numTo_lt (d : ByteArray) : ∀ i, i ≤ 4 → numTo d i < 4294967296
  | 0, _ => (by decide : (0 : Nat) < 4294967296)
  | 1, _ => by
    have h0 := byt_lt d 0
    show 0 * 256 + byt d 0 < _
    omega
  | 2, _ => by
    have h0 := byt_lt d 0
    have h1 := byt_lt d 1
    show (0 * 256 + byt d 0) * 256 + byt d 1 < _
    omega
  | 3, _ => by
    have h0 := byt_lt d 0
    have h1 := byt_lt d 1
    have h2 := byt_lt d 2
    show ((0 * 256 + byt d 0) * 256 + byt d 1) * 256 + byt d 2 < _
    omega
  | 4, _ => by
    have h0 := byt_lt d 0
    have h1 := byt_lt d 1
    have h2 := byt_lt d 2
    have h3 := byt_lt d 3
    show (((0 * 256 + byt d 0) * 256 + byt d 1) * 256 + byt d 2) * 256 + byt d 3 < _
    omega
  | _ + 5, h => absurd h (by omega)
theorem hx_num (d : ByteArray) : hx d = fp ((numTo d 4 : Nat) : Int) := by
  unfold hx
  have e : numTo d 4 = byt d 0 * 16777216 + byt d 1 * 65536 + byt d 2 * 256 + byt d 3 := by
    show (((0 * 256 + byt d 0) * 256 + byt d 1) * 256 + byt d 2) * 256 + byt d 3 = _
    omega
  rw [e]

/-- What one try comes to: Zero where it does not serve. -/
def hashTry (t : ByteArray) (n : Nat) : Pt := if rootB (rhs (hashX t n)) = true then hashAt t n else pZ
theorem hashTry_ok (t : ByteArray) (n : Nat) : hashOk t n = !(hashTry t n).2.2 := by
  unfold hashOk hashTry
  split
  · rename_i h
    rw [h, Bool.true_and]
  · rename_i h
    rw [Bool.eq_false_iff.2 h, Bool.false_and]
    rfl
theorem hashTry_at {t : ByteArray} {n : Nat} (h : hashOk t n = true) : hashTry t n = hashAt t n := by
  unfold hashOk at h
  rw [Bool.and_eq_true] at h
  unfold hashTry
  rw [if_pos h.1]
theorem hash_next (t : ByteArray) (f n : Nat) : hashFrom t (f + 1) n = if (hashTry t n).2.2 = true then hashFrom t f (n + 1) else hashTry t n := by
  show (if hashOk t n = true then hashAt t n else hashFrom t f (n + 1)) = _
  by_cases h : hashOk t n = true
  · have h2 := hashTry_ok t n
    rw [if_pos h, if_neg (by rw [h] at h2; simpa using h2.symm), hashTry_at h]
  · have h2 := hashTry_ok t n
    rw [if_neg h, if_pos (by rw [Bool.eq_false_iff.2 h] at h2; simpa using h2.symm)]

set_option maxHeartbeats 800000 in
set_option maxRecDepth 100000 in
theorem hashedNumber_any (n : Nat) (hn : n < 256) (t : ByteArray) (ht : t.size ≤ 1048576) (w : World) (hT : Tab w) :
    Calls Tryd.prog 52 #[.int .u8 (n : Int), .string t] w fun e w' => e = .returned (.int .i64 (hashX t n)) ∧ Below w.heap.size w w' := by
  have htb : (t.size : Int) ≤ 1048576 := by omega
  have hcv := text1 n hn
  have HG : Hid (∀ w, Tab w → Calls Tryd.prog 61 #[.string (⟨#[UInt8.ofNat n]⟩ ++ t)] w fun e w' => e = .returned (.string (digT (preT n t))) ∧ Below w.heap.size w w') := fun w hT => iDig_any (preT n t) (by rw [preT_size]; omega) w hT
  have HT0 : Hid (Tab (w.alloc (.cells #[.int .u8 (n : Int)] 5))) := hT.on ((Below.refl _ _).alloc (Nat.le_refl _) _) hT.1
  clear hT
  have hds : (digT (preT n t)).size = 32 := digT_size _
  have HXX : Hid (hashX t n = hx (digT (preT n t))) := rfl
  obtain ⟨x, hx⟩ : ∃ x, x = hashX t n := ⟨_, rfl⟩
  rw [← hx] at HXX ⊢
  clear hx
  generalize digT (preT n t) = dg at HG HXX hds
  have HX : Hid (fp ((numTo dg 4 : Nat) : Int) = x) := (HXX.out.trans (hx_num dg)).symm
  clear HXX
  go_enter Tryd.func52, Tryd.ntmps52
  go_wp2_with fail
  refine (HG.out _ HT0.out).mono ?_
  rintro e w1 ⟨rfl, hb1⟩
  have HB1 : Hid (Below w.heap.size w w1) := ((Below.refl w.heap.size w).alloc (Nat.le_refl _) (.cells #[.int .u8 (n : Int)] 5)).trans (hb1.mono (by simp))
  clear hb1 HG HT0 hcv
  go_wp2
  go_loopw [6, 14] (fun x i wr => ∃ k : Nat, i = .int .i64 (k : Int) ∧ k ≤ 4 ∧ x = .int .i64 ((numTo dg k : Nat) : Int) ∧ Hid (Below w.heap.size w wr)) (fun _ i _ => 4 - (intOf i).toNat)
  case atStart => exact ⟨0, rfl, by omega, rfl, HB1.out⟩
  case round =>
    obtain ⟨k, rfl, hk, rfl, HW⟩ := hrel
    clear HB1
    by_cases hlt : k < 4
    · have hlt' : (k : Int) < 4 := by omega
      have hk0 : (0 : Int) ≤ (k : Int) := by omega
      have hks : (k : Int) < (dg.size : Int) := by omega
      have hksn : k < dg.size := by omega
      have hN := numTo_lt dg k hk
      have HNX : Hid (((numTo dg (k + 1) : Nat) : Int) = ((numTo dg k : Nat) : Int) * 256 + ((byt dg k : Nat) : Int)) := by
        show (((numTo dg k * 256 + byt dg k : Nat) : Nat) : Int) = _
        omega
      have hBl := byt_lt dg k
      have atk : (dg[k]'hksn).toNat = byt dg k := byt_at _ _ _
      generalize byt dg k = B at HNX hBl atk
      obtain ⟨mm, hmm⟩ : ∃ mm, mm = numTo dg (k + 1) := ⟨_, rfl⟩
      rw [← hmm] at HNX
      have HMM : Hid (mm = numTo dg (k + 1)) := hmm
      clear hmm
      generalize numTo dg k = m at HNX hN
      have w1 : IntKind.i64.wrap ((m : Int) * 256) = (m : Int) * 256 := IntWalk.i64_in _ (by omega)
      have w2 : IntKind.i64.wrap ((m : Int) * 256 + (B : Int)) = (m : Int) * 256 + (B : Int) := IntWalk.i64_in _ (by omega)
      have w3 : IntKind.i64.wrap (B : Int) = (B : Int) := IntWalk.i64_in _ (by omega)
      go_wp2
      go_roundw
      case rel => exact ⟨k + 1, by go_num, hlt, by rw [← HMM.out, HNX.out], HW.out⟩
      case measure => simp [intOf]; omega
    · have hlt' : ¬ (k : Int) < 4 := by omega
      have HK : Hid (k = 4) := (show k = 4 by omega)
      have HO : Hid (∀ w, Calls Tryd.prog 62 #[.int .i64 ((numTo dg k : Nat) : Int)] w fun e w' => e = .returned (.int .i64 x) ∧ w = w') := by
        rw [HK.out, ← HX.out]
        exact fieldOf_any _
      generalize numTo dg k = m at HO
      go_wp2_with (go_at_call 62; refine (HO.out _).mono ?_; rintro e wz ⟨rfl, rfl⟩)
      go_ret
      exact ⟨rfl, HW.out⟩

set_option maxHeartbeats 800000 in
set_option maxRecDepth 100000 in
theorem hashedPlace_any (n : Nat) (hn : n < 256) (t : ByteArray) (ht : t.size ≤ 1048576) (w : World) (hT : Tab w) :
    Calls Tryd.prog 35 #[.int .u8 (n : Int), .string t] w fun e w' => ∃ v', e = .returned v' ∧ PAt w' v' (hashTry t n) ∧ Below w.heap.size w w' := by
  have HN : Hid (Calls Tryd.prog 52 #[.int .u8 (n : Int), .string t] w fun e w' => e = .returned (.int .i64 (hashX t n)) ∧ Below w.heap.size w w') := hashedNumber_any n hn t ht w hT
  have HC : Hid (∀ w, Calls Tryd.prog 50 #[.int .i64 (hashX t n)] w fun e w' => e = .returned (.int .i64 (rhs (hashX t n))) ∧ w = w') := fun w => curveAt_any (hashX_in t n) w
  have HR : Hid (∀ w, Calls Tryd.prog 53 #[.int .i64 (rhs (hashX t n))] w fun e w' => e = .returned (.tuple #[.int .i64 (rootV (rhs (hashX t n))), .bool (rootB (rhs (hashX t n)))]) ∧ w = w') := fun w => root_any _ (fi_rhs _).1 (fi_rhs _).2 w
  have HP : Hid (rootB (rhs (hashX t n)) = true → POk (hashX t n, rootV (rhs (hashX t n)), false)) := rootB_ok (hashX_in t n)
  have HE : Hid (POk (hashX t n, rootV (rhs (hashX t n)), false) → pTim 12 (hashX t n, rootV (rhs (hashX t n)), false) = hashAt t n) := fun h => (ptimes_tim (pokB.2 h)).symm
  have HT : Hid (hashTry t n = if rootB (rhs (hashX t n)) = true then hashAt t n else pZ) := rfl
  clear hT
  obtain ⟨R, hR⟩ : ∃ R, R = hashTry t n := ⟨_, rfl⟩
  rw [← hR] at HT ⊢
  clear hR
  generalize hashAt t n = p at HE HT
  generalize rootV (rhs (hashX t n)) = y at HR HP HE
  generalize rootB (rhs (hashX t n)) = ok at HR HP HT
  generalize rhs (hashX t n) = rr at HC HR
  generalize hashX t n = x at HN HC HP HE
  cases ok
  · have HZ : Hid (R = pZ) := HT.out.trans (if_neg (by decide))
    clear HT HP HE
    go_enter Tryd.func35, Tryd.ntmps35
    go_wp2_with fail
    refine HN.out.mono ?_
    rintro e w1 ⟨rfl, hb1⟩
    go_wp2_with (first | (go_at_call 50; refine (HC.out _).mono ?_; rintro e wz ⟨rfl, rfl⟩) | (go_at_call 53; refine (HR.out _).mono ?_; rintro e wz ⟨rfl, rfl⟩))
    go_ret
    exact ⟨_, rfl, by rw [HZ.out]; exact pat_zero _, hb1⟩
  · have HZ : Hid (R = p) := HT.out.trans (if_pos rfl)
    have HP1 : Hid (POk (x, y, false)) := HP.out rfl
    have HE1 : Hid (pTim 12 (x, y, false) = p) := HE.out HP1.out
    clear HT HP HE
    go_enter Tryd.func35, Tryd.ntmps35
    go_wp2_with fail
    refine HN.out.mono ?_
    rintro e w1 ⟨rfl, hb1⟩
    have HB1 : Hid (Below w.heap.size w w1) := hb1
    clear hb1
    go_wp2_with (first | (go_at_call 50; refine (HC.out _).mono ?_; rintro e wz ⟨rfl, rfl⟩) | (go_at_call 53; refine (HR.out _).mono ?_; rintro e wz ⟨rfl, rfl⟩) | (go_at_call 33; fail))
    have hb2 := below_then HB1.out ((Below.refl _ w1).alloc (Nat.le_refl _) (.cells #[.int .i64 x, .int .i64 y] 62))
    refine (timesC_any _ (x, y, false) 12 _ (.inr ⟨_, x, y, rfl, rfl, Blk.new w1 62 #[.int .i64 x, .int .i64 y]⟩) HP1.out).mono ?_
    rintro e w3 ⟨v', rfl, hp3, hb3⟩
    have HP3 : Hid (PAt w3 v' (pTim 12 (x, y, false))) := hp3
    have HB3 : Hid (Below w.heap.size w w3) := below_then hb2 hb3
    clear hp3 hb3 hb2
    go_wp2
    go_ret
    exact ⟨_, rfl, by rw [HZ.out, ← HE1.out]; exact HP3.out, HB3.out⟩

set_option maxHeartbeats 1600000 in
set_option maxRecDepth 100000 in
theorem iHash_any (t : ByteArray) (ht : t.size ≤ 1048576) (w : World) (hT : Tab w) :
    Calls Tryd.prog 22 #[.string t] w fun e w' => e = .returned (pv (hashPt t)) ∧ Below w.heap.size w w' := by
  have HTB : Hid (∀ w', Below w.heap.size w w' → Tab w') := fun w' hb => hT.on hb hT.1
  clear hT
  obtain ⟨RS, hRS⟩ : ∃ RS, RS = hashPt t := ⟨_, rfl⟩
  have HR0 : Hid (hashFrom t (64 - 0) 0 = RS) := hRS.symm
  rw [← hRS]
  clear hRS
  go_enter Tryd.func22, Tryd.ntmps22
  go_wp2
  refine wp_scope_jumps 0 (fun a' w' => ∃ (v u4 u5 u6 u7 u8 u9 u10 u11 u12 u13 u14 u15 u16 u17 : Value), a' = { tmps := #[.string t, undef, .pointer (some ⟨w.heap.size, 0, none⟩), v, u4, u5, u6, u7, u8, u9, u10, u11, u12, u13, u14, u15, u16, u17], defers := [] } ∧ Hid (PAt w' v RS) ∧ Hid (Blk w' w.heap.size 23 #[.int .i64 0, .int .i64 0, .bool false] ∧ Below w.heap.size w w')) (fun _ _ => 0) rfl ?_ ?_
  · go_wp2
    obtain ⟨W0, hW0, hb0, hr0⟩ := box1 w 23 #[.int .i64 0, .int .i64 0, .bool false]
    rw [hW0]
    have HD0 : Hid (Blk W0 w.heap.size 23 #[.int .i64 0, .int .i64 0, .bool false] ∧ Below w.heap.size w W0) := ⟨hr0, hb0⟩
    clear hW0 hb0 hr0
    go_loopw [3, 5] (fun _ i wr => ∃ n : Nat, i = .int .i64 (n : Int) ∧ n ≤ 64 ∧ Hid (hashFrom t (64 - n) n = RS) ∧ Hid (Blk wr w.heap.size 23 #[.int .i64 0, .int .i64 0, .bool false] ∧ Below w.heap.size w wr)) (fun _ i _ => 64 - (intOf i).toNat)
    case atStart => exact ⟨0, rfl, by omega, HR0, HD0⟩
    case round =>
      obtain ⟨n, rfl, hn, HR, HD⟩ := hrel
      clear HR0 HD0
      by_cases hlt : n < 64
      · have hlt' : (n : Int) < 64 := by omega
        have hn8 : IntKind.u8.wrap (n : Int) = (n : Int) := by rw [IntWalk.u8_in _ (by omega)]
        have HP : Hid (∀ w, Tab w → Calls Tryd.prog 35 #[.int .u8 (n : Int), .string t] w fun e w' => ∃ v', e = .returned v' ∧ PAt w' v' (hashTry t n) ∧ Below w.heap.size w w') := fun w h => hashedPlace_any n (by omega) t ht w h
        have HNX : Hid ((if (hashTry t n).2.2 = true then hashFrom t (64 - (n + 1)) (n + 1) else hashTry t n) = RS) := by
          have h := HR.out
          rw [show 64 - n = (64 - (n + 1)) + 1 by omega, hash_next] at h
          exact h
        clear HR
        generalize hashTry t n = P at HP HNX
        go_wp2_with fail
        refine (HP.out _ (HTB.out _ HD.out.2)).mono ?_
        rintro e w1 ⟨v1, rfl, hp1, hb1⟩
        have HD1 : Hid (Blk w1 w.heap.size 23 #[.int .i64 0, .int .i64 0, .bool false] ∧ Below w.heap.size w w1) := ⟨HD.out.1.on hb1 HD.out.1.lt, below_then HD.out.2 hb1⟩
        clear HD hb1 HP
        rcases hp1 with ⟨rfl, rfl⟩ | ⟨b, x, y, rfl, rfl, hx⟩
        · have HN : Hid (hashFrom t (64 - (n + 1)) (n + 1) = RS) := by
            exact HNX.out
          clear HNX
          go_wp2
          go_roundw
          case rel => exact ⟨n + 1, by go_num, by omega, HN, HD1⟩
          case measure => simp [intOf]; omega
        · have HN : Hid ((x, y, false) = RS) := HNX.out
          have HX : Hid (Blk w1 b 62 #[.int .i64 x, .int .i64 y]) := hx
          clear HNX hx
          go_wp2
          go_step3
          exact ⟨rfl, _, _, _, _, _, _, _, _, _, _, _, _, _, _, _, rfl, by rw [← HN.out]; exact .inr ⟨b, x, y, rfl, rfl, HX.out⟩, HD1⟩
      · have hlt' : ¬ (n : Int) < 64 := by omega
        have HN : Hid (pB = RS) := by
          have h := HR.out
          rw [show 64 - n = 0 by omega] at h
          exact h
        have HB : Hid (∀ w, Calls Tryd.prog 36 #[] w fun e w' => e = .returned (pv pB) ∧ Below w.heap.size w w') := iBase_any
        generalize pB = B at HN HB
        clear HR
        go_wp2_with fail
        refine (HB.out _).mono ?_
        rintro e w1 ⟨rfl, hb1⟩
        have hr1 := HD.out.1.on hb1 HD.out.1.lt
        have hB1 := below_then HD.out.2 hb1
        clear HD hb1 HB
        go_wp2_with (refine store_blk (cs' := pc B) rfl rfl rfl rfl rfl hr1 infoP rfl (ones3 _ _ _) ?_; intro V h5 hoth hbel; have hbV := hbel _ _ (by omega) hB1; clear hoth hbel)
        simp only [Exit.jump]
        refine bodyPost_ret_by (result_blk rfl rfl h5 Tryd.underlying23 infoP) rfl ⟨by rw [← HN.out] <;> rfl, hbV⟩
  · rintro a' wr ⟨v, u4, u5, u6, u7, u8, u9, u10, u11, u12, u13, u14, u15, u16, u17, rfl, HP, HD⟩
    clear HR0
    have HC : Hid (Calls Tryd.prog 34 #[v] wr fun e w' => e = .returned (pv RS) ∧ Below wr.heap.size wr w') := point_any v RS wr HP.out
    have hr0 := HD.out.1
    have hb0 := HD.out.2
    clear HP HD
    go_wp2_with fail
    refine HC.out.mono ?_
    rintro e w1 ⟨rfl, hb1⟩
    have hr1 := hr0.on hb1 hr0.lt
    have hB1 := below_then hb0 hb1
    clear hr0 hb0 hb1 HC
    go_wp2_with (refine store_blk (cs' := pc RS) rfl rfl rfl rfl rfl hr1 infoP rfl (ones3 _ _ _) ?_; intro V h5 hoth hbel; have hbV := hbel _ _ (by omega) hB1; clear hoth hbel)
    simp only [Exit.jump]
    refine bodyPost_ret_by (result_blk rfl rfl h5 Tryd.underlying23 infoP) rfl ⟨rfl, hbV⟩

end Go.Proofs.YtkmelamfohfdkabDoor
