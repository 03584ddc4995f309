/-
  Texts of one's own, joined.
-/
import Derived.Test.YtkmelamfohfdkabDoorJoined41
import Derived.Test.YtkmelamfohfdkabDoorHashI
import Derived.Test.YtkmelamfohfdkabDoorJoined49
import Derived.Test.YtkmelamfohfdkabDoorJoined50
import Derived.Test.YtkmelamfohfdkabDoorJoined28
import Derived.Test.YtkmelamfohfdkabDoorJoined20
import Derived.Test.YtkmelamfohfdkabDoorJoined48

/-
  The walk of the program's SignWith.
  (-DROP-: what the seat lacks is left out.)
-/
namespace Go.Proofs.YtkmelamfohfdkabDoor
open Go.RowKit

set_option maxHeartbeats 800000 in
set_option maxRecDepth 100000 in
theorem iSign_any (k : Int) (t : ByteArray) (ht : t.size ≤ 1048576) (w : World) (hT : Tab w) :
    Calls Tryd.prog 15 #[.int .i64 k, .string t] w fun e w' => e = .returned (pv (signP k (hashPt t))) ∧ Below w.heap.size w w' := by
  have HTB : Hid (Tab w) := hT
  clear hT
  obtain ⟨H, hH⟩ : ∃ H, H = hashPt t := ⟨_, rfl⟩
  have HB : Hid (∀ w, Tab w → Calls Tryd.prog 22 #[.string t] w fun e w' => e = .returned (pv H) ∧ Below w.heap.size w w') := by rw [hH]; exact fun w h => iHash_any t ht w h
  rw [← hH]
  clear hH
  have HO : Hid (∀ w, Calls Tryd.prog 21 #[.int .i64 k] w fun e w' => e = .returned (.int .i64 (sca k)) ∧ w = w') := iScOf_any k
  have HT : Hid (∀ w, Calls Tryd.prog 20 #[.int .i64 (sca k), pv H] w fun e w' => e = .returned (pv (signP k H)) ∧ Below w.heap.size w w') := iTimes_any (sca k) H
  generalize signP k H = K at HT ⊢
  generalize sca k = s at HO HT
  go_enter Tryd.func15, Tryd.ntmps15
  go_wp2_with fail
  obtain ⟨W, hW, hb, hr⟩ := box1 w 23 #[.int .i64 0, .int .i64 0, .bool false]
  rw [hW]
  clear hW
  refine (HO.out _).mono ?_
  rintro e w1 ⟨rfl, rfl⟩
  go_wp2_with fail
  refine (HB.out _ (HTB.out.on hb HTB.out.1)).mono ?_
  rintro e w2 ⟨rfl, hb2⟩
  go_wp2_with fail
  refine (HT.out _).mono ?_
  rintro e w3 ⟨rfl, hb3⟩
  have hr3 := (hr.on hb2 hr.lt).on hb3 (by have := hb2.size; have := hr.lt; omega)
  have hB3 := below_then (below_then hb hb2) hb3
  clear hb hb2 hb3 hr
  go_wp2_with (refine store_blk (cs' := pc K) rfl rfl rfl rfl rfl hr3 infoP rfl (ones3 _ _ _) ?_; intro V h5 hoth hbel; have hbV := hbel _ _ (by omega) hB3; clear hoth hbel)
  refine bodyPost_ret_by (result_blk rfl rfl h5 Tryd.underlying23 infoP) rfl ⟨rfl, hbV⟩

end Go.Proofs.YtkmelamfohfdkabDoor

/-
  What many sign together.
-/
namespace Go.Proofs.YtkmelamfohfdkabDoor

/-- The first n secrets together. -/
def sumS (x : Nat → Int) : Nat → Nat
  | 0 => 0
  | n + 1 => sumS x n + scn (x n)
/-- As scalars. -/
def sumI (x : Nat → Int) : Nat → Int
  | 0 => 0
  | n + 1 => scAdd (sumI x n) (x n)
/-- What the first n sign. -/
def sigN (H : Pt) (x : Nat → Int) : Nat → Pt
  | 0 => pZ
  | n + 1 => pSum (sigN H x n) (signP (x n) H)

theorem keys_sum (x : Nat → Int) : ∀ n, sumN (fun j => keyP (x j)) n = pMul pB (sumS x n)
  | 0 => rfl
  | n + 1 => by
    show pSum (sumN _ n) (keyP (x n)) = _
    rw [keys_sum x n, key_mul, psum_eq (pmul_ok pb_ok _) (pmul_ok pb_ok _), ← pmul_add pb_ok]
    rfl

theorem sigs_sum (x : Nat → Int) (m : Nat) : ∀ n, sigN (pMul pB m) x n = pMul pB (m * sumS x n % 1009)
  | 0 => rfl
  | n + 1 => by
    show pSum (sigN _ x n) (signP (x n) (pMul pB m)) = _
    rw [sigs_sum x m n, sign_mul, psum_eq (pmul_ok pb_ok _) (pmul_ok pb_ok _), ← pmul_add pb_ok, mulb_rest]
    congr 1
    show _ = m * (sumS x n + scn (x n)) % 1009
    rw [Nat.mul_add]
    omega

theorem sum_scalars (x : Nat → Int) : ∀ n, sumI x n = ((sumS x n % 1009 : Nat) : Int)
  | 0 => rfl
  | n + 1 => by
    show sca (sca (sumI x n) + sca (x n)) = ((sumS x n + scn (x n)) % 1009 : Nat)
    rw [sum_scalars x n, (sca_nat (x n)).1]
    unfold sca
    omega

theorem together_facts (x : Nat → Int) {m : Nat} (h0 : 0 < m) (hm : m < 1009) (n : Nat) :
    sigB (sumN (fun j => keyP (x j)) n) (sigN (pMul pB m) x n) (pMul pB m) = !decide (sumI x n = 0) ∧ signP (sumI x n) (pMul pB m) = sigN (pMul pB m) x n := by
  have hs : sumS x n % 1009 < 1009 := Nat.mod_lt _ (by decide)
  have hc : scn (sumI x n) = sumS x n % 1009 := by
    rw [sum_scalars, scn_small hs]
  constructor
  · rw [keys_sum, sigs_sum, mulb_rest (sumS x n), sig_gp hs (Nat.mod_lt _ (by decide)) hm, sum_scalars]
    have e : m * sumS x n % 1009 = m * (sumS x n % 1009) % 1009 := by rw [Nat.mul_mod m (sumS x n % 1009), Nat.mod_mod, ← Nat.mul_mod]
    rw [e]
    clear e
    generalize sumS x n % 1009 = s at hs ⊢
    by_cases hz : s = 0
    · rw [hz]
      rfl
    · have h1 := no_part h0 hm (by omega) hs
      rw [decide_eq_true ⟨hz, h1, rfl⟩, decide_eq_false (show ¬ ((s : Nat) : Int) = 0 by omega)]
      rfl
  · rw [sign_mul, hc, sigs_sum]
    congr 1
    rw [Nat.mul_mod m (sumS x n % 1009), Nat.mod_mod, ← Nat.mul_mod]

end Go.Proofs.YtkmelamfohfdkabDoor

/-
  What many sign is right for all of them together.
-/
namespace Go.Proofs.YtkmelamfohfdkabDoor
open Go.RowKit

/-- The keys of the first n secrets. -/
def keysL (x : Nat → Int) (n : Nat) : List Pt := (List.range n).map fun j => keyP (x j)
theorem keysL_next (x : Nat → Int) (n : Nat) : keysL x (n + 1) = keysL x n ++ [keyP (x n)] := by
  unfold keysL
  rw [List.range_succ, List.map_append]
  rfl
theorem keysL_length (x : Nat → Int) (n : Nat) : (keysL x n).length = n := by simp [keysL]
theorem sumN_congr {f g : Nat → Pt} : ∀ n, (∀ j, j < n → f j = g j) → sumN f n = sumN g n
  | 0, _ => rfl
  | n + 1, h => by
    show pSum (sumN f n) (f n) = pSum (sumN g n) (g n)
    rw [sumN_congr n fun j hj => h j (by omega), h n (by omega)]
theorem keysL_sum (x : Nat → Int) (n : Nat) : sumN (fun j => (keysL x n).getD j pZ) n = sumN (fun j => keyP (x j)) n :=
  sumN_congr n fun j hj => by
    unfold keysL
    simp [hj]

theorem together_all (x : Nat → Int) {m : Nat} (h0 : 0 < m) (hm : m < 1009) {n : Nat} (hn : 0 < n) :
    allB (fun j => (keysL x n).getD j pZ) n (sigN (pMul pB m) x n) (pMul pB m) = !decide (sumI x n = 0) ∧ signP (sumI x n) (pMul pB m) = sigN (pMul pB m) x n := by
  obtain ⟨h1, h2⟩ := together_facts x h0 hm n
  refine ⟨?_, h2⟩
  unfold allB
  rw [keysL_sum, h1, decide_eq_true hn, Bool.true_and]

end Go.Proofs.YtkmelamfohfdkabDoor

/-
  The walk of the program's signature by bits: what each signs, put together.
  (-DROP-: what the seat lacks is left out.)
-/
namespace Go.Proofs.YtkmelamfohfdkabDoor
open Go.RowKit

/-- What those sign whose bits are set. -/
def sgnL (n b : Int) (H : Pt) : Nat → List Pt
  | 0 => []
  | k + 1 => if b / 2 ^ k % 2 = 1 then sgnL n b H k ++ [signP (sec n k) H] else sgnL n b H k

theorem sgnL_len (n b : Int) (H : Pt) : ∀ k, (sgnL n b H k).length ≤ k
  | 0 => Nat.le_refl _
  | k + 1 => by
    have := sgnL_len n b H k
    unfold sgnL
    split
    · rw [List.length_append]; simp; omega
    · omega

theorem scn_add (a s : Int) : scn (scAdd a s) = (scn a + scn s) % 1009 := by
  have h1 := scn_cast a
  have h2 := scn_cast s
  have h3 := scn_cast (scAdd a s)
  unfold scAdd at h3 ⊢
  rw [sca_sca] at h3
  unfold sca at *
  omega

theorem sign_add (a s : Int) (m : Nat) : pSum (signP a (pMul pB m)) (signP s (pMul pB m)) = signP (scAdd a s) (pMul pB m) := by
  rw [sign_mul, sign_mul, sign_mul, psum_eq (pmul_ok pb_ok _) (pmul_ok pb_ok _), ← pmul_add pb_ok, mulb_rest, scn_add, scm_right, Nat.mul_add]
  congr 1
  omega

theorem sgn_sum (n b : Int) (m : Nat) : ∀ k, sumN (fun j => (sgnL n b (pMul pB m) k).getD j pZ) (sgnL n b (pMul pB m) k).length = signP (sumBits n b k) (pMul pB m)
  | 0 => by
    show pZ = signP 0 (pMul pB m)
    rw [sign_mul, show scn 0 = 0 from rfl, Nat.mul_zero, Nat.zero_mod]
    rfl
  | k + 1 => by
    have ih := sgn_sum n b m k
    unfold sgnL sumBits
    by_cases h : b / 2 ^ k % 2 = 1
    · rw [if_pos h, if_pos h, List.length_append]
      show pSum (sumN _ (sgnL n b (pMul pB m) k).length) _ = _
      rw [← sign_add, ← ih]
      congr 1
      · refine sumN_congr _ fun j hj => ?_
        simp [List.getElem?_append_left hj]
      · simp
    · rw [if_neg h, if_neg h]
      exact ih

set_option maxHeartbeats 1600000 in
set_option maxRecDepth 100000 in
theorem iSignBits_any (s b : Int) (t : ByteArray) (ht : t.size ≤ 1048576) (w : World) (hT : Tab w) :
    Calls Tryd.prog 5 #[.int .i64 s, .int .i64 b, .string t] w fun e w' => e = .returned (pv (signBP s b (hashPt t))) ∧ Below w.heap.size w w' := by
  obtain ⟨i0, hi, hz0, hz1, hz2⟩ := info_parts infoPz
  have HTB : Hid (Tab w) := hT
  clear hT
  obtain ⟨H, hH⟩ : ∃ H, H = hashPt t := ⟨_, rfl⟩
  have HSG : Hid (∀ (k : Int) (w : World), Tab w → Calls Tryd.prog 15 #[.int .i64 k, .string t] w fun e w' => e = .returned (pv (signP k H)) ∧ Below w.heap.size w w') := fun k w h => by rw [hH]; exact iSign_any k t ht w h
  have HSUM : Hid (sumN (fun j => (sgnL (s % 1000) b H 8).getD j pZ) (sgnL (s % 1000) b H 8).length = signP (sumBits (s % 1000) b 8) H) := by
    obtain ⟨m, _, _, hm⟩ := hash_gp t
    rw [← hH] at hm
    rw [hm]
    exact sgn_sum (s % 1000) b m 8
  rw [← hH]
  clear hH ht
  have HB : Hid (∀ w, Calls Tryd.prog 12 #[.int .i64 b] w fun e w' => e = .returned (.bool (decide (0 ≤ b ∧ b ≤ 255))) ∧ w = w') := bitsOk_any b
  unfold signBP
  by_cases hbb : 0 ≤ b ∧ b ≤ 255
  · rw [decide_eq_true hbb] at HB
    rw [if_pos hbb]
    obtain ⟨b0, b1⟩ := hbb
    obtain ⟨n, hn⟩ : ∃ n, n = s % 1000 := ⟨_, rfl⟩
    rw [← hn] at HSUM ⊢
    have HNS : Hid (n = s % 1000) := hn
    clear hn
    obtain ⟨RS, hRS⟩ : ∃ RS, RS = signP (sumBits n b 8) H := ⟨_, rfl⟩
    rw [← hRS] at HSUM ⊢
    clear hRS
    obtain ⟨W, hW, hb, hr, he⟩ := boxes1r w 23 23 #[.int .i64 0, .int .i64 0, .bool false] #[]
    have hown0 : W.ownsRow (w.heap.size + 1) 23 3 (.slice (some ⟨w.heap.size + 1, 0, none⟩) 0 0) 0 (ptsV []) := by
      have h := World.ownsRow_lit (base := w.heap.size + 1) (e := 23) (size := 3) (w.alloc (.cells #[.int .i64 0, .int .i64 0, .bool false] 23)) #[] 0 (by simp) (by simp [maxLen]) (by simp)
      rw [hW] at h
      have h' : W.ownsRow (w.heap.size + 1) 23 3 (.slice (some ⟨w.heap.size + 1, 0, none⟩) 0 0) 0 [] := by simpa using h
      exact h'
    go_enter Tryd.func5, Tryd.ntmps5
    go_wp2_with (go_at_call 12; refine (HB.out _).mono ?_; rintro e wz ⟨rfl, rfl⟩)
    clear hW
    refine (iSecs_any s _).mono ?_
    rintro e w1 ⟨v, rfl, hR, hb1⟩
    obtain ⟨g, c, rfl, hcl⟩ := hR.form
    have hg : w.heap.size + 2 ≤ g := by
      have h1 := (World.ownsRow.lt hR g rfl).1
      have h2 := he.lt
      omega
    rw [← HNS.out] at hcl
    have HC : Hid (∀ j, j < 8 → w1.cell? ⟨g, j, none⟩ = some (.int .i64 (sec n j))) := hcl
    have HI : Hid (Blk w1 w.heap.size 23 #[.int .i64 0, .int .i64 0, .bool false] ∧ Below w.heap.size w w1) := ⟨hr.on hb1 hr.lt, below_then hb hb1⟩
    have hown1 := owns_on hown0 hb1
    clear hb hb1 hr he hR hcl HB hown0 HNS
    go_wp2
    go_loopw [7, 18] (fun v i wr => ∃ (k : Nat) (l : List Pt), i = .int .i64 (k : Int) ∧ k ≤ 8 ∧ Hid (l = sgnL n b H k) ∧ wr.ownsRow (w.heap.size + 1) 23 3 v l.length (ptsV l) ∧ Hid (Blk wr w.heap.size 23 #[.int .i64 0, .int .i64 0, .bool false] ∧ Below w.heap.size w wr ∧ wr.heap[g]? = w1.heap[g]? ∧ v.ownBlock ≠ some g)) (fun _ i _ => 8 - (intOf i).toNat)
    case atStart => exact ⟨0, [], rfl, Nat.zero_le _, rfl, hown1, ⟨HI.out.1, HI.out.2, rfl, by simp [Value.ownBlock]; omega⟩⟩
    case round =>
      obtain ⟨k, l, rfl, hk, HL, hown, HD⟩ := hrel
      clear HI hown1
      have hll : l.length ≤ k := by rw [HL.out]; exact sgnL_len n b H k
      have hm63 : l.length + 1 ≤ maxLen := by unfold maxLen; omega
      have hm47 : (l.length + 1) * 24 ≤ 140737488355328 := by omega
      have hsz : w.heap.size + 1 ≤ wr.heap.size := HD.out.1.lt
      clear hll
      by_cases hlt : k < 8
      · have hlt' : (k : Int) < 8 := by omega
        have hk0 : (0 : Int) ≤ (k : Int) := by omega
        have z0 : wr.cell? ⟨g, k, none⟩ = some (.int .i64 (sec n k)) := (cell_same HD.out.2.2.1).trans (HC.out k hlt)
        have hgl : g < wr.heap.size := World.block_lt_of_cell? wr _ z0
        have HH : Hid (∀ w, Calls Tryd.prog 14 #[.int .i64 b, .int .i64 (k : Int)] w fun e w' => e = .returned (.bool (decide (b / 2 ^ k % 2 = 1))) ∧ w = w') := hasBit_any b k hlt b0
        have HN : Hid (sgnL n b H (k + 1) = if b / 2 ^ k % 2 = 1 then sgnL n b H k ++ [signP (sec n k) H] else sgnL n b H k) := rfl
        have HS := HSG.out (sec n k) wr (HTB.out.on HD.out.2.1 HTB.out.1)
        generalize signP (sec n k) H = P at HN HS
        generalize sec n k = x at z0 HS
        by_cases h2 : b / 2 ^ k % 2 = 1
        · rw [decide_eq_true h2] at HH
          rw [if_pos h2] at HN
          clear h2
          go_wp2_with (go_at_call 14; refine (HH.out _).mono ?_; rintro e wz ⟨rfl, rfl⟩)
          refine HS.mono ?_
          rintro e w5 ⟨rfl, hb5⟩
          have hown5 := owns_on hown hb5
          have HD5 : Hid (Blk w5 w.heap.size 23 #[.int .i64 0, .int .i64 0, .bool false] ∧ Below w.heap.size w w5 ∧ w5.heap[g]? = w1.heap[g]?) := ⟨HD.out.1.on hb5 HD.out.1.lt, below_then HD.out.2.1 hb5, (hb5.block g hgl).trans HD.out.2.2.1⟩
          have hsz5 : w.heap.size + 1 ≤ w5.heap.size := HD5.out.1.lt
          have hgl5 : g < w5.heap.size := by have := hb5.size; omega
          clear hb5 hown HS z0 hsz hgl
          obtain ⟨p1, p2, pz⟩ := P
          go_wp2_with (at_builtin; refine wpList_append_own_at _ rfl _ _ 35 rfl (w.heap.size + 1) 23 i0 (.agg #[.int .i64 0, .int .i64 0, .bool false]) 3 24 Tryd.underlying35 hi hz0 hz1 hz2 rfl (by decide) _ _ _ rfl (hown5.alloc _) ⟨w5.heap.size, 0, none⟩ 1 1 [.int .i64 p1, .int .i64 p2, .bool pz] rfl rfl (cell_three_new _ _ _ _ _) (three_cell _ _ _) hm63 hm47 (room_for hsz5 _) ?_)
          intro v' w7 hown' hgrow _ hat
          have R7 : w7.ownsRow (w.heap.size + 1) 23 3 v' (l ++ [(p1, p2, pz)]).length (ptsV (l ++ [(p1, p2, pz)])) := by
            rw [ptsV_append, List.length_append]; exact hown'
          have HD7 : Hid (Blk w7 w.heap.size 23 #[.int .i64 0, .int .i64 0, .bool false] ∧ Below w.heap.size w w7 ∧ w7.heap[g]? = w1.heap[g]? ∧ v'.ownBlock ≠ some g) := by
            refine ⟨(hgrow.block w.heap.size (HD5.out.1.alloc _).lt (fun e => by have := (hown5.lt _ e.symm).1; omega)).trans (HD5.out.1.alloc _), (HD5.out.2.1.alloc (by omega) _).grown hgrow (by simp; omega) (fun k hk => by have := (hown5.lt k hk).1; omega), ?_, ?_⟩
            · rw [hgrow.block g (by simp; omega) (fun e => HD.out.2.2.2 e.symm)]
              rw [← HD5.out.2.2]
              exact heap_alloc_old w5 _ hgl5
            · rcases hat with h | h
              · rw [h]; exact HD.out.2.2.2
              · rw [h]; simp; omega
          have HL2 : Hid (l ++ [(p1, p2, pz)] = sgnL n b H (k + 1)) := by show _ = _; rw [HN.out, HL.out]
          clear hown' hgrow hown5 HD5 hsz5 hat HD
          go_wp2
          go_roundw
          case rel => exact ⟨k + 1, _, by go_num, hlt, HL2, R7, HD7⟩
          case measure => simp [intOf]; omega
        · rw [decide_eq_false h2] at HH
          rw [if_neg h2] at HN
          have HL2 : Hid (l = sgnL n b H (k + 1)) := by show _ = _; rw [HN.out, HL.out]
          have HO : Hid (wr.ownsRow (w.heap.size + 1) 23 3 _ l.length (ptsV l)) := hown
          clear h2 hown HS
          go_wp2_with (go_at_call 14; refine (HH.out _).mono ?_; rintro e wz ⟨rfl, rfl⟩)
          go_roundw
          case rel => exact ⟨k + 1, _, by go_num, hlt, HL2, HO.out, HD⟩
          case measure => simp [intOf]; omega
      · have hlt' : ¬ (k : Int) < 8 := by omega
        obtain rfl : k = 8 := by omega
        obtain ⟨a7, c7, hv7, hp7⟩ := RowP.pts (l := l) hown
        subst hv7
        have HP := iSumP_any a7 l.length c7 (by unfold maxLen at hm63; omega) (fun j => l.getD j pZ) wr hp7
        rw [HL.out, HSUM.out] at HP
        rw [← HL.out] at HP
        have hr2 := HD.out.1
        have hB2 := HD.out.2.1
        clear hown HD HC HSG HSUM hp7 hm63 hm47
        go_wp2_with fail
        refine HP.mono ?_
        rintro e w9 ⟨rfl, hb9⟩
        have hr9 := hr2.on hb9 hr2.lt
        have hB9 := below_then hB2 hb9
        clear hb9 hr2 hB2 HP
        go_wp2_with (refine store_blk (cs' := pc RS) rfl rfl rfl rfl rfl hr9 infoP rfl (ones3 _ _ _) ?_; intro V h5 hoth hbel; have hbV := hbel _ _ (by omega) hB9; clear hoth hbel)
        refine bodyPost_ret_by (result_blk rfl rfl h5 Tryd.underlying23 infoP) rfl ⟨rfl, hbV⟩
  · rw [decide_eq_false hbb] at HB
    rw [if_neg hbb]
    obtain ⟨W, hW, hb, hr⟩ := box1 w 23 #[.int .i64 0, .int .i64 0, .bool false]
    go_enter Tryd.func5, Tryd.ntmps5
    go_wp2_with (first | (go_at_call 12; refine (HB.out _).mono ?_; rintro e wz ⟨rfl, rfl⟩) | (refine store_blk (cs' := pc pZ) rfl rfl rfl rfl rfl hr infoP rfl (ones3 _ _ _) ?_; intro V h5 hoth hbel; have hbV := hbel _ _ (Nat.le_refl _) hb; clear hoth hbel))
    refine bodyPost_ret_by (result_blk rfl rfl h5 Tryd.underlying23 infoP) rfl ⟨rfl, hbV⟩

end Go.Proofs.YtkmelamfohfdkabDoor
