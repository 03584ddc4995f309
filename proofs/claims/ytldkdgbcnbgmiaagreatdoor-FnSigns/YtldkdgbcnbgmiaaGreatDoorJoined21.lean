/-
  Texts of one's own, joined.
-/
import Derived.Test.YtldkdgbcnbgmiaaGreatDoorJoined18
import Derived.Test.YtldkdgbcnbgmiaaGreatDoorJoined19
import Derived.Test.YtldkdgbcnbgmiaaGreatDoorPad
import Derived.Test.YtldkdgbcnbgmiaaGreatDoorJoined17
import Derived.Test.YtldkdgbcnbgmiaaGreatDoorJoined16

/-
  A digest: plain mathematics.
-/
namespace Go.Proofs.YtldkdgbcnbgmiaaGreatDoor

/-- Words of a text from a place on, put to a state. -/
def mixA (f : Nat → BitVec 64) (l : List UInt8) (a : Nat) : Nat → Nat → BitVec 64
  | 0 => f
  | k + 1 => upd (mixA f l a k) k (mixA f l a k k ^^^ wordAt l (a + 8 * k))

theorem mixA_at (f : Nat → BitVec 64) (l : List UInt8) (a k i : Nat) : mixA f l a k i = if i < k then f i ^^^ wordAt l (a + 8 * i) else f i := by
  induction k with
  | zero => simp [mixA]
  | succ k ih =>
    rw [mixA]
    unfold upd
    by_cases h : i = k
    · subst h; rw [if_pos rfl, ih, if_neg (by omega), if_pos (by omega)]
    · rw [if_neg h, ih]
      by_cases h2 : i < k
      · rw [if_pos h2, if_pos (by omega)]
      · rw [if_neg h2, if_neg (by omega)]

/-- A block of a text. -/
def blk (l : List UInt8) (k : Nat) : List UInt8 := (l.drop (136 * k)).take 136

theorem wordAt_blk (l : List UInt8) (k i : Nat) (h : i < 17) : wordAt (blk l k) (8 * i) = wordAt l (136 * k + 8 * i) := by
  apply BitVec.eq_of_getLsbD_eq
  intro j hj
  rw [wordAt_bit _ _ _ hj, wordAt_bit _ _ _ hj]
  unfold blk
  rw [List.getD_eq_getElem?_getD, List.getD_eq_getElem?_getD, List.getElem?_take, if_pos (by omega), List.getElem?_drop]
  congr 4
  omega

theorem mixA_blk (f : Nat → BitVec 64) (l : List UInt8) (k : Nat) : mixA f l (136 * k) 17 = mixK f (blk l k) 17 := by
  funext i
  rw [mixA_at, mixK_at]
  by_cases h : i < 17
  · rw [if_pos h, if_pos h, wordAt_blk l k i h]
  · rw [if_neg h, if_neg h]

/-- The state behind k blocks. -/
def absK (l : List UInt8) : Nat → Nat → BitVec 64
  | 0 => zf
  | k + 1 => allF (mixK (absK l k) (blk l k) 17)

/-- How many blocks a text has when it is padded. -/
def blocks (s : ByteArray) : Nat := s.size / 136 + 1

/-- A digest. -/
def digT (s : ByteArray) : ByteArray := textT (absK (padT s).data.toList (blocks s)) 4

theorem padT_size (s : ByteArray) : (padT s).size = 136 * blocks s := by
  have h := padL_length s.data.toList
  have hs : s.data.toList.length = s.size := by simp
  rw [hs] at h
  show ((padL s.data.toList).toArray).size = _
  rw [List.size_toArray, h]; rfl

theorem textL_take (f : Nat → BitVec 64) (k j : Nat) : (textL f (k + j)).take (8 * k) = textL f k := by
  induction j with
  | zero => rw [Nat.add_zero, List.take_of_length_le (by rw [textL_length]; exact Nat.le_refl _)]
  | succ j ih =>
    rw [← Nat.add_assoc, textL, List.take_append_of_le_length (by rw [textL_length]; omega), ih]

theorem textT_size (f : Nat → BitVec 64) (n : Nat) : (textT f n).size = 8 * n := by
  show ((textL f n).toArray).size = _
  rw [List.size_toArray, textL_length]

theorem digT_size (s : ByteArray) : (digT s).size = 32 := textT_size _ 4

theorem bytes_ext {a b : ByteArray} (h : a.data.toList = b.data.toList) : a = b := by
  cases a; cases b; congr 1; exact Array.ext' h

theorem extract_list (s : ByteArray) (a b : Nat) : (s.extract a b).data.toList = (s.data.toList.drop a).take (b - a) := by
  simp [ByteArray.data_extract, Array.toList_extract, List.extract]

theorem textT_cut (f : Nat → BitVec 64) : (textT f 25).extract 0 32 = textT f 4 := by
  apply bytes_ext
  rw [extract_list]
  exact textL_take f 4 21

theorem extract_blk (s : ByteArray) (k : Nat) : (s.extract (136 * k) (136 * k + 136)).data.toList = blk s.data.toList k := by
  rw [extract_list]; unfold blk; congr 1; omega

end Go.Proofs.YtldkdgbcnbgmiaaGreatDoor

/-
  A point out of a text.
-/
namespace Go.Proofs.YtldkdgbcnbgmiaaGreatDoor

/-- A byte of a text. -/
def byt (d : ByteArray) (i : Nat) : Nat := (d.data.toList.getD i 0).toNat
theorem byt_lt (d : ByteArray) (i : Nat) : byt d i < 256 := (d.data.toList.getD i 0).toNat_lt
theorem byt_at (d : ByteArray) (i : Nat) (h : i < d.size) : (d[i]'h).toNat = byt d i := by
  have hl : i < d.data.toList.length := by simpa using h
  unfold byt
  rw [List.getD_eq_getElem?_getD, List.getElem?_eq_getElem hl, Option.getD_some]
  simp [ByteArray.getElem_eq_getElem_data]

/-- The number that the first four bytes are. -/
def hx (d : ByteArray) : Int := fp (((byt d 0 * 16777216 + byt d 1 * 65536 + byt d 2 * 256 + byt d 3 : Nat) : Nat) : Int)
/-- A byte ahead of a text. -/
def preT (n : Nat) (t : ByteArray) : ByteArray := ⟨#[UInt8.ofNat n]⟩ ++ t
theorem preT_size (n : Nat) (t : ByteArray) : (preT n t).size = t.size + 1 := by
  unfold preT
  rw [ByteArray.size_append]
  show 1 + _ = _
  omega

def hashX (t : ByteArray) (n : Nat) : Int := hx (digT (preT n t))
def hashAt (t : ByteArray) (n : Nat) : Pt := pTimes 12 (hashX t n, rootV (rhs (hashX t n)), false)
def hashOk (t : ByteArray) (n : Nat) : Bool := rootB (rhs (hashX t n)) && !(hashAt t n).2.2
/-- The first that will do, of so many from n on. -/
def hashFrom (t : ByteArray) : Nat → Nat → Pt
  | 0, _ => pB
  | f + 1, n => if hashOk t n = true then hashAt t n else hashFrom t f (n + 1)
def hashPt (t : ByteArray) : Pt := hashFrom t 64 0

theorem hashX_in (t : ByteArray) (n : Nat) : 0 ≤ hashX t n ∧ hashX t n < 12107 := ⟨fp_nonneg _, fp_lt _⟩

theorem rootB_ok {z : Int} (hz : 0 ≤ z ∧ z < 12107) (hb : rootB (rhs z) = true) : POk (z, rootV (rhs z), false) :=
  .inr ⟨rfl, hz, rootV_in, wc_rhs.2 (root_right' (rhs_in z).1 (rhs_in z).2 hb)⟩

theorem hash_at_gp {t : ByteArray} {n : Nat} (h : hashOk t n = true) : ∃ m, 0 < m ∧ m < 1009 ∧ hashAt t n = pMul pB m := by
  unfold hashOk at h
  rw [Bool.and_eq_true] at h
  have hp := rootB_ok (hashX_in t n) h.1
  have e : hashAt t n = pMul (hashX t n, rootV (rhs (hashX t n)), false) 12 := ptimes_small hp (n := 12) (by decide)
  obtain ⟨k, hk, hk2⟩ := cleared hp
  refine ⟨k, ?_, hk, e.trans hk2⟩
  have hz : (hashAt t n).2.2 = false := by simpa using h.2
  rw [e, hk2, mulb_zero hk] at hz
  have := of_decide_eq_false hz
  omega

theorem hash_from_gp (t : ByteArray) : ∀ f n, ∃ m, 0 < m ∧ m < 1009 ∧ hashFrom t f n = pMul pB m
  | 0, _ => ⟨1, by decide, by decide, by rw [pmul_one]; rfl⟩
  | f + 1, n => by
    unfold hashFrom
    split
    · rename_i h
      exact hash_at_gp h
    · exact hash_from_gp t f (n + 1)

/-- It is so often the base, and no Zero. -/
theorem hash_gp (t : ByteArray) : ∃ m, 0 < m ∧ m < 1009 ∧ hashPt t = pMul pB m := hash_from_gp t 64 0
theorem hash_ok (t : ByteArray) : POk (hashPt t) := by
  obtain ⟨m, _, _, h⟩ := hash_gp t
  rw [h]
  exact pmul_ok pb_ok m
theorem hash_in (t : ByteArray) : inGB (hashPt t) = true := by
  obtain ⟨m, _, _, h⟩ := hash_gp t
  rw [h]
  exact ing_mul m
theorem hash_some (t : ByteArray) : (hashPt t).2.2 = false := by
  obtain ⟨m, h0, h1, h⟩ := hash_gp t
  rw [h, mulb_zero h1]
  exact decide_eq_false (by omega)

end Go.Proofs.YtldkdgbcnbgmiaaGreatDoor

/-
  The walk of theta.
-/
namespace Go.Proofs.YtldkdgbcnbgmiaaGreatDoor
open Go.RowKit

theorem info64 : (Tryz.prog.info? 83).map (fun i => i.size) = some 1 := by kernel_rfl

/-- Are the five words noughts? -/
def zeros (g : Nat → BitVec 64) : Bool := wv (g 0) == 0 && (wv (g 1) == 0 && (wv (g 2) == 0 && (wv (g 3) == 0 && wv (g 4) == 0)))
theorem wv_eq0 {x : BitVec 64} (h : wv x = 0) : x = 0#64 := wv_inj h
theorem zeros_true {g : Nat → BitVec 64} (h : zeros g = true) : ∀ x, x < 5 → g x = 0#64 := by
  simp only [zeros, Bool.and_eq_true, beq_iff_eq] at h
  intro x hx
  rcases cases5 hx with rfl | rfl | rfl | rfl | rfl
  · exact wv_eq0 h.1
  · exact wv_eq0 h.2.1
  · exact wv_eq0 h.2.2.1
  · exact wv_eq0 h.2.2.2.1
  · exact wv_eq0 h.2.2.2.2

theorem eq_step (w : World) (xs ys : Array Value) (i : Nat) (is : List Nat) (x y : Int) (hx : xs[i]? = some (.int .u64 x)) (hy : ys[i]? = some (.int .u64 y)) :
    (Op.eqItems 9999 83 1 xs ys (i :: is)).run Tryz.prog w = if x == y then (Op.eqItems 9999 83 1 xs ys is).run Tryz.prog w else .ok false w := by
  have hp : ∀ (zs : Array Value) (v : Value), zs[i]? = some v → ∀ w, (part 83 zs (i * 1)).run Tryz.prog w = .ok v w := fun zs v h w => by
    simp [part, Tryz.isAgg83, h]
  simp only [Op.eqItems, Sem.run_bind, hp _ _ hx, hp _ _ hy, Result.andThen_ok, run_equalIn_int _ 9998 83 .u64 .u64 x y Tryz.underlying83]
  cases x == y <;> simp

theorem same_words (g : Nat → BitVec 64) (w : World) :
    (Op.equalIn 10000 124 (.agg (sc g 5)) (.agg #[.int .u64 0, .int .u64 0, .int .u64 0, .int .u64 0, .int .u64 0])).run Tryz.prog w = .ok (zeros g) w := by
  cases hq : Tryz.prog.info? 83 with
  | none => have := info64; rw [hq] at this; cases this
  | some i =>
    rw [run_equalIn_array w 9999 _ _ Tryz.underlying124 hq]
    have he : (sc g 5) = #[.int .u64 (wv (g 0)), .int .u64 (wv (g 1)), .int .u64 (wv (g 2)), .int .u64 (wv (g 3)), .int .u64 (wv (g 4))] := rfl
    rw [he]
    have hr : List.range 5 = [0, 1, 2, 3, 4] := rfl
    rw [hr]
    unfold zeros
    generalize wv (g 0) = a0
    generalize wv (g 1) = a1
    generalize wv (g 2) = a2
    generalize wv (g 3) = a3
    generalize wv (g 4) = a4
    have hc : Tryz.prog.cellsOf 83 = 1 := by kernel_rfl
    rw [hc]
    rw [eq_step w _ _ 0 _ a0 0 rfl rfl, eq_step w _ _ 1 _ a1 0 rfl rfl, eq_step w _ _ 2 _ a2 0 rfl rfl, eq_step w _ _ 3 _ a3 0 rfl rfl, eq_step w _ _ 4 _ a4 0 rfl rfl]
    cases a0 == 0 <;> cases a1 == 0 <;> cases a2 == 0 <;> cases a3 == 0 <;> cases a4 == 0 <;> simp [Op.eqItems]

set_option maxHeartbeats 1600000 in
set_option maxRecDepth 100000 in
theorem theta_any (f : Nat → BitVec 64) (w : World) :
    Calls Tryz.prog 110 #[.agg (sc f 25)] w fun e w' => e = .returned (.agg (sc (theta f) 25)) ∧ Below w.heap.size w w' := by
  obtain ⟨b1, HB1⟩ : ∃ b, Hid (b = w.heap.size) := ⟨_, rfl⟩
  obtain ⟨b2, HB2⟩ : ∃ b, Hid (b = w.heap.size + 1) := ⟨_, rfl⟩
  obtain ⟨b3, HB3⟩ : ∃ b, Hid (b = w.heap.size + 1 + 1) := ⟨_, rfl⟩
  go_enter Tryz.func110, Tryz.ntmps110
  go_wp2
  rw [← HB3.out, ← HB2.out, ← HB1.out]
  go_loopw [4] (fun i wr => ∃ k : Nat, i = .int .i64 (5 * (k : Int)) ∧ k ≤ 5 ∧ At wr b1 104 25 f ∧ At wr b2 104 25 zf ∧ At wr b3 124 5 (colK f k) ∧ Below b1 w wr) (fun i _ => 25 - (intOf i).toNat)
  case atStart =>
    obtain rfl := HB1.out
    obtain rfl := HB2.out
    obtain rfl := HB3.out
    refine ⟨0, rfl, by omega, ((At.new w _ 25 f).alloc _).alloc _, ?_, ?_, ?_⟩
    · refine At.alloc (At.new' ?_ ?_) _
      · rw [size_alloc]
      · rfl
    · refine At.new' ?_ ?_
      · rw [size_alloc, size_alloc]
      · rfl
    refine Below.alloc (Below.alloc (Below.alloc (Below.refl _ _) (Nat.le_refl _) _) ?_ _) ?_ _ <;> (simp only [size_alloc]; omega)
  case round =>
    obtain ⟨k, rfl, hk, hA1, hA2, hA3, hbel⟩ := hrel
    by_cases hlt : k < 5
    · have hlt' : 5 * (k : Int) < 25 := by omega
      go_wp2
      go_loopw [13] (fun i wr => ∃ j : Nat, i = .int .i64 (j : Int) ∧ j ≤ 5 ∧ At wr b1 104 25 f ∧ At wr b2 104 25 zf ∧ At wr b3 124 5 (colJ f (5 * k) (colK f k) j) ∧ Below b1 w wr) (fun i _ => 5 - (intOf i).toNat)
      case atStart => exact ⟨0, rfl, by omega, hA1, hA2, hA3, hbel⟩
      case round =>
        clear hA1 hA2 hA3 hbel
        obtain ⟨j, rfl, hj, hA1, hA2, hA3, hbel⟩ := hrel
        by_cases hlj : j < 5
        · have hlj' : (j : Int) < 5 := by omega
          have hj0 : (0 : Int) ≤ (j : Int) := by omega
          have hc1 := hA1.cell (5 * k + j) (by omega)
          have hc3 := hA3.cell j hlj
          have hf3 := hA3.free j
          obtain ⟨m, hm⟩ : ∃ m, m = 5 * k + j := ⟨_, rfl⟩
          have hix : 5 * (k : Int) + (j : Int) = (m : Int) := by omega
          have hm0 : (0 : Int) ≤ (m : Int) := by omega
          have hm25 : (m : Int) < 25 := by omega
          rw [← hm] at hc1
          have hxor := wv_xor
          have HA1 : Hid (At (wr.setCell ⟨b3, j, none⟩ (.int .u64 (wv (colJ f (5 * k) (colK f k) j j ^^^ f m)))) b1 104 25 f) := hA1.other (by have := HB1.out; have := HB3.out; omega) _
          have HA2 : Hid (At (wr.setCell ⟨b3, j, none⟩ (.int .u64 (wv (colJ f (5 * k) (colK f k) j j ^^^ f m)))) b2 104 25 zf) := hA2.other (by have := HB2.out; have := HB3.out; omega) _
          have HA3 : Hid (At (wr.setCell ⟨b3, j, none⟩ (.int .u64 (wv (colJ f (5 * k) (colK f k) j j ^^^ f m)))) b3 124 5 (colJ f (5 * k) (colK f k) (j + 1))) := by
            show At _ _ _ _ _
            rw [colJ, ← hm]
            exact hA3.set j _
          have HBL : Hid (Below b1 w (wr.setCell ⟨b3, j, none⟩ (.int .u64 (wv (colJ f (5 * k) (colK f k) j j ^^^ f m))))) := hbel.setCell (by have := HB1.out; have := HB3.out; show b1 ≤ b3; omega) _
          clear hm hA1 hA2 hA3 hbel
          generalize colJ f (5 * k) (colK f k) j j = s0 at hc3 HA1 HA2 HA3 HBL
          go_wp2
          go_region
          go_wp2
          go_roundw
          case rel => exact ⟨j + 1, by go_num, hlj, HA1.out, HA2.out, HA3.out, HBL.out.drew⟩
          case measure => simp [intOf]; omega
        · have hlj' : ¬ (j : Int) < 5 := by omega
          obtain rfl : j = 5 := by omega
          go_wp2
          go_roundw
          case rel => exact ⟨k + 1, by go_num, hlt, hA1, hA2, hA3, hbel⟩
          case measure => simp [intOf]; omega
    · have hlt' : ¬ 5 * (k : Int) < 25 := by omega
      obtain rfl : k = 5 := by omega
      have hsw := same_words (colK f 5)
      have HB12 : Hid (b2 ≠ b1) := (show b2 ≠ b1 by have := HB1.out; have := HB2.out; omega)
      have HB1' : Hid (b1 ≤ b2) := (show b1 ≤ b2 by have := HB1.out; have := HB2.out; omega)
      by_cases hz : zeros (colK f 5) = true
      · have HE : Hid (sc f 25 = sc (theta f) 25) := sc_congr fun i _ => (theta_none f (fun x hx => (colK_all f x hx).symm.trans (zeros_true hz x hx)) i).symm
        go_wp2_with (first | (refine load_at rfl rfl rfl hA3 Tryz.underlying124 infoCw ?_) | (refine load_at rfl rfl rfl hA1 Tryz.underlying104 infoS ?_) | (refine store_at rfl rfl rfl rfl hA2 infoS ?_))
        (try simp only [Exit.inBlock, Exit.then])
        refine bodyPost_ret_by (result_at rfl rfl (hA2.row f) Tryz.underlying104 infoS) rfl ⟨by rw [HE.out], ?_⟩
        rw [← HB1.out]
        exact below_row hbel HB1'.out _
      · have hz' : zeros (colK f 5) = false := by simpa using hz
        clear hz
        go_wp2_with (refine load_at rfl rfl rfl hA3 Tryz.underlying124 infoCw ?_)
        go_loopw [31] (fun i wr => ∃ x : Nat, i = .int .i64 (x : Int) ∧ x ≤ 5 ∧ At wr b1 104 25 (thK (colK f 5) f x) ∧ At wr b2 104 25 zf ∧ At wr b3 124 5 (colK f 5) ∧ Below b1 w wr) (fun i _ => 5 - (intOf i).toNat)
        case atStart => exact ⟨0, rfl, by omega, hA1, hA2, hA3, hbel⟩
        case round =>
          clear hA1 hA2 hA3 hbel
          obtain ⟨x, rfl, hx, hA1, hA2, hA3, hbel⟩ := hrel
          by_cases hlx : x < 5
          · have hlx' : (x : Int) < 5 := by omega
            obtain ⟨p, hp⟩ : ∃ p, p = (x + 4) % 5 := ⟨_, rfl⟩
            obtain ⟨q, hq⟩ : ∃ q, q = (x + 1) % 5 := ⟨_, rfl⟩
            have hp1 : ((x : Int) + 4) % 5 = (p : Int) := by omega
            have hp2 : Int.tmod ((x : Int) + 4) 5 = (p : Int) := by rw [Int.tmod_eq_emod_of_nonneg (by omega)]; exact hp1
            have hq1 : ((x : Int) + 1) % 5 = (q : Int) := by omega
            have hq2 : Int.tmod ((x : Int) + 1) 5 = (q : Int) := by rw [Int.tmod_eq_emod_of_nonneg (by omega)]; exact hq1
            have hp5 : (p : Int) < 5 := by omega
            have hq5 : (q : Int) < 5 := by omega
            have hp0 : (0 : Int) ≤ (p : Int) := by omega
            have hq0 : (0 : Int) ≤ (q : Int) := by omega
            have hcp := hA3.cell p (by omega)
            have hcq := hA3.cell q (by omega)
            have hxor := wv_xor
            have HT : Hid (∀ y, y = thJ (colK f 5 p ^^^ rotl (colK f 5 q) 1) x (thK (colK f 5) f x) 5 → thK (colK f 5) f (x + 1) = y) := fun y e => by rw [e, thK, hp, hq]
            generalize colK f 5 p = cp at hcp HT
            generalize colK f 5 q = cq at hcq HT
            clear hp hq
            go_wp2
            go_quiet ((go_at_call 115; refine Calls.quiet_of_same ((turn_any cq 1 (by omega) _).mono fun e w1 h => ⟨h.1, h.2.symm⟩)))
            have hA1' := hA1.drewN nq
            have hA2' := hA2.drewN nq
            have hA3' := hA3.drewN nq
            have hbel' := below_drewN hbel nq
            clear hA1 hA2 hA3 hbel hcp hcq
            generalize hd : cp ^^^ rotl cq 1 = d at HT ⊢
            go_wp2
            go_loopw [8] (fun i wr => ∃ y : Nat, i = .int .i64 (5 * (y : Int)) ∧ y ≤ 5 ∧ At wr b1 104 25 (thJ d x (thK (colK f 5) f x) y) ∧ At wr b2 104 25 zf ∧ At wr b3 124 5 (colK f 5) ∧ Below b1 w wr) (fun i _ => 25 - (intOf i).toNat)
            case atStart => exact ⟨0, rfl, by omega, hA1', hA2', hA3', hbel'⟩
            case round =>
              clear hA1' hA2' hA3' hbel'
              obtain ⟨y, rfl, hy, hA1, hA2, hA3, hbel⟩ := hrel
              by_cases hly : y < 5
              · have hly' : 5 * (y : Int) < 25 := by omega
                obtain ⟨m, hm⟩ : ∃ m, m = 5 * y + x := ⟨_, rfl⟩
                have hix : 5 * (y : Int) + (x : Int) = (m : Int) := by omega
                have hm0 : (0 : Int) ≤ (m : Int) := by omega
                have hm25 : (m : Int) < 25 := by omega
                have hc1 := hA1.cell m (by omega)
                have hf1 := hA1.free m
                have HA1 : Hid (At (wr.setCell ⟨b1, m, none⟩ (.int .u64 (wv (thJ d x (thK (colK f 5) f x) y m ^^^ d)))) b1 104 25 (thJ d x (thK (colK f 5) f x) (y + 1))) := by
                  show At _ _ _ _ _
                  rw [thJ, ← hm]
                  exact hA1.set m _
                have HA2 : Hid (At (wr.setCell ⟨b1, m, none⟩ (.int .u64 (wv (thJ d x (thK (colK f 5) f x) y m ^^^ d)))) b2 104 25 zf) := hA2.other (fun e => HB12.out e.symm) _
                have HA3 : Hid (At (wr.setCell ⟨b1, m, none⟩ (.int .u64 (wv (thJ d x (thK (colK f 5) f x) y m ^^^ d)))) b3 124 5 (colK f 5)) := hA3.other (by have := HB1.out; have := HB3.out; omega) _
                have HBL : Hid (Below b1 w (wr.setCell ⟨b1, m, none⟩ (.int .u64 (wv (thJ d x (thK (colK f 5) f x) y m ^^^ d))))) := hbel.setCell (Nat.le_refl _) _
                clear hm hA1 hA2 hA3 hbel
                generalize thJ d x (thK (colK f 5) f x) y m = s0 at hc1 HA1 HA2 HA3 HBL
                go_wp2
                go_roundw
                case rel => exact ⟨y + 1, by go_num, hly, HA1.out, HA2.out, HA3.out, HBL.out⟩
                case measure => simp [intOf]; omega
              · have hly' : ¬ 5 * (y : Int) < 25 := by omega
                obtain rfl : y = 5 := by omega
                have HA1 : Hid (At wr b1 104 25 (thK (colK f 5) f (x + 1))) := hA1.eq (HT.out _ rfl).symm
                clear hA1
                go_wp2
                go_roundw
                case rel => exact ⟨x + 1, by go_num, hlx, HA1.out, hA2, hA3, hbel⟩
                case measure => simp [intOf]; omega
          · have hlx' : ¬ (x : Int) < 5 := by omega
            obtain rfl : x = 5 := by omega
            have HE : Hid (sc (thK (colK f 5) f 5) 25 = sc (theta f) 25) := sc_congr fun i hi => by
              rw [thK_congr (colK_all f) f 5]; exact thK_all f i hi
            go_wp2_with (first | (refine load_at rfl rfl rfl hA1 Tryz.underlying104 infoS ?_) | (refine store_at rfl rfl rfl rfl hA2 infoS ?_))
            (try simp only [Exit.inBlock, Exit.then])
            refine bodyPost_ret_by (result_at rfl rfl (hA2.row _) Tryz.underlying104 infoS) rfl ⟨by rw [HE.out], ?_⟩
            rw [← HB1.out]
            exact below_row hbel HB1'.out _

end Go.Proofs.YtldkdgbcnbgmiaaGreatDoor
