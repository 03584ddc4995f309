/-
  Texts of one's own, joined.
-/
import Derived.Test.YthnahalboomkoaaGreatJoined12
import Derived.Test.YthnahalboomkoaaGreatJoined13
import Derived.Test.YthnahalboomkoaaGreatProg
import Derived.Test.YthnahalboomkoaaGreatJoined1
import Derived.WalkLawsBesides
import Derived.WalkSpells

/-
  Five lists of numbers in the fields of one struct, each in a block of its own.
-/
namespace Go.Proofs.YthnahalboomkoaaGreat
open Go.RowKit

def vec5 {α : Type} (a b c d e : α) : Nat → α
  | 0 => a
  | 1 => b
  | 2 => c
  | 3 => d
  | _ => e
def setF {α : Type} (v : Nat → α) (i : Nat) (x : α) : Nat → α := fun j => if j = i then x else v j
theorem set5_0 {α : Type} (a b c d e x : α) : setF (vec5 a b c d e) 0 x = vec5 x b c d e := funext fun j => match j with
  | 0 => rfl
  | 1 => rfl
  | 2 => rfl
  | 3 => rfl
  | _ + 4 => rfl
theorem set5_1 {α : Type} (a b c d e x : α) : setF (vec5 a b c d e) 1 x = vec5 a x c d e := funext fun j => match j with
  | 0 => rfl
  | 1 => rfl
  | 2 => rfl
  | 3 => rfl
  | _ + 4 => rfl
theorem set5_2 {α : Type} (a b c d e x : α) : setF (vec5 a b c d e) 2 x = vec5 a b x d e := funext fun j => match j with
  | 0 => rfl
  | 1 => rfl
  | 2 => rfl
  | 3 => rfl
  | _ + 4 => rfl
theorem set5_3 {α : Type} (a b c d e x : α) : setF (vec5 a b c d e) 3 x = vec5 a b c x e := funext fun j => match j with
  | 0 => rfl
  | 1 => rfl
  | 2 => rfl
  | 3 => rfl
  | _ + 4 => rfl
theorem set5_4 {α : Type} (a b c d e x : α) : ∀ j, j < 5 → setF (vec5 a b c d e) 4 x j = vec5 a b c d x j
  | 0, _ => rfl
  | 1, _ => rfl
  | 2, _ => rfl
  | 3, _ => rfl
  | 4, _ => rfl
  | _ + 5, h => absurd h (by omega)

theorem Kps.over {S T : Nat → Prop} {a b c : World} (h : Kps S a b) (k : Kps T b c) (hT : ∀ i, i < a.heap.size → T i → S i) : Kps S a c :=
  ⟨k.os.trans h.os, k.tape.trans h.tape, k.output.trans h.output, Nat.le_trans h.size k.size, fun i hi hs => (k.block i (Nat.lt_of_lt_of_le hi h.size) fun ht => hs (hT i hi ht)).trans (h.block i hi hs)⟩

/-- Five rows, no two in one block: e, sz, the cells of an element. -/
structure RowF (e sz lo : Nat) (w : World) (v : Nat → Value) (n : Nat → Nat) (xs : Nat → List Value) : Prop where
  row : ∀ i, i < 5 → w.ownsRow lo e sz (v i) (n i) (xs i)
  apart : ∀ i j k, i < 5 → j < 5 → i ≠ j → (v i).ownBlock = some k → (v j).ownBlock ≠ some k
theorem RowF.below {e sz lo : Nat} {w w' : World} {v : Nat → Value} {n : Nat → Nat} {xs : Nat → List Value} (h : RowF e sz lo w v n xs) (hb : Below w.heap.size w w') : RowF e sz lo w' v n xs := ⟨fun i hi => owns_on (h.row i hi) hb, h.apart⟩
theorem RowF.alloc {e sz lo : Nat} {w : World} {v : Nat → Value} {n : Nat → Nat} {xs : Nat → List Value} (h : RowF e sz lo w v n xs) (o : Obj) : RowF e sz lo (w.alloc o) v n xs := ⟨fun i hi => World.ownsRow.alloc (h.row i hi) o, h.apart⟩
theorem RowF.kept {e sz lo : Nat} {w w' : World} {v : Nat → Value} {n : Nat → Nat} {xs : Nat → List Value} {S : Nat → Prop} (h : RowF e sz lo w v n xs) (hk : Kps S w w') (hS : ∀ k, lo ≤ k → ¬ S k) : RowF e sz lo w' v n xs := ⟨fun i hi => hk.row (h.row i hi) fun k hv => hS k ((h.row i hi).lt k hv).1, h.apart⟩
theorem RowF.app {e sz lo : Nat} {w w' : World} {v : Nat → Value} {n : Nat → Nat} {xs : Nat → List Value} (h : RowF e sz lo w v n xs) (i : Nat) (hi : i < 5) {a' : Value} {n' : Nat} {xs' : List Value} (hr : w'.ownsRow lo e sz a' n' xs') (hg : w.grownBy w' (v i).ownBlock) (hv : a'.ownBlock = (v i).ownBlock ∨ a'.ownBlock = some w.heap.size) : RowF e sz lo w' (setF v i a') (setF n i n') (setF xs i xs') := by
  have hK := kps_grown hg
  refine ⟨fun j hj => ?_, fun j1 j2 k h1 h2 hne he => ?_⟩
  · unfold setF
    by_cases e : j = i
    · rw [if_pos e, if_pos e, if_pos e]; exact hr
    · rw [if_neg e, if_neg e, if_neg e]
      exact hK.row (h.row j hj) fun k hk hs => h.apart i j k hi hj (fun q => e q.symm) hs hk
  · unfold setF at he ⊢
    by_cases e1 : j1 = i
    · rw [if_pos e1] at he
      have e2 : ¬ j2 = i := fun q => hne (e1.trans q.symm)
      rw [if_neg e2]
      rcases hv with hv | hv
      · exact h.apart i j2 k hi h2 (fun q => e2 q.symm) (hv ▸ he)
      · intro h3
        rw [hv] at he
        have h4 := Option.some.inj he
        have h5 := ((h.row j2 h2).lt k h3).2
        omega
    · rw [if_neg e1] at he
      by_cases e2 : j2 = i
      · rw [if_pos e2]
        rcases hv with hv | hv
        · intro h3
          exact h.apart i j1 k hi h1 (fun q => e1 q.symm) (hv ▸ h3) he
        · intro h3
          rw [hv] at h3
          have h4 := Option.some.inj h3
          have h5 := ((h.row j1 h1).lt k he).2
          omega
      · rw [if_neg e2]
        exact h.apart j1 j2 k h1 h2 hne he

/-- The struct gO holds five rows, all else that there was is as it was. -/
structure St (e sz tm gO : Nat) (w1 Y : World) (v : Nat → Value) (n : Nat → Nat) (xs : Nat → List Value) : Prop where
  kps : Kps (fun k => k = gO) w1 Y
  blk : Blk Y gO tm #[v 0, v 1, v 2, v 3, v 4]
  row : RowF e sz w1.heap.size Y v n xs
  low : gO < w1.heap.size
theorem St.below {e sz tm gO : Nat} {w1 Y Y' : World} {v : Nat → Value} {n : Nat → Nat} {xs : Nat → List Value} (h : St e sz tm gO w1 Y v n xs) (hb : Below Y.heap.size Y Y') : St e sz tm gO w1 Y' v n xs :=
  ⟨h.kps.trans (Kps.of_below hb), h.blk.on hb h.blk.lt, h.row.below hb, h.low⟩
theorem St.alloc {e sz tm gO : Nat} {w1 Y : World} {v : Nat → Value} {n : Nat → Nat} {xs : Nat → List Value} (h : St e sz tm gO w1 Y v n xs) (o : Obj) : St e sz tm gO w1 (Y.alloc o) v n xs :=
  h.below ((Below.refl _ _).alloc (Nat.le_refl _) o)
theorem St.mid {e sz tm gO : Nat} {w1 Y Y' : World} {v : Nat → Value} {n : Nat → Nat} {xs : Nat → List Value} (h : St e sz tm gO w1 Y v n xs) (i : Nat) (hi : i < 5) (hg : Y.grownBy Y' (v i).ownBlock) : Blk Y' gO tm #[v 0, v 1, v 2, v 3, v 4] :=
  (kps_grown hg).blk h.blk fun e => by
    have h1 := ((h.row.row i hi).lt gO e).1
    have h2 := h.low
    omega
theorem five_set (v : Nat → Value) (i : Nat) (hi : i < 5) (x : Value) : (#[v 0, v 1, v 2, v 3, v 4] : Array Value).setIfInBounds i x = #[setF v i x 0, setF v i x 1, setF v i x 2, setF v i x 3, setF v i x 4] := by
  match i, hi with
  | 0, _ => rfl
  | 1, _ => rfl
  | 2, _ => rfl
  | 3, _ => rfl
  | 4, _ => rfl
theorem St.step {e sz tm gO : Nat} {w1 Y Y' : World} {v : Nat → Value} {n : Nat → Nat} {xs : Nat → List Value} (h : St e sz tm gO w1 Y v n xs) (i : Nat) (hi : i < 5) {a' : Value} {n' : Nat} {xs' : List Value} (hr : Y'.ownsRow w1.heap.size e sz a' n' xs') (hg : Y.grownBy Y' (v i).ownBlock) (hv : a'.ownBlock = (v i).ownBlock ∨ a'.ownBlock = some Y.heap.size) : St e sz tm gO w1 (Y'.setCell ⟨gO, i, none⟩ a') (setF v i a') (setF n i n') (setF xs i xs') := by
  have hl := h.low
  have hK := kps_grown hg
  have hk2 : Kps (fun k => k = gO) w1 Y' := h.kps.over hK fun k hk hs => by
    have h1 := ((h.row.row i hi).lt k hs).1
    omega
  refine ⟨hk2.setCell rfl _, ?_, ?_, hl⟩
  · rw [← five_set v i hi a']
    exact (h.mid i hi hg).set i a'
  · exact (h.row.app i hi hr hg hv).kept ((Kps.refl (fun k => k = gO) Y').setCell rfl _) fun k hk e => by omega
theorem St.like {e sz tm gO : Nat} {w1 Y : World} {v v' : Nat → Value} {n n' : Nat → Nat} {xs xs' : Nat → List Value} (h : St e sz tm gO w1 Y v n xs) (hv : ∀ i, i < 5 → v i = v' i) (hn : ∀ i, i < 5 → n i = n' i) (hx : ∀ i, i < 5 → xs i = xs' i) : St e sz tm gO w1 Y v' n' xs' := by
  refine ⟨h.kps, ?_, ⟨fun i hi => ?_, fun i j k hi hj => ?_⟩, h.low⟩
  · have hb := h.blk
    rw [hv 0 (by decide), hv 1 (by decide), hv 2 (by decide), hv 3 (by decide), hv 4 (by decide)] at hb
    exact hb
  · rw [← hv i hi, ← hn i hi, ← hx i hi]; exact h.row.row i hi
  · rw [← hv i hi, ← hv j hj]; exact h.row.apart i j k hi hj

/-- A store into a field that holds a list of numbers. -/
theorem store_fieldZ {w : World} {ops : Array Oper} {rest : List Oper} {o : Oper} {a : Act} {Q : Exit → Act → World → Prop} (hg : o.guard = none) (hd : o.dst = none) {p v : Operand} (hop : o.op = Op.store 27 p v)
    {g i t' : Nat} {cs : Array Value} {ad : Option Addr} {n c : Nat} {u : Value} (hp : a.eval p = .pointer (some ⟨g, i, none⟩)) (hv : a.eval v = .slice ad n c) (h : Blk w g t' cs) (hi : cs[i]? = some u)
    (K : ∀ w1, w1 = w.setCell ⟨g, i, none⟩ (.slice ad n c) → wpList Tryz.prog ops Q rest a w1) : wpList Tryz.prog ops Q (o :: rest) a w :=
  store_at hg hd hop hp hv (storeZs ((h.cell i).trans hi) (h.free i)) (K _ rfl)

end Go.Proofs.YthnahalboomkoaaGreat

/-
  The walks of the program's field.
  (-DROP-: what the seat lacks is left out.)
-/
namespace Go.Proofs.YthnahalboomkoaaGreat
open Go.RowKit

set_option maxHeartbeats 400000 in
set_option maxRecDepth 100000 in
theorem plus_any (a b : Int) (a0 : 0 ≤ a) (a1 : a < 12107) (b0 : 0 ≤ b) (b1 : b < 12107) (w : World) :
    Calls Tryz.prog 185 #[.int .i64 a, .int .i64 b] w fun e w' => e = .returned (.int .i64 (fp (a + b))) ∧ w = w' := by
  have he := tmod_fp (n := a + b) (by omega)
  have h0 := fp_nonneg (a + b)
  have h1 := fp_lt (a + b)
  go_enter Tryz.func185, Tryz.ntmps185
  go_wp2
  go_ret
  exact ⟨rfl, rfl⟩

set_option maxHeartbeats 400000 in
set_option maxRecDepth 100000 in
theorem minus_any (a b : Int) (a0 : 0 ≤ a) (a1 : a < 12107) (b0 : 0 ≤ b) (b1 : b < 12107) (w : World) :
    Calls Tryz.prog 144 #[.int .i64 a, .int .i64 b] w fun e w' => e = .returned (.int .i64 (fp (a - b))) ∧ w = w' := by
  have he : Int.tmod (a + 12107 - b) 12107 = fp (a - b) := by
    rw [tmod_fp (n := a + 12107 - b) (by omega), ← fp_put (a - b)]
    congr 1; omega
  have h0 := fp_nonneg (a - b)
  have h1 := fp_lt (a - b)
  go_enter Tryz.func144, Tryz.ntmps144
  go_wp2
  go_ret
  exact ⟨rfl, rfl⟩

set_option maxHeartbeats 400000 in
set_option maxRecDepth 100000 in
theorem times_any (a b : Int) (a0 : 0 ≤ a) (a1 : a < 12107) (b0 : 0 ≤ b) (b1 : b < 12107) (w : World) :
    Calls Tryz.prog 142 #[.int .i64 a, .int .i64 b] w fun e w' => e = .returned (.int .i64 (fp (a * b))) ∧ w = w' := by
  have hp0 := prod_nonneg a0 b0
  have hp1 := prod_le a0 a1 b0 b1
  have he := tmod_fp (n := a * b) hp0
  have h0 := fp_nonneg (a * b)
  have h1 := fp_lt (a * b)
  go_enter Tryz.func142, Tryz.ntmps142
  go_wp2
  go_ret
  exact ⟨rfl, rfl⟩

theorem times_nat (a b : Nat) (ha : a < 12107) (hb : b < 12107) (w : World) :
    Calls Tryz.prog 142 #[.int .i64 (a : Int), .int .i64 (b : Int)] w fun e w' => e = .returned (.int .i64 ((a * b % 12107 : Nat) : Int)) ∧ w = w' := by
  have h := times_any a b (by omega) (by omega) (by omega) (by omega) w
  rw [show fp ((a : Int) * (b : Int)) = ((a * b % 12107 : Nat) : Int) by unfold fp; omega] at h
  exact h

set_option maxHeartbeats 400000 in
set_option maxRecDepth 100000 in
theorem power_neg (a n : Int) (hn : n < 0) (w : World) :
    Calls Tryz.prog 190 #[.int .i64 a, .int .i64 n] w fun e w' => e = .returned (.int .i64 0) ∧ w = w' := by
  go_enter Tryz.func190, Tryz.ntmps190
  go_wp2
  go_ret
  exact ⟨rfl, rfl⟩

set_option maxHeartbeats 800000 in
set_option maxRecDepth 100000 in
theorem power_nat (a n : Nat) (ha : a < 12107) (hn : n ≤ 9223372036854775807) (w : World) :
    Calls Tryz.prog 190 #[.int .i64 (a : Int), .int .i64 (n : Int)] w fun e w' => e = .returned (.int .i64 ((a ^ n % 12107 : Nat) : Int)) ∧ w = w' := by
  have hn0 : ¬ (n : Int) < 0 := by omega
  obtain ⟨R, hR⟩ : ∃ R, R = a ^ n % 12107 := ⟨_, rfl⟩
  rw [← hR]
  have HR : Hid (R = a ^ n % 12107) := hR
  clear hR
  go_enter Tryz.func190, Tryz.ntmps190
  go_wp2
  go_loopw [1, 5, 6] (fun m x b wr => ∃ k r s : Nat, m = .int .i64 (k : Int) ∧ k ≤ n ∧ x = .int .i64 (r : Int) ∧ b = .int .i64 (s : Int) ∧ r < 12107 ∧ s < 12107 ∧ Hid (r * s ^ k % 12107 = R) ∧ w = wr) (fun m _ _ _ => (intOf m).toNat)
  case atStart => exact ⟨n, 1, a, rfl, Nat.le_refl _, rfl, rfl, by omega, ha, (show 1 * a ^ n % 12107 = R by rw [Nat.one_mul, HR.out]), rfl⟩
  case round =>
    obtain ⟨k, r, s, rfl, hk, rfl, rfl, hr, hs, HP, rfl⟩ := hrel
    by_cases h0 : 0 < k
    · have h0' : (0 : Int) < (k : Int) := by omega
      have hq : Int.tdiv (k : Int) 2 = ((k / 2 : Nat) : Int) := by rw [Int.tdiv_eq_ediv_of_nonneg (by omega)]; omega
      have hqb : k / 2 < k := by omega
      have HS2 : Hid (s * s % 12107 < 12107) := Nat.mod_lt _ (by decide)
      have HR2 : Hid (r * s % 12107 < 12107) := Nat.mod_lt _ (by decide)
      have HC : Hid (∀ w, Calls Tryz.prog 142 #[.int .i64 (r : Int), .int .i64 (s : Int)] w fun e w' => e = .returned (.int .i64 ((r * s % 12107 : Nat) : Int)) ∧ w = w') := times_nat r s hr hs
      have HD : Hid (∀ w, Calls Tryz.prog 142 #[.int .i64 (s : Int), .int .i64 (s : Int)] w fun e w' => e = .returned (.int .i64 ((s * s % 12107 : Nat) : Int)) ∧ w = w') := times_nat s s hs hs
      by_cases h2 : k % 2 = 1
      · have h2' : Int.tmod (k : Int) 2 = 1 := by rw [Int.tmod_eq_emod_of_nonneg (by omega)]; omega
        have HN : Hid (r * s % 12107 * (s * s % 12107) ^ (k / 2) % 12107 = R) := (pow_odd r s k h2).trans HP.out
        generalize r * s % 12107 = r2 at HN HC HR2
        generalize s * s % 12107 = s2 at HN HD HS2
        generalize k / 2 = k2 at HN hq hqb
        clear h2 HP
        go_wp2_with fail
        refine (HC.out _).mono ?_
        rintro e w1 ⟨rfl, rfl⟩
        go_wp2_with fail
        refine (HD.out _).mono ?_
        rintro e w1 ⟨rfl, rfl⟩
        go_wp2
        go_roundw
        case rel => exact ⟨k2, r2, s2, by go_num, by omega, rfl, rfl, HR2.out, HS2.out, HN, by trivial⟩
        case measure => simp [intOf]; omega
      · have h2' : Int.tmod (k : Int) 2 = 0 := by rw [Int.tmod_eq_emod_of_nonneg (by omega)]; omega
        have HN : Hid (r * (s * s % 12107) ^ (k / 2) % 12107 = R) := (pow_even r s k (by omega)).trans HP.out
        generalize s * s % 12107 = s2 at HN HD HS2
        generalize k / 2 = k2 at HN hq hqb
        clear h2 HP
        go_wp2_with fail
        refine (HD.out _).mono ?_
        rintro e w1 ⟨rfl, rfl⟩
        go_wp2
        go_roundw
        case rel => exact ⟨k2, r, s2, by go_num, by omega, rfl, rfl, hr, HS2.out, HN, by trivial⟩
        case measure => simp [intOf]; omega
    · have h0' : ¬ (0 : Int) < (k : Int) := by omega
      obtain rfl : k = 0 := by omega
      have HF : Hid (R = r) := by
        have h := HP.out
        rw [Nat.pow_zero, Nat.mul_one, Nat.mod_eq_of_lt hr] at h
        exact h.symm
      clear HP
      go_wp2
      go_ret
      exact ⟨by rw [HF.out]; rfl, rfl⟩

theorem power_any (a n : Int) (a0 : 0 ≤ a) (a1 : a < 12107) (h1 : n ≤ 9223372036854775807) (w : World) :
    Calls Tryz.prog 190 #[.int .i64 a, .int .i64 n] w fun e w' => e = .returned (.int .i64 (fpPow a n)) ∧ w = w' := by
  by_cases hn : n < 0
  · rw [fpPow_neg a hn]; exact power_neg a n hn w
  · obtain ⟨k, rfl⟩ : ∃ k : Nat, n = k := ⟨n.toNat, by omega⟩
    obtain ⟨b, rfl⟩ : ∃ b : Nat, a = b := ⟨a.toNat, by omega⟩
    rw [fpPow_nat, nat_small (by omega)]
    exact power_nat b k (by omega) (by omega) w

set_option maxHeartbeats 400000 in
set_option maxRecDepth 100000 in
theorem inverse_any (a : Int) (a0 : 0 ≤ a) (a1 : a < 12107) (w : World) :
    Calls Tryz.prog 191 #[.int .i64 a] w fun e w' => e = .returned (.int .i64 (fpPow a 12105)) ∧ w = w' := by
  have HC : Hid (∀ w, Calls Tryz.prog 190 #[.int .i64 a, .int .i64 12105] w fun e w' => e = .returned (.int .i64 (fpPow a 12105)) ∧ w = w') := power_any a 12105 a0 a1 (by decide)
  go_enter Tryz.func191, Tryz.ntmps191
  go_wp2_with fail
  refine (HC.out _).mono ?_
  rintro e w1 ⟨rfl, rfl⟩
  go_wp2
  go_ret
  exact ⟨rfl, rfl⟩

set_option maxHeartbeats 400000 in
set_option maxRecDepth 100000 in
theorem iOk_any (a : Int) (w : World) :
    Calls Tryz.prog 141 #[.int .i64 a] w fun e w' => e = .returned (.bool (fpOk a)) ∧ w = w' := by
  by_cases h0 : 0 ≤ a
  · by_cases h1 : a < 12107
    · rw [show fpOk a = true from decide_eq_true ⟨h0, h1⟩]
      go_enter Tryz.func141, Tryz.ntmps141
      go_wp2
      go_ret
      exact ⟨rfl, rfl⟩
    · rw [show fpOk a = false from decide_eq_false (by omega)]
      go_enter Tryz.func141, Tryz.ntmps141
      go_wp2
      go_ret
      exact ⟨rfl, rfl⟩
  · rw [show fpOk a = false from decide_eq_false (by omega)]
    go_enter Tryz.func141, Tryz.ntmps141
    go_wp2
    go_ret
    exact ⟨rfl, rfl⟩

end Go.Proofs.YthnahalboomkoaaGreat

/-
  The walks of the specification's field.
  (-DROP-: what the seat lacks is left out.)
-/
namespace Go.Proofs.YthnahalboomkoaaGreat
open Go.RowKit

set_option maxHeartbeats 400000 in
set_option maxRecDepth 100000 in
theorem sOf_any (n : Int) (w : World) :
    Calls Tryz.prog 198 #[.int .i64 n] w fun e w' => e = .returned (.int .i64 (fp n)) ∧ w = w' := by
  have hb := tmod_bounds n
  by_cases h : Int.tmod n 12107 < 0
  · have he := tmod_neg_fp h
    go_enter Tryz.func198, Tryz.ntmps198
    go_wp2
    go_ret
    exact ⟨rfl, rfl⟩
  · have he := tmod_nonneg_fp h
    go_enter Tryz.func198, Tryz.ntmps198
    go_wp2
    go_ret
    exact ⟨rfl, rfl⟩

set_option maxHeartbeats 400000 in
set_option maxRecDepth 100000 in
theorem sAdd_any (a b : Int) (w : World) :
    Calls Tryz.prog 167 #[.int .i64 a, .int .i64 b] w fun e w' => e = .returned (.int .i64 (fpAdd a b)) ∧ w = w' := by
  have ha0 := fp_nonneg a
  have ha1 := fp_lt a
  have hb0 := fp_nonneg b
  have hb1 := fp_lt b
  have HE : Hid (fpAdd a b = fp (fp a + fp b)) := rfl
  go_enter Tryz.func167, Tryz.ntmps167
  go_wp2_with (go_at_call 198; refine (sOf_any _ _).mono ?_; rintro e w1 ⟨rfl, rfl⟩)
  go_ret
  exact ⟨by rw [HE.out]; rfl, rfl⟩

set_option maxHeartbeats 400000 in
set_option maxRecDepth 100000 in
theorem sSub_any (a b : Int) (w : World) :
    Calls Tryz.prog 165 #[.int .i64 a, .int .i64 b] w fun e w' => e = .returned (.int .i64 (fpSub a b)) ∧ w = w' := by
  have ha0 := fp_nonneg a
  have ha1 := fp_lt a
  have hb0 := fp_nonneg b
  have hb1 := fp_lt b
  have HE : Hid (fpSub a b = fp (fp a - fp b)) := rfl
  go_enter Tryz.func165, Tryz.ntmps165
  go_wp2_with (go_at_call 198; refine (sOf_any _ _).mono ?_; rintro e w1 ⟨rfl, rfl⟩)
  go_ret
  exact ⟨by rw [HE.out]; rfl, rfl⟩

set_option maxHeartbeats 400000 in
set_option maxRecDepth 100000 in
theorem sMul_any (a b : Int) (w : World) :
    Calls Tryz.prog 166 #[.int .i64 a, .int .i64 b] w fun e w' => e = .returned (.int .i64 (fpMul a b)) ∧ w = w' := by
  have ha0 := fp_nonneg a
  have ha1 := fp_lt a
  have hb0 := fp_nonneg b
  have hb1 := fp_lt b
  have hp0 := prod_nonneg ha0 hb0
  have hp1 := prod_le ha0 ha1 hb0 hb1
  have HE : Hid (fpMul a b = fp (fp a * fp b)) := rfl
  go_enter Tryz.func166, Tryz.ntmps166
  go_wp2_with (go_at_call 198; refine (sOf_any _ _).mono ?_; rintro e w1 ⟨rfl, rfl⟩)
  go_ret
  exact ⟨by rw [HE.out]; rfl, rfl⟩

theorem sMul_nat (a b : Nat) (w : World) :
    Calls Tryz.prog 166 #[.int .i64 (a : Int), .int .i64 (b : Int)] w fun e w' => e = .returned (.int .i64 ((a * b % 12107 : Nat) : Int)) ∧ w = w' := by
  have h := sMul_any a b w
  rw [show fpMul (a : Int) (b : Int) = ((a * b % 12107 : Nat) : Int) by rw [fpMul_eq]; unfold fp; omega] at h
  exact h

set_option maxHeartbeats 400000 in
set_option maxRecDepth 100000 in
theorem sPow_neg (a n : Int) (hn : n < 0) (w : World) :
    Calls Tryz.prog 197 #[.int .i64 a, .int .i64 n] w fun e w' => e = .returned (.int .i64 0) ∧ w = w' := by
  go_enter Tryz.func197, Tryz.ntmps197
  go_wp2
  go_ret
  exact ⟨rfl, rfl⟩

set_option maxHeartbeats 800000 in
set_option maxRecDepth 100000 in
theorem sPow_nat (a : Int) (n : Nat) (hn : n ≤ 9223372036854775807) (w : World) :
    Calls Tryz.prog 197 #[.int .i64 a, .int .i64 (n : Int)] w fun e w' => e = .returned (.int .i64 ((nat a ^ n % 12107 : Nat) : Int)) ∧ w = w' := by
  have hn0 : ¬ (n : Int) < 0 := by omega
  obtain ⟨A, hA⟩ : ∃ A, A = nat a := ⟨_, rfl⟩
  have HA : Hid (A < 12107) := by rw [hA]; exact nat_lt a
  have HFA : Hid (fp a = (A : Int)) := by rw [hA]; exact (nat_cast a).symm
  rw [← hA]
  clear hA
  obtain ⟨R, hR⟩ : ∃ R, R = A ^ n % 12107 := ⟨_, rfl⟩
  rw [← hR]
  have HR : Hid (R = A ^ n % 12107) := hR
  clear hR
  go_enter Tryz.func197, Tryz.ntmps197
  go_wp2_with (go_at_call 198; refine (sOf_any _ _).mono ?_; rintro e w1 ⟨rfl, rfl⟩)
  rw [HFA.out]
  go_loopw [1, 5, 6] (fun m x b wr => ∃ k r s : Nat, m = .int .i64 (k : Int) ∧ k ≤ n ∧ x = .int .i64 (r : Int) ∧ b = .int .i64 (s : Int) ∧ r < 12107 ∧ s < 12107 ∧ Hid (r * s ^ k % 12107 = R) ∧ w = wr) (fun m _ _ _ => (intOf m).toNat)
  case atStart => exact ⟨n, 1, A, rfl, Nat.le_refl _, rfl, rfl, by omega, HA.out, (show 1 * A ^ n % 12107 = R by rw [Nat.one_mul, HR.out]), rfl⟩
  case round =>
    obtain ⟨k, r, s, rfl, hk, rfl, rfl, hr, hs, HP, rfl⟩ := hrel
    by_cases h0 : 0 < k
    · have h0' : (0 : Int) < (k : Int) := by omega
      have hq : Int.tdiv (k : Int) 2 = ((k / 2 : Nat) : Int) := by rw [Int.tdiv_eq_ediv_of_nonneg (by omega)]; omega
      have hqb : k / 2 < k := by omega
      have HS2 : Hid (s * s % 12107 < 12107) := Nat.mod_lt _ (by decide)
      have HR2 : Hid (r * s % 12107 < 12107) := Nat.mod_lt _ (by decide)
      have HC : Hid (∀ w, Calls Tryz.prog 166 #[.int .i64 (r : Int), .int .i64 (s : Int)] w fun e w' => e = .returned (.int .i64 ((r * s % 12107 : Nat) : Int)) ∧ w = w') := sMul_nat r s
      have HD : Hid (∀ w, Calls Tryz.prog 166 #[.int .i64 (s : Int), .int .i64 (s : Int)] w fun e w' => e = .returned (.int .i64 ((s * s % 12107 : Nat) : Int)) ∧ w = w') := sMul_nat s s
      by_cases h2 : k % 2 = 1
      · have h2' : Int.tmod (k : Int) 2 = 1 := by rw [Int.tmod_eq_emod_of_nonneg (by omega)]; omega
        have HN : Hid (r * s % 12107 * (s * s % 12107) ^ (k / 2) % 12107 = R) := (pow_odd r s k h2).trans HP.out
        generalize r * s % 12107 = r2 at HN HC HR2
        generalize s * s % 12107 = s2 at HN HD HS2
        generalize k / 2 = k2 at HN hq hqb
        clear h2 HP
        go_wp2_with fail
        refine (HC.out _).mono ?_
        rintro e w1 ⟨rfl, rfl⟩
        go_wp2_with fail
        refine (HD.out _).mono ?_
        rintro e w1 ⟨rfl, rfl⟩
        go_wp2
        go_roundw
        case rel => exact ⟨k2, r2, s2, by go_num, by omega, rfl, rfl, HR2.out, HS2.out, HN, by trivial⟩
        case measure => simp [intOf]; omega
      · have h2' : Int.tmod (k : Int) 2 = 0 := by rw [Int.tmod_eq_emod_of_nonneg (by omega)]; omega
        have HN : Hid (r * (s * s % 12107) ^ (k / 2) % 12107 = R) := (pow_even r s k (by omega)).trans HP.out
        generalize s * s % 12107 = s2 at HN HD HS2
        generalize k / 2 = k2 at HN hq hqb
        clear h2 HP
        go_wp2_with fail
        refine (HD.out _).mono ?_
        rintro e w1 ⟨rfl, rfl⟩
        go_wp2
        go_roundw
        case rel => exact ⟨k2, r, s2, by go_num, by omega, rfl, rfl, hr, HS2.out, HN, by trivial⟩
        case measure => simp [intOf]; omega
    · have h0' : ¬ (0 : Int) < (k : Int) := by omega
      obtain rfl : k = 0 := by omega
      have HF : Hid (R = r) := by
        have h := HP.out
        rw [Nat.pow_zero, Nat.mul_one, Nat.mod_eq_of_lt hr] at h
        exact h.symm
      clear HP
      go_wp2
      go_ret
      exact ⟨by rw [HF.out]; rfl, rfl⟩

theorem sPow_any (a n : Int) (h1 : n ≤ 9223372036854775807) (w : World) :
    Calls Tryz.prog 197 #[.int .i64 a, .int .i64 n] w fun e w' => e = .returned (.int .i64 (fpPow a n)) ∧ w = w' := by
  by_cases hn : n < 0
  · rw [fpPow_neg a hn]; exact sPow_neg a n hn w
  · obtain ⟨k, rfl⟩ : ∃ k : Nat, n = k := ⟨n.toNat, by omega⟩
    rw [fpPow_nat]
    exact sPow_nat a k (by omega) w

set_option maxHeartbeats 400000 in
set_option maxRecDepth 100000 in
theorem sIn_any (a : Int) (w : World) :
    Calls Tryz.prog 87 #[.int .i64 a, .int .i64 0, .int .i64 12106] w fun e w' => e = .returned (.bool (fpOk a)) ∧ w = w' := by
  by_cases h0 : 0 ≤ a
  · by_cases h1 : a ≤ 12106
    · rw [show fpOk a = true from decide_eq_true ⟨h0, by omega⟩]
      go_enter Tryz.func87, Tryz.ntmps87
      go_wp2
      go_ret
      exact ⟨rfl, rfl⟩
    · rw [show fpOk a = false from decide_eq_false (by omega)]
      go_enter Tryz.func87, Tryz.ntmps87
      go_wp2
      go_ret
      exact ⟨rfl, rfl⟩
  · rw [show fpOk a = false from decide_eq_false (by omega)]
    go_enter Tryz.func87, Tryz.ntmps87
    go_wp2
    go_ret
    exact ⟨rfl, rfl⟩

set_option maxRecDepth 100000 in
theorem sOk_any (a : Int) (w : World) :
    Calls Tryz.prog 162 #[.int .i64 a] w fun e w' => e = .returned (.bool (fpOk a)) ∧ w = w' := by
  go_enter Tryz.func162, Tryz.ntmps162
  go_wp2_with (go_at_call 87; refine (sIn_any _ _).mono ?_; rintro e w1 ⟨rfl, rfl⟩)
  go_ret
  exact ⟨rfl, rfl⟩

set_option maxHeartbeats 400000 in
set_option maxRecDepth 100000 in
theorem sInv_any (a : Int) (w : World) :
    Calls Tryz.prog 200 #[.int .i64 a] w fun e w' => e = .returned (.int .i64 (fpPow a 12105)) ∧ w = w' := by
  have HT : Hid (∀ w, Calls Tryz.prog 197 #[.int .i64 a, .int .i64 12105] w fun e w' => e = .returned (.int .i64 (fpPow a 12105)) ∧ w = w') := sPow_any a 12105 (by decide)
  go_enter Tryz.func200, Tryz.ntmps200
  go_wp2_with (go_at_call 197; refine (HT.out _).mono ?_; rintro e w1 ⟨rfl, rfl⟩)
  go_ret
  exact ⟨rfl, rfl⟩

end Go.Proofs.YthnahalboomkoaaGreat
