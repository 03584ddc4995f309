/-
  The walks of the specification's tree of hashes: a leaf with its branch.
  (-DROP-: what the seat lacks is left out.)
-/
import Derived.Test.YtkiljlmihoaaaaaDoorTreeS3
namespace Go.Proofs.YtkiljlmihoaaaaaDoor
open Go.RowKit

/-- A leaf with its branch, step by step. -/
def foldF (D : ByteArray → ByteArray) (f : Nat → ByteArray) (m : Nat) (x : ByteArray) : Nat → ByteArray
  | 0 => x
  | k + 1 => if m / 2 ^ k % 2 = 1 then D (f k ++ foldF D f m x k) else D (foldF D f m x k ++ f k)

theorem foldF_shift (D : ByteArray → ByteArray) (f : Nat → ByteArray) (m : Nat) (x : ByteArray) : ∀ n, foldF D f m x (n + 1) = foldF D (fun j => f (j + 1)) (m / 2) (if m % 2 = 1 then D (f 0 ++ x) else D (x ++ f 0)) n
  | 0 => by
    show (if m / 2 ^ 0 % 2 = 1 then D (f 0 ++ x) else D (x ++ f 0)) = _
    rw [Nat.pow_zero, Nat.div_one]
    rfl
  | n + 1 => by
    show (if m / 2 ^ (n + 1) % 2 = 1 then D (f (n + 1) ++ foldF D f m x (n + 1)) else D (foldF D f m x (n + 1) ++ f (n + 1))) = _
    rw [foldF_shift D f m x n]
    show _ = (if m / 2 / 2 ^ n % 2 = 1 then D (f (n + 1) ++ foldF D (fun j => f (j + 1)) (m / 2) (if m % 2 = 1 then D (f 0 ++ x) else D (x ++ f 0)) n) else D (foldF D (fun j => f (j + 1)) (m / 2) (if m % 2 = 1 then D (f 0 ++ x) else D (x ++ f 0)) n ++ f (n + 1)))
    rw [Nat.div_div_eq_div_mul, Nat.pow_succ, Nat.mul_comm (2 ^ n) 2]

theorem lst_cons (f : Nat → ByteArray) (n : Nat) : lst f (n + 1) = f 0 :: lst (fun j => f (j + 1)) n := by
  unfold lst
  rw [List.range_succ_eq_map, List.map_cons, List.map_map]
  rfl

theorem foldL_F (D : ByteArray → ByteArray) : ∀ (n : Nat) (f : Nat → ByteArray) (m : Nat) (x : ByteArray), foldL D x m (lst f n) = foldF D f m x n
  | 0, _, _, _ => rfl
  | n + 1, f, m, x => by
    rw [lst_cons, foldF_shift]
    show foldL D (if m % 2 = 1 then D (f 0 ++ x) else D (x ++ f 0)) (m / 2) (lst (fun j => f (j + 1)) n) = _
    exact foldL_F D n _ _ _

theorem foldF_size (f : Nat → ByteArray) (m : Nat) (x : ByteArray) (hx : x.size = 32) : ∀ k, (foldF digT f m x k).size = 32
  | 0 => hx
  | k + 1 => by
    show (if _ then digT _ else digT _).size = 32
    split <;> exact digT_size _

set_option maxHeartbeats 1600000 in
set_option maxRecDepth 100000 in
theorem sFold_any (t : ByteArray) (ht : t.size ≤ 1048576) (i : Int) (a : Option Addr) (n cp : Nat) (hm : n ≤ 9223372036854775807) (f : Nat → ByteArray) (hs : ∀ j, j < n → (f j).size ≤ 1048576) (w : World) (hA : StrsAt w a n w.heap.size f) :
    Calls Tryd.prog 18 #[.string t, .int .i64 i, .slice a n cp] w fun e w' => e = .returned (.string (foldT digT t i (lst f n))) ∧ Below w.heap.size w w' := by
  have HA : Hid (StrsAt w a n w.heap.size f) := hA
  have HS : Hid (∀ j, j < n → (f j).size ≤ 1048576) := hs
  clear hA hs
  by_cases hn : n ≤ 5
  · have hn5 : ¬ (5 : Int) < (n : Int) := by omega
    have hp : 2 ^ n ≤ 32 := by
      have : 2 ^ n ≤ 2 ^ 5 := Nat.pow_le_pow_right (by decide) hn
      omega
    obtain ⟨E, hE⟩ : ∃ E : Nat, E = 2 ^ n := ⟨_, rfl⟩
    have hEi : (2 : Int) ^ n = (E : Int) := by rw [hE, Int.natCast_pow]; rfl
    have hE32 : E ≤ 32 := by omega
    have hEw : IntKind.i64.wrap (E : Int) = (E : Int) := IntWalk.i64_in _ (by omega)
    have hnu : IntKind.u64.wrap (n : Int) = (n : Int) := IntWalk.u64_in _ (by omega)
    have HI : Hid (∀ w, Calls Tryd.prog 40 #[.int .i64 i, .int .i64 0, .int .i64 ((E : Int) - 1)] w fun e w' => e = .returned (.bool (decide (0 ≤ i ∧ i ≤ (E : Int) - 1))) ∧ w = w') := sBetween_any i 0 _
    by_cases hi : 0 ≤ i ∧ i ≤ (E : Int) - 1
    · rw [decide_eq_true hi] at HI
      obtain ⟨m, rfl⟩ : ∃ m : Nat, i = (m : Int) := ⟨i.toNat, by omega⟩
      have hmE : m < 32 := by omega
      have HV : Hid (foldT digT t (m : Int) (lst f n) = foldF digT f m (digT t) n) := by
        show foldT digT t (m : Int) (lst f n) = _
        unfold foldT
        rw [lst_length, if_pos ⟨hn, by omega, by rw [hEi]; omega⟩, foldL_F]
        rfl
      have HD : Hid (∀ w, Calls Tryd.prog 24 #[.string t] w fun e w' => e = .returned (.string (foldF digT f m (digT t) 0)) ∧ Below w.heap.size w w') := sDig_any t (by omega)
      have HZ : Hid (∀ k, (foldF digT f m (digT t) k).size = 32) := foldF_size f m _ (digT_size _)
      have HNX : Hid (∀ k, foldF digT f m (digT t) (k + 1) = if m / 2 ^ k % 2 = 1 then digT (f k ++ foldF digT f m (digT t) k) else digT (foldF digT f m (digT t) k ++ f k)) := fun _ => rfl
      rw [HV.out]
      clear HV
      generalize foldF digT f m (digT t) = X at HD HZ HNX ⊢
      clear hi hE
      go_enter Tryd.func18, Tryd.ntmps18
      go_wp2_with fail
      refine (HI.out _).mono ?_
      rintro e w1 ⟨rfl, rfl⟩
      clear HI
      go_wp2_with fail
      refine (HD.out _).mono ?_
      rintro e w1 ⟨rfl, hb1⟩
      have H0 : Hid (Below w.heap.size w w1) := hb1
      clear hb1 HD
      go_wp2
      go_loopw [7, 8] (fun x k wr => ∃ j : Nat, x = .string (X j) ∧ k = .int .i64 (j : Int) ∧ j ≤ n ∧ Hid (Below w.heap.size w wr)) (fun _ k _ => n - (intOf k).toNat)
      case atStart => exact ⟨0, rfl, rfl, Nat.zero_le _, H0⟩
      case round =>
        obtain ⟨j, rfl, rfl, hj, HB⟩ := hrel
        clear H0
        by_cases hlt : j < n
        · have hlt' : (j : Int) < (n : Int) := by omega
          have hj0 : (0 : Int) ≤ (j : Int) := by omega
          obtain ⟨b, off, rfl, hb, hz⟩ := (HA.out.on HB.out) j hlt
          have hju : IntKind.u64.wrap (j : Int) = (j : Int) := IntWalk.u64_in _ (by omega)
          have hsh : (m : Int) / 2 ^ j = ((m / 2 ^ j : Nat) : Int) := by rw [Int.natCast_ediv, Int.natCast_pow]; rfl
          have hrm : Int.tmod ((m / 2 ^ j : Nat) : Int) 2 = ((m / 2 ^ j % 2 : Nat) : Int) := by rw [Int.tmod_eq_emod_of_nonneg (Int.natCast_nonneg _)]; omega
          have HN := HNX.out j
          have HP1 : Hid (∀ w, Calls Tryd.prog 41 #[.string (f j), .string (X j)] w fun e w' => e = .returned (.string (digT (f j ++ X j))) ∧ Below w.heap.size w w') := sDPair_any _ _ (HS.out j hlt) (by rw [HZ.out]; decide)
          have HP2 : Hid (∀ w, Calls Tryd.prog 41 #[.string (X j), .string (f j)] w fun e w' => e = .returned (.string (digT (X j ++ f j))) ∧ Below w.heap.size w w') := sDPair_any _ _ (by rw [HZ.out]; decide) (HS.out j hlt)
          have hsz : w.heap.size ≤ wr.heap.size := HB.out.size
          by_cases hbit : m / 2 ^ j % 2 = 1
          · rw [if_pos hbit] at HN
            have HN' : Hid (X (j + 1) = digT (f j ++ X j)) := HN
            rw [hbit] at hrm
            generalize digT (f j ++ X j) = r at HP1 HN'
            generalize m / 2 ^ j = mm at hsh hrm
            generalize f j = fj at HP1 hz
            generalize X j = xj at HP1
            clear HP2 HN hb hbit HNX HZ
            go_wp2_with fail
            refine (HP1.out _).mono ?_
            rintro e w5 ⟨rfl, hb5⟩
            have HB5 : Hid (Below w.heap.size w w5) := HB.out.trans (hb5.mono hsz)
            clear hb5 HB hz
            go_wp2
            go_roundw
            case rel => exact ⟨j + 1, by rw [HN'.out], by go_num, hlt, HB5⟩
            case measure => simp [intOf]; omega
          · rw [if_neg hbit] at HN
            have HN' : Hid (X (j + 1) = digT (X j ++ f j)) := HN
            have hb0 : m / 2 ^ j % 2 = 0 := by omega
            rw [hb0] at hrm
            generalize digT (X j ++ f j) = r at HP2 HN'
            generalize m / 2 ^ j = mm at hsh hrm
            generalize f j = fj at HP2 hz
            generalize X j = xj at HP2
            clear HP1 HN hb hbit hb0 HNX HZ
            go_wp2_with fail
            refine (HP2.out _).mono ?_
            rintro e w5 ⟨rfl, hb5⟩
            have HB5 : Hid (Below w.heap.size w w5) := HB.out.trans (hb5.mono hsz)
            clear hb5 HB hz
            go_wp2
            go_roundw
            case rel => exact ⟨j + 1, by rw [HN'.out], by go_num, hlt, HB5⟩
            case measure => simp [intOf]; omega
        · have hlt' : ¬ (j : Int) < (n : Int) := by omega
          obtain rfl : j = n := by omega
          clear HNX HZ HS
          go_wp2
          go_ret
          exact ⟨rfl, HB.out⟩
    · rw [decide_eq_false hi] at HI
      have HV : Hid (foldT digT t i (lst f n) = noT) := by
        show foldT digT t i (lst f n) = noT
        unfold foldT
        rw [lst_length, if_neg (by rw [hEi]; omega)]
      generalize foldT digT t i (lst f n) = r at HV ⊢
      clear hi hE
      go_enter Tryd.func18, Tryd.ntmps18
      go_wp2_with fail
      refine (HI.out _).mono ?_
      rintro e w1 ⟨rfl, rfl⟩
      go_wp2
      go_ret
      exact ⟨by rw [HV.out]; rfl, Below.refl _ _⟩
  · have hn5 : (5 : Int) < (n : Int) := by omega
    have HV : Hid (foldT digT t i (lst f n) = noT) := by
      show foldT digT t i (lst f n) = noT
      unfold foldT
      rw [lst_length, if_neg (by omega)]
    generalize foldT digT t i (lst f n) = r at HV ⊢
    go_enter Tryd.func18, Tryd.ntmps18
    go_wp2
    go_ret
    exact ⟨by rw [HV.out]; rfl, Below.refl _ _⟩

end Go.Proofs.YtkiljlmihoaaaaaDoor
