/-
  The walks of the program's tree of hashes: a leaf with its branch.
  (-DROP-: what the seat lacks is left out.)
-/
import Derived.Test.YtkiljlmihoaaaaaDoorTreeI2
namespace Go.Proofs.YtkiljlmihoaaaaaDoor
open Go.RowKit

/-- Halved so often. -/
def hlf (m j : Nat) : Nat := m / 2 ^ j
theorem hlf_next (m j : Nat) : hlf m (j + 1) = hlf m j / 2 := by
  unfold hlf
  rw [Nat.pow_succ, Nat.div_div_eq_div_mul]
theorem hlf_zero (m : Nat) : hlf m 0 = m := by simp [hlf]

set_option maxHeartbeats 400000 in
set_option maxRecDepth 100000 in
theorem iFold_any (t : ByteArray) (ht : t.size ≤ 1048576) (i : Int) (a : Option Addr) (n cp : Nat) (hm : n ≤ 9223372036854775807) (f : Nat → ByteArray) (hs : ∀ j, j < n → (f j).size ≤ 1048576) (w : World) (hA : StrsAt w a n w.heap.size f) (hT : Tab w) :
    Calls Tryd.prog 13 #[.string t, .int .i64 i, .slice a n cp] w fun e w' => e = .returned (.string (foldT digT t i (lst f n))) ∧ Below w.heap.size w w' := by
  have HA : Hid (StrsAt w a n w.heap.size f) := hA
  have HS : Hid (∀ j, j < n → (f j).size ≤ 1048576) := hs
  have HT : Hid (Tab w) := hT
  clear hA hs hT
  by_cases hn : n ≤ 5
  · have hn5 : ¬ (5 : Int) < (n : Int) := by omega
    have hp : 2 ^ n ≤ 32 := by
      have : 2 ^ n ≤ 2 ^ 5 := Nat.pow_le_pow_right (by decide) hn
      omega
    obtain ⟨E, hE⟩ : ∃ E : Nat, E = 2 ^ n := ⟨_, rfl⟩
    have hEi : (2 : Int) ^ n = (E : Int) := by rw [hE, Int.natCast_pow]; rfl
    have hE32 : E ≤ 32 := by omega
    have hEw : IntKind.i64.wrap (E : Int) = (E : Int) := IntWalk.i64_in _ (by omega)
    by_cases hi : 0 ≤ i ∧ i < (E : Int)
    · obtain ⟨m, rfl⟩ : ∃ m : Nat, i = (m : Int) := ⟨i.toNat, by omega⟩
      have hmE : m < 32 := by omega
      have hi0 : ¬ (m : Int) < 0 := by omega
      have hi1 : ¬ (E : Int) ≤ (m : Int) := by omega
      have HV : Hid (foldT digT t (m : Int) (lst f n) = foldF digT f m (digT t) n) := by
        show foldT digT t (m : Int) (lst f n) = _
        unfold foldT
        rw [lst_length, if_pos ⟨hn, by omega, by rw [hEi]; omega⟩, foldL_F]
        rfl
      have HD : Hid (Calls Tryd.prog 36 #[.string t] w fun e w' => e = .returned (.string (foldF digT f m (digT t) 0)) ∧ Below w.heap.size w w') := iDig_any t (by omega) w HT.out
      have HZ : Hid (∀ k, (foldF digT f m (digT t) k).size = 32) := foldF_size f m _ (digT_size _)
      have HNX : Hid (∀ k, foldF digT f m (digT t) (k + 1) = if hlf m k % 2 = 1 then digT (f k ++ foldF digT f m (digT t) k) else digT (foldF digT f m (digT t) k ++ f k)) := fun _ => rfl
      rw [HV.out]
      clear HV
      generalize foldF digT f m (digT t) = X at HD HZ HNX ⊢
      clear hi hE
      go_enter Tryd.func13, Tryd.ntmps13
      go_wp2_with fail
      refine HD.out.mono ?_
      rintro e w1 ⟨rfl, hb1⟩
      have H0 : Hid (Below w.heap.size w w1) := hb1
      clear hb1 HD
      go_wp2
      go_loopw [7, 8, 30] (fun x p k wr => ∃ j q : Nat, x = .string (X j) ∧ p = .int .i64 (q : Int) ∧ k = .int .i64 (j : Int) ∧ j ≤ n ∧ q < 32 ∧ Hid (q = hlf m j) ∧ Hid (Below w.heap.size w wr)) (fun _ _ k _ => n - (intOf k).toNat)
      case atStart => exact ⟨0, m, rfl, rfl, rfl, Nat.zero_le _, hmE, (hlf_zero m).symm, H0⟩
      case round =>
        obtain ⟨j, q, rfl, rfl, rfl, hj, hq, HQ, HB⟩ := hrel
        clear H0 hp hEi hEw hE32 hi0 hi1 hn5 hmE
        by_cases hlt : j < n
        · have hlt' : (j : Int) < (n : Int) := by omega
          have hj0 : (0 : Int) ≤ (j : Int) := by omega
          obtain ⟨b, off, rfl, hb, hz⟩ := (HA.out.on HB.out) j hlt
          have hrm : Int.tmod (q : Int) 2 = ((q % 2 : Nat) : Int) := by rw [Int.tmod_eq_emod_of_nonneg (Int.natCast_nonneg _)]; omega
          have hqt : Int.tdiv (q : Int) 2 = ((q / 2 : Nat) : Int) := by rw [Int.tdiv_eq_ediv_of_nonneg (by omega)]; omega
          have hww : wrap64 ((q : Int) / 2) = ((q / 2 : Nat) : Int) := by
            rw [IntWalk.wrap64_in _ (by omega)]
            omega
          have hq2 : q / 2 < 32 := Nat.lt_of_le_of_lt (Nat.div_le_self _ _) hq
          have HQ2 : Hid (q / 2 = hlf m (j + 1)) := by
            show q / 2 = hlf m (j + 1)
            rw [HQ.out, hlf_next]
          have HN := HNX.out j
          rw [← HQ.out] at HN
          have HP1 : Hid (Calls Tryd.prog 37 #[.string (f j), .string (X j)] wr fun e w' => e = .returned (.string (digT (f j ++ X j))) ∧ Below wr.heap.size wr w') := iDPair_any _ _ (HS.out j hlt) (by rw [HZ.out]; decide) wr (HT.out.on HB.out HT.out.1)
          have HP2 : Hid (Calls Tryd.prog 37 #[.string (X j), .string (f j)] wr fun e w' => e = .returned (.string (digT (X j ++ f j))) ∧ Below wr.heap.size wr w') := iDPair_any _ _ (by rw [HZ.out]; decide) (HS.out j hlt) wr (HT.out.on HB.out HT.out.1)
          have hsz : w.heap.size ≤ wr.heap.size := HB.out.size
          by_cases hbit : q % 2 = 1
          · rw [if_pos hbit] at HN
            have HN' : Hid (X (j + 1) = digT (f j ++ X j)) := HN
            rw [hbit] at hrm
            generalize digT (f j ++ X j) = r at HP1 HN'
            generalize f j = fj at HP1 hz
            generalize X j = xj at HP1
            clear HP2 HN hb hbit HNX HZ HQ
            go_wp2_with fail
            refine HP1.out.mono ?_
            rintro e w5 ⟨rfl, hb5⟩
            have HB5 : Hid (Below w.heap.size w w5) := HB.out.trans (hb5.mono hsz)
            clear hb5 HB hz HP1 hrm
            go_wp2
            go_roundw
            case rel => exact ⟨j + 1, q / 2, by rw [HN'.out], by first | rfl | rw [hww], by go_num, hlt, hq2, HQ2, HB5⟩
            case measure => clear hqt hww; simp [intOf]; omega
          · rw [if_neg hbit] at HN
            have HN' : Hid (X (j + 1) = digT (X j ++ f j)) := HN
            have hb0 : q % 2 = 0 := (Nat.mod_two_eq_zero_or_one q).resolve_right hbit
            rw [hb0] at hrm
            generalize digT (X j ++ f j) = r at HP2 HN'
            generalize f j = fj at HP2 hz
            generalize X j = xj at HP2
            clear HP1 HN hb hbit hb0 HNX HZ HQ
            go_wp2_with fail
            refine HP2.out.mono ?_
            rintro e w5 ⟨rfl, hb5⟩
            have HB5 : Hid (Below w.heap.size w w5) := HB.out.trans (hb5.mono hsz)
            clear hb5 HB hz HP2 hrm
            go_wp2
            go_roundw
            case rel => exact ⟨j + 1, q / 2, by rw [HN'.out], by first | rfl | rw [hww], by go_num, hlt, hq2, HQ2, HB5⟩
            case measure => clear hqt hww; simp [intOf]; omega
        · have hlt' : ¬ (j : Int) < (n : Int) := by omega
          obtain rfl : j = n := by omega
          clear HNX HZ HS
          go_wp2
          go_ret
          exact ⟨rfl, HB.out⟩
    · have HV : Hid (foldT digT t i (lst f n) = noT) := by
        show foldT digT t i (lst f n) = noT
        unfold foldT
        rw [lst_length, if_neg (by rw [hEi]; omega)]
      generalize foldT digT t i (lst f n) = r at HV ⊢
      by_cases hi0 : i < 0
      · clear hi hE
        go_enter Tryd.func13, Tryd.ntmps13
        go_wp2
        go_ret
        exact ⟨by rw [HV.out]; rfl, Below.refl _ _⟩
      · have hi1 : (E : Int) ≤ i := by omega
        clear hi hE
        go_enter Tryd.func13, Tryd.ntmps13
        go_wp2
        go_ret
        exact ⟨by rw [HV.out]; rfl, Below.refl _ _⟩
  · have hn5 : (5 : Int) < (n : Int) := by omega
    have HV : Hid (foldT digT t i (lst f n) = noT) := by
      show foldT digT t i (lst f n) = noT
      unfold foldT
      rw [lst_length, if_neg (by omega)]
    generalize foldT digT t i (lst f n) = r at HV ⊢
    go_enter Tryd.func13, Tryd.ntmps13
    go_wp2
    go_ret
    exact ⟨by rw [HV.out]; rfl, Below.refl _ _⟩

end Go.Proofs.YtkiljlmihoaaaaaDoor
