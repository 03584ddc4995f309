/-
  Texts of one's own, joined.
-/
import Derived.Test.YtkmelamfohfdkabDoorJoined14
import Derived.Maps.AppendAt
import Derived.Test.YtkmelamfohfdkabDoorJoined15
import Derived.Test.YtkmelamfohfdkabDoorProg
import Derived.Test.YtkmelamfohfdkabDoorJoined3
import Derived.WalkLawsBesides
import Derived.WalkSpells

/-
  The walks of the specification's bits and secrets.
  (-DROP-: what the seat lacks is left out.)
-/
namespace Go.Proofs.YtkmelamfohfdkabDoor
open Go.RowKit

theorem sec_next (n : Int) (k : Nat) : (List.range (k + 1)).map (sec n) = (List.range k).map (sec n) ++ [sec n k] := by
  rw [List.range_succ, List.map_append]
  rfl

theorem rem_thousand {s u n : Int} (hu : Int.tmod s 1000 = u) (hn : n = s % 1000) : (u < 0 → u + 1000 = n) ∧ (¬ u < 0 → u = n) ∧ -1000 < u ∧ u < 1000 := by
  rcases Int.le_total 0 s with h | h
  · rw [Int.tmod_eq_emod_of_nonneg h] at hu
    omega
  · have e : Int.tmod s 1000 = -((-s) % 1000) := by
      rw [← Int.tmod_eq_emod_of_nonneg (by omega : 0 ≤ -s), Int.neg_tmod, Int.neg_neg]
    rw [e] at hu
    omega

set_option maxHeartbeats 800000 in
set_option maxRecDepth 100000 in
theorem sSecs_any (s : Int) (w : World) :
    Calls Tryd.prog 9 #[.int .i64 s] w fun e w' => ∃ v, e = .returned v ∧ RowZs w.heap.size w' v (secs s) ∧ Below w.heap.size w w' := by
  obtain ⟨i0, hi, hz0, hz1, hz2⟩ := info_parts info3I
  obtain ⟨n, hn⟩ : ∃ n : Int, n = s % 1000 := ⟨_, rfl⟩
  obtain ⟨u, hu⟩ : ∃ u : Int, Int.tmod s 1000 = u := ⟨_, rfl⟩
  obtain ⟨hneg, hpos, hu0, hu1⟩ := rem_thousand hu hn
  have HS : Hid (secs s = (List.range 8).map (sec n)) := by rw [hn]; rfl
  have hn0 : 0 ≤ n ∧ n < 1000 := by omega
  clear hn
  by_cases hlt : u < 0
  · have hun := hneg hlt
    clear hneg hpos
    go_enter Tryd.func9, Tryd.ntmps9
    go_wp2
    go_loopw [4, 5] (fun v i wr => ∃ (k : Nat) (l : List Int), i = .int .i64 (k : Int) ∧ k ≤ 8 ∧ Hid (l = (List.range k).map (sec n)) ∧ wr.ownsRow w.heap.size 3 1 v l.length (zsV l) ∧ Hid (Below w.heap.size w wr)) (fun _ i _ => 8 - (intOf i).toNat)
    case atStart => exact ⟨0, [], rfl, by omega, rfl, World.ownsRow_lit _ _ _ (Nat.le_refl _) (by simp [maxLen]) (by simp), (Below.refl _ _).alloc (Nat.le_refl _) _⟩
    case round =>
      obtain ⟨k, l, rfl, hk, HL, hown, HB⟩ := hrel
      have hll : l.length = k := by rw [HL.out]; simp
      have hm63 : l.length + 1 ≤ maxLen := by unfold maxLen; omega
      have hm47 : (l.length + 1) * 8 ≤ 140737488355328 := by omega
      have hsz : w.heap.size ≤ wr.heap.size := HB.out.size
      clear hll
      by_cases hlt : k < 8
      · have hlt' : (k : Int) < 8 := by omega
        obtain ⟨x, hx⟩ : ∃ x : Int, Int.tmod (n * 31 + (k : Int) * 57 + 7) 1007 = x := ⟨_, rfl⟩
        have hxe : x = (n * 31 + (k : Int) * 57 + 7) % 1007 := by rw [← hx, Int.tmod_eq_emod_of_nonneg (by omega)]
        have HX : Hid (1 + x = sec n k) := by unfold sec; rw [hxe]; rfl
        have hx0 : 0 ≤ x ∧ x < 1007 := by omega
        clear hxe
        go_wp2_with (at_builtin; refine wpList_append_own _ rfl _ _ 29 rfl w.heap.size 3 i0 (.int .i64 0) 1 8 Tryd.underlying29 hi hz0 hz1 hz2 rfl (by decide) _ _ _ rfl (hown.alloc _) ⟨wr.heap.size, 0, none⟩ 1 1 [.int .i64 (1 + x)] rfl rfl (cell_one_new _ _ _) (one_cell _ _) hm63 hm47 (room_for hsz _) ?_)
        intro v' w4 hown' hgrow _
        have R : w4.ownsRow w.heap.size 3 1 v' (l ++ [1 + x]).length (zsV (l ++ [1 + x])) := by
          rw [zsV_append, List.length_append]; exact hown'
        have HB2 : Hid (Below w.heap.size w w4) := (HB.out.alloc hsz _).grown hgrow (by simp; omega) (fun k hk => (hown.lt k hk).1)
        have HL2 : Hid (l ++ [1 + x] = (List.range (k + 1)).map (sec n)) := by
          show l ++ [1 + x] = _
          rw [sec_next, HL.out, HX.out]
        clear hown' hgrow hown
        go_wp2
        go_roundw
        case rel => exact ⟨k + 1, _, by go_num, hlt, HL2, R, HB2⟩
        case measure => simp [intOf]; omega
      · have hlt' : ¬ (k : Int) < 8 := by omega
        obtain rfl : k = 8 := by omega
        have HO : Hid (wr.ownsRow w.heap.size 3 1 _ l.length (zsV l)) := hown
        clear hown hm63 hm47
        go_wp2
        go_ret
        exact ⟨_, rfl, by rw [HS.out, ← HL.out]; exact HO.out, HB.out⟩
  · have hun := (hpos hlt).symm
    subst hun
    clear hneg hpos
    go_enter Tryd.func9, Tryd.ntmps9
    go_wp2
    go_loopw [4, 5] (fun v i wr => ∃ (k : Nat) (l : List Int), i = .int .i64 (k : Int) ∧ k ≤ 8 ∧ Hid (l = (List.range k).map (sec n)) ∧ wr.ownsRow w.heap.size 3 1 v l.length (zsV l) ∧ Hid (Below w.heap.size w wr)) (fun _ i _ => 8 - (intOf i).toNat)
    case atStart => exact ⟨0, [], rfl, by omega, rfl, World.ownsRow_lit _ _ _ (Nat.le_refl _) (by simp [maxLen]) (by simp), (Below.refl _ _).alloc (Nat.le_refl _) _⟩
    case round =>
      obtain ⟨k, l, rfl, hk, HL, hown, HB⟩ := hrel
      have hll : l.length = k := by rw [HL.out]; simp
      have hm63 : l.length + 1 ≤ maxLen := by unfold maxLen; omega
      have hm47 : (l.length + 1) * 8 ≤ 140737488355328 := by omega
      have hsz : w.heap.size ≤ wr.heap.size := HB.out.size
      clear hll
      by_cases hlt : k < 8
      · have hlt' : (k : Int) < 8 := by omega
        obtain ⟨x, hx⟩ : ∃ x : Int, Int.tmod (n * 31 + (k : Int) * 57 + 7) 1007 = x := ⟨_, rfl⟩
        have hxe : x = (n * 31 + (k : Int) * 57 + 7) % 1007 := by rw [← hx, Int.tmod_eq_emod_of_nonneg (by omega)]
        have HX : Hid (1 + x = sec n k) := by unfold sec; rw [hxe]; rfl
        have hx0 : 0 ≤ x ∧ x < 1007 := by omega
        clear hxe
        go_wp2_with (at_builtin; refine wpList_append_own _ rfl _ _ 29 rfl w.heap.size 3 i0 (.int .i64 0) 1 8 Tryd.underlying29 hi hz0 hz1 hz2 rfl (by decide) _ _ _ rfl (hown.alloc _) ⟨wr.heap.size, 0, none⟩ 1 1 [.int .i64 (1 + x)] rfl rfl (cell_one_new _ _ _) (one_cell _ _) hm63 hm47 (room_for hsz _) ?_)
        intro v' w4 hown' hgrow _
        have R : w4.ownsRow w.heap.size 3 1 v' (l ++ [1 + x]).length (zsV (l ++ [1 + x])) := by
          rw [zsV_append, List.length_append]; exact hown'
        have HB2 : Hid (Below w.heap.size w w4) := (HB.out.alloc hsz _).grown hgrow (by simp; omega) (fun k hk => (hown.lt k hk).1)
        have HL2 : Hid (l ++ [1 + x] = (List.range (k + 1)).map (sec n)) := by
          show l ++ [1 + x] = _
          rw [sec_next, HL.out, HX.out]
        clear hown' hgrow hown
        go_wp2
        go_roundw
        case rel => exact ⟨k + 1, _, by go_num, hlt, HL2, R, HB2⟩
        case measure => simp [intOf]; omega
      · have hlt' : ¬ (k : Int) < 8 := by omega
        obtain rfl : k = 8 := by omega
        have HO : Hid (wr.ownsRow w.heap.size 3 1 _ l.length (zsV l)) := hown
        clear hown hm63 hm47
        go_wp2
        go_ret
        exact ⟨_, rfl, by rw [HS.out, ← HL.out]; exact HO.out, HB.out⟩

theorem RowZs.form {B : Nat} {w : World} {v : Value} {s : Int} (h : RowZs B w v (secs s)) : ∃ g c, v = .slice (some ⟨g, 0, none⟩) 8 c ∧ ∀ j, j < 8 → w.cell? ⟨g, j, none⟩ = some (.int .i64 (sec (s % 1000) j)) := by
  have hl : (secs s).length = 8 := by simp [secs]
  rcases h.2 with ⟨_, h0⟩ | ⟨g, c, cur, rfl, hg, hh, hrest⟩
  · omega
  · refine ⟨g, c, by rw [hl], fun j hj => ?_⟩
    rw [World.ownsRow.cellAt h j (by omega)]
    simp [zsV, secs, hj]

end Go.Proofs.YtkmelamfohfdkabDoor

/-
  The walks of the program's field.
  (-DROP-: what the seat lacks is left out.)
-/
namespace Go.Proofs.YtkmelamfohfdkabDoor
open Go.RowKit

set_option maxHeartbeats 400000 in
set_option maxRecDepth 100000 in
theorem fieldOf_any (n : Int) (w : World) :
    Calls Tryd.prog 62 #[.int .i64 n] w fun e w' => e = .returned (.int .i64 (fp n)) ∧ w = w' := by
  have hb := tmod_bounds n
  by_cases h : Int.tmod n 12107 < 0
  · have he := tmod_neg_fp h
    go_enter Tryd.func62, Tryd.ntmps62
    go_wp2
    go_ret
    exact ⟨rfl, rfl⟩
  · have he := tmod_nonneg_fp h
    go_enter Tryd.func62, Tryd.ntmps62
    go_wp2
    go_ret
    exact ⟨rfl, rfl⟩

set_option maxHeartbeats 400000 in
set_option maxRecDepth 100000 in
theorem plus_any (a b : Int) (a0 : 0 ≤ a) (a1 : a < 12107) (b0 : 0 ≤ b) (b1 : b < 12107) (w : World) :
    Calls Tryd.prog 60 #[.int .i64 a, .int .i64 b] w fun e w' => e = .returned (.int .i64 (fp (a + b))) ∧ w = w' := by
  have he := tmod_fp (n := a + b) (by omega)
  have h0 := fp_nonneg (a + b)
  have h1 := fp_lt (a + b)
  go_enter Tryd.func60, Tryd.ntmps60
  go_wp2
  go_ret
  exact ⟨rfl, rfl⟩

set_option maxHeartbeats 400000 in
set_option maxRecDepth 100000 in
theorem minus_any (a b : Int) (a0 : 0 ≤ a) (a1 : a < 12107) (b0 : 0 ≤ b) (b1 : b < 12107) (w : World) :
    Calls Tryd.prog 55 #[.int .i64 a, .int .i64 b] w fun e w' => e = .returned (.int .i64 (fp (a - b))) ∧ w = w' := by
  have he : Int.tmod (a + 12107 - b) 12107 = fp (a - b) := by
    rw [tmod_fp (n := a + 12107 - b) (by omega), ← fp_put (a - b)]
    congr 1; omega
  have h0 := fp_nonneg (a - b)
  have h1 := fp_lt (a - b)
  go_enter Tryd.func55, Tryd.ntmps55
  go_wp2
  go_ret
  exact ⟨rfl, rfl⟩

set_option maxHeartbeats 400000 in
set_option maxRecDepth 100000 in
theorem times_any (a b : Int) (a0 : 0 ≤ a) (a1 : a < 12107) (b0 : 0 ≤ b) (b1 : b < 12107) (w : World) :
    Calls Tryd.prog 49 #[.int .i64 a, .int .i64 b] w fun e w' => e = .returned (.int .i64 (fp (a * b))) ∧ w = w' := by
  have hp0 := prod_nonneg a0 b0
  have hp1 := prod_le a0 a1 b0 b1
  have he := tmod_fp (n := a * b) hp0
  have h0 := fp_nonneg (a * b)
  have h1 := fp_lt (a * b)
  go_enter Tryd.func49, Tryd.ntmps49
  go_wp2
  go_ret
  exact ⟨rfl, rfl⟩

theorem times_nat (a b : Nat) (ha : a < 12107) (hb : b < 12107) (w : World) :
    Calls Tryd.prog 49 #[.int .i64 (a : Int), .int .i64 (b : Int)] w fun e w' => e = .returned (.int .i64 ((a * b % 12107 : Nat) : Int)) ∧ w = w' := by
  have h := times_any a b (by omega) (by omega) (by omega) (by omega) w
  rw [show fp ((a : Int) * (b : Int)) = ((a * b % 12107 : Nat) : Int) by unfold fp; omega] at h
  exact h

set_option maxHeartbeats 400000 in
set_option maxRecDepth 100000 in
theorem power_neg (a n : Int) (hn : n < 0) (w : World) :
    Calls Tryd.prog 63 #[.int .i64 a, .int .i64 n] w fun e w' => e = .returned (.int .i64 0) ∧ w = w' := by
  go_enter Tryd.func63, Tryd.ntmps63
  go_wp2
  go_ret
  exact ⟨rfl, rfl⟩

set_option maxHeartbeats 800000 in
set_option maxRecDepth 100000 in
theorem power_nat (a n : Nat) (ha : a < 12107) (hn : n ≤ 9223372036854775807) (w : World) :
    Calls Tryd.prog 63 #[.int .i64 (a : Int), .int .i64 (n : Int)] w fun e w' => e = .returned (.int .i64 ((a ^ n % 12107 : Nat) : Int)) ∧ w = w' := by
  have hn0 : ¬ (n : Int) < 0 := by omega
  obtain ⟨R, hR⟩ : ∃ R, R = a ^ n % 12107 := ⟨_, rfl⟩
  rw [← hR]
  have HR : Hid (R = a ^ n % 12107) := hR
  clear hR
  go_enter Tryd.func63, Tryd.ntmps63
  go_wp2
  go_loopw [1, 5, 6] (fun m x b wr => ∃ k r s : Nat, m = .int .i64 (k : Int) ∧ k ≤ n ∧ x = .int .i64 (r : Int) ∧ b = .int .i64 (s : Int) ∧ r < 12107 ∧ s < 12107 ∧ Hid (r * s ^ k % 12107 = R) ∧ w = wr) (fun m _ _ _ => (intOf m).toNat)
  case atStart => exact ⟨n, 1, a, rfl, Nat.le_refl _, rfl, rfl, by omega, ha, (show 1 * a ^ n % 12107 = R by rw [Nat.one_mul, HR.out]), rfl⟩
  case round =>
    obtain ⟨k, r, s, rfl, hk, rfl, rfl, hr, hs, HP, rfl⟩ := hrel
    by_cases h0 : 0 < k
    · have h0' : (0 : Int) < (k : Int) := by omega
      have hq : Int.tdiv (k : Int) 2 = ((k / 2 : Nat) : Int) := by rw [Int.tdiv_eq_ediv_of_nonneg (by omega)]; omega
      have hqb : k / 2 < k := by omega
      have HS2 : Hid (s * s % 12107 < 12107) := Nat.mod_lt _ (by decide)
      have HR2 : Hid (r * s % 12107 < 12107) := Nat.mod_lt _ (by decide)
      have HC : Hid (∀ w, Calls Tryd.prog 49 #[.int .i64 (r : Int), .int .i64 (s : Int)] w fun e w' => e = .returned (.int .i64 ((r * s % 12107 : Nat) : Int)) ∧ w = w') := times_nat r s hr hs
      have HD : Hid (∀ w, Calls Tryd.prog 49 #[.int .i64 (s : Int), .int .i64 (s : Int)] w fun e w' => e = .returned (.int .i64 ((s * s % 12107 : Nat) : Int)) ∧ w = w') := times_nat s s hs hs
      by_cases h2 : k % 2 = 1
      · have h2' : Int.tmod (k : Int) 2 = 1 := by rw [Int.tmod_eq_emod_of_nonneg (by omega)]; omega
        have HN : Hid (r * s % 12107 * (s * s % 12107) ^ (k / 2) % 12107 = R) := (pow_odd r s k h2).trans HP.out
        generalize r * s % 12107 = r2 at HN HC HR2
        generalize s * s % 12107 = s2 at HN HD HS2
        generalize k / 2 = k2 at HN hq hqb
        clear h2 HP
        go_wp2_with fail
        refine (HC.out _).mono ?_
        rintro e w1 ⟨rfl, rfl⟩
        go_wp2_with fail
        refine (HD.out _).mono ?_
        rintro e w1 ⟨rfl, rfl⟩
        go_wp2
        go_roundw
        case rel => exact ⟨k2, r2, s2, by go_num, by omega, rfl, rfl, HR2.out, HS2.out, HN, by trivial⟩
        case measure => simp [intOf]; omega
      · have h2' : Int.tmod (k : Int) 2 = 0 := by rw [Int.tmod_eq_emod_of_nonneg (by omega)]; omega
        have HN : Hid (r * (s * s % 12107) ^ (k / 2) % 12107 = R) := (pow_even r s k (by omega)).trans HP.out
        generalize s * s % 12107 = s2 at HN HD HS2
        generalize k / 2 = k2 at HN hq hqb
        clear h2 HP
        go_wp2_with fail
        refine (HD.out _).mono ?_
        rintro e w1 ⟨rfl, rfl⟩
        go_wp2
        go_roundw
        case rel => exact ⟨k2, r, s2, by go_num, by omega, rfl, rfl, hr, HS2.out, HN, by trivial⟩
        case measure => simp [intOf]; omega
    · have h0' : ¬ (0 : Int) < (k : Int) := by omega
      obtain rfl : k = 0 := by omega
      have HF : Hid (R = r) := by
        have h := HP.out
        rw [Nat.pow_zero, Nat.mul_one, Nat.mod_eq_of_lt hr] at h
        exact h.symm
      clear HP
      go_wp2
      go_ret
      exact ⟨by rw [HF.out]; rfl, rfl⟩

theorem power_any (a n : Int) (a0 : 0 ≤ a) (a1 : a < 12107) (h1 : n ≤ 9223372036854775807) (w : World) :
    Calls Tryd.prog 63 #[.int .i64 a, .int .i64 n] w fun e w' => e = .returned (.int .i64 (fpPow a n)) ∧ w = w' := by
  by_cases hn : n < 0
  · rw [fpPow_neg a hn]; exact power_neg a n hn w
  · obtain ⟨k, rfl⟩ : ∃ k : Nat, n = k := ⟨n.toNat, by omega⟩
    obtain ⟨b, rfl⟩ : ∃ b : Nat, a = b := ⟨a.toNat, by omega⟩
    rw [fpPow_nat, nat_small (by omega)]
    exact power_nat b k (by omega) (by omega) w

set_option maxHeartbeats 400000 in
set_option maxRecDepth 100000 in
theorem inverse_any (a : Int) (a0 : 0 ≤ a) (a1 : a < 12107) (w : World) :
    Calls Tryd.prog 64 #[.int .i64 a] w fun e w' => e = .returned (.int .i64 (fpPow a 12105)) ∧ w = w' := by
  have HC : Hid (∀ w, Calls Tryd.prog 63 #[.int .i64 a, .int .i64 12105] w fun e w' => e = .returned (.int .i64 (fpPow a 12105)) ∧ w = w') := power_any a 12105 a0 a1 (by decide)
  go_enter Tryd.func64, Tryd.ntmps64
  go_wp2_with fail
  refine (HC.out _).mono ?_
  rintro e w1 ⟨rfl, rfl⟩
  go_wp2
  go_ret
  exact ⟨rfl, rfl⟩

set_option maxHeartbeats 800000 in
set_option maxRecDepth 100000 in
theorem root_any (a : Int) (a0 : 0 ≤ a) (a1 : a < 12107) (w : World) :
    Calls Tryd.prog 53 #[.int .i64 a] w fun e w' => e = .returned (.tuple #[.int .i64 (rootV a), .bool (rootB a)]) ∧ w = w' := by
  obtain ⟨x, hx⟩ : ∃ x, x = rootX a := ⟨_, rfl⟩
  have hxb : 0 ≤ x ∧ x < 12107 := by rw [hx]; exact fpPow_bounds a 3027
  have HP : Hid (∀ w, Calls Tryd.prog 63 #[.int .i64 a, .int .i64 3027] w fun e w' => e = .returned (.int .i64 x) ∧ w = w') := by rw [hx]; exact power_any a 3027 a0 a1 (by decide)
  obtain ⟨q, hq⟩ : ∃ q, q = fp (x * x) := ⟨_, rfl⟩
  have HT : Hid (∀ w, Calls Tryd.prog 49 #[.int .i64 x, .int .i64 x] w fun e w' => e = .returned (.int .i64 q) ∧ w = w') := by rw [hq]; exact times_any x x hxb.1 hxb.2 hxb.1 hxb.2
  obtain ⟨m, hm⟩ : ∃ m, m = fp (0 - x) := ⟨_, rfl⟩
  have HM : Hid (∀ w, Calls Tryd.prog 55 #[.int .i64 0, .int .i64 x] w fun e w' => e = .returned (.int .i64 m) ∧ w = w') := by rw [hm]; exact minus_any 0 x (by decide) (by decide) hxb.1 hxb.2
  have hb : rootB a = decide (q = a) := by unfold rootB; rw [← hx, fpMul_eq, ← hq, fp_small a0 a1]
  have hv : rootV a = if q = a then min x m else 0 := by
    unfold rootV
    rw [hb, ← hx, fpSub_eq, ← hm]
    by_cases h : q = a
    · rw [if_pos (by simpa using h), if_pos h]; omega
    · rw [if_neg (by simpa using h), if_neg h]
  rw [hb, hv]
  clear hb hv hx hq hm
  by_cases h : q = a
  · rw [if_pos h, decide_eq_true h]
    subst h
    by_cases hle : m < x
    · rw [show min x m = m by omega]
      go_enter Tryd.func53, Tryd.ntmps53
      go_wp2_with (first | (go_at_call 63; refine (HP.out _).mono ?_; rintro e w1 ⟨rfl, rfl⟩) | (go_at_call 49; refine (HT.out _).mono ?_; rintro e w1 ⟨rfl, rfl⟩) | (go_at_call 55; refine (HM.out _).mono ?_; rintro e w1 ⟨rfl, rfl⟩))
      go_ret2
      exact ⟨rfl, rfl⟩
    · rw [show min x m = x by omega]
      go_enter Tryd.func53, Tryd.ntmps53
      go_wp2_with (first | (go_at_call 63; refine (HP.out _).mono ?_; rintro e w1 ⟨rfl, rfl⟩) | (go_at_call 49; refine (HT.out _).mono ?_; rintro e w1 ⟨rfl, rfl⟩) | (go_at_call 55; refine (HM.out _).mono ?_; rintro e w1 ⟨rfl, rfl⟩))
      go_ret2
      exact ⟨rfl, rfl⟩
  · rw [if_neg h, decide_eq_false h]
    go_enter Tryd.func53, Tryd.ntmps53
    go_wp2_with (first | (go_at_call 63; refine (HP.out _).mono ?_; rintro e w1 ⟨rfl, rfl⟩) | (go_at_call 49; refine (HT.out _).mono ?_; rintro e w1 ⟨rfl, rfl⟩))
    go_ret2
    exact ⟨rfl, rfl⟩

set_option maxHeartbeats 400000 in
set_option maxRecDepth 100000 in
theorem iOk_any (a : Int) (w : World) :
    Calls Tryd.prog 48 #[.int .i64 a] w fun e w' => e = .returned (.bool (fpOk a)) ∧ w = w' := by
  by_cases h0 : 0 ≤ a
  · by_cases h1 : a < 12107
    · rw [show fpOk a = true from decide_eq_true ⟨h0, h1⟩]
      go_enter Tryd.func48, Tryd.ntmps48
      go_wp2
      go_ret
      exact ⟨rfl, rfl⟩
    · rw [show fpOk a = false from decide_eq_false (by omega)]
      go_enter Tryd.func48, Tryd.ntmps48
      go_wp2
      go_ret
      exact ⟨rfl, rfl⟩
  · rw [show fpOk a = false from decide_eq_false (by omega)]
    go_enter Tryd.func48, Tryd.ntmps48
    go_wp2
    go_ret
    exact ⟨rfl, rfl⟩

theorem fpPow_fp (a n : Int) : fpPow (fp a) n = fpPow a n := by unfold fpPow nat; rw [fp_fp]

theorem rootX_fp (a : Int) : rootX (fp a) = rootX a := fpPow_fp a 3027
theorem rootB_fp (a : Int) : rootB (fp a) = rootB a := by unfold rootB; rw [rootX_fp, fp_fp]
theorem rootV_fp (a : Int) : rootV (fp a) = rootV a := by unfold rootV; rw [rootB_fp, rootX_fp]

end Go.Proofs.YtkmelamfohfdkabDoor
