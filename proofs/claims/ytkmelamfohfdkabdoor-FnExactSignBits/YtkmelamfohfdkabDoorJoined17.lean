/-
  Texts of one's own, joined.
-/
import Derived.Test.YtkmelamfohfdkabDoorJoined16
import Derived.Test.YtkmelamfohfdkabDoorJoined15

/-
  The walks of the specification's field.
  (-DROP-: what the seat lacks is left out.)
-/
namespace Go.Proofs.YtkmelamfohfdkabDoor
open Go.RowKit

set_option maxHeartbeats 400000 in
set_option maxRecDepth 100000 in
theorem sOf_any (n : Int) (w : World) :
    Calls Tryd.prog 28 #[.int .i64 n] w fun e w' => e = .returned (.int .i64 (fp n)) ∧ w = w' := by
  have hb := tmod_bounds n
  by_cases h : Int.tmod n 12107 < 0
  · have he := tmod_neg_fp h
    go_enter Tryd.func28, Tryd.ntmps28
    go_wp2
    go_ret
    exact ⟨rfl, rfl⟩
  · have he := tmod_nonneg_fp h
    go_enter Tryd.func28, Tryd.ntmps28
    go_wp2
    go_ret
    exact ⟨rfl, rfl⟩

set_option maxHeartbeats 400000 in
set_option maxRecDepth 100000 in
theorem sAdd_any (a b : Int) (w : World) :
    Calls Tryd.prog 47 #[.int .i64 a, .int .i64 b] w fun e w' => e = .returned (.int .i64 (fpAdd a b)) ∧ w = w' := by
  have ha0 := fp_nonneg a
  have ha1 := fp_lt a
  have hb0 := fp_nonneg b
  have hb1 := fp_lt b
  have HE : Hid (fpAdd a b = fp (fp a + fp b)) := rfl
  go_enter Tryd.func47, Tryd.ntmps47
  go_wp2_with (go_at_call 28; refine (sOf_any _ _).mono ?_; rintro e w1 ⟨rfl, rfl⟩)
  go_ret
  exact ⟨by rw [HE.out]; rfl, rfl⟩

set_option maxHeartbeats 400000 in
set_option maxRecDepth 100000 in
theorem sSub_any (a b : Int) (w : World) :
    Calls Tryd.prog 40 #[.int .i64 a, .int .i64 b] w fun e w' => e = .returned (.int .i64 (fpSub a b)) ∧ w = w' := by
  have ha0 := fp_nonneg a
  have ha1 := fp_lt a
  have hb0 := fp_nonneg b
  have hb1 := fp_lt b
  have HE : Hid (fpSub a b = fp (fp a - fp b)) := rfl
  go_enter Tryd.func40, Tryd.ntmps40
  go_wp2_with (go_at_call 28; refine (sOf_any _ _).mono ?_; rintro e w1 ⟨rfl, rfl⟩)
  go_ret
  exact ⟨by rw [HE.out]; rfl, rfl⟩

set_option maxHeartbeats 400000 in
set_option maxRecDepth 100000 in
theorem sMul_any (a b : Int) (w : World) :
    Calls Tryd.prog 39 #[.int .i64 a, .int .i64 b] w fun e w' => e = .returned (.int .i64 (fpMul a b)) ∧ w = w' := by
  have ha0 := fp_nonneg a
  have ha1 := fp_lt a
  have hb0 := fp_nonneg b
  have hb1 := fp_lt b
  have hp0 := prod_nonneg ha0 hb0
  have hp1 := prod_le ha0 ha1 hb0 hb1
  have HE : Hid (fpMul a b = fp (fp a * fp b)) := rfl
  go_enter Tryd.func39, Tryd.ntmps39
  go_wp2_with (go_at_call 28; refine (sOf_any _ _).mono ?_; rintro e w1 ⟨rfl, rfl⟩)
  go_ret
  exact ⟨by rw [HE.out]; rfl, rfl⟩

theorem sMul_nat (a b : Nat) (w : World) :
    Calls Tryd.prog 39 #[.int .i64 (a : Int), .int .i64 (b : Int)] w fun e w' => e = .returned (.int .i64 ((a * b % 12107 : Nat) : Int)) ∧ w = w' := by
  have h := sMul_any a b w
  rw [show fpMul (a : Int) (b : Int) = ((a * b % 12107 : Nat) : Int) by rw [fpMul_eq]; unfold fp; omega] at h
  exact h

set_option maxHeartbeats 400000 in
set_option maxRecDepth 100000 in
theorem sPow_neg (a n : Int) (hn : n < 0) (w : World) :
    Calls Tryd.prog 46 #[.int .i64 a, .int .i64 n] w fun e w' => e = .returned (.int .i64 0) ∧ w = w' := by
  go_enter Tryd.func46, Tryd.ntmps46
  go_wp2
  go_ret
  exact ⟨rfl, rfl⟩

set_option maxHeartbeats 800000 in
set_option maxRecDepth 100000 in
theorem sPow_nat (a : Int) (n : Nat) (hn : n ≤ 9223372036854775807) (w : World) :
    Calls Tryd.prog 46 #[.int .i64 a, .int .i64 (n : Int)] w fun e w' => e = .returned (.int .i64 ((nat a ^ n % 12107 : Nat) : Int)) ∧ w = w' := by
  have hn0 : ¬ (n : Int) < 0 := by omega
  obtain ⟨A, hA⟩ : ∃ A, A = nat a := ⟨_, rfl⟩
  have HA : Hid (A < 12107) := by rw [hA]; exact nat_lt a
  have HFA : Hid (fp a = (A : Int)) := by rw [hA]; exact (nat_cast a).symm
  rw [← hA]
  clear hA
  obtain ⟨R, hR⟩ : ∃ R, R = A ^ n % 12107 := ⟨_, rfl⟩
  rw [← hR]
  have HR : Hid (R = A ^ n % 12107) := hR
  clear hR
  go_enter Tryd.func46, Tryd.ntmps46
  go_wp2_with (go_at_call 28; refine (sOf_any _ _).mono ?_; rintro e w1 ⟨rfl, rfl⟩)
  rw [HFA.out]
  go_loopw [1, 5, 6] (fun m x b wr => ∃ k r s : Nat, m = .int .i64 (k : Int) ∧ k ≤ n ∧ x = .int .i64 (r : Int) ∧ b = .int .i64 (s : Int) ∧ r < 12107 ∧ s < 12107 ∧ Hid (r * s ^ k % 12107 = R) ∧ w = wr) (fun m _ _ _ => (intOf m).toNat)
  case atStart => exact ⟨n, 1, A, rfl, Nat.le_refl _, rfl, rfl, by omega, HA.out, (show 1 * A ^ n % 12107 = R by rw [Nat.one_mul, HR.out]), rfl⟩
  case round =>
    obtain ⟨k, r, s, rfl, hk, rfl, rfl, hr, hs, HP, rfl⟩ := hrel
    by_cases h0 : 0 < k
    · have h0' : (0 : Int) < (k : Int) := by omega
      have hq : Int.tdiv (k : Int) 2 = ((k / 2 : Nat) : Int) := by rw [Int.tdiv_eq_ediv_of_nonneg (by omega)]; omega
      have hqb : k / 2 < k := by omega
      have HS2 : Hid (s * s % 12107 < 12107) := Nat.mod_lt _ (by decide)
      have HR2 : Hid (r * s % 12107 < 12107) := Nat.mod_lt _ (by decide)
      have HC : Hid (∀ w, Calls Tryd.prog 39 #[.int .i64 (r : Int), .int .i64 (s : Int)] w fun e w' => e = .returned (.int .i64 ((r * s % 12107 : Nat) : Int)) ∧ w = w') := sMul_nat r s
      have HD : Hid (∀ w, Calls Tryd.prog 39 #[.int .i64 (s : Int), .int .i64 (s : Int)] w fun e w' => e = .returned (.int .i64 ((s * s % 12107 : Nat) : Int)) ∧ w = w') := sMul_nat s s
      by_cases h2 : k % 2 = 1
      · have h2' : Int.tmod (k : Int) 2 = 1 := by rw [Int.tmod_eq_emod_of_nonneg (by omega)]; omega
        have HN : Hid (r * s % 12107 * (s * s % 12107) ^ (k / 2) % 12107 = R) := (pow_odd r s k h2).trans HP.out
        generalize r * s % 12107 = r2 at HN HC HR2
        generalize s * s % 12107 = s2 at HN HD HS2
        generalize k / 2 = k2 at HN hq hqb
        clear h2 HP
        go_wp2_with fail
        refine (HC.out _).mono ?_
        rintro e w1 ⟨rfl, rfl⟩
        go_wp2_with fail
        refine (HD.out _).mono ?_
        rintro e w1 ⟨rfl, rfl⟩
        go_wp2
        go_roundw
        case rel => exact ⟨k2, r2, s2, by go_num, by omega, rfl, rfl, HR2.out, HS2.out, HN, by trivial⟩
        case measure => simp [intOf]; omega
      · have h2' : Int.tmod (k : Int) 2 = 0 := by rw [Int.tmod_eq_emod_of_nonneg (by omega)]; omega
        have HN : Hid (r * (s * s % 12107) ^ (k / 2) % 12107 = R) := (pow_even r s k (by omega)).trans HP.out
        generalize s * s % 12107 = s2 at HN HD HS2
        generalize k / 2 = k2 at HN hq hqb
        clear h2 HP
        go_wp2_with fail
        refine (HD.out _).mono ?_
        rintro e w1 ⟨rfl, rfl⟩
        go_wp2
        go_roundw
        case rel => exact ⟨k2, r, s2, by go_num, by omega, rfl, rfl, hr, HS2.out, HN, by trivial⟩
        case measure => simp [intOf]; omega
    · have h0' : ¬ (0 : Int) < (k : Int) := by omega
      obtain rfl : k = 0 := by omega
      have HF : Hid (R = r) := by
        have h := HP.out
        rw [Nat.pow_zero, Nat.mul_one, Nat.mod_eq_of_lt hr] at h
        exact h.symm
      clear HP
      go_wp2
      go_ret
      exact ⟨by rw [HF.out]; rfl, rfl⟩

theorem sPow_any (a n : Int) (h1 : n ≤ 9223372036854775807) (w : World) :
    Calls Tryd.prog 46 #[.int .i64 a, .int .i64 n] w fun e w' => e = .returned (.int .i64 (fpPow a n)) ∧ w = w' := by
  by_cases hn : n < 0
  · rw [fpPow_neg a hn]; exact sPow_neg a n hn w
  · obtain ⟨k, rfl⟩ : ∃ k : Nat, n = k := ⟨n.toNat, by omega⟩
    rw [fpPow_nat]
    exact sPow_nat a k (by omega) w

set_option maxHeartbeats 400000 in
set_option maxRecDepth 100000 in
theorem sIn_any (a : Int) (w : World) :
    Calls Tryd.prog 7 #[.int .i64 a, .int .i64 0, .int .i64 12106] w fun e w' => e = .returned (.bool (fpOk a)) ∧ w = w' := by
  by_cases h0 : 0 ≤ a
  · by_cases h1 : a ≤ 12106
    · rw [show fpOk a = true from decide_eq_true ⟨h0, by omega⟩]
      go_enter Tryd.func7, Tryd.ntmps7
      go_wp2
      go_ret
      exact ⟨rfl, rfl⟩
    · rw [show fpOk a = false from decide_eq_false (by omega)]
      go_enter Tryd.func7, Tryd.ntmps7
      go_wp2
      go_ret
      exact ⟨rfl, rfl⟩
  · rw [show fpOk a = false from decide_eq_false (by omega)]
    go_enter Tryd.func7, Tryd.ntmps7
    go_wp2
    go_ret
    exact ⟨rfl, rfl⟩

set_option maxRecDepth 100000 in
theorem sOk_any (a : Int) (w : World) :
    Calls Tryd.prog 38 #[.int .i64 a] w fun e w' => e = .returned (.bool (fpOk a)) ∧ w = w' := by
  go_enter Tryd.func38, Tryd.ntmps38
  go_wp2_with (go_at_call 7; refine (sIn_any _ _).mono ?_; rintro e w1 ⟨rfl, rfl⟩)
  go_ret
  exact ⟨rfl, rfl⟩

set_option maxHeartbeats 400000 in
set_option maxRecDepth 100000 in
theorem sInv_any (a : Int) (w : World) :
    Calls Tryd.prog 56 #[.int .i64 a] w fun e w' => e = .returned (.int .i64 (fpPow a 12105)) ∧ w = w' := by
  have HT : Hid (∀ w, Calls Tryd.prog 46 #[.int .i64 a, .int .i64 12105] w fun e w' => e = .returned (.int .i64 (fpPow a 12105)) ∧ w = w') := sPow_any a 12105 (by decide)
  go_enter Tryd.func56, Tryd.ntmps56
  go_wp2_with (go_at_call 46; refine (HT.out _).mono ?_; rintro e w1 ⟨rfl, rfl⟩)
  go_ret
  exact ⟨rfl, rfl⟩

set_option maxHeartbeats 800000 in
set_option maxRecDepth 100000 in
theorem sRoot_any (a : Int) (w : World) :
    Calls Tryd.prog 29 #[.int .i64 a] w fun e w' => e = .returned (.tuple #[.int .i64 (rootV a), .bool (rootB a)]) ∧ w = w' := by
  obtain ⟨x, hx⟩ : ∃ x, x = rootX a := ⟨_, rfl⟩
  have HP : Hid (∀ w, Calls Tryd.prog 46 #[.int .i64 a, .int .i64 3027] w fun e w' => e = .returned (.int .i64 x) ∧ w = w') := by rw [hx]; exact sPow_any a 3027 (by decide)
  obtain ⟨q, hq⟩ : ∃ q, q = fpMul x x := ⟨_, rfl⟩
  have HT : Hid (∀ w, Calls Tryd.prog 39 #[.int .i64 x, .int .i64 x] w fun e w' => e = .returned (.int .i64 q) ∧ w = w') := by rw [hq]; exact sMul_any x x
  obtain ⟨m, hm⟩ : ∃ m, m = fpSub 0 x := ⟨_, rfl⟩
  have HM : Hid (∀ w, Calls Tryd.prog 40 #[.int .i64 0, .int .i64 x] w fun e w' => e = .returned (.int .i64 m) ∧ w = w') := by rw [hm]; exact sSub_any 0 x
  obtain ⟨f, hf⟩ : ∃ f, f = fp a := ⟨_, rfl⟩
  have HO : Hid (∀ w, Calls Tryd.prog 28 #[.int .i64 a] w fun e w' => e = .returned (.int .i64 f) ∧ w = w') := by rw [hf]; exact sOf_any a
  have hb : rootB a = decide (q = f) := by unfold rootB; rw [← hx, ← hq, ← hf]
  have hv : rootV a = if q = f then (if m < x then m else x) else 0 := by
    unfold rootV
    rw [hb, ← hx, ← hm]
    by_cases h : q = f
    · rw [if_pos (by simpa using h), if_pos h]
    · rw [if_neg (by simpa using h), if_neg h]
  rw [hb, hv]
  clear hb hv hx hq hm hf
  by_cases h : q = f
  · rw [if_pos h, decide_eq_true h]
    subst h
    by_cases hle : m < x
    · rw [if_pos hle]
      go_enter Tryd.func29, Tryd.ntmps29
      go_wp2_with (first | (go_at_call 46; refine (HP.out _).mono ?_; rintro e w1 ⟨rfl, rfl⟩) | (go_at_call 39; refine (HT.out _).mono ?_; rintro e w1 ⟨rfl, rfl⟩) | (go_at_call 40; refine (HM.out _).mono ?_; rintro e w1 ⟨rfl, rfl⟩) | (go_at_call 28; refine (HO.out _).mono ?_; rintro e w1 ⟨rfl, rfl⟩))
      go_ret2
      exact ⟨rfl, rfl⟩
    · rw [if_neg hle]
      go_enter Tryd.func29, Tryd.ntmps29
      go_wp2_with (first | (go_at_call 46; refine (HP.out _).mono ?_; rintro e w1 ⟨rfl, rfl⟩) | (go_at_call 39; refine (HT.out _).mono ?_; rintro e w1 ⟨rfl, rfl⟩) | (go_at_call 40; refine (HM.out _).mono ?_; rintro e w1 ⟨rfl, rfl⟩) | (go_at_call 28; refine (HO.out _).mono ?_; rintro e w1 ⟨rfl, rfl⟩))
      go_ret2
      exact ⟨rfl, rfl⟩
  · rw [if_neg h, decide_eq_false h]
    go_enter Tryd.func29, Tryd.ntmps29
    go_wp2_with (first | (go_at_call 46; refine (HP.out _).mono ?_; rintro e w1 ⟨rfl, rfl⟩) | (go_at_call 39; refine (HT.out _).mono ?_; rintro e w1 ⟨rfl, rfl⟩) | (go_at_call 40; refine (HM.out _).mono ?_; rintro e w1 ⟨rfl, rfl⟩) | (go_at_call 28; refine (HO.out _).mono ?_; rintro e w1 ⟨rfl, rfl⟩))
    go_ret2
    exact ⟨rfl, rfl⟩

end Go.Proofs.YtkmelamfohfdkabDoor

/-
  The steps of the law of a class where operations are guarded.
-/
namespace Go.Proofs.YtkmelamfohfdkabDoor

section
variable {P : Program} {ops : Array Oper} {C : World → Prop}

theorem cls_stepG {R : Act → Prop} {a : Act} {o : Oper} {rest : List Oper} (hg : Region.wanted o (yielded ops a.tmps) = true)
    (h : ∀ K : Act → Prop, (∀ a, WQ P ops C R rest a → K a) → ∃ v, (∀ w, C w → (execOp a.eval o).run P w = .ok (.value v) w) ∧ K (a.put o.dst v)) : WQ P ops C R (o :: rest) a := by
  refine ⟨wpQuiet_step fun K hK => ?_⟩
  rw [if_pos hg]
  obtain ⟨v, h1, h2⟩ := h K fun a ha => hK a ha.out
  exact ⟨v, fun w hw => by unfold Oper.quietAt; rw [h1 w hw]; exact ⟨rfl, rfl⟩, h2⟩

theorem cls_callG {R : Act → Prop} {a : Act} {o : Oper} {rest : List Oper} (hg : Region.wanted o (yielded ops a.tmps) = true)
    (h : ∀ K : Act → Prop, (∀ a, WQ P ops C R rest a → K a) → ∃ f args v, (∀ w, (execOp a.eval o).run P w = .ok (.enter f args) w) ∧ (∀ w, C w → Calls P f args w fun e w' => e = .returned v ∧ C w') ∧ K (a.put o.dst v)) : WQ P ops C R (o :: rest) a := by
  refine ⟨wpQuiet_step fun K hK => ?_⟩
  rw [if_pos hg]
  obtain ⟨f, args, v, h1, h2, h3⟩ := h K fun a ha => hK a ha.out
  exact ⟨v, fun w hw => by unfold Oper.quietAt; rw [h1 w]; exact ⟨rfl, h2 w hw⟩, h3⟩

/-- One that is passed over. -/
theorem cls_skip {R : Act → Prop} {a : Act} {o : Oper} {rest : List Oper} (hg : Region.wanted o (yielded ops a.tmps) = false)
    (h : ∀ K : Act → Prop, (∀ a, WQ P ops C R rest a → K a) → K (a.put o.dst undef)) : WQ P ops C R (o :: rest) a := by
  refine ⟨wpQuiet_step fun K hK => ?_⟩
  rw [if_neg (by rw [hg]; exact Bool.false_ne_true)]
  exact h K fun a ha => hK a ha.out

end
end Go.Proofs.YtkmelamfohfdkabDoor
