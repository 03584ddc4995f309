/-
  The walk of the law on roots.
-/
import Derived.Test.YtldhmncmgdamnaaFieldLaw
namespace Go.Proofs.Ytldhmncmgdamnaa
open Go.RowKit

set_option maxHeartbeats 3200000 in
set_option maxRecDepth 100000 in
theorem lawRoots (a : Option Addr) (len cap : Nat) (hm : len ≤ 9223372036854775807) (w : World) (hA : ArgAt w a len w.heap.size) :
    Calls Try.prog 4 #[.slice a len cap] w fun e w' => e = .returned (.bool true) ∧ Below w.heap.size w w' := by
  have HA : Hid (ArgAt w a len w.heap.size) := hA
  clear hA
  by_cases hb : 1048576 < len
  · have hd : decide (1048576 < len) = true := decide_eq_true hb
    go_enter Try.func4, Try.ntmps4
    go_wp2_with (go_at_call 9; refine (big_any _ _ _ hm _).mono ?_; rintro e w0 ⟨rfl, rfl⟩)
    go_ret
    exact ⟨rfl, Below.refl _ _⟩
  · have hd : decide (1048576 < len) = false := decide_eq_false hb
    have hm1 : len ≤ 1048576 := by omega
    have HP : Hid (∀ w0 : World, w = w0 → Calls Try.prog 10 #[.slice a len cap] w0 fun e w' => PlacesEnd w e w') := fun w0 hw => by subst hw; exact places_any len cap a hm1 w HA.out
    go_enter Try.func4, Try.ntmps4
    go_wp2_with (first | (go_at_call 9; refine (big_any _ _ _ hm _).mono ?_; rintro e w0 ⟨rfl, rfl⟩) | (go_at_call 10; fail))
    refine (HP.out _ rfl).mono ?_
    rintro e w1 ⟨g, cp, x, rfl, hg, _, hx, hb1⟩
    have hA1 : Hid (ArgAt w1 a len w1.heap.size) := (HA.out.on hb1).wide hb1.size
    obtain ⟨x0, hx0⟩ : ∃ x0, x0 = x 0 := ⟨_, rfl⟩
    obtain ⟨x1, hx1⟩ : ∃ x1, x1 = x 1 := ⟨_, rfl⟩
    have c0 := hx 0 (by omega)
    have c1 := hx 1 (by omega)
    rw [← hx0] at c0
    rw [← hx1] at c1
    obtain ⟨b0, c0⟩ := c0
    obtain ⟨b1, c1⟩ := c1
    clear hx hx0 hx1 HP HA
    have t0 : Int.tmod (x0 : Int) 12106 = (x0 : Int) := by rw [Int.tmod_eq_emod_of_nonneg (by omega)]; omega
    have t1 : Int.tmod (x1 : Int) 12106 = (x1 : Int) := by rw [Int.tmod_eq_emod_of_nonneg (by omega)]; omega
    have q1 := root_square (n := x0 + 1) (by omega) (by omega)
    have q2 := root_right (n := x0 + 1) (by omega)
    have q3 := root_product (a := x0 + 1) (b := x1 + 1) (by omega) (by omega) (by omega) (by omega)
    obtain ⟨u, hu⟩ : ∃ u : Int, u = 1 + (x0 : Int) := ⟨_, rfl⟩
    obtain ⟨v, hv⟩ : ∃ v : Int, v = 1 + (x1 : Int) := ⟨_, rfl⟩
    rw [show ((x0 + 1 : Nat) : Int) = u by omega] at q1 q2 q3
    rw [show ((x1 + 1 : Nat) : Int) = v by omega] at q3
    have hu' := hu.symm
    have hv' := hv.symm
    clear hu hv
    obtain ⟨q0, q1⟩ := q1
    have HD : Hid (∀ w2 : World, w1 = w2 → Calls Try.prog 21 #[.slice a len cap] w2 fun e w' => ∃ k : Int, e = .returned (.int .i64 k) ∧ Inside k ∧ Below w1.heap.size w1 w') := fun w2 hw => by subst hw; exact drawRoot_any len cap a hm1 w1 hA1.out
    obtain ⟨r, hr⟩ : ∃ r, r = rootV (fpMul u u) := ⟨_, rfl⟩
    rw [← hr] at q1
    have hr' := hr.symm
    clear hr
    have HQ1 : Hid (r = u ∨ fpAdd r u = 0) := q1
    have HQ2 : Hid (rootB u = true → fpMul (rootV u) (rootV u) = u) := q2
    clear q1 q2
    obtain ⟨m, hm'⟩ : ∃ m, m = rootB u := ⟨_, rfl⟩
    obtain ⟨n, hn'⟩ : ∃ n, n = rootB v := ⟨_, rfl⟩
    rw [← hm'] at HQ2
    rw [← hm', ← hn'] at q3
    have hm2 := hm'.symm
    have hn2 := hn'.symm
    clear hm' hn'
    go_wp2_with (first | (go_at_call 11; refine (iMul_any _ _ _).mono ?_; rintro e w3 ⟨rfl, rfl⟩) | (go_at_call 20; refine (iRoot_any _ _).mono ?_; rintro e w3 ⟨rfl, rfl⟩))
    refine (HD.out _ rfl).mono ?_
    rintro e w2 ⟨k, rfl, hk, hb2⟩
    clear hk HD c0 c1 hA1 q0 q3 hr' hm2 hn2
    generalize rootV u = s at HQ2 ⊢
    by_cases hru : r = u
    · subst hru
      cases m
      · cases n <;>
        · go_wp2_with (first | (go_at_call 11; refine (iMul_any _ _ _).mono ?_; rintro e w3 ⟨rfl, rfl⟩) | (go_at_call 12; refine (iAdd_any _ _ _).mono ?_; rintro e w3 ⟨rfl, rfl⟩) | (go_at_call 20; refine (iRoot_any _ _).mono ?_; rintro e w3 ⟨rfl, rfl⟩) | (go_at_call 22; refine (sRoot_any _ _).mono ?_; rintro e w3 ⟨rfl, rfl⟩))
          go_ret
          exact ⟨rfl, hb1.trans (hb2.mono hb1.size)⟩
      · have f2 : fpMul s s = r := HQ2.out rfl
        cases n <;>
        · go_wp2_with (first | (go_at_call 11; refine (iMul_any _ _ _).mono ?_; rintro e w3 ⟨rfl, rfl⟩) | (go_at_call 12; refine (iAdd_any _ _ _).mono ?_; rintro e w3 ⟨rfl, rfl⟩) | (go_at_call 20; refine (iRoot_any _ _).mono ?_; rintro e w3 ⟨rfl, rfl⟩) | (go_at_call 22; refine (sRoot_any _ _).mono ?_; rintro e w3 ⟨rfl, rfl⟩))
          go_ret
          exact ⟨rfl, hb1.trans (hb2.mono hb1.size)⟩
    · have f0 : fpAdd r u = 0 := HQ1.out.resolve_left hru
      have hne : (r == u) = false := by rw [beq_eq_false_iff_ne]; exact hru
      clear hru
      cases m
      · cases n <;>
        · go_wp2_with (first | (go_at_call 11; refine (iMul_any _ _ _).mono ?_; rintro e w3 ⟨rfl, rfl⟩) | (go_at_call 12; refine (iAdd_any _ _ _).mono ?_; rintro e w3 ⟨rfl, rfl⟩) | (go_at_call 20; refine (iRoot_any _ _).mono ?_; rintro e w3 ⟨rfl, rfl⟩) | (go_at_call 22; refine (sRoot_any _ _).mono ?_; rintro e w3 ⟨rfl, rfl⟩))
          go_ret
          exact ⟨rfl, hb1.trans (hb2.mono hb1.size)⟩
      · have f2 : fpMul s s = u := HQ2.out rfl
        cases n <;>
        · go_wp2_with (first | (go_at_call 11; refine (iMul_any _ _ _).mono ?_; rintro e w3 ⟨rfl, rfl⟩) | (go_at_call 12; refine (iAdd_any _ _ _).mono ?_; rintro e w3 ⟨rfl, rfl⟩) | (go_at_call 20; refine (iRoot_any _ _).mono ?_; rintro e w3 ⟨rfl, rfl⟩) | (go_at_call 22; refine (sRoot_any _ _).mono ?_; rintro e w3 ⟨rfl, rfl⟩))
          go_ret
          exact ⟨rfl, hb1.trans (hb2.mono hb1.size)⟩

end Go.Proofs.Ytldhmncmgdamnaa
