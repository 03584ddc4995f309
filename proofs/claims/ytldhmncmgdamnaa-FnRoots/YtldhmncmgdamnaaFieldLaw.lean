/-
  The walk of the law that numbers make a field.
-/
import Derived.Test.YtldhmncmgdamnaaFieldDraw
import Derived.Test.YtldhmncmgdamnaaFieldMath
import Derived.Test.YtldhmncmgdamnaaFieldS
import Derived.Test.YtldhmncmgdamnaaByteArg
namespace Go.Proofs.Ytldhmncmgdamnaa
open Go.RowKit

theorem ArgAt.wide {w : World} {a : Option Addr} {len c d : Nat} (h : ArgAt w a len c) (hd : c ≤ d) : ArgAt w a len d := fun j hj => by
  obtain ⟨b, off, z, h1, h2, h3⟩ := h j hj
  exact ⟨b, off, z, h1, by omega, h3⟩

theorem field_dist (a b c : Int) : fpMul a (fpAdd b c) = fpAdd (fpMul a b) (fpMul a c) := by
  rw [fpMul_eq, fpAdd_eq, fpAdd_eq, fpMul_eq, fpMul_eq, fp_mul_right, fp_add_fp, Int.mul_add]
theorem field_comm (a b : Int) : fpMul b a = fpMul a b := by rw [fpMul_eq, fpMul_eq, Int.mul_comm]
theorem field_back (a b : Int) : fpAdd (fpSub a b) b = fp a := by
  rw [fpAdd_eq, fpSub_eq, fp_add_left, Int.sub_add_cancel]
theorem fpOk_add (a b : Int) : fpOk (fpAdd a b) = true := decide_eq_true ⟨fp_nonneg _, fp_lt _⟩
theorem fpOk_size : fpOk 12107 = false := by decide

set_option maxHeartbeats 1600000 in
set_option maxRecDepth 100000 in
theorem lawField (a : Option Addr) (len cap : Nat) (hm : len ≤ 9223372036854775807) (w : World) (hA : ArgAt w a len w.heap.size) :
    Calls Try.prog 3 #[.slice a len cap] w fun e w' => e = .returned (.bool true) ∧ Below w.heap.size w w' := by
  have HA : Hid (ArgAt w a len w.heap.size) := hA
  clear hA
  by_cases hb : 1048576 < len
  · have hd : decide (1048576 < len) = true := decide_eq_true hb
    go_enter Try.func3, Try.ntmps3
    go_wp2_with (go_at_call 9; refine (big_any _ _ _ hm _).mono ?_; rintro e w0 ⟨rfl, rfl⟩)
    go_ret
    exact ⟨rfl, Below.refl _ _⟩
  · have hd : decide (1048576 < len) = false := decide_eq_false hb
    have hm1 : len ≤ 1048576 := by omega
    have HP : Hid (∀ w0 : World, w = w0 → Calls Try.prog 10 #[.slice a len cap] w0 fun e w' => PlacesEnd w e w') := fun w0 hw => by subst hw; exact places_any len cap a hm1 w HA.out
    go_enter Try.func3, Try.ntmps3
    go_wp2_with (first | (go_at_call 9; refine (big_any _ _ _ hm _).mono ?_; rintro e w0 ⟨rfl, rfl⟩) | (go_at_call 10; fail))
    refine (HP.out _ rfl).mono ?_
    rintro e w1 ⟨g, cp, x, rfl, hg, _, hx, hb1⟩
    have hA1 : Hid (ArgAt w1 a len w1.heap.size) := (HA.out.on hb1).wide hb1.size
    obtain ⟨x0, hx0⟩ : ∃ x0, x0 = x 0 := ⟨_, rfl⟩
    obtain ⟨x1, hx1⟩ : ∃ x1, x1 = x 1 := ⟨_, rfl⟩
    obtain ⟨x2, hx2⟩ : ∃ x2, x2 = x 2 := ⟨_, rfl⟩
    have c0 := hx 0 (by omega)
    have c1 := hx 1 (by omega)
    have c2 := hx 2 (by omega)
    rw [← hx0] at c0
    rw [← hx1] at c1
    rw [← hx2] at c2
    obtain ⟨b0, c0⟩ := c0
    obtain ⟨b1, c1⟩ := c1
    obtain ⟨b2, c2⟩ := c2
    clear hx hx0 hx1 hx2 HP HA
    obtain ⟨u, hu⟩ : ∃ u : Int, u = (x0 : Int) + 1 := ⟨_, rfl⟩
    obtain ⟨v, hv⟩ : ∃ v : Int, v = (x1 : Int) - 5000 := ⟨_, rfl⟩
    obtain ⟨t, ht⟩ : ∃ t : Int, t = (x2 : Int) := ⟨_, rfl⟩
    have hu0 : 0 < u := by omega
    have hu1 : u < 12107 := by omega
    have hu' := hu.symm
    have hv' := hv.symm
    clear hu hv
    have f1 := field_dist u v t
    have f2 := field_comm u v
    have f3 := field_back u v
    have f4 := fpMul_inv hu0 hu1
    have f5 := fpPow_fermat hu0 hu1
    have f6 := fpOk_add (fpMul u v) (fpMul u t)
    have f7 := fpOk_size
    rw [← ht] at c2
    clear hu0 hu1 ht
    have HD : Hid (∀ w2 : World, w1 = w2 → Calls Try.prog 14 #[.slice a len cap] w2 fun e w' => ∃ k n : Int, e = .returned (.tuple #[.int .i64 k, .int .i64 n]) ∧ Inside k ∧ Inside n ∧ Below w1.heap.size w1 w') := fun w2 hw => by subst hw; exact drawPow_any len cap a hm1 w1 hA1.out
    go_wp2_with (first | (go_at_call 12; refine (iAdd_any _ _ _).mono ?_; rintro e w3 ⟨rfl, rfl⟩) | (go_at_call 11; refine (iMul_any _ _ _).mono ?_; rintro e w3 ⟨rfl, rfl⟩) | (go_at_call 13; refine (iInv_any _ _).mono ?_; rintro e w3 ⟨rfl, rfl⟩))
    refine (HD.out _ rfl).mono ?_
    rintro e w2 ⟨k, n, rfl, hk, hn, hb2⟩
    have hn1 : n ≤ 9223372036854775807 := hn.2
    clear hk hn HD c0 c1 c2 hA1
    go_wp2_with (first | (go_at_call 12; refine (iAdd_any _ _ _).mono ?_; rintro e w3 ⟨rfl, rfl⟩) | (go_at_call 11; refine (iMul_any _ _ _).mono ?_; rintro e w3 ⟨rfl, rfl⟩) | (go_at_call 15; refine (iSub_any _ _ _).mono ?_; rintro e w3 ⟨rfl, rfl⟩) | (go_at_call 16; refine (iOf_any _ _).mono ?_; rintro e w3 ⟨rfl, rfl⟩) | (go_at_call 17; refine (iPow_any _ _ (by first | assumption | decide) _).mono ?_; rintro e w3 ⟨rfl, rfl⟩) | (go_at_call 18; refine (sPow_any _ _ (by first | assumption | decide) _).mono ?_; rintro e w3 ⟨rfl, rfl⟩) | (go_at_call 19; refine (iOk_any _ _).mono ?_; rintro e w3 ⟨rfl, rfl⟩))
    go_ret
    exact ⟨rfl, hb1.trans (hb2.mono hb1.size)⟩

end Go.Proofs.Ytldhmncmgdamnaa
