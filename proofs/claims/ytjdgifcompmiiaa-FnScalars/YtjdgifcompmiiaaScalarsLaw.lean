/-
  The walk of the law that scalars make a field.
-/
import Derived.Test.YtjdgifcompmiiaaScDraw
import Derived.Test.YtjdgifcompmiiaaScDotI
import Derived.Test.YtjdgifcompmiiaaByteArg
namespace Go.Proofs.Ytjdgifcompmiiaa
open Go.RowKit

theorem ArgAt.wide {w : World} {a : Option Addr} {len c d : Nat} (h : ArgAt w a len c) (hd : c ≤ d) : ArgAt w a len d := fun j hj => by
  obtain ⟨b, off, z, h1, h2, h3⟩ := h j hj
  exact ⟨b, off, z, h1, by omega, h3⟩

set_option maxHeartbeats 3200000 in
set_option maxRecDepth 100000 in
theorem lawScalars (a : Option Addr) (len cap : Nat) (hm : len ≤ 9223372036854775807) (w : World) (hA : ArgAt w a len w.heap.size) :
    Calls Try.prog 3 #[.slice a len cap] w fun e w' => e = .returned (.bool true) ∧ Below w.heap.size w w' := by
  have HA : Hid (ArgAt w a len w.heap.size) := hA
  clear hA
  by_cases hb : 1048576 < len
  · have hd : decide (1048576 < len) = true := decide_eq_true hb
    go_enter Try.func3, Try.ntmps3
    go_wp2_with (go_at_call 9; refine (big_any _ _ _ hm _).mono ?_; rintro e w0 ⟨rfl, rfl⟩)
    go_ret
    exact ⟨rfl, Below.refl _ _⟩
  · have hd : decide (1048576 < len) = false := decide_eq_false hb
    have hm1 : len ≤ 1048576 := by omega
    have HP : Hid (∀ w0 : World, w = w0 → Calls Try.prog 10 #[.slice a len cap] w0 fun e w' => PlacesEnd w e w') := fun w0 hw => by subst hw; exact places_any len cap a hm1 w HA.out
    go_enter Try.func3, Try.ntmps3
    go_wp2_with (first | (go_at_call 9; refine (big_any _ _ _ hm _).mono ?_; rintro e w0 ⟨rfl, rfl⟩) | (go_at_call 10; fail))
    refine (HP.out _ rfl).mono ?_
    rintro e w1 ⟨g, cp, x, rfl, hg, _, hx, hb1⟩
    have HA1 : Hid (ArgAt w1 a len w1.heap.size) := (HA.out.on hb1).wide hb1.size
    have HB1 : Hid (Below w.heap.size w w1) := hb1
    obtain ⟨x0, hx0⟩ : ∃ x0, x0 = x 0 := ⟨_, rfl⟩
    obtain ⟨x1, hx1⟩ : ∃ x1, x1 = x 1 := ⟨_, rfl⟩
    have c0 := hx 0 (by omega)
    have c1 := hx 1 (by omega)
    rw [← hx0] at c0
    rw [← hx1] at c1
    obtain ⟨b0, c0⟩ := c0
    obtain ⟨b1, c1⟩ := c1
    clear hx hx0 hx1 HP HA hb1
    obtain ⟨m, hm0⟩ : ∃ m : Nat, m = x0 % 1008 := ⟨_, rfl⟩
    have htm : Int.tmod (x0 : Int) 1008 = (m : Int) := by rw [Int.tmod_eq_emod_of_nonneg (by omega)]; omega
    have hml : m < 1008 := by omega
    clear hm0
    obtain ⟨u, hu⟩ : ∃ u : Int, u = 1 + (m : Int) := ⟨_, rfl⟩
    obtain ⟨v, hv⟩ : ∃ v : Int, v = (x1 : Int) - 5000 := ⟨_, rfl⟩
    have hu0 : 0 < u := by omega
    have hu1 : u < 1009 := by omega
    have hu' := hu.symm
    have hv' := hv.symm
    clear hu hv
    have F : Hid (scMul u (scInv u) = 1 ∧ scAdd v (scNeg v) = 0 ∧ scMul u (scAdd v 7) = scAdd (scMul u v) (scMul u 7) ∧ scInv 0 = 0) := ⟨scMul_inv hu0 hu1, scAdd_neg v, sca_dist u v 7, scInv_zero⟩
    clear hu0 hu1
    have HD : Hid (∀ w2 : World, w1 = w2 → Calls Try.prog 11 #[.slice a len cap] w2 fun e w' => DotEnd w1 e w') := fun w2 hw => by subst hw; exact drawScDot_any len cap a hm1 w1 HA1.out
    go_wp2_with fail
    refine (HD.out _ rfl).mono ?_
    rintro e w2 ⟨a1, n1, k1, a2, n2, k2, f, g, rfl, hn1, hn2, hI1, hI2, hb2⟩
    have HI1 : Hid (IntsAt w2 a1 n1 w2.heap.size f) := hI1
    have HI2 : Hid (IntsAt w2 a2 n2 w2.heap.size g) := hI2
    have HB2 : Hid (Below w.heap.size w w2) := HB1.out.trans (hb2.mono HB1.out.size)
    have HA2 : Hid (ArgAt w2 a len w2.heap.size) := (HA1.out.on hb2).wide hb2.size
    clear hI1 hI2 hb2 HD c0 c1 HA1 HB1 b0 b1
    obtain ⟨n, hn⟩ : ∃ n, n = min n1 n2 := ⟨_, rfl⟩
    have HN : Hid (n = min n1 n2) := hn
    have hnn1 : n ≤ n1 := by omega
    have hnn2 : n ≤ n2 := by omega
    clear hn
    go_wp2
    go_loopw [8, 9] (fun x i wr => ∃ k : Nat, i = .int .i64 (k : Int) ∧ k ≤ n ∧ x = .int .i64 (dotN f g k) ∧ Hid (Below w2.heap.size w2 wr)) (fun _ i _ => n - (intOf i).toNat)
    case atStart => exact ⟨0, rfl, Nat.zero_le _, rfl, Below.refl _ _⟩
    case round =>
      obtain ⟨k, rfl, hk, rfl, HW⟩ := hrel
      by_cases hlt : k < n
      · have hl1 : (k : Int) < (n1 : Int) := by omega
        have hl2 : (k : Int) < (n2 : Int) := by omega
        have hk0 : (0 : Int) ≤ (k : Int) := by omega
        obtain ⟨b, off, rfl, hb, hz⟩ := (HI1.out.on HW.out) k (by omega)
        obtain ⟨b', off', rfl, hb', hz'⟩ := (HI2.out.on HW.out) k (by omega)
        have HC : Hid (∀ w, Calls Try.prog 13 #[.int .i64 (f k), .int .i64 (g k)] w fun e w' => e = .returned (.int .i64 (scMul (f k) (g k))) ∧ w' = w) := fun w => (iScMul_any _ _ w).mono fun e w' h => ⟨h.1, h.2.symm⟩
        have HD : Hid (∀ w, Calls Try.prog 12 #[.int .i64 (dotN f g k), .int .i64 (scMul (f k) (g k))] w fun e w' => e = .returned (.int .i64 (dotN f g (k + 1))) ∧ w' = w) := fun w => (iScAdd_any _ _ w).mono fun e w' h => ⟨h.1, h.2.symm⟩
        generalize dotN f g k = d at HD
        generalize scMul (f k) (g k) = p at HC HD
        generalize f k = x at HC hz
        generalize g k = y at HC hz'
        clear hb hb' HI1 HI2 F HA2 HB2 hu' hv' htm
        go_wp2
        refine wp_region_still_tail 11 mixesSc (by kernel_rfl) ?_
        simp only [List.take_succ_cons, List.take_zero, List.drop_succ_cons, List.drop_zero]
        repeat still_step
        still_call (HC.out _)
        repeat still_step
        still_call (HD.out _)
        repeat still_step
        refine wpStill_nil ?_
        go_wp2
        go_roundw
        case rel => exact ⟨k + 1, by go_num, hlt, rfl, HW.out.drew⟩
        case measure => simp [intOf]; omega
      · have HK : Hid (dotN f g k = dotN f g (min n1 n2)) := (show dotN f g k = dotN f g (min n1 n2) by rw [← HN.out, show k = n by omega])
        rw [HK.out]
        have HI3 : Hid (IntsAt wr a1 n1 wr.heap.size f) := (HI1.out.on HW.out).wide HW.out.size
        have HI4 : Hid (IntsAt wr a2 n2 wr.heap.size g) := (HI2.out.on HW.out).wide HW.out.size
        have HB3 : Hid (Below w.heap.size w wr) := HB2.out.trans (HW.out.mono HB2.out.size)
        have HA3 : Hid (ArgAt wr a len wr.heap.size) := (HA2.out.on HW.out).wide HW.out.size
        have HP3 : Hid (∀ w3 : World, wr = w3 → Calls Try.prog 14 #[.slice a len cap] w3 fun e w' => ∃ x y : Int, e = .returned (.tuple #[.int .i64 x, .int .i64 y]) ∧ Below wr.heap.size wr w') := fun w3 hw => by subst hw; exact drawScMul_any len cap a hm1 wr HA3.out
        clear HI1 HI2 HA2 HB2 HW HK
        have hend : ¬ (k : Int) < (n1 : Int) ∨ ((k : Int) < (n1 : Int) ∧ ¬ (k : Int) < (n2 : Int)) := by have := HN.out; omega
        obtain ⟨r, hr⟩ : ∃ r, r = dotN f g (min n1 n2) := ⟨_, rfl⟩
        have HRI : Hid (∀ W, IntsAt W a1 n1 W.heap.size f → IntsAt W a2 n2 W.heap.size g → Calls Try.prog 17 #[.slice a1 n1 k1, .slice a2 n2 k2] W fun e w' => e = .returned (.int .i64 r) ∧ Below W.heap.size W w') := fun W h1 h2 => by rw [hr]; exact iDot_any a1 a2 n1 k1 n2 k2 (by omega) f g W h1 h2
        have HRS : Hid (∀ W, IntsAt W a1 n1 W.heap.size f → IntsAt W a2 n2 W.heap.size g → Calls Try.prog 18 #[.slice a1 n1 k1, .slice a2 n2 k2] W fun e w' => e = .returned (.int .i64 r) ∧ Below W.heap.size W w') := fun W h1 h2 => by rw [hr]; exact sDot_any a1 a2 n1 k1 n2 k2 (by omega) f g W h1 h2
        rw [← hr]
        clear hr HN hk hlt hnn1 hnn2 hml htm hu' hv'
        rcases hend with h1' | ⟨h1', h2'⟩
        · go_wp2_with fail
          refine (HP3.out _ rfl).mono ?_
          rintro e w4 ⟨x, y, rfl, hb4⟩
          have HB4 : Hid (Below wr.heap.size wr w4) := hb4
          obtain ⟨f1, f2, f3, f4⟩ := F.out
          clear hb4 F HP3 HA3
          go_wp2_with (first | (go_at_call 12; refine (iScAdd_any _ _ _).mono ?_; rintro e w3 ⟨rfl, rfl⟩) | (go_at_call 13; refine (iScMul_any _ _ _).mono ?_; rintro e w3 ⟨rfl, rfl⟩) | (go_at_call 15; refine (iScInv_any _ _).mono ?_; rintro e w3 ⟨rfl, rfl⟩) | (go_at_call 16; refine (iScNeg_any _ _).mono ?_; rintro e w3 ⟨rfl, rfl⟩))
          refine (HRI.out _ ((HI3.out.on HB4.out).wide HB4.out.size) ((HI4.out.on HB4.out).wide HB4.out.size)).mono ?_
          rintro e w5 ⟨rfl, hb5⟩
          have HB5 : Hid (Below wr.heap.size wr w5) := HB4.out.trans (hb5.mono HB4.out.size)
          clear hb5 HB4
          go_wp2_with fail
          refine (HRS.out _ ((HI3.out.on HB5.out).wide HB5.out.size) ((HI4.out.on HB5.out).wide HB5.out.size)).mono ?_
          rintro e w6 ⟨rfl, hb6⟩
          have HB6 : Hid (Below w.heap.size w w6) := HB3.out.trans ((HB5.out.trans (hb6.mono HB5.out.size)).mono HB3.out.size)
          clear hb6 HB5 HB3 HI3 HI4 HRI HRS
          go_wp2_with (first | (go_at_call 13; refine (iScMul_any _ _ _).mono ?_; rintro e w3 ⟨rfl, rfl⟩) | (go_at_call 19; refine (sScMul_any _ _ _).mono ?_; rintro e w3 ⟨rfl, rfl⟩) | (go_at_call 20; refine (iScOf_any _ _).mono ?_; rintro e w3 ⟨rfl, rfl⟩) | (go_at_call 21; refine (sScOf_any _ _).mono ?_; rintro e w3 ⟨rfl, rfl⟩) | (go_at_call 15; refine (iScInv_any _ _).mono ?_; rintro e w3 ⟨rfl, rfl⟩))
          go_ret
          exact ⟨rfl, HB6.out⟩
        · go_wp2_with fail
          refine (HP3.out _ rfl).mono ?_
          rintro e w4 ⟨x, y, rfl, hb4⟩
          have HB4 : Hid (Below wr.heap.size wr w4) := hb4
          obtain ⟨f1, f2, f3, f4⟩ := F.out
          clear hb4 F HP3 HA3
          go_wp2_with (first | (go_at_call 12; refine (iScAdd_any _ _ _).mono ?_; rintro e w3 ⟨rfl, rfl⟩) | (go_at_call 13; refine (iScMul_any _ _ _).mono ?_; rintro e w3 ⟨rfl, rfl⟩) | (go_at_call 15; refine (iScInv_any _ _).mono ?_; rintro e w3 ⟨rfl, rfl⟩) | (go_at_call 16; refine (iScNeg_any _ _).mono ?_; rintro e w3 ⟨rfl, rfl⟩))
          refine (HRI.out _ ((HI3.out.on HB4.out).wide HB4.out.size) ((HI4.out.on HB4.out).wide HB4.out.size)).mono ?_
          rintro e w5 ⟨rfl, hb5⟩
          have HB5 : Hid (Below wr.heap.size wr w5) := HB4.out.trans (hb5.mono HB4.out.size)
          clear hb5 HB4
          go_wp2_with fail
          refine (HRS.out _ ((HI3.out.on HB5.out).wide HB5.out.size) ((HI4.out.on HB5.out).wide HB5.out.size)).mono ?_
          rintro e w6 ⟨rfl, hb6⟩
          have HB6 : Hid (Below w.heap.size w w6) := HB3.out.trans ((HB5.out.trans (hb6.mono HB5.out.size)).mono HB3.out.size)
          clear hb6 HB5 HB3 HI3 HI4 HRI HRS
          go_wp2_with (first | (go_at_call 13; refine (iScMul_any _ _ _).mono ?_; rintro e w3 ⟨rfl, rfl⟩) | (go_at_call 19; refine (sScMul_any _ _ _).mono ?_; rintro e w3 ⟨rfl, rfl⟩) | (go_at_call 20; refine (iScOf_any _ _).mono ?_; rintro e w3 ⟨rfl, rfl⟩) | (go_at_call 21; refine (sScOf_any _ _).mono ?_; rintro e w3 ⟨rfl, rfl⟩) | (go_at_call 15; refine (iScInv_any _ _).mono ?_; rintro e w3 ⟨rfl, rfl⟩))
          go_ret
          exact ⟨rfl, HB6.out⟩

end Go.Proofs.Ytjdgifcompmiiaa
