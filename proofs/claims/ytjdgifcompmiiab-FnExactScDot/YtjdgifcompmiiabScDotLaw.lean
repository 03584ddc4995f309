/-
  The walk of the law on ScDot.
-/
import Derived.Test.YtjdgifcompmiiabScDotI
import Derived.Test.YtjdgifcompmiiabIntRow
import Derived.OpenShut
namespace Go.Proofs.Ytjdgifcompmiiab
open Go.RowKit Go.ChangeShapes Go.WideShapes

set_option maxHeartbeats 1600000 in
set_option maxRecDepth 100000 in
theorem lawScDot (a : Option Addr) (n c : Nat) (b : Option Addr) (m d : Nat) (hn : n ≤ 9223372036854775807) (hm : m ≤ 9223372036854775807) (f g : Nat → Int) (w : World) (hA : IntsAt w a n w.heap.size f) (hB : IntsAt w b m w.heap.size g) :
    Calls Try.prog 3 #[.slice a n c, .slice b m d] w fun e w' => e = .returned (.bool true) ∧ Below w.heap.size w w' := by
  have HA : Hid (IntsAt w a n w.heap.size f) := hA
  have HB : Hid (IntsAt w b m w.heap.size g) := hB
  clear hA hB
  by_cases h1 : 1048576 < n
  · have h1' : (1048576 : Int) < (n : Int) := by omega
    go_enter Try.func3, Try.ntmps3
    go_wp2
    go_ret
    exact ⟨rfl, Below.refl _ _⟩
  have h1' : ¬ (1048576 : Int) < (n : Int) := by omega
  by_cases h2 : 1048576 < m
  · have h2' : (1048576 : Int) < (m : Int) := by omega
    go_enter Try.func3, Try.ntmps3
    go_wp2
    go_ret
    exact ⟨rfl, Below.refl _ _⟩
  have h2' : ¬ (1048576 : Int) < (m : Int) := by omega
  have hn1 : n ≤ 1048576 := by omega
  have hm1 : m ≤ 1048576 := by omega
  go_enter Try.func3, Try.ntmps3
  go_wp2_with fail
  refine (toIntS_any a n c hn1 f _ HA.out).mono ?_
  rintro e w1 ⟨rfl, hR1, hb1⟩
  have HR1 : Hid (RowI w1 w.heap.size n f) := hR1
  have HW1 : Hid (Below w.heap.size w w1) := hb1
  clear hR1 hb1
  go_wp2_with fail
  refine (toIntS_any b m d hm1 g _ ((HB.out.on HW1.out).wide HW1.out.size)).mono ?_
  rintro e w2 ⟨rfl, hR2, hb2⟩
  have HR2 : Hid (RowI w2 w1.heap.size m g) := hR2
  have HW2 : Hid (Below w.heap.size w w2) := HW1.out.trans (hb2.mono HW1.out.size)
  have HQ2 : Hid (IntsAt w2 (some ⟨w.heap.size, 0, none⟩) n w2.heap.size f) := ((HR1.out.ints HR1.out.lt).on hb2).wide hb2.size
  clear hR2 hb2
  go_wp2_with fail
  refine (sDot_any _ _ _ _ _ _ hn f g _ HQ2.out (HR2.out.ints HR2.out.lt)).mono ?_
  rintro e w3 ⟨rfl, hb3⟩
  have HW3 : Hid (Below w.heap.size w w3) := HW2.out.trans (hb3.mono HW2.out.size)
  clear hb3 HR1 HR2 HQ2
  go_wp2_with fail
  refine (toIntS_any a n c hn1 f _ ((HA.out.on HW3.out).wide HW3.out.size)).mono ?_
  rintro e w4 ⟨rfl, hR4, hb4⟩
  have HR4 : Hid (RowI w4 w3.heap.size n f) := hR4
  have HW4 : Hid (Below w.heap.size w w4) := HW3.out.trans (hb4.mono HW3.out.size)
  clear hR4 hb4
  go_wp2_with fail
  refine (toIntS_any b m d hm1 g _ ((HB.out.on HW4.out).wide HW4.out.size)).mono ?_
  rintro e w5 ⟨rfl, hR5, hb5⟩
  have HQ4 : Hid (IntsAt w5 (some ⟨w3.heap.size, 0, none⟩) n w5.heap.size f) := ((HR4.out.ints HR4.out.lt).on hb5).wide hb5.size
  have HQ5 : Hid (IntsAt w5 (some ⟨w4.heap.size, 0, none⟩) m w5.heap.size g) := hR5.ints hR5.lt
  have HW5 : Hid (Below w.heap.size w w5) := HW4.out.trans (hb5.mono HW4.out.size)
  clear hR5 hb5 HR4
  go_wp2_with fail
  refine (iDot_any _ _ _ _ _ _ hn f g _ HQ4.out HQ5.out).mono ?_
  rintro e w6 ⟨rfl, hb6⟩
  have HQ6 : Hid (IntsAt w6 (some ⟨w3.heap.size, 0, none⟩) n w6.heap.size f) := (HQ4.out.on hb6).wide hb6.size
  have HT6 : Hid (IntsAt w6 (some ⟨w4.heap.size, 0, none⟩) m w6.heap.size g) := (HQ5.out.on hb6).wide hb6.size
  have HW6 : Hid (Below w.heap.size w w6) := HW5.out.trans (hb6.mono HW5.out.size)
  clear hb6 HQ4 HQ5
  generalize dotN f g (min n m) = r
  go_wp2_with fail
  refine (toIntS_any a n c hn1 f _ ((HA.out.on HW6.out).wide HW6.out.size)).mono ?_
  rintro e w7 ⟨rfl, hR7, hb7⟩
  have HQ7 : Hid (IntsAt w7 (some ⟨w3.heap.size, 0, none⟩) n w7.heap.size f) := (HQ6.out.on hb7).wide hb7.size
  have HT7 : Hid (IntsAt w7 (some ⟨w4.heap.size, 0, none⟩) m w7.heap.size g) := (HT6.out.on hb7).wide hb7.size
  have HS7 : Hid (IntsAt w7 (some ⟨w6.heap.size, 0, none⟩) n w7.heap.size f) := hR7.ints hR7.lt
  have HW7 : Hid (Below w.heap.size w w7) := HW6.out.trans (hb7.mono HW6.out.size)
  clear hR7 hb7 HQ6 HT6
  go_wp2_with fail
  refine (eqIntS_any _ _ _ _ _ hn1 f _ HQ7.out HS7.out).mono ?_
  rintro e w8 ⟨rfl, hb8⟩
  have HT8 : Hid (IntsAt w8 (some ⟨w4.heap.size, 0, none⟩) m w8.heap.size g) := (HT7.out.on hb8).wide hb8.size
  have HW8 : Hid (Below w.heap.size w w8) := HW7.out.trans (hb8.mono HW7.out.size)
  clear hb8 HQ7 HT7 HS7
  go_wp2_with fail
  refine (toIntS_any b m d hm1 g _ ((HB.out.on HW8.out).wide HW8.out.size)).mono ?_
  rintro e w9 ⟨rfl, hR9, hb9⟩
  have HT9 : Hid (IntsAt w9 (some ⟨w4.heap.size, 0, none⟩) m w9.heap.size g) := (HT8.out.on hb9).wide hb9.size
  have HS9 : Hid (IntsAt w9 (some ⟨w8.heap.size, 0, none⟩) m w9.heap.size g) := hR9.ints hR9.lt
  have HW9 : Hid (Below w.heap.size w w9) := HW8.out.trans (hb9.mono HW8.out.size)
  clear hR9 hb9 HT8
  go_wp2_with fail
  refine (eqIntS_any _ _ _ _ _ hm1 g _ HT9.out HS9.out).mono ?_
  rintro e w10 ⟨rfl, hb10⟩
  have HW10 : Hid (Below w.heap.size w w10) := HW9.out.trans (hb10.mono HW9.out.size)
  clear hb10
  go_wp2
  go_ret
  exact ⟨rfl, HW10.out⟩

end Go.Proofs.Ytjdgifcompmiiab
