/-
  The walks of KeccakRound and KeccakF.
-/
import Derived.Test.YthncegemhaofnaaDoorRoundW
import Derived.Test.YthncegemhaofnaaDoorText
import Derived.Test.YthncegemhaofnaaDoorClone
namespace Go.Proofs.YthncegemhaofnaaDoor
open Go.RowKit

/-- What KeccakRound answers, and KeccakF. -/
def roundT (s : ByteArray) (r : Int) : ByteArray := if s.size = 200 ∧ 0 ≤ r ∧ r < 24 then textT (roundF (loadF s.data.toList) r.toNat) 25 else s
def fullT (s : ByteArray) : ByteArray := if s.size = 200 then textT (allF (loadF s.data.toList)) 25 else s
theorem roundT_no {s : ByteArray} {r : Int} (h : ¬ (s.size = 200 ∧ 0 ≤ r ∧ r < 24)) : roundT s r = s := if_neg h
theorem roundT_yes {s : ByteArray} {r : Nat} (h : s.size = 200) (hr : r < 24) : roundT s (r : Int) = textT (roundF (loadF s.data.toList) r) 25 := by
  unfold roundT; rw [if_pos ⟨h, by omega, by omega⟩]; rfl
theorem sc_mix (l : List UInt8) : sc (mixK zf l 25) 25 = sc (loadF l) 25 := sc_congr fun i hi => mixK_zero l i hi

set_option maxHeartbeats 400000 in
set_option maxRecDepth 100000 in
theorem iKR_any (s : ByteArray) (r : Int) (hs : s.size ≤ 1048576) (w : World) (hT : Tab w) :
    Calls Tryd.prog 16 #[.string s, .int .i64 r] w fun e w' => e = .returned (.string (roundT s r)) ∧ Below w.heap.size w w' := by
  have HT : Hid (Tab w) := hT
  clear hT
  by_cases hy : s.size = 200 ∧ 0 ≤ r ∧ r < 24
  · obtain ⟨h2, h0, h24⟩ := hy
    obtain ⟨m, rfl⟩ : ∃ m : Nat, r = m := ⟨r.toNat, by omega⟩
    have HM : Hid (m < 24) := (show m < 24 by omega)
    have HA : Hid (roundT s (m : Int) = textT (roundF (loadF s.data.toList) m) 25) := roundT_yes h2 HM.out
    have hd : ((s.size : Int) != 200) = false := by rw [h2]; rfl
    have HS : Hid (s.size = 8 * 25) := h2
    have HX : Hid (∀ w, Calls Tryd.prog 25 #[.agg (sc zf 25), .string s] w fun e w' => e = .returned (.agg (sc (loadF s.data.toList) 25)) ∧ Below w.heap.size w w') := fun w => by
      rw [← sc_mix]; exact mixed_any zf s 25 (by omega) HS.out w
    clear h2
    go_enter Tryd.func16, Tryd.ntmps16
    go_wp2_with fail
    refine (HX.out _).mono ?_
    rintro e w1 ⟨rfl, hb1⟩
    go_wp2_with fail
    refine (round_any _ m HM.out _ (HT.out.on hb1 HT.out.1)).mono ?_
    rintro e w2 ⟨rfl, hb2⟩
    go_wp2_with fail
    refine (text_any _ 25 (by omega) _).mono ?_
    rintro e w3 ⟨rfl, hb3⟩
    go_wp2
    go_ret
    exact ⟨by rw [HA.out]; rfl, hb1.trans ((hb2.mono hb1.size).trans (hb3.mono (Nat.le_trans hb1.size hb2.size)))⟩
  · have HA : Hid (roundT s r = s) := roundT_no hy
    have HM : Hid (s.size ≤ 281474976710656) := (show s.size ≤ 281474976710656 by omega)
    by_cases h2 : s.size = 200
    · have hd : ((s.size : Int) != 200) = false := by rw [h2]; rfl
      by_cases h0 : r < 0
      · clear h2 hy
        go_enter Tryd.func16, Tryd.ntmps16
        go_wp2_with fail
        refine (clone_any s _ HM.out).mono ?_
        rintro e w1 ⟨rfl, hb⟩
        go_wp2
        go_ret
        exact ⟨by rw [HA.out]; rfl, hb⟩
      · have h24 : 24 ≤ r := by omega
        clear h2 hy
        go_enter Tryd.func16, Tryd.ntmps16
        go_wp2_with fail
        refine (clone_any s _ HM.out).mono ?_
        rintro e w1 ⟨rfl, hb⟩
        go_wp2
        go_ret
        exact ⟨by rw [HA.out]; rfl, hb⟩
    · have hd : ((s.size : Int) != 200) = true := by rw [bne_iff_ne]; omega
      clear h2 hy
      go_enter Tryd.func16, Tryd.ntmps16
      go_wp2_with fail
      refine (clone_any s _ HM.out).mono ?_
      rintro e w1 ⟨rfl, hb⟩
      go_wp2
      go_ret
      exact ⟨by rw [HA.out]; rfl, hb⟩

set_option maxHeartbeats 400000 in
set_option maxRecDepth 100000 in
theorem iKF_any (s : ByteArray) (hs : s.size ≤ 1048576) (w : World) (hT : Tab w) :
    Calls Tryd.prog 11 #[.string s] w fun e w' => e = .returned (.string (fullT s)) ∧ Below w.heap.size w w' := by
  have HT : Hid (Tab w) := hT
  clear hT
  by_cases h2 : s.size = 200
  · have HA : Hid (fullT s = textT (allF (loadF s.data.toList)) 25) := if_pos h2
    have hd : ((s.size : Int) != 200) = false := by rw [h2]; rfl
    have HS : Hid (s.size = 8 * 25) := h2
    have HX : Hid (∀ w, Calls Tryd.prog 25 #[.agg (sc zf 25), .string s] w fun e w' => e = .returned (.agg (sc (loadF s.data.toList) 25)) ∧ Below w.heap.size w w') := fun w => by
      rw [← sc_mix]; exact mixed_any zf s 25 (by omega) HS.out w
    clear h2
    go_enter Tryd.func11, Tryd.ntmps11
    go_wp2_with fail
    refine (HX.out _).mono ?_
    rintro e w1 ⟨rfl, hb1⟩
    go_wp2_with fail
    refine (all_any _ _ (HT.out.on hb1 HT.out.1)).mono ?_
    rintro e w2 ⟨rfl, hb2⟩
    go_wp2_with fail
    refine (text_any _ 25 (by omega) _).mono ?_
    rintro e w3 ⟨rfl, hb3⟩
    go_wp2
    go_ret
    exact ⟨by rw [HA.out]; rfl, hb1.trans ((hb2.mono hb1.size).trans (hb3.mono (Nat.le_trans hb1.size hb2.size)))⟩
  · have HA : Hid (fullT s = s) := if_neg h2
    have HM : Hid (s.size ≤ 281474976710656) := (show s.size ≤ 281474976710656 by omega)
    have hd : ((s.size : Int) != 200) = true := by rw [bne_iff_ne]; omega
    clear h2
    go_enter Tryd.func11, Tryd.ntmps11
    go_wp2_with fail
    refine (clone_any s _ HM.out).mono ?_
    rintro e w1 ⟨rfl, hb⟩
    go_wp2
    go_ret
    exact ⟨by rw [HA.out]; rfl, hb⟩

end Go.Proofs.YthncegemhaofnaaDoor
