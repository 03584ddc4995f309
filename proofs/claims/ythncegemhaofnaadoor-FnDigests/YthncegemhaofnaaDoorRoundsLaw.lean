/-
  The walk of the law on rounds and turns.
-/
import Derived.Test.YthncegemhaofnaaDoorRoundsPure
import Derived.Test.YthncegemhaofnaaDoorDigDraw
import Derived.Test.YthncegemhaofnaaDoorRoundsTab
import Derived.Test.YthncegemhaofnaaDoorByteArg
namespace Go.Proofs.YthncegemhaofnaaDoor
open Go.RowKit

theorem not_empty {T : ByteArray} (h : 0 < T.size) : T.toList.isEmpty = false := by
  rw [ByteArray.toList_eq]
  have hl : T.data.toList.length = T.size := by simp
  cases e : T.data.toList with
  | nil => rw [e] at hl; simp at hl; omega
  | cons _ _ => rfl

theorem ArgAt.wide {w : World} {a : Option Addr} {len c d : Nat} (h : ArgAt w a len c) (hd : c ≤ d) : ArgAt w a len d := fun j hj => by
  obtain ⟨b, off, z, h1, h2, h3⟩ := h j hj
  exact ⟨b, off, z, h1, by omega, h3⟩

set_option maxRecDepth 100000 in
theorem big_any (len cap : Nat) (a : Option Addr) (hm : len ≤ 9223372036854775807) (w : World) :
    Calls Tryd.prog 7 #[.slice a len cap] w fun e w' => e = .returned (.bool (decide (1048576 < len))) ∧ w = w' := by
  by_cases h : 1048576 < len
  · have h' : (1048576 : Int) < (len : Int) := by omega
    have hd : decide (1048576 < len) = true := by simpa using h
    rw [hd]
    clear h hd
    go_enter Tryd.func7, Tryd.ntmps7
    go_wp2
    go_ret
    exact ⟨rfl, rfl⟩
  · have h' : ¬ (1048576 : Int) < (len : Int) := by omega
    have hd : decide (1048576 < len) = false := by simpa using h
    rw [hd]
    clear h hd
    go_enter Tryd.func7, Tryd.ntmps7
    go_wp2
    go_ret
    exact ⟨rfl, rfl⟩

set_option maxHeartbeats 1600000 in
set_option maxRecDepth 100000 in
theorem lawRounds (a : Option Addr) (len cap : Nat) (w : World) (hm : len ≤ 9223372036854775807) (hA : ArgAt w a len w.heap.size) (hT : Tab w) :
    Calls Tryd.prog 4 #[.slice a len cap] w fun e w' => e = .returned (.bool true) ∧ Below w.heap.size w w' := by
  have HA : Hid (ArgAt w a len w.heap.size) := hA
  have HT : Hid (Tab w) := hT
  clear hA hT
  by_cases hb : 1048576 < len
  · have hd : decide (1048576 < len) = true := decide_eq_true hb
    go_enter Tryd.func4, Tryd.ntmps4
    go_wp2_with (go_at_call 7; refine (big_any _ _ _ hm _).mono ?_; rintro e w0 ⟨rfl, rfl⟩)
    go_ret
    exact ⟨rfl, Below.refl _ _⟩
  · have hd : decide (1048576 < len) = false := decide_eq_false hb
    have hm1 : len ≤ 1048576 := by omega
    have HP : Hid (∀ w0 : World, w = w0 → Calls Tryd.prog 15 #[.slice a len cap] w0 fun e w' => ∃ s : ByteArray, e = .returned (.string s) ∧ s.size ≤ 201 ∧ Below w.heap.size w w') := fun w0 hw => by subst hw; exact drawKF_any len cap a hm1 w HA.out
    go_enter Tryd.func4, Tryd.ntmps4
    go_wp2_with (first | (go_at_call 7; refine (big_any _ _ _ hm _).mono ?_; rintro e w0 ⟨rfl, rfl⟩) | (go_at_call 15; fail))
    refine (HP.out _ rfl).mono ?_
    rintro e w1 ⟨s, rfl, hs, hb1⟩
    have HS1 : Hid (s.size ≤ 1048576) := (show s.size ≤ 1048576 by omega)
    have hsb : s.size ≤ 201 := hs
    clear HP hs
    go_wp2
    go_loopw [4, 5] (fun t i wr => ∃ k : Nat, i = .int .i64 (k : Int) ∧ k ≤ 24 ∧ t = .string (stepN s k) ∧ Below w.heap.size w wr) (fun _ i _ => 24 - (intOf i).toNat)
    case atStart => exact ⟨0, rfl, by omega, rfl, hb1⟩
    case round =>
      clear hb1
      obtain ⟨k, rfl, hk, rfl, hbel⟩ := hrel
      by_cases hlt : k < 24
      · have hlt' : (k : Int) < 24 := by omega
        have HR : Hid (∀ w, Tab w → Calls Tryd.prog 16 #[.string (stepN s k), .int .i64 (k : Int)] w fun e w' => e = .returned (.string (stepN s (k + 1))) ∧ Below w.heap.size w w') := fun w h => iKR_any (stepN s k) (k : Int) (stepN_small HS1.out k hk) w h
        generalize stepN s k = t at HR
        go_wp2_with fail
        refine (HR.out _ (HT.out.on hbel HT.out.1)).mono ?_
        rintro e w2 ⟨rfl, hb2⟩
        have hbel2 := hbel.trans (hb2.mono hbel.size)
        clear hbel hb2
        go_wp2
        go_roundw
        case rel => exact ⟨k + 1, by go_num, hlt, rfl, hbel2⟩
        case measure => simp [intOf]; omega
      · have hlt' : ¬ (k : Int) < 24 := by omega
        obtain rfl : k = 24 := by omega
        rw [stepN_all]
        have HKF : Hid (∀ w, Tab w → Calls Tryd.prog 11 #[.string s] w fun e w' => e = .returned (.string (fullT s)) ∧ Below w.heap.size w w') := fun w h => iKF_any s HS1.out w h
        have HSF : Hid (∀ w, Calls Tryd.prog 20 #[.string s] w fun e w' => e = .returned (.string (fullT s)) ∧ Below w.heap.size w w') := fun w => sKF_any s w
        have HTS : Hid ((fullT s).size = s.size) := fullT_size s
        generalize fullT s = T at HKF HSF HTS
        clear hlt
        go_wp2_with fail
        refine (drawRot_any len cap a hm1 _ ((HA.out.on hbel).wide hbel.size)).mono ?_
        rintro e w2 ⟨x, n, rfl, hx, hn, hb2⟩
        have hbC := hbel.trans (hb2.mono hbel.size)
        have HIR : Hid (∀ w, Calls Tryd.prog 18 #[.string x, .int .i64 n] w fun e w' => e = .returned (.string (rotT x n)) ∧ Below w.heap.size w w') := fun w => iRot_any x n (by omega) hn.1 hn.2 w
        have HSR : Hid (∀ w, Calls Tryd.prog 21 #[.string x, .int .i64 n] w fun e w' => e = .returned (.string (rotT x n)) ∧ Below w.heap.size w w') := fun w => sRot_any x n (by omega) hn.1 hn.2 w
        have HX : Hid (x.size ≤ 9) := hx
        have HN : Hid (Inside n) := hn
        have HAX : Hid ((rotT x n).size ≤ 9) := rotT_size_le n hx
        have HBK : Hid (∀ m : Nat, n = m → rotT (rotT x n) ((64 - m % 64 : Nat) : Int) = x) := fun m hm => by rw [hm]; exact rot_back x m
        have HNO : Hid (n < 0 → rotT x n = x) := fun h => rotT_no (by omega)
        generalize rotT x n = A at HIR HSR HAX HBK HNO
        clear hbel hb2 hx hn
        go_wp2_with fail
        refine (HIR.out _).mono ?_
        rintro e w3 ⟨rfl, hb3⟩
        have hbD := hbC.trans (hb3.mono hbC.size)
        clear hb3 hbC HIR
        go_wp2_with fail
        refine (drawKR_any len cap a hm1 _ ((HA.out.on hbD).wide hbD.size)).mono ?_
        rintro e w4 ⟨y, r, rfl, hy, hb4⟩
        have hbE := hbD.trans (hb4.mono hbD.size)
        have HKR : Hid (∀ w, Tab w → Calls Tryd.prog 16 #[.string y, .int .i64 r] w fun e w' => e = .returned (.string (roundT y r)) ∧ Below w.heap.size w w') := fun w h => iKR_any y r (by omega) w h
        have HSK : Hid (∀ w, Calls Tryd.prog 22 #[.string y, .int .i64 r] w fun e w' => e = .returned (.string (roundT y r)) ∧ Below w.heap.size w w') := fun w => sKR_any y r w
        generalize roundT y r = Y at HKR HSK
        clear hbD hb4 hy
        by_cases hn0 : 0 ≤ n
        · obtain ⟨m, rfl⟩ : ∃ m : Nat, n = m := ⟨n.toNat, by omega⟩
          obtain ⟨q, hq⟩ : ∃ q : Nat, q = 64 - m % 64 := ⟨_, rfl⟩
          have hq' : 64 - Int.tmod (m : Int) 64 = (q : Int) := by rw [Int.tmod_eq_emod_of_nonneg (by omega)]; omega
          have hq'' : (64 : Int) - (m : Int) % 64 = (q : Int) := by omega
          have HBR : Hid (∀ w, Calls Tryd.prog 18 #[.string A, .int .i64 (q : Int)] w fun e w' => e = .returned (.string x) ∧ Below w.heap.size w w') := fun w => by
            have h := iRot_any A (q : Int) (by have := HAX.out; omega) (by omega) (by omega) w
            rw [hq, HBK.out m rfl] at h
            rw [hq]; exact h
          have hqb : q ≤ 64 := by omega
          clear hq
          go_wp2_with fail
          refine (HBR.out _).mono ?_
          rintro e w5 ⟨rfl, hb5⟩
          have hbF := hbE.trans (hb5.mono hbE.size)
          clear hb5 hbE
          by_cases h200 : s.size = 200
          · have h200' : ((s.size : Int) != 200) = false := by rw [h200]; rfl
            have hTe : T.toList.isEmpty = false := not_empty (by rw [HTS.out, h200]; decide)
            have hTs := HTS.out
            clear h200
            go_wp2_with fail
            refine (HKF.out _ (HT.out.on hbF HT.out.1)).mono ?_
            rintro e w6 ⟨rfl, hb6⟩
            have hbG := hbF.trans (hb6.mono hbF.size)
            clear hb6
            go_wp2_with fail
            refine (HSF.out _).mono ?_
            rintro e w7 ⟨rfl, hb7⟩
            have hbH := hbG.trans (hb7.mono hbG.size)
            clear hb7 hbG
            go_wp2_with fail
            refine (HSR.out _).mono ?_
            rintro e w8 ⟨rfl, hb8⟩
            have hbI := hbH.trans (hb8.mono hbH.size)
            clear hb8 hbH
            go_wp2_with fail
            refine (HKR.out _ (HT.out.on hbI HT.out.1)).mono ?_
            rintro e w9 ⟨rfl, hb9⟩
            have hbJ := hbI.trans (hb9.mono hbI.size)
            clear hb9 hbI
            go_wp2_with fail
            refine (HSK.out _).mono ?_
            rintro e w10 ⟨rfl, hb10⟩
            have hbK := hbJ.trans (hb10.mono hbJ.size)
            clear hb10 hbJ
            go_wp2
            go_ret
            exact ⟨rfl, hbK⟩
          · have h200' : ((s.size : Int) != 200) = true := by rw [bne_iff_ne]; omega
            have hTs := HTS.out
            clear h200
            go_wp2_with fail
            refine (HKF.out _ (HT.out.on hbF HT.out.1)).mono ?_
            rintro e w6 ⟨rfl, hb6⟩
            have hbG := hbF.trans (hb6.mono hbF.size)
            clear hb6
            go_wp2_with fail
            refine (HSF.out _).mono ?_
            rintro e w7 ⟨rfl, hb7⟩
            have hbH := hbG.trans (hb7.mono hbG.size)
            clear hb7 hbG
            go_wp2_with fail
            refine (HSR.out _).mono ?_
            rintro e w8 ⟨rfl, hb8⟩
            have hbI := hbH.trans (hb8.mono hbH.size)
            clear hb8 hbH
            go_wp2_with fail
            refine (HKR.out _ (HT.out.on hbI HT.out.1)).mono ?_
            rintro e w9 ⟨rfl, hb9⟩
            have hbJ := hbI.trans (hb9.mono hbI.size)
            clear hb9 hbI
            go_wp2_with fail
            refine (HSK.out _).mono ?_
            rintro e w10 ⟨rfl, hb10⟩
            have hbK := hbJ.trans (hb10.mono hbJ.size)
            clear hb10 hbJ
            go_wp2
            go_ret
            exact ⟨rfl, hbK⟩
        · have hnn : n < 0 := by omega
          have hAx : A = x := HNO.out hnn
          subst hAx
          have hbF := hbE
          clear hbE
          by_cases h200 : s.size = 200
          · have h200' : ((s.size : Int) != 200) = false := by rw [h200]; rfl
            have hTe : T.toList.isEmpty = false := not_empty (by rw [HTS.out, h200]; decide)
            have hTs := HTS.out
            clear h200
            go_wp2_with fail
            refine (HKF.out _ (HT.out.on hbF HT.out.1)).mono ?_
            rintro e w6 ⟨rfl, hb6⟩
            have hbG := hbF.trans (hb6.mono hbF.size)
            clear hb6
            go_wp2_with fail
            refine (HSF.out _).mono ?_
            rintro e w7 ⟨rfl, hb7⟩
            have hbH := hbG.trans (hb7.mono hbG.size)
            clear hb7 hbG
            go_wp2_with fail
            refine (HSR.out _).mono ?_
            rintro e w8 ⟨rfl, hb8⟩
            have hbI := hbH.trans (hb8.mono hbH.size)
            clear hb8 hbH
            go_wp2_with fail
            refine (HKR.out _ (HT.out.on hbI HT.out.1)).mono ?_
            rintro e w9 ⟨rfl, hb9⟩
            have hbJ := hbI.trans (hb9.mono hbI.size)
            clear hb9 hbI
            go_wp2_with fail
            refine (HSK.out _).mono ?_
            rintro e w10 ⟨rfl, hb10⟩
            have hbK := hbJ.trans (hb10.mono hbJ.size)
            clear hb10 hbJ
            go_wp2
            go_ret
            exact ⟨rfl, hbK⟩
          · have h200' : ((s.size : Int) != 200) = true := by rw [bne_iff_ne]; omega
            have hTs := HTS.out
            clear h200
            go_wp2_with fail
            refine (HKF.out _ (HT.out.on hbF HT.out.1)).mono ?_
            rintro e w6 ⟨rfl, hb6⟩
            have hbG := hbF.trans (hb6.mono hbF.size)
            clear hb6
            go_wp2_with fail
            refine (HSF.out _).mono ?_
            rintro e w7 ⟨rfl, hb7⟩
            have hbH := hbG.trans (hb7.mono hbG.size)
            clear hb7 hbG
            go_wp2_with fail
            refine (HSR.out _).mono ?_
            rintro e w8 ⟨rfl, hb8⟩
            have hbI := hbH.trans (hb8.mono hbH.size)
            clear hb8 hbH
            go_wp2_with fail
            refine (HKR.out _ (HT.out.on hbI HT.out.1)).mono ?_
            rintro e w9 ⟨rfl, hb9⟩
            have hbJ := hbI.trans (hb9.mono hbI.size)
            clear hb9 hbI
            go_wp2_with fail
            refine (HSK.out _).mono ?_
            rintro e w10 ⟨rfl, hb10⟩
            have hbK := hbJ.trans (hb10.mono hbJ.size)
            clear hb10 hbJ
            go_wp2
            go_ret
            exact ⟨rfl, hbK⟩

end Go.Proofs.YthncegemhaofnaaDoor
