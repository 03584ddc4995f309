/-
  The walk of the law on digests.
-/
import Derived.Test.YthncegemhaofnaaDoorRoundsLaw
import Derived.Test.YthncegemhaofnaaDoorDigestsPure
import Derived.Test.YthncegemhaofnaaDoorDigS
import Derived.StillTailTactics
namespace Go.Proofs.YthncegemhaofnaaDoor
open Go.RowKit

set_option maxRecDepth 100000 in
theorem iDigHex_any (s : ByteArray) (hs : s.size ≤ 2097152) (w : World) (hT : Tab w) :
    Calls Tryd.prog 14 #[.string s] w fun e w' => e = .returned (.string (digHexT s)) ∧ Below w.heap.size w w' := by
  have HI : Hid (Calls Tryd.prog 10 #[.string s] w fun e w' => e = .returned (.string (digT s)) ∧ Below w.heap.size w w') := iDig_any s hs w hT
  have HH : Hid (∀ w, Calls Tryd.prog 33 #[.string (digT s)] w fun e w' => e = .returned (.tuple #[.string (digHexT s), .bool true]) ∧ Below w.heap.size w w') := fun w => iHex_ok (digT s) (by rw [digT_size]; decide) w
  generalize digHexT s = h at HH
  generalize digT s = d at HI HH
  clear hT
  go_enter Tryd.func14, Tryd.ntmps14
  go_wp2_with fail
  refine HI.out.mono ?_
  rintro e w1 ⟨rfl, hb1⟩
  go_wp2_with fail
  refine (HH.out _).mono ?_
  rintro e w2 ⟨rfl, hb2⟩
  go_wp2
  go_ret
  exact ⟨rfl, hb1.trans (hb2.mono hb1.size)⟩

set_option maxRecDepth 100000 in
theorem iDigPair_any (s t : ByteArray) (hs : s.size ≤ 1048576) (ht : t.size ≤ 1048576) (w : World) (hT : Tab w) :
    Calls Tryd.prog 13 #[.string s, .string t] w fun e w' => e = .returned (.string (digT (s ++ t))) ∧ Below w.heap.size w w' := by
  have HI : Hid (Calls Tryd.prog 10 #[.string (s ++ t)] w fun e w' => e = .returned (.string (digT (s ++ t))) ∧ Below w.heap.size w w') := iDig_any (s ++ t) (by rw [ByteArray.size_append]; omega) w hT
  generalize digT (s ++ t) = d at HI
  clear hT
  go_enter Tryd.func13, Tryd.ntmps13
  go_wp2_with fail
  refine HI.out.mono ?_
  rintro e w1 ⟨rfl, hb1⟩
  go_wp2
  go_ret
  exact ⟨rfl, hb1⟩

/-- The length of a text. -/
def lenS : Value → Nat
  | .string s => s.size
  | _ => 0

theorem one_size : (ByteArray.mk #[120]).size = 1 := rfl
theorem RowC.drew {B : Nat} {w : World} {v : Value} {l : List UInt8} {g cap : Nat} (h : RowC B w v l g cap) : RowC B w.drew v l g cap := ⟨h.form, h.base, h.lt, h.le, h.cell, h.has, h.free⟩
theorem RowC.put {B : Nat} {w : World} {v : Value} {l : List UInt8} {g cap : Nat} (h : RowC B w v l g cap) (k : Nat) (hk : k < l.length) (b : UInt8) : RowC B (w.setCell ⟨g, k, none⟩ (.int .u8 (b.toNat : Int))) v (l.set k b) g cap := by
  have := h.set k hk b
  simpa only [World.setCells] using this
theorem byte_getD (s : ByteArray) (k : Nat) (h : k < s.size) : s[k] = s.data.toList.getD k 0 := by
  have hl : k < s.data.toList.length := by simpa using h
  rw [List.getD_eq_getElem?_getD, List.getElem?_eq_getElem hl, Option.getD_some]
  simp [ByteArray.getElem_eq_getElem_data]
theorem u8_xor (a b : UInt8) : bits .xor .u8 (a.toNat : Int) (b.toNat : Int) = ((a ^^^ b).toNat : Int) := by
  rw [u8_xor_nat _ _ a.toNat_lt b.toNat_lt, UInt8.toNat_xor]

set_option maxHeartbeats 1600000 in
set_option maxRecDepth 100000 in
theorem lawDigests (a : Option Addr) (len cap : Nat) (w : World) (hm : len ≤ 9223372036854775807) (hA : ArgAt w a len w.heap.size) (hT : Tab w) :
    Calls Tryd.prog 3 #[.slice a len cap] w fun e w' => e = .returned (.bool true) ∧ Below w.heap.size w w' := by
  have HA : Hid (ArgAt w a len w.heap.size) := hA
  have HT : Hid (Tab w) := hT
  clear hA hT
  by_cases hb : 1048576 < len
  · have hd : decide (1048576 < len) = true := decide_eq_true hb
    go_enter Tryd.func3, Tryd.ntmps3
    go_wp2_with (go_at_call 7; refine (big_any _ _ _ hm _).mono ?_; rintro e w0 ⟨rfl, rfl⟩)
    go_ret
    exact ⟨rfl, Below.refl _ _⟩
  · have hd : decide (1048576 < len) = false := decide_eq_false hb
    have hm1 : len ≤ 1048576 := by omega
    have HP : Hid (∀ w0 : World, w = w0 → Calls Tryd.prog 8 #[.slice a len cap] w0 fun e w' => ∃ s : ByteArray, e = .returned (.string s) ∧ s.size ≤ 272 ∧ Below w.heap.size w w') := fun w0 hw => by subst hw; exact drawText_any len cap a hm1 w HA.out
    go_enter Tryd.func3, Tryd.ntmps3
    go_wp2_with (first | (go_at_call 7; refine (big_any _ _ _ hm _).mono ?_; rintro e w0 ⟨rfl, rfl⟩) | (go_at_call 8; fail))
    refine (HP.out _ rfl).mono ?_
    rintro e w1 ⟨t, rfl, ht, hb1⟩
    clear HP
    obtain ⟨p, hp⟩ : ∃ p, p = padT t := ⟨_, rfl⟩
    obtain ⟨m, hmm⟩ : ∃ m, m = blocks t := ⟨_, rfl⟩
    obtain ⟨d, hdd⟩ : ∃ d, d = digT t := ⟨_, rfl⟩
    have HPS : Hid (p.size = 136 * m ∧ t.size < p.size ∧ m ≤ 3) := by
      have h1 := padT_size t
      rw [← hp, ← hmm] at h1
      have h2 : m = t.size / 136 + 1 := hmm
      show p.size = 136 * m ∧ t.size < p.size ∧ m ≤ 3
      omega
    have HIP : Hid (∀ w, Calls Tryd.prog 9 #[.string t] w fun e w' => e = .returned (.string p) ∧ Below w.heap.size w w') := by
      rw [hp]; exact iPad_any t (by omega)
    have HID : Hid (∀ w, Tab w → Calls Tryd.prog 10 #[.string t] w fun e w' => e = .returned (.string d) ∧ Below w.heap.size w w') := by
      rw [hdd]; exact fun w h => iDig_any t (by omega) w h
    have HSD : Hid (∀ w, Calls Tryd.prog 12 #[.string t] w fun e w' => e = .returned (.string d) ∧ Below w.heap.size w w') := by
      rw [hdd]; exact fun w => sDig_any t (by omega) w
    have HDP : Hid (∀ w, Tab w → Calls Tryd.prog 13 #[.string t, .string (ByteArray.mk #[120])] w fun e w' => e = .returned (.string (digT (t ++ (ByteArray.mk #[120])))) ∧ Below w.heap.size w w') := fun w h => iDigPair_any t (ByteArray.mk #[120]) (by omega) (by rw [one_size]; decide) w h
    have HDX : Hid (∀ w, Tab w → Calls Tryd.prog 10 #[.string (t ++ (ByteArray.mk #[120]))] w fun e w' => e = .returned (.string (digT (t ++ (ByteArray.mk #[120])))) ∧ Below w.heap.size w w') := fun w h => iDig_any (t ++ (ByteArray.mk #[120])) (by rw [ByteArray.size_append, one_size]; omega) w h
    have HDH : Hid (∀ w, Tab w → Calls Tryd.prog 14 #[.string t] w fun e w' => e = .returned (.string (digHexT t)) ∧ Below w.heap.size w w') := fun w h => iDigHex_any t (by omega) w h
    have HHS : Hid ((digHexT t).size = 64) := digHexT_size t
    have HDS : Hid (d.size = 32) := by rw [hdd]; exact digT_size t
    have HPF : Hid (p.extract 0 t.size = t) := by rw [hp]; exact padT_prefix t
    have HCT : Hid ((textT (absK p.data.toList m) 25).extract 0 32 = d) := by rw [hdd, hp, hmm]; exact textT_cut _
    generalize digT (t ++ (ByteArray.mk #[120])) = dx at HDP HDX
    generalize digHexT t = dh at HDH HHS
    have htb : t.size ≤ 272 := ht
    clear hp hmm hdd ht
    go_wp2_with fail
    refine (HIP.out _).mono ?_
    rintro e w2 ⟨rfl, hb2⟩
    have hbB := hb1.trans (hb2.mono hb1.size)
    clear hb1 hb2 HIP
    go_wp2_with fail
    refine (HID.out _ (HT.out.on hbB HT.out.1)).mono ?_
    rintro e w3 ⟨rfl, hb3⟩
    have hbC := hbB.trans (hb3.mono hbB.size)
    clear hb3 hbB
    go_wp2
    go_loopw [6] (fun s wr => ∃ k : Nat, s = .string (zeroT k) ∧ k ≤ 200 ∧ Below w.heap.size w wr) (fun s _ => 200 - lenS s)
    case atStart => exact ⟨0, rfl, by omega, hbC⟩
    case round =>
      clear hbC
      obtain ⟨k, rfl, hk, hbel⟩ := hrel
      have hz := zeroT_size k
      have hzs := zeroT_succ k
      have HZ : Hid ((zeroT k).size = k) := hz
      by_cases hlt : k < 200
      · have hlt' : (k : Int) < 200 := by omega
        go_wp2
        go_roundw
        case rel => exact ⟨k + 1, by trivial, hlt, hbel⟩
        case measure => simp [lenS, zeroT_size]; omega
      · have hlt' : ¬ (k : Int) < 200 := by omega
        obtain rfl : k = 200 := by omega
        have hz2 : ¬ (((zeroT 200).size : Nat) : Int) < 200 := by rw [HZ.out]; decide
        clear hzs HZ hz
        rw [zeroT_text] at hz2 ⊢
        go_wp2
        go_loopw [6, 7] (fun s i wr => ∃ k : Nat, i = .int .i64 ((136 * k : Nat) : Int) ∧ k ≤ m ∧ s = .string (textT (absK p.data.toList k) 25) ∧ Below w.heap.size w wr) (fun _ i _ => (136 * m - (intOf i).toNat))
        case atStart => exact ⟨0, rfl, by omega, rfl, hbel⟩
        case round =>
          clear hbel hz2
          obtain ⟨k, rfl, hk, rfl, hbel⟩ := hrel
          obtain ⟨c, hc⟩ : ∃ c, c = 136 * k := ⟨_, rfl⟩
          rw [← hc]
          have hps := HPS.out.1
          by_cases hlt : k < m
          · have hlt' : (c : Int) < (p.size : Int) := by omega
            have hcb : c + 136 ≤ p.size := by omega
            have hpb : p.size ≤ 408 := by have := HPS.out.2.2; omega
            have HC : Hid (c = 136 * k) := hc
            obtain ⟨K, w5, hcv, hb5, hrow5⟩ := rowC_conv wr (textT (absK p.data.toList k) 25)
            have hts := textT_size (absK p.data.toList k) 25
            have HFB : Hid (fullT ⟨(xr (textL (absK p.data.toList k) 25) p.data.toList c 136).toArray⟩ = textT (absK p.data.toList (k + 1)) 25) := by
              rw [hc]; exact full_block p.data.toList k
            rw [textT_list] at hrow5
            have hll : (textL (absK p.data.toList k) 25).length = 200 := textL_length _ 25
            rw [hts] at hcv hrow5
            generalize textL (absK p.data.toList k) 25 = l at hrow5 HFB hll
            generalize textT (absK p.data.toList k) 25 = T at hcv hts
            have hbel5 : Below w.heap.size w w5 := hbel.trans (hb5.mono hbel.size)
            have HR5 : Hid (RowC w.heap.size w5 (.slice (some ⟨wr.heap.size, 0, none⟩) (8 * 25) K) l wr.heap.size K) := ⟨hrow5.form, hbel.size, hrow5.lt, hrow5.le, hrow5.cell, hrow5.has, hrow5.free⟩
            have HLL : Hid (l.length = 200) := hll
            obtain ⟨g, hg⟩ : ∃ g, g = wr.heap.size := ⟨_, rfl⟩
            rw [← hg] at hcv HR5
            have HSZ : Hid (w.heap.size ≤ g) := (show w.heap.size ≤ g by rw [hg]; exact hbel.size)
            clear hc hps hrow5 hb5 hbel hg hll hts
            go_wp2
            go_loopw [9] (fun i wr => ∃ j : Nat, i = .int .i64 (j : Int) ∧ j ≤ 136 ∧ RowC w.heap.size wr (.slice (some ⟨g, 0, none⟩) (8 * 25) K) (xr l p.data.toList c j) g K ∧ Below w.heap.size w wr) (fun i _ => (136 - (intOf i).toNat))
            case atStart => exact ⟨0, rfl, by omega, HR5.out, hbel5⟩
            case round =>
              clear hbel5 HR5 hcv
              obtain ⟨j, rfl, hj, hrow, hbel⟩ := hrel
              have hxl := xr_length l p.data.toList c j
              rw [HLL.out] at hxl
              by_cases hl136 : j < 136
              · have hl136' : (j : Int) < 136 := by omega
                have hj0 : (0 : Int) ≤ (j : Int) := by omega
                have hj200 : (j : Int) < 200 := by omega
                obtain ⟨e, he⟩ : ∃ e, e = c + j := ⟨_, rfl⟩
                have he' : (c : Int) + (j : Int) = (e : Int) := by omega
                have hw2 : IntKind.i64.wrap (e : Int) = (e : Int) := IntWalk.i64_in _ (by omega)
                have hep : e < p.size := by omega
                have hat : ∀ W : World, (Instr.index 9 (.string p) (.int .i64 (e : Int))).run Tryd.prog W = .ok (.int .u8 ((p.data.toList.getD e 0).toNat : Int)) W := fun W => by
                  rw [at_byte p e hep W, byte_getD p e hep]
                have hcl : wr.cell? ⟨g, j, none⟩ = some (.int .u8 (((xr l p.data.toList c j).getD j 0).toNat : Int)) := by
                  rw [hrow.cell j (by omega), List.getD_eq_getElem?_getD, List.getElem?_eq_getElem (by omega)]; rfl
                have hfr := hrow.free j (by have := hrow.le; omega)
                have hxor := u8_xor ((xr l p.data.toList c j).getD j 0) (p.data.toList.getD e 0)
                have HW : Hid (RowC w.heap.size (wr.setCell ⟨g, j, none⟩ (.int .u8 (((xr l p.data.toList c j).getD j 0 ^^^ p.data.toList.getD e 0).toNat : Int))).drew (.slice (some ⟨g, 0, none⟩) (8 * 25) K) (xr l p.data.toList c (j + 1)) g K ∧ Below w.heap.size w (wr.setCell ⟨g, j, none⟩ (.int .u8 (((xr l p.data.toList c j).getD j 0 ^^^ p.data.toList.getD e 0).toNat : Int))).drew) := by
                  refine ⟨?_, (hbel.setCell HSZ.out _).drew⟩
                  rw [xr, ← he]
                  exact (hrow.put j (by omega) _).drew
                generalize (xr l p.data.toList c j).getD j 0 = y at hcl hxor HW
                generalize p.data.toList.getD e 0 = z at hat hxor HW
                generalize y ^^^ z = yz at hxor HW
                clear hrow hbel he hxl
                go_wp2
                refine wp_region_still_tail 13 mixes (by kernel_rfl) ?_
                simp only [List.take_succ_cons, List.take_zero, List.drop_succ_cons, List.drop_zero]
                repeat still_step
                refine wpStill_nil ?_
                go_wp2
                go_roundw
                case rel => exact ⟨j + 1, by go_num, hl136, HW.out.1, HW.out.2⟩
                case measure => simp [intOf]; omega
              · have hl136' : ¬ (j : Int) < 136 := by omega
                obtain rfl : j = 136 := by omega
                have hcx := text_of_C hrow
                have HKF : Hid (∀ w, Tab w → Calls Tryd.prog 11 #[.string ⟨(xr l p.data.toList c 136).toArray⟩] w fun e w' => e = .returned (.string (textT (absK p.data.toList (k + 1)) 25)) ∧ Below w.heap.size w w') := fun w h => by
                  rw [← HFB.out]
                  refine iKF_any _ ?_ w h
                  show (xr l p.data.toList c 136).toArray.size ≤ 1048576
                  rw [List.size_toArray, hxl]; omega
                rw [hxl] at hcx
                generalize ByteArray.mk (xr l p.data.toList c 136).toArray = X at hcx HKF
                clear hrow hxl
                go_wp2_with fail
                refine (HKF.out _ (HT.out.on hbel HT.out.1)).mono ?_
                rintro e w6 ⟨rfl, hb6⟩
                have hbel6 := hbel.trans (hb6.mono hbel.size)
                clear hb6 hbel
                go_wp2
                go_roundw
                case rel => exact ⟨k + 1, by have := HC.out; rw [show ((136 * (k + 1) : Nat) : Int) = (c : Int) + 136 by omega], hlt, rfl, hbel6⟩
                case measure => simp [intOf]; have := HC.out; omega
          · have hlt' : ¬ (c : Int) < (p.size : Int) := by omega
            obtain rfl : k = m := by omega
            have hts := textT_size (absK p.data.toList k) 25
            have hct := HCT.out
            generalize textT (absK p.data.toList k) 25 = T at hts hct
            have hT32 : (32 : Int) ≤ (T.size : Int) := by omega
            have HTS : Hid (T.size = 8 * 25) := hts
            have hds := HDS.out
            have hhs := HHS.out
            have hpf := HPF.out
            have htp : (t.size : Int) < (p.size : Int) := by have := HPS.out.2.1; omega
            have htp2 : (t.size : Int) ≤ (p.size : Int) := by omega
            have hpm : (p.size : Int) % 136 = 0 := by omega
            have hpm2 : Int.tmod (p.size : Int) 136 = 0 := by rw [Int.tmod_eq_emod_of_nonneg (by omega)]; exact hpm
            have hpb : p.size ≤ 408 := by have := HPS.out.2.2; omega
            clear hts hc hps
            go_wp2_with fail
            refine (HSD.out _).mono ?_
            rintro e w6 ⟨rfl, hb6⟩
            have hbF := hbel.trans (hb6.mono hbel.size)
            clear hb6 hbel
            go_wp2_with fail
            refine (HDP.out _ (HT.out.on hbF HT.out.1)).mono ?_
            rintro e w7 ⟨rfl, hb7⟩
            have hbG := hbF.trans (hb7.mono hbF.size)
            clear hb7 hbF
            go_wp2_with fail
            refine (HDX.out _ (HT.out.on hbG HT.out.1)).mono ?_
            rintro e w8 ⟨rfl, hb8⟩
            have hbH := hbG.trans (hb8.mono hbG.size)
            clear hb8 hbG
            go_wp2_with fail
            refine (HDH.out _ (HT.out.on hbH HT.out.1)).mono ?_
            rintro e w9 ⟨rfl, hb9⟩
            have hbI := hbH.trans (hb9.mono hbH.size)
            clear hb9 hbH
            go_wp2
            go_ret
            exact ⟨rfl, hbI⟩

end Go.Proofs.YthncegemhaofnaaDoor
