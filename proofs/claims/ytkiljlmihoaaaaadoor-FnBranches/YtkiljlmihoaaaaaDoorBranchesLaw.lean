/-
  The walk of the law that a leaf and what stands beside it make the root.
  (-DROP-: what the seat lacks is left out.)
-/
import Derived.Test.YtkiljlmihoaaaaaDoorTreeDraw2
import Derived.Test.YtkiljlmihoaaaaaDoorTreeRow
import Derived.Test.YtkiljlmihoaaaaaDoorPlaces
import Derived.Test.YtkiljlmihoaaaaaDoorByteArg
namespace Go.Proofs.YtkiljlmihoaaaaaDoor
open Go.RowKit

set_option maxHeartbeats 800000 in
set_option maxRecDepth 100000 in
theorem sameTexts_any (a b : Option Addr) (n c1 c2 : Nat) (hn : n ≤ 1048576) (f : Nat → ByteArray) (w : World) (hA : StrsAt w a n w.heap.size f) (hB : StrsAt w b n w.heap.size f) :
    Calls Tryd.prog 20 #[.slice a n c1, .slice b n c2] w fun e w' => e = .returned (.bool true) ∧ Below w.heap.size w w' := by
  have HA : Hid (StrsAt w a n w.heap.size f) := hA
  have HB : Hid (StrsAt w b n w.heap.size f) := hB
  clear hA hB
  go_enter Tryd.func20, Tryd.ntmps20
  go_wp2
  go_loopw [5] (fun i wr => ∃ k : Nat, i = .int .i64 (k : Int) ∧ k ≤ n ∧ Hid (Below w.heap.size w wr)) (fun i _ => n - (intOf i).toNat)
  case atStart => exact ⟨0, rfl, Nat.zero_le _, Below.refl _ _⟩
  case round =>
    obtain ⟨k, rfl, hk, HW⟩ := hrel
    by_cases hlt : k < n
    · have hlt' : (k : Int) < (n : Int) := by omega
      have hk0 : (0 : Int) ≤ (k : Int) := by omega
      obtain ⟨b, off, rfl, hb, hz⟩ := (HA.out.on HW.out) k hlt
      obtain ⟨b', off', rfl, hb', hz'⟩ := (HB.out.on HW.out) k hlt
      generalize f k = x at hz hz'
      clear hb hb' HA HB
      go_wp2
      refine wp_region_still_tail 8 mixes (by kernel_rfl) ?_
      simp only [List.take_succ_cons, List.take_zero, List.drop_succ_cons, List.drop_zero]
      repeat still_step
      refine wpStill_nil ?_
      go_wp2
      go_roundw
      case rel => exact ⟨k + 1, by go_num, hlt, HW.out.drew⟩
      case measure => simp [intOf]; omega
    · have hlt' : ¬ (k : Int) < (n : Int) := by omega
      go_wp2
      go_ret
      exact ⟨rfl, HW.out⟩

theorem sameRow_any {B1 B2 : Nat} {w : World} {v u : Value} {l : List ByteArray} (h1 : RowS B1 w v l) (h2 : RowS B2 w u l) (hl : l.length ≤ 1048576) :
    Calls Tryd.prog 20 #[v, u] w fun e w' => e = .returned (.bool true) ∧ Below w.heap.size w w' := by
  obtain ⟨a, c1, rfl, s1⟩ := h1.strs
  obtain ⟨b, c2, rfl, s2⟩ := h2.strs
  exact sameTexts_any a b l.length c1 c2 hl _ w s1 s2

theorem branch_small (l : List ByteArray) (i : Int) : ∀ j, j < (branchT digT l i).length → ((branchT digT l i).getD j noT).size ≤ 1048576 := by
  have key : ∀ x ∈ branchT digT l i, x.size ≤ 1048576 := by
    unfold branchT
    split
    · exact branch_sizes _ _ _ (hash_sizes l)
    · intro x hx; cases hx
  intro j hj
  rw [List.getD_eq_getElem?_getD, List.getElem?_eq_getElem hj]
  exact key _ (List.getElem_mem hj)

set_option maxHeartbeats 3200000 in
set_option maxRecDepth 100000 in
theorem lawBranches (a : Option Addr) (len cap : Nat) (hm : len ≤ 9223372036854775807) (w : World) (hA : ArgAt w a len w.heap.size) (hT : Tab w) :
    Calls Tryd.prog 3 #[.slice a len cap] w fun e w' => e = .returned (.bool true) ∧ Below w.heap.size w w' := by
  have HA : Hid (ArgAt w a len w.heap.size) := hA
  have HT : Hid (∀ w', Below w.heap.size w w' → Tab w') := fun w' hb => hT.on hb hT.1
  clear hA hT
  by_cases hb : 1048576 < len
  · have hd : decide (1048576 < len) = true := decide_eq_true hb
    go_enter Tryd.func3, Tryd.ntmps3
    go_wp2_with (go_at_call 8; refine (big_any _ _ _ hm _).mono ?_; rintro e w0 ⟨rfl, rfl⟩)
    go_ret
    exact ⟨rfl, Below.refl _ _⟩
  have hd : decide (1048576 < len) = false := decide_eq_false hb
  have hm1 : len ≤ 1048576 := by omega
  go_enter Tryd.func3, Tryd.ntmps3
  go_wp2_with (go_at_call 8; refine (big_any _ _ _ hm _).mono ?_; rintro e w0 ⟨rfl, rfl⟩)
  refine (drawLeaves_any len cap a hm1 _ HA.out).mono ?_
  rintro e w1 ⟨v, l, rfl, hR1, hF, hp, hb1⟩
  have HS : Hid (∀ j, j < l.length → (l.getD j noT).size ≤ 1048576) := fun j hj => by have := hF.at hj; omega
  have hl10 : l.length ≤ 10 := hF.len
  have HB1 : Hid (Below w.heap.size w w1) := hb1
  have R1 : Hid (RowS w.heap.size w1 v l) := hR1
  have HRT : Hid ((rootT digT l).size = 32) := root_size (by omega) hp
  have HFB : Hid (∀ i : Nat, i < l.length → foldT digT (l.getD i noT) (i : Int) (branchT digT l (i : Int)) = rootT digT l ∧ (branchT digT l (i : Int)).length = lvN l.length) := fun i hi => fold_branch (D := digT) (by omega) hi
  obtain ⟨al, cl, hv, _⟩ := hR1.strs
  have HV : Hid (v = .slice al l.length cl) := hv
  clear hR1 hF hp hb1 hv
  go_wp2_with fail
  refine (iRoot_row R1.out (by omega) HS.out (HT.out _ HB1.out)).mono ?_
  rintro e w2 ⟨rfl, hb2⟩
  have R2 : Hid (RowS w.heap.size w2 v l) := owns_on R1.out hb2
  have HB2 : Hid (Below w.heap.size w w2) := HB1.out.trans (hb2.mono HB1.out.size)
  clear hb2 R1 HB1
  generalize hRT : rootT digT l = RT at HRT HFB ⊢
  have HRTl : Hid (rootT digT l = RT) := hRT
  clear hRT
  have hv2 := HV.out
  subst hv2
  go_wp2
  go_loopw [5] (fun i wr => ∃ k : Nat, i = .int .i64 (k : Int) ∧ k ≤ l.length ∧ Hid (RowS w.heap.size wr (.slice al l.length cl) l ∧ Below w.heap.size w wr)) (fun i _ => l.length - (intOf i).toNat)
  case atStart => exact ⟨0, rfl, Nat.zero_le _, ⟨R2.out, HB2.out⟩⟩
  case round =>
    obtain ⟨k, rfl, hk, HD⟩ := hrel
    clear R2 HB2
    by_cases hlt : k < l.length
    · have hlt' : (k : Int) < (l.length : Int) := by omega
      have hk0 : (0 : Int) ≤ (k : Int) := by omega
      have HF := HFB.out k hlt
      have HF1 : Hid (foldT digT (l.getD k noT) (k : Int) (branchT digT l (k : Int)) = RT) := HF.1
      have HF2 : Hid ((branchT digT l (k : Int)).length = lvN l.length) := HF.2
      have hb5 : (branchT digT l (k : Int)).length ≤ 5 := branch_len _ _ _
      have HBS : Hid (∀ j, j < (branchT digT l (k : Int)).length → ((branchT digT l (k : Int)).getD j noT).size ≤ 1048576) := branch_small l _
      have hsk := HS.out k hlt
      have HLV : Hid (∀ w, Calls Tryd.prog 12 #[.int .i64 (l.length : Int)] w fun e w' => e = .returned (.int .i64 ((branchT digT l (k : Int)).length : Int)) ∧ Below w.heap.size w w') := by
        have h := iLevels_any (l.length : Int)
        rw [show lvI (l.length : Int) = ((branchT digT l (k : Int)).length : Int) by rw [HF.2]; unfold lvI; rw [if_pos (by omega)]; simp] at h
        exact h
      have HBC : Hid (Calls Tryd.prog 11 #[.slice al l.length cl, .int .i64 (k : Int)] wr fun e w' => ∃ u, e = .returned u ∧ RowS wr.heap.size w' u (branchT digT l (k : Int)) ∧ Below wr.heap.size wr w') := iBranch_row (k : Int) HD.out.1 (by omega) HS.out (HT.out _ HD.out.2)
      have HFC : Hid (∀ B w' u, RowS B w' u (branchT digT l (k : Int)) → Tab w' → Calls Tryd.prog 13 #[.string (l.getD k noT), .int .i64 (k : Int), u] w' fun e w'' => e = .returned (.string RT) ∧ Below w'.heap.size w' w'') := fun B w' u h h' => by
        rw [← HF1.out]; exact iFold_row (l.getD k noT) hsk (k : Int) h (by omega) HBS.out h'
      clear HF
      clear HF1 HF2 HBS
      generalize branchT digT l (k : Int) = br at hb5 HLV HBC HFC
      go_wp2_with fail
      refine HBC.out.mono ?_
      rintro e w3 ⟨u, rfl, hR3, hb3⟩
      have R3 : Hid (RowS w.heap.size w3 (.slice al l.length cl) l) := owns_on HD.out.1 hb3
      have U3 : Hid (RowS wr.heap.size w3 u br) := hR3
      have HB3 : Hid (Below w.heap.size w w3) := HD.out.2.trans (hb3.mono HD.out.2.size)
      obtain ⟨au, cu, hu, _⟩ := hR3.strs
      subst hu
      clear hR3 hb3 HBC HD
      go_wp2_with fail
      refine (HLV.out _).mono ?_
      rintro e w4 ⟨rfl, hb4⟩
      have R4 : Hid (RowS w.heap.size w4 (.slice al l.length cl) l) := owns_on R3.out hb4
      have U4 : Hid (RowS wr.heap.size w4 (.slice au br.length cu) br) := owns_on U3.out hb4
      have HB4 : Hid (Below w.heap.size w w4) := HB3.out.trans (hb4.mono HB3.out.size)
      clear hb4 R3 U3 HB3
      obtain ⟨b0, off0, hal, _, hz0'⟩ := R4.out.at k hlt
      subst hal
      have hz0 : w4.cell? ⟨b0, off0 + k, none⟩ = some (.string (l.getD k noT)) := hz0'
      clear hz0' hsk
      generalize l.getD k noT = t at hz0 HFC
      go_wp2_with fail
      refine (HFC.out _ _ _ U4.out (HT.out _ HB4.out)).mono ?_
      rintro e w5 ⟨rfl, hb5'⟩
      have R5 : Hid (RowS w.heap.size w5 (.slice (some ⟨b0, off0, none⟩) l.length cl) l) := owns_on R4.out hb5'
      have HB5 : Hid (Below w.heap.size w w5) := HB4.out.trans (hb5'.mono HB4.out.size)
      clear hb5' R4 U4 HB4 HFC hz0
      go_wp2
      go_roundw
      case rel => exact ⟨k + 1, by go_num, hlt, ⟨R5.out, HB5.out⟩⟩
      case measure => simp [intOf]; omega
    · have hlt' : ¬ (k : Int) < (l.length : Int) := by omega
      have HB3 : Hid (Below w.heap.size w wr) := HD.out.2
      have h32 : RT.size = 32 := HRT.out
      clear HD HRT HFB HRTl HS
      go_wp2_with fail
      refine (drawFold_any len cap a hm1 _ (arg_up HA.out HB3.out)).mono ?_
      rintro e w4 ⟨t, x, vf, lf, rfl, ht5, hRf, hSf, hb4⟩
      have F4 : Hid (RowS wr.heap.size w4 vf lf) := hRf
      have FS : Hid (lf.length ≤ 1048576 ∧ ∀ j, j < lf.length → (lf.getD j noT).size ≤ 1048576) := ⟨by have := hSf.len; omega, hSf.size⟩
      have HB4 : Hid (Below w.heap.size w w4) := HB3.out.trans (hb4.mono HB3.out.size)
      have HFI : Hid (∀ B w', RowS B w' vf lf → Tab w' → Calls Tryd.prog 13 #[.string t, .int .i64 x, vf] w' fun e w'' => e = .returned (.string (foldT digT t x lf)) ∧ Below w'.heap.size w' w'') := fun B w' h h' => iFold_row t (by omega) x h FS.out.1 FS.out.2 h'
      have HFS : Hid (∀ B w', RowS B w' vf lf → Calls Tryd.prog 18 #[.string t, .int .i64 x, vf] w' fun e w'' => e = .returned (.string (foldT digT t x lf)) ∧ Below w'.heap.size w' w'') := fun B w' h => sFold_row t (by omega) x h FS.out.1 FS.out.2
      generalize foldT digT t x lf = rf at HFI HFS
      clear hRf hSf hb4 HB3 ht5 FS
      go_wp2_with fail
      refine (drawRootOf_any len cap a hm1 _ (arg_up HA.out HB4.out)).mono ?_
      rintro e w5 ⟨vy, ly, rfl, hRy, hFy, hb5⟩
      have Y5 : Hid (RowS w4.heap.size w5 vy ly) := hRy
      have F5 : Hid (RowS wr.heap.size w5 vf lf) := owns_on F4.out hb5
      have HB5 : Hid (Below w.heap.size w w5) := HB4.out.trans (hb5.mono HB4.out.size)
      have HYS : Hid (ly.length ≤ 1048576 ∧ ∀ j, j < ly.length → (ly.getD j noT).size ≤ 1048576) := ⟨by have := hFy.len; omega, fun j hj => by have := hFy.at hj; omega⟩
      have HYI : Hid (∀ B w', RowS B w' vy ly → Tab w' → Calls Tryd.prog 10 #[vy] w' fun e w'' => e = .returned (.string (rootT digT ly)) ∧ Below w'.heap.size w' w'') := fun B w' h h' => iRoot_row h HYS.out.1 HYS.out.2 h'
      have HYP : Hid (∀ B w', RowS B w' vy ly → Calls Tryd.prog 19 #[vy] w' fun e w'' => e = .returned (.string (rootT digT ly)) ∧ Below w'.heap.size w' w'') := fun B w' h => sRoot_row h HYS.out.1 HYS.out.2
      generalize rootT digT ly = ry at HYI HYP
      clear hRy hFy hb5 F4 HB4 HYS
      go_wp2_with fail
      refine (drawBranch_any len cap a hm1 _ (arg_up HA.out HB5.out)).mono ?_
      rintro e w6 ⟨vz, lz, z, rfl, hRz, hFz, hb6⟩
      have Z6 : Hid (RowS w5.heap.size w6 vz lz) := hRz
      have Y6 : Hid (RowS w4.heap.size w6 vy ly) := owns_on Y5.out hb6
      have F6 : Hid (RowS wr.heap.size w6 vf lf) := owns_on F5.out hb6
      have HB6 : Hid (Below w.heap.size w w6) := HB5.out.trans (hb6.mono HB5.out.size)
      have HZS : Hid (lz.length ≤ 1048576 ∧ ∀ j, j < lz.length → (lz.getD j noT).size ≤ 1048576) := ⟨by have := hFz.len; omega, fun j hj => by have := hFz.at hj; omega⟩
      have HZI : Hid (∀ B w', RowS B w' vz lz → Tab w' → Calls Tryd.prog 11 #[vz, .int .i64 z] w' fun e w'' => ∃ u, e = .returned u ∧ RowS w'.heap.size w'' u (branchT digT lz z) ∧ Below w'.heap.size w' w'') := fun B w' h h' => iBranch_row z h HZS.out.1 HZS.out.2 h'
      have HZP : Hid (∀ B w', RowS B w' vz lz → Calls Tryd.prog 21 #[vz, .int .i64 z] w' fun e w'' => ∃ u, e = .returned u ∧ RowS w'.heap.size w'' u (branchT digT lz z) ∧ Below w'.heap.size w' w'') := fun B w' h => sBranch_row z h HZS.out.1 HZS.out.2
      have hbz : (branchT digT lz z).length ≤ 5 := branch_len _ _ _
      generalize branchT digT lz z = bz at HZI HZP hbz
      clear hRz hFz hb6 Y5 F5 HB5 HZS
      go_wp2_with fail
      refine (drawLevels_any len cap a hm1 _ (arg_up HA.out HB6.out)).mono ?_
      rintro e w7 ⟨n, rfl, hb7⟩
      have Z7 : Hid (RowS w5.heap.size w7 vz lz) := owns_on Z6.out hb7
      have Y7 : Hid (RowS w4.heap.size w7 vy ly) := owns_on Y6.out hb7
      have F7 : Hid (RowS wr.heap.size w7 vf lf) := owns_on F6.out hb7
      have HB7 : Hid (Below w.heap.size w w7) := HB6.out.trans (hb7.mono HB6.out.size)
      have HLI : Hid (∀ w, Calls Tryd.prog 12 #[.int .i64 n] w fun e w' => e = .returned (.int .i64 (lvI n)) ∧ Below w.heap.size w w') := iLevels_any n
      have HLS : Hid (∀ w, Calls Tryd.prog 22 #[.int .i64 n] w fun e w' => e = .returned (.int .i64 (lvI n)) ∧ w = w') := sLevels_any n
      generalize lvI n = lv at HLI HLS
      clear hb7 Z6 Y6 F6 HB6
      go_wp2_with fail
      refine (HFI.out _ _ F7.out (HT.out _ HB7.out)).mono ?_
      rintro e w8 ⟨rfl, hb8⟩
      have Z8 : Hid (RowS w5.heap.size w8 vz lz) := owns_on Z7.out hb8
      have Y8 : Hid (RowS w4.heap.size w8 vy ly) := owns_on Y7.out hb8
      have F8 : Hid (RowS wr.heap.size w8 vf lf) := owns_on F7.out hb8
      have HB8 : Hid (Below w.heap.size w w8) := HB7.out.trans (hb8.mono HB7.out.size)
      clear hb8 Z7 Y7 F7 HB7
      go_wp2_with fail
      refine (HFS.out _ _ F8.out).mono ?_
      rintro e w9 ⟨rfl, hb9⟩
      have Z9 : Hid (RowS w5.heap.size w9 vz lz) := owns_on Z8.out hb9
      have Y9 : Hid (RowS w4.heap.size w9 vy ly) := owns_on Y8.out hb9
      have HB9 : Hid (Below w.heap.size w w9) := HB8.out.trans (hb9.mono HB8.out.size)
      clear hb9 Z8 Y8 F8 HB8
      go_wp2_with fail
      refine (HYI.out _ _ Y9.out (HT.out _ HB9.out)).mono ?_
      rintro e w10 ⟨rfl, hb10⟩
      have Z10 : Hid (RowS w5.heap.size w10 vz lz) := owns_on Z9.out hb10
      have Y10 : Hid (RowS w4.heap.size w10 vy ly) := owns_on Y9.out hb10
      have HB10 : Hid (Below w.heap.size w w10) := HB9.out.trans (hb10.mono HB9.out.size)
      clear hb10 Z9 Y9 HB9
      go_wp2_with fail
      refine (HYP.out _ _ Y10.out).mono ?_
      rintro e w11 ⟨rfl, hb11⟩
      have Z11 : Hid (RowS w5.heap.size w11 vz lz) := owns_on Z10.out hb11
      have HB11 : Hid (Below w.heap.size w w11) := HB10.out.trans (hb11.mono HB10.out.size)
      clear hb11 Z10 Y10 HB10
      go_wp2_with fail
      refine (HZI.out _ _ Z11.out (HT.out _ HB11.out)).mono ?_
      rintro e w12 ⟨u1, rfl, hu1, hb12⟩
      have Z12 : Hid (RowS w5.heap.size w12 vz lz) := owns_on Z11.out hb12
      have U12 : Hid (RowS w11.heap.size w12 u1 bz) := hu1
      have HB12 : Hid (Below w.heap.size w w12) := HB11.out.trans (hb12.mono HB11.out.size)
      clear hb12 hu1 Z11 HB11
      go_wp2_with fail
      refine (HZP.out _ _ Z12.out).mono ?_
      rintro e w13 ⟨u2, rfl, hu2, hb13⟩
      have U13 : Hid (RowS w11.heap.size w13 u1 bz) := owns_on U12.out hb13
      have V13 : Hid (RowS w12.heap.size w13 u2 bz) := hu2
      have HB13 : Hid (Below w.heap.size w w13) := HB12.out.trans (hb13.mono HB12.out.size)
      clear hb13 hu2 Z12 U12 HB12
      go_wp2_with fail
      refine (sameRow_any U13.out V13.out (by omega)).mono ?_
      rintro e w14 ⟨rfl, hb14⟩
      have HB14 : Hid (Below w.heap.size w w14) := HB13.out.trans (hb14.mono HB13.out.size)
      clear hb14 U13 V13 HB13
      go_wp2_with fail
      refine (HLI.out _).mono ?_
      rintro e w15 ⟨rfl, hb15⟩
      have HB15 : Hid (Below w.heap.size w w15) := HB14.out.trans (hb15.mono HB14.out.size)
      clear hb15 HB14
      go_wp2_with fail
      refine (HLS.out _).mono ?_
      rintro e w16 ⟨rfl, rfl⟩
      go_wp2
      go_ret
      exact ⟨rfl, HB15.out⟩

end Go.Proofs.YtkiljlmihoaaaaaDoor
