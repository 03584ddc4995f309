/-
  The walks of the exact laws of the tree of hashes.
  (-DROP-: what the seat lacks is left out.)
-/
import Derived.Test.YtkiljlmihoaaaaaDoorTreeS5
import Derived.Test.YtkiljlmihoaaaaaDoorTreeI
import Derived.Test.YtkiljlmihoaaaaaDoorMarkT
namespace Go.Proofs.YtkiljlmihoaaaaaDoor
open Go.RowKit

set_option maxHeartbeats 800000 in
set_option maxRecDepth 100000 in
theorem szStringS_any (a : Option Addr) (n cp : Nat) (hn : n ≤ 9223372036854775807) (f : Nat → ByteArray) (hz : ∀ j, j < n → (f j).size ≤ 9223372036854775807) (w : World) (hA : StrsAt w a n w.heap.size f) :
    Calls Tryd.prog 26 #[.slice a n cp, .int .i64 1048576] w fun e w' => ∃ r : Int, e = .returned (.int .i64 r) ∧ (0 ≤ r → n ≤ 1048576 ∧ ∀ j, j < n → (f j).size ≤ 1048576) ∧ w = w' := by
  have HA : Hid (StrsAt w a n w.heap.size f) := hA
  have HZ : Hid (∀ j, j < n → (f j).size ≤ 9223372036854775807) := hz
  clear hA hz
  by_cases h : 1048576 < n
  · have h' : (1048576 : Int) - (n : Int) < 0 := by omega
    go_enter Tryd.func26, Tryd.ntmps26
    go_wp2
    go_ret
    exact ⟨-1, rfl, fun h => by omega, rfl⟩
  · have h' : ¬ (1048576 : Int) - (n : Int) < 0 := by omega
    go_enter Tryd.func26, Tryd.ntmps26
    go_wp2
    go_loopw [1, 5] (fun x i wr => ∃ (L : Int) (k : Nat), x = .int .i64 L ∧ i = .int .i64 (k : Int) ∧ 0 ≤ L ∧ L ≤ 1048576 ∧ k ≤ n ∧ Hid (∀ j, j < k → (f j).size ≤ 1048576) ∧ w = wr) (fun _ i _ => n - (RowKit.intOf i).toNat)
    case atStart => exact ⟨1048576 - (n : Int), 0, by go_num, rfl, by omega, by omega, Nat.zero_le _, (fun j hj => by omega), rfl⟩
    case round =>
      obtain ⟨L, k, rfl, rfl, hL0, hL1, hk, HD, rfl⟩ := hrel
      by_cases hlt : k < n
      · have hlt' : (k : Int) < (n : Int) := by omega
        have hk0 : (0 : Int) ≤ (k : Int) := by omega
        obtain ⟨b, off, rfl, hb, hz⟩ := HA.out k hlt
        have hzk := HZ.out k hlt
        have HK : Hid ((f k).size ≤ 1048576 → ∀ j, j < k + 1 → (f j).size ≤ 1048576) := fun h j hj => by
          by_cases e : j = k
          · rw [e]; exact h
          · exact HD.out j (by omega)
        generalize f k = t at hz hzk HK
        obtain ⟨s, hs⟩ : ∃ s : Nat, s = t.size := ⟨_, rfl⟩
        have hs' := hs.symm
        rw [hs'] at hzk HK
        have hww : IntKind.i64.wrap (L - (s : Int)) = L - (s : Int) := IntWalk.i64_in _ (by omega)
        clear hs
        by_cases hneg : L - (s : Int) < 0
        · go_wp2
          go_ret
          exact ⟨-1, rfl, fun h => by omega, rfl⟩
        · have HS := HK.out (by omega)
          have HS' : Hid (∀ j, j < k + 1 → (f j).size ≤ 1048576) := HS
          clear HS HK
          go_wp2
          go_roundw
          case rel => exact ⟨L - (s : Int), k + 1, by go_num, by go_num, by omega, by omega, hlt, HS', by trivial⟩
          case measure => simp [RowKit.intOf]; omega
      · have hlt' : ¬ (k : Int) < (n : Int) := by omega
        obtain rfl : k = n := by omega
        go_wp2
        go_ret
        exact ⟨L, rfl, fun _ => ⟨by omega, HD.out⟩, rfl⟩

theorem RowT.rowS {w : World} {g n B : Nat} {f : Nat → ByteArray} (h : RowT w g n f) (hB : B ≤ g) (hn : n ≤ 1048576) : RowS B w (.slice (some ⟨g, 0, none⟩) n n) (lst f n) := by
  unfold RowS
  rw [lst_length]
  refine ⟨by simp [lst], .inr ⟨g, n, tc f n, rfl, hB, h, Nat.le_refl _, by unfold maxLen; omega, by rw [tc_size, Nat.mul_one], ?_⟩⟩
  rw [Nat.mul_one, List.take_of_length_le (by simp [tc])]
  simp [tc, lst]

theorem RowS.two {B : Nat} {w : World} {v : Value} {l : List ByteArray} (h : RowS B w v l) : ∃ a cp, v = .slice a l.length cp ∧ StrsAt w a l.length w.heap.size (fun j => l.getD j noT) ∧ (∀ b off sp, a = some ⟨b, off, sp⟩ → v.ownBlock = some b) := by
  obtain ⟨a, cp, rfl, h2⟩ := h.strs
  exact ⟨a, cp, rfl, h2, fun b off sp e => by rw [e]; rfl⟩

set_option maxHeartbeats 1600000 in
set_option maxRecDepth 100000 in
theorem lawRootOf (a : Option Addr) (n c : Nat) (hn : n ≤ 9223372036854775807) (f : Nat → ByteArray) (hz : ∀ j, j < n → (f j).size ≤ 9223372036854775807) (w : World) (hA : StrsAt w a n w.heap.size f) (hT : Tab w) :
    Calls Tryd.prog 5 #[.slice a n c] w fun e w' => e = .returned (.bool true) ∧ Below w.heap.size w w' := by
  have HA : Hid (StrsAt w a n w.heap.size f) := hA
  have HT : Hid (Tab w) := hT
  have HZ : Hid (Calls Tryd.prog 26 #[.slice a n c, .int .i64 1048576] w fun e w' => ∃ r : Int, e = .returned (.int .i64 r) ∧ (0 ≤ r → n ≤ 1048576 ∧ ∀ j, j < n → (f j).size ≤ 1048576) ∧ w = w') := szStringS_any a n c hn f hz w hA
  clear hA hT hz
  go_enter Tryd.func5, Tryd.ntmps5
  go_wp2_with fail
  refine HZ.out.mono ?_
  rintro e w0 ⟨r, rfl, hr, rfl⟩
  by_cases h0 : r < 0
  · clear hr
    go_wp2
    go_ret
    exact ⟨rfl, Below.refl _ _⟩
  obtain ⟨hn1, hs⟩ := hr (by omega)
  have HS : Hid (∀ j, j < n → (f j).size ≤ 1048576) := hs
  clear hr hs HZ
  go_wp2_with fail
  refine (toStringS_any a n c hn1 f _ HA.out).mono ?_
  rintro e w1 ⟨rfl, hR1, hb1⟩
  have HQ1 : Hid (StrsAt w1 (some ⟨w.heap.size, 0, none⟩) n w1.heap.size f) := hR1.strs hR1.lt
  have HB1 : Hid (Below w.heap.size w w1) := hb1
  clear hR1 hb1
  go_wp2_with fail
  refine (sRootOf_any _ n n hn f HS.out _ HQ1.out).mono ?_
  rintro e w2 ⟨rfl, hb2⟩
  have HB2 : Hid (Below w.heap.size w w2) := HB1.out.trans (hb2.mono HB1.out.size)
  clear hb2 HQ1 HB1
  have HI : Hid (∀ w' a', Tab w' → StrsAt w' a' n w'.heap.size f → Calls Tryd.prog 10 #[.slice a' n n] w' fun e w'' => e = .returned (.string (rootT digT (lst f n))) ∧ Below w'.heap.size w' w'') := fun w' a' h h' => iRootOf_any a' n n hn f HS.out w' h' h
  generalize rootT digT (lst f n) = RT at HI ⊢
  go_wp2_with fail
  refine (toStringS_any a n c hn1 f _ ((HA.out.on HB2.out).wide HB2.out.size)).mono ?_
  rintro e w3 ⟨rfl, hR3, hb3⟩
  have HR3 : Hid (RowT w3 w2.heap.size n f) := hR3
  have HB3 : Hid (Below w.heap.size w w3) := HB2.out.trans (hb3.mono HB2.out.size)
  clear hR3 hb3
  go_wp2_with fail
  refine (HI.out w3 _ (HT.out.on HB3.out HT.out.1) (HR3.out.strs HR3.out.lt)).mono ?_
  rintro e w4 ⟨rfl, hb4⟩
  have HR4 : Hid (RowT w4 w2.heap.size n f) := HR3.out.on hb4 HR3.out.lt
  have HB4 : Hid (Below w.heap.size w w4) := HB3.out.trans (hb4.mono HB3.out.size)
  clear hb4 HR3 HB3 HI
  go_wp2_with fail
  refine (toStringS_any a n c hn1 f _ ((HA.out.on HB4.out).wide HB4.out.size)).mono ?_
  rintro e w5 ⟨rfl, hR5, hb5⟩
  have HR5 : Hid (RowT w5 w4.heap.size n f) := hR5
  have HR6 : Hid (RowT w5 w2.heap.size n f) := HR4.out.on hb5 HR4.out.lt
  have HB5 : Hid (Below w.heap.size w w5) := HB4.out.trans (hb5.mono HB4.out.size)
  clear hR5 hb5 HR4 HB4
  go_wp2_with fail
  refine (eqStringS_any _ _ n n n hn1 f _ (HR6.out.strs HR6.out.lt) (HR5.out.strs HR5.out.lt)).mono ?_
  rintro e w6 ⟨rfl, hb6⟩
  have HB6 : Hid (Below w.heap.size w w6) := HB5.out.trans (hb6.mono HB5.out.size)
  clear hb6 HB5 HR5 HR6
  go_wp2
  go_ret
  exact ⟨rfl, HB6.out⟩

set_option maxHeartbeats 1600000 in
set_option maxRecDepth 100000 in
theorem lawFoldBranch (t : ByteArray) (i : Int) (a : Option Addr) (n c : Nat) (_ht : t.size ≤ maxLen) (_hi : (Lit.int .i64 i).wf = true) (hn : n ≤ 9223372036854775807) (f : Nat → ByteArray) (hz : ∀ j, j < n → (f j).size ≤ 9223372036854775807) (w : World) (hA : StrsAt w a n w.heap.size f) (hT : Tab w) :
    Calls Tryd.prog 7 #[.string t, .int .i64 i, .slice a n c] w fun e w' => e = .returned (.bool true) ∧ Below w.heap.size w w' := by
  by_cases hb : 1048576 < t.size
  · have hb' : (1048576 : Int) < (t.size : Int) := by omega
    clear hA hT hz
    go_enter Tryd.func7, Tryd.ntmps7
    go_wp2
    go_ret
    exact ⟨rfl, Below.refl _ _⟩
  have hb' : ¬ (1048576 : Int) < (t.size : Int) := by omega
  have ht : t.size ≤ 1048576 := by omega
  have HA : Hid (StrsAt w a n w.heap.size f) := hA
  have HT : Hid (Tab w) := hT
  have HZ : Hid (Calls Tryd.prog 26 #[.slice a n c, .int .i64 1048576] w fun e w' => ∃ r : Int, e = .returned (.int .i64 r) ∧ (0 ≤ r → n ≤ 1048576 ∧ ∀ j, j < n → (f j).size ≤ 1048576) ∧ w = w') := szStringS_any a n c hn f hz w hA
  clear hA hT hz
  go_enter Tryd.func7, Tryd.ntmps7
  go_wp2_with fail
  refine HZ.out.mono ?_
  rintro e w0 ⟨r, rfl, hr, rfl⟩
  by_cases h0 : r < 0
  · clear hr
    go_wp2
    go_ret
    exact ⟨rfl, Below.refl _ _⟩
  obtain ⟨hn1, hs⟩ := hr (by omega)
  have HS : Hid (∀ j, j < n → (f j).size ≤ 1048576) := hs
  clear hr hs HZ
  go_wp2_with fail
  refine (toStringS_any a n c hn1 f _ HA.out).mono ?_
  rintro e w1 ⟨rfl, hR1, hb1⟩
  have HQ1 : Hid (StrsAt w1 (some ⟨w.heap.size, 0, none⟩) n w1.heap.size f) := hR1.strs hR1.lt
  have HB1 : Hid (Below w.heap.size w w1) := hb1
  clear hR1 hb1
  go_wp2_with fail
  refine (sFold_any t ht i _ n n hn f HS.out _ HQ1.out).mono ?_
  rintro e w2 ⟨rfl, hb2⟩
  have HB2 : Hid (Below w.heap.size w w2) := HB1.out.trans (hb2.mono HB1.out.size)
  clear hb2 HQ1 HB1
  have HI : Hid (∀ w' a', Tab w' → StrsAt w' a' n w'.heap.size f → Calls Tryd.prog 13 #[.string t, .int .i64 i, .slice a' n n] w' fun e w'' => e = .returned (.string (foldT digT t i (lst f n))) ∧ Below w'.heap.size w' w'') := fun w' a' h h' => iFold_any t ht i a' n n hn f HS.out w' h' h
  generalize foldT digT t i (lst f n) = RT at HI ⊢
  go_wp2_with fail
  refine (toStringS_any a n c hn1 f _ ((HA.out.on HB2.out).wide HB2.out.size)).mono ?_
  rintro e w3 ⟨rfl, hR3, hb3⟩
  have HR3 : Hid (RowT w3 w2.heap.size n f) := hR3
  have HB3 : Hid (Below w.heap.size w w3) := HB2.out.trans (hb3.mono HB2.out.size)
  clear hR3 hb3
  go_wp2_with fail
  refine (HI.out w3 _ (HT.out.on HB3.out HT.out.1) (HR3.out.strs HR3.out.lt)).mono ?_
  rintro e w4 ⟨rfl, hb4⟩
  have HR4 : Hid (RowT w4 w2.heap.size n f) := HR3.out.on hb4 HR3.out.lt
  have HB4 : Hid (Below w.heap.size w w4) := HB3.out.trans (hb4.mono HB3.out.size)
  clear hb4 HR3 HB3 HI
  go_wp2_with fail
  refine (toStringS_any a n c hn1 f _ ((HA.out.on HB4.out).wide HB4.out.size)).mono ?_
  rintro e w5 ⟨rfl, hR5, hb5⟩
  have HR5 : Hid (RowT w5 w4.heap.size n f) := hR5
  have HR6 : Hid (RowT w5 w2.heap.size n f) := HR4.out.on hb5 HR4.out.lt
  have HB5 : Hid (Below w.heap.size w w5) := HB4.out.trans (hb5.mono HB4.out.size)
  clear hR5 hb5 HR4 HB4
  go_wp2_with fail
  refine (eqStringS_any _ _ n n n hn1 f _ (HR6.out.strs HR6.out.lt) (HR5.out.strs HR5.out.lt)).mono ?_
  rintro e w6 ⟨rfl, hb6⟩
  have HB6 : Hid (Below w.heap.size w w6) := HB5.out.trans (hb6.mono HB5.out.size)
  clear hb6 HB5 HR5 HR6
  go_wp2
  go_ret
  exact ⟨rfl, HB6.out⟩

theorem eqRow_any {B1 B2 : Nat} {w : World} {v u : Value} {l : List ByteArray} (h1 : RowS B1 w v l) (h2 : RowS B2 w u l) (hl : l.length ≤ 1048576) :
    Calls Tryd.prog 28 #[v, u] w fun e w' => e = .returned (.bool true) ∧ Below w.heap.size w w' := by
  obtain ⟨a, c1, rfl, s1⟩ := h1.strs
  obtain ⟨b, c2, rfl, s2⟩ := h2.strs
  exact eqStringS_any a b l.length c1 c2 hl _ w s1 s2

set_option maxHeartbeats 3200000 in
set_option maxRecDepth 100000 in
theorem lawBranchOf (a : Option Addr) (n c : Nat) (i : Int) (hn : n ≤ 9223372036854775807) (_hi : (Lit.int .i64 i).wf = true) (f : Nat → ByteArray) (hz : ∀ j, j < n → (f j).size ≤ 9223372036854775807) (w : World) (hA : StrsAt w a n w.heap.size f) (hT : Tab w) :
    Calls Tryd.prog 6 #[.slice a n c, .int .i64 i] w fun e w' => e = .returned (.bool true) ∧ Below w.heap.size w w' := by
  have HA : Hid (StrsAt w a n w.heap.size f) := hA
  have HT : Hid (Tab w) := hT
  have HZ : Hid (Calls Tryd.prog 26 #[.slice a n c, .int .i64 1048576] w fun e w' => ∃ r : Int, e = .returned (.int .i64 r) ∧ (0 ≤ r → n ≤ 1048576 ∧ ∀ j, j < n → (f j).size ≤ 1048576) ∧ w = w') := szStringS_any a n c hn f hz w hA
  clear hA hT hz
  go_enter Tryd.func6, Tryd.ntmps6
  go_wp2_with fail
  refine HZ.out.mono ?_
  rintro e w0 ⟨r, rfl, hr, rfl⟩
  by_cases h0 : r < 0
  · clear hr
    go_wp2
    go_ret
    exact ⟨rfl, Below.refl _ _⟩
  obtain ⟨hn1, hs⟩ := hr (by omega)
  have HS : Hid (∀ j, j < n → (f j).size ≤ 1048576) := hs
  clear hr hs HZ
  go_wp2_with fail
  refine (toStringS_any a n c hn1 f _ HA.out).mono ?_
  rintro e w1 ⟨rfl, hR1, hb1⟩
  have HQ1 : Hid (StrsAt w1 (some ⟨w.heap.size, 0, none⟩) n w1.heap.size f) := hR1.strs hR1.lt
  have HB1 : Hid (Below w.heap.size w w1) := hb1
  clear hR1 hb1
  go_wp2_with fail
  refine (sBranch_any _ n n hn i f HS.out _ HQ1.out).mono ?_
  rintro e w2 ⟨v0, rfl, hR2, hb2⟩
  have HB2 : Hid (Below w.heap.size w w2) := HB1.out.trans (hb2.mono HB1.out.size)
  have HI : Hid (∀ w' a', Tab w' → StrsAt w' a' n w'.heap.size f → Calls Tryd.prog 11 #[.slice a' n n, .int .i64 i] w' fun e w'' => ∃ v, e = .returned v ∧ RowS w'.heap.size w'' v (branchT digT (lst f n) i) ∧ Below w'.heap.size w' w'') := fun w' a' h h' => iBranch_any a' n n hn i f HS.out w' h' h
  have hBR : (branchT digT (lst f n) i).length ≤ 5 := branch_len _ _ _
  generalize branchT digT (lst f n) i = BR at HI hBR hR2
  have R02 : Hid (RowS w1.heap.size w2 v0 BR) := hR2
  have H0 : Hid (∀ k, v0.ownBlock = some k → k < w2.heap.size) := fun k hk => (hR2.lt k hk).2
  have hs01 : w.heap.size ≤ w1.heap.size := HB1.out.size
  have hs12 : w1.heap.size ≤ w2.heap.size := hb2.size
  clear hb2 HQ1 HB1 hR2
  go_wp2_with fail
  refine (toStringS_any a n c hn1 f _ ((HA.out.on HB2.out).wide HB2.out.size)).mono ?_
  rintro e w3 ⟨rfl, hR3, hb3⟩
  have X3 : Hid (RowT w3 w2.heap.size n f) := hR3
  have R03 : Hid (RowS w1.heap.size w3 v0 BR) := owns_on R02.out hb3
  have HB3 : Hid (Below w.heap.size w w3) := HB2.out.trans (hb3.mono HB2.out.size)
  have hs23 : w2.heap.size < w3.heap.size := hR3.lt
  clear hR3 hb3 R02 HB2
  go_wp2_with fail
  refine (HI.out w3 _ (HT.out.on HB3.out HT.out.1) (X3.out.strs X3.out.lt)).mono ?_
  rintro e w4 ⟨vg, rfl, hR4, hb4⟩
  have X4 : Hid (RowT w4 w2.heap.size n f) := X3.out.on hb4 X3.out.lt
  have R04 : Hid (RowS w1.heap.size w4 v0 BR) := owns_on R03.out hb4
  have G4 : Hid (RowS w3.heap.size w4 vg BR) := hR4
  have HB4 : Hid (Below w.heap.size w w4) := HB3.out.trans (hb4.mono HB3.out.size)
  have HG : Hid (∀ k, vg.ownBlock = some k → w3.heap.size ≤ k) := fun k hk => (hR4.lt k hk).1
  clear hR4 hb4 X3 R03 HB3
  go_wp2_with fail
  refine (eqRow_any G4.out R04.out (by omega)).mono ?_
  rintro e w5 ⟨rfl, hb5⟩
  have X5 : Hid (RowT w5 w2.heap.size n f) := X4.out.on hb5 X4.out.lt
  have R05 : Hid (RowS w1.heap.size w5 v0 BR) := owns_on R04.out hb5
  have G5 : Hid (RowS w3.heap.size w5 vg BR) := owns_on G4.out hb5
  have HB5 : Hid (Below w.heap.size w w5) := HB4.out.trans (hb5.mono HB4.out.size)
  clear hb5 X4 R04 G4 HB4
  go_wp2_with fail
  refine (toStringS_any a n c hn1 f _ ((HA.out.on HB5.out).wide HB5.out.size)).mono ?_
  rintro e w6 ⟨rfl, hR6, hb6⟩
  have Y6 : Hid (RowT w6 w5.heap.size n f) := hR6
  have X6 : Hid (RowT w6 w2.heap.size n f) := X5.out.on hb6 X5.out.lt
  have R06 : Hid (RowS w1.heap.size w6 v0 BR) := owns_on R05.out hb6
  have G6 : Hid (RowS w3.heap.size w6 vg BR) := owns_on G5.out hb6
  have HB6 : Hid (Below w.heap.size w w6) := HB5.out.trans (hb6.mono HB5.out.size)
  clear hR6 hb6 X5 R05 G5 HB5
  go_wp2_with fail
  refine (eqStringS_any _ _ n n n hn1 f _ (X6.out.strs X6.out.lt) (Y6.out.strs Y6.out.lt)).mono ?_
  rintro e w7 ⟨rfl, hb7⟩
  have X7 : Hid (RowT w7 w2.heap.size n f) := X6.out.on hb7 X6.out.lt
  have R07 : Hid (RowS w1.heap.size w7 v0 BR) := owns_on R06.out hb7
  have G7 : Hid (RowS w3.heap.size w7 vg BR) := owns_on G6.out hb7
  have HB7 : Hid (Below w.heap.size w w7) := HB6.out.trans (hb7.mono HB6.out.size)
  clear hb7 X6 Y6 R06 G6 HB6
  go_wp2_with fail
  refine (mark_any _ (lst f n) 1 w2.heap.size (by decide) (by decide) (by rw [lst_length]; exact hn1) w7 (X7.out.rowS (Nat.le_refl _) hn1)).mono ?_
  rintro e w8 ⟨rfl, _, hk8⟩
  rw [lst_length]
  have hne : ∀ k, (Value.slice (some ⟨w2.heap.size, 0, none⟩) n n).ownBlock = some k → k = w2.heap.size := fun k hk => by
    have : some w2.heap.size = some k := hk
    injection this with h
    exact h.symm
  have R08 : Hid (RowS w1.heap.size w8 v0 BR) := hk8.row R07.out fun k hk hs => by
    have h1 := H0.out k hk
    have h2 := hne k hs
    omega
  have G8 : Hid (RowS w3.heap.size w8 vg BR) := hk8.row G7.out fun k hk hs => by
    have h1 := HG.out k hk
    have h2 := hne k hs
    omega
  have HB8 : Hid (Below w.heap.size w w8) := hk8.bel HB7.out HB7.out.size fun k hs => by
    have h2 := hne k hs
    omega
  clear hk8 X7 R07 G7 HB7 hne
  have hk1 : ¬ ((1 + n : Nat) : Int) < 0 := by omega
  go_wp2_with fail
  refine (eqRow_any G8.out R08.out (by omega)).mono ?_
  rintro e w9 ⟨rfl, hb9⟩
  have R09 : Hid (RowS w1.heap.size w9 v0 BR) := owns_on R08.out hb9
  have G9 : Hid (RowS w3.heap.size w9 vg BR) := owns_on G8.out hb9
  have HB9 : Hid (Below w.heap.size w w9) := HB8.out.trans (hb9.mono HB8.out.size)
  clear hb9 R08 G8 HB8
  go_wp2_with fail
  refine (mark_any vg BR 1 w3.heap.size (by decide) (by decide) (by omega) w9 G9.out).mono ?_
  rintro e w10 ⟨rfl, hg10, hk10⟩
  have G10 : Hid (RowS w3.heap.size w10 vg (mks 1 BR.length)) := hg10
  have R10 : Hid (RowS w1.heap.size w10 v0 BR) := hk10.row R09.out fun k hk hs => by
    have h1 := H0.out k hk
    have h2 := HG.out k hs
    omega
  have HB10 : Hid (Below w.heap.size w w10) := hk10.bel HB9.out HB9.out.size fun k hs => by
    have h2 := HG.out k hs
    omega
  clear hg10 hk10 G9 R09 HB9
  go_wp2_with fail
  refine (held_any vg BR.length 1 w3.heap.size (by decide) (by decide) (by omega) w10 G10.out).mono ?_
  rintro e w11 ⟨rfl, hb11⟩
  have G11 : Hid (RowS w3.heap.size w11 vg (mks 1 BR.length)) := owns_on G10.out hb11
  have R11 : Hid (RowS w1.heap.size w11 v0 BR) := owns_on R10.out hb11
  have HB11 : Hid (Below w.heap.size w w11) := HB10.out.trans (hb11.mono HB10.out.size)
  clear hb11 G10 R10 HB10
  have hk2 : ¬ ((1 + BR.length : Nat) : Int) < 0 := by omega
  go_wp2_with fail
  refine (toStringS_any a n c hn1 f _ ((HA.out.on HB11.out).wide HB11.out.size)).mono ?_
  rintro e w12 ⟨rfl, hR12, hb12⟩
  have X12 : Hid (RowT w12 w11.heap.size n f) := hR12
  have G12 : Hid (RowS w3.heap.size w12 vg (mks 1 BR.length)) := owns_on G11.out hb12
  have R12 : Hid (RowS w1.heap.size w12 v0 BR) := owns_on R11.out hb12
  have HB12 : Hid (Below w.heap.size w w12) := HB11.out.trans (hb12.mono HB11.out.size)
  clear hR12 hb12 G11 R11 HB11
  go_wp2_with fail
  refine (HI.out w12 _ (HT.out.on HB12.out HT.out.1) (X12.out.strs X12.out.lt)).mono ?_
  rintro e w13 ⟨vh, rfl, hR13, hb13⟩
  have H13 : Hid (RowS w12.heap.size w13 vh BR) := hR13
  have G13 : Hid (RowS w3.heap.size w13 vg (mks 1 BR.length)) := owns_on G12.out hb13
  have R13 : Hid (RowS w1.heap.size w13 v0 BR) := owns_on R12.out hb13
  have HB13 : Hid (Below w.heap.size w w13) := HB12.out.trans (hb13.mono HB12.out.size)
  clear hR13 hb13 G12 R12 HB12 X12 HI
  go_wp2_with fail
  refine (eqRow_any H13.out R13.out (by omega)).mono ?_
  rintro e w14 ⟨rfl, hb14⟩
  have G14 : Hid (RowS w3.heap.size w14 vg (mks 1 BR.length)) := owns_on G13.out hb14
  have HB14 : Hid (Below w.heap.size w w14) := HB13.out.trans (hb14.mono HB13.out.size)
  clear hb14 H13 G13 R13 HB13
  go_wp2_with fail
  refine (held_any vg BR.length 1 w3.heap.size (by decide) (by decide) (by omega) w14 G14.out).mono ?_
  rintro e w15 ⟨rfl, hb15⟩
  have HB15 : Hid (Below w.heap.size w w15) := HB14.out.trans (hb15.mono HB14.out.size)
  clear hb15 G14 HB14
  go_wp2
  go_ret
  exact ⟨rfl, HB15.out⟩

end Go.Proofs.YtkiljlmihoaaaaaDoor
