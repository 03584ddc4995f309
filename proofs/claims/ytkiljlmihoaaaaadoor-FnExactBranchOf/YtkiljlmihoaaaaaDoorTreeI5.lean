/-
  The walks of the program's tree of hashes: the branch of a leaf.
  (-DROP-: what the seat lacks is left out.)
-/
import Derived.Test.YtkiljlmihoaaaaaDoorTreeI2
namespace Go.Proofs.YtkiljlmihoaaaaaDoor
open Go.RowKit

/-- What the loop of the branch needs. -/
structure BrI (w wr : World) (o : Value) (g N : Nat) (br l : List ByteArray) (j i : Nat) (RES : List ByteArray) : Prop where
  out : RowS w.heap.size wr o br
  now : LevAt wr g N l
  apart : o.ownBlock ≠ some g
  bel : Below w.heap.size w wr
  len : l.length = 2 ^ j
  few : br.length + j ≤ 5
  lt : i < 2 ^ j
  res : RES = br ++ brL digT j l i
  sizes : ∀ k, k < l.length → (l.getD k noT).size ≤ 1048576

set_option maxHeartbeats 400000 in
set_option maxRecDepth 100000 in
theorem iBranch_any (a : Option Addr) (n cp : Nat) (hm : n ≤ 9223372036854775807) (i : Int) (f : Nat → ByteArray) (hs : ∀ j, j < n → (f j).size ≤ 1048576) (w : World) (hA : StrsAt w a n w.heap.size f) (hT : Tab w) :
    Calls Tryd.prog 11 #[.slice a n cp, .int .i64 i] w fun e w' => ∃ v, e = .returned v ∧ RowS w.heap.size w' v (branchT digT (lst f n) i) ∧ Below w.heap.size w w' := by
  obtain ⟨i0, hi, hz0, hz1, hz2⟩ := info_parts info9T
  by_cases hok : n ≤ 32 ∧ 0 ≤ i ∧ i < (n : Int)
  · obtain ⟨m, rfl⟩ : ∃ m : Nat, i = (m : Int) := ⟨i.toNat, by omega⟩
    have hn : n ≤ 32 := hok.1
    have hn' : ¬ (32 : Int) < (n : Int) := by omega
    have hi0 : ¬ (m : Int) < 0 := by omega
    have hi1 : ¬ (n : Int) ≤ (m : Int) := by omega
    have hb0 : Below w.heap.size w (w.alloc (.cells #[] 9)) := (Below.refl _ _).alloc (Nat.le_refl _) _
    have HH : Hid (Calls Tryd.prog 34 #[.slice a n cp] (w.alloc (.cells #[] 9)) fun e w' => e = .returned (.slice (some ⟨w.heap.size + 1, 0, none⟩) (hashL digT (lst f n)).length (hashL digT (lst f n)).length) ∧ LevAt w' (w.heap.size + 1) (hashL digT (lst f n)).length (hashL digT (lst f n)) ∧ Below (w.heap.size + 1) (w.alloc (.cells #[] 9)) w') := by
      have h := iLow_any a n cp hn f hs (w.alloc (.cells #[] 9)) ((hA.on hb0).wide hb0.size) (hT.on hb0 hT.1)
      rw [World.size_alloc] at h
      exact h
    have HT : Hid (Tab w) := hT
    have HL : Hid ((hashL digT (lst f n)).length = 2 ^ lvN n) := by
      have := hashL_length (D := digT) (l := lst f n) (by rw [lst_length]; exact hn)
      rw [lst_length] at this
      exact this
    have HS : Hid (∀ j, j < (hashL digT (lst f n)).length → ((hashL digT (lst f n)).getD j noT).size ≤ 1048576) := hash_sizes _
    have HR : Hid (branchT digT (lst f n) (m : Int) = brL digT (lvN n) (hashL digT (lst f n)) m) := by
      show branchT digT (lst f n) (m : Int) = _
      unfold branchT
      rw [lst_length, if_pos hok]
      rfl
    have hL5 := lvN_le n
    have HM : Hid (m < 2 ^ lvN n) := Nat.lt_of_lt_of_le (by omega) (lvN_pow hn)
    generalize hashL digT (lst f n) = H at HH HL HS HR
    generalize branchT digT (lst f n) (m : Int) = RES at HR ⊢
    generalize lvN n = L at HL HR hL5 HM
    obtain ⟨N, hN⟩ : ∃ N, N = H.length := ⟨_, rfl⟩
    rw [← hN] at HH
    have HN : Hid (N = H.length) := hN
    clear hA hs hok hT hN hb0
    go_enter Tryd.func11, Tryd.ntmps11
    go_wp2_with fail
    refine HH.out.mono ?_
    rintro e w1 ⟨rfl, hR1, hb1⟩
    have H0 : Hid (N = H.length ∧ BrI w w1 (.slice (some ⟨w.heap.size, 0, none⟩) 0 0) (w.heap.size + 1) N [] H L m RES) := by
      refine ⟨HN.out, ⟨?_, hR1, ?_, ?_, HL.out, by simpa using hL5, HM.out, HR.out, HS.out⟩⟩
      · exact owns_on (w := w.alloc (.cells #[] 9)) (World.ownsRow_lit _ _ _ (Nat.le_refl _) (by simp [maxLen]) (by simp)) (by rw [World.size_alloc]; exact hb1)
      · show some w.heap.size ≠ some (w.heap.size + 1)
        simp
      · exact ((Below.refl _ _).alloc (Nat.le_refl _) _).trans (hb1.mono (by omega))
    clear hR1 hb1 HL HR HS HH HN HM
    go_wp2
    go_loopw [5, 6, 7] (fun o v p wr => ∃ (o2 : Value) (br l : List ByteArray) (j q mm c : Nat), o2 = o ∧ v = .slice (some ⟨w.heap.size + 1, 0, none⟩) mm c ∧ p = .int .i64 (q : Int) ∧ mm ≤ c ∧ Hid (mm = l.length ∧ BrI w wr o2 (w.heap.size + 1) N br l j q RES)) (fun _ v _ _ => slLen v)
    case atStart => exact ⟨_, [], H, L, m, N, N, rfl, rfl, rfl, Nat.le_refl _, H0⟩
    case round =>
      obtain ⟨o, br, l, j, q, mm, c, rfl, rfl, rfl, hmc, HD⟩ := hrel
      clear H0
      have hml := HD.out.1
      have hlen := HD.out.2.len
      by_cases h0 : j = 0
      · subst h0
        have hone : mm = 1 := by rw [hml]; exact hlen
        subst hone
        have HE : Hid (RowS w.heap.size wr o RES) := by
          show RowS w.heap.size wr o RES
          rw [HD.out.2.res]
          show RowS w.heap.size wr o (br ++ [])
          rw [List.append_nil]
          exact HD.out.2.out
        have hB := HD.out.2.bel
        clear HD hlen hml
        go_wp2
        go_ret
        exact ⟨_, rfl, HE.out, hB⟩
      · obtain ⟨k, rfl⟩ : ∃ k, j = k + 1 := ⟨j - 1, by omega⟩
        have hp : 2 ^ (k + 1) ≤ 32 := by
          have : 2 ^ (k + 1) ≤ 2 ^ 5 := Nat.pow_le_pow_right (by decide) (by have := HD.out.2.few; omega)
          omega
        have hp2 : 0 < 2 ^ k := Nat.pow_pos (by decide)
        have hps : 2 ^ (k + 1) = 2 * 2 ^ k := by rw [Nat.pow_succ]; omega
        have hm2 := HD.out.2.lt
        have hbs : beside q < l.length := by rw [hlen]; unfold beside; split <;> omega
        have hgt : (1 : Int) < (mm : Int) := by omega
        have hz := HD.out.2.now.cell hbs
        have hx := beside_xor (i := q) (by omega)
        have hbi : ((beside q : Nat) : Int) < (mm : Int) := by omega
        have hb0 : (0 : Int) ≤ ((beside q : Nat) : Int) := by omega
        have hown := HD.out.2.out
        have hm63 : br.length + 1 ≤ maxLen := by have := HD.out.2.few; unfold maxLen; omega
        have hm47 : (br.length + 1) * 16 ≤ 140737488355328 := by have := HD.out.2.few; omega
        have hqt : Int.tdiv (q : Int) 2 = ((q / 2 : Nat) : Int) := by rw [Int.tdiv_eq_ediv_of_nonneg (by omega)]; omega
        have hww : wrap64 ((q : Int) / 2) = ((q / 2 : Nat) : Int) := by
          rw [IntWalk.wrap64_in _ (by omega)]
          omega
        have hsz : w.heap.size ≤ wr.heap.size := HD.out.2.bel.size
        have hfew := HD.out.2.few
        have hf1 : br.length + 1 + k ≤ 5 := by omega
        have hf2 : q / 2 < 2 ^ k := half_lt hm2
        have hf3 := up_half digT (l := l) (k := k) hlen
        have HF : Hid (br.length + 1 + k ≤ 5 ∧ q / 2 < 2 ^ k ∧ (upL digT l).length = 2 ^ k ∧ (upL digT l).length < mm) := And.intro hf1 (And.intro hf2 (by rw [hml]; exact hf3))
        clear hfew hf1 hf2 hf3
        have HRS : Hid (RES = (br ++ [l.getD (beside q) noT]) ++ brL digT k (upL digT l) (q / 2)) := by
          show RES = _
          rw [HD.out.2.res, br_next, List.append_assoc, List.singleton_append]
        have HUP : Hid (∀ w7, Tab w7 → LevAt w7 (w.heap.size + 1) N l → Calls Tryd.prog 35 #[.slice (some ⟨w.heap.size + 1, 0, none⟩) mm c] w7 fun e w' => e = .returned (.slice (some ⟨w.heap.size + 1, 0, none⟩) (upL digT l).length (upL digT l).length) ∧ LevAt w' (w.heap.size + 1) N (upL digT l) ∧ Kps (fun k => k = w.heap.size + 1) w7 w') := fun w7 h6 h7 => by
          have h := iAbove_any l (w.heap.size + 1) N c (by omega) (by omega) HD.out.2.sizes (by omega) w7 h7 h6
          rw [hml]
          exact h
        have HZ : Hid (∀ j, j < (upL digT l).length → ((upL digT l).getD j noT).size ≤ 1048576) := up_size
        generalize l.getD (beside q) noT = d at hz HRS
        generalize upL digT l = l2 at HUP HF HRS HZ
        generalize beside q = bs at hx hbi hb0 hz hbs
        have HLV : Hid (LevAt wr (w.heap.size + 1) N l) := HD.out.2.now
        have HAP : Hid (o.ownBlock ≠ some (w.heap.size + 1)) := HD.out.2.apart
        have HB : Hid (Below w.heap.size w wr) := HD.out.2.bel
        obtain ⟨m2, hm3⟩ : ∃ m2, m2 = l2.length := ⟨_, rfl⟩
        rw [← hm3] at HUP
        have HE2 : Hid (m2 = l2.length) := hm3
        clear hlen hps hp hp2 hm2 hbs hml HD hm3
        have hgl : w.heap.size + 1 < wr.heap.size := HLV.out.lt
        go_wp2_with (at_builtin; refine wpList_append_own_at _ rfl _ _ 24 rfl w.heap.size 9 i0 (.string ⟨#[]⟩) 1 16 Tryd.underlying24 hi hz0 hz1 hz2 rfl (by decide) _ _ _ rfl (hown.alloc _) ⟨wr.heap.size, 0, none⟩ 1 1 [.string d] rfl rfl (cell_one_new _ _ _) (one_str _) hm63 hm47 (room_for hsz _) ?_)
        intro v' w7 hown' hgrow _ hblk
        have H7 : Hid (RowS w.heap.size w7 v' (br ++ [d]) ∧ Below w.heap.size w w7) := ⟨RowS.push hown', (HB.out.alloc HB.out.size _).grown hgrow (by simp; omega) (fun k hk => (hown.lt k hk).1)⟩
        have hn7 : LevAt w7 (w.heap.size + 1) N l := LevAt.grown (HLV.out.on (Below.alloc (Below.refl _ _) (Nat.le_refl _) _) hgl) hgrow HAP.out
        have HAP7 : Hid (v'.ownBlock ≠ some (w.heap.size + 1)) := by
          rcases hblk with e | e
          · rw [e]; exact HAP.out
          · rw [e]
            show some _ ≠ some _
            simp
            omega
        have HUP7 : Hid (Calls Tryd.prog 35 #[.slice (some ⟨w.heap.size + 1, 0, none⟩) mm c] w7 fun e w' => e = .returned (.slice (some ⟨w.heap.size + 1, 0, none⟩) m2 m2) ∧ LevAt w' (w.heap.size + 1) N l2 ∧ Kps (fun k => k = w.heap.size + 1) w7 w') := HUP.out w7 (HT.out.on H7.out.2 HT.out.1) hn7
        clear hown' hgrow hown HB HLV HAP hn7 HUP hblk hz
        go_wp2_with fail
        refine HUP7.out.mono ?_
        rintro e w8 ⟨rfl, hR2, hk2⟩
        have H8 : Hid (m2 = l2.length ∧ BrI w w8 v' (w.heap.size + 1) N (br ++ [d]) l2 k (q / 2) RES) := by
          refine ⟨HE2.out, ⟨hk2.row H7.out.1 (fun k hk e => HAP7.out (by rw [hk, e])), hR2, HAP7.out, hk2.bel H7.out.2 H7.out.2.size (fun k e => by omega), HF.out.2.2.1, by rw [List.length_append]; exact HF.out.1, HF.out.2.1, HRS.out, HZ.out⟩⟩
        have HMS : Hid (m2 < mm) := by
          show m2 < mm
          rw [HE2.out]
          exact HF.out.2.2.2
        clear H7 HUP7 hR2 hk2 HF HRS HZ HE2 HAP7
        go_wp2
        go_roundw
        case rel => exact ⟨v', br ++ [d], l2, k, q / 2, m2, m2, rfl, rfl, by first | rfl | rw [hww], Nat.le_refl _, H8⟩
        case measure => exact HMS.out
  · have HR : Hid (branchT digT (lst f n) i = []) := by
      show branchT digT (lst f n) i = []
      unfold branchT
      rw [lst_length, if_neg hok]
    generalize branchT digT (lst f n) i = RES at HR ⊢
    clear hA hs hT
    by_cases hi0 : i < 0
    · clear hok
      go_enter Tryd.func11, Tryd.ntmps11
      go_wp2
      go_ret
      exact ⟨_, rfl, by rw [HR.out]; exact World.ownsRow_lit _ _ _ (Nat.le_refl _) (by simp [maxLen]) (by simp), (Below.refl _ _).alloc (Nat.le_refl _) _⟩
    · by_cases hi1 : (n : Int) ≤ i
      · clear hok
        go_enter Tryd.func11, Tryd.ntmps11
        go_wp2
        go_ret
        exact ⟨_, rfl, by rw [HR.out]; exact World.ownsRow_lit _ _ _ (Nat.le_refl _) (by simp [maxLen]) (by simp), (Below.refl _ _).alloc (Nat.le_refl _) _⟩
      · have hn' : (32 : Int) < (n : Int) := by omega
        clear hok
        go_enter Tryd.func11, Tryd.ntmps11
        go_wp2
        go_ret
        exact ⟨_, rfl, by rw [HR.out]; exact World.ownsRow_lit _ _ _ (Nat.le_refl _) (by simp [maxLen]) (by simp), (Below.refl _ _).alloc (Nat.le_refl _) _⟩

end Go.Proofs.YtkiljlmihoaaaaaDoor
