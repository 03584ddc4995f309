/-
  The walk of rho and pi.
-/
import Derived.Test.YtkmelamfohfdkabDoorJoined30
namespace Go.Proofs.YtkmelamfohfdkabDoor
open Go.RowKit

set_option maxHeartbeats 3200000 in
set_option maxRecDepth 100000 in
theorem rhoPi_any (f : Nat → BitVec 64) (w : World) :
    Calls Tryd.prog 74 #[.agg (sc f 25)] w fun e w' => e = .returned (.agg (sc (rhoPi f) 25)) ∧ Below w.heap.size w w' := by
  obtain ⟨b1, HB1⟩ : ∃ b, Hid (b = w.heap.size) := ⟨_, rfl⟩
  obtain ⟨b2, HB2⟩ : ∃ b, Hid (b = w.heap.size + 1) := ⟨_, rfl⟩
  obtain ⟨b3, HB3⟩ : ∃ b, Hid (b = w.heap.size + 1 + 1) := ⟨_, rfl⟩
  obtain ⟨b4, HB4⟩ : ∃ b, Hid (b = w.heap.size + 1 + 1 + 1) := ⟨_, rfl⟩
  obtain ⟨b5, HB5⟩ : ∃ b, Hid (b = w.heap.size + 1 + 1 + 1 + 1) := ⟨_, rfl⟩
  have hX1 : At ((w.alloc (.cells (sc f 25) 78)).alloc (.cells (sc zf 25) 78)) w.heap.size 78 25 f := (At.new _ _ _ _).alloc _
  have hX3 : At (((w.alloc (.cells (sc f 25) 78)).alloc (.cells (sc zf 25) 78)).alloc (.cells (sc zf 25) 78)) (w.heap.size + 1 + 1) 78 25 zf := At.new' (by rw [size_alloc, size_alloc]) rfl
  have hX2 : At (((w.alloc (.cells (sc f 25) 78)).alloc (.cells (sc zf 25) 78)).alloc (.cells (sc zf 25) 78)) (w.heap.size + 1) 78 25 zf := At.alloc (At.new' (by rw [size_alloc]) rfl) _
  have HX1 : Hid (At (((w.alloc (.cells (sc f 25) 78)).alloc (.cells (sc zf 25) 78)).alloc (.cells (sc zf 25) 78)) w.heap.size 78 25 f) := hX1.alloc _
  have HX2 : Hid (At (((w.alloc (.cells (sc f 25) 78)).alloc (.cells (sc zf 25) 78)).alloc (.cells (sc zf 25) 78)) (w.heap.size + 1) 78 25 zf) := hX2
  have HBL : Hid (Below w.heap.size w (((w.alloc (.cells (sc f 25) 78)).alloc (.cells (sc zf 25) 78)).alloc (.cells (sc zf 25) 78))) := by
    show Below _ _ _
    refine Below.alloc (Below.alloc (Below.alloc (Below.refl _ _) (Nat.le_refl _) _) ?_ _) ?_ _ <;> (simp only [size_alloc]; omega)
  clear hX2
  go_enter Tryd.func74, Tryd.ntmps74
  go_wp2_with (first | (refine load_at rfl rfl rfl hX1 Tryd.underlying78 infoS ?_) | (refine store_to rfl rfl rfl rfl hX3 infoS ?_; intro w3 hA3 hk3 hs3 hl3))
  clear hX1 hX3
  have hs3' : w3.heap.size = w.heap.size + 1 + 1 + 1 := by rw [hs3]; simp only [size_alloc]
  have hA1 : At w3 w.heap.size 78 25 f := (hk3 _ (by omega)).trans HX1.out
  have hA2 : At w3 (w.heap.size + 1) 78 25 zf := (hk3 _ (by omega)).trans HX2.out
  have hbel : Below w.heap.size w w3 := hl3 _ _ (by omega) HBL.out
  rw [← HB5.out, ← HB4.out, ← HB3.out, ← HB2.out, ← HB1.out]
  go_loopw [6, 7] (fun tn st wr => ∃ k : Nat, st = .int .i64 ((k : Int) + 1) ∧ k ≤ 23 ∧ tn = .int .i64 (tri k : Int) ∧ At wr b1 78 25 f ∧ At wr b2 78 25 zf ∧ At wr b3 78 25 (rpK f k) ∧ PlaceAt wr b4 1 0 ∧ PlaceAt wr b5 (placeN k).1 (placeN k).2 ∧ Below b1 w wr) (fun _ st _ => 24 - (intOf st).toNat)
  case atStart =>
    have e1 := HB1.out
    have e2 := HB2.out
    have e3 := HB3.out
    have e4 := HB4.out
    have e5 := HB5.out
    refine ⟨0, rfl, by omega, rfl, ?_, ?_, ?_, ?_, ?_, ?_⟩
    · rw [e1]; exact (hA1.alloc _).alloc _
    · rw [e2]; exact (hA2.alloc _).alloc _
    · rw [e3]; exact (hA3.alloc _).alloc _
    · exact PlaceAt.alloc (PlaceAt.new (by rw [hs3', e4])) _
    · exact PlaceAt.new (by rw [size_alloc, hs3', e5])
    · rw [e1]; exact (hbel.alloc hbel.size _).alloc (by rw [size_alloc]; have := hbel.size; omega) _
  case round =>
    clear hA1 hA2 hA3 hk3 hs3 hl3 hs3' hbel HX1 HX2 HBL
    obtain ⟨k, rfl, hk, rfl, hA1, hA2, hA3, hP4, hP5, hbel⟩ := hrel
    have htr := tri_le k (by omega)
    have hp := placeN_lt k
    have HM : Hid (∀ w, Calls Tryd.prog 77 #[.agg (pl (placeN k).1 (placeN k).2)] w fun e w' => e = .returned (.agg (pl (placeN (k + 1)).1 (placeN (k + 1)).2)) ∧ w' = (w.alloc (.cells (pl (placeN k).1 (placeN k).2) 89)).alloc (.cells (pl (placeN (k + 1)).1 (placeN (k + 1)).2) 89)) := fun w => moved_any _ _ hp.1 hp.2 w
    have hp' := placeN_lt (k + 1)
    have HXI : Hid ((placeN k).1 + 5 * (placeN k).2 = idxN k) := rfl
    have HXI' : Hid ((placeN (k + 1)).1 + 5 * (placeN (k + 1)).2 = idxN (k + 1)) := rfl
    have HE : Hid (placeN (k + 1) = (1, 0) ↔ k = 23) := placeN_end k (by omega)
    have HT : Hid ((tri k : Int) + ((k : Int) + 1) = (tri (k + 1) : Int)) := by
      show (tri k : Int) + ((k : Int) + 1) = (tri (k + 1) : Int)
      rw [tri]; omega
    have htr1 := tri_le (k + 1) (by omega)
    have HK : Hid (rpK f (k + 1) = upd (rpK f k) (idxN (k + 1)) (rotl (f (idxN k)) (tri (k + 1) % 64))) := rfl
    have hi := idxN_lt k
    have hi' := idxN_lt (k + 1)
    have HEN : Hid (k ≠ 23 → (placeN (k + 1)).1 = 1 → (placeN (k + 1)).2 = 0 → False) := fun h h1 h2 => h (HE.out.1 (Prod.ext h1 h2))
    have HEY : Hid (k = 23 → (placeN (k + 1)).1 = 1 ∧ (placeN (k + 1)).2 = 0) := fun h => by rw [HE.out.2 h]; exact ⟨rfl, rfl⟩
    have HP' : Hid (∀ W g, PlaceAt W g (placeN (k + 1)).1 (placeN (k + 1)).2 → PlaceAt W g (placeN (k + 1)).1 (placeN (k + 1)).2) := fun _ _ h => h
    have HTT : Hid (∀ n, tri (k + 1) = n → tri (k + 1) = n) := fun _ h => h
    have HR : Hid (∀ W g, At W g 78 25 (upd (rpK f k) (idxN (k + 1)) (rotl (f (idxN k)) (tri (k + 1) % 64))) → At W g 78 25 (rpK f (k + 1))) := fun _ _ h => h
    clear HE HK
    generalize (placeN k).1 = x at *
    generalize (placeN k).2 = y at *
    generalize hgx : (placeN (k + 1)).1 = x' at *
    generalize hgy : (placeN (k + 1)).2 = y' at *
    generalize idxN k = i at *
    generalize idxN (k + 1) = i' at *
    generalize tri k = T at *
    generalize hgt : tri (k + 1) = T' at *
    have HGX : Hid ((placeN (k + 1)).1 = x') := hgx
    have HGY : Hid ((placeN (k + 1)).2 = y') := hgy
    have HGT : Hid (tri (k + 1) = T') := hgt
    clear hgx hgy hgt
    simp only [pl] at HM
    have HX5 := hp.1
    have HY5 := hp.2
    have HX5' := hp'.1
    have HY5' := hp'.2
    have hxi := HXI.out
    have hxi' := HXI'.out
    have hTT := HT.out
    have hc50 := hP5.c0
    have hc51 := hP5.c1
    have HS : Hid (b1 < wr.heap.size ∧ b2 < wr.heap.size ∧ b3 < wr.heap.size ∧ b4 < wr.heap.size ∧ b5 < wr.heap.size) := ⟨hA1.lt, hA2.lt, hA3.lt, hP4.lt, hP5.lt⟩
    go_wp2_with ((go_at_call 77; refine (HM.out _).mono ?_; rintro e w1 ⟨rfl, rfl⟩))
    obtain ⟨W, hW⟩ : ∃ W, W = ((wr.alloc (.cells #[.int .i64 (x : Int), .int .i64 (y : Int)] 89)).alloc (.cells #[.int .i64 (x' : Int), .int .i64 (y' : Int)] 89)).alloc (.cells #[.int .i64 (x' : Int), .int .i64 (y' : Int)] 89) := ⟨_, rfl⟩
    obtain ⟨b8, hb8⟩ : ∃ b, b = wr.heap.size + 1 + 1 := ⟨_, rfl⟩
    rw [← hW, ← hb8]
    have hB1 : At W b1 78 25 f := by rw [hW]; exact ((hA1.alloc _).alloc _).alloc _
    have hB2 : At W b2 78 25 zf := by rw [hW]; exact ((hA2.alloc _).alloc _).alloc _
    have hB3 : At W b3 78 25 (rpK f k) := by rw [hW]; exact ((hA3.alloc _).alloc _).alloc _
    have hQ4 : PlaceAt W b4 1 0 := by rw [hW]; exact ((hP4.alloc _).alloc _).alloc _
    have hQ5 : PlaceAt W b5 x y := by rw [hW]; exact ((hP5.alloc _).alloc _).alloc _
    have hne8 : b3 ≠ b8 := by have := HS.out; omega
    have hQ8 : PlaceAt W b8 x' y' := by rw [hW]; exact PlaceAt.new (by rw [hb8, size_alloc, size_alloc])
    have hbW : Below b1 w W := by
      rw [hW]
      have := HS.out.1
      refine Below.alloc (Below.alloc (Below.alloc hbel (by omega) _) ?_ _) ?_ _ <;> (simp only [size_alloc]; omega)
    clear hA1 hA2 hA3 hP4 hP5 hbel hW hb8 HS hc50 hc51
    have hc50 := hQ5.c0
    have hc51 := hQ5.c1
    have hc80 := hQ8.c0
    have hc81 := hQ8.c1
    have hl5 := hQ5.lt
    have hl8 := hQ8.lt
    have hl1 := hB1.lt
    have hl3 := hB3.lt
    have hc1 := hB1.cell i hi
    have hc3 := hB3.cell i' hi'
    have hf3 := hB3.free i'
    have hi0 : (i : Int) < 25 := by omega
    have hi0' : (i' : Int) < 25 := by omega
    have hl1' : b1 < W.heap.size + 1 := by omega
    have hl3' : b3 < W.heap.size + 1 := by omega
    obtain ⟨r, hr⟩ : ∃ r, r = T' % 64 := ⟨_, rfl⟩
    have hr1 : (T' : Int) % 64 = (r : Int) := by omega
    have hr2 : Int.tmod (T' : Int) 64 = (r : Int) := by rw [Int.tmod_eq_emod_of_nonneg (by omega)]; exact hr1
    have HRT : Hid (∀ x w, Calls Tryd.prog 76 #[.int .u64 (wv x), .int .i64 (r : Int)] w fun e w' => e = .returned (.int .u64 (wv (rotl x r))) ∧ w = w') := fun x w => turn_any x r (by omega) w
    rw [← hr] at HR
    have HW : Hid (At (((W.setCell ⟨b3, i', none⟩ (.int .u64 (wv (rotl (f i) r)))).alloc (.cells #[.int .i64 (x' : Int), .int .i64 (y' : Int)] 89)).alloc (.cells #[.int .i64 (x : Int), .int .i64 (y : Int)] 89)).drew b1 78 25 f ∧
        At (((W.setCell ⟨b3, i', none⟩ (.int .u64 (wv (rotl (f i) r)))).alloc (.cells #[.int .i64 (x' : Int), .int .i64 (y' : Int)] 89)).alloc (.cells #[.int .i64 (x : Int), .int .i64 (y : Int)] 89)).drew b2 78 25 zf ∧
        At (((W.setCell ⟨b3, i', none⟩ (.int .u64 (wv (rotl (f i) r)))).alloc (.cells #[.int .i64 (x' : Int), .int .i64 (y' : Int)] 89)).alloc (.cells #[.int .i64 (x : Int), .int .i64 (y : Int)] 89)).drew b3 78 25 (rpK f (k + 1)) ∧
        PlaceAt (((W.setCell ⟨b3, i', none⟩ (.int .u64 (wv (rotl (f i) r)))).alloc (.cells #[.int .i64 (x' : Int), .int .i64 (y' : Int)] 89)).alloc (.cells #[.int .i64 (x : Int), .int .i64 (y : Int)] 89)).drew b4 1 0 ∧
        PlaceAt (((W.setCell ⟨b3, i', none⟩ (.int .u64 (wv (rotl (f i) r)))).alloc (.cells #[.int .i64 (x' : Int), .int .i64 (y' : Int)] 89)).alloc (.cells #[.int .i64 (x : Int), .int .i64 (y : Int)] 89)).drew b5 x y ∧
        PlaceAt (((W.setCell ⟨b3, i', none⟩ (.int .u64 (wv (rotl (f i) r)))).alloc (.cells #[.int .i64 (x' : Int), .int .i64 (y' : Int)] 89)).alloc (.cells #[.int .i64 (x : Int), .int .i64 (y : Int)] 89)).drew b8 x' y' ∧
        Below b1 w (((W.setCell ⟨b3, i', none⟩ (.int .u64 (wv (rotl (f i) r)))).alloc (.cells #[.int .i64 (x' : Int), .int .i64 (y' : Int)] 89)).alloc (.cells #[.int .i64 (x : Int), .int .i64 (y : Int)] 89)).drew) := by
      have e1 := HB1.out
      have e2 := HB2.out
      have e3 := HB3.out
      have e4 := HB4.out
      have e5 := HB5.out
      have hsz : (W.setCell ⟨b3, i', none⟩ (.int .u64 (wv (rotl (f i) r)))).heap.size = W.heap.size := by simp
      refine ⟨((hB1.other (by omega) _).alloc _).alloc _, ((hB2.other (by omega) _).alloc _).alloc _, HR.out _ _ (((hB3.set i' _).alloc _).alloc _), ((hQ4.other (by omega) _).alloc _).alloc _, ((hQ5.other (by omega) _).alloc _).alloc _, ((hQ8.other hne8 _).alloc _).alloc _, ?_⟩
      refine Below.drew (Below.alloc (Below.alloc (hbW.setCell (by show b1 ≤ b3; omega) _) ?_ _) ?_ _)
      · rw [hsz]; omega
      · rw [size_alloc, hsz]; omega
    clear hr hB1 hB2 hB3 hQ4 hQ5 hQ8 hbW HR
    go_region_with (first | (go_at_call 78; refine (index_of _ _ _ (by assumption) (by assumption) (by assumption) _).mono ?_; rintro e w1 ⟨rfl, rfl⟩) | (go_at_call 76; refine (HRT.out _ _).mono ?_; rintro e w1 ⟨rfl, rfl⟩))
    all_goals
      generalize (((W.setCell ⟨b3, i', none⟩ (.int .u64 (wv (rotl (f i) r)))).alloc (.cells #[.int .i64 (x' : Int), .int .i64 (y' : Int)] 89)).alloc (.cells #[.int .i64 (x : Int), .int .i64 (y : Int)] 89)).drew = V at HW ⊢
      obtain ⟨hV1, hV2, hV3, hV4, hV5, hV8, hbV⟩ := HW.out
      clear HW hc50 hc51 hc80 hc81 hl5 hl8 hl1 hl3 hc1 hc3 hf3 hl1' hl3' hxi hxi' hTT
      have hsp := same_place x' y'
      by_cases hz : k = 23
      · have hxy := HEY.out hz
        have hbo : (((x' : Int) == 1) && ((y' : Int) == 0)) = true := by rw [hxy.1, hxy.2]; rfl
        rw [hbo] at hsp
        have HE : Hid (rpK f (k + 1) = rhoPi f) := by show rpK f (k + 1) = rhoPi f; rw [hz]; rfl
        have HB12 : Hid (b1 ≤ b2) := (show b1 ≤ b2 by have := HB1.out; have := HB2.out; omega)
        clear hxy hbo hz
        go_wp2_with (first | (refine load_place rfl rfl rfl hV8 ?_) | (refine load_place rfl rfl rfl hV4 ?_) | (refine load_at rfl rfl rfl hV3 Tryd.underlying78 infoS ?_) | (refine store_at rfl rfl rfl rfl hV2 infoS ?_))
        (try simp only [Exit.inBlock, Exit.then])
        refine bodyPost_ret_by (result_at rfl rfl (hV2.row _) Tryd.underlying78 infoS) rfl ⟨by rw [HE.out], ?_⟩
        rw [← HB1.out]
        exact below_row hbV HB12.out _
      · have hbo : (((x' : Int) == 1) && ((y' : Int) == 0)) = false := by
          rw [Bool.eq_false_iff]
          intro h
          rw [Bool.and_eq_true, beq_iff_eq, beq_iff_eq] at h
          exact HEN.out hz (by omega) (by omega)
        rw [hbo] at hsp
        have HK23 : Hid (k + 1 ≤ 23) := (show k + 1 ≤ 23 by omega)
        have HNE : Hid (b5 ≠ b1 ∧ b5 ≠ b2 ∧ b5 ≠ b3 ∧ b5 ≠ b4 ∧ b1 ≤ b5) := (show b5 ≠ b1 ∧ b5 ≠ b2 ∧ b5 ≠ b3 ∧ b5 ≠ b4 ∧ b1 ≤ b5 by have := HB1.out; have := HB2.out; have := HB3.out; have := HB4.out; have := HB5.out; omega)
        clear hbo hz
        go_wp2_with (first | (refine load_place rfl rfl rfl hV8 ?_) | (refine load_place rfl rfl rfl hV4 ?_) | (refine store_place rfl rfl rfl rfl hV5 ?_; intro w9 hP9 hk9 hl9))
        go_roundw
        case rel =>
          refine ⟨k + 1, by go_num, HK23.out, by rw [HGT.out], (hk9 _ HNE.out.1).trans hV1, (hk9 _ HNE.out.2.1).trans hV2, (hk9 _ HNE.out.2.2.1).trans hV3, (hk9 _ HNE.out.2.2.2.1).trans hV4, by rw [HGX.out, HGY.out]; exact hP9, hl9 _ _ HNE.out.2.2.2.2 hbV⟩
        case measure => have := HK23.out; simp [intOf]; omega

end Go.Proofs.YtkmelamfohfdkabDoor
