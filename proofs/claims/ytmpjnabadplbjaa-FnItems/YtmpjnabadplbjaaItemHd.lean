/-
  The walks of the helpers of the exact laws on items: whether marks are held; a copy of an item.
  (-DROP-: what the seat lacks is left out.)
-/
import Derived.Test.YtmpjnabadplbjaaItemMk
namespace Go.Proofs.Ytmpjnabadplbjaa
open Go.RowKit

theorem mkL_at {α β : Type} (f : Nat → α → β) (c : α → Nat) : ∀ (k : Nat) (l : List α) (j : Nat) (h : j < l.length), (mkL f c k l)[j]? = some (f (k + 2 * ((l.take j).map c).sum) l[j])
  | k, x :: l, 0, h => by simp [mkL]
  | k, x :: l, j + 1, h => by
    rw [mkL, List.getElem?_cons_succ, mkL_at f c (k + 2 * c x) l j (by simpa using h), List.take_succ_cons, List.map_cons, List.sum_cons, Nat.mul_add, ← Nat.add_assoc]
    rfl

set_option maxHeartbeats 3200000 in
set_option maxRecDepth 100000 in
theorem held_kids (a : Option Addr) (n cp : Nat) (hn : n ≤ 1000000) (k : Nat) (s : Nat → Nat) (N : Nat) (hN : k + 2 * s n = N) (hkb : N ≤ 1000000) (hs : ∀ j, j < n → s j + 1 ≤ s (j + 1)) (hs2 : ∀ j, j ≤ n → s j ≤ s n) (hs0 : s 0 = 0) (w : World)
    (hK : ∀ j, j < n → ∃ u, Kid w w.heap.size a j (decide ((k + 2 * s j) % 3 = 0)) (mt (k + 2 * s j + 1)) u ∧ ∀ w', Below w.heap.size w w' → Calls Try.prog 54 #[u, .int .i64 (((k + 2 * s j + 2 : Nat)) : Int)] w' fun e w'' => e = .returned (.int .i64 ((k + 2 * s (j + 1) : Nat) : Int)) ∧ Below w'.heap.size w' w'') :
    Calls Try.prog 54 #[.slice a n cp, .int .i64 (k : Int)] w fun e w' => e = .returned (.int .i64 (N : Int)) ∧ Below w.heap.size w w' := by
  have HK : Hid (∀ j, j < n → ∃ u, Kid w w.heap.size a j (decide ((k + 2 * s j) % 3 = 0)) (mt (k + 2 * s j + 1)) u ∧ ∀ w', Below w.heap.size w w' → Calls Try.prog 54 #[u, .int .i64 (((k + 2 * s j + 2 : Nat)) : Int)] w' fun e w'' => e = .returned (.int .i64 ((k + 2 * s (j + 1) : Nat) : Int)) ∧ Below w'.heap.size w' w'') := hK
  have HS : Hid ((∀ j, j < n → s j + 1 ≤ s (j + 1)) ∧ (∀ j, j ≤ n → s j ≤ s n) ∧ k + 2 * s n = N ∧ N ≤ 1000000) := ⟨hs, hs2, hN, hkb⟩
  have H0 : Hid (k = k + 2 * s 0 ∧ Below w.heap.size w w) := ⟨by rw [hs0]; omega, Below.refl _ _⟩
  clear hK hs hs2 hs0 hN hkb
  go_enter Try.func54, Try.ntmps54
  go_wp2
  go_loopw [1, 5] (fun x i wr => ∃ (m j : Nat), x = .int .i64 (m : Int) ∧ i = .int .i64 (j : Int) ∧ j ≤ n ∧ Hid (m = k + 2 * s j ∧ Below w.heap.size w wr)) (fun _ i _ => n - (intOf i).toNat)
  case atStart => exact ⟨k, 0, rfl, rfl, Nat.zero_le _, H0⟩
  case round =>
    obtain ⟨m, j, rfl, rfl, hj, HI⟩ := hrel
    clear H0
    have hB0 := HI.out.2
    have hsz := hB0.size
    have hmb : m ≤ 1000000 := by have h1 := HI.out.1; have h2 := HS.out.2.1 j hj; have h3 := HS.out.2.2; omega
    by_cases hlt : j < n
    · have hk0 : (0 : Int) ≤ (j : Int) := by omega
      have hk1 : (j : Int) < (n : Int) := by omega
      obtain ⟨u, hKd, hCk⟩ := HK.out j hlt
      rw [← HI.out.1] at hKd hCk
      obtain ⟨b, off, rfl, hb, z0, z1, z2⟩ := hKd.on hB0
      have hbit : ((m : Int) % 3 == 0) = decide (m % 3 = 0) := by
        rw [Bool.eq_iff_iff, beq_iff_eq, decide_eq_true_iff]
        omega
      have hbw : b < wr.heap.size := by omega
      have HMT : Hid (∀ w, Calls Try.prog 63 #[.int .i64 ((m : Int) + 1)] w fun e w' => e = .returned (.string (mt (m + 1))) ∧ Below w.heap.size w w') := fun w => by
        have h1 := markText_any (m + 1) (by omega) (by omega) w
        rw [show (((m + 1 : Nat) : Int)) = (m : Int) + 1 by omega] at h1
        exact h1
      obtain ⟨m2, hm2⟩ : ∃ m2, k + 2 * s (j + 1) = m2 := ⟨_, rfl⟩
      rw [hm2, show (((m + 2 : Nat) : Int)) = (m : Int) + 1 + 1 by omega] at hCk
      have HC : Hid (∀ w', Below w.heap.size w w' → Calls Try.prog 54 #[u, .int .i64 ((m : Int) + 1 + 1)] w' fun e w'' => e = .returned (.int .i64 (m2 : Int)) ∧ Below w'.heap.size w' w'') := hCk
      have HM2 : Hid (m2 = k + 2 * s (j + 1)) := hm2.symm
      have hm2n : ¬ (m2 : Int) < 0 := by omega
      generalize mt (m + 1) = mm at z1 HMT
      generalize decide (m % 3 = 0) = bz at hbit z0
      have Z0 : ∀ w', Below wr.heap.size wr w' → w'.cell? ⟨b, off + j * 3 + 1, none⟩ = some (.string mm) := fun w' hw => (hw.cell (p := ⟨b, off + j * 3 + 1, none⟩) hbw).trans z1
      have Z2 : ∀ w', Below wr.heap.size wr w' → w'.cell? ⟨b, off + j * 3 + 2, none⟩ = some u := fun w' hw => (hw.cell (p := ⟨b, off + j * 3 + 2, none⟩) hbw).trans z2
      clear hKd hCk hm2 z1 z2 HI
      go_wp2_with fail
      refine wp_region_class 7 (fun wz => Below wr.heap.size wr wz) mixes (by kernel_rfl) (Below.refl _ _).drew ?_
      simp only [List.take_succ_cons, List.take_zero, List.drop_succ_cons, List.drop_zero]
      repeat (refine cls_step rfl (fun K hK => ⟨_, (fun w' hw => by have z0 := Z0 w' hw; go_simp; exact rfl), ?_⟩); go_simp; refine hK _ ?_; clear hK K)
      refine cls_call rfl (fun K hK => ⟨_, _, _, (fun w' => by go_simp <;> first | exact rfl | exact ⟨rfl, rfl⟩), (fun w' hw => calls_below hw (HMT.out _)), ?_⟩); go_simp; refine hK _ ?_; clear hK K
      refine wq_nil ?_
      intro w' hw
      have z2 := Z2 w' hw
      have hbn : Below w.heap.size w w' := hB0.trans (hw.mono hsz)
      clear hw hB0 Z0 Z2 z0
      go_wp2_with fail
      refine (HC.out _ hbn).mono ?_
      rintro e w3 ⟨rfl, hb3⟩
      have HI2 : Hid (m2 = k + 2 * s (j + 1) ∧ Below w.heap.size w w3) := ⟨HM2.out, below_then hbn hb3⟩
      clear hb3 hbn z2
      go_wp2
      go_roundw
      case rel => exact ⟨m2, j + 1, rfl, by go_num, hlt, HI2⟩
      case measure => simp [intOf]; omega
    · obtain rfl : j = n := by omega
      have HE : Hid (m = N) := HI.out.1.trans HS.out.2.2.1
      go_wp2
      go_ret
      exact ⟨by rw [← HE.out]; rfl, hB0⟩

/-- All marks are held. -/
theorem heldS_any : ∀ (d : Nat) (v : Value) (K : List (It d)) (k : Nat) (w : World), K.length ≤ 1000000 → k + 2 * (K.map (cntD d)).sum ≤ 1000000 → KAt d w w.heap.size v (mkL (mkD d) (cntD d) k K) →
    Calls Try.prog 54 #[v, .int .i64 (k : Int)] w fun e w' => e = .returned (.int .i64 ((k + 2 * (K.map (cntD d)).sum : Nat) : Int)) ∧ Below w.heap.size w w'
  | 0, v, K, k, w, hn, hk, h => by
    obtain rfl := no_kids K
    obtain ⟨a, cp, rfl, _⟩ := h
    exact held_kids a 0 cp (Nat.zero_le _) k (fun _ => 0) _ rfl (by simpa using hk) (fun j hj => absurd hj (Nat.not_lt_zero _)) (fun j hj => Nat.le_refl _) rfl w (fun j hj => absurd hj (Nat.not_lt_zero _))
  | d + 1, v, K, k, w, hn, hk, h => by
    obtain ⟨a, cp, rfl, _, hkids⟩ := h
    have hl := mkL_len (mkD (d + 1)) (cntD (d + 1)) k K
    rw [hl]
    refine held_kids a K.length cp hn k (fun j => ((K.take j).map (cntD (d + 1))).sum) _ (by rw [List.take_of_length_le (Nat.le_refl _)]) hk (fun j hj => ?_) (fun j hj => ?_) rfl w fun j hj => ?_
    · show ((K.take j).map (cntD (d + 1))).sum + 1 ≤ ((K.take (j + 1)).map (cntD (d + 1))).sum
      rw [sum_take _ _ _ hj, cntD]
      omega
    · show ((K.take j).map (cntD (d + 1))).sum ≤ ((K.take K.length).map (cntD (d + 1))).sum
      rw [List.take_of_length_le (Nat.le_refl _)]
      exact sum_part _ _ _
    · obtain ⟨u, h1, h2, h3⟩ := hkids j (by omega)
      have e : (mkL (mkD (d + 1)) (cntD (d + 1)) k K)[j]'(by omega) = mkD (d + 1) (k + 2 * ((K.take j).map (cntD (d + 1))).sum) K[j] := by
        have h4 := mkL_at (mkD (d + 1)) (cntD (d + 1)) k K j hj
        rw [List.getElem?_eq_getElem (by omega)] at h4
        injection h4
      rw [e] at h1 h3
      refine ⟨u, h1, fun w' hb => ?_⟩
      have hS := sum_take (cntD (d + 1)) K j hj
      have hSp := sum_part (cntD (d + 1)) K (j + 1)
      have hcn : cntD (d + 1) K[j] = 1 + ((itK K[j]).map (cntD d)).sum := by rw [cntD]
      have hkl : (itK K[j]).length ≤ 1000000 := by
        have h5 := sum_ge (cntD d) (itK K[j]) (fun y => cnt_pos d y)
        omega
      have h6 := heldS_any d u (itK K[j]) (k + 2 * ((K.take j).map (cntD (d + 1))).sum + 2) w' hkl (by omega) ((h3.on hb).wide hb.size)
      have e2 : k + 2 * ((K.take j).map (cntD (d + 1))).sum + 2 + 2 * ((itK K[j]).map (cntD d)).sum = k + 2 * ((K.take (j + 1)).map (cntD (d + 1))).sum := by omega
      rw [e2] at h6
      exact h6

set_option maxHeartbeats 800000 in
set_option maxRecDepth 100000 in
/-- All marks of an item are held. -/
theorem heldI_any (d : Nat) (l : Bool) (t : ByteArray) (v : Value) (K : List (It d)) (k : Nat) (w : World) (hn : K.length ≤ 1000000) (hk : k + 2 * (K.map (cntD d)).sum ≤ 1000000) (h : KAt d w w.heap.size v (mkL (mkD d) (cntD d) k K)) :
    Calls Try.prog 31 #[itV l t v, .int .i64 (k : Int)] w fun e w' => e = .returned (.int .i64 ((k + 2 * (K.map (cntD d)).sum : Nat) : Int)) ∧ Below w.heap.size w w' := by
  obtain ⟨W, hW, hb, hx⟩ := box1 w 26 #[.bool l, .string t, v]
  have q0 := hx.cell 0
  have q1 := hx.cell 1
  have q2 := hx.cell 2
  have HC : Hid (Calls Try.prog 54 #[v, .int .i64 (k : Int)] W fun e w' => e = .returned (.int .i64 ((k + 2 * (K.map (cntD d)).sum : Nat) : Int)) ∧ Below W.heap.size W w') := heldS_any d v K k W hn hk ((h.on hb).wide hb.size)
  have HB : Hid (Below w.heap.size w W) := hb
  obtain ⟨a, cp, rfl⟩ := h.in.slice
  generalize k + 2 * (K.map (cntD d)).sum = m at HC ⊢
  have hm0 : ¬ (m : Int) < 0 := by omega
  unfold itV
  clear hb hx h hk
  generalize (mkL (mkD d) (cntD d) k K).length = n at HC q2 hW ⊢
  go_enter Try.func31, Try.ntmps31
  go_wp2_with fail
  refine HC.out.mono ?_
  rintro e w2 ⟨rfl, hb2⟩
  have hB2 := below_then HB.out hb2
  clear q0 q1 q2
  go_wp2
  go_ret
  exact ⟨rfl, hB2⟩

end Go.Proofs.Ytmpjnabadplbjaa
