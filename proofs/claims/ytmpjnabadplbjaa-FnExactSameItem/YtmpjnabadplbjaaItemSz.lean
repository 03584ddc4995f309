/-
  The walks of laws.szItem, szItemS.
  (-DROP-: what the seat lacks is left out.)
-/
import Derived.Test.YtmpjnabadplbjaaItemS1
namespace Go.Proofs.Ytmpjnabadplbjaa
open Go.RowKit

/-- What is left of so much. -/
def szG (L n : Nat) : Int := if n ≤ L then (L : Int) - (n : Int) else -1
def sumK (r : Nat → Nat) : Nat → Nat
  | 0 => 0
  | k + 1 => sumK r k + r k
theorem sumK_le (r : Nat → Nat) {k n : Nat} (h : k ≤ n) : sumK r k ≤ sumK r n := by
  induction n with
  | zero => rw [show k = 0 by omega]; exact Nat.le_refl _
  | succ n ih =>
    by_cases h1 : k ≤ n
    · have := ih h1
      show _ ≤ sumK r n + r n
      omega
    · rw [show k = n + 1 by omega]; exact Nat.le_refl _

set_option maxHeartbeats 1600000 in
set_option maxRecDepth 100000 in
theorem szItemS_list (a : Option Addr) (n cp L : Nat) (hn : n ≤ 9223372036854775807) (hL : L ≤ 1048576) (w : World) (r : Nat → Nat)
    (hK : ∀ j, j < n → ∃ l t u, Kid w w.heap.size a j l t u ∧ ∀ w' M, Below w.heap.size w w' → M ≤ 1048576 → Calls Try.prog 27 #[itV l t u, .int .i64 (M : Nat)] w' fun f w'' => f = .returned (.int .i64 (szG M (r j))) ∧ Below w'.heap.size w' w'') :
    Calls Try.prog 50 #[.slice a n cp, .int .i64 (L : Int)] w fun f w' => f = .returned (.int .i64 (szG L (n + sumK r n))) ∧ Below w.heap.size w w' := by
  have HK : Hid (∀ j, j < n → ∃ l t u, Kid w w.heap.size a j l t u ∧ ∀ w' M, Below w.heap.size w w' → M ≤ 1048576 → Calls Try.prog 27 #[itV l t u, .int .i64 (M : Nat)] w' fun f w'' => f = .returned (.int .i64 (szG M (r j))) ∧ Below w'.heap.size w' w'') := hK
  have HW : Hid (Below w.heap.size w w) := Below.refl _ _
  clear hK
  by_cases h1 : n ≤ L
  · obtain ⟨m, hm⟩ : ∃ m : Nat, L = n + m := ⟨L - n, by omega⟩
    have hLm : (L : Int) - (n : Int) = (m : Int) := by omega
    have hmb : m ≤ 1048576 := by omega
    have H0 : Hid (L = n + m + sumK r 0) := hm
    clear hm
    go_enter Try.func50, Try.ntmps50
    go_wp2
    go_loopw [1, 5] (fun s i wr => ∃ (k M : Nat), i = .int .i64 (k : Int) ∧ s = .int .i64 (M : Int) ∧ k ≤ n ∧ M ≤ 1048576 ∧ Hid (L = n + M + sumK r k ∧ Below w.heap.size w wr)) (fun _ i _ => n - (intOf i).toNat)
    case atStart => exact ⟨0, m, rfl, rfl, Nat.zero_le _, hmb, H0.out, HW.out⟩
    case round =>
      obtain ⟨k, M, rfl, rfl, hk, hM, HD⟩ := hrel
      have hB0 := HD.out.2
      clear H0
      by_cases hlt : k < n
      · have hlt' : (k : Int) < (n : Int) := by omega
        have hk0 : (0 : Int) ≤ (k : Int) := by omega
        obtain ⟨l, t, u, hKd, hCk⟩ := HK.out k hlt
        obtain ⟨b, off, rfl, hb, z0, z1, z2⟩ := hKd.on hB0
        have HCk0 := hCk wr M hB0 hM
        unfold itV at HCk0
        have HCk : Hid (Calls Try.prog 27 #[.agg #[.bool l, .string t, u], .int .i64 (M : Int)] wr fun f w'' => f = .returned (.int .i64 (szG M (r k))) ∧ Below wr.heap.size wr w'') := HCk0
        have HS : Hid (sumK r (k + 1) = sumK r k + r k) := rfl
        have HL : Hid (sumK r (k + 1) ≤ sumK r n) := sumK_le r hlt
        clear HCk0 hKd hCk
        by_cases h2 : r k ≤ M
        · obtain ⟨m2, hm2⟩ : ∃ m2 : Nat, M = r k + m2 := ⟨M - r k, by omega⟩
          have hg : szG M (r k) = (m2 : Int) := by unfold szG; rw [if_pos h2]; omega
          have hm2b : m2 ≤ 1048576 := by omega
          have HD1 : Hid (L = n + m2 + sumK r (k + 1)) := by
            have h := HD.out.1
            have h' := HS.out
            show _ = _
            omega
          rw [hg] at HCk
          clear hg hm2 h2
          go_wp2_with fail
          refine HCk.out.mono ?_
          rintro f w2 ⟨rfl, hb2⟩
          have HD2 : Hid (L = n + m2 + sumK r (k + 1) ∧ Below w.heap.size w w2) := ⟨HD1.out, below_then hB0 hb2⟩
          clear z0 z1 z2 HD HD1
          go_wp2
          exact ⟨⟨k + 1, m2, by go_num, rfl, hlt, hm2b, HD2⟩, by simp [intOf]; omega⟩
        · have hg : szG M (r k) = -1 := by unfold szG; rw [if_neg h2]
          have HE : Hid (szG L (n + sumK r n) = -1) := by
            have h := HD.out.1
            have h' := HS.out
            have h3 := HL.out
            show _ = _
            unfold szG
            rw [if_neg (by omega)]
          rw [hg] at HCk
          clear hg h2
          go_wp2_with fail
          refine HCk.out.mono ?_
          rintro f w2 ⟨rfl, hb2⟩
          have hB2 := below_then hB0 hb2
          clear z0 z1 z2 HD
          go_wp2
          go_ret
          exact ⟨by rw [HE.out]; rfl, hB2⟩
      · obtain rfl : k = n := by omega
        have HE : Hid (szG L (k + sumK r k) = (M : Int)) := by
          have h := HD.out.1
          show _ = _
          unfold szG
          rw [if_pos (by omega)]
          omega
        clear HD
        go_wp2
        go_ret
        exact ⟨by rw [HE.out]; rfl, hB0⟩
  · have HE : Hid (szG L (n + sumK r n) = -1) := by show _ = _; unfold szG; rw [if_neg (by omega)]
    have h1' : (L : Int) - (n : Int) < 0 := by omega
    go_enter Try.func50, Try.ntmps50
    go_wp2
    go_ret
    exact ⟨by rw [HE.out]; rfl, HW.out⟩

set_option maxHeartbeats 1600000 in
set_option maxRecDepth 100000 in
theorem szItem_step (l : Bool) (t : ByteArray) (v : Value) (ht : t.size ≤ 9223372036854775807) (L : Nat) (hL : L ≤ 1048576) (w : World) (r : Nat)
    (hC : ∀ w' M, Below w.heap.size w w' → M ≤ 1048576 → Calls Try.prog 50 #[v, .int .i64 (M : Nat)] w' fun f w'' => f = .returned (.int .i64 (szG M r)) ∧ Below w'.heap.size w' w'') :
    Calls Try.prog 27 #[itV l t v, .int .i64 (L : Int)] w fun f w' => f = .returned (.int .i64 (szG L (t.size + r))) ∧ Below w.heap.size w w' := by
  obtain ⟨W, hW, hb, hx⟩ := box1 w 45 #[.bool l, .string t, v]
  have q0 := hx.cell 0
  have q1 := hx.cell 1
  have q2 := hx.cell 2
  have HC : Hid (∀ w' M, Below w.heap.size w w' → M ≤ 1048576 → Calls Try.prog 50 #[v, .int .i64 (M : Nat)] w' fun f w'' => f = .returned (.int .i64 (szG M r)) ∧ Below w'.heap.size w' w'') := hC
  unfold itV
  clear hC hx
  by_cases h1 : t.size ≤ L
  · obtain ⟨m, hm⟩ : ∃ m : Nat, L = t.size + m := ⟨L - t.size, by omega⟩
    have hLm : (L : Int) - (t.size : Int) = (m : Int) := by omega
    have HCm : Hid (Calls Try.prog 50 #[v, .int .i64 (m : Int)] W fun f w'' => f = .returned (.int .i64 (szG m r)) ∧ Below W.heap.size W w'') := HC.out W m hb (by omega)
    by_cases h2 : r ≤ m
    · obtain ⟨m2, hm2⟩ : ∃ m2 : Nat, m = r + m2 := ⟨m - r, by omega⟩
      have hg : szG m r = (m2 : Int) := by unfold szG; rw [if_pos h2]; omega
      have HE : Hid (szG L (t.size + r) = (m2 : Int)) := by show _ = _; unfold szG; rw [if_pos (by omega)]; omega
      have hm2b : m2 ≤ 1048576 := by omega
      rw [hg] at HCm
      clear hm2
      clear hm h2 hg
      go_enter Try.func27, Try.ntmps27
      go_wp2_with fail
      refine HCm.out.mono ?_
      rintro f w2 ⟨rfl, hb2⟩
      have hB2 := below_then hb hb2
      clear hW q0 q1 q2 hb hb2
      go_wp2
      go_ret
      exact ⟨by rw [HE.out]; rfl, hB2⟩
    · have hg : szG m r = -1 := by unfold szG; rw [if_neg h2]
      have HE : Hid (szG L (t.size + r) = -1) := by show _ = _; unfold szG; rw [if_neg (by omega)]
      rw [hg] at HCm
      clear hm h2 hg
      go_enter Try.func27, Try.ntmps27
      go_wp2_with fail
      refine HCm.out.mono ?_
      rintro f w2 ⟨rfl, hb2⟩
      have hB2 := below_then hb hb2
      clear hW q0 q1 q2 hb hb2
      go_wp2
      go_ret
      exact ⟨by rw [HE.out]; rfl, hB2⟩
  · have HE : Hid (szG L (t.size + r) = -1) := by show _ = _; unfold szG; rw [if_neg (by omega)]
    have h1' : (L : Int) - (t.size : Int) < 0 := by omega
    go_enter Try.func27, Try.ntmps27
    go_wp2
    go_ret
    exact ⟨by rw [HE.out]; rfl, hb⟩

/-- How great an item is: its text's bytes, its kids, and what they are. -/
def szD : (d : Nat) → It d → Nat
  | 0, x => x.elim
  | d + 1, x => (itT x).size + ((itK x).length + sumK (fun j => ((itK x)[j]?.map (szD d)).getD 0) (itK x).length)
/-- What is left of so much behind an item. -/
theorem szItem_any : ∀ (d : Nat) (x : It (d + 1)) (v : Value) (L : Nat) (w : World), L ≤ 1048576 → (itT x).size ≤ 9223372036854775807 → KAt d w w.heap.size v (itK x) →
    Calls Try.prog 27 #[itV (itL x) (itT x) v, .int .i64 (L : Int)] w fun f w' => f = .returned (.int .i64 (szG L (szD (d + 1) x))) ∧ Below w.heap.size w w'
  | 0, x, v, L, w, hL, ht, hK => by
    obtain ⟨a, cp, rfl, hn⟩ := hK
    rw [szD]
    refine szItem_step _ _ _ ht L hL w _ fun w' M hb hM => ?_
    exact szItemS_list a _ cp M hn hM w' _ (fun j hj => by
      have h0 := no_kids (itK x)
      rw [h0] at hj
      exact absurd hj (Nat.not_lt_zero _))
  | d + 1, x, v, L, w, hL, ht, hK => by
    obtain ⟨a, cp, rfl, hn, hk⟩ := hK
    rw [szD]
    refine szItem_step _ _ _ ht L hL w _ fun w' M hb hM => ?_
    exact szItemS_list a _ cp M hn hM w' _ (fun j hj => by
      obtain ⟨u, h2, h3, h4⟩ := hk j hj
      refine ⟨_, _, u, (h2.on hb).wide hb.size, fun w2 M2 hb2 hM2 => ?_⟩
      have hs := hb.size
      rw [List.getElem?_eq_getElem hj]
      exact szItem_any d _ u M2 w2 hM2 h3 ((((h4.on hb).wide hs).on hb2).wide hb2.size))

end Go.Proofs.Ytmpjnabadplbjaa
