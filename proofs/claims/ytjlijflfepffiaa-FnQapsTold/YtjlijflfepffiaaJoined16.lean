/-
  Texts of one's own, joined.
-/
import Derived.Test.YtjlijflfepffiaaJoined4
import Derived.Test.YtjlijflfepffiaaPolyI3

/-
  What is mixed in one list from the first to the last: no program in here.
-/
namespace Go.Proofs.Ytjlijflfepffiaa

/-- In one list, each so often. -/
def mixS (L : List (List Int)) (w : List Int) (n : Nat) : Nat → List Int
  | 0 => List.replicate n 0
  | k + 1 => addSh (mixS L w n k) 0 (w.getD k 0) (L.getD k [])
theorem mixS_len (L : List (List Int)) (w : List Int) (n : Nat) : ∀ k, (mixS L w n k).length = n
  | 0 => by rw [mixS, List.length_replicate]
  | k + 1 => by rw [mixS, addSh_len, mixS_len L w n k]
theorem mixS_sc (L : List (List Int)) (w : List Int) (n : Nat) : ∀ k, (∀ i, i < k → (L.getD i []).length ≤ n) → ∀ j, Sc ((mixS L w n k).getD j 0)
  | 0, _, j => by rw [mixS, rep_at]; exact sc_zero
  | k + 1, h, j => by
    rw [mixS]
    exact addSh_sc 0 _ (by rw [mixS_len]; have := h k (by omega); omega) (mixS_sc L w n k fun i hi => h i (by omega)) j
theorem mixS_at (j : Nat) (L : List (List Int)) (w : List Int) (n : Nat) : ∀ k, (∀ i, i < k → (L.getD i []).length ≤ n) → Dp ((mixS L w n k).getD j 0 - sumZ (fun i => w.getD i 0 * (L.getD i []).getD j 0) k)
  | 0, _ => by
    rw [mixS, rep_at]
    exact dp_zero.of (by show (0 : Int) - 0 = 0; omega)
  | k + 1, h => by
    have ih := mixS_at j L w n k fun i hi => h i (by omega)
    have hl : 0 + (L.getD k []).length ≤ (mixS L w n k).length := by rw [mixS_len]; have := h k (by omega); omega
    rw [mixS, addSh_at _ 0 _ _ hl j, sumZ]
    unfold shF
    by_cases hj : j < (L.getD k []).length
    · rw [if_pos (by omega), Nat.sub_zero]
      exact ((dp_scAdd ((mixS L w n k).getD j 0) (scMul (w.getD k 0) ((L.getD k []).getD j 0))).add ((dp_scMul (w.getD k 0) ((L.getD k []).getD j 0)).add ih)).of (by omega)
    · rw [if_neg (by omega), getD_out (l := L.getD k []) (by omega)]
      exact ih.of (by omega)
theorem mix_same (L : List (List Int)) (w : List Int) (n k : Nat) (h : ∀ i, i < k → (L.getD i []).length ≤ n) : trimZ (mixS L w n k) = mixN L w k :=
  can_eq (Can.of_trim _ (mixS_sc L w n k h)) (mixN_can L w k) fun j => by
    rw [trimZ_at]
    exact ((mixS_at j L w n k h).sub (mixN_at j L w k)).of (by omega)

/-- The greatest length of the first so many. -/
def maxLn (L : List (List Int)) : Nat → Nat
  | 0 => 0
  | k + 1 => max (maxLn L k) (L.getD k []).length
theorem maxLn_le (L : List (List Int)) : ∀ k i, i < k → (L.getD i []).length ≤ maxLn L k
  | 0, _, h => by omega
  | k + 1, i, h => by
    rw [maxLn]
    by_cases e : i = k
    · subst e; omega
    · have := maxLn_le L k i (by omega); omega
theorem maxLn_big (L : List (List Int)) (b : Nat) (h : ∀ j, (L.getD j []).length ≤ b) : ∀ k, maxLn L k ≤ b
  | 0 => Nat.zero_le _
  | k + 1 => by rw [maxLn]; have := maxLn_big L b h k; have := h k; omega
theorem pMix_same (L : List (List Int)) (w : List Int) : trimZ (mixS L w (maxLn L (min L.length w.length)) (min L.length w.length)) = pMix L w := mix_same L w _ _ (maxLn_le L _)

/-- One less another. -/
theorem mix_less (p c : List Int) : pMix [p, c] [1, -1] = qAdd p (scl c (-1)) := can_eq (mixN_can _ _ _) (qAdd_can _ _) fun j => by
  have h1 := mixN_at j [p, c] [1, -1] 2
  have h2 := qAdd_at p (scl c (-1)) j
  have h3 := scl_at c (-1) j
  have e : sumZ (fun i => ([1, -1] : List Int).getD i 0 * (([p, c] : List (List Int)).getD i []).getD j 0) 2 = 0 + 1 * p.getD j 0 + -1 * c.getD j 0 := rfl
  rw [e] at h1
  exact ((h1.sub h2).sub h3).of (by show (mixN [p, c] [1, -1] 2).getD j 0 - _ = _; omega)

end Go.Proofs.Ytjlijflfepffiaa

/-
  The walks of the program's mixture of polynomials.
  (-DROP-: what the seat lacks is left out.)
-/
namespace Go.Proofs.Ytjlijflfepffiaa
open Go.RowKit

set_option maxHeartbeats 3200000 in
set_option maxRecDepth 100000 in
theorem iMix_any (a : Option Addr) (cp : Nat) (u : Value) (L : List (List Int)) (m : List Int) (hL : L.length ≤ 1048576) (hz : ∀ j, (L.getD j []).length ≤ 1048576) (hm : m.length ≤ 1048576) (hcp : L.length ≤ cp) (w : World) (h : NAt 1 w w.heap.size (.slice a L.length cp) L.length L) (h2 : ZAt w w.heap.size u m) :
    Calls Try.prog 68 #[u, .slice a L.length cp] w fun e w' => ∃ x, e = .returned x ∧ ZOwn w.heap.size w'.heap.size w' x (pMix L m) ∧ Below w.heap.size w w' := by
  obtain ⟨hlen, a', cp', hva, hA⟩ := h
  have haa : a = a' := by injection hva
  subst haa
  obtain ⟨b, cq, rfl, hB⟩ := h2
  have HA : Hid (∀ j, j < L.length * 1 → ∃ b off u, a = some ⟨b, off, none⟩ ∧ b < w.heap.size ∧ w.cell? ⟨b, off + j, none⟩ = some u ∧ ZAt w w.heap.size u (L.getD j [])) := hA
  have HB : Hid (IntsAt w b m.length w.heap.size (fun j => m.getD j 0)) := hB
  have HZ : Hid (∀ j, (L.getD j []).length ≤ 1048576) := hz
  obtain ⟨K, hK⟩ : ∃ K, K = min L.length m.length := ⟨_, rfl⟩
  have HE : Hid (trimZ (mixS L m (maxLn L K) K) = pMix L m) := by show _ = _; rw [hK]; exact pMix_same L m
  have HMX : Hid (maxLn L K ≤ 1048576) := maxLn_big L _ hz K
  clear hA hB hlen hz hva
  generalize L.length = la at *
  generalize m.length = lb at *
  have hmin : min (lb : Int) (la : Int) = (K : Int) := by omega
  have hKa : K ≤ la := by omega
  have hKb : K ≤ lb := by omega
  have hKc : (K : Int) ≤ (cp : Int) := by omega
  have hK0 : (0 : Int) ≤ (K : Int) := by omega
  clear hK
  go_enter Try.func68, Try.ntmps68
  go_wp2
  go_loopw [5, 20] (fun o i wr => ∃ (k : Nat), i = .int .i64 (k : Int) ∧ k ≤ K ∧ o = .int .i64 ((maxLn L k : Nat) : Int) ∧ w = wr) (fun _ i _ => K - (intOf i).toNat)
  case atStart => exact ⟨0, rfl, Nat.zero_le _, rfl, rfl⟩
  case round =>
    obtain ⟨k, rfl, hk, rfl, rfl⟩ := hrel
    by_cases hlt : k < K
    · have hlt' : (k : Int) < (K : Int) := by omega
      have hk0 : (0 : Int) ≤ (k : Int) := by omega
      obtain ⟨b1, o1, v1, rfl, hb1, c1, z1⟩ := HA.out k (by omega)
      obtain ⟨v1a, v1c, rfl, _⟩ := z1
      have hmx : max ((maxLn L k : Nat) : Int) ((L.getD k []).length : Int) = ((maxLn L (k + 1) : Nat) : Int) := by rw [maxLn]; omega
      obtain ⟨q2, hq2⟩ : ∃ q2, q2 = maxLn L (k + 1) := ⟨_, rfl⟩
      have HQ2 : Hid (q2 = maxLn L (k + 1)) := hq2
      rw [← hq2] at hmx
      clear hq2
      generalize maxLn L k = q1 at *
      generalize (L.getD k []).length = l1 at *
      go_wp2
      go_roundw
      case rel => exact ⟨k + 1, by go_num, hlt, by rw [← HQ2.out], trivial⟩
      case measure => simp [intOf]; omega
    · have hlt' : ¬ (k : Int) < (K : Int) := by omega
      obtain rfl : K = k := by omega
      obtain ⟨n, hn⟩ : ∃ n, n = maxLn L K := ⟨_, rfl⟩
      have hn1 : n ≤ 1048576 := by rw [hn]; exact HMX.out
      have HN : Hid (∀ i, i < K → (L.getD i []).length ≤ n) := by rw [hn]; exact maxLn_le L K
      rw [← hn] at HE ⊢
      clear hn HMX hmin
      have hmk : ∀ W : World, (Instr.makeSlice 105 (.int .i64 (n : Int)) (.int .i64 (n : Int))).run Try.prog W = .ok (.slice (some ⟨W.heap.size, 0, none⟩) n n) (W.alloc (.cells (ic (fun _ => 0) n) 3)) := fun W => make_nums n n (Nat.le_refl _) (by omega) W
      have H0 : Hid (RowZs w.heap.size (w.alloc (.cells (ic (fun _ => 0) n) 3)) (.slice (some ⟨w.heap.size, 0, none⟩) n n) (mixS L m n 0)) := rowZ_zero w n hn1
      generalize ic (fun _ => 0) n = M at hmk H0
      go_wp2
      go_loopw [33] (fun i wr => ∃ (k : Nat), i = .int .i64 (k : Int) ∧ k ≤ K ∧ Hid (RowZs w.heap.size wr (.slice (some ⟨w.heap.size, 0, none⟩) n n) (mixS L m n k)) ∧ Hid (Below w.heap.size w wr)) (fun i _ => K - (intOf i).toNat)
      case atStart => exact ⟨0, rfl, Nat.zero_le _, H0, (Below.refl _ _).alloc (Nat.le_refl _) _⟩
      case round =>
        obtain ⟨k, rfl, hk, HR, HW⟩ := hrel
        clear hmk H0 hlt'
        by_cases hlt : k < K
        · have hlt' : (k : Int) < (K : Int) := by omega
          have hlb' : (k : Int) < (lb : Int) := by omega
          have hk0 : (0 : Int) ≤ (k : Int) := by omega
          obtain ⟨b1, o1, v1, rfl, hb1, c1, z1⟩ := HA.out k (by omega)
          obtain ⟨b2, o2, rfl, hb2, c2⟩ := HB.out k (by omega)
          replace c2 : w.cell? ⟨b2, o2 + k, none⟩ = some (.int .i64 (m.getD k 0)) := c2
          have d1 : wr.cell? ⟨b1, o1 + k, none⟩ = some v1 := (HW.out.cell (p := ⟨b1, o1 + k, none⟩) hb1).trans c1
          have d2 : wr.cell? ⟨b2, o2 + k, none⟩ = some (.int .i64 (m.getD k 0)) := (HW.out.cell (p := ⟨b2, o2 + k, none⟩) hb2).trans c2
          have CS : Hid (Calls Try.prog 97 #[.slice (some ⟨w.heap.size, 0, none⟩) n n, .int .i64 0, .int .i64 (m.getD k 0), v1] wr fun e w' => e = .returned (.tuple #[]) ∧ RowZs w.heap.size w' (.slice (some ⟨w.heap.size, 0, none⟩) n n) (mixS L m n (k + 1)) ∧ Kps (fun x => x = w.heap.size) wr w') := by
            refine iSh_any _ _ (mixS L m n k) (L.getD k []) 0 _ w.heap.size w.heap.size wr HR.out (fun _ => rfl) (ZFar.of_at (z1.on HW.out) (Nat.le_refl _)) ?_ ?_
            · rw [mixS_len]; have := HN.out k hlt; omega
            · rw [mixS_len]; exact hn1
          obtain ⟨v1a, v1c, rfl, _⟩ := z1
          generalize (L.getD k []).length = l1 at *
          generalize m.getD k 0 = y at *
          clear c1 c2 hb1 hb2 HR
          go_wp2_with (go_at_call 97; refine CS.out.mono ?_; rintro e w2 ⟨rfl, hr2, hk2⟩)
          have HR2 : Hid (RowZs w.heap.size w2 (.slice (some ⟨w.heap.size, 0, none⟩) n n) (mixS L m n (k + 1))) := hr2
          have HW2 : Hid (Below w.heap.size w w2) := hk2.bel HW.out HW.out.size (fun k hk => by omega)
          clear hr2 hk2 CS
          go_wp2
          go_roundw
          case rel => exact ⟨k + 1, by go_num, hlt, HR2, HW2⟩
          case measure => simp [intOf]; omega
        · have hlt' : ¬ (k : Int) < (K : Int) := by omega
          obtain rfl : K = k := by omega
          have CT : Hid (Calls Try.prog 98 #[.slice (some ⟨w.heap.size, 0, none⟩) n n] wr fun e w' => ∃ x, e = .returned x ∧ RowZs w.heap.size wr x (pMix L m) ∧ wr = w') := by
            refine (trimmed_any _ (mixS L m n K) (by rw [mixS_len]; exact hn1) w.heap.size wr HR.out).mono ?_
            rintro e w' ⟨a, n, c, h1, h2, h3, h4⟩
            refine ⟨_, h2, ?_, h4⟩
            rw [← HE.out]
            exact h3
          clear HR HE
          go_wp2_with (go_at_call 98; refine CT.out.mono ?_; rintro e w3 ⟨x, rfl, hx, rfl⟩)
          go_ret
          exact ⟨_, rfl, ZOwn.of hx, HW.out⟩

theorem iMixed_any (a : Option Addr) (cp : Nat) (u : Value) (L : List (List Int)) (m : List Int) (hL : L.length ≤ 1048576) (hz : ∀ j, (L.getD j []).length ≤ 1048576) (hm : m.length ≤ 1048576) (hcp : L.length ≤ cp) (w : World) (h : NAt 1 w w.heap.size (.slice a L.length cp) L.length L) (h2 : ZAt w w.heap.size u m) :
    Calls Try.prog 26 #[.slice a L.length cp, u] w fun e w' => ∃ x, e = .returned x ∧ ZOwn w.heap.size w'.heap.size w' x (pMix L m) ∧ Below w.heap.size w w' := by
  have CM : Hid (Calls Try.prog 68 #[u, .slice a L.length cp] w fun e w' => ∃ x, e = .returned x ∧ ZOwn w.heap.size w'.heap.size w' x (pMix L m) ∧ Below w.heap.size w w') := iMix_any a cp u L m hL hz hm hcp w h h2
  clear h h2 hz hL hm hcp
  generalize L.length = la at *
  go_enter Try.func26, Try.ntmps26
  go_wp2_with (go_at_call 68; refine CM.out.mono ?_; rintro e w2 ⟨x, rfl, hx, hb⟩)
  go_ret
  exact ⟨_, rfl, hx, hb⟩

end Go.Proofs.Ytjlijflfepffiaa
