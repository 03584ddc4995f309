/-
  The walks of the program's values and of its polynomial with given zeros.
  (-DROP-: what the seat lacks is left out.)
-/
import Derived.Test.YtjlijflfepffiaaPolyI3
import Derived.Test.YtjlijflfepffiaaJoined6
namespace Go.Proofs.Ytjlijflfepffiaa
open Go.RowKit

theorem drop_here {l : List Int} {k : Nat} (h : k < l.length) : l.drop k = l.getD k 0 :: l.drop (k + 1) := by
  rw [List.drop_eq_getElem_cons h]
  simp [h]

set_option maxHeartbeats 1600000 in
set_option maxRecDepth 100000 in
theorem iAt_any (v : Value) (l : List Int) (x : Int) (hl : l.length ≤ 1048576) (w : World) (h : ZAt w w.heap.size v l) :
    Calls Try.prog 85 #[v, .int .i64 x] w fun e w' => e = .returned (.int .i64 (pAt l x)) ∧ Below w.heap.size w w' := by
  obtain ⟨a, cp, rfl, hA⟩ := h
  have HA : Hid (IntsAt w a l.length w.heap.size (fun j => l.getD j 0)) := hA
  clear hA
  obtain ⟨n, hn⟩ : ∃ n, n = l.length := ⟨_, rfl⟩
  have HN : Hid (n = l.length) := hn
  rw [← hn] at HA hl ⊢
  clear hn
  go_enter Try.func85, Try.ntmps85
  go_wp2
  go_loopw [5, 6] (fun y i wr => ∃ (k : Nat), i = .int .i64 ((k : Int) - 1) ∧ k ≤ n ∧ y = .int .i64 (pAt (l.drop k) x) ∧ Hid (Below w.heap.size w wr)) (fun _ i _ => (intOf i + 1).toNat)
  case atStart => exact ⟨n, rfl, Nat.le_refl _, by rw [HN.out, List.drop_length]; rfl, Below.refl _ _⟩
  case round =>
    obtain ⟨k, rfl, hk, rfl, HB⟩ := hrel
    by_cases h0 : 0 < k
    · obtain ⟨j, rfl⟩ : ∃ j, k = j + 1 := ⟨k - 1, by omega⟩
      have hi1 : ((j + 1 : Nat) : Int) - 1 = (j : Int) := by omega
      have hi2 : (0 : Int) ≤ (j : Int) := by omega
      have hi3 : (j : Int) < (n : Int) := by omega
      obtain ⟨b, off, rfl, hb, hz⟩ := (HA.out.on HB.out) j (by omega)
      replace hz : wr.cell? ⟨b, off + j, none⟩ = some (.int .i64 (l.getD j 0)) := hz
      have HP : Hid (pAt (l.drop j) x = scAdd (scMul (pAt (l.drop (j + 1)) x) x) (l.getD j 0)) := by
        show _ = _
        rw [drop_here (l := l) (k := j) (by have := HN.out; omega)]
        rfl
      have HC : Hid (∀ w, Calls Try.prog 84 #[.int .i64 (pAt (l.drop (j + 1)) x), .int .i64 x] w fun e w' => e = .returned (.int .i64 (scMul (pAt (l.drop (j + 1)) x) x)) ∧ w' = w) := fun w => (iScMul_any _ _ w).mono fun e w' h => ⟨h.1, h.2.symm⟩
      have HD : Hid (∀ w, Calls Try.prog 86 #[.int .i64 (scMul (pAt (l.drop (j + 1)) x) x), .int .i64 (l.getD j 0)] w fun e w' => e = .returned (.int .i64 (pAt (l.drop j) x)) ∧ w' = w) := fun w => by
        rw [HP.out]
        exact (iScAdd_any _ _ w).mono fun e w' h => ⟨h.1, h.2.symm⟩
      obtain ⟨r, hr⟩ : ∃ r, r = pAt (l.drop j) x := ⟨_, rfl⟩
      have HR : Hid (r = pAt (l.drop j) x) := hr
      rw [← hr] at HD
      clear hr HP
      generalize scMul (pAt (l.drop (j + 1)) x) x = p at HC HD
      generalize pAt (l.drop (j + 1)) x = q at HC
      generalize l.getD j 0 = z at HD hz
      clear hb HA
      go_wp2
      refine wp_region_still_tail 8 mixesSc (by kernel_rfl) ?_
      simp only [List.take_succ_cons, List.take_zero, List.drop_succ_cons, List.drop_zero]
      repeat still_step
      still_call (HC.out _)
      repeat still_step
      still_call (HD.out _)
      repeat still_step
      refine wpStill_nil ?_
      go_wp2
      go_roundw
      case rel => exact ⟨j, by go_num, by omega, by rw [HR.out], HB.out.drew⟩
      case measure => simp [intOf]
    · obtain rfl : k = 0 := by omega
      go_wp2
      go_ret
      exact ⟨by simp, HB.out⟩

set_option maxHeartbeats 1600000 in
set_option maxRecDepth 100000 in
theorem iZer_any (n : Int) (w : World) : Calls Try.prog 81 #[.int .i64 n] w fun e w' => ∃ u, e = .returned u ∧ ZOwn w.heap.size w'.heap.size w' u (pZer n) ∧ Below w.heap.size w w' := by
  by_cases h0 : n < 0
  · have HE : Hid (pZer n = []) := by show _ = _; unfold pZer; rw [if_pos (Or.inl h0)]
    go_enter Try.func81, Try.ntmps81
    go_wp2
    go_ret
    exact ⟨_, rfl, by rw [HE.out]; exact ZOwn.of (World.ownsRow_lit _ _ _ (Nat.le_refl _) (by simp [maxLen]) (by simp)), (Below.refl _ _).alloc (Nat.le_refl _) _⟩
  · by_cases h1 : n > 16
    · have HE : Hid (pZer n = []) := by show _ = _; unfold pZer; rw [if_pos (Or.inr h1)]
      go_enter Try.func81, Try.ntmps81
      go_wp2
      go_ret
      exact ⟨_, rfl, by rw [HE.out]; exact ZOwn.of (World.ownsRow_lit _ _ _ (Nat.le_refl _) (by simp [maxLen]) (by simp)), (Below.refl _ _).alloc (Nat.le_refl _) _⟩
    · obtain ⟨m, rfl⟩ : ∃ m : Nat, n = (m : Int) := ⟨n.toNat, by omega⟩
      have HE : Hid (pZer (m : Int) = zerL m) := by show _ = _; exact pZer_nat (by omega)
      have hm : m ≤ 16 := by omega
      have h0' : ¬ (m : Int) < 0 := by omega
      go_enter Try.func81, Try.ntmps81
      go_wp2
      go_loopw [3, 14] (fun u i wr => ∃ (k : Nat), i = .int .i64 (k : Int) ∧ k ≤ m ∧ Hid (ZOwn w.heap.size wr.heap.size wr u (zerL k)) ∧ Hid (Below w.heap.size w wr)) (fun _ i _ => m - (intOf i).toNat)
      case atStart => exact ⟨0, rfl, Nat.zero_le _, ZOwn.of (own_lit w [1] (by simp)), (Below.refl _ _).alloc (Nat.le_refl _) _⟩
      case round =>
        obtain ⟨k, rfl, hk, HU, HB⟩ := hrel
        obtain ⟨xa, xc, hxv⟩ := row_form HU.out.1
        subst hxv
        generalize hzl : (zerL k).length = zn at HU
        clear hzl
        by_cases hlt : k < m
        · have hlt' : (k : Int) < (m : Int) := by omega
          have hwr : IntKind.i64.wrap ((k : Int) + 1) = (k : Int) + 1 := IntWalk.i64_in _ (by omega)
          have hwn : IntKind.i64.wrap (-((k : Int) + 1)) = -((k : Int) + 1) := IntWalk.i64_in _ (by omega)
          have CM : Hid (∀ V : World, V = wr.alloc (.cells #[.int .i64 (-((k : Int) + 1)), .int .i64 1] 3) → Calls Try.prog 82 #[.slice xa zn xc, .slice (some ⟨wr.heap.size, 0, none⟩) 2 2] V fun e w' => ∃ x, e = .returned x ∧ ZOwn V.heap.size w'.heap.size w' x (zerL (k + 1)) ∧ Below V.heap.size V w') := fun V hV => by
            subst hV
            have hb : Below wr.heap.size wr (wr.alloc (.cells #[.int .i64 (-((k : Int) + 1)), .int .i64 1] 3)) := (Below.refl _ _).alloc (Nat.le_refl _) _
            refine iMul_any _ _ (zerL k) [-((k : Int) + 1), 1] (zerL_len k) (by simp) _ (((HU.out.at).on hb).wide hb.size) ?_
            exact (ZOwn.of (own_lit wr [-((k : Int) + 1), 1] (by simp))).at
          clear HU
          go_wp2_with (go_at_call 82; refine (CM.out _ rfl).mono ?_; rintro e w2 ⟨x, rfl, hx, hb2⟩)
          have hs : wr.heap.size ≤ (wr.alloc (.cells #[.int .i64 (-((k : Int) + 1)), .int .i64 1] 3)).heap.size := by simp
          have HX : Hid (ZOwn w.heap.size w2.heap.size w2 x (zerL (k + 1))) := hx.wide (Nat.le_trans HB.out.size hs) (Nat.le_refl _)
          have HB2 : Hid (Below w.heap.size w w2) := (HB.out.alloc HB.out.size _).trans (hb2.mono (Nat.le_trans HB.out.size hs))
          clear hx hb2 hs CM
          go_wp2
          go_roundw
          case rel => exact ⟨k + 1, by go_num, hlt, HX, HB2⟩
          case measure => simp [intOf]; omega
        · have hlt' : ¬ (k : Int) < (m : Int) := by omega
          obtain rfl : m = k := by omega
          go_wp2
          go_ret
          exact ⟨_, rfl, by rw [HE.out]; exact HU.out, HB.out⟩

end Go.Proofs.Ytjlijflfepffiaa
