/-
  The walk of spec.ReadVar.
-/
import Derived.Test.YtlaoikpbgbckjaaDoorJoined10
import Derived.Test.YtlaoikpbgbckjaaDoorVarW
import Derived.Deep.RegionHeld3
namespace Go.Proofs.YtlaoikpbgbckjaaDoor
open Go.RowKit

set_option maxRecDepth 100000 in
theorem sReadVar_no (s : ByteArray) (a : Int) (hs : s.size ≤ maxLen) (ha : a < 0 ∨ (s.size : Int) < a) (w : World) :
    Calls Tryd.prog 34 #[.string s, .int .i64 a] w fun e w' => e = .returned (ret3 none) ∧ w = w' := by
  unfold maxLen at hs
  rcases ha with h | h
  · have h0 : ¬ 0 ≤ a := by omega
    go_enter Tryd.func34, Tryd.ntmps34
    go_wp2
    go_ret3
    exact ⟨rfl, rfl⟩
  · have h0 : 0 ≤ a := by omega
    have h1 : ¬ a ≤ (s.size : Int) := by omega
    go_enter Tryd.func34, Tryd.ntmps34
    go_wp2
    go_ret3
    exact ⟨rfl, rfl⟩

theorem cut_text (s : ByteArray) (a b : Nat) (h : a ≤ b) (hb : b ≤ s.size) (z : Int) (hz : z = (b : Int)) (wx : World) :
    (Instr.slice 9 (.string s) (some (.int .i64 (a : Int))) (some (.int .i64 z)) none).run Tryd.prog wx = .ok (.string (s.extract a b)) wx := by
  subst hz
  have := run_slice_string (P := Tryd.prog) wx 9 s .i64 .i64 (a : Int) (b : Int) Tryd.underlying9 (by omega) (by omega) (by omega)
  simpa using this

set_option maxHeartbeats 800000 in
set_option maxRecDepth 100000 in
theorem sReadVar_ok (s : ByteArray) (a : Nat) (hs : s.size ≤ 1048576) (ha : a ≤ s.size) (w : World) :
    Calls Tryd.prog 34 #[.string s, .int .i64 (a : Int)] w fun e w' => e = .returned (ret3 (rdAt s a)) ∧ Below w.heap.size w w' := by
  have h0 : (0 : Int) ≤ (a : Int) := by omega
  have h1 : (a : Int) ≤ (s.size : Int) := by omega
  go_enter Tryd.func34, Tryd.ntmps34
  go_wp2
  go_loop [7, 8, 9] (fun x c i => ∃ n sc j : Nat, x = .int .i64 (n : Int) ∧ c = .int .i64 (sc : Int) ∧ i = .int .i64 (j : Int) ∧ RdInv s a j n sc ∧ RdPre s a j n) (fun _ _ i => s.size - (intOf i).toNat)
  case atStart => exact ⟨0, 1, a, rfl, rfl, rfl, RdInv.start ha, RdPre.start s a⟩
  case round =>
    obtain ⟨n, sc, j, rfl, rfl, rfl, hinv, hpre⟩ := hrel
    obtain ⟨c0, c1, c2, c3⟩ := hinv.weight
    have l1 := hinv.lo
    have l2 := hinv.hi
    have l3 := hinv.five
    have l4 := hinv.small
    by_cases hi : j < s.size
    · by_cases h5 : j < a + 5
      · have c4 := c2 h5
        clear c2 c3
        have hp := hinv.prod (s[j].toNat % 128) (by omega)
        have hp1 : (s[j].toNat : Int) % 128 * (sc : Int) ≤ 127 * (sc : Int) := by exact_mod_cast hp.1
        have hp0 : (0 : Int) ≤ (s[j].toNat : Int) % 128 * (sc : Int) := by exact_mod_cast Nat.zero_le (s[j].toNat % 128 * sc)
        have h5' : (j : Int) < (a : Int) + 5 := by omega
        have hby : (s[j].toNat : Int) ≤ 255 := by have := s[j].toNat_lt; omega
        by_cases hb : s[j].toNat < 128
        · have hb' : (s[j].toNat : Int) < 128 := by omega
          by_cases hx : 1000000000 < n + s[j].toNat % 128 * sc
          · have hx' : (1000000000 : Int) < (n : Int) + (s[j].toNat : Int) % 128 * (sc : Int) := big_cast hx
            clear hp
            go_wp2
            go_region
            all_goals go_wp2
            all_goals go_ret3
            all_goals exact ⟨by rw [hinv.bad hi h5 hb (.inl hx)]; rfl, (Below.refl _ _).drew⟩
          · have hx' : ¬ (1000000000 : Int) < (n : Int) + (s[j].toNat : Int) % 128 * (sc : Int) := big_cast' hx
            have hd : decide ((1000000000 : Int) < (n : Int) + (s[j].toNat : Int) % 128 * (sc : Int)) = false := by simpa using hx'
            have hwj : IntKind.i64.wrap ((j : Int) + 1) = (j : Int) + 1 := IntWalk.i64_in _ (by omega)
            have hs0 : (0 : Int) ≤ (j : Int) + 1 := by omega
            have hs1 : (a : Int) ≤ (j : Int) + 1 := by omega
            have hs2 : (j : Int) + 1 ≤ (s.size : Int) := by omega
            have hsl := cut_text s a (j + 1) (by omega) (by omega) ((j : Int) + 1) (by omega)
            clear hp
            go_wp2
            go_region_held3 (fun _ => True) (trivial) ((go_at_call 42; rw [cast_sum]; refine (var_any _ (by omega) _).mono ?_; rintro e w1 ⟨rfl, hb1⟩))
            have hb2 : Below w.heap.size w w1 := ((Below.refl _ _).drew).trans hb1
            go_wp2
            · go_ret3
              have ht : (!varB (n + s[j].toNat % 128 * sc) == (s.extract a (j + 1)).toList) = true := by assumption
              exact ⟨by rw [hpre.no hinv hi h5 hb ht]; rfl, hb2⟩
            · go_ret3
              have ht : (!varB (n + s[j].toNat % 128 * sc) == (s.extract a (j + 1)).toList) = false := by assumption
              exact ⟨by rw [hpre.yes hinv hi h5 hb hx ht]; exact ret3_some, hb2⟩
        · have hb' : ¬ (s[j].toNat : Int) < 128 := by omega
          have hn := hinv.next hi h5 hb
          have hm := hpre.next hinv hi hb
          clear hp
          go_wp2
          go_round
          case rel => exact ⟨_, _, _, by go_num, by go_num, by go_num, hn, hm⟩
          case measure => simp [intOf]; omega
      · have h5' : ¬ (j : Int) < (a : Int) + 5 := by omega
        go_wp2
        go_ret3
        exact ⟨by rw [hinv.out (by omega)]; rfl, Below.refl _ _⟩
    · go_wp2
      go_ret3
      exact ⟨by rw [hinv.out (by omega)]; rfl, Below.refl _ _⟩

end Go.Proofs.YtlaoikpbgbckjaaDoor
