/-
  The walk of impl.ReadVar.
-/
import Derived.Test.YtlaoikpbgbckjaaDoorJoined10
import Derived.Test.YtlaoikpbgbckjaaDoorProg
import Derived.WalkLawsBesides
import Derived.WalkSpells
namespace Go.Proofs.YtlaoikpbgbckjaaDoor
open Go.RowKit

set_option maxRecDepth 100000 in
theorem iReadVar_no (s : ByteArray) (a : Int) (hs : s.size ≤ maxLen) (ha : a < 0 ∨ (s.size : Int) < a) (w : World) :
    Calls Tryd.prog 29 #[.string s, .int .i64 a] w fun e w' => e = .returned (ret3 none) ∧ w = w' := by
  unfold maxLen at hs
  rcases ha with h | h
  · go_enter Tryd.func29, Tryd.ntmps29
    go_wp2
    go_ret3
    exact ⟨rfl, rfl⟩
  · have h0 : ¬ a < 0 := by omega
    go_enter Tryd.func29, Tryd.ntmps29
    go_wp2
    go_ret3
    exact ⟨rfl, rfl⟩

set_option maxHeartbeats 1600000 in
set_option maxRecDepth 100000 in
theorem iReadVar_ok (s : ByteArray) (a : Nat) (hs : s.size ≤ 1048576) (ha : a ≤ s.size) (w : World) :
    Calls Tryd.prog 29 #[.string s, .int .i64 (a : Int)] w fun e w' => e = .returned (ret3 (rdAt s a)) ∧ w = w' := by
  have h0 : ¬ (a : Int) < 0 := by omega
  have h1 : ¬ (s.size : Int) < (a : Int) := by omega
  go_enter Tryd.func29, Tryd.ntmps29
  go_wp2
  go_loop [7, 8, 9] (fun x c i => ∃ n sc j : Nat, x = .int .i64 (n : Int) ∧ c = .int .i64 (sc : Int) ∧ i = .int .i64 (j : Int) ∧ RdInv s a j n sc) (fun _ _ i => s.size - (intOf i).toNat)
  case atStart => exact ⟨0, 1, a, rfl, rfl, rfl, RdInv.start ha⟩
  case round =>
    obtain ⟨n, sc, j, rfl, rfl, rfl, hinv⟩ := hrel
    obtain ⟨c0, c1, c2, c3⟩ := hinv.weight
    have l1 := hinv.lo
    have l2 := hinv.hi
    have l3 := hinv.five
    have l4 := hinv.small
    by_cases hi : j < s.size
    · by_cases h5 : j < a + 5
      · have c4 := c2 h5
        clear c2 c3
        have hp := hinv.prod (s[j].toNat % 128) (by omega)
        have hp1 : (s[j].toNat : Int) % 128 * (sc : Int) ≤ 127 * (sc : Int) := by exact_mod_cast hp.1
        have hp0 : (0 : Int) ≤ (s[j].toNat : Int) % 128 * (sc : Int) := by exact_mod_cast Nat.zero_le (s[j].toNat % 128 * sc)
        clear hp
        have hsc : (sc : Int) ≤ 1000000000 := by omega
        have hby : (s[j].toNat : Int) ≤ 255 := by have := s[j].toNat_lt; omega
        by_cases hb : s[j].toNat < 128
        · have hb' : ¬ (127 : Int) < (s[j].toNat : Int) := by omega
          by_cases hx : 1000000000 < n + s[j].toNat % 128 * sc
          · have hx' : (1000000000 : Int) < (n : Int) + (s[j].toNat : Int) % 128 * (sc : Int) := big_cast hx
            go_wp2
            go_ret3
            exact ⟨by rw [hinv.bad hi h5 hb (.inl hx)]; rfl, rfl⟩
          · have hx' : ¬ (1000000000 : Int) < (n : Int) + (s[j].toNat : Int) % 128 * (sc : Int) := big_cast' hx
            by_cases hz : s[j].toNat = 0
            · have hz' : ((s[j].toNat : Int) == 0) = true := by simp; omega
              have HZ : Hid (s[j].toNat = 0) := hz
              clear hz
              by_cases hj : a < j
              · have hj' : (a : Int) < (j : Int) := by omega
                go_wp2
                go_ret3
                exact ⟨by rw [hinv.bad hi h5 hb (.inr ⟨HZ.out, hj⟩)]; rfl, rfl⟩
              · have hj' : ¬ (a : Int) < (j : Int) := by omega
                go_wp2
                go_ret3
                exact ⟨by rw [hinv.good hi h5 hb hx (by omega)]; exact ret3_some, rfl⟩
            · have hz' : ((s[j].toNat : Int) == 0) = false := by simp; omega
              go_wp2
              go_ret3
              exact ⟨by rw [hinv.good hi h5 hb hx (by omega)]; exact ret3_some, rfl⟩
        · have hb' : (127 : Int) < (s[j].toNat : Int) := by omega
          have hn := hinv.next hi h5 hb
          go_wp2
          go_round
          case rel => exact ⟨_, _, _, by go_num, by go_num, by go_num, hn⟩
          case measure => simp [intOf]; omega
      · have hsc := c3 h5
        have hsc' : ¬ (sc : Int) ≤ 1000000000 := by omega
        go_wp2
        go_ret3
        exact ⟨by rw [hinv.out (by omega)]; rfl, rfl⟩
    · go_wp2
      go_ret3
      exact ⟨by rw [hinv.out (by omega)]; rfl, rfl⟩

end Go.Proofs.YtlaoikpbgbckjaaDoor
