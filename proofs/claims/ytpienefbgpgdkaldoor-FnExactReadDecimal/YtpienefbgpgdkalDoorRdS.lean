/-
  The walk of spec.ReadDecimal.
-/
import Derived.Test.YtpienefbgpgdkalDoorRdPure
import Derived.Test.YtpienefbgpgdkalDoorDec
namespace Go.Proofs.YtpienefbgpgdkalDoor
open Go.RowKit Go.Lib

def retD : Option Nat → Value
  | none => .tuple #[.int .i64 0, .bool false]
  | some n => .tuple #[.int .i64 (n : Int), .bool true]

set_option maxHeartbeats 1600000 in
set_option maxRecDepth 100000 in
theorem sRead_any (s : ByteArray) (hs : s.size ≤ 1048576) (w : World) :
    Calls Tryd.prog 8 #[.string s] w fun e w' => e = .returned (retD (rdDec s.data.toList)) ∧ Below w.heap.size w w' := by
  have hls : s.data.toList.length = s.size := by simp
  have HLS : Hid (s.data.toList.length = s.size) := hls
  clear hls
  by_cases h10 : s.size ≤ 10
  · have h1 : ¬ (10 : Int) < (s.size : Int) := by omega
    go_enter Tryd.func8, Tryd.ntmps8
    go_wp2
    go_loop [4, 5] (fun x i => ∃ n k : Nat, x = .int .i64 (n : Int) ∧ i = .int .i64 (k : Int) ∧ DInv s k n) (fun _ i => s.size - (RowKit.intOf i).toNat)
    case atStart => exact ⟨0, 0, rfl, rfl, DInv.start s⟩
    case round =>
      obtain ⟨n, k, rfl, rfl, hinv⟩ := hrel
      have hle := hinv.le
      have hnb := hinv.bound (by omega)
      by_cases hlt : k < s.size
      · have hby : (s[k].toNat : Int) ≤ 255 := by have := s[k].toNat_lt; omega
        by_cases d1 : 48 ≤ s[k].toNat
        · have d1a : ¬ (s[k].toNat : Int) < 48 := by omega
          by_cases d2 : s[k].toNat ≤ 57
          · have d2a : ¬ (57 : Int) < (s[k].toNat : Int) := by omega
            have hn := hinv.next hlt d1 d2
            go_wp2
            go_round
            case rel => exact ⟨_, k + 1, by go_num, by go_num, hn⟩
            case measure => simp [RowKit.intOf]; omega
          · have d2a : (57 : Int) < (s[k].toNat : Int) := by omega
            go_wp2
            go_ret2
            exact ⟨by rw [hinv.bad hlt (by omega)]; rfl, Below.refl _ _⟩
        · have d1a : (s[k].toNat : Int) < 48 := by omega
          go_wp2
          go_ret2
          exact ⟨by rw [hinv.bad hlt (by omega)]; rfl, Below.refl _ _⟩
      · obtain ⟨hall, hval⟩ := hinv.whole hlt
        have HALL : Hid (s.data.toList.all digB = true) := hall
        have HVAL : Hid (n = decV s.data.toList) := hval
        clear hall hval
        by_cases hx : n ≤ 1000000000
        · have hx' : ¬ (1000000000 : Int) < (n : Int) := by omega
          go_wp2_with (go_at_call 6; refine (sDecimal_any _ ?_ ?_ _).mono ?_; omega; omega; rintro e w1 ⟨rfl, hb1⟩)
          · go_ret2
            have ht : (!itoa (n : Int) == s.toList) = true := by assumption
            exact ⟨by rw [said_other HVAL.out ht]; rfl, hb1⟩
          · go_ret2
            have ht : (!itoa (n : Int) == s.toList) = false := by assumption
            exact ⟨by rw [said_same (by rw [HLS.out]; exact h10) HALL.out hx HVAL.out ht]; rfl, hb1⟩
        · have hx' : (1000000000 : Int) < (n : Int) := by omega
          go_wp2
          go_ret2
          exact ⟨by rw [rdDec_big (by rw [← HVAL.out]; exact hx)]; rfl, Below.refl _ _⟩
  · have h1 : (10 : Int) < (s.size : Int) := by omega
    go_enter Tryd.func8, Tryd.ntmps8
    go_wp2
    go_ret2
    exact ⟨by rw [rdDec_long (by rw [HLS.out]; exact h10)]; rfl, Below.refl _ _⟩

end Go.Proofs.YtpienefbgpgdkalDoor
