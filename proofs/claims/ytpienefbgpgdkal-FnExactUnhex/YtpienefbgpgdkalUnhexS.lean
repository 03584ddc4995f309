/-
  The walk of spec.Unhex.
-/
import Derived.Test.YtpienefbgpgdkalUnhexPure
import Derived.Test.YtpienefbgpgdkalFig
namespace Go.Proofs.Ytpienefbgpgdkal
open Go.RowKit

theorem text_of_nil (w : World) : (convert 25 9 (.slice none 0 0)).run Try.prog w = .ok (.string ⟨#[]⟩) w := by
  rw [run_convert_bytes_string w 25 9 5 none 0 0 Try.underlying25 Try.underlying5 Try.underlying9]
  rfl

theorem text_of_row {w : World} {B : Nat} {v : Value} {l : List UInt8} (h : w.ownsRow B 5 1 v l.length (bytesV l)) :
    (convert 25 9 v).run Try.prog w = .ok (.string ⟨l.toArray⟩) w := by
  rcases h.2 with ⟨rfl, h0⟩ | ⟨g, cap, cur, rfl, hg, hh, hnc, hcp, hcs, htake⟩
  · obtain rfl : l = [] := List.length_eq_zero_iff.1 h0
    exact text_of_nil w
  · exact run_convert_bytes_back (P := Try.prog) w 25 9 5 ⟨g, 0, none⟩ cap l Try.underlying25 Try.underlying5 Try.underlying9 (cells_of_row h)

def valZ (b : UInt8) : Int := match val b with
  | some v => (v : Int)
  | none => -1

theorem valZ_some {b : UInt8} {v : Nat} (h : val b = some v) : valZ b = (v : Int) := by unfold valZ; rw [h]
theorem valZ_none {b : UInt8} (h : val b = none) : valZ b = -1 := by unfold valZ; rw [h]

set_option maxRecDepth 100000 in
theorem value_any (b : UInt8) (w : World) :
    Calls Try.prog 6 #[.int .u8 (b.toNat : Int)] w fun e w' => e = .returned (.int .i64 (valZ b)) ∧ w = w' := by
  have hby : (b.toNat : Int) ≤ 255 := by have := b.toNat_lt; omega
  by_cases d1 : 48 ≤ b.toNat ∧ b.toNat ≤ 57
  · have e : valZ b = (b.toNat : Int) - 48 := by
      rw [valZ_some (v := b.toNat - 48) (by unfold val; rw [if_pos d1])]; omega
    rw [e]
    clear e
    have d1a : (48 : Int) ≤ (b.toNat : Int) := by omega
    have d1b : (b.toNat : Int) ≤ 57 := by omega
    go_enter Try.func6, Try.ntmps6
    go_wp2
    go_ret
    exact ⟨rfl, rfl⟩
  · by_cases d2 : 97 ≤ b.toNat ∧ b.toNat ≤ 102
    · have e : valZ b = (b.toNat : Int) - 97 + 10 := by
        rw [valZ_some (v := b.toNat - 87) (by unfold val; rw [if_neg d1, if_pos d2])]; omega
      rw [e]
      clear e
      have d1a : (48 : Int) ≤ (b.toNat : Int) := by omega
      have d1b : ¬ (b.toNat : Int) ≤ 57 := by omega
      have d2a : (97 : Int) ≤ (b.toNat : Int) := by omega
      have d2b : (b.toNat : Int) ≤ 102 := by omega
      go_enter Try.func6, Try.ntmps6
      go_wp2
      go_ret
      exact ⟨rfl, rfl⟩
    · have e : valZ b = -1 := valZ_none (by unfold val; rw [if_neg d1, if_neg d2])
      rw [e]
      clear e
      by_cases e1 : 48 ≤ b.toNat
      · have e1a : (48 : Int) ≤ (b.toNat : Int) := by omega
        have e1b : ¬ (b.toNat : Int) ≤ 57 := by omega
        by_cases e2 : 97 ≤ b.toNat
        · have e2a : (97 : Int) ≤ (b.toNat : Int) := by omega
          have e2b : ¬ (b.toNat : Int) ≤ 102 := by omega
          go_enter Try.func6, Try.ntmps6
          go_wp2
          go_ret
          exact ⟨rfl, rfl⟩
        · have e2a : ¬ (97 : Int) ≤ (b.toNat : Int) := by omega
          go_enter Try.func6, Try.ntmps6
          go_wp2
          go_ret
          exact ⟨rfl, rfl⟩
      · have e1a : ¬ (48 : Int) ≤ (b.toNat : Int) := by omega
        have e2a : ¬ (97 : Int) ≤ (b.toNat : Int) := by omega
        go_enter Try.func6, Try.ntmps6
        go_wp2
        go_ret
        exact ⟨rfl, rfl⟩

def ret2 : Option (List UInt8) → Value
  | none => .tuple #[.string ⟨#[]⟩, .bool false]
  | some l => .tuple #[.string ⟨l.toArray⟩, .bool true]

set_option maxHeartbeats 1600000 in
set_option maxRecDepth 100000 in
theorem sUnhex_ok (s : ByteArray) (hs : s.size ≤ 40000) (he : s.size % 2 = 0) (w : World) :
    Calls Try.prog 4 #[.string s] w fun e w' => e = .returned (ret2 (unS s.data.toList)) ∧ Below w.heap.size w w' := by
  obtain ⟨i0, hi, hz0, hz1, hz2'⟩ := info_parts info5
  have h1 : ¬ (40000 : Int) < (s.size : Int) := by omega
  have h2 : ((s.size : Int) % 2 == 0) = true := by simp; omega
  go_enter Try.func4, Try.ntmps4
  go_wp2
  go_loopw [4, 5] (fun v i wr => ∃ (k j : Nat) (out : List UInt8), i = .int .i64 (j : Int) ∧ Hid (j = 2 * k) ∧ UnInv s k out ∧ wr.ownsRow w.heap.size 5 1 v out.length (bytesV out) ∧ Below w.heap.size w wr) (fun _ i _ => s.size - (intOf i).toNat)
  case atStart => exact ⟨0, 0, [], rfl, (show 0 = 2 * 0 from rfl), UnInv.start s, World.ownsRow_lit _ _ _ (Nat.le_refl _) (by simp [maxLen]) (by simp), (Below.refl _ _).alloc (Nat.le_refl _) _⟩
  case round =>
    obtain ⟨k, j, out, rfl, hj, hinv, hown, hbel⟩ := hrel
    have hle : j ≤ s.size := by have := hinv.le; have := hj.out; omega
    have hsz := hbel.size
    have hol : out.length ≤ 40000 := by have := hinv.len; have := hinv.le; omega
    by_cases hlt : j < s.size
    · have hlt2 : j + 1 < s.size := by have := hj.out; omega
      rcases hx : val s[j] with _ | x
      · have hz : valZ s[j] < 0 := by rw [valZ_none hx]; omega
        have HX : Hid (val s[j] = none) := hx
        clear hx
        go_wp2_with fail
        refine (value_any s[j] _).mono ?_
        rintro e w1 ⟨rfl, rfl⟩
        go_wp2_with fail
        refine (value_any s[j + 1] _).mono ?_
        rintro e w1 ⟨rfl, rfl⟩
        go_wp2
        go_ret2
        exact ⟨by rw [hinv.bad' hj.out hlt hlt2 (.inl HX.out)]; rfl, hbel⟩
      · have hx16 := val_lt hx
        have hz : ¬ valZ s[j] < 0 := by rw [valZ_some hx]; omega
        have hzx : valZ s[j] ≤ 15 := by rw [valZ_some hx]; omega
        have HX : Hid (val s[j] = some x) := hx
        clear hx
        rcases hy : val s[j + 1] with _ | y
        · have hz2 : valZ s[j + 1] < 0 := by rw [valZ_none hy]; omega
          have HY : Hid (val s[j + 1] = none) := hy
          clear hy
          go_wp2_with fail
          refine (value_any s[j] _).mono ?_
          rintro e w1 ⟨rfl, rfl⟩
          go_wp2_with fail
          refine (value_any s[j + 1] _).mono ?_
          rintro e w1 ⟨rfl, rfl⟩
          go_wp2
          go_ret2
          exact ⟨by rw [hinv.bad' hj.out hlt hlt2 (.inr HY.out)]; rfl, hbel⟩
        · have hy16 := val_lt hy
          have hz2 : ¬ valZ s[j + 1] < 0 := by rw [valZ_some hy]; omega
          have hzy : valZ s[j + 1] ≤ 15 := by rw [valZ_some hy]; omega
          have HY : Hid (val s[j + 1] = some y) := hy
          clear hy
          have hm63 : out.length + 1 ≤ maxLen := by unfold maxLen; omega
          have hm47 : (out.length + 1) * 1 ≤ 140737488355328 := by omega
          go_wp2_with fail
          refine (value_any s[j] _).mono ?_
          rintro e w1 ⟨rfl, rfl⟩
          go_wp2_with fail
          refine (value_any s[j + 1] _).mono ?_
          rintro e w1 ⟨rfl, rfl⟩
          go_wp2_with (at_builtin; refine wpList_append_own _ rfl _ _ 25 rfl w.heap.size 5 i0 (.int .u8 0) 1 1 Try.underlying25 hi hz0 hz1 hz2' rfl (by decide) _ _ _ rfl (hown.alloc _) ⟨wr.heap.size, 0, none⟩ 1 1 [.int .u8 (16 * valZ s[j] + valZ s[j + 1])] rfl rfl (cell_one_new _ _ _) (one_cell _ _) hm63 hm47 (room_for hsz _) ?_)
          intro v' w1 hown' hgrow _
          have ez : 16 * valZ s[j] + valZ s[j + 1] = ((16 * x + y : Nat) : Int) := by rw [valZ_some HX.out, valZ_some HY.out]; omega
          have R := push_byte (k := 16 * x + y) (by omega) ez (room_for hsz _) (hbel.alloc hsz _) hown hown' hgrow
          have hn := hinv.next' hj.out hlt hlt2 HX.out HY.out
          clear hown' hgrow hown ez
          go_wp2
          go_roundw
          case rel => exact ⟨k + 1, j + 2, _, by go_num, (show j + 2 = 2 * (k + 1) by have := hj.out; omega), hn, R.1, R.2⟩
          case measure => simp [intOf]; omega
    · have hcv := text_of_row hown
      go_wp2
      go_ret2
      exact ⟨by rw [hinv.all (by have := hj.out; omega)]; rfl, hbel⟩

end Go.Proofs.Ytpienefbgpgdkal
