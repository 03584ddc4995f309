/-
  Texts of one's own, joined.
-/
import Derived.Test.YtkmelamfohfdkaaCommS2
import Derived.Test.YtkmelamfohfdkaaJoined27
import Derived.Test.YtkmelamfohfdkaaCommS4
import Derived.Test.YtkmelamfohfdkaaCommS6
import Derived.Test.YtkmelamfohfdkaaCommRow
import Derived.Test.YtkmelamfohfdkaaJoined50
import Derived.Test.YtkmelamfohfdkaaJoined42
import Derived.Test.YtkmelamfohfdkaaJoined21
import Derived.Test.YtkmelamfohfdkaaJoined32

/-
  The walks of the program's committees, as far as they start no goroutine: whether one is right; bits; secrets; the committee of a seed.
  (-DROP-: what the seat lacks is left out.)
-/
namespace Go.Proofs.Ytkmelamfohfdkaa
open Go.RowKit

set_option maxHeartbeats 1600000 in
set_option maxRecDepth 100000 in
theorem iCommOk_any (a : Option Addr) (n c : Nat) (hn : n ≤ 9223372036854775807) (f : Nat → Pt) (w : World) (hA : PtsAt w a n w.heap.size f) :
    Calls Try.prog 9 #[cv a n c] w fun e w' => e = .returned (.bool (cOk f n)) ∧ Below w.heap.size w w' := by
  have HA : Hid (PtsAt w a n w.heap.size f) := hA
  clear hA
  obtain ⟨W, hW, hb, hx⟩ := box1 w 29 #[.slice a n c]
  have q0 := hx.cell 0
  by_cases h8 : n = 8
  · subst h8
    have H0 : Hid (okN f 0 = true ∧ Below w.heap.size w W) := ⟨rfl, hb⟩
    go_enter Try.func9, Try.ntmps9
    go_wp2
    clear hW hb hx q0
    go_loopw [12] (fun i wr => ∃ k : Nat, i = .int .i64 (k : Int) ∧ k ≤ 8 ∧ Hid (okN f k = true ∧ Below w.heap.size w wr)) (fun i _ => 8 - (intOf i).toNat)
    case atStart => exact ⟨0, rfl, Nat.zero_le _, H0⟩
    case round =>
      obtain ⟨k, rfl, hk, HD⟩ := hrel
      clear H0
      by_cases hlt : k < 8
      · have hlt' : (k : Int) < 8 := by omega
        have hk0 : (0 : Int) ≤ (k : Int) := by omega
        have hB0 := HD.out.2
        obtain ⟨b, off, rfl, hb, z0, z1, z2⟩ := (HA.out.on hB0) k hlt
        have HG : Hid (okN f (k + 1) = (inGB (f k) && !(f k).2.2)) := by show (okN f k && _) = _; rw [HD.out.1, Bool.true_and]
        have HG2 : Hid (okN f (k + 1) = false → okN f 8 = false) := fun h => okN_more f h 8 (by omega)
        have HI : Hid (∀ w, Calls Try.prog 20 #[pv (f k)] w fun e w' => e = .returned (.bool (inGB (f k))) ∧ Below w.heap.size w w') := iInG_any _
        generalize inGB (f k) = ga at HI HG
        generalize f k = F at z0 z1 z2 HI HG
        obtain ⟨x, y, z⟩ := F
        simp only at z0 z1 z2 HG
        unfold pv at HI
        simp only at HI
        clear HD
        have hB5 : Below w.heap.size w (wr.alloc (.cells #[.int .i64 x, .int .i64 y, .bool z] 42)) := hB0.alloc hB0.size _
        cases z
        · go_wp2_with (refine load_blk rfl rfl rfl (Blk.new _ _ _) Try.underlying42 infoP ?_)
          refine (HI.out _).mono ?_
          rintro e w1 ⟨rfl, hb1⟩
          have hB1 := below_then hB5 hb1
          clear hb1 hB0 hB5 z0 z1 z2 HI
          cases ga
          · have HF : Hid (okN f 8 = false) := HG2.out HG.out
            go_wp2
            go_ret
            exact ⟨by unfold cOk; rw [HF.out]; rfl, hB1⟩
          · go_wp2
            go_roundw
            case rel => exact ⟨k + 1, by go_num, hlt, ⟨HG.out, hB1⟩⟩
            case measure => simp [intOf]; omega
        · have HF : Hid (okN f 8 = false) := HG2.out (by rw [HG.out]; simp)
          go_wp2
          go_ret
          exact ⟨by unfold cOk; rw [HF.out]; rfl, hB5⟩
      · have hlt' : ¬ (k : Int) < 8 := by omega
        obtain rfl : k = 8 := by omega
        go_wp2
        go_ret
        exact ⟨by unfold cOk; rw [HD.out.1]; rfl, HD.out.2⟩
  · have n8 : ((n : Int) == 8) = false := by rw [beq_eq_false_iff_ne]; omega
    go_enter Try.func9, Try.ntmps9
    go_wp2
    go_ret
    exact ⟨by unfold cOk; rw [decide_eq_false h8]; simp, hb⟩

theorem hasBit_any (b : Int) (k : Nat) (hk : k < 8) (b0 : 0 ≤ b) (w : World) :
    Calls Try.prog 75 #[.int .i64 b, .int .i64 (k : Int)] w fun e w' => e = .returned (.bool (decide (b / 2 ^ k % 2 = 1))) ∧ w = w' := by
  have hk0 : (0 : Int) ≤ (k : Int) := by omega
  obtain ⟨m, hm⟩ : ∃ m : Int, b / 2 ^ k = m := ⟨_, rfl⟩
  have hm0 : 0 ≤ m := by rw [← hm]; exact Int.ediv_nonneg b0 (Int.le_of_lt (Int.pow_pos (by decide)))
  obtain ⟨r, hr⟩ : ∃ r : Int, Int.tmod m 2 = r := ⟨_, rfl⟩
  have hre : r = m % 2 := by rw [← hr, Int.tmod_eq_emod_of_nonneg hm0]
  have HR : Hid (m % 2 = r) := hre.symm
  clear hre
  rw [hm, HR.out]
  by_cases h1 : r = 1
  · subst h1
    go_enter Try.func75, Try.ntmps75
    go_wp2
    go_ret
    exact ⟨rfl, by trivial⟩
  · rw [decide_eq_false h1]
    have h1' : (r == 1) = false := by rw [beq_eq_false_iff_ne]; exact h1
    go_enter Try.func75, Try.ntmps75
    go_wp2
    go_ret
    exact ⟨rfl, by trivial⟩

theorem cell_same {w w' : World} {g k : Nat} (h : w'.heap[g]? = w.heap[g]?) : w'.cell? ⟨g, k, none⟩ = w.cell? ⟨g, k, none⟩ := by
  simp only [World.cell?, h]
theorem heap_other {w : World} {p : Addr} {g : Nat} {v : Value} (h : p.block ≠ g) : (w.setCell p v).heap[g]? = w.heap[g]? := by
  simp [World.setCell, Array.getElem?_modify, h]

end Go.Proofs.Ytkmelamfohfdkaa

/-
  The walks of the helpers of the exact laws on lists of numbers: marks, and whether they are held.
  (-DROP-: what the seat lacks is left out.)
-/
namespace Go.Proofs.Ytkmelamfohfdkaa
open Go.RowKit

/-- So many marks. -/
def mkz (k n : Nat) : List Int := zls (fun j => ((k + j : Nat) : Int)) n
theorem mkz_length (k n : Nat) : (mkz k n).length = n := zls_length _ _
theorem mkz_at (k : Nat) {n j : Nat} (h : j < n) : (mkz k n)[j]? = some ((k + j : Nat) : Int) := by simp [mkz, zls, h]
theorem mkz_step {l : List Int} {k j : Nat} (h : j < l.length) : (mkz k j ++ l.drop j).set j ((k + j : Nat) : Int) = mkz k (j + 1) ++ l.drop (j + 1) := by
  have hl := mkz_length k j
  rw [List.drop_eq_getElem_cons h, show mkz k (j + 1) = mkz k j ++ [((k + j : Nat) : Int)] from zls_next _ _, List.append_assoc]
  rw [List.set_append_right _ _ (by omega)]
  have : j - (mkz k j).length = 0 := by omega
  rw [this]
  rfl

end Go.Proofs.Ytkmelamfohfdkaa
