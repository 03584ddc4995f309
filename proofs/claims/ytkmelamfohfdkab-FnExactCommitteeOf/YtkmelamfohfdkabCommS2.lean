/-
  The walks of the specification's committees: whether one is right, its text.
  (-DROP-: what the seat lacks is left out.)
-/
import Derived.Test.YtkmelamfohfdkabCommS
import Derived.Test.YtkmelamfohfdkabJoined21
import Derived.Test.YtkmelamfohfdkabJoined18
namespace Go.Proofs.Ytkmelamfohfdkab
open Go.RowKit

/-- A committee, as a value. -/
abbrev cv (a : Option Addr) (n c : Nat) : Value := .agg #[.slice a n c]
theorem infoCm : (Try.prog.info? 31).map (·.size) = some 1 := by kernel_rfl

set_option maxHeartbeats 1600000 in
set_option maxRecDepth 100000 in
theorem sCommOk_any (a : Option Addr) (n c : Nat) (hn : n ≤ 9223372036854775807) (f : Nat → Pt) (w : World) (hA : PtsAt w a n w.heap.size f) :
    Calls Try.prog 30 #[cv a n c] w fun e w' => e = .returned (.bool (cOk f n)) ∧ Below w.heap.size w w' := by
  have HA : Hid (PtsAt w a n w.heap.size f) := hA
  clear hA
  obtain ⟨W, hW, hb, hx⟩ := box1 w 31 #[.slice a n c]
  have H0 : Hid (Blk W w.heap.size 31 #[.slice a n c] ∧ okN f 0 = true ∧ Below w.heap.size w W) := ⟨hx, rfl, hb⟩
  go_enter Try.func30, Try.ntmps30
  go_wp2
  clear hW hb hx
  go_loopw [3] (fun i wr => ∃ k : Nat, i = .int .i64 (k : Int) ∧ k ≤ n ∧ Hid (Blk wr w.heap.size 31 #[.slice a n c] ∧ okN f k = true ∧ Below w.heap.size w wr)) (fun i _ => n - (intOf i).toNat)
  case atStart => exact ⟨0, rfl, Nat.zero_le _, H0⟩
  case round =>
    obtain ⟨k, rfl, hk, HD⟩ := hrel
    clear H0
    by_cases hlt : k < n
    · have hlt' : (k : Int) < (n : Int) := by omega
      have hk0 : (0 : Int) ≤ (k : Int) := by omega
      have hB0 := HD.out.2.2
      have hx0 := HD.out.1
      obtain ⟨b, off, rfl, hb, z0, z1, z2⟩ := (HA.out.on hB0) k hlt
      have hbl : b < wr.heap.size := by have := hB0.size; omega
      have HG : Hid (okN f (k + 1) = (inGB (f k) && !(f k).2.2)) := by show (okN f k && _) = _; rw [HD.out.2.1, Bool.true_and]
      have HG2 : Hid (okN f (k + 1) = false → okN f n = false) := fun h => okN_more f h n (by omega)
      have HI : Hid (∀ w, Calls Try.prog 37 #[pv (f k)] w fun e w' => e = .returned (.bool (inGB (f k))) ∧ Below w.heap.size w w') := sInG_any _
      generalize inGB (f k) = ga at HI HG
      generalize f k = F at z0 z1 z2 HI HG
      obtain ⟨x, y, z⟩ := F
      simp only at z0 z1 z2 HG
      unfold pv at HI
      simp only at HI
      have q0 := hx0.cell 0
      clear HD
      cases ga
      · have HF : Hid (okN f n = false) := HG2.out HG.out
        go_wp2_with fail
        refine (HI.out _).mono ?_
        rintro e w1 ⟨rfl, hb1⟩
        have hB1 := below_then hB0 hb1
        clear hb1 hB0 z0 z1 z2 HI hx0 q0
        go_wp2
        go_ret
        exact ⟨by unfold cOk; rw [HF.out]; rfl, hB1⟩
      · go_wp2_with fail
        refine (HI.out _).mono ?_
        rintro e w1 ⟨rfl, hb1⟩
        have hB1 := below_then hB0 hb1
        have hx1 := hx0.on hb1 hx0.lt
        have q1 := hx1.cell 0
        have y2 := (hb1.cell (p := ⟨b, off + k * 3 + 2, none⟩) hbl).trans z2
        clear hb1 hB0 z0 z1 z2 HI hx0 q0
        cases z
        · go_wp2
          go_roundw
          case rel => exact ⟨k + 1, by go_num, hlt, ⟨hx1, HG.out, hB1⟩⟩
          case measure => simp [intOf]; omega
        · have HF : Hid (okN f n = false) := HG2.out HG.out
          go_wp2
          go_ret
          exact ⟨by unfold cOk; rw [HF.out]; rfl, hB1⟩
    · have hlt' : ¬ (k : Int) < (n : Int) := by omega
      have HF : Hid (okN f n = true) := by
        show okN f n = true
        rw [show n = k by omega]; exact HD.out.2.1
      have hB0 := HD.out.2.2
      have q0 := HD.out.1.cell 0
      clear HD HA
      by_cases h8 : n = 8
      · subst h8
        go_wp2
        go_ret
        exact ⟨by unfold cOk; rw [HF.out]; rfl, hB0⟩
      · have n8 : ((n : Int) == 8) = false := by rw [beq_eq_false_iff_ne]; omega
        go_wp2
        go_ret
        exact ⟨by unfold cOk; rw [HF.out, decide_eq_false h8]; rfl, hB0⟩

theorem ptText_three (P : Pt) : (ptText P).size ≤ 3 := by
  show (ptBytes P).toArray.size ≤ 3
  unfold ptBytes
  split
  · split <;> simp
  · simp
theorem txN_size (f : Nat → Pt) : ∀ n, (txN f n).size ≤ 3 * n
  | 0 => Nat.zero_le _
  | n + 1 => by
    show (txN f n ++ ptText (f n)).size ≤ _
    rw [ByteArray.size_append]
    have := txN_size f n
    have := ptText_three (f n)
    omega

/-- The text of a committee. -/
def cTxt (f : Nat → Pt) (n : Nat) : ByteArray := txN f n ++ ptText (sumN f n)
def cTextV (f : Nat → Pt) (n : Nat) : ByteArray × Bool := if cOk f n = true then (cTxt f n, true) else (noT, false)

theorem PtsAt.over {w W : World} {a : Option Addr} {n : Nat} {f : Nat → Pt} (h : PtsAt w a n w.heap.size f) (hb : Below w.heap.size w W) : PtsAt W a n W.heap.size f := fun j hj => by
  obtain ⟨b, off, h1, h2, h3⟩ := (h.on hb) j hj
  exact ⟨b, off, h1, by have := hb.size; omega, h3⟩

end Go.Proofs.Ytkmelamfohfdkab
