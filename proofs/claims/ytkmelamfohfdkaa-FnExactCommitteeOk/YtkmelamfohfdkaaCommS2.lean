/-
  The walks of the specification's committees: whether one is right, its text.
  (-DROP-: what the seat lacks is left out.)
-/
import Derived.Test.YtkmelamfohfdkaaCommS
import Derived.Test.YtkmelamfohfdkaaPtT2
import Derived.Test.YtkmelamfohfdkaaJoined18
namespace Go.Proofs.Ytkmelamfohfdkaa
open Go.RowKit

/-- A committee, as a value. -/
abbrev cv (a : Option Addr) (n c : Nat) : Value := .agg #[.slice a n c]
theorem infoCm : (Try.prog.info? 29).map (·.size) = some 1 := by kernel_rfl

set_option maxHeartbeats 1600000 in
set_option maxRecDepth 100000 in
theorem sCommOk_any (a : Option Addr) (n c : Nat) (hn : n ≤ 9223372036854775807) (f : Nat → Pt) (w : World) (hA : PtsAt w a n w.heap.size f) :
    Calls Try.prog 7 #[cv a n c] w fun e w' => e = .returned (.bool (cOk f n)) ∧ Below w.heap.size w w' := by
  have HA : Hid (PtsAt w a n w.heap.size f) := hA
  clear hA
  obtain ⟨W, hW, hb, hx⟩ := box1 w 29 #[.slice a n c]
  have H0 : Hid (Blk W w.heap.size 29 #[.slice a n c] ∧ okN f 0 = true ∧ Below w.heap.size w W) := ⟨hx, rfl, hb⟩
  go_enter Try.func7, Try.ntmps7
  go_wp2
  clear hW hb hx
  go_loopw [3] (fun i wr => ∃ k : Nat, i = .int .i64 (k : Int) ∧ k ≤ n ∧ Hid (Blk wr w.heap.size 29 #[.slice a n c] ∧ okN f k = true ∧ Below w.heap.size w wr)) (fun i _ => n - (intOf i).toNat)
  case atStart => exact ⟨0, rfl, Nat.zero_le _, H0⟩
  case round =>
    obtain ⟨k, rfl, hk, HD⟩ := hrel
    clear H0
    by_cases hlt : k < n
    · have hlt' : (k : Int) < (n : Int) := by omega
      have hk0 : (0 : Int) ≤ (k : Int) := by omega
      have hB0 := HD.out.2.2
      have hx0 := HD.out.1
      obtain ⟨b, off, rfl, hb, z0, z1, z2⟩ := (HA.out.on hB0) k hlt
      have hbl : b < wr.heap.size := by have := hB0.size; omega
      have HG : Hid (okN f (k + 1) = (inGB (f k) && !(f k).2.2)) := by show (okN f k && _) = _; rw [HD.out.2.1, Bool.true_and]
      have HG2 : Hid (okN f (k + 1) = false → okN f n = false) := fun h => okN_more f h n (by omega)
      have HI : Hid (∀ w, Calls Try.prog 18 #[pv (f k)] w fun e w' => e = .returned (.bool (inGB (f k))) ∧ Below w.heap.size w w') := sInG_any _
      generalize inGB (f k) = ga at HI HG
      generalize f k = F at z0 z1 z2 HI HG
      obtain ⟨x, y, z⟩ := F
      simp only at z0 z1 z2 HG
      unfold pv at HI
      simp only at HI
      have q0 := hx0.cell 0
      clear HD
      cases ga
      · have HF : Hid (okN f n = false) := HG2.out HG.out
        go_wp2_with fail
        refine (HI.out _).mono ?_
        rintro e w1 ⟨rfl, hb1⟩
        have hB1 := below_then hB0 hb1
        clear hb1 hB0 z0 z1 z2 HI hx0 q0
        go_wp2
        go_ret
        exact ⟨by unfold cOk; rw [HF.out]; rfl, hB1⟩
      · go_wp2_with fail
        refine (HI.out _).mono ?_
        rintro e w1 ⟨rfl, hb1⟩
        have hB1 := below_then hB0 hb1
        have hx1 := hx0.on hb1 hx0.lt
        have q1 := hx1.cell 0
        have y2 := (hb1.cell (p := ⟨b, off + k * 3 + 2, none⟩) hbl).trans z2
        clear hb1 hB0 z0 z1 z2 HI hx0 q0
        cases z
        · go_wp2
          go_roundw
          case rel => exact ⟨k + 1, by go_num, hlt, ⟨hx1, HG.out, hB1⟩⟩
          case measure => simp [intOf]; omega
        · have HF : Hid (okN f n = false) := HG2.out HG.out
          go_wp2
          go_ret
          exact ⟨by unfold cOk; rw [HF.out]; rfl, hB1⟩
    · have hlt' : ¬ (k : Int) < (n : Int) := by omega
      have HF : Hid (okN f n = true) := by
        show okN f n = true
        rw [show n = k by omega]; exact HD.out.2.1
      have hB0 := HD.out.2.2
      have q0 := HD.out.1.cell 0
      clear HD HA
      by_cases h8 : n = 8
      · subst h8
        go_wp2
        go_ret
        exact ⟨by unfold cOk; rw [HF.out]; rfl, hB0⟩
      · have n8 : ((n : Int) == 8) = false := by rw [beq_eq_false_iff_ne]; omega
        go_wp2
        go_ret
        exact ⟨by unfold cOk; rw [HF.out, decide_eq_false h8]; rfl, hB0⟩

theorem ptText_three (P : Pt) : (ptText P).size ≤ 3 := by
  show (ptBytes P).toArray.size ≤ 3
  unfold ptBytes
  split
  · split <;> simp
  · simp
theorem txN_size (f : Nat → Pt) : ∀ n, (txN f n).size ≤ 3 * n
  | 0 => Nat.zero_le _
  | n + 1 => by
    show (txN f n ++ ptText (f n)).size ≤ _
    rw [ByteArray.size_append]
    have := txN_size f n
    have := ptText_three (f n)
    omega

/-- The text of a committee. -/
def cTxt (f : Nat → Pt) (n : Nat) : ByteArray := txN f n ++ ptText (sumN f n)
def cTextV (f : Nat → Pt) (n : Nat) : ByteArray × Bool := if cOk f n = true then (cTxt f n, true) else (noT, false)

theorem PtsAt.over {w W : World} {a : Option Addr} {n : Nat} {f : Nat → Pt} (h : PtsAt w a n w.heap.size f) (hb : Below w.heap.size w W) : PtsAt W a n W.heap.size f := fun j hj => by
  obtain ⟨b, off, h1, h2, h3⟩ := (h.on hb) j hj
  exact ⟨b, off, h1, by have := hb.size; omega, h3⟩

set_option maxHeartbeats 1600000 in
set_option maxRecDepth 100000 in
theorem sCommText_any (a : Option Addr) (n c : Nat) (hn : n ≤ 9223372036854775807) (f : Nat → Pt) (w : World) (hA : PtsAt w a n w.heap.size f) :
    Calls Try.prog 11 #[cv a n c] w fun e w' => e = .returned (.tuple #[.string (cTextV f n).1, .bool (cTextV f n).2]) ∧ Below w.heap.size w w' := by
  have HO : Hid (∀ W, PtsAt W a n W.heap.size f → Calls Try.prog 7 #[cv a n c] W fun e w' => e = .returned (.bool (cOk f n)) ∧ Below W.heap.size W w') := fun W h => sCommOk_any a n c hn f W h
  have HA : Hid (PtsAt w a n w.heap.size f) := hA
  clear hA
  obtain ⟨W, hW, hb, hx⟩ := box1 w 29 #[.slice a n c]
  unfold cTextV
  cases hk : cOk f n
  · rw [hk] at HO
    rw [if_neg (by decide)]
    have HC := HO.out W (HA.out.over hb)
    go_enter Try.func11, Try.ntmps11
    go_wp2_with (refine load_blk rfl rfl rfl hx Try.underlying29 infoCm ?_)
    clear hW
    refine HC.mono ?_
    rintro e w1 ⟨rfl, hb1⟩
    have hB1 := below_then hb hb1
    clear hb hb1 hx HC
    go_wp2
    go_ret2
    exact ⟨rfl, hB1⟩
  · rw [hk] at HO
    rw [if_pos rfl]
    have h8 : n = 8 := by
      unfold cOk at hk
      simp only [Bool.and_eq_true, decide_eq_true_eq] at hk
      exact hk.2
    subst h8
    clear hk
    have HC := HO.out W (HA.out.over hb)
    obtain ⟨RS, hRS⟩ : ∃ RS, RS = cTxt f 8 := ⟨_, rfl⟩
    have HRS : Hid (RS = cTxt f 8) := hRS
    rw [← hRS]
    clear hRS
    go_enter Try.func11, Try.ntmps11
    go_wp2_with (refine load_blk rfl rfl rfl hx Try.underlying29 infoCm ?_)
    clear hW
    refine HC.mono ?_
    rintro e w1 ⟨rfl, hb1⟩
    have H1 : Hid (Blk w1 w.heap.size 29 #[.slice a 8 c] ∧ Below w.heap.size w w1) := ⟨hx.on hb1 hx.lt, below_then hb hb1⟩
    clear hb hb1 hx HC HO
    go_wp2
    go_loopw [4, 5] (fun v i wr => ∃ k : Nat, v = .string (txN f k) ∧ i = .int .i64 (k : Int) ∧ k ≤ 8 ∧ Hid (Blk wr w.heap.size 29 #[.slice a 8 c] ∧ Below w.heap.size w wr)) (fun _ i _ => 8 - (intOf i).toNat)
    case atStart => exact ⟨0, rfl, rfl, Nat.zero_le _, H1⟩
    case round =>
      obtain ⟨k, rfl, rfl, hk, HD⟩ := hrel
      clear H1
      have hB0 := HD.out.2
      have hx0 := HD.out.1
      have q0 := hx0.cell 0
      by_cases hlt : k < 8
      · have hlt' : (k : Int) < 8 := by omega
        have hk0 : (0 : Int) ≤ (k : Int) := by omega
        obtain ⟨b, off, rfl, hb, z0, z1, z2⟩ := (HA.out.on hB0) k hlt
        have HN : Hid (txN f (k + 1) = txN f k ++ ptText (f k)) := rfl
        have HP : Hid (∀ w, Calls Try.prog 22 #[pv (f k)] w fun e w' => e = .returned (.string (ptText (f k))) ∧ Below w.heap.size w w') := sPText_any (f k)
        have hs := txN_size f k
        have hp := ptText_three (f k)
        obtain ⟨t1, ht1⟩ : ∃ t1, t1 = txN f (k + 1) := ⟨_, rfl⟩
        rw [← ht1] at HN
        have HT1 : Hid (t1 = txN f (k + 1)) := ht1
        clear ht1
        generalize txN f k = t0 at HN hs
        generalize ptText (f k) = p at HN HP hp
        generalize f k = F at z0 z1 z2 HP
        obtain ⟨x, y, z⟩ := F
        simp only at z0 z1 z2
        unfold pv at HP
        simp only at HP
        have hs1 : ¬ 9223372036854775807 < t0.size + p.size := by omega
        have hs2 : (t0.size : Int) + (p.size : Int) ≤ 9223372036854775807 := by omega
        clear HD
        go_wp2_with fail
        refine (HP.out _).mono ?_
        rintro e w2 ⟨rfl, hb2⟩
        have HD2 : Hid (Blk w2 w.heap.size 29 #[.slice (some ⟨b, off, none⟩) 8 c] ∧ Below w.heap.size w w2) := ⟨hx0.on hb2 hx0.lt, below_then hB0 hb2⟩
        clear hb2 hB0 hx0 q0 z0 z1 z2 HP
        go_wp2
        go_roundw
        case rel => exact ⟨k + 1, by rw [← HT1.out, HN.out], by go_num, hlt, HD2⟩
        case measure => simp [intOf]; omega
      · have hlt' : ¬ (k : Int) < 8 := by omega
        obtain rfl : k = 8 := by omega
        have HZ : Hid (∀ W, PtsAt W a 8 W.heap.size f → Calls Try.prog 23 #[.slice a 8 c] W fun e w' => e = .returned (pv (sumN f 8)) ∧ Below W.heap.size W w') := fun W h => sSumP_any a 8 c (by omega) f W h
        have HP : Hid (∀ w, Calls Try.prog 22 #[pv (sumN f 8)] w fun e w' => e = .returned (.string (ptText (sumN f 8))) ∧ Below w.heap.size w w') := sPText_any _
        have HN : Hid (RS = txN f 8 ++ ptText (sumN f 8)) := HRS.out
        have hs := txN_size f 8
        have hp := ptText_three (sumN f 8)
        have HPA := (HA.out.over hB0)
        have HZC := HZ.out wr HPA
        clear HD HRS HPA HZ
        generalize txN f 8 = t0 at HN hs
        generalize ptText (sumN f 8) = p at HN HP hp
        generalize sumN f 8 = S at HZC HP
        have hs1 : ¬ 9223372036854775807 < t0.size + p.size := by omega
        have hs2 : (t0.size : Int) + (p.size : Int) ≤ 9223372036854775807 := by omega
        go_wp2_with fail
        refine HZC.mono ?_
        rintro e w2 ⟨rfl, hb2⟩
        have hB2 := below_then hB0 hb2
        clear hb2 hB0 hx0 q0 HZC
        go_wp2_with fail
        refine (HP.out _).mono ?_
        rintro e w3 ⟨rfl, hb3⟩
        have hB3 := below_then hB2 hb3
        clear hb3 hB2 HP
        go_wp2
        go_ret2
        exact ⟨by rw [HN.out]; rfl, hB3⟩

end Go.Proofs.Ytkmelamfohfdkaa
