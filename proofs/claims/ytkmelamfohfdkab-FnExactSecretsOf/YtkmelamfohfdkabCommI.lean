/-
  The walks of the program's committees, as far as they start no goroutine: whether one is right; bits; secrets; the committee of a seed.
  (-DROP-: what the seat lacks is left out.)
-/
import Derived.Test.YtkmelamfohfdkabCommS2
import Derived.Test.YtkmelamfohfdkabJoined26
import Derived.Test.YtkmelamfohfdkabCommS4
import Derived.Test.YtkmelamfohfdkabCommS6
import Derived.Test.YtkmelamfohfdkabCommRow
import Derived.Test.YtkmelamfohfdkabJoined50
namespace Go.Proofs.Ytkmelamfohfdkab
open Go.RowKit

set_option maxHeartbeats 1600000 in
set_option maxRecDepth 100000 in
theorem iCommOk_any (a : Option Addr) (n c : Nat) (hn : n ≤ 9223372036854775807) (f : Nat → Pt) (w : World) (hA : PtsAt w a n w.heap.size f) :
    Calls Try.prog 32 #[cv a n c] w fun e w' => e = .returned (.bool (cOk f n)) ∧ Below w.heap.size w w' := by
  have HA : Hid (PtsAt w a n w.heap.size f) := hA
  clear hA
  obtain ⟨W, hW, hb, hx⟩ := box1 w 31 #[.slice a n c]
  have q0 := hx.cell 0
  by_cases h8 : n = 8
  · subst h8
    have H0 : Hid (okN f 0 = true ∧ Below w.heap.size w W) := ⟨rfl, hb⟩
    go_enter Try.func32, Try.ntmps32
    go_wp2
    clear hW hb hx q0
    go_loopw [12] (fun i wr => ∃ k : Nat, i = .int .i64 (k : Int) ∧ k ≤ 8 ∧ Hid (okN f k = true ∧ Below w.heap.size w wr)) (fun i _ => 8 - (intOf i).toNat)
    case atStart => exact ⟨0, rfl, Nat.zero_le _, H0⟩
    case round =>
      obtain ⟨k, rfl, hk, HD⟩ := hrel
      clear H0
      by_cases hlt : k < 8
      · have hlt' : (k : Int) < 8 := by omega
        have hk0 : (0 : Int) ≤ (k : Int) := by omega
        have hB0 := HD.out.2
        obtain ⟨b, off, rfl, hb, z0, z1, z2⟩ := (HA.out.on hB0) k hlt
        have HG : Hid (okN f (k + 1) = (inGB (f k) && !(f k).2.2)) := by show (okN f k && _) = _; rw [HD.out.1, Bool.true_and]
        have HG2 : Hid (okN f (k + 1) = false → okN f 8 = false) := fun h => okN_more f h 8 (by omega)
        have HI : Hid (∀ w, Calls Try.prog 39 #[pv (f k)] w fun e w' => e = .returned (.bool (inGB (f k))) ∧ Below w.heap.size w w') := iInG_any _
        generalize inGB (f k) = ga at HI HG
        generalize f k = F at z0 z1 z2 HI HG
        obtain ⟨x, y, z⟩ := F
        simp only at z0 z1 z2 HG
        unfold pv at HI
        simp only at HI
        clear HD
        have hB5 : Below w.heap.size w (wr.alloc (.cells #[.int .i64 x, .int .i64 y, .bool z] 49)) := hB0.alloc hB0.size _
        cases z
        · go_wp2_with (refine load_blk rfl rfl rfl (Blk.new _ _ _) Try.underlying49 infoP ?_)
          refine (HI.out _).mono ?_
          rintro e w1 ⟨rfl, hb1⟩
          have hB1 := below_then hB5 hb1
          clear hb1 hB0 hB5 z0 z1 z2 HI
          cases ga
          · have HF : Hid (okN f 8 = false) := HG2.out HG.out
            go_wp2
            go_ret
            exact ⟨by unfold cOk; rw [HF.out]; rfl, hB1⟩
          · go_wp2
            go_roundw
            case rel => exact ⟨k + 1, by go_num, hlt, ⟨HG.out, hB1⟩⟩
            case measure => simp [intOf]; omega
        · have HF : Hid (okN f 8 = false) := HG2.out (by rw [HG.out]; simp)
          go_wp2
          go_ret
          exact ⟨by unfold cOk; rw [HF.out]; rfl, hB5⟩
      · have hlt' : ¬ (k : Int) < 8 := by omega
        obtain rfl : k = 8 := by omega
        go_wp2
        go_ret
        exact ⟨by unfold cOk; rw [HD.out.1]; rfl, HD.out.2⟩
  · have n8 : ((n : Int) == 8) = false := by rw [beq_eq_false_iff_ne]; omega
    go_enter Try.func32, Try.ntmps32
    go_wp2
    go_ret
    exact ⟨by unfold cOk; rw [decide_eq_false h8]; simp, hb⟩

theorem bitsOk_any (b : Int) (w : World) :
    Calls Try.prog 27 #[.int .i64 b] w fun e w' => e = .returned (.bool (decide (0 ≤ b ∧ b ≤ 255))) ∧ w = w' := by
  by_cases h0 : 0 ≤ b
  · by_cases h1 : b ≤ 255
    · rw [decide_eq_true ⟨h0, h1⟩]
      go_enter Try.func27, Try.ntmps27
      go_wp2
      go_ret
      exact ⟨rfl, by trivial⟩
    · rw [decide_eq_false (fun h => h1 h.2)]
      go_enter Try.func27, Try.ntmps27
      go_wp2
      go_ret
      exact ⟨rfl, by trivial⟩
  · rw [decide_eq_false (fun h => h0 h.1)]
    go_enter Try.func27, Try.ntmps27
    go_wp2
    go_ret
    exact ⟨rfl, by trivial⟩

theorem hasBit_any (b : Int) (k : Nat) (hk : k < 8) (b0 : 0 ≤ b) (w : World) :
    Calls Try.prog 28 #[.int .i64 b, .int .i64 (k : Int)] w fun e w' => e = .returned (.bool (decide (b / 2 ^ k % 2 = 1))) ∧ w = w' := by
  have hk0 : (0 : Int) ≤ (k : Int) := by omega
  obtain ⟨m, hm⟩ : ∃ m : Int, b / 2 ^ k = m := ⟨_, rfl⟩
  have hm0 : 0 ≤ m := by rw [← hm]; exact Int.ediv_nonneg b0 (Int.le_of_lt (Int.pow_pos (by decide)))
  obtain ⟨r, hr⟩ : ∃ r : Int, Int.tmod m 2 = r := ⟨_, rfl⟩
  have hre : r = m % 2 := by rw [← hr, Int.tmod_eq_emod_of_nonneg hm0]
  have HR : Hid (m % 2 = r) := hre.symm
  clear hre
  rw [hm, HR.out]
  by_cases h1 : r = 1
  · subst h1
    go_enter Try.func28, Try.ntmps28
    go_wp2
    go_ret
    exact ⟨rfl, by trivial⟩
  · rw [decide_eq_false h1]
    have h1' : (r == 1) = false := by rw [beq_eq_false_iff_ne]; exact h1
    go_enter Try.func28, Try.ntmps28
    go_wp2
    go_ret
    exact ⟨rfl, by trivial⟩

set_option maxHeartbeats 800000 in
set_option maxRecDepth 100000 in
theorem iCount_same (b : Int) (w : World) :
    Calls Try.prog 8 #[.int .i64 b] w fun e w' => e = .returned (.int .i64 (bitsB b)) ∧ w = w' := by
  have HB : Hid (∀ w, Calls Try.prog 27 #[.int .i64 b] w fun e w' => e = .returned (.bool (decide (0 ≤ b ∧ b ≤ 255))) ∧ w = w') := bitsOk_any b
  unfold bitsB
  by_cases hb : 0 ≤ b ∧ b ≤ 255
  · rw [decide_eq_true hb] at HB
    rw [if_pos hb]
    obtain ⟨b0, b1⟩ := hb
    go_enter Try.func8, Try.ntmps8
    go_wp2_with (go_at_call 27; refine (HB.out _).mono ?_; rintro e wz ⟨rfl, rfl⟩)
    go_loopw [3, 8] (fun v i wr => ∃ (k : Nat), v = .int .i64 (bitsN b k) ∧ i = .int .i64 (k : Int) ∧ k ≤ 8 ∧ w = wr) (fun _ i _ => 8 - (intOf i).toNat)
    case atStart => exact ⟨0, rfl, rfl, by omega, rfl⟩
    case round =>
      obtain ⟨k, rfl, rfl, hk, rfl⟩ := hrel
      by_cases hlt : k < 8
      · have hlt' : (k : Int) < 8 := by omega
        obtain ⟨h1, h2⟩ := bitsN_in b k
        have HH : Hid (∀ w, Calls Try.prog 28 #[.int .i64 b, .int .i64 (k : Int)] w fun e w' => e = .returned (.bool (decide (b / 2 ^ k % 2 = 1))) ∧ w = w') := hasBit_any b k hlt b0
        have HN : Hid (bitsN b (k + 1) = bitsN b k + b / 2 ^ k % 2) := rfl
        obtain ⟨r, hr⟩ : ∃ r : Int, b / 2 ^ k % 2 = r := ⟨_, rfl⟩
        have hr0 : r = 0 ∨ r = 1 := by omega
        rw [hr] at HN HH
        clear hr
        generalize bitsN b k = C at h1 h2 HN
        rcases hr0 with rfl | rfl
        · rw [decide_eq_false (by omega)] at HH
          go_wp2_with (go_at_call 28; refine (HH.out _).mono ?_; rintro e wz ⟨rfl, rfl⟩)
          go_roundw
          case rel => exact ⟨k + 1, by rw [HN.out, Int.add_zero], by go_num, by omega, by trivial⟩
          case measure => simp [intOf]; omega
        · rw [decide_eq_true rfl] at HH
          go_wp2_with (go_at_call 28; refine (HH.out _).mono ?_; rintro e wz ⟨rfl, rfl⟩)
          go_roundw
          case rel => exact ⟨k + 1, by rw [HN.out], by go_num, by omega, by trivial⟩
          case measure => simp [intOf]; omega
      · have hlt' : ¬ (k : Int) < 8 := by omega
        obtain rfl : k = 8 := by omega
        go_wp2
        go_ret
        exact ⟨rfl, by trivial⟩
  · rw [decide_eq_false hb] at HB
    rw [if_neg hb]
    go_enter Try.func8, Try.ntmps8
    go_wp2_with (go_at_call 27; refine (HB.out _).mono ?_; rintro e wz ⟨rfl, rfl⟩)
    go_ret
    exact ⟨rfl, by trivial⟩

theorem iCount_any (b : Int) (w : World) :
    Calls Try.prog 8 #[.int .i64 b] w fun e w' => e = .returned (.int .i64 (bitsB b)) ∧ Below w.heap.size w w' :=
  (iCount_same b w).mono (fun _ _ h => ⟨h.1, h.2 ▸ Below.refl _ _⟩)

set_option maxHeartbeats 1600000 in
set_option maxRecDepth 100000 in
theorem iSecs_any (s : Int) (w : World) :
    Calls Try.prog 19 #[.int .i64 s] w fun e w' => ∃ v, e = .returned v ∧ RowZs w.heap.size w' v (secs s) ∧ Below w.heap.size w w' := by
  have hmk : ∀ W : World, (Instr.makeSlice 38 (.int .i64 8) (.int .i64 8)).run Try.prog W = .ok (.slice (some ⟨W.heap.size, 0, none⟩) 8 8) (W.alloc (.cells (ic (fun _ => 0) 8) 3)) := fun W => make_ints 8 8 (Nat.le_refl _) (by omega) W
  obtain ⟨n, hn⟩ : ∃ n : Int, n = s % 1000 := ⟨_, rfl⟩
  obtain ⟨u, hu⟩ : ∃ u : Int, Int.tmod s 1000 = u := ⟨_, rfl⟩
  obtain ⟨hneg, hpos, hu0, hu1⟩ := rem_thousand hu hn
  have HS : Hid (secs s = zls (sec n) 8) := by rw [hn]; rfl
  have hn0 : 0 ≤ n ∧ n < 1000 := by omega
  have H0 : Hid (RowI (w.alloc (.cells (ic (fun _ => 0) 8) 3)) w.heap.size 8 (upTo (sec n) 0)) := (rowI_new w (fun _ => 0) 8).congr fun j _ => by unfold upTo; rw [if_neg (by omega)]
  generalize ic (fun _ => 0) 8 = M at hmk H0
  clear hn
  by_cases hlt : u < 0
  · have hun := hneg hlt
    clear hneg hpos
    go_enter Try.func19, Try.ntmps19
    go_wp2
    go_loopw [14] (fun i wr => ∃ k : Nat, i = .int .i64 (k : Int) ∧ k ≤ 8 ∧ Hid (RowI wr w.heap.size 8 (upTo (sec n) k)) ∧ Hid (Below w.heap.size w wr)) (fun i _ => 8 - (intOf i).toNat)
    case atStart => exact ⟨0, rfl, Nat.zero_le _, H0, (Below.refl _ _).alloc (Nat.le_refl _) _⟩
    case round =>
      obtain ⟨k, rfl, hk, HR, HW⟩ := hrel
      clear hmk H0
      by_cases hlt : k < 8
      · have hlt' : (k : Int) < 8 := by omega
        have hk0 : (0 : Int) ≤ (k : Int) := by omega
        obtain ⟨x, hx⟩ : ∃ x : Int, Int.tmod (n * 31 + (k : Int) * 57 + 7) 1007 = x := ⟨_, rfl⟩
        have hxe : x = (n * 31 + (k : Int) * 57 + 7) % 1007 := by rw [← hx, Int.tmod_eq_emod_of_nonneg (by omega)]
        have HX : Hid (1 + x = sec n k) := by unfold sec; rw [hxe]; rfl
        have hx0 : 0 ≤ x ∧ x < 1007 := by omega
        have c0 := HR.out.cell hlt
        have f0 := HR.out.free k
        have HR2 : Hid (RowI (wr.setCell ⟨w.heap.size, k, none⟩ (.int .i64 (1 + x))) w.heap.size 8 (upTo (sec n) (k + 1))) := by
          have := HR.out.set k (1 + x)
          rw [HX.out, upTo_next] at this
          rw [HX.out]
          exact this
        have HW2 : Hid (Below w.heap.size w (wr.setCell ⟨w.heap.size, k, none⟩ (.int .i64 (1 + x)))) := HW.out.setCell (Nat.le_refl _) _
        clear hxe HR HW HX
        go_wp2
        go_roundw
        case rel => exact ⟨k + 1, by go_num, hlt, HR2, HW2⟩
        case measure => simp [intOf]; omega
      · have hlt' : ¬ (k : Int) < 8 := by omega
        obtain rfl : k = 8 := by omega
        have HE : Hid (RowZs w.heap.size wr (.slice (some ⟨w.heap.size, 0, none⟩) 8 8) (secs s)) := by
          show RowZs _ _ _ _
          rw [HS.out]
          exact (HR.out.congr (f' := sec n) fun j hj => upTo_in _ hj).rowZ (Nat.le_refl _) (by omega)
        go_wp2
        go_ret
        exact ⟨_, rfl, HE.out, HW.out⟩
  · have hun := (hpos hlt).symm
    subst hun
    clear hneg hpos
    go_enter Try.func19, Try.ntmps19
    go_wp2
    go_loopw [14] (fun i wr => ∃ k : Nat, i = .int .i64 (k : Int) ∧ k ≤ 8 ∧ Hid (RowI wr w.heap.size 8 (upTo (sec n) k)) ∧ Hid (Below w.heap.size w wr)) (fun i _ => 8 - (intOf i).toNat)
    case atStart => exact ⟨0, rfl, Nat.zero_le _, H0, (Below.refl _ _).alloc (Nat.le_refl _) _⟩
    case round =>
      obtain ⟨k, rfl, hk, HR, HW⟩ := hrel
      clear hmk H0
      by_cases hlt : k < 8
      · have hlt' : (k : Int) < 8 := by omega
        have hk0 : (0 : Int) ≤ (k : Int) := by omega
        obtain ⟨x, hx⟩ : ∃ x : Int, Int.tmod (n * 31 + (k : Int) * 57 + 7) 1007 = x := ⟨_, rfl⟩
        have hxe : x = (n * 31 + (k : Int) * 57 + 7) % 1007 := by rw [← hx, Int.tmod_eq_emod_of_nonneg (by omega)]
        have HX : Hid (1 + x = sec n k) := by unfold sec; rw [hxe]; rfl
        have hx0 : 0 ≤ x ∧ x < 1007 := by omega
        have c0 := HR.out.cell hlt
        have f0 := HR.out.free k
        have HR2 : Hid (RowI (wr.setCell ⟨w.heap.size, k, none⟩ (.int .i64 (1 + x))) w.heap.size 8 (upTo (sec n) (k + 1))) := by
          have := HR.out.set k (1 + x)
          rw [HX.out, upTo_next] at this
          rw [HX.out]
          exact this
        have HW2 : Hid (Below w.heap.size w (wr.setCell ⟨w.heap.size, k, none⟩ (.int .i64 (1 + x)))) := HW.out.setCell (Nat.le_refl _) _
        clear hxe HR HW HX
        go_wp2
        go_roundw
        case rel => exact ⟨k + 1, by go_num, hlt, HR2, HW2⟩
        case measure => simp [intOf]; omega
      · have hlt' : ¬ (k : Int) < 8 := by omega
        obtain rfl : k = 8 := by omega
        have HE : Hid (RowZs w.heap.size wr (.slice (some ⟨w.heap.size, 0, none⟩) 8 8) (secs s)) := by
          show RowZs _ _ _ _
          rw [HS.out]
          exact (HR.out.congr (f' := sec n) fun j hj => upTo_in _ hj).rowZ (Nat.le_refl _) (by omega)
        go_wp2
        go_ret
        exact ⟨_, rfl, HE.out, HW.out⟩

theorem cell_same {w w' : World} {g k : Nat} (h : w'.heap[g]? = w.heap[g]?) : w'.cell? ⟨g, k, none⟩ = w.cell? ⟨g, k, none⟩ := by
  simp only [World.cell?, h]
theorem heap_other {w : World} {p : Addr} {g : Nat} {v : Value} (h : p.block ≠ g) : (w.setCell p v).heap[g]? = w.heap[g]? := by
  simp [World.setCell, Array.getElem?_modify, h]

set_option maxHeartbeats 1600000 in
set_option maxRecDepth 100000 in
theorem iCommOf_any (s : Int) (w : World) :
    Calls Try.prog 24 #[.int .i64 s] w fun e w' => ∃ v, e = .returned (.agg #[v]) ∧ RowP w.heap.size w' v (keysT (s % 1000) 8) ∧ Below w.heap.size w w' := by
  have hmk : ∀ W : World, (Instr.makeSlice 28 (.int .i64 8) (.int .i64 8)).run Try.prog W = .ok (.slice (some ⟨W.heap.size, 0, none⟩) 8 8) (W.alloc (.cells (pcs noP 8) 49)) := fun W => make_pts 8 (by omega) W
  obtain ⟨n, hn⟩ : ∃ n : Int, n = s % 1000 := ⟨_, rfl⟩
  rw [← hn]
  have HN : Hid (n = s % 1000) := hn
  clear hn
  obtain ⟨W, hW, hb, hr, hp, hc⟩ := boxes2r w 31 49 31 #[.slice none 0 0] (pcs noP 8) #[.slice (some ⟨w.heap.size + 1, 0, none⟩) 8 8]
  have HP0 : Hid (RowPt W (w.heap.size + 1) 8 (uptoP (fun j => keyP (sec n j)) 0)) := (show RowPt W _ _ noP from hp).congr fun j _ => by unfold uptoP noP; rw [if_neg (by omega)]
  generalize pcs noP 8 = M at hmk hW hp
  have HSC := iSecs_any s W
  go_enter Try.func24, Try.ntmps24
  go_wp2_with fail
  clear hW hmk
  refine HSC.mono ?_
  rintro e w1 ⟨v1, rfl, hl1, hb1⟩
  obtain ⟨g, c, rfl, hcl⟩ := hl1.form
  rw [← HN.out] at hcl
  have HC : Hid (∀ j, j < 8 → w1.cell? ⟨g, j, none⟩ = some (.int .i64 (sec n j))) := hcl
  have hg : w.heap.size + 3 ≤ g := by
    have h1 := (World.ownsRow.lt hl1 g rfl).1
    have h2 := hc.lt
    omega
  have hB1 := below_then hb hb1
  have HI : Hid (RowPt w1 (w.heap.size + 1) 8 (uptoP (fun j => keyP (sec n j)) 0) ∧ Blk w1 w.heap.size 31 #[.slice none 0 0] ∧ Blk w1 (w.heap.size + 1 + 1) 31 #[.slice (some ⟨w.heap.size + 1, 0, none⟩) 8 8] ∧ Below w.heap.size w w1 ∧ w1.heap[g]? = w1.heap[g]?) := ⟨HP0.out.on hb1 HP0.out.lt, hr.on hb1 hr.lt, hc.on hb1 hc.lt, hB1, rfl⟩
  clear hl1 hcl HSC hb hb1 hr hp hc hB1 HP0 HN
  go_wp2
  go_loopw [11] (fun i wr => ∃ k : Nat, i = .int .i64 (k : Int) ∧ k ≤ 8 ∧ Hid (RowPt wr (w.heap.size + 1) 8 (uptoP (fun j => keyP (sec n j)) k) ∧ Blk wr w.heap.size 31 #[.slice none 0 0] ∧ Blk wr (w.heap.size + 1 + 1) 31 #[.slice (some ⟨w.heap.size + 1, 0, none⟩) 8 8] ∧ Below w.heap.size w wr ∧ wr.heap[g]? = w1.heap[g]?)) (fun i _ => 8 - (intOf i).toNat)
  case atStart => exact ⟨0, rfl, Nat.zero_le _, ⟨HI.out.1, HI.out.2.1, HI.out.2.2.1, HI.out.2.2.2.1, rfl⟩⟩
  case round =>
    obtain ⟨k, rfl, hk, HD⟩ := hrel
    clear HI
    by_cases hlt : k < 8
    · have hlt' : (k : Int) < 8 := by omega
      have hk0 : (0 : Int) ≤ (k : Int) := by omega
      have z0 : wr.cell? ⟨g, k, none⟩ = some (.int .i64 (sec n k)) := (cell_same HD.out.2.2.2.2).trans (HC.out k hlt)
      have HK : Hid (∀ w, Calls Try.prog 36 #[.int .i64 (sec n k)] w fun e w' => e = .returned (pv (keyP (sec n k))) ∧ Below w.heap.size w w') := iKey_any _
      have HNX : Hid (updP (uptoP (fun j => keyP (sec n j)) k) k (keyP (sec n k)) = uptoP (fun j => keyP (sec n j)) (k + 1)) := uptoP_next _ k
      generalize keyP (sec n k) = P at HNX HK
      generalize sec n k = x at HK z0
      go_wp2_with fail
      refine wp_region_last [(0, false), (1, false), (2, false), (3, false), (4, true), (5, false)] 6 (fun wz => Blk wz (w.heap.size + 1 + 1) 31 #[.slice (some ⟨w.heap.size + 1, 0, none⟩) 8 8]) mixes (by kernel_rfl) HD.out.2.2.1.drew ?_
      repeat (refine ord_float rfl rfl (fun K hK => ⟨_, (fun w' hw => by have q0 := hw.cell 0; go_simp; exact rfl), ?_⟩); go_simp; refine hK _ ?_; clear hK K)
      refine ord_call rfl rfl (fun K hK => ⟨_, _, (by go_simp <;> first | exact rfl | exact ⟨rfl, rfl⟩), ?_⟩)
      refine (HK.out _).mono ?_
      rintro e w5 ⟨rfl, hw5⟩
      have HD5 : Hid (RowPt w5 (w.heap.size + 1) 8 (uptoP (fun j => keyP (sec n j)) k) ∧ Blk w5 w.heap.size 31 #[.slice none 0 0] ∧ Blk w5 (w.heap.size + 1 + 1) 31 #[.slice (some ⟨w.heap.size + 1, 0, none⟩) 8 8] ∧ Below w.heap.size w w5 ∧ w5.heap[g]? = w1.heap[g]?) := ⟨RowPt.on (w := wr.drew) HD.out.1 hw5 HD.out.1.lt, HD.out.2.1.drew.on hw5 HD.out.2.1.lt, HD.out.2.2.1.drew.on hw5 HD.out.2.2.1.lt, below_then HD.out.2.2.2.1.drew hw5, (hw5.block g (World.block_lt_of_cell? wr _ z0)).trans HD.out.2.2.2.2⟩
      clear hw5
      refine ⟨_, rfl, HD5.out.2.2.1, ?_⟩
      go_simp
      refine hK _ _ ?_
      clear hK K
      repeat (refine ord_float rfl rfl (fun K hK => ⟨_, (fun w' hw => by have q0 := hw.cell 0; go_simp; exact rfl), ?_⟩); go_simp; refine hK _ ?_; clear hK K)
      refine ord_nil ?_
      clear HD HK z0
      obtain ⟨c0, c1, c2⟩ := HD5.out.1.cells hlt
      have f0 := HD5.out.1.free (k * 3)
      have f1 := HD5.out.1.free (k * 3 + 1)
      have f2 := HD5.out.1.free (k * 3 + 2)
      refine last_store rfl rfl rfl (((w5.setCell ⟨w.heap.size + 1, k * 3, none⟩ (.int .i64 P.1)).setCell ⟨w.heap.size + 1, k * 3 + 1, none⟩ (.int .i64 P.2.1)).setCell ⟨w.heap.size + 1, k * 3 + 2, none⟩ (.bool P.2.2)) (by go_simp <;> rfl) ?_
      have HR2 : Hid (RowPt (((w5.setCell ⟨w.heap.size + 1, k * 3, none⟩ (.int .i64 P.1)).setCell ⟨w.heap.size + 1, k * 3 + 1, none⟩ (.int .i64 P.2.1)).setCell ⟨w.heap.size + 1, k * 3 + 2, none⟩ (.bool P.2.2)) (w.heap.size + 1) 8 (uptoP (fun j => keyP (sec n j)) (k + 1))) := by
        have := HD5.out.1.set hlt P
        rw [HNX.out] at this
        exact this
      have HR3 : Hid (Blk (((w5.setCell ⟨w.heap.size + 1, k * 3, none⟩ (.int .i64 P.1)).setCell ⟨w.heap.size + 1, k * 3 + 1, none⟩ (.int .i64 P.2.1)).setCell ⟨w.heap.size + 1, k * 3 + 2, none⟩ (.bool P.2.2)) w.heap.size 31 #[.slice none 0 0]) := ((HD5.out.2.1.other (by omega) _).other (by omega) _).other (by omega) _
      have HR4 : Hid (Blk (((w5.setCell ⟨w.heap.size + 1, k * 3, none⟩ (.int .i64 P.1)).setCell ⟨w.heap.size + 1, k * 3 + 1, none⟩ (.int .i64 P.2.1)).setCell ⟨w.heap.size + 1, k * 3 + 2, none⟩ (.bool P.2.2)) (w.heap.size + 1 + 1) 31 #[.slice (some ⟨w.heap.size + 1, 0, none⟩) 8 8]) := ((HD5.out.2.2.1.other (by omega) _).other (by omega) _).other (by omega) _
      have HR5 : Hid (Below w.heap.size w (((w5.setCell ⟨w.heap.size + 1, k * 3, none⟩ (.int .i64 P.1)).setCell ⟨w.heap.size + 1, k * 3 + 1, none⟩ (.int .i64 P.2.1)).setCell ⟨w.heap.size + 1, k * 3 + 2, none⟩ (.bool P.2.2))) := ((HD5.out.2.2.2.1.setCell (by simp) _).setCell (by simp) _).setCell (by simp) _
      have HR6 : Hid ((((w5.setCell ⟨w.heap.size + 1, k * 3, none⟩ (.int .i64 P.1)).setCell ⟨w.heap.size + 1, k * 3 + 1, none⟩ (.int .i64 P.2.1)).setCell ⟨w.heap.size + 1, k * 3 + 2, none⟩ (.bool P.2.2)).heap[g]? = w1.heap[g]?) := by
        show _ = _
        rw [heap_other (by show w.heap.size + 1 ≠ g; omega), heap_other (by show w.heap.size + 1 ≠ g; omega), heap_other (by show w.heap.size + 1 ≠ g; omega)]
        exact HD5.out.2.2.2.2
      clear c0 c1 c2 f0 f1 f2 HD5
      generalize ((w5.setCell ⟨w.heap.size + 1, k * 3, none⟩ (.int .i64 P.1)).setCell ⟨w.heap.size + 1, k * 3 + 1, none⟩ (.int .i64 P.2.1)).setCell ⟨w.heap.size + 1, k * 3 + 2, none⟩ (.bool P.2.2) = w9 at HR2 HR3 HR4 HR5 HR6 ⊢
      go_wp2
      go_roundw
      case rel => exact ⟨k + 1, by go_num, hlt, ⟨HR2.out, HR3.out, HR4.out, HR5.out, HR6.out⟩⟩
      case measure => simp [intOf]; omega
    · have hlt' : ¬ (k : Int) < 8 := by omega
      obtain rfl : k = 8 := by omega
      have HO : Hid (RowP (w.heap.size + 1) wr (.slice (some ⟨w.heap.size + 1, 0, none⟩) 8 8) (keysT n 8)) := by
        have := (HD.out.1.congr (f' := fun j => keyP (sec n j)) fun j hj => by unfold uptoP; rw [if_pos hj]).rowP (Nat.le_refl _) (by omega)
        exact this
      have hx := HD.out.2.2.1
      have hr := HD.out.2.1
      have hB := HD.out.2.2.2.1
      clear HD HC
      go_wp2_with (first | (refine load_blk rfl rfl rfl hx Try.underlying31 infoCm ?_) | (refine store_blk (cs' := #[.slice (some ⟨w.heap.size + 1, 0, none⟩) 8 8]) rfl rfl rfl rfl rfl hr infoCm rfl (ones1 _ _ _) ?_; intro V h5 hoth hbel; have hbV := hbel _ _ (by omega) hB; have hOV := owns_other HO.out hoth (by omega); clear hoth hbel))
      refine bodyPost_ret_by (result_blk rfl rfl h5 Try.underlying31 infoCm) rfl ⟨_, rfl, owns_base hOV (by omega), hbV⟩

end Go.Proofs.Ytkmelamfohfdkab
