/-
  The walks of the specification's bits and secrets.
  (-DROP-: what the seat lacks is left out.)
-/
import Derived.Test.YtkmelamfohfdkabJoined40
import Derived.Test.YtkmelamfohfdkabJoined40
import Derived.Maps.AppendAt
import Derived.Test.YtkmelamfohfdkabJoined42
namespace Go.Proofs.Ytkmelamfohfdkab
open Go.RowKit

set_option maxHeartbeats 800000 in
set_option maxRecDepth 100000 in
theorem sCount_any (b : Int) (w : World) :
    Calls Try.prog 7 #[.int .i64 b] w fun e w' => e = .returned (.int .i64 (bitsB b)) ∧ w = w' := by
  have HB : Hid (∀ w, Calls Try.prog 26 #[.int .i64 b, .int .i64 0, .int .i64 255] w fun e w' => e = .returned (.bool (decide (0 ≤ b ∧ b ≤ 255))) ∧ w = w') := sBetween_any b 0 255
  unfold bitsB
  by_cases hb : 0 ≤ b ∧ b ≤ 255
  · rw [decide_eq_true hb] at HB
    rw [if_pos hb]
    obtain ⟨b0, b1⟩ := hb
    go_enter Try.func7, Try.ntmps7
    go_wp2_with (go_at_call 26; refine (HB.out _).mono ?_; rintro e wz ⟨rfl, rfl⟩)
    go_loopw [3, 4] (fun v i wr => ∃ (k : Nat), v = .int .i64 (bitsN b k) ∧ i = .int .i64 (k : Int) ∧ k ≤ 8 ∧ w = wr) (fun _ i _ => 8 - (intOf i).toNat)
    case atStart => exact ⟨0, rfl, rfl, by omega, rfl⟩
    case round =>
      obtain ⟨k, rfl, rfl, hk, rfl⟩ := hrel
      by_cases hlt : k < 8
      · have hlt' : (k : Int) < 8 := by omega
        obtain ⟨m, hm⟩ : ∃ m : Int, b / 2 ^ k = m := ⟨_, rfl⟩
        have hm0 : 0 ≤ m := by rw [← hm]; exact Int.ediv_nonneg b0 (Int.le_of_lt (Int.pow_pos (by decide)))
        obtain ⟨r, hr⟩ : ∃ r : Int, Int.tmod m 2 = r := ⟨_, rfl⟩
        have hre : r = m % 2 := by rw [← hr, Int.tmod_eq_emod_of_nonneg hm0]
        obtain ⟨h1, h2⟩ := bitsN_in b k
        have HN : Hid (bitsN b (k + 1) = bitsN b k + r) := by show bitsN b k + b / 2 ^ k % 2 = _; rw [hm, hre]
        have hr0 : 0 ≤ r ∧ r ≤ 1 := by omega
        generalize bitsN b k = C at h1 h2 HN
        clear hre
        go_wp2
        go_roundw
        case rel => exact ⟨k + 1, by rw [HN.out], by go_num, by omega, by trivial⟩
        case measure => simp [intOf]; omega
      · have hlt' : ¬ (k : Int) < 8 := by omega
        obtain rfl : k = 8 := by omega
        go_wp2
        go_ret
        exact ⟨rfl, by trivial⟩
  · rw [decide_eq_false hb] at HB
    rw [if_neg hb]
    go_enter Try.func7, Try.ntmps7
    go_wp2_with (go_at_call 26; refine (HB.out _).mono ?_; rintro e wz ⟨rfl, rfl⟩)
    go_ret
    exact ⟨rfl, by trivial⟩

theorem sec_next (n : Int) (k : Nat) : (List.range (k + 1)).map (sec n) = (List.range k).map (sec n) ++ [sec n k] := by
  rw [List.range_succ, List.map_append]
  rfl

theorem rem_thousand {s u n : Int} (hu : Int.tmod s 1000 = u) (hn : n = s % 1000) : (u < 0 → u + 1000 = n) ∧ (¬ u < 0 → u = n) ∧ -1000 < u ∧ u < 1000 := by
  rcases Int.le_total 0 s with h | h
  · rw [Int.tmod_eq_emod_of_nonneg h] at hu
    omega
  · have e : Int.tmod s 1000 = -((-s) % 1000) := by
      rw [← Int.tmod_eq_emod_of_nonneg (by omega : 0 ≤ -s), Int.neg_tmod, Int.neg_neg]
    rw [e] at hu
    omega

set_option maxHeartbeats 800000 in
set_option maxRecDepth 100000 in
theorem sSecs_any (s : Int) (w : World) :
    Calls Try.prog 18 #[.int .i64 s] w fun e w' => ∃ v, e = .returned v ∧ RowZs w.heap.size w' v (secs s) ∧ Below w.heap.size w w' := by
  obtain ⟨i0, hi, hz0, hz1, hz2⟩ := info_parts info3I
  obtain ⟨n, hn⟩ : ∃ n : Int, n = s % 1000 := ⟨_, rfl⟩
  obtain ⟨u, hu⟩ : ∃ u : Int, Int.tmod s 1000 = u := ⟨_, rfl⟩
  obtain ⟨hneg, hpos, hu0, hu1⟩ := rem_thousand hu hn
  have HS : Hid (secs s = (List.range 8).map (sec n)) := by rw [hn]; rfl
  have hn0 : 0 ≤ n ∧ n < 1000 := by omega
  clear hn
  by_cases hlt : u < 0
  · have hun := hneg hlt
    clear hneg hpos
    go_enter Try.func18, Try.ntmps18
    go_wp2
    go_loopw [4, 5] (fun v i wr => ∃ (k : Nat) (l : List Int), i = .int .i64 (k : Int) ∧ k ≤ 8 ∧ Hid (l = (List.range k).map (sec n)) ∧ wr.ownsRow w.heap.size 3 1 v l.length (zsV l) ∧ Hid (Below w.heap.size w wr)) (fun _ i _ => 8 - (intOf i).toNat)
    case atStart => exact ⟨0, [], rfl, by omega, rfl, World.ownsRow_lit _ _ _ (Nat.le_refl _) (by simp [maxLen]) (by simp), (Below.refl _ _).alloc (Nat.le_refl _) _⟩
    case round =>
      obtain ⟨k, l, rfl, hk, HL, hown, HB⟩ := hrel
      have hll : l.length = k := by rw [HL.out]; simp
      have hm63 : l.length + 1 ≤ maxLen := by unfold maxLen; omega
      have hm47 : (l.length + 1) * 8 ≤ 140737488355328 := by omega
      have hsz : w.heap.size ≤ wr.heap.size := HB.out.size
      clear hll
      by_cases hlt : k < 8
      · have hlt' : (k : Int) < 8 := by omega
        obtain ⟨x, hx⟩ : ∃ x : Int, Int.tmod (n * 31 + (k : Int) * 57 + 7) 1007 = x := ⟨_, rfl⟩
        have hxe : x = (n * 31 + (k : Int) * 57 + 7) % 1007 := by rw [← hx, Int.tmod_eq_emod_of_nonneg (by omega)]
        have HX : Hid (1 + x = sec n k) := by unfold sec; rw [hxe]; rfl
        have hx0 : 0 ≤ x ∧ x < 1007 := by omega
        clear hxe
        go_wp2_with (at_builtin; refine wpList_append_own _ rfl _ _ 38 rfl w.heap.size 3 i0 (.int .i64 0) 1 8 Try.underlying38 hi hz0 hz1 hz2 rfl (by decide) _ _ _ rfl (hown.alloc _) ⟨wr.heap.size, 0, none⟩ 1 1 [.int .i64 (1 + x)] rfl rfl (cell_one_new _ _ _) (one_cell _ _) hm63 hm47 (room_for hsz _) ?_)
        intro v' w4 hown' hgrow _
        have R : w4.ownsRow w.heap.size 3 1 v' (l ++ [1 + x]).length (zsV (l ++ [1 + x])) := by
          rw [zsV_append, List.length_append]; exact hown'
        have HB2 : Hid (Below w.heap.size w w4) := (HB.out.alloc hsz _).grown hgrow (by simp; omega) (fun k hk => (hown.lt k hk).1)
        have HL2 : Hid (l ++ [1 + x] = (List.range (k + 1)).map (sec n)) := by
          show l ++ [1 + x] = _
          rw [sec_next, HL.out, HX.out]
        clear hown' hgrow hown
        go_wp2
        go_roundw
        case rel => exact ⟨k + 1, _, by go_num, hlt, HL2, R, HB2⟩
        case measure => simp [intOf]; omega
      · have hlt' : ¬ (k : Int) < 8 := by omega
        obtain rfl : k = 8 := by omega
        have HO : Hid (wr.ownsRow w.heap.size 3 1 _ l.length (zsV l)) := hown
        clear hown hm63 hm47
        go_wp2
        go_ret
        exact ⟨_, rfl, by rw [HS.out, ← HL.out]; exact HO.out, HB.out⟩
  · have hun := (hpos hlt).symm
    subst hun
    clear hneg hpos
    go_enter Try.func18, Try.ntmps18
    go_wp2
    go_loopw [4, 5] (fun v i wr => ∃ (k : Nat) (l : List Int), i = .int .i64 (k : Int) ∧ k ≤ 8 ∧ Hid (l = (List.range k).map (sec n)) ∧ wr.ownsRow w.heap.size 3 1 v l.length (zsV l) ∧ Hid (Below w.heap.size w wr)) (fun _ i _ => 8 - (intOf i).toNat)
    case atStart => exact ⟨0, [], rfl, by omega, rfl, World.ownsRow_lit _ _ _ (Nat.le_refl _) (by simp [maxLen]) (by simp), (Below.refl _ _).alloc (Nat.le_refl _) _⟩
    case round =>
      obtain ⟨k, l, rfl, hk, HL, hown, HB⟩ := hrel
      have hll : l.length = k := by rw [HL.out]; simp
      have hm63 : l.length + 1 ≤ maxLen := by unfold maxLen; omega
      have hm47 : (l.length + 1) * 8 ≤ 140737488355328 := by omega
      have hsz : w.heap.size ≤ wr.heap.size := HB.out.size
      clear hll
      by_cases hlt : k < 8
      · have hlt' : (k : Int) < 8 := by omega
        obtain ⟨x, hx⟩ : ∃ x : Int, Int.tmod (n * 31 + (k : Int) * 57 + 7) 1007 = x := ⟨_, rfl⟩
        have hxe : x = (n * 31 + (k : Int) * 57 + 7) % 1007 := by rw [← hx, Int.tmod_eq_emod_of_nonneg (by omega)]
        have HX : Hid (1 + x = sec n k) := by unfold sec; rw [hxe]; rfl
        have hx0 : 0 ≤ x ∧ x < 1007 := by omega
        clear hxe
        go_wp2_with (at_builtin; refine wpList_append_own _ rfl _ _ 38 rfl w.heap.size 3 i0 (.int .i64 0) 1 8 Try.underlying38 hi hz0 hz1 hz2 rfl (by decide) _ _ _ rfl (hown.alloc _) ⟨wr.heap.size, 0, none⟩ 1 1 [.int .i64 (1 + x)] rfl rfl (cell_one_new _ _ _) (one_cell _ _) hm63 hm47 (room_for hsz _) ?_)
        intro v' w4 hown' hgrow _
        have R : w4.ownsRow w.heap.size 3 1 v' (l ++ [1 + x]).length (zsV (l ++ [1 + x])) := by
          rw [zsV_append, List.length_append]; exact hown'
        have HB2 : Hid (Below w.heap.size w w4) := (HB.out.alloc hsz _).grown hgrow (by simp; omega) (fun k hk => (hown.lt k hk).1)
        have HL2 : Hid (l ++ [1 + x] = (List.range (k + 1)).map (sec n)) := by
          show l ++ [1 + x] = _
          rw [sec_next, HL.out, HX.out]
        clear hown' hgrow hown
        go_wp2
        go_roundw
        case rel => exact ⟨k + 1, _, by go_num, hlt, HL2, R, HB2⟩
        case measure => simp [intOf]; omega
      · have hlt' : ¬ (k : Int) < 8 := by omega
        obtain rfl : k = 8 := by omega
        have HO : Hid (wr.ownsRow w.heap.size 3 1 _ l.length (zsV l)) := hown
        clear hown hm63 hm47
        go_wp2
        go_ret
        exact ⟨_, rfl, by rw [HS.out, ← HL.out]; exact HO.out, HB.out⟩

theorem RowZs.form {B : Nat} {w : World} {v : Value} {s : Int} (h : RowZs B w v (secs s)) : ∃ g c, v = .slice (some ⟨g, 0, none⟩) 8 c ∧ ∀ j, j < 8 → w.cell? ⟨g, j, none⟩ = some (.int .i64 (sec (s % 1000) j)) := by
  have hl : (secs s).length = 8 := by simp [secs]
  rcases h.2 with ⟨_, h0⟩ | ⟨g, c, cur, rfl, hg, hh, hrest⟩
  · omega
  · refine ⟨g, c, by rw [hl], fun j hj => ?_⟩
    rw [World.ownsRow.cellAt h j (by omega)]
    simp [zsV, secs, hj]

end Go.Proofs.Ytkmelamfohfdkab
