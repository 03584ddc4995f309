/-
  Texts of one's own, joined.
-/
import Derived.Test.YtjlijflfepffiaaJoined15
import Derived.Test.YtjlijflfepffiaaJoined20
import Derived.Below
import Derived.WalkLawsBesides
import Derived.WalkSpells
import Derived.Test.YtjlijflfepffiaaProg
import Derived.Test.YtjlijflfepffiaaJoined5
import Derived.Maps.AppendAt

/-
  The walk of the specification's bits.
  (-DROP-: what the seat lacks is left out.)
-/
namespace Go.Proofs.Ytjlijflfepffiaa
open Go.RowKit

set_option maxHeartbeats 800000 in
set_option maxRecDepth 100000 in
theorem sCount_any (b : Int) (w : World) :
    Calls Try.prog 102 #[.int .i64 b] w fun e w' => e = .returned (.int .i64 (bitsB b)) ∧ w = w' := by
  have HB : Hid (∀ w, Calls Try.prog 92 #[.int .i64 b, .int .i64 0, .int .i64 255] w fun e w' => e = .returned (.bool (decide (0 ≤ b ∧ b ≤ 255))) ∧ w = w') := sBetween_any b 0 255
  unfold bitsB
  by_cases hb : 0 ≤ b ∧ b ≤ 255
  · rw [decide_eq_true hb] at HB
    rw [if_pos hb]
    obtain ⟨b0, b1⟩ := hb
    go_enter Try.func102, Try.ntmps102
    go_wp2_with (go_at_call 92; refine (HB.out _).mono ?_; rintro e wz ⟨rfl, rfl⟩)
    go_loopw [3, 4] (fun v i wr => ∃ (k : Nat), v = .int .i64 (bitsN b k) ∧ i = .int .i64 (k : Int) ∧ k ≤ 8 ∧ w = wr) (fun _ i _ => 8 - (intOf i).toNat)
    case atStart => exact ⟨0, rfl, rfl, by omega, rfl⟩
    case round =>
      obtain ⟨k, rfl, rfl, hk, rfl⟩ := hrel
      by_cases hlt : k < 8
      · have hlt' : (k : Int) < 8 := by omega
        obtain ⟨m, hm⟩ : ∃ m : Int, b / 2 ^ k = m := ⟨_, rfl⟩
        have hm0 : 0 ≤ m := by rw [← hm]; exact Int.ediv_nonneg b0 (Int.le_of_lt (Int.pow_pos (by decide)))
        obtain ⟨r, hr⟩ : ∃ r : Int, Int.tmod m 2 = r := ⟨_, rfl⟩
        have hre : r = m % 2 := by rw [← hr, Int.tmod_eq_emod_of_nonneg hm0]
        obtain ⟨h1, h2⟩ := bitsN_in b k
        have HN : Hid (bitsN b (k + 1) = bitsN b k + r) := by show bitsN b k + b / 2 ^ k % 2 = _; rw [hm, hre]
        have hr0 : 0 ≤ r ∧ r ≤ 1 := by omega
        generalize bitsN b k = C at h1 h2 HN
        clear hre
        go_wp2
        go_roundw
        case rel => exact ⟨k + 1, by rw [HN.out], by go_num, by omega, by trivial⟩
        case measure => simp [intOf]; omega
      · have hlt' : ¬ (k : Int) < 8 := by omega
        obtain rfl : k = 8 := by omega
        go_wp2
        go_ret
        exact ⟨rfl, by trivial⟩
  · rw [decide_eq_false hb] at HB
    rw [if_neg hb]
    go_enter Try.func102, Try.ntmps102
    go_wp2_with (go_at_call 92; refine (HB.out _).mono ?_; rintro e wz ⟨rfl, rfl⟩)
    go_ret
    exact ⟨rfl, by trivial⟩

end Go.Proofs.Ytjlijflfepffiaa

/-
  The walks of the program's bits.
  (-DROP-: what the seat lacks is left out.)
-/
namespace Go.Proofs.Ytjlijflfepffiaa
open Go.RowKit

end Go.Proofs.Ytjlijflfepffiaa

/-
  The walks of witnesses of bits, the program's and the specification's.
  (-DROP-: what the seat lacks is left out.)
-/
namespace Go.Proofs.Ytjlijflfepffiaa
open Go.RowKit

theorem cells_new (w : World) (cs : Array Value) (t : TypeId) : ∀ j u, cs.toList[j]? = some u → (w.alloc (.cells cs t)).cell? ((⟨w.heap.size, 0, none⟩ : Addr).add j) = some u := by
  intro j u hj
  rw [Addr.add_lit, Nat.zero_add, cell_of_row _ _ j cs t (0, 0) (heap_alloc_new w _)]
  simpa using hj

theorem zsV_one (l : List Int) : ∀ u ∈ zsV l, u.oneCell' = true := by
  intro u hu
  simp only [zsV, List.mem_map] at hu
  obtain ⟨x, _, rfl⟩ := hu
  rfl

theorem RowZs.has {B : Nat} {w : World} {v : Value} {l : List Int} (h : RowZs B w v l) (hl : 0 < l.length) : ∃ g c, v = .slice (some ⟨g, 0, none⟩) l.length c ∧ B ≤ g ∧ ∀ j u, (zsV l)[j]? = some u → w.cell? ((⟨g, 0, none⟩ : Addr).add j) = some u := by
  rcases h.2 with ⟨_, h0⟩ | ⟨g, c, cur, rfl, hg, hh, hrest⟩
  · omega
  · refine ⟨g, c, rfl, hg, fun j u hj => ?_⟩
    have hj2 : j < l.length := by
      rcases Nat.lt_or_ge j l.length with h1 | h1
      · exact h1
      · rw [List.getElem?_eq_none (by simpa [zsV] using h1)] at hj
        cases hj
    rw [Addr.add_lit, Nat.zero_add, World.ownsRow.cellAt h j (by omega)]
    exact hj

set_option maxHeartbeats 800000 in
set_option maxRecDepth 100000 in
theorem sWit_any (b : Int) (w : World) :
    Calls Try.prog 78 #[.int .i64 b] w fun e w' => ∃ v, e = .returned v ∧ RowZs w.heap.size w' v (witOf b) ∧ Below w.heap.size w w' := by
  obtain ⟨i0, hi, hz0, hz1, hz2⟩ := info_parts info3I
  have HB : Hid (∀ w, Calls Try.prog 92 #[.int .i64 b, .int .i64 0, .int .i64 255] w fun e w' => e = .returned (.bool (decide (0 ≤ b ∧ b ≤ 255))) ∧ w = w') := sBetween_any b 0 255
  by_cases hb : 0 ≤ b ∧ b ≤ 255
  · rw [decide_eq_true hb] at HB
    have HS : Hid (witOf b = [1, b, bitsB b] ++ bitL b 8) := if_pos hb
    have HC : Hid (∀ w, Calls Try.prog 102 #[.int .i64 b] w fun e w' => e = .returned (.int .i64 (bitsB b)) ∧ w = w') := sCount_any b
    obtain ⟨b0, b1⟩ := hb
    generalize bitsB b = c at HC HS
    have hown0 : (w.alloc (.cells #[] 3)).ownsRow w.heap.size 3 1 (.slice (some ⟨w.heap.size, 0, none⟩) 0 0) 0 [] := World.ownsRow_lit w #[] 0 (Nat.le_refl _) (by simp [maxLen]) (by simp)
    have hnw : ∀ j u, [Value.int .i64 1, Value.int .i64 b, Value.int .i64 c][j]? = some u → ((w.alloc (.cells #[] 3)).alloc (.cells #[.int .i64 1, .int .i64 b, .int .i64 c] 3)).cell? ((⟨w.heap.size + 1, 0, none⟩ : Addr).add j) = some u := by
      have e : (w.alloc (.cells #[] 3)).heap.size = w.heap.size + 1 := by simp
      have h := cells_new (w.alloc (.cells #[] 3)) #[.int .i64 1, .int .i64 b, .int .i64 c] 3
      rw [e] at h
      exact h
    go_enter Try.func78, Try.ntmps78
    go_wp2_with (first
      | (go_at_call 92; refine (HB.out _).mono ?_; rintro e wz ⟨rfl, rfl⟩)
      | (go_at_call 102; refine (HC.out _).mono ?_; rintro e wz ⟨rfl, rfl⟩)
      | (at_builtin; refine wpList_append_own _ rfl _ _ 27 rfl w.heap.size 3 i0 (.int .i64 0) 1 8 Try.underlying27 hi hz0 hz1 hz2 rfl (by decide) _ _ _ rfl (hown0.alloc _) ⟨w.heap.size + 1, 0, none⟩ 3 3 [.int .i64 1, .int .i64 b, .int .i64 c] rfl rfl hnw (zsV_one [1, b, c]) (by simp [maxLen]) (by simp) (by simp; omega) ?_))
    intro v' w4 hown' hgrow _
    have R4 : Hid (w4.ownsRow w.heap.size 3 1 v' ([1, b, c] ++ bitL b 0).length (zsV ([1, b, c] ++ bitL b 0))) := hown'
    have HB4 : Hid (Below w.heap.size w w4) := (((Below.refl w.heap.size w).alloc (Nat.le_refl _) _).alloc (by simp) _).grown hgrow (by simp; omega) (fun k hk => (hown0.lt k hk).1)
    clear hown' hgrow hown0 HB HC hnw
    go_wp2
    go_loopw [3, 4] (fun v i wr => ∃ (k : Nat) (l : List Int), i = .int .i64 (k : Int) ∧ k ≤ 8 ∧ Hid (l = [1, b, c] ++ bitL b k) ∧ wr.ownsRow w.heap.size 3 1 v l.length (zsV l) ∧ Hid (Below w.heap.size w wr)) (fun _ i _ => 8 - (intOf i).toNat)
    case atStart => exact ⟨0, _, rfl, by omega, rfl, R4.out, HB4⟩
    case round =>
      obtain ⟨k, l, rfl, hk, HL, hown, HB⟩ := hrel
      clear R4 HB4
      have hll : l.length = 3 + k := by rw [HL.out]; simp [bitL_length]; omega
      have hm63 : l.length + 1 ≤ maxLen := by unfold maxLen; omega
      have hm47 : (l.length + 1) * 8 ≤ 140737488355328 := by omega
      have hsz : w.heap.size ≤ wr.heap.size := HB.out.size
      clear hll
      by_cases hlt : k < 8
      · have hlt' : (k : Int) < 8 := by omega
        obtain ⟨m, hm⟩ : ∃ m : Int, b / 2 ^ k = m := ⟨_, rfl⟩
        have hm0 : 0 ≤ m := by rw [← hm]; exact Int.ediv_nonneg b0 (Int.le_of_lt (Int.pow_pos (by decide)))
        obtain ⟨x, hx⟩ : ∃ x : Int, Int.tmod m 2 = x := ⟨_, rfl⟩
        have HX : Hid (x = b / 2 ^ k % 2) := by rw [hm, ← hx, Int.tmod_eq_emod_of_nonneg hm0]; rfl
        go_wp2_with (at_builtin; refine wpList_append_own _ rfl _ _ 27 rfl w.heap.size 3 i0 (.int .i64 0) 1 8 Try.underlying27 hi hz0 hz1 hz2 rfl (by decide) _ _ _ rfl (hown.alloc _) ⟨wr.heap.size, 0, none⟩ 1 1 [.int .i64 x] rfl rfl (cell_one_new _ _ _) (one_cell _ _) hm63 hm47 (room_for hsz _) ?_)
        intro v' w4 hown' hgrow _
        have R : w4.ownsRow w.heap.size 3 1 v' (l ++ [x]).length (zsV (l ++ [x])) := by
          rw [zsV_append, List.length_append]; exact hown'
        have HB2 : Hid (Below w.heap.size w w4) := (HB.out.alloc hsz _).grown hgrow (by simp; omega) (fun k hk => (hown.lt k hk).1)
        have HL2 : Hid (l ++ [x] = [1, b, c] ++ bitL b (k + 1)) := by
          show l ++ [x] = _
          rw [bitL_next, HL.out, HX.out, List.append_assoc]
        clear hown' hgrow hown
        go_wp2
        go_roundw
        case rel => exact ⟨k + 1, _, by go_num, hlt, HL2, R, HB2⟩
        case measure => simp [intOf]; omega
      · have hlt' : ¬ (k : Int) < 8 := by omega
        obtain rfl : k = 8 := by omega
        have HO : Hid (wr.ownsRow w.heap.size 3 1 _ l.length (zsV l)) := hown
        clear hown hm63 hm47
        go_wp2
        go_ret
        exact ⟨_, rfl, by rw [HS.out, ← HL.out]; exact HO.out, HB.out⟩
  · rw [decide_eq_false hb] at HB
    have HS : Hid (witOf b = []) := if_neg hb
    go_enter Try.func78, Try.ntmps78
    go_wp2_with (go_at_call 92; refine (HB.out _).mono ?_; rintro e wz ⟨rfl, rfl⟩)
    go_ret
    exact ⟨_, rfl, by rw [HS.out]; exact World.ownsRow_lit _ _ _ (Nat.le_refl _) (by simp [maxLen]) (by simp), (Below.refl _ _).alloc (Nat.le_refl _) _⟩

end Go.Proofs.Ytjlijflfepffiaa
