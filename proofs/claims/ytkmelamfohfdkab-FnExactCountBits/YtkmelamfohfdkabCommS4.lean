/-
  The walk of the specification's keys that are joined by bits.
  (-DROP-: what the seat lacks is left out.)
-/
import Derived.Test.YtkmelamfohfdkabCommS2
import Derived.Test.YtkmelamfohfdkabJoined31
import Derived.Maps.AppendAt
import Derived.Test.YtkmelamfohfdkabOwn
import Derived.Test.YtkmelamfohfdkabJoined18
namespace Go.Proofs.Ytkmelamfohfdkab
open Go.RowKit

theorem owns_base {w : World} {B B' e sz n : Nat} {v : Value} {xs : List Value} (h : w.ownsRow B e sz v n xs) (hb : B' ≤ B) : w.ownsRow B' e sz v n xs :=
  ⟨h.1, h.2.elim Or.inl (fun ⟨g, cap, cur, hv, hg, r⟩ => Or.inr ⟨g, cap, cur, hv, Nat.le_trans hb hg, r⟩)⟩

/-- The keys whose bits are set, of so many. -/
def joinN (f : Nat → Pt) (b : Int) : Nat → List Pt
  | 0 => []
  | k + 1 => if b / 2 ^ k % 2 = 1 then joinN f b k ++ [f k] else joinN f b k
def joinP (f : Nat → Pt) (n : Nat) (b : Int) : List Pt := if cOk f n = true ∧ 0 ≤ b ∧ b ≤ 255 then joinN f b 8 else []
theorem joinN_len (f : Nat → Pt) (b : Int) : ∀ k, (joinN f b k).length ≤ k
  | 0 => Nat.le_refl _
  | k + 1 => by
    have := joinN_len f b k
    show List.length (if b / 2 ^ k % 2 = 1 then joinN f b k ++ [f k] else joinN f b k) ≤ k + 1
    split
    · rw [List.length_append]; simp; omega
    · omega

set_option maxHeartbeats 1600000 in
set_option maxRecDepth 100000 in
theorem sJoined_any (a : Option Addr) (n c : Nat) (b : Int) (hn : n ≤ 9223372036854775807) (f : Nat → Pt) (w : World) (hA : PtsAt w a n w.heap.size f) :
    Calls Try.prog 10 #[cv a n c, .int .i64 b] w fun e w' => ∃ v, e = .returned v ∧ RowP w.heap.size w' v (joinP f n b) ∧ Below w.heap.size w w' := by
  obtain ⟨i0, hi, hz0, hz1, hz2⟩ := info_parts infoPz
  have HO : Hid (∀ W, PtsAt W a n W.heap.size f → Calls Try.prog 30 #[cv a n c] W fun e w' => e = .returned (.bool (cOk f n)) ∧ Below W.heap.size W w') := fun W h => sCommOk_any a n c hn f W h
  have HB : Hid (∀ w, Calls Try.prog 26 #[.int .i64 b, .int .i64 0, .int .i64 255] w fun e w' => e = .returned (.bool (decide (0 ≤ b ∧ b ≤ 255))) ∧ w = w') := sBetween_any b 0 255
  have HA : Hid (PtsAt w a n w.heap.size f) := hA
  clear hA
  obtain ⟨W, hW, hb, hx, he⟩ := boxes1r w 31 49 #[.slice a n c] #[]
  have hown0 : W.ownsRow (w.heap.size + 1) 49 3 (.slice (some ⟨w.heap.size + 1, 0, none⟩) 0 0) 0 (ptsV []) := by
    have h := World.ownsRow_lit (base := w.heap.size + 1) (e := 49) (size := 3) (w.alloc (.cells #[.slice a n c] 31)) #[] 0 (by simp) (by simp [maxLen]) (by simp)
    rw [hW] at h
    have h' : W.ownsRow (w.heap.size + 1) 49 3 (.slice (some ⟨w.heap.size + 1, 0, none⟩) 0 0) 0 [] := by simpa using h
    exact h'
  cases hk : cOk f n
  · rw [hk] at HO
    have HJ : Hid (joinP f n b = []) := by unfold joinP; rw [hk]; rfl
    have HC := HO.out W (HA.out.over hb)
    go_enter Try.func10, Try.ntmps10
    go_wp2_with (refine load_blk rfl rfl rfl hx Try.underlying31 infoCm ?_)
    clear hW
    refine HC.mono ?_
    rintro e w1 ⟨rfl, hb1⟩
    have hB1 := below_then hb hb1
    have HR : Hid (RowP w.heap.size w1 (.slice (some ⟨w.heap.size + 1, 0, none⟩) 0 0) []) := owns_base (owns_on hown0 hb1) (by omega)
    clear hb hb1 hx he HC hown0
    go_wp2
    go_ret
    exact ⟨_, rfl, by rw [HJ.out]; exact HR.out, hB1⟩
  · rw [hk] at HO
    have h8 : n = 8 := by
      unfold cOk at hk
      simp only [Bool.and_eq_true, decide_eq_true_eq] at hk
      exact hk.2
    subst h8
    have HC := HO.out W (HA.out.over hb)
    by_cases hbb : 0 ≤ b ∧ b ≤ 255
    · rw [decide_eq_true hbb] at HB
      have HJ : Hid (joinP f 8 b = joinN f b 8) := by unfold joinP; rw [if_pos ⟨hk, hbb⟩]; rfl
      obtain ⟨b0, b1⟩ := hbb
      clear hk
      go_enter Try.func10, Try.ntmps10
      go_wp2_with (refine load_blk rfl rfl rfl hx Try.underlying31 infoCm ?_)
      clear hW
      refine HC.mono ?_
      rintro e w1 ⟨rfl, hb1⟩
      have H1 : Hid (Blk w1 w.heap.size 31 #[.slice a 8 c] ∧ Below w.heap.size w w1) := ⟨hx.on hb1 hx.lt, below_then hb hb1⟩
      have hown1 : w1.ownsRow (w.heap.size + 1) 49 3 (.slice (some ⟨w.heap.size + 1, 0, none⟩) 0 0) 0 (ptsV []) := owns_on hown0 hb1
      clear hb hb1 hx he HC hown0
      go_wp2_with (go_at_call 26; refine (HB.out _).mono ?_; rintro e wz ⟨rfl, rfl⟩)
      go_loopw [5, 6] (fun v i wr => ∃ (k : Nat) (l : List Pt), i = .int .i64 (k : Int) ∧ k ≤ 8 ∧ Hid (l = joinN f b k) ∧ wr.ownsRow (w.heap.size + 1) 49 3 v l.length (ptsV l) ∧ Hid (Blk wr w.heap.size 31 #[.slice a 8 c] ∧ Below w.heap.size w wr)) (fun _ i _ => 8 - (intOf i).toNat)
      case atStart => exact ⟨0, [], rfl, by omega, rfl, hown1, H1⟩
      case round =>
        obtain ⟨k, l, rfl, hk, HL, hown, HD⟩ := hrel
        clear H1 hown1
        by_cases hlt : k < 8
        · have hlt' : (k : Int) < 8 := by omega
          have hk0 : (0 : Int) ≤ (k : Int) := by omega
          obtain ⟨m, hm⟩ : ∃ m : Int, b / 2 ^ k = m := ⟨_, rfl⟩
          have hm0 : 0 ≤ m := by rw [← hm]; exact Int.ediv_nonneg b0 (Int.le_of_lt (Int.pow_pos (by decide)))
          have HN : Hid (joinN f b (k + 1) = if m % 2 = 1 then joinN f b k ++ [f k] else joinN f b k) := by
            show (if b / 2 ^ k % 2 = 1 then _ else _) = _
            rw [hm]
          have hll : l.length ≤ 8 := by rw [HL.out]; have := joinN_len f b k; omega
          have hm63 : l.length + 1 ≤ maxLen := by unfold maxLen; omega
          have hm47 : (l.length + 1) * 24 ≤ 140737488355328 := by omega
          have hB0 := HD.out.2
          have hx0 := HD.out.1
          have hsz0 : w.heap.size ≤ wr.heap.size := hB0.size
          have hsz : w.heap.size + 1 ≤ wr.heap.size := hx0.lt
          clear HD hll
          by_cases h2 : m % 2 = 1
          · have h2' : Int.tmod m 2 = 1 := by rw [Int.tmod_eq_emod_of_nonneg hm0]; exact h2
            have HN2 : Hid (l ++ [f k] = joinN f b (k + 1)) := by show _ = _; rw [HN.out, if_pos h2, HL.out]
            obtain ⟨g, off, rfl, hg, z0, z1, z2⟩ := (HA.out.on hB0) k hlt
            have q0 := hx0.cell 0
            clear HN h2 HL
            generalize hF : f k = F at z0 z1 z2 HN2
            clear hF
            obtain ⟨x, y, z⟩ := F
            simp only at z0 z1 z2
            go_wp2_with (at_builtin; refine wpList_append_own _ rfl _ _ 28 rfl (w.heap.size + 1) 49 i0 (.agg #[.int .i64 0, .int .i64 0, .bool false]) 3 24 Try.underlying28 hi hz0 hz1 hz2 rfl (by decide) _ _ _ rfl (hown.alloc _) ⟨wr.heap.size, 0, none⟩ 1 1 [.int .i64 x, .int .i64 y, .bool z] rfl rfl (cell_three_new _ _ _ _ _) (three_cell _ _ _) hm63 hm47 (room_for hsz _) ?_)
            intro v' w4 hown' hgrow _
            have R : w4.ownsRow (w.heap.size + 1) 49 3 v' (l ++ [(x, y, z)]).length (ptsV (l ++ [(x, y, z)])) := by
              rw [ptsV_append, List.length_append]; exact hown'
            have HB2 : Below w.heap.size w w4 := (hB0.alloc hsz0 _).grown hgrow (by simp; omega) (fun k hk => by have := (hown.lt k hk).1; omega)
            have HX2 : Blk w4 w.heap.size 31 #[.slice (some ⟨g, off, none⟩) 8 c] := (hgrow.block w.heap.size (hx0.alloc _).lt (fun e => by have := (hown.lt _ e.symm).1; omega)).trans (hx0.alloc _)
            clear hown' hgrow hown
            go_wp2
            go_roundw
            case rel => exact ⟨k + 1, _, by go_num, hlt, HN2, R, ⟨HX2, HB2⟩⟩
            case measure => simp [intOf]; omega
          · have h2' : Int.tmod m 2 = 0 := by rw [Int.tmod_eq_emod_of_nonneg hm0]; omega
            have HN2 : Hid (l = joinN f b (k + 1)) := by show _ = _; rw [HN.out, if_neg h2, HL.out]
            have HO2 : Hid (wr.ownsRow (w.heap.size + 1) 49 3 _ l.length (ptsV l)) := hown
            clear HN h2 HL hown
            go_wp2
            go_roundw
            case rel => exact ⟨k + 1, l, by go_num, hlt, HN2, HO2.out, ⟨hx0, hB0⟩⟩
            case measure => simp [intOf]; omega
        · have hlt' : ¬ (k : Int) < 8 := by omega
          obtain rfl : k = 8 := by omega
          have HO2 : Hid (wr.ownsRow (w.heap.size + 1) 49 3 _ l.length (ptsV l)) := hown
          have hB0 := HD.out.2
          clear hown HD
          go_wp2
          go_ret
          exact ⟨_, rfl, by rw [HJ.out, ← HL.out]; exact owns_base HO2.out (by omega), hB0⟩
    · rw [decide_eq_false hbb] at HB
      have HJ : Hid (joinP f 8 b = []) := by unfold joinP; rw [if_neg (fun h => hbb h.2)]; rfl
      clear hk
      go_enter Try.func10, Try.ntmps10
      go_wp2_with (refine load_blk rfl rfl rfl hx Try.underlying31 infoCm ?_)
      clear hW
      refine HC.mono ?_
      rintro e w1 ⟨rfl, hb1⟩
      have hB1 := below_then hb hb1
      have HR : Hid (RowP w.heap.size w1 (.slice (some ⟨w.heap.size + 1, 0, none⟩) 0 0) []) := owns_base (owns_on hown0 hb1) (by omega)
      clear hb hb1 hx he HC hown0
      go_wp2_with (go_at_call 26; refine (HB.out _).mono ?_; rintro e wz ⟨rfl, rfl⟩)
      go_ret
      exact ⟨_, rfl, by rw [HJ.out]; exact HR.out, hB1⟩

end Go.Proofs.Ytkmelamfohfdkab
