/-
  The walks of the helpers of the exact laws on lists of points: marks, and whether they are held.
  (-DROP-: what the seat lacks is left out.)
-/
import Derived.Test.YtkmelamfohfdkabPtRow
import Derived.Test.YtkmelamfohfdkabJoined31
import Derived.Test.YtkmelamfohfdkabJoined21
import Derived.Test.YtkmelamfohfdkabJoined31
namespace Go.Proofs.Ytkmelamfohfdkab
open Go.RowKit

/-- A mark. -/
def mkp (k : Nat) : Pt := ((k : Int), ((k + 1 : Nat) : Int), decide ((k + 2) % 3 = 0))
/-- So many marks. -/
def mkps (k n : Nat) : List Pt := (List.range n).map fun j => mkp (k + 3 * j)
theorem mkps_length (k n : Nat) : (mkps k n).length = n := by simp [mkps]
theorem mkps_next (k n : Nat) : mkps k (n + 1) = mkps k n ++ [mkp (k + 3 * n)] := by
  unfold mkps
  rw [List.range_succ, List.map_append]
  rfl
theorem mkps_at (k : Nat) {n j : Nat} (h : j < n) : (mkps k n).getD j pZ = mkp (k + 3 * j) := by simp [mkps, h]

theorem ptsV_size (l : List Pt) : (ptsV l).length = l.length * 3 := by
  induction l with
  | nil => rfl
  | cons P l ih => rw [show ptsV (P :: l) = [.int .i64 P.1, .int .i64 P.2.1, .bool P.2.2] ++ ptsV l from rfl, List.length_append, ih]; simp; omega

/-- Another point at j. -/
theorem ptsV_set3 (a b : List Pt) (P Q : Pt) : (((ptsV (a ++ P :: b)).set (a.length * 3) (.int .i64 Q.1)).set (a.length * 3 + 1) (.int .i64 Q.2.1)).set (a.length * 3 + 2) (.bool Q.2.2) = ptsV (a ++ Q :: b) := by
  rw [ptsV_append, ptsV_append, show ptsV (P :: b) = .int .i64 P.1 :: .int .i64 P.2.1 :: .bool P.2.2 :: ptsV b from rfl, show ptsV (Q :: b) = .int .i64 Q.1 :: .int .i64 Q.2.1 :: .bool Q.2.2 :: ptsV b from rfl]
  have hl := ptsV_size a
  rw [List.set_append_right _ _ (by omega), List.set_append_right _ _ (by omega), List.set_append_right _ _ (by omega)]
  rw [show a.length * 3 - (ptsV a).length = 0 by omega, show a.length * 3 + 1 - (ptsV a).length = 1 by omega, show a.length * 3 + 2 - (ptsV a).length = 2 by omega]
  rfl
theorem mkps_step {l : List Pt} {k j : Nat} (h : j < l.length) : (((ptsV (mkps k j ++ l.drop j)).set (j * 3) (.int .i64 (mkp (k + 3 * j)).1)).set (j * 3 + 1) (.int .i64 (mkp (k + 3 * j)).2.1)).set (j * 3 + 2) (.bool (mkp (k + 3 * j)).2.2) = ptsV (mkps k (j + 1) ++ l.drop (j + 1)) := by
  rw [List.drop_eq_getElem_cons h, mkps_next, List.append_assoc]
  have := ptsV_set3 (mkps k j) (l.drop (j + 1)) l[j] (mkp (k + 3 * j))
  rw [mkps_length] at this
  exact this

set_option maxHeartbeats 1600000 in
set_option maxRecDepth 100000 in
theorem markP_any (v : Value) (l : List Pt) (k B : Nat) (hkb : k ≤ 1048576) (hl : l.length ≤ 1048576) (w : World) (h : RowP B w v l) :
    Calls Try.prog 16 #[v, .int .i64 (k : Int)] w fun e w' => e = .returned (.int .i64 ((k + 3 * l.length : Nat) : Int)) ∧ RowP B w' v (mkps k l.length) ∧ Kps (fun b => v.ownBlock = some b) w w' := by
  obtain ⟨ra, rc, hv⟩ := row_form h
  subst hv
  have h' : Hid (RowP B w (.slice ra l.length rc) (mkps k 0 ++ l.drop 0)) := h
  clear h
  go_enter Try.func16, Try.ntmps16
  go_wp2
  go_loopw [1, 5] (fun x i wr => ∃ (m j : Nat), x = .int .i64 (m : Int) ∧ i = .int .i64 (j : Int) ∧ Hid (m = k + 3 * j) ∧ j ≤ l.length ∧ Hid (RowP B wr (.slice ra l.length rc) (mkps k j ++ l.drop j)) ∧ Hid (Kps (fun b => (Value.slice ra l.length rc).ownBlock = some b) w wr)) (fun _ i _ => l.length - (RowKit.intOf i).toNat)
  case atStart => exact ⟨k, 0, rfl, rfl, (show k = k + 3 * 0 from rfl), Nat.zero_le _, h', Kps.refl _ _⟩
  case round =>
    obtain ⟨m, j, rfl, rfl, hm, hj, HO, HK⟩ := hrel
    clear h'
    have hmb : m ≤ 4194304 := by have := hm.out; omega
    by_cases hlt : j < l.length
    · have hll : (mkps k j ++ l.drop j).length = l.length := by rw [List.length_append, mkps_length, List.length_drop]; omega
      rcases HO.out.2 with ⟨_, hz0⟩ | ⟨g, cap, cur, hveq, hg, _⟩
      · rw [hll] at hz0; omega
      · have hra : ra = some ⟨g, 0, none⟩ := by injection hveq
        subst hra
        have hk0 : (0 : Int) ≤ (j : Int) := by omega
        have hk1 : (j : Int) < (l.length : Int) := by omega
        clear hveq
        have hown1 : wr.ownsRow B 49 3 (.slice (some ⟨g, 0, none⟩) l.length rc) l.length (ptsV (mkps k j ++ l.drop j)) := by
          have h1 : wr.ownsRow B 49 3 (.slice (some ⟨g, 0, none⟩) l.length rc) (mkps k j ++ l.drop j).length (ptsV (mkps k j ++ l.drop j)) := HO.out
          rw [hll] at h1
          exact h1
        obtain ⟨P, c0, c1, c2⟩ : ∃ P : Pt, wr.cell? ⟨g, j * 3, none⟩ = some (.int .i64 P.1) ∧ wr.cell? ⟨g, j * 3 + 1, none⟩ = some (.int .i64 P.2.1) ∧ wr.cell? ⟨g, j * 3 + 2, none⟩ = some (.bool P.2.2) := by
          refine ⟨(mkps k j ++ l.drop j).getD j pZ, ?_, ?_, ?_⟩
          · have h1 := hown1.cellAt (j * 3) (by omega)
            have h2 := ptsV_at (mkps k j ++ l.drop j) j 0 (by omega) (by omega)
            rw [Nat.add_zero] at h2
            rw [h1, h2]
            rfl
          · rw [hown1.cellAt (j * 3 + 1) (by omega), ptsV_at (mkps k j ++ l.drop j) j 1 (by omega) (by omega)]
            rfl
          · rw [hown1.cellAt (j * 3 + 2) (by omega), ptsV_at (mkps k j ++ l.drop j) j 2 (by omega) (by omega)]
            rfl
        have f0 := hown1.frozenAt (j * 3)
        have f1 := hown1.frozenAt (j * 3 + 1)
        have f2 := hown1.frozenAt (j * 3 + 2)
        have hms := mkps_step (k := k) hlt
        rw [← hm.out] at hms
        have hst := (((hown1.stored (j * 3) (.int .i64 (mkp m).1)).1.stored (j * 3 + 1) (.int .i64 (mkp m).2.1)).1.stored (j * 3 + 2) (.bool (mkp m).2.2)).1
        rw [hms] at hst
        have hbit : (((m : Int) + 1 + 1) % 3 == 0) = decide ((m + 2) % 3 = 0) := by
          rw [Bool.eq_iff_iff, beq_iff_eq, decide_eq_true_iff]
          omega
        have HST : Hid (RowP B (((wr.setCell ⟨g, j * 3, none⟩ (.int .i64 (m : Int))).setCell ⟨g, j * 3 + 1, none⟩ (.int .i64 ((m : Int) + 1))).setCell ⟨g, j * 3 + 2, none⟩ (.bool (decide ((m + 2) % 3 = 0)))) (.slice (some ⟨g, 0, none⟩) l.length rc) (mkps k (j + 1) ++ l.drop (j + 1))) := by
          have hll2 : (mkps k (j + 1) ++ l.drop (j + 1)).length = l.length := by rw [List.length_append, mkps_length, List.length_drop]; omega
          show World.ownsRow _ _ _ _ _ _ _
          rw [hll2]
          exact hst
        have HBS : Hid (Kps (fun b => (Value.slice (some ⟨g, 0, none⟩) l.length rc).ownBlock = some b) w (((wr.setCell ⟨g, j * 3, none⟩ (.int .i64 (m : Int))).setCell ⟨g, j * 3 + 1, none⟩ (.int .i64 ((m : Int) + 1))).setCell ⟨g, j * 3 + 2, none⟩ (.bool (decide ((m + 2) % 3 = 0))))) := ((HK.out.setCell (p := ⟨g, j * 3, none⟩) rfl _).setCell (p := ⟨g, j * 3 + 1, none⟩) rfl _).setCell (p := ⟨g, j * 3 + 2, none⟩) rfl _
        clear hown1 hst hms hll HO HK
        generalize decide ((m + 2) % 3 = 0) = bz at hbit HST HBS
        go_wp2
        go_roundw
        case rel => exact ⟨m + 3, j + 1, by go_num, by go_num, (show m + 3 = k + 3 * (j + 1) by have := hm.out; omega), hlt, HST, HBS⟩
        case measure => simp [RowKit.intOf]; omega
    · have hje : j = l.length := by omega
      subst hje
      have HO2 : Hid (RowP B wr (.slice ra l.length rc) (mkps k l.length)) := by
        have h1 := HO.out
        rw [List.drop_length, List.append_nil] at h1
        exact h1
      clear HO
      go_wp2
      go_ret
      exact ⟨by rw [← hm.out]; rfl, HO2.out, HK.out⟩

set_option maxHeartbeats 1600000 in
set_option maxRecDepth 100000 in
theorem heldP_any (v : Value) (n k B : Nat) (hkb : k ≤ 1048576) (hl : n ≤ 1048576) (w : World) (h : RowP B w v (mkps k n)) :
    Calls Try.prog 17 #[v, .int .i64 (k : Int)] w fun e w' => e = .returned (.int .i64 ((k + 3 * n : Nat) : Int)) ∧ w = w' := by
  obtain ⟨ra, rc, hv⟩ := row_form h
  rw [mkps_length] at hv
  subst hv
  have HH : Hid (w.ownsRow B 49 3 (.slice ra n rc) n (ptsV (mkps k n))) := by
    have h1 : w.ownsRow B 49 3 (.slice ra n rc) (mkps k n).length (ptsV (mkps k n)) := h
    rw [mkps_length] at h1
    exact h1
  clear h
  go_enter Try.func17, Try.ntmps17
  go_wp2
  go_loopw [1, 5] (fun x i wr => ∃ (m j : Nat), x = .int .i64 (m : Int) ∧ i = .int .i64 (j : Int) ∧ Hid (m = k + 3 * j) ∧ j ≤ n ∧ w = wr) (fun _ i _ => n - (RowKit.intOf i).toNat)
  case atStart => exact ⟨k, 0, rfl, rfl, (show k = k + 3 * 0 from rfl), Nat.zero_le _, rfl⟩
  case round =>
    obtain ⟨m, j, rfl, rfl, hm, hj, rfl⟩ := hrel
    have hmb : m ≤ 4194304 := by have := hm.out; omega
    by_cases hlt : j < n
    · rcases HH.out.2 with ⟨_, hz0⟩ | ⟨g, cap, cur, hveq, hg, _⟩
      · omega
      · have hra : ra = some ⟨g, 0, none⟩ := by injection hveq
        subst hra
        have hk0 : (0 : Int) ≤ (j : Int) := by omega
        have hk1 : (j : Int) < (n : Int) := by omega
        have hbit : (((m : Int) + 1 + 1) % 3 == 0) = decide ((m + 2) % 3 = 0) := by
          rw [Bool.eq_iff_iff, beq_iff_eq, decide_eq_true_iff]
          omega
        have c0 : w.cell? ⟨g, j * 3, none⟩ = some (.int .i64 (m : Int)) := by
          have h1 := HH.out.cellAt (j * 3) (by omega)
          have h2 := ptsV_at (mkps k n) j 0 (by rw [mkps_length]; exact hlt) (by omega)
          rw [Nat.add_zero, mkps_at k hlt, ← hm.out] at h2
          rw [h1, h2]
          rfl
        have c1 : w.cell? ⟨g, j * 3 + 1, none⟩ = some (.int .i64 ((m : Int) + 1)) := by
          rw [HH.out.cellAt (j * 3 + 1) (by omega), ptsV_at (mkps k n) j 1 (by rw [mkps_length]; exact hlt) (by omega), mkps_at k hlt, ← hm.out]
          rfl
        have c2 : w.cell? ⟨g, j * 3 + 2, none⟩ = some (.bool (decide ((m + 2) % 3 = 0))) := by
          rw [HH.out.cellAt (j * 3 + 2) (by omega), ptsV_at (mkps k n) j 2 (by rw [mkps_length]; exact hlt) (by omega), mkps_at k hlt, ← hm.out]
          rfl
        generalize decide ((m + 2) % 3 = 0) = bz at hbit c2
        clear hveq
        cases bz
        · go_wp2
          go_roundw
          case rel => exact ⟨m + 3, j + 1, by go_num, by go_num, (show m + 3 = k + 3 * (j + 1) by have := hm.out; omega), hlt, by trivial⟩
          case measure => simp [RowKit.intOf]; omega
        · go_wp2
          go_roundw
          case rel => exact ⟨m + 3, j + 1, by go_num, by go_num, (show m + 3 = k + 3 * (j + 1) by have := hm.out; omega), hlt, by trivial⟩
          case measure => simp [RowKit.intOf]; omega
    · have hje : j = n := by omega
      subst hje
      go_wp2
      go_ret
      exact ⟨by rw [← hm.out]; rfl, by trivial⟩

end Go.Proofs.Ytkmelamfohfdkab
