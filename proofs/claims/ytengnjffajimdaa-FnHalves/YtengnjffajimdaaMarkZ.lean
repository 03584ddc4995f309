/-
  The walks of the helpers of the exact laws on lists of numbers: marks, and whether they are held.
  (-DROP-: what the seat lacks is left out.)
-/
import Derived.Test.YtengnjffajimdaaRowZ
import Derived.Test.YtengnjffajimdaaBytes
import Derived.Test.YtengnjffajimdaaKps
namespace Go.Proofs.Ytengnjffajimdaa
open Go.RowKit

/-- So many marks. -/
def mkz (k n : Nat) : List Int := zls (fun j => ((k + j : Nat) : Int)) n
theorem mkz_length (k n : Nat) : (mkz k n).length = n := zls_length _ _
theorem mkz_at (k : Nat) {n j : Nat} (h : j < n) : (mkz k n)[j]? = some ((k + j : Nat) : Int) := by simp [mkz, zls, h]
theorem mkz_step {l : List Int} {k j : Nat} (h : j < l.length) : (mkz k j ++ l.drop j).set j ((k + j : Nat) : Int) = mkz k (j + 1) ++ l.drop (j + 1) := by
  have hl := mkz_length k j
  rw [List.drop_eq_getElem_cons h, show mkz k (j + 1) = mkz k j ++ [((k + j : Nat) : Int)] from zls_next _ _, List.append_assoc]
  rw [List.set_append_right _ _ (by omega)]
  have : j - (mkz k j).length = 0 := by omega
  rw [this]
  rfl

set_option maxHeartbeats 800000 in
set_option maxRecDepth 100000 in
theorem markZW_any (v : Value) (l : List Int) (k B : Nat) (hkb : k ≤ 1099511627776) (hl : l.length ≤ 4194304) (w : World) (h : RowZs B w v l) :
    Calls Try.prog 25 #[v, .int .i64 (k : Int)] w fun e w' => e = .returned (.int .i64 ((k + l.length : Nat) : Int)) ∧ RowZs B w' v (mkz k l.length) ∧ Kps (fun b => v.ownBlock = some b) w w' := by
  obtain ⟨ra, rc, hv⟩ := row_form h
  subst hv
  have h' : Hid (RowZs B w (.slice ra l.length rc) (mkz k 0 ++ l.drop 0)) := h
  clear h
  go_enter Try.func25, Try.ntmps25
  go_wp2
  go_loopw [1, 5] (fun x i wr => ∃ (m j : Nat), x = .int .i64 (m : Int) ∧ i = .int .i64 (j : Int) ∧ Hid (m = k + j) ∧ j ≤ l.length ∧ Hid (RowZs B wr (.slice ra l.length rc) (mkz k j ++ l.drop j)) ∧ Hid (Kps (fun b => (Value.slice ra l.length rc).ownBlock = some b) w wr)) (fun _ i _ => l.length - (RowKit.intOf i).toNat)
  case atStart => exact ⟨k, 0, rfl, rfl, (show k = k + 0 from rfl), Nat.zero_le _, h', Kps.refl _ _⟩
  case round =>
    obtain ⟨m, j, rfl, rfl, hm, hj, HO, HK⟩ := hrel
    clear h'
    have hmb : m ≤ 1099515822080 := by have := hm.out; omega
    by_cases hlt : j < l.length
    · have hll : (mkz k j ++ l.drop j).length = l.length := by rw [List.length_append, mkz_length, List.length_drop]; omega
      rcases HO.out.2 with ⟨_, hz0⟩ | ⟨g, cap, cur, hveq, hg, _⟩
      · rw [hll] at hz0; omega
      · have hra : ra = some ⟨g, 0, none⟩ := by injection hveq
        subst hra
        have hk0 : (0 : Int) ≤ (j : Int) := by omega
        have hk1 : (j : Int) < (l.length : Int) := by omega
        clear hveq
        have hown1 : wr.ownsRow B 3 1 (.slice (some ⟨g, 0, none⟩) l.length rc) l.length (zsV (mkz k j ++ l.drop j)) := by
          have h1 : wr.ownsRow B 3 1 (.slice (some ⟨g, 0, none⟩) l.length rc) (mkz k j ++ l.drop j).length (zsV (mkz k j ++ l.drop j)) := HO.out
          rw [hll] at h1
          exact h1
        obtain ⟨old, hc⟩ : ∃ old, wr.cell? ⟨g, j, none⟩ = some (.int .i64 old) := by
          have h1 := hown1.cellAt j (by omega)
          have hj2 : j < (mkz k j ++ l.drop j).length := by omega
          exact ⟨(mkz k j ++ l.drop j)[j], by rw [h1, zsV, List.getElem?_map, List.getElem?_eq_getElem hj2]; rfl⟩
        have hf := hown1.frozenAt j
        have hst := (hown1.stored j (.int .i64 (m : Int))).1
        have hms : (zsV (mkz k j ++ l.drop j)).set j (.int .i64 (m : Int)) = zsV (mkz k (j + 1) ++ l.drop (j + 1)) := by
          unfold zsV
          rw [← mkz_step hlt, List.map_set, hm.out]
        rw [hms] at hst
        have HST : Hid (RowZs B (wr.setCell ⟨g, j, none⟩ (.int .i64 (m : Int))) (.slice (some ⟨g, 0, none⟩) l.length rc) (mkz k (j + 1) ++ l.drop (j + 1))) := by
          have hll2 : (mkz k (j + 1) ++ l.drop (j + 1)).length = l.length := by rw [List.length_append, mkz_length, List.length_drop]; omega
          show World.ownsRow _ _ _ _ _ _ _
          rw [hll2]
          exact hst
        have HBS : Hid (Kps (fun b => (Value.slice (some ⟨g, 0, none⟩) l.length rc).ownBlock = some b) w (wr.setCell ⟨g, j, none⟩ (.int .i64 (m : Int)))) := HK.out.setCell (p := ⟨g, j, none⟩) rfl _
        clear hown1 hst hms hll HO HK
        go_wp2
        go_roundw
        case rel => exact ⟨m + 1, j + 1, by go_num, by go_num, (show m + 1 = k + (j + 1) by have := hm.out; omega), hlt, HST, HBS⟩
        case measure => simp [RowKit.intOf]; omega
    · have hje : j = l.length := by omega
      subst hje
      have HO2 : Hid (RowZs B wr (.slice ra l.length rc) (mkz k l.length)) := by
        have h1 := HO.out
        rw [List.drop_length, List.append_nil] at h1
        exact h1
      clear HO
      go_wp2
      go_ret
      exact ⟨by rw [← hm.out]; rfl, HO2.out, HK.out⟩

theorem markZ_any (v : Value) (l : List Int) (k B : Nat) (hkb : k ≤ 1099511627776) (hl : l.length ≤ 1048576) (w : World) (h : RowZs B w v l) :
    Calls Try.prog 25 #[v, .int .i64 (k : Int)] w fun e w' => e = .returned (.int .i64 ((k + l.length : Nat) : Int)) ∧ RowZs B w' v (mkz k l.length) ∧ Kps (fun b => v.ownBlock = some b) w w' :=
  markZW_any v l k B hkb (Nat.le_trans hl (by decide)) w h

set_option maxHeartbeats 800000 in
set_option maxRecDepth 100000 in
theorem heldZW_any (v : Value) (n k B : Nat) (hkb : k ≤ 1099511627776) (hl : n ≤ 4194304) (w : World) (h : RowZs B w v (mkz k n)) :
    Calls Try.prog 26 #[v, .int .i64 (k : Int)] w fun e w' => e = .returned (.int .i64 ((k + n : Nat) : Int)) ∧ w = w' := by
  obtain ⟨ra, rc, hv⟩ := row_form h
  rw [mkz_length] at hv
  subst hv
  have HH : Hid (w.ownsRow B 3 1 (.slice ra n rc) n (zsV (mkz k n))) := by
    have h1 : w.ownsRow B 3 1 (.slice ra n rc) (mkz k n).length (zsV (mkz k n)) := h
    rw [mkz_length] at h1
    exact h1
  clear h
  go_enter Try.func26, Try.ntmps26
  go_wp2
  go_loopw [1, 5] (fun x i wr => ∃ (m j : Nat), x = .int .i64 (m : Int) ∧ i = .int .i64 (j : Int) ∧ Hid (m = k + j) ∧ j ≤ n ∧ w = wr) (fun _ i _ => n - (RowKit.intOf i).toNat)
  case atStart => exact ⟨k, 0, rfl, rfl, (show k = k + 0 from rfl), Nat.zero_le _, rfl⟩
  case round =>
    obtain ⟨m, j, rfl, rfl, hm, hj, rfl⟩ := hrel
    have hmb : m ≤ 1099515822080 := by have := hm.out; omega
    by_cases hlt : j < n
    · rcases HH.out.2 with ⟨_, hz0⟩ | ⟨g, cap, cur, hveq, hg, _⟩
      · omega
      · have hra : ra = some ⟨g, 0, none⟩ := by injection hveq
        subst hra
        have hk0 : (0 : Int) ≤ (j : Int) := by omega
        have hk1 : (j : Int) < (n : Int) := by omega
        have hc : w.cell? ⟨g, j, none⟩ = some (.int .i64 (m : Int)) := by
          rw [HH.out.cellAt j (by omega), zsV, List.getElem?_map, mkz_at k hlt, hm.out]
          rfl
        clear hveq
        go_wp2
        go_roundw
        case rel => exact ⟨m + 1, j + 1, by go_num, by go_num, (show m + 1 = k + (j + 1) by have := hm.out; omega), hlt, by trivial⟩
        case measure => simp [RowKit.intOf]; omega
    · have hje : j = n := by omega
      subst hje
      go_wp2
      go_ret
      exact ⟨by rw [← hm.out]; rfl, by trivial⟩

theorem heldZ_any (v : Value) (n k B : Nat) (hkb : k ≤ 1099511627776) (hl : n ≤ 1048576) (w : World) (h : RowZs B w v (mkz k n)) :
    Calls Try.prog 26 #[v, .int .i64 (k : Int)] w fun e w' => e = .returned (.int .i64 ((k + n : Nat) : Int)) ∧ w = w' :=
  heldZW_any v n k B hkb (Nat.le_trans hl (by decide)) w h

end Go.Proofs.Ytengnjffajimdaa
