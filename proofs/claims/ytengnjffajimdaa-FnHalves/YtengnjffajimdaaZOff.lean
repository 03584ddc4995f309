/-
  A list of numbers that is owned and may begin behind the beginning of its row: what the exact laws need of it.
  (-DROP-: what the seat lacks is left out.)
-/
import Derived.Test.YtengnjffajimdaaExZ
namespace Go.Proofs.Ytengnjffajimdaa
open Go.RowKit

def ZOff (lo hi : Nat) (w : World) (v : Value) (l : List Int) : Prop :=
  ∃ a c, v = .slice a l.length c ∧ ∀ j, j < l.length → ∃ b off, a = some ⟨b, off, none⟩ ∧ lo ≤ b ∧ b < hi ∧ w.cell? ⟨b, off + j, none⟩ = some (.int .i64 (l.getD j 0)) ∧ w.frozen? ⟨b, off + j, none⟩ = false
theorem ZOff.at {lo hi : Nat} {w : World} {v : Value} {l : List Int} (h : ZOff lo hi w v l) : ZAt w hi v l := by
  obtain ⟨a, c, rfl, h⟩ := h
  refine ⟨a, c, rfl, fun j hj => ?_⟩
  obtain ⟨b, off, e, _, h2, h3, _⟩ := h j hj
  exact ⟨b, off, e, h2, h3⟩
theorem ZOff.same {lo hi : Nat} {w w' : World} {v : Value} {l : List Int} (h : ZOff lo hi w v l) (hs : Same lo hi w w') : ZOff lo hi w' v l := by
  obtain ⟨a, c, rfl, h⟩ := h
  refine ⟨a, c, rfl, fun j hj => ?_⟩
  obtain ⟨b, off, e, h1, h2, h3, h4⟩ := h j hj
  have hb := hs b h1 h2
  exact ⟨b, off, e, h1, h2, (World.cell?_of_block (a := ⟨b, off + j, none⟩) hb).trans h3, (World.frozen?_of_block (a := ⟨b, off + j, none⟩) hb).trans h4⟩
theorem ZOff.wide {lo hi lo' hi' : Nat} {w : World} {v : Value} {l : List Int} (h : ZOff lo hi w v l) (h1 : lo' ≤ lo) (h2 : hi ≤ hi') : ZOff lo' hi' w v l := by
  obtain ⟨a, c, rfl, h⟩ := h
  refine ⟨a, c, rfl, fun j hj => ?_⟩
  obtain ⟨b, off, e, q1, q2, h3, h4⟩ := h j hj
  exact ⟨b, off, e, by omega, by omega, h3, h4⟩
theorem ZOff.form {lo hi : Nat} {w : World} {v : Value} {l : List Int} (h : ZOff lo hi w v l) : ∃ a c, v = .slice a l.length c := by
  obtain ⟨a, c, e, _⟩ := h
  exact ⟨a, c, e⟩
theorem ZOff.on {lo hi c : Nat} {w w' : World} {v : Value} {l : List Int} (h : ZOff lo hi w v l) (hb : Below c w w') (hc : hi ≤ c) : ZOff lo hi w' v l := h.same (Same.of_below hb hc)
theorem ZOwn.off {lo hi : Nat} {w : World} {v : Value} {l : List Int} (h : ZOwn lo hi w v l) : ZOff lo hi w v l := by
  rcases h.1.2 with ⟨rfl, h0⟩ | ⟨g, cp, cur, rfl, hg, hh, hrest⟩
  · exact ⟨none, 0, by rw [h0], fun j hj => by omega⟩
  · refine ⟨_, cp, rfl, fun j hj => ⟨g, 0, rfl, hg, h.2 g rfl, ?_, ?_⟩⟩
    · have hc := World.ownsRow.cellAt h.1 j (by omega)
      rw [Nat.zero_add, hc]
      simp [zsV, hj]
    · rw [Nat.zero_add]
      exact World.ownsRow.frozenAt h.1 j
/-- What is left behind k numbers. -/
theorem ZOwn.drop {lo hi g c : Nat} {w : World} {l : List Int} (k m d : Nat) (h : ZOwn lo hi w (.slice (some ⟨g, 0, none⟩) l.length c) l) (hm : m = l.length - k) : ZOff lo hi w (.slice (some ⟨g, k, none⟩) m d) (l.drop k) := by
  refine ⟨_, d, by rw [hm, List.length_drop], fun j hj => ?_⟩
  rw [List.length_drop] at hj
  obtain ⟨a', c', e, h'⟩ := h.off
  obtain ⟨b, off, e2, h1, h2, h3, h4⟩ := h' (k + j) (by omega)
  injection e with e
  rw [e2] at e
  injection e with e
  injection e with e3 e4
  subst e3
  subst e4
  rw [Nat.zero_add] at h3 h4
  refine ⟨_, k, rfl, h1, h2, ?_, h4⟩
  rw [h3]
  simp [List.getD_eq_getElem?_getD, List.getElem?_drop]

theorem set_getD (l : List Int) (j i : Nat) (x : Int) (hj : j < l.length) : (l.set j x).getD i 0 = if i = j then x else l.getD i 0 := by
  rw [List.getD_eq_getElem?_getD, List.getElem?_set, List.getD_eq_getElem?_getD]
  by_cases h : j = i
  · subst h
    rw [if_pos rfl, if_pos hj, if_pos rfl]
    rfl
  · rw [if_neg h, if_neg (fun e => h e.symm)]

set_option maxHeartbeats 800000 in
set_option maxRecDepth 100000 in
theorem markF_any (v : Value) (l : List Int) (k lo hi : Nat) (hkb : k ≤ 1099511627776) (hl : l.length ≤ 4194304) (w : World) (h : ZOff lo hi w v l) :
    Calls Try.prog 25 #[v, .int .i64 (k : Int)] w fun e w' => e = .returned (.int .i64 ((k + l.length : Nat) : Int)) ∧ ZOff lo hi w' v (mkz k l.length) ∧ Kps (fun b => lo ≤ b ∧ b < hi) w w' := by
  obtain ⟨ra, rc, hv⟩ := h.form
  subst hv
  have h' : Hid (ZOff lo hi w (.slice ra l.length rc) (mkz k 0 ++ l.drop 0)) := h
  clear h
  go_enter Try.func25, Try.ntmps25
  go_wp2
  go_loopw [1, 5] (fun x i wr => ∃ (m j : Nat), x = .int .i64 (m : Int) ∧ i = .int .i64 (j : Int) ∧ Hid (m = k + j) ∧ j ≤ l.length ∧ Hid (ZOff lo hi wr (.slice ra l.length rc) (mkz k j ++ l.drop j)) ∧ Hid (Kps (fun b => lo ≤ b ∧ b < hi) w wr)) (fun _ i _ => l.length - (RowKit.intOf i).toNat)
  case atStart => exact ⟨k, 0, rfl, rfl, (show k = k + 0 from rfl), Nat.zero_le _, h', Kps.refl _ _⟩
  case round =>
    obtain ⟨m, j, rfl, rfl, hm, hj, HO, HK⟩ := hrel
    clear h'
    have hmb : m ≤ 1099515822080 := by have := hm.out; omega
    by_cases hlt : j < l.length
    · have hll : (mkz k j ++ l.drop j).length = l.length := by rw [List.length_append, mkz_length, List.length_drop]; omega
      have hll2 : (mkz k (j + 1) ++ l.drop (j + 1)).length = l.length := by rw [List.length_append, mkz_length, List.length_drop]; omega
      obtain ⟨a', c', e', HC⟩ := HO.out
      rw [hll] at e' HC
      injection e' with e1 _ e2
      subst e1
      subst e2
      obtain ⟨b, off, rfl, hb1, hb2, hc, hf⟩ := HC j hlt
      have hk0 : (0 : Int) ≤ (j : Int) := by omega
      have hk1 : (j : Int) < (l.length : Int) := by omega
      have HST : Hid (ZOff lo hi (wr.setCell ⟨b, off + j, none⟩ (.int .i64 (m : Int))) (.slice (some ⟨b, off, none⟩) l.length rc) (mkz k (j + 1) ++ l.drop (j + 1))) := by
        refine ⟨_, rc, by rw [hll2], fun i hi => ?_⟩
        rw [hll2] at hi
        obtain ⟨b', off', e3, q1, q2, q3, q4⟩ := HC i hi
        injection e3 with e3
        injection e3 with e4 e5
        subst e4
        subst e5
        refine ⟨_, _, rfl, q1, q2, ?_, by rw [World.frozen?_setCell]; exact q4⟩
        rw [← mkz_step hlt, set_getD _ _ _ _ (by omega)]
        by_cases hij : i = j
        · subst hij
          rw [if_pos rfl, World.cell?_setCell_same (h := q3), hm.out]
        · rw [if_neg hij, World.cell?_setCell_other (h := fun e => hij (by injection e with _ e; omega))]
          exact q3
      have HBS : Hid (Kps (fun b => lo ≤ b ∧ b < hi) w (wr.setCell ⟨b, off + j, none⟩ (.int .i64 (m : Int)))) := HK.out.setCell (p := ⟨b, off + j, none⟩) ⟨hb1, hb2⟩ _
      clear hll hll2 HO HK HC
      go_wp2
      go_roundw
      case rel => exact ⟨m + 1, j + 1, by go_num, by go_num, (show m + 1 = k + (j + 1) by have := hm.out; omega), hlt, HST, HBS⟩
      case measure => simp [RowKit.intOf]; omega
    · have hje : j = l.length := by omega
      subst hje
      have HO2 : Hid (ZOff lo hi wr (.slice ra l.length rc) (mkz k l.length)) := by
        have h1 := HO.out
        rw [List.drop_length, List.append_nil] at h1
        exact h1
      clear HO
      go_wp2
      go_ret
      exact ⟨by rw [← hm.out]; rfl, HO2.out, HK.out⟩

set_option maxHeartbeats 800000 in
set_option maxRecDepth 100000 in
theorem heldF_any (v : Value) (n k lo hi : Nat) (hkb : k ≤ 1099511627776) (hl : n ≤ 4194304) (w : World) (h : ZOff lo hi w v (mkz k n)) :
    Calls Try.prog 26 #[v, .int .i64 (k : Int)] w fun e w' => e = .returned (.int .i64 ((k + n : Nat) : Int)) ∧ Below w.heap.size w w' := by
  obtain ⟨ra, rc, rfl, HC⟩ := h
  rw [mkz_length] at HC ⊢
  have HH : Hid (∀ j, j < n → ∃ b off, ra = some ⟨b, off, none⟩ ∧ w.cell? ⟨b, off + j, none⟩ = some (.int .i64 ((k + j : Nat) : Int))) := fun j hj => by
    obtain ⟨b, off, e, _, _, h3, _⟩ := HC j hj
    refine ⟨b, off, e, ?_⟩
    rw [h3, List.getD_eq_getElem?_getD, mkz_at k hj]
    rfl
  clear HC
  go_enter Try.func26, Try.ntmps26
  go_wp2
  go_loopw [1, 5] (fun x i wr => ∃ (m j : Nat), x = .int .i64 (m : Int) ∧ i = .int .i64 (j : Int) ∧ Hid (m = k + j) ∧ j ≤ n ∧ w = wr) (fun _ i _ => n - (RowKit.intOf i).toNat)
  case atStart => exact ⟨k, 0, rfl, rfl, (show k = k + 0 from rfl), Nat.zero_le _, rfl⟩
  case round =>
    obtain ⟨m, j, rfl, rfl, hm, hj, rfl⟩ := hrel
    have hmb : m ≤ 1099515822080 := by have := hm.out; omega
    by_cases hlt : j < n
    · obtain ⟨b, off, rfl, hc⟩ := HH.out j hlt
      rw [← hm.out] at hc
      have hk0 : (0 : Int) ≤ (j : Int) := by omega
      have hk1 : (j : Int) < (n : Int) := by omega
      go_wp2
      go_roundw
      case rel => exact ⟨m + 1, j + 1, by go_num, by go_num, (show m + 1 = k + (j + 1) by have := hm.out; omega), hlt, by trivial⟩
      case measure => simp [RowKit.intOf]; omega
    · have hje : j = n := by omega
      subst hje
      go_wp2
      go_ret
      exact ⟨by rw [← hm.out]; rfl, Below.refl _ _⟩

end Go.Proofs.Ytengnjffajimdaa
