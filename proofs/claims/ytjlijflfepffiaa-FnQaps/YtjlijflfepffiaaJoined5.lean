/-
  Texts of one's own, joined.
-/
import Derived.Test.YtjlijflfepffiaaJoined3
import Derived.Test.YtjlijflfepffiaaJoined4

/-
  The walks of the helpers of the exact laws on lists of numbers: marks, and whether they are held.
  (-DROP-: what the seat lacks is left out.)
-/
namespace Go.Proofs.Ytjlijflfepffiaa
open Go.RowKit

/-- So many marks. -/
def mkz (k n : Nat) : List Int := zls (fun j => ((k + j : Nat) : Int)) n
theorem mkz_length (k n : Nat) : (mkz k n).length = n := zls_length _ _
theorem mkz_at (k : Nat) {n j : Nat} (h : j < n) : (mkz k n)[j]? = some ((k + j : Nat) : Int) := by simp [mkz, zls, h]
theorem mkz_step {l : List Int} {k j : Nat} (h : j < l.length) : (mkz k j ++ l.drop j).set j ((k + j : Nat) : Int) = mkz k (j + 1) ++ l.drop (j + 1) := by
  have hl := mkz_length k j
  rw [List.drop_eq_getElem_cons h, show mkz k (j + 1) = mkz k j ++ [((k + j : Nat) : Int)] from zls_next _ _, List.append_assoc]
  rw [List.set_append_right _ _ (by omega)]
  have : j - (mkz k j).length = 0 := by omega
  rw [this]
  rfl

set_option maxHeartbeats 800000 in
set_option maxRecDepth 100000 in
theorem markZ_any (v : Value) (l : List Int) (k B : Nat) (hkb : k ≤ 1099511627776) (hl : l.length ≤ 1048576) (w : World) (h : RowZs B w v l) :
    Calls Try.prog 42 #[v, .int .i64 (k : Int)] w fun e w' => e = .returned (.int .i64 ((k + l.length : Nat) : Int)) ∧ RowZs B w' v (mkz k l.length) ∧ Kps (fun b => v.ownBlock = some b) w w' := by
  obtain ⟨ra, rc, hv⟩ := row_form h
  subst hv
  have h' : Hid (RowZs B w (.slice ra l.length rc) (mkz k 0 ++ l.drop 0)) := h
  clear h
  go_enter Try.func42, Try.ntmps42
  go_wp2
  go_loopw [1, 5] (fun x i wr => ∃ (m j : Nat), x = .int .i64 (m : Int) ∧ i = .int .i64 (j : Int) ∧ Hid (m = k + j) ∧ j ≤ l.length ∧ Hid (RowZs B wr (.slice ra l.length rc) (mkz k j ++ l.drop j)) ∧ Hid (Kps (fun b => (Value.slice ra l.length rc).ownBlock = some b) w wr)) (fun _ i _ => l.length - (RowKit.intOf i).toNat)
  case atStart => exact ⟨k, 0, rfl, rfl, (show k = k + 0 from rfl), Nat.zero_le _, h', Kps.refl _ _⟩
  case round =>
    obtain ⟨m, j, rfl, rfl, hm, hj, HO, HK⟩ := hrel
    clear h'
    have hmb : m ≤ 1099512676352 := by have := hm.out; omega
    by_cases hlt : j < l.length
    · have hll : (mkz k j ++ l.drop j).length = l.length := by rw [List.length_append, mkz_length, List.length_drop]; omega
      rcases HO.out.2 with ⟨_, hz0⟩ | ⟨g, cap, cur, hveq, hg, _⟩
      · rw [hll] at hz0; omega
      · have hra : ra = some ⟨g, 0, none⟩ := by injection hveq
        subst hra
        have hk0 : (0 : Int) ≤ (j : Int) := by omega
        have hk1 : (j : Int) < (l.length : Int) := by omega
        clear hveq
        have hown1 : wr.ownsRow B 3 1 (.slice (some ⟨g, 0, none⟩) l.length rc) l.length (zsV (mkz k j ++ l.drop j)) := by
          have h1 : wr.ownsRow B 3 1 (.slice (some ⟨g, 0, none⟩) l.length rc) (mkz k j ++ l.drop j).length (zsV (mkz k j ++ l.drop j)) := HO.out
          rw [hll] at h1
          exact h1
        obtain ⟨old, hc⟩ : ∃ old, wr.cell? ⟨g, j, none⟩ = some (.int .i64 old) := by
          have h1 := hown1.cellAt j (by omega)
          have hj2 : j < (mkz k j ++ l.drop j).length := by omega
          exact ⟨(mkz k j ++ l.drop j)[j], by rw [h1, zsV, List.getElem?_map, List.getElem?_eq_getElem hj2]; rfl⟩
        have hf := hown1.frozenAt j
        have hst := (hown1.stored j (.int .i64 (m : Int))).1
        have hms : (zsV (mkz k j ++ l.drop j)).set j (.int .i64 (m : Int)) = zsV (mkz k (j + 1) ++ l.drop (j + 1)) := by
          unfold zsV
          rw [← mkz_step hlt, List.map_set, hm.out]
        rw [hms] at hst
        have HST : Hid (RowZs B (wr.setCell ⟨g, j, none⟩ (.int .i64 (m : Int))) (.slice (some ⟨g, 0, none⟩) l.length rc) (mkz k (j + 1) ++ l.drop (j + 1))) := by
          have hll2 : (mkz k (j + 1) ++ l.drop (j + 1)).length = l.length := by rw [List.length_append, mkz_length, List.length_drop]; omega
          show World.ownsRow _ _ _ _ _ _ _
          rw [hll2]
          exact hst
        have HBS : Hid (Kps (fun b => (Value.slice (some ⟨g, 0, none⟩) l.length rc).ownBlock = some b) w (wr.setCell ⟨g, j, none⟩ (.int .i64 (m : Int)))) := HK.out.setCell (p := ⟨g, j, none⟩) rfl _
        clear hown1 hst hms hll HO HK
        go_wp2
        go_roundw
        case rel => exact ⟨m + 1, j + 1, by go_num, by go_num, (show m + 1 = k + (j + 1) by have := hm.out; omega), hlt, HST, HBS⟩
        case measure => simp [RowKit.intOf]; omega
    · have hje : j = l.length := by omega
      subst hje
      have HO2 : Hid (RowZs B wr (.slice ra l.length rc) (mkz k l.length)) := by
        have h1 := HO.out
        rw [List.drop_length, List.append_nil] at h1
        exact h1
      clear HO
      go_wp2
      go_ret
      exact ⟨by rw [← hm.out]; rfl, HO2.out, HK.out⟩

set_option maxHeartbeats 800000 in
set_option maxRecDepth 100000 in
theorem heldZ_any (v : Value) (n k B : Nat) (hkb : k ≤ 1099511627776) (hl : n ≤ 1048576) (w : World) (h : RowZs B w v (mkz k n)) :
    Calls Try.prog 43 #[v, .int .i64 (k : Int)] w fun e w' => e = .returned (.int .i64 ((k + n : Nat) : Int)) ∧ w = w' := by
  obtain ⟨ra, rc, hv⟩ := row_form h
  rw [mkz_length] at hv
  subst hv
  have HH : Hid (w.ownsRow B 3 1 (.slice ra n rc) n (zsV (mkz k n))) := by
    have h1 : w.ownsRow B 3 1 (.slice ra n rc) (mkz k n).length (zsV (mkz k n)) := h
    rw [mkz_length] at h1
    exact h1
  clear h
  go_enter Try.func43, Try.ntmps43
  go_wp2
  go_loopw [1, 5] (fun x i wr => ∃ (m j : Nat), x = .int .i64 (m : Int) ∧ i = .int .i64 (j : Int) ∧ Hid (m = k + j) ∧ j ≤ n ∧ w = wr) (fun _ i _ => n - (RowKit.intOf i).toNat)
  case atStart => exact ⟨k, 0, rfl, rfl, (show k = k + 0 from rfl), Nat.zero_le _, rfl⟩
  case round =>
    obtain ⟨m, j, rfl, rfl, hm, hj, rfl⟩ := hrel
    have hmb : m ≤ 1099512676352 := by have := hm.out; omega
    by_cases hlt : j < n
    · rcases HH.out.2 with ⟨_, hz0⟩ | ⟨g, cap, cur, hveq, hg, _⟩
      · omega
      · have hra : ra = some ⟨g, 0, none⟩ := by injection hveq
        subst hra
        have hk0 : (0 : Int) ≤ (j : Int) := by omega
        have hk1 : (j : Int) < (n : Int) := by omega
        have hc : w.cell? ⟨g, j, none⟩ = some (.int .i64 (m : Int)) := by
          rw [HH.out.cellAt j (by omega), zsV, List.getElem?_map, mkz_at k hlt, hm.out]
          rfl
        clear hveq
        go_wp2
        go_roundw
        case rel => exact ⟨m + 1, j + 1, by go_num, by go_num, (show m + 1 = k + (j + 1) by have := hm.out; omega), hlt, by trivial⟩
        case measure => simp [RowKit.intOf]; omega
    · have hje : j = n := by omega
      subst hje
      go_wp2
      go_ret
      exact ⟨by rw [← hm.out]; rfl, by trivial⟩

end Go.Proofs.Ytjlijflfepffiaa

/-
  Lists of lists of numbers: what is read, what is owned.
-/
namespace Go.Proofs.Ytjlijflfepffiaa
open Go.RowKit

/-- These blocks are as they were. -/
def Same (lo hi : Nat) (w w' : World) : Prop := ∀ k, lo ≤ k → k < hi → w'.heap[k]? = w.heap[k]?
theorem Same.of_below {lo hi c : Nat} {w w' : World} (h : Below c w w') (hc : hi ≤ c) : Same lo hi w w' := fun k _ h2 => h.block k (by omega)
theorem Same.of_kps {S : Nat → Prop} {lo hi : Nat} {w w' : World} (h : Kps S w w') (hc : hi ≤ w.heap.size) (hS : ∀ k, lo ≤ k → k < hi → ¬ S k) : Same lo hi w w' := fun k h1 h2 => h.block k (by omega) (hS k h1 h2)
theorem Same.of_grown {r : Option Nat} {lo hi : Nat} {w w' : World} (h : w.grownBy w' r) (hc : hi ≤ w.heap.size) (hS : ∀ k, lo ≤ k → k < hi → r ≠ some k) : Same lo hi w w' := fun k h1 h2 => h.block k (by omega) fun e => hS k h1 h2 e.symm
theorem Same.set {lo hi : Nat} (w : World) (p : Addr) (u : Value) (h : p.block < lo ∨ hi ≤ p.block) : Same lo hi w (w.setCell p u) := fun k h1 h2 => Below.heap_setCell _ _ _ _ (by omega)
theorem owns_same {w w' : World} {B e sz n lo hi : Nat} {v : Value} {xs : List Value} (h : w.ownsRow B e sz v n xs) (hs : Same lo hi w w') (hv : ∀ k, v.ownBlock = some k → lo ≤ k ∧ k < hi) : w'.ownsRow B e sz v n xs := by
  refine ⟨h.1, ?_⟩
  rcases h.2 with h0 | ⟨g, cap, cur, hve, hB, hg, rest⟩
  · exact .inl h0
  · have := hv g (by rw [hve]; rfl)
    exact .inr ⟨g, cap, cur, hve, hB, (hs g this.1 this.2).trans hg, rest⟩

/-- A list of numbers that is read; it lies below c. -/
def ZAt (w : World) (c : Nat) (v : Value) (l : List Int) : Prop := ∃ a cp, v = .slice a l.length cp ∧ IntsAt w a l.length c (fun j => l.getD j 0)
theorem ZAt.on {w w1 : World} {c : Nat} {v : Value} {l : List Int} (h : ZAt w c v l) (hb : Below c w w1) : ZAt w1 c v l := by
  obtain ⟨a, cp, h1, h2⟩ := h
  exact ⟨a, cp, h1, h2.on hb⟩
theorem ZAt.wide {w : World} {c d : Nat} {v : Value} {l : List Int} (h : ZAt w c v l) (hd : c ≤ d) : ZAt w d v l := by
  obtain ⟨a, cp, h1, h2⟩ := h
  exact ⟨a, cp, h1, h2.wide hd⟩
theorem ZAt.of {w : World} {c n cp : Nat} {a : Option Addr} {f : Nat → Int} (h : IntsAt w a n c f) : ZAt w c (.slice a n cp) (zls f n) := by
  refine ⟨a, cp, by rw [zls_length], ?_⟩
  rw [zls_length]
  intro j hj
  obtain ⟨b, off, h1, h2, h3⟩ := h j hj
  exact ⟨b, off, h1, h2, by rw [h3]; show _ = some (Value.int .i64 ((zls f n).getD j 0)); rw [zls_at f hj]⟩

/-- A list of numbers that is owned: its block is one of these. -/
def ZOwn (lo hi : Nat) (w : World) (v : Value) (l : List Int) : Prop := RowZs lo w v l ∧ ∀ k, v.ownBlock = some k → k < hi
theorem ZOwn.in {lo hi : Nat} {w : World} {v : Value} {l : List Int} (h : ZOwn lo hi w v l) : ∀ k, v.ownBlock = some k → lo ≤ k ∧ k < hi := fun k hk => ⟨(h.1.lt k hk).1, h.2 k hk⟩
theorem ZOwn.same {lo hi : Nat} {w w' : World} {v : Value} {l : List Int} (h : ZOwn lo hi w v l) (hs : Same lo hi w w') : ZOwn lo hi w' v l := ⟨owns_same h.1 hs h.in, h.2⟩
theorem owns_low {w : World} {B B' e sz n : Nat} {v : Value} {xs : List Value} (h : w.ownsRow B e sz v n xs) (hB : B' ≤ B) : w.ownsRow B' e sz v n xs := by
  refine ⟨h.1, ?_⟩
  rcases h.2 with h0 | ⟨g, cap, cur, hve, hg, rest⟩
  · exact .inl h0
  · exact .inr ⟨g, cap, cur, hve, by omega, rest⟩
theorem ZOwn.wide {lo hi lo' hi' : Nat} {w : World} {v : Value} {l : List Int} (h : ZOwn lo hi w v l) (h1 : lo' ≤ lo) (h2 : hi ≤ hi') : ZOwn lo' hi' w v l := ⟨owns_low h.1 h1, fun k hk => by have := h.2 k hk; omega⟩
theorem ZOwn.of {lo : Nat} {w : World} {v : Value} {l : List Int} (h : RowZs lo w v l) : ZOwn lo w.heap.size w v l := ⟨h, fun k hk => (h.lt k hk).2⟩
theorem ZOwn.at {lo hi : Nat} {w : World} {v : Value} {l : List Int} (h : ZOwn lo hi w v l) : ZAt w hi v l := by
  rcases h.1.2 with ⟨rfl, h0⟩ | ⟨g, cp, cur, rfl, hg, hh, hrest⟩
  · exact ⟨none, 0, by rw [h0], fun j hj => by omega⟩
  · refine ⟨_, cp, rfl, fun j hj => ⟨g, 0, rfl, h.2 g rfl, ?_⟩⟩
    have hc := World.ownsRow.cellAt h.1 j (by omega)
    rw [Nat.zero_add, hc]
    simp [zsV, hj]
theorem ZOwn.on {lo hi c : Nat} {w w' : World} {v : Value} {l : List Int} (h : ZOwn lo hi w v l) (hb : Below c w w') (hc : hi ≤ c) : ZOwn lo hi w' v l := h.same (Same.of_below hb hc)

/-- A list of structs that hold lists of numbers, sz each; it lies below c. -/
def NAt (sz : Nat) (w : World) (c : Nat) (v : Value) (n : Nat) (ls : List (List Int)) : Prop :=
  ls.length = n * sz ∧ ∃ a cp, v = .slice a n cp ∧ ∀ j, j < n * sz → ∃ b off u, a = some ⟨b, off, none⟩ ∧ b < c ∧ w.cell? ⟨b, off + j, none⟩ = some u ∧ ZAt w c u (ls.getD j [])
theorem NAt.on {sz : Nat} {w w1 : World} {c n : Nat} {v : Value} {ls : List (List Int)} (h : NAt sz w c v n ls) (hb : Below c w w1) : NAt sz w1 c v n ls := by
  obtain ⟨h0, a, cp, h1, h2⟩ := h
  refine ⟨h0, a, cp, h1, fun j hj => ?_⟩
  obtain ⟨b, off, u, h3, h4, h5, h6⟩ := h2 j hj
  exact ⟨b, off, u, h3, h4, (hb.cell (p := ⟨b, off + j, none⟩) h4).trans h5, h6.on hb⟩
theorem NAt.wide {sz : Nat} {w : World} {c d n : Nat} {v : Value} {ls : List (List Int)} (h : NAt sz w c v n ls) (hd : c ≤ d) : NAt sz w d v n ls := by
  obtain ⟨h0, a, cp, h1, h2⟩ := h
  refine ⟨h0, a, cp, h1, fun j hj => ?_⟩
  obtain ⟨b, off, u, h3, h4, h5, h6⟩ := h2 j hj
  exact ⟨b, off, u, h3, by omega, h5, h6.wide hd⟩

/-- A list of structs that hold lists of numbers, sz each, owned, with the cells named: no two lie in one block. -/
structure NOwnV (sz e lo hi : Nat) (w : World) (v : Value) (n : Nat) (vs : List Value) (ls : List (List Int)) : Prop where
  row : w.ownsRow lo e sz v n vs
  len : ls.length = n * sz
  top : ∀ k, v.ownBlock = some k → k < hi
  each : ∀ j, j < n * sz → ZOwn lo hi w (vs.getD j undef) (ls.getD j [])
  apart : ∀ i j k, i < n * sz → j < n * sz → i ≠ j → (vs.getD i undef).ownBlock = some k → (vs.getD j undef).ownBlock ≠ some k
  off : ∀ j k, j < n * sz → (vs.getD j undef).ownBlock = some k → v.ownBlock ≠ some k
theorem NOwnV.vlen {sz e lo hi n : Nat} {w : World} {v : Value} {vs : List Value} {ls : List (List Int)} (h : NOwnV sz e lo hi w v n vs ls) : vs.length = n * sz := h.row.1
theorem NOwnV.same {sz e lo hi n : Nat} {w w' : World} {v : Value} {vs : List Value} {ls : List (List Int)} (h : NOwnV sz e lo hi w v n vs ls) (hs : Same lo hi w w') : NOwnV sz e lo hi w' v n vs ls :=
  ⟨owns_same h.row hs (fun k hk => ⟨(h.row.lt k hk).1, h.top k hk⟩), h.len, h.top, fun j hj => (h.each j hj).same hs, h.apart, h.off⟩
theorem NOwnV.wide {sz e lo hi hi' n : Nat} {w : World} {v : Value} {vs : List Value} {ls : List (List Int)} (h : NOwnV sz e lo hi w v n vs ls) (h2 : hi ≤ hi') : NOwnV sz e lo hi' w v n vs ls :=
  ⟨h.row, h.len, fun k hk => by have := h.top k hk; omega, fun j hj => (h.each j hj).wide (Nat.le_refl _) h2, h.apart, h.off⟩
theorem NOwnV.at {sz e lo hi n : Nat} {w : World} {v : Value} {vs : List Value} {ls : List (List Int)} (h : NOwnV sz e lo hi w v n vs ls) : NAt sz w hi v n ls := by
  refine ⟨h.len, ?_⟩
  rcases h.row.2 with ⟨rfl, h0⟩ | ⟨g, cp, cur, rfl, hg, hh, hrest⟩
  · exact ⟨none, 0, by rw [h0], fun j hj => by rw [h0] at hj; omega⟩
  · refine ⟨_, cp, rfl, fun j hj => ⟨g, 0, vs.getD j undef, rfl, h.top g rfl, ?_, (h.each j hj).at⟩⟩
    have hl := h.vlen
    rw [Nat.zero_add, World.ownsRow.cellAt h.row j hj, List.getElem?_eq_getElem (by omega)]
    simp [show j < vs.length by omega]
theorem NOwnV.cell {sz e lo hi n g cp : Nat} {w : World} {vs : List Value} {ls : List (List Int)} (h : NOwnV sz e lo hi w (.slice (some ⟨g, 0, none⟩) n cp) n vs ls) {j : Nat} (hj : j < n * sz) : w.cell? ⟨g, j, none⟩ = some (vs.getD j undef) := by
  have hl := h.vlen
  rw [World.ownsRow.cellAt h.row j hj, List.getElem?_eq_getElem (by omega)]
  simp [show j < vs.length by omega]

theorem getD_set_same {α : Type} (l : List α) (j : Nat) (x d : α) (h : j < l.length) : (l.set j x).getD j d = x := by simp [h]
theorem getD_set_other {α : Type} (l : List α) (i j : Nat) (x d : α) (h : i ≠ j) : (l.set i x).getD j d = l.getD j d := by simp [h]

/-- One of the lists is another one, in its own block. -/
theorem NOwnV.turn {sz e lo hi n : Nat} {w w' : World} {v : Value} {vs : List Value} {ls : List (List Int)} {j : Nat} {l : List Int} (h : NOwnV sz e lo hi w v n vs ls) (hj : j < n * sz) (hr : RowZs lo w' (vs.getD j undef) l) (hk : Kps (fun b => (vs.getD j undef).ownBlock = some b) w w') : NOwnV sz e lo hi w' v n vs (ls.set j l) := by
  have hl := h.len
  refine ⟨hk.row h.row (fun k hk q => h.off j k hj q hk), by simpa using hl, h.top, fun i hi => ?_, h.apart, h.off⟩
  by_cases hij : j = i
  · subst hij
    rw [getD_set_same _ _ _ _ (by omega)]
    exact ⟨hr, (h.each j hj).2⟩
  · rw [getD_set_other _ _ _ _ _ hij]
    exact ⟨hk.row (h.each i hi).1 (fun k hk q => h.apart j i k hj hi hij q hk), (h.each i hi).2⟩

/-- A list that lies behind all of it is put into a cell. -/
theorem NOwnV.put {sz e lo hi hi' n g cp : Nat} {w : World} {vs : List Value} {ls : List (List Int)} {j : Nat} {l : List Int} {u : Value} (h : NOwnV sz e lo hi w (.slice (some ⟨g, 0, none⟩) n cp) n vs ls) (hj : j < n * sz) (hu : ZOwn hi hi' w u l) (hh : hi ≤ hi') (hlo : lo ≤ hi) : NOwnV sz e lo hi' (w.setCell ⟨g, j, none⟩ u) (.slice (some ⟨g, 0, none⟩) n cp) n (vs.set j u) (ls.set j l) := by
  have hl := h.len
  have hv := h.vlen
  have hg : g < hi := h.top g rfl
  refine ⟨(World.ownsRow.stored h.row j u).1, by simpa using hl, fun k hk => by have := h.top k hk; omega, fun i hi' => ?_, fun i i2 k h1 h2 h3 h4 => ?_, fun i k h1 h2 => ?_⟩
  · by_cases hij : j = i
    · subst hij
      rw [getD_set_same _ _ _ _ (by omega), getD_set_same _ _ _ _ (by omega)]
      exact (hu.same (Same.set w ⟨g, j, none⟩ u (.inl hg))).wide hlo (Nat.le_refl _)
    · rw [getD_set_other _ _ _ _ _ hij, getD_set_other _ _ _ _ _ hij]
      have h0 := h.each i hi'
      refine ⟨World.ownsRow.kept h0.1 (World.ownsRow.stored h.row j u).2 ?_, fun k hk => by have := h0.2 k hk; omega⟩
      by_cases hn : (vs.getD i undef).ownBlock = some g
      · exact absurd rfl (h.off i g hi' hn)
      · exact .inr hn
  · by_cases hi1 : j = i
    · subst hi1
      rw [getD_set_same _ _ _ _ (by omega)] at h4
      rw [getD_set_other _ _ _ _ _ h3]
      intro h5
      have h6 := hu.in k h4
      have h7 := (h.each i2 h2).in k h5
      omega
    · rw [getD_set_other _ _ _ _ _ hi1] at h4
      by_cases hi2 : j = i2
      · subst hi2
        rw [getD_set_same _ _ _ _ (by omega)]
        intro h5
        have h6 := hu.in k h5
        have h7 := (h.each i h1).in k h4
        omega
      · rw [getD_set_other _ _ _ _ _ hi2]
        exact h.apart i i2 k h1 h2 h3 h4
  · by_cases hi1 : j = i
    · subst hi1
      rw [getD_set_same _ _ _ _ (by omega)] at h2
      intro h5
      have h6 := hu.in k h2
      have h7 := h.top k h5
      omega
    · rw [getD_set_other _ _ _ _ _ hi1] at h2
      exact h.off i k h1 h2

theorem getD_app_left {α : Type} (a b : List α) (j : Nat) (d : α) (h : j < a.length) : (a ++ b).getD j d = a.getD j d := by
  rw [List.getD_eq_getElem?_getD, List.getElem?_append_left h, List.getD_eq_getElem?_getD]
theorem getD_app_right {α : Type} (a b : List α) (j : Nat) (d : α) (h : a.length ≤ j) : (a ++ b).getD j d = b.getD (j - a.length) d := by
  rw [List.getD_eq_getElem?_getD, List.getElem?_append_right h, List.getD_eq_getElem?_getD]

/-- So many more structs, of lists that lie behind all of it and below the new end, are put behind it. -/
theorem NOwnV.appM {sz e lo hi hi' n m : Nat} {w w' : World} {v v' : Value} {vs us : List Value} {ls ns : List (List Int)} (h : NOwnV sz e lo hi w v n vs ls) (hr : w'.ownsRow lo e sz v' (n + m) (vs ++ us)) (hg : w.grownBy w' v.ownBlock) (hv : v'.ownBlock = v.ownBlock ∨ v'.ownBlock = some w.heap.size) (hn : ns.length = m * sz)
    (he : ∀ j, j < m * sz → ZOwn hi w.heap.size w (us.getD j undef) (ns.getD j [])) (ha : ∀ i j k, i < m * sz → j < m * sz → i ≠ j → (us.getD i undef).ownBlock = some k → (us.getD j undef).ownBlock ≠ some k) (hw : hi ≤ w.heap.size) (hlo : lo ≤ hi) (hh : w.heap.size ≤ hi') (hb : ∀ k, v'.ownBlock = some k → k < hi') : NOwnV sz e lo hi' w' v' (n + m) (vs ++ us) (ls ++ ns) := by
  have hl := h.len
  have hvl := h.vlen
  have hm : (n + m) * sz = n * sz + m * sz := Nat.add_mul _ _ _
  have hold : ∀ j, j < n * sz → ∀ k, (vs.getD j undef).ownBlock = some k → v.ownBlock ≠ some k := fun j hj k hk => h.off j k hj hk
  have hnew : ∀ j, j < m * sz → ∀ k, (us.getD j undef).ownBlock = some k → hi ≤ k ∧ k < w.heap.size := fun j hj k hk => (he j hj).in k hk
  have hin : ∀ j, j < n * sz → ∀ k, (vs.getD j undef).ownBlock = some k → lo ≤ k ∧ k < hi := fun j hj k hk => (h.each j hj).in k hk
  refine ⟨hr, by rw [List.length_append]; omega, hb, fun j hj => ?_, fun i j k h1 h2 h3 h4 => ?_, fun j k h1 h2 => ?_⟩
  · by_cases hj1 : j < n * sz
    · rw [getD_app_left _ _ _ _ (by omega), getD_app_left _ _ _ _ (by omega)]
      have h0 := h.each j hj1
      refine ⟨World.ownsRow.kept h0.1 hg ?_, fun k hk => by have := h0.2 k hk; omega⟩
      cases ho : (vs.getD j undef).ownBlock with
      | none => exact .inl rfl
      | some k => exact .inr fun e => hold j hj1 k ho e.symm
    · rw [getD_app_right _ _ _ _ (by omega), getD_app_right _ _ _ _ (by omega), hvl, hl]
      have h0 := he (j - n * sz) (by omega)
      refine ⟨owns_low (World.ownsRow.kept h0.1 hg ?_) hlo, fun k hk => by have := h0.2 k hk; omega⟩
      cases ho : (us.getD (j - n * sz) undef).ownBlock with
      | none => exact .inl rfl
      | some k =>
        refine .inr fun e => ?_
        have h5 := hnew _ (by omega) k ho
        have h6 := h.top k e.symm
        omega
  · by_cases hi1 : i < n * sz
    · rw [getD_app_left _ _ _ _ (by omega)] at h4
      by_cases hj1 : j < n * sz
      · rw [getD_app_left _ _ _ _ (by omega)]
        exact h.apart i j k hi1 hj1 h3 h4
      · rw [getD_app_right _ _ _ _ (by omega), hvl]
        intro h5
        have h6 := hin i hi1 k h4
        have h7 := hnew _ (by omega) k h5
        omega
    · rw [getD_app_right _ _ _ _ (by omega), hvl] at h4
      by_cases hj1 : j < n * sz
      · rw [getD_app_left _ _ _ _ (by omega)]
        intro h5
        have h6 := hin j hj1 k h5
        have h7 := hnew _ (by omega) k h4
        omega
      · rw [getD_app_right _ _ _ _ (by omega), hvl]
        exact ha _ _ k (by omega) (by omega) (by omega) h4
  · have hlt : k < w.heap.size := by
      by_cases hj1 : j < n * sz
      · rw [getD_app_left _ _ _ _ (by omega)] at h2
        have := hin j hj1 k h2
        omega
      · rw [getD_app_right _ _ _ _ (by omega), hvl] at h2
        have := hnew _ (by omega) k h2
        omega
    rcases hv with e | e
    · rw [e]
      by_cases hj1 : j < n * sz
      · rw [getD_app_left _ _ _ _ (by omega)] at h2
        exact hold j hj1 k h2
      · rw [getD_app_right _ _ _ _ (by omega), hvl] at h2
        intro h5
        have h6 := hnew _ (by omega) k h2
        have h7 := h.top k h5
        omega
    · rw [e]
      intro h5
      injection h5 with h5
      omega

/-- One more struct, of lists that lie behind all of it and below the new end, is put behind it. -/
theorem NOwnV.app {sz e lo hi hi' n : Nat} {w w' : World} {v v' : Value} {vs us : List Value} {ls ns : List (List Int)} (h : NOwnV sz e lo hi w v n vs ls) (hr : w'.ownsRow lo e sz v' (n + 1) (vs ++ us)) (hg : w.grownBy w' v.ownBlock) (hv : v'.ownBlock = v.ownBlock ∨ v'.ownBlock = some w.heap.size) (hn : ns.length = sz)
    (he : ∀ j, j < sz → ZOwn hi w.heap.size w (us.getD j undef) (ns.getD j [])) (ha : ∀ i j k, i < sz → j < sz → i ≠ j → (us.getD i undef).ownBlock = some k → (us.getD j undef).ownBlock ≠ some k) (hw : hi ≤ w.heap.size) (hlo : lo ≤ hi) (hh : w.heap.size ≤ hi') (hb : ∀ k, v'.ownBlock = some k → k < hi') : NOwnV sz e lo hi' w' v' (n + 1) (vs ++ us) (ls ++ ns) :=
  h.appM hr hg hv (by rw [Nat.one_mul]; exact hn) (fun j hj => he j (by omega)) (fun i j k h1 h2 => ha i j k (by omega) (by omega)) hw hlo hh hb

/-- How long a list is. -/
def slLen : Value → Nat
  | .slice _ n _ => n
  | _ => 0

/-- The numbers of so many lists. -/
def tot : List (List Int) → Nat
  | [] => 0
  | l :: t => l.length + tot t
theorem tot_app : ∀ a b : List (List Int), tot (a ++ b) = tot a + tot b
  | [], b => by show tot b = 0 + tot b; omega
  | l :: t, b => by show l.length + tot (t ++ b) = l.length + tot t + tot b; rw [tot_app t b]; omega
theorem tot_take_next (ls : List (List Int)) {j : Nat} (h : j < ls.length) : tot (ls.take (j + 1)) = tot (ls.take j) + (ls.getD j []).length := by
  rw [List.take_succ_eq_append_getElem h, tot_app]
  have e : ls.getD j [] = ls[j] := by simp [h]
  rw [e]
  rfl
theorem tot_take_le (ls : List (List Int)) (j : Nat) : tot (ls.take j) ≤ tot ls := by
  have h := tot_app (ls.take j) (ls.drop j)
  rw [List.take_append_drop] at h
  omega
theorem tot_at_le (ls : List (List Int)) {j : Nat} (h : j < ls.length) : (ls.getD j []).length ≤ tot ls := by
  have h1 := tot_take_next ls h
  have h2 := tot_take_le ls (j + 1)
  omega

theorem take_three (ls : List (List Int)) (k : Nat) (h : (k + 1) * 3 ≤ ls.length) : ls.take ((k + 1) * 3) = ls.take (k * 3) ++ [ls.getD (k * 3) [], ls.getD (k * 3 + 1) [], ls.getD (k * 3 + 2) []] := by
  have e0 : ls.getD (k * 3) [] = ls[k * 3] := by simp [show k * 3 < ls.length by omega]
  have e1 : ls.getD (k * 3 + 1) [] = ls[k * 3 + 1] := by simp [show k * 3 + 1 < ls.length by omega]
  have e2 : ls.getD (k * 3 + 2) [] = ls[k * 3 + 2] := by simp [show k * 3 + 2 < ls.length by omega]
  rw [e0, e1, e2]
  have t2 : ls.take (k * 3 + 3) = ls.take (k * 3 + 2) ++ [ls[k * 3 + 2]] := List.take_succ_eq_append_getElem (by omega)
  have t1 : ls.take (k * 3 + 2) = ls.take (k * 3 + 1) ++ [ls[k * 3 + 1]] := List.take_succ_eq_append_getElem (by omega)
  have t0 : ls.take (k * 3 + 1) = ls.take (k * 3) ++ [ls[k * 3]] := List.take_succ_eq_append_getElem (by omega)
  rw [show (k + 1) * 3 = k * 3 + 3 by omega, t2, t1, t0, List.append_assoc, List.append_assoc]
  rfl

/-- So many marks in lists of these lengths. -/
def mkzz (k : Nat) : List (List Int) → List (List Int)
  | [] => []
  | l :: t => mkz k l.length :: mkzz (k + l.length) t
theorem mkzz_length : ∀ (ls : List (List Int)) (k : Nat), (mkzz k ls).length = ls.length
  | [], _ => rfl
  | l :: t, k => by show (mkzz (k + l.length) t).length + 1 = t.length + 1; rw [mkzz_length t]
theorem mkzz_app : ∀ (a b : List (List Int)) (k : Nat), mkzz k (a ++ b) = mkzz k a ++ mkzz (k + tot a) b
  | [], b, k => rfl
  | l :: t, b, k => by
    show mkz k l.length :: mkzz (k + l.length) (t ++ b) = mkz k l.length :: (mkzz (k + l.length) t ++ mkzz (k + (l.length + tot t)) b)
    rw [mkzz_app t b, Nat.add_assoc]
theorem mkzz_at (ls : List (List Int)) (k : Nat) {j : Nat} (h : j < ls.length) : (mkzz k ls).getD j [] = mkz (k + tot (ls.take j)) (ls.getD j []).length := by
  have e : ls = ls.take j ++ ls[j] :: ls.drop (j + 1) := by
    rw [← List.drop_eq_getElem_cons h, List.take_append_drop]
  have hl : (mkzz k (ls.take j)).length = j := by rw [mkzz_length, List.length_take]; omega
  have e2 : ls.getD j [] = ls[j] := by simp [h]
  rw [e2]
  conv => lhs; rw [e]
  rw [mkzz_app, getD_app_right _ _ _ _ (by omega), hl, Nat.sub_self]
  rfl
theorem mkzz_step (ls : List (List Int)) (k : Nat) {j : Nat} (h : j < ls.length) : (mkzz k (ls.take j) ++ ls.drop j).set j (mkz (k + tot (ls.take j)) (ls.getD j []).length) = mkzz k (ls.take (j + 1)) ++ ls.drop (j + 1) := by
  have hl : (mkzz k (ls.take j)).length = j := by rw [mkzz_length, List.length_take]; omega
  have e2 : ls.getD j [] = ls[j] := by simp [h]
  rw [List.take_succ_eq_append_getElem h, mkzz_app, List.append_assoc, List.drop_eq_getElem_cons h, List.set_append_right _ _ (by omega), hl, Nat.sub_self, e2]
  rfl

end Go.Proofs.Ytjlijflfepffiaa

/-
  Three lists of lists beside one another.
-/
namespace Go.Proofs.Ytjlijflfepffiaa
open Go.RowKit

/-- The blocks of a list of lists. -/
def OwnB (v : Value) (n : Nat) (vs : List Value) (k : Nat) : Prop := v.ownBlock = some k ∨ ∃ i, i < n ∧ (vs.getD i undef).ownBlock = some k
theorem NOwnV.range {e lo hi n : Nat} {w : World} {v : Value} {vs : List Value} {ls : List (List Int)} (h : NOwnV 1 e lo hi w v n vs ls) {k : Nat} (hk : OwnB v n vs k) : lo ≤ k ∧ k < hi := by
  rcases hk with hk | ⟨i, hi, hk⟩
  · exact ⟨(h.row.lt k hk).1, h.top k hk⟩
  · exact (h.each i (by omega)).in k hk
theorem kps_grown {w w' : World} {r : Option Nat} (hg : w.grownBy w' r) : Kps (fun k => r = some k) w w' := ⟨hg.os, hg.tape, hg.output, hg.size, fun k hk hs => hg.block k hk fun e => hs e.symm⟩
theorem NOwnV.kept1 {e lo hi n : Nat} {w w' : World} {v : Value} {vs : List Value} {ls : List (List Int)} {S : Nat → Prop} (h : NOwnV 1 e lo hi w v n vs ls) (hk : Kps S w w') (hS : ∀ k, OwnB v n vs k → ¬ S k) : NOwnV 1 e lo hi w' v n vs ls :=
  ⟨hk.row h.row fun k hv => hS k (.inl hv), h.len, h.top, fun j hj => ⟨hk.row (h.each j hj).1 fun k hv => hS k (.inr ⟨j, by omega, hv⟩), (h.each j hj).2⟩, h.apart, h.off⟩
theorem NOwnV.wide1 {sz e lo hi hi' n : Nat} {w : World} {v : Value} {vs : List Value} {ls : List (List Int)} (h : NOwnV sz e lo hi w v n vs ls) (h2 : hi ≤ hi') : NOwnV sz e lo hi' w v n vs ls := h.wide h2

/-- Three of them, no block of one is another's. -/
structure Tri (e lo hi : Nat) (w : World) (U : Value) (nu : Nat) (us : List Value) (LU : List (List Int)) (V : Value) (nv : Nat) (vs : List Value) (LV : List (List Int)) (X : Value) (nx : Nat) (xs : List Value) (LX : List (List Int)) : Prop where
  u : NOwnV 1 e lo hi w U nu us LU
  v : NOwnV 1 e lo hi w V nv vs LV
  x : NOwnV 1 e lo hi w X nx xs LX
  uv : ∀ k, OwnB U nu us k → ¬ OwnB V nv vs k
  ux : ∀ k, OwnB U nu us k → ¬ OwnB X nx xs k
  vx : ∀ k, OwnB V nv vs k → ¬ OwnB X nx xs k
theorem Tri.rot {e lo hi : Nat} {w : World} {U V X : Value} {nu nv nx : Nat} {us vs xs : List Value} {LU LV LX : List (List Int)} (h : Tri e lo hi w U nu us LU V nv vs LV X nx xs LX) : Tri e lo hi w V nv vs LV X nx xs LX U nu us LU :=
  ⟨h.v, h.x, h.u, h.vx, fun k h1 h2 => h.uv k h2 h1, fun k h1 h2 => h.ux k h2 h1⟩
theorem Tri.same {e lo hi : Nat} {w w' : World} {U V X : Value} {nu nv nx : Nat} {us vs xs : List Value} {LU LV LX : List (List Int)} (h : Tri e lo hi w U nu us LU V nv vs LV X nx xs LX) (hs : Same lo hi w w') : Tri e lo hi w' U nu us LU V nv vs LV X nx xs LX :=
  ⟨h.u.same hs, h.v.same hs, h.x.same hs, h.uv, h.ux, h.vx⟩
theorem Tri.wide {e lo hi hi' : Nat} {w : World} {U V X : Value} {nu nv nx : Nat} {us vs xs : List Value} {LU LV LX : List (List Int)} (h : Tri e lo hi w U nu us LU V nv vs LV X nx xs LX) (h2 : hi ≤ hi') : Tri e lo hi' w U nu us LU V nv vs LV X nx xs LX :=
  ⟨h.u.wide h2, h.v.wide h2, h.x.wide h2, h.uv, h.ux, h.vx⟩
theorem NOwnV.low1 {sz e lo lo' hi n : Nat} {w : World} {v : Value} {vs : List Value} {ls : List (List Int)} (h : NOwnV sz e lo hi w v n vs ls) (h2 : lo' ≤ lo) : NOwnV sz e lo' hi w v n vs ls :=
  ⟨owns_low h.row h2, h.len, h.top, fun j hj => (h.each j hj).wide h2 (Nat.le_refl _), h.apart, h.off⟩
theorem Tri.low {e lo lo' hi : Nat} {w : World} {U V X : Value} {nu nv nx : Nat} {us vs xs : List Value} {LU LV LX : List (List Int)} (h : Tri e lo hi w U nu us LU V nv vs LV X nx xs LX) (h2 : lo' ≤ lo) : Tri e lo' hi w U nu us LU V nv vs LV X nx xs LX :=
  ⟨h.u.low1 h2, h.v.low1 h2, h.x.low1 h2, h.uv, h.ux, h.vx⟩
/-- The first of them grows by one list. -/
theorem Tri.app {e lo hi : Nat} {w w' : World} {U V X U' x : Value} {nu nv nx : Nat} {us vs xs : List Value} {LU LV LX : List (List Int)} {l : List Int} (h : Tri e lo hi w U nu us LU V nv vs LV X nx xs LX) (hr : w'.ownsRow lo e 1 U' (nu + 1) (us ++ [x])) (hg : w.grownBy w' U.ownBlock) (hv : U'.ownBlock = U.ownBlock ∨ U'.ownBlock = some w.heap.size) (hx : ZOwn hi w.heap.size w x l) (hw : hi ≤ w.heap.size) (hlo : lo ≤ hi) : Tri e lo w'.heap.size w' U' (nu + 1) (us ++ [x]) (LU ++ [l]) V nv vs LV X nx xs LX := by
  have hul : us.length = nu := by have := h.u.vlen; omega
  have hsz := hg.size
  have hnew : NOwnV 1 e lo w'.heap.size w' U' (nu + 1) (us ++ [x]) (LU ++ [l]) := h.u.app hr hg hv rfl (fun j hj => by
      have e0 : j = 0 := by omega
      subst e0
      exact hx) (fun i j k hi hj hij => by omega) hw hlo hsz (fun k hk => (hr.lt k hk).2)
  have hsub : ∀ k, OwnB U' (nu + 1) (us ++ [x]) k → OwnB U nu us k ∨ hi ≤ k := fun k hk => by
    rcases hk with hk | ⟨i, hi', hk⟩
    · rcases hv with hv | hv
      · exact .inl (.inl (hv ▸ hk))
      · rw [hv] at hk
        have := Option.some.inj hk
        exact .inr (by omega)
    · by_cases e1 : i < nu
      · rw [getD_app_left _ _ _ _ (by omega)] at hk
        exact .inl (.inr ⟨i, e1, hk⟩)
      · rw [getD_app_right _ _ _ _ (by omega), hul, show i - nu = 0 by omega] at hk
        exact .inr (hx.in k hk).1
  have hK := kps_grown hg
  have keepV := h.v.kept1 hK fun k hk hs => h.uv k (.inl hs) hk
  have keepX := h.x.kept1 hK fun k hk hs => h.ux k (.inl hs) hk
  refine ⟨hnew, keepV.wide (by omega), keepX.wide (by omega), fun k h1 h2 => ?_, fun k h1 h2 => ?_, h.vx⟩
  · rcases hsub k h1 with h3 | h3
    · exact h.uv k h3 h2
    · have := h.v.range h2; omega
  · rcases hsub k h1 with h3 | h3
    · exact h.ux k h3 h2
    · have := h.x.range h2; omega

/-- Three rows of numbers beside one another. -/
structure Row3s (lo : Nat) (w : World) (a b c : Value) (la lb lc : List Int) : Prop where
  ra : RowZs lo w a la
  rb : RowZs lo w b lb
  rc : RowZs lo w c lc
  ab : ∀ k, a.ownBlock = some k → b.ownBlock ≠ some k
  ac : ∀ k, a.ownBlock = some k → c.ownBlock ≠ some k
  bc : ∀ k, b.ownBlock = some k → c.ownBlock ≠ some k
theorem Row3s.rot {lo : Nat} {w : World} {a b c : Value} {la lb lc : List Int} (h : Row3s lo w a b c la lb lc) : Row3s lo w b c a lb lc la :=
  ⟨h.rb, h.rc, h.ra, h.bc, fun k h1 h2 => h.ab k h2 h1, fun k h1 h2 => h.ac k h2 h1⟩
theorem Row3s.alloc {lo : Nat} {w : World} {a b c : Value} {la lb lc : List Int} (h : Row3s lo w a b c la lb lc) (o : Obj) : Row3s lo (w.alloc o) a b c la lb lc :=
  ⟨World.ownsRow.alloc h.ra o, World.ownsRow.alloc h.rb o, World.ownsRow.alloc h.rc o, h.ab, h.ac, h.bc⟩
theorem Row3s.app {lo : Nat} {w w' : World} {a b c a' : Value} {la lb lc la' : List Int} (h : Row3s lo w a b c la lb lc) (hr : RowZs lo w' a' la') (hg : w.grownBy w' a.ownBlock) (hv : a'.ownBlock = a.ownBlock ∨ a'.ownBlock = some w.heap.size) : Row3s lo w' a' b c la' lb lc := by
  have hK := kps_grown hg
  refine ⟨hr, hK.row h.rb fun k hk hs => h.ab k hs hk, hK.row h.rc fun k hk hs => h.ac k hs hk, fun k h1 h2 => ?_, fun k h1 h2 => ?_, h.bc⟩
  · rcases hv with hv | hv
    · exact h.ab k (hv ▸ h1) h2
    · rw [hv] at h1
      have := Option.some.inj h1
      have := (h.rb.lt k h2).2
      omega
  · rcases hv with hv | hv
    · exact h.ac k (hv ▸ h1) h2
    · rw [hv] at h1
      have := Option.some.inj h1
      have := (h.rc.lt k h2).2
      omega

end Go.Proofs.Ytjlijflfepffiaa
