/-
  Lists of lists of numbers: what is read, what is owned.
-/
import Derived.Test.YtengnjffajimdaaMarkZ
namespace Go.Proofs.Ytengnjffajimdaa
open Go.RowKit

/-- These blocks are as they were. -/
def Same (lo hi : Nat) (w w' : World) : Prop := ∀ k, lo ≤ k → k < hi → w'.heap[k]? = w.heap[k]?
theorem Same.of_below {lo hi c : Nat} {w w' : World} (h : Below c w w') (hc : hi ≤ c) : Same lo hi w w' := fun k _ h2 => h.block k (by omega)
theorem Same.of_kps {S : Nat → Prop} {lo hi : Nat} {w w' : World} (h : Kps S w w') (hc : hi ≤ w.heap.size) (hS : ∀ k, lo ≤ k → k < hi → ¬ S k) : Same lo hi w w' := fun k h1 h2 => h.block k (by omega) (hS k h1 h2)
theorem Same.of_grown {r : Option Nat} {lo hi : Nat} {w w' : World} (h : w.grownBy w' r) (hc : hi ≤ w.heap.size) (hS : ∀ k, lo ≤ k → k < hi → r ≠ some k) : Same lo hi w w' := fun k h1 h2 => h.block k (by omega) fun e => hS k h1 h2 e.symm
theorem Same.set {lo hi : Nat} (w : World) (p : Addr) (u : Value) (h : p.block < lo ∨ hi ≤ p.block) : Same lo hi w (w.setCell p u) := fun k h1 h2 => Below.heap_setCell _ _ _ _ (by omega)
theorem owns_same {w w' : World} {B e sz n lo hi : Nat} {v : Value} {xs : List Value} (h : w.ownsRow B e sz v n xs) (hs : Same lo hi w w') (hv : ∀ k, v.ownBlock = some k → lo ≤ k ∧ k < hi) : w'.ownsRow B e sz v n xs := by
  refine ⟨h.1, ?_⟩
  rcases h.2 with h0 | ⟨g, cap, cur, hve, hB, hg, rest⟩
  · exact .inl h0
  · have := hv g (by rw [hve]; rfl)
    exact .inr ⟨g, cap, cur, hve, hB, (hs g this.1 this.2).trans hg, rest⟩

/-- A list of numbers that is read; it lies below c. -/
def ZAt (w : World) (c : Nat) (v : Value) (l : List Int) : Prop := ∃ a cp, v = .slice a l.length cp ∧ IntsAt w a l.length c (fun j => l.getD j 0)
theorem ZAt.on {w w1 : World} {c : Nat} {v : Value} {l : List Int} (h : ZAt w c v l) (hb : Below c w w1) : ZAt w1 c v l := by
  obtain ⟨a, cp, h1, h2⟩ := h
  exact ⟨a, cp, h1, h2.on hb⟩
theorem ZAt.wide {w : World} {c d : Nat} {v : Value} {l : List Int} (h : ZAt w c v l) (hd : c ≤ d) : ZAt w d v l := by
  obtain ⟨a, cp, h1, h2⟩ := h
  exact ⟨a, cp, h1, h2.wide hd⟩
theorem ZAt.of {w : World} {c n cp : Nat} {a : Option Addr} {f : Nat → Int} (h : IntsAt w a n c f) : ZAt w c (.slice a n cp) (zls f n) := by
  refine ⟨a, cp, by rw [zls_length], ?_⟩
  rw [zls_length]
  intro j hj
  obtain ⟨b, off, h1, h2, h3⟩ := h j hj
  exact ⟨b, off, h1, h2, by rw [h3]; show _ = some (Value.int .i64 ((zls f n).getD j 0)); rw [zls_at f hj]⟩

/-- A list of numbers that is owned: its block is one of these. -/
def ZOwn (lo hi : Nat) (w : World) (v : Value) (l : List Int) : Prop := RowZs lo w v l ∧ ∀ k, v.ownBlock = some k → k < hi
theorem ZOwn.in {lo hi : Nat} {w : World} {v : Value} {l : List Int} (h : ZOwn lo hi w v l) : ∀ k, v.ownBlock = some k → lo ≤ k ∧ k < hi := fun k hk => ⟨(h.1.lt k hk).1, h.2 k hk⟩
theorem ZOwn.same {lo hi : Nat} {w w' : World} {v : Value} {l : List Int} (h : ZOwn lo hi w v l) (hs : Same lo hi w w') : ZOwn lo hi w' v l := ⟨owns_same h.1 hs h.in, h.2⟩
theorem owns_low {w : World} {B B' e sz n : Nat} {v : Value} {xs : List Value} (h : w.ownsRow B e sz v n xs) (hB : B' ≤ B) : w.ownsRow B' e sz v n xs := by
  refine ⟨h.1, ?_⟩
  rcases h.2 with h0 | ⟨g, cap, cur, hve, hg, rest⟩
  · exact .inl h0
  · exact .inr ⟨g, cap, cur, hve, by omega, rest⟩
theorem ZOwn.wide {lo hi lo' hi' : Nat} {w : World} {v : Value} {l : List Int} (h : ZOwn lo hi w v l) (h1 : lo' ≤ lo) (h2 : hi ≤ hi') : ZOwn lo' hi' w v l := ⟨owns_low h.1 h1, fun k hk => by have := h.2 k hk; omega⟩
theorem ZOwn.of {lo : Nat} {w : World} {v : Value} {l : List Int} (h : RowZs lo w v l) : ZOwn lo w.heap.size w v l := ⟨h, fun k hk => (h.lt k hk).2⟩
theorem ZOwn.at {lo hi : Nat} {w : World} {v : Value} {l : List Int} (h : ZOwn lo hi w v l) : ZAt w hi v l := by
  rcases h.1.2 with ⟨rfl, h0⟩ | ⟨g, cp, cur, rfl, hg, hh, hrest⟩
  · exact ⟨none, 0, by rw [h0], fun j hj => by omega⟩
  · refine ⟨_, cp, rfl, fun j hj => ⟨g, 0, rfl, h.2 g rfl, ?_⟩⟩
    have hc := World.ownsRow.cellAt h.1 j (by omega)
    rw [Nat.zero_add, hc]
    simp [zsV, hj]
theorem ZOwn.on {lo hi c : Nat} {w w' : World} {v : Value} {l : List Int} (h : ZOwn lo hi w v l) (hb : Below c w w') (hc : hi ≤ c) : ZOwn lo hi w' v l := h.same (Same.of_below hb hc)

/-- A list of structs that hold lists of numbers, sz each; it lies below c. -/
def NAt (sz : Nat) (w : World) (c : Nat) (v : Value) (n : Nat) (ls : List (List Int)) : Prop :=
  ls.length = n * sz ∧ ∃ a cp, v = .slice a n cp ∧ ∀ j, j < n * sz → ∃ b off u, a = some ⟨b, off, none⟩ ∧ b < c ∧ w.cell? ⟨b, off + j, none⟩ = some u ∧ ZAt w c u (ls.getD j [])
theorem NAt.on {sz : Nat} {w w1 : World} {c n : Nat} {v : Value} {ls : List (List Int)} (h : NAt sz w c v n ls) (hb : Below c w w1) : NAt sz w1 c v n ls := by
  obtain ⟨h0, a, cp, h1, h2⟩ := h
  refine ⟨h0, a, cp, h1, fun j hj => ?_⟩
  obtain ⟨b, off, u, h3, h4, h5, h6⟩ := h2 j hj
  exact ⟨b, off, u, h3, h4, (hb.cell (p := ⟨b, off + j, none⟩) h4).trans h5, h6.on hb⟩
theorem NAt.wide {sz : Nat} {w : World} {c d n : Nat} {v : Value} {ls : List (List Int)} (h : NAt sz w c v n ls) (hd : c ≤ d) : NAt sz w d v n ls := by
  obtain ⟨h0, a, cp, h1, h2⟩ := h
  refine ⟨h0, a, cp, h1, fun j hj => ?_⟩
  obtain ⟨b, off, u, h3, h4, h5, h6⟩ := h2 j hj
  exact ⟨b, off, u, h3, by omega, h5, h6.wide hd⟩

/-- A list of structs that hold lists of numbers, sz each, owned, with the cells named: no two lie in one block. -/
structure NOwnV (sz e lo hi : Nat) (w : World) (v : Value) (n : Nat) (vs : List Value) (ls : List (List Int)) : Prop where
  row : w.ownsRow lo e sz v n vs
  len : ls.length = n * sz
  top : ∀ k, v.ownBlock = some k → k < hi
  each : ∀ j, j < n * sz → ZOwn lo hi w (vs.getD j undef) (ls.getD j [])
  apart : ∀ i j k, i < n * sz → j < n * sz → i ≠ j → (vs.getD i undef).ownBlock = some k → (vs.getD j undef).ownBlock ≠ some k
  off : ∀ j k, j < n * sz → (vs.getD j undef).ownBlock = some k → v.ownBlock ≠ some k
theorem NOwnV.vlen {sz e lo hi n : Nat} {w : World} {v : Value} {vs : List Value} {ls : List (List Int)} (h : NOwnV sz e lo hi w v n vs ls) : vs.length = n * sz := h.row.1
theorem NOwnV.same {sz e lo hi n : Nat} {w w' : World} {v : Value} {vs : List Value} {ls : List (List Int)} (h : NOwnV sz e lo hi w v n vs ls) (hs : Same lo hi w w') : NOwnV sz e lo hi w' v n vs ls :=
  ⟨owns_same h.row hs (fun k hk => ⟨(h.row.lt k hk).1, h.top k hk⟩), h.len, h.top, fun j hj => (h.each j hj).same hs, h.apart, h.off⟩
theorem NOwnV.wide {sz e lo hi hi' n : Nat} {w : World} {v : Value} {vs : List Value} {ls : List (List Int)} (h : NOwnV sz e lo hi w v n vs ls) (h2 : hi ≤ hi') : NOwnV sz e lo hi' w v n vs ls :=
  ⟨h.row, h.len, fun k hk => by have := h.top k hk; omega, fun j hj => (h.each j hj).wide (Nat.le_refl _) h2, h.apart, h.off⟩
theorem NOwnV.at {sz e lo hi n : Nat} {w : World} {v : Value} {vs : List Value} {ls : List (List Int)} (h : NOwnV sz e lo hi w v n vs ls) : NAt sz w hi v n ls := by
  refine ⟨h.len, ?_⟩
  rcases h.row.2 with ⟨rfl, h0⟩ | ⟨g, cp, cur, rfl, hg, hh, hrest⟩
  · exact ⟨none, 0, by rw [h0], fun j hj => by rw [h0] at hj; omega⟩
  · refine ⟨_, cp, rfl, fun j hj => ⟨g, 0, vs.getD j undef, rfl, h.top g rfl, ?_, (h.each j hj).at⟩⟩
    have hl := h.vlen
    rw [Nat.zero_add, World.ownsRow.cellAt h.row j hj, List.getElem?_eq_getElem (by omega)]
    simp [show j < vs.length by omega]
theorem NOwnV.cell {sz e lo hi n g cp : Nat} {w : World} {vs : List Value} {ls : List (List Int)} (h : NOwnV sz e lo hi w (.slice (some ⟨g, 0, none⟩) n cp) n vs ls) {j : Nat} (hj : j < n * sz) : w.cell? ⟨g, j, none⟩ = some (vs.getD j undef) := by
  have hl := h.vlen
  rw [World.ownsRow.cellAt h.row j hj, List.getElem?_eq_getElem (by omega)]
  simp [show j < vs.length by omega]

theorem getD_set_same {α : Type} (l : List α) (j : Nat) (x d : α) (h : j < l.length) : (l.set j x).getD j d = x := by simp [h]
theorem getD_set_other {α : Type} (l : List α) (i j : Nat) (x d : α) (h : i ≠ j) : (l.set i x).getD j d = l.getD j d := by simp [h]

/-- One of the lists is another one, in its own block. -/
theorem NOwnV.turn {sz e lo hi n : Nat} {w w' : World} {v : Value} {vs : List Value} {ls : List (List Int)} {j : Nat} {l : List Int} (h : NOwnV sz e lo hi w v n vs ls) (hj : j < n * sz) (hr : RowZs lo w' (vs.getD j undef) l) (hk : Kps (fun b => (vs.getD j undef).ownBlock = some b) w w') : NOwnV sz e lo hi w' v n vs (ls.set j l) := by
  have hl := h.len
  refine ⟨hk.row h.row (fun k hk q => h.off j k hj q hk), by simpa using hl, h.top, fun i hi => ?_, h.apart, h.off⟩
  by_cases hij : j = i
  · subst hij
    rw [getD_set_same _ _ _ _ (by omega)]
    exact ⟨hr, (h.each j hj).2⟩
  · rw [getD_set_other _ _ _ _ _ hij]
    exact ⟨hk.row (h.each i hi).1 (fun k hk q => h.apart j i k hj hi hij q hk), (h.each i hi).2⟩

/-- A list that lies behind all of it is put into a cell. -/
theorem NOwnV.put {sz e lo hi hi' n g cp : Nat} {w : World} {vs : List Value} {ls : List (List Int)} {j : Nat} {l : List Int} {u : Value} (h : NOwnV sz e lo hi w (.slice (some ⟨g, 0, none⟩) n cp) n vs ls) (hj : j < n * sz) (hu : ZOwn hi hi' w u l) (hh : hi ≤ hi') (hlo : lo ≤ hi) : NOwnV sz e lo hi' (w.setCell ⟨g, j, none⟩ u) (.slice (some ⟨g, 0, none⟩) n cp) n (vs.set j u) (ls.set j l) := by
  have hl := h.len
  have hv := h.vlen
  have hg : g < hi := h.top g rfl
  refine ⟨(World.ownsRow.stored h.row j u).1, by simpa using hl, fun k hk => by have := h.top k hk; omega, fun i hi' => ?_, fun i i2 k h1 h2 h3 h4 => ?_, fun i k h1 h2 => ?_⟩
  · by_cases hij : j = i
    · subst hij
      rw [getD_set_same _ _ _ _ (by omega), getD_set_same _ _ _ _ (by omega)]
      exact (hu.same (Same.set w ⟨g, j, none⟩ u (.inl hg))).wide hlo (Nat.le_refl _)
    · rw [getD_set_other _ _ _ _ _ hij, getD_set_other _ _ _ _ _ hij]
      have h0 := h.each i hi'
      refine ⟨World.ownsRow.kept h0.1 (World.ownsRow.stored h.row j u).2 ?_, fun k hk => by have := h0.2 k hk; omega⟩
      by_cases hn : (vs.getD i undef).ownBlock = some g
      · exact absurd rfl (h.off i g hi' hn)
      · exact .inr hn
  · by_cases hi1 : j = i
    · subst hi1
      rw [getD_set_same _ _ _ _ (by omega)] at h4
      rw [getD_set_other _ _ _ _ _ h3]
      intro h5
      have h6 := hu.in k h4
      have h7 := (h.each i2 h2).in k h5
      omega
    · rw [getD_set_other _ _ _ _ _ hi1] at h4
      by_cases hi2 : j = i2
      · subst hi2
        rw [getD_set_same _ _ _ _ (by omega)]
        intro h5
        have h6 := hu.in k h5
        have h7 := (h.each i h1).in k h4
        omega
      · rw [getD_set_other _ _ _ _ _ hi2]
        exact h.apart i i2 k h1 h2 h3 h4
  · by_cases hi1 : j = i
    · subst hi1
      rw [getD_set_same _ _ _ _ (by omega)] at h2
      intro h5
      have h6 := hu.in k h2
      have h7 := h.top k h5
      omega
    · rw [getD_set_other _ _ _ _ _ hi1] at h2
      exact h.off i k h1 h2

theorem getD_app_left {α : Type} (a b : List α) (j : Nat) (d : α) (h : j < a.length) : (a ++ b).getD j d = a.getD j d := by
  rw [List.getD_eq_getElem?_getD, List.getElem?_append_left h, List.getD_eq_getElem?_getD]
theorem getD_app_right {α : Type} (a b : List α) (j : Nat) (d : α) (h : a.length ≤ j) : (a ++ b).getD j d = b.getD (j - a.length) d := by
  rw [List.getD_eq_getElem?_getD, List.getElem?_append_right h, List.getD_eq_getElem?_getD]

/-- So many more structs, of lists that lie behind all of it and below the new end, are put behind it. -/
theorem NOwnV.appM {sz e lo hi hi' n m : Nat} {w w' : World} {v v' : Value} {vs us : List Value} {ls ns : List (List Int)} (h : NOwnV sz e lo hi w v n vs ls) (hr : w'.ownsRow lo e sz v' (n + m) (vs ++ us)) (hg : w.grownBy w' v.ownBlock) (hv : v'.ownBlock = v.ownBlock ∨ v'.ownBlock = some w.heap.size) (hn : ns.length = m * sz)
    (he : ∀ j, j < m * sz → ZOwn hi w.heap.size w (us.getD j undef) (ns.getD j [])) (ha : ∀ i j k, i < m * sz → j < m * sz → i ≠ j → (us.getD i undef).ownBlock = some k → (us.getD j undef).ownBlock ≠ some k) (hw : hi ≤ w.heap.size) (hlo : lo ≤ hi) (hh : w.heap.size ≤ hi') (hb : ∀ k, v'.ownBlock = some k → k < hi') : NOwnV sz e lo hi' w' v' (n + m) (vs ++ us) (ls ++ ns) := by
  have hl := h.len
  have hvl := h.vlen
  have hm : (n + m) * sz = n * sz + m * sz := Nat.add_mul _ _ _
  have hold : ∀ j, j < n * sz → ∀ k, (vs.getD j undef).ownBlock = some k → v.ownBlock ≠ some k := fun j hj k hk => h.off j k hj hk
  have hnew : ∀ j, j < m * sz → ∀ k, (us.getD j undef).ownBlock = some k → hi ≤ k ∧ k < w.heap.size := fun j hj k hk => (he j hj).in k hk
  have hin : ∀ j, j < n * sz → ∀ k, (vs.getD j undef).ownBlock = some k → lo ≤ k ∧ k < hi := fun j hj k hk => (h.each j hj).in k hk
  refine ⟨hr, by rw [List.length_append]; omega, hb, fun j hj => ?_, fun i j k h1 h2 h3 h4 => ?_, fun j k h1 h2 => ?_⟩
  · by_cases hj1 : j < n * sz
    · rw [getD_app_left _ _ _ _ (by omega), getD_app_left _ _ _ _ (by omega)]
      have h0 := h.each j hj1
      refine ⟨World.ownsRow.kept h0.1 hg ?_, fun k hk => by have := h0.2 k hk; omega⟩
      cases ho : (vs.getD j undef).ownBlock with
      | none => exact .inl rfl
      | some k => exact .inr fun e => hold j hj1 k ho e.symm
    · rw [getD_app_right _ _ _ _ (by omega), getD_app_right _ _ _ _ (by omega), hvl, hl]
      have h0 := he (j - n * sz) (by omega)
      refine ⟨owns_low (World.ownsRow.kept h0.1 hg ?_) hlo, fun k hk => by have := h0.2 k hk; omega⟩
      cases ho : (us.getD (j - n * sz) undef).ownBlock with
      | none => exact .inl rfl
      | some k =>
        refine .inr fun e => ?_
        have h5 := hnew _ (by omega) k ho
        have h6 := h.top k e.symm
        omega
  · by_cases hi1 : i < n * sz
    · rw [getD_app_left _ _ _ _ (by omega)] at h4
      by_cases hj1 : j < n * sz
      · rw [getD_app_left _ _ _ _ (by omega)]
        exact h.apart i j k hi1 hj1 h3 h4
      · rw [getD_app_right _ _ _ _ (by omega), hvl]
        intro h5
        have h6 := hin i hi1 k h4
        have h7 := hnew _ (by omega) k h5
        omega
    · rw [getD_app_right _ _ _ _ (by omega), hvl] at h4
      by_cases hj1 : j < n * sz
      · rw [getD_app_left _ _ _ _ (by omega)]
        intro h5
        have h6 := hin j hj1 k h5
        have h7 := hnew _ (by omega) k h4
        omega
      · rw [getD_app_right _ _ _ _ (by omega), hvl]
        exact ha _ _ k (by omega) (by omega) (by omega) h4
  · have hlt : k < w.heap.size := by
      by_cases hj1 : j < n * sz
      · rw [getD_app_left _ _ _ _ (by omega)] at h2
        have := hin j hj1 k h2
        omega
      · rw [getD_app_right _ _ _ _ (by omega), hvl] at h2
        have := hnew _ (by omega) k h2
        omega
    rcases hv with e | e
    · rw [e]
      by_cases hj1 : j < n * sz
      · rw [getD_app_left _ _ _ _ (by omega)] at h2
        exact hold j hj1 k h2
      · rw [getD_app_right _ _ _ _ (by omega), hvl] at h2
        intro h5
        have h6 := hnew _ (by omega) k h2
        have h7 := h.top k h5
        omega
    · rw [e]
      intro h5
      injection h5 with h5
      omega

/-- One more struct, of lists that lie behind all of it and below the new end, is put behind it. -/
theorem NOwnV.app {sz e lo hi hi' n : Nat} {w w' : World} {v v' : Value} {vs us : List Value} {ls ns : List (List Int)} (h : NOwnV sz e lo hi w v n vs ls) (hr : w'.ownsRow lo e sz v' (n + 1) (vs ++ us)) (hg : w.grownBy w' v.ownBlock) (hv : v'.ownBlock = v.ownBlock ∨ v'.ownBlock = some w.heap.size) (hn : ns.length = sz)
    (he : ∀ j, j < sz → ZOwn hi w.heap.size w (us.getD j undef) (ns.getD j [])) (ha : ∀ i j k, i < sz → j < sz → i ≠ j → (us.getD i undef).ownBlock = some k → (us.getD j undef).ownBlock ≠ some k) (hw : hi ≤ w.heap.size) (hlo : lo ≤ hi) (hh : w.heap.size ≤ hi') (hb : ∀ k, v'.ownBlock = some k → k < hi') : NOwnV sz e lo hi' w' v' (n + 1) (vs ++ us) (ls ++ ns) :=
  h.appM hr hg hv (by rw [Nat.one_mul]; exact hn) (fun j hj => he j (by omega)) (fun i j k h1 h2 => ha i j k (by omega) (by omega)) hw hlo hh hb

/-- How long a list is. -/
def slLen : Value → Nat
  | .slice _ n _ => n
  | _ => 0

/-- The numbers of so many lists. -/
def tot : List (List Int) → Nat
  | [] => 0
  | l :: t => l.length + tot t
theorem tot_app : ∀ a b : List (List Int), tot (a ++ b) = tot a + tot b
  | [], b => by show tot b = 0 + tot b; omega
  | l :: t, b => by show l.length + tot (t ++ b) = l.length + tot t + tot b; rw [tot_app t b]; omega
theorem tot_take_next (ls : List (List Int)) {j : Nat} (h : j < ls.length) : tot (ls.take (j + 1)) = tot (ls.take j) + (ls.getD j []).length := by
  rw [List.take_succ_eq_append_getElem h, tot_app]
  have e : ls.getD j [] = ls[j] := by simp [h]
  rw [e]
  rfl
theorem tot_take_le (ls : List (List Int)) (j : Nat) : tot (ls.take j) ≤ tot ls := by
  have h := tot_app (ls.take j) (ls.drop j)
  rw [List.take_append_drop] at h
  omega
theorem tot_at_le (ls : List (List Int)) {j : Nat} (h : j < ls.length) : (ls.getD j []).length ≤ tot ls := by
  have h1 := tot_take_next ls h
  have h2 := tot_take_le ls (j + 1)
  omega

theorem take_three (ls : List (List Int)) (k : Nat) (h : (k + 1) * 3 ≤ ls.length) : ls.take ((k + 1) * 3) = ls.take (k * 3) ++ [ls.getD (k * 3) [], ls.getD (k * 3 + 1) [], ls.getD (k * 3 + 2) []] := by
  have e0 : ls.getD (k * 3) [] = ls[k * 3] := by simp [show k * 3 < ls.length by omega]
  have e1 : ls.getD (k * 3 + 1) [] = ls[k * 3 + 1] := by simp [show k * 3 + 1 < ls.length by omega]
  have e2 : ls.getD (k * 3 + 2) [] = ls[k * 3 + 2] := by simp [show k * 3 + 2 < ls.length by omega]
  rw [e0, e1, e2]
  have t2 : ls.take (k * 3 + 3) = ls.take (k * 3 + 2) ++ [ls[k * 3 + 2]] := List.take_succ_eq_append_getElem (by omega)
  have t1 : ls.take (k * 3 + 2) = ls.take (k * 3 + 1) ++ [ls[k * 3 + 1]] := List.take_succ_eq_append_getElem (by omega)
  have t0 : ls.take (k * 3 + 1) = ls.take (k * 3) ++ [ls[k * 3]] := List.take_succ_eq_append_getElem (by omega)
  rw [show (k + 1) * 3 = k * 3 + 3 by omega, t2, t1, t0, List.append_assoc, List.append_assoc]
  rfl

/-- So many marks in lists of these lengths. -/
def mkzz (k : Nat) : List (List Int) → List (List Int)
  | [] => []
  | l :: t => mkz k l.length :: mkzz (k + l.length) t
theorem mkzz_length : ∀ (ls : List (List Int)) (k : Nat), (mkzz k ls).length = ls.length
  | [], _ => rfl
  | l :: t, k => by show (mkzz (k + l.length) t).length + 1 = t.length + 1; rw [mkzz_length t]
theorem mkzz_app : ∀ (a b : List (List Int)) (k : Nat), mkzz k (a ++ b) = mkzz k a ++ mkzz (k + tot a) b
  | [], b, k => rfl
  | l :: t, b, k => by
    show mkz k l.length :: mkzz (k + l.length) (t ++ b) = mkz k l.length :: (mkzz (k + l.length) t ++ mkzz (k + (l.length + tot t)) b)
    rw [mkzz_app t b, Nat.add_assoc]
theorem mkzz_at (ls : List (List Int)) (k : Nat) {j : Nat} (h : j < ls.length) : (mkzz k ls).getD j [] = mkz (k + tot (ls.take j)) (ls.getD j []).length := by
  have e : ls = ls.take j ++ ls[j] :: ls.drop (j + 1) := by
    rw [← List.drop_eq_getElem_cons h, List.take_append_drop]
  have hl : (mkzz k (ls.take j)).length = j := by rw [mkzz_length, List.length_take]; omega
  have e2 : ls.getD j [] = ls[j] := by simp [h]
  rw [e2]
  conv => lhs; rw [e]
  rw [mkzz_app, getD_app_right _ _ _ _ (by omega), hl, Nat.sub_self]
  rfl
theorem mkzz_step (ls : List (List Int)) (k : Nat) {j : Nat} (h : j < ls.length) : (mkzz k (ls.take j) ++ ls.drop j).set j (mkz (k + tot (ls.take j)) (ls.getD j []).length) = mkzz k (ls.take (j + 1)) ++ ls.drop (j + 1) := by
  have hl : (mkzz k (ls.take j)).length = j := by rw [mkzz_length, List.length_take]; omega
  have e2 : ls.getD j [] = ls[j] := by simp [h]
  rw [List.take_succ_eq_append_getElem h, mkzz_app, List.append_assoc, List.drop_eq_getElem_cons h, List.set_append_right _ _ (by omega), hl, Nat.sub_self, e2]
  rfl

end Go.Proofs.Ytengnjffajimdaa
