/-
  The walk of the copy of a system, the specification's.
  (-DROP-: what the seat lacks is left out.)
-/
import Derived.Test.YthnahalboomkoaaGreatJoined13

namespace Go.Proofs.YthnahalboomkoaaGreat
open Go.RowKit

/-- What three appends to empty lists make, in whatever order. -/
def tgt3 (l0 l1 l2 : List Int) (i : Nat) : List Int := if i = 5 then l0 else if i = 9 then l1 else if i = 13 then l2 else []
def cl3 (i : Nat) : Nat := if i ≤ 5 then 0 else if i ≤ 9 then 1 else 2
def nx3 (i : Nat) : Nat := if i = 2 then 5 else if i = 6 then 9 else if i = 10 then 13 else 0
def H3 : List Nat := [2, 5, 6, 9, 10, 13]
def holds3 (L : Array Bool) (i : Nat) : Prop := L.getD i false = true ∧ (i = 5 ∨ i = 9 ∨ i = 13 ∨ L.getD (nx3 i) false = false)
structure JCopy (V : World) (l0 l1 l2 : List Int) (L : Array Bool) (v : Nat → Value) (w : World) : Prop where
  bel : Below V.heap.size V w
  row : ∀ i, i ∈ H3 → holds3 L i → RowZs V.heap.size w (v i) (tgt3 l0 l1 l2 i)
  lt : ∀ i, i ∈ H3 → L.getD i false = true → ∀ g, (v i).ownBlock = some g → g < w.heap.size
  apart : ∀ i j, i ∈ H3 → j ∈ H3 → cl3 i ≠ cl3 j → L.getD i false = true → L.getD j false = true → ∀ g, (v i).ownBlock = some g → (v j).ownBlock ≠ some g
theorem lt_of_un {L : Array Bool} {i : Nat} (h : L.getD i true = false) : i < L.size ∧ L.getD i false = false := by
  rcases Nat.lt_or_ge i L.size with h1 | h1
  · refine ⟨h1, ?_⟩
    simp [h1] at h ⊢
    exact h
  · simp [Array.getElem?_eq_none h1] at h
theorem upd_same (v : Nat → Value) (i : Nat) (x : Value) : upd v i x i = x := if_pos rfl
theorem upd_other (v : Nat → Value) {i j : Nat} (x : Value) (h : j ≠ i) : upd v i x j = v j := if_neg h
theorem JCopy.add {V : World} {l0 l1 l2 : List Int} {L : Array Bool} {v : Nat → Value} {w w' : World} {i : Nat} {x : Value} (h : JCopy V l0 l1 l2 L v w) (hL : L.getD i true = false) (hrow : RowZs V.heap.size w' x (tgt3 l0 l1 l2 i)) (hb : Below V.heap.size V w') (hsz : w.heap.size ≤ w'.heap.size)
    (hkeep : ∀ j, j ∈ H3 → j ≠ i → holds3 L j → holds3 (L.setIfInBounds i true) j → RowZs V.heap.size w' (v j) (tgt3 l0 l1 l2 j)) (hap : ∀ j, j ∈ H3 → cl3 i ≠ cl3 j → L.getD j false = true → ∀ g, x.ownBlock = some g → (v j).ownBlock ≠ some g) : JCopy V l0 l1 l2 (L.setIfInBounds i true) (upd v i x) w' := by
  obtain ⟨hi, hf⟩ := lt_of_un hL
  refine ⟨hb, fun j hj hh => ?_, fun j hj hh g hg => ?_, fun j k hj hk hc h1 h2 g hg => ?_⟩
  · by_cases hji : j = i
    · subst hji; rw [upd_same]; exact hrow
    · rw [upd_other _ _ hji]
      refine hkeep j hj hji ?_ hh
      obtain ⟨h1, h2⟩ := hh
      rw [getD_set_ne' (fun e => hji e.symm)] at h1
      refine ⟨h1, ?_⟩
      rcases h2 with h2 | h2 | h2 | h2
      · exact .inl h2
      · exact .inr (.inl h2)
      · exact .inr (.inr (.inl h2))
      · refine .inr (.inr (.inr ?_))
        by_cases hn : i = nx3 j
        · rw [← hn]; exact hf
        · rw [getD_set_ne' hn] at h2; exact h2
  · by_cases hji : j = i
    · subst hji; rw [upd_same] at hg; exact (hrow.lt g hg).2
    · rw [upd_other _ _ hji] at hg
      rw [getD_set_ne' (fun e => hji e.symm)] at hh
      have := h.lt j hj hh g hg
      omega
  · by_cases hji : j = i
    · subst hji
      have hki : k ≠ j := fun e => hc (by rw [e])
      rw [upd_same] at hg
      rw [upd_other _ _ hki]
      rw [getD_set_ne' (fun e => hki e.symm)] at h2
      exact hap k hk hc h2 g hg
    · rw [upd_other _ _ hji] at hg
      rw [getD_set_ne' (fun e => hji e.symm)] at h1
      by_cases hki : k = i
      · subst hki
        rw [upd_same]
        exact fun e => hap j hj (fun e2 => hc e2.symm) h1 g e hg
      · rw [upd_other _ _ hki]
        rw [getD_set_ne' (fun e => hki e.symm)] at h2
        exact h.apart j k hj hk hc h1 h2 g hg
/-- An empty list is made. -/
theorem JCopy.made {V : World} {l0 l1 l2 : List Int} {L : Array Bool} {v : Nat → Value} {w : World} {i : Nat} (h : JCopy V l0 l1 l2 L v w) (hL : L.getD i true = false) (ht : tgt3 l0 l1 l2 i = []) : JCopy V l0 l1 l2 (L.setIfInBounds i true) (upd v i (.slice (some ⟨w.heap.size, 0, none⟩) 0 0)) (w.alloc (.cells #[] 3)) := by
  have hs := h.bel.size
  refine h.add hL ?_ (h.bel.alloc hs _) (by simp) (fun j hj _ h1 _ => World.ownsRow.alloc (h.row j hj h1) _) (fun j hj _ h1 g hg h2 => ?_)
  · rw [ht]
    exact World.ownsRow_lit _ _ _ hs (by simp [maxLen]) (by simp)
  · have e : some w.heap.size = some g := hg
    injection e with e
    have := h.lt j hj h1 g h2
    omega
/-- A list is put behind an empty one. -/
theorem JCopy.app {V : World} {l0 l1 l2 : List Int} {L : Array Bool} {v : Nat → Value} {w w' : World} {i d : Nat} {x : Value} (h : JCopy V l0 l1 l2 L v w) (hL : L.getD i true = false) (hd : d ∈ H3) (hdL : L.getD d false = true) (hc : cl3 d = cl3 i) (hn : nx3 d = i) (hsame : ∀ j, j ∈ H3 → j ≠ i → cl3 j = cl3 i → j = d) (hd4 : d ≠ 5 ∧ d ≠ 9 ∧ d ≠ 13)
    (hown : w'.ownsRow V.heap.size 3 1 x (0 + (tgt3 l0 l1 l2 i).length) ([] ++ zsV (tgt3 l0 l1 l2 i))) (hg : w.grownBy w' (v d).ownBlock) (hat : x.ownBlock = (v d).ownBlock ∨ x.ownBlock = some w.heap.size) : JCopy V l0 l1 l2 (L.setIfInBounds i true) (upd v i x) w' := by
  obtain ⟨hi, hf⟩ := lt_of_un hL
  have hs := h.bel.size
  have hrd := h.row d hd ⟨hdL, .inr (.inr (.inr (by rw [hn]; exact hf)))⟩
  refine h.add hL ?_ (h.bel.grown hg hs (fun k hk => (hrd.lt k hk).1)) hg.size (fun j hj hji h1 h2 => ?_) (fun j hj hcj h1 g hx hj2 => ?_)
  · have e : 0 + (tgt3 l0 l1 l2 i).length = (tgt3 l0 l1 l2 i).length := Nat.zero_add _
    rw [e, List.nil_append] at hown
    exact hown
  · by_cases hcc : cl3 j = cl3 i
    · have hjd := hsame j hj hji hcc
      subst hjd
      exfalso
      rcases h2.2 with e | e | e | e
      · exact hd4.1 e
      · exact hd4.2.1 e
      · exact hd4.2.2 e
      · rw [hn, getD_set_same' hi] at e
        cases e
    · refine World.ownsRow.kept (h.row j hj h1) hg ?_
      cases ho : (v j).ownBlock with
      | none => exact .inl rfl
      | some g => exact .inr fun e => h.apart j d hj hd (by rw [hc]; exact hcc) h1.1 hdL g ho e.symm
  · rcases hat with e | e
    · rw [e] at hx
      exact h.apart d j hd hj (by rw [hc]; exact hcj) hdL h1 g hx hj2
    · rw [e] at hx
      injection hx with hx
      have := h.lt j hj h1 g hj2
      omega
theorem putSt_H3 {ops : Array Oper} (v : Nat → Value) (a : Act) (h : ops.size = 19) (h2 : dsOf ops 2 = some 25) (h5 : dsOf ops 5 = some 28) (h6 : dsOf ops 6 = some 29) (h9 : dsOf ops 9 = some 32) (h10 : dsOf ops 10 = some 33) (h13 : dsOf ops 13 = some 36) : putSt ops v a (fun i => H3.contains i) ops.size = (((((a.put (some 25) (v 2)).put (some 28) (v 5)).put (some 29) (v 6)).put (some 32) (v 9)).put (some 33) (v 10)).put (some 36) (v 13) := by
  rw [← h2, ← h5, ← h6, ← h9, ← h10, ← h13, h]
  rfl
theorem three_slices (a b c : Option Addr) (n m k n' m' k' : Nat) : ∀ u ∈ [Value.slice a n n', .slice b m m', .slice c k k'], u.oneCell' = true := by
  intro u hu
  simp only [List.mem_cons, List.not_mem_nil, or_false] at hu
  rcases hu with rfl | rfl | rfl <;> rfl
theorem RowZs.low {B B' : Nat} {w : World} {v : Value} {l : List Int} (h : RowZs B w v l) (hB : B' ≤ B) : RowZs B' w v l := owns_low h hB
/-- A row of three owned lists is put behind. -/
theorem NOwnV.appR {e lo hi n : Nat} {w w' : World} {v v' x0 x1 x2 : Value} {vs : List Value} {ls ns : List (List Int)} {l0 l1 l2 : List Int} (h : NOwnV 3 e lo hi w v n vs ls) (hr : w'.ownsRow lo e 3 v' (n + 1) (vs ++ [x0, x1, x2])) (hg : w.grownBy w' v.ownBlock) (hv : v'.ownBlock = v.ownBlock ∨ v'.ownBlock = some w.heap.size) (hns : ns = [l0, l1, l2])
    (r0 : RowZs hi w x0 l0) (r1 : RowZs hi w x1 l1) (r2 : RowZs hi w x2 l2) (d01 : ∀ g, x0.ownBlock = some g → x1.ownBlock ≠ some g) (d02 : ∀ g, x0.ownBlock = some g → x2.ownBlock ≠ some g) (d12 : ∀ g, x1.ownBlock = some g → x2.ownBlock ≠ some g) (hw : hi ≤ w.heap.size) (hlo : lo ≤ hi) :
    NOwnV 3 e lo w'.heap.size w' v' (n + 1) (vs ++ [x0, x1, x2]) (ls ++ ns) := by
  subst hns
  refine h.app hr hg hv rfl (fun j hj => ?_) (fun i j k hi hj hij h1 h2 => ?_) hw hlo hg.size (fun k hk => (hr.lt k hk).2)
  · have hj3 : j = 0 ∨ j = 1 ∨ j = 2 := by omega
    rcases hj3 with rfl | rfl | rfl
    · exact ZOwn.of r0
    · exact ZOwn.of r1
    · exact ZOwn.of r2
  · have hi3 : i = 0 ∨ i = 1 ∨ i = 2 := by omega
    have hj3 : j = 0 ∨ j = 1 ∨ j = 2 := by omega
    rcases hi3 with rfl | rfl | rfl <;> rcases hj3 with rfl | rfl | rfl
    · exact absurd rfl hij
    · exact d01 k h1 h2
    · exact d02 k h1 h2
    · exact d01 k h2 h1
    · exact absurd rfl hij
    · exact d12 k h1 h2
    · exact d02 k h2 h1
    · exact d12 k h2 h1
    · exact absurd rfl hij
/-- What a list holds, for an append. -/
theorem ints_news {w : World} {l : List Int} {a : Option Addr} {c : Nat} (h : IntsAt w a l.length c (fun j => l.getD j 0)) (hl : 0 < l.length) : ∃ b off, a = some ⟨b, off, none⟩ ∧ b < c ∧ ∀ j u, (zsV l)[j]? = some u → w.cell? ((⟨b, off, none⟩ : Addr).add j) = some u := by
  obtain ⟨b, off, rfl, hb, _⟩ := h 0 hl
  refine ⟨b, off, rfl, hb, fun j u hj => ?_⟩
  have hj2 : j < l.length := by
    rcases Nat.lt_or_ge j l.length with h1 | h1
    · exact h1
    · rw [List.getElem?_eq_none (by simpa [zsV] using h1)] at hj
      cases hj
  obtain ⟨b', off', e, _, hc⟩ := h j hj2
  injection e with e
  injection e with e1 e2
  subst e1
  subst e2
  rw [Addr.add_lit, hc]
  simp [zsV, hj2] at hj ⊢
  exact hj

end Go.Proofs.YthnahalboomkoaaGreat
