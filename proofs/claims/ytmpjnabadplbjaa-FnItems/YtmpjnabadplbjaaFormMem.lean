/-
  Items as the program's own forms in memory; a list of them that grows. Items in memory of their own, list by list.
  (-DROP-: what the seat lacks is left out.)
-/
import Derived.Test.YtmpjnabadplbjaaJoined20
import Derived.Test.YtmpjnabadplbjaaItemR3
namespace Go.Proofs.Ytmpjnabadplbjaa
open Go.RowKit

/-- An item as a form, in such blocks. -/
def FIn (S : Nat → Prop) : (d : Nat) → World → Value → It d → Prop
  | 0, _, _, x => x.elim
  | d + 1, w, f, x => if itL x = true then itT x = ⟨#[]⟩ ∧ (itK x).length ≤ 1000000 ∧ ∃ a cp, f = .iface 94 (.slice a (itK x).length cp) ∧ ∀ (j : Nat) (h : j < (itK x).length), ∃ b off u, a = some ⟨b, off, none⟩ ∧ S b ∧ w.cell? ⟨b, off + j, none⟩ = some u ∧ FIn S d w u (itK x)[j]
    else itK x = [] ∧ (itT x).size ≤ 1000000 ∧ f = .iface 92 (.string (itT x))

/-- Forms in a list, in such blocks. -/
def FKids (S : Nat → Prop) (d : Nat) (w : World) (v : Value) (K : List (It d)) : Prop := ∃ a cp, v = .slice a K.length cp ∧ ∀ (j : Nat) (h : j < K.length), ∃ b off u, a = some ⟨b, off, none⟩ ∧ S b ∧ w.cell? ⟨b, off + j, none⟩ = some u ∧ FIn S d w u K[j]

theorem FIn.list {S : Nat → Prop} {d : Nat} {w : World} {f : Value} {x : It (d + 1)} (h : FIn S (d + 1) w f x) (hl : itL x = true) : itT x = ⟨#[]⟩ ∧ (itK x).length ≤ 1000000 ∧ ∃ v, f = .iface 94 v ∧ FKids S d w v (itK x) := by
  rw [FIn, if_pos hl] at h
  obtain ⟨h1, h2, a, cp, h3, h4⟩ := h
  exact ⟨h1, h2, _, h3, a, cp, rfl, h4⟩

theorem FIn.text {S : Nat → Prop} {d : Nat} {w : World} {f : Value} {x : It (d + 1)} (h : FIn S (d + 1) w f x) (hl : itL x = false) : itK x = [] ∧ (itT x).size ≤ 1000000 ∧ f = .iface 92 (.string (itT x)) := by
  rw [FIn, if_neg (by rw [hl]; decide)] at h
  exact h

theorem FIn.ofList {S : Nat → Prop} {d : Nat} {w : World} {v : Value} {x : It (d + 1)} (hl : itL x = true) (h1 : itT x = ⟨#[]⟩) (h2 : (itK x).length ≤ 1000000) (h : FKids S d w v (itK x)) : FIn S (d + 1) w (.iface 94 v) x := by
  rw [FIn, if_pos hl]
  obtain ⟨a, cp, rfl, h4⟩ := h
  exact ⟨h1, h2, a, cp, rfl, h4⟩

theorem FIn.ofText {S : Nat → Prop} {d : Nat} {w : World} {x : It (d + 1)} (hl : itL x = false) (h1 : itK x = []) (h2 : (itT x).size ≤ 1000000) : FIn S (d + 1) w (.iface 92 (.string (itT x))) x := by
  rw [FIn, if_neg (by rw [hl]; decide)]
  exact ⟨h1, h2, rfl⟩

theorem FIn.more {S T : Nat → Prop} (hT : ∀ b, S b → T b) : ∀ {d : Nat} {w : World} {f : Value} {x : It d}, FIn S d w f x → FIn T d w f x
  | 0, _, _, x, _ => x.elim
  | d + 1, w, f, x, h => by
    rw [FIn] at h ⊢
    split at h
    · rename_i hl
      rw [if_pos hl]
      obtain ⟨h1, h2, a, cp, h3, h4⟩ := h
      refine ⟨h1, h2, a, cp, h3, fun j hj => ?_⟩
      obtain ⟨b, off, u, h5, h6, h7, h8⟩ := h4 j hj
      exact ⟨b, off, u, h5, hT b h6, h7, FIn.more hT h8⟩
    · rename_i hl
      rw [if_neg hl]
      exact h

theorem FIn.kept {S : Nat → Prop} {w w' : World} (hS : ∀ b, S b → w'.heap[b]? = w.heap[b]?) : ∀ {d : Nat} {f : Value} {x : It d}, FIn S d w f x → FIn S d w' f x
  | 0, _, x, _ => x.elim
  | d + 1, f, x, h => by
    rw [FIn] at h ⊢
    split at h
    · rename_i hl
      rw [if_pos hl]
      obtain ⟨h1, h2, a, cp, h3, h4⟩ := h
      refine ⟨h1, h2, a, cp, h3, fun j hj => ?_⟩
      obtain ⟨b, off, u, h5, h6, h7, h8⟩ := h4 j hj
      exact ⟨b, off, u, h5, h6, (World.cell?_of_block (a := ⟨b, off + j, none⟩) (hS b h6)).trans h7, FIn.kept hS h8⟩
    · rename_i hl
      rw [if_neg hl]
      exact h

theorem FKids.more {S T : Nat → Prop} (hT : ∀ b, S b → T b) {d : Nat} {w : World} {v : Value} {K : List (It d)} (h : FKids S d w v K) : FKids T d w v K := by
  obtain ⟨a, cp, h1, h2⟩ := h
  refine ⟨a, cp, h1, fun j hj => ?_⟩
  obtain ⟨b, off, u, h5, h6, h7, h8⟩ := h2 j hj
  exact ⟨b, off, u, h5, hT b h6, h7, h8.more hT⟩

theorem FKids.kept {S : Nat → Prop} {w w' : World} (hS : ∀ b, S b → w'.heap[b]? = w.heap[b]?) {d : Nat} {v : Value} {K : List (It d)} (h : FKids S d w v K) : FKids S d w' v K := by
  obtain ⟨a, cp, h1, h2⟩ := h
  refine ⟨a, cp, h1, fun j hj => ?_⟩
  obtain ⟨b, off, u, h5, h6, h7, h8⟩ := h2 j hj
  exact ⟨b, off, u, h5, h6, (World.cell?_of_block (a := ⟨b, off + j, none⟩) (hS b h6)).trans h7, h8.kept hS⟩

/-- A list of forms that is owned and grows; what they hold lies in other blocks. -/
structure FOwn (d lo hi : Nat) (w : World) (v : Value) (K : List (It d)) (vs : List Value) : Prop where
  row : w.ownsRow lo 56 1 v K.length vs
  top : ∀ g, v.ownBlock = some g → g < hi
  each : ∀ (j : Nat) (h : j < K.length), FIn (fun b => lo ≤ b ∧ b < hi ∧ v.ownBlock ≠ some b) d w (vs.getD j undef) K[j]

theorem FOwn.kids {d lo hi : Nat} {w : World} {v : Value} {K : List (It d)} {vs : List Value} (h : FOwn d lo hi w v K vs) : FKids (fun b => lo ≤ b ∧ b < hi) d w v K := by
  have hl := h.row.1
  rcases h.row.2 with ⟨rfl, h0⟩ | ⟨g, cp, cur, rfl, hg, hh, hrest⟩
  · exact ⟨none, 0, by rw [h0], fun j hj => by omega⟩
  · refine ⟨_, cp, rfl, fun j hj => ?_⟩
    have hc : w.cell? ⟨g, 0 + j, none⟩ = some (vs.getD j undef) := by
      rw [Nat.zero_add, World.ownsRow.cellAt h.row j (by omega), List.getElem?_eq_getElem (by omega)]
      simp [show j < vs.length by omega]
    exact ⟨g, 0, _, rfl, ⟨hg, h.top g rfl⟩, hc, (h.each j hj).more fun b hb => ⟨hb.1, hb.2.1⟩⟩

theorem FOwn.same {d lo hi hi' : Nat} {w w' : World} {v : Value} {K : List (It d)} {vs : List Value} (h : FOwn d lo hi w v K vs) (hs : Same lo hi w w') (hh : hi ≤ hi') : FOwn d lo hi' w' v K vs :=
  ⟨owns_same h.row hs fun k hk => ⟨(h.row.lt k hk).1, h.top k hk⟩, fun g hg => by have := h.top g hg; omega, fun j hj => ((h.each j hj).kept (w' := w') fun b hb => hs b hb.1 hb.2.1).more fun b hb => ⟨hb.1, by omega, hb.2.2⟩⟩

theorem FOwn.app {d lo hi hi' : Nat} {w w' : World} {v v' : Value} {K : List (It d)} {vs : List Value} {x : It d} {u : Value} (h : FOwn d lo hi w v K vs) (hr : w'.ownsRow lo 56 1 v' (K.length + 1) (vs ++ [u])) (hg : w.grownBy w' v.ownBlock) (hv : v'.ownBlock = v.ownBlock ∨ v'.ownBlock = some w.heap.size)
    (hx : FIn (fun b => hi ≤ b ∧ b < w.heap.size) d w u x) (hw : hi ≤ w.heap.size) (hlo : lo ≤ hi) (hh : w.heap.size ≤ hi') (hb : ∀ k, v'.ownBlock = some k → k < hi') : FOwn d lo hi' w' v' (K ++ [x]) (vs ++ [u]) := by
  have hvl : vs.length = K.length := by have := h.row.1; omega
  refine ⟨by rw [List.length_append]; exact hr, hb, fun j hj => ?_⟩
  rw [List.length_append, List.length_singleton] at hj
  by_cases hj1 : j < K.length
  · have h4 := h.each j hj1
    have e : (K ++ [x])[j] = K[j] := List.getElem_append_left hj1
    rw [getD_app_left _ _ _ _ (by omega), e]
    refine (h4.kept (w' := w') fun b hb2 => hg.block b (by omega) fun q => hb2.2.2 q.symm).more fun b hb2 => ⟨hb2.1, by omega, ?_⟩
    rcases hv with q | q
    · rw [q]; exact hb2.2.2
    · rw [q]; intro q2; injection q2 with q2; omega
  · have e1 : j = K.length := by omega
    subst e1
    have e : (K ++ [x])[K.length]'(by simp) = x := by simp
    rw [getD_app_right _ _ _ _ (by omega), e, hvl, Nat.sub_self]
    refine (hx.kept (w' := w') fun b hb2 => hg.block b hb2.2 fun q => ?_).more fun b hb2 => ⟨by omega, by omega, ?_⟩
    · have := h.top b q.symm; omega
    · rcases hv with q | q
      · rw [q]; intro q2; have := h.top b q2; omega
      · rw [q]; intro q2; injection q2 with q2; omega

/-- Kids in memory of their own, each list in a block of its own, all in such blocks. -/
def TO : (d : Nat) → (S : Nat → Prop) → World → Value → List (It d) → Prop
  | 0, _, _, v, K => ∃ a cp, v = .slice a K.length cp
  | d + 1, S, w, v, K => K.length ≤ 1000000 ∧ ∃ vs, w.ownsRow 0 26 3 v K.length vs ∧ (∀ g, v.ownBlock = some g → S g) ∧ ∃ F : Nat → Nat → Prop, (∀ i j b, F i b → F j b → i = j) ∧ (∀ j b, F j b → S b ∧ v.ownBlock ≠ some b) ∧
    ∀ (j : Nat) (h : j < K.length), vs.getD (j * 3) undef = .bool (itL K[j]) ∧ vs.getD (j * 3 + 1) undef = .string (itT K[j]) ∧ (itT K[j]).size ≤ 1000000 ∧ TO d (F j) w (vs.getD (j * 3 + 2) undef) (itK K[j])

theorem TO.more : ∀ {d : Nat} {S T : Nat → Prop} {w : World} {v : Value} {K : List (It d)}, (∀ b, S b → T b) → TO d S w v K → TO d T w v K
  | 0, _, _, _, _, _, _, h => h
  | _ + 1, _, _, _, _, _, hT, ⟨h1, vs, h2, h3, F, h4, h5, h6⟩ => ⟨h1, vs, h2, fun g hg => hT g (h3 g hg), F, h4, fun j b hb => ⟨hT b (h5 j b hb).1, (h5 j b hb).2⟩, h6⟩

theorem TO.kept : ∀ {d : Nat} {S : Nat → Prop} {w w' : World} {v : Value} {K : List (It d)}, (∀ b, S b → w'.heap[b]? = w.heap[b]?) → TO d S w v K → TO d S w' v K
  | 0, _, _, _, _, _, _, h => h
  | _ + 1, S, w, w', v, K, hS, ⟨h1, vs, h2, h3, F, h4, h5, h6⟩ => by
    refine ⟨h1, vs, ?_, h3, F, h4, h5, fun j hj => ?_⟩
    · rcases h2.2 with hn | ⟨g, cp, cur, rfl, hg, hh, hrest⟩
      · exact ⟨h2.1, .inl hn⟩
      · exact ⟨h2.1, .inr ⟨g, cp, cur, rfl, hg, (hS g (h3 g rfl)).trans hh, hrest⟩⟩
    · obtain ⟨k1, k2, k3, k4⟩ := h6 j hj
      exact ⟨k1, k2, k3, TO.kept (fun b hb => hS b (h5 j b hb).1) k4⟩

theorem TO.len {d : Nat} {S : Nat → Prop} {w : World} {v : Value} {K : List (It d)} (h : TO d S w v K) : K.length ≤ 1000000 := by
  cases d with
  | zero => rw [no_kids K]; decide
  | succ d => exact h.1

theorem TO.in : ∀ {d : Nat} {S : Nat → Prop} {w : World} {v : Value} {K : List (It d)}, TO d S w v K → KIn S d w v K
  | 0, _, _, _, K, ⟨a, cp, h⟩ => ⟨a, cp, h, by rw [no_kids K]; decide⟩
  | _ + 1, S, w, v, K, ⟨h1, vs, h2, h3, F, h4, h5, h6⟩ => by
    rcases h2.2 with ⟨rfl, h0⟩ | ⟨g, cp, cur, rfl, hg, hh, hrest⟩
    · exact ⟨none, 0, by rw [h0], by omega, fun j hj => by omega⟩
    · refine ⟨_, cp, rfl, by omega, fun j hj => ?_⟩
      obtain ⟨k1, k2, k3, k4⟩ := h6 j hj
      have hl := h2.1
      have hc : ∀ i, i < K.length * 3 → w.cell? ⟨g, 0 + i, none⟩ = some (vs.getD i undef) := fun i hi => by
        rw [Nat.zero_add, World.ownsRow.cellAt h2 i hi, List.getElem?_eq_getElem (by omega)]
        simp [show i < vs.length by omega]
      refine ⟨g, 0, _, rfl, h3 g rfl, ?_, ?_, hc (j * 3 + 2) (by omega), by omega, (TO.in k4).more fun b hb => (h5 j b hb).1⟩
      · rw [hc (j * 3) (by omega), k1]
      · have h5 := hc (j * 3 + 1) (by omega)
        rw [k2] at h5
        exact h5

theorem TO.nil0 (d : Nat) (S : Nat → Prop) (w : World) : TO d S w (.slice none 0 0) [] := by
  cases d with
  | zero => exact ⟨none, 0, rfl⟩
  | succ d => exact ⟨Nat.zero_le _, [], ⟨rfl, .inl ⟨rfl, rfl⟩⟩, fun g hg => (by cases hg), fun _ _ => False, fun i j b hb => hb.elim, fun j b hb => hb.elim, fun j hj => absurd hj (Nat.not_lt_zero _)⟩

theorem TO.slice {d : Nat} {S : Nat → Prop} {w : World} {v : Value} {K : List (It d)} (h : TO d S w v K) : ∃ a cp, v = .slice a K.length cp := by
  cases d with
  | zero => exact h
  | succ d =>
    obtain ⟨h1, vs, h2, _⟩ := h
    exact row_slice h2

/-- A list of kids that is owned and grows, each kid in blocks of its own. -/
structure TGr (d lo hi : Nat) (w : World) (v : Value) (K : List (It (d + 1))) (vs : List Value) (F : Nat → Nat → Prop) : Prop where
  row : w.ownsRow lo 26 3 v K.length vs
  top : ∀ g, v.ownBlock = some g → g < hi
  apart : ∀ i j b, F i b → F j b → i = j
  range : ∀ j b, F j b → lo ≤ b ∧ b < hi ∧ v.ownBlock ≠ some b
  few : ∀ j, K.length ≤ j → ∀ b, ¬ F j b
  each : ∀ (j : Nat) (h : j < K.length), vs.getD (j * 3) undef = .bool (itL K[j]) ∧ vs.getD (j * 3 + 1) undef = .string (itT K[j]) ∧ (itT K[j]).size ≤ 1000000 ∧ TO d (F j) w (vs.getD (j * 3 + 2) undef) (itK K[j])

theorem row_low {w : World} {lo e size n : Nat} {v : Value} {xs : List Value} (h : w.ownsRow lo e size v n xs) : w.ownsRow 0 e size v n xs := by
  refine ⟨h.1, ?_⟩
  rcases h.2 with hn | ⟨g, cp, cur, rfl, _, hrest⟩
  · exact .inl hn
  · exact .inr ⟨g, cp, cur, rfl, Nat.zero_le _, hrest⟩

theorem TGr.to {d lo hi : Nat} {w : World} {v : Value} {K : List (It (d + 1))} {vs : List Value} {F : Nat → Nat → Prop} (h : TGr d lo hi w v K vs F) (hn : K.length ≤ 1000000) : TO (d + 1) (fun b => lo ≤ b ∧ b < hi) w v K :=
  ⟨hn, vs, row_low h.row, fun g hg => ⟨(h.row.lt g hg).1, h.top g hg⟩, F, h.apart, fun j b hb => ⟨⟨(h.range j b hb).1, (h.range j b hb).2.1⟩, (h.range j b hb).2.2⟩, h.each⟩

theorem TGr.same {d lo hi hi' : Nat} {w w' : World} {v : Value} {K : List (It (d + 1))} {vs : List Value} {F : Nat → Nat → Prop} (h : TGr d lo hi w v K vs F) (hs : Same lo hi w w') (hh : hi ≤ hi') : TGr d lo hi' w' v K vs F :=
  ⟨owns_same h.row hs fun k hk => ⟨(h.row.lt k hk).1, h.top k hk⟩, fun g hg => by have := h.top g hg; omega, h.apart, fun j b hb => by
    have := h.range j b hb
    exact ⟨this.1, by omega, this.2.2⟩, h.few, fun j hj => by
    obtain ⟨h1, h2, h3, h4⟩ := h.each j hj
    exact ⟨h1, h2, h3, h4.kept fun b hb => hs b (h.range j b hb).1 (h.range j b hb).2.1⟩⟩

theorem TGr.app {d lo hi hi' : Nat} {w w' : World} {v v' : Value} {K : List (It (d + 1))} {vs : List Value} {F : Nat → Nat → Prop} {x : It (d + 1)} {u : Value} (h : TGr d lo hi w v K vs F) (hr : w'.ownsRow lo 26 3 v' (K.length + 1) (vs ++ cells3 (itL x) (itT x) u)) (hg : w.grownBy w' v.ownBlock) (hv : v'.ownBlock = v.ownBlock ∨ v'.ownBlock = some w.heap.size)
    (hx : TO d (fun b => hi ≤ b ∧ b < w.heap.size) w u (itK x)) (ht : (itT x).size ≤ 1000000) (hw : hi ≤ w.heap.size) (hlo : lo ≤ hi) (hh : w.heap.size ≤ hi') (hb : ∀ k, v'.ownBlock = some k → k < hi') : ∃ F', TGr d lo hi' w' v' (K ++ [x]) (vs ++ cells3 (itL x) (itT x) u) F' := by
  have hvl : vs.length = K.length * 3 := h.row.1
  refine ⟨fun j b => if j = K.length then hi ≤ b ∧ b < w.heap.size else F j b, by rw [List.length_append]; exact hr, hb, fun i j b hi' hj' => ?_, fun j b hb2 => ?_, fun j hj b hb2 => ?_, fun j hj => ?_⟩
  · by_cases h1 : i = K.length
    · by_cases h2 : j = K.length
      · omega
      · rw [if_pos h1] at hi'
        rw [if_neg h2] at hj'
        have := h.range j b hj'
        omega
    · by_cases h2 : j = K.length
      · rw [if_neg h1] at hi'
        rw [if_pos h2] at hj'
        have := h.range i b hi'
        omega
      · rw [if_neg h1] at hi'
        rw [if_neg h2] at hj'
        exact h.apart i j b hi' hj'
  · by_cases h2 : j = K.length
    · rw [if_pos h2] at hb2
      refine ⟨by omega, by omega, ?_⟩
      rcases hv with q | q
      · rw [q]; intro q2; have := h.top b q2; omega
      · rw [q]; intro q2; injection q2 with q2; omega
    · rw [if_neg h2] at hb2
      have h3 := h.range j b hb2
      refine ⟨h3.1, by omega, ?_⟩
      rcases hv with q | q
      · rw [q]; exact h3.2.2
      · rw [q]; intro q2; injection q2 with q2; omega
  · rw [List.length_append, List.length_singleton] at hj
    rw [if_neg (by omega)] at hb2
    exact h.few j (by omega) b hb2
  · rw [List.length_append, List.length_singleton] at hj
    by_cases hj1 : j < K.length
    · obtain ⟨h1, h2, h3, h4⟩ := h.each j hj1
      have e : (K ++ [x])[j] = K[j] := List.getElem_append_left hj1
      rw [getD_app_left _ _ _ _ (by omega), getD_app_left _ _ _ _ (by omega), getD_app_left _ _ _ _ (by omega), e]
      refine ⟨h1, h2, h3, ?_⟩
      have h5 : TO d (F j) w' (vs.getD (j * 3 + 2) undef) (itK K[j]) := h4.kept fun b hb2 => by
        have h6 := h.range j b hb2
        exact hg.block b (by omega) fun q => h6.2.2 q.symm
      refine h5.more fun b hb2 => ?_
      rw [if_neg (by omega)]
      exact hb2
    · have e1 : j = K.length := by omega
      subst e1
      have e : (K ++ [x])[K.length]'(by simp) = x := by simp
      rw [getD_app_right _ _ _ _ (by omega), getD_app_right _ _ _ _ (by omega), getD_app_right _ _ _ _ (by omega), e, hvl, show K.length * 3 - K.length * 3 = 0 by omega, show K.length * 3 + 1 - K.length * 3 = 1 by omega, show K.length * 3 + 2 - K.length * 3 = 2 by omega]
      refine ⟨rfl, rfl, ht, ?_⟩
      refine (hx.kept (w' := w') fun b hb2 => hg.block b hb2.2 fun q => ?_).more fun b hb2 => ?_
      · have := h.top b q.symm; omega
      · rw [if_pos rfl]; exact hb2

theorem TGr.start (d lo hi : Nat) (w : World) : TGr d lo hi w (.slice none 0 0) [] [] fun _ _ => False :=
  ⟨⟨rfl, .inl ⟨rfl, rfl⟩⟩, fun g hg => (by cases hg), fun i j b hb => hb.elim, fun j b hb => hb.elim, fun j hj b hb => hb, fun j hj => absurd hj (Nat.not_lt_zero _)⟩

end Go.Proofs.Ytmpjnabadplbjaa
