/-
  Items in memory of their own: which blocks they lie in; a list of kids that grows.
-/
import Derived.Test.YtmpjnabadplbjaaItemPure
import Derived.Test.YtmpjnabadplbjaaNest
namespace Go.Proofs.Ytmpjnabadplbjaa
open Go.RowKit

/-- Kids in memory, in such blocks, with all that they hold. -/
def KIn (S : Nat → Prop) : (d : Nat) → World → Value → List (It d) → Prop
  | 0, _, v, K => ∃ a cp, v = .slice a K.length cp ∧ K.length ≤ 9223372036854775807
  | d + 1, w, v, K => ∃ a cp, v = .slice a K.length cp ∧ K.length ≤ 9223372036854775807 ∧ ∀ (j : Nat) (h : j < K.length), ∃ b off u, a = some ⟨b, off, none⟩ ∧ S b ∧ w.cell? ⟨b, off + j * 3, none⟩ = some (.bool (itL K[j])) ∧ w.cell? ⟨b, off + j * 3 + 1, none⟩ = some (.string (itT K[j])) ∧ w.cell? ⟨b, off + j * 3 + 2, none⟩ = some u ∧ (itT K[j]).size ≤ 9223372036854775807 ∧ KIn S d w u (itK K[j])
theorem KIn.more {S T : Nat → Prop} (hT : ∀ b, S b → T b) : ∀ {d : Nat} {w : World} {v : Value} {K : List (It d)}, KIn S d w v K → KIn T d w v K
  | 0, _, _, _, h => h
  | d + 1, _, _, _, ⟨a, cp, h1, h2, h3⟩ => ⟨a, cp, h1, h2, fun j hj => by
    obtain ⟨b, off, u, h4, h5, h6, h7, h8, h9, h10⟩ := h3 j hj
    exact ⟨b, off, u, h4, hT b h5, h6, h7, h8, h9, KIn.more hT h10⟩⟩
theorem KIn.kept {S : Nat → Prop} {w w' : World} (hS : ∀ b, S b → w'.heap[b]? = w.heap[b]?) : ∀ {d : Nat} {v : Value} {K : List (It d)}, KIn S d w v K → KIn S d w' v K
  | 0, _, _, h => h
  | d + 1, _, _, ⟨a, cp, h1, h2, h3⟩ => ⟨a, cp, h1, h2, fun j hj => by
    obtain ⟨b, off, u, h4, h5, h6, h7, h8, h9, h10⟩ := h3 j hj
    have hc : ∀ (p : Addr), p.block = b → w'.cell? p = w.cell? p := fun p hp => World.cell?_of_block (by rw [hp]; exact hS b h5)
    exact ⟨b, off, u, h4, h5, (hc _ rfl).trans h6, (hc _ rfl).trans h7, (hc _ rfl).trans h8, h9, KIn.kept hS h10⟩⟩
theorem KIn.at {S : Nat → Prop} {c : Nat} {w : World} (hS : ∀ b, S b → b < c) : ∀ {d : Nat} {v : Value} {K : List (It d)}, KIn S d w v K → KAt d w c v K
  | 0, _, _, h => h
  | d + 1, _, _, ⟨a, cp, h1, h2, h3⟩ => ⟨a, cp, h1, h2, fun j hj => by
    obtain ⟨b, off, u, h4, h5, h6, h7, h8, h9, h10⟩ := h3 j hj
    exact ⟨u, ⟨b, off, h4, hS b h5, h6, h7, h8⟩, h9, KIn.at hS h10⟩⟩
theorem KAt.in {c : Nat} {w : World} : ∀ {d : Nat} {v : Value} {K : List (It d)}, KAt d w c v K → KIn (fun b => b < c) d w v K
  | 0, _, _, h => h
  | d + 1, _, _, ⟨a, cp, h1, h2, h3⟩ => ⟨a, cp, h1, h2, fun j hj => by
    obtain ⟨u, ⟨b, off, h4, h5, h6, h7, h8⟩, h9, h10⟩ := h3 j hj
    exact ⟨b, off, u, h4, h5, h6, h7, h8, h9, KAt.in h10⟩⟩
theorem KIn.none (S : Nat → Prop) (d : Nat) (w : World) (a : Option Addr) (cp : Nat) : KIn S d w (.slice a 0 cp) [] := by
  cases d with
  | zero => exact ⟨a, cp, rfl, Nat.zero_le _⟩
  | succ d => exact ⟨a, cp, rfl, Nat.zero_le _, fun j hj => absurd hj (Nat.not_lt_zero _)⟩

/-- The cells of an item in a list. -/
def cells3 (l : Bool) (t : ByteArray) (u : Value) : List Value := [.bool l, .string t, u]
/-- A list of kids that is owned; what the kids hold lies in other blocks. -/
structure KOwn (ty d lo hi : Nat) (w : World) (v : Value) (K : List (It (d + 1))) (vs : List Value) : Prop where
  row : w.ownsRow lo ty 3 v K.length vs
  top : ∀ g, v.ownBlock = some g → g < hi
  each : ∀ (j : Nat) (h : j < K.length), vs.getD (j * 3) undef = .bool (itL K[j]) ∧ vs.getD (j * 3 + 1) undef = .string (itT K[j]) ∧ (itT K[j]).size ≤ 9223372036854775807 ∧ KIn (fun b => lo ≤ b ∧ b < hi ∧ v.ownBlock ≠ some b) d w (vs.getD (j * 3 + 2) undef) (itK K[j])
theorem KOwn.in {ty d lo hi : Nat} {w : World} {v : Value} {K : List (It (d + 1))} {vs : List Value} (h : KOwn ty d lo hi w v K vs) (hn : K.length ≤ 9223372036854775807) : KIn (fun b => lo ≤ b ∧ b < hi) (d + 1) w v K := by
  have hl := h.row.1
  rcases h.row.2 with ⟨rfl, h0⟩ | ⟨g, cp, cur, rfl, hg, hh, hrest⟩
  · exact ⟨none, 0, by rw [h0], hn, fun j hj => by omega⟩
  · refine ⟨_, cp, rfl, hn, fun j hj => ?_⟩
    obtain ⟨h1, h2, h3, h4⟩ := h.each j hj
    have hc : ∀ i, i < K.length * 3 → w.cell? ⟨g, 0 + i, none⟩ = some (vs.getD i undef) := fun i hi => by
      rw [Nat.zero_add, World.ownsRow.cellAt h.row i hi, List.getElem?_eq_getElem (by omega)]
      simp [show i < vs.length by omega]
    refine ⟨g, 0, _, rfl, ⟨hg, h.top g rfl⟩, ?_, ?_, hc (j * 3 + 2) (by omega), h3, h4.more fun b hb => ⟨hb.1, hb.2.1⟩⟩
    · rw [hc (j * 3) (by omega), h1]
    · have h5 := hc (j * 3 + 1) (by omega)
      rw [h2] at h5
      exact h5
theorem KOwn.app {ty d lo hi hi' : Nat} {w w' : World} {v v' : Value} {K : List (It (d + 1))} {vs : List Value} {x : It (d + 1)} {u : Value} (h : KOwn ty d lo hi w v K vs) (hr : w'.ownsRow lo ty 3 v' (K.length + 1) (vs ++ cells3 (itL x) (itT x) u)) (hg : w.grownBy w' v.ownBlock) (hv : v'.ownBlock = v.ownBlock ∨ v'.ownBlock = some w.heap.size)
    (hx : KIn (fun b => hi ≤ b ∧ b < w.heap.size) d w u (itK x)) (ht : (itT x).size ≤ 9223372036854775807) (hw : hi ≤ w.heap.size) (hlo : lo ≤ hi) (hh : w.heap.size ≤ hi') (hb : ∀ k, v'.ownBlock = some k → k < hi') : KOwn ty d lo hi' w' v' (K ++ [x]) (vs ++ cells3 (itL x) (itT x) u) := by
  have hvl : vs.length = K.length * 3 := h.row.1
  refine ⟨by rw [List.length_append]; exact hr, hb, fun j hj => ?_⟩
  rw [List.length_append, List.length_singleton] at hj
  by_cases hj1 : j < K.length
  · obtain ⟨h1, h2, h3, h4⟩ := h.each j hj1
    have e : (K ++ [x])[j] = K[j] := List.getElem_append_left hj1
    rw [getD_app_left _ _ _ _ (by omega), getD_app_left _ _ _ _ (by omega), getD_app_left _ _ _ _ (by omega), e]
    refine ⟨h1, h2, h3, (h4.kept (w' := w') fun b hb2 => hg.block b (by omega) fun q => hb2.2.2 q.symm).more fun b hb2 => ⟨hb2.1, by omega, ?_⟩⟩
    rcases hv with q | q
    · rw [q]; exact hb2.2.2
    · rw [q]; intro q2; injection q2 with q2; omega
  · have e1 : j = K.length := by omega
    subst e1
    have e : (K ++ [x])[K.length]'(by simp) = x := by simp
    rw [getD_app_right _ _ _ _ (by omega), getD_app_right _ _ _ _ (by omega), getD_app_right _ _ _ _ (by omega), e, hvl, show K.length * 3 - K.length * 3 = 0 by omega, show K.length * 3 + 1 - K.length * 3 = 1 by omega, show K.length * 3 + 2 - K.length * 3 = 2 by omega]
    refine ⟨rfl, rfl, ht, (hx.kept (w' := w') fun b hb2 => hg.block b hb2.2 fun q => ?_).more fun b hb2 => ⟨by omega, by omega, ?_⟩⟩
    · have := h.top b q.symm; omega
    · rcases hv with q | q
      · rw [q]; intro q2; have := h.top b q2; omega
      · rw [q]; intro q2; injection q2 with q2; omega

end Go.Proofs.Ytmpjnabadplbjaa
