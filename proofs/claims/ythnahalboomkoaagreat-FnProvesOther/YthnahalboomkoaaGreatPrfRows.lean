/-
  Five lists of numbers in the fields of one struct, each in a block of its own.
-/
import Derived.Test.YthnahalboomkoaaGreatJoined13

namespace Go.Proofs.YthnahalboomkoaaGreat
open Go.RowKit

def vec5 {α : Type} (a b c d e : α) : Nat → α
  | 0 => a
  | 1 => b
  | 2 => c
  | 3 => d
  | _ => e
def setF {α : Type} (v : Nat → α) (i : Nat) (x : α) : Nat → α := fun j => if j = i then x else v j
theorem set5_0 {α : Type} (a b c d e x : α) : setF (vec5 a b c d e) 0 x = vec5 x b c d e := funext fun j => match j with
  | 0 => rfl
  | 1 => rfl
  | 2 => rfl
  | 3 => rfl
  | _ + 4 => rfl
theorem set5_1 {α : Type} (a b c d e x : α) : setF (vec5 a b c d e) 1 x = vec5 a x c d e := funext fun j => match j with
  | 0 => rfl
  | 1 => rfl
  | 2 => rfl
  | 3 => rfl
  | _ + 4 => rfl
theorem set5_2 {α : Type} (a b c d e x : α) : setF (vec5 a b c d e) 2 x = vec5 a b x d e := funext fun j => match j with
  | 0 => rfl
  | 1 => rfl
  | 2 => rfl
  | 3 => rfl
  | _ + 4 => rfl
theorem set5_3 {α : Type} (a b c d e x : α) : setF (vec5 a b c d e) 3 x = vec5 a b c x e := funext fun j => match j with
  | 0 => rfl
  | 1 => rfl
  | 2 => rfl
  | 3 => rfl
  | _ + 4 => rfl
theorem set5_4 {α : Type} (a b c d e x : α) : ∀ j, j < 5 → setF (vec5 a b c d e) 4 x j = vec5 a b c d x j
  | 0, _ => rfl
  | 1, _ => rfl
  | 2, _ => rfl
  | 3, _ => rfl
  | 4, _ => rfl
  | _ + 5, h => absurd h (by omega)

theorem Kps.over {S T : Nat → Prop} {a b c : World} (h : Kps S a b) (k : Kps T b c) (hT : ∀ i, i < a.heap.size → T i → S i) : Kps S a c :=
  ⟨k.os.trans h.os, k.tape.trans h.tape, k.output.trans h.output, Nat.le_trans h.size k.size, fun i hi hs => (k.block i (Nat.lt_of_lt_of_le hi h.size) fun ht => hs (hT i hi ht)).trans (h.block i hi hs)⟩

/-- Five rows, no two in one block: e, sz, the cells of an element. -/
structure RowF (e sz lo : Nat) (w : World) (v : Nat → Value) (n : Nat → Nat) (xs : Nat → List Value) : Prop where
  row : ∀ i, i < 5 → w.ownsRow lo e sz (v i) (n i) (xs i)
  apart : ∀ i j k, i < 5 → j < 5 → i ≠ j → (v i).ownBlock = some k → (v j).ownBlock ≠ some k
theorem RowF.below {e sz lo : Nat} {w w' : World} {v : Nat → Value} {n : Nat → Nat} {xs : Nat → List Value} (h : RowF e sz lo w v n xs) (hb : Below w.heap.size w w') : RowF e sz lo w' v n xs := ⟨fun i hi => owns_on (h.row i hi) hb, h.apart⟩
theorem RowF.alloc {e sz lo : Nat} {w : World} {v : Nat → Value} {n : Nat → Nat} {xs : Nat → List Value} (h : RowF e sz lo w v n xs) (o : Obj) : RowF e sz lo (w.alloc o) v n xs := ⟨fun i hi => World.ownsRow.alloc (h.row i hi) o, h.apart⟩
theorem RowF.kept {e sz lo : Nat} {w w' : World} {v : Nat → Value} {n : Nat → Nat} {xs : Nat → List Value} {S : Nat → Prop} (h : RowF e sz lo w v n xs) (hk : Kps S w w') (hS : ∀ k, lo ≤ k → ¬ S k) : RowF e sz lo w' v n xs := ⟨fun i hi => hk.row (h.row i hi) fun k hv => hS k ((h.row i hi).lt k hv).1, h.apart⟩
theorem RowF.app {e sz lo : Nat} {w w' : World} {v : Nat → Value} {n : Nat → Nat} {xs : Nat → List Value} (h : RowF e sz lo w v n xs) (i : Nat) (hi : i < 5) {a' : Value} {n' : Nat} {xs' : List Value} (hr : w'.ownsRow lo e sz a' n' xs') (hg : w.grownBy w' (v i).ownBlock) (hv : a'.ownBlock = (v i).ownBlock ∨ a'.ownBlock = some w.heap.size) : RowF e sz lo w' (setF v i a') (setF n i n') (setF xs i xs') := by
  have hK := kps_grown hg
  refine ⟨fun j hj => ?_, fun j1 j2 k h1 h2 hne he => ?_⟩
  · unfold setF
    by_cases e : j = i
    · rw [if_pos e, if_pos e, if_pos e]; exact hr
    · rw [if_neg e, if_neg e, if_neg e]
      exact hK.row (h.row j hj) fun k hk hs => h.apart i j k hi hj (fun q => e q.symm) hs hk
  · unfold setF at he ⊢
    by_cases e1 : j1 = i
    · rw [if_pos e1] at he
      have e2 : ¬ j2 = i := fun q => hne (e1.trans q.symm)
      rw [if_neg e2]
      rcases hv with hv | hv
      · exact h.apart i j2 k hi h2 (fun q => e2 q.symm) (hv ▸ he)
      · intro h3
        rw [hv] at he
        have h4 := Option.some.inj he
        have h5 := ((h.row j2 h2).lt k h3).2
        omega
    · rw [if_neg e1] at he
      by_cases e2 : j2 = i
      · rw [if_pos e2]
        rcases hv with hv | hv
        · intro h3
          exact h.apart i j1 k hi h1 (fun q => e1 q.symm) (hv ▸ h3) he
        · intro h3
          rw [hv] at h3
          have h4 := Option.some.inj h3
          have h5 := ((h.row j1 h1).lt k he).2
          omega
      · rw [if_neg e2]
        exact h.apart j1 j2 k h1 h2 hne he

/-- The struct gO holds five rows, all else that there was is as it was. -/
structure St (e sz tm gO : Nat) (w1 Y : World) (v : Nat → Value) (n : Nat → Nat) (xs : Nat → List Value) : Prop where
  kps : Kps (fun k => k = gO) w1 Y
  blk : Blk Y gO tm #[v 0, v 1, v 2, v 3, v 4]
  row : RowF e sz w1.heap.size Y v n xs
  low : gO < w1.heap.size
theorem St.below {e sz tm gO : Nat} {w1 Y Y' : World} {v : Nat → Value} {n : Nat → Nat} {xs : Nat → List Value} (h : St e sz tm gO w1 Y v n xs) (hb : Below Y.heap.size Y Y') : St e sz tm gO w1 Y' v n xs :=
  ⟨h.kps.trans (Kps.of_below hb), h.blk.on hb h.blk.lt, h.row.below hb, h.low⟩
theorem St.alloc {e sz tm gO : Nat} {w1 Y : World} {v : Nat → Value} {n : Nat → Nat} {xs : Nat → List Value} (h : St e sz tm gO w1 Y v n xs) (o : Obj) : St e sz tm gO w1 (Y.alloc o) v n xs :=
  h.below ((Below.refl _ _).alloc (Nat.le_refl _) o)
theorem St.mid {e sz tm gO : Nat} {w1 Y Y' : World} {v : Nat → Value} {n : Nat → Nat} {xs : Nat → List Value} (h : St e sz tm gO w1 Y v n xs) (i : Nat) (hi : i < 5) (hg : Y.grownBy Y' (v i).ownBlock) : Blk Y' gO tm #[v 0, v 1, v 2, v 3, v 4] :=
  (kps_grown hg).blk h.blk fun e => by
    have h1 := ((h.row.row i hi).lt gO e).1
    have h2 := h.low
    omega
theorem five_set (v : Nat → Value) (i : Nat) (hi : i < 5) (x : Value) : (#[v 0, v 1, v 2, v 3, v 4] : Array Value).setIfInBounds i x = #[setF v i x 0, setF v i x 1, setF v i x 2, setF v i x 3, setF v i x 4] := by
  match i, hi with
  | 0, _ => rfl
  | 1, _ => rfl
  | 2, _ => rfl
  | 3, _ => rfl
  | 4, _ => rfl
theorem St.step {e sz tm gO : Nat} {w1 Y Y' : World} {v : Nat → Value} {n : Nat → Nat} {xs : Nat → List Value} (h : St e sz tm gO w1 Y v n xs) (i : Nat) (hi : i < 5) {a' : Value} {n' : Nat} {xs' : List Value} (hr : Y'.ownsRow w1.heap.size e sz a' n' xs') (hg : Y.grownBy Y' (v i).ownBlock) (hv : a'.ownBlock = (v i).ownBlock ∨ a'.ownBlock = some Y.heap.size) : St e sz tm gO w1 (Y'.setCell ⟨gO, i, none⟩ a') (setF v i a') (setF n i n') (setF xs i xs') := by
  have hl := h.low
  have hK := kps_grown hg
  have hk2 : Kps (fun k => k = gO) w1 Y' := h.kps.over hK fun k hk hs => by
    have h1 := ((h.row.row i hi).lt k hs).1
    omega
  refine ⟨hk2.setCell rfl _, ?_, ?_, hl⟩
  · rw [← five_set v i hi a']
    exact (h.mid i hi hg).set i a'
  · exact (h.row.app i hi hr hg hv).kept ((Kps.refl (fun k => k = gO) Y').setCell rfl _) fun k hk e => by omega
theorem St.like {e sz tm gO : Nat} {w1 Y : World} {v v' : Nat → Value} {n n' : Nat → Nat} {xs xs' : Nat → List Value} (h : St e sz tm gO w1 Y v n xs) (hv : ∀ i, i < 5 → v i = v' i) (hn : ∀ i, i < 5 → n i = n' i) (hx : ∀ i, i < 5 → xs i = xs' i) : St e sz tm gO w1 Y v' n' xs' := by
  refine ⟨h.kps, ?_, ⟨fun i hi => ?_, fun i j k hi hj => ?_⟩, h.low⟩
  · have hb := h.blk
    rw [hv 0 (by decide), hv 1 (by decide), hv 2 (by decide), hv 3 (by decide), hv 4 (by decide)] at hb
    exact hb
  · rw [← hv i hi, ← hn i hi, ← hx i hi]; exact h.row.row i hi
  · rw [← hv i hi, ← hv j hj]; exact h.row.apart i j k hi hj

/-- A store into a field that holds a list of numbers. -/
theorem store_fieldZ {w : World} {ops : Array Oper} {rest : List Oper} {o : Oper} {a : Act} {Q : Exit → Act → World → Prop} (hg : o.guard = none) (hd : o.dst = none) {p v : Operand} (hop : o.op = Op.store 27 p v)
    {g i t' : Nat} {cs : Array Value} {ad : Option Addr} {n c : Nat} {u : Value} (hp : a.eval p = .pointer (some ⟨g, i, none⟩)) (hv : a.eval v = .slice ad n c) (h : Blk w g t' cs) (hi : cs[i]? = some u)
    (K : ∀ w1, w1 = w.setCell ⟨g, i, none⟩ (.slice ad n c) → wpList Tryz.prog ops Q rest a w1) : wpList Tryz.prog ops Q (o :: rest) a w :=
  store_at hg hd hop hp hv (storeZs ((h.cell i).trans hi) (h.free i)) (K _ rfl)

end Go.Proofs.YthnahalboomkoaaGreat
