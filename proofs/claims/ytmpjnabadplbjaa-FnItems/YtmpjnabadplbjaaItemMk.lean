/-
  The walks of the helpers of the exact laws on items: marks.
  (-DROP-: what the seat lacks is left out.)
-/
import Derived.Test.YtmpjnabadplbjaaFormMem
import Derived.Test.YtmpjnabadplbjaaMkText
namespace Go.Proofs.Ytmpjnabadplbjaa
open Go.RowKit

/-- How many items there are. -/
def cntD : (d : Nat) → It d → Nat
  | 0, x => x.elim
  | d + 1, x => 1 + ((itK x).map (cntD d)).sum
/-- One mark behind the other. -/
def mkL {α β : Type} (f : Nat → α → β) (c : α → Nat) : Nat → List α → List β
  | _, [] => []
  | k, x :: l => f k x :: mkL f c (k + 2 * c x) l
/-- A marked item. -/
def mkD : (d : Nat) → Nat → It d → It d
  | 0, _, x => x.elim
  | d + 1, k, x => (decide (k % 3 = 0), mt (k + 1), mkL (mkD d) (cntD d) (k + 2) (itK x))

theorem mkL_len {α β : Type} (f : Nat → α → β) (c : α → Nat) : ∀ (k : Nat) (l : List α), (mkL f c k l).length = l.length
  | _, [] => rfl
  | k, x :: l => by rw [mkL, List.length_cons, List.length_cons, mkL_len f c _ l]
theorem mkL_snoc {α β : Type} (f : Nat → α → β) (c : α → Nat) : ∀ (k : Nat) (l : List α) (x : α), mkL f c k (l ++ [x]) = mkL f c k l ++ [f (k + 2 * (l.map c).sum) x]
  | k, [], x => by simp [mkL]
  | k, y :: l, x => by
    rw [List.cons_append, mkL, mkL, mkL_snoc f c _ l x, List.cons_append, List.map_cons, List.sum_cons, Nat.mul_add, Nat.add_assoc]
theorem sum_snoc {α : Type} (c : α → Nat) (l : List α) (x : α) : ((l ++ [x]).map c).sum = (l.map c).sum + c x := by simp
theorem sum_take {α : Type} (c : α → Nat) (l : List α) (j : Nat) (h : j < l.length) : ((l.take (j + 1)).map c).sum = ((l.take j).map c).sum + c l[j] := by
  rw [List.take_succ_eq_append_getElem h, sum_snoc]
theorem sum_part {α : Type} (c : α → Nat) (l : List α) (j : Nat) : ((l.take j).map c).sum ≤ (l.map c).sum := by
  conv => rhs; rw [← List.take_append_drop j l]
  rw [List.map_append, List.sum_append]
  omega
theorem sum_ge {α : Type} (c : α → Nat) (l : List α) (h : ∀ x, 1 ≤ c x) : l.length ≤ (l.map c).sum := by
  induction l with
  | nil => exact Nat.zero_le _
  | cons x l ih => have := h x; rw [List.length_cons, List.map_cons, List.sum_cons]; omega
theorem cnt_pos : ∀ (d : Nat) (x : It d), 1 ≤ cntD d x
  | 0, x => x.elim
  | d + 1, x => by rw [cntD]; omega
/-- So far marked. -/
def mkT {α : Type} (f : Nat → α → α) (c : α → Nat) (k : Nat) (l : List α) (j : Nat) : List α := mkL f c k (l.take j) ++ l.drop j
theorem mkT_len {α : Type} (f : Nat → α → α) (c : α → Nat) (k : Nat) (l : List α) (j : Nat) (h : j ≤ l.length) : (mkT f c k l j).length = l.length := by
  rw [mkT, List.length_append, mkL_len, List.length_take, List.length_drop]; omega
theorem mkT_at {α : Type} (f : Nat → α → α) (c : α → Nat) (k : Nat) (l : List α) (j : Nat) (h : j < l.length) : (mkT f c k l j)[j]? = some l[j] := by
  rw [mkT, List.getElem?_append_right (by rw [mkL_len, List.length_take]; omega), mkL_len, List.length_take, Nat.min_eq_left (by omega), Nat.sub_self, List.getElem?_drop, Nat.add_zero, List.getElem?_eq_getElem h]
theorem mkT_next {α : Type} (f : Nat → α → α) (c : α → Nat) (k : Nat) (l : List α) (j : Nat) (h : j < l.length) : (mkT f c k l j).set j (f (k + 2 * ((l.take j).map c).sum) l[j]) = mkT f c k l (j + 1) := by
  rw [mkT, mkT, List.take_succ_eq_append_getElem h, mkL_snoc, List.drop_eq_getElem_cons h, List.append_assoc]
  rw [List.set_append_right _ _ (by rw [mkL_len, List.length_take]; omega), mkL_len, List.length_take, Nat.min_eq_left (by omega), Nat.sub_self]
  rfl
theorem mkT_zero {α : Type} (f : Nat → α → α) (c : α → Nat) (k : Nat) (l : List α) : mkT f c k l 0 = l := rfl
theorem mkT_end {α : Type} (f : Nat → α → α) (c : α → Nat) (k : Nat) (l : List α) : mkT f c k l l.length = mkL f c k l := by
  rw [mkT, List.take_of_length_le (Nat.le_refl _), List.drop_length, List.append_nil]

/-- A list of kids laid open: its cells, and which blocks belong to each. -/
structure TOp (d : Nat) (S : Nat → Prop) (w : World) (v : Value) (K : List (It (d + 1))) (vs : List Value) (F : Nat → Nat → Prop) : Prop where
  few : K.length ≤ 1000000
  row : w.ownsRow 0 26 3 v K.length vs
  own : ∀ g, v.ownBlock = some g → S g
  apart : ∀ i j b, F i b → F j b → i = j
  range : ∀ j b, F j b → S b ∧ v.ownBlock ≠ some b
  each : ∀ (j : Nat) (h : j < K.length), vs.getD (j * 3) undef = .bool (itL K[j]) ∧ vs.getD (j * 3 + 1) undef = .string (itT K[j]) ∧ (itT K[j]).size ≤ 1000000 ∧ TO d (F j) w (vs.getD (j * 3 + 2) undef) (itK K[j])
theorem TO.open {d : Nat} {S : Nat → Prop} {w : World} {v : Value} {K : List (It (d + 1))} (h : TO (d + 1) S w v K) : ∃ vs F, TOp d S w v K vs F := by
  obtain ⟨h1, vs, h2, h3, F, h4, h5, h6⟩ := h
  exact ⟨vs, F, h1, h2, h3, h4, h5, h6⟩
theorem TOp.shut {d : Nat} {S : Nat → Prop} {w : World} {v : Value} {K : List (It (d + 1))} {vs : List Value} {F : Nat → Nat → Prop} (h : TOp d S w v K vs F) : TO (d + 1) S w v K :=
  ⟨h.few, vs, h.row, h.own, F, h.apart, h.range, h.each⟩
/-- Another item at j. -/
theorem TOp.put {d : Nat} {S : Nat → Prop} {w w' : World} {v : Value} {K : List (It (d + 1))} {vs : List Value} {F : Nat → Nat → Prop} (h : TOp d S w v K vs F) {j : Nat} (hj : j < K.length) (y : It (d + 1))
    (hr : w'.ownsRow 0 26 3 v K.length ((vs.set (j * 3) (.bool (itL y))).set (j * 3 + 1) (.string (itT y)))) (ht : (itT y).size ≤ 1000000)
    (hk : ∀ b, S b → v.ownBlock ≠ some b → ¬ F j b → w'.heap[b]? = w.heap[b]?) (hy : TO d (F j) w' (vs.getD (j * 3 + 2) undef) (itK y)) : TOp d S w' v (K.set j y) ((vs.set (j * 3) (.bool (itL y))).set (j * 3 + 1) (.string (itT y))) F := by
  have hl := h.row.1
  refine ⟨by rw [List.length_set]; exact h.few, by rw [List.length_set]; exact hr, h.own, h.apart, h.range, fun i hi => ?_⟩
  rw [List.length_set] at hi
  by_cases hij : j = i
  · subst hij
    have e : (K.set j y)[j]'(by rw [List.length_set]; exact hi) = y := by simp
    rw [e]
    refine ⟨?_, ?_, ht, ?_⟩
    · rw [List.getD_eq_getElem?_getD, List.getElem?_set_ne (by omega), List.getElem?_set_self (by omega)]; rfl
    · rw [List.getD_eq_getElem?_getD, List.getElem?_set_self (by rw [List.length_set]; omega)]; rfl
    · rw [List.getD_eq_getElem?_getD, List.getElem?_set_ne (by omega), List.getElem?_set_ne (by omega), ← List.getD_eq_getElem?_getD]; exact hy
  · have e : (K.set j y)[i]'(by rw [List.length_set]; exact hi) = K[i] := by rw [List.getElem_set_ne hij]
    rw [e]
    obtain ⟨k1, k2, k3, k4⟩ := h.each i hi
    refine ⟨?_, ?_, k3, ?_⟩
    · rw [List.getD_eq_getElem?_getD, List.getElem?_set_ne (by omega), List.getElem?_set_ne (by omega), ← List.getD_eq_getElem?_getD]; exact k1
    · rw [List.getD_eq_getElem?_getD, List.getElem?_set_ne (by omega), List.getElem?_set_ne (by omega), ← List.getD_eq_getElem?_getD]; exact k2
    · rw [List.getD_eq_getElem?_getD, List.getElem?_set_ne (by omega), List.getElem?_set_ne (by omega), ← List.getD_eq_getElem?_getD]
      exact k4.kept fun b hb => hk b (h.range i b hb).1 (h.range i b hb).2 fun hf => hij (h.apart j i b hf hb)
theorem TOp.cell {d : Nat} {S : Nat → Prop} {w : World} {g cp n : Nat} {K : List (It (d + 1))} {vs : List Value} {F : Nat → Nat → Prop} (h : TOp d S w (.slice (some ⟨g, 0, none⟩) n cp) K vs F) (hn : n = K.length) {i : Nat} (hi : i < K.length * 3) : w.cell? ⟨g, i, none⟩ = some (vs.getD i undef) := by
  subst hn
  have hl := h.row.1
  rw [World.ownsRow.cellAt h.row i hi, List.getElem?_eq_getElem (by omega)]
  simp [show i < vs.length by omega]

set_option maxHeartbeats 800000 in
set_option maxRecDepth 100000 in
theorem mark_none (a : Option Addr) (cp k : Nat) (w : World) :
    Calls Try.prog 53 #[.slice a 0 cp, .int .i64 (k : Int)] w fun e w' => e = .returned (.int .i64 (k : Int)) ∧ w = w' := by
  go_enter Try.func53, Try.ntmps53
  go_wp2
  go_loopw [1, 5] (fun x i wr => x = .int .i64 (k : Int) ∧ i = .int .i64 0 ∧ w = wr) (fun _ _ _ => 0)
  case atStart => exact ⟨rfl, rfl, rfl⟩
  case round =>
    obtain ⟨rfl, rfl, rfl⟩ := hrel
    go_wp2
    go_ret
    exact ⟨rfl, rfl⟩

/-- What stands at the loop's head. -/
structure MkInv (d : Nat) (S : Nat → Prop) (w : World) (v : Value) (K : List (It (d + 1))) (k j m : Nat) (wr : World) : Prop where
  sum : m = k + 2 * ((K.take j).map (cntD (d + 1))).sum
  own : TO (d + 1) S wr v (mkT (mkD (d + 1)) (cntD (d + 1)) k K j)
  kept : Kps S w wr

set_option maxHeartbeats 3200000 in
set_option maxRecDepth 100000 in
theorem mark_kids (d : Nat) (S : Nat → Prop) (a : Option Addr) (cp : Nat) (K : List (It (d + 1))) (k : Nat) (hkb : k + 2 * (K.map (cntD (d + 1))).sum ≤ 1000000) (w : World) (hS : ∀ b, S b → b < w.heap.size) (h : TO (d + 1) S w (.slice a K.length cp) K)
    (hR : ∀ (S : Nat → Prop) (v : Value) (K : List (It d)) (k : Nat) (w : World), k + 2 * (K.map (cntD d)).sum ≤ 1000000 → (∀ b, S b → b < w.heap.size) → TO d S w v K → Calls Try.prog 53 #[v, .int .i64 (k : Int)] w fun e w' => e = .returned (.int .i64 ((k + 2 * (K.map (cntD d)).sum : Nat) : Int)) ∧ TO d S w' v (mkL (mkD d) (cntD d) k K) ∧ Kps S w w') :
    Calls Try.prog 53 #[.slice a K.length cp, .int .i64 (k : Int)] w fun e w' => e = .returned (.int .i64 ((k + 2 * (K.map (cntD (d + 1))).sum : Nat) : Int)) ∧ TO (d + 1) S w' (.slice a K.length cp) (mkL (mkD (d + 1)) (cntD (d + 1)) k K) ∧ Kps S w w' := by
  have HR : Hid (∀ (S : Nat → Prop) (v : Value) (K : List (It d)) (k : Nat) (w : World), k + 2 * (K.map (cntD d)).sum ≤ 1000000 → (∀ b, S b → b < w.heap.size) → TO d S w v K → Calls Try.prog 53 #[v, .int .i64 (k : Int)] w fun e w' => e = .returned (.int .i64 ((k + 2 * (K.map (cntD d)).sum : Nat) : Int)) ∧ TO d S w' v (mkL (mkD d) (cntD d) k K) ∧ Kps S w w') := hR
  have HS : Hid (∀ b, S b → b < w.heap.size) := hS
  have HB : Hid (k + 2 * (K.map (cntD (d + 1))).sum ≤ 1000000) := hkb
  have hlen : K.length ≤ 1000000 := h.len
  have H0 : Hid (MkInv d S w (.slice a K.length cp) K k 0 k w) := ⟨by simp, h, Kps.refl _ _⟩
  obtain ⟨N, hN⟩ : ∃ N, k + 2 * (K.map (cntD (d + 1))).sum = N := ⟨_, rfl⟩
  rw [hN]
  have HNe : Hid (k + 2 * (K.map (cntD (d + 1))).sum = N) := hN
  clear hR hS hkb h hN
  go_enter Try.func53, Try.ntmps53
  go_wp2
  go_loopw [1, 5] (fun x i wr => ∃ (m j : Nat), x = .int .i64 (m : Int) ∧ i = .int .i64 (j : Int) ∧ j ≤ K.length ∧ Hid (MkInv d S w (.slice a K.length cp) K k j m wr)) (fun _ i _ => K.length - (intOf i).toNat)
  case atStart => exact ⟨k, 0, rfl, rfl, Nat.zero_le _, H0⟩
  case round =>
    obtain ⟨m, j, rfl, rfl, hj, HI⟩ := hrel
    clear H0
    have hmb : m ≤ 1000000 := by have h1 := HI.out.sum; have h2 := sum_part (cntD (d + 1)) K j; have h3 := HB.out; omega
    by_cases hlt : j < K.length
    · have hk0 : (0 : Int) ≤ (j : Int) := by omega
      have hk1 : (j : Int) < (K.length : Int) := by omega
      have hTl := mkT_len (mkD (d + 1)) (cntD (d + 1)) k K j (by omega)
      have hTa := mkT_at (mkD (d + 1)) (cntD (d + 1)) k K j hlt
      have hTn := mkT_next (mkD (d + 1)) (cntD (d + 1)) k K j hlt
      rw [← HI.out.sum] at hTn
      have hSm := sum_take (cntD (d + 1)) K j hlt
      have hSp := sum_part (cntD (d + 1)) K (j + 1)
      obtain ⟨x, hx⟩ : ∃ x, K[j] = x := ⟨_, rfl⟩
      rw [hx] at hTa hTn hSm
      have hop := HI.out.own
      have HP : Hid (m = k + 2 * ((K.take j).map (cntD (d + 1))).sum ∧ Kps S w wr) := ⟨HI.out.sum, HI.out.kept⟩
      generalize mkT (mkD (d + 1)) (cntD (d + 1)) k K j = L at hTl hTa hTn hop
      have HN : Hid (L.set j (mkD (d + 1) m x) = mkT (mkD (d + 1)) (cntD (d + 1)) k K (j + 1)) := hTn
      obtain ⟨vs, F, hO⟩ := hop.open
      rcases hO.row.2 with ⟨_, hz0⟩ | ⟨g, cap, cur, hveq, hg, _⟩
      · omega
      · have hra : a = some ⟨g, 0, none⟩ := by injection hveq
        subst hra
        clear hveq hop HI hTn
        have hLx : L[j]'(by omega) = x := by
          rw [List.getElem?_eq_getElem (by omega)] at hTa
          injection hTa
        obtain ⟨k1, k2, k3, k4⟩ := hO.each j (by omega)
        rw [hLx] at k1 k2 k3 k4
        have hvl : vs.length = L.length * 3 := hO.row.1
        have hsz : ∀ b, S b → b < wr.heap.size := fun b hb => by have h1 := HS.out b hb; have h2 := HP.out.2.size; omega
        have hSg : S g := hO.own g rfl
        have hgs := hsz g hSg
        have q0 := hO.cell hTl.symm (i := j * 3) (by omega)
        rw [k1] at q0
        have q1 := hO.cell hTl.symm (i := j * 3 + 1) (by omega)
        rw [k2] at q1
        have q2 := hO.cell hTl.symm (i := j * 3 + 2) (by omega)
        have hrow := hO.row
        rw [hTl] at hrow
        have f0 := hrow.frozenAt (j * 3)
        have hbit : ((m : Int) % 3 == 0) = decide (m % 3 = 0) := by
          rw [Bool.eq_iff_iff, beq_iff_eq, decide_eq_true_iff]
          omega
        obtain ⟨u, hu⟩ : ∃ u, vs.getD (j * 3 + 2) undef = u := ⟨_, rfl⟩
        rw [hu] at q2 k4
        have HM : Hid (∀ w, Calls Try.prog 63 #[.int .i64 ((m : Int) + 1)] w fun e w' => e = .returned (.string (mt (m + 1))) ∧ Below w.heap.size w w') := fun w => by
          have h1 := markText_any (m + 1) (by omega) (by omega) w
          rw [show (((m + 1 : Nat) : Int)) = (m : Int) + 1 by omega] at h1
          exact h1
        have HMs : Hid ((mt (m + 1)).size ≤ 1000000) := mt_size (m + 1)
        have HY : Hid (itL (mkD (d + 1) m x) = decide (m % 3 = 0) ∧ itT (mkD (d + 1) m x) = mt (m + 1) ∧ itK (mkD (d + 1) m x) = mkL (mkD d) (cntD d) (m + 2) (itK x) ∧ cntD (d + 1) x = 1 + ((itK x).map (cntD d)).sum) := ⟨rfl, rfl, rfl, by rw [cntD]⟩
        have HRm : Hid (∀ w', Kps (fun b => b = g) wr w' → Calls Try.prog 53 #[u, .int .i64 ((m : Int) + 1 + 1)] w' fun e w'' => e = .returned (.int .i64 ((m + 2 + 2 * ((itK x).map (cntD d)).sum : Nat) : Int)) ∧ TO d (F j) w'' u (mkL (mkD d) (cntD d) (m + 2) (itK x)) ∧ Kps (F j) w' w'') := fun w' hw => by
          have h1 := HR.out (F j) u (itK x) (m + 2) w' (by have h2 := HP.out.1; have h3 := HB.out; have h4 := HY.out.2.2.2; omega) (fun b hb => by have h2 := hsz b (hO.range j b hb).1; have h3 := hw.size; omega) (k4.kept fun b hb => hw.block b (hsz b (hO.range j b hb).1) (fun e => (hO.range j b hb).2 (by rw [e]; rfl)))
          rw [show (((m + 2 : Nat) : Int)) = (m : Int) + 1 + 1 by omega] at h1
          exact h1
        have HO : Hid (TOp d S wr (.slice (some ⟨g, 0, none⟩) K.length cp) L vs F ∧ L.length = K.length ∧ vs.length = L.length * 3 ∧ vs.getD (j * 3 + 2) undef = u ∧ vs.getD (j * 3 + 1) undef = .string (itT x)) := ⟨hO, hTl, hvl, hu, k2⟩
        have HSm : Hid (((K.take (j + 1)).map (cntD (d + 1))).sum = ((K.take j).map (cntD (d + 1))).sum + cntD (d + 1) x) := hSm
        have hj3 : j < L.length := by omega
        clear k1 k2 k3 k4 hu hsz hTa hTl hLx hSm hSp hx hvl hO
        generalize mkD (d + 1) m x = y at HN HY
        generalize mt (m + 1) = mm at HM HMs HY
        generalize decide (m % 3 = 0) = bz at hbit HY
        generalize itT x = tx at q1 HO
        go_wp2_with fail
        refine (HM.out _).mono ?_
        rintro e w2 ⟨rfl, hb2⟩
        have K2 : Kps (fun b => b = g) wr w2 := (Kps.setCell (S := fun b => b = g) (Kps.refl _ wr) (p := ⟨g, j * 3, none⟩) rfl (.bool bz)).trans (.of_below hb2)
        have r2 := owns_on (hrow.stored (j * 3) (.bool bz)).1 hb2
        have p1 : w2.cell? ⟨g, j * 3 + 1, none⟩ = some (.string tx) := by
          have h1 := HO.out.2.1
          have h2 := HO.out.2.2.1
          have h3 := HO.out.2.2.2.2
          rw [r2.cellAt (j * 3 + 1) (by omega), List.getElem?_set_ne (by omega), List.getElem?_eq_getElem (by omega)]
          rw [List.getD_eq_getElem?_getD, List.getElem?_eq_getElem (by omega)] at h3
          exact congrArg some h3
        have g1 := r2.frozenAt (j * 3 + 1)
        have r3 := (r2.stored (j * 3 + 1) (.string mm)).1
        have K3 : Kps (fun b => b = g) wr (w2.setCell ⟨g, j * 3 + 1, none⟩ (.string mm)) := K2.setCell (p := ⟨g, j * 3 + 1, none⟩) rfl _
        have p2 : (w2.setCell ⟨g, j * 3 + 1, none⟩ (.string mm)).cell? ⟨g, j * 3 + 2, none⟩ = some u := by
          have h1 := HO.out.2.1
          have h2 := HO.out.2.2.1
          have h3 := HO.out.2.2.2.1
          rw [r3.cellAt (j * 3 + 2) (by omega), List.getElem?_set_ne (by omega), List.getElem?_set_ne (by omega), List.getElem?_eq_getElem (by omega)]
          rw [List.getD_eq_getElem?_getD, List.getElem?_eq_getElem (by omega)] at h3
          exact congrArg some h3
        have HR3 : Hid ((w2.setCell ⟨g, j * 3 + 1, none⟩ (.string mm)).ownsRow 0 26 3 (.slice (some ⟨g, 0, none⟩) K.length cp) K.length ((vs.set (j * 3) (.bool bz)).set (j * 3 + 1) (.string mm))) := r3
        clear K2 r2 r3 hb2 q0 q1 q2 f0 hrow
        go_wp2_with fail
        refine (HRm.out _ K3).mono ?_
        rintro e w4 ⟨rfl, hto, hk4⟩
        have hput : TOp d S w4 (.slice (some ⟨g, 0, none⟩) K.length cp) (L.set j y) _ F := HO.out.1.put (w' := w4) hj3 y (by rw [HY.out.1, HY.out.2.1, HO.out.2.1]; exact hk4.row HR3.out (fun b hb hf => (HO.out.1.range j b hf).2 hb)) (by rw [HY.out.2.1]; exact HMs.out)
          (fun b hb h1 h2 => (hk4.block b (by have h3 := HS.out b hb; have h4 := HP.out.2.size; have h5 := K3.size; omega) h2).trans (K3.block b (by have h3 := HS.out b hb; have h4 := HP.out.2.size; omega) fun e => h1 (by rw [e]; rfl))) (by rw [HY.out.2.2.1, HO.out.2.2.2.1]; exact hto)
        have HI2 : Hid (MkInv d S w (.slice (some ⟨g, 0, none⟩) K.length cp) K k (j + 1) (m + 2 + 2 * ((itK x).map (cntD d)).sum) w4) := ⟨by have h1 := HP.out.1; have h2 := HSm.out; have h3 := HY.out.2.2.2; omega, by rw [← HN.out]; exact hput.shut, (HP.out.2.trans (K3.more fun b hb => by rw [hb]; exact hSg)).trans (hk4.more fun b hb => (HO.out.1.range j b hb).1)⟩
        generalize m + 2 + 2 * ((itK x).map (cntD d)).sum = m2 at HI2 ⊢
        clear hput hto hk4 K3 p1 p2 g1 HR3 HO HY HN HM HMs HRm HP
        go_wp2
        go_roundw
        case rel => exact ⟨m2, j + 1, rfl, by go_num, hlt, HI2⟩
        case measure => simp [intOf]; omega
    · obtain rfl : j = K.length := by omega
      have hlt' : ¬ (K.length : Int) < (K.length : Int) := by omega
      have hop := HI.out.own
      rw [mkT_end] at hop
      have hm := HI.out.sum
      rw [List.take_of_length_le (Nat.le_refl _)] at hm
      have HE : Hid (TO (d + 1) S wr (.slice a K.length cp) (mkL (mkD (d + 1)) (cntD (d + 1)) k K) ∧ m = N ∧ Kps S w wr) := ⟨hop, hm.trans HNe.out, HI.out.kept⟩
      clear hop hm HI
      go_wp2
      go_ret
      exact ⟨by rw [← HE.out.2.1]; rfl, HE.out.1, HE.out.2.2⟩

/-- All kids are given marks. -/
theorem markS_any : ∀ (d : Nat) (S : Nat → Prop) (v : Value) (K : List (It d)) (k : Nat) (w : World), k + 2 * (K.map (cntD d)).sum ≤ 1000000 → (∀ b, S b → b < w.heap.size) → TO d S w v K →
    Calls Try.prog 53 #[v, .int .i64 (k : Int)] w fun e w' => e = .returned (.int .i64 ((k + 2 * (K.map (cntD d)).sum : Nat) : Int)) ∧ TO d S w' v (mkL (mkD d) (cntD d) k K) ∧ Kps S w w'
  | 0, S, v, K, k, w, hk, hS, h => by
    obtain rfl := no_kids K
    obtain ⟨a, cp, rfl⟩ := h
    refine (mark_none a cp k w).mono ?_
    rintro e w' ⟨rfl, rfl⟩
    exact ⟨rfl, ⟨a, cp, rfl⟩, Kps.refl _ _⟩
  | d + 1, S, v, K, k, w, hk, hS, h => by
    obtain ⟨a, cp, rfl⟩ := h.slice
    exact mark_kids d S a cp K k hk w hS h (markS_any d)

set_option maxHeartbeats 800000 in
set_option maxRecDepth 100000 in
/-- All of an item that is memory is given marks. -/
theorem markI_any (d : Nat) (S : Nat → Prop) (l : Bool) (t : ByteArray) (v : Value) (K : List (It d)) (k : Nat) (w : World) (hk : k + 2 * (K.map (cntD d)).sum ≤ 1000000) (hS : ∀ b, S b → b < w.heap.size) (h : TO d S w v K) :
    Calls Try.prog 30 #[itV l t v, .int .i64 (k : Int)] w fun e w' => e = .returned (.int .i64 ((k + 2 * (K.map (cntD d)).sum : Nat) : Int)) ∧ TO d S w' v (mkL (mkD d) (cntD d) k K) ∧ Kps S w w' := by
  obtain ⟨W, hW, hb, hx⟩ := box1 w 26 #[.bool l, .string t, v]
  have q0 := hx.cell 0
  have q1 := hx.cell 1
  have q2 := hx.cell 2
  have HC : Hid (Calls Try.prog 53 #[v, .int .i64 (k : Int)] W fun e w' => e = .returned (.int .i64 ((k + 2 * (K.map (cntD d)).sum : Nat) : Int)) ∧ TO d S w' v (mkL (mkD d) (cntD d) k K) ∧ Kps S W w') := markS_any d S v K k W hk (fun b hb2 => by have h1 := hS b hb2; have h2 := hb.size; omega) (h.kept fun b hb2 => hb.block b (hS b hb2))
  have HB : Hid (Below w.heap.size w W) := hb
  obtain ⟨a, cp, rfl⟩ := h.slice
  generalize k + 2 * (K.map (cntD d)).sum = m at HC ⊢
  generalize mkL (mkD d) (cntD d) k K = L at HC ⊢
  unfold itV
  clear hb hx hS h hk
  go_enter Try.func30, Try.ntmps30
  go_wp2_with fail
  refine HC.out.mono ?_
  rintro e w2 ⟨rfl, hto, hk2⟩
  clear q0 q1 q2
  go_wp2
  go_ret
  exact ⟨rfl, hto, (Kps.of_below HB.out).trans hk2⟩

end Go.Proofs.Ytmpjnabadplbjaa
