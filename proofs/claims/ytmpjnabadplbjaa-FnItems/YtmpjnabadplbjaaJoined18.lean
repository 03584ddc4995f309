/-
  Texts of one's own, joined.
-/
import Derived.Test.YtmpjnabadplbjaaItemS1
import Derived.Test.YtmpjnabadplbjaaItemS2

/-
  The contracts of the specification's l17Text, ItemOk, ItemText over whole items.
  (-DROP-: what the seat lacks is left out.)
-/
namespace Go.Proofs.Ytmpjnabadplbjaa
open Go.RowKit

theorem map_range {α β : Type} (p : α → β) (z : β) : ∀ l : List α, ((List.range l.length).map fun j => (l[j]?.map p).getD z) = l.map p
  | [] => rfl
  | x :: t => by
    rw [List.length_cons, List.range_succ_eq_map, List.map_cons, List.map_map, List.map_cons, ← map_range p z t]
    rfl
theorem catN_size (r : Nat → ByteArray) (m : Nat) : ∀ k, (∀ j, j < k → (r j).size ≤ m) → (catN r k).size ≤ k * m
  | 0, _ => Nat.zero_le _
  | k + 1, h => by
    have h1 := catN_size r m k fun j hj => h j (by omega)
    have h2 := h k (by omega)
    rw [catN_next, ByteArray.size_append, Nat.succ_mul]
    omega
theorem catN_map {α : Type} (p : α → ByteArray) (l : List α) : catN (fun j => (l[j]?.map p).getD ⟨#[]⟩) l.length = catB (l.map p) := by
  unfold catN
  rw [map_range]
/-- How long a right item's text may be. -/
theorem text_size : ∀ (d e : Nat) (x : It d), e ≤ 4 → okD d e x = true → (textD d x).size ≤ 609 * 18 ^ (4 - e)
  | 0, _, x, _, _ => x.elim
  | d + 1, e, x, he, h => by
    rw [okD] at h
    rw [textD]
    have hp : 1 ≤ 18 ^ (4 - e) := Nat.pow_pos (by decide)
    cases hl : itL x
    · rw [hl] at h
      simp only [Bool.false_eq_true, if_false, Bool.and_eq_true, decide_eq_true_eq] at h
      simp only [Bool.false_eq_true, if_false]
      have h1 := headB_size (itT x).size 128
      split
      · omega
      · rw [ByteArray.size_append]
        omega
    · rw [hl] at h
      simp only [if_true, Bool.and_eq_true, decide_eq_true_eq] at h
      simp only [if_true]
      have h1 := headB_size (catB ((itK x).map (textD d))).size 192
      rw [ByteArray.size_append]
      have h2 : (catB ((itK x).map (textD d))).size ≤ (itK x).length * (609 * 18 ^ (4 - (e + 1))) := by
        rw [← catN_map]
        refine catN_size _ _ _ fun j hj => ?_
        rw [List.getElem?_eq_getElem hj]
        exact text_size d (e + 1) _ h.2.2.1 (List.all_eq_true.1 h.2.2.2 _ (List.getElem_mem hj))
      have h3 : (itK x).length * (609 * 18 ^ (4 - (e + 1))) ≤ 17 * (609 * 18 ^ (4 - (e + 1))) := Nat.mul_le_mul_right _ h.2.1
      have h4 : 18 ^ (4 - e) = 18 * 18 ^ (4 - (e + 1)) := by
        rw [show 4 - e = 4 - (e + 1) + 1 by omega, Nat.pow_succ, Nat.mul_comm]
      have h5 : 1 ≤ 18 ^ (4 - (e + 1)) := Nat.pow_pos (by decide)
      omega
theorem text_less (d e : Nat) (x : It d) (he : e ≤ 4) (h : okD d e x = true) : (textD d x).size ≤ 63930384 := by
  have h1 := text_size d e x he h
  have h2 : 18 ^ (4 - e) ≤ 18 ^ 4 := Nat.pow_le_pow_right (by decide) (by omega)
  have h3 : 609 * 18 ^ (4 - e) ≤ 609 * 18 ^ 4 := Nat.mul_le_mul_left _ h2
  omega
/-- The text of a right item. -/
theorem sText_any : ∀ (d e : Nat), e ≤ 4 → ∀ (x : It (d + 1)), okD (d + 1) e x = true → ∀ (v : Value) (w : World), KAt d w w.heap.size v (itK x) →
    Calls Try.prog 38 #[itV (itL x) (itT x) v] w fun f w' => f = .returned (.string (textD (d + 1) x)) ∧ Below w.heap.size w w'
  | 0, e, _, x, h, v, w, hK => by
    obtain ⟨a, cp, rfl, hn⟩ := hK
    have h0 := no_kids (itK x)
    rw [okD] at h
    rw [textD]
    cases hl : itL x
    · rw [hl] at h
      simp only [Bool.false_eq_true, if_false, Bool.and_eq_true, decide_eq_true_eq] at h
      exact sText_leaf _ _ (by omega) w
    · have h1 := sText_list (itT x) a 0 cp (by omega) w (fun _ => ⟨#[]⟩) (fun k hk => by rw [show k = 0 by omega]; decide) (fun j hj => absurd hj (Nat.not_lt_zero _))
      rw [h0]
      exact h1
  | d + 1, e, he, x, h, v, w, hK => by
    obtain ⟨a, cp, rfl, hn, hk⟩ := hK
    have hok := h
    rw [okD] at h
    rw [textD]
    cases hl : itL x
    · rw [hl] at h
      simp only [Bool.false_eq_true, if_false, Bool.and_eq_true, decide_eq_true_eq] at h
      exact sText_leaf _ _ (by omega) w
    · rw [hl] at h
      simp only [if_true, Bool.and_eq_true, decide_eq_true_eq] at h
      have hj : ∀ (j : Nat) (hj : j < (itK x).length), okD (d + 1) (e + 1) (itK x)[j] = true := fun j hj => List.all_eq_true.1 h.2.2.2 _ (List.getElem_mem hj)
      have h1 := sText_list (itT x) a (itK x).length cp (by omega) w (fun j => ((itK x)[j]?.map (textD (d + 1))).getD ⟨#[]⟩) (fun k hk' => by
        have h2 := catN_size (fun j => ((itK x)[j]?.map (textD (d + 1))).getD ⟨#[]⟩) 63930384 k (fun j hj2 => by
          show ((((itK x)[j]?.map (textD (d + 1))).getD ⟨#[]⟩) : ByteArray).size ≤ _
          rw [List.getElem?_eq_getElem (show j < (itK x).length by omega)]
          exact text_less _ (e + 1) _ h.2.2.1 (hj j (by omega)))
        omega) (fun j hj' => by
        obtain ⟨u, h2, h3, h4⟩ := hk j hj'
        refine ⟨_, _, u, h2, fun w' hb => ?_⟩
        show Calls _ _ _ _ fun f w'' => f = .returned (.string ((((itK x)[j]?.map (textD (d + 1))).getD ⟨#[]⟩) : ByteArray)) ∧ _
        rw [List.getElem?_eq_getElem hj']
        exact sText_any d (e + 1) h.2.2.1 _ (hj j hj') u w' ((h4.on hb).wide hb.size))
      rw [catN_map] at h1
      exact h1

end Go.Proofs.Ytmpjnabadplbjaa

/-
  The walks of the specification's ItemOk, ItemText, SameItem.
  (-DROP-: what the seat lacks is left out.)
-/
namespace Go.Proofs.Ytmpjnabadplbjaa
open Go.RowKit

/-- Whether an item is right. -/
def okI {d : Nat} (x : It d) : Bool := okD d 0 x
/-- The text of an item, if it is right and no longer than 900 bytes. -/
def textI {d : Nat} (x : It d) : ByteArray × Bool := if okI x then (if (textD d x).size ≤ 900 then (textD d x, true) else (⟨#[]⟩, false)) else (⟨#[]⟩, false)

set_option maxHeartbeats 800000 in
set_option maxRecDepth 100000 in
theorem sItemOk_any (d : Nat) (x : It (d + 1)) (v : Value) (w : World) (ht : (itT x).size ≤ 9223372036854775807) (hK : KAt d w w.heap.size v (itK x)) :
    Calls Try.prog 23 #[itV (itL x) (itT x) v] w fun f w' => f = .returned (.bool (okI x)) ∧ Below w.heap.size w w' := by
  have HC : Hid (∀ w', Below w.heap.size w w' → Calls Try.prog 47 #[.agg #[.bool (itL x), .string (itT x), v], .int .i64 0] w' fun f w'' => f = .returned (.bool (okI x)) ∧ Below w'.heap.size w' w'') := fun w' hb => sDeep_any d 0 (by omega) x v w' ht ((hK.on hb).wide hb.size)
  unfold itV
  clear ht hK
  generalize itL x = l at HC ⊢
  generalize itT x = t at HC ⊢
  generalize okI x = o at HC ⊢
  obtain ⟨W, hW, hb, hx⟩ := box1 w 26 #[.bool l, .string t, v]
  have q0 := hx.cell 0
  have q1 := hx.cell 1
  have q2 := hx.cell 2
  go_enter Try.func23, Try.ntmps23
  go_wp2_with fail
  refine (HC.out _ hb).mono ?_
  rintro f w2 ⟨rfl, hb2⟩
  have hB2 := below_then hb hb2
  clear hb hb2 hx q0 q1 q2
  go_wp2
  go_ret
  exact ⟨rfl, hB2⟩

set_option maxHeartbeats 1600000 in
set_option maxRecDepth 100000 in
theorem sItemText_any (d : Nat) (x : It (d + 1)) (v : Value) (w : World) (ht : (itT x).size ≤ 9223372036854775807) (hK : KAt d w w.heap.size v (itK x)) :
    Calls Try.prog 13 #[itV (itL x) (itT x) v] w fun f w' => f = .returned (.tuple #[.string (textI x).1, .bool (textI x).2]) ∧ Below w.heap.size w w' := by
  have HC : Hid (∀ w', Below w.heap.size w w' → Calls Try.prog 23 #[.agg #[.bool (itL x), .string (itT x), v]] w' fun f w'' => f = .returned (.bool (okI x)) ∧ Below w'.heap.size w' w'') := fun w' hb => sItemOk_any d x v w' ht ((hK.on hb).wide hb.size)
  have HT : Hid (okI x = true → ∀ w', Below w.heap.size w w' → Calls Try.prog 38 #[.agg #[.bool (itL x), .string (itT x), v]] w' fun f w'' => f = .returned (.string (textD (d + 1) x)) ∧ Below w'.heap.size w' w'') := fun ho w' hb => sText_any d 0 (by omega) x ho v w' ((hK.on hb).wide hb.size)
  have HI : Hid (textI x = if okI x then (if (textD (d + 1) x).size ≤ 900 then (textD (d + 1) x, true) else (⟨#[]⟩, false)) else (⟨#[]⟩, false)) := rfl
  unfold itV
  clear ht hK
  generalize textI x = R at HI ⊢
  generalize itL x = l at HC HT ⊢
  generalize itT x = t at HC HT ⊢
  generalize okI x = o at HC HT HI
  generalize textD (d + 1) x = T at HT HI
  obtain ⟨W, hW, hb, hx⟩ := box1 w 26 #[.bool l, .string t, v]
  have q0 := hx.cell 0
  have q1 := hx.cell 1
  have q2 := hx.cell 2
  cases o
  · have HR : Hid (R = (⟨#[]⟩, false)) := HI.out
    go_enter Try.func13, Try.ntmps13
    go_wp2_with fail
    refine (HC.out _ hb).mono ?_
    rintro f w2 ⟨rfl, hb2⟩
    have hB2 := below_then hb hb2
    clear hb hb2 hx q0 q1 q2
    go_wp2
    go_ret2
    exact ⟨by rw [HR.out]; rfl, hB2⟩
  · have HT' := HT.out rfl
    have HT2 : Hid (∀ w', Below w.heap.size w w' → Calls Try.prog 38 #[.agg #[.bool l, .string t, v]] w' fun f w'' => f = .returned (.string T) ∧ Below w'.heap.size w' w'') := HT'
    clear HT HT'
    by_cases hl : T.size ≤ 900
    · have hl' : ¬ 900 < T.size := by omega
      have HR : Hid (R = (T, true)) := by
        have h := HI.out
        rw [if_pos rfl, if_pos hl] at h
        exact h
      clear HI
      go_enter Try.func13, Try.ntmps13
      go_wp2_with fail
      refine (HC.out _ hb).mono ?_
      rintro f w2 ⟨rfl, hb2⟩
      have hB2 := below_then hb hb2
      have hx2 := hx.on hb2 hx.lt
      have p0 := hx2.cell 0
      have p1 := hx2.cell 1
      have p2 := hx2.cell 2
      clear hb hb2 hx q0 q1 q2
      go_wp2_with fail
      refine (HT2.out _ hB2).mono ?_
      rintro f w3 ⟨rfl, hb3⟩
      have hB3 := below_then hB2 hb3
      clear hB2 hb3 hx2 p0 p1 p2
      go_wp2
      go_ret2
      exact ⟨by rw [HR.out]; rfl, hB3⟩
    · have hl' : 900 < T.size := by omega
      have HR : Hid (R = (⟨#[]⟩, false)) := by
        have h := HI.out
        rw [if_pos rfl, if_neg hl] at h
        exact h
      clear HI
      go_enter Try.func13, Try.ntmps13
      go_wp2_with fail
      refine (HC.out _ hb).mono ?_
      rintro f w2 ⟨rfl, hb2⟩
      have hB2 := below_then hb hb2
      have hx2 := hx.on hb2 hx.lt
      have p0 := hx2.cell 0
      have p1 := hx2.cell 1
      have p2 := hx2.cell 2
      clear hb hb2 hx q0 q1 q2
      go_wp2_with fail
      refine (HT2.out _ hB2).mono ?_
      rintro f w3 ⟨rfl, hb3⟩
      have hB3 := below_then hB2 hb3
      clear hB2 hb3 hx2 p0 p1 p2
      go_wp2
      go_ret2
      exact ⟨by rw [HR.out]; rfl, hB3⟩

end Go.Proofs.Ytmpjnabadplbjaa
