/-
  The walks of the specification's ItemOk, ItemText, SameItem.
  (-DROP-: what the seat lacks is left out.)
-/
import Derived.Test.YtmpjnabadplbjaaItemS3
namespace Go.Proofs.Ytmpjnabadplbjaa
open Go.RowKit

/-- Whether an item is right. -/
def okI {d : Nat} (x : It d) : Bool := okD d 0 x
/-- The text of an item, if it is right and no longer than 900 bytes. -/
def textI {d : Nat} (x : It d) : ByteArray × Bool := if okI x then (if (textD d x).size ≤ 900 then (textD d x, true) else (⟨#[]⟩, false)) else (⟨#[]⟩, false)

set_option maxHeartbeats 800000 in
set_option maxRecDepth 100000 in
theorem sItemOk_any (d : Nat) (x : It (d + 1)) (v : Value) (w : World) (ht : (itT x).size ≤ 9223372036854775807) (hK : KAt d w w.heap.size v (itK x)) :
    Calls Try.prog 23 #[itV (itL x) (itT x) v] w fun f w' => f = .returned (.bool (okI x)) ∧ Below w.heap.size w w' := by
  have HC : Hid (∀ w', Below w.heap.size w w' → Calls Try.prog 47 #[.agg #[.bool (itL x), .string (itT x), v], .int .i64 0] w' fun f w'' => f = .returned (.bool (okI x)) ∧ Below w'.heap.size w' w'') := fun w' hb => sDeep_any d 0 (by omega) x v w' ht ((hK.on hb).wide hb.size)
  unfold itV
  clear ht hK
  generalize itL x = l at HC ⊢
  generalize itT x = t at HC ⊢
  generalize okI x = o at HC ⊢
  obtain ⟨W, hW, hb, hx⟩ := box1 w 26 #[.bool l, .string t, v]
  have q0 := hx.cell 0
  have q1 := hx.cell 1
  have q2 := hx.cell 2
  go_enter Try.func23, Try.ntmps23
  go_wp2_with fail
  refine (HC.out _ hb).mono ?_
  rintro f w2 ⟨rfl, hb2⟩
  have hB2 := below_then hb hb2
  clear hb hb2 hx q0 q1 q2
  go_wp2
  go_ret
  exact ⟨rfl, hB2⟩

set_option maxHeartbeats 1600000 in
set_option maxRecDepth 100000 in
theorem sItemText_any (d : Nat) (x : It (d + 1)) (v : Value) (w : World) (ht : (itT x).size ≤ 9223372036854775807) (hK : KAt d w w.heap.size v (itK x)) :
    Calls Try.prog 13 #[itV (itL x) (itT x) v] w fun f w' => f = .returned (.tuple #[.string (textI x).1, .bool (textI x).2]) ∧ Below w.heap.size w w' := by
  have HC : Hid (∀ w', Below w.heap.size w w' → Calls Try.prog 23 #[.agg #[.bool (itL x), .string (itT x), v]] w' fun f w'' => f = .returned (.bool (okI x)) ∧ Below w'.heap.size w' w'') := fun w' hb => sItemOk_any d x v w' ht ((hK.on hb).wide hb.size)
  have HT : Hid (okI x = true → ∀ w', Below w.heap.size w w' → Calls Try.prog 38 #[.agg #[.bool (itL x), .string (itT x), v]] w' fun f w'' => f = .returned (.string (textD (d + 1) x)) ∧ Below w'.heap.size w' w'') := fun ho w' hb => sText_any d 0 (by omega) x ho v w' ((hK.on hb).wide hb.size)
  have HI : Hid (textI x = if okI x then (if (textD (d + 1) x).size ≤ 900 then (textD (d + 1) x, true) else (⟨#[]⟩, false)) else (⟨#[]⟩, false)) := rfl
  unfold itV
  clear ht hK
  generalize textI x = R at HI ⊢
  generalize itL x = l at HC HT ⊢
  generalize itT x = t at HC HT ⊢
  generalize okI x = o at HC HT HI
  generalize textD (d + 1) x = T at HT HI
  obtain ⟨W, hW, hb, hx⟩ := box1 w 26 #[.bool l, .string t, v]
  have q0 := hx.cell 0
  have q1 := hx.cell 1
  have q2 := hx.cell 2
  cases o
  · have HR : Hid (R = (⟨#[]⟩, false)) := HI.out
    go_enter Try.func13, Try.ntmps13
    go_wp2_with fail
    refine (HC.out _ hb).mono ?_
    rintro f w2 ⟨rfl, hb2⟩
    have hB2 := below_then hb hb2
    clear hb hb2 hx q0 q1 q2
    go_wp2
    go_ret2
    exact ⟨by rw [HR.out]; rfl, hB2⟩
  · have HT' := HT.out rfl
    have HT2 : Hid (∀ w', Below w.heap.size w w' → Calls Try.prog 38 #[.agg #[.bool l, .string t, v]] w' fun f w'' => f = .returned (.string T) ∧ Below w'.heap.size w' w'') := HT'
    clear HT HT'
    by_cases hl : T.size ≤ 900
    · have hl' : ¬ 900 < T.size := by omega
      have HR : Hid (R = (T, true)) := by
        have h := HI.out
        rw [if_pos rfl, if_pos hl] at h
        exact h
      clear HI
      go_enter Try.func13, Try.ntmps13
      go_wp2_with fail
      refine (HC.out _ hb).mono ?_
      rintro f w2 ⟨rfl, hb2⟩
      have hB2 := below_then hb hb2
      have hx2 := hx.on hb2 hx.lt
      have p0 := hx2.cell 0
      have p1 := hx2.cell 1
      have p2 := hx2.cell 2
      clear hb hb2 hx q0 q1 q2
      go_wp2_with fail
      refine (HT2.out _ hB2).mono ?_
      rintro f w3 ⟨rfl, hb3⟩
      have hB3 := below_then hB2 hb3
      clear hB2 hb3 hx2 p0 p1 p2
      go_wp2
      go_ret2
      exact ⟨by rw [HR.out]; rfl, hB3⟩
    · have hl' : 900 < T.size := by omega
      have HR : Hid (R = (⟨#[]⟩, false)) := by
        have h := HI.out
        rw [if_pos rfl, if_neg hl] at h
        exact h
      clear HI
      go_enter Try.func13, Try.ntmps13
      go_wp2_with fail
      refine (HC.out _ hb).mono ?_
      rintro f w2 ⟨rfl, hb2⟩
      have hB2 := below_then hb hb2
      have hx2 := hx.on hb2 hx.lt
      have p0 := hx2.cell 0
      have p1 := hx2.cell 1
      have p2 := hx2.cell 2
      clear hb hb2 hx q0 q1 q2
      go_wp2_with fail
      refine (HT2.out _ hB2).mono ?_
      rintro f w3 ⟨rfl, hb3⟩
      have hB3 := below_then hB2 hb3
      clear hB2 hb3 hx2 p0 p1 p2
      go_wp2
      go_ret2
      exact ⟨by rw [HR.out]; rfl, hB3⟩

end Go.Proofs.Ytmpjnabadplbjaa
