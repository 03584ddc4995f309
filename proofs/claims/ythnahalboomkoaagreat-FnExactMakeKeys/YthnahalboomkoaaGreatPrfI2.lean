/-
  The walks of the program's sums: a point and others so often each; numbers, each so often the base.
  (-DROP-: what the seat lacks is left out.)
-/
import Derived.Test.YthnahalboomkoaaGreatJoined18
import Derived.Test.YthnahalboomkoaaGreatJoined10
import Derived.Test.YthnahalboomkoaaGreatJoined6
import Derived.Test.YthnahalboomkoaaGreatJoined8
import Derived.Test.YthnahalboomkoaaGreatPrfKeys
import Derived.Test.YthnahalboomkoaaGreatJoined16
import Derived.Maps.AppendAt

namespace Go.Proofs.YthnahalboomkoaaGreat
open Go.RowKit

/-- Numbers, each so often the base. -/
def gxL (l : List Int) : List Pt := l.map gx
theorem gxL_len (l : List Int) : (gxL l).length = l.length := by simp [gxL]
theorem gxL_at (l : List Int) {j : Nat} (h : j < l.length) : (gxL l).getD j pZ = gx (l.getD j 0) := by simp [gxL, h]
theorem gxL_next (l : List Int) {k : Nat} (h : k < l.length) : gxL (l.take (k + 1)) = gxL (l.take k) ++ [gx (l.getD k 0)] := by
  have e : l.getD k 0 = l[k] := by simp [h]
  unfold gxL
  rw [List.take_succ_eq_append_getElem h, List.map_append, e]
  rfl

set_option maxHeartbeats 1600000 in
set_option maxRecDepth 100000 in
theorem iEachB_any (am : Option Addr) (cm : Nat) (m : List Int) (hm : m.length ≤ 1000) (w : World) (hB : IntsAt w am m.length w.heap.size (fun j => m.getD j 0)) :
    Calls Tryz.prog 49 #[.slice am m.length cm] w fun e w' => ∃ v, e = .returned v ∧ RowP w.heap.size w' v (gxL m) ∧ Below w.heap.size w w' := by
  obtain ⟨i0, hi, hz0, hz1, hz2⟩ := info_parts infoPz
  have HB : Hid (IntsAt w am m.length w.heap.size (fun j => m.getD j 0)) := hB
  have HBa : Hid (∀ w, Calls Tryz.prog 20 #[] w fun e w' => e = .returned (.agg #[.int .i64 8445, .int .i64 859, .bool false]) ∧ Below w.heap.size w w') := iBase_any
  obtain ⟨ml, hml⟩ : ∃ ml, ml = m.length := ⟨_, rfl⟩
  have HM : Hid (m.length = ml) := hml.symm
  rw [← hml] at HB hm ⊢
  clear hB hml
  obtain ⟨W, hW, hb, _⟩ := box1 w 35 #[]
  have H0 : Hid (RowP w.heap.size W (.slice (some ⟨w.heap.size, 0, none⟩) 0 0) [] ∧ Below w.heap.size w W) := by
    refine ⟨?_, hb⟩
    have h := World.ownsRow_lit (base := w.heap.size) (e := 35) (size := 3) w #[] 0 (by simp) (by simp [maxLen]) (by simp)
    rw [hW] at h
    have h' : W.ownsRow w.heap.size 35 3 (.slice (some ⟨w.heap.size, 0, none⟩) 0 0) 0 [] := by simpa using h
    exact h'
  clear hb
  go_enter Tryz.func49, Tryz.ntmps49
  go_wp2
  clear hW
  go_loopw [3, 9] (fun v i wr => ∃ (u : Value) (k : Nat), u = v ∧ i = .int .i64 (k : Int) ∧ k ≤ ml ∧ wr.ownsRow w.heap.size 35 3 u (gxL (m.take k)).length (ptsV (gxL (m.take k))) ∧ Hid (Below w.heap.size w wr)) (fun _ i _ => ml - (intOf i).toNat)
  case atStart => exact ⟨_, 0, rfl, rfl, Nat.zero_le _, H0.out.1, H0.out.2⟩
  case round =>
    obtain ⟨v, k, rfl, rfl, hk, hown, HW⟩ := hrel
    clear H0
    have hlk : (gxL (m.take k)).length = k := by rw [gxL_len, List.length_take, HM.out]; omega
    by_cases hlt : k < ml
    · have hlt' : (k : Int) < (ml : Int) := by omega
      have hk0 : (0 : Int) ≤ (k : Int) := by omega
      have hm63 : (gxL (m.take k)).length + 1 ≤ maxLen := by rw [hlk]; unfold maxLen; omega
      have hm47 : ((gxL (m.take k)).length + 1) * 24 ≤ 140737488355328 := by rw [hlk]; omega
      obtain ⟨b2, o2, rfl, hb2, c2⟩ := (HB.out.on HW.out) k hlt
      replace c2 : wr.cell? ⟨b2, o2 + k, none⟩ = some (.int .i64 (m.getD k 0)) := c2
      have CT : Hid (∀ w, Calls Tryz.prog 48 #[.int .i64 (m.getD k 0), .agg #[.int .i64 8445, .int .i64 859, .bool false]] w fun e w' => e = .returned (pv (gx (m.getD k 0))) ∧ Below w.heap.size w w') := fun w => by
        have h := iTimes_any (m.getD k 0) pB w
        rw [key_times] at h
        exact h
      have HKN : Hid (gxL (m.take (k + 1)) = gxL (m.take k) ++ [gx (m.getD k 0)]) := gxL_next m (by rw [HM.out]; exact hlt)
      generalize gx (m.getD k 0) = P at CT HKN
      generalize m.getD k 0 = y at CT c2
      unfold pv at CT
      have hB0 := HW.out
      clear hlk HW
      go_wp2_with fail
      clear c2
      refine (HBa.out _).mono ?_
      rintro e w4 ⟨rfl, hb4⟩
      go_wp2_with fail
      refine (CT.out _).mono ?_
      rintro e w5 ⟨rfl, hb5⟩
      have hb45 := below_then hb4 hb5
      have hown5 := owns_on hown hb45
      have hB5 := hB0.trans (hb45.mono hB0.size)
      have hsz : w.heap.size ≤ w5.heap.size := hB5.size
      clear hown hb4 hb5 hb45 hB0 CT
      go_wp2_with (at_builtin; refine wpList_append_own_at _ rfl _ _ 36 rfl w.heap.size 35 i0 (.agg #[.int .i64 0, .int .i64 0, .bool false]) 3 24 Tryz.underlying36 hi hz0 hz1 hz2 rfl (by decide) _ _ _ rfl (hown5.alloc _) ⟨w5.heap.size, 0, none⟩ 1 1 [.int .i64 P.1, .int .i64 P.2.1, .bool P.2.2] rfl rfl (cell_three_new _ _ _ _ _) (three_cell _ _ _) hm63 hm47 (room_for hsz _) ?_)
      intro v' w7 hown' hgrow _ hat
      have R7 : w7.ownsRow w.heap.size 35 3 v' (gxL (m.take (k + 1))).length (ptsV (gxL (m.take (k + 1)))) := by
        rw [HKN.out, ptsV_append, List.length_append]; exact hown'
      have hB7 : Hid (Below w.heap.size w w7) := (hB5.alloc hB5.size _).grown hgrow (by simp; omega) (fun k hk => (hown5.lt k hk).1)
      clear hown' hgrow hat hown5 hB5 hm63 hm47 HKN
      go_wp2
      go_roundw
      case rel => exact ⟨v', k + 1, by trivial, by go_num, hlt, R7, hB7⟩
      case measure => simp [intOf]; omega
    · have hlt' : ¬ (k : Int) < (ml : Int) := by omega
      have HF : Hid (RowP w.heap.size wr v (gxL m)) := by
        show RowP _ _ _ _
        have e : m.take k = m := by rw [show k = ml by omega, ← HM.out, List.take_length]
        rw [e] at hown
        exact hown
      clear hown hlk
      go_wp2
      go_ret
      exact ⟨_, rfl, HF.out, HW.out⟩

end Go.Proofs.YthnahalboomkoaaGreat
