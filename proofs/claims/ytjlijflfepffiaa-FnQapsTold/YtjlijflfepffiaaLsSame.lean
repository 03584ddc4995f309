/-
  The walk of the helper of the laws that holds two lists of lists of numbers against one another.
  (-DROP-: what the seat lacks is left out.)
-/
import Derived.Test.YtjlijflfepffiaaJoined22
import Derived.Test.YtjlijflfepffiaaJoined5
import Derived.Test.YtjlijflfepffiaaJoined10

namespace Go.Proofs.Ytjlijflfepffiaa
open Go.RowKit

set_option maxHeartbeats 1600000 in
set_option maxRecDepth 100000 in
theorem sameLs_any (v u : Value) (n : Nat) (L : List (List Int)) (hn : n ≤ 1048576) (hz : ∀ j, (L.getD j []).length ≤ 1048576) (w : World) (h : NAt 1 w w.heap.size v n L) (h2 : NAt 1 w w.heap.size u n L) :
    Calls Try.prog 24 #[v, u] w fun e w' => e = .returned (.bool true) ∧ Below w.heap.size w w' := by
  obtain ⟨_, a, cp, rfl, hA⟩ := h
  obtain ⟨_, b, cq, rfl, hB⟩ := h2
  have HA : Hid (∀ j, j < n * 1 → ∃ b off u, a = some ⟨b, off, none⟩ ∧ b < w.heap.size ∧ w.cell? ⟨b, off + j, none⟩ = some u ∧ ZAt w w.heap.size u (L.getD j [])) := hA
  have HB : Hid (∀ j, j < n * 1 → ∃ b' off u, b = some ⟨b', off, none⟩ ∧ b' < w.heap.size ∧ w.cell? ⟨b', off + j, none⟩ = some u ∧ ZAt w w.heap.size u (L.getD j [])) := hB
  have HZ : Hid (∀ j, (L.getD j []).length ≤ 1048576) := hz
  clear hA hB hz
  go_enter Try.func24, Try.ntmps24
  go_wp2
  go_loopw [5] (fun i wr => ∃ k : Nat, i = .int .i64 (k : Int) ∧ k ≤ n ∧ Hid (Below w.heap.size w wr)) (fun i _ => n - (intOf i).toNat)
  case atStart => exact ⟨0, rfl, Nat.zero_le _, Below.refl _ _⟩
  case round =>
    obtain ⟨k, rfl, hk, HW⟩ := hrel
    by_cases hlt : k < n
    · have hlt' : (k : Int) < (n : Int) := by omega
      have hk0 : (0 : Int) ≤ (k : Int) := by omega
      obtain ⟨b1, o1, v1, rfl, hb1, c1, z1⟩ := HA.out k (by omega)
      obtain ⟨b2, o2, v2, rfl, hb2, c2, z2⟩ := HB.out k (by omega)
      have HC : Hid (∀ wz, Below wr.heap.size wr wz → wz.cell? ⟨b1, o1 + k, none⟩ = some v1 ∧ wz.cell? ⟨b2, o2 + k, none⟩ = some v2) := fun wz hwz => by
        have hb := HW.out.trans (hwz.mono HW.out.size)
        exact ⟨(hb.cell (p := ⟨b1, o1 + k, none⟩) hb1).trans c1, (hb.cell (p := ⟨b2, o2 + k, none⟩) hb2).trans c2⟩
      have CE : Hid (∀ W, Below wr.heap.size wr W → Calls Try.prog 25 #[v1, v2] W fun e w' => e = .returned (.bool true) ∧ Below W.heap.size W w') := fun W hW => by
        have hb := HW.out.trans (hW.mono HW.out.size)
        exact sameO_any v1 v2 _ (HZ.out k) W ((z1.on hb).wide hb.size) ((z2.on hb).wide hb.size)
      obtain ⟨v1a, v1c, hv1, _⟩ := z1
      subst hv1
      obtain ⟨v2a, v2c, hv2, _⟩ := z2
      subst hv2
      clear c1 c2 hb1 hb2
      generalize (L.getD k []).length = l1 at HC CE
      go_wp2_with fail
      refine wp_region_ord [(0, false), (1, false), (2, false), (3, false), (4, false), (5, false), (6, false), (7, false), (8, true), (9, false)] (fun wz => Below wr.heap.size wr wz) mixesSc (by kernel_rfl) (Below.refl _ _).drew ?_
      repeat (refine ord_float rfl rfl (fun K hK => ⟨_, (fun w' hw => by have q0 := (HC.out w' hw).1; have q1 :=  (HC.out w' hw).2; go_simp; exact rfl), ?_⟩); go_simp; refine hK _ ?_; clear hK K)
      refine ord_call rfl rfl (fun K hK => ⟨_, _, (by go_simp <;> first | exact rfl | exact ⟨rfl, rfl⟩), ?_⟩)
      refine (CE.out _ (Below.refl _ _).drew).mono ?_
      rintro e u1 ⟨rfl, hu1⟩
      have T1 := (Below.refl wr.heap.size wr).drew.trans hu1
      refine ⟨_, rfl, T1, ?_⟩
      go_simp
      refine hK _ _ ?_
      clear hK K
      repeat (refine ord_float rfl rfl (fun K hK => ⟨_, (fun w' hw => by have q0 := (HC.out w' hw).1; go_simp; exact rfl), ?_⟩); go_simp; refine hK _ ?_; clear hK K)
      refine ord_nil ?_
      have HW2 : Hid (Below w.heap.size w u1) := HW.out.trans (T1.mono HW.out.size)
      clear hu1 T1 HC CE
      go_wp2
      go_roundw
      case rel => exact ⟨k + 1, by go_num, hlt, HW2⟩
      case measure => simp [intOf]; omega
    · have hlt' : ¬ (k : Int) < (n : Int) := by omega
      go_wp2
      go_ret
      exact ⟨rfl, HW.out⟩

end Go.Proofs.Ytjlijflfepffiaa
