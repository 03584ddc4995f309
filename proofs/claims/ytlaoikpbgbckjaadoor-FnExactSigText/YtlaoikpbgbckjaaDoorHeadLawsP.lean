/-
  The walks of the exact laws of heads: those without a table.
  (-DROP-: what the seat lacks is left out.)
-/
import Derived.Test.YtlaoikpbgbckjaaDoorHeadI3
namespace Go.Proofs.YtlaoikpbgbckjaaDoor
open Go.RowKit

theorem infoLH : (Tryd.prog.info? 39).map (·.size) = some 4 := by kernel_rfl

/-- The parts of a head are no longer than texts can be. -/
def HLen (h : Hd) : Prop := h.2.1.size ≤ 9223372036854775807 ∧ h.2.2.1.size ≤ 9223372036854775807 ∧ h.2.2.2.size ≤ 9223372036854775807

set_option maxHeartbeats 800000 in
set_option maxRecDepth 100000 in
theorem szHead_any (h : Hd) (hl : HLen h) (w : World) :
    Calls Tryd.prog 21 #[hv h, .int .i64 1048576] w fun e w' => ∃ r : Int, e = .returned (.int .i64 r) ∧ Below w.heap.size w w' := by
  obtain ⟨s, p, t, b⟩ := h
  obtain ⟨h1, h2, h3⟩ := hl
  simp only at h1 h2 h3
  unfold hv hc
  simp only
  obtain ⟨np, hnp⟩ : ∃ n, p.size = n := ⟨_, rfl⟩
  obtain ⟨nt, hnt⟩ : ∃ n, t.size = n := ⟨_, rfl⟩
  obtain ⟨nb, hnb⟩ : ∃ n, b.size = n := ⟨_, rfl⟩
  rw [hnp] at h1
  rw [hnt] at h2
  rw [hnb] at h3
  have hw1 : IntKind.i64.wrap (1048576 - (np : Int)) = 1048576 - (np : Int) := IntWalk.i64_in _ (by omega)
  obtain ⟨W, hW, hb, hx⟩ := box1 w 39 #[.int .i64 s, .string p, .string t, .string b]
  have q1 := hx.cell 1
  have q2 := hx.cell 2
  have q3 := hx.cell 3
  by_cases g1 : (1048576 : Int) - (np : Int) < 0
  · go_enter Tryd.func21, Tryd.ntmps21
    go_wp2
    go_ret
    first | exact ⟨_, rfl, hb⟩ | exact hb | exact ⟨⟨_, rfl⟩, hb⟩
  · have hw2 : IntKind.i64.wrap (1048576 - (np : Int) - (nt : Int)) = 1048576 - (np : Int) - (nt : Int) := IntWalk.i64_in _ (by omega)
    by_cases g2 : (1048576 : Int) - (np : Int) - (nt : Int) < 0
    · go_enter Tryd.func21, Tryd.ntmps21
      go_wp2
      go_ret
      first | exact ⟨_, rfl, hb⟩ | exact hb | exact ⟨⟨_, rfl⟩, hb⟩
    · have hw3 : IntKind.i64.wrap (1048576 - (np : Int) - (nt : Int) - (nb : Int)) = 1048576 - (np : Int) - (nt : Int) - (nb : Int) := IntWalk.i64_in _ (by omega)
      by_cases g3 : (1048576 : Int) - (np : Int) - (nt : Int) - (nb : Int) < 0
      · go_enter Tryd.func21, Tryd.ntmps21
        go_wp2
        go_ret
        first | exact ⟨_, rfl, hb⟩ | exact hb | exact ⟨⟨_, rfl⟩, hb⟩
      · go_enter Tryd.func21, Tryd.ntmps21
        go_wp2
        go_ret
        first | exact ⟨_, rfl, hb⟩ | exact hb | exact ⟨⟨_, rfl⟩, hb⟩

set_option maxHeartbeats 800000 in
set_option maxRecDepth 100000 in
theorem toHead_any (h : Hd) (w : World) :
    Calls Tryd.prog 22 #[hv h] w fun e w' => e = .returned (hv h) ∧ Below w.heap.size w w' := by
  obtain ⟨s, p, t, b⟩ := h
  unfold hv hc
  simp only
  go_enter Tryd.func22, Tryd.ntmps22
  go_wp2
  refine bodyPost_ret_by (result_blk rfl rfl (Blk.alloc (Blk.newAt (by simp)) _) Tryd.underlying25 infoH) rfl ⟨rfl, (((Below.refl _ _).alloc (Nat.le_refl _) _).alloc (by simp) _).alloc (by simp; omega) _⟩

end Go.Proofs.YtlaoikpbgbckjaaDoor
