/-
  slices.Reverse at bytes: the row holds the same bytes, the last first.
  (-DROP-: what the seat lacks is left out.)
-/
import Derived.Test.YtmpjnabadplbjaaJoined4
import Derived.WalkKit
import Derived.Deep.LoopGhost
import Derived.Lib.Walk
import Derived.Sort.WalkB12
import Derived.Lib.SlicesMore
namespace Go.Proofs.Ytmpjnabadplbjaa
open Go.RowKit Go.Lib Go.Sort

def encB (c : UInt8) : Value := .int .u8 (c.toNat : Int)
theorem holds_of_row {w : World} {B g cap : Nat} {l : List UInt8} (h : w.ownsRow B 5 1 (.slice (some ⟨g, 0, none⟩) l.length cap) l.length (bytesV l)) : Holds encB w g 0 l.toArray := by
  intro j hj
  have hj' : j < l.length := by simpa using hj
  have h1 := h.cellAt j (by omega)
  have h2 := h.frozenAt j
  rw [Nat.zero_add]
  refine ⟨h1.trans ?_, h2⟩
  simp [bytesV, encB, hj']
theorem row_put {w : World} {B g cap n : Nat} {l m : List UInt8} (hl : m.length = l.length) (h : w.ownsRow B 5 1 (.slice (some ⟨g, 0, none⟩) l.length cap) l.length (bytesV l)) :
    (putRow encB (Sort.ahead w n) g 0 m.toArray).ownsRow B 5 1 (.slice (some ⟨g, 0, none⟩) m.length cap) m.length (bytesV m) ∧ w.grownBy (putRow encB (Sort.ahead w n) g 0 m.toArray) (some g) := by
  rcases h.2 with ⟨h', _⟩ | ⟨g', cap', cur, h', hb, hg, hnc, hcm, hcs, htake⟩
  · simp at h'
  · simp only [Value.slice.injEq, Option.some.injEq, Addr.mk.injEq, and_true, true_and] at h'
    obtain ⟨rfl, rfl⟩ := h'
    have hg' : (putRow encB (Sort.ahead w n) g 0 m.toArray).heap[g]? = some (.cells (putCells encB 0 m.toArray cur) 5 (0, 0)) := by
      show (w.heap.modify g (onCells _))[g]? = _
      rw [Array.getElem?_modify, if_pos rfl, hg]
      rfl
    refine ⟨⟨by simp [bytesV], .inr ⟨g, cap, putCells encB 0 m.toArray cur, rfl, hb, hg', by omega, hcm, by unfold putCells; rw [Array.size_mapIdx]; exact hcs, ?_⟩⟩, rfl, rfl, rfl, ?_, fun i _ hi => ?_⟩
    · apply List.ext_getElem?
      intro i
      rw [List.getElem?_take, Nat.mul_one]
      by_cases hi : i < m.length
      · rw [if_pos hi]
        have hic : i < cur.size := by omega
        unfold putCells
        rw [Array.getElem?_toList, Array.getElem?_mapIdx, Array.getElem?_eq_getElem hic]
        simp [bytesV, encB, hi]
      · rw [if_neg hi]
        have h3 : (bytesV m).length ≤ i := by simp only [bytesV, List.length_map]; omega
        rw [List.getElem?_eq_none h3]
    · show (w.heap.modify g _).size ≥ _
      rw [Array.size_modify]
      exact Nat.le_refl _
    · show (w.heap.modify g _)[i]? = _
      rw [Array.getElem?_modify, if_neg (fun e => hi (by rw [e]))]

set_option maxHeartbeats 1600000 in
set_option maxRecDepth 1000000 in
theorem iRev_arr (g off cap : Nat) (d : Array UInt8) (w : World) (hH : Holds encB w g off d) (hsz : d.size ≤ 9223372036854775807) :
    Calls Try.prog 44 #[.slice (some ⟨g, off, none⟩) d.size cap] w fun e w' => e = .returned (.tuple #[]) ∧ ∃ n, w' = putRow encB (Sort.ahead w n) g off d.reverse := by
  go_enter Try.func44, Try.ntmps44
  go_wp2
  go_loopg [2, 3] d.size (fun k s2 s3 wr => ∃ (i jn : Nat) (jz : Int) (dk : Array UInt8) (n : Nat), s2 = .int .i64 i ∧ s3 = .int .i64 jz ∧ ((i : Int) < jz → jz = jn ∧ jn < d.size) ∧ (¬ (i : Int) < jz → ¬ i < jn) ∧ jn - i ≤ k ∧
    dk.size = d.size ∧ wr = putRow encB (Sort.ahead w n) g off dk ∧ reverseLoop i jn dk = reverseLoop 0 (d.size - 1) d)
  case atStart => exact ⟨0, d.size - 1, (d.size : Int) - 1, d, 0, rfl, rfl, fun h => ⟨by omega, by omega⟩, fun h => by omega, by omega, rfl, (putRow_self encB w g off d hH).symm, rfl⟩
  case round =>
    obtain ⟨i, jn, jz, dk, n, rfl, rfl, h1, h2, hk, hds, hwr, heq⟩ := hrel
    by_cases hlt : (i : Int) < jz
    · obtain ⟨rfl, hjn⟩ := h1 hlt
      have hij : i < jn := by omega
      have hHk : Holds encB wr g off dk := by rw [hwr]; exact holds_putRow encB _ g off d dk (holds_ahead encB w n g off d hH) hds
      obtain ⟨ci, fi⟩ := hHk i (by omega)
      obtain ⟨cj, fj⟩ := hHk jn (by omega)
      have A : Aside (wr = putRow encB (Sort.ahead w n) g off dk) := hwr
      clear hwr hHk hH h1 h2
      unfold encB at ci cj
      go_wp2_with fail
      go_region
      go_wp2
      go_roundg (jn - 1 - (i + 1))
      case measure => omega
      case rel =>
        rw [reverseLoop, if_pos hij] at heq
        exact ⟨i + 1, jn - 1, (jn : Int) - 1, swp dk i jn, n + 1, by simp, rfl, fun h => ⟨by omega, by omega⟩, fun h => by omega, Nat.le_refl _, by rw [size_swp]; exact hds,
          swap_world encB (by omega) (by omega) A.out (by first | rfl | simp [encB, getElem!_pos, show jn < dk.size by omega]) (by first | rfl | simp [encB, getElem!_pos, show i < dk.size by omega]), heq⟩
    · have hnot := h2 hlt
      go_wp2
      go_end0
      refine ⟨rfl, n, ?_⟩
      rw [reverseLoop, if_neg hnot] at heq
      rw [← Lib.reverseLoop_reverse, ← heq]

set_option maxHeartbeats 1600000 in
theorem iRev_none (cap : Nat) (w : World) : Calls Try.prog 44 #[.slice none 0 cap] w fun e w' => e = .returned (.tuple #[]) ∧ w' = w := by
  go_enter Try.func44, Try.ntmps44
  go_wp2
  go_loopg [2, 3] 0 (fun _ s2 s3 wr => s2 = .int .i64 0 ∧ s3 = .int .i64 (-1) ∧ wr = w)
  case atStart => exact ⟨rfl, rfl, rfl⟩
  case round =>
    obtain ⟨rfl, rfl, rfl⟩ := hrel
    go_wp2
    go_end0
    exact ⟨rfl, rfl⟩

/-- A row of bytes is turned about. -/
theorem iRev_any (l : List UInt8) (v : Value) (B : Nat) (w : World) (h : w.ownsRow B 5 1 v l.length (bytesV l)) (hl : l.length ≤ 9223372036854775807) :
    Calls Try.prog 44 #[v] w fun e w' => e = .returned (.tuple #[]) ∧ w'.ownsRow B 5 1 v l.reverse.length (bytesV l.reverse) ∧ w.grownBy w' v.ownBlock := by
  rcases h.2 with ⟨rfl, h0⟩ | ⟨g, cap, cur, rfl, _⟩
  · obtain rfl : l = [] := List.length_eq_zero_iff.1 h0
    refine (iRev_none 0 w).mono ?_
    rintro e w' ⟨rfl, rfl⟩
    exact ⟨rfl, h, rfl, rfl, rfl, Nat.le_refl _, fun _ _ _ => rfl⟩
  · have h1 := iRev_arr g 0 cap l.toArray w (holds_of_row h) (by simpa using hl)
    rw [List.size_toArray] at h1
    refine h1.mono ?_
    rintro e w' ⟨rfl, n, rfl⟩
    have h2 := row_put (n := n) (m := l.reverse) (List.length_reverse) h
    rw [List.length_reverse] at h2 ⊢
    refine ⟨rfl, ?_, ?_⟩
    · have := h2.1
      simpa using this
    · have := h2.2
      rw [List.reverse_toArray]
      exact this

end Go.Proofs.Ytmpjnabadplbjaa
