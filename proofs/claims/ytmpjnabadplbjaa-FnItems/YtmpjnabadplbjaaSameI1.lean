/-
  The walk of the program's alikeButKids.
  (-DROP-: what the seat lacks is left out.)
-/
import Derived.Test.YtmpjnabadplbjaaPtrMap
import Derived.Test.YtmpjnabadplbjaaFormI1
import Derived.Test.YtmpjnabadplbjaaItemS1
import Derived.BigQuiet
namespace Go.Proofs.Ytmpjnabadplbjaa
open Go.RowKit

/-- The cells of an item at a place. -/
def Cel (w : World) (p : Addr) (l : Bool) (t : ByteArray) (a : Option Addr) (n c : Nat) : Prop := p.spot = none ∧ w.cell? ⟨p.block, p.off, none⟩ = some (.bool l) ∧ w.cell? ⟨p.block, p.off + 1, none⟩ = some (.string t) ∧ w.cell? ⟨p.block, p.off + 2, none⟩ = some (.slice a n c)

theorem Cel.on {w w' : World} {p : Addr} {l : Bool} {t : ByteArray} {a : Option Addr} {n c m : Nat} (h : Cel w p l t a n c) (hb : Below m w w') (hp : p.block < m) : Cel w' p l t a n c :=
  ⟨h.1, (hb.cell (p := ⟨p.block, p.off, none⟩) hp).trans h.2.1, (hb.cell (p := ⟨p.block, p.off + 1, none⟩) hp).trans h.2.2.1, (hb.cell (p := ⟨p.block, p.off + 2, none⟩) hp).trans h.2.2.2⟩
theorem Cel.lt {w : World} {p : Addr} {l : Bool} {t : ByteArray} {a : Option Addr} {n c : Nat} (h : Cel w p l t a n c) : p.block < w.heap.size := World.block_lt_of_cell? w ⟨p.block, p.off, none⟩ h.2.1

set_option maxHeartbeats 1600000 in
set_option maxRecDepth 100000 in
theorem iAlike_any (p q : Addr) (l l2 : Bool) (t t2 : ByteArray) (a a2 : Option Addr) (n n2 c c2 : Nat) (w : World) (hp : Cel w p l t a n c) (hq : Cel w q l2 t2 a2 n2 c2) :
    Calls Try.prog 48 #[keyV (p, q)] w fun e w' => e = .returned (.bool (decide (l = l2) && (decide (t = t2) && decide (n = n2)))) ∧ Below w.heap.size w w' := by
  obtain ⟨W, hW, hb, hx⟩ := box1 w 77 #[.pointer (some p), .pointer (some q)]
  have q0 := hx.cell 0
  have q1 := hx.cell 1
  have hp2 := hp.on hb hp.lt
  have hq2 := hq.on hb hq.lt
  obtain ⟨b, off, spot⟩ := p
  obtain ⟨b2, off2, spot2⟩ := q
  obtain ⟨rfl, c0, c1, c2'⟩ := hp2
  obtain ⟨rfl, d0, d1, d2⟩ := hq2
  have HB : Hid (Below w.heap.size w W) := hb
  unfold keyV
  clear hp hq hb hx
  by_cases hl : l = l2
  · subst hl
    by_cases ht : t = t2
    · subst ht
      have ht' : (t.toList == t.toList) = true := beq_self_eq_true _
      by_cases hn : n = n2
      · subst hn
        have HE : Hid ((decide (l = l) && (decide (t = t) && decide (n = n))) = true) := by show _ = _; simp
        generalize (decide (l = l) && (decide (t = t) && decide (n = n))) = R at HE ⊢
        go_enter Try.func48, Try.ntmps48
        go_wp2_with fail
        go_quiet (fail)
        go_wp2_with fail
        go_quiet (fail)
        go_wp2
        go_ret
        exact ⟨by rw [HE.out]; rfl, below_drewN (below_drewN HB.out _) _⟩
      · have hn' : ((n : Int) == (n2 : Int)) = false := by rw [beq_eq_false_iff_ne]; omega
        have HE : Hid ((decide (l = l) && (decide (t = t) && decide (n = n2))) = false) := by show _ = _; simp [hn]
        generalize (decide (l = l) && (decide (t = t) && decide (n = n2))) = R at HE ⊢
        go_enter Try.func48, Try.ntmps48
        go_wp2_with fail
        go_quiet (fail)
        go_wp2_with fail
        go_quiet (fail)
        go_wp2
        go_ret
        exact ⟨by rw [HE.out]; rfl, below_drewN (below_drewN HB.out _) _⟩
    · have ht' : (t.toList == t2.toList) = false := by rw [beq_eq_false_iff_ne]; exact fun h => ht (same_bytes h)
      have HE : Hid ((decide (l = l) && (decide (t = t2) && decide (n = n2))) = false) := by show _ = _; simp [ht]
      generalize (decide (l = l) && (decide (t = t2) && decide (n = n2))) = R at HE ⊢
      go_enter Try.func48, Try.ntmps48
      go_wp2_with fail
      go_quiet (fail)
      go_wp2_with fail
      go_quiet (fail)
      go_wp2
      go_ret
      exact ⟨by rw [HE.out]; rfl, below_drewN (below_drewN HB.out _) _⟩
  · have hl' : (l == l2) = false := by rw [beq_eq_false_iff_ne]; exact hl
    have HE : Hid ((decide (l = l2) && (decide (t = t2) && decide (n = n2))) = false) := by show _ = _; simp [hl]
    generalize (decide (l = l2) && (decide (t = t2) && decide (n = n2))) = R at HE ⊢
    clear hl
    go_enter Try.func48, Try.ntmps48
    go_wp2_with fail
    go_quiet (fail)
    go_wp2_with fail
    go_quiet (fail)
    go_wp2
    go_ret
    exact ⟨by rw [HE.out]; rfl, below_drewN (below_drewN HB.out _) _⟩

end Go.Proofs.Ytmpjnabadplbjaa
