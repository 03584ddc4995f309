/-
  The walk of the laws' helper that looks for two unlike texts with one digest.
  (-DROP-: what the seat lacks is left out.)
-/
import Derived.Test.YtkiljlmihoaaaaaDoorTreeS
import Derived.Test.YtkiljlmihoaaaaaDoorClsG
namespace Go.Proofs.YtkiljlmihoaaaaaDoor
open Go.RowKit

/-- Two unlike texts with one digest. -/
def Hit (x y : ByteArray) : Prop := x ≠ y ∧ digT x = digT y
/-- Nothing is hit so far. -/
def NoHit (f g : Nat → ByteArray) (k j : Nat) : Prop := ∀ q, q < j → ¬ Hit (f k) (g q)
def ClashEnd (f g : Nat → ByteArray) (n m : Nat) (w : World) (e : Ending) (w' : World) : Prop := ∃ r, e = .returned (.bool r) ∧ ((∃ p q, p < n ∧ q < m ∧ Hit (f p) (g q)) → r = true) ∧ Below w.heap.size w w'

theorem tl_ne {x y : ByteArray} (h : ¬ x = y) : (x.toList == y.toList) = false := by
  rw [ByteArray.toList_eq, ByteArray.toList_eq, beq_eq_false_iff_ne]
  exact fun e => h (ByteArray.ext (Array.toList_inj.1 e))

set_option maxHeartbeats 1600000 in
set_option maxRecDepth 100000 in
theorem clash_any (a b : Option Addr) (n m c1 c2 : Nat) (hn : n ≤ 1048576) (hm : m ≤ 1048576) (f g : Nat → ByteArray) (hf : ∀ j, j < n → (f j).size ≤ 2097152) (hg : ∀ j, j < m → (g j).size ≤ 2097152) (w : World) (hA : StrsAt w a n w.heap.size f) (hB : StrsAt w b m w.heap.size g) :
    Calls Tryd.prog 25 #[.slice a n c1, .slice b m c2] w fun e w' => ClashEnd f g n m w e w' := by
  have HA : Hid (StrsAt w a n w.heap.size f) := hA
  have HB : Hid (StrsAt w b m w.heap.size g) := hB
  have HF : Hid (∀ j, j < n → (f j).size ≤ 2097152) := hf
  have HG : Hid (∀ j, j < m → (g j).size ≤ 2097152) := hg
  clear hA hB hf hg
  go_enter Tryd.func25, Tryd.ntmps25
  go_wp2
  go_loopw [5] (fun i wr => ∃ k : Nat, i = .int .i64 (k : Int) ∧ k ≤ n ∧ Hid (∀ p q, p < k → q < m → ¬ Hit (f p) (g q)) ∧ Hid (Below w.heap.size w wr)) (fun i _ => n - (intOf i).toNat)
  case atStart => exact ⟨0, rfl, Nat.zero_le _, (fun p q hp => by omega), Below.refl _ _⟩
  case round =>
    obtain ⟨k, rfl, hk, HN, HW⟩ := hrel
    by_cases hlt : k < n
    · have hlt' : (k : Int) < (n : Int) := by omega
      have hk0 : (0 : Int) ≤ (k : Int) := by omega
      go_wp2
      go_loopw [6] (fun i wr => ∃ j : Nat, i = .int .i64 (j : Int) ∧ j ≤ m ∧ Hid (NoHit f g k j) ∧ Hid (Below w.heap.size w wr)) (fun i _ => m - (intOf i).toNat)
      case atStart => exact ⟨0, rfl, Nat.zero_le _, (fun q hq => by omega), HW⟩
      case round =>
        obtain ⟨j, rfl, hj, HJ, HW2⟩ := hrel
        clear HW
        by_cases hlt2 : j < m
        · have hlt2' : (j : Int) < (m : Int) := by omega
          have hj0 : (0 : Int) ≤ (j : Int) := by omega
          obtain ⟨b1, off1, ha1, hb1, hz1⟩ := (HA.out.on HW2.out) k hlt
          obtain ⟨b2, off2, ha2, hb2, hz2⟩ := (HB.out.on HW2.out) j hlt2
          subst ha1
          subst ha2
          have hsz := HW2.out.size
          have HD1 : Hid (∀ w, Calls Tryd.prog 24 #[.string (f k)] w fun e w' => e = .returned (.string (digT (f k))) ∧ Below w.heap.size w w') := sDig_any (f k) (HF.out k hlt)
          have HD2 : Hid (∀ w, Calls Tryd.prog 24 #[.string (g j)] w fun e w' => e = .returned (.string (digT (g j))) ∧ Below w.heap.size w w') := sDig_any (g j) (HG.out j hlt2)
          have HNX : Hid (¬ Hit (f k) (g j) → NoHit f g k (j + 1)) := fun h q hq => by
            by_cases e : q = j
            · rw [e]; exact h
            · exact HJ.out q (by omega)
          have HHT : Hid (Hit (f k) (g j) ↔ f k ≠ g j ∧ digT (f k) = digT (g j)) := Iff.rfl
          have Z1 : ∀ w', Below wr.heap.size wr w' → w'.cell? ⟨b1, off1 + k, none⟩ = some (.string (f k)) := fun w' hw => (hw.cell (p := ⟨b1, off1 + k, none⟩) (by show b1 < _; omega)).trans hz1
          have Z2 : ∀ w', Below wr.heap.size wr w' → w'.cell? ⟨b2, off2 + j, none⟩ = some (.string (g j)) := fun w' hw => (hw.cell (p := ⟨b2, off2 + j, none⟩) (by show b2 < _; omega)).trans hz2
          clear HJ hz1 hz2 hb1 hb2
          generalize Hit (f k) (g j) = HH at HNX HHT
          generalize digT (f k) = d1 at HD1 HHT
          generalize digT (g j) = d2 at HD2 HHT
          generalize f k = x at HD1 HHT Z1
          generalize g j = y at HD2 HHT Z2
          by_cases hxy : x = y
          · subst hxy
            have HN2 : Hid (NoHit f g k (j + 1)) := HNX.out fun h => (HHT.out.1 h).1 rfl
            clear HNX HHT HD1 HD2
            go_wp2_with fail
            refine wp_region_class 21 (fun wz => Below wr.heap.size wr wz) mixes (by kernel_rfl) (Below.refl _ _).drew ?_
            simp only [List.take_succ_cons, List.take_zero, List.drop_succ_cons, List.drop_zero]
            iterate 10 (refine cls_stepG rfl (fun K hK => ⟨_, (fun w' hw => by have z0 := Z1 w' hw; have z1 := Z2 w' hw; go_simp; exact rfl), ?_⟩); go_simp; refine hK _ ?_; clear hK K)
            iterate 11 (refine cls_skip rfl (fun K hK => ?_); go_simp; refine hK _ ?_; clear hK K)
            refine wq_nil ?_
            intro w' hw
            have HW3 : Hid (Below w.heap.size w w') := HW2.out.trans (hw.mono hsz)
            clear hw HW2 Z1 Z2
            go_wp2
            go_roundw
            case rel => exact ⟨j + 1, by go_num, hlt2, HN2, HW3⟩
            case measure => simp [intOf]; omega
          · have hxy' := tl_ne hxy
            by_cases hdd : d1 = d2
            · subst hdd
              go_wp2_with fail
              refine wp_region_class 21 (fun wz => Below wr.heap.size wr wz) mixes (by kernel_rfl) (Below.refl _ _).drew ?_
              simp only [List.take_succ_cons, List.take_zero, List.drop_succ_cons, List.drop_zero]
              repeat (refine cls_stepG rfl (fun K hK => ⟨_, (fun w' hw => by have z0 := Z1 w' hw; have z1 := Z2 w' hw; go_simp; exact rfl), ?_⟩); go_simp; refine hK _ ?_; clear hK K)
              refine cls_callG rfl (fun K hK => ⟨_, _, _, (fun w' => by go_simp <;> first | exact rfl | exact ⟨rfl, rfl⟩), (fun w' hw => calls_below hw (HD1.out _)), ?_⟩); go_simp; refine hK _ ?_; clear hK K
              repeat (refine cls_stepG rfl (fun K hK => ⟨_, (fun w' hw => by have z0 := Z1 w' hw; have z1 := Z2 w' hw; go_simp; exact rfl), ?_⟩); go_simp; refine hK _ ?_; clear hK K)
              refine cls_callG rfl (fun K hK => ⟨_, _, _, (fun w' => by go_simp <;> first | exact rfl | exact ⟨rfl, rfl⟩), (fun w' hw => calls_below hw (HD2.out _)), ?_⟩); go_simp; refine hK _ ?_; clear hK K
              repeat (refine cls_stepG rfl (fun K hK => ⟨_, (fun w' hw => by go_simp; exact rfl), ?_⟩); go_simp; refine hK _ ?_; clear hK K)
              refine wq_nil ?_
              intro w' hw
              have HW3 : Hid (Below w.heap.size w w') := HW2.out.trans (hw.mono hsz)
              clear hw HW2 Z1 Z2
              go_wp2
              go_ret
              exact ⟨true, rfl, fun _ => rfl, HW3.out⟩
            · have hdd' := tl_ne hdd
              have HN2 : Hid (NoHit f g k (j + 1)) := HNX.out fun h => hdd (HHT.out.1 h).2
              clear HNX HHT
              go_wp2_with fail
              refine wp_region_class 21 (fun wz => Below wr.heap.size wr wz) mixes (by kernel_rfl) (Below.refl _ _).drew ?_
              simp only [List.take_succ_cons, List.take_zero, List.drop_succ_cons, List.drop_zero]
              repeat (refine cls_stepG rfl (fun K hK => ⟨_, (fun w' hw => by have z0 := Z1 w' hw; have z1 := Z2 w' hw; go_simp; exact rfl), ?_⟩); go_simp; refine hK _ ?_; clear hK K)
              refine cls_callG rfl (fun K hK => ⟨_, _, _, (fun w' => by go_simp <;> first | exact rfl | exact ⟨rfl, rfl⟩), (fun w' hw => calls_below hw (HD1.out _)), ?_⟩); go_simp; refine hK _ ?_; clear hK K
              repeat (refine cls_stepG rfl (fun K hK => ⟨_, (fun w' hw => by have z0 := Z1 w' hw; have z1 := Z2 w' hw; go_simp; exact rfl), ?_⟩); go_simp; refine hK _ ?_; clear hK K)
              refine cls_callG rfl (fun K hK => ⟨_, _, _, (fun w' => by go_simp <;> first | exact rfl | exact ⟨rfl, rfl⟩), (fun w' hw => calls_below hw (HD2.out _)), ?_⟩); go_simp; refine hK _ ?_; clear hK K
              repeat (refine cls_stepG rfl (fun K hK => ⟨_, (fun w' hw => by go_simp; exact rfl), ?_⟩); go_simp; refine hK _ ?_; clear hK K)
              refine wq_nil ?_
              intro w' hw
              have HW3 : Hid (Below w.heap.size w w') := HW2.out.trans (hw.mono hsz)
              clear hw HW2 Z1 Z2
              go_wp2
              go_roundw
              case rel => exact ⟨j + 1, by go_num, hlt2, HN2, HW3⟩
              case measure => simp [intOf]; omega
        · have hlt2' : ¬ (j : Int) < (m : Int) := by omega
          have HN2 : Hid (∀ p q, p < k + 1 → q < m → ¬ Hit (f p) (g q)) := fun p q hp hq => by
            by_cases e : p = k
            · rw [e]; exact HJ.out q (by omega)
            · exact HN.out p q (by omega) hq
          go_wp2
          go_roundw
          case rel => exact ⟨k + 1, by go_num, hlt, HN2, HW2⟩
          case measure => simp [intOf]; omega
    · have hlt' : ¬ (k : Int) < (n : Int) := by omega
      have HFIN : Hid ((∃ p q, p < n ∧ q < m ∧ Hit (f p) (g q)) → False) := fun ⟨p, q, hp, hq, h⟩ => HN.out p q (by omega) hq h
      go_wp2
      go_ret
      exact ⟨false, rfl, fun h => (HFIN.out h).elim, HW.out⟩

end Go.Proofs.YtkiljlmihoaaaaaDoor
