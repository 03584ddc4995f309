/-
  The draws: twelve places.
  (-DROP-: what the seat lacks is left out.)
-/
import Derived.Test.YtmpjnabadplbjaaDraw
namespace Go.Proofs.Ytmpjnabadplbjaa
open Go.RowKit

def intsV (l : List Nat) : List Value := l.map fun (n : Nat) => .int .i64 (n : Int)

theorem intsV_append (a b : List Nat) : intsV (a ++ b) = intsV a ++ intsV b := by simp [intsV]

theorem intsV_length (a : List Nat) : (intsV a).length = a.length := by simp [intsV]

theorem intsV_at {l : List Nat} {j : Nat} (h : j < l.length) : (intsV l)[j]? = some (.int .i64 (l[j] : Int)) := by simp [intsV, h]

theorem info3 : (Try.prog.info? 3).map (fun i => (i.zero, i.size, i.bytes)) = some (some (.int .i64 0), 1, 8) := by kernel_rfl

set_option maxRecDepth 100000 in
theorem big_any (len cap : Nat) (a : Option Addr) (hm : len ≤ 9223372036854775807) (w : World) :
    Calls Try.prog 9 #[.slice a len cap] w fun e w' => e = .returned (.bool (decide (1048576 < len))) ∧ w = w' := by
  by_cases h : 1048576 < len
  · have h' : (1048576 : Int) < (len : Int) := by omega
    have hd : decide (1048576 < len) = true := by simpa using h
    rw [hd]
    clear h hd
    go_enter Try.func9, Try.ntmps9
    go_wp2
    go_ret
    exact ⟨rfl, rfl⟩
  · have h' : ¬ (1048576 : Int) < (len : Int) := by omega
    have hd : decide (1048576 < len) = false := by simpa using h
    rw [hd]
    clear h hd
    go_enter Try.func9, Try.ntmps9
    go_wp2
    go_ret
    exact ⟨rfl, rfl⟩

/-- What DrawPlaces leaves. -/
def PlacesEnd (w : World) (e : Ending) (w' : World) : Prop := ∃ (g cp : Nat) (x : Nat → Nat), e = .returned (.slice (some ⟨g, 0, none⟩) 12 cp) ∧ g < w'.heap.size ∧ w.heap.size ≤ g ∧ (∀ j, j < 12 → x j < 10000 ∧
  w'.cell? ⟨g, j, none⟩ = some (.int .i64 (x j : Int))) ∧ Below w.heap.size w w'

set_option maxHeartbeats 1600000 in
set_option maxRecDepth 100000 in
theorem places_any (len cap : Nat) (a : Option Addr) (hm : len ≤ 1048576) (w : World) (hA : ArgAt w a len w.heap.size) :
    Calls Try.prog 26 #[.slice a len cap] w fun e w' => PlacesEnd w e w' := by
  obtain ⟨i0, hi, hz0, hz1, hz2⟩ := info_parts info3
  have HA : Hid (ArgAt w a len w.heap.size) := hA
  clear hA
  go_enter Try.func26, Try.ntmps26
  go_wp2_with fail
  refine (new_any len cap a hm _ HA.out).mono ?_
  rintro e w1 ⟨rfl, hC, hA1, hb⟩
  have HC : Hid (CurAt w1 w.heap.size a len cap) := hC
  have HA1 : Hid (ArgAt w1 a len w.heap.size) := hA1
  have hl1 : w.heap.size ≤ w1.heap.size := hb.size
  clear hC hA1
  go_wp2_with fail
  refine (byte_end w.heap.size len cap a hm _ HC.out HA1.out).mono ?_
  rintro e w2 ⟨y, rfl, y0, y1, hE⟩
  have hcl : w.heap.size < w2.heap.size := hE.cur.lt
  have hb2 : Below w.heap.size w w2 := hb.trans (below_of_grown hE.grown hl1)
  have HS : Hid (CurEnd w2 w2 w.heap.size a len cap) := CurEnd.refl hE.cur hE.arg
  clear hE hb y0 y1
  go_wp2
  go_loopw [4, 5] (fun v i wr => ∃ (k : Nat) (l : List Nat), i = .int .i64 (k : Int) ∧ k ≤ 12 ∧ Hid (l.length = k ∧ ∀ x ∈ l, x < 10000) ∧ wr.ownsRow w2.heap.size 3 1 v l.length (intsV l) ∧ Hid (CurEnd w2 wr w.heap.size a len cap)) (fun _ i _ => 12 - (intOf i).toNat)
  case atStart => exact ⟨0, [], rfl, by omega, ⟨rfl, by simp⟩, World.ownsRow_lit _ _ _ (Nat.le_refl _) (by simp [maxLen]) (by simp), HS.out.alloc _⟩
  case round =>
    obtain ⟨k, l, rfl, hk, HL, hown, HE⟩ := hrel
    have hm63 : l.length + 1 ≤ maxLen := by have := HL.out.1; unfold maxLen; omega
    have hm47 : (l.length + 1) * 8 ≤ 140737488355328 := by have := HL.out.1; omega
    by_cases hlt : k < 12
    · have hlt' : (k : Int) < 12 := by omega
      go_wp2_with fail
      refine (below_any w.heap.size len cap a hm 10000 (by omega) (by omega) _ HE.out.cur HE.out.arg).mono ?_
      rintro e w3 ⟨x, rfl, x0, x1, hE1⟩
      obtain ⟨y, rfl⟩ : ∃ y : Nat, x = y := ⟨x.toNat, by omega⟩
      have hown1 : w3.ownsRow w2.heap.size 3 1 _ l.length (intsV l) := hown.kept hE1.grown (by
        refine .inr ?_
        intro e
        have := (hown.lt w.heap.size e).1
        omega)
      have HE1 : Hid (CurEnd w2 w3 w.heap.size a len cap) := HE.out.trans hE1
      have hsz : w2.heap.size ≤ w3.heap.size := HE1.out.grown.size
      clear hE1 hown
      go_wp2_with (at_builtin; refine wpList_append_own _ rfl _ _ 41 rfl w2.heap.size 3 i0 (.int .i64 0) 1 8 Try.underlying41 hi hz0 hz1 hz2 rfl (by decide) _ _ _ rfl (hown1.alloc _) ⟨w3.heap.size, 0, none⟩ 1 1 [.int .i64 (y : Int)] rfl rfl (cell_one_new _ _ _) (one_cell _ _) hm63 hm47 (room_for hsz _) ?_)
      intro v' w4 hown' hgrow _
      have R : w4.ownsRow w2.heap.size 3 1 v' (l ++ [y]).length (intsV (l ++ [y])) := by
        rw [intsV_append, List.length_append]; exact hown'
      have HE2 : Hid (CurEnd w2 w4 w.heap.size a len cap) := (HE1.out.alloc _).push hgrow (fun k hk => by have := (hown1.lt k hk).1; omega) (fun k hk => (hown1.lt k hk).1)
      have HL2 : Hid ((l ++ [y]).length = k + 1 ∧ ∀ x ∈ l ++ [y], x < 10000) := ⟨by rw [List.length_append, HL.out.1]; rfl, fun x hx => by
        rcases List.mem_append.1 hx with h | h
        · exact HL.out.2 x h
        · rw [List.mem_singleton] at h; omega⟩
      clear hown' hgrow hown1
      go_wp2
      go_roundw
      case rel => exact ⟨k + 1, _, by go_num, hlt, HL2, R, HE2⟩
      case measure => simp [intOf]; omega
    · have hlt' : ¬ (k : Int) < 12 := by omega
      have hl12 : l.length = 12 := by have := HL.out.1; omega
      have HO : Hid (wr.ownsRow w2.heap.size 3 1 _ l.length (intsV l)) := hown
      clear hown hm63 hm47
      go_wp2
      go_ret
      have hO := HO.out
      rw [hl12] at hO
      have hcl2 : w.heap.size ≤ w2.heap.size := Nat.le_of_lt hcl
      have hbel : Below w.heap.size w wr := hb2.trans (below_of_grown HE.out.grown hcl2)
      rcases hO.2 with ⟨_, h0⟩ | ⟨g, cp, cur, rfl, hg, hh, hrest⟩
      · omega
      · have hc : ∀ j, j < 12 → l.getD j 0 < 10000 ∧ wr.cell? ⟨g, j, none⟩ = some (.int .i64 ((l.getD j 0 : Nat) : Int)) := fun j hj => by
          have hjl : j < l.length := by omega
          rw [show l.getD j 0 = l[j] by simp [List.getD, hjl]]
          refine ⟨HL.out.2 _ (List.getElem_mem hjl), ?_⟩
          rw [hO.cellAt j hj, intsV_at hjl]
        exact ⟨g, cp, fun j => l.getD j 0, rfl, World.block_lt_of_cell? wr _ (hc 0 (by omega)).2, by have := hO.lt g rfl; omega, hc, hbel⟩

end Go.Proofs.Ytmpjnabadplbjaa
