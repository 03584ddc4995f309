/-
  The walks of the rules of the system of bits, the program's.
  (-DROP-: what the seat lacks is left out.)
-/
import Derived.Test.YtfiflcedbejamaaRwCS
import Derived.Maps.AppendAt
namespace Go.Proofs.Ytfiflcedbejamaa
open Go.RowKit

set_option maxHeartbeats 800000 in
set_option maxRecDepth 100000 in
theorem bitRow_any (k : Nat) (hk : k < 11) (w : World) :
    Calls Try.prog 69 #[.int .i64 (k : Int)] w fun e w' => ∃ g0 g1 g2, e = .returned (row11 g0 g1 g2) ∧ Three w w' g0 g1 g2 (hotF k) (hotF k) (hotF k) ∧ Below w.heap.size w w' := by
  obtain ⟨W, hW, hb, hr⟩ := box1 w 56 #[.slice none 0 0, .slice none 0 0, .slice none 0 0]
  go_enter Try.func69, Try.ntmps69
  go_wp2_with fail
  clear hW
  refine (alone_any k hk _).mono ?_
  rintro e w1 ⟨rfl, R0, b1⟩
  have r1 := hr.on b1 hr.lt
  have l1 := R0.lt
  go_wp2_with fail
  refine (alone_any k hk _).mono ?_
  rintro e w2 ⟨rfl, R1, b2⟩
  have r2 := r1.on b2 r1.lt
  have S0 := R0.on b2 R0.lt
  have l2 := R1.lt
  go_wp2_with fail
  refine (alone_any k hk _).mono ?_
  rintro e w3 ⟨rfl, R2, b3⟩
  have r3 := r2.on b3 r2.lt
  have U0 := S0.on b3 S0.lt
  have U1 := R1.on b3 R1.lt
  have hB := below_then hb (below_then b1 (below_then b2 b3))
  have h0 := hr.lt
  have h1 := r1.lt
  have h2 := r2.lt
  clear R0 r1 S0 R1 r2 hr b1 b2 b3 hb
  generalize W.heap.size = g0 at *
  generalize w1.heap.size = g1 at *
  generalize w2.heap.size = g2 at *
  go_wp2_with (refine store_blk (cs' := #[.slice (some ⟨g0, 0, none⟩) 11 11, .slice (some ⟨g1, 0, none⟩) 11 11, .slice (some ⟨g2, 0, none⟩) 11 11]) rfl rfl rfl rfl rfl r3 infoRw rfl (ones3 _ _ _ _ _ _ _ _ _) ?_; intro V h5 hoth hbel; have hbV := hbel _ _ (by omega) hB; have T0 := hoth _ _ _ (by omega) U0; have T1 := hoth _ _ _ (by omega) U1; have T2 := hoth _ _ _ (by omega) R2; clear hoth hbel)
  refine bodyPost_ret_by (result_blk rfl rfl h5 Try.underlying56 infoRw) rfl ⟨g0, g1, g2, rfl, ⟨by omega, by omega, by omega, by omega, by omega, by omega, T0, T1, T2⟩, hbV⟩

set_option maxHeartbeats 800000 in
set_option maxRecDepth 100000 in
theorem packedRow_any (k : Nat) (hk : k < 11) (w : World) :
    Calls Try.prog 70 #[.int .i64 (k : Int)] w fun e w' => ∃ g0 g1 g2, e = .returned (row11 g0 g1 g2) ∧ Three w w' g0 g1 g2 (hotF 0) (powF 2 8) (hotF k) ∧ Below w.heap.size w w' := by
  obtain ⟨W, hW, hb, hr⟩ := box1 w 56 #[.slice none 0 0, .slice none 0 0, .slice none 0 0]
  go_enter Try.func70, Try.ntmps70
  go_wp2_with fail
  clear hW
  refine (alone_any 0 (by decide) _).mono ?_
  rintro e w1 ⟨rfl, R0, b1⟩
  have r1 := hr.on b1 hr.lt
  have l1 := R0.lt
  go_wp2_with fail
  refine (powers_any 2 (.inr rfl) _).mono ?_
  rintro e w2 ⟨rfl, R1, b2⟩
  have r2 := r1.on b2 r1.lt
  have S0 := R0.on b2 R0.lt
  have l2 := R1.lt
  go_wp2_with fail
  refine (alone_any k hk _).mono ?_
  rintro e w3 ⟨rfl, R2, b3⟩
  have r3 := r2.on b3 r2.lt
  have U0 := S0.on b3 S0.lt
  have U1 := R1.on b3 R1.lt
  have hB := below_then hb (below_then b1 (below_then b2 b3))
  have h0 := hr.lt
  have h1 := r1.lt
  have h2 := r2.lt
  clear R0 r1 S0 R1 r2 hr b1 b2 b3 hb
  generalize W.heap.size = g0 at *
  generalize w1.heap.size = g1 at *
  generalize w2.heap.size = g2 at *
  go_wp2_with (refine store_blk (cs' := #[.slice (some ⟨g0, 0, none⟩) 11 11, .slice (some ⟨g1, 0, none⟩) 11 11, .slice (some ⟨g2, 0, none⟩) 11 11]) rfl rfl rfl rfl rfl r3 infoRw rfl (ones3 _ _ _ _ _ _ _ _ _) ?_; intro V h5 hoth hbel; have hbV := hbel _ _ (by omega) hB; have T0 := hoth _ _ _ (by omega) U0; have T1 := hoth _ _ _ (by omega) U1; have T2 := hoth _ _ _ (by omega) R2; clear hoth hbel)
  refine bodyPost_ret_by (result_blk rfl rfl h5 Try.underlying56 infoRw) rfl ⟨g0, g1, g2, rfl, ⟨by omega, by omega, by omega, by omega, by omega, by omega, T0, T1, T2⟩, hbV⟩

set_option maxHeartbeats 800000 in
set_option maxRecDepth 100000 in
theorem countRow_any (k : Nat) (hk : k < 11) (w : World) :
    Calls Try.prog 71 #[.int .i64 (k : Int)] w fun e w' => ∃ g0 g1 g2, e = .returned (row11 g0 g1 g2) ∧ Three w w' g0 g1 g2 (hotF 0) (powF 1 8) (hotF k) ∧ Below w.heap.size w w' := by
  obtain ⟨W, hW, hb, hr⟩ := box1 w 56 #[.slice none 0 0, .slice none 0 0, .slice none 0 0]
  go_enter Try.func71, Try.ntmps71
  go_wp2_with fail
  clear hW
  refine (alone_any 0 (by decide) _).mono ?_
  rintro e w1 ⟨rfl, R0, b1⟩
  have r1 := hr.on b1 hr.lt
  have l1 := R0.lt
  go_wp2_with fail
  refine (powers_any 1 (.inl rfl) _).mono ?_
  rintro e w2 ⟨rfl, R1, b2⟩
  have r2 := r1.on b2 r1.lt
  have S0 := R0.on b2 R0.lt
  have l2 := R1.lt
  go_wp2_with fail
  refine (alone_any k hk _).mono ?_
  rintro e w3 ⟨rfl, R2, b3⟩
  have r3 := r2.on b3 r2.lt
  have U0 := S0.on b3 S0.lt
  have U1 := R1.on b3 R1.lt
  have hB := below_then hb (below_then b1 (below_then b2 b3))
  have h0 := hr.lt
  have h1 := r1.lt
  have h2 := r2.lt
  clear R0 r1 S0 R1 r2 hr b1 b2 b3 hb
  generalize W.heap.size = g0 at *
  generalize w1.heap.size = g1 at *
  generalize w2.heap.size = g2 at *
  go_wp2_with (refine store_blk (cs' := #[.slice (some ⟨g0, 0, none⟩) 11 11, .slice (some ⟨g1, 0, none⟩) 11 11, .slice (some ⟨g2, 0, none⟩) 11 11]) rfl rfl rfl rfl rfl r3 infoRw rfl (ones3 _ _ _ _ _ _ _ _ _) ?_; intro V h5 hoth hbel; have hbV := hbel _ _ (by omega) hB; have T0 := hoth _ _ _ (by omega) U0; have T1 := hoth _ _ _ (by omega) U1; have T2 := hoth _ _ _ (by omega) R2; clear hoth hbel)
  refine bodyPost_ret_by (result_blk rfl rfl h5 Try.underlying56 infoRw) rfl ⟨g0, g1, g2, rfl, ⟨by omega, by omega, by omega, by omega, by omega, by omega, T0, T1, T2⟩, hbV⟩

theorem infoCR : (Try.prog.info? 54).map (fun i => (i.zero, i.size, i.bytes)) = some (some (.agg #[.int .i64 0, .nilFunc]), 2, 16) := by kernel_rfl

/-- A rule's two cells. -/
def ruleC (k : Int) (f : Nat) : List Value := [.int .i64 k, .func (Fn.func f) #[] #[]]
/-- The rules of so many bits. -/
def bitRules : Nat → List Value
  | 0 => []
  | k + 1 => bitRules k ++ ruleC (3 + (k : Int)) 69
theorem bitRules_len : ∀ k, (bitRules k).length = k * 2
  | 0 => rfl
  | k + 1 => by rw [bitRules, List.length_append, bitRules_len k]; show k * 2 + 2 = _; omega
/-- All rules. -/
def allRules : List Value := bitRules 8 ++ (ruleC 1 70 ++ ruleC 2 71)
theorem rule_one (k : Int) (f : Nat) : ∀ u ∈ ruleC k f, u.oneCell' = true := by
  intro u hu
  simp only [ruleC, List.mem_cons, List.not_mem_nil, or_false] at hu
  rcases hu with rfl | rfl <;> rfl
theorem cells_two (w : World) (cs : Array Value) (l : List Value) (t : TypeId) (h : cs.toList = l) : ∀ j u, l[j]? = some u → (w.alloc (.cells cs t)).cell? ((⟨w.heap.size, 0, none⟩ : Addr).add j) = some u := by
  intro j u hj
  subst h
  rw [Addr.add_lit, Nat.zero_add, cell_of_row _ _ j cs t (0, 0) (heap_alloc_new w _)]
  simpa using hj

set_option maxHeartbeats 800000 in
set_option maxRecDepth 100000 in
theorem rules_any (w : World) :
    Calls Try.prog 45 #[] w fun e w' => ∃ v, e = .returned v ∧ w'.ownsRow w.heap.size 54 2 v 10 allRules ∧ Below w.heap.size w w' := by
  obtain ⟨i0, hi, hz0, hz1, hz2⟩ := info_parts infoCR
  go_enter Try.func45, Try.ntmps45
  go_wp2
  go_loopw [1, 2] (fun v i wr => ∃ (k : Nat), i = .int .i64 (3 + (k : Int)) ∧ k ≤ 8 ∧ wr.ownsRow w.heap.size 54 2 v k (bitRules k) ∧ Hid (Below w.heap.size w wr)) (fun _ i _ => 11 - (intOf i).toNat)
  case atStart => exact ⟨0, rfl, by omega, World.ownsRow_lit _ _ _ (Nat.le_refl _) (by simp [maxLen]) (by simp), (Below.refl _ _).alloc (Nat.le_refl _) _⟩
  case round =>
    obtain ⟨k, rfl, hk, hown, HB⟩ := hrel
    have hm63 : k + 1 ≤ maxLen := by unfold maxLen; omega
    have hm47 : (k + 1) * 16 ≤ 140737488355328 := by omega
    have hsz : w.heap.size ≤ wr.heap.size := HB.out.size
    by_cases hlt : k < 8
    · have hlt' : 3 + (k : Int) < 11 := by omega
      go_wp2_with (at_builtin; refine wpList_append_own _ rfl _ _ 49 rfl w.heap.size 54 i0 (.agg #[.int .i64 0, .nilFunc]) 2 16 Try.underlying49 hi hz0 hz1 hz2 rfl (by decide) _ _ _ rfl (hown.alloc _) ⟨wr.heap.size, 0, none⟩ 1 1 (ruleC (3 + (k : Int)) 69) rfl rfl (cells_two _ _ _ _ rfl) (rule_one _ _) hm63 hm47 (room_for hsz _) ?_)
      intro v' w4 hown' hgrow _
      have R : w4.ownsRow w.heap.size 54 2 v' (k + 1) (bitRules (k + 1)) := hown'
      have HB2 : Hid (Below w.heap.size w w4) := (HB.out.alloc hsz _).grown hgrow (by simp; omega) (fun k hk => (hown.lt k hk).1)
      clear hown' hgrow hown
      go_wp2
      go_roundw
      case rel => exact ⟨k + 1, by go_num, hlt, R, HB2⟩
      case measure => simp [intOf]; omega
    · have hlt' : ¬ 3 + (k : Int) < 11 := by omega
      obtain rfl : k = 8 := by omega
      go_wp2_with (at_builtin; refine wpList_append_own _ rfl _ _ 49 rfl w.heap.size 54 i0 (.agg #[.int .i64 0, .nilFunc]) 2 16 Try.underlying49 hi hz0 hz1 hz2 rfl (by decide) _ _ _ rfl (hown.alloc _) ⟨wr.heap.size, 0, none⟩ 2 2 (ruleC 1 70 ++ ruleC 2 71) rfl rfl (cells_two _ _ _ _ rfl) (fun u hu => (List.mem_append.1 hu).elim (rule_one _ _ u) (rule_one _ _ u)) (by simp [maxLen]) (by simp) (room_for hsz _) ?_)
      intro v' w4 hown' hgrow _
      have R : Hid (w4.ownsRow w.heap.size 54 2 v' 10 allRules) := hown'
      have HB2 : Hid (Below w.heap.size w w4) := (HB.out.alloc hsz _).grown hgrow (by simp; omega) (fun k hk => (hown.lt k hk).1)
      clear hown' hgrow hown
      go_wp2
      go_ret
      exact ⟨_, rfl, R.out, HB2.out⟩

end Go.Proofs.Ytfiflcedbejamaa
