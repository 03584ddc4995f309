/-
  The draw of a path by halves.
  (-DROP-: what the seat lacks is left out.)
-/
import Derived.Test.YtengnjffajimdaaDraw
import Derived.Test.YtengnjffajimdaaNibS
namespace Go.Proofs.Ytengnjffajimdaa
open Go.RowKit

set_option maxHeartbeats 800000 in
set_option maxRecDepth 100000 in
theorem dNibs_any (c len cap : Nat) (a : Option Addr) (hm : len ≤ 1048576) (w : World) (hC : CurAt w c a len cap) (hA : ArgAt w a len c) :
    Calls Try.prog 31 #[.pointer (some ⟨c, 0, none⟩)] w fun e w' => ∃ (g cv : Nat) (l : List Int), e = .returned (.slice (some ⟨g, 0, none⟩) l.length cv) ∧ l.length ≤ 65 ∧ RowZs w.heap.size w' (.slice (some ⟨g, 0, none⟩) l.length cv) l ∧ CurEnd w w' c a len cap := by
  obtain ⟨i0, hi, hz0, hz1, hz2⟩ := info_parts info3I
  have hcl := hC.lt
  have HS : Hid (CurEnd w w c a len cap) := CurEnd.refl hC hA
  clear hA hC
  go_enter Try.func31, Try.ntmps31
  go_wp2
  go_loopw [3, 4] (fun v i wr => ∃ (k : Nat) (l : List Int), i = .int .i64 (k : Int) ∧ k ≤ 8 ∧ l.length = k ∧ (∃ g cv, v = .slice (some ⟨g, 0, none⟩) l.length cv) ∧ wr.ownsRow w.heap.size 3 1 v l.length (zsV l) ∧ CurEnd w wr c a len cap) (fun _ i _ => 8 - (intOf i).toNat)
  case atStart => exact ⟨0, [], rfl, Nat.zero_le _, rfl, ⟨_, _, rfl⟩, World.ownsRow_lit _ _ _ (Nat.le_refl _) (by simp [maxLen]) (by simp), HS.out.alloc _⟩
  case round =>
    obtain ⟨k, l, rfl, hk, hll, ⟨g0, cv0, rfl⟩, hown, hE⟩ := hrel
    have HE : Hid (CurEnd w wr c a len cap) := hE
    have HLL : Hid (l.length = k) := hll
    have hm63 : l.length + 1 ≤ maxLen := by unfold maxLen; omega
    have hm47 : (l.length + 1) * 8 ≤ 140737488355328 := by omega
    clear hll hE
    go_wp2_with fail
    refine (below_any c len cap a hm 9 (by decide) (by decide) _ HE.out.cur HE.out.arg).mono ?_
    rintro e w1 ⟨x, rfl, x0, x1, hE1⟩
    have hown1 : w1.ownsRow w.heap.size 3 1 _ l.length (zsV l) := hown.kept hE1.grown (by
      refine .inr ?_
      intro e
      have := (hown.lt c e).1
      omega)
    have HE1 : Hid (CurEnd w w1 c a len cap) := HE.out.trans hE1
    have hsz : w.heap.size ≤ w1.heap.size := HE1.out.grown.size
    clear hE1 hown HE
    by_cases hlt : (k : Int) < x
    · go_wp2_with fail
      refine (below_any c len cap a hm 16 (by decide) (by decide) _ HE1.out.cur HE1.out.arg).mono ?_
      rintro e w2 ⟨y, rfl, y0, y1, hE2⟩
      have hown2 : w2.ownsRow w.heap.size 3 1 _ l.length (zsV l) := hown1.kept hE2.grown (by
        refine .inr ?_
        intro e
        have := (hown1.lt c e).1
        omega)
      have HE2 : Hid (CurEnd w w2 c a len cap) := HE1.out.trans hE2
      have hsz2 : w.heap.size ≤ w2.heap.size := HE2.out.grown.size
      clear hE2 hown1 HE1 hsz
      go_wp2_with (at_builtin; refine wpList_append_own _ rfl _ _ 24 rfl w.heap.size 3 i0 (.int .i64 0) 1 8 Try.underlying24 hi hz0 hz1 hz2 rfl (by decide) _ _ _ rfl (hown2.alloc _) ⟨w2.heap.size, 0, none⟩ 1 1 [.int .i64 y] rfl rfl (cell_one_new _ _ _) (one_cell _ _) hm63 hm47 (room_for hsz2 _) ?_)
      intro v' w3 hown' hgrow _
      have R : w3.ownsRow w.heap.size 3 1 v' (l ++ [y]).length (zsV (l ++ [y])) := by
        rw [zsV_append, List.length_append]; exact hown'
      have HE3 : Hid (CurEnd w w3 c a len cap) := (HE2.out.alloc _).push hgrow (fun k hk => by have := (hown2.lt k hk).1; omega) (fun k hk => (hown2.lt k hk).1)
      clear hown' hgrow hown2 HE2
      obtain ⟨g1, cv1, hv⟩ := row_some R (by simp)
      subst hv
      go_wp2
      go_roundw
      case rel => exact ⟨k + 1, _, by go_num, by omega, by simp [HLL.out], ⟨_, _, rfl⟩, R, HE3.out⟩
      case measure => simp [intOf]; omega
    · go_wp2_with fail
      refine (below_any c len cap a hm 12 (by decide) (by decide) _ HE1.out.cur HE1.out.arg).mono ?_
      rintro e w2 ⟨y, rfl, y0, y1, hE2⟩
      have hown2 : w2.ownsRow w.heap.size 3 1 _ l.length (zsV l) := hown1.kept hE2.grown (by
        refine .inr ?_
        intro e
        have := (hown1.lt c e).1
        omega)
      have HE2 : Hid (CurEnd w w2 c a len cap) := HE1.out.trans hE2
      have hsz2 : w.heap.size ≤ w2.heap.size := HE2.out.grown.size
      have HLB : Hid (l.length ≤ 8) := by have := HLL.out; show _ ≤ _; omega
      clear hE2 hown1 HE1 hsz hlt x0 x1
      by_cases h0 : y = 0
      · subst h0
        have hc2 : w2.heap.size ≠ c := by omega
        have HPK : Hid (Calls Try.prog 37 #[.pointer (some ⟨c, 0, none⟩), .slice (some ⟨w2.heap.size, 0, none⟩) 3 3] (w2.alloc (.cells #[.int .i64 (-1), .int .i64 15, .int .i64 16] 3)) fun e w' => ∃ x : Int, e = .returned (.int .i64 x) ∧ True ∧ CurEnd (w2.alloc (.cells #[.int .i64 (-1), .int .i64 15, .int .i64 16] 3)) w' c a len cap) :=
          pick_any c len cap a hm w2.heap.size 3 3 (by decide) (by decide) _ (HE2.out.alloc _).cur (HE2.out.alloc _).arg hc2 (fun _ => True) (ints_new w2 [-1, 15, 16] _ rfl _ (fun _ _ => trivial))
        go_wp2_with fail
        refine HPK.out.mono ?_
        rintro e w3 ⟨z, rfl, _, hE3⟩
        have hown3 : w3.ownsRow w.heap.size 3 1 _ l.length (zsV l) := (hown2.alloc _).kept hE3.grown (by
          refine .inr ?_
          intro e
          have := (hown2.lt c e).1
          omega)
        have HE3 : Hid (CurEnd w w3 c a len cap) := (HE2.out.alloc _).trans hE3
        have hsz3 : w.heap.size ≤ w3.heap.size := HE3.out.grown.size
        clear hE3 hown2 HE2 hsz2 HPK hc2
        go_wp2_with (at_builtin; refine wpList_append_own _ rfl _ _ 24 rfl w.heap.size 3 i0 (.int .i64 0) 1 8 Try.underlying24 hi hz0 hz1 hz2 rfl (by decide) _ _ _ rfl (hown3.alloc _) ⟨w3.heap.size, 0, none⟩ 1 1 [.int .i64 z] rfl rfl (cell_one_new _ _ _) (one_cell _ _) hm63 hm47 (room_for hsz3 _) ?_)
        intro v' w4 hown' hgrow _
        have R : RowZs w.heap.size w4 v' (l ++ [z]) := by
          unfold RowZs
          rw [zsV_append, List.length_append]; exact hown'
        have HE4 : Hid (CurEnd w w4 c a len cap) := (HE3.out.alloc _).push hgrow (fun k hk => by have := (hown3.lt k hk).1; omega) (fun k hk => (hown3.lt k hk).1)
        clear hown' hgrow hown3 HE3
        obtain ⟨g1, cv1, hv⟩ := row_some R (by simp)
        subst hv
        go_wp2
        go_ret
        exact ⟨_, _, _, rfl, by have := HLB.out; simp; omega, R, HE4.out⟩
      · have h0' : (y == 0) = false := beq_eq_false_iff_ne.2 h0
        by_cases h1 : y = 1
        · subst h1
          clear h0 h0'
          go_wp2_with fail
          refine (below_any c len cap a hm 2 (by decide) (by decide) _ HE2.out.cur HE2.out.arg).mono ?_
          rintro e w3 ⟨z, rfl, z0, z1, hE3⟩
          have HE3 : Hid (CurEnd w w3 c a len cap) := HE2.out.trans hE3
          have hsz3 : w.heap.size ≤ w3.heap.size := HE3.out.grown.size
          obtain ⟨n, rfl⟩ : ∃ n : Nat, z = (n : Int) := ⟨z.toNat, by omega⟩
          have hk1 : IntKind.i64.wrap (64 + (n : Int)) = 64 + (n : Int) := IntWalk.i64_in _ (by omega)
          have hmk : (Instr.makeSlice 24 (.int .i64 (64 + (n : Int))) (.int .i64 (64 + (n : Int)))).run Try.prog w3 = .ok (.slice (some ⟨w3.heap.size, 0, none⟩) (64 + n) (64 + n)) (w3.alloc (.cells (ic (fun _ => 0) (64 + n)) 3)) := by
            have h := make_ints (64 + n) (64 + n) (Nat.le_refl _) (by omega) w3
            rw [show (((64 + n : Nat)) : Int) = 64 + (n : Int) by omega] at h
            exact h
          have R : Hid (RowZs w.heap.size (w3.alloc (.cells (ic (fun _ => 0) (64 + n)) 3)) (.slice (some ⟨w3.heap.size, 0, none⟩) (64 + n) (64 + n)) (zls (fun _ => 0) (64 + n))) := (rowI_new w3 (fun _ => 0) (64 + n)).rowZ hsz3 (by omega)
          have HE4 : Hid (CurEnd w (w3.alloc (.cells (ic (fun _ => 0) (64 + n)) 3)) c a len cap) := HE3.out.alloc _
          have HLN : Hid ((zls (fun _ => 0) (64 + n)).length ≤ 65) := by show _ ≤ _; rw [zls_length]; omega
          generalize ic (fun _ => 0) (64 + n) = M at hmk R HE4
          clear hE3 hown2 HE2 hsz2 HE3
          go_wp2
          go_ret
          refine ⟨w3.heap.size, 64 + n, zls (fun _ => 0) (64 + n), ?_, HLN.out, ?_, HE4.out⟩
          · rw [zls_length]
            rfl
          · rw [zls_length]
            exact R.out
        · have h1' : (y == 1) = false := beq_eq_false_iff_ne.2 h1
          have R : Hid (RowZs w.heap.size w2 _ l) := hown2
          clear hown2
          go_wp2
          go_ret
          exact ⟨_, _, _, rfl, by have := HLB.out; omega, R.out, HE2.out⟩

end Go.Proofs.Ytengnjffajimdaa
