/-
  The draws of polynomials.
  (-DROP-: what the seat lacks is left out.)
-/
import Derived.Test.YtfiflcedbejamaaPolyI1
import Derived.Test.YtfiflcedbejamaaPolyMulS
import Derived.Test.YtfiflcedbejamaaScDraw
import Derived.Test.YtfiflcedbejamaaBlkDraw
namespace Go.Proofs.Ytfiflcedbejamaa
open Go.RowKit

set_option maxHeartbeats 800000 in
set_option maxRecDepth 100000 in
theorem sameZ_any (a b : Option Addr) (n c1 c2 : Nat) (hn : n ≤ 1048576) (f : Nat → Int) (w : World) (hA : IntsAt w a n w.heap.size f) (hB : IntsAt w b n w.heap.size f) :
    Calls Try.prog 15 #[.slice a n c1, .slice b n c2] w fun e w' => e = .returned (.bool true) ∧ Below w.heap.size w w' := by
  have HA : Hid (IntsAt w a n w.heap.size f) := hA
  have HB : Hid (IntsAt w b n w.heap.size f) := hB
  clear hA hB
  go_enter Try.func15, Try.ntmps15
  go_wp2
  go_loopw [5] (fun i wr => ∃ k : Nat, i = .int .i64 (k : Int) ∧ k ≤ n ∧ Hid (Below w.heap.size w wr)) (fun i _ => n - (intOf i).toNat)
  case atStart => exact ⟨0, rfl, Nat.zero_le _, Below.refl _ _⟩
  case round =>
    obtain ⟨k, rfl, hk, HW⟩ := hrel
    by_cases hlt : k < n
    · have hlt' : (k : Int) < (n : Int) := by omega
      have hk0 : (0 : Int) ≤ (k : Int) := by omega
      obtain ⟨b, off, rfl, hb, hz⟩ := (HA.out.on HW.out) k hlt
      obtain ⟨b', off', rfl, hb', hz'⟩ := (HB.out.on HW.out) k hlt
      generalize f k = x at hz hz'
      clear hb hb' HA HB
      go_wp2
      refine wp_region_still_tail 8 mixesSc (by kernel_rfl) ?_
      simp only [List.take_succ_cons, List.take_zero, List.drop_succ_cons, List.drop_zero]
      repeat still_step
      refine wpStill_nil ?_
      go_wp2
      go_roundw
      case rel => exact ⟨k + 1, by go_num, hlt, HW.out.drew⟩
      case measure => simp [intOf]; omega
    · have hlt' : ¬ (k : Int) < (n : Int) := by omega
      go_wp2
      go_ret
      exact ⟨rfl, HW.out⟩

theorem sameO_any (v u : Value) (l : List Int) (hl : l.length ≤ 1048576) (w : World) (h : ZAt w w.heap.size v l) (h2 : ZAt w w.heap.size u l) :
    Calls Try.prog 15 #[v, u] w fun e w' => e = .returned (.bool true) ∧ Below w.heap.size w w' := by
  obtain ⟨a, cp, rfl, hA⟩ := h
  obtain ⟨b, cq, rfl, hB⟩ := h2
  exact sameZ_any a b l.length cp cq hl _ w hA hB

set_option maxHeartbeats 1600000 in
set_option maxRecDepth 100000 in
theorem poly_any (c len cap : Nat) (a : Option Addr) (hm : len ≤ 1048576) (w : World) (hC : CurAt w c a len cap) (hA : ArgAt w a len c) :
    Calls Try.prog 57 #[.pointer (some ⟨c, 0, none⟩)] w fun e w' => ∃ (v : Value) (l : List Int), e = .returned v ∧ l.length ≤ 65 ∧ RowZs w.heap.size w' v l ∧ CurEnd w w' c a len cap := by
  obtain ⟨i0, hi, hz0, hz1, hz2⟩ := info_parts info3
  have hcl := hC.lt
  have HS : Hid (CurEnd w w c a len cap) := CurEnd.refl hC hA
  clear hA hC
  go_enter Try.func57, Try.ntmps57
  go_wp2
  go_loopw [3, 4] (fun v i wr => ∃ (k : Nat) (l : List Int), i = .int .i64 (k : Int) ∧ k ≤ 7 ∧ Hid (l.length = k) ∧ wr.ownsRow w.heap.size 3 1 v l.length (zsV l) ∧ Hid (CurEnd w wr c a len cap)) (fun _ i _ => 8 - (intOf i).toNat)
  case atStart => exact ⟨0, [], rfl, by omega, rfl, World.ownsRow_lit _ _ _ (Nat.le_refl _) (by simp [maxLen]) (by simp), HS.out.alloc _⟩
  case round =>
    obtain ⟨k, l, rfl, hk, HL, hown, HE⟩ := hrel
    have hm63 : l.length + 1 ≤ maxLen := by have := HL.out; unfold maxLen; omega
    have hm47 : (l.length + 1) * 8 ≤ 140737488355328 := by have := HL.out; omega
    go_wp2_with fail
    refine (below_any c len cap a hm 8 (by omega) (by omega) _ HE.out.cur HE.out.arg).mono ?_
    rintro e w1 ⟨x, rfl, x0, x1, hE1⟩
    have hown1 : w1.ownsRow w.heap.size 3 1 _ l.length (zsV l) := hown.kept hE1.grown (by
      refine .inr ?_
      intro e
      have := (hown.lt c e).1
      omega)
    have HE1 : Hid (CurEnd w w1 c a len cap) := HE.out.trans hE1
    clear hE1 hown HE
    by_cases hlt : (k : Int) < x
    · go_wp2_with fail
      refine (scNum_any c len cap a hm _ HE1.out.cur HE1.out.arg).mono ?_
      rintro e w2 ⟨y, rfl, _, hE2⟩
      have hown2 : w2.ownsRow w.heap.size 3 1 _ l.length (zsV l) := hown1.kept hE2.grown (by
        refine .inr ?_
        intro e
        have := (hown1.lt c e).1
        omega)
      have HE2 : Hid (CurEnd w w2 c a len cap) := HE1.out.trans hE2
      have hsz : w.heap.size ≤ w2.heap.size := HE2.out.grown.size
      clear hE2 hown1 HE1
      go_wp2_with (at_builtin; refine wpList_append_own _ rfl _ _ 24 rfl w.heap.size 3 i0 (.int .i64 0) 1 8 Try.underlying24 hi hz0 hz1 hz2 rfl (by decide) _ _ _ rfl (hown2.alloc _) ⟨w2.heap.size, 0, none⟩ 1 1 [.int .i64 y] rfl rfl (cell_one_new _ _ _) (one_cell _ _) hm63 hm47 (room_for hsz _) ?_)
      intro v' w4 hown' hgrow _
      have R : w4.ownsRow w.heap.size 3 1 v' (l ++ [y]).length (zsV (l ++ [y])) := by
        rw [zsV_append, List.length_append]; exact hown'
      have HE4 : Hid (CurEnd w w4 c a len cap) := (HE2.out.alloc _).push hgrow (fun k hk => by have := (hown2.lt k hk).1; omega) (fun k hk => (hown2.lt k hk).1)
      have HL2 : Hid ((l ++ [y]).length = k + 1) := (show (l ++ [y]).length = k + 1 by rw [List.length_append, HL.out]; rfl)
      clear hown' hgrow hown2
      go_wp2
      go_roundw
      case rel => exact ⟨k + 1, _, by go_num, by omega, HL2, R, HE4⟩
      case measure => simp [intOf]; omega
    · obtain ⟨ra, rc, hv⟩ := row_form hown1
      subst hv
      have HO : Hid (w1.ownsRow w.heap.size 3 1 (.slice ra l.length rc) l.length (zsV l)) := hown1
      have hl7 : l.length ≤ 7 := by have := HL.out; omega
      clear hown1 hm63 hm47
      go_wp2_with fail
      refine (once_any c len cap a hm 16 (by omega) (by omega) _ HE1.out.cur HE1.out.arg).mono ?_
      rintro e w2 ⟨b, rfl, hE2⟩
      have HE2 : Hid (CurEnd w w2 c a len cap) := HE1.out.trans hE2
      have HO2 : Hid (w2.ownsRow w.heap.size 3 1 (.slice ra l.length rc) l.length (zsV l)) := HO.out.kept hE2.grown (by
        refine .inr ?_
        intro e
        have := (HO.out.lt c e).1
        omega)
      clear hE2 HE1 HO
      cases b
      · go_wp2
        go_ret
        exact ⟨_, l, rfl, by omega, HO2.out, HE2.out⟩
      · go_wp2_with fail
        refine (below_any c len cap a hm 2 (by omega) (by omega) _ HE2.out.cur HE2.out.arg).mono ?_
        rintro e w3 ⟨y, rfl, y0, y1, hE3⟩
        have HE3 : Hid (CurEnd w w3 c a len cap) := HE2.out.trans hE3
        clear hE3 HE2 HO2
        obtain ⟨n, hn⟩ : ∃ n : Nat, 64 + y = (n : Int) := ⟨(64 + y).toNat, by omega⟩
        have hn1 : 64 ≤ n ∧ n ≤ 65 := by omega
        have hwn : IntKind.i64.wrap (n : Int) = (n : Int) := IntWalk.i64_in _ (by omega)
        have hmk0 : (Instr.makeSlice 24 (.int .i64 (n : Int)) (.int .i64 (n : Int))).run Try.prog w3 = .ok (.slice (some ⟨w3.heap.size, 0, none⟩) n n) (w3.alloc (.cells (ic (fun _ => 0) n) 3)) := make_ints n n (Nat.le_refl _) (by omega) w3
        have hsz3 : w.heap.size ≤ w3.heap.size := HE3.out.grown.size
        have HR : Hid (RowZs w3.heap.size (w3.alloc (.cells (ic (fun _ => 0) n) 3)) (.slice (some ⟨w3.heap.size, 0, none⟩) n n) (List.replicate n 0)) := rowZ_none w3 n (by omega)
        have HE3a : Hid (CurEnd w (w3.alloc (.cells (ic (fun _ => 0) n) 3)) c a len cap) := HE3.out.alloc _
        generalize w3.alloc (.cells (ic (fun _ => 0) n) 3) = V at hmk0 HR HE3a
        obtain ⟨g', c', hve, _, _, hz, hf⟩ := HR.out.cellZ (j := 5) (by simp; omega)
        have hgg : g' = w3.heap.size := by injection hve with e1; injection e1 with e1; injection e1 with e1; exact e1.symm
        subst hgg
        generalize (List.replicate n (0 : Int)).getD 5 0 = old at hz
        have h5 : (5 : Int) < (n : Int) := by omega
        have HR2 : Hid (RowZs w.heap.size (V.setCell ⟨w3.heap.size, 5, none⟩ (.int .i64 3)) (.slice (some ⟨w3.heap.size, 0, none⟩) n n) ((List.replicate n 0).set 5 3)) := owns_low (HR.out.put 5 3) hsz3
        have HE4 : Hid (CurEnd w (V.setCell ⟨w3.heap.size, 5, none⟩ (.int .i64 3)) c a len cap) := HE3a.out.cell hsz3 hcl _
        clear hve HR HE3
        go_wp2
        go_ret
        exact ⟨_, _, rfl, by rw [List.length_set, List.length_replicate]; omega, HR2.out, HE4.out⟩

/-- Two polynomials. -/
def PairEnd (w : World) (e : Ending) (w' : World) : Prop := ∃ (v u : Value) (l m : List Int), e = .returned (.tuple #[v, u]) ∧ l.length ≤ 65 ∧ m.length ≤ 65 ∧ ZAt w' w'.heap.size v l ∧ ZAt w' w'.heap.size u m ∧ Below w.heap.size w w'

set_option maxHeartbeats 800000 in
set_option maxRecDepth 100000 in
theorem pair_any (len cap : Nat) (a : Option Addr) (hm : len ≤ 1048576) (w : World) (hA : ArgAt w a len w.heap.size) :
    Calls Try.prog 60 #[.slice a len cap] w fun e w' => PairEnd w e w' := by
  have HA : Hid (ArgAt w a len w.heap.size) := hA
  clear hA
  go_enter Try.func60, Try.ntmps60
  go_wp2_with fail
  refine (new_any len cap a hm _ HA.out).mono ?_
  rintro e w1 ⟨rfl, hC, hA1, hb⟩
  have HC : Hid (CurAt w1 w.heap.size a len cap) := hC
  have HA1 : Hid (ArgAt w1 a len w.heap.size) := hA1
  have hl1 : w.heap.size ≤ w1.heap.size := hb.size
  have hl2 : w.heap.size < w1.heap.size := hC.lt
  clear hC hA1
  go_wp2_with fail
  refine (poly_any w.heap.size len cap a hm _ HC.out HA1.out).mono ?_
  rintro e w2 ⟨v, l, rfl, hl, hr, hE⟩
  have HR : Hid (RowZs w1.heap.size w2 v l) := hr
  have HE : Hid (CurEnd w1 w2 w.heap.size a len cap) := hE
  clear hE hr
  go_wp2_with fail
  refine (poly_any w.heap.size len cap a hm _ HE.out.cur HE.out.arg).mono ?_
  rintro e w3 ⟨u, m, rfl, hl3, hr3, hE⟩
  have HR3 : Hid (RowZs w2.heap.size w3 u m) := hr3
  have HR1 : Hid (RowZs w1.heap.size w3 v l) := HR.out.kept hE.grown (by
    refine .inr ?_
    intro e
    have := (HR.out.lt _ e).1
    omega)
  have HE2 : Hid (CurEnd w1 w3 w.heap.size a len cap) := HE.out.trans hE
  clear hE hr3 HE HR
  go_wp2
  go_ret2
  exact ⟨v, u, l, m, rfl, hl, hl3, (ZOwn.of HR1.out).at, (ZOwn.of HR3.out).at, hb.trans (below_of_grown HE2.out.grown hl1)⟩

set_option maxHeartbeats 800000 in
set_option maxRecDepth 100000 in
theorem pairM_any (len cap : Nat) (a : Option Addr) (hm : len ≤ 1048576) (w : World) (hA : ArgAt w a len w.heap.size) :
    Calls Try.prog 25 #[.slice a len cap] w fun e w' => PairEnd w e w' := by
  have HA : Hid (ArgAt w a len w.heap.size) := hA
  clear hA
  go_enter Try.func25, Try.ntmps25
  go_wp2_with fail
  refine (pair_any len cap a hm _ HA.out).mono ?_
  rintro e w1 ⟨v, u, l, m, rfl, h1, h2, h3, h4, hb⟩
  have HX : Hid (ZAt w1 w1.heap.size v l ∧ ZAt w1 w1.heap.size u m) := ⟨h3, h4⟩
  clear h3 h4
  go_wp2
  go_ret2
  exact ⟨v, u, l, m, rfl, h1, h2, HX.out.1, HX.out.2, hb⟩

set_option maxHeartbeats 800000 in
set_option maxRecDepth 100000 in
theorem pairD_any (len cap : Nat) (a : Option Addr) (hm : len ≤ 1048576) (w : World) (hA : ArgAt w a len w.heap.size) :
    Calls Try.prog 31 #[.slice a len cap] w fun e w' => PairEnd w e w' := by
  have HA : Hid (ArgAt w a len w.heap.size) := hA
  clear hA
  go_enter Try.func31, Try.ntmps31
  go_wp2_with fail
  refine (pair_any len cap a hm _ HA.out).mono ?_
  rintro e w1 ⟨v, u, l, m, rfl, h1, h2, h3, h4, hb⟩
  have HX : Hid (ZAt w1 w1.heap.size v l ∧ ZAt w1 w1.heap.size u m) := ⟨h3, h4⟩
  clear h3 h4
  go_wp2
  go_ret2
  exact ⟨v, u, l, m, rfl, h1, h2, HX.out.1, HX.out.2, hb⟩

set_option maxHeartbeats 800000 in
set_option maxRecDepth 100000 in
theorem thrDraw_any (len cap : Nat) (a : Option Addr) (hm : len ≤ 1048576) (w : World) (hA : ArgAt w a len w.heap.size) :
    Calls Try.prog 21 #[.slice a len cap] w fun e w' => ∃ (v : Value) (l : List Int), e = .returned v ∧ l.length ≤ 65 ∧ ZAt w' w'.heap.size v l ∧ Below w.heap.size w w' := by
  have HA : Hid (ArgAt w a len w.heap.size) := hA
  clear hA
  go_enter Try.func21, Try.ntmps21
  go_wp2_with fail
  refine (new_any len cap a hm _ HA.out).mono ?_
  rintro e w1 ⟨rfl, hC, hA1, hb⟩
  have HC : Hid (CurAt w1 w.heap.size a len cap) := hC
  have HA1 : Hid (ArgAt w1 a len w.heap.size) := hA1
  have hl1 : w.heap.size ≤ w1.heap.size := hb.size
  clear hC hA1
  go_wp2_with fail
  refine (once_any w.heap.size len cap a hm 12 (by omega) (by omega) _ HC.out HA1.out).mono ?_
  rintro e w2 ⟨b, rfl, hE⟩
  have HE : Hid (CurEnd w1 w2 w.heap.size a len cap) := hE
  clear hE
  cases b
  · go_wp2_with fail
    refine (poly_any w.heap.size len cap a hm _ HE.out.cur HE.out.arg).mono ?_
    rintro e w3 ⟨v, l, rfl, hl, hr, hE⟩
    have HR : Hid (RowZs w2.heap.size w3 v l) := hr
    have HE3 : Hid (CurEnd w1 w3 w.heap.size a len cap) := HE.out.trans hE
    clear hE hr
    go_wp2
    go_ret
    exact ⟨v, l, rfl, hl, (ZOwn.of HR.out).at, hb.trans (below_of_grown HE3.out.grown hl1)⟩
  · go_wp2_with fail
    refine (below_any w.heap.size len cap a hm 2 (by omega) (by omega) _ HE.out.cur HE.out.arg).mono ?_
    rintro e w3 ⟨y, rfl, y0, y1, hE3⟩
    have HE3 : Hid (CurEnd w1 w3 w.heap.size a len cap) := HE.out.trans hE3
    clear hE3 HE
    obtain ⟨n, hn⟩ : ∃ n : Nat, 16 + y = (n : Int) := ⟨(16 + y).toNat, by omega⟩
    have hn1 : 16 ≤ n ∧ n ≤ 17 := by omega
    have hwn : IntKind.i64.wrap (n : Int) = (n : Int) := IntWalk.i64_in _ (by omega)
    have hmk : ∀ W : World, (Instr.makeSlice 24 (.int .i64 (n : Int)) (.int .i64 (n : Int))).run Try.prog W = .ok (.slice (some ⟨W.heap.size, 0, none⟩) n n) (W.alloc (.cells (ic (fun _ => 0) n) 3)) := fun W => make_ints n n (Nat.le_refl _) (by omega) W
    have HR : Hid (RowZs w3.heap.size (w3.alloc (.cells (ic (fun _ => 0) n) 3)) (.slice (some ⟨w3.heap.size, 0, none⟩) n n) (List.replicate n 0)) := rowZ_none w3 n (by omega)
    generalize ic (fun _ => 0) n = M at hmk HR
    go_wp2
    go_ret
    exact ⟨_, _, rfl, by simp; omega, (ZOwn.of HR.out).at, (hb.trans (below_of_grown HE3.out.grown hl1)).alloc (Nat.le_trans hl1 HE3.out.grown.size) _⟩

end Go.Proofs.Ytfiflcedbejamaa
