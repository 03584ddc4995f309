/-
  The walk of the law of systems.
  (-DROP-: what the seat lacks is left out.)
-/
import Derived.Test.YtfiflcedbejamaaRwSatD
import Derived.Test.YtfiflcedbejamaaRwMath
import Derived.Test.YtfiflcedbejamaaRwSys3
import Derived.Test.YtfiflcedbejamaaPolyDraw
import Derived.Test.YtfiflcedbejamaaPolyMulS
import Derived.Test.YtfiflcedbejamaaByteArg
namespace Go.Proofs.Ytfiflcedbejamaa
open Go.RowKit

theorem ArgAt.widen {w : World} {a : Option Addr} {len c d : Nat} (h : ArgAt w a len c) (hd : c ≤ d) : ArgAt w a len d := fun j hj => by
  obtain ⟨b, off, z, h1, h2, h3⟩ := h j hj
  exact ⟨b, off, z, h1, by omega, h3⟩
/-- A piece of a list. -/
theorem ZOwn.piece {lo hi : Nat} {w : World} {g n c : Nat} {l : List Int} (h : ZOwn lo hi w (.slice (some ⟨g, 0, none⟩) n c) l) (i k : Nat) (hik : i + k ≤ l.length) (cp : Nat) : ZAt w hi (.slice (some ⟨g, i, none⟩) k cp) ((l.drop i).take k) := by
  obtain ⟨a, cq, hv, hI⟩ := h.at
  injection hv with e1 e2 e3
  subst e1
  have hl : ((l.drop i).take k).length = k := by simp; omega
  refine ⟨some ⟨g, i, none⟩, cp, by rw [hl], ?_⟩
  rw [hl]
  intro j hj
  obtain ⟨b, off, e, hb, hc⟩ := hI (i + j) (by omega)
  injection e with e
  injection e with e4 e5
  subst e4
  subst e5
  refine ⟨g, i, rfl, hb, ?_⟩
  rw [show i + j = 0 + (i + j) by omega, hc]
  congr 2
  simp [List.getD_eq_getElem?_getD, List.getElem?_drop, hj]
theorem csN_le (j : Nat) : ((csN 10).getD j []).length ≤ 9223372036854775807 := by
  by_cases hj : j < 10 * 3
  · have := csN_small j hj; omega
  · rw [List.getD_eq_getElem?_getD, List.getElem?_eq_none (by rw [csN_len]; omega)]
    exact Nat.zero_le _
theorem wit_pub {b : Int} (h0 : 0 ≤ b) (h1 : b < 256) : ((witOf b).drop 1).take 2 = pubOf b := by
  rw [witOf_eq h0 h1]
  rfl

set_option maxHeartbeats 6400000 in
set_option maxRecDepth 100000 in
theorem lawRows (a : Option Addr) (len cap : Nat) (hm : len ≤ 9223372036854775807) (w : World) (hA : ArgAt w a len w.heap.size) :
    Calls Try.prog 3 #[.slice a len cap] w fun e w' => e = .returned (.bool true) ∧ Below w.heap.size w w' := by
  obtain ⟨i0, hi, hz0, hz1, hz2⟩ := info_parts info3I
  have HA : Hid (ArgAt w a len w.heap.size) := hA
  clear hA
  by_cases hb : 1048576 < len
  · have hd : decide (1048576 < len) = true := decide_eq_true hb
    go_enter Try.func3, Try.ntmps3
    go_wp2_with (go_at_call 9; refine (big_any _ _ _ hm _).mono ?_; rintro e w0 ⟨rfl, rfl⟩)
    go_ret
    exact ⟨rfl, Below.refl _ _⟩
  · have hd : decide (1048576 < len) = false := decide_eq_false hb
    have hm1 : len ≤ 1048576 := by omega
    have CB : Hid (∀ w, Calls Try.prog 9 #[.slice a len cap] w fun e w' => e = .returned (.bool false) ∧ w = w') := fun w => by rw [← hd]; exact big_any _ _ _ hm w
    clear hb hd hm
    go_enter Try.func3, Try.ntmps3
    go_wp2_with fail
    go_at_call 9
    refine (CB.out _).mono ?_
    rintro e wz ⟨rfl, rfl⟩
    go_wp2_with fail
    refine (places_any len cap a hm1 _ HA.out).mono ?_
    rintro e w1 ⟨g, gp, xs, rfl, hg, _, hx, hb1⟩
    have HA1 : Hid (ArgAt w1 a len w1.heap.size) := (HA.out.on hb1).widen hb1.size
    have HB1 : Hid (Below w.heap.size w w1) := hb1
    have c0 := (hx 0 (by omega)).2
    have HX : Hid ((xs 1 < 10000 ∧ w1.cell? ⟨g, 1, none⟩ = some (.int .i64 (xs 1 : Int))) ∧ xs 2 < 10000 ∧ w1.cell? ⟨g, 2, none⟩ = some (.int .i64 (xs 2 : Int))) := ⟨hx 1 (by omega), hx 2 (by omega)⟩
    have hx0 := (hx 0 (by omega)).1
    clear hx hb1 HA CB
    generalize xs 0 = x0 at c0 hx0
    generalize xs 1 = x1 at HX
    generalize xs 2 = x2 at HX
    obtain ⟨b, hbm⟩ : ∃ b, Int.tmod (x0 : Int) 256 = b := ⟨_, rfl⟩
    have hb0 : 0 ≤ b ∧ b < 256 := by rw [← hbm, Int.tmod_eq_emod_of_nonneg (by omega)]; omega
    go_wp2_with fail
    refine (iCS_any w1).mono ?_
    rintro e w2 ⟨v2, vs, rfl, hO2, hb2⟩
    obtain ⟨ra, rc, hv2⟩ := row_form hO2.row
    subst hv2
    have HO2 : Hid (NOwnV 3 56 w1.heap.size w2.heap.size w2 (.slice ra 10 rc) 10 vs (csN 10)) := hO2
    have hs2 : w1.heap.size ≤ w2.heap.size := hb2.size
    have HB2 : Hid (Below w1.heap.size w1 w2) := hb2
    clear hO2 hb2 c0 hbm
    unfold sysV
    obtain ⟨V0, hV0, hbv0, hsv0⟩ := box1 w2 28 #[.int .i64 0, .int .i64 0, .slice none 0 0]
    go_wp2_with (refine store_blkS (cs' := #[.int .i64 11, .int .i64 2, .slice ra 10 rc]) rfl rfl rfl rfl rfl hsv0 infoSy rfl (onesSy _ _ _ _ _) ?_; intro V3 hsy hheap hoth hbel; have hbV3 := hbel _ _ (Nat.le_refl _) hbv0; clear hoth hbel hheap)
    have HO3 : Hid (NOwnV 3 56 w1.heap.size w2.heap.size V3 (.slice ra 10 rc) 10 vs (csN 10)) := HO2.out.same (Same.of_below hbV3 (Nat.le_refl _))
    have hsy3 : w2.heap.size < V3.heap.size := hsy.lt
    have HSY3 : Hid (Blk V3 w2.heap.size 28 #[.int .i64 11, .int .i64 2, .slice ra 10 rc]) := hsy
    have HB3 : Hid (Below w1.heap.size w1 V3) := HB2.out.trans (hbV3.mono hs2)
    clear hV0 hbv0 hsv0 hbV3 hsy HO2 HB2
    refine (iWit_any b V3).mono ?_
    rintro e w4 ⟨wv, rfl, hwv, hb4⟩
    have hwl := wit_len hb0.1 hb0.2
    obtain ⟨gw, cw, hwf, hgw1, hgw2, _, _⟩ := hwv.cellZ (j := 0) (by omega)
    rw [hwl] at hwf
    subst hwf
    have hs4 : V3.heap.size ≤ w4.heap.size := hb4.size
    have HWT : Hid (ZOwn V3.heap.size w4.heap.size w4 (.slice (some ⟨gw, 0, none⟩) 11 cw) (witOf b)) := ZOwn.of hwv
    have HO4 : Hid (NOwnV 3 56 w1.heap.size w2.heap.size w4 (.slice ra 10 rc) 10 vs (csN 10)) := HO3.out.same (Same.of_below hb4 (by omega))
    have HSY4 : Hid (Blk w4 w2.heap.size 28 #[.int .i64 11, .int .i64 2, .slice ra 10 rc]) := HSY3.out.on hb4 HSY3.out.lt
    have HB4 : Hid (Below w1.heap.size w1 w4) := HB3.out.trans (hb4.mono (by omega))
    have hcw : 11 ≤ cw := by have := hwv.cap; omega
    have HWL : Hid ((witOf b).length = 11) := hwl
    clear hwv hb4 HO3 HSY3 HB3 hwl
    have C1 : Hid (∀ W, Below w4.heap.size w4 W → Calls Try.prog 13 #[.agg #[.int .i64 11, .int .i64 2, .slice ra 10 rc]] W fun e w' => e = .returned (.bool true) ∧ Below W.heap.size W w') := fun W hW => by
      rw [← (wit_so hb0.1 hb0.2).2]
      exact iSysOk_any 11 2 (wf_small (by decide) (by decide)) ra 10 rc (by decide) (csN 10) (fun j => csN_le j) W ((HO4.out.at.on (hW.mono (by omega))).wide (by have := hW.size; omega))
    have C2 : Hid (∀ W, Below w4.heap.size w4 W → Calls Try.prog 14 #[.agg #[.int .i64 11, .int .i64 2, .slice ra 10 rc], .slice (some ⟨gw, 0, none⟩) 11 cw] W fun e w' => e = .returned (.bool true) ∧ Below W.heap.size W w') := fun W hW => by
      rw [← (wit_so hb0.1 hb0.2).1]
      obtain ⟨am, cm, hv, hI⟩ := ((HWT.out.at.on hW).wide hW.size)
      have h := iSat_any 11 2 (wf_small (by decide) (by decide)) ra 10 rc (by decide) (csN 10) (fun j => csN_le j) am cm (witOf b) (by rw [HWL.out]; decide) W ((HO4.out.at.on (hW.mono (by omega))).wide (by have := hW.size; omega)) hI
      rw [← hv] at h
      exact h
    have C3 : Hid (∀ W, Calls Try.prog 16 #[.int .i64 b] W fun e w' => ∃ v, e = .returned v ∧ RowZs W.heap.size w' v (pubOf b) ∧ Below W.heap.size W w') := fun W => iPub_any b W
    have C4 : Hid (∀ W (v : Value), Below w4.heap.size w4 W → ZAt W W.heap.size v (pubOf b) → Calls Try.prog 15 #[v, .slice (some ⟨gw, 1, none⟩) 2 (cw - 1)] W fun e w' => e = .returned (.bool true) ∧ Below W.heap.size W w') := fun W v hW hv => by
      refine sameO_any v _ (pubOf b) (show 2 ≤ 1048576 by decide) W hv ?_
      rw [← wit_pub hb0.1 hb0.2]
      exact (((HWT.out.on hW (Nat.le_refl _)).piece 1 2 (by rw [HWL.out]; decide) _).wide hW.size)
    have T0 : Below w4.heap.size w4 w4.drew := (Below.refl _ _).drew
    have hc3 : (3 : Int) ≤ (cw : Int) := by omega
    have hc4 : ¬ cw = 1 := by omega
    have hc5 : 3 ≤ cw := by omega
    go_wp2_with fail
    refine wp_region_ord [(0, false), (1, true), (2, false), (3, false), (4, false), (5, false), (6, true), (7, false), (8, false), (9, false), (10, false), (11, false), (12, false), (13, false), (14, false), (15, false), (16, false), (17, false), (19, false), (20, false), (18, true), (21, true), (22, false), (23, false)] (fun wz => Below w4.heap.size w4 wz) mixesSc (by kernel_rfl) T0 ?_
    repeat (refine ord_float rfl rfl (fun K hK => ⟨_, (fun w' hw => by have q0 := (HSY4.out.on hw HSY4.out.lt).cell 0; have q1 :=  (HSY4.out.on hw HSY4.out.lt).cell 1; have q2 :=  (HSY4.out.on hw HSY4.out.lt).cell 2; go_simp; exact rfl), ?_⟩); go_simp; refine hK _ ?_; clear hK K)
    refine ord_call rfl rfl (fun K hK => ⟨_, _, (by go_simp <;> first | exact rfl | exact ⟨rfl, rfl⟩), ?_⟩)
    refine (C1.out _ T0).mono ?_
    rintro e u1 ⟨rfl, hu1⟩
    have T1 := T0.trans (hu1.mono T0.size)
    refine ⟨_, rfl, T1, ?_⟩
    go_simp
    refine hK _ _ ?_
    clear hK K
    repeat (refine ord_float rfl rfl (fun K hK => ⟨_, (fun w' hw => by have q0 := (HSY4.out.on hw HSY4.out.lt).cell 0; have q1 :=  (HSY4.out.on hw HSY4.out.lt).cell 1; have q2 :=  (HSY4.out.on hw HSY4.out.lt).cell 2; go_simp; exact rfl), ?_⟩); go_simp; refine hK _ ?_; clear hK K)
    refine ord_call rfl rfl (fun K hK => ⟨_, _, (by go_simp <;> first | exact rfl | exact ⟨rfl, rfl⟩), ?_⟩)
    refine (C2.out _ T1).mono ?_
    rintro e u2 ⟨rfl, hu2⟩
    have T2 := T1.trans (hu2.mono T1.size)
    refine ⟨_, rfl, T2, ?_⟩
    go_simp
    refine hK _ _ ?_
    clear hK K
    repeat (refine ord_float rfl rfl (fun K hK => ⟨_, (fun w' hw => by have q0 := (HSY4.out.on hw HSY4.out.lt).cell 0; have q1 :=  (HSY4.out.on hw HSY4.out.lt).cell 1; have q2 :=  (HSY4.out.on hw HSY4.out.lt).cell 2; go_simp; exact rfl), ?_⟩); go_simp; refine hK _ ?_; clear hK K)
    refine ord_call rfl rfl (fun K hK => ⟨_, _, (by go_simp <;> first | exact rfl | exact ⟨rfl, rfl⟩), ?_⟩)
    refine (C3.out _).mono ?_
    rintro e u3 ⟨pv, rfl, hpv, hu3⟩
    have T3 := T2.trans (hu3.mono T2.size)
    refine ⟨_, rfl, T3, ?_⟩
    go_simp
    refine hK _ _ ?_
    clear hK K
    repeat (refine ord_float rfl rfl (fun K hK => ⟨_, (fun w' hw => by have q0 := (HSY4.out.on hw HSY4.out.lt).cell 0; go_simp; exact rfl), ?_⟩); go_simp; refine hK _ ?_; clear hK K)
    refine ord_call rfl rfl (fun K hK => ⟨_, _, (by go_simp <;> first | exact rfl | exact ⟨rfl, rfl⟩), ?_⟩)
    refine (C4.out _ _ T3 (ZOwn.of hpv).at).mono ?_
    rintro e w5 ⟨rfl, hu4⟩
    have T4 := T3.trans (hu4.mono T3.size)
    refine ⟨_, rfl, T4, ?_⟩
    go_simp
    refine hK _ _ ?_
    clear hK K
    repeat (refine ord_float rfl rfl (fun K hK => ⟨_, (fun w' hw => by have q0 := (HSY4.out.on hw HSY4.out.lt).cell 0; go_simp; exact rfl), ?_⟩); go_simp; refine hK _ ?_; clear hK K)
    refine ord_nil ?_
    have HO5 : Hid (NOwnV 3 56 w1.heap.size w2.heap.size w5 (.slice ra 10 rc) 10 vs (csN 10)) := HO4.out.same (Same.of_below T4 (by omega))
    have HSY5 : Hid (Blk w5 w2.heap.size 28 #[.int .i64 11, .int .i64 2, .slice ra 10 rc]) := HSY4.out.on T4 HSY4.out.lt
    have HWT5 : Hid (ZOwn V3.heap.size w4.heap.size w5 (.slice (some ⟨gw, 0, none⟩) 11 cw) (witOf b)) := HWT.out.on T4 (Nat.le_refl _)
    have HB5 : Hid (Below w1.heap.size w1 w5) := HB4.out.trans (T4.mono (by omega))
    have hs5 : w4.heap.size ≤ w5.heap.size := T4.size
    clear T0 T1 T2 T3 T4 hu1 hu2 hu3 hu4 hpv C1 C2 C3 C4 HO4 HSY4 HWT HB4
    have hE6 : (w5.alloc (.cells #[] 3)).ownsRow w5.heap.size 3 1 (.slice (some ⟨w5.heap.size, 0, none⟩) 0 0) 0 [] := World.ownsRow_lit w5 #[] 0 (Nat.le_refl _) (by simp [maxLen]) (by simp)
    obtain ⟨am, cm, hv, hI⟩ := HWT5.out.at
    obtain ⟨b0', o0', hab, hbb, N0⟩ := ints_news hI (by rw [HWL.out]; decide)
    have hgb : b0' = gw ∧ o0' = 0 := by
      injection hv with e1
      rw [hab] at e1
      injection e1 with e1
      injection e1 with e1 e2
      exact ⟨e1.symm, e2.symm⟩
    obtain ⟨rfl, rfl⟩ := hgb
    have hn6 : ∀ j q, (zsV (witOf b))[j]? = some q → (w5.alloc (.cells #[] 3)).cell? ((⟨b0', 0, none⟩ : Addr).add j) = some q := fun j q hq => by
      rw [Addr.add_lit]
      rw [← N0 j q hq, Addr.add_lit]
      exact World.cell?_of_block (a := ⟨b0', 0 + j, none⟩) (Below.heap_alloc w5 _ b0' (by omega))
    have HN6 : Hid (∀ j q, (zsV (witOf b))[j]? = some q → (w5.alloc (.cells #[] 3)).cell? ((⟨b0', 0, none⟩ : Addr).add j) = some q) := hn6
    clear hv hI hab hbb N0 hn6
    go_wp2_with (at_builtin; refine wpList_append_own_at _ rfl _ _ 24 rfl w5.heap.size 3 i0 (.int .i64 0) 1 8 Try.underlying24 hi hz0 hz1 hz2 rfl (by decide) _ _ _ rfl hE6 ⟨b0', 0, none⟩ 11 cw (zsV (witOf b)) rfl (by rw [zsV, List.length_map, HWL.out]) HN6.out (zsV_one _) (by unfold maxLen; omega) (by omega) (by simp) ?_)
    intro u6 w6 hown6 hg6 _ hat6
    have hg8 : (w5.alloc (.cells #[] 3)).grownBy w6 (some w5.heap.size) := hg6
    have hR6 : RowZs w5.heap.size w6 u6 (witOf b) := by
      unfold RowZs
      rw [HWL.out]
      exact hown6
    have hz8 : (w5.alloc (.cells #[] 3)).heap.size = w5.heap.size + 1 := by simp
    have hs6 : w5.heap.size + 1 ≤ w6.heap.size := by have := hg8.size; omega
    have hB56 : Below w5.heap.size w5 w6 := ⟨hg8.os, hg8.tape, hg8.output, by omega, fun k hk => (hg8.block k (by omega) (fun e => by have := Option.some.inj e; omega)).trans (Below.heap_alloc w5 _ k hk)⟩
    obtain ⟨g6, c6, hu6, hg6l, hg6h, _, _⟩ := hR6.cellZ (j := 0) (by rw [HWL.out]; decide)
    rw [HWL.out] at hu6
    subst hu6
    have HBT : Hid (ZOwn w5.heap.size w6.heap.size w6 (.slice (some ⟨g6, 0, none⟩) 11 c6) (witOf b)) := ZOwn.of hR6
    have HO6 : Hid (NOwnV 3 56 w1.heap.size w2.heap.size w6 (.slice ra 10 rc) 10 vs (csN 10)) := HO5.out.same (Same.of_below hB56 (by omega))
    have HSY6 : Hid (Blk w6 w2.heap.size 28 #[.int .i64 11, .int .i64 2, .slice ra 10 rc]) := HSY5.out.on hB56 HSY5.out.lt
    have HB6 : Hid (Below w1.heap.size w1 w6) := HB5.out.trans (hB56.mono (by omega))
    clear hown6 hg6 hg8 hR6 hz8 hat6 hE6 HN6 hB56 HO5 HSY5 HWT5 HB5
    obtain ⟨j, hj, hjl⟩ : ∃ j : Nat, Int.tmod (x1 : Int) 10 = (j : Int) ∧ j < 10 := ⟨(Int.tmod (x1 : Int) 10).toNat, by rw [Int.tmod_eq_emod_of_nonneg (by omega)]; omega, by rw [Int.tmod_eq_emod_of_nonneg (by omega)]; omega⟩
    obtain ⟨i, hij⟩ : ∃ i : Nat, i = 1 + j := ⟨_, rfl⟩
    have hi1 : (1 : Int) + (j : Int) = (i : Int) := by omega
    have hwi : IntKind.i64.wrap (i : Int) = (i : Int) := IntWalk.i64_in _ (by omega)
    have hil : (i : Int) < 11 := by omega
    have hi0' : (0 : Int) ≤ (i : Int) := by omega
    have hin : 1 ≤ i ∧ i < 11 := by omega
    obtain ⟨k2, hk2, hk20, hk21⟩ : ∃ k2 : Int, Int.tmod (x2 : Int) 1008 = k2 ∧ 0 ≤ k2 ∧ k2 < 1008 := ⟨_, rfl, by rw [Int.tmod_eq_emod_of_nonneg (by omega)]; omega, by rw [Int.tmod_eq_emod_of_nonneg (by omega)]; omega⟩
    obtain ⟨d, hd⟩ : ∃ d : Int, 1 + k2 = d := ⟨_, rfl⟩
    have hwd : IntKind.i64.wrap d = d := IntWalk.i64_in _ (by omega)
    have hd1 : 1 ≤ d ∧ d ≤ 1008 := by omega
    have p1 : w6.cell? ⟨g, 1, none⟩ = some (.int .i64 (x1 : Int)) := (HB6.out.cell (p := ⟨g, 1, none⟩) hg).trans HX.out.1.2
    have p2 : w6.cell? ⟨g, 2, none⟩ = some (.int .i64 (x2 : Int)) := (HB6.out.cell (p := ⟨g, 2, none⟩) hg).trans HX.out.2.2
    obtain ⟨g9, c9, hv9, _, _, hcz, hcf⟩ := HBT.out.1.cellZ (j := i) (by rw [HWL.out]; exact hin.2)
    have hg9 : g9 = g6 := by injection hv9 with e1; injection e1 with e1; injection e1 with e1; exact e1.symm
    subst hg9
    have HC : Hid (∀ wz : World, wz.heap = w6.heap → wz.cell? ⟨g9, i, none⟩ = some (.int .i64 ((witOf b).getD i 0)) ∧ wz.frozen? ⟨g9, i, none⟩ = false ∧ wz.cell? ⟨g, 2, none⟩ = some (.int .i64 (x2 : Int))) := fun wz hwz => ⟨cell_heap hcz hwz, free_heap hcf hwz, cell_heap p2 hwz⟩
    have CA : Hid (∀ w, Calls Try.prog 17 #[.int .i64 ((witOf b).getD i 0), .int .i64 d] w fun e w' => e = .returned (.int .i64 (scAdd ((witOf b).getD i 0) d)) ∧ w = w') := sScAdd_any _ _
    have HNO : Hid (sysSo 11 2 10 (csN 10) ((witOf b).set i (scAdd ((witOf b).getD i 0) d)) = false) := bent_no hb0.1 hb0.2 hd1.1 hd1.2 hin.1 hin.2
    have HPUT : Hid (∀ wz : World, wz.heap = w6.heap → ZOwn w5.heap.size w6.heap.size (wz.setCell ⟨g9, i, none⟩ (.int .i64 (scAdd ((witOf b).getD i 0) d))) (.slice (some ⟨g9, 0, none⟩) 11 c6) ((witOf b).set i (scAdd ((witOf b).getD i 0) d))) := fun wz hwz => ⟨(HBT.out.1.heap hwz).put i _, HBT.out.2⟩
    have HWL2 : Hid (((witOf b).set i (scAdd ((witOf b).getD i 0) d)).length = 11) := by show _ = _; rw [List.length_set, HWL.out]
    generalize (witOf b).set i (scAdd ((witOf b).getD i 0) d) = bent at HNO HPUT HWL2
    generalize scAdd ((witOf b).getD i 0) d = y at CA HPUT
    generalize (witOf b).getD i 0 = x at HC CA
    clear hv9 hcz hcf HBT hij
    go_wp2_with fail
    clear p1 hj hi1
    refine wp_region_last [(0, false), (1, false), (2, false), (3, false), (4, false), (5, false), (6, false), (7, false), (8, false), (9, false), (10, false), (11, true), (12, false)] 13 (fun wz => wz.heap = w6.heap) mixesSc (by kernel_rfl) rfl ?_
    repeat (refine ord_float rfl rfl (fun K hK => ⟨_, (fun w' hw => by have q0 := (HC.out w' hw).1; have q1 :=  (HC.out w' hw).2.2; go_simp; exact rfl), ?_⟩); go_simp; refine hK _ ?_; clear hK K)
    refine ord_call rfl rfl (fun K hK => ⟨_, _, (by go_simp <;> first | exact rfl | exact ⟨rfl, rfl⟩), ?_⟩)
    refine (CA.out _).mono ?_
    rintro e u7 ⟨rfl, hu7⟩
    have T7 : u7.heap = w6.heap := (by rw [← hu7]; rfl)
    refine ⟨_, rfl, T7, ?_⟩
    go_simp
    refine hK _ _ ?_
    clear hK K
    repeat (refine ord_float rfl rfl (fun K hK => ⟨_, (fun w' hw => by have q0 := (HC.out w' hw).1; go_simp; exact rfl), ?_⟩); go_simp; refine hK _ ?_; clear hK K)
    refine ord_nil ?_
    have hq1 := (HC.out u7 T7).1
    have hq2 := (HC.out u7 T7).2.1
    refine last_store rfl rfl rfl (u7.setCell ⟨g9, i, none⟩ (.int .i64 y)) (by go_simp <;> rfl) ?_
    have HBT7 : Hid (ZOwn w5.heap.size w6.heap.size (u7.setCell ⟨g9, i, none⟩ (.int .i64 y)) (.slice (some ⟨g9, 0, none⟩) 11 c6) bent) := HPUT.out u7 T7
    have hB67 : Below w5.heap.size w6 (u7.setCell ⟨g9, i, none⟩ (.int .i64 y)) := by
      subst hu7
      exact (Below.refl _ _).drew.setCell (by show w5.heap.size ≤ g9; omega) _
    have hs7 : w6.heap.size ≤ (u7.setCell ⟨g9, i, none⟩ (.int .i64 y)).heap.size := hB67.size
    have HO7 : Hid (NOwnV 3 56 w1.heap.size w2.heap.size (u7.setCell ⟨g9, i, none⟩ (.int .i64 y)) (.slice ra 10 rc) 10 vs (csN 10)) := HO6.out.same (Same.of_below hB67 (by omega))
    have HSY7 : Hid (Blk (u7.setCell ⟨g9, i, none⟩ (.int .i64 y)) w2.heap.size 28 #[.int .i64 11, .int .i64 2, .slice ra 10 rc]) := HSY6.out.on hB67 (by omega)
    have HB7 : Hid (Below w1.heap.size w1 (u7.setCell ⟨g9, i, none⟩ (.int .i64 y))) := HB6.out.trans (hB67.mono (by omega))
    generalize u7.setCell ⟨g9, i, none⟩ (.int .i64 y) = w7 at HBT7 hs7 HO7 HSY7 HB7 ⊢
    clear hu7 T7 hq1 hq2 hB67 HC CA HPUT HO6 HSY6 HB6 p2 hk2 hd hwd hwi
    have HA7 : Hid (ArgAt w7 a len w7.heap.size) := (HA1.out.on HB7.out).widen HB7.out.size
    go_wp2_with fail
    refine (satD_any len cap a hm1 _ HA7.out).mono ?_
    rintro e w8 ⟨wi, pu, v, u, n, ls, m, rfl, hwf, hn, hls, hml, hN, hM, hb8⟩
    obtain ⟨va, vc, rfl⟩ : ∃ va vc, v = .slice va n vc := by obtain ⟨_, va, vc, h, _⟩ := hN; exact ⟨va, vc, h⟩
    obtain ⟨ua, uc, rfl⟩ : ∃ ua uc, u = .slice ua m.length uc := by obtain ⟨ua, uc, h, _⟩ := hM; exact ⟨ua, uc, h⟩
    have HN8 : Hid (NAt 3 w8 w8.heap.size (.slice va n vc) n ls) := hN
    have HM8 : Hid (ZAt w8 w8.heap.size (.slice ua m.length uc) m) := hM
    have HLS : Hid (∀ j, (ls.getD j []).length ≤ 9223372036854775807) := fun j => by have := hls j; omega
    have HWF : Hid ((Lit.int .i64 wi).wf = true) := hwf
    have HSY8 : Hid (Blk w8 w2.heap.size 28 #[.int .i64 11, .int .i64 2, .slice ra 10 rc]) := HSY7.out.on hb8 HSY7.out.lt
    have HO8 : Hid (NOwnV 3 56 w1.heap.size w2.heap.size w8 (.slice ra 10 rc) 10 vs (csN 10)) := HO7.out.same (Same.of_below hb8 (by omega))
    have HBT8 : Hid (ZOwn w5.heap.size w6.heap.size w8 (.slice (some ⟨g9, 0, none⟩) 11 c6) bent) := HBT7.out.on hb8 (by omega)
    have HB8 : Hid (Below w1.heap.size w1 w8) := HB7.out.trans (hb8.mono (by omega))
    have hs8 : w7.heap.size ≤ w8.heap.size := hb8.size
    clear hN hM hls hwf hb8 HSY7 HO7 HBT7 HB7 HA7
    unfold sysV
    obtain ⟨V0, hV0, hbv0, hsv0⟩ := box1 w8 28 #[.int .i64 0, .int .i64 0, .slice none 0 0]
    go_wp2_with (refine store_blkS (cs' := #[.int .i64 wi, .int .i64 pu, .slice va n vc]) rfl rfl rfl rfl rfl hsv0 infoSy rfl (onesSy _ _ _ _ _) ?_; intro w9 hsy hheap hoth hbel; have hb9 := hbel _ _ (Nat.le_refl _) hbv0; clear hoth hbel hheap)
    have hs9 : w8.heap.size ≤ w9.heap.size := hb9.size
    have HSX9 : Hid (Blk w9 w8.heap.size 28 #[.int .i64 wi, .int .i64 pu, .slice va n vc]) := hsy
    have HSY9 : Hid (Blk w9 w2.heap.size 28 #[.int .i64 11, .int .i64 2, .slice ra 10 rc]) := HSY8.out.on hb9 HSY8.out.lt
    have HN9 : Hid (NAt 3 w9 w9.heap.size (.slice va n vc) n ls) := (HN8.out.on hb9).wide hs9
    have HM9 : Hid (ZAt w9 w9.heap.size (.slice ua m.length uc) m) := (HM8.out.on hb9).wide hs9
    have HO9 : Hid (NAt 3 w9 w9.heap.size (.slice ra 10 rc) 10 (csN 10)) := ((HO8.out.same (Same.of_below hb9 (by omega))).at).wide (by omega)
    have HBT9 : Hid (ZAt w9 w9.heap.size (.slice (some ⟨g9, 0, none⟩) 11 c6) bent) := ((HBT8.out.on hb9 (by omega)).at).wide (by omega)
    have HB9 : Hid (Below w1.heap.size w1 w9) := HB8.out.trans (hb9.mono (by omega))
    clear hV0 hbv0 hsv0 hsy hb9 HSY8 HN8 HM8 HO8 HBT8 HB8
    have D1 : Hid (∀ W, Below w9.heap.size w9 W → Calls Try.prog 14 #[.agg #[.int .i64 11, .int .i64 2, .slice ra 10 rc], .slice (some ⟨g9, 0, none⟩) 11 c6] W fun e w' => e = .returned (.bool false) ∧ Below W.heap.size W w') := fun W hW => by
      rw [← HNO.out]
      obtain ⟨am, cm, hv, hI⟩ := ((HBT9.out.on hW).wide hW.size)
      have h := iSat_any 11 2 (wf_small (by decide) (by decide)) ra 10 rc (by decide) (csN 10) (fun j => csN_le j) am cm bent (by rw [HWL2.out]; decide) W ((HO9.out.on hW).wide hW.size) hI
      rw [← hv] at h
      exact h
    have hn9 : n ≤ 9223372036854775807 := by omega
    have hm9 : m.length ≤ 9223372036854775807 := by omega
    have D2 : Hid (∀ W, Below w9.heap.size w9 W → Calls Try.prog 14 #[.agg #[.int .i64 wi, .int .i64 pu, .slice va n vc], .slice ua m.length uc] W fun e w' => e = .returned (.bool (sysSo wi pu n ls m)) ∧ Below W.heap.size W w') := fun W hW => by
      obtain ⟨am, cm, hv, hI⟩ := ((HM9.out.on hW).wide hW.size)
      rw [hv]
      exact iSat_any wi pu HWF.out va n vc hn9 ls HLS.out am cm m hm9 W ((HN9.out.on hW).wide hW.size) hI
    have D3 : Hid (∀ W, Below w9.heap.size w9 W → Calls Try.prog 19 #[.agg #[.int .i64 wi, .int .i64 pu, .slice va n vc], .slice ua m.length uc] W fun e w' => e = .returned (.bool (sysSo wi pu n ls m)) ∧ Below W.heap.size W w') := fun W hW => by
      obtain ⟨am, cm, hv, hI⟩ := ((HM9.out.on hW).wide hW.size)
      rw [hv]
      exact sSat_any wi pu HWF.out va n vc hn9 ls HLS.out am cm m hm9 W ((HN9.out.on hW).wide hW.size) hI
    have D4 : Hid (∀ W, Below w9.heap.size w9 W → Calls Try.prog 13 #[.agg #[.int .i64 wi, .int .i64 pu, .slice va n vc]] W fun e w' => e = .returned (.bool (sysOk wi pu n ls)) ∧ Below W.heap.size W w') := fun W hW => iSysOk_any wi pu HWF.out va n vc hn9 ls HLS.out W ((HN9.out.on hW).wide hW.size)
    have D5 : Hid (∀ W, Below w9.heap.size w9 W → Calls Try.prog 20 #[.agg #[.int .i64 wi, .int .i64 pu, .slice va n vc]] W fun e w' => e = .returned (.bool (sysOk wi pu n ls)) ∧ Below W.heap.size W w') := fun W hW => sSysOk_any wi pu HWF.out va n vc hn9 ls HLS.out W ((HN9.out.on hW).wide hW.size)
    generalize sysSo wi pu n ls m = q at D2 D3
    generalize sysOk wi pu n ls = p at D4 D5
    generalize m.length = ml at *
    have T0 : Below w9.heap.size w9 w9.drew := (Below.refl _ _).drew
    clear HN9 HM9 HO9 HBT9 HLS HWF HNO HWL2
    refine wp_region_ord [(0, false), (1, false), (2, true), (3, false), (4, false), (5, false), (6, false), (8, false), (9, false), (7, true), (10, true), (11, false), (12, false), (13, false), (14, false), (16, false), (15, true), (17, true), (18, false), (19, false), (20, false)] (fun wz => Below w9.heap.size w9 wz) mixesSc (by kernel_rfl) T0 ?_
    repeat (refine ord_float rfl rfl (fun K hK => ⟨_, (fun w' hw => by have q0 := (HSY9.out.on hw HSY9.out.lt).cell 0; have q1 :=  (HSY9.out.on hw HSY9.out.lt).cell 1; have q2 :=  (HSY9.out.on hw HSY9.out.lt).cell 2; have q3 :=  (HSX9.out.on hw HSX9.out.lt).cell 0; have q4 :=  (HSX9.out.on hw HSX9.out.lt).cell 1; have q5 :=  (HSX9.out.on hw HSX9.out.lt).cell 2; go_simp; exact rfl), ?_⟩); go_simp; refine hK _ ?_; clear hK K)
    refine ord_call rfl rfl (fun K hK => ⟨_, _, (by go_simp <;> first | exact rfl | exact ⟨rfl, rfl⟩), ?_⟩)
    refine (D1.out _ T0).mono ?_
    rintro e u1 ⟨rfl, hu1⟩
    have T1 := T0.trans (hu1.mono T0.size)
    refine ⟨_, rfl, T1, ?_⟩
    go_simp
    refine hK _ _ ?_
    clear hK K
    repeat (refine ord_float rfl rfl (fun K hK => ⟨_, (fun w' hw => by have q0 := (HSY9.out.on hw HSY9.out.lt).cell 0; have q1 :=  (HSY9.out.on hw HSY9.out.lt).cell 1; have q2 :=  (HSY9.out.on hw HSY9.out.lt).cell 2; have q3 :=  (HSX9.out.on hw HSX9.out.lt).cell 0; have q4 :=  (HSX9.out.on hw HSX9.out.lt).cell 1; have q5 :=  (HSX9.out.on hw HSX9.out.lt).cell 2; go_simp; exact rfl), ?_⟩); go_simp; refine hK _ ?_; clear hK K)
    refine ord_call rfl rfl (fun K hK => ⟨_, _, (by go_simp <;> first | exact rfl | exact ⟨rfl, rfl⟩), ?_⟩)
    refine (D2.out _ T1).mono ?_
    rintro e u2 ⟨rfl, hu2⟩
    have T2 := T1.trans (hu2.mono T1.size)
    refine ⟨_, rfl, T2, ?_⟩
    go_simp
    refine hK _ _ ?_
    clear hK K
    repeat (refine ord_float rfl rfl (fun K hK => ⟨_, (fun w' hw => by have q0 := (HSY9.out.on hw HSY9.out.lt).cell 0; have q1 :=  (HSY9.out.on hw HSY9.out.lt).cell 1; have q2 :=  (HSY9.out.on hw HSY9.out.lt).cell 2; have q3 :=  (HSX9.out.on hw HSX9.out.lt).cell 0; have q4 :=  (HSX9.out.on hw HSX9.out.lt).cell 1; have q5 :=  (HSX9.out.on hw HSX9.out.lt).cell 2; go_simp; exact rfl), ?_⟩); go_simp; refine hK _ ?_; clear hK K)
    refine ord_call rfl rfl (fun K hK => ⟨_, _, (by go_simp <;> first | exact rfl | exact ⟨rfl, rfl⟩), ?_⟩)
    refine (D3.out _ T2).mono ?_
    rintro e u3 ⟨rfl, hu3⟩
    have T3 := T2.trans (hu3.mono T2.size)
    refine ⟨_, rfl, T3, ?_⟩
    go_simp
    refine hK _ _ ?_
    clear hK K
    repeat (refine ord_float rfl rfl (fun K hK => ⟨_, (fun w' hw => by have q0 := (HSY9.out.on hw HSY9.out.lt).cell 0; have q1 :=  (HSY9.out.on hw HSY9.out.lt).cell 1; have q2 :=  (HSY9.out.on hw HSY9.out.lt).cell 2; have q3 :=  (HSX9.out.on hw HSX9.out.lt).cell 0; have q4 :=  (HSX9.out.on hw HSX9.out.lt).cell 1; have q5 :=  (HSX9.out.on hw HSX9.out.lt).cell 2; go_simp; exact rfl), ?_⟩); go_simp; refine hK _ ?_; clear hK K)
    refine ord_call rfl rfl (fun K hK => ⟨_, _, (by go_simp <;> first | exact rfl | exact ⟨rfl, rfl⟩), ?_⟩)
    refine (D4.out _ T3).mono ?_
    rintro e u4 ⟨rfl, hu4⟩
    have T4 := T3.trans (hu4.mono T3.size)
    refine ⟨_, rfl, T4, ?_⟩
    go_simp
    refine hK _ _ ?_
    clear hK K
    repeat (refine ord_float rfl rfl (fun K hK => ⟨_, (fun w' hw => by have q0 := (HSY9.out.on hw HSY9.out.lt).cell 0; have q1 :=  (HSY9.out.on hw HSY9.out.lt).cell 1; have q2 :=  (HSY9.out.on hw HSY9.out.lt).cell 2; have q3 :=  (HSX9.out.on hw HSX9.out.lt).cell 0; have q4 :=  (HSX9.out.on hw HSX9.out.lt).cell 1; have q5 :=  (HSX9.out.on hw HSX9.out.lt).cell 2; go_simp; exact rfl), ?_⟩); go_simp; refine hK _ ?_; clear hK K)
    refine ord_call rfl rfl (fun K hK => ⟨_, _, (by go_simp <;> first | exact rfl | exact ⟨rfl, rfl⟩), ?_⟩)
    refine (D5.out _ T4).mono ?_
    rintro e u5 ⟨rfl, hu5⟩
    have T5 := T4.trans (hu5.mono T4.size)
    refine ⟨_, rfl, T5, ?_⟩
    go_simp
    refine hK _ _ ?_
    clear hK K
    repeat (refine ord_float rfl rfl (fun K hK => ⟨_, (fun w' hw => by have q0 := (HSY9.out.on hw HSY9.out.lt).cell 0; have q1 :=  (HSY9.out.on hw HSY9.out.lt).cell 1; have q2 :=  (HSY9.out.on hw HSY9.out.lt).cell 2; have q3 :=  (HSX9.out.on hw HSX9.out.lt).cell 0; have q4 :=  (HSX9.out.on hw HSX9.out.lt).cell 1; have q5 :=  (HSX9.out.on hw HSX9.out.lt).cell 2; go_simp; exact rfl), ?_⟩); go_simp; refine hK _ ?_; clear hK K)
    refine ord_nil ?_
    have hfin : Below w.heap.size w u5 := HB1.out.trans ((HB9.out.trans (T5.mono (by omega))).mono HB1.out.size)
    go_wp2
    go_ret
    exact ⟨rfl, hfin⟩

end Go.Proofs.Ytfiflcedbejamaa
