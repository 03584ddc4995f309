/-
  The walk of the specification's rows as one product: a polynomial of each wire.
  (-DROP-: what the seat lacks is left out.)
-/
import Derived.Test.YthnahalboomkoaaGreatJoined7
import Derived.Test.YthnahalboomkoaaGreatJoined12
import Derived.Test.YthnahalboomkoaaGreatPolySThr
import Derived.Test.YthnahalboomkoaaGreatRwSys
import Derived.Test.YthnahalboomkoaaGreatJoined13
import Derived.Test.YthnahalboomkoaaGreatRwCopy
import Derived.Test.YthnahalboomkoaaGreatJoined9
import Derived.Test.YthnahalboomkoaaGreatJoined11
import Derived.Test.YthnahalboomkoaaGreatJoined8
import Derived.RegionTactic
import Derived.ChangeAlike
import Derived.Test.YthnahalboomkoaaGreatJoined10

namespace Go.Proofs.YthnahalboomkoaaGreat
open Go.RowKit

theorem infoQa : (Tryz.prog.info? 122).map (·.size) = some 3 := by kernel_rfl
theorem onesQa (a : Option Addr) (n c : Nat) (a1 : Option Addr) (n1 c1 : Nat) (a2 : Option Addr) (n2 c2 : Nat) : (#[Value.slice a n c, .slice a1 n1 c1, .slice a2 n2 c2]).all (·.oneCell') = true := by simp [Value.oneCell']
theorem infoIs : (Tryz.prog.info? 27).map (fun i => (i.zero, i.size, i.bytes)) = some (some (.slice none 0 0), 1, 24) := by kernel_rfl
theorem loadLs {W : World} {g i : Nat} {u : Value} (h : W.cell? ⟨g, i, none⟩ = some u) : LoadsTo Tryz.prog 120 ⟨g, i, none⟩ u W := by
  constructor
  go_simp

/-- Three empty lists. -/
theorem lit3 (w : World) : Row3s w.heap.size (((w.alloc (.cells #[] 3)).alloc (.cells #[] 3)).alloc (.cells #[] 3)) (.slice (some ⟨w.heap.size, 0, none⟩) 0 0) (.slice (some ⟨w.heap.size + 1, 0, none⟩) 0 0) (.slice (some ⟨w.heap.size + 1 + 1, 0, none⟩) 0 0) [] [] [] := by
  have h0 : RowZs w.heap.size (w.alloc (.cells #[] 3)) (.slice (some ⟨w.heap.size, 0, none⟩) 0 0) [] := own_lit w [] (by simp)
  have h1 : RowZs w.heap.size ((w.alloc (.cells #[] 3)).alloc (.cells #[] 3)) (.slice (some ⟨w.heap.size + 1, 0, none⟩) 0 0) [] := by
    have h := own_lit (w.alloc (.cells #[] 3)) [] (by simp)
    rw [show (w.alloc (.cells #[] 3)).heap.size = w.heap.size + 1 by simp] at h
    exact owns_low h (by omega)
  have h2 : RowZs w.heap.size (((w.alloc (.cells #[] 3)).alloc (.cells #[] 3)).alloc (.cells #[] 3)) (.slice (some ⟨w.heap.size + 1 + 1, 0, none⟩) 0 0) [] := by
    have h := own_lit ((w.alloc (.cells #[] 3)).alloc (.cells #[] 3)) [] (by simp)
    rw [show ((w.alloc (.cells #[] 3)).alloc (.cells #[] 3)).heap.size = w.heap.size + 1 + 1 by simp] at h
    exact owns_low h (by omega)
  refine ⟨World.ownsRow.alloc (World.ownsRow.alloc h0 _) _, World.ownsRow.alloc h1 _, h2, fun k p q => ?_, fun k p q => ?_, fun k p q => ?_⟩
  · have e1 : w.heap.size = k := Option.some.inj p
    have e2 : w.heap.size + 1 = k := Option.some.inj q
    omega
  · have e1 : w.heap.size = k := Option.some.inj p
    have e2 : w.heap.size + 1 + 1 = k := Option.some.inj q
    omega
  · have e1 : w.heap.size + 1 = k := Option.some.inj p
    have e2 : w.heap.size + 1 + 1 = k := Option.some.inj q
    omega
theorem wide_lenQ {ls : List (List Int)} {wi : Int} (h : (ls.all fun l => wide l wi) = true) {k : Nat} (hk : k < ls.length) : ((ls.getD k []).length : Int) = wi := by
  have h1 := List.all_eq_true.1 h (ls.getD k []) (by rw [List.getD_eq_getElem?_getD, List.getElem?_eq_getElem hk]; exact List.getElem_mem hk)
  unfold wide at h1
  rw [Bool.and_eq_true] at h1
  exact of_decide_eq_true h1.1

/-- What it leaves. -/
def QapEnd (w : World) (wi pu : Int) (n : Nat) (ls : List (List Int)) (e : Ending) (w' : World) : Prop :=
  (sysOk wi pu n ls = false ∧ e = .returned (.tuple #[.agg #[.slice none 0 0, .slice none 0 0, .slice none 0 0], .bool false]) ∧ Below w.heap.size w w') ∨
  (sysOk wi pu n ls = true ∧ ∃ U V X us vs xs, e = .returned (.tuple #[.agg #[U, V, X], .bool true]) ∧ Tri 27 w.heap.size w'.heap.size w' U wi.toNat us (qapN ls n 0 wi.toNat) V wi.toNat vs (qapN ls n 1 wi.toNat) X wi.toNat xs (qapN ls n 2 wi.toNat) ∧ Below w.heap.size w w')

set_option maxHeartbeats 6400000 in
set_option maxRecDepth 100000 in
theorem sQapOf_any (wi pu : Int) (hwf : (Lit.int .i64 wi).wf = true) (a : Option Addr) (n c : Nat) (hn : n ≤ 9223372036854775807) (ls : List (List Int)) (hz : ∀ j, (ls.getD j []).length ≤ 9223372036854775807) (w : World) (hA : NAt 3 w w.heap.size (.slice a n c) n ls) :
    Calls Tryz.prog 78 #[sysV wi pu (.slice a n c)] w fun e w' => QapEnd w wi pu n ls e w' := by
  obtain ⟨i0, hi, hz0, hz1, hz2⟩ := info_parts info3I
  obtain ⟨k0, hk, hy0, hy1, hy2⟩ := info_parts infoIs
  obtain ⟨W, hW, hb, hs, hr⟩ := boxes1r w 26 122 #[.int .i64 wi, .int .i64 pu, .slice a n c] #[.slice none 0 0, .slice none 0 0, .slice none 0 0]
  have HA : Hid (NAt 3 w w.heap.size (.slice a n c) n ls) := hA
  have CS : Hid (∀ V, Below w.heap.size w V → Calls Tryz.prog 150 #[.agg #[.int .i64 wi, .int .i64 pu, .slice a n c]] V fun e w' => e = .returned (.bool (sysOk wi pu n ls)) ∧ Below V.heap.size V w') := fun V hV => sSysOk_any wi pu hwf a n c hn ls hz V ((hA.on hV).wide hV.size)
  have H0 : Hid (Below w.heap.size w W ∧ Blk W w.heap.size 26 #[.int .i64 wi, .int .i64 pu, .slice a n c] ∧ Blk W (w.heap.size + 1) 122 #[.slice none 0 0, .slice none 0 0, .slice none 0 0]) := ⟨hb, hs, hr⟩
  have hlen : Hid (ls.length = n * 3) := hA.1
  clear hA hb hr hz
  unfold sysV
  go_enter Tryz.func78, Tryz.ntmps78
  go_wp2_with (refine load_blk rfl rfl rfl hs Tryz.underlying26 infoSy ?_)
  clear hW hs
  refine (CS.out _ H0.out.1).mono ?_
  rintro e w1 ⟨rfl, hb1⟩
  have H1 : Hid (Below w.heap.size w w1 ∧ Blk w1 w.heap.size 26 #[.int .i64 wi, .int .i64 pu, .slice a n c] ∧ Blk w1 (w.heap.size + 1) 122 #[.slice none 0 0, .slice none 0 0, .slice none 0 0]) := ⟨H0.out.1.trans (hb1.mono H0.out.1.size), H0.out.2.1.on hb1 H0.out.2.1.lt, H0.out.2.2.on hb1 H0.out.2.2.lt⟩
  clear hb1 H0 CS
  have hs1 : w.heap.size + 1 < w1.heap.size := H1.out.2.2.lt
  cases hok : sysOk wi pu n ls
  · have hres := H1.out.2.2
    go_wp2_with (refine store_blkS (cs' := #[.slice none 0 0, .slice none 0 0, .slice none 0 0]) rfl rfl rfl rfl rfl hres infoQa rfl (onesQa _ _ _ _ _ _ _ _ _) ?_; intro V8 h8 hheap hoth hbel; have hb8 := hbel _ _ (by omega) H1.out.1; clear hoth hbel hheap)
    refine bodyPost_ret_by (result_Btmp rfl rfl rfl h8 Tryz.underlying122 infoQa) rfl (.inl ⟨hok, rfl, hb8⟩)
  · have HOK : Hid (sysOk wi pu n ls = true) := hok
    have hok1 := hok
    unfold sysOk at hok1
    simp only [Bool.and_eq_true, decide_eq_true_eq] at hok1
    obtain ⟨⟨hw1, hw2⟩, _, ⟨hn1, hn2⟩, hall⟩ := hok1
    have HWD : Hid (∀ k, k < n * 3 → ((ls.getD k []).length : Int) = wi) := fun k hk => wide_lenQ hall (by rw [hlen.out]; exact hk)
    obtain ⟨wn, rfl⟩ : ∃ wn : Nat, wi = (wn : Int) := ⟨wi.toNat, by omega⟩
    clear hall hok hlen
    obtain ⟨V0, hV0, hb0, hs0⟩ := box1 w1 122 #[.slice none 0 0, .slice none 0 0, .slice none 0 0]
    go_wp2_with (refine store_blkS (cs' := #[.slice none 0 0, .slice none 0 0, .slice none 0 0]) rfl rfl rfl rfl rfl hs0 infoQa rfl (onesQa _ _ _ _ _ _ _ _ _) ?_; intro V4 hq4 hheap hoth hbel; have hb4 := hbel _ _ (Nat.le_refl _) hb0; clear hoth hbel hheap)
    have hs4 : w1.heap.size < V4.heap.size := hq4.lt
    have H4 : Hid (Below w.heap.size w V4 ∧ Blk V4 w.heap.size 26 #[.int .i64 (wn : Int), .int .i64 pu, .slice a n c] ∧ Blk V4 (w.heap.size + 1) 122 #[.slice none 0 0, .slice none 0 0, .slice none 0 0] ∧ Blk V4 w1.heap.size 122 #[.slice none 0 0, .slice none 0 0, .slice none 0 0]) := ⟨H1.out.1.trans (hb4.mono (by omega)), H1.out.2.1.on hb4 H1.out.2.1.lt, H1.out.2.2.on hb4 H1.out.2.2.lt, hq4⟩
    clear hV0 hb0 hs0 hb4 hq4 H1
    go_loopw [5] (fun iv wr => ∃ (j : Nat) (U V X : Value) (us vs xs : List Value), iv = .int .i64 (j : Int) ∧ j ≤ wn ∧ Hid (Below w.heap.size w wr ∧ Blk wr w.heap.size 26 #[.int .i64 (wn : Int), .int .i64 pu, .slice a n c] ∧ Blk wr (w.heap.size + 1) 122 #[.slice none 0 0, .slice none 0 0, .slice none 0 0] ∧ Blk wr w1.heap.size 122 #[U, V, X]) ∧ Hid (Tri 27 V4.heap.size wr.heap.size wr U j us (qapN ls n 0 j) V j vs (qapN ls n 1 j) X j xs (qapN ls n 2 j)) ∧ V4.heap.size ≤ wr.heap.size) (fun iv _ => wn - (intOf iv).toNat)
    case atStart => exact ⟨0, _, _, _, [], [], [], rfl, Nat.zero_le _, H4, ⟨nown_nil _ _ _ _ _, nown_nil _ _ _ _ _, nown_nil _ _ _ _ _, fun k h => by rcases h with h | ⟨i, hi, _⟩; cases h; omega, fun k h => by rcases h with h | ⟨i, hi, _⟩; cases h; omega, fun k h => by rcases h with h | ⟨i, hi, _⟩; cases h; omega⟩, Nat.le_refl _⟩
    case round =>
      obtain ⟨j, U, V, X, us, vs, xs, rfl, hj, HB, HT, hsr⟩ := hrel
      clear H4
      obtain ⟨ua, uc, hu⟩ := row_form HT.out.u.row
      subst hu
      obtain ⟨va, vc, hv⟩ := row_form HT.out.v.row
      subst hv
      obtain ⟨xa, xc, hx⟩ := row_form HT.out.x.row
      subst hx
      have hcw := HB.out.2.1.cell 0
      replace hcw : wr.cell? ⟨w.heap.size, 0, none⟩ = some (.int .i64 (wn : Int)) := hcw
      by_cases hlt : j < wn
      · have hlt' : (j : Int) < (wn : Int) := by omega
        have hj0 : (0 : Int) ≤ (j : Int) := by omega
        generalize wr = w0 at *
        have HB0 := HB
        go_wp2
        clear hcw
        go_loopw [6, 7, 8, 9] (fun av bv cv iv wr => ∃ (i : Nat), iv = .int .i64 (i : Int) ∧ i ≤ n ∧ Hid (Row3s w0.heap.size wr av bv cv (colL ls i 0 j) (colL ls i 1 j) (colL ls i 2 j)) ∧ Hid (Below w0.heap.size w0 wr)) (fun _ _ _ iv _ => n - (intOf iv).toNat)
        case atStart => exact ⟨0, rfl, Nat.zero_le _, lit3 w0, (((Below.refl _ _).alloc (Nat.le_refl _) _).alloc (by simp) _).alloc (by simp; omega) _⟩
        case round =>
          obtain ⟨i, rfl, hin, HR, HW⟩ := hrel
          obtain ⟨aa, ac, hav⟩ := row_form HR.out.ra
          subst hav
          obtain ⟨ba, bc, hbv⟩ := row_form HR.out.rb
          subst hbv
          obtain ⟨ca, cc, hcv⟩ := row_form HR.out.rc
          subst hcv
          rw [colL_len, colL_len, colL_len] at *
          have hcr : wr.cell? ⟨w.heap.size, 2, none⟩ = some (.slice a n c) := (HB.out.2.1.on HW.out HB.out.2.1.lt).cell 2
          by_cases hil : i < n
          · have hil' : (i : Int) < (n : Int) := by omega
            have hi0 : (0 : Int) ≤ (i : Int) := by omega
            have hm63 : i + 1 ≤ maxLen := by unfold maxLen; omega
            have hm47 : (i + 1) * 8 ≤ 140737488355328 := by omega
            obtain ⟨b, off, a0, c0, a1, c1, a2, c2, rfl, hbb, z0, z1, z2, y0, y1, y2⟩ := (HA.out.on HB.out.1).row3 hil
            have l0 : (ls.getD (i * 3) []).length = wn := by have := HWD.out (i * 3) (by omega); omega
            have l1 : (ls.getD (i * 3 + 1) []).length = wn := by have := HWD.out (i * 3 + 1) (by omega); omega
            have l2 : (ls.getD (i * 3 + 2) []).length = wn := by have := HWD.out (i * 3 + 2) (by omega); omega
            rw [l0] at z0 y0
            rw [l1] at z1 y1
            rw [l2] at z2 y2
            obtain ⟨b0, o0, rfl, hb0, e0⟩ := y0 j hlt
            obtain ⟨b1, o1, rfl, hb1, e1⟩ := y1 j hlt
            obtain ⟨b2, o2, rfl, hb2, e2⟩ := y2 j hlt
            have hws := HB.out.1.size
            have HC : Hid (∀ W, Below w0.heap.size w0 W → W.cell? ⟨w.heap.size, 2, none⟩ = some (.slice (some ⟨b, off, none⟩) n c) ∧ (W.cell? ⟨b, off + i * 3, none⟩ = some (.slice (some ⟨b0, o0, none⟩) wn c0) ∧ W.cell? ⟨b0, o0 + j, none⟩ = some (.int .i64 ((ls.getD (i * 3) []).getD j 0))) ∧ (W.cell? ⟨b, off + i * 3 + 1, none⟩ = some (.slice (some ⟨b1, o1, none⟩) wn c1) ∧ W.cell? ⟨b1, o1 + j, none⟩ = some (.int .i64 ((ls.getD (i * 3 + 1) []).getD j 0))) ∧ (W.cell? ⟨b, off + i * 3 + 2, none⟩ = some (.slice (some ⟨b2, o2, none⟩) wn c2) ∧ W.cell? ⟨b2, o2 + j, none⟩ = some (.int .i64 ((ls.getD (i * 3 + 2) []).getD j 0)))) := fun W hW => ⟨(HB.out.2.1.on hW HB.out.2.1.lt).cell 2, ⟨(hW.cell (p := ⟨b, off + i * 3, none⟩) (by show b < _; omega)).trans z0, (hW.cell (p := ⟨b0, o0 + j, none⟩) (by show b0 < _; omega)).trans e0⟩, ⟨(hW.cell (p := ⟨b, off + i * 3 + 1, none⟩) (by show b < _; omega)).trans z1, (hW.cell (p := ⟨b1, o1 + j, none⟩) (by show b1 < _; omega)).trans e1⟩, ⟨(hW.cell (p := ⟨b, off + i * 3 + 2, none⟩) (by show b < _; omega)).trans z2, (hW.cell (p := ⟨b2, o2 + j, none⟩) (by show b2 < _; omega)).trans e2⟩⟩
            have HN0 : Hid (colL ls (i + 1) 0 j = colL ls i 0 j ++ [(ls.getD (i * 3) []).getD j 0]) := zls_next _ _
            have HN1 : Hid (colL ls (i + 1) 1 j = colL ls i 1 j ++ [(ls.getD (i * 3 + 1) []).getD j 0]) := zls_next _ _
            have HN2 : Hid (colL ls (i + 1) 2 j = colL ls i 2 j ++ [(ls.getD (i * 3 + 2) []).getD j 0]) := zls_next _ _
            generalize (ls.getD (i * 3) []).getD j 0 = x0 at HC HN0
            generalize (ls.getD (i * 3 + 1) []).getD j 0 = x1 at HC HN1
            generalize (ls.getD (i * 3 + 2) []).getD j 0 = x2 at HC HN2
            clear z0 z1 z2 y0 y1 y2 e0 e1 e2 l0 l1 l2 hcr
            have HR0 : Hid (Row3s w0.heap.size (wr.alloc (.cells #[.int .i64 x0] 3)) (.slice aa i ac) (.slice ba i bc) (.slice ca i cc) (colL ls i 0 j) (colL ls i 1 j) (colL ls i 2 j)) := HR.out.alloc _
            have hR0 : (wr.alloc (.cells #[.int .i64 x0] 3)).ownsRow w0.heap.size 3 1 (.slice aa i ac) i (zsV (colL ls i 0 j)) := by have h := HR0.out.ra; unfold RowZs at h; rwa [colL_len] at h
            have hsw0 : w0.heap.size ≤ wr.heap.size := HW.out.size
            have q00 := (HC.out wr HW.out).1
            have q01 := (HC.out wr HW.out).2.1.1
            have q02 := (HC.out wr HW.out).2.1.2
            go_wp2_with (at_builtin; refine wpList_append_own_at _ rfl _ _ 27 rfl w0.heap.size 3 i0 (.int .i64 0) 1 8 Tryz.underlying27 hi hz0 hz1 hz2 rfl (by decide) _ _ _ rfl hR0 ⟨wr.heap.size, 0, none⟩ 1 1 [.int .i64 x0] rfl rfl (cell_one_new _ _ _) (one_cell _ _) hm63 hm47 (room_for hsw0 _) ?_)
            intro n0 V0 hown hg _ hat
            have hat2 : n0.ownBlock = (Value.slice aa i ac).ownBlock ∨ n0.ownBlock = some (wr.alloc (.cells #[.int .i64 x0] 3)).heap.size := by
              rcases hat with h | h
              · exact .inl h
              · exact .inr (by rw [h]; simp)
            have hrow : RowZs w0.heap.size V0 n0 (colL ls (i + 1) 0 j) := by
              unfold RowZs
              rw [HN0.out, zsV_append, List.length_append, colL_len]
              exact hown
            have HRn0 : Hid (Row3s w0.heap.size V0 (.slice ba i bc) (.slice ca i cc) n0 (colL ls i 1 j) (colL ls i 2 j) (colL ls (i + 1) 0 j)) := (HR0.out.app hrow hg hat2).rot
            have HWn0 : Hid (Below w0.heap.size w0 V0) := (HW.out.alloc hsw0 _).grown hg (by simp; omega) (fun k hk => (HR0.out.ra.lt k hk).1)
            clear hown hg hat hat2 hrow hR0 HR0 HR HW q00 q01 q02 hsw0
            have HR1 : Hid (Row3s w0.heap.size (V0.alloc (.cells #[.int .i64 x1] 3)) (.slice ba i bc) (.slice ca i cc) (n0) (colL ls i 1 j) (colL ls i 2 j) (colL ls (i + 1) 0 j)) := HRn0.out.alloc _
            have hR1 : (V0.alloc (.cells #[.int .i64 x1] 3)).ownsRow w0.heap.size 3 1 (.slice ba i bc) i (zsV (colL ls i 1 j)) := by have h := HR1.out.ra; unfold RowZs at h; rwa [colL_len] at h
            have hsw1 : w0.heap.size ≤ V0.heap.size := HWn0.out.size
            have q10 := (HC.out V0 HWn0.out).1
            have q11 := (HC.out V0 HWn0.out).2.2.1.1
            have q12 := (HC.out V0 HWn0.out).2.2.1.2
            go_wp2_with (at_builtin; refine wpList_append_own_at _ rfl _ _ 27 rfl w0.heap.size 3 i0 (.int .i64 0) 1 8 Tryz.underlying27 hi hz0 hz1 hz2 rfl (by decide) _ _ _ rfl hR1 ⟨V0.heap.size, 0, none⟩ 1 1 [.int .i64 x1] rfl rfl (cell_one_new _ _ _) (one_cell _ _) hm63 hm47 (room_for hsw1 _) ?_)
            intro n1 V1 hown hg _ hat
            have hat2 : n1.ownBlock = (Value.slice ba i bc).ownBlock ∨ n1.ownBlock = some (V0.alloc (.cells #[.int .i64 x1] 3)).heap.size := by
              rcases hat with h | h
              · exact .inl h
              · exact .inr (by rw [h]; simp)
            have hrow : RowZs w0.heap.size V1 n1 (colL ls (i + 1) 1 j) := by
              unfold RowZs
              rw [HN1.out, zsV_append, List.length_append, colL_len]
              exact hown
            have HRn1 : Hid (Row3s w0.heap.size V1 (.slice ca i cc) (n0) n1 (colL ls i 2 j) (colL ls (i + 1) 0 j) (colL ls (i + 1) 1 j)) := (HR1.out.app hrow hg hat2).rot
            have HWn1 : Hid (Below w0.heap.size w0 V1) := (HWn0.out.alloc hsw1 _).grown hg (by simp; omega) (fun k hk => (HR1.out.ra.lt k hk).1)
            clear hown hg hat hat2 hrow hR1 HR1 HRn0 HWn0 q10 q11 q12 hsw1
            have HR2 : Hid (Row3s w0.heap.size (V1.alloc (.cells #[.int .i64 x2] 3)) (.slice ca i cc) (n0) (n1) (colL ls i 2 j) (colL ls (i + 1) 0 j) (colL ls (i + 1) 1 j)) := HRn1.out.alloc _
            have hR2 : (V1.alloc (.cells #[.int .i64 x2] 3)).ownsRow w0.heap.size 3 1 (.slice ca i cc) i (zsV (colL ls i 2 j)) := by have h := HR2.out.ra; unfold RowZs at h; rwa [colL_len] at h
            have hsw2 : w0.heap.size ≤ V1.heap.size := HWn1.out.size
            have q20 := (HC.out V1 HWn1.out).1
            have q21 := (HC.out V1 HWn1.out).2.2.2.1
            have q22 := (HC.out V1 HWn1.out).2.2.2.2
            go_wp2_with (at_builtin; refine wpList_append_own_at _ rfl _ _ 27 rfl w0.heap.size 3 i0 (.int .i64 0) 1 8 Tryz.underlying27 hi hz0 hz1 hz2 rfl (by decide) _ _ _ rfl hR2 ⟨V1.heap.size, 0, none⟩ 1 1 [.int .i64 x2] rfl rfl (cell_one_new _ _ _) (one_cell _ _) hm63 hm47 (room_for hsw2 _) ?_)
            intro n2 V2 hown hg _ hat
            have hat2 : n2.ownBlock = (Value.slice ca i cc).ownBlock ∨ n2.ownBlock = some (V1.alloc (.cells #[.int .i64 x2] 3)).heap.size := by
              rcases hat with h | h
              · exact .inl h
              · exact .inr (by rw [h]; simp)
            have hrow : RowZs w0.heap.size V2 n2 (colL ls (i + 1) 2 j) := by
              unfold RowZs
              rw [HN2.out, zsV_append, List.length_append, colL_len]
              exact hown
            have HRn2 : Hid (Row3s w0.heap.size V2 (n0) (n1) n2 (colL ls (i + 1) 0 j) (colL ls (i + 1) 1 j) (colL ls (i + 1) 2 j)) := (HR2.out.app hrow hg hat2).rot
            have HWn2 : Hid (Below w0.heap.size w0 V2) := (HWn1.out.alloc hsw2 _).grown hg (by simp; omega) (fun k hk => (HR2.out.ra.lt k hk).1)
            clear hown hg hat hat2 hrow hR2 HR2 HRn1 HWn1 q20 q21 q22 hsw2
            clear HC HN0 HN1 HN2
            go_wp2
            go_roundw
            case rel => exact ⟨i + 1, by go_num, hil, HRn2, HWn2⟩
            case measure => simp [intOf]; omega
          · have hil' : ¬ (i : Int) < (n : Int) := by omega
            obtain rfl : n = i := by omega
            have hUo : ∀ k, (Value.slice ua j uc).ownBlock = some k → V4.heap.size ≤ k ∧ k < w0.heap.size := fun k hk => ⟨(HT.out.u.row.lt k hk).1, HT.out.u.top k hk⟩
            have hVo : ∀ k, (Value.slice va j vc).ownBlock = some k → V4.heap.size ≤ k ∧ k < w0.heap.size := fun k hk => ⟨(HT.out.v.row.lt k hk).1, HT.out.v.top k hk⟩
            have hXo : ∀ k, (Value.slice xa j xc).ownBlock = some k → V4.heap.size ≤ k ∧ k < w0.heap.size := fun k hk => ⟨(HT.out.x.row.lt k hk).1, HT.out.x.top k hk⟩
            have HO0 : Hid (∀ k, (Value.slice ua j uc).ownBlock = some k → V4.heap.size ≤ k ∧ k < w0.heap.size) := hUo
            have HO1 : Hid (∀ k, (Value.slice va j vc).ownBlock = some k → V4.heap.size ≤ k ∧ k < w0.heap.size) := hVo
            have HO2 : Hid (∀ k, (Value.slice xa j xc).ownBlock = some k → V4.heap.size ≤ k ∧ k < w0.heap.size) := hXo
            have hsw : w0.heap.size ≤ wr.heap.size := HW.out.size
            have HTw : Hid (Tri 27 V4.heap.size wr.heap.size wr (.slice ua j uc) j us (qapN ls n 0 j) (.slice va j vc) j vs (qapN ls n 1 j) (.slice xa j xc) j xs (qapN ls n 2 j)) := (HT.out.same (Same.of_below HW.out (Nat.le_refl _))).wide hsw
            have HBw : Hid (Below w.heap.size w wr ∧ Blk wr w.heap.size 26 #[.int .i64 (wn : Int), .int .i64 pu, .slice a n c] ∧ Blk wr (w.heap.size + 1) 122 #[.slice none 0 0, .slice none 0 0, .slice none 0 0] ∧ Blk wr w1.heap.size 122 #[.slice ua j uc, .slice va j vc, .slice xa j xc]) := ⟨HB.out.1.trans (HW.out.mono HB.out.1.size), HB.out.2.1.on HW.out HB.out.2.1.lt, HB.out.2.2.1.on HW.out HB.out.2.2.1.lt, HB.out.2.2.2.on HW.out HB.out.2.2.2.lt⟩
            have HZ0 : Hid (ZOwn w0.heap.size wr.heap.size wr (.slice aa n ac) (colL ls n 0 j)) := by have h := ZOwn.of HR.out.ra; exact h
            have HZ1 : Hid (ZOwn w0.heap.size wr.heap.size wr (.slice ba n bc) (colL ls n 1 j)) := by have h := ZOwn.of HR.out.rb; exact h
            have HZ2 : Hid (ZOwn w0.heap.size wr.heap.size wr (.slice ca n cc) (colL ls n 2 j)) := by have h := ZOwn.of HR.out.rc; exact h
            have HCT : Hid (∀ (t : Nat) (W : World) (v : Value), ZAt W W.heap.size v (colL ls n t j) → Calls Tryz.prog 151 #[v] W fun e w' => ∃ u, e = .returned u ∧ ZOwn W.heap.size w'.heap.size w' u (pThr (colL ls n t j)) ∧ Below W.heap.size W w') := fun t W v h => sThr_any v _ (by rw [colL_len]; omega) W h
            have hm63 : j + 1 ≤ maxLen := by unfold maxLen; omega
            have hm47 : (j + 1) * 24 ≤ 140737488355328 := by omega
            have HQ0 : Hid (qapN ls n 0 (j + 1) = qapN ls n 0 j ++ [pThr (colL ls n 0 j)]) := rfl
            have HQ1 : Hid (qapN ls n 1 (j + 1) = qapN ls n 1 j ++ [pThr (colL ls n 1 j)]) := rfl
            have HQ2 : Hid (qapN ls n 2 (j + 1) = qapN ls n 2 j ++ [pThr (colL ls n 2 j)]) := rfl
            clear hUo hVo hXo HR HT HB HB0 HA HWD
            go_wp2_with fail
            have hq0 := HBw.out.2.2.2
            have hw10 : w1.heap.size < wr.heap.size := hq0.lt
            refine wp_region_last [(0, false), (1, false), (2, false), (3, true), (4, true), (5, true), (6, false)] 7 (fun wz => Blk wz w1.heap.size 122 #[.slice ua j uc, .slice va j vc, .slice xa j xc]) mixesSc (by kernel_rfl) hq0.drew ?_
            repeat (refine ord_float rfl rfl (fun K hK => ⟨_, (fun w' hw => by have q0 := hw.cell 0; go_simp; exact rfl), ?_⟩); go_simp; refine hK _ ?_; clear hK K)
            refine ord_call rfl rfl (fun K hK => ⟨_, _, (by go_simp <;> first | exact rfl | exact ⟨rfl, rfl⟩), ?_⟩)
            refine (HCT.out 0 _ _ ((HZ0.out.same (w' := wr.drew) (fun _ _ _ => rfl)).at.wide (by show wr.heap.size ≤ wr.heap.size; omega))).mono ?_
            rintro e u0 ⟨p0, rfl, hp0, hb0⟩
            have hqu0 := hq0.drew.on hb0 hq0.lt
            have HBB0 : Below wr.heap.size wr u0 := (Below.refl _ _).drew.trans hb0
            refine ⟨_, rfl, hqu0, ?_⟩
            go_simp
            refine hK _ _ ?_
            clear hK K
            repeat (refine ord_float rfl rfl (fun K hK => ⟨_, (fun w' hw => by have q0 := hw.cell 0; go_simp; exact rfl), ?_⟩); go_simp; refine hK _ ?_; clear hK K)
            obtain ⟨pa0, pc0, hpv0⟩ := row_form hp0.1
            subst hpv0
            generalize hgl0 : (pThr (colL ls n 0 j)).length = pl0 at hp0 ⊢
            have hsu0 : wr.heap.size ≤ u0.heap.size := HBB0.size
            have hqa0 : Blk (u0.alloc (.cells #[.slice pa0 pl0 pc0] 27)) w1.heap.size 122 #[.slice ua j uc, .slice va j vc, .slice xa j xc] := hqu0.alloc _
            refine ord_op rfl rfl (fun K hK => ⟨.slice (some ⟨u0.heap.size, 0, none⟩) 1 1, u0.alloc (.cells #[.slice pa0 pl0 pc0] 27), (by go_simp <;> rfl), hqa0, ?_⟩)
            go_simp
            refine hK _ _ ?_
            clear hK K
            have hsa0 : (u0.alloc (.cells #[.slice pa0 pl0 pc0] 27)).heap.size = u0.heap.size + 1 := by simp
            have HTu0 : Hid (Tri 27 V4.heap.size wr.heap.size (u0.alloc (.cells #[.slice pa0 pl0 pc0] 27)) (.slice ua j uc) j us (qapN ls n 0 j) (.slice va j vc) j vs (qapN ls n 1 j) (.slice xa j xc) j xs (qapN ls n 2 j)) := (HTw.out.same (Same.of_below HBB0 (Nat.le_refl _))).same (fun k h1 h2 => Below.heap_alloc u0 _ k (by omega))
            have HPa0 : Hid (ZOwn wr.heap.size (u0.alloc (.cells #[.slice pa0 pl0 pc0] 27)).heap.size (u0.alloc (.cells #[.slice pa0 pl0 pc0] 27)) (.slice pa0 pl0 pc0) (pThr (colL ls n 0 j))) := (hp0.same (fun k h1 h2 => Below.heap_alloc u0 _ k h2)).wide (Nat.le_refl _) (by omega)
            have hrow0 := HTu0.out.u.row
            refine ord_append rfl rfl _ _ 120 rfl V4.heap.size 27 k0 (.slice none 0 0) 1 24 Tryz.underlying120 hk hy0 hy1 hy2 rfl (by decide) _ _ _ rfl hrow0 ⟨u0.heap.size, 0, none⟩ 1 1 [.slice pa0 pl0 pc0] rfl rfl (cell_one_new _ _ _) (fun u hu => by rw [List.mem_singleton] at hu; subst hu; rfl) hm63 hm47 (by simp; omega) ?_
            intro N0 y0 hrn0 hgn0 hat0
            have HTn0 := HTu0.out.app hrn0 hgn0 hat0 HPa0.out (by omega) (by omega)
            have hsy0 : (u0.alloc (.cells #[.slice pa0 pl0 pc0] 27)).heap.size ≤ y0.heap.size := hgn0.size
            have hKs0 := kps_grown hgn0
            have hqy0 : Blk y0 w1.heap.size 122 #[.slice ua j uc, .slice va j vc, .slice xa j xc] := hKs0.blk hqa0 (fun e => by have := HO0.out _ e; omega)
            refine ⟨hqy0, fun K hK => ?_⟩
            go_simp
            refine hK _ ?_
            clear hK K
            repeat (refine ord_float rfl rfl (fun K hK => ⟨_, (fun w' hw => by have q0 := hw.cell 0; go_simp; exact rfl), ?_⟩); go_simp; refine hK _ ?_; clear hK K)
            refine ord_nil ?_
            obtain ⟨na0, nc0, hNv0⟩ := row_form hrn0
            subst hNv0
            have hcy0 := hqy0.cell 0
            have hfy0 := hqy0.free 0
            refine last_store rfl rfl rfl (y0.setCell ⟨w1.heap.size, 0, none⟩ (.slice na0 (j + 1) nc0)) (by go_simp <;> rfl) ?_
            have HYS0 : Hid (∀ k, k ≠ w1.heap.size → k < wr.heap.size → (∀ e, (Value.slice ua j uc).ownBlock = some e → k ≠ e) → (y0.setCell ⟨w1.heap.size, 0, none⟩ (.slice na0 (j + 1) nc0)).heap[k]? = wr.heap[k]?) := fun k h1 h2 h3 => (Below.heap_setCell y0 ⟨w1.heap.size, 0, none⟩ _ k h1).trans ((hKs0.block k (by omega) (fun e => h3 k e rfl)).trans ((Below.heap_alloc u0 _ k (by omega)).trans (HBB0.block k h2)))
            have hsz0 : (y0.setCell ⟨w1.heap.size, 0, none⟩ (.slice na0 (j + 1) nc0)).heap.size = y0.heap.size := by simp [World.setCell]
            have HBn0 : Hid (Below w.heap.size w (y0.setCell ⟨w1.heap.size, 0, none⟩ (.slice na0 (j + 1) nc0)) ∧ Blk (y0.setCell ⟨w1.heap.size, 0, none⟩ (.slice na0 (j + 1) nc0)) w.heap.size 26 #[.int .i64 (wn : Int), .int .i64 pu, .slice a n c] ∧ Blk (y0.setCell ⟨w1.heap.size, 0, none⟩ (.slice na0 (j + 1) nc0)) (w.heap.size + 1) 122 #[.slice none 0 0, .slice none 0 0, .slice none 0 0] ∧ Blk (y0.setCell ⟨w1.heap.size, 0, none⟩ (.slice na0 (j + 1) nc0)) w1.heap.size 122 #[.slice na0 (j + 1) nc0, .slice va j vc, .slice xa j xc]) := ⟨(((HBw.out.1.trans (HBB0.mono HBw.out.1.size)).alloc (by have := HBw.out.1.size; omega) _).grown hgn0 (by have := HBw.out.1.size; omega) (fun k hk => by have := HO0.out k hk; omega)).setCell (by show w.heap.size ≤ w1.heap.size; omega) _, (HYS0.out w.heap.size (by omega) (by omega) (fun e he => by have := HO0.out e he; omega)).trans HBw.out.2.1, (HYS0.out (w.heap.size + 1) (by omega) (by omega) (fun e he => by have := HO0.out e he; omega)).trans HBw.out.2.2.1, hqy0.set 0 _⟩
            have HTm0 : Hid (Tri 27 V4.heap.size (y0.setCell ⟨w1.heap.size, 0, none⟩ (.slice na0 (j + 1) nc0)).heap.size (y0.setCell ⟨w1.heap.size, 0, none⟩ (.slice na0 (j + 1) nc0)) (.slice va j vc) j vs (qapN ls n 1 j) (.slice xa j xc) j xs (qapN ls n 2 j) (.slice na0 (j + 1) nc0) (j + 1) (us ++ [.slice pa0 pl0 pc0]) (qapN ls n 0 (j + 1))) := by
              rw [hsz0]
              exact (HTn0.same (Same.set _ _ _ (.inl (by show w1.heap.size < V4.heap.size; omega)))).rot
            have HZ1n0 : Hid (ZOwn w0.heap.size wr.heap.size (y0.setCell ⟨w1.heap.size, 0, none⟩ (.slice na0 (j + 1) nc0)) (.slice ba n bc) (colL ls n 1 j)) := HZ1.out.same (fun k h1 h2 => HYS0.out k (by omega) (by omega) (fun e he => by have := HO0.out e he; omega))
            have HZ2n0 : Hid (ZOwn w0.heap.size wr.heap.size (y0.setCell ⟨w1.heap.size, 0, none⟩ (.slice na0 (j + 1) nc0)) (.slice ca n cc) (colL ls n 2 j)) := HZ2.out.same (fun k h1 h2 => HYS0.out k (by omega) (by omega) (fun e he => by have := HO0.out e he; omega))
            have hwn0 : wr.heap.size ≤ (y0.setCell ⟨w1.heap.size, 0, none⟩ (.slice na0 (j + 1) nc0)).heap.size := by omega
            generalize y0.setCell ⟨w1.heap.size, 0, none⟩ (.slice na0 (j + 1) nc0) = Y0 at HBn0 HTm0 hwn0 HZ1n0 HZ2n0 ⊢
            clear HYS0 hsz0 hcy0 hfy0 hqy0 hKs0 hsy0 HTn0 hrn0 hgn0 hat0 hrow0 HPa0 HTu0 hsa0 hqa0 hsu0 hp0 hb0 hqu0 HBB0 hq0 hgl0 HTw HBw HZ0 HZ1 HZ2
            go_wp2_with fail
            have hq1 := HBn0.out.2.2.2
            have hw11 : w1.heap.size < Y0.heap.size := hq1.lt
            refine wp_region_last [(0, false), (1, false), (2, false), (3, true), (4, true), (5, true), (6, false)] 7 (fun wz => Blk wz w1.heap.size 122 #[.slice na0 (j + 1) nc0, .slice va j vc, .slice xa j xc]) mixesSc (by kernel_rfl) hq1.drew ?_
            repeat (refine ord_float rfl rfl (fun K hK => ⟨_, (fun w' hw => by have q0 := hw.cell 1; go_simp; exact rfl), ?_⟩); go_simp; refine hK _ ?_; clear hK K)
            refine ord_call rfl rfl (fun K hK => ⟨_, _, (by go_simp <;> first | exact rfl | exact ⟨rfl, rfl⟩), ?_⟩)
            refine (HCT.out 1 _ _ ((HZ1n0.out.same (w' := Y0.drew) (fun _ _ _ => rfl)).at.wide (by show wr.heap.size ≤ Y0.heap.size; omega))).mono ?_
            rintro e u1 ⟨p1, rfl, hp1, hb1⟩
            have hqu1 := hq1.drew.on hb1 hq1.lt
            have HBB1 : Below Y0.heap.size Y0 u1 := (Below.refl _ _).drew.trans hb1
            refine ⟨_, rfl, hqu1, ?_⟩
            go_simp
            refine hK _ _ ?_
            clear hK K
            repeat (refine ord_float rfl rfl (fun K hK => ⟨_, (fun w' hw => by have q0 := hw.cell 1; go_simp; exact rfl), ?_⟩); go_simp; refine hK _ ?_; clear hK K)
            obtain ⟨pa1, pc1, hpv1⟩ := row_form hp1.1
            subst hpv1
            generalize hgl1 : (pThr (colL ls n 1 j)).length = pl1 at hp1 ⊢
            have hsu1 : Y0.heap.size ≤ u1.heap.size := HBB1.size
            have hqa1 : Blk (u1.alloc (.cells #[.slice pa1 pl1 pc1] 27)) w1.heap.size 122 #[.slice na0 (j + 1) nc0, .slice va j vc, .slice xa j xc] := hqu1.alloc _
            refine ord_op rfl rfl (fun K hK => ⟨.slice (some ⟨u1.heap.size, 0, none⟩) 1 1, u1.alloc (.cells #[.slice pa1 pl1 pc1] 27), (by go_simp <;> rfl), hqa1, ?_⟩)
            go_simp
            refine hK _ _ ?_
            clear hK K
            have hsa1 : (u1.alloc (.cells #[.slice pa1 pl1 pc1] 27)).heap.size = u1.heap.size + 1 := by simp
            have HTu1 : Hid (Tri 27 V4.heap.size Y0.heap.size (u1.alloc (.cells #[.slice pa1 pl1 pc1] 27)) (.slice va j vc) j vs (qapN ls n 1 j) (.slice xa j xc) j xs (qapN ls n 2 j) (.slice na0 (j + 1) nc0) (j + 1) (us ++ [.slice pa0 pl0 pc0]) (qapN ls n 0 (j + 1))) := (HTm0.out.same (Same.of_below HBB1 (Nat.le_refl _))).same (fun k h1 h2 => Below.heap_alloc u1 _ k (by omega))
            have HPa1 : Hid (ZOwn Y0.heap.size (u1.alloc (.cells #[.slice pa1 pl1 pc1] 27)).heap.size (u1.alloc (.cells #[.slice pa1 pl1 pc1] 27)) (.slice pa1 pl1 pc1) (pThr (colL ls n 1 j))) := (hp1.same (fun k h1 h2 => Below.heap_alloc u1 _ k h2)).wide (Nat.le_refl _) (by omega)
            have hrow1 := HTu1.out.u.row
            refine ord_append rfl rfl _ _ 120 rfl V4.heap.size 27 k0 (.slice none 0 0) 1 24 Tryz.underlying120 hk hy0 hy1 hy2 rfl (by decide) _ _ _ rfl hrow1 ⟨u1.heap.size, 0, none⟩ 1 1 [.slice pa1 pl1 pc1] rfl rfl (cell_one_new _ _ _) (fun u hu => by rw [List.mem_singleton] at hu; subst hu; rfl) hm63 hm47 (by simp; omega) ?_
            intro N1 y1 hrn1 hgn1 hat1
            have HTn1 := HTu1.out.app hrn1 hgn1 hat1 HPa1.out (by omega) (by omega)
            have hsy1 : (u1.alloc (.cells #[.slice pa1 pl1 pc1] 27)).heap.size ≤ y1.heap.size := hgn1.size
            have hKs1 := kps_grown hgn1
            have hqy1 : Blk y1 w1.heap.size 122 #[.slice na0 (j + 1) nc0, .slice va j vc, .slice xa j xc] := hKs1.blk hqa1 (fun e => by have := HO1.out _ e; omega)
            refine ⟨hqy1, fun K hK => ?_⟩
            go_simp
            refine hK _ ?_
            clear hK K
            repeat (refine ord_float rfl rfl (fun K hK => ⟨_, (fun w' hw => by have q0 := hw.cell 1; go_simp; exact rfl), ?_⟩); go_simp; refine hK _ ?_; clear hK K)
            refine ord_nil ?_
            obtain ⟨na1, nc1, hNv1⟩ := row_form hrn1
            subst hNv1
            have hcy1 := hqy1.cell 1
            have hfy1 := hqy1.free 1
            refine last_store rfl rfl rfl (y1.setCell ⟨w1.heap.size, 1, none⟩ (.slice na1 (j + 1) nc1)) (by go_simp <;> rfl) ?_
            have HYS1 : Hid (∀ k, k ≠ w1.heap.size → k < Y0.heap.size → (∀ e, (Value.slice va j vc).ownBlock = some e → k ≠ e) → (y1.setCell ⟨w1.heap.size, 1, none⟩ (.slice na1 (j + 1) nc1)).heap[k]? = Y0.heap[k]?) := fun k h1 h2 h3 => (Below.heap_setCell y1 ⟨w1.heap.size, 1, none⟩ _ k h1).trans ((hKs1.block k (by omega) (fun e => h3 k e rfl)).trans ((Below.heap_alloc u1 _ k (by omega)).trans (HBB1.block k h2)))
            have hsz1 : (y1.setCell ⟨w1.heap.size, 1, none⟩ (.slice na1 (j + 1) nc1)).heap.size = y1.heap.size := by simp [World.setCell]
            have HBn1 : Hid (Below w.heap.size w (y1.setCell ⟨w1.heap.size, 1, none⟩ (.slice na1 (j + 1) nc1)) ∧ Blk (y1.setCell ⟨w1.heap.size, 1, none⟩ (.slice na1 (j + 1) nc1)) w.heap.size 26 #[.int .i64 (wn : Int), .int .i64 pu, .slice a n c] ∧ Blk (y1.setCell ⟨w1.heap.size, 1, none⟩ (.slice na1 (j + 1) nc1)) (w.heap.size + 1) 122 #[.slice none 0 0, .slice none 0 0, .slice none 0 0] ∧ Blk (y1.setCell ⟨w1.heap.size, 1, none⟩ (.slice na1 (j + 1) nc1)) w1.heap.size 122 #[.slice na0 (j + 1) nc0, .slice na1 (j + 1) nc1, .slice xa j xc]) := ⟨(((HBn0.out.1.trans (HBB1.mono HBn0.out.1.size)).alloc (by have := HBn0.out.1.size; omega) _).grown hgn1 (by have := HBn0.out.1.size; omega) (fun k hk => by have := HO1.out k hk; omega)).setCell (by show w.heap.size ≤ w1.heap.size; omega) _, (HYS1.out w.heap.size (by omega) (by omega) (fun e he => by have := HO1.out e he; omega)).trans HBn0.out.2.1, (HYS1.out (w.heap.size + 1) (by omega) (by omega) (fun e he => by have := HO1.out e he; omega)).trans HBn0.out.2.2.1, hqy1.set 1 _⟩
            have HTm1 : Hid (Tri 27 V4.heap.size (y1.setCell ⟨w1.heap.size, 1, none⟩ (.slice na1 (j + 1) nc1)).heap.size (y1.setCell ⟨w1.heap.size, 1, none⟩ (.slice na1 (j + 1) nc1)) (.slice xa j xc) j xs (qapN ls n 2 j) (.slice na0 (j + 1) nc0) (j + 1) (us ++ [.slice pa0 pl0 pc0]) (qapN ls n 0 (j + 1)) (.slice na1 (j + 1) nc1) (j + 1) (vs ++ [.slice pa1 pl1 pc1]) (qapN ls n 1 (j + 1))) := by
              rw [hsz1]
              exact (HTn1.same (Same.set _ _ _ (.inl (by show w1.heap.size < V4.heap.size; omega)))).rot
            have HZ2n1 : Hid (ZOwn w0.heap.size wr.heap.size (y1.setCell ⟨w1.heap.size, 1, none⟩ (.slice na1 (j + 1) nc1)) (.slice ca n cc) (colL ls n 2 j)) := HZ2n0.out.same (fun k h1 h2 => HYS1.out k (by omega) (by omega) (fun e he => by have := HO1.out e he; omega))
            have hwn1 : Y0.heap.size ≤ (y1.setCell ⟨w1.heap.size, 1, none⟩ (.slice na1 (j + 1) nc1)).heap.size := by omega
            generalize y1.setCell ⟨w1.heap.size, 1, none⟩ (.slice na1 (j + 1) nc1) = Y1 at HBn1 HTm1 hwn1 HZ2n1 ⊢
            clear HYS1 hsz1 hcy1 hfy1 hqy1 hKs1 hsy1 HTn1 hrn1 hgn1 hat1 hrow1 HPa1 HTu1 hsa1 hqa1 hsu1 hp1 hb1 hqu1 HBB1 hq1 hgl1 HTm0 HBn0 HZ1n0 HZ2n0
            go_wp2_with fail
            have hq2 := HBn1.out.2.2.2
            have hw12 : w1.heap.size < Y1.heap.size := hq2.lt
            refine wp_region_last [(0, false), (1, false), (2, false), (3, true), (4, true), (5, true), (6, false)] 7 (fun wz => Blk wz w1.heap.size 122 #[.slice na0 (j + 1) nc0, .slice na1 (j + 1) nc1, .slice xa j xc]) mixesSc (by kernel_rfl) hq2.drew ?_
            repeat (refine ord_float rfl rfl (fun K hK => ⟨_, (fun w' hw => by have q0 := hw.cell 2; go_simp; exact rfl), ?_⟩); go_simp; refine hK _ ?_; clear hK K)
            refine ord_call rfl rfl (fun K hK => ⟨_, _, (by go_simp <;> first | exact rfl | exact ⟨rfl, rfl⟩), ?_⟩)
            refine (HCT.out 2 _ _ ((HZ2n1.out.same (w' := Y1.drew) (fun _ _ _ => rfl)).at.wide (by show wr.heap.size ≤ Y1.heap.size; omega))).mono ?_
            rintro e u2 ⟨p2, rfl, hp2, hb2⟩
            have hqu2 := hq2.drew.on hb2 hq2.lt
            have HBB2 : Below Y1.heap.size Y1 u2 := (Below.refl _ _).drew.trans hb2
            refine ⟨_, rfl, hqu2, ?_⟩
            go_simp
            refine hK _ _ ?_
            clear hK K
            repeat (refine ord_float rfl rfl (fun K hK => ⟨_, (fun w' hw => by have q0 := hw.cell 2; go_simp; exact rfl), ?_⟩); go_simp; refine hK _ ?_; clear hK K)
            obtain ⟨pa2, pc2, hpv2⟩ := row_form hp2.1
            subst hpv2
            generalize hgl2 : (pThr (colL ls n 2 j)).length = pl2 at hp2 ⊢
            have hsu2 : Y1.heap.size ≤ u2.heap.size := HBB2.size
            have hqa2 : Blk (u2.alloc (.cells #[.slice pa2 pl2 pc2] 27)) w1.heap.size 122 #[.slice na0 (j + 1) nc0, .slice na1 (j + 1) nc1, .slice xa j xc] := hqu2.alloc _
            refine ord_op rfl rfl (fun K hK => ⟨.slice (some ⟨u2.heap.size, 0, none⟩) 1 1, u2.alloc (.cells #[.slice pa2 pl2 pc2] 27), (by go_simp <;> rfl), hqa2, ?_⟩)
            go_simp
            refine hK _ _ ?_
            clear hK K
            have hsa2 : (u2.alloc (.cells #[.slice pa2 pl2 pc2] 27)).heap.size = u2.heap.size + 1 := by simp
            have HTu2 : Hid (Tri 27 V4.heap.size Y1.heap.size (u2.alloc (.cells #[.slice pa2 pl2 pc2] 27)) (.slice xa j xc) j xs (qapN ls n 2 j) (.slice na0 (j + 1) nc0) (j + 1) (us ++ [.slice pa0 pl0 pc0]) (qapN ls n 0 (j + 1)) (.slice na1 (j + 1) nc1) (j + 1) (vs ++ [.slice pa1 pl1 pc1]) (qapN ls n 1 (j + 1))) := (HTm1.out.same (Same.of_below HBB2 (Nat.le_refl _))).same (fun k h1 h2 => Below.heap_alloc u2 _ k (by omega))
            have HPa2 : Hid (ZOwn Y1.heap.size (u2.alloc (.cells #[.slice pa2 pl2 pc2] 27)).heap.size (u2.alloc (.cells #[.slice pa2 pl2 pc2] 27)) (.slice pa2 pl2 pc2) (pThr (colL ls n 2 j))) := (hp2.same (fun k h1 h2 => Below.heap_alloc u2 _ k h2)).wide (Nat.le_refl _) (by omega)
            have hrow2 := HTu2.out.u.row
            refine ord_append rfl rfl _ _ 120 rfl V4.heap.size 27 k0 (.slice none 0 0) 1 24 Tryz.underlying120 hk hy0 hy1 hy2 rfl (by decide) _ _ _ rfl hrow2 ⟨u2.heap.size, 0, none⟩ 1 1 [.slice pa2 pl2 pc2] rfl rfl (cell_one_new _ _ _) (fun u hu => by rw [List.mem_singleton] at hu; subst hu; rfl) hm63 hm47 (by simp; omega) ?_
            intro N2 y2 hrn2 hgn2 hat2
            have HTn2 := HTu2.out.app hrn2 hgn2 hat2 HPa2.out (by omega) (by omega)
            have hsy2 : (u2.alloc (.cells #[.slice pa2 pl2 pc2] 27)).heap.size ≤ y2.heap.size := hgn2.size
            have hKs2 := kps_grown hgn2
            have hqy2 : Blk y2 w1.heap.size 122 #[.slice na0 (j + 1) nc0, .slice na1 (j + 1) nc1, .slice xa j xc] := hKs2.blk hqa2 (fun e => by have := HO2.out _ e; omega)
            refine ⟨hqy2, fun K hK => ?_⟩
            go_simp
            refine hK _ ?_
            clear hK K
            repeat (refine ord_float rfl rfl (fun K hK => ⟨_, (fun w' hw => by have q0 := hw.cell 2; go_simp; exact rfl), ?_⟩); go_simp; refine hK _ ?_; clear hK K)
            refine ord_nil ?_
            obtain ⟨na2, nc2, hNv2⟩ := row_form hrn2
            subst hNv2
            have hcy2 := hqy2.cell 2
            have hfy2 := hqy2.free 2
            refine last_store rfl rfl rfl (y2.setCell ⟨w1.heap.size, 2, none⟩ (.slice na2 (j + 1) nc2)) (by go_simp <;> rfl) ?_
            have HYS2 : Hid (∀ k, k ≠ w1.heap.size → k < Y1.heap.size → (∀ e, (Value.slice xa j xc).ownBlock = some e → k ≠ e) → (y2.setCell ⟨w1.heap.size, 2, none⟩ (.slice na2 (j + 1) nc2)).heap[k]? = Y1.heap[k]?) := fun k h1 h2 h3 => (Below.heap_setCell y2 ⟨w1.heap.size, 2, none⟩ _ k h1).trans ((hKs2.block k (by omega) (fun e => h3 k e rfl)).trans ((Below.heap_alloc u2 _ k (by omega)).trans (HBB2.block k h2)))
            have hsz2 : (y2.setCell ⟨w1.heap.size, 2, none⟩ (.slice na2 (j + 1) nc2)).heap.size = y2.heap.size := by simp [World.setCell]
            have HBn2 : Hid (Below w.heap.size w (y2.setCell ⟨w1.heap.size, 2, none⟩ (.slice na2 (j + 1) nc2)) ∧ Blk (y2.setCell ⟨w1.heap.size, 2, none⟩ (.slice na2 (j + 1) nc2)) w.heap.size 26 #[.int .i64 (wn : Int), .int .i64 pu, .slice a n c] ∧ Blk (y2.setCell ⟨w1.heap.size, 2, none⟩ (.slice na2 (j + 1) nc2)) (w.heap.size + 1) 122 #[.slice none 0 0, .slice none 0 0, .slice none 0 0] ∧ Blk (y2.setCell ⟨w1.heap.size, 2, none⟩ (.slice na2 (j + 1) nc2)) w1.heap.size 122 #[.slice na0 (j + 1) nc0, .slice na1 (j + 1) nc1, .slice na2 (j + 1) nc2]) := ⟨(((HBn1.out.1.trans (HBB2.mono HBn1.out.1.size)).alloc (by have := HBn1.out.1.size; omega) _).grown hgn2 (by have := HBn1.out.1.size; omega) (fun k hk => by have := HO2.out k hk; omega)).setCell (by show w.heap.size ≤ w1.heap.size; omega) _, (HYS2.out w.heap.size (by omega) (by omega) (fun e he => by have := HO2.out e he; omega)).trans HBn1.out.2.1, (HYS2.out (w.heap.size + 1) (by omega) (by omega) (fun e he => by have := HO2.out e he; omega)).trans HBn1.out.2.2.1, hqy2.set 2 _⟩
            have HTm2 : Hid (Tri 27 V4.heap.size (y2.setCell ⟨w1.heap.size, 2, none⟩ (.slice na2 (j + 1) nc2)).heap.size (y2.setCell ⟨w1.heap.size, 2, none⟩ (.slice na2 (j + 1) nc2)) (.slice na0 (j + 1) nc0) (j + 1) (us ++ [.slice pa0 pl0 pc0]) (qapN ls n 0 (j + 1)) (.slice na1 (j + 1) nc1) (j + 1) (vs ++ [.slice pa1 pl1 pc1]) (qapN ls n 1 (j + 1)) (.slice na2 (j + 1) nc2) (j + 1) (xs ++ [.slice pa2 pl2 pc2]) (qapN ls n 2 (j + 1))) := by
              rw [hsz2]
              exact (HTn2.same (Same.set _ _ _ (.inl (by show w1.heap.size < V4.heap.size; omega)))).rot
            have hwn2 : Y1.heap.size ≤ (y2.setCell ⟨w1.heap.size, 2, none⟩ (.slice na2 (j + 1) nc2)).heap.size := by omega
            generalize y2.setCell ⟨w1.heap.size, 2, none⟩ (.slice na2 (j + 1) nc2) = Y2 at HBn2 HTm2 hwn2  ⊢
            clear HYS2 hsz2 hcy2 hfy2 hqy2 hKs2 hsy2 HTn2 hrn2 hgn2 hat2 hrow2 HPa2 HTu2 hsa2 hqa2 hsu2 hp2 hb2 hqu2 HBB2 hq2 hgl2 HTm1 HBn1 HZ2n1
            go_wp2
            go_roundw
            case rel => exact ⟨j + 1, _, _, _, _, _, _, by go_num, hlt, HBn2, HTm2, by omega⟩
            case measure => simp [intOf]; omega
      · have hlt' : ¬ (j : Int) < (wn : Int) := by omega
        obtain rfl : wn = j := by omega
        have hsys := HB.out.2.2.2
        have hres := HB.out.2.2.1
        have HBB : Hid (Below w.heap.size w wr) := HB.out.1
        have hws := HB.out.1.size
        clear HB HA HWD
        go_wp2_with (first | (refine load_blk rfl rfl rfl hsys Tryz.underlying122 infoQa ?_) | (refine store_blkS (cs' := #[.slice ua wn uc, .slice va wn vc, .slice xa wn xc]) rfl rfl rfl rfl rfl hres infoQa rfl (onesQa _ _ _ _ _ _ _ _ _) ?_; intro V8 h8 hheap hoth hbel; have hb8 := hbel _ _ (by omega) HBB.out; have hb9 := hbel 0 wr (Nat.zero_le _) (Below.refl _ _); clear hoth hbel))
        have hs8 : wr.heap.size ≤ V8.heap.size := hb9.size
        have hTT := ((HT.out.same (w' := V8) (fun k h1 h2 => hheap k (by omega))).wide hs8).low (lo' := w.heap.size) (by omega)
        refine bodyPost_ret_by (result_Btmp rfl rfl rfl h8 Tryz.underlying122 infoQa) rfl (.inr ⟨HOK.out, _, _, _, us, vs, xs, rfl, ?_, hb8⟩)
        rw [Int.toNat_natCast]
        exact hTT

end Go.Proofs.YthnahalboomkoaaGreat
