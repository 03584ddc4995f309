/-
  Texts of one's own, joined.
-/
import Derived.Test.YtbkfdafdchjakaaJoined7
import Derived.Test.YtbkfdafdchjakaaJoined11
import Derived.Test.YtbkfdafdchjakaaJoined12
import Derived.Test.YtbkfdafdchjakaaJoined13
import Derived.Test.YtbkfdafdchjakaaJoined8
import Derived.Test.YtbkfdafdchjakaaJoined10
import Derived.Test.YtbkfdafdchjakaaJoined9
import Derived.Test.YtbkfdafdchjakaaJoined27

/-
  The walk of the program's column: what the rows, in order, have of one wire.
  (-DROP-: what the seat lacks is left out.)
-/
namespace Go.Proofs.Ytbkfdafdchjakaa
open Go.RowKit

theorem Row3s.kept {S : Nat → Prop} {lo : Nat} {w w' : World} {a b c : Value} {la lb lc : List Int} (h : Row3s lo w a b c la lb lc) (hk : Kps S w w') (hS : ∀ k, lo ≤ k → ¬ S k) : Row3s lo w' a b c la lb lc :=
  ⟨hk.row h.ra fun k hv => hS k (h.ra.lt k hv).1, hk.row h.rb fun k hv => hS k (h.rb.lt k hv).1, hk.row h.rc fun k hv => hS k (h.rc.lt k hv).1, h.ab, h.ac, h.bc⟩
theorem row3_nil (lo : Nat) (w : World) : Row3s lo w (.slice none 0 0) (.slice none 0 0) (.slice none 0 0) [] [] [] := by
  have h : RowZs lo w (.slice none 0 0) [] := ⟨rfl, .inl ⟨rfl, rfl⟩⟩
  exact ⟨h, h, h, (fun k e => by cases e), (fun k e => by cases e), (fun k e => by cases e)⟩
theorem onesRw (a : Option Addr) (n c : Nat) (a1 : Option Addr) (n1 c1 : Nat) (a2 : Option Addr) (n2 c2 : Nat) : (#[Value.slice a n c, .slice a1 n1 c1, .slice a2 n2 c2]).all (·.oneCell') = true := by simp [Value.oneCell']

set_option maxHeartbeats 6400000 in
set_option maxRecDepth 100000 in
theorem iCol_any (wi pu : Int) (a : Option Addr) (n c wn j : Nat) (hn : n ≤ 16) (hj : j < wn) (ls : List (List Int)) (hwd : ∀ k, k < n * 3 → (ls.getD k []).length = wn) (w : World) (hA : NAt 3 w w.heap.size (.slice a n c) n ls) :
    Calls Try.prog 75 #[.agg #[.int .i64 wi, .int .i64 pu, .slice a n c], .int .i64 (j : Int)] w fun e w' => ∃ x y z, e = .returned (.agg #[x, y, z]) ∧ Row3s w.heap.size w' x y z (colL ls n 0 j) (colL ls n 1 j) (colL ls n 2 j) ∧ Below w.heap.size w w' := by
  obtain ⟨i0, hi, hz0, hz1, hz2⟩ := info_parts info3I
  obtain ⟨W, hW, hb, hs, hr⟩ := boxes1r w 26 93 #[.int .i64 wi, .int .i64 pu, .slice a n c] #[.slice none 0 0, .slice none 0 0, .slice none 0 0]
  have HA : Hid (NAt 3 w w.heap.size (.slice a n c) n ls) := hA
  have HWD : Hid (∀ k, k < n * 3 → (ls.getD k []).length = wn) := hwd
  have H0 : Hid (Below w.heap.size w W ∧ Blk W w.heap.size 26 #[.int .i64 wi, .int .i64 pu, .slice a n c] ∧ Blk W (w.heap.size + 1) 93 #[.slice none 0 0, .slice none 0 0, .slice none 0 0]) := ⟨hb, hs, hr⟩
  have hs1 : w.heap.size + 1 < W.heap.size := hr.lt
  have hj0 : (0 : Int) ≤ (j : Int) := by omega
  have hjw : (j : Int) < (wn : Int) := by omega
  clear hA hb hr hs hwd
  obtain ⟨V0, hV0, hb0, hs0⟩ := box1 W 93 #[.slice none 0 0, .slice none 0 0, .slice none 0 0]
  go_enter Try.func75, Try.ntmps75
  go_wp2_with (refine store_blkS (cs' := #[.slice none 0 0, .slice none 0 0, .slice none 0 0]) rfl rfl rfl rfl rfl hs0 infoRw rfl (onesRw _ _ _ _ _ _ _ _ _) ?_; intro V4 hq4 hheap hoth hbel; have hb4 := hbel _ _ (Nat.le_refl _) hb0; clear hoth hbel hheap; have hcs : V4.cell? ⟨w.heap.size, 2, none⟩ = some (.slice a n c) := (H0.out.2.1.on hb4 H0.out.2.1.lt).cell 2)
  have hs4 : W.heap.size < V4.heap.size := hq4.lt
  have H4 : Hid (Below w.heap.size w V4 ∧ Blk V4 w.heap.size 26 #[.int .i64 wi, .int .i64 pu, .slice a n c] ∧ Blk V4 (w.heap.size + 1) 93 #[.slice none 0 0, .slice none 0 0, .slice none 0 0] ∧ Blk V4 W.heap.size 93 #[.slice none 0 0, .slice none 0 0, .slice none 0 0]) := ⟨H0.out.1.trans (hb4.mono (by omega)), H0.out.2.1.on hb4 H0.out.2.1.lt, H0.out.2.2.on hb4 H0.out.2.2.lt, hq4⟩
  clear hV0 hb0 hs0 hb4 hq4 H0 hW
  go_loopw [12] (fun iv wr => ∃ (i : Nat) (X Y Z : Value), iv = .int .i64 (i : Int) ∧ i ≤ n ∧ Hid (Below w.heap.size w wr ∧ Blk wr w.heap.size 26 #[.int .i64 wi, .int .i64 pu, .slice a n c] ∧ Blk wr (w.heap.size + 1) 93 #[.slice none 0 0, .slice none 0 0, .slice none 0 0] ∧ Blk wr W.heap.size 93 #[X, Y, Z]) ∧ Hid (Row3s V4.heap.size wr X Y Z (colL ls i 0 j) (colL ls i 1 j) (colL ls i 2 j)) ∧ V4.heap.size ≤ wr.heap.size) (fun iv _ => n - (intOf iv).toNat)
  case atStart => exact ⟨0, _, _, _, rfl, Nat.zero_le _, H4, row3_nil _ _, Nat.le_refl _⟩
  case round =>
    obtain ⟨i, X, Y, Z, rfl, hin, HB, HR, hsr⟩ := hrel
    clear H4 hcs
    obtain ⟨aa, ac, hav⟩ := row_form HR.out.ra
    subst hav
    obtain ⟨ba, bc, hbv⟩ := row_form HR.out.rb
    subst hbv
    obtain ⟨ca, cc, hcv⟩ := row_form HR.out.rc
    subst hcv
    rw [colL_len, colL_len, colL_len] at *
    by_cases hil : i < n
    · have hil' : (i : Int) < (n : Int) := by omega
      have hi0 : (0 : Int) ≤ (i : Int) := by omega
      have hm63 : i + 1 ≤ maxLen := by unfold maxLen; omega
      have hm47 : (i + 1) * 8 ≤ 140737488355328 := by omega
      obtain ⟨b, off, a0, c0, a1, c1, a2, c2, rfl, hbb, z0, z1, z2, y0, y1, y2⟩ := (HA.out.on HB.out.1).row3 hil
      have l0 : (ls.getD (i * 3) []).length = wn := HWD.out (i * 3) (by omega)
      have l1 : (ls.getD (i * 3 + 1) []).length = wn := HWD.out (i * 3 + 1) (by omega)
      have l2 : (ls.getD (i * 3 + 2) []).length = wn := HWD.out (i * 3 + 2) (by omega)
      rw [l0] at z0 y0
      rw [l1] at z1 y1
      rw [l2] at z2 y2
      obtain ⟨b0, o0, rfl, hb0, e0⟩ := y0 j hj
      obtain ⟨b1, o1, rfl, hb1, e1⟩ := y1 j hj
      obtain ⟨b2, o2, rfl, hb2, e2⟩ := y2 j hj
      replace e0 : wr.cell? ⟨b0, o0 + j, none⟩ = some (.int .i64 ((ls.getD (i * 3) []).getD j 0)) := e0
      replace e1 : wr.cell? ⟨b1, o1 + j, none⟩ = some (.int .i64 ((ls.getD (i * 3 + 1) []).getD j 0)) := e1
      replace e2 : wr.cell? ⟨b2, o2 + j, none⟩ = some (.int .i64 ((ls.getD (i * 3 + 2) []).getD j 0)) := e2
      have HN0 : Hid (colL ls (i + 1) 0 j = colL ls i 0 j ++ [(ls.getD (i * 3) []).getD j 0]) := zls_next _ _
      have HN1 : Hid (colL ls (i + 1) 1 j = colL ls i 1 j ++ [(ls.getD (i * 3 + 1) []).getD j 0]) := zls_next _ _
      have HN2 : Hid (colL ls (i + 1) 2 j = colL ls i 2 j ++ [(ls.getD (i * 3 + 2) []).getD j 0]) := zls_next _ _
      generalize (ls.getD (i * 3) []).getD j 0 = x0 at e0 HN0
      generalize (ls.getD (i * 3 + 1) []).getD j 0 = x1 at e1 HN1
      generalize (ls.getD (i * 3 + 2) []).getD j 0 = x2 at e2 HN2
      have hws := HB.out.1.size
      have HO0 : Hid (∀ k, (Value.slice aa i ac).ownBlock = some k → V4.heap.size ≤ k ∧ k < wr.heap.size) := fun k hk => ⟨(HR.out.ra.lt k hk).1, (HR.out.ra.lt k hk).2⟩
      have HO1 : Hid (∀ k, (Value.slice ba i bc).ownBlock = some k → V4.heap.size ≤ k ∧ k < wr.heap.size) := fun k hk => ⟨(HR.out.rb.lt k hk).1, (HR.out.rb.lt k hk).2⟩
      have HO2 : Hid (∀ k, (Value.slice ca i cc).ownBlock = some k → V4.heap.size ≤ k ∧ k < wr.heap.size) := fun k hk => ⟨(HR.out.rc.lt k hk).1, (HR.out.rc.lt k hk).2⟩
      have HE : Hid (wr.cell? ⟨b0, o0 + j, none⟩ = some (.int .i64 x0) ∧ wr.cell? ⟨b1, o1 + j, none⟩ = some (.int .i64 x1) ∧ wr.cell? ⟨b2, o2 + j, none⟩ = some (.int .i64 x2)) := ⟨e0, e1, e2⟩
      clear e0 e1 e2 y0 y1 y2 l0 l1 l2
      go_wp2
      obtain ⟨Y0, hY0, hbY, hrY⟩ := box1 wr 93 #[.slice (some ⟨b0, o0, none⟩) wn c0, .slice (some ⟨b1, o1, none⟩) wn c1, .slice (some ⟨b2, o2, none⟩) wn c2]
      rw [hY0]
      clear hY0 z0 z1 z2
      have hY0s : wr.heap.size < Y0.heap.size := hrY.lt
      have HK0 : Hid (Kps (fun k => V4.heap.size ≤ k ∧ k ≠ wr.heap.size ∨ k = W.heap.size) Y0 Y0) := Kps.refl _ _
      have HB0 : Hid (Below w.heap.size w Y0 ∧ Blk Y0 W.heap.size 93 #[.slice aa i ac, .slice ba i bc, .slice ca i cc]) := ⟨HB.out.1.trans (hbY.mono hws), HB.out.2.2.2.on hbY HB.out.2.2.2.lt⟩
      have HQ : Hid (Blk Y0 w.heap.size 26 #[.int .i64 wi, .int .i64 pu, .slice (some ⟨b, off, none⟩) n c] ∧ Blk Y0 (w.heap.size + 1) 93 #[.slice none 0 0, .slice none 0 0, .slice none 0 0] ∧ Blk Y0 wr.heap.size 93 #[.slice (some ⟨b0, o0, none⟩) wn c0, .slice (some ⟨b1, o1, none⟩) wn c1, .slice (some ⟨b2, o2, none⟩) wn c2]) := ⟨HB.out.2.1.on hbY HB.out.2.1.lt, HB.out.2.2.1.on hbY HB.out.2.2.1.lt, hrY⟩
      have HCE : Hid (Y0.cell? ⟨b0, o0 + j, none⟩ = some (.int .i64 x0) ∧ Y0.cell? ⟨b1, o1 + j, none⟩ = some (.int .i64 x1) ∧ Y0.cell? ⟨b2, o2 + j, none⟩ = some (.int .i64 x2)) := ⟨(hbY.cell (p := ⟨b0, o0 + j, none⟩) (by show b0 < _; omega)).trans HE.out.1, (hbY.cell (p := ⟨b1, o1 + j, none⟩) (by show b1 < _; omega)).trans HE.out.2.1, (hbY.cell (p := ⟨b2, o2 + j, none⟩) (by show b2 < _; omega)).trans HE.out.2.2⟩
      have HR0 : Hid (Row3s V4.heap.size Y0 (.slice aa i ac) (.slice ba i bc) (.slice ca i cc) (colL ls i 0 j) (colL ls i 1 j) (colL ls i 2 j)) := HR.out.kept (Kps.of_below (S := fun _ => False) hbY) (fun _ _ h => h)
      have hy00 : Y0.heap.size ≤ Y0.heap.size := Nat.le_refl _
      clear HB HR HE hbY hrY
      have HS0 : Hid (∀ wz, Kps (fun k => (Value.slice aa i ac).ownBlock = some k) Y0 wz → Blk wz W.heap.size 93 #[.slice aa i ac, .slice ba i bc, .slice ca i cc] ∧ Blk wz wr.heap.size 93 #[.slice (some ⟨b0, o0, none⟩) wn c0, .slice (some ⟨b1, o1, none⟩) wn c1, .slice (some ⟨b2, o2, none⟩) wn c2] ∧ wz.cell? ⟨b0, o0 + j, none⟩ = some (.int .i64 x0)) := fun wz hk => by
        refine ⟨hk.blk HB0.out.2 (fun e => by have := (HO0.out _ e).1; omega), hk.blk (HK0.out.blk HQ.out.2.2 (by omega)) (fun e => by have := (HO0.out _ e).2; omega), ?_⟩
        refine (World.cell?_of_block (a := ⟨b0, o0 + j, none⟩) ((hk.block b0 (by omega) (fun e => by have := (HO0.out _ e).1; omega)).trans (HK0.out.block b0 (by omega) (by omega)))).trans HCE.out.1
      refine wp_region_last [(0, false), (1, false), (2, false), (3, false), (4, false), (5, false), (6, false), (7, true), (8, true), (9, false)] 10 (fun wz => Kps (fun k => (Value.slice aa i ac).ownBlock = some k) Y0 wz) mixes (by kernel_rfl) (Kps.refl _ _).drew ?_
      repeat (refine ord_float rfl rfl (fun K hK => ⟨_, (fun w' hw => by have q0 := (HS0.out _ hw).1.cell 0; have q1 :=  (HS0.out _ hw).2.1.cell 0; have q2 :=  (HS0.out _ hw).2.2; go_simp; exact rfl), ?_⟩); go_simp; refine hK _ ?_; clear hK K)
      have HA0 : Kps (fun k => (Value.slice aa i ac).ownBlock = some k) Y0 (Y0.drew.alloc (.cells #[.int .i64 x0] 3)) := Kps.of_below ((Below.refl _ _).drew.alloc (Nat.le_refl _) _)
      refine ord_op rfl rfl (fun K hK => ⟨.slice (some ⟨Y0.heap.size, 0, none⟩) 1 1, Y0.drew.alloc (.cells #[.int .i64 x0] 3), (by go_simp <;> rfl), HA0, ?_⟩)
      go_simp
      refine hK _ _ ?_
      clear hK K
      repeat (refine ord_float rfl rfl (fun K hK => ⟨_, (fun w' hw => by have q0 := (HS0.out _ hw).1.cell 0; have q1 :=  (HS0.out _ hw).2.1.cell 0; have q2 :=  (HS0.out _ hw).2.2; go_simp; exact rfl), ?_⟩); go_simp; refine hK _ ?_; clear hK K)
      have HP0 : Hid (Row3s V4.heap.size (Y0.drew.alloc (.cells #[.int .i64 x0] 3)) (.slice aa i ac) (.slice ba i bc) (.slice ca i cc) (colL ls i 0 j) (colL ls i 1 j) (colL ls i 2 j)) := (show Row3s V4.heap.size Y0.drew _ _ _ _ _ _ from ⟨HR0.out.ra, HR0.out.rb, HR0.out.rc, HR0.out.ab, HR0.out.ac, HR0.out.bc⟩).alloc _
      have hP0 : (Y0.drew.alloc (.cells #[.int .i64 x0] 3)).ownsRow V4.heap.size 3 1 (.slice aa i ac) i (zsV (colL ls i 0 j)) := by have h := HP0.out.ra; unfold RowZs at h; rwa [colL_len] at h
      have hsa0 : (Y0.drew.alloc (.cells #[.int .i64 x0] 3)).heap.size = Y0.heap.size + 1 := by simp
      refine ord_append rfl rfl _ _ 27 rfl V4.heap.size 3 i0 (.int .i64 0) 1 8 Try.underlying27 hi hz0 hz1 hz2 rfl (by decide) _ _ _ rfl hP0 ⟨Y0.heap.size, 0, none⟩ 1 1 [.int .i64 x0] rfl rfl (cell_one_new _ _ _) (one_cell _ _) hm63 hm47 (by simp; omega) ?_
      intro n0 y0 hrn hgn hat
      have HAg0 : Kps (fun k => (Value.slice aa i ac).ownBlock = some k) Y0 y0 := HA0.trans (kps_grown hgn)
      have hrow : RowZs V4.heap.size y0 n0 (colL ls (i + 1) 0 j) := by
        unfold RowZs
        rw [HN0.out, zsV_append, List.length_append, colL_len]
        exact hrn
      have HPn : Row3s V4.heap.size y0 n0 (.slice ba i bc) (.slice ca i cc) (colL ls (i + 1) 0 j) (colL ls i 1 j) (colL ls i 2 j) := HP0.out.app hrow hgn hat
      refine ⟨HAg0, fun K hK => ?_⟩
      go_simp
      refine hK _ ?_
      clear hK K
      repeat (refine ord_float rfl rfl (fun K hK => ⟨_, (fun w' hw => by have q0 := (HS0.out _ hw).1.cell 0; go_simp; exact rfl), ?_⟩); go_simp; refine hK _ ?_; clear hK K)
      refine ord_nil ?_
      obtain ⟨na0, nc0, hNv⟩ := row_form hrow
      rw [colL_len] at hNv
      subst hNv
      have hqy := (HS0.out _ HAg0).1
      have hcy := hqy.cell 0
      have hfy := hqy.free 0
      refine last_store rfl rfl rfl (y0.setCell ⟨W.heap.size, 0, none⟩ (.slice na0 (i + 1) nc0)) (by go_simp <;> rfl) ?_
      have HK1 : Hid (Kps (fun k => V4.heap.size ≤ k ∧ k ≠ wr.heap.size ∨ k = W.heap.size) Y0 (y0.setCell ⟨W.heap.size, 0, none⟩ (.slice na0 (i + 1) nc0))) := (HK0.out.trans (HAg0.more (fun k e => by have := HO0.out _ e; omega))).setCell (.inr rfl) _
      have HB1 : Hid (Below w.heap.size w (y0.setCell ⟨W.heap.size, 0, none⟩ (.slice na0 (i + 1) nc0)) ∧ Blk (y0.setCell ⟨W.heap.size, 0, none⟩ (.slice na0 (i + 1) nc0)) W.heap.size 93 #[.slice na0 (i + 1) nc0, .slice ba i bc, .slice ca i cc]) := ⟨(HAg0.bel HB0.out.1 (by omega) (fun k e => by have := (HO0.out _ e).1; omega)).setCell (by show w.heap.size ≤ W.heap.size; omega) _, hqy.set 0 _⟩
      have HR1 : Hid (Row3s V4.heap.size (y0.setCell ⟨W.heap.size, 0, none⟩ (.slice na0 (i + 1) nc0)) (.slice ba i bc) (.slice ca i cc) (.slice na0 (i + 1) nc0) (colL ls i 1 j) (colL ls i 2 j) (colL ls (i + 1) 0 j)) := (HPn.kept ((Kps.refl (fun k => k = W.heap.size) y0).setCell (p := ⟨W.heap.size, 0, none⟩) rfl _) (fun k h1 h2 => by omega)).rot
      have hy01 : Y0.heap.size ≤ (y0.setCell ⟨W.heap.size, 0, none⟩ (.slice na0 (i + 1) nc0)).heap.size := HK1.out.size
      generalize y0.setCell ⟨W.heap.size, 0, none⟩ (.slice na0 (i + 1) nc0) = Y1 at HK1 HB1 HR1 hy01 ⊢
      clear hcy hfy hqy HPn hrow HAg0 hrn hgn hat hsa0 hP0 HP0 HA0 HS0 HR0 HB0 HK0 hy00
      have HS1 : Hid (∀ wz, Kps (fun k => (Value.slice ba i bc).ownBlock = some k) Y1 wz → Blk wz W.heap.size 93 #[.slice na0 (i + 1) nc0, .slice ba i bc, .slice ca i cc] ∧ Blk wz wr.heap.size 93 #[.slice (some ⟨b0, o0, none⟩) wn c0, .slice (some ⟨b1, o1, none⟩) wn c1, .slice (some ⟨b2, o2, none⟩) wn c2] ∧ wz.cell? ⟨b1, o1 + j, none⟩ = some (.int .i64 x1)) := fun wz hk => by
        refine ⟨hk.blk HB1.out.2 (fun e => by have := (HO1.out _ e).1; omega), hk.blk (HK1.out.blk HQ.out.2.2 (by omega)) (fun e => by have := (HO1.out _ e).2; omega), ?_⟩
        refine (World.cell?_of_block (a := ⟨b1, o1 + j, none⟩) ((hk.block b1 (by omega) (fun e => by have := (HO1.out _ e).1; omega)).trans (HK1.out.block b1 (by omega) (by omega)))).trans HCE.out.2.1
      go_wp2_with fail
      refine wp_region_last [(0, false), (1, false), (2, false), (3, false), (4, false), (5, false), (6, false), (7, true), (8, true), (9, false)] 10 (fun wz => Kps (fun k => (Value.slice ba i bc).ownBlock = some k) Y1 wz) mixes (by kernel_rfl) (Kps.refl _ _).drew ?_
      repeat (refine ord_float rfl rfl (fun K hK => ⟨_, (fun w' hw => by have q0 := (HS1.out _ hw).1.cell 1; have q1 :=  (HS1.out _ hw).2.1.cell 1; have q2 :=  (HS1.out _ hw).2.2; go_simp; exact rfl), ?_⟩); go_simp; refine hK _ ?_; clear hK K)
      have HA1 : Kps (fun k => (Value.slice ba i bc).ownBlock = some k) Y1 (Y1.drew.alloc (.cells #[.int .i64 x1] 3)) := Kps.of_below ((Below.refl _ _).drew.alloc (Nat.le_refl _) _)
      refine ord_op rfl rfl (fun K hK => ⟨.slice (some ⟨Y1.heap.size, 0, none⟩) 1 1, Y1.drew.alloc (.cells #[.int .i64 x1] 3), (by go_simp <;> rfl), HA1, ?_⟩)
      go_simp
      refine hK _ _ ?_
      clear hK K
      repeat (refine ord_float rfl rfl (fun K hK => ⟨_, (fun w' hw => by have q0 := (HS1.out _ hw).1.cell 1; have q1 :=  (HS1.out _ hw).2.1.cell 1; have q2 :=  (HS1.out _ hw).2.2; go_simp; exact rfl), ?_⟩); go_simp; refine hK _ ?_; clear hK K)
      have HP1 : Hid (Row3s V4.heap.size (Y1.drew.alloc (.cells #[.int .i64 x1] 3)) (.slice ba i bc) (.slice ca i cc) (.slice na0 (i + 1) nc0) (colL ls i 1 j) (colL ls i 2 j) (colL ls (i + 1) 0 j)) := (show Row3s V4.heap.size Y1.drew _ _ _ _ _ _ from ⟨HR1.out.ra, HR1.out.rb, HR1.out.rc, HR1.out.ab, HR1.out.ac, HR1.out.bc⟩).alloc _
      have hP1 : (Y1.drew.alloc (.cells #[.int .i64 x1] 3)).ownsRow V4.heap.size 3 1 (.slice ba i bc) i (zsV (colL ls i 1 j)) := by have h := HP1.out.ra; unfold RowZs at h; rwa [colL_len] at h
      have hsa1 : (Y1.drew.alloc (.cells #[.int .i64 x1] 3)).heap.size = Y1.heap.size + 1 := by simp
      refine ord_append rfl rfl _ _ 27 rfl V4.heap.size 3 i0 (.int .i64 0) 1 8 Try.underlying27 hi hz0 hz1 hz2 rfl (by decide) _ _ _ rfl hP1 ⟨Y1.heap.size, 0, none⟩ 1 1 [.int .i64 x1] rfl rfl (cell_one_new _ _ _) (one_cell _ _) hm63 hm47 (by simp; omega) ?_
      intro n1 y1 hrn hgn hat
      have HAg1 : Kps (fun k => (Value.slice ba i bc).ownBlock = some k) Y1 y1 := HA1.trans (kps_grown hgn)
      have hrow : RowZs V4.heap.size y1 n1 (colL ls (i + 1) 1 j) := by
        unfold RowZs
        rw [HN1.out, zsV_append, List.length_append, colL_len]
        exact hrn
      have HPn : Row3s V4.heap.size y1 n1 (.slice ca i cc) (.slice na0 (i + 1) nc0) (colL ls (i + 1) 1 j) (colL ls i 2 j) (colL ls (i + 1) 0 j) := HP1.out.app hrow hgn hat
      refine ⟨HAg1, fun K hK => ?_⟩
      go_simp
      refine hK _ ?_
      clear hK K
      repeat (refine ord_float rfl rfl (fun K hK => ⟨_, (fun w' hw => by have q0 := (HS1.out _ hw).1.cell 1; go_simp; exact rfl), ?_⟩); go_simp; refine hK _ ?_; clear hK K)
      refine ord_nil ?_
      obtain ⟨na1, nc1, hNv⟩ := row_form hrow
      rw [colL_len] at hNv
      subst hNv
      have hqy := (HS1.out _ HAg1).1
      have hcy := hqy.cell 1
      have hfy := hqy.free 1
      refine last_store rfl rfl rfl (y1.setCell ⟨W.heap.size, 1, none⟩ (.slice na1 (i + 1) nc1)) (by go_simp <;> rfl) ?_
      have HK2 : Hid (Kps (fun k => V4.heap.size ≤ k ∧ k ≠ wr.heap.size ∨ k = W.heap.size) Y0 (y1.setCell ⟨W.heap.size, 1, none⟩ (.slice na1 (i + 1) nc1))) := (HK1.out.trans (HAg1.more (fun k e => by have := HO1.out _ e; omega))).setCell (.inr rfl) _
      have HB2 : Hid (Below w.heap.size w (y1.setCell ⟨W.heap.size, 1, none⟩ (.slice na1 (i + 1) nc1)) ∧ Blk (y1.setCell ⟨W.heap.size, 1, none⟩ (.slice na1 (i + 1) nc1)) W.heap.size 93 #[.slice na0 (i + 1) nc0, .slice na1 (i + 1) nc1, .slice ca i cc]) := ⟨(HAg1.bel HB1.out.1 (by omega) (fun k e => by have := (HO1.out _ e).1; omega)).setCell (by show w.heap.size ≤ W.heap.size; omega) _, hqy.set 1 _⟩
      have HR2 : Hid (Row3s V4.heap.size (y1.setCell ⟨W.heap.size, 1, none⟩ (.slice na1 (i + 1) nc1)) (.slice ca i cc) (.slice na0 (i + 1) nc0) (.slice na1 (i + 1) nc1) (colL ls i 2 j) (colL ls (i + 1) 0 j) (colL ls (i + 1) 1 j)) := (HPn.kept ((Kps.refl (fun k => k = W.heap.size) y1).setCell (p := ⟨W.heap.size, 1, none⟩) rfl _) (fun k h1 h2 => by omega)).rot
      have hy02 : Y0.heap.size ≤ (y1.setCell ⟨W.heap.size, 1, none⟩ (.slice na1 (i + 1) nc1)).heap.size := HK2.out.size
      generalize y1.setCell ⟨W.heap.size, 1, none⟩ (.slice na1 (i + 1) nc1) = Y2 at HK2 HB2 HR2 hy02 ⊢
      clear hcy hfy hqy HPn hrow HAg1 hrn hgn hat hsa1 hP1 HP1 HA1 HS1 HR1 HB1 HK1 hy01
      have HS2 : Hid (∀ wz, Kps (fun k => (Value.slice ca i cc).ownBlock = some k) Y2 wz → Blk wz W.heap.size 93 #[.slice na0 (i + 1) nc0, .slice na1 (i + 1) nc1, .slice ca i cc] ∧ Blk wz wr.heap.size 93 #[.slice (some ⟨b0, o0, none⟩) wn c0, .slice (some ⟨b1, o1, none⟩) wn c1, .slice (some ⟨b2, o2, none⟩) wn c2] ∧ wz.cell? ⟨b2, o2 + j, none⟩ = some (.int .i64 x2)) := fun wz hk => by
        refine ⟨hk.blk HB2.out.2 (fun e => by have := (HO2.out _ e).1; omega), hk.blk (HK2.out.blk HQ.out.2.2 (by omega)) (fun e => by have := (HO2.out _ e).2; omega), ?_⟩
        refine (World.cell?_of_block (a := ⟨b2, o2 + j, none⟩) ((hk.block b2 (by omega) (fun e => by have := (HO2.out _ e).1; omega)).trans (HK2.out.block b2 (by omega) (by omega)))).trans HCE.out.2.2
      go_wp2_with fail
      refine wp_region_last [(0, false), (1, false), (2, false), (3, false), (4, false), (5, false), (6, false), (7, true), (8, true), (9, false)] 10 (fun wz => Kps (fun k => (Value.slice ca i cc).ownBlock = some k) Y2 wz) mixes (by kernel_rfl) (Kps.refl _ _).drew ?_
      repeat (refine ord_float rfl rfl (fun K hK => ⟨_, (fun w' hw => by have q0 := (HS2.out _ hw).1.cell 2; have q1 :=  (HS2.out _ hw).2.1.cell 2; have q2 :=  (HS2.out _ hw).2.2; go_simp; exact rfl), ?_⟩); go_simp; refine hK _ ?_; clear hK K)
      have HA2 : Kps (fun k => (Value.slice ca i cc).ownBlock = some k) Y2 (Y2.drew.alloc (.cells #[.int .i64 x2] 3)) := Kps.of_below ((Below.refl _ _).drew.alloc (Nat.le_refl _) _)
      refine ord_op rfl rfl (fun K hK => ⟨.slice (some ⟨Y2.heap.size, 0, none⟩) 1 1, Y2.drew.alloc (.cells #[.int .i64 x2] 3), (by go_simp <;> rfl), HA2, ?_⟩)
      go_simp
      refine hK _ _ ?_
      clear hK K
      repeat (refine ord_float rfl rfl (fun K hK => ⟨_, (fun w' hw => by have q0 := (HS2.out _ hw).1.cell 2; have q1 :=  (HS2.out _ hw).2.1.cell 2; have q2 :=  (HS2.out _ hw).2.2; go_simp; exact rfl), ?_⟩); go_simp; refine hK _ ?_; clear hK K)
      have HP2 : Hid (Row3s V4.heap.size (Y2.drew.alloc (.cells #[.int .i64 x2] 3)) (.slice ca i cc) (.slice na0 (i + 1) nc0) (.slice na1 (i + 1) nc1) (colL ls i 2 j) (colL ls (i + 1) 0 j) (colL ls (i + 1) 1 j)) := (show Row3s V4.heap.size Y2.drew _ _ _ _ _ _ from ⟨HR2.out.ra, HR2.out.rb, HR2.out.rc, HR2.out.ab, HR2.out.ac, HR2.out.bc⟩).alloc _
      have hP2 : (Y2.drew.alloc (.cells #[.int .i64 x2] 3)).ownsRow V4.heap.size 3 1 (.slice ca i cc) i (zsV (colL ls i 2 j)) := by have h := HP2.out.ra; unfold RowZs at h; rwa [colL_len] at h
      have hsa2 : (Y2.drew.alloc (.cells #[.int .i64 x2] 3)).heap.size = Y2.heap.size + 1 := by simp
      refine ord_append rfl rfl _ _ 27 rfl V4.heap.size 3 i0 (.int .i64 0) 1 8 Try.underlying27 hi hz0 hz1 hz2 rfl (by decide) _ _ _ rfl hP2 ⟨Y2.heap.size, 0, none⟩ 1 1 [.int .i64 x2] rfl rfl (cell_one_new _ _ _) (one_cell _ _) hm63 hm47 (by simp; omega) ?_
      intro n2 y2 hrn hgn hat
      have HAg2 : Kps (fun k => (Value.slice ca i cc).ownBlock = some k) Y2 y2 := HA2.trans (kps_grown hgn)
      have hrow : RowZs V4.heap.size y2 n2 (colL ls (i + 1) 2 j) := by
        unfold RowZs
        rw [HN2.out, zsV_append, List.length_append, colL_len]
        exact hrn
      have HPn : Row3s V4.heap.size y2 n2 (.slice na0 (i + 1) nc0) (.slice na1 (i + 1) nc1) (colL ls (i + 1) 2 j) (colL ls (i + 1) 0 j) (colL ls (i + 1) 1 j) := HP2.out.app hrow hgn hat
      refine ⟨HAg2, fun K hK => ?_⟩
      go_simp
      refine hK _ ?_
      clear hK K
      repeat (refine ord_float rfl rfl (fun K hK => ⟨_, (fun w' hw => by have q0 := (HS2.out _ hw).1.cell 2; go_simp; exact rfl), ?_⟩); go_simp; refine hK _ ?_; clear hK K)
      refine ord_nil ?_
      obtain ⟨na2, nc2, hNv⟩ := row_form hrow
      rw [colL_len] at hNv
      subst hNv
      have hqy := (HS2.out _ HAg2).1
      have hcy := hqy.cell 2
      have hfy := hqy.free 2
      refine last_store rfl rfl rfl (y2.setCell ⟨W.heap.size, 2, none⟩ (.slice na2 (i + 1) nc2)) (by go_simp <;> rfl) ?_
      have HK3 : Hid (Kps (fun k => V4.heap.size ≤ k ∧ k ≠ wr.heap.size ∨ k = W.heap.size) Y0 (y2.setCell ⟨W.heap.size, 2, none⟩ (.slice na2 (i + 1) nc2))) := (HK2.out.trans (HAg2.more (fun k e => by have := HO2.out _ e; omega))).setCell (.inr rfl) _
      have HB3 : Hid (Below w.heap.size w (y2.setCell ⟨W.heap.size, 2, none⟩ (.slice na2 (i + 1) nc2)) ∧ Blk (y2.setCell ⟨W.heap.size, 2, none⟩ (.slice na2 (i + 1) nc2)) W.heap.size 93 #[.slice na0 (i + 1) nc0, .slice na1 (i + 1) nc1, .slice na2 (i + 1) nc2]) := ⟨(HAg2.bel HB2.out.1 (by omega) (fun k e => by have := (HO2.out _ e).1; omega)).setCell (by show w.heap.size ≤ W.heap.size; omega) _, hqy.set 2 _⟩
      have HR3 : Hid (Row3s V4.heap.size (y2.setCell ⟨W.heap.size, 2, none⟩ (.slice na2 (i + 1) nc2)) (.slice na0 (i + 1) nc0) (.slice na1 (i + 1) nc1) (.slice na2 (i + 1) nc2) (colL ls (i + 1) 0 j) (colL ls (i + 1) 1 j) (colL ls (i + 1) 2 j)) := (HPn.kept ((Kps.refl (fun k => k = W.heap.size) y2).setCell (p := ⟨W.heap.size, 2, none⟩) rfl _) (fun k h1 h2 => by omega)).rot
      have hy03 : Y0.heap.size ≤ (y2.setCell ⟨W.heap.size, 2, none⟩ (.slice na2 (i + 1) nc2)).heap.size := HK3.out.size
      generalize y2.setCell ⟨W.heap.size, 2, none⟩ (.slice na2 (i + 1) nc2) = Y3 at HK3 HB3 HR3 hy03 ⊢
      clear hcy hfy hqy HPn hrow HAg2 hrn hgn hat hsa2 hP2 HP2 HA2 HS2 HR2 HB2 HK2 hy02
      have HF : Hid (Below w.heap.size w Y3 ∧ Blk Y3 w.heap.size 26 #[.int .i64 wi, .int .i64 pu, .slice (some ⟨b, off, none⟩) n c] ∧ Blk Y3 (w.heap.size + 1) 93 #[.slice none 0 0, .slice none 0 0, .slice none 0 0] ∧ Blk Y3 W.heap.size 93 #[.slice na0 (i + 1) nc0, .slice na1 (i + 1) nc1, .slice na2 (i + 1) nc2]) := ⟨HB3.out.1, HK3.out.blk HQ.out.1 (by omega), HK3.out.blk HQ.out.2.1 (by omega), HB3.out.2⟩
      have hs3 : V4.heap.size ≤ Y3.heap.size := by omega
      clear HK3 HB3 HQ HCE
      go_wp2
      go_roundw
      case rel => exact ⟨i + 1, _, _, _, by go_num, hil, HF, HR3, hs3⟩
      case measure => simp [intOf]; omega
    · have hil' : ¬ (i : Int) < (n : Int) := by omega
      obtain rfl : n = i := by omega
      have hsys := HB.out.2.2.2
      have hres := HB.out.2.2.1
      have HBB : Hid (Below w.heap.size w wr) := HB.out.1
      have hws := HB.out.1.size
      clear HB HA HWD
      go_wp2_with (first | (refine load_blk rfl rfl rfl hsys Try.underlying93 infoRw ?_) | (refine store_blkS (cs' := #[.slice aa n ac, .slice ba n bc, .slice ca n cc]) rfl rfl rfl rfl rfl hres infoRw rfl (onesRw _ _ _ _ _ _ _ _ _) ?_; intro V8 h8 hheap hoth hbel; have hb8 := hbel _ _ (by omega) HBB.out; have hb9 := hbel 0 wr (Nat.zero_le _) (Below.refl _ _); clear hoth hbel))
      have hk8 : Kps (fun k => k = w.heap.size + 1) wr V8 := ⟨hb9.os, hb9.tape, hb9.output, hb9.size, fun k _ h => hheap k h⟩
      have hRR := HR.out.kept hk8 (fun k h1 h2 => by omega)
      refine bodyPost_ret_by (result_blk rfl rfl h8 Try.underlying93 infoRw) rfl ⟨_, _, _, rfl, ⟨owns_low hRR.ra (by omega), owns_low hRR.rb (by omega), owns_low hRR.rc (by omega), hRR.ab, hRR.ac, hRR.bc⟩, hb8⟩

end Go.Proofs.Ytbkfdafdchjakaa

/-
  The walks of the program's values and of its polynomial with given zeros.
  (-DROP-: what the seat lacks is left out.)
-/
namespace Go.Proofs.Ytbkfdafdchjakaa
open Go.RowKit

theorem drop_here {l : List Int} {k : Nat} (h : k < l.length) : l.drop k = l.getD k 0 :: l.drop (k + 1) := by
  rw [List.drop_eq_getElem_cons h]
  simp [h]

set_option maxHeartbeats 1600000 in
set_option maxRecDepth 100000 in
theorem iAt_any (v : Value) (l : List Int) (x : Int) (hl : l.length ≤ 1048576) (w : World) (h : ZAt w w.heap.size v l) :
    Calls Try.prog 53 #[v, .int .i64 x] w fun e w' => e = .returned (.int .i64 (pAt l x)) ∧ Below w.heap.size w w' := by
  obtain ⟨a, cp, rfl, hA⟩ := h
  have HA : Hid (IntsAt w a l.length w.heap.size (fun j => l.getD j 0)) := hA
  clear hA
  obtain ⟨n, hn⟩ : ∃ n, n = l.length := ⟨_, rfl⟩
  have HN : Hid (n = l.length) := hn
  rw [← hn] at HA hl ⊢
  clear hn
  go_enter Try.func53, Try.ntmps53
  go_wp2
  go_loopw [5, 6] (fun y i wr => ∃ (k : Nat), i = .int .i64 ((k : Int) - 1) ∧ k ≤ n ∧ y = .int .i64 (pAt (l.drop k) x) ∧ Hid (Below w.heap.size w wr)) (fun _ i _ => (intOf i + 1).toNat)
  case atStart => exact ⟨n, rfl, Nat.le_refl _, by rw [HN.out, List.drop_length]; rfl, Below.refl _ _⟩
  case round =>
    obtain ⟨k, rfl, hk, rfl, HB⟩ := hrel
    by_cases h0 : 0 < k
    · obtain ⟨j, rfl⟩ : ∃ j, k = j + 1 := ⟨k - 1, by omega⟩
      have hi1 : ((j + 1 : Nat) : Int) - 1 = (j : Int) := by omega
      have hi2 : (0 : Int) ≤ (j : Int) := by omega
      have hi3 : (j : Int) < (n : Int) := by omega
      obtain ⟨b, off, rfl, hb, hz⟩ := (HA.out.on HB.out) j (by omega)
      replace hz : wr.cell? ⟨b, off + j, none⟩ = some (.int .i64 (l.getD j 0)) := hz
      have HP : Hid (pAt (l.drop j) x = scAdd (scMul (pAt (l.drop (j + 1)) x) x) (l.getD j 0)) := by
        show _ = _
        rw [drop_here (l := l) (k := j) (by have := HN.out; omega)]
        rfl
      have HC : Hid (∀ w, Calls Try.prog 30 #[.int .i64 (pAt (l.drop (j + 1)) x), .int .i64 x] w fun e w' => e = .returned (.int .i64 (scMul (pAt (l.drop (j + 1)) x) x)) ∧ w' = w) := fun w => (iScMul_any _ _ w).mono fun e w' h => ⟨h.1, h.2.symm⟩
      have HD : Hid (∀ w, Calls Try.prog 28 #[.int .i64 (scMul (pAt (l.drop (j + 1)) x) x), .int .i64 (l.getD j 0)] w fun e w' => e = .returned (.int .i64 (pAt (l.drop j) x)) ∧ w' = w) := fun w => by
        rw [HP.out]
        exact (iScAdd_any _ _ w).mono fun e w' h => ⟨h.1, h.2.symm⟩
      obtain ⟨r, hr⟩ : ∃ r, r = pAt (l.drop j) x := ⟨_, rfl⟩
      have HR : Hid (r = pAt (l.drop j) x) := hr
      rw [← hr] at HD
      clear hr HP
      generalize scMul (pAt (l.drop (j + 1)) x) x = p at HC HD
      generalize pAt (l.drop (j + 1)) x = q at HC
      generalize l.getD j 0 = z at HD hz
      clear hb HA
      go_wp2
      refine wp_region_still_tail 8 mixesSc (by kernel_rfl) ?_
      simp only [List.take_succ_cons, List.take_zero, List.drop_succ_cons, List.drop_zero]
      repeat still_step
      still_call (HC.out _)
      repeat still_step
      still_call (HD.out _)
      repeat still_step
      refine wpStill_nil ?_
      go_wp2
      go_roundw
      case rel => exact ⟨j, by go_num, by omega, by rw [HR.out], HB.out.drew⟩
      case measure => simp [intOf]
    · obtain rfl : k = 0 := by omega
      go_wp2
      go_ret
      exact ⟨by simp, HB.out⟩

set_option maxHeartbeats 1600000 in
set_option maxRecDepth 100000 in
theorem iZer_any (n : Int) (w : World) : Calls Try.prog 54 #[.int .i64 n] w fun e w' => ∃ u, e = .returned u ∧ ZOwn w.heap.size w'.heap.size w' u (pZer n) ∧ Below w.heap.size w w' := by
  by_cases h0 : n < 0
  · have HE : Hid (pZer n = []) := by show _ = _; unfold pZer; rw [if_pos (Or.inl h0)]
    go_enter Try.func54, Try.ntmps54
    go_wp2
    go_ret
    exact ⟨_, rfl, by rw [HE.out]; exact ZOwn.of (World.ownsRow_lit _ _ _ (Nat.le_refl _) (by simp [maxLen]) (by simp)), (Below.refl _ _).alloc (Nat.le_refl _) _⟩
  · by_cases h1 : n > 16
    · have HE : Hid (pZer n = []) := by show _ = _; unfold pZer; rw [if_pos (Or.inr h1)]
      go_enter Try.func54, Try.ntmps54
      go_wp2
      go_ret
      exact ⟨_, rfl, by rw [HE.out]; exact ZOwn.of (World.ownsRow_lit _ _ _ (Nat.le_refl _) (by simp [maxLen]) (by simp)), (Below.refl _ _).alloc (Nat.le_refl _) _⟩
    · obtain ⟨m, rfl⟩ : ∃ m : Nat, n = (m : Int) := ⟨n.toNat, by omega⟩
      have HE : Hid (pZer (m : Int) = zerL m) := by show _ = _; exact pZer_nat (by omega)
      have hm : m ≤ 16 := by omega
      have h0' : ¬ (m : Int) < 0 := by omega
      go_enter Try.func54, Try.ntmps54
      go_wp2
      go_loopw [3, 14] (fun u i wr => ∃ (k : Nat), i = .int .i64 (k : Int) ∧ k ≤ m ∧ Hid (ZOwn w.heap.size wr.heap.size wr u (zerL k)) ∧ Hid (Below w.heap.size w wr)) (fun _ i _ => m - (intOf i).toNat)
      case atStart => exact ⟨0, rfl, Nat.zero_le _, ZOwn.of (own_lit w [1] (by simp)), (Below.refl _ _).alloc (Nat.le_refl _) _⟩
      case round =>
        obtain ⟨k, rfl, hk, HU, HB⟩ := hrel
        obtain ⟨xa, xc, hxv⟩ := row_form HU.out.1
        subst hxv
        generalize hzl : (zerL k).length = zn at HU
        clear hzl
        by_cases hlt : k < m
        · have hlt' : (k : Int) < (m : Int) := by omega
          have hwr : IntKind.i64.wrap ((k : Int) + 1) = (k : Int) + 1 := IntWalk.i64_in _ (by omega)
          have hwn : IntKind.i64.wrap (-((k : Int) + 1)) = -((k : Int) + 1) := IntWalk.i64_in _ (by omega)
          have CM : Hid (∀ V : World, V = wr.alloc (.cells #[.int .i64 (-((k : Int) + 1)), .int .i64 1] 3) → Calls Try.prog 77 #[.slice xa zn xc, .slice (some ⟨wr.heap.size, 0, none⟩) 2 2] V fun e w' => ∃ x, e = .returned x ∧ ZOwn V.heap.size w'.heap.size w' x (zerL (k + 1)) ∧ Below V.heap.size V w') := fun V hV => by
            subst hV
            have hb : Below wr.heap.size wr (wr.alloc (.cells #[.int .i64 (-((k : Int) + 1)), .int .i64 1] 3)) := (Below.refl _ _).alloc (Nat.le_refl _) _
            refine iQMul_any _ _ (zerL k) [-((k : Int) + 1), 1] (zerL_len k) (by simp) _ (((HU.out.at).on hb).wide hb.size) ?_
            exact (ZOwn.of (own_lit wr [-((k : Int) + 1), 1] (by simp))).at
          clear HU
          go_wp2_with (go_at_call 77; refine (CM.out _ rfl).mono ?_; rintro e w2 ⟨x, rfl, hx, hb2⟩)
          have hs : wr.heap.size ≤ (wr.alloc (.cells #[.int .i64 (-((k : Int) + 1)), .int .i64 1] 3)).heap.size := by simp
          have HX : Hid (ZOwn w.heap.size w2.heap.size w2 x (zerL (k + 1))) := hx.wide (Nat.le_trans HB.out.size hs) (Nat.le_refl _)
          have HB2 : Hid (Below w.heap.size w w2) := (HB.out.alloc HB.out.size _).trans (hb2.mono (Nat.le_trans HB.out.size hs))
          clear hx hb2 hs CM
          go_wp2
          go_roundw
          case rel => exact ⟨k + 1, by go_num, hlt, HX, HB2⟩
          case measure => simp [intOf]; omega
        · have hlt' : ¬ (k : Int) < (m : Int) := by omega
          obtain rfl : m = k := by omega
          go_wp2
          go_ret
          exact ⟨_, rfl, by rw [HE.out]; exact HU.out, HB.out⟩

end Go.Proofs.Ytbkfdafdchjakaa

/-
  The walk of the program's polynomial through given values.
  (-DROP-: what the seat lacks is left out.)
-/
namespace Go.Proofs.Ytbkfdafdchjakaa
open Go.RowKit

theorem lit1_at (w : World) (x : Int) : ZAt (w.alloc (.cells #[.int .i64 x] 3)) (w.alloc (.cells #[.int .i64 x] 3)).heap.size (.slice (some ⟨w.heap.size, 0, none⟩) 1 1) [x] := (ZOwn.of (own_lit w [x] (by simp))).at

set_option maxHeartbeats 3200000 in
set_option maxRecDepth 100000 in
theorem iThr_any (v : Value) (l : List Int) (hl : l.length ≤ 1048576) (w : World) (h : ZAt w w.heap.size v l) : Calls Try.prog 76 #[v] w fun e w' => ∃ u, e = .returned u ∧ ZOwn w.heap.size w'.heap.size w' u (pThr l) ∧ Below w.heap.size w w' := by
  obtain ⟨a, cp, rfl, hA⟩ := h
  have HA : Hid (IntsAt w a l.length w.heap.size (fun j => l.getD j 0)) := hA
  clear hA
  by_cases hbig : 16 < l.length
  · have HE : Hid (pThr l = []) := by show _ = _; unfold pThr; rw [if_pos hbig]
    have hb' : (l.length : Int) > 16 := by omega
    generalize l.length = n at *
    go_enter Try.func76, Try.ntmps76
    go_wp2
    go_ret
    exact ⟨_, rfl, by rw [HE.out]; exact ZOwn.of (World.ownsRow_lit _ _ _ (Nat.le_refl _) (by simp [maxLen]) (by simp)), (Below.refl _ _).alloc (Nat.le_refl _) _⟩
  · have HE : Hid (pThr l = thrL l l.length) := by show _ = _; unfold pThr; rw [if_neg hbig]
    have hb' : ¬ (l.length : Int) > 16 := by omega
    generalize l.length = n at *
    go_enter Try.func76, Try.ntmps76
    go_wp2
    go_loopw [3, 17] (fun u i wr => ∃ (k : Nat), i = .int .i64 (k : Int) ∧ k ≤ n ∧ Hid (ZOwn w.heap.size wr.heap.size wr u (thrL l k)) ∧ Hid (Below w.heap.size w wr)) (fun _ i _ => n - (intOf i).toNat)
    case atStart => exact ⟨0, rfl, Nat.zero_le _, ZOwn.of (World.ownsRow_lit _ _ _ (Nat.le_refl _) (by simp [maxLen]) (by simp)), (Below.refl _ _).alloc (Nat.le_refl _) _⟩
    case round =>
      obtain ⟨k, rfl, hk, HU, HB⟩ := hrel
      obtain ⟨xa, xc, hxv⟩ := row_form HU.out.1
      subst hxv
      have hthr := thrL_small l k
      generalize hzl : (thrL l k).length = zn at HU
      by_cases hlt : k < n
      · have hlt' : (k : Int) < (n : Int) := by omega
        have hk0 : (0 : Int) ≤ (k : Int) := by omega
        have hwr : IntKind.i64.wrap ((k : Int) + 1) = (k : Int) + 1 := IntWalk.i64_in _ (by omega)
        obtain ⟨ba, off, rfl, hba, hz⟩ := (HA.out.on HB.out) k hlt
        replace hz : wr.cell? ⟨ba, off + k, none⟩ = some (.int .i64 (l.getD k 0)) := hz
        have CZ : Hid (∀ w, Calls Try.prog 54 #[.int .i64 (k : Int)] w fun e w' => ∃ u, e = .returned u ∧ ZOwn w.heap.size w'.heap.size w' u (zerL k) ∧ Below w.heap.size w w') := fun w => by
          have := iZer_any (k : Int) w
          rwa [pZer_nat (by omega)] at this
        have CT : Hid (∀ w (v : Value), ZAt w w.heap.size v (thrL l k) → Calls Try.prog 53 #[v, .int .i64 ((k : Int) + 1)] w fun e w' => e = .returned (.int .i64 (pAt (thrL l k) ((k : Int) + 1))) ∧ Below w.heap.size w w') := fun w v hv => iAt_any v _ _ (by omega) w hv
        have CE : Hid (∀ w (v : Value), ZAt w w.heap.size v (zerL k) → Calls Try.prog 53 #[v, .int .i64 ((k : Int) + 1)] w fun e w' => e = .returned (.int .i64 (pAt (zerL k) ((k : Int) + 1))) ∧ Below w.heap.size w w') := fun w v hv => iAt_any v _ _ (zerL_len k) w hv
        have CN : Hid (∀ w, Calls Try.prog 96 #[.int .i64 (pAt (thrL l k) ((k : Int) + 1))] w fun e w' => e = .returned (.int .i64 (scNeg (pAt (thrL l k) ((k : Int) + 1)))) ∧ w = w') := iScNeg_any _
        have CA : Hid (∀ w, Calls Try.prog 28 #[.int .i64 (l.getD k 0), .int .i64 (scNeg (pAt (thrL l k) ((k : Int) + 1)))] w fun e w' => e = .returned (.int .i64 (scAdd (l.getD k 0) (scNeg (pAt (thrL l k) ((k : Int) + 1))))) ∧ w = w') := iScAdd_any _ _
        have CI : Hid (∀ w, Calls Try.prog 31 #[.int .i64 (pAt (zerL k) ((k : Int) + 1))] w fun e w' => e = .returned (.int .i64 (scInv (pAt (zerL k) ((k : Int) + 1)))) ∧ w = w') := iScInv_any _
        have CM : Hid (∀ w, Calls Try.prog 30 #[.int .i64 (scAdd (l.getD k 0) (scNeg (pAt (thrL l k) ((k : Int) + 1)))), .int .i64 (scInv (pAt (zerL k) ((k : Int) + 1)))] w fun e w' => e = .returned (.int .i64 (thrF l (thrL l k) k)) ∧ w = w') := iScMul_any _ _
        have CP : Hid (∀ w (u v : Value), ZAt w w.heap.size u [thrF l (thrL l k) k] → ZAt w w.heap.size v (zerL k) → Calls Try.prog 77 #[u, v] w fun e w' => ∃ u, e = .returned u ∧ ZOwn w.heap.size w'.heap.size w' u (qMul [thrF l (thrL l k) k] (zerL k)) ∧ Below w.heap.size w w') := fun w u v h1 h2 => iQMul_any u v _ _ (by simp) (zerL_len k) w h1 h2
        have CS : Hid (∀ w (u v : Value), ZAt w w.heap.size u (thrL l k) → ZAt w w.heap.size v (qMul [thrF l (thrL l k) k] (zerL k)) → Calls Try.prog 97 #[u, v] w fun e w' => ∃ u, e = .returned u ∧ ZOwn w.heap.size w'.heap.size w' u (thrL l (k + 1)) ∧ Below w.heap.size w w') := fun w u v h1 h2 => iQAdd_any u v _ _ (by omega) (qMul_len _ _) w h1 h2
        clear hzl hthr hba
        generalize thrF l (thrL l k) k = fac at CM CP CS
        generalize qMul [fac] (zerL k) = pm at CP CS
        generalize scAdd (l.getD k 0) (scNeg (pAt (thrL l k) ((k : Int) + 1))) = q1 at CA CM
        generalize scNeg (pAt (thrL l k) ((k : Int) + 1)) = q2 at CN CA
        generalize pAt (thrL l k) ((k : Int) + 1) = q3 at CT CN
        generalize scInv (pAt (zerL k) ((k : Int) + 1)) = q4 at CI CM
        generalize pAt (zerL k) ((k : Int) + 1) = q5 at CE CI
        generalize l.getD k 0 = y at hz CA
        generalize ht2 : thrL l (k + 1) = t2 at CS
        have HT2 : Hid (thrL l (k + 1) = t2) := ht2
        clear ht2
        generalize thrL l k = t1 at HU CT CS
        generalize zerL k = z1 at CZ CE CP
        go_wp2_with fail
        go_at_call 54
        refine (CZ.out _).mono ?_
        rintro e w1 ⟨zv, rfl, hzv, hb1⟩
        have HZ1 : Hid (ZOwn wr.heap.size w1.heap.size w1 zv z1 ∧ Below wr.heap.size wr w1) := ⟨hzv, hb1⟩
        clear hzv hb1
        go_wp2_with fail
        go_at_call 53
        refine (CT.out _ _ ((HU.out.at.on HZ1.out.2).wide HZ1.out.2.size)).mono ?_
        rintro e w2 ⟨rfl, hb2⟩
        have HB2 : Hid (Below w1.heap.size w1 w2) := hb2
        clear hb2
        go_wp2_with fail
        go_at_call 96
        refine (CN.out _).mono ?_
        rintro e wz ⟨rfl, rfl⟩
        go_wp2_with fail
        go_at_call 28
        refine (CA.out _).mono ?_
        rintro e wz ⟨rfl, rfl⟩
        go_wp2_with fail
        go_at_call 53
        refine (CE.out _ _ ((HZ1.out.1.at.on HB2.out).wide HB2.out.size)).mono ?_
        rintro e w3 ⟨rfl, hb3⟩
        have HB3 : Hid (Below w1.heap.size w1 w3) := HB2.out.trans (hb3.mono HB2.out.size)
        clear hb3
        go_wp2_with fail
        go_at_call 31
        refine (CI.out _).mono ?_
        rintro e wz ⟨rfl, rfl⟩
        go_wp2_with fail
        go_at_call 30
        refine (CM.out _).mono ?_
        rintro e wz ⟨rfl, rfl⟩
        go_wp2_with fail
        have HB4 : Hid (Below w1.heap.size w1 (w3.alloc (.cells #[.int .i64 fac] 3))) := HB3.out.alloc HB3.out.size _
        have HL4 : Hid (ZAt (w3.alloc (.cells #[.int .i64 fac] 3)) (w3.alloc (.cells #[.int .i64 fac] 3)).heap.size (.slice (some ⟨w3.heap.size, 0, none⟩) 1 1) [fac]) := lit1_at w3 fac
        generalize w3.alloc (.cells #[.int .i64 fac] 3) = w4 at HB4 HL4 ⊢
        go_at_call 77
        refine (CP.out _ _ _ HL4.out ((HZ1.out.1.at.on HB4.out).wide HB4.out.size)).mono ?_
        rintro e w5 ⟨pv, rfl, hpv, hb5⟩
        have HB5 : Hid (Below wr.heap.size wr w5) := HZ1.out.2.trans ((HB4.out.trans (hb5.mono HB4.out.size)).mono HZ1.out.2.size)
        have HP5 : Hid (ZAt w5 w5.heap.size pv pm) := hpv.at
        clear hpv hb5
        go_wp2_with fail
        go_at_call 97
        refine (CS.out _ _ _ ((HU.out.at.on HB5.out).wide HB5.out.size) HP5.out).mono ?_
        rintro e w6 ⟨nv, rfl, hnv, hb6⟩
        have hws : w.heap.size ≤ w5.heap.size := Nat.le_trans HB.out.size HB5.out.size
        have HB6 : Hid (Below w.heap.size w w6) := (HB.out.trans (HB5.out.mono HB.out.size)).trans (hb6.mono hws)
        have HN6 : Hid (ZOwn w.heap.size w6.heap.size w6 nv t2) := hnv.wide hws (Nat.le_refl _)
        clear hnv hb6 hws HP5 HB5 HB4 HL4 HB3 HB2 HZ1 CS CP CM CI CA CN CE CT CZ HU
        go_wp2
        go_roundw
        case rel => exact ⟨k + 1, by go_num, hlt, by rw [HT2.out]; exact HN6, HB6⟩
        case measure => simp [intOf]; omega
      · have hlt' : ¬ (k : Int) < (n : Int) := by omega
        obtain rfl : n = k := by omega
        clear hzl hthr
        go_wp2
        go_ret
        exact ⟨_, rfl, by rw [HE.out]; exact HU.out, HB.out⟩

end Go.Proofs.Ytbkfdafdchjakaa
