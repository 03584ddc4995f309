/-
  The walk of the program's column: what the rows, in order, have of one wire.
  (-DROP-: what the seat lacks is left out.)
-/
import Derived.Test.YthnahalboomkoaaGreatJoined7
import Derived.Test.YthnahalboomkoaaGreatJoined12
import Derived.Test.YthnahalboomkoaaGreatJoined13
import Derived.Test.YthnahalboomkoaaGreatRwCopy
import Derived.Test.YthnahalboomkoaaGreatJoined9
import Derived.Test.YthnahalboomkoaaGreatJoined11
import Derived.Test.YthnahalboomkoaaGreatJoined8
import Derived.RegionTactic
import Derived.ChangeAlike
import Derived.Test.YthnahalboomkoaaGreatJoined10

namespace Go.Proofs.YthnahalboomkoaaGreat
open Go.RowKit

theorem Row3s.kept {S : Nat → Prop} {lo : Nat} {w w' : World} {a b c : Value} {la lb lc : List Int} (h : Row3s lo w a b c la lb lc) (hk : Kps S w w') (hS : ∀ k, lo ≤ k → ¬ S k) : Row3s lo w' a b c la lb lc :=
  ⟨hk.row h.ra fun k hv => hS k (h.ra.lt k hv).1, hk.row h.rb fun k hv => hS k (h.rb.lt k hv).1, hk.row h.rc fun k hv => hS k (h.rc.lt k hv).1, h.ab, h.ac, h.bc⟩
theorem row3_nil (lo : Nat) (w : World) : Row3s lo w (.slice none 0 0) (.slice none 0 0) (.slice none 0 0) [] [] [] := by
  have h : RowZs lo w (.slice none 0 0) [] := ⟨rfl, .inl ⟨rfl, rfl⟩⟩
  exact ⟨h, h, h, (fun k e => by cases e), (fun k e => by cases e), (fun k e => by cases e)⟩
theorem onesRw (a : Option Addr) (n c : Nat) (a1 : Option Addr) (n1 c1 : Nat) (a2 : Option Addr) (n2 c2 : Nat) : (#[Value.slice a n c, .slice a1 n1 c1, .slice a2 n2 c2]).all (·.oneCell') = true := by simp [Value.oneCell']

set_option maxHeartbeats 6400000 in
set_option maxRecDepth 100000 in
theorem iCol_any (wi pu : Int) (a : Option Addr) (n c wn j : Nat) (hn : n ≤ 16) (hj : j < wn) (ls : List (List Int)) (hwd : ∀ k, k < n * 3 → (ls.getD k []).length = wn) (w : World) (hA : NAt 3 w w.heap.size (.slice a n c) n ls) :
    Calls Tryz.prog 178 #[.agg #[.int .i64 wi, .int .i64 pu, .slice a n c], .int .i64 (j : Int)] w fun e w' => ∃ x y z, e = .returned (.agg #[x, y, z]) ∧ Row3s w.heap.size w' x y z (colL ls n 0 j) (colL ls n 1 j) (colL ls n 2 j) ∧ Below w.heap.size w w' := by
  obtain ⟨i0, hi, hz0, hz1, hz2⟩ := info_parts info3I
  obtain ⟨W, hW, hb, hs, hr⟩ := boxes1r w 26 146 #[.int .i64 wi, .int .i64 pu, .slice a n c] #[.slice none 0 0, .slice none 0 0, .slice none 0 0]
  have HA : Hid (NAt 3 w w.heap.size (.slice a n c) n ls) := hA
  have HWD : Hid (∀ k, k < n * 3 → (ls.getD k []).length = wn) := hwd
  have H0 : Hid (Below w.heap.size w W ∧ Blk W w.heap.size 26 #[.int .i64 wi, .int .i64 pu, .slice a n c] ∧ Blk W (w.heap.size + 1) 146 #[.slice none 0 0, .slice none 0 0, .slice none 0 0]) := ⟨hb, hs, hr⟩
  have hs1 : w.heap.size + 1 < W.heap.size := hr.lt
  have hj0 : (0 : Int) ≤ (j : Int) := by omega
  have hjw : (j : Int) < (wn : Int) := by omega
  clear hA hb hr hs hwd
  obtain ⟨V0, hV0, hb0, hs0⟩ := box1 W 146 #[.slice none 0 0, .slice none 0 0, .slice none 0 0]
  go_enter Tryz.func178, Tryz.ntmps178
  go_wp2_with (refine store_blkS (cs' := #[.slice none 0 0, .slice none 0 0, .slice none 0 0]) rfl rfl rfl rfl rfl hs0 infoRw rfl (onesRw _ _ _ _ _ _ _ _ _) ?_; intro V4 hq4 hheap hoth hbel; have hb4 := hbel _ _ (Nat.le_refl _) hb0; clear hoth hbel hheap; have hcs : V4.cell? ⟨w.heap.size, 2, none⟩ = some (.slice a n c) := (H0.out.2.1.on hb4 H0.out.2.1.lt).cell 2)
  have hs4 : W.heap.size < V4.heap.size := hq4.lt
  have H4 : Hid (Below w.heap.size w V4 ∧ Blk V4 w.heap.size 26 #[.int .i64 wi, .int .i64 pu, .slice a n c] ∧ Blk V4 (w.heap.size + 1) 146 #[.slice none 0 0, .slice none 0 0, .slice none 0 0] ∧ Blk V4 W.heap.size 146 #[.slice none 0 0, .slice none 0 0, .slice none 0 0]) := ⟨H0.out.1.trans (hb4.mono (by omega)), H0.out.2.1.on hb4 H0.out.2.1.lt, H0.out.2.2.on hb4 H0.out.2.2.lt, hq4⟩
  clear hV0 hb0 hs0 hb4 hq4 H0 hW
  go_loopw [12] (fun iv wr => ∃ (i : Nat) (X Y Z : Value), iv = .int .i64 (i : Int) ∧ i ≤ n ∧ Hid (Below w.heap.size w wr ∧ Blk wr w.heap.size 26 #[.int .i64 wi, .int .i64 pu, .slice a n c] ∧ Blk wr (w.heap.size + 1) 146 #[.slice none 0 0, .slice none 0 0, .slice none 0 0] ∧ Blk wr W.heap.size 146 #[X, Y, Z]) ∧ Hid (Row3s V4.heap.size wr X Y Z (colL ls i 0 j) (colL ls i 1 j) (colL ls i 2 j)) ∧ V4.heap.size ≤ wr.heap.size) (fun iv _ => n - (intOf iv).toNat)
  case atStart => exact ⟨0, _, _, _, rfl, Nat.zero_le _, H4, row3_nil _ _, Nat.le_refl _⟩
  case round =>
    obtain ⟨i, X, Y, Z, rfl, hin, HB, HR, hsr⟩ := hrel
    clear H4 hcs
    obtain ⟨aa, ac, hav⟩ := row_form HR.out.ra
    subst hav
    obtain ⟨ba, bc, hbv⟩ := row_form HR.out.rb
    subst hbv
    obtain ⟨ca, cc, hcv⟩ := row_form HR.out.rc
    subst hcv
    rw [colL_len, colL_len, colL_len] at *
    by_cases hil : i < n
    · have hil' : (i : Int) < (n : Int) := by omega
      have hi0 : (0 : Int) ≤ (i : Int) := by omega
      have hm63 : i + 1 ≤ maxLen := by unfold maxLen; omega
      have hm47 : (i + 1) * 8 ≤ 140737488355328 := by omega
      obtain ⟨b, off, a0, c0, a1, c1, a2, c2, rfl, hbb, z0, z1, z2, y0, y1, y2⟩ := (HA.out.on HB.out.1).row3 hil
      have l0 : (ls.getD (i * 3) []).length = wn := HWD.out (i * 3) (by omega)
      have l1 : (ls.getD (i * 3 + 1) []).length = wn := HWD.out (i * 3 + 1) (by omega)
      have l2 : (ls.getD (i * 3 + 2) []).length = wn := HWD.out (i * 3 + 2) (by omega)
      rw [l0] at z0 y0
      rw [l1] at z1 y1
      rw [l2] at z2 y2
      obtain ⟨b0, o0, rfl, hb0, e0⟩ := y0 j hj
      obtain ⟨b1, o1, rfl, hb1, e1⟩ := y1 j hj
      obtain ⟨b2, o2, rfl, hb2, e2⟩ := y2 j hj
      replace e0 : wr.cell? ⟨b0, o0 + j, none⟩ = some (.int .i64 ((ls.getD (i * 3) []).getD j 0)) := e0
      replace e1 : wr.cell? ⟨b1, o1 + j, none⟩ = some (.int .i64 ((ls.getD (i * 3 + 1) []).getD j 0)) := e1
      replace e2 : wr.cell? ⟨b2, o2 + j, none⟩ = some (.int .i64 ((ls.getD (i * 3 + 2) []).getD j 0)) := e2
      have HN0 : Hid (colL ls (i + 1) 0 j = colL ls i 0 j ++ [(ls.getD (i * 3) []).getD j 0]) := zls_next _ _
      have HN1 : Hid (colL ls (i + 1) 1 j = colL ls i 1 j ++ [(ls.getD (i * 3 + 1) []).getD j 0]) := zls_next _ _
      have HN2 : Hid (colL ls (i + 1) 2 j = colL ls i 2 j ++ [(ls.getD (i * 3 + 2) []).getD j 0]) := zls_next _ _
      generalize (ls.getD (i * 3) []).getD j 0 = x0 at e0 HN0
      generalize (ls.getD (i * 3 + 1) []).getD j 0 = x1 at e1 HN1
      generalize (ls.getD (i * 3 + 2) []).getD j 0 = x2 at e2 HN2
      have hws := HB.out.1.size
      have HO0 : Hid (∀ k, (Value.slice aa i ac).ownBlock = some k → V4.heap.size ≤ k ∧ k < wr.heap.size) := fun k hk => ⟨(HR.out.ra.lt k hk).1, (HR.out.ra.lt k hk).2⟩
      have HO1 : Hid (∀ k, (Value.slice ba i bc).ownBlock = some k → V4.heap.size ≤ k ∧ k < wr.heap.size) := fun k hk => ⟨(HR.out.rb.lt k hk).1, (HR.out.rb.lt k hk).2⟩
      have HO2 : Hid (∀ k, (Value.slice ca i cc).ownBlock = some k → V4.heap.size ≤ k ∧ k < wr.heap.size) := fun k hk => ⟨(HR.out.rc.lt k hk).1, (HR.out.rc.lt k hk).2⟩
      have HE : Hid (wr.cell? ⟨b0, o0 + j, none⟩ = some (.int .i64 x0) ∧ wr.cell? ⟨b1, o1 + j, none⟩ = some (.int .i64 x1) ∧ wr.cell? ⟨b2, o2 + j, none⟩ = some (.int .i64 x2)) := ⟨e0, e1, e2⟩
      clear e0 e1 e2 y0 y1 y2 l0 l1 l2
      go_wp2
      obtain ⟨Y0, hY0, hbY, hrY⟩ := box1 wr 146 #[.slice (some ⟨b0, o0, none⟩) wn c0, .slice (some ⟨b1, o1, none⟩) wn c1, .slice (some ⟨b2, o2, none⟩) wn c2]
      rw [hY0]
      clear hY0 z0 z1 z2
      have hY0s : wr.heap.size < Y0.heap.size := hrY.lt
      have HK0 : Hid (Kps (fun k => V4.heap.size ≤ k ∧ k ≠ wr.heap.size ∨ k = W.heap.size) Y0 Y0) := Kps.refl _ _
      have HB0 : Hid (Below w.heap.size w Y0 ∧ Blk Y0 W.heap.size 146 #[.slice aa i ac, .slice ba i bc, .slice ca i cc]) := ⟨HB.out.1.trans (hbY.mono hws), HB.out.2.2.2.on hbY HB.out.2.2.2.lt⟩
      have HQ : Hid (Blk Y0 w.heap.size 26 #[.int .i64 wi, .int .i64 pu, .slice (some ⟨b, off, none⟩) n c] ∧ Blk Y0 (w.heap.size + 1) 146 #[.slice none 0 0, .slice none 0 0, .slice none 0 0] ∧ Blk Y0 wr.heap.size 146 #[.slice (some ⟨b0, o0, none⟩) wn c0, .slice (some ⟨b1, o1, none⟩) wn c1, .slice (some ⟨b2, o2, none⟩) wn c2]) := ⟨HB.out.2.1.on hbY HB.out.2.1.lt, HB.out.2.2.1.on hbY HB.out.2.2.1.lt, hrY⟩
      have HCE : Hid (Y0.cell? ⟨b0, o0 + j, none⟩ = some (.int .i64 x0) ∧ Y0.cell? ⟨b1, o1 + j, none⟩ = some (.int .i64 x1) ∧ Y0.cell? ⟨b2, o2 + j, none⟩ = some (.int .i64 x2)) := ⟨(hbY.cell (p := ⟨b0, o0 + j, none⟩) (by show b0 < _; omega)).trans HE.out.1, (hbY.cell (p := ⟨b1, o1 + j, none⟩) (by show b1 < _; omega)).trans HE.out.2.1, (hbY.cell (p := ⟨b2, o2 + j, none⟩) (by show b2 < _; omega)).trans HE.out.2.2⟩
      have HR0 : Hid (Row3s V4.heap.size Y0 (.slice aa i ac) (.slice ba i bc) (.slice ca i cc) (colL ls i 0 j) (colL ls i 1 j) (colL ls i 2 j)) := HR.out.kept (Kps.of_below (S := fun _ => False) hbY) (fun _ _ h => h)
      have hy00 : Y0.heap.size ≤ Y0.heap.size := Nat.le_refl _
      clear HB HR HE hbY hrY
      have HS0 : Hid (∀ wz, Kps (fun k => (Value.slice aa i ac).ownBlock = some k) Y0 wz → Blk wz W.heap.size 146 #[.slice aa i ac, .slice ba i bc, .slice ca i cc] ∧ Blk wz wr.heap.size 146 #[.slice (some ⟨b0, o0, none⟩) wn c0, .slice (some ⟨b1, o1, none⟩) wn c1, .slice (some ⟨b2, o2, none⟩) wn c2] ∧ wz.cell? ⟨b0, o0 + j, none⟩ = some (.int .i64 x0)) := fun wz hk => by
        refine ⟨hk.blk HB0.out.2 (fun e => by have := (HO0.out _ e).1; omega), hk.blk (HK0.out.blk HQ.out.2.2 (by omega)) (fun e => by have := (HO0.out _ e).2; omega), ?_⟩
        refine (World.cell?_of_block (a := ⟨b0, o0 + j, none⟩) ((hk.block b0 (by omega) (fun e => by have := (HO0.out _ e).1; omega)).trans (HK0.out.block b0 (by omega) (by omega)))).trans HCE.out.1
      refine wp_region_last [(0, false), (1, false), (2, false), (3, false), (4, false), (5, false), (6, false), (7, true), (8, true), (9, false)] 10 (fun wz => Kps (fun k => (Value.slice aa i ac).ownBlock = some k) Y0 wz) mixes (by kernel_rfl) (Kps.refl _ _).drew ?_
      repeat (refine ord_float rfl rfl (fun K hK => ⟨_, (fun w' hw => by have q0 := (HS0.out _ hw).1.cell 0; have q1 :=  (HS0.out _ hw).2.1.cell 0; have q2 :=  (HS0.out _ hw).2.2; go_simp; exact rfl), ?_⟩); go_simp; refine hK _ ?_; clear hK K)
      have HA0 : Kps (fun k => (Value.slice aa i ac).ownBlock = some k) Y0 (Y0.drew.alloc (.cells #[.int .i64 x0] 3)) := Kps.of_below ((Below.refl _ _).drew.alloc (Nat.le_refl _) _)
      refine ord_op rfl rfl (fun K hK => ⟨.slice (some ⟨Y0.heap.size, 0, none⟩) 1 1, Y0.drew.alloc (.cells #[.int .i64 x0] 3), (by go_simp <;> rfl), HA0, ?_⟩)
      go_simp
      refine hK _ _ ?_
      clear hK K
      repeat (refine ord_float rfl rfl (fun K hK => ⟨_, (fun w' hw => by have q0 := (HS0.out _ hw).1.cell 0; have q1 :=  (HS0.out _ hw).2.1.cell 0; have q2 :=  (HS0.out _ hw).2.2; go_simp; exact rfl), ?_⟩); go_simp; refine hK _ ?_; clear hK K)
      have HP0 : Hid (Row3s V4.heap.size (Y0.drew.alloc (.cells #[.int .i64 x0] 3)) (.slice aa i ac) (.slice ba i bc) (.slice ca i cc) (colL ls i 0 j) (colL ls i 1 j) (colL ls i 2 j)) := (show Row3s V4.heap.size Y0.drew _ _ _ _ _ _ from ⟨HR0.out.ra, HR0.out.rb, HR0.out.rc, HR0.out.ab, HR0.out.ac, HR0.out.bc⟩).alloc _
      have hP0 : (Y0.drew.alloc (.cells #[.int .i64 x0] 3)).ownsRow V4.heap.size 3 1 (.slice aa i ac) i (zsV (colL ls i 0 j)) := by have h := HP0.out.ra; unfold RowZs at h; rwa [colL_len] at h
      have hsa0 : (Y0.drew.alloc (.cells #[.int .i64 x0] 3)).heap.size = Y0.heap.size + 1 := by simp
      refine ord_append rfl rfl _ _ 27 rfl V4.heap.size 3 i0 (.int .i64 0) 1 8 Tryz.underlying27 hi hz0 hz1 hz2 rfl (by decide) _ _ _ rfl hP0 ⟨Y0.heap.size, 0, none⟩ 1 1 [.int .i64 x0] rfl rfl (cell_one_new _ _ _) (one_cell _ _) hm63 hm47 (by simp; omega) ?_
      intro n0 y0 hrn hgn hat
      have HAg0 : Kps (fun k => (Value.slice aa i ac).ownBlock = some k) Y0 y0 := HA0.trans (kps_grown hgn)
      have hrow : RowZs V4.heap.size y0 n0 (colL ls (i + 1) 0 j) := by
        unfold RowZs
        rw [HN0.out, zsV_append, List.length_append, colL_len]
        exact hrn
      have HPn : Row3s V4.heap.size y0 n0 (.slice ba i bc) (.slice ca i cc) (colL ls (i + 1) 0 j) (colL ls i 1 j) (colL ls i 2 j) := HP0.out.app hrow hgn hat
      refine ⟨HAg0, fun K hK => ?_⟩
      go_simp
      refine hK _ ?_
      clear hK K
      repeat (refine ord_float rfl rfl (fun K hK => ⟨_, (fun w' hw => by have q0 := (HS0.out _ hw).1.cell 0; go_simp; exact rfl), ?_⟩); go_simp; refine hK _ ?_; clear hK K)
      refine ord_nil ?_
      obtain ⟨na0, nc0, hNv⟩ := row_form hrow
      rw [colL_len] at hNv
      subst hNv
      have hqy := (HS0.out _ HAg0).1
      have hcy := hqy.cell 0
      have hfy := hqy.free 0
      refine last_store rfl rfl rfl (y0.setCell ⟨W.heap.size, 0, none⟩ (.slice na0 (i + 1) nc0)) (by go_simp <;> rfl) ?_
      have HK1 : Hid (Kps (fun k => V4.heap.size ≤ k ∧ k ≠ wr.heap.size ∨ k = W.heap.size) Y0 (y0.setCell ⟨W.heap.size, 0, none⟩ (.slice na0 (i + 1) nc0))) := (HK0.out.trans (HAg0.more (fun k e => by have := HO0.out _ e; omega))).setCell (.inr rfl) _
      have HB1 : Hid (Below w.heap.size w (y0.setCell ⟨W.heap.size, 0, none⟩ (.slice na0 (i + 1) nc0)) ∧ Blk (y0.setCell ⟨W.heap.size, 0, none⟩ (.slice na0 (i + 1) nc0)) W.heap.size 146 #[.slice na0 (i + 1) nc0, .slice ba i bc, .slice ca i cc]) := ⟨(HAg0.bel HB0.out.1 (by omega) (fun k e => by have := (HO0.out _ e).1; omega)).setCell (by show w.heap.size ≤ W.heap.size; omega) _, hqy.set 0 _⟩
      have HR1 : Hid (Row3s V4.heap.size (y0.setCell ⟨W.heap.size, 0, none⟩ (.slice na0 (i + 1) nc0)) (.slice ba i bc) (.slice ca i cc) (.slice na0 (i + 1) nc0) (colL ls i 1 j) (colL ls i 2 j) (colL ls (i + 1) 0 j)) := (HPn.kept ((Kps.refl (fun k => k = W.heap.size) y0).setCell (p := ⟨W.heap.size, 0, none⟩) rfl _) (fun k h1 h2 => by omega)).rot
      have hy01 : Y0.heap.size ≤ (y0.setCell ⟨W.heap.size, 0, none⟩ (.slice na0 (i + 1) nc0)).heap.size := HK1.out.size
      generalize y0.setCell ⟨W.heap.size, 0, none⟩ (.slice na0 (i + 1) nc0) = Y1 at HK1 HB1 HR1 hy01 ⊢
      clear hcy hfy hqy HPn hrow HAg0 hrn hgn hat hsa0 hP0 HP0 HA0 HS0 HR0 HB0 HK0 hy00
      have HS1 : Hid (∀ wz, Kps (fun k => (Value.slice ba i bc).ownBlock = some k) Y1 wz → Blk wz W.heap.size 146 #[.slice na0 (i + 1) nc0, .slice ba i bc, .slice ca i cc] ∧ Blk wz wr.heap.size 146 #[.slice (some ⟨b0, o0, none⟩) wn c0, .slice (some ⟨b1, o1, none⟩) wn c1, .slice (some ⟨b2, o2, none⟩) wn c2] ∧ wz.cell? ⟨b1, o1 + j, none⟩ = some (.int .i64 x1)) := fun wz hk => by
        refine ⟨hk.blk HB1.out.2 (fun e => by have := (HO1.out _ e).1; omega), hk.blk (HK1.out.blk HQ.out.2.2 (by omega)) (fun e => by have := (HO1.out _ e).2; omega), ?_⟩
        refine (World.cell?_of_block (a := ⟨b1, o1 + j, none⟩) ((hk.block b1 (by omega) (fun e => by have := (HO1.out _ e).1; omega)).trans (HK1.out.block b1 (by omega) (by omega)))).trans HCE.out.2.1
      go_wp2_with fail
      refine wp_region_last [(0, false), (1, false), (2, false), (3, false), (4, false), (5, false), (6, false), (7, true), (8, true), (9, false)] 10 (fun wz => Kps (fun k => (Value.slice ba i bc).ownBlock = some k) Y1 wz) mixes (by kernel_rfl) (Kps.refl _ _).drew ?_
      repeat (refine ord_float rfl rfl (fun K hK => ⟨_, (fun w' hw => by have q0 := (HS1.out _ hw).1.cell 1; have q1 :=  (HS1.out _ hw).2.1.cell 1; have q2 :=  (HS1.out _ hw).2.2; go_simp; exact rfl), ?_⟩); go_simp; refine hK _ ?_; clear hK K)
      have HA1 : Kps (fun k => (Value.slice ba i bc).ownBlock = some k) Y1 (Y1.drew.alloc (.cells #[.int .i64 x1] 3)) := Kps.of_below ((Below.refl _ _).drew.alloc (Nat.le_refl _) _)
      refine ord_op rfl rfl (fun K hK => ⟨.slice (some ⟨Y1.heap.size, 0, none⟩) 1 1, Y1.drew.alloc (.cells #[.int .i64 x1] 3), (by go_simp <;> rfl), HA1, ?_⟩)
      go_simp
      refine hK _ _ ?_
      clear hK K
      repeat (refine ord_float rfl rfl (fun K hK => ⟨_, (fun w' hw => by have q0 := (HS1.out _ hw).1.cell 1; have q1 :=  (HS1.out _ hw).2.1.cell 1; have q2 :=  (HS1.out _ hw).2.2; go_simp; exact rfl), ?_⟩); go_simp; refine hK _ ?_; clear hK K)
      have HP1 : Hid (Row3s V4.heap.size (Y1.drew.alloc (.cells #[.int .i64 x1] 3)) (.slice ba i bc) (.slice ca i cc) (.slice na0 (i + 1) nc0) (colL ls i 1 j) (colL ls i 2 j) (colL ls (i + 1) 0 j)) := (show Row3s V4.heap.size Y1.drew _ _ _ _ _ _ from ⟨HR1.out.ra, HR1.out.rb, HR1.out.rc, HR1.out.ab, HR1.out.ac, HR1.out.bc⟩).alloc _
      have hP1 : (Y1.drew.alloc (.cells #[.int .i64 x1] 3)).ownsRow V4.heap.size 3 1 (.slice ba i bc) i (zsV (colL ls i 1 j)) := by have h := HP1.out.ra; unfold RowZs at h; rwa [colL_len] at h
      have hsa1 : (Y1.drew.alloc (.cells #[.int .i64 x1] 3)).heap.size = Y1.heap.size + 1 := by simp
      refine ord_append rfl rfl _ _ 27 rfl V4.heap.size 3 i0 (.int .i64 0) 1 8 Tryz.underlying27 hi hz0 hz1 hz2 rfl (by decide) _ _ _ rfl hP1 ⟨Y1.heap.size, 0, none⟩ 1 1 [.int .i64 x1] rfl rfl (cell_one_new _ _ _) (one_cell _ _) hm63 hm47 (by simp; omega) ?_
      intro n1 y1 hrn hgn hat
      have HAg1 : Kps (fun k => (Value.slice ba i bc).ownBlock = some k) Y1 y1 := HA1.trans (kps_grown hgn)
      have hrow : RowZs V4.heap.size y1 n1 (colL ls (i + 1) 1 j) := by
        unfold RowZs
        rw [HN1.out, zsV_append, List.length_append, colL_len]
        exact hrn
      have HPn : Row3s V4.heap.size y1 n1 (.slice ca i cc) (.slice na0 (i + 1) nc0) (colL ls (i + 1) 1 j) (colL ls i 2 j) (colL ls (i + 1) 0 j) := HP1.out.app hrow hgn hat
      refine ⟨HAg1, fun K hK => ?_⟩
      go_simp
      refine hK _ ?_
      clear hK K
      repeat (refine ord_float rfl rfl (fun K hK => ⟨_, (fun w' hw => by have q0 := (HS1.out _ hw).1.cell 1; go_simp; exact rfl), ?_⟩); go_simp; refine hK _ ?_; clear hK K)
      refine ord_nil ?_
      obtain ⟨na1, nc1, hNv⟩ := row_form hrow
      rw [colL_len] at hNv
      subst hNv
      have hqy := (HS1.out _ HAg1).1
      have hcy := hqy.cell 1
      have hfy := hqy.free 1
      refine last_store rfl rfl rfl (y1.setCell ⟨W.heap.size, 1, none⟩ (.slice na1 (i + 1) nc1)) (by go_simp <;> rfl) ?_
      have HK2 : Hid (Kps (fun k => V4.heap.size ≤ k ∧ k ≠ wr.heap.size ∨ k = W.heap.size) Y0 (y1.setCell ⟨W.heap.size, 1, none⟩ (.slice na1 (i + 1) nc1))) := (HK1.out.trans (HAg1.more (fun k e => by have := HO1.out _ e; omega))).setCell (.inr rfl) _
      have HB2 : Hid (Below w.heap.size w (y1.setCell ⟨W.heap.size, 1, none⟩ (.slice na1 (i + 1) nc1)) ∧ Blk (y1.setCell ⟨W.heap.size, 1, none⟩ (.slice na1 (i + 1) nc1)) W.heap.size 146 #[.slice na0 (i + 1) nc0, .slice na1 (i + 1) nc1, .slice ca i cc]) := ⟨(HAg1.bel HB1.out.1 (by omega) (fun k e => by have := (HO1.out _ e).1; omega)).setCell (by show w.heap.size ≤ W.heap.size; omega) _, hqy.set 1 _⟩
      have HR2 : Hid (Row3s V4.heap.size (y1.setCell ⟨W.heap.size, 1, none⟩ (.slice na1 (i + 1) nc1)) (.slice ca i cc) (.slice na0 (i + 1) nc0) (.slice na1 (i + 1) nc1) (colL ls i 2 j) (colL ls (i + 1) 0 j) (colL ls (i + 1) 1 j)) := (HPn.kept ((Kps.refl (fun k => k = W.heap.size) y1).setCell (p := ⟨W.heap.size, 1, none⟩) rfl _) (fun k h1 h2 => by omega)).rot
      have hy02 : Y0.heap.size ≤ (y1.setCell ⟨W.heap.size, 1, none⟩ (.slice na1 (i + 1) nc1)).heap.size := HK2.out.size
      generalize y1.setCell ⟨W.heap.size, 1, none⟩ (.slice na1 (i + 1) nc1) = Y2 at HK2 HB2 HR2 hy02 ⊢
      clear hcy hfy hqy HPn hrow HAg1 hrn hgn hat hsa1 hP1 HP1 HA1 HS1 HR1 HB1 HK1 hy01
      have HS2 : Hid (∀ wz, Kps (fun k => (Value.slice ca i cc).ownBlock = some k) Y2 wz → Blk wz W.heap.size 146 #[.slice na0 (i + 1) nc0, .slice na1 (i + 1) nc1, .slice ca i cc] ∧ Blk wz wr.heap.size 146 #[.slice (some ⟨b0, o0, none⟩) wn c0, .slice (some ⟨b1, o1, none⟩) wn c1, .slice (some ⟨b2, o2, none⟩) wn c2] ∧ wz.cell? ⟨b2, o2 + j, none⟩ = some (.int .i64 x2)) := fun wz hk => by
        refine ⟨hk.blk HB2.out.2 (fun e => by have := (HO2.out _ e).1; omega), hk.blk (HK2.out.blk HQ.out.2.2 (by omega)) (fun e => by have := (HO2.out _ e).2; omega), ?_⟩
        refine (World.cell?_of_block (a := ⟨b2, o2 + j, none⟩) ((hk.block b2 (by omega) (fun e => by have := (HO2.out _ e).1; omega)).trans (HK2.out.block b2 (by omega) (by omega)))).trans HCE.out.2.2
      go_wp2_with fail
      refine wp_region_last [(0, false), (1, false), (2, false), (3, false), (4, false), (5, false), (6, false), (7, true), (8, true), (9, false)] 10 (fun wz => Kps (fun k => (Value.slice ca i cc).ownBlock = some k) Y2 wz) mixes (by kernel_rfl) (Kps.refl _ _).drew ?_
      repeat (refine ord_float rfl rfl (fun K hK => ⟨_, (fun w' hw => by have q0 := (HS2.out _ hw).1.cell 2; have q1 :=  (HS2.out _ hw).2.1.cell 2; have q2 :=  (HS2.out _ hw).2.2; go_simp; exact rfl), ?_⟩); go_simp; refine hK _ ?_; clear hK K)
      have HA2 : Kps (fun k => (Value.slice ca i cc).ownBlock = some k) Y2 (Y2.drew.alloc (.cells #[.int .i64 x2] 3)) := Kps.of_below ((Below.refl _ _).drew.alloc (Nat.le_refl _) _)
      refine ord_op rfl rfl (fun K hK => ⟨.slice (some ⟨Y2.heap.size, 0, none⟩) 1 1, Y2.drew.alloc (.cells #[.int .i64 x2] 3), (by go_simp <;> rfl), HA2, ?_⟩)
      go_simp
      refine hK _ _ ?_
      clear hK K
      repeat (refine ord_float rfl rfl (fun K hK => ⟨_, (fun w' hw => by have q0 := (HS2.out _ hw).1.cell 2; have q1 :=  (HS2.out _ hw).2.1.cell 2; have q2 :=  (HS2.out _ hw).2.2; go_simp; exact rfl), ?_⟩); go_simp; refine hK _ ?_; clear hK K)
      have HP2 : Hid (Row3s V4.heap.size (Y2.drew.alloc (.cells #[.int .i64 x2] 3)) (.slice ca i cc) (.slice na0 (i + 1) nc0) (.slice na1 (i + 1) nc1) (colL ls i 2 j) (colL ls (i + 1) 0 j) (colL ls (i + 1) 1 j)) := (show Row3s V4.heap.size Y2.drew _ _ _ _ _ _ from ⟨HR2.out.ra, HR2.out.rb, HR2.out.rc, HR2.out.ab, HR2.out.ac, HR2.out.bc⟩).alloc _
      have hP2 : (Y2.drew.alloc (.cells #[.int .i64 x2] 3)).ownsRow V4.heap.size 3 1 (.slice ca i cc) i (zsV (colL ls i 2 j)) := by have h := HP2.out.ra; unfold RowZs at h; rwa [colL_len] at h
      have hsa2 : (Y2.drew.alloc (.cells #[.int .i64 x2] 3)).heap.size = Y2.heap.size + 1 := by simp
      refine ord_append rfl rfl _ _ 27 rfl V4.heap.size 3 i0 (.int .i64 0) 1 8 Tryz.underlying27 hi hz0 hz1 hz2 rfl (by decide) _ _ _ rfl hP2 ⟨Y2.heap.size, 0, none⟩ 1 1 [.int .i64 x2] rfl rfl (cell_one_new _ _ _) (one_cell _ _) hm63 hm47 (by simp; omega) ?_
      intro n2 y2 hrn hgn hat
      have HAg2 : Kps (fun k => (Value.slice ca i cc).ownBlock = some k) Y2 y2 := HA2.trans (kps_grown hgn)
      have hrow : RowZs V4.heap.size y2 n2 (colL ls (i + 1) 2 j) := by
        unfold RowZs
        rw [HN2.out, zsV_append, List.length_append, colL_len]
        exact hrn
      have HPn : Row3s V4.heap.size y2 n2 (.slice na0 (i + 1) nc0) (.slice na1 (i + 1) nc1) (colL ls (i + 1) 2 j) (colL ls (i + 1) 0 j) (colL ls (i + 1) 1 j) := HP2.out.app hrow hgn hat
      refine ⟨HAg2, fun K hK => ?_⟩
      go_simp
      refine hK _ ?_
      clear hK K
      repeat (refine ord_float rfl rfl (fun K hK => ⟨_, (fun w' hw => by have q0 := (HS2.out _ hw).1.cell 2; go_simp; exact rfl), ?_⟩); go_simp; refine hK _ ?_; clear hK K)
      refine ord_nil ?_
      obtain ⟨na2, nc2, hNv⟩ := row_form hrow
      rw [colL_len] at hNv
      subst hNv
      have hqy := (HS2.out _ HAg2).1
      have hcy := hqy.cell 2
      have hfy := hqy.free 2
      refine last_store rfl rfl rfl (y2.setCell ⟨W.heap.size, 2, none⟩ (.slice na2 (i + 1) nc2)) (by go_simp <;> rfl) ?_
      have HK3 : Hid (Kps (fun k => V4.heap.size ≤ k ∧ k ≠ wr.heap.size ∨ k = W.heap.size) Y0 (y2.setCell ⟨W.heap.size, 2, none⟩ (.slice na2 (i + 1) nc2))) := (HK2.out.trans (HAg2.more (fun k e => by have := HO2.out _ e; omega))).setCell (.inr rfl) _
      have HB3 : Hid (Below w.heap.size w (y2.setCell ⟨W.heap.size, 2, none⟩ (.slice na2 (i + 1) nc2)) ∧ Blk (y2.setCell ⟨W.heap.size, 2, none⟩ (.slice na2 (i + 1) nc2)) W.heap.size 146 #[.slice na0 (i + 1) nc0, .slice na1 (i + 1) nc1, .slice na2 (i + 1) nc2]) := ⟨(HAg2.bel HB2.out.1 (by omega) (fun k e => by have := (HO2.out _ e).1; omega)).setCell (by show w.heap.size ≤ W.heap.size; omega) _, hqy.set 2 _⟩
      have HR3 : Hid (Row3s V4.heap.size (y2.setCell ⟨W.heap.size, 2, none⟩ (.slice na2 (i + 1) nc2)) (.slice na0 (i + 1) nc0) (.slice na1 (i + 1) nc1) (.slice na2 (i + 1) nc2) (colL ls (i + 1) 0 j) (colL ls (i + 1) 1 j) (colL ls (i + 1) 2 j)) := (HPn.kept ((Kps.refl (fun k => k = W.heap.size) y2).setCell (p := ⟨W.heap.size, 2, none⟩) rfl _) (fun k h1 h2 => by omega)).rot
      have hy03 : Y0.heap.size ≤ (y2.setCell ⟨W.heap.size, 2, none⟩ (.slice na2 (i + 1) nc2)).heap.size := HK3.out.size
      generalize y2.setCell ⟨W.heap.size, 2, none⟩ (.slice na2 (i + 1) nc2) = Y3 at HK3 HB3 HR3 hy03 ⊢
      clear hcy hfy hqy HPn hrow HAg2 hrn hgn hat hsa2 hP2 HP2 HA2 HS2 HR2 HB2 HK2 hy02
      have HF : Hid (Below w.heap.size w Y3 ∧ Blk Y3 w.heap.size 26 #[.int .i64 wi, .int .i64 pu, .slice (some ⟨b, off, none⟩) n c] ∧ Blk Y3 (w.heap.size + 1) 146 #[.slice none 0 0, .slice none 0 0, .slice none 0 0] ∧ Blk Y3 W.heap.size 146 #[.slice na0 (i + 1) nc0, .slice na1 (i + 1) nc1, .slice na2 (i + 1) nc2]) := ⟨HB3.out.1, HK3.out.blk HQ.out.1 (by omega), HK3.out.blk HQ.out.2.1 (by omega), HB3.out.2⟩
      have hs3 : V4.heap.size ≤ Y3.heap.size := by omega
      clear HK3 HB3 HQ HCE
      go_wp2
      go_roundw
      case rel => exact ⟨i + 1, _, _, _, by go_num, hil, HF, HR3, hs3⟩
      case measure => simp [intOf]; omega
    · have hil' : ¬ (i : Int) < (n : Int) := by omega
      obtain rfl : n = i := by omega
      have hsys := HB.out.2.2.2
      have hres := HB.out.2.2.1
      have HBB : Hid (Below w.heap.size w wr) := HB.out.1
      have hws := HB.out.1.size
      clear HB HA HWD
      go_wp2_with (first | (refine load_blk rfl rfl rfl hsys Tryz.underlying146 infoRw ?_) | (refine store_blkS (cs' := #[.slice aa n ac, .slice ba n bc, .slice ca n cc]) rfl rfl rfl rfl rfl hres infoRw rfl (onesRw _ _ _ _ _ _ _ _ _) ?_; intro V8 h8 hheap hoth hbel; have hb8 := hbel _ _ (by omega) HBB.out; have hb9 := hbel 0 wr (Nat.zero_le _) (Below.refl _ _); clear hoth hbel))
      have hk8 : Kps (fun k => k = w.heap.size + 1) wr V8 := ⟨hb9.os, hb9.tape, hb9.output, hb9.size, fun k _ h => hheap k h⟩
      have hRR := HR.out.kept hk8 (fun k h1 h2 => by omega)
      refine bodyPost_ret_by (result_blk rfl rfl h8 Tryz.underlying146 infoRw) rfl ⟨_, _, _, rfl, ⟨owns_low hRR.ra (by omega), owns_low hRR.rb (by omega), owns_low hRR.rc (by omega), hRR.ab, hRR.ac, hRR.bc⟩, hb8⟩

end Go.Proofs.YthnahalboomkoaaGreat
