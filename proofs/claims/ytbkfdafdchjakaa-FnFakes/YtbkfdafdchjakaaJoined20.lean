/-
  Texts of one's own, joined.
-/
import Derived.Test.YtbkfdafdchjakaaJoined19

/-
  The walk of the specification's sum of what is told.
  (-DROP-: what the seat lacks is left out.)
-/
namespace Go.Proofs.Ytbkfdafdchjakaa
open Go.RowKit

/-- The first of the inputs, and each next one so often. -/
def inS (f : Nat → Pt) (t : Nat → Int) : Nat → Pt
  | 0 => pSum pZ (f 0)
  | k + 1 => pSum (inS f t k) (pTimes (t k) (f (k + 1)))
def inSum (f : Nat → Pt) (n : Nat) (m : List Int) : Pt := if n = m.length + 1 then inS f (fun j => m.getD j 0) m.length else pZ
theorem inS_gx (x t : Nat → Int) : ∀ k, inS (fun j => gx (x j)) t k = gx (x 0 + sumZ (fun j => t j * x (j + 1)) k)
  | 0 => by
    show pSum (gx 0) (gx (x 0)) = gx (x 0 + 0)
    rw [gx_add]
    exact gx_dp (dp_zero.of (by omega))
  | k + 1 => by
    show pSum (inS (fun j => gx (x j)) t k) (pTimes (t k) (gx (x (k + 1)))) = gx (x 0 + (sumZ (fun j => t j * x (j + 1)) k + t k * x (k + 1)))
    rw [inS_gx x t k, gx_times, gx_add, Int.add_assoc]
/-- Keys, with their list as a value. -/
def keyC (A B G D : Pt) (i : Value) : Array Value := #[.int .i64 A.1, .int .i64 A.2.1, .bool A.2.2, .int .i64 B.1, .int .i64 B.2.1, .bool B.2.2, .int .i64 G.1, .int .i64 G.2.1, .bool G.2.2, .int .i64 D.1, .int .i64 D.2.1, .bool D.2.2, i]

end Go.Proofs.Ytbkfdafdchjakaa

/-
  The walk of the program's sum of what is told.
  (-DROP-: what the seat lacks is left out.)
-/
namespace Go.Proofs.Ytbkfdafdchjakaa
open Go.RowKit

theorem infoKs : (Try.prog.info? 38).map (·.size) = some 13 := by kernel_rfl
/-- The sum of what is told, as the program makes it. -/
def inSumI (f : Nat → Pt) (n : Nat) (m : List Int) : Pt := if n = m.length + 1 then wEach (f 0) (fun j => m.getD j 0) (fun j => f (j + 1)) m.length else pZ
theorem pts_rest {w : World} {b off p c : Nat} {f : Nat → Pt} (h : PtsAt w (some ⟨b, off, none⟩) (p + 1) c f) : PtsAt w (some ⟨b, off + 3, none⟩) p c (fun j => f (j + 1)) := fun j hj => by
  obtain ⟨b', o', e, hb, z0, z1, z2⟩ := h (j + 1) (by omega)
  injection e with e
  injection e with e1 e2
  subst e1 e2
  have e3 : off + (j + 1) * 3 = off + 3 + j * 3 := by omega
  rw [e3] at z0 z1 z2
  exact ⟨b, off + 3, rfl, hb, z0, z1, z2⟩
theorem pts_none {w : World} {a : Option Addr} {c : Nat} {f : Nat → Pt} : PtsAt w a 0 c f := fun j hj => absurd hj (by omega)

set_option maxHeartbeats 3200000 in
set_option maxRecDepth 100000 in
theorem iInput_any (A B G D : Pt) (a : Option Addr) (n cp : Nat) (hn : n ≤ 1048576) (hcp : n ≤ cp) (f : Nat → Pt) (am : Option Addr) (cm : Nat) (m : List Int) (hm : m.length ≤ 1048576) (w : World) (hA : PtsAt w a n w.heap.size f) (hB : IntsAt w am m.length w.heap.size (fun j => m.getD j 0)) :
    Calls Try.prog 37 #[.agg (keyC A B G D (.slice a n cp)), .slice am m.length cm] w fun e w' => e = .returned (pv (inSumI f n m)) ∧ Below w.heap.size w w' := by
  obtain ⟨W, hW, hb, hs, hr⟩ := boxes1r w 38 35 #[.int .i64 A.1, .int .i64 A.2.1, .bool A.2.2, .int .i64 B.1, .int .i64 B.2.1, .bool B.2.2, .int .i64 G.1, .int .i64 G.2.1, .bool G.2.2, .int .i64 D.1, .int .i64 D.2.1, .bool D.2.2, .slice a n cp] #[.int .i64 0, .int .i64 0, .bool false]
  have hl1 : w.heap.size + 1 < W.heap.size := hr.lt
  have HA : Hid (PtsAt w a n w.heap.size f) := hA
  have HB : Hid (IntsAt w am m.length w.heap.size (fun j => m.getD j 0)) := hB
  have q12 : W.cell? ⟨w.heap.size, 12, none⟩ = some (.slice a n cp) := hs.cell 12
  have HS : Hid (inSumI f n m = if n = m.length + 1 then wEach (f 0) (fun j => m.getD j 0) (fun j => f (j + 1)) m.length else pZ) := rfl
  obtain ⟨R, hR⟩ : ∃ R, R = inSumI f n m := ⟨_, rfl⟩
  rw [← hR] at HS ⊢
  clear hA hB hR
  obtain ⟨ml, hml⟩ : ∃ ml, ml = m.length := ⟨_, rfl⟩
  rw [← hml] at HB HS hm ⊢
  clear hml
  have hwr : IntKind.i64.wrap ((ml : Int) + 1) = (ml : Int) + 1 := IntWalk.i64_in _ (by omega)
  unfold keyC
  by_cases hnm : n = ml + 1
  · subst hnm
    have HR : Hid (R = wEach (f 0) (fun j => m.getD j 0) (fun j => f (j + 1)) ml) := by show _ = _; rw [HS.out, if_pos rfl]
    have CW : Hid (∀ ad cc X, Below w.heap.size w X → PtsAt X ad ml X.heap.size (fun j => f (j + 1)) → Calls Try.prog 65 #[.agg #[.int .i64 (f 0).1, .int .i64 (f 0).2.1, .bool (f 0).2.2], .slice am ml cm, .slice ad ml cc] X fun e w' => e = .returned (.agg #[.int .i64 R.1, .int .i64 R.2.1, .bool R.2.2]) ∧ Below X.heap.size X w') := fun ad cc X hX hP => by
      have h := iWith_any (f 0) am ml cm (fun j => m.getD j 0) ad ml cc (Nat.le_refl _) (by omega) (fun j => f (j + 1)) X ((HB.out.on hX).wide hX.size) hP
      rw [← HR.out] at h
      exact h
    obtain ⟨b, off, ea, hbl, z0, z1, z2⟩ := HA.out 0 (by omega)
    subst ea
    rw [Nat.zero_mul, Nat.add_zero] at z0 z1 z2
    have HPT : Hid (∀ X, Below w.heap.size w X → (cp = 1 → PtsAt X (some ⟨b, off, none⟩) ml X.heap.size (fun j => f (j + 1))) ∧ PtsAt X (some ⟨b, off + 3, none⟩) ml X.heap.size (fun j => f (j + 1))) := fun X hX => ⟨fun h => by
        have h0 : ml = 0 := by omega
        rw [h0]; exact pts_none, pts_rest ((HA.out.on hX).wide hX.size)⟩
    have ZC : Hid (∀ X, Below w.heap.size w X → X.cell? ⟨b, off, none⟩ = some (.int .i64 (f 0).1) ∧ X.cell? ⟨b, off + 1, none⟩ = some (.int .i64 (f 0).2.1) ∧ X.cell? ⟨b, off + 2, none⟩ = some (.bool (f 0).2.2)) := fun X hX => ⟨(hX.cell (p := ⟨b, off, none⟩) hbl).trans z0, (hX.cell (p := ⟨b, off + 1, none⟩) hbl).trans z1, (hX.cell (p := ⟨b, off + 2, none⟩) hbl).trans z2⟩
    generalize f 0 = F at CW ZC
    clear z0 z1 z2 HA HB HS HR
    have hp1 : 0 < ml + 1 := by omega
    have hp2 : (0 : Int) < ((ml + 1 : Nat) : Int) := by omega
    have hp3 : (1 : Int) ≤ ((ml + 1 : Nat) : Int) := by omega
    have hp4 : (1 : Int) ≤ (ml : Int) + 1 := by omega
    have hp5 : ¬ (ml : Int) + 1 < 1 := by omega
    have hp6 : (0 : Int) < (ml : Int) + 1 := by omega
    go_enter Try.func37, Try.ntmps37
    go_wp2_with fail
    clear hW q12
    have T0 : Below W.heap.size W W.drew := (Below.refl _ _).drew
    have TW : Hid (∀ X, Below W.heap.size W X → Below w.heap.size w X) := fun X hX => hb.trans (hX.mono hb.size)
    by_cases hc1 : cp = 1
    · subst hc1
      have hm0 : ml = 0 := by omega
      subst hm0
      refine wp_region_last [(0, false), (1, false), (2, false), (3, false), (4, false), (5, false), (6, false), (7, false), (8, true)] 9 (fun wz => Below W.heap.size W wz) mixes (by kernel_rfl) T0 ?_
      repeat (refine ord_float rfl rfl (fun K hK => ⟨_, (fun w' hw => by have q0 := (hs.on hw hs.lt).cell 12; have q1 :=  (ZC.out _ (TW.out _ hw)).1; have q2 :=  (ZC.out _ (TW.out _ hw)).2.1; have q3 :=  (ZC.out _ (TW.out _ hw)).2.2; go_simp; exact rfl), ?_⟩); go_simp; refine hK _ ?_; clear hK K)
      refine ord_call rfl rfl (fun K hK => ⟨_, _, (by go_simp <;> first | exact rfl | exact ⟨rfl, rfl⟩), ?_⟩)
      refine (CW.out _ _ _ (TW.out _ T0) ((HPT.out _ (TW.out _ T0)).1 rfl)).mono ?_
      rintro e u1 ⟨rfl, hu1⟩
      have T1 := below_then T0 hu1
      refine ⟨_, rfl, T1, ?_⟩
      go_simp
      refine hK _ _ ?_
      clear hK K
      refine ord_nil ?_
      have hr4 := hr.on T1 hr.lt
      have hB4 := TW.out _ T1
      refine last_storeB (cs' := #[.int .i64 R.1, .int .i64 R.2.1, .bool R.2.2]) rfl rfl rfl rfl rfl rfl hr4 infoP rfl (ones3 _ _ _) ?_
      intro V h5 _ hoth hbel
      have hB5 := hbel _ _ (by omega) hB4
      clear hoth hbel hr4 hB4 T0 T1 hu1
      go_wp2
      refine bodyPost_ret_by (result_blk rfl rfl h5 Try.underlying35 infoP) rfl ⟨rfl, hB5⟩
    · refine wp_region_last [(0, false), (1, false), (2, false), (3, false), (4, false), (5, false), (6, false), (7, false), (8, true)] 9 (fun wz => Below W.heap.size W wz) mixes (by kernel_rfl) T0 ?_
      repeat (refine ord_float rfl rfl (fun K hK => ⟨_, (fun w' hw => by have q0 := (hs.on hw hs.lt).cell 12; have q1 :=  (ZC.out _ (TW.out _ hw)).1; have q2 :=  (ZC.out _ (TW.out _ hw)).2.1; have q3 :=  (ZC.out _ (TW.out _ hw)).2.2; go_simp; exact rfl), ?_⟩); go_simp; refine hK _ ?_; clear hK K)
      refine ord_call rfl rfl (fun K hK => ⟨_, _, (by go_simp <;> first | exact rfl | exact ⟨rfl, rfl⟩), ?_⟩)
      refine (CW.out _ _ _ (TW.out _ T0) (HPT.out _ (TW.out _ T0)).2).mono ?_
      rintro e u1 ⟨rfl, hu1⟩
      have T1 := below_then T0 hu1
      refine ⟨_, rfl, T1, ?_⟩
      go_simp
      refine hK _ _ ?_
      clear hK K
      refine ord_nil ?_
      have hr4 := hr.on T1 hr.lt
      have hB4 := TW.out _ T1
      refine last_storeB (cs' := #[.int .i64 R.1, .int .i64 R.2.1, .bool R.2.2]) rfl rfl rfl rfl rfl rfl hr4 infoP rfl (ones3 _ _ _) ?_
      intro V h5 _ hoth hbel
      have hB5 := hbel _ _ (by omega) hB4
      clear hoth hbel hr4 hB4 T0 T1 hu1
      go_wp2
      refine bodyPost_ret_by (result_blk rfl rfl h5 Try.underlying35 infoP) rfl ⟨rfl, hB5⟩
  · have hnm' : ¬ (n : Int) = (ml : Int) + 1 := by omega
    have HR : Hid (R = pZ) := by show _ = _; rw [HS.out, if_neg hnm]
    go_enter Try.func37, Try.ntmps37
    go_wp2_with (refine store_blk (cs' := #[.int .i64 0, .int .i64 0, .bool true]) rfl rfl rfl rfl rfl hr infoP rfl (ones3 0 0 true) ?_; intro V h5 hoth hbel; have hbV := hbel _ _ (by omega) hb; clear hoth hbel)
    refine bodyPost_ret_by (result_blk rfl rfl h5 Try.underlying35 infoP) rfl ⟨by rw [HR.out]; rfl, hbV⟩

end Go.Proofs.Ytbkfdafdchjakaa
