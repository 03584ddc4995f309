/-
  The draws of heads.
  (-DROP-: what the seat lacks is left out.)
-/
import Derived.Test.YtlaoikpbgbckjaaDoorHeadS3
import Derived.Test.YtlaoikpbgbckjaaDoorBlkDraw
import Derived.Test.YtlaoikpbgbckjaaDoorSpoilt
namespace Go.Proofs.YtlaoikpbgbckjaaDoor
open Go.RowKit

/-- A head that is drawn right. -/
def HdR (h : Hd) : Prop := (0 ≤ h.1 ∧ h.1 < 90) ∧ h.2.1.size = 32 ∧ h.2.2.1.size = 32 ∧ h.2.2.2.size = 32
theorem HdR.ok {h : Hd} (r : HdR h) : hOkB h = true := hok_iff.2 ⟨⟨r.1.1, by have := r.1.2; omega⟩, r.2⟩

set_option maxHeartbeats 800000 in
set_option maxRecDepth 100000 in
theorem hash11_any (c len cap : Nat) (a : Option Addr) (hm : len ≤ 1048576) (w : World) (hC : CurAt w c a len cap) (hA : ArgAt w a len c) :
    Calls Tryd.prog 51 #[.pointer (some ⟨c, 0, none⟩)] w fun e w' => ∃ t : ByteArray, e = .returned (.string t) ∧ t.size = 32 ∧ CurEnd w w' c a len cap := by
  have H0 : Hid (CurEnd w w c a len cap) := CurEnd.refl hC hA
  clear hC hA
  go_enter Tryd.func51, Tryd.ntmps51
  go_wp2_with fail
  refine (drawn_any c len cap a hm 2 (by omega) _ H0.out.cur H0.out.arg).mono ?_
  rintro e w1 ⟨t, rfl, htl, hE⟩
  have H1 : Hid (CurEnd w w1 c a len cap) := H0.out.trans hE
  have hT : (⟨t.toArray⟩ : ByteArray).size = 2 := htl
  generalize (⟨t.toArray⟩ : ByteArray) = T at hT ⊢
  have HD : Hid (∀ w, Calls Tryd.prog 54 #[.string T] w fun e w' => e = .returned (.string (digT T)) ∧ Below w.heap.size w w') := sDig_any T (by omega)
  have hds : (digT T).size = 32 := digT_size T
  generalize digT T = D at HD hds
  clear hE H0 htl hT
  go_wp2_with fail
  refine (HD.out _).mono ?_
  rintro e w2 ⟨rfl, hb⟩
  have H2 : Hid (CurEnd w w2 c a len cap) := H1.out.below hb
  have HDS : Hid (D.size = 32) := hds
  clear hb H1 hds HD
  go_wp2
  go_ret
  exact ⟨_, rfl, HDS.out, H2.out⟩

set_option maxHeartbeats 1600000 in
set_option maxRecDepth 100000 in
theorem head11_any (c len cap : Nat) (a : Option Addr) (hm : len ≤ 1048576) (w : World) (hC : CurAt w c a len cap) (hA : ArgAt w a len c) :
    Calls Tryd.prog 35 #[.pointer (some ⟨c, 0, none⟩)] w fun e w' => ∃ h : Hd, e = .returned (hv h) ∧ HdR h ∧ CurEnd w w' c a len cap := by
  have hcl := hC.lt
  have H0 : Hid (CurEnd w (w.alloc (.cells (hc hZ) 25)) c a len cap) := (CurEnd.refl hC hA).alloc _
  have HB0 : Hid (Blk (w.alloc (.cells (hc hZ) 25)) w.heap.size 25 (hc hZ)) := Blk.new _ _ _
  clear hC hA
  go_enter Tryd.func35, Tryd.ntmps35
  go_wp2_with fail
  refine (below_any c len cap a hm 90 (by omega) (by omega) _ H0.out.cur H0.out.arg).mono ?_
  rintro e w1 ⟨x, rfl, x0, x1, hE⟩
  have H1 : Hid (CurEnd w w1 c a len cap) := H0.out.trans hE
  have HB1 : Hid (Blk w1 w.heap.size 25 (hc hZ)) := HB0.out.grown hE.grown (by omega)
  clear hE H0 HB0
  go_wp2_with fail
  refine (hash11_any c len cap a hm _ H1.out.cur H1.out.arg).mono ?_
  rintro e w2 ⟨p, rfl, hp, hE⟩
  have H2 : Hid (CurEnd w w2 c a len cap) := H1.out.trans hE
  have HB2 : Hid (Blk w2 w.heap.size 25 (hc hZ)) := HB1.out.grown hE.grown (by omega)
  clear hE H1 HB1
  go_wp2_with fail
  refine (hash11_any c len cap a hm _ H2.out.cur H2.out.arg).mono ?_
  rintro e w3 ⟨t, rfl, ht, hE⟩
  have H3 : Hid (CurEnd w w3 c a len cap) := H2.out.trans hE
  have HB3 : Hid (Blk w3 w.heap.size 25 (hc hZ)) := HB2.out.grown hE.grown (by omega)
  clear hE H2 HB2
  go_wp2_with fail
  refine (hash11_any c len cap a hm _ H3.out.cur H3.out.arg).mono ?_
  rintro e w4 ⟨b, rfl, hb, hE⟩
  have H4 : Hid (CurEnd w w4 c a len cap) := H3.out.trans hE
  have hB4 : Blk w4 w.heap.size 25 (hc hZ) := HB3.out.grown hE.grown (by omega)
  have HR : Hid (HdR (x, p, t, b)) := ⟨⟨x0, x1⟩, hp, ht, hb⟩
  clear hE H3 HB3 hp ht hb
  go_wp2_with (refine store_blk (cs' := hc (x, p, t, b)) rfl rfl rfl rfl rfl hB4 infoH rfl (ones4 _) ?_; intro V h5 hoth hbel; have hE9 : Hid (CurEnd w V c a len cap) := H4.out.store (Nat.le_refl _) hcl hoth hbel; clear hoth hbel)
  refine bodyPost_ret_by (result_blk rfl rfl h5 Tryd.underlying25 infoH) rfl ⟨(x, p, t, b), rfl, HR.out, hE9.out⟩

/-- What a drawn head is, right or not: its parts are short. -/
def HdS (h : Hd) : Prop := h.2.1.size ≤ 33 ∧ h.2.2.1.size ≤ 33 ∧ h.2.2.2.size ≤ 33

set_option maxHeartbeats 1600000 in
set_option maxRecDepth 100000 in
theorem any11_any (c len cap : Nat) (a : Option Addr) (hm : len ≤ 1048576) (w : World) (hC : CurAt w c a len cap) (hA : ArgAt w a len c) :
    Calls Tryd.prog 23 #[.pointer (some ⟨c, 0, none⟩)] w fun e w' => ∃ h : Hd, e = .returned (hv h) ∧ HdS h ∧ CurEnd w w' c a len cap := by
  have hcl := hC.lt
  have H0 : Hid (CurEnd w (w.alloc (.cells (hc hZ) 25)) c a len cap) := (CurEnd.refl hC hA).alloc _
  have HB0 : Hid (Blk (w.alloc (.cells (hc hZ) 25)) w.heap.size 25 (hc hZ)) := Blk.new _ _ _
  clear hC hA
  go_enter Tryd.func23, Tryd.ntmps23
  go_wp2_with fail
  refine (below_any c len cap a hm 10 (by omega) (by omega) _ H0.out.cur H0.out.arg).mono ?_
  rintro e w1 ⟨k, rfl, k0, k1, hE⟩
  have H1 : Hid (CurEnd w w1 c a len cap) := H0.out.trans hE
  have HB1 : Hid (Blk w1 w.heap.size 25 (hc hZ)) := HB0.out.grown hE.grown (by omega)
  clear hE H0 HB0
  go_wp2_with fail
  refine (below_any c len cap a hm 60 (by omega) (by omega) _ H1.out.cur H1.out.arg).mono ?_
  rintro e w2 ⟨x, rfl, x0, x1, hE⟩
  have H2 : Hid (CurEnd w w2 c a len cap) := H1.out.trans hE
  have HB2 : Hid (Blk w2 w.heap.size 25 (hc hZ)) := HB1.out.grown hE.grown (by omega)
  clear hE H1 HB1
  go_wp2_with fail
  refine (head11_any c len cap a hm _ H2.out.cur H2.out.arg).mono ?_
  rintro e w3 ⟨⟨s, p, t, b⟩, rfl, hR, hE⟩
  have H3 : Hid (CurEnd w w3 c a len cap) := H2.out.trans hE
  have HB3 : Hid (Blk w3 w.heap.size 25 (hc hZ)) := HB2.out.grown hE.grown (by omega)
  obtain ⟨_, hp, ht, hb⟩ := hR
  simp only at hp ht hb
  have hl3 := H3.out.cur.lt
  have H4 : Hid (CurEnd w (w3.alloc (.cells (hc (s, p, t, b)) 25)) c a len cap) := H3.out.alloc _
  have HB4 : Hid (Blk (w3.alloc (.cells (hc (s, p, t, b)) 25)) w.heap.size 25 (hc hZ)) := HB3.out.alloc _
  have HX4 : Hid (Blk (w3.alloc (.cells (hc (s, p, t, b)) 25)) w3.heap.size 25 (hc (s, p, t, b))) := Blk.new _ _ _
  have hsz : w.heap.size ≤ w3.heap.size := H3.out.grown.size
  have hlt3 : w.heap.size < w3.heap.size := HB3.out.lt
  clear hE H2 HB2
  have hne : w3.heap.size ≠ w.heap.size := by omega
  rcases (show k = 0 ∨ k = 1 ∨ k = 2 ∨ k = 3 ∨ 4 ≤ k by omega) with rfl | rfl | rfl | rfl | h4
  · obtain ⟨r, hr⟩ : ∃ r : Int, x % 4 = r := ⟨_, rfl⟩
    have HS : ∀ z : Int, Hid (HdS (z, p, t, b)) := fun z => ⟨by simp only; omega, by simp only; omega, by simp only; omega⟩
    clear hp ht hb
    have ends : ∀ z : Int, Hid (CurEnd w ((w3.alloc (.cells (hc (z, p, t, b)) 25)).alloc (.cells #[.int .i64 (-1), .int .i64 0, .int .i64 10000, .int .i64 10001] 3)) c a len cap) := fun z => (H3.out.alloc _).alloc _
    have blks : ∀ z : Int, Hid (Blk ((w3.alloc (.cells (hc (z, p, t, b)) 25)).alloc (.cells #[.int .i64 (-1), .int .i64 0, .int .i64 10000, .int .i64 10001] 3)) w.heap.size 25 (hc hZ)) := fun z => (HB3.out.alloc _).alloc _
    have blkx : ∀ z : Int, Hid (Blk ((w3.alloc (.cells (hc (z, p, t, b)) 25)).alloc (.cells #[.int .i64 (-1), .int .i64 0, .int .i64 10000, .int .i64 10001] 3)) w3.heap.size 25 (hc (z, p, t, b))) := fun z => (Blk.new _ _ _).alloc _
    rcases (show r = 0 ∨ r = 1 ∨ r = 2 ∨ r = 3 by omega) with rfl | rfl | rfl | rfl
    · have H5 := ends (-1)
      have HB5 := (blks (-1)).out
      have HX5 := (blkx (-1)).out
      have HS := HS (-1)
      clear ends blks blkx
      go_wp2_with (first | (refine load_blk rfl rfl rfl HX5 Tryd.underlying25 infoH ?_) | (refine store_blk (cs' := hc ((-1), p, t, b)) rfl rfl rfl rfl rfl HB5 infoH rfl (ones4 _) ?_; intro V h5 hoth hbel; have hE9 : Hid (CurEnd w V c a len cap) := H5.out.store (Nat.le_refl _) hcl hoth hbel; clear hoth hbel))
      refine bodyPost_ret_by (result_blk rfl rfl h5 Tryd.underlying25 infoH) rfl ⟨((-1), p, t, b), rfl, HS.out, hE9.out⟩
    · have H5 := ends 0
      have HB5 := (blks 0).out
      have HX5 := (blkx 0).out
      have HS := HS 0
      clear ends blks blkx
      go_wp2_with (first | (refine load_blk rfl rfl rfl HX5 Tryd.underlying25 infoH ?_) | (refine store_blk (cs' := hc (0, p, t, b)) rfl rfl rfl rfl rfl HB5 infoH rfl (ones4 _) ?_; intro V h5 hoth hbel; have hE9 : Hid (CurEnd w V c a len cap) := H5.out.store (Nat.le_refl _) hcl hoth hbel; clear hoth hbel))
      refine bodyPost_ret_by (result_blk rfl rfl h5 Tryd.underlying25 infoH) rfl ⟨(0, p, t, b), rfl, HS.out, hE9.out⟩
    · have H5 := ends 10000
      have HB5 := (blks 10000).out
      have HX5 := (blkx 10000).out
      have HS := HS 10000
      clear ends blks blkx
      go_wp2_with (first | (refine load_blk rfl rfl rfl HX5 Tryd.underlying25 infoH ?_) | (refine store_blk (cs' := hc (10000, p, t, b)) rfl rfl rfl rfl rfl HB5 infoH rfl (ones4 _) ?_; intro V h5 hoth hbel; have hE9 : Hid (CurEnd w V c a len cap) := H5.out.store (Nat.le_refl _) hcl hoth hbel; clear hoth hbel))
      refine bodyPost_ret_by (result_blk rfl rfl h5 Tryd.underlying25 infoH) rfl ⟨(10000, p, t, b), rfl, HS.out, hE9.out⟩
    · have H5 := ends 10001
      have HB5 := (blks 10001).out
      have HX5 := (blkx 10001).out
      have HS := HS 10001
      clear ends blks blkx
      go_wp2_with (first | (refine load_blk rfl rfl rfl HX5 Tryd.underlying25 infoH ?_) | (refine store_blk (cs' := hc (10001, p, t, b)) rfl rfl rfl rfl rfl HB5 infoH rfl (ones4 _) ?_; intro V h5 hoth hbel; have hE9 : Hid (CurEnd w V c a len cap) := H5.out.store (Nat.le_refl _) hcl hoth hbel; clear hoth hbel))
      refine bodyPost_ret_by (result_blk rfl rfl h5 Tryd.underlying25 infoH) rfl ⟨(10001, p, t, b), rfl, HS.out, hE9.out⟩
  · have HS : Hid (HdS (s, p.extract 1 p.size, t, b)) := ⟨by simp only; rw [size_cut _ _ _ (Nat.le_refl _)]; omega, by simp only; omega, by simp only; omega⟩
    have hp1 : 1 ≤ p.size := by omega
    have hp2 : ¬ (p.size : Int) < 1 := by omega
    clear hp ht hb
    have H5 : Hid (CurEnd w (w3.alloc (.cells (hc (s, p.extract 1 p.size, t, b)) 25)) c a len cap) := H3.out.alloc _
    have HB5 : Blk (w3.alloc (.cells (hc (s, p.extract 1 p.size, t, b)) 25)) w.heap.size 25 (hc hZ) := HB3.out.alloc _
    have HX5 : Blk (w3.alloc (.cells (hc (s, p.extract 1 p.size, t, b)) 25)) w3.heap.size 25 (hc (s, p.extract 1 p.size, t, b)) := Blk.new _ _ _
    go_wp2_with (first | (refine load_blk rfl rfl rfl HX5 Tryd.underlying25 infoH ?_) | (refine store_blk (cs' := hc (s, p.extract 1 p.size, t, b)) rfl rfl rfl rfl rfl HB5 infoH rfl (ones4 _) ?_; intro V h5 hoth hbel; have hE9 : Hid (CurEnd w V c a len cap) := H5.out.store (Nat.le_refl _) hcl hoth hbel; clear hoth hbel))
    refine bodyPost_ret_by (result_blk rfl rfl h5 Tryd.underlying25 infoH) rfl ⟨(s, p.extract 1 p.size, t, b), rfl, HS.out, hE9.out⟩
  · have HS : Hid (HdS (s, p, ByteArray.empty, b)) := ⟨by simp only; omega, by simp only [ByteArray.size_empty]; omega, by simp only; omega⟩
    clear hp ht hb
    have H5 : Hid (CurEnd w (w3.alloc (.cells (hc (s, p, ByteArray.empty, b)) 25)) c a len cap) := H3.out.alloc _
    have HB5 : Blk (w3.alloc (.cells (hc (s, p, ByteArray.empty, b)) 25)) w.heap.size 25 (hc hZ) := HB3.out.alloc _
    have HX5 : Blk (w3.alloc (.cells (hc (s, p, ByteArray.empty, b)) 25)) w3.heap.size 25 (hc (s, p, ByteArray.empty, b)) := Blk.new _ _ _
    go_wp2_with (first | (refine load_blk rfl rfl rfl HX5 Tryd.underlying25 infoH ?_) | (refine store_blk (cs' := hc (s, p, ByteArray.empty, b)) rfl rfl rfl rfl rfl HB5 infoH rfl (ones4 _) ?_; intro V h5 hoth hbel; have hE9 : Hid (CurEnd w V c a len cap) := H5.out.store (Nat.le_refl _) hcl hoth hbel; clear hoth hbel))
    refine bodyPost_ret_by (result_blk rfl rfl h5 Tryd.underlying25 infoH) rfl ⟨(s, p, ByteArray.empty, b), rfl, HS.out, hE9.out⟩
  · have hx1 : (ByteArray.mk #[120]).size = 1 := rfl
    have HS : Hid (HdS (s, p, t, b ++ ByteArray.mk #[120])) := ⟨by simp only; omega, by simp only; omega, by simp only [ByteArray.size_append]; omega⟩
    have hs1 : ¬ 9223372036854775807 < b.size + (ByteArray.mk #[120]).size := by omega
    have hs2 : ¬ (9223372036854775807 : Int) < (b.size : Int) + ((ByteArray.mk #[120]).size : Int) := by omega
    clear hp ht hb hx1
    have H5 : Hid (CurEnd w (w3.alloc (.cells (hc (s, p, t, b ++ ByteArray.mk #[120])) 25)) c a len cap) := H3.out.alloc _
    have HB5 : Blk (w3.alloc (.cells (hc (s, p, t, b ++ ByteArray.mk #[120])) 25)) w.heap.size 25 (hc hZ) := HB3.out.alloc _
    have HX5 : Blk (w3.alloc (.cells (hc (s, p, t, b ++ ByteArray.mk #[120])) 25)) w3.heap.size 25 (hc (s, p, t, b ++ ByteArray.mk #[120])) := Blk.new _ _ _
    go_wp2_with (first | (refine load_blk rfl rfl rfl HX5 Tryd.underlying25 infoH ?_) | (refine store_blk (cs' := hc (s, p, t, b ++ ByteArray.mk #[120])) rfl rfl rfl rfl rfl HB5 infoH rfl (ones4 _) ?_; intro V h5 hoth hbel; have hE9 : Hid (CurEnd w V c a len cap) := H5.out.store (Nat.le_refl _) hcl hoth hbel; clear hoth hbel))
    refine bodyPost_ret_by (result_blk rfl rfl h5 Tryd.underlying25 infoH) rfl ⟨(s, p, t, b ++ ByteArray.mk #[120]), rfl, HS.out, hE9.out⟩
  · have n0 : (k == 0) = false := by rw [beq_eq_false_iff_ne]; omega
    have n1 : (k == 1) = false := by rw [beq_eq_false_iff_ne]; omega
    have n2 : (k == 2) = false := by rw [beq_eq_false_iff_ne]; omega
    have n3 : (k == 3) = false := by rw [beq_eq_false_iff_ne]; omega
    have HS : Hid (HdS (s, p, t, b)) := ⟨by simp only; omega, by simp only; omega, by simp only; omega⟩
    have hX4 := HX4.out
    have hB4 := HB4.out
    clear hp ht hb
    go_wp2_with (first | (refine load_blk rfl rfl rfl hX4 Tryd.underlying25 infoH ?_) | (refine store_blk (cs' := hc (s, p, t, b)) rfl rfl rfl rfl rfl hB4 infoH rfl (ones4 _) ?_; intro V h5 hoth hbel; have hE9 : Hid (CurEnd w V c a len cap) := H4.out.store (Nat.le_refl _) hcl hoth hbel; clear hoth hbel))
    refine bodyPost_ret_by (result_blk rfl rfl h5 Tryd.underlying25 infoH) rfl ⟨(s, p, t, b), rfl, HS.out, hE9.out⟩

end Go.Proofs.YtlaoikpbgbckjaaDoor
