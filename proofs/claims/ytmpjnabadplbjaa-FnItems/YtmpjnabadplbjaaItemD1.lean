/-
  The draws: an item.
  (-DROP-: what the seat lacks is left out.)
-/
import Derived.Test.YtmpjnabadplbjaaFormMem
import Derived.Test.YtmpjnabadplbjaaItemMk
import Derived.Test.YtmpjnabadplbjaaJoined40
namespace Go.Proofs.Ytmpjnabadplbjaa
open Go.RowKit

/-- So many items a drawn one has at the most. -/
def cD : Nat → Nat
  | 0 => 1
  | d + 1 => 1 + 4 * cD d
/-- What l17Item leaves. -/
def DrEnd (d c len cap : Nat) (a : Option Addr) (w : World) (e : Ending) (w' : World) : Prop := ∃ (x : It (d + 1)) (v : Value), e = .returned (itV (itL x) (itT x) v) ∧ TO d (fun b => w.heap.size ≤ b ∧ b < w'.heap.size) w' v (itK x) ∧ (itT x).size ≤ 100 ∧ cntD (d + 1) x ≤ cD d ∧ CurEnd w w' c a len cap
/-- A text item. -/
def leafI {d : Nat} (t : ByteArray) : It (d + 1) := (false, t, [])
/-- A list item. -/
def listI {d : Nat} (K : List (It d)) : It (d + 1) := (true, ⟨#[]⟩, K)
theorem cnt_list {d : Nat} (K : List (It d)) : cntD (d + 1) (listI K) = 1 + (K.map (cntD d)).sum := by rw [cntD]; rfl
theorem cnt_leaf {d : Nat} (t : ByteArray) : cntD (d + 1) (leafI (d := d) t) = 1 := by rw [cntD]; rfl
theorem cD_pos (d : Nat) : 1 ≤ cD d := by
  cases d with
  | zero => exact Nat.le_refl _
  | succ d => rw [cD]; omega

set_option maxHeartbeats 3200000 in
set_option maxRecDepth 100000 in
theorem drawItem_zero (c len cap : Nat) (a : Option Addr) (hm : len ≤ 1048576) (w : World) (hC : CurAt w c a len cap) (hA : ArgAt w a len c) :
    Calls Try.prog 55 #[.pointer (some ⟨c, 0, none⟩), .int .i64 0] w (DrEnd 0 c len cap a w) := by
  have hcw := hC.lt
  have hne : w.heap.size ≠ c := by omega
  obtain ⟨w2, hW, hb, hr2⟩ := box1 w 26 #[.bool false, .string ⟨#[]⟩, .slice none 0 0]
  have HE2 : Hid (CurEnd w w2 c a len cap) := by
    show CurEnd w w2 c a len cap
    rw [← hW]
    exact (CurEnd.refl hC hA).alloc _
  clear hC hA hb
  go_enter Try.func55, Try.ntmps55
  go_wp2_with fail
  have hcl := HE2.out.cur.lt
  have HW := HE2.out.alloc (.cells #[.int .i64 0, .int .i64 1, .int .i64 1, .int .i64 2, .int .i64 5, .int .i64 55, .int .i64 56, .int .i64 70, .int .i64 9] 3)
  have hr2a := hr2.alloc (.cells #[.int .i64 0, .int .i64 1, .int .i64 1, .int .i64 2, .int .i64 5, .int .i64 55, .int .i64 56, .int .i64 70, .int .i64 9] 3)
  refine (pick_any c len cap a hm w2.heap.size 9 9 (by omega) (by omega) _ HW.cur HW.arg (by omega) (fun z => 0 ≤ z ∧ z ≤ 70) (ints_new w2 [0, 1, 1, 2, 5, 55, 56, 70, 9] _ rfl (fun z => 0 ≤ z ∧ z ≤ 70) (by intro z hz; simp at hz; omega))).mono ?_
  rintro e w3 ⟨z, rfl, ⟨z0, z1⟩, hE⟩
  have HE3 : Hid (CurEnd w w3 c a len cap) := HW.trans hE
  have hr3 := hr2a.grown hE.grown hne
  obtain ⟨n, rfl⟩ : ∃ n : Nat, z = n := ⟨z.toNat, by omega⟩
  clear hE HW hr2 hr2a HE2 hcl
  go_wp2_with fail
  refine (drawn_any c len cap a hm n (by omega) _ HE3.out.cur HE3.out.arg).mono ?_
  rintro e w4 ⟨t, rfl, htl, hE⟩
  have HE4 : Hid (CurEnd w w4 c a len cap) := HE3.out.trans hE
  have hr4 := hr3.grown hE.grown hne
  have HT : Hid (t.length ≤ 70) := by show _ ≤ _; omega
  clear hE hr3 HE3 z0 z1 htl
  go_wp2_with (refine store_blkS (cs' := #[.bool false, .string ⟨t.toArray⟩, .slice none 0 0]) rfl rfl rfl rfl rfl hr4 infoIt rfl (onesIt _ _ _ _ _) ?_; intro V h5 hall hoth hbel; have HV := HE4.out.store (g := w.heap.size) (Nat.le_refl _) hcw hoth hbel; clear hoth hbel)
  refine bodyPost_ret_by (result_blk rfl rfl h5 Try.underlying26 infoIt) rfl ⟨leafI (d := 0) ⟨t.toArray⟩, _, rfl, TO.nil0 _ _ _, (by show (⟨t.toArray⟩ : ByteArray).size ≤ 100; have h1 := HT.out; show t.toArray.size ≤ 100; simp; omega), (by rw [cnt_leaf]; exact cD_pos _), HV⟩

/-- What stands at the loop's head. -/
structure DrInv (d c len cap : Nat) (a : Option Addr) (w : World) (gX : Nat) (K : List (It (d + 1))) (v : Value) (vs : List Value) (F : Nat → Nat → Prop) (wr : World) : Prop where
  cur : CurEnd w wr c a len cap
  res : Blk wr w.heap.size 26 #[.bool false, .string ⟨#[]⟩, .slice none 0 0]
  box : Blk wr gX 26 #[.bool true, .string ⟨#[]⟩, v]
  own : TGr d (gX + 1) wr.heap.size wr v K vs F
  low : w.heap.size < gX
  few : K.length ≤ 4
  cnt : (K.map (cntD (d + 1))).sum ≤ K.length * cD d

set_option maxHeartbeats 6400000 in
set_option maxRecDepth 100000 in
theorem drawItem_succ (c len cap : Nat) (a : Option Addr) (hm : len ≤ 1048576) (d : Nat) (hd : d ≤ 10) (w : World) (hC : CurAt w c a len cap) (hA : ArgAt w a len c)
    (hR : ∀ w, CurAt w c a len cap → ArgAt w a len c → Calls Try.prog 55 #[.pointer (some ⟨c, 0, none⟩), .int .i64 (d : Int)] w (DrEnd d c len cap a w)) :
    Calls Try.prog 55 #[.pointer (some ⟨c, 0, none⟩), .int .i64 ((d + 1 : Nat) : Int)] w (DrEnd (d + 1) c len cap a w) := by
  have hcw := hC.lt
  have hne : w.heap.size ≠ c := by omega
  obtain ⟨W, hW, hb, hr⟩ := box1 w 26 #[.bool false, .string ⟨#[]⟩, .slice none 0 0]
  have HE : Hid (CurEnd w W c a len cap) := by
    show CurEnd w W c a len cap
    rw [← hW]
    exact (CurEnd.refl hC hA).alloc _
  have HR : Hid (∀ w, CurAt w c a len cap → ArgAt w a len c → Calls Try.prog 55 #[.pointer (some ⟨c, 0, none⟩), .int .i64 (d : Int)] w (DrEnd d c len cap a w)) := hR
  generalize hmd : ((d + 1 : Nat) : Int) = m
  have hm0 : (m == 0) = false := by rw [beq_eq_false_iff_ne]; omega
  have hm1 : m - 1 = (d : Int) := by omega
  clear hC hA hb hR hmd
  go_enter Try.func55, Try.ntmps55
  go_wp2_with fail
  clear hW
  refine (once_any c len cap a hm 2 (by omega) (by omega) _ HE.out.cur HE.out.arg).mono ?_
  rintro e w2 ⟨o, rfl, hE⟩
  have HE2 : Hid (CurEnd w w2 c a len cap) := HE.out.trans hE
  have hr2 := hr.grown hE.grown hne
  clear hE HE hr
  cases o
  · go_wp2_with (refine store_blk (cs' := #[.bool true, .string ⟨#[]⟩, .slice none 0 0]) rfl rfl rfl rfl rfl (Blk.new _ _ _) infoIt rfl (onesIt _ _ _ _ _) ?_; intro V h5 hoth hbel; have hrV := hoth _ _ _ (by have := hr2.lt; omega) (hr2.alloc _); have hcV := (HE2.out.alloc (.cells #[.bool false, .string ⟨#[]⟩, .slice none 0 0] 26)).store (g := w2.heap.size) HE2.out.grown.size hcw hoth hbel; clear hoth hbel)
    have H0 : Hid (DrInv d c len cap a w w2.heap.size [] (.slice none 0 0) [] (fun _ _ => False) V) := ⟨hcV, hrV, h5, TGr.start _ _ _ _, hr2.lt, Nat.zero_le _, Nat.zero_le _⟩
    clear hr2 HE2 hrV hcV h5
    generalize w2.heap.size = gX at H0 ⊢
    go_loopw [7] (fun i wr => ∃ (K : List (It (d + 1))) (v : Value) (vs : List Value) (F : Nat → Nat → Prop), i = .int .i64 (K.length : Int) ∧ Hid (DrInv d c len cap a w gX K v vs F wr)) (fun i _ => 5 - (intOf i).toNat)
    case atStart => exact ⟨[], _, [], _, rfl, H0⟩
    case round =>
      obtain ⟨K, v, vs, F, rfl, HI⟩ := hrel
      clear H0
      have hfew := HI.out.few
      have hlow := HI.out.low
      have hxc : gX ≠ c := by omega
      obtain ⟨ka, kc, rfl⟩ := row_slice HI.out.own.row
      have hKo := fun w' (hg : wr.grownBy w' (some c)) => (show TGr d (gX + 1) wr.heap.size w' (.slice ka K.length kc) K vs F from HI.out.own.same (fun b h1 h2 => hg.block b h2 (fun e => by have e2 := Option.some.inj e; omega)) (Nat.le_refl _))
      go_wp2_with fail
      refine (below_any c len cap a hm 5 (by omega) (by omega) _ HI.out.cur.cur HI.out.cur.arg).mono ?_
      rintro e w3 ⟨y, rfl, y0, y1, hE⟩
      have hr3 := HI.out.res.grown hE.grown hne
      have hx3 := HI.out.box.grown hE.grown hxc
      have ho3 := hKo w3 hE.grown
      have HE3 : Hid (CurEnd w w3 c a len cap) := HI.out.cur.trans hE
      have hs3 := hE.grown.size
      have HC3 : Hid ((K.map (cntD (d + 1))).sum ≤ K.length * cD d) := HI.out.cnt
      by_cases hlt : (K.length : Int) < y
      · go_wp2_with fail
        refine (HR.out w3 HE3.out.cur HE3.out.arg).mono ?_
        rintro e w4 ⟨x, u, rfl, hto, htx, hcx, hE4⟩
        obtain ⟨xa, xc, rfl⟩ := hto.slice
        have hr4 := hr3.grown hE4.grown hne
        have hx4 := hx3.grown hE4.grown hxc
        have ho4 : TGr d (gX + 1) wr.heap.size w4 (.slice ka K.length kc) K vs F := ho3.same (fun b h1 h2 => hE4.grown.block b (by omega) (fun e => by have e2 := Option.some.inj e; omega)) (Nat.le_refl _)
        have HE4 : Hid (CurEnd w w4 c a len cap) := HE3.out.trans hE4
        have hs4 := hE4.grown.size
        have HX : Hid (TO d (fun b => w3.heap.size ≤ b ∧ b < w4.heap.size) w4 (.slice xa (itK x).length xc) (itK x) ∧ (itT x).size ≤ 100 ∧ cntD (d + 1) x ≤ cD d) := ⟨hto, htx, hcx⟩
        have hgw : gX < wr.heap.size := HI.out.box.lt
        have HSZ : Hid (gX < wr.heap.size ∧ wr.heap.size ≤ w3.heap.size ∧ w3.heap.size ≤ w4.heap.size ∧ w.heap.size < gX ∧ c < w.heap.size) := ⟨hgw, hs3, hs4, hlow, hcw⟩
        have HOVT : ∀ V1, Below w4.heap.size w4 V1 → Hid (TGr d (gX + 1) w3.heap.size V1 (.slice ka K.length kc) K vs F ∧ TO d (fun b => w3.heap.size ≤ b ∧ b < w4.heap.size) V1 (.slice xa (itK x).length xc) (itK x) ∧ gX + 1 ≤ V1.heap.size ∧ w4.heap.size ≤ V1.heap.size) := fun V1 h => by
          have h2 := h.size
          exact ⟨ho4.same (Same.of_below h (by omega)) (by omega), hto.kept (w' := V1) fun b hb => h.block b hb.2, by omega, h2⟩
        obtain ⟨i9, hi9, hz0, hz1, hz2⟩ := info_parts infoItz
        have hm63 : K.length + 1 ≤ maxLen := by unfold maxLen; omega
        have hm47 : (K.length + 1) * 48 ≤ 140737488355328 := by omega
        have hyl : K.length + 1 ≤ 4 := by omega
        clear hKo hr3 hx3 ho3 hE HE3 hto htx hcx hE4 hs3 hs4 ho4
        unfold itV
        go_wp2_with (first | (refine store_blk (cs' := #[.bool (itL x), .string (itT x), .slice xa (itK x).length xc]) rfl rfl rfl rfl rfl (Blk.new _ _ _) infoIt rfl (onesIt _ _ _ _ _) ?_; intro V1 h51 hoth1 hbel1; have hrV := hoth1 _ _ _ (by have := HSZ.out; omega) (hr4.alloc _); have hcV := (HE4.out.alloc (.cells #[.bool false, .string ⟨#[]⟩, .slice none 0 0] 26)).store (g := w4.heap.size) HE4.out.grown.size hcw hoth1 hbel1; have hxV := hoth1 _ _ _ (by have := HSZ.out; omega) (hx4.alloc _); have p2 := hxV.cell 2; have k0 := h51.cell 0; have k1 := h51.cell 1; have k2 := h51.cell 2; have HOV := HOVT V1 (hbel1 w4.heap.size w4 (Nat.le_refl _) ((Below.refl _ _).alloc (Nat.le_refl _) _)); clear hoth1 hbel1) | (at_builtin; refine wpList_append_own_at _ rfl _ _ 24 rfl (gX + 1) 26 i9 (.agg #[.bool false, .string ⟨#[]⟩, .slice none 0 0]) 3 48 Try.underlying24 hi9 hz0 hz1 hz2 rfl (by decide) _ _ _ rfl (HOV.out.1.row.alloc _) ⟨V1.heap.size, 0, none⟩ 1 1 [.bool (itL x), .string (itT x), .slice xa (itK x).length xc] rfl rfl (cell_three_any _ _ _ _ _) (three_cellI _ _ _ _ _) hm63 hm47 (room_for HOV.out.2.2.1 _) ?_; intro v7 w7 hown' hgrow _ hat; obtain ⟨a7, cp7, rfl⟩ := row_slice hown'; have HW7 := (hgrow.block gX (hxV.alloc _).lt (fun e => by have := (HOV.out.1.row.lt _ e.symm).1; omega)).trans (hxV.alloc _); have HW8 : Blk w7 gX _ _ := HW7; have z2 := HW8.cell 2; have f2 := HW8.free 2))
        have hAb : Below V1.heap.size V1 (V1.alloc (.cells #[.bool (itL x), .string (itT x), .slice xa (itK x).length xc] 26)) := (Below.refl _ _).alloc (Nat.le_refl _) _
        have hAs : (V1.alloc (.cells #[.bool (itL x), .string (itT x), .slice xa (itK x).length xc] 26)).heap.size = V1.heap.size + 1 := by simp
        have hv14 := HOV.out.2.2.2
        have hsz := HSZ.out
        obtain ⟨F7, own7⟩ := TGr.app (hi' := w7.heap.size) (HOV.out.1.same (Same.of_below hAb (by omega)) (Nat.le_refl _)) hown' hgrow hat ((HOV.out.2.1.kept (fun b hb => hAb.block b (by have := hb.2; omega))).more (fun b hb => ⟨hb.1, by have := hb.2; omega⟩)) (by have := HX.out.2.1; omega) (by omega) (by omega) hgrow.size (fun k hk => (hown'.lt k hk).2)
        have hZ2 : Blk (w7.setCell ⟨gX, 2, none⟩ (.slice a7 (K.length + 1) cp7)) gX 26 #[.bool true, .string ⟨#[]⟩, .slice a7 (K.length + 1) cp7] := HW8.set 2 _
        have hown7 : ∀ k, (Value.slice ka K.length kc).ownBlock = some k → gX < k := fun k hk => (HOV.out.1.row.lt k hk).1
        have hres7 : Blk w7 w.heap.size 26 #[.bool false, .string ⟨#[]⟩, .slice none 0 0] := (hgrow.block w.heap.size (hrV.alloc _).lt (fun e => by have := hown7 _ e.symm; omega)).trans (hrV.alloc _)
        have hcur7 : CurEnd w w7 c a len cap := (hcV.alloc _).push hgrow (fun k hk => by have := hown7 k hk; omega) (fun k hk => by have := hown7 k hk; omega)
        have hcur8 : CurEnd w (w7.setCell ⟨gX, 2, none⟩ (.slice a7 (K.length + 1) cp7)) c a len cap := hcur7.cell (by omega) hcw _
        have hl8 : (K ++ [x]).length = K.length + 1 := by rw [List.length_append, List.length_singleton]
        exact ⟨⟨K ++ [x], _, _, F7, by rw [hl8]; rfl, ⟨hcur8, hres7.other (by omega) _, hZ2, own7.same (Same.set _ _ _ (.inl (Nat.lt_succ_self gX))) (by simp), hlow, by omega, by
          rw [sum_snoc, hl8, Nat.succ_mul]
          have h1 := HC3.out
          have h2 := HX.out.2.2
          omega⟩⟩, by simp [intOf]; omega⟩
      · have HF : Hid (TGr d (gX + 1) wr.heap.size w3 (.slice ka K.length kc) K vs F ∧ CurEnd w w3 c a len cap ∧ wr.heap.size ≤ w3.heap.size ∧ w.heap.size < gX) := ⟨ho3, HE3.out, hs3, hlow⟩
        have q0 := hx3.cell 0
        have q1 := hx3.cell 1
        have q2 := hx3.cell 2
        clear hKo ho3 HE3 hE HI
        go_wp2_with (refine store_blkS (cs' := #[.bool true, .string ⟨#[]⟩, .slice ka K.length kc]) rfl rfl rfl rfl rfl hr3 infoIt rfl (onesIt _ _ _ _ _) ?_; intro V h5 hall hoth hbel; have hcV := HF.out.2.1.store (g := w.heap.size) (Nat.le_refl _) hcw hoth hbel; have hbV2 := hbel 0 w3 (Nat.zero_le _) (Below.refl _ _); clear hoth hbel)
        have hto := (HF.out.1.to (by omega)).kept (w' := V) (fun b hb => hall b (by have := hb.1; have := HF.out.2.2.2; omega))
        refine bodyPost_ret_by (result_blk rfl rfl h5 Try.underlying26 infoIt) rfl ⟨listI K, _, rfl, hto.more fun b hb => ⟨by have := hb.1; have := HF.out.2.2.2; omega, by have := hb.2; have := hbV2.size; have := HF.out.2.2.1; omega⟩, Nat.zero_le _, by
          rw [cnt_list, cD]
          have h1 := HC3.out
          have h2 : K.length * cD d ≤ 4 * cD d := Nat.mul_le_mul_right _ hfew
          omega, hcV⟩
  · skip
    go_wp2_with fail
    have hcl := HE2.out.cur.lt
    have HW := HE2.out.alloc (.cells #[.int .i64 0, .int .i64 1, .int .i64 1, .int .i64 2, .int .i64 5, .int .i64 55, .int .i64 56, .int .i64 70, .int .i64 9] 3)
    have hr2a := hr2.alloc (.cells #[.int .i64 0, .int .i64 1, .int .i64 1, .int .i64 2, .int .i64 5, .int .i64 55, .int .i64 56, .int .i64 70, .int .i64 9] 3)
    refine (pick_any c len cap a hm w2.heap.size 9 9 (by omega) (by omega) _ HW.cur HW.arg (by omega) (fun z => 0 ≤ z ∧ z ≤ 70) (ints_new w2 [0, 1, 1, 2, 5, 55, 56, 70, 9] _ rfl (fun z => 0 ≤ z ∧ z ≤ 70) (by intro z hz; simp at hz; omega))).mono ?_
    rintro e w3 ⟨z, rfl, ⟨z0, z1⟩, hE⟩
    have HE3 : Hid (CurEnd w w3 c a len cap) := HW.trans hE
    have hr3 := hr2a.grown hE.grown hne
    obtain ⟨n, rfl⟩ : ∃ n : Nat, z = n := ⟨z.toNat, by omega⟩
    clear hE HW hr2 hr2a HE2 hcl
    go_wp2_with fail
    refine (drawn_any c len cap a hm n (by omega) _ HE3.out.cur HE3.out.arg).mono ?_
    rintro e w4 ⟨t, rfl, htl, hE⟩
    have HE4 : Hid (CurEnd w w4 c a len cap) := HE3.out.trans hE
    have hr4 := hr3.grown hE.grown hne
    have HT : Hid (t.length ≤ 70) := by show _ ≤ _; omega
    clear hE hr3 HE3 z0 z1 htl
    go_wp2_with (refine store_blkS (cs' := #[.bool false, .string ⟨t.toArray⟩, .slice none 0 0]) rfl rfl rfl rfl rfl hr4 infoIt rfl (onesIt _ _ _ _ _) ?_; intro V h5 hall hoth hbel; have HV := HE4.out.store (g := w.heap.size) (Nat.le_refl _) hcw hoth hbel; clear hoth hbel)
    refine bodyPost_ret_by (result_blk rfl rfl h5 Try.underlying26 infoIt) rfl ⟨leafI (d := (d + 1)) ⟨t.toArray⟩, _, rfl, TO.nil0 _ _ _, (by show (⟨t.toArray⟩ : ByteArray).size ≤ 100; have h1 := HT.out; show t.toArray.size ≤ 100; simp; omega), (by rw [cnt_leaf]; exact cD_pos _), HV⟩

end Go.Proofs.Ytmpjnabadplbjaa
