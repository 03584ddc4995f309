/-
  The draws: an item, or one that is not right.
  (-DROP-: what the seat lacks is left out.)
-/
import Derived.Test.YtmpjnabadplbjaaItemD1
import Derived.Test.YtmpjnabadplbjaaDraw2
namespace Go.Proofs.Ytmpjnabadplbjaa
open Go.RowKit

theorem drawItem_any (c len cap : Nat) (a : Option Addr) (hm : len ≤ 1048576) : ∀ (d : Nat), d ≤ 10 → ∀ (w : World), CurAt w c a len cap → ArgAt w a len c → Calls Try.prog 55 #[.pointer (some ⟨c, 0, none⟩), .int .i64 (d : Int)] w (DrEnd d c len cap a w)
  | 0, _, w, hC, hA => drawItem_zero c len cap a hm w hC hA
  | d + 1, hd, w, hC, hA => drawItem_succ c len cap a hm d (by omega) w hC hA (drawItem_any c len cap a hm d (by omega))
/-- An item with another text. -/
def withT {d : Nat} (x : It (d + 1)) (t : ByteArray) : It (d + 1) := (itL x, t, itK x)
theorem cnt_withT {d : Nat} (x : It (d + 1)) (t : ByteArray) : cntD (d + 1) (withT x t) = cntD (d + 1) x := by rw [cntD, cntD]; rfl
/-- What l17Any leaves. -/
def AnEnd (c len cap : Nat) (a : Option Addr) (w : World) (e : Ending) (w' : World) : Prop := ∃ (n : Nat) (x : It (n + 1)) (v : Value), e = .returned (itV (itL x) (itT x) v) ∧ TO n (fun b => w.heap.size ≤ b ∧ b < w'.heap.size) w' v (itK x) ∧ (itT x).size ≤ 1000 ∧ cntD (n + 1) x ≤ 100 ∧ CurEnd w w' c a len cap
theorem TO.one {n : Nat} {S : Nat → Prop} {w : World} {x : It (n + 1)} {v : Value} {g : Nat} (h : TO n S w v (itK x)) (ht : (itT x).size ≤ 1000000) (hg : ¬ S g) (hr : w.ownsRow 0 26 3 (.slice (some ⟨g, 0, none⟩) 1 1) 1 [.bool (itL x), .string (itT x), v]) : TO (n + 1) (fun b => S b ∨ b = g) w (.slice (some ⟨g, 0, none⟩) 1 1) [x] := by
  refine ⟨by simp, _, hr, fun q hq => .inr (Option.some.inj hq).symm, fun j b => j = 0 ∧ S b, fun i j b hi hj => hi.1.trans hj.1.symm, fun j b hb => ⟨.inl hb.2, fun e => hg (by have e2 : g = b := Option.some.inj e; rw [e2]; exact hb.2)⟩, fun j hj => ?_⟩
  have h0 : j = 0 := by simp at hj; omega
  subst h0
  refine ⟨rfl, rfl, ht, ?_⟩
  exact h.more fun b hb => ⟨rfl, hb⟩

/-- What stands at the loop's head. -/
structure AnInv (c len cap : Nat) (a : Option Addr) (w : World) (g4 i n : Nat) (x : It (n + 1)) (v : Value) (wr : World) : Prop where
  cur : CurEnd w wr c a len cap
  res : Blk wr w.heap.size 26 #[.bool false, .string ⟨#[]⟩, .slice none 0 0]
  box : Blk wr g4 26 #[.bool (itL x), .string (itT x), v]
  kids : TO n (fun b => w.heap.size < b ∧ b < wr.heap.size ∧ b ≠ g4) wr v (itK x)
  low : w.heap.size < g4
  txt : (itT x).size ≤ 100
  cnt : cntD (n + 1) x ≤ 85 + i

set_option maxHeartbeats 6400000 in
set_option maxRecDepth 100000 in
theorem drawAny (c len cap : Nat) (a : Option Addr) (hm : len ≤ 1048576) (w : World) (hC : CurAt w c a len cap) (hA : ArgAt w a len c) :
    Calls Try.prog 32 #[.pointer (some ⟨c, 0, none⟩)] w (AnEnd c len cap a w) := by
  have hcw := hC.lt
  have hne : w.heap.size ≠ c := by omega
  obtain ⟨W, hW, hb, hr⟩ := box1 w 26 #[.bool false, .string ⟨#[]⟩, .slice none 0 0]
  have HE : Hid (CurEnd w W c a len cap) := by
    show CurEnd w W c a len cap
    rw [← hW]
    exact (CurEnd.refl hC hA).alloc _
  have hlW : w.heap.size < W.heap.size := hr.lt
  have HI : Hid (∀ w, CurAt w c a len cap → ArgAt w a len c → Calls Try.prog 55 #[.pointer (some ⟨c, 0, none⟩), .int .i64 3] w (DrEnd 3 c len cap a w)) := fun w h1 h2 => drawItem_any c len cap a hm 3 (by omega) w h1 h2
  clear hC hA hb
  go_enter Try.func32, Try.ntmps32
  go_wp2_with fail
  clear hW
  refine (below_any c len cap a hm 10 (by omega) (by omega) _ HE.out.cur HE.out.arg).mono ?_
  rintro e w1 ⟨k, rfl, k0, k1, hE⟩
  have HE1 : Hid (CurEnd w w1 c a len cap) := HE.out.trans hE
  have hr1 := hr.grown hE.grown hne
  have hl1 : W.heap.size ≤ w1.heap.size := hE.grown.size
  clear hE HE hr
  go_wp2_with fail
  refine (HI.out w1 HE1.out.cur HE1.out.arg).mono ?_
  rintro e w2 ⟨x, v, rfl, hto, htx, hcx, hE⟩
  obtain ⟨va, vc, rfl⟩ := hto.slice
  have HE2 : Hid (CurEnd w w2 c a len cap) := HE1.out.trans hE
  have hr2 := hr1.grown hE.grown hne
  have hl2 : w1.heap.size ≤ w2.heap.size := hE.grown.size
  obtain ⟨V, hV, hbV, hx4⟩ := box1 w2 26 #[.bool (itL x), .string (itT x), .slice va (itK x).length vc]
  have HV : Hid (CurEnd w V c a len cap) := by
    show CurEnd w V c a len cap
    rw [← hV]
    exact HE2.out.alloc _
  have hcx2 : cntD (3 + 1) x ≤ 85 := hcx
  have HINV : Hid (AnInv c len cap a w w2.heap.size 0 3 x (.slice va (itK x).length vc) V) := ⟨HV.out, hr2.on hbV hr2.lt, hx4, ((hto.kept (w' := V) fun b hb => hbV.block b hb.2).more fun b hb => ⟨by have := hb.1; omega, by have := hb.2; have := hx4.lt; omega, by have := hb.2; omega⟩), by omega, htx, by omega⟩
  clear hE hr1 hr2 HE1 HE2 hto htx hcx hcx2 hbV hx4 HV hl1 hl2
  obtain ⟨g4, hg4⟩ : ∃ g, w2.heap.size = g := ⟨_, rfl⟩
  rw [hg4] at HINV
  unfold itV
  by_cases h0 : k = 0
  · subst h0
    have hb4 := HINV.out.box
    have q0 := hb4.cell 0
    have q1 := hb4.cell 1
    have q2 := hb4.cell 2
    have f1 := hb4.free 1
    have hcat : (Op.stringOp .add (itT x) ⟨#[122]⟩).run Try.prog V = .ok (.string (itT x ++ ⟨#[122]⟩)) V := run_string_add_sum (P := Try.prog) V (itT x) ⟨#[122]⟩ (by have h1 := HINV.out.txt; show (itT x).size + 1 ≤ 9223372036854775807; omega)
    have hz4 := hb4.set 1 (.string (itT x ++ ⟨#[122]⟩))
    have hgz := HINV.out.low
    have hrz := HINV.out.res.other (g' := g4) (i := 1) (by omega) (.string (itT x ++ ⟨#[122]⟩))
    have hcz := HINV.out.cur.cell (g := g4) (i := 1) (by omega) hcw (.string (itT x ++ ⟨#[122]⟩))
    have htz : TO 3 (fun b => w.heap.size < b ∧ b < V.heap.size ∧ b ≠ g4) (V.setCell ⟨g4, 1, none⟩ (.string (itT x ++ ⟨#[122]⟩))) (.slice va (itK x).length vc) (itK x) := HINV.out.kids.kept fun b hb => heap_setCell_ne V g4 1 b _ hb.2.2
    have hsz : V.heap.size ≤ (V.setCell ⟨g4, 1, none⟩ (.string (itT x ++ ⟨#[122]⟩))).heap.size := ((Below.refl 0 V).setCell (p := ⟨g4, 1, none⟩) (Nat.zero_le _) _).size
    have z0 := hz4.cell 0
    have z1 := hz4.cell 1
    have z2 := hz4.cell 2
    clear hb4 hz4
    go_wp2_with (refine store_blkS (cs' := #[.bool (itL x), .string (itT x ++ ⟨#[122]⟩), .slice va (itK x).length vc]) rfl rfl rfl rfl rfl hrz infoIt rfl (onesIt _ _ _ _ _) ?_; intro V9 h9 hall hoth hbel; have hc9 := hcz.store (g := w.heap.size) (Nat.le_refl _) hcw hoth hbel; have hb9 := hbel 0 _ (Nat.zero_le _) (Below.refl 0 _); clear hoth hbel)
    have hto9 := (htz.kept (w' := V9) (fun b hb => hall b (by have := hb.1; omega))).more (T := fun b => w.heap.size ≤ b ∧ b < V9.heap.size) (fun b hb => ⟨by have := hb.1; omega, by have := hb.2.1; have := hb9.size; omega⟩)
    refine bodyPost_ret_by (result_blk rfl rfl h9 Try.underlying26 infoIt) rfl ⟨3, withT x (itT x ++ ⟨#[122]⟩), _, rfl, hto9, (by show (itT x ++ ⟨#[122]⟩).size ≤ 1000; rw [ByteArray.size_append]; have h1 := HINV.out.txt; show (itT x).size + 1 ≤ 1000; omega), (by rw [cnt_withT]; have h1 := HINV.out.cnt; omega), hc9⟩
  · have h0' : (k == 0) = false := by rw [beq_eq_false_iff_ne]; exact h0
    by_cases h1 : k = 1
    · subst h1
      go_wp2_with fail
      clear hV
      go_loopw [5] (fun i wr => ∃ (j n : Nat) (x : It (n + 1)) (v : Value), i = .int .i64 (j : Int) ∧ j ≤ 4 ∧ Hid (AnInv c len cap a w g4 j n x v wr)) (fun i _ => 4 - (intOf i).toNat)
      case atStart => exact ⟨0, 3, x, _, rfl, Nat.zero_le _, HINV⟩
      case round =>
        obtain ⟨j, n, x, v, rfl, hj, HJ⟩ := hrel
        clear HINV
        obtain ⟨va, vc, rfl⟩ := HJ.out.kids.slice
        have hb4 := HJ.out.box
        have q0 := hb4.cell 0
        have q1 := hb4.cell 1
        have q2 := hb4.cell 2
        by_cases hlt : j < 4
        · have hlt' : (j : Int) < 4 := by omega
          have hlow := HJ.out.low
          have hg4 := hb4.lt
          obtain ⟨V1, hV1, hbV1, hx1⟩ := box1 wr 26 #[.bool (itL x), .string (itT x), .slice va (itK x).length vc]
          have k0 := hx1.cell 0
          have k1 := hx1.cell 1
          have k2 := hx1.cell 2
          obtain ⟨V2, hV2, hbV2, hx2⟩ := box1 V1 26 #[.bool (itL x), .string (itT x), .slice va (itK x).length vc]
          have hb42 := (hb4.on hbV1 hb4.lt).on hbV2 (by have := hbV1.size; omega)
          have HJ2 : Hid (CurEnd w V2 c a len cap ∧ Blk V2 w.heap.size 26 #[.bool false, .string ⟨#[]⟩, .slice none 0 0] ∧ TO n (fun b => w.heap.size < b ∧ b < wr.heap.size ∧ b ≠ g4) V2 (.slice va (itK x).length vc) (itK x) ∧ wr.heap.size < V1.heap.size ∧ V1.heap.size < V2.heap.size ∧ Blk V2 V1.heap.size 26 #[.bool (itL x), .string (itT x), .slice va (itK x).length vc]) := ⟨by
            rw [← hV2, ← hV1]
            exact (HJ.out.cur.alloc _).alloc _, (HJ.out.res.on hbV1 HJ.out.res.lt).on hbV2 (by have := hbV1.size; have := HJ.out.res.lt; omega), (HJ.out.kids.kept (w' := V1) fun b hb => hbV1.block b hb.2.1).kept fun b hb => hbV2.block b (by have := hb.2.1; have := hbV1.size; omega), hx1.lt, hx2.lt, hx2⟩
          have hrow : V2.ownsRow 0 26 3 (.slice (some ⟨V1.heap.size, 0, none⟩) 1 1) 1 [.bool (itL x), .string (itT x), .slice va (itK x).length vc] := by
            rw [← hV2]
            exact row_low (World.ownsRow_lit (base := V1.heap.size) (e := 26) (size := 3) V1 #[.bool (itL x), .string (itT x), .slice va (itK x).length vc] 1 (Nat.le_refl _) (by unfold maxLen; omega) (by simp))
          have HTO : Hid (TO (n + 1) (fun b => (w.heap.size < b ∧ b < wr.heap.size ∧ b ≠ g4) ∨ b = V1.heap.size) V2 (.slice (some ⟨V1.heap.size, 0, none⟩) 1 1) [x]) := HJ2.out.2.2.1.one (by have := HJ.out.txt; omega) (fun h => by have h1 := h.2.1; have h2 := HJ2.out.2.2.2.1; omega) hrow
          have HCN : Hid (cntD (n + 1) x ≤ 85 + j) := HJ.out.cnt
          clear hb4 hbV1 hx1 hbV2 hx2 hrow HJ
          go_wp2_with (refine store_blkS (cs' := #[.bool true, .string ⟨#[]⟩, .slice (some ⟨V1.heap.size, 0, none⟩) 1 1]) rfl rfl rfl rfl rfl hb42 infoIt rfl (onesIt _ _ _ _ _) ?_; intro V3 h3 hall hoth hbel; have hc3 := HJ2.out.1.store (g := g4) (by omega) hcw hoth hbel; have hr3 := hoth _ _ _ (by omega) HJ2.out.2.1; have hb3 := hbel 0 _ (Nat.zero_le _) (Below.refl 0 _); clear hoth hbel)
          have HI3 : Hid (AnInv c len cap a w g4 (j + 1) (n + 1) (listI [x]) (.slice (some ⟨V1.heap.size, 0, none⟩) 1 1) V3) := ⟨hc3, hr3, h3, ((HTO.out.kept (w' := V3) fun b hb => hall b (by have := HJ2.out.2.2.2.1; omega)).more fun b hb => (by have := HJ2.out.2.2.2.1; have := HJ2.out.2.2.2.2.1; have := hb3.size; omega)), hlow, Nat.zero_le _, by
            rw [cnt_list]
            have := HCN.out
            simp
            omega⟩
          clear hc3 hr3 h3 hall hb3 HJ2 HTO HCN hb42
          go_wp2
          go_roundw
          case rel => exact ⟨j + 1, n + 1, _, _, by go_num, hlt, HI3⟩
          case measure => simp [intOf]; omega
        · have hlt' : ¬ (j : Int) < 4 := by omega
          have hgz := HJ.out.low
          go_wp2_with (refine store_blkS (cs' := #[.bool (itL x), .string (itT x), .slice va (itK x).length vc]) rfl rfl rfl rfl rfl HJ.out.res infoIt rfl (onesIt _ _ _ _ _) ?_; intro V9 h9 hall hoth hbel; have hc9 := HJ.out.cur.store (g := w.heap.size) (Nat.le_refl _) hcw hoth hbel; have hb9 := hbel 0 _ (Nat.zero_le _) (Below.refl 0 _); clear hoth hbel)
          have hto9 := (HJ.out.kids.kept (w' := V9) (fun b hb => hall b (by have := hb.1; omega))).more (T := fun b => w.heap.size ≤ b ∧ b < V9.heap.size) (fun b hb => ⟨by have := hb.1; omega, by have := hb.2.1; have := hb9.size; omega⟩)
          refine bodyPost_ret_by (result_blk rfl rfl h9 Try.underlying26 infoIt) rfl ⟨n, x, _, rfl, hto9, (by have h1 := HJ.out.txt; omega), (by have h1 := HJ.out.cnt; omega), hc9⟩
    · have h1' : (k == 1) = false := by rw [beq_eq_false_iff_ne]; exact h1
      by_cases h2 : k = 2
      · subst h2
        go_wp2_with fail
        refine (below_any c len cap a hm 2 (by omega) (by omega) _ HINV.out.cur.cur HINV.out.cur.arg).mono ?_
        rintro e w3 ⟨y, rfl, y0, y1, hE⟩
        obtain ⟨m, hmy⟩ : ∃ m : Nat, 600 + y = (m : Int) := ⟨(600 + y).toNat, by omega⟩
        have hgz := HINV.out.low
        have hb4 := HINV.out.box.grown hE.grown (by omega)
        have hr3 := HINV.out.res.grown hE.grown hne
        have HE3 : Hid (CurEnd w w3 c a len cap) := HINV.out.cur.trans hE
        have hlg : g4 < w3.heap.size := hb4.lt
        have HM : Hid (m ≤ 601) := by show _ ≤ _; omega
        have HL : Hid (∀ w, Calls Try.prog 56 #[.int .i64 (m : Int), .int .u8 200] w fun e w' => ∃ t : List UInt8, e = .returned (.string ⟨t.toArray⟩) ∧ t.length = m ∧ Below w.heap.size w w') := fun w => long_any m 200 (by omega) (by omega) (by omega) w
        clear hE HINV hV
        go_wp2_with fail
        refine (HL.out _).mono ?_
        rintro e w4 ⟨t, rfl, htl, hb⟩
        have hb5 := hb4.on hb hb4.lt
        have hr4 := hr3.on hb hr3.lt
        have HE4 : Hid (CurEnd w w4 c a len cap) := HE3.out.below hb
        have HT : Hid (t.length ≤ 601) := by have := HM.out; show _ ≤ _; omega
        clear hb hb4 hr3 HE3 htl
        go_wp2_with (first | (refine store_blkS (cs' := #[.bool false, .string ⟨t.toArray⟩, .slice none 0 0]) rfl rfl rfl rfl rfl hb5 infoIt rfl (onesIt _ _ _ _ _) ?_; intro V5 h5 hall5 hoth5 hbel5; have hc5 := HE4.out.store (g := g4) (by omega) hcw hoth5 hbel5; have hr5 := hoth5 _ _ _ (by omega) hr4; have z0 := h5.cell 0; have z1 := h5.cell 1; have z2 := h5.cell 2; clear hoth5 hbel5 hall5) | (refine store_blkS (cs' := #[.bool false, .string ⟨t.toArray⟩, .slice none 0 0]) rfl rfl rfl rfl rfl hr5 infoIt rfl (onesIt _ _ _ _ _) ?_; intro V9 h9 hall hoth hbel; have hc9 := hc5.store (g := w.heap.size) (Nat.le_refl _) hcw hoth hbel; clear hoth hbel))
        refine bodyPost_ret_by (result_blk rfl rfl h9 Try.underlying26 infoIt) rfl ⟨0, leafI ⟨t.toArray⟩, _, rfl, TO.nil0 _ _ _, (by show t.toArray.size ≤ 1000; have h1 := HT.out; simp; omega), (by rw [cnt_leaf]; omega), hc9⟩
      · have h2' : (k == 2) = false := by rw [beq_eq_false_iff_ne]; exact h2
        have hb4 := HINV.out.box
        have q0 := hb4.cell 0
        have q1 := hb4.cell 1
        have q2 := hb4.cell 2
        have hgz := HINV.out.low
        go_wp2_with (refine store_blkS (cs' := #[.bool (itL x), .string (itT x), .slice va (itK x).length vc]) rfl rfl rfl rfl rfl HINV.out.res infoIt rfl (onesIt _ _ _ _ _) ?_; intro V9 h9 hall hoth hbel; have hc9 := HINV.out.cur.store (g := w.heap.size) (Nat.le_refl _) hcw hoth hbel; have hb9 := hbel 0 _ (Nat.zero_le _) (Below.refl 0 _); clear hoth hbel)
        have hto9 := (HINV.out.kids.kept (w' := V9) (fun b hb => hall b (by have := hb.1; omega))).more (T := fun b => w.heap.size ≤ b ∧ b < V9.heap.size) (fun b hb => ⟨by have := hb.1; omega, by have := hb.2.1; have := hb9.size; omega⟩)
        refine bodyPost_ret_by (result_blk rfl rfl h9 Try.underlying26 infoIt) rfl ⟨3, x, _, rfl, hto9, (by have h1 := HINV.out.txt; omega), (by have h1 := HINV.out.cnt; omega), hc9⟩

end Go.Proofs.Ytmpjnabadplbjaa
