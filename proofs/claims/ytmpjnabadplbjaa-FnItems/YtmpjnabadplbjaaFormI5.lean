/-
  The walk of the program's itemOf.
  (-DROP-: what the seat lacks is left out.)
-/
import Derived.Test.YtmpjnabadplbjaaFormMem
import Derived.Test.YtmpjnabadplbjaaItemR3
import Derived.Test.YtmpjnabadplbjaaFormI3
import Derived.Test.YtmpjnabadplbjaaJoined28
import Derived.Test.YtmpjnabadplbjaaJoined35
import Derived.Test.YtmpjnabadplbjaaJoined35
namespace Go.Proofs.Ytmpjnabadplbjaa
open Go.RowKit

theorem asTT (v : Value) (w : World) : (Instr.typeAssert (.iface 92 v) 56 92 true).run Try.prog w = .ok (.tuple #[v, .bool true]) w := by kernel_rfl
theorem asLT (v : Value) (w : World) : (Instr.typeAssert (.iface 94 v) 56 92 true).run Try.prog w = .ok (.tuple #[.string ⟨#[]⟩, .bool false]) w := by kernel_rfl
theorem asLL (v : Value) (w : World) : (Instr.typeAssert (.iface 94 v) 56 94 true).run Try.prog w = .ok (.tuple #[v, .bool true]) w := by kernel_rfl

/-- What itemOf answers. -/
def ToEnd (d : Nat) (w : World) (x : It (d + 1)) (e : Ending) (w' : World) : Prop := Below w.heap.size w w' ∧ ∃ v, e = .returned (itV (itL x) (itT x) v) ∧ TO d (fun b => w.heap.size ≤ b ∧ b < w'.heap.size) w' v (itK x) ∧ (itT x).size ≤ 1000000

set_option maxHeartbeats 1600000 in
set_option maxRecDepth 100000 in
theorem iItem_leaf (t : ByteArray) (ht : t.size ≤ 1000000) (w : World) :
    Calls Try.prog 37 #[.iface 92 (.string t)] w fun e w' => e = .returned (itV false t (.slice none 0 0)) ∧ Below w.heap.size w w' := by
  obtain ⟨W, hW, hbW, hr⟩ := box1 w 26 #[.bool false, .string ⟨#[]⟩, .slice none 0 0]
  have HCl : Hid (∀ wz, Calls Try.prog 35 #[.string t] wz fun e w' => e = .returned (.string t) ∧ Below wz.heap.size wz w') := fun wz => clone_any t wz (by omega)
  have as1 : ∀ w, (Instr.typeAssert (.iface 92 (.string t)) 56 92 true).run Try.prog w = .ok (.tuple #[.string t, .bool true]) w := asTT _
  go_enter Try.func37, Try.ntmps37
  go_wp2_with (refine store_blk (cs' := #[.bool false, .string ⟨#[]⟩, .slice none 0 0]) rfl rfl rfl rfl rfl (Blk.new _ _ _) infoIt rfl (onesIt _ _ _ _ _) ?_; intro V h5 hoth hbel; have hrV := hoth _ _ _ (by have := hr.lt; omega) (hr.alloc _); have hbV := hbel _ _ (by have := hr.lt; omega) (hbW.alloc hbW.size _); clear hoth hbel)
  refine (HCl.out _).mono ?_
  rintro e w2 ⟨rfl, hb2⟩
  have hr2 := hrV.on hb2 hrV.lt
  have h52 := h5.on hb2 h5.lt
  have hB2 := below_then hbV hb2
  have hlt := hr.lt
  have q1 := h52.cell 1
  have f1 := h52.free 1
  have hZ := h52.set 1 (.string t)
  have z0 := hZ.cell 0
  have z1 := hZ.cell 1
  have z2 := hZ.cell 2
  have hrZ := hr2.other (g' := W.heap.size) (i := 1) (by omega) (.string t)
  have hBZ := hB2.setCell (p := ⟨W.heap.size, 1, none⟩) (by show w.heap.size ≤ W.heap.size; omega) (.string t)
  clear hW hrV h5 hbV hb2 hB2 hr hbW HCl
  go_wp2_with (refine store_blk (cs' := #[.bool false, .string t, .slice none 0 0]) rfl rfl rfl rfl rfl hrZ infoIt rfl (onesIt _ _ _ _ _) ?_; intro V3 h6 hoth hbel; have hbV3 := hbel _ _ (Nat.le_refl _) hBZ; clear hoth hbel)
  refine bodyPost_ret_by (result_blk rfl rfl h6 Try.underlying26 infoIt) rfl ⟨rfl, hbV3⟩

/-- What stands at the loop's head. -/
structure ToInv (d : Nat) (w : World) (gX : Nat) (K : List (It (d + 1))) (k : Nat) (v : Value) (vs : List Value) (F : Nat → Nat → Prop) (wr : World) : Prop where
  bel : Below w.heap.size w wr
  res : Blk wr w.heap.size 26 #[.bool false, .string ⟨#[]⟩, .slice none 0 0]
  box : Blk wr gX 26 #[.bool true, .string ⟨#[]⟩, v]
  own : TGr d (gX + 1) wr.heap.size wr v (K.take k) vs F
  low : w.heap.size < gX

set_option maxHeartbeats 3200000 in
set_option maxRecDepth 100000 in
theorem iItem_list (d : Nat) (a : Option Addr) (cp : Nat) (K : List (It (d + 1))) (hn : K.length ≤ 1000000) (w : World)
    (hK : ∀ (j : Nat) (hj : j < K.length), ∃ b off T u, a = some ⟨b, off, none⟩ ∧ b < w.heap.size ∧ w.cell? ⟨b, off + j, none⟩ = some (.iface T u) ∧ ∀ w', Below w.heap.size w w' → Calls Try.prog 37 #[.iface T u] w' (ToEnd d w' K[j])) :
    Calls Try.prog 37 #[.iface 94 (.slice a K.length cp)] w fun e w' => Below w.heap.size w w' ∧ ∃ v, e = .returned (itV true ⟨#[]⟩ v) ∧ TO (d + 1) (fun b => w.heap.size ≤ b ∧ b < w'.heap.size) w' v K := by
  obtain ⟨W, hW, hbW, hr⟩ := box1 w 26 #[.bool false, .string ⟨#[]⟩, .slice none 0 0]
  have HK : Hid (∀ (j : Nat) (hj : j < K.length), ∃ b off T u, a = some ⟨b, off, none⟩ ∧ b < w.heap.size ∧ w.cell? ⟨b, off + j, none⟩ = some (.iface T u) ∧ ∀ w', Below w.heap.size w w' → Calls Try.prog 37 #[.iface T u] w' (ToEnd d w' K[j])) := hK
  have as1 : ∀ w, (Instr.typeAssert (.iface 94 (.slice a K.length cp)) 56 92 true).run Try.prog w = .ok (.tuple #[.string ⟨#[]⟩, .bool false]) w := asLT _
  have as2 : ∀ w, (Instr.typeAssert (.iface 94 (.slice a K.length cp)) 56 94 true).run Try.prog w = .ok (.tuple #[.slice a K.length cp, .bool true]) w := asLL _
  have HN : Hid (K.length ≤ 1000000) := hn
  clear hK hn
  have hlt := hr.lt
  go_enter Try.func37, Try.ntmps37
  go_wp2_with (refine store_blk (cs' := #[.bool false, .string ⟨#[]⟩, .slice none 0 0]) rfl rfl rfl rfl rfl (Blk.new _ _ _) infoIt rfl (onesIt _ _ _ _ _) ?_; intro V h5 hoth hbel; have hrV := hoth _ _ _ (by omega) (hr.alloc _); have hbV := hbel _ _ (by omega) (hbW.alloc hbW.size _); clear hoth hbel; have c0 := h5.cell 0; have f0 := h5.free 0)
  obtain ⟨i9, hi9, hz0, hz1, hz2⟩ := info_parts infoItz
  have hZ : Blk (V.setCell ⟨W.heap.size, 0, none⟩ (.bool true)) W.heap.size 26 #[.bool true, .string ⟨#[]⟩, .slice none 0 0] := h5.set 0 (.bool true)
  have hBZ := hbV.setCell (p := ⟨W.heap.size, 0, none⟩) (by show w.heap.size ≤ W.heap.size; omega) (.bool true)
  have H0 : Hid (ToInv d w W.heap.size K 0 (.slice none 0 0) [] (fun _ _ => False) (V.setCell ⟨W.heap.size, 0, none⟩ (.bool true))) := ⟨hBZ, hrV.other (by omega) _, hZ, TGr.start _ _ _ _, hlt⟩
  clear hW hrV h5 hbV hr hbW as1 as2 hZ hBZ c0 f0
  generalize V.setCell ⟨W.heap.size, 0, none⟩ (.bool true) = V0 at H0 ⊢
  generalize W.heap.size = gX at H0 ⊢
  go_loopw [22] (fun i wr => ∃ (k : Nat) (v : Value) (vs : List Value) (F : Nat → Nat → Prop), i = .int .i64 (k : Int) ∧ k ≤ K.length ∧ Hid (ToInv d w gX K k v vs F wr)) (fun i _ => K.length - (intOf i).toNat)
  case atStart => exact ⟨0, _, [], _, rfl, Nat.zero_le _, H0⟩
  case round =>
    obtain ⟨k, v, vs, F, rfl, hk, HI⟩ := hrel
    clear H0
    have hK6 : K.length ≤ 1000000 := HN.out
    by_cases hlt : k < K.length
    · have hlt' : (k : Int) < (K.length : Int) := by omega
      have hk0 : (0 : Int) ≤ (k : Int) := by omega
      obtain ⟨b, off, T, u, rfl, hb, hc, hCk⟩ := HK.out k hlt
      obtain ⟨x, hx⟩ : ∃ x, K[k] = x := ⟨_, rfl⟩
      rw [hx] at hCk
      have HT : Hid (K.take (k + 1) = K.take k ++ [x]) := by show _ = _; rw [List.take_succ_eq_append_getElem hlt, hx]
      have HHl : Hid ((K.take k).length = k) := by show _ = _; rw [List.length_take]; omega
      have HC : Hid (∀ w', Below w.heap.size w w' → Calls Try.prog 37 #[.iface T u] w' (ToEnd d w' x)) := hCk
      have hcr : wr.cell? ⟨b, off + k, none⟩ = some (.iface T u) := (HI.out.bel.cell (p := ⟨b, off + k, none⟩) hb).trans hc
      clear hCk hx hc
      go_wp2_with fail
      refine wp_region_last [(0, false), (1, false), (2, false), (3, true), (4, true), (5, true), (6, false)] 7 (fun wz => Below w.heap.size w wz ∧ Blk wz gX 26 #[.bool true, .string ⟨#[]⟩, v]) mixes (by kernel_rfl) ⟨HI.out.bel.drew, HI.out.box.drew⟩ ?_
      repeat (refine ord_float rfl rfl (fun K hK => ⟨_, (fun w' hw => by have q0 := hw.2.cell 2; go_simp; exact rfl), ?_⟩); go_simp; refine hK _ ?_; clear hK K)
      refine ord_call rfl rfl (fun J hJ => ⟨_, _, (by go_simp <;> first | exact rfl | exact ⟨rfl, rfl⟩), ?_⟩)
      refine (HC.out _ HI.out.bel.drew).mono ?_
      rintro e w5 ⟨hb5, v', rfl, hto, htx⟩
      obtain ⟨a', cp', rfl⟩ := hto.slice
      have hW5 : Below wr.heap.size wr w5 := ⟨hb5.os, hb5.tape, hb5.output, hb5.size, hb5.block⟩
      have HD5 : Hid (Below w.heap.size w w5 ∧ Blk w5 gX 26 #[.bool true, .string ⟨#[]⟩, v] ∧ Blk w5 w.heap.size 26 #[.bool false, .string ⟨#[]⟩, .slice none 0 0]) := ⟨below_then HI.out.bel hW5, HI.out.box.on hW5 HI.out.box.lt, HI.out.res.on hW5 HI.out.res.lt⟩
      have HTO : Hid (TO d (fun b => wr.heap.size ≤ b ∧ b < w5.heap.size) w5 (.slice a' (itK x).length cp') (itK x) ∧ (itT x).size ≤ 1000000) := ⟨hto, htx⟩
      have HO5 : Hid (TGr d (gX + 1) wr.heap.size w5 v (K.take k) vs F) := HI.out.own.same (Same.of_below hW5 (Nat.le_refl _)) (Nat.le_refl _)
      have HS5 : Hid (wr.heap.size ≤ w5.heap.size ∧ gX < wr.heap.size ∧ w.heap.size < gX) := ⟨hb5.size, HI.out.box.lt, HI.out.low⟩
      have hown5 := HO5.out.row
      rw [HHl.out] at hown5
      have hsz5 : gX + 1 ≤ w5.heap.size := by have := HS5.out; omega
      have hm63 : k + 1 ≤ maxLen := by unfold maxLen; have := HN.out; omega
      have hm47 : (k + 1) * 48 ≤ 140737488355328 := by have := HN.out; omega
      clear hb5 hto htx HI hcr hW5 HC
      unfold itV
      refine ⟨_, rfl, ⟨HD5.out.1, HD5.out.2.1⟩, ?_⟩
      go_simp
      refine hJ _ _ ?_
      clear hJ J
      refine ord_op rfl rfl (fun K hK => ⟨.slice (some ⟨w5.heap.size, 0, none⟩) 1 1, w5.alloc (.cells #[.bool (itL x), .string (itT x), .slice a' (itK x).length cp'] 26), (by go_simp <;> rfl), ⟨HD5.out.1.alloc HD5.out.1.size _, HD5.out.2.1.alloc _⟩, ?_⟩)
      go_simp
      refine hK _ _ ?_
      clear hK K
      refine ord_append rfl rfl _ _ 24 rfl (gX + 1) 26 i9 (.agg #[.bool false, .string ⟨#[]⟩, .slice none 0 0]) 3 48 Try.underlying24 hi9 hz0 hz1 hz2 rfl (by decide) _ _ _ rfl (hown5.alloc _) ⟨w5.heap.size, 0, none⟩ 1 1 [.bool (itL x), .string (itT x), .slice a' (itK x).length cp'] rfl rfl (cell_three_any _ _ _ _ _) (three_cellI _ _ _ _ _) hm63 hm47 (room_for hsz5 _) ?_
      intro v7 w7 hown' hgrow hat
      obtain ⟨a7, cp7, rfl⟩ := row_slice hown'
      have hAb : Below w5.heap.size w5 (w5.alloc (.cells #[.bool (itL x), .string (itT x), .slice a' (itK x).length cp'] 26)) := (Below.refl _ _).alloc (Nat.le_refl _) _
      have hAs : (w5.alloc (.cells #[.bool (itL x), .string (itT x), .slice a' (itK x).length cp'] 26)).heap.size = w5.heap.size + 1 := by simp
      obtain ⟨F7, own7⟩ := TGr.app (hi' := w7.heap.size) (HO5.out.same (Same.of_below hAb HS5.out.1) (Nat.le_refl _)) (by rw [HHl.out]; exact hown') hgrow hat ((HTO.out.1.kept (fun b hb => hAb.block b hb.2)).more (fun b hb => ⟨hb.1, by have := hb.2; omega⟩)) HTO.out.2 (by have := HS5.out; omega) (by have := HS5.out; omega) hgrow.size (fun k hk => (hown'.lt k hk).2)
      have hown7 : ∀ k, v.ownBlock = some k → gX < k := fun k hk => (hown5.lt k hk).1
      have HD7 : Hid (Below w.heap.size w w7 ∧ Blk w7 gX 26 #[.bool true, .string ⟨#[]⟩, v] ∧ Blk w7 w.heap.size 26 #[.bool false, .string ⟨#[]⟩, .slice none 0 0]) := ⟨(HD5.out.1.alloc (by have := HD5.out.1.size; omega) _).grown hgrow (by have := HD5.out.1.size; simp; omega) (fun k hk => by have := hown7 k hk; have := HS5.out; omega), (hgrow.block gX (HD5.out.2.1.alloc _).lt (fun e => by have := hown7 _ e.symm; omega)).trans (HD5.out.2.1.alloc _), (hgrow.block w.heap.size (HD5.out.2.2.alloc _).lt (fun e => by have := hown7 _ e.symm; have := HS5.out; omega)).trans (HD5.out.2.2.alloc _)⟩
      have HO7 : Hid (TGr d (gX + 1) w7.heap.size w7 (.slice a7 (k + 1) cp7) (_ ++ [x]) (vs ++ cells3 (itL x) (itT x) (.slice a' (itK x).length cp')) F7) := own7
      rw [← HT.out] at HO7
      clear hown' hgrow hat own7 hAb hAs hown5 hown7 HO5 HD5 HTO hsz5 hm63 hm47
      refine ⟨⟨HD7.out.1, HD7.out.2.1⟩, fun K hK => ?_⟩
      go_simp
      refine hK _ ?_
      clear hK K
      repeat (refine ord_float rfl rfl (fun K hK => ⟨_, (fun w' hw => by have q0 := hw.2.cell 2; go_simp; exact rfl), ?_⟩); go_simp; refine hK _ ?_; clear hK K)
      refine ord_nil ?_
      have q0 := HD7.out.2.1.cell 2
      have q1 := HD7.out.2.1.free 2
      refine last_store rfl rfl rfl (w7.setCell ⟨gX, 2, none⟩ (.slice a7 (k + 1) cp7)) (by go_simp <;> rfl) ?_
      have hZ : Blk (w7.setCell ⟨gX, 2, none⟩ (.slice a7 (k + 1) cp7)) gX 26 #[.bool true, .string ⟨#[]⟩, .slice a7 (k + 1) cp7] := HD7.out.2.1.set 2 _
      have HI8 : Hid (ToInv d w gX K (k + 1) (.slice a7 (k + 1) cp7) (vs ++ cells3 (itL x) (itT x) (.slice a' (itK x).length cp')) F7 (w7.setCell ⟨gX, 2, none⟩ (.slice a7 (k + 1) cp7))) := ⟨HD7.out.1.setCell (by show w.heap.size ≤ gX; have := HS5.out; omega) _, HD7.out.2.2.other (by have := HS5.out; omega) _, hZ, HO7.out.same (Same.set _ _ _ (.inl (Nat.lt_succ_self gX))) (by simp), HS5.out.2.2⟩
      generalize w7.setCell ⟨gX, 2, none⟩ (.slice a7 (k + 1) cp7) = w8 at HI8 ⊢
      clear HD7 HO7 q0 q1 hZ HS5
      go_wp2
      go_roundw
      case rel => exact ⟨k + 1, _, _, _, by go_num, hlt, HI8⟩
      case measure => simp [intOf]; omega
    · obtain rfl : k = K.length := by omega
      have hlt' : ¬ (K.length : Int) < (K.length : Int) := by omega
      have hown := HI.out.own
      rw [List.take_of_length_le (Nat.le_refl _)] at hown
      obtain ⟨a7, cp7, rfl⟩ := row_slice hown.row
      have hx := HI.out.box
      have q0 := hx.cell 0
      have q1 := hx.cell 1
      have q2 := hx.cell 2
      have hr := HI.out.res
      have hB0 := HI.out.bel
      have hgw := HI.out.low
      go_wp2_with (refine store_blkS (cs' := #[.bool true, .string ⟨#[]⟩, .slice a7 K.length cp7]) rfl rfl rfl rfl rfl hr infoIt rfl (onesIt _ _ _ _ _) ?_; intro V h5 hall hoth hbel; have hbV := hbel _ _ (Nat.le_refl _) hB0; have hbV2 := hbel w.heap.size wr (Nat.le_refl _) (Below.refl _ _); clear hoth hbel)
      have hin := ((hown.to HN.out).kept (w' := V) (fun b hb => hall b (by have := hb.1; omega)))
      refine bodyPost_ret_by (result_blk rfl rfl h5 Try.underlying26 infoIt) rfl ⟨hbV, _, rfl, hin.more fun b hb => ⟨by have := hb.1; omega, by have := hb.2; have := hbV2.size; omega⟩⟩

theorem iItemOf_any : ∀ (d : Nat) (x : It (d + 1)) (f : Value) (w : World), FIn (fun b => b < w.heap.size) (d + 1) w f x → Calls Try.prog 37 #[f] w (ToEnd d w x)
  | d, x, f, w, h => by
    cases hl : itL x
    · obtain ⟨h1, h2, rfl⟩ := h.text hl
      refine (iItem_leaf (itT x) h2 w).mono ?_
      rintro e w' ⟨rfl, hb⟩
      refine ⟨hb, _, by rw [hl], ?_, h2⟩
      rw [h1]
      exact TO.nil0 _ _ _
    · obtain ⟨h1, h2, v, rfl, a, cp, rfl, h4⟩ := h.list hl
      cases d with
      | zero =>
        have h0 := no_kids (itK x)
        have h5 := iItem_list 0 a cp [] (Nat.zero_le _) w (fun j hj => absurd hj (Nat.not_lt_zero _))
        rw [h0]
        refine h5.mono ?_
        rintro e w' ⟨hb, v, rfl, hto⟩
        refine ⟨hb, v, by rw [hl, h1], ?_, by rw [h1]; exact Nat.zero_le _⟩
        rw [h0]
        exact hto.slice
      | succ d =>
        refine (iItem_list d a cp (itK x) h2 w fun j hj => ?_).mono ?_
        · obtain ⟨b, off, u, h6, h7, h8, h9⟩ := h4 j hj
          obtain ⟨T, u, rfl⟩ := h9.shape
          exact ⟨b, off, T, u, h6, h7, h8, fun w' hb => iItemOf_any d _ _ w' ((h9.kept (w' := w') fun b hb2 => hb.block b hb2).more fun b hb2 => by have := hb.size; omega)⟩
        · rintro e w' ⟨hb, v, rfl, hto⟩
          exact ⟨hb, v, by rw [hl, h1], hto, by rw [h1]; exact Nat.zero_le _⟩

end Go.Proofs.Ytmpjnabadplbjaa
