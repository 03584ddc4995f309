/-
  The walks of the program's heads: the root, the text that is signed.
  (-DROP-: what the seat lacks is left out.)
-/
import Derived.Test.YtlaoikpbgbckjaaDoorHeadI3
import Derived.Test.YtlaoikpbgbckjaaDoorHeadS3
namespace Go.Proofs.YtlaoikpbgbckjaaDoor
open Go.RowKit

set_option maxHeartbeats 800000 in
set_option maxRecDepth 100000 in
theorem iHeadRoot_any (h : Hd) (w : World) (hT : Tab w) :
    Calls Tryd.prog 13 #[hv h] w fun e w' => e = .returned (.string (hRootT h)) ∧ Below w.heap.size w w' := by
  have HTB : Hid (∀ w', Below w.heap.size w w' → Tab w') := fun w' hb => hT.on hb hT.1
  clear hT
  have HS : Hid (∀ w, Calls Tryd.prog 25 #[hv h] w fun e w' => e = .returned (hv h) ∧ Below w.heap.size w w') := slotted_any h
  have HR : Hid (∀ w, Calls Tryd.prog 26 #[hv h] w fun e w' => e = .returned (.bool (hOkB h)) ∧ Below w.heap.size w w') := right_any h
  unfold hRootT
  cases hk : hOkB h
  · rw [hk] at HR
    simp only [Bool.false_eq_true, if_false]
    obtain ⟨s, p, t, b⟩ := h
    clear hk
    unfold hv hc at HS HR ⊢
    simp only at HS HR ⊢
    obtain ⟨W, hW, hb, hx⟩ := box1 w 25 #[.int .i64 s, .string p, .string t, .string b]
    go_enter Tryd.func13, Tryd.ntmps13
    go_wp2_with (refine load_blk rfl rfl rfl hx Tryd.underlying25 infoH ?_)
    clear hW
    refine (HS.out _).mono ?_
    rintro e w1 ⟨rfl, hb1⟩
    have hB := below_then hb hb1
    clear hb hb1 hx
    go_wp2_with fail
    obtain ⟨V, hV, hbV, hxV⟩ := box1 w1 50 #[.int .i64 s, .string p, .string t, .string b]
    rw [hV]
    have hB2 := below_then hB hbV
    clear hV hB hbV
    refine (HR.out _).mono ?_
    rintro e w3 ⟨rfl, hb3⟩
    have hB3 := below_then hB2 hb3
    clear hB2 hb3 hxV
    go_wp2
    go_ret
    exact ⟨rfl, hB3⟩
  · rw [hk] at HR
    simp only [if_true]
    obtain ⟨⟨s0, s1⟩, hp, ht, hbb⟩ := hok_iff.1 hk
    obtain ⟨s, p, t, b⟩ := h
    simp only at s0 s1 hp ht hbb
    obtain ⟨n, rfl⟩ : ∃ n : Nat, s = (n : Int) := ⟨s.toNat, by omega⟩
    have HL : Hid (∀ w, Calls Tryd.prog 28 #[hv ((n : Int), p, t, b)] w fun e w' => ∃ v, e = .returned v ∧ w'.ownsRow w.heap.size 9 1 v 4 [.string (vT (n : Int)), .string p, .string t, .string b] ∧ Below w.heap.size w w') := leaves_any n (by omega) p t b
    have hvs : (vT (n : Int)).size ≤ 5 := by rw [vT_size]; exact varB_five (by omega)
    have HRC : Hid (∀ B w' v, Tab w' → RowS B w' v [vT (n : Int), p, t, b] → Calls Tryd.prog 36 #[v] w' fun e w'' => e = .returned (.string (rootT digT [vT (n : Int), p, t, b])) ∧ Below w'.heap.size w' w'') := fun B w' v hT h => iRoot_row h (by simp) (fun j hj => by
      have hj4 : j < 4 := hj
      rcases (show j = 0 ∨ j = 1 ∨ j = 2 ∨ j = 3 by omega) with rfl | rfl | rfl | rfl
      · show (vT (n : Int)).size ≤ _; omega
      · show p.size ≤ _; omega
      · show t.size ≤ _; omega
      · show b.size ≤ _; omega) hT
    clear hk hp ht hbb hvs
    unfold hv hc at HS HR HL ⊢
    simp only at HS HR HL ⊢
    generalize rootT digT [vT (n : Int), p, t, b] = RT at HRC ⊢
    generalize vT (n : Int) = v at HL HRC
    obtain ⟨W, hW, hb, hx⟩ := box1 w 25 #[.int .i64 (n : Int), .string p, .string t, .string b]
    go_enter Tryd.func13, Tryd.ntmps13
    go_wp2_with (refine load_blk rfl rfl rfl hx Tryd.underlying25 infoH ?_)
    clear hW
    refine (HS.out _).mono ?_
    rintro e w1 ⟨rfl, hb1⟩
    have hB := below_then hb hb1
    clear hb hb1 hx
    go_wp2_with fail
    obtain ⟨V, hV, hbV, hxV⟩ := box1 w1 50 #[.int .i64 (n : Int), .string p, .string t, .string b]
    rw [hV]
    have hB2 := below_then hB hbV
    clear hV hB hbV
    refine (HR.out _).mono ?_
    rintro e w3 ⟨rfl, hb3⟩
    have hB3 := below_then hB2 hb3
    have hx3 := hxV.on hb3 hxV.lt
    clear hB2 hb3 hxV
    go_wp2_with (refine load_blk rfl rfl rfl hx3 Tryd.underlying50 infoHS ?_)
    refine (HL.out _).mono ?_
    rintro e w4 ⟨z, rfl, hown, hb4⟩
    have hB4 := below_then hB3 hb4
    have HRW : Hid (Calls Tryd.prog 36 #[z] w4 fun e w'' => e = .returned (.string RT) ∧ Below w4.heap.size w4 w'') := HRC.out w3.heap.size w4 z (HTB.out _ hB4) hown
    clear hB3 hb4 hx3 hown
    go_wp2_with fail
    refine HRW.out.mono ?_
    rintro e w5 ⟨rfl, hb5⟩
    have hB5 := below_then hB4 hb5
    clear hB4 hb5
    go_wp2
    go_ret
    exact ⟨rfl, hB5⟩

set_option maxHeartbeats 1600000 in
set_option maxRecDepth 100000 in
theorem iSigText_any (h : Hd) (d : Int) (w : World) (hT : Tab w) :
    Calls Tryd.prog 19 #[hv h, .int .i64 d] w fun e w' => e = .returned (.string (sigT h d)) ∧ Below w.heap.size w w' := by
  have HTB : Hid (∀ w', Below w.heap.size w w' → Tab w') := fun w' hb => hT.on hb hT.1
  clear hT
  have HO : Hid (∀ w, Calls Tryd.prog 17 #[hv h] w fun e w' => e = .returned (.bool (hOkB h)) ∧ Below w.heap.size w w') := iHeadOk_any h
  have HRT : Hid (∀ w, Tab w → Calls Tryd.prog 13 #[hv h] w fun e w' => e = .returned (.string (hRootT h)) ∧ Below w.heap.size w w') := iHeadRoot_any h
  have hrz := hroot_size h
  unfold sigT
  generalize hRootT h = RT at HRT hrz ⊢
  generalize hOkB h = q at HO ⊢
  obtain ⟨s, p, t, b⟩ := h
  unfold hv hc at HO HRT ⊢
  simp only at HO HRT ⊢
  obtain ⟨W, hW, hb, hx⟩ := box1 w 25 #[.int .i64 s, .string p, .string t, .string b]
  have q0 := hx.cell 0
  have q1 := hx.cell 1
  have q2 := hx.cell 2
  have q3 := hx.cell 3
  by_cases hd0 : d < 0
  · rw [if_neg (fun e => by have := e.2.1; omega)]
    go_enter Tryd.func19, Tryd.ntmps19
    go_wp2
    go_ret
    exact ⟨rfl, hb⟩
  by_cases hd1 : 255 < d
  · rw [if_neg (fun e => by have := e.2.2; omega)]
    go_enter Tryd.func19, Tryd.ntmps19
    go_wp2
    go_ret
    exact ⟨rfl, hb⟩
  cases q
  · rw [if_neg (by simp)]
    go_enter Tryd.func19, Tryd.ntmps19
    go_wp2_with fail
    clear hW q0 q1 q2 q3
    refine (HO.out _).mono ?_
    rintro e w1 ⟨rfl, hb1⟩
    have hB := below_then hb hb1
    clear hb hb1 hx
    go_wp2
    go_ret
    exact ⟨rfl, hB⟩
  · rw [if_pos ⟨rfl, by omega, by omega⟩]
    obtain ⟨c, hc⟩ : ∃ c, c = UInt8.ofNat d.toNat := ⟨_, rfl⟩
    have HCZ : Hid (d = (c.toNat : Int)) := by show d = (c.toNat : Int); rw [hc]; simp; omega
    rw [← hc]
    have hw8 : IntKind.u8.wrap d = d := IntWalk.u8_in _ (by omega)
    have hcs : (⟨#[c]⟩ : ByteArray).size = 1 := rfl
    have hn1 : ¬ 9223372036854775807 < (⟨#[c]⟩ : ByteArray).size + RT.size := by omega
    clear hc
    go_enter Tryd.func19, Tryd.ntmps19
    go_wp2_with fail
    clear hW q0 q1 q2 q3
    refine (HO.out _).mono ?_
    rintro e w1 ⟨rfl, hb1⟩
    have hB := below_then hb hb1
    have hx1 := hx.on hb1 hx.lt
    have HR : Hid (∀ w', Below w1.heap.size w1 w' → Calls Tryd.prog 13 #[.agg #[.int .i64 s, .string p, .string t, .string b]] w' fun e w'' => e = .returned (.string RT) ∧ Below w'.heap.size w' w'') := fun w' h => HRT.out w' (HTB.out _ (below_then hB h))
    clear hb hb1 hx HO HRT
    go_wp2_with fail
    refine wp_region_to [(0, false), (1, false), (4, false)] 5 #[true, true, false, false, true, false, false, false] (fun wz => Below w1.heap.size w1 wz) mixes (by kernel_rfl) (Below.refl _ _).drew ?_
    repeat (refine ord_float rfl rfl (fun K hK => ⟨_, (fun w' hw => by have q0 := (hx1.on hw hx1.lt).cell 0; have q1 :=  (hx1.on hw hx1.lt).cell 1; have q2 :=  (hx1.on hw hx1.lt).cell 2; have q3 :=  (hx1.on hw hx1.lt).cell 3; go_simp; exact rfl), ?_⟩); go_simp; refine hK _ ?_; clear hK K)
    refine ord_nil ?_
    have hP0 : Below w1.heap.size w1 w1.drew := (Below.refl _ _).drew
    generalize w1.drew = W7 at hP0 ⊢
    generalize hcb : (⟨#[c]⟩ : ByteArray) = cb at hn1 hcs ⊢
    apply anyH_fork3 (n := 2) (i := 2) (i' := 3) (j := 5) (G := fun _ _ w' => Below w1.heap.size w1 w') (L3 := #[true, true, true, true, true, true, false, false])
    · kernel_rfl
    · refine ord_op rfl rfl (fun K hK => ⟨.slice (some ⟨W7.heap.size, 0, none⟩) 1 1, W7.alloc (.cells #[.int .u8 d] 5), (by go_simp <;> rfl), hP0.alloc hP0.size _, ?_⟩)
      go_simp
      refine hK _ _ ?_
      clear hK K
      obtain ⟨X1, hE1, hbX, k1⟩ := box1 W7 5 #[.int .u8 d]
      rw [hE1]
      have hB8 := below_then hP0 hbX
      clear hE1 hbX
      refine ord_nil ⟨hB8, ?_, ?_⟩
      · have hcv := conv_blk HCZ.out k1
        rw [hcb] at hcv
        refine ord_op rfl rfl (fun K hK => ⟨.string cb, X1, (by go_simp <;> rfl), hB8, ?_⟩)
        go_simp
        refine hK _ _ ?_
        clear hK K hcv
        refine ord_call rfl rfl (fun K hK => ⟨_, _, (by go_simp <;> first | exact rfl | exact ⟨rfl, rfl⟩), ?_⟩)
        refine (HR.out _ (by assumption)).mono ?_
        rintro e w8 ⟨rfl, hb8⟩
        have hB9 := below_then hB8 hb8
        refine ⟨_, rfl, hB9, ?_⟩
        go_simp
        refine hK _ _ ?_
        clear hK K hb8
        generalize W7.heap.size = g1
        obtain ⟨g2, _⟩ : ∃ g2 : Nat, g2 = 0 := ⟨_, rfl⟩
        exact ord_nil ⟨g1, g2, rfl, hB9⟩
      · refine ord_call rfl rfl (fun K hK => ⟨_, _, (by go_simp <;> first | exact rfl | exact ⟨rfl, rfl⟩), ?_⟩)
        refine (HR.out _ (by assumption)).mono ?_
        rintro e w8 ⟨rfl, hb8⟩
        have hB9 := below_then hB8 hb8
        have hcv := conv_blk HCZ.out (k1.on hb8 k1.lt)
        rw [hcb] at hcv
        refine ⟨_, rfl, hB9, ?_⟩
        go_simp
        refine hK _ _ ?_
        clear hK K hb8
        refine ord_op rfl rfl (fun K hK => ⟨.string cb, w8, (by go_simp <;> rfl), hB9, ?_⟩)
        go_simp
        refine hK _ _ ?_
        clear hK K hcv
        generalize W7.heap.size = g1
        obtain ⟨g2, _⟩ : ∃ g2 : Nat, g2 = 0 := ⟨_, rfl⟩
        exact ord_nil ⟨g1, g2, rfl, hB9⟩
    · refine ord_call rfl rfl (fun K hK => ⟨_, _, (by go_simp <;> first | exact rfl | exact ⟨rfl, rfl⟩), ?_⟩)
      refine (HR.out _ (by assumption)).mono ?_
      rintro e w8 ⟨rfl, hb8⟩
      have hB8 := below_then hP0 hb8
      refine ⟨_, rfl, hB8, ?_⟩
      go_simp
      refine hK _ _ ?_
      clear hK K hb8
      refine ord_op rfl rfl (fun K hK => ⟨.slice (some ⟨w8.heap.size, 0, none⟩) 1 1, w8.alloc (.cells #[.int .u8 d] 5), (by go_simp <;> rfl), hB8.alloc hB8.size _, ?_⟩)
      go_simp
      refine hK _ _ ?_
      clear hK K
      obtain ⟨X1, hE1, hbX, k1⟩ := box1 w8 5 #[.int .u8 d]
      rw [hE1]
      have hB9 := below_then hB8 hbX
      clear hE1 hbX
      have hcv := conv_blk HCZ.out k1
      rw [hcb] at hcv
      refine ord_op rfl rfl (fun K hK => ⟨.string cb, X1, (by go_simp <;> rfl), hB9, ?_⟩)
      go_simp
      refine hK _ _ ?_
      clear hK K hcv
      generalize w8.heap.size = g1
      obtain ⟨g2, _⟩ : ∃ g2 : Nat, g2 = 0 := ⟨_, rfl⟩
      exact ord_nil ⟨g1, g2, rfl, hB9⟩
    · intro g1 g2 w' hG
      refine anyH_ord [(6, true), (7, true)] (by kernel_rfl) hG ?_
      refine ord_op rfl rfl (fun K hK => ⟨.string (cb ++ RT), w', (by go_simp <;> first | rfl | omega), hG, ?_⟩)
      go_simp
      refine hK _ _ ?_
      clear hK K
      refine ord_op rfl rfl (fun K hK => ⟨.string (cb ++ RT), w', (by go_simp <;> rfl), hG, ?_⟩)
      go_simp
      refine hK _ _ ?_
      clear hK K
      refine ord_nil ?_
      have hB2 := below_then hB hG
      go_wp2
      go_ret
      exact ⟨by subst hcb; rfl, hB2⟩

end Go.Proofs.YtlaoikpbgbckjaaDoor
