/-
  The walk of the specification's text that is signed.
  (-DROP-: what the seat lacks is left out.)
-/
import Derived.Test.YtlaoikpbgbckjaaDoorJoined49
import Derived.Test.YtlaoikpbgbckjaaDoorJoined49
import Derived.Lib.ConvBytes
namespace Go.Proofs.YtlaoikpbgbckjaaDoor
open Go.RowKit

theorem conv_blk {w : World} {g : Nat} {b : UInt8} {z : Int} (hz : z = (b.toNat : Int)) (h : Blk w g 5 #[.int .u8 z]) : (convert 22 9 (.slice (some ⟨g, 0, none⟩) 1 1)).run Tryd.prog w = .ok (.string ⟨#[b]⟩) w := by
  have h := run_convert_bytes_back (P := Tryd.prog) w 22 9 5 ⟨g, 0, none⟩ 1 [b] Tryd.underlying22 Tryd.underlying5 Tryd.underlying9 (by
    intro j hj
    have : j = 0 := by simp at hj; omega
    subst this
    have hc := h.cell 0
    rw [show (⟨g, 0, none⟩ : Addr).add 0 = ⟨g, 0, none⟩ by unfold Addr.add; split <;> simp_all, hc, hz]
    rfl)
  simpa using h

theorem hroot_size (h : Hd) : (hRootT h).size ≤ 32 := by
  unfold hRootT
  split
  · rename_i hk
    have := root_size (l := [vT h.1, h.2.1, h.2.2.1, h.2.2.2]) (by simp) (by simp)
    omega
  · exact Nat.zero_le _

set_option maxHeartbeats 1600000 in
set_option maxRecDepth 100000 in
theorem sSigText_any (h : Hd) (d : Int) (w : World) :
    Calls Tryd.prog 20 #[hv h, .int .i64 d] w fun e w' => e = .returned (.string (sigT h d)) ∧ Below w.heap.size w w' := by
  have HO : Hid (∀ w, Calls Tryd.prog 16 #[hv h] w fun e w' => e = .returned (.bool (hOkB h)) ∧ Below w.heap.size w w') := sHeadOk_any h
  have HI : Hid (∀ w, Calls Tryd.prog 37 #[.int .i64 d, .int .i64 0, .int .i64 255] w fun e w' => e = .returned (.bool (decide (0 ≤ d ∧ d ≤ 255))) ∧ w = w') := sBetween_any d 0 255
  have HR : Hid (∀ w, Calls Tryd.prog 18 #[hv h] w fun e w' => e = .returned (.string (hRootT h)) ∧ Below w.heap.size w w') := sHeadRoot_any h
  have hrz := hroot_size h
  unfold sigT
  generalize hRootT h = RT at HR hrz ⊢
  generalize hOkB h = q at HO ⊢
  obtain ⟨s, p, t, b⟩ := h
  unfold hv hc at HO HR ⊢
  simp only at HO HR ⊢
  obtain ⟨W, hW, hb, hx⟩ := box1 w 25 #[.int .i64 s, .string p, .string t, .string b]
  cases q
  · rw [if_neg (by simp)]
    go_enter Tryd.func20, Tryd.ntmps20
    go_wp2_with (refine load_blk rfl rfl rfl hx Tryd.underlying25 infoH ?_)
    clear hW
    refine (HO.out _).mono ?_
    rintro e w1 ⟨rfl, hb1⟩
    have hB := below_then hb hb1
    clear hb hb1 hx
    go_wp2
    go_ret
    exact ⟨rfl, hB⟩
  · by_cases hd : 0 ≤ d ∧ d ≤ 255
    · rw [if_pos ⟨rfl, hd⟩]
      rw [decide_eq_true hd] at HI
      obtain ⟨c, hc⟩ : ∃ c, c = UInt8.ofNat d.toNat := ⟨_, rfl⟩
      have HCZ : Hid (d = (c.toNat : Int)) := by show d = (c.toNat : Int); rw [hc]; simp; omega
      rw [← hc]
      have hw8 : IntKind.u8.wrap d = d := IntWalk.u8_in _ (by omega)
      have hcs : (⟨#[c]⟩ : ByteArray).size = 1 := rfl
      have hn1 : ¬ 9223372036854775807 < (⟨#[c]⟩ : ByteArray).size + RT.size := by omega
      clear hc
      go_enter Tryd.func20, Tryd.ntmps20
      go_wp2_with (refine load_blk rfl rfl rfl hx Tryd.underlying25 infoH ?_)
      clear hW
      refine (HO.out _).mono ?_
      rintro e w1 ⟨rfl, hb1⟩
      have hB := below_then hb hb1
      have hx1 := hx.on hb1 hx.lt
      clear hb hb1 hx HO
      go_wp2_with fail
      refine (HI.out _).mono ?_
      rintro e w2 ⟨rfl, rfl⟩
      clear HI
      go_wp2_with fail
      refine wp_region_to [(0, false), (1, false), (4, false)] 5 #[true, true, false, false, true, false, false, false] (fun wz => Below w1.heap.size w1 wz) mixes (by kernel_rfl) (Below.refl _ _).drew ?_
      repeat (refine ord_float rfl rfl (fun K hK => ⟨_, (fun w' hw => by have q0 := (hx1.on hw hx1.lt).cell 0; have q1 :=  (hx1.on hw hx1.lt).cell 1; have q2 :=  (hx1.on hw hx1.lt).cell 2; have q3 :=  (hx1.on hw hx1.lt).cell 3; go_simp; exact rfl), ?_⟩); go_simp; refine hK _ ?_; clear hK K)
      refine ord_nil ?_
      have hP0 : Below w1.heap.size w1 w1.drew := (Below.refl _ _).drew
      generalize w1.drew = W7 at hP0 ⊢
      generalize hcb : (⟨#[c]⟩ : ByteArray) = cb at hn1 hcs ⊢
      apply anyH_fork3 (n := 2) (i := 2) (i' := 3) (j := 5) (G := fun _ _ w' => Below w1.heap.size w1 w') (L3 := #[true, true, true, true, true, true, false, false])
      · kernel_rfl
      · refine ord_op rfl rfl (fun K hK => ⟨.slice (some ⟨W7.heap.size, 0, none⟩) 1 1, W7.alloc (.cells #[.int .u8 d] 5), (by go_simp <;> rfl), hP0.alloc hP0.size _, ?_⟩)
        go_simp
        refine hK _ _ ?_
        clear hK K
        obtain ⟨X1, hE1, hbX, k1⟩ := box1 W7 5 #[.int .u8 d]
        rw [hE1]
        have hB8 := below_then hP0 hbX
        clear hE1 hbX
        refine ord_nil ⟨hB8, ?_, ?_⟩
        · have hcv := conv_blk HCZ.out k1
          rw [hcb] at hcv
          refine ord_op rfl rfl (fun K hK => ⟨.string cb, X1, (by go_simp <;> rfl), hB8, ?_⟩)
          go_simp
          refine hK _ _ ?_
          clear hK K hcv
          refine ord_call rfl rfl (fun K hK => ⟨_, _, (by go_simp <;> first | exact rfl | exact ⟨rfl, rfl⟩), ?_⟩)
          refine (HR.out _).mono ?_
          rintro e w8 ⟨rfl, hb8⟩
          have hB9 := below_then hB8 hb8
          refine ⟨_, rfl, hB9, ?_⟩
          go_simp
          refine hK _ _ ?_
          clear hK K hb8
          generalize W7.heap.size = g1
          obtain ⟨g2, _⟩ : ∃ g2 : Nat, g2 = 0 := ⟨_, rfl⟩
          exact ord_nil ⟨g1, g2, rfl, hB9⟩
        · refine ord_call rfl rfl (fun K hK => ⟨_, _, (by go_simp <;> first | exact rfl | exact ⟨rfl, rfl⟩), ?_⟩)
          refine (HR.out _).mono ?_
          rintro e w8 ⟨rfl, hb8⟩
          have hB9 := below_then hB8 hb8
          have hcv := conv_blk HCZ.out (k1.on hb8 k1.lt)
          rw [hcb] at hcv
          refine ⟨_, rfl, hB9, ?_⟩
          go_simp
          refine hK _ _ ?_
          clear hK K hb8
          refine ord_op rfl rfl (fun K hK => ⟨.string cb, w8, (by go_simp <;> rfl), hB9, ?_⟩)
          go_simp
          refine hK _ _ ?_
          clear hK K hcv
          generalize W7.heap.size = g1
          obtain ⟨g2, _⟩ : ∃ g2 : Nat, g2 = 0 := ⟨_, rfl⟩
          exact ord_nil ⟨g1, g2, rfl, hB9⟩
      · refine ord_call rfl rfl (fun K hK => ⟨_, _, (by go_simp <;> first | exact rfl | exact ⟨rfl, rfl⟩), ?_⟩)
        refine (HR.out _).mono ?_
        rintro e w8 ⟨rfl, hb8⟩
        have hB8 := below_then hP0 hb8
        refine ⟨_, rfl, hB8, ?_⟩
        go_simp
        refine hK _ _ ?_
        clear hK K hb8
        refine ord_op rfl rfl (fun K hK => ⟨.slice (some ⟨w8.heap.size, 0, none⟩) 1 1, w8.alloc (.cells #[.int .u8 d] 5), (by go_simp <;> rfl), hB8.alloc hB8.size _, ?_⟩)
        go_simp
        refine hK _ _ ?_
        clear hK K
        obtain ⟨X1, hE1, hbX, k1⟩ := box1 w8 5 #[.int .u8 d]
        rw [hE1]
        have hB9 := below_then hB8 hbX
        clear hE1 hbX
        have hcv := conv_blk HCZ.out k1
        rw [hcb] at hcv
        refine ord_op rfl rfl (fun K hK => ⟨.string cb, X1, (by go_simp <;> rfl), hB9, ?_⟩)
        go_simp
        refine hK _ _ ?_
        clear hK K hcv
        generalize w8.heap.size = g1
        obtain ⟨g2, _⟩ : ∃ g2 : Nat, g2 = 0 := ⟨_, rfl⟩
        exact ord_nil ⟨g1, g2, rfl, hB9⟩
      · intro g1 g2 w' hG
        refine anyH_ord [(6, true), (7, true)] (by kernel_rfl) hG ?_
        refine ord_op rfl rfl (fun K hK => ⟨.string (cb ++ RT), w', (by go_simp <;> first | rfl | omega), hG, ?_⟩)
        go_simp
        refine hK _ _ ?_
        clear hK K
        refine ord_op rfl rfl (fun K hK => ⟨.string (cb ++ RT), w', (by go_simp <;> rfl), hG, ?_⟩)
        go_simp
        refine hK _ _ ?_
        clear hK K
        refine ord_nil ?_
        have hB2 := below_then hB hG
        go_wp2
        go_ret
        exact ⟨by subst hcb; rfl, hB2⟩
    · rw [if_neg (fun e => hd e.2)]
      rw [decide_eq_false hd] at HI
      go_enter Tryd.func20, Tryd.ntmps20
      go_wp2_with (refine load_blk rfl rfl rfl hx Tryd.underlying25 infoH ?_)
      clear hW
      refine (HO.out _).mono ?_
      rintro e w1 ⟨rfl, hb1⟩
      have hB := below_then hb hb1
      clear hb hb1 hx
      go_wp2_with fail
      refine (HI.out _).mono ?_
      rintro e w2 ⟨rfl, rfl⟩
      go_wp2
      go_ret
      exact ⟨rfl, hB⟩

end Go.Proofs.YtlaoikpbgbckjaaDoor
