/-
  The walk of the specification's power two by two.
-/
import Derived.Test.YtldkdgbcnbgmiaaDoorJoined36
namespace Go.Proofs.YtldkdgbcnbgmiaaDoor
open Go.RowKit

set_option maxHeartbeats 800000 in
set_option maxRecDepth 100000 in
theorem sPow2_neg (x : Int × Int) (n : Int) (hn : n < 0) (w : World) :
    Calls Tryd.prog 48 #[tv x, .int .i64 n] w fun e w' => e = .returned (tv (0, 0)) ∧ Below w.heap.size w w' := by
  go_enter Tryd.func48, Tryd.ntmps48
  go_wp2
  refine bodyPost_ret_by (result_blk rfl rfl (Blk.newAt (by simp)) Tryd.underlying45 infoT) rfl ⟨rfl, ((Below.refl _ _).alloc (Nat.le_refl _) _).alloc (by simp) _⟩

set_option maxHeartbeats 1600000 in
set_option maxRecDepth 100000 in
theorem sPow2_nat (x : Int × Int) (n : Nat) (hn : n ≤ 9223372036854775807) (w : World) :
    Calls Tryd.prog 48 #[tv x, .int .i64 (n : Int)] w fun e w' => e = .returned (tv (fp2 (gp x n))) ∧ Below w.heap.size w w' := by
  have hn0 : ¬ (n : Int) < 0 := by omega
  obtain ⟨R, hR⟩ : ∃ R, R = fp2 (gp x n) := ⟨_, rfl⟩
  rw [← hR]
  have HR : Hid (R = fp2 (gp (fp2 x) n)) := by rw [fp2_gp]; exact hR
  have HA : Hid (∀ w, Calls Tryd.prog 15 #[.int .i64 x.1] w fun e w' => e = .returned (.int .i64 (fp2 x).1) ∧ w = w') := sOf_any x.1
  have HB : Hid (∀ w, Calls Tryd.prog 15 #[.int .i64 x.2] w fun e w' => e = .returned (.int .i64 (fp2 x).2) ∧ w = w') := sOf_any x.2
  have HF : Hid (In2 (fp2 x)) := in2_fp2 x
  clear hR
  generalize fp2 x = f at HR HA HB HF
  go_enter Tryd.func48, Tryd.ntmps48
  go_wp2
  obtain ⟨W, hW, hb, hx, h4, h5⟩ := boxes2r w 45 45 45 #[.int .i64 x.1, .int .i64 x.2] #[.int .i64 0, .int .i64 0] #[.int .i64 1, .int .i64 0]
  rw [hW]
  clear hW
  refine wp_region_made 7 mixes (by kernel_rfl) rfl rfl (fun a w => by go_simp <;> rfl) ?_
  simp only [List.take_succ_cons, List.take_zero, List.drop_succ_cons, List.drop_zero]
  repeat (refine bel_step rfl (fun K hK => ⟨_, (fun w' hw => by have q0 := (hx.on hw hx.lt).cell 0; have q1 := (hx.on hw hx.lt).cell 1; go_simp; exact rfl), ?_⟩); go_simp; refine hK _ ?_; clear hK K)
  refine bel_call rfl (fun K hK => ⟨_, _, _, (fun w' => by go_simp <;> first | exact rfl | exact ⟨rfl, rfl⟩), (fun w' hw => bel_same (HA.out _)), ?_⟩); go_simp; refine hK _ ?_; clear hK K
  repeat (refine bel_step rfl (fun K hK => ⟨_, (fun w' hw => by have q0 := (hx.on hw hx.lt).cell 0; have q1 := (hx.on hw hx.lt).cell 1; go_simp; exact rfl), ?_⟩); go_simp; refine hK _ ?_; clear hK K)
  refine bel_call rfl (fun K hK => ⟨_, _, _, (fun w' => by go_simp <;> first | exact rfl | exact ⟨rfl, rfl⟩), (fun w' hw => bel_same (HB.out _)), ?_⟩); go_simp; refine hK _ ?_; clear hK K
  repeat (refine bel_step rfl (fun K hK => ⟨_, (fun w' hw => by go_simp; exact rfl), ?_⟩); go_simp; refine hK _ ?_; clear hK K)
  refine bel_nil ?_
  intro gn w' hw hgn hnew
  refine frame_out fun K hK => ?_
  go_simp
  refine hK _ ?_
  clear hK K
  have hgl : w.heap.size + 1 + 1 < gn := by have := h5.lt; omega
  go_wp2_with (refine store_blk (cs' := #[.int .i64 f.1, .int .i64 f.2]) rfl rfl rfl rfl rfl hnew infoT rfl (ones2 _ _) ?_; intro V h6V hoth hbel; have h4V := hoth _ _ _ (by omega) (h4.on hw h4.lt); have h5V := hoth _ _ _ (by omega) (h5.on hw h5.lt); have hbV := hbel _ _ (by omega) (below_then hb hw); clear hoth hbel hnew hgn hx h4 h5 hb hw)
  go_loopw [1] (fun m wr => ∃ (k : Nat) (r s : Int × Int), m = .int .i64 (k : Int) ∧ k ≤ n ∧ Blk wr (w.heap.size + 1) 45 #[.int .i64 0, .int .i64 0] ∧ Blk wr (w.heap.size + 1 + 1) 45 #[.int .i64 r.1, .int .i64 r.2] ∧ Blk wr gn 45 #[.int .i64 s.1, .int .i64 s.2] ∧ Hid (In2 r ∧ In2 s) ∧ Hid (fp2 (gm r (gp s k)) = R) ∧ Below w.heap.size w wr) (fun m _ => (intOf m).toNat)
  case atStart => exact ⟨n, (1, 0), f, rfl, Nat.le_refl _, h4V, h5V, h6V, ⟨⟨⟨by decide, by decide⟩, by decide, by decide⟩, HF.out⟩, (show fp2 (gm (1, 0) (gp f n)) = R by rw [one_gm, HR.out]), hbV⟩
  case round =>
    clear h4V h5V h6V hbV
    obtain ⟨k, r, s, rfl, hk, h4, h5, h6, HIn, HP, hb⟩ := hrel
    by_cases h0 : 0 < k
    · have h0' : (0 : Int) < (k : Int) := by omega
      have hq : Int.tdiv (k : Int) 2 = ((k / 2 : Nat) : Int) := by rw [Int.tdiv_eq_ediv_of_nonneg (by omega)]; omega
      have hqb : k / 2 < k := by omega
      have HS2 : Hid (In2 (tm s s)) := in2_fp2 _
      have HR2 : Hid (In2 (tm r s)) := in2_fp2 _
      have HC : Hid (∀ w, Calls Tryd.prog 49 #[tv r, tv s] w fun e w' => e = .returned (tv (tm r s)) ∧ Below w.heap.size w w') := sMul2_any r s
      have HD : Hid (∀ w, Calls Tryd.prog 49 #[tv s, tv s] w fun e w' => e = .returned (tv (tm s s)) ∧ Below w.heap.size w w') := sMul2_any s s
      by_cases h2 : k % 2 = 1
      · have h2' : Int.tmod (k : Int) 2 = 1 := by rw [Int.tmod_eq_emod_of_nonneg (by omega)]; omega
        have HN : Hid (fp2 (gm (tm r s) (gp (tm s s) (k / 2))) = R) := (tp_odd r s k h2).trans HP.out
        generalize tm r s = r2 at HN HC HR2
        generalize tm s s = s2 at HN HD HS2
        generalize k / 2 = k2 at HN hq hqb
        clear h2 HP
        go_wp2_with (first | (refine load_blk rfl rfl rfl h5 Tryd.underlying45 infoT ?_) | (refine load_blk rfl rfl rfl h6 Tryd.underlying45 infoT ?_))
        refine (HC.out _).mono ?_
        rintro e w1 ⟨rfl, hb1⟩
        have h4a := h4.on hb1 h4.lt
        have h5a := h5.on hb1 h5.lt
        have h6a := h6.on hb1 h6.lt
        have hba := below_then hb hb1
        clear h4 h5 h6 hb hb1
        go_wp2_with (first | (refine store_blk (cs' := #[.int .i64 r2.1, .int .i64 r2.2]) rfl rfl rfl rfl rfl h5a infoT rfl (ones2 _ _) ?_; intro w2 h5b hoth hbel; have h4b := hoth _ _ _ (by omega) h4a; have h6b := hoth _ _ _ (by omega) h6a; have hbb := hbel _ _ (by omega) hba; clear h4a h5a h6a hba hoth hbel) | (refine load_blk rfl rfl rfl h6b Tryd.underlying45 infoT ?_))
        refine (HD.out _).mono ?_
        rintro e w3 ⟨rfl, hb3⟩
        have h4c := h4b.on hb3 h4b.lt
        have h5c := h5b.on hb3 h5b.lt
        have h6c := h6b.on hb3 h6b.lt
        have hbc := below_then hbb hb3
        clear h4b h5b h6b hbb hb3
        go_wp2_with (refine store_blk (cs' := #[.int .i64 s2.1, .int .i64 s2.2]) rfl rfl rfl rfl rfl h6c infoT rfl (ones2 _ _) ?_; intro w4 h6d hoth hbel; have h4d := hoth _ _ _ (by omega) h4c; have h5d := hoth _ _ _ (by omega) h5c; have hbd := hbel _ _ (by omega) hbc; clear h4c h5c h6c hbc hoth hbel)
        go_roundw
        case rel => exact ⟨k2, r2, s2, by go_num, by omega, h4d, h5d, h6d, ⟨HR2.out, HS2.out⟩, HN, hbd⟩
        case measure => simp [intOf]; omega
      · have h2' : Int.tmod (k : Int) 2 = 0 := by rw [Int.tmod_eq_emod_of_nonneg (by omega)]; omega
        have HN : Hid (fp2 (gm r (gp (tm s s) (k / 2))) = R) := (tp_even r s k (by omega)).trans HP.out
        generalize tm s s = s2 at HN HD HS2
        generalize k / 2 = k2 at HN hq hqb
        clear h2 HP
        go_wp2_with (refine load_blk rfl rfl rfl h6 Tryd.underlying45 infoT ?_)
        refine (HD.out _).mono ?_
        rintro e w3 ⟨rfl, hb3⟩
        have h4c := h4.on hb3 h4.lt
        have h5c := h5.on hb3 h5.lt
        have h6c := h6.on hb3 h6.lt
        have hbc := below_then hb hb3
        clear h4 h5 h6 hb hb3
        go_wp2_with (refine store_blk (cs' := #[.int .i64 s2.1, .int .i64 s2.2]) rfl rfl rfl rfl rfl h6c infoT rfl (ones2 _ _) ?_; intro w4 h6d hoth hbel; have h4d := hoth _ _ _ (by omega) h4c; have h5d := hoth _ _ _ (by omega) h5c; have hbd := hbel _ _ (by omega) hbc; clear h4c h5c h6c hbc hoth hbel)
        go_roundw
        case rel => exact ⟨k2, r, s2, by go_num, by omega, h4d, h5d, h6d, ⟨HIn.out.1, HS2.out⟩, HN, hbd⟩
        case measure => simp [intOf]; omega
    · have h0' : ¬ (0 : Int) < (k : Int) := by omega
      obtain rfl : k = 0 := by omega
      have HE : Hid (R = r) := by
        have h := HP.out
        rw [show gp s 0 = (1, 0) from rfl, gm_one, fp2_in HIn.out.1] at h
        exact h.symm
      clear HP
      go_wp2_with (first | (refine load_blk rfl rfl rfl h5 Tryd.underlying45 infoT ?_) | (refine store_blk (cs' := #[.int .i64 r.1, .int .i64 r.2]) rfl rfl rfl rfl rfl h4 infoT rfl (ones2 _ _) ?_; intro w2 h4b hoth hbel; have hbb := hbel _ _ (by omega) hb; clear hoth hbel h4 h6 hb))
      refine bodyPost_ret_by (result_blk rfl rfl h4b Tryd.underlying45 infoT) rfl ⟨by rw [HE.out], hbb⟩

theorem sPow2_any (x : Int × Int) (n : Int) (hn : n ≤ 9223372036854775807) (w : World) :
    Calls Tryd.prog 48 #[tv x, .int .i64 n] w fun e w' => e = .returned (tv (tp x n)) ∧ Below w.heap.size w w' := by
  by_cases h : n < 0
  · rw [tp_neg x h]; exact sPow2_neg x n h w
  · obtain ⟨k, rfl⟩ : ∃ k : Nat, n = k := ⟨n.toNat, by omega⟩
    rw [tp_nat]
    exact sPow2_nat x k (by omega) w

end Go.Proofs.YtldkdgbcnbgmiaaDoor
