/-
  The walk of the program's proof out of a text.
  (-DROP-: what the seat lacks is left out.)
-/
import Derived.Test.YtbkfdafdchjakabJoined5
import Derived.Test.YtbkfdafdchjakabPrfI5
import Derived.Test.YtbkfdafdchjakabJoined8

namespace Go.Proofs.Ytbkfdafdchjakab
open Go.RowKit

set_option maxHeartbeats 800000 in
set_option maxRecDepth 100000 in
theorem proofOf_any (A B C : Pt) (w : World) : Calls Try.prog 67 #[.agg (prfC A B C)] w fun e w' => e = .returned (.agg (prfC A B C)) ∧ Below w.heap.size w w' := by
  unfold prfC
  go_enter Try.func67, Try.ntmps67
  go_wp2
  obtain ⟨W, hW, hb, hs, hr⟩ := boxes1r w 77 39 (prfC A B C) (prfC A B C)
  unfold prfC at hW
  rw [hW]
  refine bodyPost_ret_by (result_blk rfl rfl hr Try.underlying39 infoPr) rfl ⟨rfl, hb⟩

/-- Three cells of a block, set one by one. -/
theorem Blk.set3r {w : World} {g t : Nat} {cs : Array Value} (h : Blk w g t cs) (o : Nat) (x y z : Value) : Blk (((w.setCell ⟨g, o, none⟩ x).setCell ⟨g, o + 1, none⟩ y).setCell ⟨g, o + 2, none⟩ z) g t (((cs.setIfInBounds o x).setIfInBounds (o + 1) y).setIfInBounds (o + 2) z) := ((h.set o x).set (o + 1) y).set (o + 2) z
theorem Blk.other3r {w : World} {g g' o t : Nat} {cs : Array Value} (h : Blk w g t cs) (hne : g' ≠ g) (x y z : Value) : Blk (((w.setCell ⟨g', o, none⟩ x).setCell ⟨g', o + 1, none⟩ y).setCell ⟨g', o + 2, none⟩ z) g t cs := ((h.other hne x).other hne y).other hne z
theorem below_set3 {B o g : Nat} {w0 w : World} (h : Below B w0 w) (hg : B ≤ g) (x y z : Value) : Below B w0 (((w.setCell ⟨g, o, none⟩ x).setCell ⟨g, o + 1, none⟩ y).setCell ⟨g, o + 2, none⟩ z) := ((h.setCell hg x).setCell hg y).setCell hg z
/-- The first points that were read. -/
def rdN (t : ByteArray) (k j : Nat) : Pt := if j < k then (rdPt (cut3 t j)).1 else (0, 0, false)
structure RdSt (t : ByteArray) (w wr : World) (k : Nat) : Prop where
  bel : Below w.heap.size w wr
  res : Blk wr w.heap.size 39 #[.int .i64 0, .int .i64 0, .bool false, .int .i64 0, .int .i64 0, .bool false, .int .i64 0, .int .i64 0, .bool false]
  pts : Blk wr (w.heap.size + 1) 77 (prfC (rdN t k 0) (rdN t k 1) (rdN t k 2))
  oks : ∀ j, j < k → (rdPt (cut3 t j)).2 = true ∧ inGB (rdPt (cut3 t j)).1 = true
theorem rd_not {t : ByteArray} {j : Nat} (hj : j < 3) (h : (rdPt (cut3 t j)).2 = false ∨ inGB (rdPt (cut3 t j)).1 = false) : rdOk t = false := by
  unfold rdOk prfIn
  match j, hj with
  | 0, _ => rcases h with h | h <;> rw [h] <;> simp
  | 1, _ => rcases h with h | h <;> rw [h] <;> simp
  | 2, _ => rcases h with h | h <;> rw [h] <;> simp
theorem rd_all {t : ByteArray} (hs : t.size = 9) (h : ∀ j, j < 3 → (rdPt (cut3 t j)).2 = true ∧ inGB (rdPt (cut3 t j)).1 = true) : rdOk t = true := by
  unfold rdOk prfIn
  rw [(h 0 (by decide)).1, (h 1 (by decide)).1, (h 2 (by decide)).1, (h 0 (by decide)).2, (h 1 (by decide)).2, (h 2 (by decide)).2, decide_eq_true hs]
  rfl
theorem cut_at0 (t : ByteArray) (h : t.size = 9) (wx : World) : (Instr.slice 9 (.string t) (some (.int .i64 0)) (some (.int .i64 3)) none).run Try.prog wx = .ok (.string (cut3 t 0)) wx :=
  run_slice_string (P := Try.prog) wx 9 t .i64 .i64 0 3 Try.underlying9 (by omega) (by omega) (by omega)
theorem cut_at1 (t : ByteArray) (h : t.size = 9) (wx : World) : (Instr.slice 9 (.string t) (some (.int .i64 3)) (some (.int .i64 6)) none).run Try.prog wx = .ok (.string (cut3 t 1)) wx :=
  run_slice_string (P := Try.prog) wx 9 t .i64 .i64 3 6 Try.underlying9 (by omega) (by omega) (by omega)
theorem cut_at2 (t : ByteArray) (h : t.size = 9) (wx : World) : (Instr.slice 9 (.string t) (some (.int .i64 6)) (some (.int .i64 9)) none).run Try.prog wx = .ok (.string (cut3 t 2)) wx :=
  run_slice_string (P := Try.prog) wx 9 t .i64 .i64 6 9 Try.underlying9 (by omega) (by omega) (by omega)

set_option maxHeartbeats 6400000 in
set_option maxRecDepth 100000 in
theorem iRdPrf_any (t : ByteArray) (_hm : t.size ≤ 9223372036854775807) (w : World) :
    Calls Try.prog 25 #[.string t] w fun e w' => e = .returned (.tuple #[.agg (rdV t), .bool (rdOk t)]) ∧ Below w.heap.size w w' := by
  obtain ⟨W, hW, hb, hr, hx⟩ := boxes1r w 39 77 #[.int .i64 0, .int .i64 0, .bool false, .int .i64 0, .int .i64 0, .bool false, .int .i64 0, .int .i64 0, .bool false] #[.int .i64 0, .int .i64 0, .bool false, .int .i64 0, .int .i64 0, .bool false, .int .i64 0, .int .i64 0, .bool false]
  by_cases hs : t.size = 9
  · have hsi : (t.size : Int) = 9 := by omega
    have HNO : Hid (∀ j, j < 3 → ((rdPt (cut3 t j)).2 = false ∨ inGB (rdPt (cut3 t j)).1 = false) → rdOk t = false ∧ rdV t = #[.int .i64 0, .int .i64 0, .bool false, .int .i64 0, .int .i64 0, .bool false, .int .i64 0, .int .i64 0, .bool false]) := fun j hj h => ⟨rd_not hj h, rdV_no (rd_not hj h)⟩
    have HYES : Hid ((∀ j, j < 3 → (rdPt (cut3 t j)).2 = true ∧ inGB (rdPt (cut3 t j)).1 = true) → rdOk t = true ∧ rdV t = prfC (rdN t 3 0) (rdN t 3 1) (rdN t 3 2)) := fun h => ⟨rd_all hs h, rdV_yes (rd_all hs h)⟩
    have HC : Hid (((∀ wx, (Instr.slice 9 (.string t) (some (.int .i64 0)) (some (.int .i64 3)) none).run Try.prog wx = .ok (.string (cut3 t 0)) wx) ∧ ∀ wx, (Instr.slice 9 (.string t) (some (.int .i64 3)) (some (.int .i64 6)) none).run Try.prog wx = .ok (.string (cut3 t 1)) wx) ∧ ∀ wx, (Instr.slice 9 (.string t) (some (.int .i64 6)) (some (.int .i64 9)) none).run Try.prog wx = .ok (.string (cut3 t 2)) wx) := ⟨⟨cut_at0 t hs, cut_at1 t hs⟩, cut_at2 t hs⟩
    have HRD : Hid (∀ (k : Nat) (w : World), Calls Try.prog 65 #[.string (cut3 t k)] w fun e w' => e = .returned (rv (rdPt (cut3 t k))) ∧ Below w.heap.size w w') := fun k => iRead_any (cut3 t k) (by have := cut3_size t k; omega)
    obtain ⟨ok, hok⟩ : ∃ ok, ok = rdOk t := ⟨_, rfl⟩
    obtain ⟨vv, hvv⟩ : ∃ vv, vv = rdV t := ⟨_, rfl⟩
    rw [← hok, ← hvv]
    rw [← hok, ← hvv] at HNO HYES
    clear hok hvv hs
    go_enter Try.func25, Try.ntmps25
    go_wp2_with (refine store_blk (cs' := #[.int .i64 0, .int .i64 0, .bool false, .int .i64 0, .int .i64 0, .bool false, .int .i64 0, .int .i64 0, .bool false]) rfl rfl rfl rfl rfl hx infoPp rfl (ones9 (0, 0, false) (0, 0, false) (0, 0, false)) ?_; intro V0 hx0 hoth hbel; have hb0 := hbel _ _ (by omega) hb; have hr0 := hoth _ _ _ (by omega) hr; clear hoth hbel)
    have H0 : Hid (RdSt t w V0 0) := ⟨hb0, hr0, hx0, fun j hj => absurd hj (by omega)⟩
    clear hW hb hr hx hb0 hr0 hx0
    go_loopw [13] (fun i wr => ∃ k : Nat, i = .int .i64 (k : Int) ∧ k ≤ 3 ∧ Hid (RdSt t w wr k)) (fun i _ => 3 - (intOf i).toNat)
    case atStart => exact ⟨0, rfl, by omega, H0⟩
    case round =>
      obtain ⟨k, rfl, hk, HS⟩ := hrel
      clear H0
      have hs0 : w.heap.size + 1 < wr.heap.size := HS.out.pts.lt
      by_cases hlt : k < 3
      · rcases (show k = 0 ∨ k = 1 ∨ k = 2 by omega) with rfl | rfl | rfl
        · have hc := HC.out.1.1
          have S : Hid (∀ w, Calls Try.prog 65 #[.string (cut3 t 0)] w fun e w' => e = .returned (rv (rdPt (cut3 t 0))) ∧ Below w.heap.size w w') := HRD.out 0
          have CI : Hid (∀ w, Calls Try.prog 66 #[pv (rdPt (cut3 t 0)).1] w fun e w' => e = .returned (.bool (inGB (rdPt (cut3 t 0)).1)) ∧ Below w.heap.size w w') := iInG_any (rdPt (cut3 t 0)).1
          have HP : Hid (prfC (rdN t 1 0) (rdN t 1 1) (rdN t 1 2) = prfC (rdPt (cut3 t 0)).1 (rdN t 0 1) (rdN t 0 2)) := rfl
          have HNk : Hid (((rdPt (cut3 t 0)).2 = false ∨ inGB (rdPt (cut3 t 0)).1 = false) → ok = false ∧ vv = #[.int .i64 0, .int .i64 0, .bool false, .int .i64 0, .int .i64 0, .bool false, .int .i64 0, .int .i64 0, .bool false]) := HNO.out 0 (by decide)
          have HOKk : Hid ((rdPt (cut3 t 0)).2 = true → inGB (rdPt (cut3 t 0)).1 = true → ∀ j, j < 1 → (rdPt (cut3 t j)).2 = true ∧ inGB (rdPt (cut3 t j)).1 = true) := fun h1 h2 j hj => by
            by_cases e : j = 0
            · subst e; exact ⟨h1, h2⟩
            · exact HS.out.oks j (by omega)
          generalize rdPt (cut3 t 0) = R at S CI HP HNk HOKk
          generalize cut3 t 0 = tk at hc S
          obtain ⟨P, o⟩ := R
          unfold rv pv at S
          unfold pv at CI
          simp only at S CI HP HNk HOKk
          go_wp2_with fail
          refine (S.out _).mono ?_
          rintro e w1 ⟨rfl, hb1⟩
          obtain ⟨V1, hV1, hbv1, h1⟩ := box1 w1 32 #[.int .i64 P.1, .int .i64 P.2.1, .bool P.2.2]
          have hc1 := below_then hb1 hbv1
          have HS1 : Hid (Below w.heap.size w V1 ∧ Blk V1 w.heap.size 39 #[.int .i64 0, .int .i64 0, .bool false, .int .i64 0, .int .i64 0, .bool false, .int .i64 0, .int .i64 0, .bool false] ∧ Blk V1 (w.heap.size + 1) 77 (prfC (rdN t 0 0) (rdN t 0 1) (rdN t 0 2))) := ⟨HS.out.bel.trans (hc1.mono HS.out.bel.size), HS.out.res.on hc1 HS.out.res.lt, HS.out.pts.on hc1 HS.out.pts.lt⟩
          have hs1 : w.heap.size + 1 < w1.heap.size := Nat.lt_of_lt_of_le hs0 hb1.size
          clear hb1 hbv1 hc1 S hc
          cases o
          · have hres := HS1.out.2.1
            have hbel1 := HS1.out.1
            have HE := HNk.out (.inl rfl)
            go_wp2_with (refine store_blk (cs' := #[.int .i64 0, .int .i64 0, .bool false, .int .i64 0, .int .i64 0, .bool false, .int .i64 0, .int .i64 0, .bool false]) rfl rfl rfl rfl rfl hres infoPr rfl (ones9 (0, 0, false) (0, 0, false) (0, 0, false)) ?_; intro V8 h8 hoth hbel; have hb8 := hbel _ _ (Nat.le_refl _) hbel1; clear hoth hbel)
            refine bodyPost_ret_by (result_blkT rfl rfl rfl h8 Try.underlying39 infoPr) rfl ⟨by rw [HE.1, HE.2]; rfl, hb8⟩
          · have q0 : V1.cell? ⟨w1.heap.size, 0, none⟩ = some (.int .i64 P.1) := h1.cell 0
            have q1 : V1.cell? ⟨w1.heap.size, 1, none⟩ = some (.int .i64 P.2.1) := h1.cell 1
            have q2 : V1.cell? ⟨w1.heap.size, 2, none⟩ = some (.bool P.2.2) := h1.cell 2
            go_wp2_with fail
            clear hV1 q0 q1 q2
            refine (CI.out _).mono ?_
            rintro e w2 ⟨rfl, hb2⟩
            have hbel2 := below_then HS1.out.1 hb2
            have hres := HS1.out.2.1.on hb2 HS1.out.2.1.lt
            have hpts := HS1.out.2.2.on hb2 HS1.out.2.2.lt
            have h2 := h1.on hb2 h1.lt
            clear HS1 hb2 h1
            cases hin : inGB P
            · have HE := HNk.out (.inr hin)
              go_wp2_with (refine store_blk (cs' := #[.int .i64 0, .int .i64 0, .bool false, .int .i64 0, .int .i64 0, .bool false, .int .i64 0, .int .i64 0, .bool false]) rfl rfl rfl rfl rfl hres infoPr rfl (ones9 (0, 0, false) (0, 0, false) (0, 0, false)) ?_; intro V8 h8 hoth hbel; have hb8 := hbel _ _ (Nat.le_refl _) hbel2; clear hoth hbel)
              refine bodyPost_ret_by (result_blkT rfl rfl rfl h8 Try.underlying39 infoPr) rfl ⟨by rw [HE.1, HE.2]; rfl, hb8⟩
            · have a0 : w2.cell? ⟨w.heap.size + 1, 0, none⟩ = some (.int .i64 (rdN t 0 0).1) := hpts.cell 0
              have a1 : w2.cell? ⟨w.heap.size + 1, 1, none⟩ = some (.int .i64 (rdN t 0 0).2.1) := hpts.cell 1
              have a2 : w2.cell? ⟨w.heap.size + 1, 2, none⟩ = some (.bool (rdN t 0 0).2.2) := hpts.cell 2
              have f0 := hpts.free 0
              have f1 := hpts.free 1
              have f2 := hpts.free 2
              have HS3 : Hid (RdSt t w (((w2.setCell ⟨w.heap.size + 1, 0, none⟩ (.int .i64 P.1)).setCell ⟨w.heap.size + 1, 1, none⟩ (.int .i64 P.2.1)).setCell ⟨w.heap.size + 1, 2, none⟩ (.bool P.2.2)) 1) := ⟨below_set3 hbel2 (by omega) _ _ _, hres.other3r (by omega) _ _ _, by rw [HP.out]; exact hpts.set3r 0 _ _ _, HOKk.out (by trivial) hin⟩
              clear HP HNk HOKk hbel2 hres hpts HS CI
              go_wp2_with (refine load_blk rfl rfl rfl h2 Try.underlying32 infoP ?_)
              go_roundw
              case rel => exact ⟨1, by go_num, by omega, HS3⟩
              case measure => simp [intOf]
        · have hc := HC.out.1.2
          have S : Hid (∀ w, Calls Try.prog 65 #[.string (cut3 t 1)] w fun e w' => e = .returned (rv (rdPt (cut3 t 1))) ∧ Below w.heap.size w w') := HRD.out 1
          have CI : Hid (∀ w, Calls Try.prog 66 #[pv (rdPt (cut3 t 1)).1] w fun e w' => e = .returned (.bool (inGB (rdPt (cut3 t 1)).1)) ∧ Below w.heap.size w w') := iInG_any (rdPt (cut3 t 1)).1
          have HP : Hid (prfC (rdN t 2 0) (rdN t 2 1) (rdN t 2 2) = prfC (rdN t 1 0) (rdPt (cut3 t 1)).1 (rdN t 1 2)) := rfl
          have HNk : Hid (((rdPt (cut3 t 1)).2 = false ∨ inGB (rdPt (cut3 t 1)).1 = false) → ok = false ∧ vv = #[.int .i64 0, .int .i64 0, .bool false, .int .i64 0, .int .i64 0, .bool false, .int .i64 0, .int .i64 0, .bool false]) := HNO.out 1 (by decide)
          have HOKk : Hid ((rdPt (cut3 t 1)).2 = true → inGB (rdPt (cut3 t 1)).1 = true → ∀ j, j < 2 → (rdPt (cut3 t j)).2 = true ∧ inGB (rdPt (cut3 t j)).1 = true) := fun h1 h2 j hj => by
            by_cases e : j = 1
            · subst e; exact ⟨h1, h2⟩
            · exact HS.out.oks j (by omega)
          generalize rdPt (cut3 t 1) = R at S CI HP HNk HOKk
          generalize cut3 t 1 = tk at hc S
          obtain ⟨P, o⟩ := R
          unfold rv pv at S
          unfold pv at CI
          simp only at S CI HP HNk HOKk
          go_wp2_with fail
          refine (S.out _).mono ?_
          rintro e w1 ⟨rfl, hb1⟩
          obtain ⟨V1, hV1, hbv1, h1⟩ := box1 w1 32 #[.int .i64 P.1, .int .i64 P.2.1, .bool P.2.2]
          have hc1 := below_then hb1 hbv1
          have HS1 : Hid (Below w.heap.size w V1 ∧ Blk V1 w.heap.size 39 #[.int .i64 0, .int .i64 0, .bool false, .int .i64 0, .int .i64 0, .bool false, .int .i64 0, .int .i64 0, .bool false] ∧ Blk V1 (w.heap.size + 1) 77 (prfC (rdN t 1 0) (rdN t 1 1) (rdN t 1 2))) := ⟨HS.out.bel.trans (hc1.mono HS.out.bel.size), HS.out.res.on hc1 HS.out.res.lt, HS.out.pts.on hc1 HS.out.pts.lt⟩
          have hs1 : w.heap.size + 1 < w1.heap.size := Nat.lt_of_lt_of_le hs0 hb1.size
          clear hb1 hbv1 hc1 S hc
          cases o
          · have hres := HS1.out.2.1
            have hbel1 := HS1.out.1
            have HE := HNk.out (.inl rfl)
            go_wp2_with (refine store_blk (cs' := #[.int .i64 0, .int .i64 0, .bool false, .int .i64 0, .int .i64 0, .bool false, .int .i64 0, .int .i64 0, .bool false]) rfl rfl rfl rfl rfl hres infoPr rfl (ones9 (0, 0, false) (0, 0, false) (0, 0, false)) ?_; intro V8 h8 hoth hbel; have hb8 := hbel _ _ (Nat.le_refl _) hbel1; clear hoth hbel)
            refine bodyPost_ret_by (result_blkT rfl rfl rfl h8 Try.underlying39 infoPr) rfl ⟨by rw [HE.1, HE.2]; rfl, hb8⟩
          · have q0 : V1.cell? ⟨w1.heap.size, 0, none⟩ = some (.int .i64 P.1) := h1.cell 0
            have q1 : V1.cell? ⟨w1.heap.size, 1, none⟩ = some (.int .i64 P.2.1) := h1.cell 1
            have q2 : V1.cell? ⟨w1.heap.size, 2, none⟩ = some (.bool P.2.2) := h1.cell 2
            go_wp2_with fail
            clear hV1 q0 q1 q2
            refine (CI.out _).mono ?_
            rintro e w2 ⟨rfl, hb2⟩
            have hbel2 := below_then HS1.out.1 hb2
            have hres := HS1.out.2.1.on hb2 HS1.out.2.1.lt
            have hpts := HS1.out.2.2.on hb2 HS1.out.2.2.lt
            have h2 := h1.on hb2 h1.lt
            clear HS1 hb2 h1
            cases hin : inGB P
            · have HE := HNk.out (.inr hin)
              go_wp2_with (refine store_blk (cs' := #[.int .i64 0, .int .i64 0, .bool false, .int .i64 0, .int .i64 0, .bool false, .int .i64 0, .int .i64 0, .bool false]) rfl rfl rfl rfl rfl hres infoPr rfl (ones9 (0, 0, false) (0, 0, false) (0, 0, false)) ?_; intro V8 h8 hoth hbel; have hb8 := hbel _ _ (Nat.le_refl _) hbel2; clear hoth hbel)
              refine bodyPost_ret_by (result_blkT rfl rfl rfl h8 Try.underlying39 infoPr) rfl ⟨by rw [HE.1, HE.2]; rfl, hb8⟩
            · have a0 : w2.cell? ⟨w.heap.size + 1, 3, none⟩ = some (.int .i64 (rdN t 1 1).1) := hpts.cell 3
              have a1 : w2.cell? ⟨w.heap.size + 1, 4, none⟩ = some (.int .i64 (rdN t 1 1).2.1) := hpts.cell 4
              have a2 : w2.cell? ⟨w.heap.size + 1, 5, none⟩ = some (.bool (rdN t 1 1).2.2) := hpts.cell 5
              have f0 := hpts.free 3
              have f1 := hpts.free 4
              have f2 := hpts.free 5
              have HS3 : Hid (RdSt t w (((w2.setCell ⟨w.heap.size + 1, 3, none⟩ (.int .i64 P.1)).setCell ⟨w.heap.size + 1, 4, none⟩ (.int .i64 P.2.1)).setCell ⟨w.heap.size + 1, 5, none⟩ (.bool P.2.2)) 2) := ⟨below_set3 hbel2 (by omega) _ _ _, hres.other3r (by omega) _ _ _, by rw [HP.out]; exact hpts.set3r 3 _ _ _, HOKk.out (by trivial) hin⟩
              clear HP HNk HOKk hbel2 hres hpts HS CI
              go_wp2_with (refine load_blk rfl rfl rfl h2 Try.underlying32 infoP ?_)
              go_roundw
              case rel => exact ⟨2, by go_num, by omega, HS3⟩
              case measure => simp [intOf]
        · have hc := HC.out.2
          have S : Hid (∀ w, Calls Try.prog 65 #[.string (cut3 t 2)] w fun e w' => e = .returned (rv (rdPt (cut3 t 2))) ∧ Below w.heap.size w w') := HRD.out 2
          have CI : Hid (∀ w, Calls Try.prog 66 #[pv (rdPt (cut3 t 2)).1] w fun e w' => e = .returned (.bool (inGB (rdPt (cut3 t 2)).1)) ∧ Below w.heap.size w w') := iInG_any (rdPt (cut3 t 2)).1
          have HP : Hid (prfC (rdN t 3 0) (rdN t 3 1) (rdN t 3 2) = prfC (rdN t 2 0) (rdN t 2 1) (rdPt (cut3 t 2)).1) := rfl
          have HNk : Hid (((rdPt (cut3 t 2)).2 = false ∨ inGB (rdPt (cut3 t 2)).1 = false) → ok = false ∧ vv = #[.int .i64 0, .int .i64 0, .bool false, .int .i64 0, .int .i64 0, .bool false, .int .i64 0, .int .i64 0, .bool false]) := HNO.out 2 (by decide)
          have HOKk : Hid ((rdPt (cut3 t 2)).2 = true → inGB (rdPt (cut3 t 2)).1 = true → ∀ j, j < 3 → (rdPt (cut3 t j)).2 = true ∧ inGB (rdPt (cut3 t j)).1 = true) := fun h1 h2 j hj => by
            by_cases e : j = 2
            · subst e; exact ⟨h1, h2⟩
            · exact HS.out.oks j (by omega)
          generalize rdPt (cut3 t 2) = R at S CI HP HNk HOKk
          generalize cut3 t 2 = tk at hc S
          obtain ⟨P, o⟩ := R
          unfold rv pv at S
          unfold pv at CI
          simp only at S CI HP HNk HOKk
          go_wp2_with fail
          refine (S.out _).mono ?_
          rintro e w1 ⟨rfl, hb1⟩
          obtain ⟨V1, hV1, hbv1, h1⟩ := box1 w1 32 #[.int .i64 P.1, .int .i64 P.2.1, .bool P.2.2]
          have hc1 := below_then hb1 hbv1
          have HS1 : Hid (Below w.heap.size w V1 ∧ Blk V1 w.heap.size 39 #[.int .i64 0, .int .i64 0, .bool false, .int .i64 0, .int .i64 0, .bool false, .int .i64 0, .int .i64 0, .bool false] ∧ Blk V1 (w.heap.size + 1) 77 (prfC (rdN t 2 0) (rdN t 2 1) (rdN t 2 2))) := ⟨HS.out.bel.trans (hc1.mono HS.out.bel.size), HS.out.res.on hc1 HS.out.res.lt, HS.out.pts.on hc1 HS.out.pts.lt⟩
          have hs1 : w.heap.size + 1 < w1.heap.size := Nat.lt_of_lt_of_le hs0 hb1.size
          clear hb1 hbv1 hc1 S hc
          cases o
          · have hres := HS1.out.2.1
            have hbel1 := HS1.out.1
            have HE := HNk.out (.inl rfl)
            go_wp2_with (refine store_blk (cs' := #[.int .i64 0, .int .i64 0, .bool false, .int .i64 0, .int .i64 0, .bool false, .int .i64 0, .int .i64 0, .bool false]) rfl rfl rfl rfl rfl hres infoPr rfl (ones9 (0, 0, false) (0, 0, false) (0, 0, false)) ?_; intro V8 h8 hoth hbel; have hb8 := hbel _ _ (Nat.le_refl _) hbel1; clear hoth hbel)
            refine bodyPost_ret_by (result_blkT rfl rfl rfl h8 Try.underlying39 infoPr) rfl ⟨by rw [HE.1, HE.2]; rfl, hb8⟩
          · have q0 : V1.cell? ⟨w1.heap.size, 0, none⟩ = some (.int .i64 P.1) := h1.cell 0
            have q1 : V1.cell? ⟨w1.heap.size, 1, none⟩ = some (.int .i64 P.2.1) := h1.cell 1
            have q2 : V1.cell? ⟨w1.heap.size, 2, none⟩ = some (.bool P.2.2) := h1.cell 2
            go_wp2_with fail
            clear hV1 q0 q1 q2
            refine (CI.out _).mono ?_
            rintro e w2 ⟨rfl, hb2⟩
            have hbel2 := below_then HS1.out.1 hb2
            have hres := HS1.out.2.1.on hb2 HS1.out.2.1.lt
            have hpts := HS1.out.2.2.on hb2 HS1.out.2.2.lt
            have h2 := h1.on hb2 h1.lt
            clear HS1 hb2 h1
            cases hin : inGB P
            · have HE := HNk.out (.inr hin)
              go_wp2_with (refine store_blk (cs' := #[.int .i64 0, .int .i64 0, .bool false, .int .i64 0, .int .i64 0, .bool false, .int .i64 0, .int .i64 0, .bool false]) rfl rfl rfl rfl rfl hres infoPr rfl (ones9 (0, 0, false) (0, 0, false) (0, 0, false)) ?_; intro V8 h8 hoth hbel; have hb8 := hbel _ _ (Nat.le_refl _) hbel2; clear hoth hbel)
              refine bodyPost_ret_by (result_blkT rfl rfl rfl h8 Try.underlying39 infoPr) rfl ⟨by rw [HE.1, HE.2]; rfl, hb8⟩
            · have a0 : w2.cell? ⟨w.heap.size + 1, 6, none⟩ = some (.int .i64 (rdN t 2 2).1) := hpts.cell 6
              have a1 : w2.cell? ⟨w.heap.size + 1, 7, none⟩ = some (.int .i64 (rdN t 2 2).2.1) := hpts.cell 7
              have a2 : w2.cell? ⟨w.heap.size + 1, 8, none⟩ = some (.bool (rdN t 2 2).2.2) := hpts.cell 8
              have f0 := hpts.free 6
              have f1 := hpts.free 7
              have f2 := hpts.free 8
              have HS3 : Hid (RdSt t w (((w2.setCell ⟨w.heap.size + 1, 6, none⟩ (.int .i64 P.1)).setCell ⟨w.heap.size + 1, 7, none⟩ (.int .i64 P.2.1)).setCell ⟨w.heap.size + 1, 8, none⟩ (.bool P.2.2)) 3) := ⟨below_set3 hbel2 (by omega) _ _ _, hres.other3r (by omega) _ _ _, by rw [HP.out]; exact hpts.set3r 6 _ _ _, HOKk.out (by trivial) hin⟩
              clear HP HNk HOKk hbel2 hres hpts HS CI
              go_wp2_with (refine load_blk rfl rfl rfl h2 Try.underlying32 infoP ?_)
              go_roundw
              case rel => exact ⟨3, by go_num, by omega, HS3⟩
              case measure => simp [intOf]
      · have hk3 : k = 3 := by omega
        subst hk3
        have HE := HYES.out HS.out.oks
        have hpts := HS.out.pts
        have hres := HS.out.res
        have hbel := HS.out.bel
        have CP : Hid (∀ V, Calls Try.prog 67 #[.agg (prfC (rdN t 3 0) (rdN t 3 1) (rdN t 3 2))] V fun e w' => e = .returned (.agg (prfC (rdN t 3 0) (rdN t 3 1) (rdN t 3 2))) ∧ Below V.heap.size V w') := proofOf_any _ _ _
        have HE1 : Hid (ok = true ∧ vv = prfC (rdN t 3 0) (rdN t 3 1) (rdN t 3 2)) := HE
        clear HE HS
        generalize rdN t 3 0 = A at *
        generalize rdN t 3 1 = B at *
        generalize rdN t 3 2 = C at *
        go_wp2_with (refine load_blkA rfl rfl rfl hpts Try.underlying77 infoPp ?_)
        refine (CP.out _).mono ?_
        rintro e w3 ⟨rfl, hb3⟩
        have hres3 := hres.on hb3 hres.lt
        have hbel3 := below_then hbel hb3
        go_wp2_with (refine store_blk (cs' := prfC A B C) rfl rfl rfl rfl rfl hres3 infoPr rfl (ones9 A B C) ?_; intro V8 h8 hoth hbel'; have hb8 := hbel' _ _ (Nat.le_refl _) hbel3; clear hoth hbel')
        refine bodyPost_ret_by (result_blkT rfl rfl rfl h8 Try.underlying39 infoPr) rfl ⟨by rw [HE1.out.1, HE1.out.2]; rfl, hb8⟩
  · have hsi : ¬ (t.size : Int) = 9 := by omega
    have e0 : rdOk t = false := by unfold rdOk; rw [decide_eq_false hs, Bool.false_and]
    rw [rdV_no e0, e0]
    go_enter Try.func25, Try.ntmps25
    go_wp2_with (first | (refine store_blk (cs' := #[.int .i64 0, .int .i64 0, .bool false, .int .i64 0, .int .i64 0, .bool false, .int .i64 0, .int .i64 0, .bool false]) rfl rfl rfl rfl rfl hx infoPp rfl (ones9 (0, 0, false) (0, 0, false) (0, 0, false)) ?_; intro V0 hx0 hoth hbel; have hb0 := hbel _ _ (by omega) hb; have hr0 := hoth _ _ _ (by omega) hr; clear hoth hbel) | (refine store_blk (cs' := #[.int .i64 0, .int .i64 0, .bool false, .int .i64 0, .int .i64 0, .bool false, .int .i64 0, .int .i64 0, .bool false]) rfl rfl rfl rfl rfl hr0 infoPr rfl (ones9 (0, 0, false) (0, 0, false) (0, 0, false)) ?_; intro V8 h8 hoth hbel; have hb8 := hbel _ _ (Nat.le_refl _) hb0; clear hoth hbel))
    refine bodyPost_ret_by (result_blkT rfl rfl rfl h8 Try.underlying39 infoPr) rfl ⟨rfl, hb8⟩

end Go.Proofs.Ytbkfdafdchjakab
