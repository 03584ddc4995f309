/-
  Texts of one's own, joined.
-/
import Derived.Test.YthnahalboomkoaaGreatJoined26
import Derived.Test.YthnahalboomkoaaGreatJoined18
import Derived.Test.YthnahalboomkoaaGreatPtI
import Derived.Test.YthnahalboomkoaaGreatBytes
import Derived.WalkLawsBesides
import Derived.WalkSpells
import Derived.Deep.QuietTactic
import Derived.BigQuiet
import Derived.Test.YthnahalboomkoaaGreatJoined3

/-
  The walk of the program's proof out of a text.
  (-DROP-: what the seat lacks is left out.)
-/
namespace Go.Proofs.YthnahalboomkoaaGreat
open Go.RowKit

set_option maxHeartbeats 800000 in
set_option maxRecDepth 100000 in
theorem proofOf_any (A B C : Pt) (w : World) : Calls Tryz.prog 66 #[.agg (prfC A B C)] w fun e w' => e = .returned (.agg (prfC A B C)) ∧ Below w.heap.size w w' := by
  unfold prfC
  go_enter Tryz.func66, Tryz.ntmps66
  go_wp2
  obtain ⟨W, hW, hb, hs, hr⟩ := boxes1r w 99 44 (prfC A B C) (prfC A B C)
  unfold prfC at hW
  rw [hW]
  refine bodyPost_ret_by (result_blk rfl rfl hr Tryz.underlying44 infoPr) rfl ⟨rfl, hb⟩

/-- Three cells of a block, set one by one. -/
theorem Blk.set3r {w : World} {g t : Nat} {cs : Array Value} (h : Blk w g t cs) (o : Nat) (x y z : Value) : Blk (((w.setCell ⟨g, o, none⟩ x).setCell ⟨g, o + 1, none⟩ y).setCell ⟨g, o + 2, none⟩ z) g t (((cs.setIfInBounds o x).setIfInBounds (o + 1) y).setIfInBounds (o + 2) z) := ((h.set o x).set (o + 1) y).set (o + 2) z
theorem Blk.other3r {w : World} {g g' o t : Nat} {cs : Array Value} (h : Blk w g t cs) (hne : g' ≠ g) (x y z : Value) : Blk (((w.setCell ⟨g', o, none⟩ x).setCell ⟨g', o + 1, none⟩ y).setCell ⟨g', o + 2, none⟩ z) g t cs := ((h.other hne x).other hne y).other hne z
theorem below_set3 {B o g : Nat} {w0 w : World} (h : Below B w0 w) (hg : B ≤ g) (x y z : Value) : Below B w0 (((w.setCell ⟨g, o, none⟩ x).setCell ⟨g, o + 1, none⟩ y).setCell ⟨g, o + 2, none⟩ z) := ((h.setCell hg x).setCell hg y).setCell hg z
/-- The first points that were read. -/
def rdN (t : ByteArray) (k j : Nat) : Pt := if j < k then (rdPt (cut3 t j)).1 else (0, 0, false)
structure RdSt (t : ByteArray) (w wr : World) (k : Nat) : Prop where
  bel : Below w.heap.size w wr
  res : Blk wr w.heap.size 44 #[.int .i64 0, .int .i64 0, .bool false, .int .i64 0, .int .i64 0, .bool false, .int .i64 0, .int .i64 0, .bool false]
  pts : Blk wr (w.heap.size + 1) 99 (prfC (rdN t k 0) (rdN t k 1) (rdN t k 2))
  oks : ∀ j, j < k → (rdPt (cut3 t j)).2 = true ∧ inGB (rdPt (cut3 t j)).1 = true
theorem rd_not {t : ByteArray} {j : Nat} (hj : j < 3) (h : (rdPt (cut3 t j)).2 = false ∨ inGB (rdPt (cut3 t j)).1 = false) : rdOk t = false := by
  unfold rdOk prfIn
  match j, hj with
  | 0, _ => rcases h with h | h <;> rw [h] <;> simp
  | 1, _ => rcases h with h | h <;> rw [h] <;> simp
  | 2, _ => rcases h with h | h <;> rw [h] <;> simp
theorem rd_all {t : ByteArray} (hs : t.size = 9) (h : ∀ j, j < 3 → (rdPt (cut3 t j)).2 = true ∧ inGB (rdPt (cut3 t j)).1 = true) : rdOk t = true := by
  unfold rdOk prfIn
  rw [(h 0 (by decide)).1, (h 1 (by decide)).1, (h 2 (by decide)).1, (h 0 (by decide)).2, (h 1 (by decide)).2, (h 2 (by decide)).2, decide_eq_true hs]
  rfl
theorem cut_at0 (t : ByteArray) (h : t.size = 9) (wx : World) : (Instr.slice 9 (.string t) (some (.int .i64 0)) (some (.int .i64 3)) none).run Tryz.prog wx = .ok (.string (cut3 t 0)) wx :=
  run_slice_string (P := Tryz.prog) wx 9 t .i64 .i64 0 3 Tryz.underlying9 (by omega) (by omega) (by omega)
theorem cut_at1 (t : ByteArray) (h : t.size = 9) (wx : World) : (Instr.slice 9 (.string t) (some (.int .i64 3)) (some (.int .i64 6)) none).run Tryz.prog wx = .ok (.string (cut3 t 1)) wx :=
  run_slice_string (P := Tryz.prog) wx 9 t .i64 .i64 3 6 Tryz.underlying9 (by omega) (by omega) (by omega)
theorem cut_at2 (t : ByteArray) (h : t.size = 9) (wx : World) : (Instr.slice 9 (.string t) (some (.int .i64 6)) (some (.int .i64 9)) none).run Tryz.prog wx = .ok (.string (cut3 t 2)) wx :=
  run_slice_string (P := Tryz.prog) wx 9 t .i64 .i64 6 9 Tryz.underlying9 (by omega) (by omega) (by omega)

set_option maxHeartbeats 6400000 in
set_option maxRecDepth 100000 in
theorem iRdPrf_any (t : ByteArray) (_hm : t.size ≤ 9223372036854775807) (w : World) :
    Calls Tryz.prog 16 #[.string t] w fun e w' => e = .returned (.tuple #[.agg (rdV t), .bool (rdOk t)]) ∧ Below w.heap.size w w' := by
  obtain ⟨W, hW, hb, hr, hx⟩ := boxes1r w 44 99 #[.int .i64 0, .int .i64 0, .bool false, .int .i64 0, .int .i64 0, .bool false, .int .i64 0, .int .i64 0, .bool false] #[.int .i64 0, .int .i64 0, .bool false, .int .i64 0, .int .i64 0, .bool false, .int .i64 0, .int .i64 0, .bool false]
  by_cases hs : t.size = 9
  · have hsi : (t.size : Int) = 9 := by omega
    have HNO : Hid (∀ j, j < 3 → ((rdPt (cut3 t j)).2 = false ∨ inGB (rdPt (cut3 t j)).1 = false) → rdOk t = false ∧ rdV t = #[.int .i64 0, .int .i64 0, .bool false, .int .i64 0, .int .i64 0, .bool false, .int .i64 0, .int .i64 0, .bool false]) := fun j hj h => ⟨rd_not hj h, rdV_no (rd_not hj h)⟩
    have HYES : Hid ((∀ j, j < 3 → (rdPt (cut3 t j)).2 = true ∧ inGB (rdPt (cut3 t j)).1 = true) → rdOk t = true ∧ rdV t = prfC (rdN t 3 0) (rdN t 3 1) (rdN t 3 2)) := fun h => ⟨rd_all hs h, rdV_yes (rd_all hs h)⟩
    have HC : Hid (((∀ wx, (Instr.slice 9 (.string t) (some (.int .i64 0)) (some (.int .i64 3)) none).run Tryz.prog wx = .ok (.string (cut3 t 0)) wx) ∧ ∀ wx, (Instr.slice 9 (.string t) (some (.int .i64 3)) (some (.int .i64 6)) none).run Tryz.prog wx = .ok (.string (cut3 t 1)) wx) ∧ ∀ wx, (Instr.slice 9 (.string t) (some (.int .i64 6)) (some (.int .i64 9)) none).run Tryz.prog wx = .ok (.string (cut3 t 2)) wx) := ⟨⟨cut_at0 t hs, cut_at1 t hs⟩, cut_at2 t hs⟩
    have HRD : Hid (∀ (k : Nat) (w : World), Calls Tryz.prog 64 #[.string (cut3 t k)] w fun e w' => e = .returned (rv (rdPt (cut3 t k))) ∧ Below w.heap.size w w') := fun k => iRead_any (cut3 t k) (by have := cut3_size t k; omega)
    obtain ⟨ok, hok⟩ : ∃ ok, ok = rdOk t := ⟨_, rfl⟩
    obtain ⟨vv, hvv⟩ : ∃ vv, vv = rdV t := ⟨_, rfl⟩
    rw [← hok, ← hvv]
    rw [← hok, ← hvv] at HNO HYES
    clear hok hvv hs
    go_enter Tryz.func16, Tryz.ntmps16
    go_wp2_with (refine store_blk (cs' := #[.int .i64 0, .int .i64 0, .bool false, .int .i64 0, .int .i64 0, .bool false, .int .i64 0, .int .i64 0, .bool false]) rfl rfl rfl rfl rfl hx infoPp rfl (ones9 (0, 0, false) (0, 0, false) (0, 0, false)) ?_; intro V0 hx0 hoth hbel; have hb0 := hbel _ _ (by omega) hb; have hr0 := hoth _ _ _ (by omega) hr; clear hoth hbel)
    have H0 : Hid (RdSt t w V0 0) := ⟨hb0, hr0, hx0, fun j hj => absurd hj (by omega)⟩
    clear hW hb hr hx hb0 hr0 hx0
    go_loopw [13] (fun i wr => ∃ k : Nat, i = .int .i64 (k : Int) ∧ k ≤ 3 ∧ Hid (RdSt t w wr k)) (fun i _ => 3 - (intOf i).toNat)
    case atStart => exact ⟨0, rfl, by omega, H0⟩
    case round =>
      obtain ⟨k, rfl, hk, HS⟩ := hrel
      clear H0
      have hs0 : w.heap.size + 1 < wr.heap.size := HS.out.pts.lt
      by_cases hlt : k < 3
      · rcases (show k = 0 ∨ k = 1 ∨ k = 2 by omega) with rfl | rfl | rfl
        · have hc := HC.out.1.1
          have S : Hid (∀ w, Calls Tryz.prog 64 #[.string (cut3 t 0)] w fun e w' => e = .returned (rv (rdPt (cut3 t 0))) ∧ Below w.heap.size w w') := HRD.out 0
          have CI : Hid (∀ w, Calls Tryz.prog 65 #[pv (rdPt (cut3 t 0)).1] w fun e w' => e = .returned (.bool (inGB (rdPt (cut3 t 0)).1)) ∧ Below w.heap.size w w') := iInG_any (rdPt (cut3 t 0)).1
          have HP : Hid (prfC (rdN t 1 0) (rdN t 1 1) (rdN t 1 2) = prfC (rdPt (cut3 t 0)).1 (rdN t 0 1) (rdN t 0 2)) := rfl
          have HNk : Hid (((rdPt (cut3 t 0)).2 = false ∨ inGB (rdPt (cut3 t 0)).1 = false) → ok = false ∧ vv = #[.int .i64 0, .int .i64 0, .bool false, .int .i64 0, .int .i64 0, .bool false, .int .i64 0, .int .i64 0, .bool false]) := HNO.out 0 (by decide)
          have HOKk : Hid ((rdPt (cut3 t 0)).2 = true → inGB (rdPt (cut3 t 0)).1 = true → ∀ j, j < 1 → (rdPt (cut3 t j)).2 = true ∧ inGB (rdPt (cut3 t j)).1 = true) := fun h1 h2 j hj => by
            by_cases e : j = 0
            · subst e; exact ⟨h1, h2⟩
            · exact HS.out.oks j (by omega)
          generalize rdPt (cut3 t 0) = R at S CI HP HNk HOKk
          generalize cut3 t 0 = tk at hc S
          obtain ⟨P, o⟩ := R
          unfold rv pv at S
          unfold pv at CI
          simp only at S CI HP HNk HOKk
          go_wp2_with fail
          refine (S.out _).mono ?_
          rintro e w1 ⟨rfl, hb1⟩
          obtain ⟨V1, hV1, hbv1, h1⟩ := box1 w1 35 #[.int .i64 P.1, .int .i64 P.2.1, .bool P.2.2]
          have hc1 := below_then hb1 hbv1
          have HS1 : Hid (Below w.heap.size w V1 ∧ Blk V1 w.heap.size 44 #[.int .i64 0, .int .i64 0, .bool false, .int .i64 0, .int .i64 0, .bool false, .int .i64 0, .int .i64 0, .bool false] ∧ Blk V1 (w.heap.size + 1) 99 (prfC (rdN t 0 0) (rdN t 0 1) (rdN t 0 2))) := ⟨HS.out.bel.trans (hc1.mono HS.out.bel.size), HS.out.res.on hc1 HS.out.res.lt, HS.out.pts.on hc1 HS.out.pts.lt⟩
          have hs1 : w.heap.size + 1 < w1.heap.size := Nat.lt_of_lt_of_le hs0 hb1.size
          clear hb1 hbv1 hc1 S hc
          cases o
          · have hres := HS1.out.2.1
            have hbel1 := HS1.out.1
            have HE := HNk.out (.inl rfl)
            go_wp2_with (refine store_blk (cs' := #[.int .i64 0, .int .i64 0, .bool false, .int .i64 0, .int .i64 0, .bool false, .int .i64 0, .int .i64 0, .bool false]) rfl rfl rfl rfl rfl hres infoPr rfl (ones9 (0, 0, false) (0, 0, false) (0, 0, false)) ?_; intro V8 h8 hoth hbel; have hb8 := hbel _ _ (Nat.le_refl _) hbel1; clear hoth hbel)
            refine bodyPost_ret_by (result_blkT rfl rfl rfl h8 Tryz.underlying44 infoPr) rfl ⟨by rw [HE.1, HE.2]; rfl, hb8⟩
          · have q0 : V1.cell? ⟨w1.heap.size, 0, none⟩ = some (.int .i64 P.1) := h1.cell 0
            have q1 : V1.cell? ⟨w1.heap.size, 1, none⟩ = some (.int .i64 P.2.1) := h1.cell 1
            have q2 : V1.cell? ⟨w1.heap.size, 2, none⟩ = some (.bool P.2.2) := h1.cell 2
            go_wp2_with fail
            clear hV1 q0 q1 q2
            refine (CI.out _).mono ?_
            rintro e w2 ⟨rfl, hb2⟩
            have hbel2 := below_then HS1.out.1 hb2
            have hres := HS1.out.2.1.on hb2 HS1.out.2.1.lt
            have hpts := HS1.out.2.2.on hb2 HS1.out.2.2.lt
            have h2 := h1.on hb2 h1.lt
            clear HS1 hb2 h1
            cases hin : inGB P
            · have HE := HNk.out (.inr hin)
              go_wp2_with (refine store_blk (cs' := #[.int .i64 0, .int .i64 0, .bool false, .int .i64 0, .int .i64 0, .bool false, .int .i64 0, .int .i64 0, .bool false]) rfl rfl rfl rfl rfl hres infoPr rfl (ones9 (0, 0, false) (0, 0, false) (0, 0, false)) ?_; intro V8 h8 hoth hbel; have hb8 := hbel _ _ (Nat.le_refl _) hbel2; clear hoth hbel)
              refine bodyPost_ret_by (result_blkT rfl rfl rfl h8 Tryz.underlying44 infoPr) rfl ⟨by rw [HE.1, HE.2]; rfl, hb8⟩
            · have a0 : w2.cell? ⟨w.heap.size + 1, 0, none⟩ = some (.int .i64 (rdN t 0 0).1) := hpts.cell 0
              have a1 : w2.cell? ⟨w.heap.size + 1, 1, none⟩ = some (.int .i64 (rdN t 0 0).2.1) := hpts.cell 1
              have a2 : w2.cell? ⟨w.heap.size + 1, 2, none⟩ = some (.bool (rdN t 0 0).2.2) := hpts.cell 2
              have f0 := hpts.free 0
              have f1 := hpts.free 1
              have f2 := hpts.free 2
              have HS3 : Hid (RdSt t w (((w2.setCell ⟨w.heap.size + 1, 0, none⟩ (.int .i64 P.1)).setCell ⟨w.heap.size + 1, 1, none⟩ (.int .i64 P.2.1)).setCell ⟨w.heap.size + 1, 2, none⟩ (.bool P.2.2)) 1) := ⟨below_set3 hbel2 (by omega) _ _ _, hres.other3r (by omega) _ _ _, by rw [HP.out]; exact hpts.set3r 0 _ _ _, HOKk.out (by trivial) hin⟩
              clear HP HNk HOKk hbel2 hres hpts HS CI
              go_wp2_with (refine load_blk rfl rfl rfl h2 Tryz.underlying35 infoP ?_)
              go_roundw
              case rel => exact ⟨1, by go_num, by omega, HS3⟩
              case measure => simp [intOf]
        · have hc := HC.out.1.2
          have S : Hid (∀ w, Calls Tryz.prog 64 #[.string (cut3 t 1)] w fun e w' => e = .returned (rv (rdPt (cut3 t 1))) ∧ Below w.heap.size w w') := HRD.out 1
          have CI : Hid (∀ w, Calls Tryz.prog 65 #[pv (rdPt (cut3 t 1)).1] w fun e w' => e = .returned (.bool (inGB (rdPt (cut3 t 1)).1)) ∧ Below w.heap.size w w') := iInG_any (rdPt (cut3 t 1)).1
          have HP : Hid (prfC (rdN t 2 0) (rdN t 2 1) (rdN t 2 2) = prfC (rdN t 1 0) (rdPt (cut3 t 1)).1 (rdN t 1 2)) := rfl
          have HNk : Hid (((rdPt (cut3 t 1)).2 = false ∨ inGB (rdPt (cut3 t 1)).1 = false) → ok = false ∧ vv = #[.int .i64 0, .int .i64 0, .bool false, .int .i64 0, .int .i64 0, .bool false, .int .i64 0, .int .i64 0, .bool false]) := HNO.out 1 (by decide)
          have HOKk : Hid ((rdPt (cut3 t 1)).2 = true → inGB (rdPt (cut3 t 1)).1 = true → ∀ j, j < 2 → (rdPt (cut3 t j)).2 = true ∧ inGB (rdPt (cut3 t j)).1 = true) := fun h1 h2 j hj => by
            by_cases e : j = 1
            · subst e; exact ⟨h1, h2⟩
            · exact HS.out.oks j (by omega)
          generalize rdPt (cut3 t 1) = R at S CI HP HNk HOKk
          generalize cut3 t 1 = tk at hc S
          obtain ⟨P, o⟩ := R
          unfold rv pv at S
          unfold pv at CI
          simp only at S CI HP HNk HOKk
          go_wp2_with fail
          refine (S.out _).mono ?_
          rintro e w1 ⟨rfl, hb1⟩
          obtain ⟨V1, hV1, hbv1, h1⟩ := box1 w1 35 #[.int .i64 P.1, .int .i64 P.2.1, .bool P.2.2]
          have hc1 := below_then hb1 hbv1
          have HS1 : Hid (Below w.heap.size w V1 ∧ Blk V1 w.heap.size 44 #[.int .i64 0, .int .i64 0, .bool false, .int .i64 0, .int .i64 0, .bool false, .int .i64 0, .int .i64 0, .bool false] ∧ Blk V1 (w.heap.size + 1) 99 (prfC (rdN t 1 0) (rdN t 1 1) (rdN t 1 2))) := ⟨HS.out.bel.trans (hc1.mono HS.out.bel.size), HS.out.res.on hc1 HS.out.res.lt, HS.out.pts.on hc1 HS.out.pts.lt⟩
          have hs1 : w.heap.size + 1 < w1.heap.size := Nat.lt_of_lt_of_le hs0 hb1.size
          clear hb1 hbv1 hc1 S hc
          cases o
          · have hres := HS1.out.2.1
            have hbel1 := HS1.out.1
            have HE := HNk.out (.inl rfl)
            go_wp2_with (refine store_blk (cs' := #[.int .i64 0, .int .i64 0, .bool false, .int .i64 0, .int .i64 0, .bool false, .int .i64 0, .int .i64 0, .bool false]) rfl rfl rfl rfl rfl hres infoPr rfl (ones9 (0, 0, false) (0, 0, false) (0, 0, false)) ?_; intro V8 h8 hoth hbel; have hb8 := hbel _ _ (Nat.le_refl _) hbel1; clear hoth hbel)
            refine bodyPost_ret_by (result_blkT rfl rfl rfl h8 Tryz.underlying44 infoPr) rfl ⟨by rw [HE.1, HE.2]; rfl, hb8⟩
          · have q0 : V1.cell? ⟨w1.heap.size, 0, none⟩ = some (.int .i64 P.1) := h1.cell 0
            have q1 : V1.cell? ⟨w1.heap.size, 1, none⟩ = some (.int .i64 P.2.1) := h1.cell 1
            have q2 : V1.cell? ⟨w1.heap.size, 2, none⟩ = some (.bool P.2.2) := h1.cell 2
            go_wp2_with fail
            clear hV1 q0 q1 q2
            refine (CI.out _).mono ?_
            rintro e w2 ⟨rfl, hb2⟩
            have hbel2 := below_then HS1.out.1 hb2
            have hres := HS1.out.2.1.on hb2 HS1.out.2.1.lt
            have hpts := HS1.out.2.2.on hb2 HS1.out.2.2.lt
            have h2 := h1.on hb2 h1.lt
            clear HS1 hb2 h1
            cases hin : inGB P
            · have HE := HNk.out (.inr hin)
              go_wp2_with (refine store_blk (cs' := #[.int .i64 0, .int .i64 0, .bool false, .int .i64 0, .int .i64 0, .bool false, .int .i64 0, .int .i64 0, .bool false]) rfl rfl rfl rfl rfl hres infoPr rfl (ones9 (0, 0, false) (0, 0, false) (0, 0, false)) ?_; intro V8 h8 hoth hbel; have hb8 := hbel _ _ (Nat.le_refl _) hbel2; clear hoth hbel)
              refine bodyPost_ret_by (result_blkT rfl rfl rfl h8 Tryz.underlying44 infoPr) rfl ⟨by rw [HE.1, HE.2]; rfl, hb8⟩
            · have a0 : w2.cell? ⟨w.heap.size + 1, 3, none⟩ = some (.int .i64 (rdN t 1 1).1) := hpts.cell 3
              have a1 : w2.cell? ⟨w.heap.size + 1, 4, none⟩ = some (.int .i64 (rdN t 1 1).2.1) := hpts.cell 4
              have a2 : w2.cell? ⟨w.heap.size + 1, 5, none⟩ = some (.bool (rdN t 1 1).2.2) := hpts.cell 5
              have f0 := hpts.free 3
              have f1 := hpts.free 4
              have f2 := hpts.free 5
              have HS3 : Hid (RdSt t w (((w2.setCell ⟨w.heap.size + 1, 3, none⟩ (.int .i64 P.1)).setCell ⟨w.heap.size + 1, 4, none⟩ (.int .i64 P.2.1)).setCell ⟨w.heap.size + 1, 5, none⟩ (.bool P.2.2)) 2) := ⟨below_set3 hbel2 (by omega) _ _ _, hres.other3r (by omega) _ _ _, by rw [HP.out]; exact hpts.set3r 3 _ _ _, HOKk.out (by trivial) hin⟩
              clear HP HNk HOKk hbel2 hres hpts HS CI
              go_wp2_with (refine load_blk rfl rfl rfl h2 Tryz.underlying35 infoP ?_)
              go_roundw
              case rel => exact ⟨2, by go_num, by omega, HS3⟩
              case measure => simp [intOf]
        · have hc := HC.out.2
          have S : Hid (∀ w, Calls Tryz.prog 64 #[.string (cut3 t 2)] w fun e w' => e = .returned (rv (rdPt (cut3 t 2))) ∧ Below w.heap.size w w') := HRD.out 2
          have CI : Hid (∀ w, Calls Tryz.prog 65 #[pv (rdPt (cut3 t 2)).1] w fun e w' => e = .returned (.bool (inGB (rdPt (cut3 t 2)).1)) ∧ Below w.heap.size w w') := iInG_any (rdPt (cut3 t 2)).1
          have HP : Hid (prfC (rdN t 3 0) (rdN t 3 1) (rdN t 3 2) = prfC (rdN t 2 0) (rdN t 2 1) (rdPt (cut3 t 2)).1) := rfl
          have HNk : Hid (((rdPt (cut3 t 2)).2 = false ∨ inGB (rdPt (cut3 t 2)).1 = false) → ok = false ∧ vv = #[.int .i64 0, .int .i64 0, .bool false, .int .i64 0, .int .i64 0, .bool false, .int .i64 0, .int .i64 0, .bool false]) := HNO.out 2 (by decide)
          have HOKk : Hid ((rdPt (cut3 t 2)).2 = true → inGB (rdPt (cut3 t 2)).1 = true → ∀ j, j < 3 → (rdPt (cut3 t j)).2 = true ∧ inGB (rdPt (cut3 t j)).1 = true) := fun h1 h2 j hj => by
            by_cases e : j = 2
            · subst e; exact ⟨h1, h2⟩
            · exact HS.out.oks j (by omega)
          generalize rdPt (cut3 t 2) = R at S CI HP HNk HOKk
          generalize cut3 t 2 = tk at hc S
          obtain ⟨P, o⟩ := R
          unfold rv pv at S
          unfold pv at CI
          simp only at S CI HP HNk HOKk
          go_wp2_with fail
          refine (S.out _).mono ?_
          rintro e w1 ⟨rfl, hb1⟩
          obtain ⟨V1, hV1, hbv1, h1⟩ := box1 w1 35 #[.int .i64 P.1, .int .i64 P.2.1, .bool P.2.2]
          have hc1 := below_then hb1 hbv1
          have HS1 : Hid (Below w.heap.size w V1 ∧ Blk V1 w.heap.size 44 #[.int .i64 0, .int .i64 0, .bool false, .int .i64 0, .int .i64 0, .bool false, .int .i64 0, .int .i64 0, .bool false] ∧ Blk V1 (w.heap.size + 1) 99 (prfC (rdN t 2 0) (rdN t 2 1) (rdN t 2 2))) := ⟨HS.out.bel.trans (hc1.mono HS.out.bel.size), HS.out.res.on hc1 HS.out.res.lt, HS.out.pts.on hc1 HS.out.pts.lt⟩
          have hs1 : w.heap.size + 1 < w1.heap.size := Nat.lt_of_lt_of_le hs0 hb1.size
          clear hb1 hbv1 hc1 S hc
          cases o
          · have hres := HS1.out.2.1
            have hbel1 := HS1.out.1
            have HE := HNk.out (.inl rfl)
            go_wp2_with (refine store_blk (cs' := #[.int .i64 0, .int .i64 0, .bool false, .int .i64 0, .int .i64 0, .bool false, .int .i64 0, .int .i64 0, .bool false]) rfl rfl rfl rfl rfl hres infoPr rfl (ones9 (0, 0, false) (0, 0, false) (0, 0, false)) ?_; intro V8 h8 hoth hbel; have hb8 := hbel _ _ (Nat.le_refl _) hbel1; clear hoth hbel)
            refine bodyPost_ret_by (result_blkT rfl rfl rfl h8 Tryz.underlying44 infoPr) rfl ⟨by rw [HE.1, HE.2]; rfl, hb8⟩
          · have q0 : V1.cell? ⟨w1.heap.size, 0, none⟩ = some (.int .i64 P.1) := h1.cell 0
            have q1 : V1.cell? ⟨w1.heap.size, 1, none⟩ = some (.int .i64 P.2.1) := h1.cell 1
            have q2 : V1.cell? ⟨w1.heap.size, 2, none⟩ = some (.bool P.2.2) := h1.cell 2
            go_wp2_with fail
            clear hV1 q0 q1 q2
            refine (CI.out _).mono ?_
            rintro e w2 ⟨rfl, hb2⟩
            have hbel2 := below_then HS1.out.1 hb2
            have hres := HS1.out.2.1.on hb2 HS1.out.2.1.lt
            have hpts := HS1.out.2.2.on hb2 HS1.out.2.2.lt
            have h2 := h1.on hb2 h1.lt
            clear HS1 hb2 h1
            cases hin : inGB P
            · have HE := HNk.out (.inr hin)
              go_wp2_with (refine store_blk (cs' := #[.int .i64 0, .int .i64 0, .bool false, .int .i64 0, .int .i64 0, .bool false, .int .i64 0, .int .i64 0, .bool false]) rfl rfl rfl rfl rfl hres infoPr rfl (ones9 (0, 0, false) (0, 0, false) (0, 0, false)) ?_; intro V8 h8 hoth hbel; have hb8 := hbel _ _ (Nat.le_refl _) hbel2; clear hoth hbel)
              refine bodyPost_ret_by (result_blkT rfl rfl rfl h8 Tryz.underlying44 infoPr) rfl ⟨by rw [HE.1, HE.2]; rfl, hb8⟩
            · have a0 : w2.cell? ⟨w.heap.size + 1, 6, none⟩ = some (.int .i64 (rdN t 2 2).1) := hpts.cell 6
              have a1 : w2.cell? ⟨w.heap.size + 1, 7, none⟩ = some (.int .i64 (rdN t 2 2).2.1) := hpts.cell 7
              have a2 : w2.cell? ⟨w.heap.size + 1, 8, none⟩ = some (.bool (rdN t 2 2).2.2) := hpts.cell 8
              have f0 := hpts.free 6
              have f1 := hpts.free 7
              have f2 := hpts.free 8
              have HS3 : Hid (RdSt t w (((w2.setCell ⟨w.heap.size + 1, 6, none⟩ (.int .i64 P.1)).setCell ⟨w.heap.size + 1, 7, none⟩ (.int .i64 P.2.1)).setCell ⟨w.heap.size + 1, 8, none⟩ (.bool P.2.2)) 3) := ⟨below_set3 hbel2 (by omega) _ _ _, hres.other3r (by omega) _ _ _, by rw [HP.out]; exact hpts.set3r 6 _ _ _, HOKk.out (by trivial) hin⟩
              clear HP HNk HOKk hbel2 hres hpts HS CI
              go_wp2_with (refine load_blk rfl rfl rfl h2 Tryz.underlying35 infoP ?_)
              go_roundw
              case rel => exact ⟨3, by go_num, by omega, HS3⟩
              case measure => simp [intOf]
      · have hk3 : k = 3 := by omega
        subst hk3
        have HE := HYES.out HS.out.oks
        have hpts := HS.out.pts
        have hres := HS.out.res
        have hbel := HS.out.bel
        have CP : Hid (∀ V, Calls Tryz.prog 66 #[.agg (prfC (rdN t 3 0) (rdN t 3 1) (rdN t 3 2))] V fun e w' => e = .returned (.agg (prfC (rdN t 3 0) (rdN t 3 1) (rdN t 3 2))) ∧ Below V.heap.size V w') := proofOf_any _ _ _
        have HE1 : Hid (ok = true ∧ vv = prfC (rdN t 3 0) (rdN t 3 1) (rdN t 3 2)) := HE
        clear HE HS
        generalize rdN t 3 0 = A at *
        generalize rdN t 3 1 = B at *
        generalize rdN t 3 2 = C at *
        go_wp2_with (refine load_blkA rfl rfl rfl hpts Tryz.underlying99 infoPp ?_)
        refine (CP.out _).mono ?_
        rintro e w3 ⟨rfl, hb3⟩
        have hres3 := hres.on hb3 hres.lt
        have hbel3 := below_then hbel hb3
        go_wp2_with (refine store_blk (cs' := prfC A B C) rfl rfl rfl rfl rfl hres3 infoPr rfl (ones9 A B C) ?_; intro V8 h8 hoth hbel'; have hb8 := hbel' _ _ (Nat.le_refl _) hbel3; clear hoth hbel')
        refine bodyPost_ret_by (result_blkT rfl rfl rfl h8 Tryz.underlying44 infoPr) rfl ⟨by rw [HE1.out.1, HE1.out.2]; rfl, hb8⟩
  · have hsi : ¬ (t.size : Int) = 9 := by omega
    have e0 : rdOk t = false := by unfold rdOk; rw [decide_eq_false hs, Bool.false_and]
    rw [rdV_no e0, e0]
    go_enter Tryz.func16, Tryz.ntmps16
    go_wp2_with (first | (refine store_blk (cs' := #[.int .i64 0, .int .i64 0, .bool false, .int .i64 0, .int .i64 0, .bool false, .int .i64 0, .int .i64 0, .bool false]) rfl rfl rfl rfl rfl hx infoPp rfl (ones9 (0, 0, false) (0, 0, false) (0, 0, false)) ?_; intro V0 hx0 hoth hbel; have hb0 := hbel _ _ (by omega) hb; have hr0 := hoth _ _ _ (by omega) hr; clear hoth hbel) | (refine store_blk (cs' := #[.int .i64 0, .int .i64 0, .bool false, .int .i64 0, .int .i64 0, .bool false, .int .i64 0, .int .i64 0, .bool false]) rfl rfl rfl rfl rfl hr0 infoPr rfl (ones9 (0, 0, false) (0, 0, false) (0, 0, false)) ?_; intro V8 h8 hoth hbel; have hb8 := hbel _ _ (Nat.le_refl _) hb0; clear hoth hbel))
    refine bodyPost_ret_by (result_blkT rfl rfl rfl h8 Tryz.underlying44 infoPr) rfl ⟨rfl, hb8⟩

end Go.Proofs.YthnahalboomkoaaGreat

/-
  The cursor over the bytes of a draw.
  (-DROP-: what the seat lacks is left out.)
-/
namespace Go.Proofs.YthnahalboomkoaaGreat
open Go.RowKit

theorem and_255 (z : Int) : 0 ≤ bits .and .i64 z 255 ∧ bits .and .i64 z 255 ≤ 255 := by
  have e : bits .and .i64 z 255 = IntKind.i64.wrap ((BitVec.ofInt 64 z &&& BitVec.ofInt 64 255).toNat : Int) := rfl
  have h2 : (BitVec.ofInt 64 255).toNat = 255 := by decide
  rw [e, BitVec.toNat_and, h2]
  have hle : (BitVec.ofInt 64 z).toNat &&& 255 ≤ 255 := Nat.and_le_right
  rw [IntWalk.i64_in _ (by omega)]
  omega

/-- The bytes of the draw lie below block c. -/
def ArgAt (w : World) (a : Option Addr) (len c : Nat) : Prop :=
  ∀ j, j < len → ∃ b off z, a = some ⟨b, off, none⟩ ∧ b < c ∧ w.cell? ⟨b, off + j, none⟩ = some (.int .u8 z) ∧ 0 ≤ z ∧ z ≤ 255

/-- Block c is the cursor. -/
def CurAt (w : World) (c : Nat) (a : Option Addr) (len cap : Nat) : Prop :=
  ∃ (i : Nat) (h : Int), i ≤ len ∧ w.heap[c]? = some (.cells #[.slice a len cap, .int .i64 (i : Int), .int .i64 h] 149 (0, 0))

theorem grown_refl (w : World) (row : Option Nat) : w.grownBy w row := ⟨rfl, rfl, rfl, Nat.le_refl _, fun _ _ _ => rfl⟩

theorem grown_drew {w w1 : World} {row : Option Nat} (h : w.grownBy w1 row) : w.grownBy w1.drew row := ⟨h.os, h.tape, h.output, h.size, h.block⟩

theorem grown_drewN {w w1 : World} {row : Option Nat} (h : w.grownBy w1 row) (n : Nat) : w.grownBy (w1.drewN n) row := ⟨h.os, h.tape, h.output, h.size, h.block⟩

theorem grown_set {w w1 : World} {c : Nat} (h : w.grownBy w1 (some c)) (j : Nat) (v : Value) : w.grownBy (w1.setCell ⟨c, j, none⟩ v) (some c) :=
  ⟨h.os, h.tape, h.output, by simpa using h.size, fun k hk hne => (heap_setCell_other w1 ⟨c, j, none⟩ k v (fun e => hne (by rw [e]))).trans (h.block k hk hne)⟩

theorem grown_trans {w w1 w2 : World} {row : Option Nat} (h : w.grownBy w1 row) (h2 : w1.grownBy w2 row) : w.grownBy w2 row :=
  ⟨h2.os.trans h.os, h2.tape.trans h.tape, h2.output.trans h.output, Nat.le_trans h.size h2.size, fun k hk hne => (h2.block k (Nat.lt_of_lt_of_le hk h.size) hne).trans (h.block k hk hne)⟩

theorem below_of_grown {w w1 : World} {c : Nat} (h : w.grownBy w1 (some c)) (hc : c ≤ w.heap.size) : Below c w w1 := (Below.refl c w).grown h hc (fun k hk => by cases hk; exact Nat.le_refl _)

theorem ArgAt.on {w w1 : World} {a : Option Addr} {len c : Nat} (h : ArgAt w a len c) (hb : Below c w w1) : ArgAt w1 a len c := fun j hj => by
  obtain ⟨b, off, z, h1, h2, h3, h4⟩ := h j hj
  exact ⟨b, off, z, h1, h2, (hb.cell (p := ⟨b, off + j, none⟩) h2).trans h3, h4⟩

set_option maxHeartbeats 1600000 in
set_option maxRecDepth 100000 in
theorem byte_any (c len cap : Nat) (a : Option Addr) (hm : len ≤ 1048576) (w : World) (hC : CurAt w c a len cap) (hA : ArgAt w a len c) :
    Calls Tryz.prog 45 #[.pointer (some ⟨c, 0, none⟩)] w fun e w' => ∃ x : Int, e = .returned (.int .i64 x) ∧ 0 ≤ x ∧ x ≤ 255 ∧ CurAt w' c a len cap ∧ w.grownBy w' (some c) := by
  obtain ⟨i, h, hi, hblk⟩ := hC
  have c0 : w.cell? ⟨c, 0, none⟩ = some (.slice a len cap) := by simpa using cell_of_row w c 0 _ 149 (0, 0) hblk
  have c1 : w.cell? ⟨c, 1, none⟩ = some (.int .i64 (i : Int)) := by simpa using cell_of_row w c 1 _ 149 (0, 0) hblk
  have c2 : w.cell? ⟨c, 2, none⟩ = some (.int .i64 h) := by simpa using cell_of_row w c 2 _ 149 (0, 0) hblk
  have f1 := frozen_of_row w c 1 _ 149 hblk
  have f2 := frozen_of_row w c 2 _ 149 hblk
  have HB : Hid (w.heap[c]? = some (.cells #[.slice a len cap, .int .i64 (i : Int), .int .i64 h] 149 (0, 0))) := hblk
  clear hblk
  by_cases hlt : i < len
  · obtain ⟨b, off, z, ha, hbc, hz, hz0, hz1⟩ := hA i hlt
    subst ha
    have hlt' : (i : Int) < (len : Int) := by omega
    have hi0 : (0 : Int) ≤ (i : Int) := by omega
    have hne : b ≠ c := by omega
    go_enter Tryz.func45, Tryz.ntmps45
    go_wp2_with fail
    go_quiet (fail)
    go_wp2_with fail
    go_quiet (fail)
    go_wp2_with fail
    go_quiet (fail)
    go_wp2
    go_ret
    refine ⟨_, rfl, (and_255 _).1, (and_255 _).2, ⟨i + 1, wrap64 (wrap64 (h * 6364136223846793005) + 1442695040888963407), hlt, ?_⟩, ?_⟩
    · have hb2 := heap_setCell_same w c 2 _ 149 (.int .i64 (wrap64 (wrap64 (h * 6364136223846793005) + 1442695040888963407))) HB.out
      exact (heap_setCell_same _ c 1 _ 149 _ hb2).trans rfl
    · exact grown_set (grown_drewN (grown_set (grown_refl w _) 2 _) _) 1 _
  · have hlt' : ¬ (i : Int) < (len : Int) := by omega
    go_enter Tryz.func45, Tryz.ntmps45
    go_wp2_with fail
    go_quiet (fail)
    go_wp2_with fail
    go_quiet (fail)
    go_wp2
    go_ret
    refine ⟨_, rfl, (and_255 _).1, (and_255 _).2, ⟨i, wrap64 (wrap64 (h * 6364136223846793005) + 1442695040888963407), hi, ?_⟩, ?_⟩
    · exact (heap_setCell_same w c 2 _ 149 _ HB.out).trans rfl
    · exact grown_drewN (grown_drewN (grown_set (grown_refl w _) 2 _) _) _

/-- What a function of the cursor leaves. -/
structure CurEnd (w w' : World) (c : Nat) (a : Option Addr) (len cap : Nat) : Prop where
  cur : CurAt w' c a len cap
  arg : ArgAt w' a len c
  grown : w.grownBy w' (some c)

theorem CurAt.lt {w : World} {c len cap : Nat} {a : Option Addr} (h : CurAt w c a len cap) : c < w.heap.size := by
  obtain ⟨i, hh, _, hb⟩ := h
  rcases Nat.lt_or_ge c w.heap.size with x | x
  · exact x
  · rw [Array.getElem?_eq_none x] at hb; cases hb

theorem byte_end (c len cap : Nat) (a : Option Addr) (hm : len ≤ 1048576) (w : World) (hC : CurAt w c a len cap) (hA : ArgAt w a len c) :
    Calls Tryz.prog 45 #[.pointer (some ⟨c, 0, none⟩)] w fun e w' => ∃ x : Int, e = .returned (.int .i64 x) ∧ 0 ≤ x ∧ x ≤ 255 ∧ CurEnd w w' c a len cap :=
  (byte_any c len cap a hm w hC hA).mono fun _ _ ⟨x, h1, h2, h3, h4, h5⟩ => ⟨x, h1, h2, h3, ⟨h4, hA.on (below_of_grown h5 (Nat.le_of_lt hC.lt)), h5⟩⟩

theorem CurEnd.trans {w w1 w2 : World} {c len cap : Nat} {a : Option Addr} (h : CurEnd w w1 c a len cap) (h2 : CurEnd w1 w2 c a len cap) : CurEnd w w2 c a len cap :=
  ⟨h2.cur, h2.arg, grown_trans h.grown h2.grown⟩

theorem CurEnd.refl {w : World} {c len cap : Nat} {a : Option Addr} (hC : CurAt w c a len cap) (hA : ArgAt w a len c) : CurEnd w w c a len cap := ⟨hC, hA, grown_refl _ _⟩

set_option maxHeartbeats 800000 in
set_option maxRecDepth 100000 in
theorem below_any (c len cap : Nat) (a : Option Addr) (hm : len ≤ 1048576) (n : Int) (hn : 0 < n) (hn2 : n ≤ 1000000000000) (w : World) (hC : CurAt w c a len cap) (hA : ArgAt w a len c) :
    Calls Tryz.prog 46 #[.pointer (some ⟨c, 0, none⟩), .int .i64 n] w fun e w' => ∃ x : Int, e = .returned (.int .i64 x) ∧ 0 ≤ x ∧ x < n ∧ CurEnd w w' c a len cap := by
  have h0 : ¬ n ≤ 0 := by omega
  have HA : Hid (ArgAt w a len c) := hA
  have HC : Hid (CurAt w c a len cap) := hC
  clear hA hC
  by_cases h2 : n ≤ 256
  · go_enter Tryz.func46, Tryz.ntmps46
    go_wp2_with fail
    refine (byte_end c len cap a hm _ HC.out HA.out).mono ?_
    rintro e w1 ⟨x, rfl, x0, x1, hE⟩
    have HE : Hid (CurEnd w w1 c a len cap) := hE
    clear hE
    go_wp2
    go_ret
    exact ⟨_, rfl, Int.emod_nonneg _ (by omega), Int.emod_lt_of_pos _ hn, HE.out⟩
  · go_enter Tryz.func46, Tryz.ntmps46
    go_wp2_with fail
    refine (byte_end c len cap a hm _ HC.out HA.out).mono ?_
    rintro e w1 ⟨x, rfl, x0, x1, hE⟩
    have HE : Hid (CurEnd w w1 c a len cap) := hE
    clear hE
    go_wp2_with fail
    refine (byte_end c len cap a hm _ HE.out.cur HE.out.arg).mono ?_
    rintro e w2 ⟨y, rfl, y0, y1, hE⟩
    have HE2 : Hid (CurEnd w w2 c a len cap) := HE.out.trans hE
    clear hE
    go_wp2_with fail
    refine (byte_end c len cap a hm _ HE2.out.cur HE2.out.arg).mono ?_
    rintro e w3 ⟨z, rfl, z0, z1, hE⟩
    have HE3 : Hid (CurEnd w w3 c a len cap) := HE2.out.trans hE
    clear hE
    go_wp2_with fail
    refine (byte_end c len cap a hm _ HE3.out.cur HE3.out.arg).mono ?_
    rintro e w4 ⟨u, rfl, u0, u1, hE⟩
    have HE4 : Hid (CurEnd w w4 c a len cap) := HE3.out.trans hE
    clear hE
    go_wp2
    go_ret
    exact ⟨_, rfl, Int.emod_nonneg _ (by omega), Int.emod_lt_of_pos _ hn, HE4.out⟩

end Go.Proofs.YthnahalboomkoaaGreat

/-
  The draws: a new cursor, whether, a pick of ints, a text.
  (-DROP-: what the seat lacks is left out.)
-/
namespace Go.Proofs.YthnahalboomkoaaGreat
open Go.RowKit

set_option maxHeartbeats 800000 in
set_option maxRecDepth 100000 in
theorem new_any (len cap : Nat) (a : Option Addr) (hm : len ≤ 1048576) (w : World) (hA : ArgAt w a len w.heap.size) :
    Calls Tryz.prog 43 #[.slice a len cap] w fun e w' => e = .returned (.pointer (some ⟨w.heap.size, 0, none⟩)) ∧ CurAt w' w.heap.size a len cap ∧ ArgAt w' a len w.heap.size ∧ Below w.heap.size w w' := by
  go_enter Tryz.func43, Tryz.ntmps43
  go_wp2
  go_loop [3, 4] (fun x i => ∃ (h : Int) (k : Nat), x = .int .i64 h ∧ i = .int .i64 (k : Int) ∧ k ≤ len) (fun _ i => len - (intOf i).toNat)
  case atStart => exact ⟨_, 0, rfl, rfl, Nat.zero_le _⟩
  case round =>
    obtain ⟨h, k, rfl, rfl, hk⟩ := hrel
    have fin : ∀ w', w' = w.alloc (.cells #[.slice a len cap, .int .i64 0, .int .i64 h] 149) → CurAt w' w.heap.size a len cap ∧ ArgAt w' a len w.heap.size ∧ Below w.heap.size w w' := by
      intro w' hw
      have hb : Below w.heap.size w w' := by rw [hw]; exact (Below.refl _ _).alloc (Nat.le_refl _) _
      exact ⟨⟨0, h, Nat.zero_le _, by rw [hw]; exact heap_alloc_new w _⟩, hA.on hb, hb⟩
    have FIN : Hid (∀ w', w' = w.alloc (.cells #[.slice a len cap, .int .i64 0, .int .i64 h] 149) → CurAt w' w.heap.size a len cap ∧ ArgAt w' a len w.heap.size ∧ Below w.heap.size w w') := fin
    clear fin
    by_cases hlt : k < len
    · have hlt' : (k : Int) < (len : Int) := by omega
      by_cases h4 : k < 4000
      · have h4' : (k : Int) < 4000 := by omega
        obtain ⟨b, off, z, ha, hbc, hz, hz0, hz1⟩ := hA k hlt
        subst ha
        have hk0 : (0 : Int) ≤ (k : Int) := by omega
        go_wp2
        go_round
        case rel => exact ⟨_, k + 1, rfl, by go_num, hlt⟩
        case measure => simp [intOf]; omega
      · have h4' : ¬ (k : Int) < 4000 := by omega
        go_wp2
        go_ret
        exact ⟨rfl, FIN.out _ rfl⟩
    · have hlt' : ¬ (k : Int) < (len : Int) := by omega
      go_wp2
      go_ret
      exact ⟨rfl, FIN.out _ rfl⟩

theorem CurEnd.alloc {w w1 : World} {c len cap : Nat} {a : Option Addr} (h : CurEnd w w1 c a len cap) (o : Obj) : CurEnd w (w1.alloc o) c a len cap := by
  have hlt := h.cur.lt
  obtain ⟨i, hh, hi, hb⟩ := h.cur
  exact ⟨⟨i, hh, hi, (Below.heap_alloc w1 o c hlt).trans hb⟩, h.arg.on ((Below.refl c w1).alloc (Nat.le_of_lt hlt) o), grown_trans h.grown (World.grownBy_alloc _ _ _)⟩

/-- The cursor behind an append to a row above it. -/
theorem CurEnd.push {w w1 w2 : World} {c len cap : Nat} {a : Option Addr} {row : Option Nat} (h : CurEnd w w1 c a len cap) (hg : w1.grownBy w2 row) (hr : ∀ k, row = some k → c < k) (hw : ∀ k, row = some k → w.heap.size ≤ k) : CurEnd w w2 c a len cap := by
  have hlt := h.cur.lt
  obtain ⟨i, hh, hi, hb⟩ := h.cur
  have hne : some c ≠ row := fun e => by have := hr c e.symm; omega
  refine ⟨⟨i, hh, hi, (hg.block c hlt hne).trans hb⟩, h.arg.on ((Below.refl c w1).grown hg (Nat.le_of_lt hlt) (fun k hk => Nat.le_of_lt (hr k hk))), ?_⟩
  refine ⟨hg.os.trans h.grown.os, hg.tape.trans h.grown.tape, hg.output.trans h.grown.output, Nat.le_trans h.grown.size hg.size, fun k hk hne2 => ?_⟩
  rw [hg.block k (Nat.lt_of_lt_of_le hk h.grown.size) (fun e => by have := hw k e.symm; omega)]
  exact h.grown.block k hk hne2

set_option maxRecDepth 100000 in
theorem once_any (c len cap : Nat) (a : Option Addr) (hm : len ≤ 1048576) (n : Int) (hn : 0 < n) (hn2 : n ≤ 1000000000000) (w : World) (hC : CurAt w c a len cap) (hA : ArgAt w a len c) :
    Calls Tryz.prog 117 #[.pointer (some ⟨c, 0, none⟩), .int .i64 n] w fun e w' => ∃ x : Bool, e = .returned (.bool x) ∧ CurEnd w w' c a len cap := by
  have HA : Hid (ArgAt w a len c) := hA
  have HC : Hid (CurAt w c a len cap) := hC
  clear hA hC
  go_enter Tryz.func117, Tryz.ntmps117
  go_wp2_with fail
  refine (below_any c len cap a hm n hn hn2 _ HC.out HA.out).mono ?_
  rintro e w1 ⟨x, rfl, x0, x1, hE⟩
  have HE : Hid (CurEnd w w1 c a len cap) := hE
  clear hE
  go_wp2
  go_ret
  exact ⟨_, rfl, HE.out⟩

set_option maxRecDepth 100000 in
theorem pick_any (c len cap : Nat) (a : Option Addr) (hm : len ≤ 1048576) (g n m : Nat) (hn : 0 < n) (hn2 : n ≤ 1000) (w : World) (hC : CurAt w c a len cap) (hA : ArgAt w a len c) (hg : g ≠ c)
    (Q : Int → Prop) (hl : ∀ j, j < n → ∃ z : Int, w.cell? ⟨g, j, none⟩ = some (.int .i64 z) ∧ Q z) :
    Calls Tryz.prog 85 #[.pointer (some ⟨c, 0, none⟩), .slice (some ⟨g, 0, none⟩) n m] w fun e w' => ∃ x : Int, e = .returned (.int .i64 x) ∧ Q x ∧ CurEnd w w' c a len cap := by
  have HA : Hid (ArgAt w a len c) := hA
  have HC : Hid (CurAt w c a len cap) := hC
  have HL : Hid (∀ j, j < n → ∃ z : Int, w.cell? ⟨g, j, none⟩ = some (.int .i64 z) ∧ Q z) := hl
  clear hA hC hl
  go_enter Tryz.func85, Tryz.ntmps85
  go_wp2_with fail
  refine (below_any c len cap a hm (n : Int) (by omega) (by omega) _ HC.out HA.out).mono ?_
  rintro e w1 ⟨x, rfl, x0, x1, hE⟩
  have HE : Hid (CurEnd w w1 c a len cap) := hE
  clear hE
  obtain ⟨k, rfl⟩ : ∃ k : Nat, x = k := ⟨x.toNat, by omega⟩
  obtain ⟨z, hz, hQ⟩ := HL.out k (by omega)
  have HQ : Hid (Q z) := hQ
  have hz1 : w1.cell? ⟨g, k, none⟩ = some (.int .i64 z) := HE.out.grown.cell hz (fun e => hg (Option.some.inj e))
  clear hz hQ
  go_wp2
  go_ret
  exact ⟨_, rfl, HQ.out, HE.out⟩

theorem ints_new (w : World) (zs : List Int) (arr : Array Value) (he : arr = (zs.map (Value.int .i64)).toArray) (Q : Int → Prop) (hQ : ∀ z ∈ zs, Q z) : ∀ j, j < zs.length → ∃ z : Int, (w.alloc (.cells arr 3)).cell? ⟨w.heap.size, j, none⟩ = some (.int .i64 z) ∧ Q z := by
  intro j hj
  refine ⟨zs[j], ?_, hQ _ (List.getElem_mem hj)⟩
  rw [cell_of_row _ w.heap.size j arr 3 (0, 0) (heap_alloc_new w _), he]
  simp [hj]

end Go.Proofs.YthnahalboomkoaaGreat

/-
  Blocks beside the cursor of a draw; results that live in blocks.
-/
namespace Go.Proofs.YthnahalboomkoaaGreat
open Go.RowKit

/-- A block that lies there is left alone by what grows the cursor. -/
theorem Blk.grown {w w' : World} {c g : Nat} {t : TypeId} {cs : Array Value} (h : Blk w g t cs) (hg : w.grownBy w' (some c)) (hne : g ≠ c) : Blk w' g t cs := (hg.block g h.lt (fun e => hne (Option.some.inj e))).trans h
/-- The cursor behind a store into a block of one's own. -/
theorem CurEnd.row {w w1 w2 : World} {c len cap g : Nat} {a : Option Addr} (h : CurEnd w w1 c a len cap) (hg : w.heap.size ≤ g) (hc : c < w.heap.size) (hoth : ∀ k, k ≠ g → w2.heap[k]? = w1.heap[k]?) (hb : ∀ B w0, B ≤ g → Below B w0 w1 → Below B w0 w2) : CurEnd w w2 c a len cap := by
  obtain ⟨i, hh, hi, hbk⟩ := h.cur
  have hbel := hb g w1 (Nat.le_refl _) (Below.refl _ _)
  refine ⟨⟨i, hh, hi, (hoth c (by omega)).trans hbk⟩, h.arg.on (hbel.mono (by omega)), ?_⟩
  refine ⟨hbel.os.trans h.grown.os, hbel.tape.trans h.grown.tape, hbel.output.trans h.grown.output, Nat.le_trans h.grown.size hbel.size, fun k hk hne => ?_⟩
  rw [hoth k (by omega)]
  exact h.grown.block k hk hne
theorem heap_setCell_ne (w : World) (g i k : Nat) (v : Value) (h : k ≠ g) : (w.setCell ⟨g, i, none⟩ v).heap[k]? = w.heap[k]? := Below.heap_setCell w ⟨g, i, none⟩ v k h
theorem CurEnd.cell {w w1 : World} {c len cap g i : Nat} {a : Option Addr} (h : CurEnd w w1 c a len cap) (hg : w.heap.size ≤ g) (hc : c < w.heap.size) (v : Value) : CurEnd w (w1.setCell ⟨g, i, none⟩ v) c a len cap :=
  h.row hg hc (fun k hk => heap_setCell_ne w1 g i k v hk) (fun _ _ hB hb => hb.setCell hB v)

/-- The cursor behind a store of a whole struct into a block of one's own. -/
theorem CurEnd.store {w w1 w2 : World} {c len cap g : Nat} {a : Option Addr} (h : CurEnd w w1 c a len cap) (hg : w.heap.size ≤ g) (hc : c < w.heap.size) (hoth : ∀ g' t cs, g ≠ g' → Blk w1 g' t cs → Blk w2 g' t cs) (hb : ∀ B w0, B ≤ g → Below B w0 w1 → Below B w0 w2) : CurEnd w w2 c a len cap := by
  obtain ⟨i, hh, hi, hbk⟩ := h.cur
  have hbel := hb g w1 (Nat.le_refl _) (Below.refl _ _)
  refine ⟨⟨i, hh, hi, hoth c _ _ (by omega) hbk⟩, h.arg.on (hbel.mono (by omega)), ?_⟩
  refine ⟨hbel.os.trans h.grown.os, hbel.tape.trans h.grown.tape, hbel.output.trans h.grown.output, Nat.le_trans h.grown.size hbel.size, fun k hk hne => ?_⟩
  rw [hbel.block k (by omega)]
  exact h.grown.block k hk hne

theorem CurEnd.drew {w w1 : World} {c len cap : Nat} {a : Option Addr} (h : CurEnd w w1 c a len cap) : CurEnd w w1.drew c a len cap := ⟨h.cur, h.arg, grown_drew h.grown⟩

/-- The cursor behind a call that makes blocks of its own alone. -/
theorem CurEnd.below {w w1 w2 : World} {c len cap : Nat} {a : Option Addr} (h : CurEnd w w1 c a len cap) (hb : Below w1.heap.size w1 w2) : CurEnd w w2 c a len cap := by
  have hlt := h.cur.lt
  obtain ⟨i, hh, hi, hbk⟩ := h.cur
  refine ⟨⟨i, hh, hi, (hb.block c hlt).trans hbk⟩, h.arg.on (hb.mono (Nat.le_of_lt hlt)), ?_⟩
  refine ⟨hb.os.trans h.grown.os, hb.tape.trans h.grown.tape, hb.output.trans h.grown.output, Nat.le_trans h.grown.size hb.size, fun k hk hne => ?_⟩
  rw [hb.block k (Nat.lt_of_lt_of_le hk h.grown.size)]
  exact h.grown.block k hk hne

end Go.Proofs.YthnahalboomkoaaGreat
