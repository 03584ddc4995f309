/-
  Texts of one's own, joined.
-/
import Derived.Test.YtbkfdafdchjakabPtT
import Derived.Test.YtbkfdafdchjakabJoined4
import Derived.Test.YtbkfdafdchjakabOrd
import Derived.Test.YtbkfdafdchjakabPtT2

/-
  The walk of the specification's text of a proof.
  (-DROP-: what the seat lacks is left out.)
-/
namespace Go.Proofs.Ytbkfdafdchjakab
open Go.RowKit

theorem ptText_small (P : Pt) : (ptText P).size ≤ 3 := by
  show (ptBytes P).toArray.size ≤ 3
  unfold ptBytes
  split
  · split <;> simp
  · simp
/-- The cells of a proof. -/
def prfC (A B C : Pt) : Array Value := #[.int .i64 A.1, .int .i64 A.2.1, .bool A.2.2, .int .i64 B.1, .int .i64 B.2.1, .bool B.2.2, .int .i64 C.1, .int .i64 C.2.1, .bool C.2.2]
def prfIn (A B C : Pt) : Bool := inGB A && (inGB B && inGB C)
def prfText (A B C : Pt) : ByteArray := if prfIn A B C then ptText A ++ ptText B ++ ptText C else ByteArray.empty

set_option maxHeartbeats 3200000 in
set_option maxRecDepth 100000 in
theorem sProofText_any (A B C : Pt) (w : World) : Calls Try.prog 22 #[.agg (prfC A B C)] w fun e w' => e = .returned (.tuple #[.string (prfText A B C), .bool (prfIn A B C)]) ∧ Below w.heap.size w w' := by
  obtain ⟨W, hW, hb, hs⟩ := box1 w 39 (prfC A B C)
  have HB : Hid (Below w.heap.size w W) := hb
  have HI : Hid (prfIn A B C = (inGB A && (inGB B && inGB C))) := rfl
  have HT : Hid (prfText A B C = if prfIn A B C then ptText A ++ ptText B ++ ptText C else ByteArray.empty) := rfl
  have CA : Hid (∀ X, Calls Try.prog 27 #[.agg #[.int .i64 A.1, .int .i64 A.2.1, .bool A.2.2]] X fun e w' => e = .returned (.bool (inGB A)) ∧ Below X.heap.size X w') := sInG_any A
  have DA : Hid (∀ X, Calls Try.prog 62 #[.agg #[.int .i64 A.1, .int .i64 A.2.1, .bool A.2.2]] X fun e w' => e = .returned (.string (ptText A)) ∧ Below X.heap.size X w') := sPText_any A
  have CB : Hid (∀ X, Calls Try.prog 27 #[.agg #[.int .i64 B.1, .int .i64 B.2.1, .bool B.2.2]] X fun e w' => e = .returned (.bool (inGB B)) ∧ Below X.heap.size X w') := sInG_any B
  have DB : Hid (∀ X, Calls Try.prog 62 #[.agg #[.int .i64 B.1, .int .i64 B.2.1, .bool B.2.2]] X fun e w' => e = .returned (.string (ptText B)) ∧ Below X.heap.size X w') := sPText_any B
  have CC : Hid (∀ X, Calls Try.prog 27 #[.agg #[.int .i64 C.1, .int .i64 C.2.1, .bool C.2.2]] X fun e w' => e = .returned (.bool (inGB C)) ∧ Below X.heap.size X w') := sInG_any C
  have DC : Hid (∀ X, Calls Try.prog 62 #[.agg #[.int .i64 C.1, .int .i64 C.2.1, .bool C.2.2]] X fun e w' => e = .returned (.string (ptText C)) ∧ Below X.heap.size X w') := sPText_any C
  have HS : Hid (Blk W w.heap.size 39 (prfC A B C)) := hs
  unfold prfC at *
  clear hb hs
  have q0 : W.cell? ⟨w.heap.size, 0, none⟩ = some (.int .i64 A.1) := HS.out.cell 0
  have q1 : W.cell? ⟨w.heap.size, 1, none⟩ = some (.int .i64 A.2.1) := HS.out.cell 1
  have q2 : W.cell? ⟨w.heap.size, 2, none⟩ = some (.bool A.2.2) := HS.out.cell 2
  go_enter Try.func22, Try.ntmps22
  go_wp2_with fail
  clear hW q0 q1 q2
  refine (CA.out _).mono ?_
  rintro e w1 ⟨rfl, hb1⟩
  have HB1 : Hid (Below W.heap.size W w1) := hb1
  clear hb1
  cases h0 : inGB A
  · have HE : Hid (prfIn A B C = false) := by show _ = _; rw [HI.out, h0]; simp
    have HF : Hid (prfText A B C = ByteArray.empty) := by show _ = _; rw [HT.out, HE.out]; rfl
    go_wp2
    go_ret2
    exact ⟨by rw [HF.out, HE.out]; rfl, HB.out.trans (HB1.out.mono HB.out.size)⟩
  · skip
    have q3 : w1.cell? ⟨w.heap.size, 3, none⟩ = some (.int .i64 B.1) := (HS.out.on HB1.out HS.out.lt).cell 3
    have q4 : w1.cell? ⟨w.heap.size, 4, none⟩ = some (.int .i64 B.2.1) := (HS.out.on HB1.out HS.out.lt).cell 4
    have q5 : w1.cell? ⟨w.heap.size, 5, none⟩ = some (.bool B.2.2) := (HS.out.on HB1.out HS.out.lt).cell 5
    go_wp2_with fail
    clear q3 q4 q5
    refine (CB.out _).mono ?_
    rintro e w2 ⟨rfl, hb2⟩
    have HB2 : Hid (Below W.heap.size W w2) := HB1.out.trans (hb2.mono HB1.out.size)
    clear hb2
    cases h1 : inGB B
    · have HE : Hid (prfIn A B C = false) := by show _ = _; rw [HI.out, h0, h1]; simp
      have HF : Hid (prfText A B C = ByteArray.empty) := by show _ = _; rw [HT.out, HE.out]; rfl
      go_wp2
      go_ret2
      exact ⟨by rw [HF.out, HE.out]; rfl, HB.out.trans (HB2.out.mono HB.out.size)⟩
    · skip
      have q6 : w2.cell? ⟨w.heap.size, 6, none⟩ = some (.int .i64 C.1) := (HS.out.on HB2.out HS.out.lt).cell 6
      have q7 : w2.cell? ⟨w.heap.size, 7, none⟩ = some (.int .i64 C.2.1) := (HS.out.on HB2.out HS.out.lt).cell 7
      have q8 : w2.cell? ⟨w.heap.size, 8, none⟩ = some (.bool C.2.2) := (HS.out.on HB2.out HS.out.lt).cell 8
      go_wp2_with fail
      clear q6 q7 q8
      refine (CC.out _).mono ?_
      rintro e w3 ⟨rfl, hb3⟩
      have HB3 : Hid (Below W.heap.size W w3) := HB2.out.trans (hb3.mono HB2.out.size)
      clear hb3
      cases h2 : inGB C
      · have HE : Hid (prfIn A B C = false) := by show _ = _; rw [HI.out, h0, h1, h2]; simp
        have HF : Hid (prfText A B C = ByteArray.empty) := by show _ = _; rw [HT.out, HE.out]; rfl
        go_wp2
        go_ret2
        exact ⟨by rw [HF.out, HE.out]; rfl, HB.out.trans (HB3.out.mono HB.out.size)⟩
      · skip
        have HE : Hid (prfIn A B C = true) := by show _ = _; rw [HI.out, h0, h1, h2]; rfl
        have HF : Hid (prfText A B C = ptText A ++ ptText B ++ ptText C) := by show _ = _; rw [HT.out, HE.out]; rfl
        have LA : (ptText A).size ≤ 3 := ptText_small A
        have LB : (ptText B).size ≤ 3 := ptText_small B
        have LC : (ptText C).size ≤ 3 := ptText_small C
        have T0 : Below W.heap.size W w3.drew := HB3.out.drew
        go_wp2_with fail
        generalize ptText A = tA at *
        generalize ptText B = tB at *
        generalize ptText C = tC at *
        refine wp_region_ord [(0, false), (1, false), (3, false), (4, false), (7, false), (8, false), (2, true), (5, true), (6, false), (9, true), (10, false), (11, false), (12, false)] (fun wz => Below W.heap.size W wz) mixes (by kernel_rfl) T0 ?_
        repeat (refine ord_float rfl rfl (fun K hK => ⟨_, (fun w' hw => by have q0 := (HS.out.on hw HS.out.lt).cell 0; have q1 :=  (HS.out.on hw HS.out.lt).cell 1; have q2 :=  (HS.out.on hw HS.out.lt).cell 2; have q3 :=  (HS.out.on hw HS.out.lt).cell 3; have q4 :=  (HS.out.on hw HS.out.lt).cell 4; have q5 :=  (HS.out.on hw HS.out.lt).cell 5; have q6 :=  (HS.out.on hw HS.out.lt).cell 6; have q7 :=  (HS.out.on hw HS.out.lt).cell 7; have q8 :=  (HS.out.on hw HS.out.lt).cell 8; go_simp; exact rfl), ?_⟩); go_simp; refine hK _ ?_; clear hK K)
        refine ord_call rfl rfl (fun K hK => ⟨_, _, (by go_simp <;> first | exact rfl | exact ⟨rfl, rfl⟩), ?_⟩)
        refine (DA.out _).mono ?_
        rintro e u1 ⟨rfl, hu1⟩
        have T1 := below_then T0 hu1
        refine ⟨_, rfl, T1, ?_⟩
        go_simp
        refine hK _ _ ?_
        clear hK K
        refine ord_call rfl rfl (fun K hK => ⟨_, _, (by go_simp <;> first | exact rfl | exact ⟨rfl, rfl⟩), ?_⟩)
        refine (DB.out _).mono ?_
        rintro e u2 ⟨rfl, hu2⟩
        have T2 := below_then T1 hu2
        refine ⟨_, rfl, T2, ?_⟩
        go_simp
        refine hK _ _ ?_
        clear hK K
        have hl1 : (tA ++ tB).size ≤ 9223372036854775807 := by rw [ByteArray.size_append]; omega
        have hl2 : (tA ++ tB ++ tC).size ≤ 9223372036854775807 := by rw [ByteArray.size_append, ByteArray.size_append]; omega
        refine ord_float rfl rfl (fun K hK => ⟨.string (tA ++ tB), (fun w' hw => by go_simp <;> first | rfl | omega), ?_⟩)
        go_simp
        refine hK _ ?_
        clear hK K
        refine ord_call rfl rfl (fun K hK => ⟨_, _, (by go_simp <;> first | exact rfl | exact ⟨rfl, rfl⟩), ?_⟩)
        refine (DC.out _).mono ?_
        rintro e u3 ⟨rfl, hu3⟩
        have T3 := below_then T2 hu3
        refine ⟨_, rfl, T3, ?_⟩
        go_simp
        refine hK _ _ ?_
        clear hK K
        refine ord_float rfl rfl (fun K hK => ⟨.string (tA ++ tB ++ tC), (fun w' hw => by go_simp <;> first | rfl | omega), ?_⟩)
        go_simp
        refine hK _ ?_
        clear hK K
        repeat (refine ord_float rfl rfl (fun K hK => ⟨_, (fun w' hw => by have q0 := (HS.out.on hw HS.out.lt).cell 0; have q1 :=  (HS.out.on hw HS.out.lt).cell 1; have q2 :=  (HS.out.on hw HS.out.lt).cell 2; have q3 :=  (HS.out.on hw HS.out.lt).cell 3; have q4 :=  (HS.out.on hw HS.out.lt).cell 4; have q5 :=  (HS.out.on hw HS.out.lt).cell 5; have q6 :=  (HS.out.on hw HS.out.lt).cell 6; have q7 :=  (HS.out.on hw HS.out.lt).cell 7; have q8 :=  (HS.out.on hw HS.out.lt).cell 8; go_simp; exact rfl), ?_⟩); go_simp; refine hK _ ?_; clear hK K)
        refine ord_nil ?_
        go_wp2
        go_ret2
        exact ⟨by rw [HF.out, HE.out]; rfl, HB.out.trans (T3.mono HB.out.size)⟩

end Go.Proofs.Ytbkfdafdchjakab

/-
  Three points out of a text: no program in here.
-/
namespace Go.Proofs.Ytbkfdafdchjakab

/-- A third of a text. -/
def cut3 (t : ByteArray) (k : Nat) : ByteArray := t.extract (3 * k) (3 * k + 3)
theorem cut3_size (t : ByteArray) (k : Nat) : (cut3 t k).size ≤ 3 := by
  unfold cut3
  rw [ByteArray.size_extract]
  omega
/-- Whether three points are read. -/
def rdOk (t : ByteArray) : Bool := decide (t.size = 9) && ((((rdPt (cut3 t 0)).2 && (rdPt (cut3 t 1)).2) && (rdPt (cut3 t 2)).2) && prfIn (rdPt (cut3 t 0)).1 (rdPt (cut3 t 1)).1 (rdPt (cut3 t 2)).1)
def rdAtP (t : ByteArray) (k : Nat) : Pt := if rdOk t then (rdPt (cut3 t k)).1 else (0, 0, false)
def rdV (t : ByteArray) : Array Value := prfC (rdAtP t 0) (rdAtP t 1) (rdAtP t 2)
theorem rdV_no {t : ByteArray} (h : rdOk t = false) : rdV t = #[.int .i64 0, .int .i64 0, .bool false, .int .i64 0, .int .i64 0, .bool false, .int .i64 0, .int .i64 0, .bool false] := by
  unfold rdV rdAtP
  rw [h]
  rfl
theorem rdV_yes {t : ByteArray} (h : rdOk t = true) : rdV t = prfC (rdPt (cut3 t 0)).1 (rdPt (cut3 t 1)).1 (rdPt (cut3 t 2)).1 := by
  unfold rdV rdAtP
  rw [h]
  rfl

end Go.Proofs.Ytbkfdafdchjakab

/-
  The walk of the specification's proof out of a text.
  (-DROP-: what the seat lacks is left out.)
-/
namespace Go.Proofs.Ytbkfdafdchjakab
open Go.RowKit

theorem infoPrS : (Try.prog.info? 39).map (·.size) = some 9 := by kernel_rfl
theorem ones9s (A B C : Pt) : (prfC A B C).all (·.oneCell') = true := by simp [prfC, Value.oneCell']
theorem cut_first (t : ByteArray) (h : t.size = 9) (wx : World) : (Instr.slice 9 (.string t) none (some (.int .i64 3)) none).run Try.prog wx = .ok (.string (cut3 t 0)) wx := by
  have h1 : ((3 : Nat) : Int) ≤ (t.size : Int) := by omega
  have := run_slice_string_h (P := Try.prog) wx 9 t Try.underlying9 .i64 3 (by omega) (by omega)
  exact this
theorem cut_second (t : ByteArray) (h : t.size = 9) (wx : World) : (Instr.slice 9 (.string t) (some (.int .i64 3)) (some (.int .i64 6)) none).run Try.prog wx = .ok (.string (cut3 t 1)) wx :=
  run_slice_string (P := Try.prog) wx 9 t .i64 .i64 3 6 Try.underlying9 (by omega) (by omega) (by omega)
theorem cut_third (t : ByteArray) (h : t.size = 9) (wx : World) : (Instr.slice 9 (.string t) (some (.int .i64 6)) none none).run Try.prog wx = .ok (.string (cut3 t 2)) wx := by
  have := run_slice_string_l (P := Try.prog) wx 9 t Try.underlying9 .i64 6 (by omega) (by omega)
  rw [h] at this
  exact this

set_option maxHeartbeats 3200000 in
set_option maxRecDepth 100000 in
theorem sRdPrf_any (t : ByteArray) (_hm : t.size ≤ 9223372036854775807) (w : World) :
    Calls Try.prog 24 #[.string t] w fun e w' => e = .returned (.tuple #[.agg (rdV t), .bool (rdOk t)]) ∧ Below w.heap.size w w' := by
  obtain ⟨W, hW, hb, hr⟩ := box1 w 39 #[.int .i64 0, .int .i64 0, .bool false, .int .i64 0, .int .i64 0, .bool false, .int .i64 0, .int .i64 0, .bool false]
  by_cases hs : t.size = 9
  · have hsi : (t.size : Int) = 9 := by omega
    have c0 := cut_first t hs
    have c1 := cut_second t hs
    have c2 := cut_third t hs
    have S0 : Hid (∀ w, Calls Try.prog 64 #[.string (cut3 t 0)] w fun e w' => e = .returned (rv (rdPt (cut3 t 0))) ∧ Below w.heap.size w w') := sRead_any (cut3 t 0) (by have := cut3_size t 0; omega)
    have S1 : Hid (∀ w, Calls Try.prog 64 #[.string (cut3 t 1)] w fun e w' => e = .returned (rv (rdPt (cut3 t 1))) ∧ Below w.heap.size w w') := sRead_any (cut3 t 1) (by have := cut3_size t 1; omega)
    have S2 : Hid (∀ w, Calls Try.prog 64 #[.string (cut3 t 2)] w fun e w' => e = .returned (rv (rdPt (cut3 t 2))) ∧ Below w.heap.size w w') := sRead_any (cut3 t 2) (by have := cut3_size t 2; omega)
    have HOK : Hid (rdOk t = ((((rdPt (cut3 t 0)).2 && (rdPt (cut3 t 1)).2) && (rdPt (cut3 t 2)).2) && prfIn (rdPt (cut3 t 0)).1 (rdPt (cut3 t 1)).1 (rdPt (cut3 t 2)).1)) := by show _ = _; unfold rdOk; rw [decide_eq_true hs, Bool.true_and]
    have HNO : Hid (rdOk t = false → rdV t = #[.int .i64 0, .int .i64 0, .bool false, .int .i64 0, .int .i64 0, .bool false, .int .i64 0, .int .i64 0, .bool false]) := rdV_no
    have HYES : Hid (rdOk t = true → rdV t = prfC (rdPt (cut3 t 0)).1 (rdPt (cut3 t 1)).1 (rdPt (cut3 t 2)).1) := rdV_yes
    obtain ⟨ok, hok⟩ : ∃ ok, ok = rdOk t := ⟨_, rfl⟩
    obtain ⟨vv, hvv⟩ : ∃ vv, vv = rdV t := ⟨_, rfl⟩
    rw [← hok, ← hvv]
    rw [← hok] at HOK HNO HYES
    rw [← hvv] at HNO HYES
    clear hok hvv hs
    generalize rdPt (cut3 t 0) = A at S0 HOK HYES
    generalize rdPt (cut3 t 1) = B at S1 HOK HYES
    generalize rdPt (cut3 t 2) = C at S2 HOK HYES
    generalize cut3 t 0 = t0 at c0 S0
    generalize cut3 t 1 = t1 at c1 S1
    generalize cut3 t 2 = t2 at c2 S2
    obtain ⟨A, oA⟩ := A
    obtain ⟨B, oB⟩ := B
    obtain ⟨C, oC⟩ := C
    unfold rv pv at S0 S1 S2
    simp only at S0 S1 S2 HOK HYES
    have ST : Hid (∀ w, Calls Try.prog 22 #[.agg (prfC A B C)] w fun e w' => e = .returned (.tuple #[.string (prfText A B C), .bool (prfIn A B C)]) ∧ Below w.heap.size w w') := sProofText_any A B C
    generalize prfText A B C = tx at ST
    generalize prfIn A B C = inn at ST HOK
    have HB : Hid (Below w.heap.size w W ∧ Blk W w.heap.size 39 #[.int .i64 0, .int .i64 0, .bool false, .int .i64 0, .int .i64 0, .bool false, .int .i64 0, .int .i64 0, .bool false]) := ⟨hb, hr⟩
    clear hb hr
    go_enter Try.func24, Try.ntmps24
    go_wp2_with fail
    clear hW
    refine (S0.out _).mono ?_
    rintro e w1 ⟨rfl, hb1⟩
    obtain ⟨V1, hV1, hbv1, h1⟩ := box1 w1 32 #[.int .i64 A.1, .int .i64 A.2.1, .bool A.2.2]
    have HB1 : Hid (Below w.heap.size w V1 ∧ Blk V1 w.heap.size 39 #[.int .i64 0, .int .i64 0, .bool false, .int .i64 0, .int .i64 0, .bool false, .int .i64 0, .int .i64 0, .bool false] ∧ Blk V1 w1.heap.size 32 #[.int .i64 A.1, .int .i64 A.2.1, .bool A.2.2]) := ⟨below_then (below_then HB.out.1 hb1) hbv1, (HB.out.2.on hb1 HB.out.2.lt).on hbv1 (HB.out.2.on hb1 HB.out.2.lt).lt, h1⟩
    clear hb1 hbv1 h1 HB S0 c0
    go_wp2_with fail
    clear hV1
    refine (S1.out _).mono ?_
    rintro e w2 ⟨rfl, hb2⟩
    obtain ⟨V2, hV2, hbv2, h2⟩ := box1 w2 32 #[.int .i64 B.1, .int .i64 B.2.1, .bool B.2.2]
    have hc2 := below_then hb2 hbv2
    have HB2 : Hid (Below w.heap.size w V2 ∧ Blk V2 w.heap.size 39 #[.int .i64 0, .int .i64 0, .bool false, .int .i64 0, .int .i64 0, .bool false, .int .i64 0, .int .i64 0, .bool false] ∧ Blk V2 w1.heap.size 32 #[.int .i64 A.1, .int .i64 A.2.1, .bool A.2.2] ∧ Blk V2 w2.heap.size 32 #[.int .i64 B.1, .int .i64 B.2.1, .bool B.2.2]) := ⟨below_then HB1.out.1 hc2, HB1.out.2.1.on hc2 HB1.out.2.1.lt, HB1.out.2.2.on hc2 HB1.out.2.2.lt, h2⟩
    clear hb2 hbv2 h2 HB1 hc2 S1 c1
    go_wp2_with fail
    clear hV2
    refine (S2.out _).mono ?_
    rintro e w3 ⟨rfl, hb3⟩
    obtain ⟨V3, hV3, hbv3, h3⟩ := box1 w3 32 #[.int .i64 C.1, .int .i64 C.2.1, .bool C.2.2]
    have hc3 := below_then hb3 hbv3
    have hA3 := HB2.out.2.2.1.on hc3 HB2.out.2.2.1.lt
    have hB3 := HB2.out.2.2.2.on hc3 HB2.out.2.2.2.lt
    have HB3 : Hid (Below w.heap.size w V3 ∧ Blk V3 w.heap.size 39 #[.int .i64 0, .int .i64 0, .bool false, .int .i64 0, .int .i64 0, .bool false, .int .i64 0, .int .i64 0, .bool false]) := ⟨below_then HB2.out.1 hc3, HB2.out.2.1.on hc3 HB2.out.2.1.lt⟩
    obtain ⟨V4, hV4, hbv4, h4⟩ := box1 V3 39 (prfC A B C)
    have HB4 : Hid (Below w.heap.size w V4 ∧ Blk V4 w.heap.size 39 #[.int .i64 0, .int .i64 0, .bool false, .int .i64 0, .int .i64 0, .bool false, .int .i64 0, .int .i64 0, .bool false] ∧ Blk V4 V3.heap.size 39 (prfC A B C)) := ⟨below_then HB3.out.1 hbv4, HB3.out.2.on hbv4 HB3.out.2.lt, h4⟩
    clear hb3 hbv3 HB2 hc3 S2 c2 HB3 hbv4
    unfold prfC at hV4
    go_wp2_with (first | (refine load_blk rfl rfl rfl hA3 Try.underlying32 infoP ?_) | (refine load_blk rfl rfl rfl hB3 Try.underlying32 infoP ?_) | (refine load_blk rfl rfl rfl h3 Try.underlying32 infoP ?_) | (refine load_blk rfl rfl rfl h4 Try.underlying39 infoPrS ?_))
    clear hV3 hV4 hA3 hB3 h3 h4
    refine (ST.out _).mono ?_
    rintro e w5 ⟨rfl, hb5⟩
    have hB5 := below_then HB4.out.1 hb5
    have hr5 := HB4.out.2.1.on hb5 HB4.out.2.1.lt
    have hp5 := HB4.out.2.2.on hb5 HB4.out.2.2.lt
    clear HB4 hb5 ST
    cases oA
    · skip
      have HE : Hid (ok = false) := by show _ = _; rw [HOK.out]; rfl
      go_wp2_with (refine store_blk (cs' := #[.int .i64 0, .int .i64 0, .bool false, .int .i64 0, .int .i64 0, .bool false, .int .i64 0, .int .i64 0, .bool false]) rfl rfl rfl rfl rfl hr5 infoPrS rfl (ones9s (0, 0, false) (0, 0, false) (0, 0, false)) ?_; intro V8 h8 hoth hbel; have hb8 := hbel _ _ (Nat.le_refl _) hB5; clear hoth hbel)
      refine bodyPost_ret_by (result_blkT rfl rfl rfl h8 Try.underlying39 infoPrS) rfl ⟨by rw [HNO.out HE.out, HE.out]; rfl, hb8⟩
    · cases oB
      · skip
        have HE : Hid (ok = false) := by show _ = _; rw [HOK.out]; rfl
        go_wp2_with (refine store_blk (cs' := #[.int .i64 0, .int .i64 0, .bool false, .int .i64 0, .int .i64 0, .bool false, .int .i64 0, .int .i64 0, .bool false]) rfl rfl rfl rfl rfl hr5 infoPrS rfl (ones9s (0, 0, false) (0, 0, false) (0, 0, false)) ?_; intro V8 h8 hoth hbel; have hb8 := hbel _ _ (Nat.le_refl _) hB5; clear hoth hbel)
        refine bodyPost_ret_by (result_blkT rfl rfl rfl h8 Try.underlying39 infoPrS) rfl ⟨by rw [HNO.out HE.out, HE.out]; rfl, hb8⟩
      · cases oC
        · skip
          have HE : Hid (ok = false) := by show _ = _; rw [HOK.out]; rfl
          go_wp2_with (refine store_blk (cs' := #[.int .i64 0, .int .i64 0, .bool false, .int .i64 0, .int .i64 0, .bool false, .int .i64 0, .int .i64 0, .bool false]) rfl rfl rfl rfl rfl hr5 infoPrS rfl (ones9s (0, 0, false) (0, 0, false) (0, 0, false)) ?_; intro V8 h8 hoth hbel; have hb8 := hbel _ _ (Nat.le_refl _) hB5; clear hoth hbel)
          refine bodyPost_ret_by (result_blkT rfl rfl rfl h8 Try.underlying39 infoPrS) rfl ⟨by rw [HNO.out HE.out, HE.out]; rfl, hb8⟩
        · cases inn
          · skip
            have HE : Hid (ok = false) := by show _ = _; rw [HOK.out]; rfl
            go_wp2_with (refine store_blk (cs' := #[.int .i64 0, .int .i64 0, .bool false, .int .i64 0, .int .i64 0, .bool false, .int .i64 0, .int .i64 0, .bool false]) rfl rfl rfl rfl rfl hr5 infoPrS rfl (ones9s (0, 0, false) (0, 0, false) (0, 0, false)) ?_; intro V8 h8 hoth hbel; have hb8 := hbel _ _ (Nat.le_refl _) hB5; clear hoth hbel)
            refine bodyPost_ret_by (result_blkT rfl rfl rfl h8 Try.underlying39 infoPrS) rfl ⟨by rw [HNO.out HE.out, HE.out]; rfl, hb8⟩
          · have HE : Hid (ok = true) := by show _ = _; rw [HOK.out]; rfl
            go_wp2_with (first | (refine load_blk rfl rfl rfl hp5 Try.underlying39 infoPrS ?_) | (refine store_blk (cs' := prfC A B C) rfl rfl rfl rfl rfl hr5 infoPrS rfl (ones9s A B C) ?_; intro V8 h8 hoth hbel; have hb8 := hbel _ _ (Nat.le_refl _) hB5; clear hoth hbel))
            refine bodyPost_ret_by (result_blkT rfl rfl rfl h8 Try.underlying39 infoPrS) rfl ⟨by rw [HYES.out HE.out, HE.out]; rfl, hb8⟩
  · have hsi : ¬ (t.size : Int) = 9 := by omega
    have e0 : rdOk t = false := by unfold rdOk; rw [decide_eq_false hs, Bool.false_and]
    rw [rdV_no e0, e0]
    go_enter Try.func24, Try.ntmps24
    go_wp2_with (refine store_blk (cs' := #[.int .i64 0, .int .i64 0, .bool false, .int .i64 0, .int .i64 0, .bool false, .int .i64 0, .int .i64 0, .bool false]) rfl rfl rfl rfl rfl hr infoPrS rfl (ones9s (0, 0, false) (0, 0, false) (0, 0, false)) ?_; intro V8 h8 hoth hbel; have hb8 := hbel _ _ (Nat.le_refl _) hb; clear hoth hbel)
    refine bodyPost_ret_by (result_blkT rfl rfl rfl h8 Try.underlying39 infoPrS) rfl ⟨rfl, hb8⟩

end Go.Proofs.Ytbkfdafdchjakab

/-
  The walks of the program's places on the curve, told by pointers: none is Zero.
  (-DROP-: what the seat lacks is left out.)
-/
namespace Go.Proofs.Ytbkfdafdchjakab
open Go.RowKit

/-- A number of the field, as the program keeps it. -/
def Fi (a : Int) : Prop := 0 ≤ a ∧ a < 12107

theorem fi_fp (a : Int) : Fi (fp a) := ⟨fp_nonneg a, fp_lt a⟩
theorem fi_add (a b : Int) : Fi (fpAdd a b) := fi_fp _
theorem fi_sub (a b : Int) : Fi (fpSub a b) := fi_fp _
theorem fi_mul (a b : Int) : Fi (fpMul a b) := fi_fp _
theorem fi_pow (a n : Int) : Fi (fpPow a n) := fpPow_bounds a n
theorem fi_rhs (x : Int) : Fi (rhs x) := fi_add _ _
theorem fi_0 : Fi 0 := ⟨by decide, by decide⟩
theorem fi_1 : Fi 1 := ⟨by decide, by decide⟩
theorem fi_3 : Fi 3 := ⟨by decide, by decide⟩

theorem plus_f {a b : Int} (ha : Fi a) (hb : Fi b) (w : World) :
    Calls Try.prog 117 #[.int .i64 a, .int .i64 b] w fun e w' => e = .returned (.int .i64 (fpAdd a b)) ∧ w = w' := by
  rw [fpAdd_eq]; exact plus_any a b ha.1 ha.2 hb.1 hb.2 w

theorem minus_f {a b : Int} (ha : Fi a) (hb : Fi b) (w : World) :
    Calls Try.prog 116 #[.int .i64 a, .int .i64 b] w fun e w' => e = .returned (.int .i64 (fpSub a b)) ∧ w = w' := by
  rw [fpSub_eq]; exact minus_any a b ha.1 ha.2 hb.1 hb.2 w

theorem times_f {a b : Int} (ha : Fi a) (hb : Fi b) (w : World) :
    Calls Try.prog 115 #[.int .i64 a, .int .i64 b] w fun e w' => e = .returned (.int .i64 (fpMul a b)) ∧ w = w' := by
  rw [fpMul_eq]; exact times_any a b ha.1 ha.2 hb.1 hb.2 w

theorem inverse_f {a : Int} (ha : Fi a) (w : World) :
    Calls Try.prog 142 #[.int .i64 a] w fun e w' => e = .returned (.int .i64 (fpPow a 12105)) ∧ w = w' := inverse_any a ha.1 ha.2 w

set_option maxHeartbeats 400000 in
set_option maxRecDepth 100000 in
theorem curveAt_any {x : Int} (hx : Fi x) (w : World) :
    Calls Try.prog 106 #[.int .i64 x] w fun e w' => e = .returned (.int .i64 (rhs x)) ∧ w = w' := by
  have HE : Hid (rhs x = fpAdd (fpMul (fpMul x x) x) x) := rfl
  have H1 : Hid (∀ w, Calls Try.prog 115 #[.int .i64 x, .int .i64 x] w fun e w' => e = .returned (.int .i64 (fpMul x x)) ∧ w = w') := fun w => times_f hx hx w
  have H2 : Hid (∀ w, Calls Try.prog 115 #[.int .i64 (fpMul x x), .int .i64 x] w fun e w' => e = .returned (.int .i64 (fpMul (fpMul x x) x)) ∧ w = w') := fun w => times_f (fi_mul _ _) hx w
  have H3 : Hid (∀ w, Calls Try.prog 117 #[.int .i64 (fpMul (fpMul x x) x), .int .i64 x] w fun e w' => e = .returned (.int .i64 (fpAdd (fpMul (fpMul x x) x) x)) ∧ w = w') := fun w => plus_f (fi_mul _ _) hx w
  go_enter Try.func106, Try.ntmps106
  go_wp2_with fail
  refine (H1.out _).mono ?_
  rintro e w1 ⟨rfl, rfl⟩
  go_wp2_with fail
  refine (H2.out _).mono ?_
  rintro e w1 ⟨rfl, rfl⟩
  go_wp2_with fail
  refine (H3.out _).mono ?_
  rintro e w1 ⟨rfl, rfl⟩
  go_wp2
  go_ret
  exact ⟨by rw [HE.out]; rfl, rfl⟩

/-- A pointer's place on the curve; none: Zero. -/
def PAt (w : World) (v : Value) (P : Pt) : Prop :=
  (v = .pointer none ∧ P = pZ) ∨ ∃ b x y, v = .pointer (some ⟨b, 0, none⟩) ∧ P = (x, y, false) ∧ Blk w b 147 #[.int .i64 x, .int .i64 y]

theorem PAt.on {w w1 : World} {v : Value} {P : Pt} (h : PAt w v P) (hb : Below w.heap.size w w1) : PAt w1 v P := by
  rcases h with h | ⟨b, x, y, h1, h2, h3⟩
  · exact .inl h
  · exact .inr ⟨b, x, y, h1, h2, h3.on hb h3.lt⟩
theorem pat_zero (w : World) : PAt w (.pointer none) pZ := .inl ⟨rfl, rfl⟩

theorem pok_xy {x y : Int} (h : POk (x, y, false)) : Fi x ∧ Fi y := by
  rcases h with h | ⟨_, h1, h2, _⟩
  · cases h
  · exact ⟨h1, h2⟩

theorem infoC : (Try.prog.info? 147).map (·.size) = some 2 := by kernel_rfl

set_option maxHeartbeats 800000 in
set_option maxRecDepth 100000 in
theorem point_any (v : Value) (P : Pt) (w : World) (h : PAt w v P) :
    Calls Try.prog 99 #[v] w fun e w' => e = .returned (pv P) ∧ Below w.heap.size w w' := by
  rcases h with ⟨rfl, rfl⟩ | ⟨b, x, y, rfl, rfl, hx⟩
  · go_enter Try.func99, Try.ntmps99
    go_wp2
    refine bodyPost_ret_by (result_blk rfl rfl (Blk.newAt (by simp)) Try.underlying32 infoP) rfl ⟨rfl, (Below.refl _ _).alloc (Nat.le_refl _) _⟩
  · go_enter Try.func99, Try.ntmps99
    go_wp2_with fail
    obtain ⟨W, hW, hb, hr⟩ := box1 w 32 #[.int .i64 0, .int .i64 0, .bool false]
    rw [hW]
    clear hW
    have hx1 := hx.on hb hx.lt
    clear hx
    refine wp_region_class 9 (fun wz => Below W.heap.size W wz) mixes (by kernel_rfl) (Below.refl _ _).drew ?_
    simp only [List.take_succ_cons, List.take_zero, List.drop_succ_cons, List.drop_zero]
    repeat (refine cls_step rfl (fun K hK => ⟨_, (fun w' hw => by have q0 := (hx1.on hw hx1.lt).cell 0; have q1 := (hx1.on hw hx1.lt).cell 1; go_simp; exact rfl), ?_⟩); go_simp; refine hK _ ?_; clear hK K)
    refine wq_nil ?_
    intro w' hw
    have hr1 := hr.on hw hr.lt
    have hB1 := below_then hb hw
    have hl1 : w.heap.size < w'.heap.size := hr1.lt
    clear hr hb hw
    go_wp2_with (refine store_blk (cs' := pc (x, y, false)) rfl rfl rfl rfl rfl hr1 infoP rfl (ones3 _ _ _) ?_; intro V h5 hoth hbel; have hbV := hbel _ _ (by omega) hB1; clear hoth hbel)
    refine bodyPost_ret_by (result_blk rfl rfl h5 Try.underlying32 infoP) rfl ⟨rfl, hbV⟩

set_option maxHeartbeats 800000 in
set_option maxRecDepth 100000 in
theorem opposite_any (v : Value) (P : Pt) (w : World) (h : PAt w v P) (hP : POk P) :
    Calls Try.prog 132 #[v] w fun e w' => ∃ v', e = .returned v' ∧ PAt w' v' (pNeg P) ∧ Below w.heap.size w w' := by
  rcases h with ⟨rfl, rfl⟩ | ⟨b, x, y, rfl, rfl, hx⟩
  · clear hP
    go_enter Try.func132, Try.ntmps132
    go_wp2
    go_ret
    exact ⟨_, rfl, pat_zero _, Below.refl _ _⟩
  · have HF : Hid (Fi x ∧ Fi y) := pok_xy hP
    have HN : Hid (pNeg (x, y, false) = (x, fpSub 0 y, false)) := rfl
    clear hP
    go_enter Try.func132, Try.ntmps132
    go_wp2_with fail
    refine wp_region_class 10 (fun wz => Below w.heap.size w wz) mixes (by kernel_rfl) (Below.refl _ _).drew ?_
    simp only [List.take_succ_cons, List.take_zero, List.drop_succ_cons, List.drop_zero]
    repeat (refine cls_step rfl (fun K hK => ⟨_, (fun w' hw => by have q0 := (hx.on hw hx.lt).cell 0; have q1 := (hx.on hw hx.lt).cell 1; go_simp; exact rfl), ?_⟩); go_simp; refine hK _ ?_; clear hK K)
    refine cls_call rfl (fun K hK => ⟨_, _, _, (fun w' => by go_simp <;> first | exact rfl | exact ⟨rfl, rfl⟩), (fun w' hw => calls_same hw (minus_f fi_0 HF.out.2 _)), ?_⟩); go_simp; refine hK _ ?_; clear hK K
    repeat (refine cls_step rfl (fun K hK => ⟨_, (fun w' hw => by have q0 := (hx.on hw hx.lt).cell 0; have q1 := (hx.on hw hx.lt).cell 1; go_simp; exact rfl), ?_⟩); go_simp; refine hK _ ?_; clear hK K)
    refine wq_nil ?_
    intro w' hw
    go_wp2
    go_ret
    exact ⟨_, rfl, .inr ⟨_, x, fpSub 0 y, rfl, HN.out, Blk.new w' _ _⟩, hw.alloc hw.size _⟩

end Go.Proofs.Ytbkfdafdchjakab
