/-
  The walk of the specification's sum of polynomials.
  (-DROP-: what the seat lacks is left out.)
-/
import Derived.Test.YthnahalboomkoaaGreatJoined11

namespace Go.Proofs.YthnahalboomkoaaGreat
open Go.RowKit

set_option maxHeartbeats 3200000 in
set_option maxRecDepth 100000 in
theorem sQAdd_any (v u : Value) (l m : List Int) (hl : l.length ≤ 1048576) (hm : m.length ≤ 1048576) (w : World) (h : ZAt w w.heap.size v l) (h2 : ZAt w w.heap.size u m) :
    Calls Tryz.prog 155 #[v, u] w fun e w' => ∃ u, e = .returned u ∧ ZOwn w.heap.size w'.heap.size w' u (qAdd l m) ∧ Below w.heap.size w w' := by
  obtain ⟨a, cp, rfl, hA⟩ := h
  obtain ⟨b, cq, rfl, hB⟩ := h2
  have HA : Hid (IntsAt w a l.length w.heap.size (fun j => l.getD j 0)) := hA
  have HB : Hid (IntsAt w b m.length w.heap.size (fun j => m.getD j 0)) := hB
  clear hA hB
  obtain ⟨n, hn⟩ : ∃ n, n = max l.length m.length := ⟨_, rfl⟩
  have HE : Hid (qAdd l m = pTrim (zls (padF l m) n)) := by show _ = _; unfold qAdd zls; rw [hn]
  have hnl : l.length ≤ n ∧ m.length ≤ n ∧ n ≤ 1048576 ∧ (n = l.length ∨ n = m.length) := by omega
  have hmk : ∀ W : World, (Instr.makeSlice 27 (.int .i64 (n : Int)) (.int .i64 (n : Int))).run Tryz.prog W = .ok (.slice (some ⟨W.heap.size, 0, none⟩) n n) (W.alloc (.cells (ic (fun _ => 0) n) 3)) := fun W => make_ints n n (Nat.le_refl _) (by omega) W
  have H0 : Hid (RowI (w.alloc (.cells (ic (fun _ => 0) n) 3)) w.heap.size n (upTo (padF l m) 0)) := (rowI_new w (fun _ => 0) n).congr fun j _ => by unfold upTo; rw [if_neg (by omega)]
  generalize ic (fun _ => 0) n = M at hmk H0
  have HP : Hid (∀ k, padF l m k = if k < m.length then scAdd (if k < l.length then scAdd 0 (l.getD k 0) else 0) (m.getD k 0) else if k < l.length then scAdd 0 (l.getD k 0) else 0) := fun k => padF_case l m k
  obtain ⟨la, hla⟩ : ∃ la, la = l.length := ⟨_, rfl⟩
  obtain ⟨lb, hlb⟩ : ∃ lb, lb = m.length := ⟨_, rfl⟩
  rw [← hla] at HA HP hl hnl ⊢
  rw [← hlb] at HB HP hm hnl ⊢
  clear hn hla hlb
  by_cases hc : la < lb
  · have hc' : (la : Int) < (lb : Int) := by omega
    obtain rfl : n = lb := by omega
    go_enter Tryz.func155, Tryz.ntmps155
    go_wp2
    go_loopw [7] (fun i wr => ∃ k : Nat, i = .int .i64 (k : Int) ∧ k ≤ n ∧ Hid (RowI wr w.heap.size n (upTo (padF l m) k)) ∧ Hid (Below w.heap.size w wr)) (fun i _ => n - (intOf i).toNat)
    case atStart => exact ⟨0, rfl, Nat.zero_le _, H0, (Below.refl _ _).alloc (Nat.le_refl _) _⟩
    case round =>
      obtain ⟨k, rfl, hk, HR, HW⟩ := hrel
      clear hmk H0
      have hwn : ∀ y : Int, Hid (padF l m k = y) → Hid ((fun i => if i = k then y else upTo (padF l m) k i) = upTo (padF l m) (k + 1)) := fun y hy => by
        show _ = _
        rw [← hy.out]
        exact upTo_next _ _
      have hu0 : upTo (padF l m) k k = 0 := by unfold upTo; rw [if_neg (by omega)]
      by_cases hlt : k < n
      · have hlt' : (k : Int) < (n : Int) := by omega
        have hk0 : (0 : Int) ≤ (k : Int) := by omega
        by_cases ka : k < la
        · have ka' : (k : Int) < (la : Int) := by omega
          obtain ⟨ba, offa, rfl, hba, hza⟩ := (HA.out.on HW.out) k ka
          replace hza : wr.cell? ⟨ba, offa + k, none⟩ = some (.int .i64 (l.getD k 0)) := hza
          have CA : Hid (∀ w, Calls Tryz.prog 18 #[.int .i64 0, .int .i64 (l.getD k 0)] w fun e w' => e = .returned (.int .i64 (scAdd 0 (l.getD k 0))) ∧ w = w') := sScAdd_any _ _
          by_cases kb : k < n
          · have kb' : (k : Int) < (n : Int) := by omega
            have HY : Hid (padF l m k = scAdd (scAdd 0 (l.getD k 0)) (m.getD k 0)) := by show _ = _; rw [HP.out k, if_pos kb, if_pos ka]
            obtain ⟨bb, offb, rfl, hbb, hzb⟩ := (HB.out.on HW.out) k kb
            replace hzb : wr.cell? ⟨bb, offb + k, none⟩ = some (.int .i64 (m.getD k 0)) := hzb
            have CB : Hid (∀ w, Calls Tryz.prog 18 #[.int .i64 (scAdd 0 (l.getD k 0)), .int .i64 (m.getD k 0)] w fun e w' => e = .returned (.int .i64 (scAdd (scAdd 0 (l.getD k 0)) (m.getD k 0))) ∧ w = w') := sScAdd_any _ _
            generalize scAdd (scAdd 0 (l.getD k 0)) (m.getD k 0) = yb at CB HY
            generalize scAdd 0 (l.getD k 0) = ya at CA CB
            generalize l.getD k 0 = za at CA hza
            generalize m.getD k 0 = zb at CB hzb
            have RA := HR.out
            have BA := HW.out
            have EA := hu0
            have SA : Hid (RowI wr.drew w.heap.size n (upTo (padF l m) k) ∧ Below w.heap.size w wr.drew) := ⟨RA, BA.drew⟩
            have czA : ∀ wz, Below w.heap.size w wz → wz.cell? ⟨ba, offa + k, none⟩ = some (.int .i64 za) := fun wz hwz => (hwz.cell (p := ⟨ba, offa + k, none⟩) hba).trans ((HW.out.cell (p := ⟨ba, offa + k, none⟩) hba).symm.trans hza)
            go_wp2_with fail
            refine wp_region_last [(0, false), (1, false), (2, false), (3, false), (4, false), (5, false), (6, false), (7, false), (8, false), (9, false), (10, true), (11, false)] 12 (fun wz => RowI wz w.heap.size n (upTo (padF l m) k) ∧ Below w.heap.size w wz) mixesSc (by kernel_rfl) SA.out ?_
            repeat (refine ord_float rfl rfl (fun K hK => ⟨_, (fun w' hw => by have q0 := (show w'.cell? ⟨w.heap.size, k, none⟩ = some (.int .i64 0) from (hw.1.cell hlt).trans (by rw [EA])); have q1 :=  czA w' hw.2; go_simp; exact rfl), ?_⟩); go_simp; refine hK _ ?_; clear hK K)
            refine ord_call rfl rfl (fun K hK => ⟨_, _, (by go_simp <;> first | exact rfl | exact ⟨rfl, rfl⟩), ?_⟩)
            refine (CA.out _).mono ?_
            rintro e uA ⟨rfl, huA⟩
            have TA := huA ▸ SA.out
            refine ⟨_, rfl, TA, ?_⟩
            go_simp
            refine hK _ _ ?_
            clear hK K
            repeat (refine ord_float rfl rfl (fun K hK => ⟨_, (fun w' hw => by have q0 := (show w'.cell? ⟨w.heap.size, k, none⟩ = some (.int .i64 0) from (hw.1.cell hlt).trans (by rw [EA])); have q1 :=  czA w' hw.2; go_simp; exact rfl), ?_⟩); go_simp; refine hK _ ?_; clear hK K)
            refine ord_nil ?_
            have ccA : uA.cell? ⟨w.heap.size, k, none⟩ = some (.int .i64 0) := (TA.1.cell hlt).trans (by rw [EA])
            have cfA := TA.1.free k
            refine last_store rfl rfl rfl (uA.setCell ⟨w.heap.size, k, none⟩ (.int .i64 ya)) (by go_simp <;> rfl) ?_
            obtain ⟨VA, hVA⟩ : ∃ V, uA.setCell ⟨w.heap.size, k, none⟩ (.int .i64 ya) = V := ⟨_, rfl⟩
            have NA : RowI VA w.heap.size n (fun i => if i = k then ya else (upTo (padF l m) k) i) ∧ Below w.heap.size w VA := by rw [← hVA]; exact row_step ya TA.1 TA.2
            rw [hVA]
            clear hVA ccA cfA TA huA
            obtain ⟨FA, hFA⟩ : ∃ FA : Nat → Int, FA = fun i => if i = k then ya else upTo (padF l m) k i := ⟨_, rfl⟩
            rw [← hFA] at NA
            have hFk : FA k = ya := by rw [hFA]; exact if_pos rfl
            have HFA : Hid (FA = fun i => if i = k then ya else upTo (padF l m) k i) := hFA
            clear hFA
            have RB := NA.1
            have BB := NA.2
            have EB := hFk
            have SB : Hid (RowI VA.drew w.heap.size n FA ∧ Below w.heap.size w VA.drew) := ⟨RB, BB.drew⟩
            have czB : ∀ wz, Below w.heap.size w wz → wz.cell? ⟨bb, offb + k, none⟩ = some (.int .i64 zb) := fun wz hwz => (hwz.cell (p := ⟨bb, offb + k, none⟩) hbb).trans ((HW.out.cell (p := ⟨bb, offb + k, none⟩) hbb).symm.trans hzb)
            go_wp2_with fail
            refine wp_region_last [(0, false), (1, false), (2, false), (3, false), (4, false), (5, false), (6, false), (7, false), (8, false), (9, false), (10, true), (11, false)] 12 (fun wz => RowI wz w.heap.size n FA ∧ Below w.heap.size w wz) mixesSc (by kernel_rfl) SB.out ?_
            repeat (refine ord_float rfl rfl (fun K hK => ⟨_, (fun w' hw => by have q0 := (show w'.cell? ⟨w.heap.size, k, none⟩ = some (.int .i64 ya) from (hw.1.cell hlt).trans (by rw [EB])); have q1 :=  czB w' hw.2; go_simp; exact rfl), ?_⟩); go_simp; refine hK _ ?_; clear hK K)
            refine ord_call rfl rfl (fun K hK => ⟨_, _, (by go_simp <;> first | exact rfl | exact ⟨rfl, rfl⟩), ?_⟩)
            refine (CB.out _).mono ?_
            rintro e uB ⟨rfl, huB⟩
            have TB := huB ▸ SB.out
            refine ⟨_, rfl, TB, ?_⟩
            go_simp
            refine hK _ _ ?_
            clear hK K
            repeat (refine ord_float rfl rfl (fun K hK => ⟨_, (fun w' hw => by have q0 := (show w'.cell? ⟨w.heap.size, k, none⟩ = some (.int .i64 ya) from (hw.1.cell hlt).trans (by rw [EB])); have q1 :=  czB w' hw.2; go_simp; exact rfl), ?_⟩); go_simp; refine hK _ ?_; clear hK K)
            refine ord_nil ?_
            have ccB : uB.cell? ⟨w.heap.size, k, none⟩ = some (.int .i64 ya) := (TB.1.cell hlt).trans (by rw [EB])
            have cfB := TB.1.free k
            refine last_store rfl rfl rfl (uB.setCell ⟨w.heap.size, k, none⟩ (.int .i64 yb)) (by go_simp <;> rfl) ?_
            obtain ⟨VB, hVB⟩ : ∃ V, uB.setCell ⟨w.heap.size, k, none⟩ (.int .i64 yb) = V := ⟨_, rfl⟩
            have NB : RowI VB w.heap.size n (fun i => if i = k then yb else FA i) ∧ Below w.heap.size w VB := by rw [← hVB]; exact row_step yb TB.1 TB.2
            rw [hVB]
            clear hVB ccB cfB TB huB
            have HR2 : Hid (RowI VB w.heap.size n (upTo (padF l m) (k + 1))) := by
              show RowI _ _ _ _
              rw [← (hwn _ HY).out]
              exact NB.1.congr fun j _ => by rw [HFA.out]; by_cases hj : j = k <;> simp [hj]
            have HW2 : Hid (Below w.heap.size w VB) := NB.2
            clear NB HW HR
            go_wp2
            go_roundw
            case rel => exact ⟨k + 1, by go_num, hlt, HR2, HW2⟩
            case measure => simp [intOf]; omega
          · omega
        · have ka' : ¬ (k : Int) < (la : Int) := by omega
          have kb : k < n := by omega
          have kb' : (k : Int) < (n : Int) := by omega
          have HY : Hid (padF l m k = scAdd 0 (m.getD k 0)) := by show _ = _; rw [HP.out k, if_pos kb, if_neg ka]
          obtain ⟨bb, offb, rfl, hbb, hzb⟩ := (HB.out.on HW.out) k kb
          replace hzb : wr.cell? ⟨bb, offb + k, none⟩ = some (.int .i64 (m.getD k 0)) := hzb
          have CB : Hid (∀ w, Calls Tryz.prog 18 #[.int .i64 0, .int .i64 (m.getD k 0)] w fun e w' => e = .returned (.int .i64 (scAdd 0 (m.getD k 0))) ∧ w = w') := sScAdd_any _ _
          generalize scAdd 0 (m.getD k 0) = yb at CB HY
          generalize m.getD k 0 = zb at CB hzb
          have RB := HR.out
          have BB := HW.out
          have EB := hu0
          have SB : Hid (RowI wr.drew w.heap.size n (upTo (padF l m) k) ∧ Below w.heap.size w wr.drew) := ⟨RB, BB.drew⟩
          have czB : ∀ wz, Below w.heap.size w wz → wz.cell? ⟨bb, offb + k, none⟩ = some (.int .i64 zb) := fun wz hwz => (hwz.cell (p := ⟨bb, offb + k, none⟩) hbb).trans ((HW.out.cell (p := ⟨bb, offb + k, none⟩) hbb).symm.trans hzb)
          go_wp2_with fail
          refine wp_region_last [(0, false), (1, false), (2, false), (3, false), (4, false), (5, false), (6, false), (7, false), (8, false), (9, false), (10, true), (11, false)] 12 (fun wz => RowI wz w.heap.size n (upTo (padF l m) k) ∧ Below w.heap.size w wz) mixesSc (by kernel_rfl) SB.out ?_
          repeat (refine ord_float rfl rfl (fun K hK => ⟨_, (fun w' hw => by have q0 := (show w'.cell? ⟨w.heap.size, k, none⟩ = some (.int .i64 0) from (hw.1.cell hlt).trans (by rw [EB])); have q1 :=  czB w' hw.2; go_simp; exact rfl), ?_⟩); go_simp; refine hK _ ?_; clear hK K)
          refine ord_call rfl rfl (fun K hK => ⟨_, _, (by go_simp <;> first | exact rfl | exact ⟨rfl, rfl⟩), ?_⟩)
          refine (CB.out _).mono ?_
          rintro e uB ⟨rfl, huB⟩
          have TB := huB ▸ SB.out
          refine ⟨_, rfl, TB, ?_⟩
          go_simp
          refine hK _ _ ?_
          clear hK K
          repeat (refine ord_float rfl rfl (fun K hK => ⟨_, (fun w' hw => by have q0 := (show w'.cell? ⟨w.heap.size, k, none⟩ = some (.int .i64 0) from (hw.1.cell hlt).trans (by rw [EB])); have q1 :=  czB w' hw.2; go_simp; exact rfl), ?_⟩); go_simp; refine hK _ ?_; clear hK K)
          refine ord_nil ?_
          have ccB : uB.cell? ⟨w.heap.size, k, none⟩ = some (.int .i64 0) := (TB.1.cell hlt).trans (by rw [EB])
          have cfB := TB.1.free k
          refine last_store rfl rfl rfl (uB.setCell ⟨w.heap.size, k, none⟩ (.int .i64 yb)) (by go_simp <;> rfl) ?_
          obtain ⟨VB, hVB⟩ : ∃ V, uB.setCell ⟨w.heap.size, k, none⟩ (.int .i64 yb) = V := ⟨_, rfl⟩
          have NB : RowI VB w.heap.size n (fun i => if i = k then yb else (upTo (padF l m) k) i) ∧ Below w.heap.size w VB := by rw [← hVB]; exact row_step yb TB.1 TB.2
          rw [hVB]
          clear hVB ccB cfB TB huB
          have HR2 : Hid (RowI VB w.heap.size n (upTo (padF l m) (k + 1))) := by
            show RowI _ _ _ _
            rw [← (hwn _ HY).out]
            exact NB.1
          have HW2 : Hid (Below w.heap.size w VB) := NB.2
          clear NB HW HR
          go_wp2
          go_roundw
          case rel => exact ⟨k + 1, by go_num, hlt, HR2, HW2⟩
          case measure => simp [intOf]; omega
      · have hlt' : ¬ (k : Int) < (n : Int) := by omega
        have HF : Hid (RowI wr w.heap.size n (padF l m)) := HR.out.congr fun j hj => upTo_in _ (by omega)
        have HZ : Hid (ZAt wr wr.heap.size (.slice (some ⟨w.heap.size, 0, none⟩) n n) (zls (padF l m) n)) := ZAt.of (HF.out.ints HF.out.lt)
        have hzl : (zls (padF l m) n).length ≤ 1048576 := by rw [zls_length]; omega
        go_wp2_with fail
        refine (sTrim_any _ _ hzl _ HZ.out).mono ?_
        rintro e w5 ⟨u5, rfl, hO5, hb5⟩
        have HO5 : Hid (ZOwn w.heap.size w5.heap.size w5 u5 (qAdd l m)) := by
          show ZOwn _ _ _ _ _
          rw [HE.out]
          exact hO5.wide HW.out.size (Nat.le_refl _)
        have HB5 : Hid (Below w.heap.size w w5) := HW.out.trans (hb5.mono HW.out.size)
        clear hO5 hb5 HZ HF HR
        go_wp2
        go_ret
        exact ⟨_, rfl, HO5.out, HB5.out⟩
  · have hc' : ¬ (la : Int) < (lb : Int) := by omega
    obtain rfl : n = la := by omega
    go_enter Tryz.func155, Tryz.ntmps155
    go_wp2
    go_loopw [7] (fun i wr => ∃ k : Nat, i = .int .i64 (k : Int) ∧ k ≤ n ∧ Hid (RowI wr w.heap.size n (upTo (padF l m) k)) ∧ Hid (Below w.heap.size w wr)) (fun i _ => n - (intOf i).toNat)
    case atStart => exact ⟨0, rfl, Nat.zero_le _, H0, (Below.refl _ _).alloc (Nat.le_refl _) _⟩
    case round =>
      obtain ⟨k, rfl, hk, HR, HW⟩ := hrel
      clear hmk H0
      have hwn : ∀ y : Int, Hid (padF l m k = y) → Hid ((fun i => if i = k then y else upTo (padF l m) k i) = upTo (padF l m) (k + 1)) := fun y hy => by
        show _ = _
        rw [← hy.out]
        exact upTo_next _ _
      have hu0 : upTo (padF l m) k k = 0 := by unfold upTo; rw [if_neg (by omega)]
      by_cases hlt : k < n
      · have hlt' : (k : Int) < (n : Int) := by omega
        have hk0 : (0 : Int) ≤ (k : Int) := by omega
        by_cases ka : k < n
        · have ka' : (k : Int) < (n : Int) := by omega
          obtain ⟨ba, offa, rfl, hba, hza⟩ := (HA.out.on HW.out) k ka
          replace hza : wr.cell? ⟨ba, offa + k, none⟩ = some (.int .i64 (l.getD k 0)) := hza
          have CA : Hid (∀ w, Calls Tryz.prog 18 #[.int .i64 0, .int .i64 (l.getD k 0)] w fun e w' => e = .returned (.int .i64 (scAdd 0 (l.getD k 0))) ∧ w = w') := sScAdd_any _ _
          by_cases kb : k < lb
          · have kb' : (k : Int) < (lb : Int) := by omega
            have HY : Hid (padF l m k = scAdd (scAdd 0 (l.getD k 0)) (m.getD k 0)) := by show _ = _; rw [HP.out k, if_pos kb, if_pos ka]
            obtain ⟨bb, offb, rfl, hbb, hzb⟩ := (HB.out.on HW.out) k kb
            replace hzb : wr.cell? ⟨bb, offb + k, none⟩ = some (.int .i64 (m.getD k 0)) := hzb
            have CB : Hid (∀ w, Calls Tryz.prog 18 #[.int .i64 (scAdd 0 (l.getD k 0)), .int .i64 (m.getD k 0)] w fun e w' => e = .returned (.int .i64 (scAdd (scAdd 0 (l.getD k 0)) (m.getD k 0))) ∧ w = w') := sScAdd_any _ _
            generalize scAdd (scAdd 0 (l.getD k 0)) (m.getD k 0) = yb at CB HY
            generalize scAdd 0 (l.getD k 0) = ya at CA CB
            generalize l.getD k 0 = za at CA hza
            generalize m.getD k 0 = zb at CB hzb
            have RA := HR.out
            have BA := HW.out
            have EA := hu0
            have SA : Hid (RowI wr.drew w.heap.size n (upTo (padF l m) k) ∧ Below w.heap.size w wr.drew) := ⟨RA, BA.drew⟩
            have czA : ∀ wz, Below w.heap.size w wz → wz.cell? ⟨ba, offa + k, none⟩ = some (.int .i64 za) := fun wz hwz => (hwz.cell (p := ⟨ba, offa + k, none⟩) hba).trans ((HW.out.cell (p := ⟨ba, offa + k, none⟩) hba).symm.trans hza)
            go_wp2_with fail
            refine wp_region_last [(0, false), (1, false), (2, false), (3, false), (4, false), (5, false), (6, false), (7, false), (8, false), (9, false), (10, true), (11, false)] 12 (fun wz => RowI wz w.heap.size n (upTo (padF l m) k) ∧ Below w.heap.size w wz) mixesSc (by kernel_rfl) SA.out ?_
            repeat (refine ord_float rfl rfl (fun K hK => ⟨_, (fun w' hw => by have q0 := (show w'.cell? ⟨w.heap.size, k, none⟩ = some (.int .i64 0) from (hw.1.cell hlt).trans (by rw [EA])); have q1 :=  czA w' hw.2; go_simp; exact rfl), ?_⟩); go_simp; refine hK _ ?_; clear hK K)
            refine ord_call rfl rfl (fun K hK => ⟨_, _, (by go_simp <;> first | exact rfl | exact ⟨rfl, rfl⟩), ?_⟩)
            refine (CA.out _).mono ?_
            rintro e uA ⟨rfl, huA⟩
            have TA := huA ▸ SA.out
            refine ⟨_, rfl, TA, ?_⟩
            go_simp
            refine hK _ _ ?_
            clear hK K
            repeat (refine ord_float rfl rfl (fun K hK => ⟨_, (fun w' hw => by have q0 := (show w'.cell? ⟨w.heap.size, k, none⟩ = some (.int .i64 0) from (hw.1.cell hlt).trans (by rw [EA])); have q1 :=  czA w' hw.2; go_simp; exact rfl), ?_⟩); go_simp; refine hK _ ?_; clear hK K)
            refine ord_nil ?_
            have ccA : uA.cell? ⟨w.heap.size, k, none⟩ = some (.int .i64 0) := (TA.1.cell hlt).trans (by rw [EA])
            have cfA := TA.1.free k
            refine last_store rfl rfl rfl (uA.setCell ⟨w.heap.size, k, none⟩ (.int .i64 ya)) (by go_simp <;> rfl) ?_
            obtain ⟨VA, hVA⟩ : ∃ V, uA.setCell ⟨w.heap.size, k, none⟩ (.int .i64 ya) = V := ⟨_, rfl⟩
            have NA : RowI VA w.heap.size n (fun i => if i = k then ya else (upTo (padF l m) k) i) ∧ Below w.heap.size w VA := by rw [← hVA]; exact row_step ya TA.1 TA.2
            rw [hVA]
            clear hVA ccA cfA TA huA
            obtain ⟨FA, hFA⟩ : ∃ FA : Nat → Int, FA = fun i => if i = k then ya else upTo (padF l m) k i := ⟨_, rfl⟩
            rw [← hFA] at NA
            have hFk : FA k = ya := by rw [hFA]; exact if_pos rfl
            have HFA : Hid (FA = fun i => if i = k then ya else upTo (padF l m) k i) := hFA
            clear hFA
            have RB := NA.1
            have BB := NA.2
            have EB := hFk
            have SB : Hid (RowI VA.drew w.heap.size n FA ∧ Below w.heap.size w VA.drew) := ⟨RB, BB.drew⟩
            have czB : ∀ wz, Below w.heap.size w wz → wz.cell? ⟨bb, offb + k, none⟩ = some (.int .i64 zb) := fun wz hwz => (hwz.cell (p := ⟨bb, offb + k, none⟩) hbb).trans ((HW.out.cell (p := ⟨bb, offb + k, none⟩) hbb).symm.trans hzb)
            go_wp2_with fail
            refine wp_region_last [(0, false), (1, false), (2, false), (3, false), (4, false), (5, false), (6, false), (7, false), (8, false), (9, false), (10, true), (11, false)] 12 (fun wz => RowI wz w.heap.size n FA ∧ Below w.heap.size w wz) mixesSc (by kernel_rfl) SB.out ?_
            repeat (refine ord_float rfl rfl (fun K hK => ⟨_, (fun w' hw => by have q0 := (show w'.cell? ⟨w.heap.size, k, none⟩ = some (.int .i64 ya) from (hw.1.cell hlt).trans (by rw [EB])); have q1 :=  czB w' hw.2; go_simp; exact rfl), ?_⟩); go_simp; refine hK _ ?_; clear hK K)
            refine ord_call rfl rfl (fun K hK => ⟨_, _, (by go_simp <;> first | exact rfl | exact ⟨rfl, rfl⟩), ?_⟩)
            refine (CB.out _).mono ?_
            rintro e uB ⟨rfl, huB⟩
            have TB := huB ▸ SB.out
            refine ⟨_, rfl, TB, ?_⟩
            go_simp
            refine hK _ _ ?_
            clear hK K
            repeat (refine ord_float rfl rfl (fun K hK => ⟨_, (fun w' hw => by have q0 := (show w'.cell? ⟨w.heap.size, k, none⟩ = some (.int .i64 ya) from (hw.1.cell hlt).trans (by rw [EB])); have q1 :=  czB w' hw.2; go_simp; exact rfl), ?_⟩); go_simp; refine hK _ ?_; clear hK K)
            refine ord_nil ?_
            have ccB : uB.cell? ⟨w.heap.size, k, none⟩ = some (.int .i64 ya) := (TB.1.cell hlt).trans (by rw [EB])
            have cfB := TB.1.free k
            refine last_store rfl rfl rfl (uB.setCell ⟨w.heap.size, k, none⟩ (.int .i64 yb)) (by go_simp <;> rfl) ?_
            obtain ⟨VB, hVB⟩ : ∃ V, uB.setCell ⟨w.heap.size, k, none⟩ (.int .i64 yb) = V := ⟨_, rfl⟩
            have NB : RowI VB w.heap.size n (fun i => if i = k then yb else FA i) ∧ Below w.heap.size w VB := by rw [← hVB]; exact row_step yb TB.1 TB.2
            rw [hVB]
            clear hVB ccB cfB TB huB
            have HR2 : Hid (RowI VB w.heap.size n (upTo (padF l m) (k + 1))) := by
              show RowI _ _ _ _
              rw [← (hwn _ HY).out]
              exact NB.1.congr fun j _ => by rw [HFA.out]; by_cases hj : j = k <;> simp [hj]
            have HW2 : Hid (Below w.heap.size w VB) := NB.2
            clear NB HW HR
            go_wp2
            go_roundw
            case rel => exact ⟨k + 1, by go_num, hlt, HR2, HW2⟩
            case measure => simp [intOf]; omega
          · have kb' : ¬ (k : Int) < (lb : Int) := by omega
            have HY : Hid (padF l m k = scAdd 0 (l.getD k 0)) := by show _ = _; rw [HP.out k, if_neg kb, if_pos ka]
            generalize scAdd 0 (l.getD k 0) = ya at CA HY
            generalize l.getD k 0 = za at CA hza
            have RA := HR.out
            have BA := HW.out
            have EA := hu0
            have SA : Hid (RowI wr.drew w.heap.size n (upTo (padF l m) k) ∧ Below w.heap.size w wr.drew) := ⟨RA, BA.drew⟩
            have czA : ∀ wz, Below w.heap.size w wz → wz.cell? ⟨ba, offa + k, none⟩ = some (.int .i64 za) := fun wz hwz => (hwz.cell (p := ⟨ba, offa + k, none⟩) hba).trans ((HW.out.cell (p := ⟨ba, offa + k, none⟩) hba).symm.trans hza)
            go_wp2_with fail
            refine wp_region_last [(0, false), (1, false), (2, false), (3, false), (4, false), (5, false), (6, false), (7, false), (8, false), (9, false), (10, true), (11, false)] 12 (fun wz => RowI wz w.heap.size n (upTo (padF l m) k) ∧ Below w.heap.size w wz) mixesSc (by kernel_rfl) SA.out ?_
            repeat (refine ord_float rfl rfl (fun K hK => ⟨_, (fun w' hw => by have q0 := (show w'.cell? ⟨w.heap.size, k, none⟩ = some (.int .i64 0) from (hw.1.cell hlt).trans (by rw [EA])); have q1 :=  czA w' hw.2; go_simp; exact rfl), ?_⟩); go_simp; refine hK _ ?_; clear hK K)
            refine ord_call rfl rfl (fun K hK => ⟨_, _, (by go_simp <;> first | exact rfl | exact ⟨rfl, rfl⟩), ?_⟩)
            refine (CA.out _).mono ?_
            rintro e uA ⟨rfl, huA⟩
            have TA := huA ▸ SA.out
            refine ⟨_, rfl, TA, ?_⟩
            go_simp
            refine hK _ _ ?_
            clear hK K
            repeat (refine ord_float rfl rfl (fun K hK => ⟨_, (fun w' hw => by have q0 := (show w'.cell? ⟨w.heap.size, k, none⟩ = some (.int .i64 0) from (hw.1.cell hlt).trans (by rw [EA])); have q1 :=  czA w' hw.2; go_simp; exact rfl), ?_⟩); go_simp; refine hK _ ?_; clear hK K)
            refine ord_nil ?_
            have ccA : uA.cell? ⟨w.heap.size, k, none⟩ = some (.int .i64 0) := (TA.1.cell hlt).trans (by rw [EA])
            have cfA := TA.1.free k
            refine last_store rfl rfl rfl (uA.setCell ⟨w.heap.size, k, none⟩ (.int .i64 ya)) (by go_simp <;> rfl) ?_
            obtain ⟨VA, hVA⟩ : ∃ V, uA.setCell ⟨w.heap.size, k, none⟩ (.int .i64 ya) = V := ⟨_, rfl⟩
            have NA : RowI VA w.heap.size n (fun i => if i = k then ya else (upTo (padF l m) k) i) ∧ Below w.heap.size w VA := by rw [← hVA]; exact row_step ya TA.1 TA.2
            rw [hVA]
            clear hVA ccA cfA TA huA
            have HR2 : Hid (RowI VA w.heap.size n (upTo (padF l m) (k + 1))) := by
              show RowI _ _ _ _
              rw [← (hwn _ HY).out]
              exact NA.1
            have HW2 : Hid (Below w.heap.size w VA) := NA.2
            clear NA HW HR
            go_wp2
            go_roundw
            case rel => exact ⟨k + 1, by go_num, hlt, HR2, HW2⟩
            case measure => simp [intOf]; omega
        · omega
      · have hlt' : ¬ (k : Int) < (n : Int) := by omega
        have HF : Hid (RowI wr w.heap.size n (padF l m)) := HR.out.congr fun j hj => upTo_in _ (by omega)
        have HZ : Hid (ZAt wr wr.heap.size (.slice (some ⟨w.heap.size, 0, none⟩) n n) (zls (padF l m) n)) := ZAt.of (HF.out.ints HF.out.lt)
        have hzl : (zls (padF l m) n).length ≤ 1048576 := by rw [zls_length]; omega
        go_wp2_with fail
        refine (sTrim_any _ _ hzl _ HZ.out).mono ?_
        rintro e w5 ⟨u5, rfl, hO5, hb5⟩
        have HO5 : Hid (ZOwn w.heap.size w5.heap.size w5 u5 (qAdd l m)) := by
          show ZOwn _ _ _ _ _
          rw [HE.out]
          exact hO5.wide HW.out.size (Nat.le_refl _)
        have HB5 : Hid (Below w.heap.size w w5) := HW.out.trans (hb5.mono HW.out.size)
        clear hO5 hb5 HZ HF HR
        go_wp2
        go_ret
        exact ⟨_, rfl, HO5.out, HB5.out⟩

end Go.Proofs.YthnahalboomkoaaGreat
