/-
  The walk of the specification's division.
  (-DROP-: what the seat lacks is left out.)
-/
import Derived.Test.YtjlijflfepffiaaPolyMulS
import Derived.Test.YtjlijflfepffiaaJoined4

namespace Go.Proofs.Ytjlijflfepffiaa
open Go.RowKit

theorem slit0 (w : World) : RowZs w.heap.size (w.alloc (.cells #[] 3)) (.slice (some ⟨w.heap.size, 0, none⟩) 0 0) [] := own_lit w [] (by simp)
theorem slit0n (w : World) (g : Nat) (hg : g = w.heap.size) : RowZs g (w.alloc (.cells #[] 3)) (.slice (some ⟨g, 0, none⟩) 0 0) [] := by
  subst hg
  exact slit0 w
theorem rep_sets (i : Nat) (x : Int) (t : List Int) : (List.replicate (i + 1) 0 ++ t).set i x = List.replicate i 0 ++ (x :: t) := by
  rw [List.replicate_succ', List.append_assoc, List.set_append_right _ _ (by simp)]
  simp
theorem pTrim_sc {l : List Int} (h : ∀ j, Sc (l.getD j 0)) : pTrim l = trimZ l := can_eq (pTrim_can l) (Can.of_trim l h) fun j => by rw [pTrim_at, trimZ_at]; exact dp_sca _

set_option maxHeartbeats 6400000 in
set_option maxRecDepth 100000 in
theorem sDiv_any (v u : Value) (l m : List Int) (hl : l.length ≤ 1048576) (hm : m.length ≤ 1048576) (w : World) (h : ZAt w w.heap.size v l) (h2 : ZAt w w.heap.size u m) : Calls Try.prog 62 #[v, u] w fun e w' => ∃ q r, e = .returned (.tuple #[q, r]) ∧ ZOwn w.heap.size w'.heap.size w' q (pQuo l m) ∧ ZOwn w.heap.size w'.heap.size w' r (pRem l m) ∧ (∀ g, q.ownBlock = some g → r.ownBlock ≠ some g) ∧ Below w.heap.size w w' := by
  have HA : Hid (ZAt w w.heap.size v l) := h
  have HB : Hid (ZAt w w.heap.size u m) := h2
  obtain ⟨a, cp, rfl, hA⟩ := h
  obtain ⟨b, cq, rfl, hB⟩ := h2
  clear hA hB
  by_cases hbig : 64 < l.length ∨ 64 < m.length
  · have HE : Hid (pQuo l m = []) := by show _ = _; unfold pQuo; rw [if_pos (by omega)]
    have HE2 : Hid (pRem l m = []) := by show _ = _; unfold pRem; rw [if_pos hbig]
    have HF : Hid (ZOwn w.heap.size ((w.alloc (.cells #[] 3)).alloc (.cells #[] 3)).heap.size ((w.alloc (.cells #[] 3)).alloc (.cells #[] 3)) (.slice (some ⟨w.heap.size, 0, none⟩) 0 0) [] ∧ ZOwn w.heap.size ((w.alloc (.cells #[] 3)).alloc (.cells #[] 3)).heap.size ((w.alloc (.cells #[] 3)).alloc (.cells #[] 3)) (.slice (some ⟨w.heap.size + 1, 0, none⟩) 0 0) [] ∧ Below w.heap.size w ((w.alloc (.cells #[] 3)).alloc (.cells #[] 3))) := by
      refine ⟨ZOwn.of (World.ownsRow.alloc (slit0 w) _), (ZOwn.of (slit0n (w.alloc (.cells #[] 3)) (w.heap.size + 1) (by simp))).wide (by omega) (Nat.le_refl _), ((Below.refl _ _).alloc (Nat.le_refl _) _).alloc (by simp) _⟩
    generalize hla : l.length = la at *
    generalize hlb : m.length = lb at *
    clear hla hlb HA HB
    by_cases h1 : 64 < la
    · have h1' : (la : Int) > 64 := by omega
      clear hbig
      go_enter Try.func62, Try.ntmps62
      go_wp2
      go_ret2
      exact ⟨_, _, rfl, by rw [HE.out]; exact HF.out.1, by rw [HE2.out]; exact HF.out.2.1, fun g h1 h2 => by have e1 : w.heap.size = g := Option.some.inj h1; have e2 : w.heap.size + 1 = g := Option.some.inj h2; omega, HF.out.2.2⟩
    · have h1' : ¬ (la : Int) > 64 := by omega
      have h2' : (lb : Int) > 64 := by omega
      clear hbig
      go_enter Try.func62, Try.ntmps62
      go_wp2
      go_ret2
      exact ⟨_, _, rfl, by rw [HE.out]; exact HF.out.1, by rw [HE2.out]; exact HF.out.2.1, fun g h1 h2 => by have e1 : w.heap.size = g := Option.some.inj h1; have e2 : w.heap.size + 1 = g := Option.some.inj h2; omega, HF.out.2.2⟩
  · have C1 : Hid (∀ W : World, W = w → Calls Try.prog 94 #[.slice a l.length cp] W fun e w' => ∃ u, e = .returned u ∧ ZOwn W.heap.size w'.heap.size w' u (pTrim l) ∧ Below W.heap.size W w') := fun W e => by subst e; exact sTrim_any _ l hl _ HA.out
    have C2 : Hid (∀ W : World, Below w.heap.size w W → Calls Try.prog 94 #[.slice b m.length cq] W fun e w' => ∃ u, e = .returned u ∧ ZOwn W.heap.size w'.heap.size w' u (pTrim m) ∧ Below W.heap.size W w') := fun W hW => sTrim_any _ m hm _ ((HB.out.on hW).wide hW.size)
    have hl64 : ¬ (l.length : Int) > 64 := by omega
    have hm64 : ¬ (m.length : Int) > 64 := by omega
    have hpl := pTrim_len l
    have hpm := pTrim_len m
    have hll : l.length ≤ 64 ∧ m.length ≤ 64 := by omega
    have HE : Hid (¬ (64 < l.length ∨ 64 < m.length)) := hbig
    clear hbig
    generalize hla : l.length = la at C1 hl64 hpl hll ⊢
    generalize hlb : m.length = lb at C2 hm64 hpm hll ⊢
    clear hla hlb HA HB hl hm
    go_enter Try.func62, Try.ntmps62
    go_wp2_with fail
    go_at_call 94
    refine (C1.out _ rfl).mono ?_
    rintro e w1 ⟨v1, rfl, hv1, hb1⟩
    have HV1 : Hid (ZOwn w.heap.size w1.heap.size w1 v1 (pTrim l)) := hv1
    have HB1 : Hid (Below w.heap.size w w1) := hb1
    clear hv1 hb1
    go_wp2_with fail
    go_at_call 94
    refine (C2.out _ HB1.out).mono ?_
    rintro e w2 ⟨v2, rfl, hv2, hb2⟩
    have HV2 : Hid (ZOwn w1.heap.size w2.heap.size w2 v2 (pTrim m)) := hv2
    have HB2 : Hid (Below w1.heap.size w1 w2) := hb2
    clear hv2 hb2
    have HW : Hid (ZOwn w.heap.size w1.heap.size w2 v1 (pTrim l)) := HV1.out.on HB2.out (Nat.le_refl _)
    obtain ⟨a1, c1, hv⟩ := row_form HV1.out.1
    subst hv
    obtain ⟨a2, c2, hv⟩ := row_form HV2.out.1
    subst hv
    by_cases hs : (pTrim m).length = 0 ∨ (pTrim l).length < (pTrim m).length
    · have HQ : Hid (pQuo l m = []) := by show _ = _; unfold pQuo; rw [if_pos (Or.inr (Or.inr hs))]
      have HR : Hid (pRem l m = pTrim l) := by show _ = _; unfold pRem; rw [if_neg HE.out, if_pos hs]
      have HN : Hid (ZOwn w.heap.size (w2.alloc (.cells #[] 3)).heap.size (w2.alloc (.cells #[] 3)) (.slice (some ⟨w2.heap.size, 0, none⟩) 0 0) [] ∧ ZOwn w.heap.size (w2.alloc (.cells #[] 3)).heap.size (w2.alloc (.cells #[] 3)) (.slice a1 (pTrim l).length c1) (pTrim l) ∧ (∀ g, (Value.slice (some ⟨w2.heap.size, 0, none⟩) 0 0).ownBlock = some g → (Value.slice a1 (pTrim l).length c1).ownBlock ≠ some g) ∧ Below w.heap.size w (w2.alloc (.cells #[] 3))) := by
        have s1 := HB1.out.size
        have s2 := HB2.out.size
        have hbb : Below w2.heap.size w2 (w2.alloc (.cells #[] 3)) := (Below.refl _ _).alloc (Nat.le_refl _) _
        refine ⟨(ZOwn.of (slit0 w2)).wide (by omega) (Nat.le_refl _), (HW.out.on hbb s2).wide (Nat.le_refl _) (by simp; omega), fun g hq hr => ?_, (HB1.out.trans (HB2.out.mono s1)).trans (hbb.mono (by omega))⟩
        have e1 : w2.heap.size = g := Option.some.inj hq
        have := HV1.out.2 g hr
        omega
      by_cases hz : (pTrim m).length = 0
      · generalize (pTrim l).length = n1 at *
        rw [hz] at *
        clear hs
        go_wp2
        go_ret2
        exact ⟨_, _, rfl, by rw [HQ.out]; exact HN.out.1, by rw [HR.out]; exact HN.out.2.1, HN.out.2.2.1, HN.out.2.2.2⟩
      · have hz' : (((pTrim m).length : Int) == 0) = false := by rw [beq_eq_false_iff_ne]; omega
        have hz2 : ((pTrim l).length : Int) < ((pTrim m).length : Int) := by omega
        generalize (pTrim l).length = n1 at *
        generalize (pTrim m).length = n2 at *
        clear hs hz
        go_wp2
        go_ret2
        exact ⟨_, _, rfl, by rw [HQ.out]; exact HN.out.1, by rw [HR.out]; exact HN.out.2.1, HN.out.2.2.1, HN.out.2.2.2⟩
    · have hd0 : 0 < (pTrim m).length := by omega
      have hdp : (pTrim m).length ≤ (pTrim l).length := by omega
      have HQ : Hid (pQuo l m = pTrim (dv (pTrim m) ((pTrim m).length - 1) (dvC (pTrim m)) (dvN (pTrim l) (pTrim m)) (pTrim l)).1) := by
        show _ = _
        rw [trim_self (dv_can _ _ (pTrim_can l) (pTrim_can m) hd0 hdp)]
        unfold pQuo
        rw [if_neg (by have := HE.out; omega)]
      have HR : Hid (pRem l m = pTrim (dv (pTrim m) ((pTrim m).length - 1) (dvC (pTrim m)) (dvN (pTrim l) (pTrim m)) (pTrim l)).2) := by
        show _ = _
        rw [pTrim_sc (dv_sc2 _ _ _ (by omega) _ _ (by unfold dvN; omega) (pTrim_can l).1)]
        unfold pRem
        rw [if_neg HE.out, if_neg hs]
      obtain ⟨g, c1', hve, hgl, _, _⟩ := HW.out.1.cellZ (j := 0) (by omega)
      have ha1 : a1 = some ⟨g, 0, none⟩ := by injection hve
      subst ha1
      have hg1 : w.heap.size ≤ g ∧ g < w1.heap.size := HW.out.in g rfl
      clear hve hgl c1'
      obtain ⟨gd, c2', hve, _, _, hzd, _⟩ := HV2.out.1.cellZ (j := (pTrim m).length - 1) (by omega)
      have ha2 : a2 = some ⟨gd, 0, none⟩ := by injection hve
      subst ha2
      have hgd : w1.heap.size ≤ gd ∧ gd < w2.heap.size := HV2.out.in gd rfl
      clear hve c2'
      have CI : Hid (∀ w, Calls Try.prog 93 #[.int .i64 ((pTrim m).getD ((pTrim m).length - 1) 0)] w fun e w' => e = .returned (.int .i64 (dvC (pTrim m))) ∧ w = w') := fun w => sScInv_any _ w
      generalize dvC (pTrim m) = c at CI HQ HR
      obtain ⟨t, ht⟩ : ∃ t, (pTrim m).length = t + 1 := ⟨(pTrim m).length - 1, by omega⟩
      obtain ⟨n, hn⟩ : ∃ n, dvN (pTrim l) (pTrim m) = n + 1 := ⟨(pTrim l).length - (pTrim m).length, by unfold dvN; omega⟩
      have hpn : (pTrim l).length = n + 1 + t := by unfold dvN at hn; omega
      have ht1 : (pTrim m).length - 1 = t := by omega
      rw [hn, ht1] at HQ HR
      rw [ht1] at CI hzd
      obtain ⟨nd, hnd⟩ : ∃ nd, nd = t + 1 := ⟨_, rfl⟩
      obtain ⟨np, hnp⟩ : ∃ np, np = n + 1 + t := ⟨_, rfl⟩
      obtain ⟨no, hno⟩ : ∃ no, no = n + 1 := ⟨_, rfl⟩
      have HDL : Hid ((pTrim m).length = nd) := ht.trans hnd.symm
      have HPL : Hid ((pTrim l).length = np) := hpn.trans hnp.symm
      have HWR : Hid (RowZs w.heap.size w2 (.slice (some ⟨g, 0, none⟩) np c1) (pTrim l)) := by have := HW.out.1; rwa [HPL.out] at this
      have HDR : Hid (RowZs w1.heap.size w2 (.slice (some ⟨gd, 0, none⟩) nd c2) (pTrim m)) := by have := HV2.out.1; rwa [HDL.out] at this
      rw [HPL.out, HDL.out]
      have hr1 : nd ≤ t + 1 ∧ t + 1 ≤ nd ∧ np ≤ n + 1 + t ∧ n + 1 + t ≤ np ∧ no ≤ n + 1 ∧ n + 1 ≤ no ∧ np ≤ 64 := by omega
      rw [← hno] at HQ HR
      clear hs hd0 hdp hpl hpm hpn ht ht1 hn HW HV2 HV1 hnd hnp hno
      generalize (pTrim m).getD t 0 = zt at CI hzd
      generalize hfin : dv (pTrim m) t c no (pTrim l) = fin at HQ HR
      have HFI : Hid (dv (pTrim m) t c no (pTrim l) = fin) := hfin
      clear hfin
      generalize pTrim l = p at *
      generalize pTrim m = d at *
      have hmk : ∀ W : World, (Instr.makeSlice 27 (.int .i64 (no : Int)) (.int .i64 (no : Int))).run Try.prog W = .ok (.slice (some ⟨W.heap.size, 0, none⟩) no no) (W.alloc (.cells (ic (fun _ => 0) no) 3)) := fun W => make_ints no no (Nat.le_refl _) (by omega) W
      have HQ0 : Hid (RowZs w2.heap.size (w2.alloc (.cells (ic (fun _ => 0) no) 3)) (.slice (some ⟨w2.heap.size, 0, none⟩) no no) (List.replicate no 0)) := rowZ_none w2 no (by omega)
      generalize ic (fun _ => 0) no = M at hmk HQ0
      have hi0 : ((nd : Int) == 0) = false := by rw [beq_eq_false_iff_ne]; omega
      have hi1 : (nd : Int) - 1 = (t : Int) := by omega
      have hi2 : (np : Int) - (nd : Int) = (n : Int) := by omega
      have hi3 : (no : Int) - 1 = (n : Int) := by omega
      have hi7 : (n : Int) + 1 = (no : Int) := by omega
      have hi4 : (0 : Int) ≤ (t : Int) := by omega
      have hi5 : (t : Int) < (nd : Int) := by omega
      have hi6 : ¬ (np : Int) < (nd : Int) := by omega
      have hcz : (w2.alloc (.cells M 3)).cell? ⟨gd, t, none⟩ = some (.int .i64 zt) := (((Below.refl w2.heap.size w2).alloc (Nat.le_refl _) (.cells M 3)).cell (p := ⟨gd, t, none⟩) hgd.2).trans hzd
      go_wp2_with (go_at_call 93; refine (CI.out _).mono ?_; rintro e wz ⟨rfl, rfl⟩)
      go_loopw [10] (fun i wr => ∃ (k : Nat) (pc tl : List Int), i = .int .i64 ((k : Int) - 1) ∧ k ≤ no ∧ Hid (pc.length = np) ∧ Hid ((dv d t c k pc).1 ++ tl = fin.1 ∧ (dv d t c k pc).2 = fin.2) ∧ Hid (RowZs w2.heap.size wr (.slice (some ⟨w2.heap.size, 0, none⟩) no no) (List.replicate k 0 ++ tl)) ∧ Hid (RowZs w.heap.size wr (.slice (some ⟨g, 0, none⟩) np c1) pc) ∧ Hid (Kps (fun x => x = g ∨ x = w2.heap.size) w2 wr)) (fun i _ => (intOf i + 1).toNat)
      case atStart => exact ⟨no, p, [], congrArg (Value.int .i64) (by omega), Nat.le_refl _, HPL, ⟨by rw [List.append_nil, HFI.out], by rw [HFI.out]⟩, by rw [List.append_nil]; exact HQ0, (Kps.of_below (S := fun _ => False) ((Below.refl _ _).alloc (Nat.le_refl _) _)).row HWR.out (fun _ _ h => h), Kps.of_below ((Below.refl _ _).alloc (Nat.le_refl _) _)⟩
      case round =>
        obtain ⟨k, pc, tl, rfl, hk, HL, HF, HQR, HRR, HK⟩ := hrel
        clear HQ0 hmk hzd hcz HWR CI hi0 hi2 hi3 hi6 hi7
        by_cases hk0 : 0 < k
        · obtain ⟨j, rfl⟩ : ∃ j, k = j + 1 := ⟨k - 1, by omega⟩
          have hji : ((j + 1 : Nat) : Int) - 1 = (j : Int) := by omega
          have hj0 : (0 : Int) ≤ (j : Int) := by omega
          have hjn : (j : Int) < (no : Int) := by omega
          obtain ⟨mm, hm⟩ : ∃ mm, mm = j + t := ⟨_, rfl⟩
          obtain ⟨m1, hm1⟩ : ∃ m1, m1 = j + nd := ⟨_, rfl⟩
          have hjm : (j : Int) + (nd : Int) = (m1 : Int) := by omega
          have hjm1 : (m1 : Int) - 1 = (mm : Int) := by omega
          have hm0 : (0 : Int) ≤ (mm : Int) := by omega
          have hmn : (mm : Int) < (np : Int) := by omega
          have hwm1 : IntKind.i64.wrap (m1 : Int) = (m1 : Int) := IntWalk.i64_in _ (by omega)
          have hwm : IntKind.i64.wrap (mm : Int) = (mm : Int) := IntWalk.i64_in _ (by omega)
          obtain ⟨g', c', hve, _, _, hz, _⟩ := HRR.out.cellZ (j := mm) (by rw [HL.out]; omega)
          have hgg : g' = g := by injection hve with e1; injection e1 with e1; injection e1 with e1; exact e1.symm
          subst hgg
          have hlq : (List.replicate (j + 1) 0 ++ tl).length = no := HQR.out.len.symm
          obtain ⟨gq, cq', hveq, _, _, hzq, hzqf⟩ := HQR.out.cellZ (j := j) (by rw [hlq]; omega)
          have hgq : gq = w2.heap.size := by injection hveq with e1; injection e1 with e1; injection e1 with e1; exact e1.symm
          subst hgq
          have HKK : Hid (dvK t c pc j = scMul (pc.getD mm 0) c) := by rw [hm]; rfl
          have CM : Hid (∀ w, Calls Try.prog 14 #[.int .i64 (pc.getD mm 0), .int .i64 c] w fun e w' => e = .returned (.int .i64 (dvK t c pc j)) ∧ w = w') := fun w => by rw [HKK.out]; exact sScMul_any _ _ w
          have HF2 : Hid ((dv d t c j (addSh pc j (scNeg (dvK t c pc j)) (d.take nd))).1 ++ (dvK t c pc j :: tl) = fin.1 ∧ (dv d t c j (addSh pc j (scNeg (dvK t c pc j)) (d.take nd))).2 = fin.2) := by
            have e : d.take nd = d := by rw [← HDL.out, List.take_length]
            rw [e]
            exact ⟨by rw [← HF.out.1, dv, List.append_assoc]; rfl, by rw [← HF.out.2, dv]⟩
          have HQ2 : Hid (RowZs w2.heap.size (wr.setCell ⟨w2.heap.size, j, none⟩ (.int .i64 (dvK t c pc j))) (.slice (some ⟨w2.heap.size, 0, none⟩) no no) (List.replicate j 0 ++ (dvK t c pc j :: tl))) := by
            have := HQR.out.put j (dvK t c pc j)
            rwa [rep_sets] at this
          have HK2 : Hid (Kps (fun x => x = g' ∨ x = w2.heap.size) w2 (wr.setCell ⟨w2.heap.size, j, none⟩ (.int .i64 (dvK t c pc j)))) := HK.out.setCell (p := ⟨w2.heap.size, j, none⟩) (Or.inr rfl) _
          have HR2 : Hid (RowZs w.heap.size (wr.setCell ⟨w2.heap.size, j, none⟩ (.int .i64 (dvK t c pc j))) (.slice (some ⟨g', 0, none⟩) np c1) (addSh pc j (scNeg (dvK t c pc j)) (d.take 0))) := by
            rw [List.take_zero, addSh_nil]
            exact ((Kps.refl (fun x => x = w2.heap.size) wr).setCell (p := ⟨w2.heap.size, j, none⟩) rfl _).row HRR.out (fun k hk e => by have e1 : g' = k := Option.some.inj hk; omega)
          have HD2 : Hid (RowZs w1.heap.size (wr.setCell ⟨w2.heap.size, j, none⟩ (.int .i64 (dvK t c pc j))) (.slice (some ⟨gd, 0, none⟩) nd c2) d) := HK2.out.row HDR.out (fun k hk e => by
            have e1 : gd = k := Option.some.inj hk
            omega)
          have HX : Hid (∀ tt, tt < nd → (addSh pc j (scNeg (dvK t c pc j)) (d.take tt)).getD (j + tt) 0 = pc.getD (j + tt) 0) := fun tt htt => addSh_new pc j _ d (by rw [HL.out, HDL.out]; omega) (by rw [HDL.out]; exact htt)
          have HY : Hid (∀ tt, tt < nd → (addSh pc j (scNeg (dvK t c pc j)) (d.take tt)).set (j + tt) (scAdd (pc.getD (j + tt) 0) (scNeg (scMul (dvK t c pc j) (d.getD tt 0)))) = addSh pc j (scNeg (dvK t c pc j)) (d.take (tt + 1))) := fun tt htt => by
            rw [← shift_neg]
            exact addSh_next pc j _ d (by rw [HL.out, HDL.out]; omega) (by rw [HDL.out]; exact htt)
          have HLN : Hid (∀ tt, (addSh pc j (scNeg (dvK t c pc j)) (d.take tt)).length = np) := fun tt => by rw [addSh_len, HL.out]
          clear hve hveq HKK HF HQR HRR HK hlq hm hm1
          generalize hNN : scNeg (dvK t c pc j) = N at HF2 HR2 HX HY HLN
          clear hNN
          generalize dvK t c pc j = K at CM HF2 HQ2 HK2 HR2 HD2 HY
          generalize (List.replicate (j + 1) 0 ++ tl).getD j 0 = old at hzq
          generalize pc.getD mm 0 = x at hz CM
          go_wp2_with (go_at_call 14; refine (CM.out _).mono ?_; rintro e wz ⟨rfl, rfl⟩)
          generalize wr.setCell ⟨w2.heap.size, j, none⟩ (.int .i64 K) = V at HQ2 HK2 HR2 HD2 ⊢
          clear hz hzq hzqf CM hjm hjm1 hwm1 hwm hm0 hmn
          go_wp2
          go_loopw [12] (fun i wr => ∃ (tt : Nat), i = .int .i64 (tt : Int) ∧ tt ≤ nd ∧ Hid (RowZs w.heap.size wr (.slice (some ⟨g', 0, none⟩) np c1) (addSh pc j N (d.take tt))) ∧ Hid (Kps (fun x => x = g') V wr)) (fun i _ => nd - (intOf i).toNat)
          case atStart => exact ⟨0, rfl, Nat.zero_le _, HR2, Kps.refl _ _⟩
          case round =>
            obtain ⟨tt, rfl, ht, HRI, HKI⟩ := hrel
            clear HR2
            by_cases htl : tt < nd
            · have htl' : (tt : Int) < (nd : Int) := by omega
              have ht0 : (0 : Int) ≤ (tt : Int) := by omega
              have hxt := HX.out tt htl
              have hyt := HY.out tt htl
              generalize hii : j + tt = i at hxt hyt
              have hst : (j : Int) + (tt : Int) = (i : Int) := by omega
              have hst0 : (0 : Int) ≤ (i : Int) := by omega
              have hst1 : (i : Int) < (np : Int) := by omega
              have hwr : IntKind.i64.wrap (i : Int) = (i : Int) := IntWalk.i64_in _ (by omega)
              have hiL : i < np := by omega
              clear hii
              obtain ⟨g2, c', hv, _, _, hz, hf⟩ := HRI.out.cellZ (j := i) (by rw [HLN.out]; exact hiL)
              rw [hxt] at hz
              have hgg : g2 = g' := by injection hv with e1; injection e1 with e1; injection e1 with e1; exact e1.symm
              subst hgg
              have HDI : Hid (RowZs w1.heap.size wr (.slice (some ⟨gd, 0, none⟩) nd c2) d) := HKI.out.row HD2.out (fun k hk e => by have e1 : gd = k := Option.some.inj hk; omega)
              obtain ⟨gd2, c'', hv2, _, _, hzb, _⟩ := HDI.out.cellZ (j := tt) (by rw [HDL.out]; exact htl)
              have hgg : gd2 = gd := by injection hv2 with e1; injection e1 with e1; injection e1 with e1; exact e1.symm
              subst hgg
              have CM : Hid (∀ w, Calls Try.prog 14 #[.int .i64 K, .int .i64 (d.getD tt 0)] w fun e w' => e = .returned (.int .i64 (scMul K (d.getD tt 0))) ∧ w = w') := sScMul_any _ _
              have CN : Hid (∀ w, Calls Try.prog 95 #[.int .i64 (scMul K (d.getD tt 0))] w fun e w' => e = .returned (.int .i64 (scNeg (scMul K (d.getD tt 0)))) ∧ w = w') := sScNeg_any _
              have CA : Hid (∀ w, Calls Try.prog 13 #[.int .i64 (pc.getD i 0), .int .i64 (scNeg (scMul K (d.getD tt 0)))] w fun e w' => e = .returned (.int .i64 (scAdd (pc.getD i 0) (scNeg (scMul K (d.getD tt 0))))) ∧ w = w') := sScAdd_any _ _
              obtain ⟨L, hL⟩ : ∃ L, L = addSh pc j N (d.take tt) := ⟨_, rfl⟩
              have HRI2 : Hid (RowZs w.heap.size wr (.slice (some ⟨g2, 0, none⟩) np c1) L) := by rw [hL]; exact HRI
              rw [← hL] at hyt
              obtain ⟨L2, hL2⟩ : ∃ L, L = addSh pc j N (d.take (tt + 1)) := ⟨_, rfl⟩
              have HL2 : Hid (L2 = addSh pc j N (d.take (tt + 1))) := hL2
              rw [← hL2] at hyt
              have HNY : Hid (L.set i (scAdd (pc.getD i 0) (scNeg (scMul K (d.getD tt 0)))) = L2) := hyt
              have HC : Hid (∀ wz : World, wz.heap = wr.heap → wz.cell? ⟨g2, i, none⟩ = some (.int .i64 (pc.getD i 0)) ∧ wz.frozen? ⟨g2, i, none⟩ = false ∧ wz.cell? ⟨gd2, tt, none⟩ = some (.int .i64 (d.getD tt 0))) := fun wz hwz => ⟨cell_heap hz hwz, free_heap hf hwz, cell_heap hzb hwz⟩
              clear hyt hL hL2 hz hf hzb hxt hv hv2 HRI HDI
              generalize scAdd (pc.getD i 0) (scNeg (scMul K (d.getD tt 0))) = y at CA HNY
              generalize scNeg (scMul K (d.getD tt 0)) = q1 at CN CA
              generalize scMul K (d.getD tt 0) = q at CM CN
              generalize pc.getD i 0 = x at HC CA
              generalize d.getD tt 0 = z at CM HC
              go_wp2_with fail
              refine wp_region_last [(0, false), (1, false), (2, false), (3, false), (4, false), (5, false), (6, false), (7, false), (8, false), (9, false), (10, false), (11, false), (12, false), (13, false), (14, false), (15, true), (16, true), (17, true), (18, false)] 19 (fun wz => wz.heap = wr.heap) mixesSc (by kernel_rfl) rfl ?_
              repeat (refine ord_float rfl rfl (fun K hK => ⟨_, (fun w' hw => by have q0 := (HC.out w' hw).1; have q1 :=  (HC.out w' hw).2.2; go_simp; exact rfl), ?_⟩); go_simp; refine hK _ ?_; clear hK K)
              refine ord_call rfl rfl (fun K hK => ⟨_, _, (by go_simp <;> first | exact rfl | exact ⟨rfl, rfl⟩), ?_⟩)
              refine (CM.out _).mono ?_
              rintro e u1 ⟨rfl, hu1⟩
              have T1 : u1.heap = wr.heap := (by rw [← hu1]; rfl)
              refine ⟨_, rfl, T1, ?_⟩
              go_simp
              refine hK _ _ ?_
              clear hK K
              repeat (refine ord_float rfl rfl (fun K hK => ⟨_, (fun w' hw => by have q0 := (HC.out w' hw).1; go_simp; exact rfl), ?_⟩); go_simp; refine hK _ ?_; clear hK K)
              refine ord_call rfl rfl (fun K hK => ⟨_, _, (by go_simp <;> first | exact rfl | exact ⟨rfl, rfl⟩), ?_⟩)
              refine (CN.out _).mono ?_
              rintro e u2 ⟨rfl, hu2⟩
              have T2 : u2.heap = wr.heap := (congrArg World.heap hu2.symm).trans T1
              refine ⟨_, rfl, T2, ?_⟩
              go_simp
              refine hK _ _ ?_
              clear hK K
              repeat (refine ord_float rfl rfl (fun K hK => ⟨_, (fun w' hw => by have q0 := (HC.out w' hw).1; go_simp; exact rfl), ?_⟩); go_simp; refine hK _ ?_; clear hK K)
              refine ord_call rfl rfl (fun K hK => ⟨_, _, (by go_simp <;> first | exact rfl | exact ⟨rfl, rfl⟩), ?_⟩)
              refine (CA.out _).mono ?_
              rintro e u3 ⟨rfl, hu3⟩
              have T3 : u3.heap = wr.heap := (congrArg World.heap hu3.symm).trans T2
              refine ⟨_, rfl, T3, ?_⟩
              go_simp
              refine hK _ _ ?_
              clear hK K
              repeat (refine ord_float rfl rfl (fun K hK => ⟨_, (fun w' hw => by have q0 := (HC.out w' hw).1; go_simp; exact rfl), ?_⟩); go_simp; refine hK _ ?_; clear hK K)
              refine ord_nil ?_
              have hc2 := (HC.out u3 T3).1
              have hf2 := (HC.out u3 T3).2.1
              refine last_store rfl rfl rfl (u3.setCell ⟨g2, i, none⟩ (.int .i64 y)) (by go_simp <;> rfl) ?_
              have HR3 : Hid (RowZs w.heap.size (u3.setCell ⟨g2, i, none⟩ (.int .i64 y)) (.slice (some ⟨g2, 0, none⟩) np c1) L2) := by
                show RowZs _ _ _ _
                rw [← HNY.out]
                exact (HRI2.out.heap T3).put i y
              have HK3 : Hid (Kps (fun x => x = g2) V (u3.setCell ⟨g2, i, none⟩ (.int .i64 y))) := by
                subst hu1 hu2 hu3
                exact HKI.out.drew.setCell rfl _
              generalize u3.setCell ⟨g2, i, none⟩ (.int .i64 y) = V2 at HR3 HK3 ⊢
              clear hu1 hu2 hu3 T1 T2 T3 hc2 hf2 HC HRI2 HNY HKI CM CN CA
              go_wp2
              go_roundw
              case rel => exact ⟨tt + 1, by go_num, htl, by rw [← HL2.out]; exact HR3, HK3⟩
              case measure => simp [intOf]; omega
            · have htl' : ¬ (tt : Int) < (nd : Int) := by omega
              obtain rfl : nd = tt := by omega
              have HLN2 : Hid ((addSh pc j N (d.take nd)).length = np) := HLN.out nd
              have HQ3 : Hid (RowZs w2.heap.size wr (.slice (some ⟨w2.heap.size, 0, none⟩) no no) (List.replicate j 0 ++ (K :: tl))) := HKI.out.row HQ2.out (fun k hk e => by have e1 : w2.heap.size = k := Option.some.inj hk; omega)
              have HK3 : Hid (Kps (fun x => x = g' ∨ x = w2.heap.size) w2 wr) := HK2.out.trans (HKI.out.more fun _ h => Or.inl h)
              clear HQ2 HK2 HD2 HX HY HLN HKI
              go_wp2
              go_roundw
              case rel => exact ⟨j, _, K :: tl, by go_num, by omega, HLN2, HF2, HQ3, HRI, HK3⟩
              case measure => simp [intOf]
        · obtain rfl : k = 0 := by omega
          have hq1 : fin.1.length = no := by have h1 := HF.out.1; have h2 := HQR.out.len; rw [← h1]; exact h2.symm
          have hq2 : fin.2.length = np := by rw [← HF.out.2]; exact HL.out
          have HQA : Hid (ZOwn w2.heap.size wr.heap.size wr (.slice (some ⟨w2.heap.size, 0, none⟩) no no) fin.1) := by
            have h1 := HF.out.1
            show ZOwn _ _ _ _ _
            rw [← h1]
            exact ZOwn.of HQR.out
          have HRA : Hid (ZOwn w.heap.size wr.heap.size wr (.slice (some ⟨g, 0, none⟩) np c1) fin.2) := by
            rw [← HF.out.2]
            exact ZOwn.of HRR.out
          have s1 := HB1.out.size
          have s2 := HB2.out.size
          have HBW : Hid (Below w.heap.size w wr) := HK.out.bel (HB1.out.trans (HB2.out.mono s1)) (by omega) (fun k hk => by omega)
          have C3 : Hid (∀ W : World, W = wr → Calls Try.prog 94 #[.slice (some ⟨w2.heap.size, 0, none⟩) no no] W fun e w' => ∃ u, e = .returned u ∧ ZOwn W.heap.size w'.heap.size w' u (pQuo l m) ∧ Below W.heap.size W w') := fun W e => by
            subst e
            rw [HQ.out]
            exact sTrim_any _ fin.1 (by omega) _ HQA.out.at
          have C4 : Hid (∀ W : World, Below wr.heap.size wr W → Calls Try.prog 94 #[.slice (some ⟨g, 0, none⟩) np c1] W fun e w' => ∃ u, e = .returned u ∧ ZOwn W.heap.size w'.heap.size w' u (pRem l m) ∧ Below W.heap.size W w') := fun W hW => by
            rw [HR.out]
            exact sTrim_any _ fin.2 (by omega) _ ((HRA.out.at.on hW).wide hW.size)
          clear HF HQR HRR HK HQ HR hq1 hq2 HFI
          go_wp2_with fail
          go_at_call 94
          refine (C3.out _ rfl).mono ?_
          rintro e w3 ⟨qv, rfl, hqv, hb3⟩
          go_wp2_with fail
          go_at_call 94
          refine (C4.out _ hb3).mono ?_
          rintro e w4 ⟨rv, rfl, hrv, hb4⟩
          have hsw := HBW.out.size
          have hs3 := hb3.size
          have HQV : Hid (ZOwn wr.heap.size w3.heap.size w4 qv (pQuo l m)) := hqv.on hb4 (Nat.le_refl _)
          have HRV : Hid (ZOwn w3.heap.size w4.heap.size w4 rv (pRem l m)) := hrv
          have HB4 : Hid (Below w.heap.size w w4) := (HBW.out.trans (hb3.mono hsw)).trans (hb4.mono (by omega))
          have hs4 := hb4.size
          clear hqv hrv hb3 hb4 C3 C4
          go_wp2
          go_ret2
          refine ⟨qv, rv, rfl, HQV.out.wide hsw hs4, HRV.out.wide (by omega) (Nat.le_refl _), fun k h1 h2 => ?_, HB4.out⟩
          have e1 := HQV.out.in k h1
          have e2 := HRV.out.in k h2
          omega

end Go.Proofs.Ytjlijflfepffiaa
