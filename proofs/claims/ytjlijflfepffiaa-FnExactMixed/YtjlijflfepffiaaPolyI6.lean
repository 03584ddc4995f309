/-
  The walks of the program's division.
  (-DROP-: what the seat lacks is left out.)
-/
import Derived.Test.YtjlijflfepffiaaJoined39
import Derived.Test.YtjlijflfepffiaaJoined5
namespace Go.Proofs.Ytjlijflfepffiaa
open Go.RowKit

theorem rep_set (i : Nat) (x : Int) (t : List Int) : (List.replicate (i + 1) 0 ++ t).set i x = List.replicate i 0 ++ (x :: t) := by
  rw [List.replicate_succ', List.append_assoc, List.set_append_right _ _ (by simp)]
  simp
theorem rep_get (i : Nat) (x : Int) (t : List Int) : (List.replicate i 0 ++ (x :: t)).getD i 0 = x := by
  rw [shift_getD, if_pos (Nat.le_refl _), Nat.sub_self]
  rfl

set_option maxHeartbeats 3200000 in
set_option maxRecDepth 100000 in
theorem dip_any (v u : Value) (p d : List Int) (B B2 g : Nat) (w : World) (hp : RowZs B w v p) (hd : RowZs B2 w u d) (hg : v.ownBlock = some g) (hne : u.ownBlock ≠ some g) (h0 : 0 < d.length) (h1 : d.length ≤ p.length) (h2 : p.length ≤ 64) :
    Calls Try.prog 105 #[v, u] w fun e w' => ∃ q r, e = .returned (.tuple #[q, r]) ∧ RowZs w.heap.size w' q (dv d (d.length - 1) (dvC d) (dvN p d) p).1 ∧ RowZs B w' r (trimZ (dv d (d.length - 1) (dvC d) (dvN p d) p).2) ∧ q.ownBlock = some w.heap.size ∧ (∀ k, r.ownBlock = some k → k = g) ∧ Kps (fun x => x = g) w w' := by
  obtain ⟨ra, rc, hv⟩ := row_form hp
  subst hv
  obtain ⟨da, dc, hv⟩ := row_form hd
  subst hv
  have hgs : g < w.heap.size := (hp.lt g hg).2
  have HD : Hid (RowZs B2 w (.slice da d.length dc) d) := hd
  have HNE : Hid ((Value.slice da d.length dc).ownBlock ≠ some g) := hne
  have HP : Hid (RowZs B w (.slice ra p.length rc) p) := hp
  have hra : ra = some ⟨g, 0, none⟩ := by
    rcases hp.2 with ⟨_, hz⟩ | ⟨g', c', cur, hve, _⟩
    · omega
    · injection hve with e1
      subst e1
      injection hg with e2
      subst e2
      rfl
  subst hra
  obtain ⟨gd, c', hve, hd1, hd2, hzd, _⟩ := hd.cellZ (j := d.length - 1) (by omega)
  have hda : da = some ⟨gd, 0, none⟩ := by injection hve
  subst hda
  clear hve hd1 hd2
  have HC : Hid (dvC d = scInv (d.getD (d.length - 1) 0)) := rfl
  have CI : Hid (∀ w, Calls Try.prog 90 #[.int .i64 (d.getD (d.length - 1) 0)] w fun e w' => e = .returned (.int .i64 (dvC d)) ∧ w = w') := fun w => iScInv_any _ w
  generalize hcc : dvC d = c at CI HC ⊢
  obtain ⟨t, ht⟩ : ∃ t, d.length = t + 1 := ⟨d.length - 1, by omega⟩
  obtain ⟨n, hn⟩ : ∃ n, dvN p d = n + 1 := ⟨p.length - d.length, by unfold dvN; omega⟩
  have hpn : p.length = n + 1 + t := by unfold dvN at hn; omega
  have ht1 : d.length - 1 = t := by omega
  rw [hn, ht1]
  rw [ht1] at CI hzd
  rw [ht] at HD HNE ⊢
  have HPL : Hid (p.length = n + 1 + t) := hpn
  rw [hpn] at HP ⊢
  generalize hzz : d.getD t 0 = z at CI hzd
  have HDL : Hid (d.length = t + 1) := ht
  have hb1 : n + 1 + t ≤ 64 := by omega
  clear hp hd hg hne h0 h1 h2 hcc hn hpn ht1 ht hzz HC
  have hmk : ∀ W : World, (Instr.makeSlice 27 (.int .i64 ((n : Int) + 1)) (.int .i64 ((n : Int) + 1))).run Try.prog W = .ok (.slice (some ⟨W.heap.size, 0, none⟩) (n + 1) (n + 1)) (W.alloc (.cells (ic (fun _ => 0) (n + 1)) 3)) := fun W => by
    have := make_ints (n + 1) (n + 1) (Nat.le_refl _) (by omega) W
    rwa [show ((n + 1 : Nat) : Int) = (n : Int) + 1 by omega] at this
  have HQ0 : Hid (RowZs w.heap.size (w.alloc (.cells (ic (fun _ => 0) (n + 1)) 3)) (.slice (some ⟨w.heap.size, 0, none⟩) (n + 1) (n + 1)) (List.replicate (n + 1) 0)) := rowZ_zero w (n + 1) (by omega)
  generalize ic (fun _ => 0) (n + 1) = M at hmk HQ0
  have hi1 : ((t + 1 : Nat) : Int) - 1 = (t : Int) := by omega
  have hi2 : ((n + 1 + t : Nat) : Int) - (t : Int) = (n : Int) + 1 := by omega
  have hi3 : ((n + 1 : Nat) : Int) - 1 = (n : Int) := by omega
  have hi4 : (0 : Int) ≤ (t : Int) := by omega
  have hi5 : (t : Int) < ((t + 1 : Nat) : Int) := by omega
  generalize hfin : dv d t c (n + 1) p = fin at *
  go_enter Try.func105, Try.ntmps105
  go_wp2_with (go_at_call 90; refine (CI.out _).mono ?_; rintro e wz ⟨rfl, rfl⟩)
  go_loopw [9] (fun i wr => ∃ (k : Nat) (pc tl : List Int), i = .int .i64 ((k : Int) - 1) ∧ k ≤ n + 1 ∧ Hid (pc.length = n + 1 + t) ∧ Hid ((dv d t c k pc).1 ++ tl = fin.1 ∧ (dv d t c k pc).2 = fin.2) ∧ Hid (RowZs w.heap.size wr (.slice (some ⟨w.heap.size, 0, none⟩) (n + 1) (n + 1)) (List.replicate k 0 ++ tl)) ∧ Hid (RowZs B wr (.slice (some ⟨g, 0, none⟩) (n + 1 + t) rc) pc) ∧ Hid (Kps (fun x => x = g ∨ x = w.heap.size) w wr)) (fun i _ => (intOf i + 1).toNat)
  case atStart => exact ⟨n + 1, p, [], congrArg (Value.int .i64) (by omega), Nat.le_refl _, HPL, ⟨by rw [List.append_nil, hfin], by rw [hfin]⟩, by rw [List.append_nil]; exact HQ0, (Kps.of_below (S := fun _ => False) ((Below.refl _ _).alloc (Nat.le_refl _) _)).row HP.out (fun _ _ h => h), Kps.of_below ((Below.refl _ _).alloc (Nat.le_refl _) _)⟩
  case round =>
    obtain ⟨k, pc, tl, rfl, hk, HL, HF, HQ, HR, HK⟩ := hrel
    clear HQ0 hmk hzd HP CI hi1 hi2 hi3
    by_cases hk0 : 0 < k
    · obtain ⟨j, rfl⟩ : ∃ j, k = j + 1 := ⟨k - 1, by omega⟩
      have hji : ((j + 1 : Nat) : Int) - 1 = (j : Int) := by omega
      have hj0 : (0 : Int) ≤ (j : Int) := by omega
      have hjn : (j : Int) < ((n + 1 : Nat) : Int) := by omega
      obtain ⟨m, hm⟩ : ∃ m, m = j + t := ⟨_, rfl⟩
      have hjm : (j : Int) + (t : Int) = (m : Int) := by omega
      have hm0 : (0 : Int) ≤ (m : Int) := by omega
      have hmn : (m : Int) < ((n + 1 + t : Nat) : Int) := by omega
      have hwm : IntKind.i64.wrap (m : Int) = (m : Int) := IntWalk.i64_in _ (by omega)
      obtain ⟨g', c', hve, _, _, hz, hzf⟩ := HR.out.cellZ (j := m) (by rw [HL.out]; omega)
      have hgg : g' = g := by injection hve with e1; injection e1 with e1; injection e1 with e1; exact e1.symm
      subst hgg
      have hlq : (List.replicate (j + 1) 0 ++ tl).length = n + 1 := by have := HQ.out.len; omega
      obtain ⟨gq, cq', hveq, _, _, hzq, hzqf⟩ := HQ.out.cellZ (j := j) (by rw [hlq]; omega)
      have hgq : gq = w.heap.size := by injection hveq with e1; injection e1 with e1; injection e1 with e1; exact e1.symm
      subst hgq
      have HKK : Hid (dvK t c pc j = scMul (pc.getD m 0) c) := by rw [hm]; rfl
      have CM : Hid (∀ w, Calls Try.prog 84 #[.int .i64 (pc.getD m 0), .int .i64 c] w fun e w' => e = .returned (.int .i64 (dvK t c pc j)) ∧ w = w') := fun w => by rw [HKK.out]; exact iScMul_any _ _ w
      have CN : Hid (∀ w, Calls Try.prog 89 #[.int .i64 (dvK t c pc j)] w fun e w' => e = .returned (.int .i64 (scNeg (dvK t c pc j))) ∧ w = w') := fun w => iScNeg_any _ w
      have HF2 : Hid ((dv d t c j (addSh pc j (scNeg (dvK t c pc j)) d)).1 ++ (dvK t c pc j :: tl) = fin.1 ∧ (dv d t c j (addSh pc j (scNeg (dvK t c pc j)) d)).2 = fin.2) := ⟨by rw [← HF.out.1, dv, List.append_assoc]; rfl, by rw [← HF.out.2, dv]⟩
      have HQ2 : Hid (RowZs w.heap.size (wr.setCell ⟨w.heap.size, j, none⟩ (.int .i64 (dvK t c pc j))) (.slice (some ⟨w.heap.size, 0, none⟩) (n + 1) (n + 1)) (List.replicate j 0 ++ (dvK t c pc j :: tl))) := by
        have := HQ.out.put j (dvK t c pc j)
        rwa [rep_set] at this
      have HK2 : Hid (Kps (fun x => x = g' ∨ x = w.heap.size) w (wr.setCell ⟨w.heap.size, j, none⟩ (.int .i64 (dvK t c pc j)))) := HK.out.setCell (p := ⟨w.heap.size, j, none⟩) (Or.inr rfl) _
      have HR2 : Hid (RowZs B (wr.setCell ⟨w.heap.size, j, none⟩ (.int .i64 (dvK t c pc j))) (.slice (some ⟨g', 0, none⟩) (n + 1 + t) rc) pc) := ((Kps.refl (fun x => x = w.heap.size) wr).setCell (p := ⟨w.heap.size, j, none⟩) rfl _).row HR.out (fun k hk e => by have e1 : g' = k := Option.some.inj hk; omega)
      have HD2 : Hid (RowZs B2 (wr.setCell ⟨w.heap.size, j, none⟩ (.int .i64 (dvK t c pc j))) (.slice (some ⟨gd, 0, none⟩) (t + 1) dc) d) := HK2.out.row HD.out (fun k hk e => by
        rcases e with e | e
        · exact HNE.out (e ▸ hk)
        · have := (HD.out.lt k hk).2; omega)
      have CS : Hid (∀ V : World, RowZs B V (.slice (some ⟨g', 0, none⟩) (n + 1 + t) rc) pc → RowZs B2 V (.slice (some ⟨gd, 0, none⟩) (t + 1) dc) d → Calls Try.prog 97 #[.slice (some ⟨g', 0, none⟩) (n + 1 + t) rc, .int .i64 (j : Int), .int .i64 (scNeg (dvK t c pc j)), .slice (some ⟨gd, 0, none⟩) (t + 1) dc] V fun e w' => e = .returned (.tuple #[]) ∧ RowZs B w' (.slice (some ⟨g', 0, none⟩) (n + 1 + t) rc) (addSh pc j (scNeg (dvK t c pc j)) d) ∧ Kps (fun x => x = g') V w') := fun V h1 h2 => by
        refine iSh_any _ _ pc d j _ B g' V h1 (fun _ => rfl) (ZFar.of_row h2 HNE.out) ?_ ?_
        · rw [HL.out, HDL.out]; omega
        · rw [HL.out]; omega
      have HL2 : Hid ((addSh pc j (scNeg (dvK t c pc j)) d).length = n + 1 + t) := by show _ = _; rw [addSh_len, HL.out]
      have HGQ : Hid (∀ V : World, RowZs w.heap.size V (.slice (some ⟨w.heap.size, 0, none⟩) (n + 1) (n + 1)) (List.replicate j 0 ++ (dvK t c pc j :: tl)) → V.cell? ⟨w.heap.size, j, none⟩ = some (.int .i64 (dvK t c pc j))) := fun V hV => by
        obtain ⟨gq, cq', hveq, _, _, hzq, _⟩ := hV.cellZ (j := j) (by have := hV.len; omega)
        have hgq : gq = w.heap.size := by injection hveq with e1; injection e1 with e1; injection e1 with e1; exact e1.symm
        subst hgq
        rwa [rep_get] at hzq
      clear hve hveq HKK HF HQ HR HK hlq hm hzf
      generalize addSh pc j (scNeg (dvK t c pc j)) d = pc2 at CS HF2 HL2
      generalize scNeg (dvK t c pc j) = N at CN CS
      generalize dvK t c pc j = K at CM CN HF2 HQ2 HK2 HR2 HGQ HD2
      have hq2 := HGQ.out _ HQ2.out
      generalize (List.replicate (j + 1) 0 ++ tl).getD j 0 = old at hzq
      generalize pc.getD m 0 = x at hz CM
      go_wp2_with fail
      go_at_call 84
      refine (CM.out _).mono ?_
      rintro e wz ⟨rfl, rfl⟩
      go_wp2_with fail
      go_at_call 89
      refine (CN.out _).mono ?_
      rintro e wz ⟨rfl, rfl⟩
      go_wp2_with fail
      go_at_call 97
      refine (CS.out _ HR2.out HD2.out).mono ?_
      rintro e w2 ⟨rfl, hr2, hk2⟩
      have HR3 : Hid (RowZs B w2 (.slice (some ⟨g', 0, none⟩) (n + 1 + t) rc) pc2) := hr2
      have HQ3 : Hid (RowZs w.heap.size w2 (.slice (some ⟨w.heap.size, 0, none⟩) (n + 1) (n + 1)) (List.replicate j 0 ++ (K :: tl))) := hk2.row HQ2.out (fun k hk e => by have e1 : w.heap.size = k := Option.some.inj hk; omega)
      have HK3 : Hid (Kps (fun x => x = g' ∨ x = w.heap.size) w w2) := HK2.out.trans (hk2.more fun _ h => Or.inl h)
      clear hr2 hk2 HQ2 HK2 HR2 HGQ HD2 hq2 CS CN CM
      go_wp2
      go_roundw
      case rel => exact ⟨j, pc2, K :: tl, by go_num, by omega, HL2, HF2, HQ3, HR3, HK3⟩
      case measure => simp [intOf]
    · obtain rfl : k = 0 := by omega
      have CT : Hid (Calls Try.prog 98 #[.slice (some ⟨g, 0, none⟩) (n + 1 + t) rc] wr fun e w' => ∃ x, e = .returned x ∧ RowZs B wr x (trimZ fin.2) ∧ (∀ k, x.ownBlock = some k → k = g) ∧ wr = w') := by
        refine (trimmed_any _ pc (by rw [HL.out]; omega) B wr HR.out).mono ?_
        rintro e w' ⟨a, n, c', h1, h2, h3, h4⟩
        rw [← HF.out.2]
        injection h1 with e1
        subst e1
        exact ⟨_, h2, h3, fun k hk => (Option.some.inj hk).symm, h4⟩
      have HQ2 : Hid (RowZs w.heap.size wr (.slice (some ⟨w.heap.size, 0, none⟩) (n + 1) (n + 1)) fin.1) := by
        have h1 := HF.out.1
        show RowZs _ _ _ _
        rw [← h1]
        exact HQ.out
      have HK2 : Hid (Kps (fun x => x = g) w wr) := ⟨HK.out.os, HK.out.tape, HK.out.output, HK.out.size, fun k hk hs => HK.out.block k hk (by omega)⟩
      clear HF HQ HR HK
      go_wp2_with (go_at_call 98; refine CT.out.mono ?_; rintro e w3 ⟨x, rfl, hx, hxo, rfl⟩)
      go_ret2
      exact ⟨_, _, rfl, HQ2.out, hx, rfl, hxo, HK2.out⟩

end Go.Proofs.Ytjlijflfepffiaa
