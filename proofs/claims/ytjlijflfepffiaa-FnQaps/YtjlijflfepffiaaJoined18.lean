/-
  Texts of one's own, joined.
-/
import Derived.Test.YtjlijflfepffiaaJoined14
import Derived.Test.YtjlijflfepffiaaJoined4
import Derived.Test.YtjlijflfepffiaaJoined10

/-
  The walks of the program's division.
  (-DROP-: what the seat lacks is left out.)
-/
namespace Go.Proofs.Ytjlijflfepffiaa
open Go.RowKit

theorem rep_set (i : Nat) (x : Int) (t : List Int) : (List.replicate (i + 1) 0 ++ t).set i x = List.replicate i 0 ++ (x :: t) := by
  rw [List.replicate_succ', List.append_assoc, List.set_append_right _ _ (by simp)]
  simp
theorem rep_get (i : Nat) (x : Int) (t : List Int) : (List.replicate i 0 ++ (x :: t)).getD i 0 = x := by
  rw [shift_getD, if_pos (Nat.le_refl _), Nat.sub_self]
  rfl

set_option maxHeartbeats 3200000 in
set_option maxRecDepth 100000 in
theorem dip_any (v u : Value) (p d : List Int) (B B2 g : Nat) (w : World) (hp : RowZs B w v p) (hd : RowZs B2 w u d) (hg : v.ownBlock = some g) (hne : u.ownBlock ≠ some g) (h0 : 0 < d.length) (h1 : d.length ≤ p.length) (h2 : p.length ≤ 64) :
    Calls Try.prog 105 #[v, u] w fun e w' => ∃ q r, e = .returned (.tuple #[q, r]) ∧ RowZs w.heap.size w' q (dv d (d.length - 1) (dvC d) (dvN p d) p).1 ∧ RowZs B w' r (trimZ (dv d (d.length - 1) (dvC d) (dvN p d) p).2) ∧ q.ownBlock = some w.heap.size ∧ (∀ k, r.ownBlock = some k → k = g) ∧ Kps (fun x => x = g) w w' := by
  obtain ⟨ra, rc, hv⟩ := row_form hp
  subst hv
  obtain ⟨da, dc, hv⟩ := row_form hd
  subst hv
  have hgs : g < w.heap.size := (hp.lt g hg).2
  have HD : Hid (RowZs B2 w (.slice da d.length dc) d) := hd
  have HNE : Hid ((Value.slice da d.length dc).ownBlock ≠ some g) := hne
  have HP : Hid (RowZs B w (.slice ra p.length rc) p) := hp
  have hra : ra = some ⟨g, 0, none⟩ := by
    rcases hp.2 with ⟨_, hz⟩ | ⟨g', c', cur, hve, _⟩
    · omega
    · injection hve with e1
      subst e1
      injection hg with e2
      subst e2
      rfl
  subst hra
  obtain ⟨gd, c', hve, hd1, hd2, hzd, _⟩ := hd.cellZ (j := d.length - 1) (by omega)
  have hda : da = some ⟨gd, 0, none⟩ := by injection hve
  subst hda
  clear hve hd1 hd2
  have HC : Hid (dvC d = scInv (d.getD (d.length - 1) 0)) := rfl
  have CI : Hid (∀ w, Calls Try.prog 90 #[.int .i64 (d.getD (d.length - 1) 0)] w fun e w' => e = .returned (.int .i64 (dvC d)) ∧ w = w') := fun w => iScInv_any _ w
  generalize hcc : dvC d = c at CI HC ⊢
  obtain ⟨t, ht⟩ : ∃ t, d.length = t + 1 := ⟨d.length - 1, by omega⟩
  obtain ⟨n, hn⟩ : ∃ n, dvN p d = n + 1 := ⟨p.length - d.length, by unfold dvN; omega⟩
  have hpn : p.length = n + 1 + t := by unfold dvN at hn; omega
  have ht1 : d.length - 1 = t := by omega
  rw [hn, ht1]
  rw [ht1] at CI hzd
  rw [ht] at HD HNE ⊢
  have HPL : Hid (p.length = n + 1 + t) := hpn
  rw [hpn] at HP ⊢
  generalize hzz : d.getD t 0 = z at CI hzd
  have HDL : Hid (d.length = t + 1) := ht
  have hb1 : n + 1 + t ≤ 64 := by omega
  clear hp hd hg hne h0 h1 h2 hcc hn hpn ht1 ht hzz HC
  have hmk : ∀ W : World, (Instr.makeSlice 27 (.int .i64 ((n : Int) + 1)) (.int .i64 ((n : Int) + 1))).run Try.prog W = .ok (.slice (some ⟨W.heap.size, 0, none⟩) (n + 1) (n + 1)) (W.alloc (.cells (ic (fun _ => 0) (n + 1)) 3)) := fun W => by
    have := make_ints (n + 1) (n + 1) (Nat.le_refl _) (by omega) W
    rwa [show ((n + 1 : Nat) : Int) = (n : Int) + 1 by omega] at this
  have HQ0 : Hid (RowZs w.heap.size (w.alloc (.cells (ic (fun _ => 0) (n + 1)) 3)) (.slice (some ⟨w.heap.size, 0, none⟩) (n + 1) (n + 1)) (List.replicate (n + 1) 0)) := rowZ_zero w (n + 1) (by omega)
  generalize ic (fun _ => 0) (n + 1) = M at hmk HQ0
  have hi1 : ((t + 1 : Nat) : Int) - 1 = (t : Int) := by omega
  have hi2 : ((n + 1 + t : Nat) : Int) - (t : Int) = (n : Int) + 1 := by omega
  have hi3 : ((n + 1 : Nat) : Int) - 1 = (n : Int) := by omega
  have hi4 : (0 : Int) ≤ (t : Int) := by omega
  have hi5 : (t : Int) < ((t + 1 : Nat) : Int) := by omega
  generalize hfin : dv d t c (n + 1) p = fin at *
  go_enter Try.func105, Try.ntmps105
  go_wp2_with (go_at_call 90; refine (CI.out _).mono ?_; rintro e wz ⟨rfl, rfl⟩)
  go_loopw [9] (fun i wr => ∃ (k : Nat) (pc tl : List Int), i = .int .i64 ((k : Int) - 1) ∧ k ≤ n + 1 ∧ Hid (pc.length = n + 1 + t) ∧ Hid ((dv d t c k pc).1 ++ tl = fin.1 ∧ (dv d t c k pc).2 = fin.2) ∧ Hid (RowZs w.heap.size wr (.slice (some ⟨w.heap.size, 0, none⟩) (n + 1) (n + 1)) (List.replicate k 0 ++ tl)) ∧ Hid (RowZs B wr (.slice (some ⟨g, 0, none⟩) (n + 1 + t) rc) pc) ∧ Hid (Kps (fun x => x = g ∨ x = w.heap.size) w wr)) (fun i _ => (intOf i + 1).toNat)
  case atStart => exact ⟨n + 1, p, [], congrArg (Value.int .i64) (by omega), Nat.le_refl _, HPL, ⟨by rw [List.append_nil, hfin], by rw [hfin]⟩, by rw [List.append_nil]; exact HQ0, (Kps.of_below (S := fun _ => False) ((Below.refl _ _).alloc (Nat.le_refl _) _)).row HP.out (fun _ _ h => h), Kps.of_below ((Below.refl _ _).alloc (Nat.le_refl _) _)⟩
  case round =>
    obtain ⟨k, pc, tl, rfl, hk, HL, HF, HQ, HR, HK⟩ := hrel
    clear HQ0 hmk hzd HP CI hi1 hi2 hi3
    by_cases hk0 : 0 < k
    · obtain ⟨j, rfl⟩ : ∃ j, k = j + 1 := ⟨k - 1, by omega⟩
      have hji : ((j + 1 : Nat) : Int) - 1 = (j : Int) := by omega
      have hj0 : (0 : Int) ≤ (j : Int) := by omega
      have hjn : (j : Int) < ((n + 1 : Nat) : Int) := by omega
      obtain ⟨m, hm⟩ : ∃ m, m = j + t := ⟨_, rfl⟩
      have hjm : (j : Int) + (t : Int) = (m : Int) := by omega
      have hm0 : (0 : Int) ≤ (m : Int) := by omega
      have hmn : (m : Int) < ((n + 1 + t : Nat) : Int) := by omega
      have hwm : IntKind.i64.wrap (m : Int) = (m : Int) := IntWalk.i64_in _ (by omega)
      obtain ⟨g', c', hve, _, _, hz, hzf⟩ := HR.out.cellZ (j := m) (by rw [HL.out]; omega)
      have hgg : g' = g := by injection hve with e1; injection e1 with e1; injection e1 with e1; exact e1.symm
      subst hgg
      have hlq : (List.replicate (j + 1) 0 ++ tl).length = n + 1 := by have := HQ.out.len; omega
      obtain ⟨gq, cq', hveq, _, _, hzq, hzqf⟩ := HQ.out.cellZ (j := j) (by rw [hlq]; omega)
      have hgq : gq = w.heap.size := by injection hveq with e1; injection e1 with e1; injection e1 with e1; exact e1.symm
      subst hgq
      have HKK : Hid (dvK t c pc j = scMul (pc.getD m 0) c) := by rw [hm]; rfl
      have CM : Hid (∀ w, Calls Try.prog 84 #[.int .i64 (pc.getD m 0), .int .i64 c] w fun e w' => e = .returned (.int .i64 (dvK t c pc j)) ∧ w = w') := fun w => by rw [HKK.out]; exact iScMul_any _ _ w
      have CN : Hid (∀ w, Calls Try.prog 89 #[.int .i64 (dvK t c pc j)] w fun e w' => e = .returned (.int .i64 (scNeg (dvK t c pc j))) ∧ w = w') := fun w => iScNeg_any _ w
      have HF2 : Hid ((dv d t c j (addSh pc j (scNeg (dvK t c pc j)) d)).1 ++ (dvK t c pc j :: tl) = fin.1 ∧ (dv d t c j (addSh pc j (scNeg (dvK t c pc j)) d)).2 = fin.2) := ⟨by rw [← HF.out.1, dv, List.append_assoc]; rfl, by rw [← HF.out.2, dv]⟩
      have HQ2 : Hid (RowZs w.heap.size (wr.setCell ⟨w.heap.size, j, none⟩ (.int .i64 (dvK t c pc j))) (.slice (some ⟨w.heap.size, 0, none⟩) (n + 1) (n + 1)) (List.replicate j 0 ++ (dvK t c pc j :: tl))) := by
        have := HQ.out.put j (dvK t c pc j)
        rwa [rep_set] at this
      have HK2 : Hid (Kps (fun x => x = g' ∨ x = w.heap.size) w (wr.setCell ⟨w.heap.size, j, none⟩ (.int .i64 (dvK t c pc j)))) := HK.out.setCell (p := ⟨w.heap.size, j, none⟩) (Or.inr rfl) _
      have HR2 : Hid (RowZs B (wr.setCell ⟨w.heap.size, j, none⟩ (.int .i64 (dvK t c pc j))) (.slice (some ⟨g', 0, none⟩) (n + 1 + t) rc) pc) := ((Kps.refl (fun x => x = w.heap.size) wr).setCell (p := ⟨w.heap.size, j, none⟩) rfl _).row HR.out (fun k hk e => by have e1 : g' = k := Option.some.inj hk; omega)
      have HD2 : Hid (RowZs B2 (wr.setCell ⟨w.heap.size, j, none⟩ (.int .i64 (dvK t c pc j))) (.slice (some ⟨gd, 0, none⟩) (t + 1) dc) d) := HK2.out.row HD.out (fun k hk e => by
        rcases e with e | e
        · exact HNE.out (e ▸ hk)
        · have := (HD.out.lt k hk).2; omega)
      have CS : Hid (∀ V : World, RowZs B V (.slice (some ⟨g', 0, none⟩) (n + 1 + t) rc) pc → RowZs B2 V (.slice (some ⟨gd, 0, none⟩) (t + 1) dc) d → Calls Try.prog 97 #[.slice (some ⟨g', 0, none⟩) (n + 1 + t) rc, .int .i64 (j : Int), .int .i64 (scNeg (dvK t c pc j)), .slice (some ⟨gd, 0, none⟩) (t + 1) dc] V fun e w' => e = .returned (.tuple #[]) ∧ RowZs B w' (.slice (some ⟨g', 0, none⟩) (n + 1 + t) rc) (addSh pc j (scNeg (dvK t c pc j)) d) ∧ Kps (fun x => x = g') V w') := fun V h1 h2 => by
        refine iSh_any _ _ pc d j _ B g' V h1 (fun _ => rfl) (ZFar.of_row h2 HNE.out) ?_ ?_
        · rw [HL.out, HDL.out]; omega
        · rw [HL.out]; omega
      have HL2 : Hid ((addSh pc j (scNeg (dvK t c pc j)) d).length = n + 1 + t) := by show _ = _; rw [addSh_len, HL.out]
      have HGQ : Hid (∀ V : World, RowZs w.heap.size V (.slice (some ⟨w.heap.size, 0, none⟩) (n + 1) (n + 1)) (List.replicate j 0 ++ (dvK t c pc j :: tl)) → V.cell? ⟨w.heap.size, j, none⟩ = some (.int .i64 (dvK t c pc j))) := fun V hV => by
        obtain ⟨gq, cq', hveq, _, _, hzq, _⟩ := hV.cellZ (j := j) (by have := hV.len; omega)
        have hgq : gq = w.heap.size := by injection hveq with e1; injection e1 with e1; injection e1 with e1; exact e1.symm
        subst hgq
        rwa [rep_get] at hzq
      clear hve hveq HKK HF HQ HR HK hlq hm hzf
      generalize addSh pc j (scNeg (dvK t c pc j)) d = pc2 at CS HF2 HL2
      generalize scNeg (dvK t c pc j) = N at CN CS
      generalize dvK t c pc j = K at CM CN HF2 HQ2 HK2 HR2 HGQ HD2
      have hq2 := HGQ.out _ HQ2.out
      generalize (List.replicate (j + 1) 0 ++ tl).getD j 0 = old at hzq
      generalize pc.getD m 0 = x at hz CM
      go_wp2_with fail
      go_at_call 84
      refine (CM.out _).mono ?_
      rintro e wz ⟨rfl, rfl⟩
      go_wp2_with fail
      go_at_call 89
      refine (CN.out _).mono ?_
      rintro e wz ⟨rfl, rfl⟩
      go_wp2_with fail
      go_at_call 97
      refine (CS.out _ HR2.out HD2.out).mono ?_
      rintro e w2 ⟨rfl, hr2, hk2⟩
      have HR3 : Hid (RowZs B w2 (.slice (some ⟨g', 0, none⟩) (n + 1 + t) rc) pc2) := hr2
      have HQ3 : Hid (RowZs w.heap.size w2 (.slice (some ⟨w.heap.size, 0, none⟩) (n + 1) (n + 1)) (List.replicate j 0 ++ (K :: tl))) := hk2.row HQ2.out (fun k hk e => by have e1 : w.heap.size = k := Option.some.inj hk; omega)
      have HK3 : Hid (Kps (fun x => x = g' ∨ x = w.heap.size) w w2) := HK2.out.trans (hk2.more fun _ h => Or.inl h)
      clear hr2 hk2 HQ2 HK2 HR2 HGQ HD2 hq2 CS CN CM
      go_wp2
      go_roundw
      case rel => exact ⟨j, pc2, K :: tl, by go_num, by omega, HL2, HF2, HQ3, HR3, HK3⟩
      case measure => simp [intOf]
    · obtain rfl : k = 0 := by omega
      have CT : Hid (Calls Try.prog 98 #[.slice (some ⟨g, 0, none⟩) (n + 1 + t) rc] wr fun e w' => ∃ x, e = .returned x ∧ RowZs B wr x (trimZ fin.2) ∧ (∀ k, x.ownBlock = some k → k = g) ∧ wr = w') := by
        refine (trimmed_any _ pc (by rw [HL.out]; omega) B wr HR.out).mono ?_
        rintro e w' ⟨a, n, c', h1, h2, h3, h4⟩
        rw [← HF.out.2]
        injection h1 with e1
        subst e1
        exact ⟨_, h2, h3, fun k hk => (Option.some.inj hk).symm, h4⟩
      have HQ2 : Hid (RowZs w.heap.size wr (.slice (some ⟨w.heap.size, 0, none⟩) (n + 1) (n + 1)) fin.1) := by
        have h1 := HF.out.1
        show RowZs _ _ _ _
        rw [← h1]
        exact HQ.out
      have HK2 : Hid (Kps (fun x => x = g) w wr) := ⟨HK.out.os, HK.out.tape, HK.out.output, HK.out.size, fun k hk hs => HK.out.block k hk (by omega)⟩
      clear HF HQ HR HK
      go_wp2_with (go_at_call 98; refine CT.out.mono ?_; rintro e w3 ⟨x, rfl, hx, hxo, rfl⟩)
      go_ret2
      exact ⟨_, _, rfl, HQ2.out, hx, rfl, hxo, HK2.out⟩

end Go.Proofs.Ytjlijflfepffiaa

/-
  The walk of the program's division, whole.
  (-DROP-: what the seat lacks is left out.)
-/
namespace Go.Proofs.Ytjlijflfepffiaa
open Go.RowKit

theorem lit0 (w : World) : RowZs w.heap.size (w.alloc (.cells #[] 3)) (.slice (some ⟨w.heap.size, 0, none⟩) 0 0) [] := own_lit w [] (by simp)
theorem lit0n (w : World) (g : Nat) (hg : g = w.heap.size) : RowZs g (w.alloc (.cells #[] 3)) (.slice (some ⟨g, 0, none⟩) 0 0) [] := by
  subst hg
  exact lit0 w

set_option maxHeartbeats 3200000 in
set_option maxRecDepth 100000 in
theorem iDiv_any (v u : Value) (l m : List Int) (hl : l.length ≤ 1048576) (hm : m.length ≤ 1048576) (w : World) (h : ZAt w w.heap.size v l) (h2 : ZAt w w.heap.size u m) : Calls Try.prog 83 #[v, u] w fun e w' => ∃ q r, e = .returned (.tuple #[q, r]) ∧ ZOwn w.heap.size w'.heap.size w' q (pQuo l m) ∧ ZOwn w.heap.size w'.heap.size w' r (pRem l m) ∧ (∀ g, q.ownBlock = some g → r.ownBlock ≠ some g) ∧ Below w.heap.size w w' := by
  have HA : Hid (ZAt w w.heap.size v l) := h
  have HB : Hid (ZAt w w.heap.size u m) := h2
  obtain ⟨a, cp, rfl, hA⟩ := h
  obtain ⟨b, cq, rfl, hB⟩ := h2
  clear hA hB
  by_cases hbig : 64 < l.length ∨ 64 < m.length
  · have HE : Hid (pQuo l m = []) := by show _ = _; unfold pQuo; rw [if_pos (by omega)]
    have HE2 : Hid (pRem l m = []) := by show _ = _; unfold pRem; rw [if_pos hbig]
    have HF : Hid (ZOwn w.heap.size ((w.alloc (.cells #[] 3)).alloc (.cells #[] 3)).heap.size ((w.alloc (.cells #[] 3)).alloc (.cells #[] 3)) (.slice (some ⟨w.heap.size, 0, none⟩) 0 0) [] ∧ ZOwn w.heap.size ((w.alloc (.cells #[] 3)).alloc (.cells #[] 3)).heap.size ((w.alloc (.cells #[] 3)).alloc (.cells #[] 3)) (.slice (some ⟨w.heap.size + 1, 0, none⟩) 0 0) [] ∧ Below w.heap.size w ((w.alloc (.cells #[] 3)).alloc (.cells #[] 3))) := by
      refine ⟨ZOwn.of (World.ownsRow.alloc (lit0 w) _), (ZOwn.of (lit0n (w.alloc (.cells #[] 3)) (w.heap.size + 1) (by simp))).wide (by omega) (Nat.le_refl _), ((Below.refl _ _).alloc (Nat.le_refl _) _).alloc (by simp) _⟩
    generalize hla : l.length = la at *
    generalize hlb : m.length = lb at *
    clear hla hlb HA HB
    by_cases h1 : 64 < la
    · have h1' : (la : Int) > 64 := by omega
      clear hbig
      go_enter Try.func83, Try.ntmps83
      go_wp2
      go_ret2
      exact ⟨_, _, rfl, by rw [HE.out]; exact HF.out.1, by rw [HE2.out]; exact HF.out.2.1, fun g h1 h2 => by have e1 : w.heap.size = g := Option.some.inj h1; have e2 : w.heap.size + 1 = g := Option.some.inj h2; omega, HF.out.2.2⟩
    · have h1' : ¬ (la : Int) > 64 := by omega
      have h2' : (lb : Int) > 64 := by omega
      clear hbig
      go_enter Try.func83, Try.ntmps83
      go_wp2
      go_ret2
      exact ⟨_, _, rfl, by rw [HE.out]; exact HF.out.1, by rw [HE2.out]; exact HF.out.2.1, fun g h1 h2 => by have e1 : w.heap.size = g := Option.some.inj h1; have e2 : w.heap.size + 1 = g := Option.some.inj h2; omega, HF.out.2.2⟩
  · have C1 : Hid (∀ W : World, W = w → Calls Try.prog 104 #[.slice a l.length cp] W fun e w' => ∃ u, e = .returned u ∧ ZOwn W.heap.size w'.heap.size w' u (pTrim l) ∧ Below W.heap.size W w') := fun W e => by subst e; exact iTrim_any _ l hl _ HA.out
    have C2 : Hid (∀ W : World, Below w.heap.size w W → Calls Try.prog 104 #[.slice b m.length cq] W fun e w' => ∃ u, e = .returned u ∧ ZOwn W.heap.size w'.heap.size w' u (pTrim m) ∧ Below W.heap.size W w') := fun W hW => iTrim_any _ m hm _ ((HB.out.on hW).wide hW.size)
    have hl64 : ¬ (l.length : Int) > 64 := by omega
    have hm64 : ¬ (m.length : Int) > 64 := by omega
    have hpl := pTrim_len l
    have hpm := pTrim_len m
    have hll : l.length ≤ 64 ∧ m.length ≤ 64 := by omega
    have HE : Hid (¬ (64 < l.length ∨ 64 < m.length)) := hbig
    clear hbig
    generalize hla : l.length = la at C1 hl64 hpl hll ⊢
    generalize hlb : m.length = lb at C2 hm64 hpm hll ⊢
    clear hla hlb HA HB hl hm
    go_enter Try.func83, Try.ntmps83
    go_wp2_with fail
    go_at_call 104
    refine (C1.out _ rfl).mono ?_
    rintro e w1 ⟨v1, rfl, hv1, hb1⟩
    have HV1 : Hid (ZOwn w.heap.size w1.heap.size w1 v1 (pTrim l)) := hv1
    have HB1 : Hid (Below w.heap.size w w1) := hb1
    clear hv1 hb1
    go_wp2_with fail
    go_at_call 104
    refine (C2.out _ HB1.out).mono ?_
    rintro e w2 ⟨v2, rfl, hv2, hb2⟩
    have HV2 : Hid (ZOwn w1.heap.size w2.heap.size w2 v2 (pTrim m)) := hv2
    have HB2 : Hid (Below w1.heap.size w1 w2) := hb2
    clear hv2 hb2
    have HW : Hid (ZOwn w.heap.size w1.heap.size w2 v1 (pTrim l)) := HV1.out.on HB2.out (Nat.le_refl _)
    obtain ⟨a1, c1, hv⟩ := row_form HV1.out.1
    subst hv
    obtain ⟨a2, c2, hv⟩ := row_form HV2.out.1
    subst hv
    by_cases hs : (pTrim m).length = 0 ∨ (pTrim l).length < (pTrim m).length
    · have HQ : Hid (pQuo l m = []) := by show _ = _; unfold pQuo; rw [if_pos (Or.inr (Or.inr hs))]
      have HR : Hid (pRem l m = pTrim l) := by show _ = _; unfold pRem; rw [if_neg HE.out, if_pos hs]
      have HN : Hid (ZOwn w.heap.size (w2.alloc (.cells #[] 3)).heap.size (w2.alloc (.cells #[] 3)) (.slice (some ⟨w2.heap.size, 0, none⟩) 0 0) [] ∧ ZOwn w.heap.size (w2.alloc (.cells #[] 3)).heap.size (w2.alloc (.cells #[] 3)) (.slice a1 (pTrim l).length c1) (pTrim l) ∧ (∀ g, (Value.slice (some ⟨w2.heap.size, 0, none⟩) 0 0).ownBlock = some g → (Value.slice a1 (pTrim l).length c1).ownBlock ≠ some g) ∧ Below w.heap.size w (w2.alloc (.cells #[] 3))) := by
        have s1 := HB1.out.size
        have s2 := HB2.out.size
        have hbb : Below w2.heap.size w2 (w2.alloc (.cells #[] 3)) := (Below.refl _ _).alloc (Nat.le_refl _) _
        refine ⟨(ZOwn.of (lit0 w2)).wide (by omega) (Nat.le_refl _), (HW.out.on hbb s2).wide (Nat.le_refl _) (by simp; omega), fun g hq hr => ?_, (HB1.out.trans (HB2.out.mono s1)).trans (hbb.mono (by omega))⟩
        have e1 : w2.heap.size = g := Option.some.inj hq
        have := HV1.out.2 g hr
        omega
      by_cases hz : (pTrim m).length = 0
      · generalize (pTrim l).length = n1 at *
        rw [hz] at *
        clear hs
        go_wp2
        go_ret2
        exact ⟨_, _, rfl, by rw [HQ.out]; exact HN.out.1, by rw [HR.out]; exact HN.out.2.1, HN.out.2.2.1, HN.out.2.2.2⟩
      · have hz' : (((pTrim m).length : Int) == 0) = false := by rw [beq_eq_false_iff_ne]; omega
        have hz2 : ((pTrim m).length : Int) > ((pTrim l).length : Int) := by omega
        generalize (pTrim l).length = n1 at *
        generalize (pTrim m).length = n2 at *
        clear hs hz
        go_wp2
        go_ret2
        exact ⟨_, _, rfl, by rw [HQ.out]; exact HN.out.1, by rw [HR.out]; exact HN.out.2.1, HN.out.2.2.1, HN.out.2.2.2⟩
    · have HQ : Hid (pQuo l m = (dv (pTrim m) ((pTrim m).length - 1) (dvC (pTrim m)) (dvN (pTrim l) (pTrim m)) (pTrim l)).1) := by show _ = _; unfold pQuo; rw [if_neg (by have := HE.out; omega)]
      have HR : Hid (pRem l m = trimZ (dv (pTrim m) ((pTrim m).length - 1) (dvC (pTrim m)) (dvN (pTrim l) (pTrim m)) (pTrim l)).2) := by show _ = _; unfold pRem; rw [if_neg HE.out, if_neg hs]
      obtain ⟨g, hg⟩ : ∃ g, (Value.slice a1 (pTrim l).length c1).ownBlock = some g := by
        obtain ⟨g, c', hve, _⟩ := HW.out.1.cellZ (j := 0) (by omega)
        exact ⟨g, by rw [hve]; rfl⟩
      have hg1 : w.heap.size ≤ g ∧ g < w1.heap.size := HW.out.in g hg
      have CD : Hid (Calls Try.prog 105 #[.slice a1 (pTrim l).length c1, .slice a2 (pTrim m).length c2] w2 fun e w' => ∃ q r, e = .returned (.tuple #[q, r]) ∧ RowZs w2.heap.size w' q (pQuo l m) ∧ RowZs w.heap.size w' r (pRem l m) ∧ q.ownBlock = some w2.heap.size ∧ (∀ k, r.ownBlock = some k → k = g) ∧ Kps (fun x => x = g) w2 w') := by
        rw [HQ.out, HR.out]
        refine dip_any _ _ (pTrim l) (pTrim m) w.heap.size w1.heap.size g w2 HW.out.1 HV2.out.1 hg (fun e => ?_) (by omega) (by omega) (by omega)
        have := HV2.out.in g e
        omega
      have hz' : (((pTrim m).length : Int) == 0) = false := by rw [beq_eq_false_iff_ne]; omega
      have hz2 : ¬ ((pTrim m).length : Int) > ((pTrim l).length : Int) := by omega
      clear hs
      generalize (pTrim l).length = n1 at *
      generalize (pTrim m).length = n2 at *
      go_wp2_with (go_at_call 105; refine CD.out.mono ?_; rintro e w3 ⟨q, r, rfl, hq, hr, hqo, hro, hk3⟩)
      go_ret2
      have s1 := HB1.out.size
      have s2 := HB2.out.size
      refine ⟨q, r, rfl, (ZOwn.of hq).wide (by omega) (Nat.le_refl _), ZOwn.of hr, fun k h1 h2 => ?_, hk3.bel (HB1.out.trans (HB2.out.mono s1)) (by omega) (fun k hk => by omega)⟩
      rw [hqo] at h1
      have e1 := Option.some.inj h1
      have e2 := hro k h2
      omega

end Go.Proofs.Ytjlijflfepffiaa

/-
  A region that draws its order, where two operations are ready at once: each way, to one end.
-/
namespace Go.Proofs.Ytjlijflfepffiaa
open Go.RowKit

section
variable {P : Program} {ops : Array Oper} {S : World → Prop} {Q : Exit → Act → World → Prop} {R : Act → World → Prop}

/-- An operation with a value that is told. -/
theorem ord_told {k : Nat} {r : List (Nat × Bool)} {a : Act} {w : World} {o : Oper} (v : Value) (ho : ops[k]? = some o) (hy : YieldsIf P ops S o v a)
    (h : ∀ K : Act → Prop, (∀ a, wpOrd P ops Q S R r a w → K a) → K (a.put o.dst v)) : wpOrd P ops Q S R ((k, false) :: r) a w :=
  ⟨o, v, ho, hy, h _ (fun _ h => h)⟩

/-- Two chains, i then i', and j: in whatever order, to one end. -/
theorem anyH_fork3 {n i i' j : Nat} {L0 : Array Bool} {a : Act} {w : World} {F : Nat → Nat → Act} (G : Nat → Nat → World → Prop) (L3 : Array Bool)
    (hB : (Region.noSelect ops && decide (Region.ready .any ops L0 = [i, j]) && decide (Region.ready .any ops (L0.setIfInBounds i true) = [i', j]) && decide (ordTo ops [(j, true)] ((L0.setIfInBounds i true).setIfInBounds i' true) = some L3) && decide (ordTo ops [(i', true)] ((L0.setIfInBounds i true).setIfInBounds j true) = some L3) && decide (ordTo ops [(i, true), (i', true)] (L0.setIfInBounds j true) = some L3)) = true)
    (h1 : wpOrd P ops Q S (fun a' w' => S w' ∧ wpOrd P ops Q S (fun a' w' => ∃ g1 g2, a' = F g1 g2 ∧ G g1 g2 w') [(i', true), (j, true)] a' w' ∧ wpOrd P ops Q S (fun a' w' => ∃ g1 g2, a' = F g1 g2 ∧ G g1 g2 w') [(j, true), (i', true)] a' w') [(i, true)] a w)
    (h2 : wpOrd P ops Q S (fun a' w' => ∃ g1 g2, a' = F g1 g2 ∧ G g1 g2 w') [(j, true), (i, true), (i', true)] a w)
    (hK : ∀ g1 g2 w', G g1 g2 w' → wpAnyH P .any ops (NoPanic Q) S n L3 (F g1 g2) w') : wpAnyH P .any ops (NoPanic Q) S (n + 3) L0 a w := by
  simp only [Bool.and_eq_true, decide_eq_true_eq] at hB
  obtain ⟨⟨⟨⟨⟨hs, h0⟩, hi⟩, hij⟩, hji⟩, hj⟩ := hB
  have up : ∀ (order : List (Nat × Bool)) (a : Act) (w : World), wpOrd P ops Q S (fun a' w' => ∃ g1 g2, a' = F g1 g2 ∧ G g1 g2 w') order a w → wpOrd P ops Q S (fun a w => wpAnyH P .any ops (NoPanic Q) S n L3 a w) order a w := by
    intro order
    induction order with
    | nil =>
      rintro a w ⟨g1, g2, rfl, hG⟩
      exact hK g1 g2 w hG
    | cons x r ih =>
      obtain ⟨k, b⟩ := x
      cases b
      · rintro a w ⟨o, v, ho, hy, hr⟩
        exact ⟨o, v, ho, hy, ih _ _ hr⟩
      · intro a w h
        exact wpOp_mono (fun a' w' ⟨h1, h2⟩ => ⟨h1, ih _ _ h2⟩) h
  refine wpAnyH_all h0 (by simp) fun k hk => ?_
  simp only [List.mem_cons, List.not_mem_nil, or_false] at hk
  rcases hk with rfl | rfl
  · refine wpOp_mono (fun a' w' ⟨hS, _, ha, hb⟩ => ⟨hS, ?_⟩) h1
    refine wpAnyH_all hi (by simp) fun k' hk' => ?_
    simp only [List.mem_cons, List.not_mem_nil, or_false] at hk'
    rcases hk' with rfl | rfl
    · exact wpOp_mono (fun a2 w2 ⟨hS2, h⟩ => ⟨hS2, anyH_of_to hs [(_, true)] n _ _ a2 w2 hij hS2 (up _ _ _ h)⟩) ha
    · exact wpOp_mono (fun a2 w2 ⟨hS2, h⟩ => ⟨hS2, anyH_of_to hs [(_, true)] n _ _ a2 w2 hji hS2 (up _ _ _ h)⟩) hb
  · exact wpOp_mono (fun a2 w2 ⟨hS2, h⟩ => ⟨hS2, anyH_of_to hs [(_, true), (_, true)] n _ _ a2 w2 hj hS2 (up _ _ _ h)⟩) h2

end
end Go.Proofs.Ytjlijflfepffiaa

/-
  A store into a struct's block in a region that draws its order: all other blocks are told. Two chains beside one another, with three values at their end.
-/
namespace Go.Proofs.Ytjlijflfepffiaa
open Go.RowKit

section
variable {P : Program} {ops : Array Oper} {S : World → Prop} {Q : Exit → Act → World → Prop} {R : Act → World → Prop}

theorem ord_storeS {k : Nat} {r : List (Nat × Bool)} {a : Act} {w : World} {o : Oper} (ho : ops[k]? = some o) (hw : Region.wanted o (yielded ops a.tmps) = true) (hd : o.dst = none) {t : TypeId} {p v : Operand} (hop : o.op = Op.store t p v)
    {g : Nat} {t' : TypeId} {cs cs' : Array Value} (hp : a.eval p = .pointer (some ⟨g, 0, none⟩)) (hv : a.eval v = .agg cs') (h : Blk w g t' cs) (hi : (P.info? t).map (·.size) = some cs'.size) (hz : cs.size = cs'.size) (h1 : cs'.all (·.oneCell') = true)
    (K : ∀ w', Blk w' g t' cs' → (∀ k, k ≠ g → w'.heap[k]? = w.heap[k]?) → (∀ g' t'' cs'', g ≠ g' → Blk w g' t'' cs'' → Blk w' g' t'' cs'') → (∀ B w0, B ≤ g → Below B w0 w → Below B w0 w') → S w' ∧ wpOrd P ops Q S R r a w') : wpOrd P ops Q S R ((k, true) :: r) a w := by
  show wpOp P ops (NoPanic Q) k _ a w
  unfold wpOp
  simp only [ho]
  rw [if_pos hw]
  refine .inl ?_
  have hrun : (Instr.storeAt t (.pointer (some ⟨g, 0, none⟩)) (.agg cs')).run P w = .ok () (w.setRow g cs') := by
    simp only [Instr.storeAt, Instr.sureAddr, Sem.run_bind, Sem.run_pure, Result.andThen]
    exact h.store hi hz h1
  unfold Oper.wp
  simp [execOp, hop, hp, hv, hrun, Result.andThen]
  simp only [Oper.upon]
  rw [show a.put o.dst undef = a by rw [hd]; rfl]
  exact K _ (h.row cs') (fun k hk => by simp only [World.setRow]; rw [Array.getElem?_modify, if_neg (fun e => hk e.symm)]) (fun g' t'' cs'' hne h' => h'.rowOther hne _) (fun _ _ hB hb => below_setRow hb hB _)

/-- Two chains, i then i', and j (which is listed ahead of both): in whatever order, to one end. -/
theorem anyH_fork3v {n i i' j : Nat} {L0 : Array Bool} {a : Act} {w : World} {F : Value → Value → Value → Act} (G : Value → Value → Value → World → Prop) (L3 : Array Bool)
    (hB : (Region.noSelect ops && decide (Region.ready .any ops L0 = [j, i]) && decide (Region.ready .any ops (L0.setIfInBounds i true) = [j, i']) && decide (ordTo ops [(j, true)] ((L0.setIfInBounds i true).setIfInBounds i' true) = some L3) && decide (ordTo ops [(i', true)] ((L0.setIfInBounds i true).setIfInBounds j true) = some L3) && decide (ordTo ops [(i, true), (i', true)] (L0.setIfInBounds j true) = some L3)) = true)
    (h1 : wpOrd P ops Q S (fun a' w' => S w' ∧ wpOrd P ops Q S (fun a' w' => ∃ x y z, a' = F x y z ∧ G x y z w') [(i', true), (j, true)] a' w' ∧ wpOrd P ops Q S (fun a' w' => ∃ x y z, a' = F x y z ∧ G x y z w') [(j, true), (i', true)] a' w') [(i, true)] a w)
    (h2 : wpOrd P ops Q S (fun a' w' => ∃ x y z, a' = F x y z ∧ G x y z w') [(j, true), (i, true), (i', true)] a w)
    (hK : ∀ x y z w', G x y z w' → wpAnyH P .any ops (NoPanic Q) S n L3 (F x y z) w') : wpAnyH P .any ops (NoPanic Q) S (n + 3) L0 a w := by
  simp only [Bool.and_eq_true, decide_eq_true_eq] at hB
  obtain ⟨⟨⟨⟨⟨hs, h0⟩, hi⟩, hij⟩, hji⟩, hj⟩ := hB
  have up : ∀ (order : List (Nat × Bool)) (a : Act) (w : World), wpOrd P ops Q S (fun a' w' => ∃ x y z, a' = F x y z ∧ G x y z w') order a w → wpOrd P ops Q S (fun a w => wpAnyH P .any ops (NoPanic Q) S n L3 a w) order a w := by
    intro order
    induction order with
    | nil =>
      rintro a w ⟨x, y, z, rfl, hG⟩
      exact hK x y z w hG
    | cons x r ih =>
      obtain ⟨k, b⟩ := x
      cases b
      · rintro a w ⟨o, v, ho, hy, hr⟩
        exact ⟨o, v, ho, hy, ih _ _ hr⟩
      · intro a w h
        exact wpOp_mono (fun a' w' ⟨h1, h2⟩ => ⟨h1, ih _ _ h2⟩) h
  refine wpAnyH_all h0 (by simp) fun k hk => ?_
  simp only [List.mem_cons, List.not_mem_nil, or_false] at hk
  rcases hk with rfl | rfl
  · exact wpOp_mono (fun a2 w2 ⟨hS2, h⟩ => ⟨hS2, anyH_of_to hs [(_, true), (_, true)] n _ _ a2 w2 hj hS2 (up _ _ _ h)⟩) h2
  · refine wpOp_mono (fun a' w' ⟨hS, _, ha, hb⟩ => ⟨hS, ?_⟩) h1
    refine wpAnyH_all hi (by simp) fun k' hk' => ?_
    simp only [List.mem_cons, List.not_mem_nil, or_false] at hk'
    rcases hk' with rfl | rfl
    · exact wpOp_mono (fun a2 w2 ⟨hS2, h⟩ => ⟨hS2, anyH_of_to hs [(_, true)] n _ _ a2 w2 hji hS2 (up _ _ _ h)⟩) hb
    · exact wpOp_mono (fun a2 w2 ⟨hS2, h⟩ => ⟨hS2, anyH_of_to hs [(_, true)] n _ _ a2 w2 hij hS2 (up _ _ _ h)⟩) ha

end
end Go.Proofs.Ytjlijflfepffiaa
