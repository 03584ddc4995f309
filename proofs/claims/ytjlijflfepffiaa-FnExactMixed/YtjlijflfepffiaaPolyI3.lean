/-
  The walks of the program's product.
  (-DROP-: what the seat lacks is left out.)
-/
import Derived.Test.YtjlijflfepffiaaPolyI2
import Derived.Test.YtjlijflfepffiaaJoined3
import Derived.Test.YtjlijflfepffiaaJoined4

namespace Go.Proofs.Ytjlijflfepffiaa
open Go.RowKit

/-- A list of numbers that lies elsewhere. -/
def ZFar (w : World) (g : Nat) (u : Value) (b : List Int) : Prop := ∃ a cp, u = .slice a b.length cp ∧ ∀ j, j < b.length → ∃ k off, a = some ⟨k, off, none⟩ ∧ k ≠ g ∧ w.cell? ⟨k, off + j, none⟩ = some (.int .i64 (b.getD j 0))
theorem ZFar.of_at {w : World} {c g : Nat} {u : Value} {b : List Int} (h : ZAt w c u b) (hc : c ≤ g) : ZFar w g u b := by
  obtain ⟨a, cp, rfl, hA⟩ := h
  refine ⟨a, cp, rfl, fun j hj => ?_⟩
  obtain ⟨k, off, h1, h2, h3⟩ := hA j hj
  exact ⟨k, off, h1, by omega, h3⟩
theorem ZFar.of_row {w : World} {B g : Nat} {u : Value} {b : List Int} (h : RowZs B w u b) (hg : u.ownBlock ≠ some g) : ZFar w g u b := by
  obtain ⟨a, cp, hv⟩ := row_form h
  refine ⟨a, cp, hv, fun j hj => ?_⟩
  obtain ⟨k, c, h1, h2, h3, h4, _⟩ := h.cellZ hj
  rw [hv] at h1
  injection h1 with e1
  refine ⟨k, 0, e1, ?_, by rw [Nat.zero_add]; exact h4⟩
  intro e
  subst e
  exact hg (by rw [hv, e1]; rfl)
theorem ZFar.set {w : World} {g : Nat} {u : Value} {b : List Int} (h : ZFar w g u b) (j : Nat) (x : Value) : ZFar (w.setCell ⟨g, j, none⟩ x) g u b := by
  obtain ⟨a, cp, rfl, hA⟩ := h
  refine ⟨a, cp, rfl, fun i hi => ?_⟩
  obtain ⟨k, off, h1, h2, h3⟩ := hA i hi
  exact ⟨k, off, h1, h2, (World.cell?_of_block (a := ⟨k, off + i, none⟩) (Below.heap_setCell w ⟨g, j, none⟩ x k h2)).trans h3⟩
theorem ZFar.drew {w : World} {g : Nat} {u : Value} {b : List Int} (h : ZFar w g u b) : ZFar w.drew g u b := h
theorem ZFar.kps {w w' : World} {g : Nat} {u : Value} {b : List Int} (h : ZFar w g u b) (hk : Kps (fun x => x = g) w w') (hs : ∀ j, j < b.length → ∀ k off, (∃ c, u = .slice (some ⟨k, off, none⟩) b.length c) → k < w.heap.size) : ZFar w' g u b := by
  obtain ⟨a, cp, rfl, hA⟩ := h
  refine ⟨a, cp, rfl, fun i hi => ?_⟩
  obtain ⟨k, off, h1, h2, h3⟩ := hA i hi
  subst h1
  exact ⟨k, off, rfl, h2, (World.cell?_of_block (a := ⟨k, off + i, none⟩) (hk.block k (hs i hi k off ⟨cp, rfl⟩) h2)).trans h3⟩

set_option maxHeartbeats 1600000 in
set_option maxRecDepth 100000 in
theorem iSh_any (v u : Value) (p b : List Int) (s : Nat) (k : Int) (B g : Nat) (w : World) (hp : RowZs B w v p) (hg : 0 < p.length → v.ownBlock = some g) (hu : ZFar w g u b) (hs : s + b.length ≤ p.length) (hl : p.length ≤ 1048576) :
    Calls Try.prog 97 #[v, .int .i64 (s : Int), .int .i64 k, u] w fun e w' => e = .returned (.tuple #[]) ∧ RowZs B w' v (addSh p s k b) ∧ Kps (fun x => x = g) w w' := by
  obtain ⟨ra, rc, hv⟩ := row_form hp
  subst hv
  have HP : Hid (RowZs B w (.slice ra p.length rc) (addSh p s k (b.take 0))) := by
    show RowZs _ _ _ _
    rw [List.take_zero, addSh_nil]
    exact hp
  have HG : Hid (0 < p.length → (Value.slice ra p.length rc).ownBlock = some g) := hg
  have HU : Hid (ZFar w g u b) := hu
  obtain ⟨a, cp, rfl, hA⟩ := hu
  have HX : Hid (∀ t, t < b.length → (addSh p s k (b.take t)).getD (s + t) 0 = p.getD (s + t) 0) := fun t ht => addSh_new p s k b hs ht
  have HY : Hid (∀ t, t < b.length → (addSh p s k (b.take t)).set (s + t) (scAdd (p.getD (s + t) 0) (scMul k (b.getD t 0))) = addSh p s k (b.take (t + 1))) := fun t ht => addSh_next p s k b hs ht
  have HZ : Hid (addSh p s k (b.take b.length) = addSh p s k b) := by show _ = _; rw [List.take_length]
  have HL : Hid (∀ t, (addSh p s k (b.take t)).length = p.length) := fun t => addSh_len _ _ _ _
  generalize hnp : p.length = np at *
  generalize hnb : b.length = nb at *
  have HNB : Hid (b.length = nb) := hnb
  clear hA hp hg hnp hnb
  go_enter Try.func97, Try.ntmps97
  go_wp2
  go_loopw [12] (fun i wr => ∃ t : Nat, i = .int .i64 (t : Int) ∧ t ≤ nb ∧ Hid (RowZs B wr (.slice ra np rc) (addSh p s k (b.take t))) ∧ Hid (ZFar wr g (.slice a nb cp) b) ∧ Hid (Kps (fun x => x = g) w wr)) (fun i _ => nb - (intOf i).toNat)
  case atStart => exact ⟨0, rfl, Nat.zero_le _, HP, HU, Kps.refl _ _⟩
  case round =>
    obtain ⟨t, rfl, ht, HR, HF, HK⟩ := hrel
    clear HP HU
    by_cases hlt : t < nb
    · have hlt' : (t : Int) < (nb : Int) := by omega
      have ht0 : (0 : Int) ≤ (t : Int) := by omega
      have hxt := HX.out t hlt
      have hyt := HY.out t hlt
      generalize hii : s + t = i at hxt hyt
      have hst : (s : Int) + (t : Int) = (i : Int) := by omega
      have hst0 : (0 : Int) ≤ (i : Int) := by omega
      have hst1 : (i : Int) < (np : Int) := by omega
      have hst2 : (i : Int) ≤ 1048576 := by omega
      have hiL : i < np := by omega
      have hwr : IntKind.i64.wrap (i : Int) = (i : Int) := IntWalk.i64_in _ (by omega)
      clear hii
      obtain ⟨g', c', hv, hg1, hg2, hz, hf⟩ := HR.out.cellZ (j := i) (by rw [HL.out]; omega)
      rw [hxt] at hz
      have hra : ra = some ⟨g', 0, none⟩ := by injection hv
      subst hra
      have hgg : g' = g := by have := HG.out (by omega); injection this
      subst hgg
      obtain ⟨a', cp', hv2, hF⟩ := HF.out
      obtain ⟨kb, off, h1, h2, h3⟩ := hF t (by have := HNB.out; omega)
      have haa : a = a' := by injection hv2
      rw [h1] at haa
      subst haa
      have CM : Hid (∀ w, Calls Try.prog 84 #[.int .i64 k, .int .i64 (b.getD t 0)] w fun e w' => e = .returned (.int .i64 (scMul k (b.getD t 0))) ∧ w = w') := iScMul_any _ _
      have CA : Hid (∀ w, Calls Try.prog 86 #[.int .i64 (p.getD (i) 0), .int .i64 (scMul k (b.getD t 0))] w fun e w' => e = .returned (.int .i64 (scAdd (p.getD (i) 0) (scMul k (b.getD t 0)))) ∧ w = w') := iScAdd_any _ _
      have HNX := hyt
      obtain ⟨L, hL⟩ : ∃ L, L = addSh p s k (b.take t) := ⟨_, rfl⟩
      have HR2 : Hid (∀ wz : World, wz.heap = wr.heap → RowZs B wz (.slice (some ⟨g', 0, none⟩) np rc) L) := fun wz hwz => by
        rw [hL]
        exact owns_same (lo := 0) (hi := wr.heap.size) HR.out (fun k _ _ => by rw [hwz]) (fun k hk => ⟨Nat.zero_le _, (HR.out.lt k hk).2⟩)
      rw [← hL] at HNX
      have HNY : Hid (L.set (i) (scAdd (p.getD (i) 0) (scMul k (b.getD t 0))) = addSh p s k (b.take (t + 1))) := HNX
      have HC : Hid (∀ wz : World, wz.heap = wr.heap → wz.cell? ⟨g', i, none⟩ = some (.int .i64 (p.getD (i) 0)) ∧ wz.frozen? ⟨g', i, none⟩ = false) := fun wz hwz => by
        refine ⟨(World.cell?_of_block (a := ⟨g', i, none⟩) (by rw [hwz])).trans hz, ?_⟩
        rw [← hf]
        unfold World.frozen?
        rw [hwz]
      clear HNX hL hF hv2 HX HY hz hf HR hxt hyt hv hg1 hg2
      generalize hyy : scAdd (p.getD (i) 0) (scMul k (b.getD t 0)) = y at CA HNY
      clear hyy
      generalize scMul k (b.getD t 0) = q at CM CA
      generalize p.getD (i) 0 = x at HC CA
      generalize b.getD t 0 = z at CM h3
      go_wp2_with fail
      refine wp_region_last [(0, false), (1, false), (2, false), (3, false), (4, false), (5, false), (6, false), (7, false), (8, false), (9, false), (10, false), (11, false), (12, true), (13, true), (14, false)] 15 (fun wz => wz.heap = wr.heap) mixesSc (by kernel_rfl) rfl ?_
      repeat (refine ord_float rfl rfl (fun K hK => ⟨_, (fun w' hw => by have q0 := (HC.out w' hw).1; go_simp; exact rfl), ?_⟩); go_simp; refine hK _ ?_; clear hK K)
      refine ord_call rfl rfl (fun K hK => ⟨_, _, (by go_simp <;> first | exact rfl | exact ⟨rfl, rfl⟩), ?_⟩)
      refine (CM.out _).mono ?_
      rintro e u1 ⟨rfl, hu1⟩
      have T1 : u1.heap = wr.heap := (by rw [← hu1]; rfl)
      refine ⟨_, rfl, T1, ?_⟩
      go_simp
      refine hK _ _ ?_
      clear hK K
      repeat (refine ord_float rfl rfl (fun K hK => ⟨_, (fun w' hw => by have q0 := (HC.out w' hw).1; go_simp; exact rfl), ?_⟩); go_simp; refine hK _ ?_; clear hK K)
      refine ord_call rfl rfl (fun K hK => ⟨_, _, (by go_simp <;> first | exact rfl | exact ⟨rfl, rfl⟩), ?_⟩)
      refine (CA.out _).mono ?_
      rintro e u2 ⟨rfl, hu2⟩
      have T2 : u2.heap = wr.heap := (congrArg World.heap hu2.symm).trans T1
      refine ⟨_, rfl, T2, ?_⟩
      go_simp
      refine hK _ _ ?_
      clear hK K
      repeat (refine ord_float rfl rfl (fun K hK => ⟨_, (fun w' hw => by have q0 := (HC.out w' hw).1; go_simp; exact rfl), ?_⟩); go_simp; refine hK _ ?_; clear hK K)
      refine ord_nil ?_
      have hc2 := (HC.out u2 T2).1
      have hf2 := (HC.out u2 T2).2
      refine last_store rfl rfl rfl (u2.setCell ⟨g', i, none⟩ (.int .i64 y)) (by go_simp <;> rfl) ?_
      have HR3 : Hid (RowZs B (u2.setCell ⟨g', i, none⟩ (.int .i64 y)) (.slice (some ⟨g', 0, none⟩) np rc) (addSh p s k (b.take (t + 1)))) := by
        show RowZs _ _ _ _
        rw [← HNY.out]
        exact (HR2.out u2 T2).put i y
      have HF3 : Hid (ZFar (u2.setCell ⟨g', i, none⟩ (.int .i64 y)) g' (.slice (some ⟨kb, off, none⟩) nb cp) b) := by
        subst hu1 hu2
        exact HF.out.drew.set i _
      have HK3 : Hid (Kps (fun x => x = g') w (u2.setCell ⟨g', i, none⟩ (.int .i64 y))) := by
        subst hu1 hu2
        exact HK.out.drew.setCell rfl _
      generalize u2.setCell ⟨g', i, none⟩ (.int .i64 y) = V at HR3 HF3 HK3 ⊢
      clear hu1 hu2 T1 T2 hc2 hf2 HC HR2 HNY HF HK
      go_wp2
      go_roundw
      case rel => exact ⟨t + 1, by go_num, hlt, HR3, HF3, HK3⟩
      case measure => simp [intOf]; omega
    · have hlt' : ¬ (t : Int) < (nb : Int) := by omega
      obtain rfl : nb = t := by omega
      go_wp2
      go_end0
      refine ⟨rfl, ?_, HK.out⟩
      rw [← HZ.out]
      exact HR.out

theorem rowZ_zero (w : World) (n : Nat) (hn : n ≤ 1048576) : RowZs w.heap.size (w.alloc (.cells (ic (fun _ => 0) n) 3)) (.slice (some ⟨w.heap.size, 0, none⟩) n n) (List.replicate n 0) := by
  have h := (rowI_new w (fun _ => 0) n).rowZ (Nat.le_refl _) hn
  have e : zls (fun _ => 0) n = List.replicate n 0 := by simp [zls, List.map_const']
  rwa [e] at h

set_option maxHeartbeats 1600000 in
set_option maxRecDepth 100000 in
theorem iQMul_any (v u : Value) (l m : List Int) (hl : l.length ≤ 1048576) (hm : m.length ≤ 1048576) (w : World) (h : ZAt w w.heap.size v l) (h2 : ZAt w w.heap.size u m) : Calls Try.prog 82 #[v, u] w fun e w' => ∃ u, e = .returned u ∧ ZOwn w.heap.size w'.heap.size w' u (qMul l m) ∧ Below w.heap.size w w' := by
  have HB : Hid (ZAt w w.heap.size u m) := h2
  obtain ⟨a, cp, rfl, hA⟩ := h
  obtain ⟨b, cq, rfl, hB⟩ := h2
  have HA : Hid (IntsAt w a l.length w.heap.size (fun j => l.getD j 0)) := hA
  clear hA hB
  by_cases hbig : 64 < l.length ∨ 64 < m.length
  · have HE : Hid (qMul l m = []) := by show _ = _; unfold qMul; rw [if_pos hbig]
    generalize hla : l.length = la at *
    generalize hlb : m.length = lb at *
    clear hla hlb HA HB
    by_cases h1 : 64 < la
    · have h1' : (la : Int) > 64 := by omega
      clear hbig
      go_enter Try.func82, Try.ntmps82
      go_wp2
      go_ret
      exact ⟨_, rfl, by rw [HE.out]; exact ZOwn.of (World.ownsRow_lit _ _ _ (Nat.le_refl _) (by simp [maxLen]) (by simp)), (Below.refl _ _).alloc (Nat.le_refl _) _⟩
    · have h1' : ¬ (la : Int) > 64 := by omega
      have h2' : (lb : Int) > 64 := by omega
      clear hbig
      go_enter Try.func82, Try.ntmps82
      go_wp2
      go_ret
      exact ⟨_, rfl, by rw [HE.out]; exact ZOwn.of (World.ownsRow_lit _ _ _ (Nat.le_refl _) (by simp [maxLen]) (by simp)), (Below.refl _ _).alloc (Nat.le_refl _) _⟩
  · have hl64 : ¬ (l.length : Int) > 64 := by omega
    have hm64 : ¬ (m.length : Int) > 64 := by omega
    have hlm : l.length ≤ 64 ∧ m.length ≤ 64 := by omega
    obtain ⟨n, hn⟩ : ∃ n, n = l.length + m.length := ⟨_, rfl⟩
    have HE : Hid (qMul l m = trimZ (mulR m (l.drop 0) 0 (List.replicate n 0))) := by show _ = _; unfold qMul; rw [if_neg hbig, hn]; rfl
    have HD : Hid (∀ k, k < l.length → l.drop k = l.getD k 0 :: l.drop (k + 1)) := fun k hk => by rw [List.drop_eq_getElem_cons hk]; simp [hk]
    have HD0 : Hid (l.drop l.length = []) := by show _ = _; simp
    have hmk : ∀ W : World, (Instr.makeSlice 105 (.int .i64 (n : Int)) (.int .i64 (n : Int))).run Try.prog W = .ok (.slice (some ⟨W.heap.size, 0, none⟩) n n) (W.alloc (.cells (ic (fun _ => 0) n) 3)) := fun W => make_nums n n (Nat.le_refl _) (by omega) W
    have H0 : Hid (RowZs w.heap.size (w.alloc (.cells (ic (fun _ => 0) n) 3)) (.slice (some ⟨w.heap.size, 0, none⟩) n n) (List.replicate n 0)) := rowZ_zero w n (by omega)
    generalize ic (fun _ => 0) n = M at hmk H0
    generalize hla : l.length = la at *
    generalize hlb : m.length = lb at *
    have hsum : (la : Int) + (lb : Int) = (n : Int) := by omega
    have HLB : Hid (m.length = lb) := hlb
    have HN : Hid (n = la + lb) := hn
    clear hla hlb hbig hn
    go_enter Try.func82, Try.ntmps82
    go_wp2
    go_loopw [25] (fun i wr => ∃ (k : Nat) (p : List Int), i = .int .i64 (k : Int) ∧ k ≤ la ∧ Hid (p.length = n) ∧ Hid (qMul l m = trimZ (mulR m (l.drop k) k p)) ∧ Hid (RowZs w.heap.size wr (.slice (some ⟨w.heap.size, 0, none⟩) n n) p) ∧ Hid (Below w.heap.size w wr)) (fun i _ => la - (intOf i).toNat)
    case atStart => exact ⟨0, _, rfl, Nat.zero_le _, by show _ = _; simp, HE, H0, (Below.refl _ _).alloc (Nat.le_refl _) _⟩
    case round =>
      obtain ⟨k, p, rfl, hk, HPL, HQ, HR, HW⟩ := hrel
      clear hmk H0 HE hsum
      by_cases hlt : k < la
      · have hlt' : (k : Int) < (la : Int) := by omega
        have hk0 : (0 : Int) ≤ (k : Int) := by omega
        obtain ⟨ba, off, rfl, hba, hz⟩ := (HA.out.on HW.out) k hlt
        replace hz : wr.cell? ⟨ba, off + k, none⟩ = some (.int .i64 (l.getD k 0)) := hz
        have HQ2 : Hid (qMul l m = trimZ (mulR m (l.drop (k + 1)) (k + 1) (addSh p k (l.getD k 0) m))) := by
          show _ = _
          rw [HQ.out, HD.out k hlt, mulR]
        have CS : Hid (Calls Try.prog 97 #[.slice (some ⟨w.heap.size, 0, none⟩) n n, .int .i64 (k : Int), .int .i64 (l.getD k 0), .slice b lb cq] wr fun e w' => e = .returned (.tuple #[]) ∧ RowZs w.heap.size w' (.slice (some ⟨w.heap.size, 0, none⟩) n n) (addSh p k (l.getD k 0) m) ∧ Kps (fun x => x = w.heap.size) wr w') := by
          refine iSh_any _ _ p m k _ w.heap.size w.heap.size wr HR.out (fun _ => rfl) (ZFar.of_at (HB.out.on HW.out) (Nat.le_refl _)) ?_ ?_
          · rw [HPL.out, HLB.out, HN.out]; omega
          · rw [HPL.out, HN.out]; omega
        have HPL2 : Hid ((addSh p k (l.getD k 0) m).length = n) := by show _ = _; rw [addSh_len, HPL.out]
        generalize addSh p k (l.getD k 0) m = p2 at CS HQ2 HPL2
        generalize l.getD k 0 = z at hz CS
        clear hba HQ HR HPL
        go_wp2_with (go_at_call 97; refine CS.out.mono ?_; rintro e w2 ⟨rfl, hr2, hk2⟩)
        have HR2 : Hid (RowZs w.heap.size w2 (.slice (some ⟨w.heap.size, 0, none⟩) n n) p2) := hr2
        have HW2 : Hid (Below w.heap.size w w2) := hk2.bel HW.out HW.out.size (fun k hk => by omega)
        clear hr2 hk2
        go_wp2
        go_roundw
        case rel => exact ⟨k + 1, p2, by go_num, hlt, HPL2, HQ2, HR2, HW2⟩
        case measure => simp [intOf]; omega
      · have hlt' : ¬ (k : Int) < (la : Int) := by omega
        obtain rfl : la = k := by omega
        have CT : Hid (Calls Try.prog 98 #[.slice (some ⟨w.heap.size, 0, none⟩) n n] wr fun e w' => ∃ x, e = .returned x ∧ RowZs w.heap.size wr x (qMul l m) ∧ wr = w') := by
          refine (trimmed_any _ p (by rw [HPL.out, HN.out]; omega) w.heap.size wr HR.out).mono ?_
          rintro e w' ⟨a, n, c, h1, h2, h3, h4⟩
          refine ⟨_, h2, ?_, h4⟩
          rw [HQ.out, HD0.out]
          exact h3
        clear HQ HR
        go_wp2_with (go_at_call 98; refine CT.out.mono ?_; rintro e w3 ⟨x, rfl, hx, rfl⟩)
        go_ret
        exact ⟨_, rfl, ZOwn.of hx, HW.out⟩

end Go.Proofs.Ytjlijflfepffiaa
