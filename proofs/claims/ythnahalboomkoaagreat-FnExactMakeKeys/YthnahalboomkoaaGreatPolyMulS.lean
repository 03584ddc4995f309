/-
  The walk of the specification's product of polynomials.
  (-DROP-: what the seat lacks is left out.)
-/
import Derived.Test.YthnahalboomkoaaGreatJoined11
import Derived.Test.YthnahalboomkoaaGreatJoined7
import Derived.Test.YthnahalboomkoaaGreatJoined8

namespace Go.Proofs.YthnahalboomkoaaGreat
open Go.RowKit

theorem rowZ_none (w : World) (n : Nat) (hn : n ≤ 1048576) : RowZs w.heap.size (w.alloc (.cells (ic (fun _ => 0) n) 3)) (.slice (some ⟨w.heap.size, 0, none⟩) n n) (List.replicate n 0) := by
  have h := (rowI_new w (fun _ => 0) n).rowZ (Nat.le_refl _) hn
  have e : zls (fun _ => 0) n = List.replicate n 0 := by simp [zls, List.map_const']
  rwa [e] at h
theorem RowZs.heap {B : Nat} {w w' : World} {v : Value} {l : List Int} (h : RowZs B w v l) (e : w'.heap = w.heap) : RowZs B w' v l :=
  owns_same (lo := 0) (hi := w.heap.size) h (fun k _ _ => by rw [e]) (fun k hk => ⟨Nat.zero_le _, (h.lt k hk).2⟩)
theorem cell_heap {w w' : World} {p : Addr} {x : Option Value} (h : w.cell? p = x) (e : w'.heap = w.heap) : w'.cell? p = x := (World.cell?_of_block (by rw [e])).trans h
theorem free_heap {w w' : World} {p : Addr} (h : w.frozen? p = false) (e : w'.heap = w.heap) : w'.frozen? p = false := by
  rw [← h]
  unfold World.frozen?
  rw [e]

set_option maxHeartbeats 3200000 in
set_option maxRecDepth 100000 in
theorem sQMul_any (v u : Value) (l m : List Int) (hl : l.length ≤ 1048576) (hm : m.length ≤ 1048576) (w : World) (h : ZAt w w.heap.size v l) (h2 : ZAt w w.heap.size u m) : Calls Tryz.prog 152 #[v, u] w fun e w' => ∃ u, e = .returned u ∧ ZOwn w.heap.size w'.heap.size w' u (qMul l m) ∧ Below w.heap.size w w' := by
  obtain ⟨a, cp, rfl, hA⟩ := h
  obtain ⟨b, cq, rfl, hB⟩ := h2
  have HA : Hid (IntsAt w a l.length w.heap.size (fun j => l.getD j 0)) := hA
  have HB : Hid (IntsAt w b m.length w.heap.size (fun j => m.getD j 0)) := hB
  clear hA hB
  by_cases hbig : l.length = 0 ∨ m.length = 0 ∨ 64 < l.length ∨ 64 < m.length
  · have HE : Hid (qMul l m = []) := by
      show _ = _
      rcases hbig with h | h | h
      · rw [List.length_eq_zero_iff.1 h, qMul_left]
      · rw [List.length_eq_zero_iff.1 h, qMul_right]
      · unfold qMul; rw [if_pos h]
    generalize hla : l.length = la at *
    generalize hlb : m.length = lb at *
    clear hla hlb HA HB
    by_cases h1 : la = 0
    · subst h1
      clear hbig
      go_enter Tryz.func152, Tryz.ntmps152
      go_wp2
      go_ret
      exact ⟨_, rfl, by rw [HE.out]; exact ZOwn.of (World.ownsRow_lit _ _ _ (Nat.le_refl _) (by simp [maxLen]) (by simp)), (Below.refl _ _).alloc (Nat.le_refl _) _⟩
    · have h1' : ((la : Int) == 0) = false := by rw [beq_eq_false_iff_ne]; omega
      by_cases h2 : lb = 0
      · subst h2
        clear hbig
        go_enter Tryz.func152, Tryz.ntmps152
        go_wp2
        go_ret
        exact ⟨_, rfl, by rw [HE.out]; exact ZOwn.of (World.ownsRow_lit _ _ _ (Nat.le_refl _) (by simp [maxLen]) (by simp)), (Below.refl _ _).alloc (Nat.le_refl _) _⟩
      · have h2' : ((lb : Int) == 0) = false := by rw [beq_eq_false_iff_ne]; omega
        by_cases h3 : 64 < la
        · have h3' : (la : Int) > 64 := by omega
          clear hbig h1 h2
          go_enter Tryz.func152, Tryz.ntmps152
          go_wp2
          go_ret
          exact ⟨_, rfl, by rw [HE.out]; exact ZOwn.of (World.ownsRow_lit _ _ _ (Nat.le_refl _) (by simp [maxLen]) (by simp)), (Below.refl _ _).alloc (Nat.le_refl _) _⟩
        · have h3' : ¬ (la : Int) > 64 := by omega
          have h4' : (lb : Int) > 64 := by omega
          clear hbig h1 h2
          go_enter Tryz.func152, Tryz.ntmps152
          go_wp2
          go_ret
          exact ⟨_, rfl, by rw [HE.out]; exact ZOwn.of (World.ownsRow_lit _ _ _ (Nat.le_refl _) (by simp [maxLen]) (by simp)), (Below.refl _ _).alloc (Nat.le_refl _) _⟩
  · have hl0 : ((l.length : Int) == 0) = false := by rw [beq_eq_false_iff_ne]; omega
    have hm0 : ((m.length : Int) == 0) = false := by rw [beq_eq_false_iff_ne]; omega
    have hl64 : ¬ (l.length : Int) > 64 := by omega
    have hm64 : ¬ (m.length : Int) > 64 := by omega
    have hlm : l.length ≤ 64 ∧ m.length ≤ 64 ∧ 0 < l.length ∧ 0 < m.length := by omega
    obtain ⟨n, hn⟩ : ∃ n, n = l.length + m.length - 1 := ⟨_, rfl⟩
    have HE : Hid (pTrim (mulR m (l.drop 0) 0 (List.replicate n 0)) = qMul l m) := by
      show _ = _
      rw [hn]
      exact qMul_short l m (by omega) (by omega)
    have HD : Hid (∀ k, k < l.length → l.drop k = l.getD k 0 :: l.drop (k + 1)) := fun k hk => drop_at hk
    have HD0 : Hid (l.drop l.length = []) := by show _ = _; simp
    have hmk : ∀ W : World, (Instr.makeSlice 27 (.int .i64 (n : Int)) (.int .i64 (n : Int))).run Tryz.prog W = .ok (.slice (some ⟨W.heap.size, 0, none⟩) n n) (W.alloc (.cells (ic (fun _ => 0) n) 3)) := fun W => make_ints n n (Nat.le_refl _) (by omega) W
    have H0 : Hid (RowZs w.heap.size (w.alloc (.cells (ic (fun _ => 0) n) 3)) (.slice (some ⟨w.heap.size, 0, none⟩) n n) (List.replicate n 0)) := rowZ_none w n (by omega)
    generalize ic (fun _ => 0) n = M at hmk H0
    have HMT : Hid (∀ (p : List Int) (s : Nat) (k : Int), addSh p s k (m.take m.length) = addSh p s k m) := fun p s k => by rw [List.take_length]
    have HX : Hid (∀ (p : List Int) (s : Nat) (k : Int) (t : Nat), t < m.length → s + m.length ≤ p.length → (addSh p s k (m.take t)).getD (s + t) 0 = p.getD (s + t) 0) := fun p s k t ht hs => addSh_new p s k m hs ht
    have HY : Hid (∀ (p : List Int) (s : Nat) (k : Int) (t : Nat), t < m.length → s + m.length ≤ p.length → (addSh p s k (m.take t)).set (s + t) (scAdd (p.getD (s + t) 0) (scMul k (m.getD t 0))) = addSh p s k (m.take (t + 1))) := fun p s k t ht hs => addSh_next p s k m hs ht
    generalize hla : l.length = la at *
    generalize hlb : m.length = lb at *
    have hsum : (la : Int) + (lb : Int) - 1 = (n : Int) := by omega
    have hw1 : IntKind.i64.wrap ((la : Int) + (lb : Int)) = (la : Int) + (lb : Int) := IntWalk.i64_in _ (by omega)
    have hw2 : IntKind.i64.wrap (n : Int) = (n : Int) := IntWalk.i64_in _ (by omega)
    have hnn : n + 1 ≤ la + lb ∧ la + lb ≤ n + 1 := by omega
    clear hla hlb hbig hn
    go_enter Tryz.func152, Tryz.ntmps152
    go_wp2
    go_loopw [6] (fun i wr => ∃ (k : Nat) (p : List Int), i = .int .i64 (k : Int) ∧ k ≤ la ∧ Hid (p.length = n) ∧ Hid (pTrim (mulR m (l.drop k) k p) = qMul l m) ∧ Hid (RowZs w.heap.size wr (.slice (some ⟨w.heap.size, 0, none⟩) n n) p) ∧ Hid (Below w.heap.size w wr)) (fun i _ => la - (intOf i).toNat)
    case atStart => exact ⟨0, _, rfl, Nat.zero_le _, by show _ = _; simp, HE, H0, (Below.refl _ _).alloc (Nat.le_refl _) _⟩
    case round =>
      obtain ⟨k, p, rfl, hk, HPL, HQ, HR, HW⟩ := hrel
      clear hmk H0 HE hsum hw1 hw2
      by_cases hlt : k < la
      · have hlt' : (k : Int) < (la : Int) := by omega
        have hk0 : (0 : Int) ≤ (k : Int) := by omega
        have HQ2 : Hid (pTrim (mulR m (l.drop (k + 1)) (k + 1) (addSh p k (l.getD k 0) (m.take lb))) = qMul l m) := by
          show _ = _
          rw [← HQ.out, HD.out k hlt, mulR, HMT.out]
        have HI : Hid (RowZs w.heap.size wr (.slice (some ⟨w.heap.size, 0, none⟩) n n) (addSh p k (l.getD k 0) (m.take 0))) := by
          show RowZs _ _ _ _
          rw [List.take_zero, addSh_nil]
          exact HR.out
        generalize wr = w0 at *
        clear HR HQ
        go_wp2
        go_loopw [7] (fun i wr => ∃ (t : Nat), i = .int .i64 (t : Int) ∧ t ≤ lb ∧ Hid (RowZs w.heap.size wr (.slice (some ⟨w.heap.size, 0, none⟩) n n) (addSh p k (l.getD k 0) (m.take t))) ∧ Hid (Below w.heap.size w wr)) (fun i _ => lb - (intOf i).toNat)
        case atStart => exact ⟨0, rfl, Nat.zero_le _, HI, HW⟩
        case round =>
          obtain ⟨t, rfl, ht, HR, HV⟩ := hrel
          clear HI HW
          by_cases htl : t < lb
          · have htl' : (t : Int) < (lb : Int) := by omega
            have ht0 : (0 : Int) ≤ (t : Int) := by omega
            have hpn : k + lb ≤ p.length := by rw [HPL.out]; omega
            have hxt := HX.out p k (l.getD k 0) t htl hpn
            have hyt := HY.out p k (l.getD k 0) t htl hpn
            generalize hii : k + t = i at hxt hyt
            have hst : (k : Int) + (t : Int) = (i : Int) := by omega
            have hst0 : (0 : Int) ≤ (i : Int) := by omega
            have hst1 : (i : Int) < (n : Int) := by omega
            have hwr : IntKind.i64.wrap (i : Int) = (i : Int) := IntWalk.i64_in _ (by omega)
            have hiL : i < n := by omega
            clear hii hpn
            obtain ⟨g', c', hv, hg1, hg2, hz, hf⟩ := HR.out.cellZ (j := i) (by rw [addSh_len, HPL.out]; exact hiL)
            rw [hxt] at hz
            have hgg : g' = w.heap.size := by injection hv with e1; injection e1 with e1; injection e1 with e1; exact e1.symm
            subst hgg
            obtain ⟨ba, offa, rfl, hba, hza⟩ := (HA.out.on HV.out) k hlt
            obtain ⟨bb, offb, rfl, hbb, hzb⟩ := (HB.out.on HV.out) t htl
            replace hza : wr.cell? ⟨ba, offa + k, none⟩ = some (.int .i64 (l.getD k 0)) := hza
            replace hzb : wr.cell? ⟨bb, offb + t, none⟩ = some (.int .i64 (m.getD t 0)) := hzb
            have CM : Hid (∀ w, Calls Tryz.prog 81 #[.int .i64 (l.getD k 0), .int .i64 (m.getD t 0)] w fun e w' => e = .returned (.int .i64 (scMul (l.getD k 0) (m.getD t 0))) ∧ w = w') := sScMul_any _ _
            have CA : Hid (∀ w, Calls Tryz.prog 18 #[.int .i64 (p.getD i 0), .int .i64 (scMul (l.getD k 0) (m.getD t 0))] w fun e w' => e = .returned (.int .i64 (scAdd (p.getD i 0) (scMul (l.getD k 0) (m.getD t 0)))) ∧ w = w') := sScAdd_any _ _
            obtain ⟨L, hL⟩ : ∃ L, L = addSh p k (l.getD k 0) (m.take t) := ⟨_, rfl⟩
            have HR2 : Hid (RowZs w.heap.size wr (.slice (some ⟨w.heap.size, 0, none⟩) n n) L) := by rw [hL]; exact HR
            rw [← hL] at hyt
            obtain ⟨L2, hL2⟩ : ∃ L, L = addSh p k (l.getD k 0) (m.take (t + 1)) := ⟨_, rfl⟩
            have HL2 : Hid (L2 = addSh p k (l.getD k 0) (m.take (t + 1))) := hL2
            rw [← hL2] at hyt
            have HNY : Hid (L.set i (scAdd (p.getD i 0) (scMul (l.getD k 0) (m.getD t 0))) = L2) := hyt
            have HC : Hid (∀ wz : World, wz.heap = wr.heap → wz.cell? ⟨w.heap.size, i, none⟩ = some (.int .i64 (p.getD i 0)) ∧ wz.frozen? ⟨w.heap.size, i, none⟩ = false ∧ wz.cell? ⟨ba, offa + k, none⟩ = some (.int .i64 (l.getD k 0)) ∧ wz.cell? ⟨bb, offb + t, none⟩ = some (.int .i64 (m.getD t 0))) := fun wz hwz => ⟨cell_heap hz hwz, free_heap hf hwz, cell_heap hza hwz, cell_heap hzb hwz⟩
            clear hyt hL hL2 hz hf hza hzb hxt hv hg1 hg2 HR
            generalize scAdd (p.getD i 0) (scMul (l.getD k 0) (m.getD t 0)) = y at CA HNY
            generalize scMul (l.getD k 0) (m.getD t 0) = q at CM CA
            generalize p.getD i 0 = x at HC CA
            generalize hlk : l.getD k 0 = lk at HC CM
            generalize m.getD t 0 = z at CM HC
            rw [hlk] at HL2 HQ2
            clear HX HY HA HB HD HD0 HMT
            go_wp2_with fail
            refine wp_region_last [(0, false), (1, false), (2, false), (3, false), (4, false), (5, false), (6, false), (7, false), (8, false), (9, false), (10, false), (11, false), (12, false), (13, false), (14, false), (15, false), (16, false), (17, false), (18, true), (19, true), (20, false)] 21 (fun wz => wz.heap = wr.heap) mixesSc (by kernel_rfl) rfl ?_
            repeat (refine ord_float rfl rfl (fun K hK => ⟨_, (fun w' hw => by have q0 := (HC.out w' hw).1; have q1 :=  (HC.out w' hw).2.2.1; have q2 :=  (HC.out w' hw).2.2.2; go_simp; exact rfl), ?_⟩); go_simp; refine hK _ ?_; clear hK K)
            refine ord_call rfl rfl (fun K hK => ⟨_, _, (by go_simp <;> first | exact rfl | exact ⟨rfl, rfl⟩), ?_⟩)
            refine (CM.out _).mono ?_
            rintro e u1 ⟨rfl, hu1⟩
            have T1 : u1.heap = wr.heap := (by rw [← hu1]; rfl)
            refine ⟨_, rfl, T1, ?_⟩
            go_simp
            refine hK _ _ ?_
            clear hK K
            repeat (refine ord_float rfl rfl (fun K hK => ⟨_, (fun w' hw => by have q0 := (HC.out w' hw).1; go_simp; exact rfl), ?_⟩); go_simp; refine hK _ ?_; clear hK K)
            refine ord_call rfl rfl (fun K hK => ⟨_, _, (by go_simp <;> first | exact rfl | exact ⟨rfl, rfl⟩), ?_⟩)
            refine (CA.out _).mono ?_
            rintro e u2 ⟨rfl, hu2⟩
            have T2 : u2.heap = wr.heap := (congrArg World.heap hu2.symm).trans T1
            refine ⟨_, rfl, T2, ?_⟩
            go_simp
            refine hK _ _ ?_
            clear hK K
            repeat (refine ord_float rfl rfl (fun K hK => ⟨_, (fun w' hw => by have q0 := (HC.out w' hw).1; go_simp; exact rfl), ?_⟩); go_simp; refine hK _ ?_; clear hK K)
            refine ord_nil ?_
            have hc2 := (HC.out u2 T2).1
            have hf2 := (HC.out u2 T2).2.1
            refine last_store rfl rfl rfl (u2.setCell ⟨w.heap.size, i, none⟩ (.int .i64 y)) (by go_simp <;> rfl) ?_
            have HR3 : Hid (RowZs w.heap.size (u2.setCell ⟨w.heap.size, i, none⟩ (.int .i64 y)) (.slice (some ⟨w.heap.size, 0, none⟩) n n) L2) := by
              show RowZs _ _ _ _
              rw [← HNY.out]
              exact (HR2.out.heap T2).put i y
            have HV3 : Hid (Below w.heap.size w (u2.setCell ⟨w.heap.size, i, none⟩ (.int .i64 y))) := by
              subst hu1 hu2
              exact HV.out.drew.setCell (Nat.le_refl _) _
            generalize u2.setCell ⟨w.heap.size, i, none⟩ (.int .i64 y) = V at HR3 HV3 ⊢
            clear hu1 hu2 T1 T2 hc2 hf2 HC HR2 HNY HV
            go_wp2
            go_roundw
            case rel => exact ⟨t + 1, by go_num, htl, by rw [← HL2.out]; exact HR3, HV3⟩
            case measure => simp [intOf]; omega
          · have htl' : ¬ (t : Int) < (lb : Int) := by omega
            obtain rfl : lb = t := by omega
            have HPL2 : Hid ((addSh p k (l.getD k 0) (m.take lb)).length = n) := by show _ = _; rw [addSh_len, HPL.out]
            go_wp2
            go_roundw
            case rel => exact ⟨k + 1, _, by go_num, hlt, HPL2, HQ2, HR, HV⟩
            case measure => simp [intOf]; omega
      · have hlt' : ¬ (k : Int) < (la : Int) := by omega
        obtain rfl : la = k := by omega
        have CT : Hid (Calls Tryz.prog 193 #[.slice (some ⟨w.heap.size, 0, none⟩) n n] wr fun e w' => ∃ x, e = .returned x ∧ ZOwn wr.heap.size w'.heap.size w' x (qMul l m) ∧ Below wr.heap.size wr w') := by
          refine (sTrim_any _ p (by rw [HPL.out]; omega) wr (ZOwn.of HR.out).at).mono ?_
          rintro e w' ⟨x, h2, h3, h4⟩
          refine ⟨x, h2, ?_, h4⟩
          have h5 := HQ.out
          rw [HD0.out] at h5
          rw [← h5]
          exact h3
        clear HQ HR
        go_wp2_with (go_at_call 193; refine CT.out.mono ?_; rintro e w3 ⟨x, rfl, hx, hb3⟩)
        go_ret
        exact ⟨_, rfl, hx.wide HW.out.size (Nat.le_refl _), HW.out.trans (hb3.mono HW.out.size)⟩

end Go.Proofs.YthnahalboomkoaaGreat
