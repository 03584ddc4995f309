/-
  The walk of the law that polynomials are what their values say.
  (-DROP-: what the seat lacks is left out.)
-/
import Derived.Test.YtfiflcedbejamaaPolyI
import Derived.Test.YtfiflcedbejamaaPolyDraw
import Derived.Test.YtfiflcedbejamaaByteArg
import Derived.Test.YtfiflcedbejamaaPolyDivLaw
namespace Go.Proofs.Ytfiflcedbejamaa
open Go.RowKit

theorem thr_val (l : List Int) (h : l.length ≤ 16) (k : Nat) (hk : k < l.length) : pAt (pThr l) ((k : Int) + 1) = sca (l.getD k 0) := by
  rw [pAt_ev]
  refine sca_of_dp ?_
  unfold pThr
  rw [if_neg (by omega)]
  exact thrL_ev l l.length h k hk
theorem mul_val (p q : List Int) (hp : p.length ≤ 64) (hq : q.length ≤ 64) (x : Int) : pAt (pMul p q) x = scMul (pAt p x) (pAt q x) := by
  rw [pAt_ev, pAt_ev, pAt_ev, scMul_eq, sca_mul_left, sca_mul_right]
  exact sca_of_dp (pMul_ev x p q hp hq)
theorem add_val (p q : List Int) (x : Int) : pAt (pAdd p q) x = scAdd (pAt p x) (pAt q x) := by
  rw [pAt_ev, pAt_ev, pAt_ev, scAdd_eq, sca_add_left, sca_add_right]
  exact sca_of_dp (pAdd_ev x p q)

set_option maxHeartbeats 6400000 in
set_option maxRecDepth 100000 in
theorem lawPolys (a : Option Addr) (len cap : Nat) (hm : len ≤ 9223372036854775807) (w : World) (hA : ArgAt w a len w.heap.size) :
    Calls Try.prog 4 #[.slice a len cap] w fun e w' => e = .returned (.bool true) ∧ Below w.heap.size w w' := by
  have A0 : Hid (ArgAt w a len w.heap.size) := hA
  clear hA
  by_cases hb : 1048576 < len
  · have hd : decide (1048576 < len) = true := decide_eq_true hb
    go_enter Try.func4, Try.ntmps4
    go_wp2_with (go_at_call 9; refine (big_any _ _ _ hm _).mono ?_; rintro e w0 ⟨rfl, rfl⟩)
    go_ret
    exact ⟨rfl, Below.refl _ _⟩
  · have hd : decide (1048576 < len) = false := decide_eq_false hb
    have hm1 : len ≤ 1048576 := by omega
    have B0 : Hid (Below w.heap.size w w) := Below.refl _ _
    have CB : Hid (∀ w, Calls Try.prog 9 #[.slice a len cap] w fun e w' => e = .returned (.bool false) ∧ w = w') := fun w => by rw [← hd]; exact big_any _ _ _ hm w
    clear hb hd hm
    go_enter Try.func4, Try.ntmps4
    go_wp2_with fail
    go_at_call 9
    refine (CB.out _).mono ?_
    rintro e wz ⟨rfl, rfl⟩
    go_wp2_with fail
    go_at_call 21
    refine (thrDraw_any len cap a hm1 _ A0.out).mono ?_
    rintro e w1 ⟨v, l, rfl, hl, hv, hb⟩
    have A1 : Hid (ArgAt w1 a len w1.heap.size) := (A0.out.on hb).wide hb.size
    have B1 : Hid (Below w.heap.size w w1) := B0.out.trans (hb.mono B0.out.size)
    clear A0 B0
    have Zv1 : Hid (ZAt w1 w1.heap.size v l) := hv
    clear hb hv
    obtain ⟨va, vc, hvv, _⟩ := Zv1.out
    subst hvv
    generalize hvl : l.length = nl at Zv1
    have Nv : Hid (l.length = nl) := hvl
    clear hvl
    have hl1 : l.length ≤ 1048576 := by omega
    have HTL : Hid ((pThr l).length ≤ 1048576) := pThr_len l
    have HV : Hid (∀ k, k < nl → nl ≤ 16 → pAt (pThr l) ((k : Int) + 1) = sca (l.getD k 0)) := fun k h1 h2 => thr_val l (by rw [Nv.out]; exact h2) k (by rw [Nv.out]; exact h1)
    go_wp2_with fail
    go_at_call 22
    refine (iThr_any _ l hl1 _ Zv1.out).mono ?_
    rintro e w2 ⟨f, rfl, hf, hb⟩
    have Zv2 : Hid (ZAt w2 w2.heap.size (.slice va nl vc) l) := (Zv1.out.on hb).wide hb.size
    have A2 : Hid (ArgAt w2 a len w2.heap.size) := (A1.out.on hb).wide hb.size
    have B2 : Hid (Below w.heap.size w w2) := B1.out.trans (hb.mono B1.out.size)
    clear Zv1 A1 B1
    have Zf2 : Hid (ZAt w2 w2.heap.size f (pThr l)) := hf.at
    clear hb hf
    have hnl : nl ≤ 65 := by rw [← Nv.out]; exact hl
    have h00 : (0 : Int) ≤ 0 := by omega
    go_wp2
    by_cases h16 : nl ≤ 16
    · go_loopw [5] (fun i wr => ∃ k : Nat, i = .int .i64 (k : Int) ∧ k ≤ nl ∧ Hid (Below w2.heap.size w2 wr)) (fun i _ => nl - (intOf i).toNat)
      case atStart => exact ⟨0, rfl, Nat.zero_le _, Below.refl _ _⟩
      case round =>
        obtain ⟨k, rfl, hk, HW⟩ := hrel
        have h16' : (nl : Int) ≤ 16 := by omega
        by_cases hlt : k < nl
        · have hlt' : (k : Int) < (nl : Int) := by omega
          have hk0 : (0 : Int) ≤ (k : Int) := by omega
          have hwr : IntKind.i64.wrap ((k : Int) + 1) = (k : Int) + 1 := IntWalk.i64_in _ (by omega)
          obtain ⟨va', vc', hvv, hI⟩ := Zv2.out
          obtain ⟨ba, off, h1, hba, hz⟩ := hI k (by rw [Nv.out]; exact hlt)
          have hva : va = va' := by injection hvv
          rw [h1] at hva
          subst hva
          replace hz : w2.cell? ⟨ba, off + k, none⟩ = some (.int .i64 (l.getD k 0)) := hz
          have HC : Hid (∀ wz, Below wr.heap.size wr wz → wz.cell? ⟨ba, off + k, none⟩ = some (.int .i64 (l.getD k 0))) := fun wz hwz => ((HW.out.trans (hwz.mono HW.out.size)).cell (p := ⟨ba, off + k, none⟩) hba).trans hz
          have CA : Hid (∀ W, Below wr.heap.size wr W → Calls Try.prog 23 #[f, .int .i64 ((k : Int) + 1)] W fun e w' => e = .returned (.int .i64 (sca (l.getD k 0))) ∧ Below W.heap.size W w') := fun W hW => by
            rw [← HV.out k hlt h16]
            have hb2 := HW.out.trans (hW.mono HW.out.size)
            exact iAt_any _ _ _ HTL.out W ((Zf2.out.on hb2).wide hb2.size)
          have CS : Hid (∀ w, Calls Try.prog 24 #[.int .i64 (l.getD k 0)] w fun e w' => e = .returned (.int .i64 (sca (l.getD k 0))) ∧ w = w') := sScOf_any _
          clear hz hvv hI h1
          generalize sca (l.getD k 0) = y at CA CS
          generalize l.getD k 0 = z at HC CS
          go_wp2_with fail
          refine wp_region_ord [(0, false), (1, false), (2, false), (4, false), (5, false), (6, false), (7, false), (3, true), (8, true), (9, false)] (fun wz => Below wr.heap.size wr wz) mixesSc (by kernel_rfl) (Below.refl _ _).drew ?_
          repeat (refine ord_float rfl rfl (fun K hK => ⟨_, (fun w' hw => by have q0 := HC.out w' hw; go_simp; exact rfl), ?_⟩); go_simp; refine hK _ ?_; clear hK K)
          refine ord_call rfl rfl (fun K hK => ⟨_, _, (by go_simp <;> first | exact rfl | exact ⟨rfl, rfl⟩), ?_⟩)
          refine (CA.out _ (Below.refl _ _).drew).mono ?_
          rintro e u1 ⟨rfl, hu1⟩
          have T1 : Below wr.heap.size wr u1 := (Below.refl _ _).drew.trans hu1
          refine ⟨_, rfl, T1, ?_⟩
          go_simp
          refine hK _ _ ?_
          clear hK K
          repeat (refine ord_float rfl rfl (fun K hK => ⟨_, (fun w' hw => by have q0 := HC.out w' hw; go_simp; exact rfl), ?_⟩); go_simp; refine hK _ ?_; clear hK K)
          refine ord_call rfl rfl (fun K hK => ⟨_, _, (by go_simp <;> first | exact rfl | exact ⟨rfl, rfl⟩), ?_⟩)
          refine (CS.out _).mono ?_
          rintro e u2 ⟨rfl, hu2⟩
          have T2 : Below wr.heap.size wr u2 := hu2 ▸ T1
          refine ⟨_, rfl, T2, ?_⟩
          go_simp
          refine hK _ _ ?_
          clear hK K
          repeat (refine ord_float rfl rfl (fun K hK => ⟨_, (fun w' hw => by have q0 := HC.out w' hw; go_simp; exact rfl), ?_⟩); go_simp; refine hK _ ?_; clear hK K)
          refine ord_nil ?_
          have HW2 : Hid (Below w2.heap.size w2 u2) := HW.out.trans (T2.mono HW.out.size)
          clear T2 T1 hu1 hu2 HC CA CS
          go_wp2
          go_roundw
          case rel => exact ⟨k + 1, by go_num, hlt, HW2⟩
          case measure => simp [intOf]; omega
        · have hlt' : ¬ (k : Int) < (nl : Int) := by omega
          obtain rfl : nl = k := by omega
          generalize wr = w3 at *
          have A3 : Hid (ArgAt w3 a len w3.heap.size) := (A2.out.on HW.out).wide HW.out.size
          have B3 : Hid (Below w.heap.size w w3) := B2.out.trans (HW.out.mono B2.out.size)
          clear A2 B2 Zv2 Zf2 HW HV HTL
          go_wp2_with fail
          go_at_call 25
          refine (pairM_any len cap a hm1 _ A3.out).mono ?_
          rintro e w4 ⟨pv, qv, p, q, rfl, hp, hq, hpv, hqv, hb⟩
          have A4 : Hid (ArgAt w4 a len w4.heap.size) := (A3.out.on hb).wide hb.size
          have B4 : Hid (Below w.heap.size w w4) := B3.out.trans (hb.mono B3.out.size)
          clear A3 B3
          have Zp4 : Hid (ZAt w4 w4.heap.size pv p) := hpv
          have Zq4 : Hid (ZAt w4 w4.heap.size qv q) := hqv
          clear hb hpv hqv
          have hpq : p.length ≤ 1048576 ∧ q.length ≤ 1048576 := by omega
          obtain ⟨pa, pc, hpv, _⟩ := Zp4.out
          subst hpv
          generalize hpl : p.length = np at Zp4
          have Np : Hid (p.length = np) := hpl
          clear hpl
          obtain ⟨qa, qc, hqv, _⟩ := Zq4.out
          subst hqv
          generalize hql : q.length = nq at Zq4
          have Nq : Hid (q.length = nq) := hql
          clear hql
          go_wp2_with fail
          go_at_call 10
          refine (places_any len cap a hm1 _ A4.out).mono ?_
          rintro e w5 ⟨g, gp, xs, rfl, hg, _, hx, hb⟩
          have Zp5 : Hid (ZAt w5 w5.heap.size (.slice pa np pc) p) := (Zp4.out.on hb).wide hb.size
          have Zq5 : Hid (ZAt w5 w5.heap.size (.slice qa nq qc) q) := (Zq4.out.on hb).wide hb.size
          have A5 : Hid (ArgAt w5 a len w5.heap.size) := (A4.out.on hb).wide hb.size
          have B5 : Hid (Below w.heap.size w w5) := B4.out.trans (hb.mono B4.out.size)
          clear Zp4 Zq4 A4 B4
          clear hb
          have c0 := (hx 0 (by omega)).2
          have hx0 := (hx 0 (by omega)).1
          clear hx
          generalize xs 0 = x0 at c0 hx0
          go_wp2_with fail
          go_at_call 26
          refine (iZer_any 5 _).mono ?_
          rintro e w6 ⟨zv, rfl, hzv, hb⟩
          have Zp6 : Hid (ZAt w6 w6.heap.size (.slice pa np pc) p) := (Zp5.out.on hb).wide hb.size
          have Zq6 : Hid (ZAt w6 w6.heap.size (.slice qa nq qc) q) := (Zq5.out.on hb).wide hb.size
          have A6 : Hid (ArgAt w6 a len w6.heap.size) := (A5.out.on hb).wide hb.size
          have B6 : Hid (Below w.heap.size w w6) := B5.out.trans (hb.mono B5.out.size)
          clear Zp5 Zq5 A5 B5
          have Zz6 : Hid (ZAt w6 w6.heap.size zv (pZer 5)) := hzv.at
          clear hb hzv
          obtain ⟨za, zc, hzv2, _⟩ := Zz6.out
          rw [zer5] at hzv2
          subst hzv2
          clear c0 hg
          by_cases hbig : 64 < p.length ∨ 64 < q.length
          · have HM0 : Hid (pMul p q = []) := by show _ = _; unfold pMul; rw [if_pos hbig]
            have hbg : 64 < np ∨ 64 < nq := by rw [← Np.out, ← Nq.out]; exact hbig
            clear hbig hp hq
            by_cases h1 : 64 < np
            · have h1' : (np : Int) > 64 := by omega
              clear hbg h1
              go_wp2_with fail
              go_at_call 27
              refine (iMul_any _ _ p q hpq.1 hpq.2 _ Zp6.out Zq6.out).mono ?_
              rintro e w7 ⟨mv, rfl, hmv, hb⟩
              have Zp7 : Hid (ZAt w7 w7.heap.size (.slice pa np pc) p) := (Zp6.out.on hb).wide hb.size
              have Zq7 : Hid (ZAt w7 w7.heap.size (.slice qa nq qc) q) := (Zq6.out.on hb).wide hb.size
              have Zz7 : Hid (ZAt w7 w7.heap.size (.slice za 6 zc) (pZer 5)) := (Zz6.out.on hb).wide hb.size
              have A7 : Hid (ArgAt w7 a len w7.heap.size) := (A6.out.on hb).wide hb.size
              have B7 : Hid (Below w.heap.size w w7) := B6.out.trans (hb.mono B6.out.size)
              clear Zp6 Zq6 Zz6 A6 B6
              have Zm7 : Hid (ZAt w7 w7.heap.size mv (pMul p q)) := hmv.at
              clear hb hmv
              obtain ⟨ma, mc, hmv2, _⟩ := Zm7.out
              rw [HM0.out] at hmv2
              subst hmv2
              clear Zm7
              go_wp2
              go_ret
              exact ⟨rfl, B7.out⟩
            · have h1' : ¬ (np : Int) > 64 := by omega
              have h2' : (nq : Int) > 64 := by omega
              clear hbg h1
              go_wp2_with fail
              go_at_call 27
              refine (iMul_any _ _ p q hpq.1 hpq.2 _ Zp6.out Zq6.out).mono ?_
              rintro e w7 ⟨mv, rfl, hmv, hb⟩
              have Zp7 : Hid (ZAt w7 w7.heap.size (.slice pa np pc) p) := (Zp6.out.on hb).wide hb.size
              have Zq7 : Hid (ZAt w7 w7.heap.size (.slice qa nq qc) q) := (Zq6.out.on hb).wide hb.size
              have Zz7 : Hid (ZAt w7 w7.heap.size (.slice za 6 zc) (pZer 5)) := (Zz6.out.on hb).wide hb.size
              have A7 : Hid (ArgAt w7 a len w7.heap.size) := (A6.out.on hb).wide hb.size
              have B7 : Hid (Below w.heap.size w w7) := B6.out.trans (hb.mono B6.out.size)
              clear Zp6 Zq6 Zz6 A6 B6
              have Zm7 : Hid (ZAt w7 w7.heap.size mv (pMul p q)) := hmv.at
              clear hb hmv
              obtain ⟨ma, mc, hmv2, _⟩ := Zm7.out
              rw [HM0.out] at hmv2
              subst hmv2
              clear Zm7
              go_wp2
              go_ret
              exact ⟨rfl, B7.out⟩
          · have h1' : ¬ (np : Int) > 64 := by rw [← Np.out]; omega
            have h2' : ¬ (nq : Int) > 64 := by rw [← Nq.out]; omega
            have HP64 : Hid (p.length ≤ 64 ∧ q.length ≤ 64) := by show _ ∧ _; omega
            have HML : Hid ((pMul p q).length ≤ 1048576 ∧ (pAdd p q).length ≤ 1048576) := ⟨pMul_len _ _, by have := pAdd_len p q; omega⟩
            clear hbig
            have HPM : Hid (pAt (pMul p q) (x0 : Int) = scMul (pAt p (x0 : Int)) (pAt q (x0 : Int))) := mul_val p q HP64.out.1 HP64.out.2 _
            have HPA : Hid (pAt (pAdd p q) (x0 : Int) = scAdd (pAt p (x0 : Int)) (pAt q (x0 : Int))) := add_val p q _
            go_wp2_with fail
            go_at_call 27
            refine (iMul_any _ _ p q hpq.1 hpq.2 _ Zp6.out Zq6.out).mono ?_
            rintro e w7 ⟨mv, rfl, hmv, hb⟩
            have Zp7 : Hid (ZAt w7 w7.heap.size (.slice pa np pc) p) := (Zp6.out.on hb).wide hb.size
            have Zq7 : Hid (ZAt w7 w7.heap.size (.slice qa nq qc) q) := (Zq6.out.on hb).wide hb.size
            have Zz7 : Hid (ZAt w7 w7.heap.size (.slice za 6 zc) (pZer 5)) := (Zz6.out.on hb).wide hb.size
            have A7 : Hid (ArgAt w7 a len w7.heap.size) := (A6.out.on hb).wide hb.size
            have B7 : Hid (Below w.heap.size w w7) := B6.out.trans (hb.mono B6.out.size)
            clear Zp6 Zq6 Zz6 A6 B6
            have Zm7 : Hid (ZAt w7 w7.heap.size mv (pMul p q)) := hmv.at
            clear hb hmv
            go_wp2_with fail
            go_at_call 23
            refine (iAt_any _ _ (x0 : Int) HML.out.1 _ Zm7.out).mono ?_
            rintro e w8 ⟨rfl, hb⟩
            have Zp8 : Hid (ZAt w8 w8.heap.size (.slice pa np pc) p) := (Zp7.out.on hb).wide hb.size
            have Zq8 : Hid (ZAt w8 w8.heap.size (.slice qa nq qc) q) := (Zq7.out.on hb).wide hb.size
            have Zz8 : Hid (ZAt w8 w8.heap.size (.slice za 6 zc) (pZer 5)) := (Zz7.out.on hb).wide hb.size
            have Zm8 : Hid (ZAt w8 w8.heap.size mv (pMul p q)) := (Zm7.out.on hb).wide hb.size
            have A8 : Hid (ArgAt w8 a len w8.heap.size) := (A7.out.on hb).wide hb.size
            have B8 : Hid (Below w.heap.size w w8) := B7.out.trans (hb.mono B7.out.size)
            clear Zp7 Zq7 Zz7 Zm7 A7 B7
            clear hb
            rw [HPM.out]
            go_wp2_with fail
            go_at_call 23
            refine (iAt_any _ _ (x0 : Int) hpq.1 _ Zp8.out).mono ?_
            rintro e w9 ⟨rfl, hb⟩
            have Zp9 : Hid (ZAt w9 w9.heap.size (.slice pa np pc) p) := (Zp8.out.on hb).wide hb.size
            have Zq9 : Hid (ZAt w9 w9.heap.size (.slice qa nq qc) q) := (Zq8.out.on hb).wide hb.size
            have Zz9 : Hid (ZAt w9 w9.heap.size (.slice za 6 zc) (pZer 5)) := (Zz8.out.on hb).wide hb.size
            have Zm9 : Hid (ZAt w9 w9.heap.size mv (pMul p q)) := (Zm8.out.on hb).wide hb.size
            have A9 : Hid (ArgAt w9 a len w9.heap.size) := (A8.out.on hb).wide hb.size
            have B9 : Hid (Below w.heap.size w w9) := B8.out.trans (hb.mono B8.out.size)
            clear Zp8 Zq8 Zz8 Zm8 A8 B8
            clear hb
            go_wp2_with fail
            go_at_call 23
            refine (iAt_any _ _ (x0 : Int) hpq.2 _ Zq9.out).mono ?_
            rintro e w10 ⟨rfl, hb⟩
            have Zp10 : Hid (ZAt w10 w10.heap.size (.slice pa np pc) p) := (Zp9.out.on hb).wide hb.size
            have Zq10 : Hid (ZAt w10 w10.heap.size (.slice qa nq qc) q) := (Zq9.out.on hb).wide hb.size
            have Zz10 : Hid (ZAt w10 w10.heap.size (.slice za 6 zc) (pZer 5)) := (Zz9.out.on hb).wide hb.size
            have Zm10 : Hid (ZAt w10 w10.heap.size mv (pMul p q)) := (Zm9.out.on hb).wide hb.size
            have A10 : Hid (ArgAt w10 a len w10.heap.size) := (A9.out.on hb).wide hb.size
            have B10 : Hid (Below w.heap.size w w10) := B9.out.trans (hb.mono B9.out.size)
            clear Zp9 Zq9 Zz9 Zm9 A9 B9
            clear hb
            have CMM : Hid (∀ w, Calls Try.prog 28 #[.int .i64 (pAt p (x0 : Int)), .int .i64 (pAt q (x0 : Int))] w fun e w' => e = .returned (.int .i64 (scMul (pAt p (x0 : Int)) (pAt q (x0 : Int)))) ∧ w = w') := iScMul_any _ _
            go_wp2_with fail
            go_at_call 28
            refine (CMM.out _).mono ?_
            rintro e wz ⟨rfl, rfl⟩
            generalize scMul (pAt p (x0 : Int)) (pAt q (x0 : Int)) = mm at *
            clear CMM HPM
            go_wp2_with fail
            go_at_call 29
            refine (iAdd_any _ _ p q hpq.1 hpq.2 _ Zp10.out Zq10.out).mono ?_
            rintro e w11 ⟨sv, rfl, hsv, hb⟩
            have Zp11 : Hid (ZAt w11 w11.heap.size (.slice pa np pc) p) := (Zp10.out.on hb).wide hb.size
            have Zq11 : Hid (ZAt w11 w11.heap.size (.slice qa nq qc) q) := (Zq10.out.on hb).wide hb.size
            have Zz11 : Hid (ZAt w11 w11.heap.size (.slice za 6 zc) (pZer 5)) := (Zz10.out.on hb).wide hb.size
            have Zm11 : Hid (ZAt w11 w11.heap.size mv (pMul p q)) := (Zm10.out.on hb).wide hb.size
            have A11 : Hid (ArgAt w11 a len w11.heap.size) := (A10.out.on hb).wide hb.size
            have B11 : Hid (Below w.heap.size w w11) := B10.out.trans (hb.mono B10.out.size)
            clear Zp10 Zq10 Zz10 Zm10 A10 B10
            have Zs11 : Hid (ZAt w11 w11.heap.size sv (pAdd p q)) := hsv.at
            clear hb hsv
            go_wp2_with fail
            go_at_call 23
            refine (iAt_any _ _ (x0 : Int) HML.out.2 _ Zs11.out).mono ?_
            rintro e w12 ⟨rfl, hb⟩
            have Zp12 : Hid (ZAt w12 w12.heap.size (.slice pa np pc) p) := (Zp11.out.on hb).wide hb.size
            have Zq12 : Hid (ZAt w12 w12.heap.size (.slice qa nq qc) q) := (Zq11.out.on hb).wide hb.size
            have Zz12 : Hid (ZAt w12 w12.heap.size (.slice za 6 zc) (pZer 5)) := (Zz11.out.on hb).wide hb.size
            have Zm12 : Hid (ZAt w12 w12.heap.size mv (pMul p q)) := (Zm11.out.on hb).wide hb.size
            have Zs12 : Hid (ZAt w12 w12.heap.size sv (pAdd p q)) := (Zs11.out.on hb).wide hb.size
            have A12 : Hid (ArgAt w12 a len w12.heap.size) := (A11.out.on hb).wide hb.size
            have B12 : Hid (Below w.heap.size w w12) := B11.out.trans (hb.mono B11.out.size)
            clear Zp11 Zq11 Zz11 Zm11 Zs11 A11 B11
            clear hb
            rw [HPA.out]
            go_wp2_with fail
            go_at_call 23
            refine (iAt_any _ _ (x0 : Int) hpq.1 _ Zp12.out).mono ?_
            rintro e w13 ⟨rfl, hb⟩
            have Zp13 : Hid (ZAt w13 w13.heap.size (.slice pa np pc) p) := (Zp12.out.on hb).wide hb.size
            have Zq13 : Hid (ZAt w13 w13.heap.size (.slice qa nq qc) q) := (Zq12.out.on hb).wide hb.size
            have Zz13 : Hid (ZAt w13 w13.heap.size (.slice za 6 zc) (pZer 5)) := (Zz12.out.on hb).wide hb.size
            have Zm13 : Hid (ZAt w13 w13.heap.size mv (pMul p q)) := (Zm12.out.on hb).wide hb.size
            have Zs13 : Hid (ZAt w13 w13.heap.size sv (pAdd p q)) := (Zs12.out.on hb).wide hb.size
            have A13 : Hid (ArgAt w13 a len w13.heap.size) := (A12.out.on hb).wide hb.size
            have B13 : Hid (Below w.heap.size w w13) := B12.out.trans (hb.mono B12.out.size)
            clear Zp12 Zq12 Zz12 Zm12 Zs12 A12 B12
            clear hb
            go_wp2_with fail
            go_at_call 23
            refine (iAt_any _ _ (x0 : Int) hpq.2 _ Zq13.out).mono ?_
            rintro e w14 ⟨rfl, hb⟩
            have Zp14 : Hid (ZAt w14 w14.heap.size (.slice pa np pc) p) := (Zp13.out.on hb).wide hb.size
            have Zq14 : Hid (ZAt w14 w14.heap.size (.slice qa nq qc) q) := (Zq13.out.on hb).wide hb.size
            have Zz14 : Hid (ZAt w14 w14.heap.size (.slice za 6 zc) (pZer 5)) := (Zz13.out.on hb).wide hb.size
            have Zm14 : Hid (ZAt w14 w14.heap.size mv (pMul p q)) := (Zm13.out.on hb).wide hb.size
            have Zs14 : Hid (ZAt w14 w14.heap.size sv (pAdd p q)) := (Zs13.out.on hb).wide hb.size
            have A14 : Hid (ArgAt w14 a len w14.heap.size) := (A13.out.on hb).wide hb.size
            have B14 : Hid (Below w.heap.size w w14) := B13.out.trans (hb.mono B13.out.size)
            clear Zp13 Zq13 Zz13 Zm13 Zs13 A13 B13
            clear hb
            have CMM : Hid (∀ w, Calls Try.prog 30 #[.int .i64 (pAt p (x0 : Int)), .int .i64 (pAt q (x0 : Int))] w fun e w' => e = .returned (.int .i64 (scAdd (pAt p (x0 : Int)) (pAt q (x0 : Int)))) ∧ w = w') := iScAdd_any _ _
            go_wp2_with fail
            go_at_call 30
            refine (CMM.out _).mono ?_
            rintro e wz ⟨rfl, rfl⟩
            generalize scAdd (pAt p (x0 : Int)) (pAt q (x0 : Int)) = ms at *
            clear CMM HPA
            have CZ3 : Hid (Calls Try.prog 23 #[.slice za 6 zc, .int .i64 3] w14 fun e w' => e = .returned (.int .i64 0) ∧ Below w14.heap.size w14 w') := by rw [← zer5at]; exact iAt_any _ _ 3 (by rw [zer5]; decide) _ Zz14.out
            go_wp2_with fail
            go_at_call 23
            refine (CZ3.out).mono ?_
            rintro e w15 ⟨rfl, hb⟩
            have Zp15 : Hid (ZAt w15 w15.heap.size (.slice pa np pc) p) := (Zp14.out.on hb).wide hb.size
            have Zq15 : Hid (ZAt w15 w15.heap.size (.slice qa nq qc) q) := (Zq14.out.on hb).wide hb.size
            have Zz15 : Hid (ZAt w15 w15.heap.size (.slice za 6 zc) (pZer 5)) := (Zz14.out.on hb).wide hb.size
            have Zm15 : Hid (ZAt w15 w15.heap.size mv (pMul p q)) := (Zm14.out.on hb).wide hb.size
            have Zs15 : Hid (ZAt w15 w15.heap.size sv (pAdd p q)) := (Zs14.out.on hb).wide hb.size
            have A15 : Hid (ArgAt w15 a len w15.heap.size) := (A14.out.on hb).wide hb.size
            have B15 : Hid (Below w.heap.size w w15) := B14.out.trans (hb.mono B14.out.size)
            clear Zp14 Zq14 Zz14 Zm14 Zs14 A14 B14
            clear hb
            go_wp2
            go_ret
            exact ⟨rfl, B15.out⟩
    · go_loopw [5] (fun i wr => i = .int .i64 0 ∧ w2 = wr) (fun _ _ => 0)
      case atStart => exact ⟨rfl, rfl⟩
      case round =>
        obtain ⟨rfl, rfl⟩ := hrel
        have h16' : ¬ (nl : Int) ≤ 16 := by omega
        have hlt' : (0 : Int) < (nl : Int) := by omega
        clear Zv2 Zf2 HV HTL
        go_wp2_with fail
        go_at_call 25
        refine (pairM_any len cap a hm1 _ A2.out).mono ?_
        rintro e w3 ⟨pv, qv, p, q, rfl, hp, hq, hpv, hqv, hb⟩
        have A3 : Hid (ArgAt w3 a len w3.heap.size) := (A2.out.on hb).wide hb.size
        have B3 : Hid (Below w.heap.size w w3) := B2.out.trans (hb.mono B2.out.size)
        clear A2 B2
        have Zp3 : Hid (ZAt w3 w3.heap.size pv p) := hpv
        have Zq3 : Hid (ZAt w3 w3.heap.size qv q) := hqv
        clear hb hpv hqv
        have hpq : p.length ≤ 1048576 ∧ q.length ≤ 1048576 := by omega
        obtain ⟨pa, pc, hpv, _⟩ := Zp3.out
        subst hpv
        generalize hpl : p.length = np at Zp3
        have Np : Hid (p.length = np) := hpl
        clear hpl
        obtain ⟨qa, qc, hqv, _⟩ := Zq3.out
        subst hqv
        generalize hql : q.length = nq at Zq3
        have Nq : Hid (q.length = nq) := hql
        clear hql
        go_wp2_with fail
        go_at_call 10
        refine (places_any len cap a hm1 _ A3.out).mono ?_
        rintro e w4 ⟨g, gp, xs, rfl, hg, _, hx, hb⟩
        have Zp4 : Hid (ZAt w4 w4.heap.size (.slice pa np pc) p) := (Zp3.out.on hb).wide hb.size
        have Zq4 : Hid (ZAt w4 w4.heap.size (.slice qa nq qc) q) := (Zq3.out.on hb).wide hb.size
        have A4 : Hid (ArgAt w4 a len w4.heap.size) := (A3.out.on hb).wide hb.size
        have B4 : Hid (Below w.heap.size w w4) := B3.out.trans (hb.mono B3.out.size)
        clear Zp3 Zq3 A3 B3
        clear hb
        have c0 := (hx 0 (by omega)).2
        have hx0 := (hx 0 (by omega)).1
        clear hx
        generalize xs 0 = x0 at c0 hx0
        go_wp2_with fail
        go_at_call 26
        refine (iZer_any 5 _).mono ?_
        rintro e w5 ⟨zv, rfl, hzv, hb⟩
        have Zp5 : Hid (ZAt w5 w5.heap.size (.slice pa np pc) p) := (Zp4.out.on hb).wide hb.size
        have Zq5 : Hid (ZAt w5 w5.heap.size (.slice qa nq qc) q) := (Zq4.out.on hb).wide hb.size
        have A5 : Hid (ArgAt w5 a len w5.heap.size) := (A4.out.on hb).wide hb.size
        have B5 : Hid (Below w.heap.size w w5) := B4.out.trans (hb.mono B4.out.size)
        clear Zp4 Zq4 A4 B4
        have Zz5 : Hid (ZAt w5 w5.heap.size zv (pZer 5)) := hzv.at
        clear hb hzv
        obtain ⟨za, zc, hzv2, _⟩ := Zz5.out
        rw [zer5] at hzv2
        subst hzv2
        clear c0 hg
        by_cases hbig : 64 < p.length ∨ 64 < q.length
        · have HM0 : Hid (pMul p q = []) := by show _ = _; unfold pMul; rw [if_pos hbig]
          have hbg : 64 < np ∨ 64 < nq := by rw [← Np.out, ← Nq.out]; exact hbig
          clear hbig hp hq
          by_cases h1 : 64 < np
          · have h1' : (np : Int) > 64 := by omega
            clear hbg h1
            go_wp2_with fail
            go_at_call 27
            refine (iMul_any _ _ p q hpq.1 hpq.2 _ Zp5.out Zq5.out).mono ?_
            rintro e w6 ⟨mv, rfl, hmv, hb⟩
            have Zp6 : Hid (ZAt w6 w6.heap.size (.slice pa np pc) p) := (Zp5.out.on hb).wide hb.size
            have Zq6 : Hid (ZAt w6 w6.heap.size (.slice qa nq qc) q) := (Zq5.out.on hb).wide hb.size
            have Zz6 : Hid (ZAt w6 w6.heap.size (.slice za 6 zc) (pZer 5)) := (Zz5.out.on hb).wide hb.size
            have A6 : Hid (ArgAt w6 a len w6.heap.size) := (A5.out.on hb).wide hb.size
            have B6 : Hid (Below w.heap.size w w6) := B5.out.trans (hb.mono B5.out.size)
            clear Zp5 Zq5 Zz5 A5 B5
            have Zm6 : Hid (ZAt w6 w6.heap.size mv (pMul p q)) := hmv.at
            clear hb hmv
            obtain ⟨ma, mc, hmv2, _⟩ := Zm6.out
            rw [HM0.out] at hmv2
            subst hmv2
            clear Zm6
            go_wp2
            go_ret
            exact ⟨rfl, B6.out⟩
          · have h1' : ¬ (np : Int) > 64 := by omega
            have h2' : (nq : Int) > 64 := by omega
            clear hbg h1
            go_wp2_with fail
            go_at_call 27
            refine (iMul_any _ _ p q hpq.1 hpq.2 _ Zp5.out Zq5.out).mono ?_
            rintro e w6 ⟨mv, rfl, hmv, hb⟩
            have Zp6 : Hid (ZAt w6 w6.heap.size (.slice pa np pc) p) := (Zp5.out.on hb).wide hb.size
            have Zq6 : Hid (ZAt w6 w6.heap.size (.slice qa nq qc) q) := (Zq5.out.on hb).wide hb.size
            have Zz6 : Hid (ZAt w6 w6.heap.size (.slice za 6 zc) (pZer 5)) := (Zz5.out.on hb).wide hb.size
            have A6 : Hid (ArgAt w6 a len w6.heap.size) := (A5.out.on hb).wide hb.size
            have B6 : Hid (Below w.heap.size w w6) := B5.out.trans (hb.mono B5.out.size)
            clear Zp5 Zq5 Zz5 A5 B5
            have Zm6 : Hid (ZAt w6 w6.heap.size mv (pMul p q)) := hmv.at
            clear hb hmv
            obtain ⟨ma, mc, hmv2, _⟩ := Zm6.out
            rw [HM0.out] at hmv2
            subst hmv2
            clear Zm6
            go_wp2
            go_ret
            exact ⟨rfl, B6.out⟩
        · have h1' : ¬ (np : Int) > 64 := by rw [← Np.out]; omega
          have h2' : ¬ (nq : Int) > 64 := by rw [← Nq.out]; omega
          have HP64 : Hid (p.length ≤ 64 ∧ q.length ≤ 64) := by show _ ∧ _; omega
          have HML : Hid ((pMul p q).length ≤ 1048576 ∧ (pAdd p q).length ≤ 1048576) := ⟨pMul_len _ _, by have := pAdd_len p q; omega⟩
          clear hbig
          have HPM : Hid (pAt (pMul p q) (x0 : Int) = scMul (pAt p (x0 : Int)) (pAt q (x0 : Int))) := mul_val p q HP64.out.1 HP64.out.2 _
          have HPA : Hid (pAt (pAdd p q) (x0 : Int) = scAdd (pAt p (x0 : Int)) (pAt q (x0 : Int))) := add_val p q _
          go_wp2_with fail
          go_at_call 27
          refine (iMul_any _ _ p q hpq.1 hpq.2 _ Zp5.out Zq5.out).mono ?_
          rintro e w6 ⟨mv, rfl, hmv, hb⟩
          have Zp6 : Hid (ZAt w6 w6.heap.size (.slice pa np pc) p) := (Zp5.out.on hb).wide hb.size
          have Zq6 : Hid (ZAt w6 w6.heap.size (.slice qa nq qc) q) := (Zq5.out.on hb).wide hb.size
          have Zz6 : Hid (ZAt w6 w6.heap.size (.slice za 6 zc) (pZer 5)) := (Zz5.out.on hb).wide hb.size
          have A6 : Hid (ArgAt w6 a len w6.heap.size) := (A5.out.on hb).wide hb.size
          have B6 : Hid (Below w.heap.size w w6) := B5.out.trans (hb.mono B5.out.size)
          clear Zp5 Zq5 Zz5 A5 B5
          have Zm6 : Hid (ZAt w6 w6.heap.size mv (pMul p q)) := hmv.at
          clear hb hmv
          go_wp2_with fail
          go_at_call 23
          refine (iAt_any _ _ (x0 : Int) HML.out.1 _ Zm6.out).mono ?_
          rintro e w7 ⟨rfl, hb⟩
          have Zp7 : Hid (ZAt w7 w7.heap.size (.slice pa np pc) p) := (Zp6.out.on hb).wide hb.size
          have Zq7 : Hid (ZAt w7 w7.heap.size (.slice qa nq qc) q) := (Zq6.out.on hb).wide hb.size
          have Zz7 : Hid (ZAt w7 w7.heap.size (.slice za 6 zc) (pZer 5)) := (Zz6.out.on hb).wide hb.size
          have Zm7 : Hid (ZAt w7 w7.heap.size mv (pMul p q)) := (Zm6.out.on hb).wide hb.size
          have A7 : Hid (ArgAt w7 a len w7.heap.size) := (A6.out.on hb).wide hb.size
          have B7 : Hid (Below w.heap.size w w7) := B6.out.trans (hb.mono B6.out.size)
          clear Zp6 Zq6 Zz6 Zm6 A6 B6
          clear hb
          rw [HPM.out]
          go_wp2_with fail
          go_at_call 23
          refine (iAt_any _ _ (x0 : Int) hpq.1 _ Zp7.out).mono ?_
          rintro e w8 ⟨rfl, hb⟩
          have Zp8 : Hid (ZAt w8 w8.heap.size (.slice pa np pc) p) := (Zp7.out.on hb).wide hb.size
          have Zq8 : Hid (ZAt w8 w8.heap.size (.slice qa nq qc) q) := (Zq7.out.on hb).wide hb.size
          have Zz8 : Hid (ZAt w8 w8.heap.size (.slice za 6 zc) (pZer 5)) := (Zz7.out.on hb).wide hb.size
          have Zm8 : Hid (ZAt w8 w8.heap.size mv (pMul p q)) := (Zm7.out.on hb).wide hb.size
          have A8 : Hid (ArgAt w8 a len w8.heap.size) := (A7.out.on hb).wide hb.size
          have B8 : Hid (Below w.heap.size w w8) := B7.out.trans (hb.mono B7.out.size)
          clear Zp7 Zq7 Zz7 Zm7 A7 B7
          clear hb
          go_wp2_with fail
          go_at_call 23
          refine (iAt_any _ _ (x0 : Int) hpq.2 _ Zq8.out).mono ?_
          rintro e w9 ⟨rfl, hb⟩
          have Zp9 : Hid (ZAt w9 w9.heap.size (.slice pa np pc) p) := (Zp8.out.on hb).wide hb.size
          have Zq9 : Hid (ZAt w9 w9.heap.size (.slice qa nq qc) q) := (Zq8.out.on hb).wide hb.size
          have Zz9 : Hid (ZAt w9 w9.heap.size (.slice za 6 zc) (pZer 5)) := (Zz8.out.on hb).wide hb.size
          have Zm9 : Hid (ZAt w9 w9.heap.size mv (pMul p q)) := (Zm8.out.on hb).wide hb.size
          have A9 : Hid (ArgAt w9 a len w9.heap.size) := (A8.out.on hb).wide hb.size
          have B9 : Hid (Below w.heap.size w w9) := B8.out.trans (hb.mono B8.out.size)
          clear Zp8 Zq8 Zz8 Zm8 A8 B8
          clear hb
          have CMM : Hid (∀ w, Calls Try.prog 28 #[.int .i64 (pAt p (x0 : Int)), .int .i64 (pAt q (x0 : Int))] w fun e w' => e = .returned (.int .i64 (scMul (pAt p (x0 : Int)) (pAt q (x0 : Int)))) ∧ w = w') := iScMul_any _ _
          go_wp2_with fail
          go_at_call 28
          refine (CMM.out _).mono ?_
          rintro e wz ⟨rfl, rfl⟩
          generalize scMul (pAt p (x0 : Int)) (pAt q (x0 : Int)) = mm at *
          clear CMM HPM
          go_wp2_with fail
          go_at_call 29
          refine (iAdd_any _ _ p q hpq.1 hpq.2 _ Zp9.out Zq9.out).mono ?_
          rintro e w10 ⟨sv, rfl, hsv, hb⟩
          have Zp10 : Hid (ZAt w10 w10.heap.size (.slice pa np pc) p) := (Zp9.out.on hb).wide hb.size
          have Zq10 : Hid (ZAt w10 w10.heap.size (.slice qa nq qc) q) := (Zq9.out.on hb).wide hb.size
          have Zz10 : Hid (ZAt w10 w10.heap.size (.slice za 6 zc) (pZer 5)) := (Zz9.out.on hb).wide hb.size
          have Zm10 : Hid (ZAt w10 w10.heap.size mv (pMul p q)) := (Zm9.out.on hb).wide hb.size
          have A10 : Hid (ArgAt w10 a len w10.heap.size) := (A9.out.on hb).wide hb.size
          have B10 : Hid (Below w.heap.size w w10) := B9.out.trans (hb.mono B9.out.size)
          clear Zp9 Zq9 Zz9 Zm9 A9 B9
          have Zs10 : Hid (ZAt w10 w10.heap.size sv (pAdd p q)) := hsv.at
          clear hb hsv
          go_wp2_with fail
          go_at_call 23
          refine (iAt_any _ _ (x0 : Int) HML.out.2 _ Zs10.out).mono ?_
          rintro e w11 ⟨rfl, hb⟩
          have Zp11 : Hid (ZAt w11 w11.heap.size (.slice pa np pc) p) := (Zp10.out.on hb).wide hb.size
          have Zq11 : Hid (ZAt w11 w11.heap.size (.slice qa nq qc) q) := (Zq10.out.on hb).wide hb.size
          have Zz11 : Hid (ZAt w11 w11.heap.size (.slice za 6 zc) (pZer 5)) := (Zz10.out.on hb).wide hb.size
          have Zm11 : Hid (ZAt w11 w11.heap.size mv (pMul p q)) := (Zm10.out.on hb).wide hb.size
          have Zs11 : Hid (ZAt w11 w11.heap.size sv (pAdd p q)) := (Zs10.out.on hb).wide hb.size
          have A11 : Hid (ArgAt w11 a len w11.heap.size) := (A10.out.on hb).wide hb.size
          have B11 : Hid (Below w.heap.size w w11) := B10.out.trans (hb.mono B10.out.size)
          clear Zp10 Zq10 Zz10 Zm10 Zs10 A10 B10
          clear hb
          rw [HPA.out]
          go_wp2_with fail
          go_at_call 23
          refine (iAt_any _ _ (x0 : Int) hpq.1 _ Zp11.out).mono ?_
          rintro e w12 ⟨rfl, hb⟩
          have Zp12 : Hid (ZAt w12 w12.heap.size (.slice pa np pc) p) := (Zp11.out.on hb).wide hb.size
          have Zq12 : Hid (ZAt w12 w12.heap.size (.slice qa nq qc) q) := (Zq11.out.on hb).wide hb.size
          have Zz12 : Hid (ZAt w12 w12.heap.size (.slice za 6 zc) (pZer 5)) := (Zz11.out.on hb).wide hb.size
          have Zm12 : Hid (ZAt w12 w12.heap.size mv (pMul p q)) := (Zm11.out.on hb).wide hb.size
          have Zs12 : Hid (ZAt w12 w12.heap.size sv (pAdd p q)) := (Zs11.out.on hb).wide hb.size
          have A12 : Hid (ArgAt w12 a len w12.heap.size) := (A11.out.on hb).wide hb.size
          have B12 : Hid (Below w.heap.size w w12) := B11.out.trans (hb.mono B11.out.size)
          clear Zp11 Zq11 Zz11 Zm11 Zs11 A11 B11
          clear hb
          go_wp2_with fail
          go_at_call 23
          refine (iAt_any _ _ (x0 : Int) hpq.2 _ Zq12.out).mono ?_
          rintro e w13 ⟨rfl, hb⟩
          have Zp13 : Hid (ZAt w13 w13.heap.size (.slice pa np pc) p) := (Zp12.out.on hb).wide hb.size
          have Zq13 : Hid (ZAt w13 w13.heap.size (.slice qa nq qc) q) := (Zq12.out.on hb).wide hb.size
          have Zz13 : Hid (ZAt w13 w13.heap.size (.slice za 6 zc) (pZer 5)) := (Zz12.out.on hb).wide hb.size
          have Zm13 : Hid (ZAt w13 w13.heap.size mv (pMul p q)) := (Zm12.out.on hb).wide hb.size
          have Zs13 : Hid (ZAt w13 w13.heap.size sv (pAdd p q)) := (Zs12.out.on hb).wide hb.size
          have A13 : Hid (ArgAt w13 a len w13.heap.size) := (A12.out.on hb).wide hb.size
          have B13 : Hid (Below w.heap.size w w13) := B12.out.trans (hb.mono B12.out.size)
          clear Zp12 Zq12 Zz12 Zm12 Zs12 A12 B12
          clear hb
          have CMM : Hid (∀ w, Calls Try.prog 30 #[.int .i64 (pAt p (x0 : Int)), .int .i64 (pAt q (x0 : Int))] w fun e w' => e = .returned (.int .i64 (scAdd (pAt p (x0 : Int)) (pAt q (x0 : Int)))) ∧ w = w') := iScAdd_any _ _
          go_wp2_with fail
          go_at_call 30
          refine (CMM.out _).mono ?_
          rintro e wz ⟨rfl, rfl⟩
          generalize scAdd (pAt p (x0 : Int)) (pAt q (x0 : Int)) = ms at *
          clear CMM HPA
          have CZ3 : Hid (Calls Try.prog 23 #[.slice za 6 zc, .int .i64 3] w13 fun e w' => e = .returned (.int .i64 0) ∧ Below w13.heap.size w13 w') := by rw [← zer5at]; exact iAt_any _ _ 3 (by rw [zer5]; decide) _ Zz13.out
          go_wp2_with fail
          go_at_call 23
          refine (CZ3.out).mono ?_
          rintro e w14 ⟨rfl, hb⟩
          have Zp14 : Hid (ZAt w14 w14.heap.size (.slice pa np pc) p) := (Zp13.out.on hb).wide hb.size
          have Zq14 : Hid (ZAt w14 w14.heap.size (.slice qa nq qc) q) := (Zq13.out.on hb).wide hb.size
          have Zz14 : Hid (ZAt w14 w14.heap.size (.slice za 6 zc) (pZer 5)) := (Zz13.out.on hb).wide hb.size
          have Zm14 : Hid (ZAt w14 w14.heap.size mv (pMul p q)) := (Zm13.out.on hb).wide hb.size
          have Zs14 : Hid (ZAt w14 w14.heap.size sv (pAdd p q)) := (Zs13.out.on hb).wide hb.size
          have A14 : Hid (ArgAt w14 a len w14.heap.size) := (A13.out.on hb).wide hb.size
          have B14 : Hid (Below w.heap.size w w14) := B13.out.trans (hb.mono B13.out.size)
          clear Zp13 Zq13 Zz13 Zm13 Zs13 A13 B13
          clear hb
          go_wp2
          go_ret
          exact ⟨rfl, B14.out⟩

end Go.Proofs.Ytfiflcedbejamaa
