/-
  The walk of the law that polynomials are divided.
  (-DROP-: what the seat lacks is left out.)
-/
import Derived.Test.YtfiflcedbejamaaPolyI
import Derived.Test.YtfiflcedbejamaaPolyDraw
import Derived.Test.YtfiflcedbejamaaByteArg
namespace Go.Proofs.Ytfiflcedbejamaa
open Go.RowKit

theorem ArgAt.wide {w : World} {a : Option Addr} {len c d : Nat} (h : ArgAt w a len c) (hd : c ≤ d) : ArgAt w a len d := fun j hj => by
  obtain ⟨b, off, z, h1, h2, h3⟩ := h j hj
  exact ⟨b, off, z, h1, by omega, h3⟩
theorem zer3 : (pZer 3).length = 4 := by decide
theorem zer5 : (pZer 5).length = 6 := by decide
theorem zer5at : pAt (pZer 5) 3 = 0 := by decide

set_option maxHeartbeats 6400000 in
set_option maxRecDepth 100000 in
theorem lawPolysDivided (a : Option Addr) (len cap : Nat) (hm : len ≤ 9223372036854775807) (w : World) (hA : ArgAt w a len w.heap.size) :
    Calls Try.prog 5 #[.slice a len cap] w fun e w' => e = .returned (.bool true) ∧ Below w.heap.size w w' := by
  have A0 : Hid (ArgAt w a len w.heap.size) := hA
  clear hA
  by_cases hb : 1048576 < len
  · have hd : decide (1048576 < len) = true := decide_eq_true hb
    go_enter Try.func5, Try.ntmps5
    go_wp2_with (go_at_call 9; refine (big_any _ _ _ hm _).mono ?_; rintro e w0 ⟨rfl, rfl⟩)
    go_ret
    exact ⟨rfl, Below.refl _ _⟩
  · have hd : decide (1048576 < len) = false := decide_eq_false hb
    have hm1 : len ≤ 1048576 := by omega
    have B0 : Hid (Below w.heap.size w w) := Below.refl _ _
    have CB : Hid (∀ w, Calls Try.prog 9 #[.slice a len cap] w fun e w' => e = .returned (.bool false) ∧ w = w') := fun w => by rw [← hd]; exact big_any _ _ _ hm w
    clear hb hd hm
    go_enter Try.func5, Try.ntmps5
    go_wp2_with fail
    go_at_call 9
    refine (CB.out _).mono ?_
    rintro e wz ⟨rfl, rfl⟩
    go_wp2_with fail
    go_at_call 31
    refine (pairD_any len cap a hm1 _ A0.out).mono ?_
    rintro e w1 ⟨v, u, l, m, rfl, hl, hm, hv, hu, hb⟩
    have A1 : Hid (ArgAt w1 a len w1.heap.size) := (A0.out.on hb).wide hb.size
    have B1 : Hid (Below w.heap.size w w1) := B0.out.trans (hb.mono B0.out.size)
    clear A0 B0
    have Zv1 : Hid (ZAt w1 w1.heap.size v l) := hv
    have Zu1 : Hid (ZAt w1 w1.heap.size u m) := hu
    clear hb hv hu
    have hla : l.length ≤ 1048576 ∧ m.length ≤ 1048576 := by omega
    have HLQ : Hid ((pQuo l m).length ≤ 1048576 ∧ (pRem l m).length ≤ 1048576) := ⟨pQuo_len l m, pRem_len l m⟩
    obtain ⟨va, vc, hvv, _⟩ := Zv1.out
    subst hvv
    generalize hvl : l.length = nl at Zv1
    have Nv : Hid (l.length = nl) := hvl
    clear hvl
    obtain ⟨ua, uc, huv, _⟩ := Zu1.out
    subst huv
    generalize hul : m.length = nm at Zu1
    have Nu : Hid (m.length = nm) := hul
    clear hul
    go_wp2_with fail
    go_at_call 32
    refine (iDiv_any _ _ l m hla.1 hla.2 _ Zv1.out Zu1.out).mono ?_
    rintro e w2 ⟨q, r, rfl, hq, hr, _, hb⟩
    have Zv2 : Hid (ZAt w2 w2.heap.size (.slice va nl vc) l) := (Zv1.out.on hb).wide hb.size
    have Zu2 : Hid (ZAt w2 w2.heap.size (.slice ua nm uc) m) := (Zu1.out.on hb).wide hb.size
    have A2 : Hid (ArgAt w2 a len w2.heap.size) := (A1.out.on hb).wide hb.size
    have B2 : Hid (Below w.heap.size w w2) := B1.out.trans (hb.mono B1.out.size)
    clear Zv1 Zu1 A1 B1
    have Zq2 : Hid (ZAt w2 w2.heap.size q (pQuo l m)) := hq.at
    have Zr2 : Hid (ZAt w2 w2.heap.size r (pRem l m)) := hr.at
    clear hb hq hr
    go_wp2_with fail
    go_at_call 33
    refine (sDiv_any _ _ l m hla.1 hla.2 _ Zv2.out Zu2.out).mono ?_
    rintro e w3 ⟨q2, r2, rfl, hq2, hr2, _, hb⟩
    have Zv3 : Hid (ZAt w3 w3.heap.size (.slice va nl vc) l) := (Zv2.out.on hb).wide hb.size
    have Zu3 : Hid (ZAt w3 w3.heap.size (.slice ua nm uc) m) := (Zu2.out.on hb).wide hb.size
    have Zq3 : Hid (ZAt w3 w3.heap.size q (pQuo l m)) := (Zq2.out.on hb).wide hb.size
    have Zr3 : Hid (ZAt w3 w3.heap.size r (pRem l m)) := (Zr2.out.on hb).wide hb.size
    have A3 : Hid (ArgAt w3 a len w3.heap.size) := (A2.out.on hb).wide hb.size
    have B3 : Hid (Below w.heap.size w w3) := B2.out.trans (hb.mono B2.out.size)
    clear Zv2 Zu2 Zq2 Zr2 A2 B2
    have Zx3 : Hid (ZAt w3 w3.heap.size q2 (pQuo l m)) := hq2.at
    have Zy3 : Hid (ZAt w3 w3.heap.size r2 (pRem l m)) := hr2.at
    clear hb hq2 hr2
    obtain ⟨qa, qc, hqv, _⟩ := Zq3.out
    subst hqv
    generalize hql : (pQuo l m).length = nq at Zq3
    have Nq : Hid ((pQuo l m).length = nq) := hql
    clear hql
    obtain ⟨ra, rc, hrv, _⟩ := Zr3.out
    subst hrv
    generalize hrl : (pRem l m).length = nr at Zr3
    have Nr : Hid ((pRem l m).length = nr) := hrl
    clear hrl
    go_wp2_with fail
    go_at_call 15
    refine (sameO_any _ _ _ HLQ.out.1 _ Zq3.out Zx3.out).mono ?_
    rintro e w4 ⟨rfl, hb⟩
    have Zv4 : Hid (ZAt w4 w4.heap.size (.slice va nl vc) l) := (Zv3.out.on hb).wide hb.size
    have Zu4 : Hid (ZAt w4 w4.heap.size (.slice ua nm uc) m) := (Zu3.out.on hb).wide hb.size
    have Zq4 : Hid (ZAt w4 w4.heap.size (.slice qa nq qc) (pQuo l m)) := (Zq3.out.on hb).wide hb.size
    have Zr4 : Hid (ZAt w4 w4.heap.size (.slice ra nr rc) (pRem l m)) := (Zr3.out.on hb).wide hb.size
    have Zx4 : Hid (ZAt w4 w4.heap.size q2 (pQuo l m)) := (Zx3.out.on hb).wide hb.size
    have Zy4 : Hid (ZAt w4 w4.heap.size r2 (pRem l m)) := (Zy3.out.on hb).wide hb.size
    have A4 : Hid (ArgAt w4 a len w4.heap.size) := (A3.out.on hb).wide hb.size
    have B4 : Hid (Below w.heap.size w w4) := B3.out.trans (hb.mono B3.out.size)
    clear Zv3 Zu3 Zq3 Zr3 Zx3 Zy3 A3 B3
    clear hb
    go_wp2_with fail
    go_at_call 15
    refine (sameO_any _ _ _ HLQ.out.2 _ Zr4.out Zy4.out).mono ?_
    rintro e w5 ⟨rfl, hb⟩
    have Zv5 : Hid (ZAt w5 w5.heap.size (.slice va nl vc) l) := (Zv4.out.on hb).wide hb.size
    have Zu5 : Hid (ZAt w5 w5.heap.size (.slice ua nm uc) m) := (Zu4.out.on hb).wide hb.size
    have Zq5 : Hid (ZAt w5 w5.heap.size (.slice qa nq qc) (pQuo l m)) := (Zq4.out.on hb).wide hb.size
    have Zr5 : Hid (ZAt w5 w5.heap.size (.slice ra nr rc) (pRem l m)) := (Zr4.out.on hb).wide hb.size
    have Zx5 : Hid (ZAt w5 w5.heap.size q2 (pQuo l m)) := (Zx4.out.on hb).wide hb.size
    have Zy5 : Hid (ZAt w5 w5.heap.size r2 (pRem l m)) := (Zy4.out.on hb).wide hb.size
    have A5 : Hid (ArgAt w5 a len w5.heap.size) := (A4.out.on hb).wide hb.size
    have B5 : Hid (Below w.heap.size w w5) := B4.out.trans (hb.mono B4.out.size)
    clear Zv4 Zu4 Zq4 Zr4 Zx4 Zy4 A4 B4
    clear hb
    by_cases hbig : 64 < l.length ∨ 64 < m.length
    · have hq0 : nq = 0 := by rw [← Nq.out]; unfold pQuo; rw [if_pos (by omega)]; rfl
      have hr0 : nr = 0 := by rw [← Nr.out]; unfold pRem; rw [if_pos hbig]; rfl
      subst hq0 hr0
      have hbg : 64 < nl ∨ 64 < nm := by rw [← Nv.out, ← Nu.out]; exact hbig
      clear hbig hl hm hla
      by_cases h1 : 64 < nl
      · have h1' : (nl : Int) > 64 := by omega
        clear hbg h1
        go_wp2
        go_ret
        exact ⟨rfl, B5.out⟩
      · have h1' : ¬ (nl : Int) > 64 := by omega
        have h2' : (nm : Int) > 64 := by omega
        clear hbg h1
        go_wp2
        go_ret
        exact ⟨rfl, B5.out⟩
    · have h1' : ¬ (nl : Int) > 64 := by rw [← Nv.out]; omega
      have h2' : ¬ (nm : Int) > 64 := by rw [← Nu.out]; omega
      have hl64 : l.length ≤ 64 ∧ m.length ≤ 64 := by omega
      have HBK : Hid (pAdd (pMul (pQuo l m) (pTrim m)) (pRem l m) = pTrim l) := div_back l m hl64.1 hl64.2
      have HLT : Hid (0 < (pTrim m).length → (pRem l m).length < (pTrim m).length) := pRem_lt l m hl64.1 hl64.2
      have HTL : Hid ((pTrim l).length ≤ 1048576 ∧ (pTrim m).length ≤ 1048576 ∧ (pMul (pQuo l m) (pTrim m)).length ≤ 1048576) := ⟨by have := pTrim_len l; omega, by have := pTrim_len m; omega, pMul_len _ _⟩
      clear hbig
      clear Zx5 Zy5
      go_wp2_with fail
      go_at_call 34
      refine (iTrim_any _ m hla.2 _ Zu5.out).mono ?_
      rintro e w6 ⟨by1, rfl, hby, hb⟩
      have Zv6 : Hid (ZAt w6 w6.heap.size (.slice va nl vc) l) := (Zv5.out.on hb).wide hb.size
      have Zu6 : Hid (ZAt w6 w6.heap.size (.slice ua nm uc) m) := (Zu5.out.on hb).wide hb.size
      have Zq6 : Hid (ZAt w6 w6.heap.size (.slice qa nq qc) (pQuo l m)) := (Zq5.out.on hb).wide hb.size
      have Zr6 : Hid (ZAt w6 w6.heap.size (.slice ra nr rc) (pRem l m)) := (Zr5.out.on hb).wide hb.size
      have A6 : Hid (ArgAt w6 a len w6.heap.size) := (A5.out.on hb).wide hb.size
      have B6 : Hid (Below w.heap.size w w6) := B5.out.trans (hb.mono B5.out.size)
      clear Zv5 Zu5 Zq5 Zr5 A5 B5
      have Zb6 : Hid (ZAt w6 w6.heap.size by1 (pTrim m)) := hby.at
      clear hb hby
      obtain ⟨ba, bc, hbv, _⟩ := Zb6.out
      subst hbv
      generalize hbl : (pTrim m).length = nb at Zb6
      have Nb : Hid ((pTrim m).length = nb) := hbl
      clear hbl
      go_wp2_with fail
      go_at_call 27
      refine (iMul_any _ _ _ _ HLQ.out.1 HTL.out.2.1 _ Zq6.out Zb6.out).mono ?_
      rintro e w7 ⟨pm, rfl, hpm, hb⟩
      have Zv7 : Hid (ZAt w7 w7.heap.size (.slice va nl vc) l) := (Zv6.out.on hb).wide hb.size
      have Zu7 : Hid (ZAt w7 w7.heap.size (.slice ua nm uc) m) := (Zu6.out.on hb).wide hb.size
      have Zq7 : Hid (ZAt w7 w7.heap.size (.slice qa nq qc) (pQuo l m)) := (Zq6.out.on hb).wide hb.size
      have Zr7 : Hid (ZAt w7 w7.heap.size (.slice ra nr rc) (pRem l m)) := (Zr6.out.on hb).wide hb.size
      have Zb7 : Hid (ZAt w7 w7.heap.size (.slice ba nb bc) (pTrim m)) := (Zb6.out.on hb).wide hb.size
      have A7 : Hid (ArgAt w7 a len w7.heap.size) := (A6.out.on hb).wide hb.size
      have B7 : Hid (Below w.heap.size w w7) := B6.out.trans (hb.mono B6.out.size)
      clear Zv6 Zu6 Zq6 Zr6 Zb6 A6 B6
      have Zp7 : Hid (ZAt w7 w7.heap.size pm (pMul (pQuo l m) (pTrim m))) := hpm.at
      clear hb hpm
      have CAH : Hid (Calls Try.prog 29 #[pm, .slice ra nr rc] w7 fun e w' => ∃ u, e = .returned u ∧ ZOwn w7.heap.size w'.heap.size w' u (pTrim l) ∧ Below w7.heap.size w7 w') := by
        rw [← HBK.out]
        exact iAdd_any _ _ _ _ HTL.out.2.2 HLQ.out.2 _ Zp7.out Zr7.out
      go_wp2_with fail
      go_at_call 29
      refine (CAH.out).mono ?_
      rintro e w8 ⟨bk1, rfl, hba, hb⟩
      have Zv8 : Hid (ZAt w8 w8.heap.size (.slice va nl vc) l) := (Zv7.out.on hb).wide hb.size
      have Zu8 : Hid (ZAt w8 w8.heap.size (.slice ua nm uc) m) := (Zu7.out.on hb).wide hb.size
      have Zq8 : Hid (ZAt w8 w8.heap.size (.slice qa nq qc) (pQuo l m)) := (Zq7.out.on hb).wide hb.size
      have Zr8 : Hid (ZAt w8 w8.heap.size (.slice ra nr rc) (pRem l m)) := (Zr7.out.on hb).wide hb.size
      have Zb8 : Hid (ZAt w8 w8.heap.size (.slice ba nb bc) (pTrim m)) := (Zb7.out.on hb).wide hb.size
      have Zp8 : Hid (ZAt w8 w8.heap.size pm (pMul (pQuo l m) (pTrim m))) := (Zp7.out.on hb).wide hb.size
      have A8 : Hid (ArgAt w8 a len w8.heap.size) := (A7.out.on hb).wide hb.size
      have B8 : Hid (Below w.heap.size w w8) := B7.out.trans (hb.mono B7.out.size)
      clear Zv7 Zu7 Zq7 Zr7 Zb7 Zp7 A7 B7
      have Zk8 : Hid (ZAt w8 w8.heap.size bk1 (pTrim l)) := hba.at
      clear hb hba
      clear CAH
      go_wp2_with fail
      go_at_call 34
      refine (iTrim_any _ l hla.1 _ Zv8.out).mono ?_
      rintro e w9 ⟨ta, rfl, hta, hb⟩
      have Zv9 : Hid (ZAt w9 w9.heap.size (.slice va nl vc) l) := (Zv8.out.on hb).wide hb.size
      have Zu9 : Hid (ZAt w9 w9.heap.size (.slice ua nm uc) m) := (Zu8.out.on hb).wide hb.size
      have Zq9 : Hid (ZAt w9 w9.heap.size (.slice qa nq qc) (pQuo l m)) := (Zq8.out.on hb).wide hb.size
      have Zr9 : Hid (ZAt w9 w9.heap.size (.slice ra nr rc) (pRem l m)) := (Zr8.out.on hb).wide hb.size
      have Zb9 : Hid (ZAt w9 w9.heap.size (.slice ba nb bc) (pTrim m)) := (Zb8.out.on hb).wide hb.size
      have Zp9 : Hid (ZAt w9 w9.heap.size pm (pMul (pQuo l m) (pTrim m))) := (Zp8.out.on hb).wide hb.size
      have Zk9 : Hid (ZAt w9 w9.heap.size bk1 (pTrim l)) := (Zk8.out.on hb).wide hb.size
      have A9 : Hid (ArgAt w9 a len w9.heap.size) := (A8.out.on hb).wide hb.size
      have B9 : Hid (Below w.heap.size w w9) := B8.out.trans (hb.mono B8.out.size)
      clear Zv8 Zu8 Zq8 Zr8 Zb8 Zp8 Zk8 A8 B8
      have Zt9 : Hid (ZAt w9 w9.heap.size ta (pTrim l)) := hta.at
      clear hb hta
      go_wp2_with fail
      go_at_call 15
      refine (sameO_any _ _ _ HTL.out.1 _ Zk9.out Zt9.out).mono ?_
      rintro e w10 ⟨rfl, hb⟩
      have Zv10 : Hid (ZAt w10 w10.heap.size (.slice va nl vc) l) := (Zv9.out.on hb).wide hb.size
      have Zu10 : Hid (ZAt w10 w10.heap.size (.slice ua nm uc) m) := (Zu9.out.on hb).wide hb.size
      have Zq10 : Hid (ZAt w10 w10.heap.size (.slice qa nq qc) (pQuo l m)) := (Zq9.out.on hb).wide hb.size
      have Zr10 : Hid (ZAt w10 w10.heap.size (.slice ra nr rc) (pRem l m)) := (Zr9.out.on hb).wide hb.size
      have Zb10 : Hid (ZAt w10 w10.heap.size (.slice ba nb bc) (pTrim m)) := (Zb9.out.on hb).wide hb.size
      have Zp10 : Hid (ZAt w10 w10.heap.size pm (pMul (pQuo l m) (pTrim m))) := (Zp9.out.on hb).wide hb.size
      have Zk10 : Hid (ZAt w10 w10.heap.size bk1 (pTrim l)) := (Zk9.out.on hb).wide hb.size
      have Zt10 : Hid (ZAt w10 w10.heap.size ta (pTrim l)) := (Zt9.out.on hb).wide hb.size
      have A10 : Hid (ArgAt w10 a len w10.heap.size) := (A9.out.on hb).wide hb.size
      have B10 : Hid (Below w.heap.size w w10) := B9.out.trans (hb.mono B9.out.size)
      clear Zv9 Zu9 Zq9 Zr9 Zb9 Zp9 Zk9 Zt9 A9 B9
      clear hb
      have hnb : 0 < nb → nr < nb := by rw [← Nb.out, ← Nr.out]; exact HLT.out
      have hor : (((nb : Int) == 0) = true) ∨ (((nb : Int) == 0) = false ∧ (nr : Int) < (nb : Int)) := by
        by_cases h : nb = 0
        · left; subst h; rfl
        · right; refine ⟨by rw [beq_eq_false_iff_ne]; omega, ?_⟩; have := hnb (by omega); omega
      clear hnb
      rcases hor with h0 | ⟨h0, h3⟩
      · go_wp2_with fail
        go_at_call 34
        refine (iTrim_any _ l hla.1 _ Zv10.out).mono ?_
        rintro e w11 ⟨t1, rfl, ht1, hb⟩
        have Zv11 : Hid (ZAt w11 w11.heap.size (.slice va nl vc) l) := (Zv10.out.on hb).wide hb.size
        have Zu11 : Hid (ZAt w11 w11.heap.size (.slice ua nm uc) m) := (Zu10.out.on hb).wide hb.size
        have Zq11 : Hid (ZAt w11 w11.heap.size (.slice qa nq qc) (pQuo l m)) := (Zq10.out.on hb).wide hb.size
        have Zr11 : Hid (ZAt w11 w11.heap.size (.slice ra nr rc) (pRem l m)) := (Zr10.out.on hb).wide hb.size
        have Zb11 : Hid (ZAt w11 w11.heap.size (.slice ba nb bc) (pTrim m)) := (Zb10.out.on hb).wide hb.size
        have Zp11 : Hid (ZAt w11 w11.heap.size pm (pMul (pQuo l m) (pTrim m))) := (Zp10.out.on hb).wide hb.size
        have Zk11 : Hid (ZAt w11 w11.heap.size bk1 (pTrim l)) := (Zk10.out.on hb).wide hb.size
        have Zt11 : Hid (ZAt w11 w11.heap.size ta (pTrim l)) := (Zt10.out.on hb).wide hb.size
        have A11 : Hid (ArgAt w11 a len w11.heap.size) := (A10.out.on hb).wide hb.size
        have B11 : Hid (Below w.heap.size w w11) := B10.out.trans (hb.mono B10.out.size)
        clear Zv10 Zu10 Zq10 Zr10 Zb10 Zp10 Zk10 Zt10 A10 B10
        have Zs11 : Hid (ZAt w11 w11.heap.size t1 (pTrim l)) := ht1.at
        clear hb ht1
        go_wp2_with fail
        go_at_call 35
        refine (sTrim_any _ l hla.1 _ Zv11.out).mono ?_
        rintro e w12 ⟨t2, rfl, ht2, hb⟩
        have Zv12 : Hid (ZAt w12 w12.heap.size (.slice va nl vc) l) := (Zv11.out.on hb).wide hb.size
        have Zu12 : Hid (ZAt w12 w12.heap.size (.slice ua nm uc) m) := (Zu11.out.on hb).wide hb.size
        have Zq12 : Hid (ZAt w12 w12.heap.size (.slice qa nq qc) (pQuo l m)) := (Zq11.out.on hb).wide hb.size
        have Zr12 : Hid (ZAt w12 w12.heap.size (.slice ra nr rc) (pRem l m)) := (Zr11.out.on hb).wide hb.size
        have Zb12 : Hid (ZAt w12 w12.heap.size (.slice ba nb bc) (pTrim m)) := (Zb11.out.on hb).wide hb.size
        have Zp12 : Hid (ZAt w12 w12.heap.size pm (pMul (pQuo l m) (pTrim m))) := (Zp11.out.on hb).wide hb.size
        have Zk12 : Hid (ZAt w12 w12.heap.size bk1 (pTrim l)) := (Zk11.out.on hb).wide hb.size
        have Zt12 : Hid (ZAt w12 w12.heap.size ta (pTrim l)) := (Zt11.out.on hb).wide hb.size
        have Zs12 : Hid (ZAt w12 w12.heap.size t1 (pTrim l)) := (Zs11.out.on hb).wide hb.size
        have A12 : Hid (ArgAt w12 a len w12.heap.size) := (A11.out.on hb).wide hb.size
        have B12 : Hid (Below w.heap.size w w12) := B11.out.trans (hb.mono B11.out.size)
        clear Zv11 Zu11 Zq11 Zr11 Zb11 Zp11 Zk11 Zt11 Zs11 A11 B11
        have Zo12 : Hid (ZAt w12 w12.heap.size t2 (pTrim l)) := ht2.at
        clear hb ht2
        go_wp2_with fail
        go_at_call 15
        refine (sameO_any _ _ _ HTL.out.1 _ Zs12.out Zo12.out).mono ?_
        rintro e w13 ⟨rfl, hb⟩
        have Zv13 : Hid (ZAt w13 w13.heap.size (.slice va nl vc) l) := (Zv12.out.on hb).wide hb.size
        have Zu13 : Hid (ZAt w13 w13.heap.size (.slice ua nm uc) m) := (Zu12.out.on hb).wide hb.size
        have Zq13 : Hid (ZAt w13 w13.heap.size (.slice qa nq qc) (pQuo l m)) := (Zq12.out.on hb).wide hb.size
        have Zr13 : Hid (ZAt w13 w13.heap.size (.slice ra nr rc) (pRem l m)) := (Zr12.out.on hb).wide hb.size
        have Zb13 : Hid (ZAt w13 w13.heap.size (.slice ba nb bc) (pTrim m)) := (Zb12.out.on hb).wide hb.size
        have Zp13 : Hid (ZAt w13 w13.heap.size pm (pMul (pQuo l m) (pTrim m))) := (Zp12.out.on hb).wide hb.size
        have Zk13 : Hid (ZAt w13 w13.heap.size bk1 (pTrim l)) := (Zk12.out.on hb).wide hb.size
        have Zt13 : Hid (ZAt w13 w13.heap.size ta (pTrim l)) := (Zt12.out.on hb).wide hb.size
        have Zs13 : Hid (ZAt w13 w13.heap.size t1 (pTrim l)) := (Zs12.out.on hb).wide hb.size
        have Zo13 : Hid (ZAt w13 w13.heap.size t2 (pTrim l)) := (Zo12.out.on hb).wide hb.size
        have A13 : Hid (ArgAt w13 a len w13.heap.size) := (A12.out.on hb).wide hb.size
        have B13 : Hid (Below w.heap.size w w13) := B12.out.trans (hb.mono B12.out.size)
        clear Zv12 Zu12 Zq12 Zr12 Zb12 Zp12 Zk12 Zt12 Zs12 Zo12 A12 B12
        clear hb
        go_wp2_with fail
        go_at_call 26
        refine (iZer_any 3 _).mono ?_
        rintro e w14 ⟨zv, rfl, hzv, hb⟩
        have Zv14 : Hid (ZAt w14 w14.heap.size (.slice va nl vc) l) := (Zv13.out.on hb).wide hb.size
        have Zu14 : Hid (ZAt w14 w14.heap.size (.slice ua nm uc) m) := (Zu13.out.on hb).wide hb.size
        have Zq14 : Hid (ZAt w14 w14.heap.size (.slice qa nq qc) (pQuo l m)) := (Zq13.out.on hb).wide hb.size
        have Zr14 : Hid (ZAt w14 w14.heap.size (.slice ra nr rc) (pRem l m)) := (Zr13.out.on hb).wide hb.size
        have Zb14 : Hid (ZAt w14 w14.heap.size (.slice ba nb bc) (pTrim m)) := (Zb13.out.on hb).wide hb.size
        have Zp14 : Hid (ZAt w14 w14.heap.size pm (pMul (pQuo l m) (pTrim m))) := (Zp13.out.on hb).wide hb.size
        have Zk14 : Hid (ZAt w14 w14.heap.size bk1 (pTrim l)) := (Zk13.out.on hb).wide hb.size
        have Zt14 : Hid (ZAt w14 w14.heap.size ta (pTrim l)) := (Zt13.out.on hb).wide hb.size
        have Zs14 : Hid (ZAt w14 w14.heap.size t1 (pTrim l)) := (Zs13.out.on hb).wide hb.size
        have Zo14 : Hid (ZAt w14 w14.heap.size t2 (pTrim l)) := (Zo13.out.on hb).wide hb.size
        have A14 : Hid (ArgAt w14 a len w14.heap.size) := (A13.out.on hb).wide hb.size
        have B14 : Hid (Below w.heap.size w w14) := B13.out.trans (hb.mono B13.out.size)
        clear Zv13 Zu13 Zq13 Zr13 Zb13 Zp13 Zk13 Zt13 Zs13 Zo13 A13 B13
        have Zg14 : Hid (ZAt w14 w14.heap.size zv (pZer 3)) := hzv.at
        clear hb hzv
        obtain ⟨ga, gc, hgv, _⟩ := Zg14.out
        rw [zer3] at hgv
        subst hgv
        clear Zg14
        go_wp2
        go_ret
        exact ⟨rfl, B14.out⟩
      · go_wp2_with fail
        go_at_call 34
        refine (iTrim_any _ l hla.1 _ Zv10.out).mono ?_
        rintro e w11 ⟨t1, rfl, ht1, hb⟩
        have Zv11 : Hid (ZAt w11 w11.heap.size (.slice va nl vc) l) := (Zv10.out.on hb).wide hb.size
        have Zu11 : Hid (ZAt w11 w11.heap.size (.slice ua nm uc) m) := (Zu10.out.on hb).wide hb.size
        have Zq11 : Hid (ZAt w11 w11.heap.size (.slice qa nq qc) (pQuo l m)) := (Zq10.out.on hb).wide hb.size
        have Zr11 : Hid (ZAt w11 w11.heap.size (.slice ra nr rc) (pRem l m)) := (Zr10.out.on hb).wide hb.size
        have Zb11 : Hid (ZAt w11 w11.heap.size (.slice ba nb bc) (pTrim m)) := (Zb10.out.on hb).wide hb.size
        have Zp11 : Hid (ZAt w11 w11.heap.size pm (pMul (pQuo l m) (pTrim m))) := (Zp10.out.on hb).wide hb.size
        have Zk11 : Hid (ZAt w11 w11.heap.size bk1 (pTrim l)) := (Zk10.out.on hb).wide hb.size
        have Zt11 : Hid (ZAt w11 w11.heap.size ta (pTrim l)) := (Zt10.out.on hb).wide hb.size
        have A11 : Hid (ArgAt w11 a len w11.heap.size) := (A10.out.on hb).wide hb.size
        have B11 : Hid (Below w.heap.size w w11) := B10.out.trans (hb.mono B10.out.size)
        clear Zv10 Zu10 Zq10 Zr10 Zb10 Zp10 Zk10 Zt10 A10 B10
        have Zs11 : Hid (ZAt w11 w11.heap.size t1 (pTrim l)) := ht1.at
        clear hb ht1
        go_wp2_with fail
        go_at_call 35
        refine (sTrim_any _ l hla.1 _ Zv11.out).mono ?_
        rintro e w12 ⟨t2, rfl, ht2, hb⟩
        have Zv12 : Hid (ZAt w12 w12.heap.size (.slice va nl vc) l) := (Zv11.out.on hb).wide hb.size
        have Zu12 : Hid (ZAt w12 w12.heap.size (.slice ua nm uc) m) := (Zu11.out.on hb).wide hb.size
        have Zq12 : Hid (ZAt w12 w12.heap.size (.slice qa nq qc) (pQuo l m)) := (Zq11.out.on hb).wide hb.size
        have Zr12 : Hid (ZAt w12 w12.heap.size (.slice ra nr rc) (pRem l m)) := (Zr11.out.on hb).wide hb.size
        have Zb12 : Hid (ZAt w12 w12.heap.size (.slice ba nb bc) (pTrim m)) := (Zb11.out.on hb).wide hb.size
        have Zp12 : Hid (ZAt w12 w12.heap.size pm (pMul (pQuo l m) (pTrim m))) := (Zp11.out.on hb).wide hb.size
        have Zk12 : Hid (ZAt w12 w12.heap.size bk1 (pTrim l)) := (Zk11.out.on hb).wide hb.size
        have Zt12 : Hid (ZAt w12 w12.heap.size ta (pTrim l)) := (Zt11.out.on hb).wide hb.size
        have Zs12 : Hid (ZAt w12 w12.heap.size t1 (pTrim l)) := (Zs11.out.on hb).wide hb.size
        have A12 : Hid (ArgAt w12 a len w12.heap.size) := (A11.out.on hb).wide hb.size
        have B12 : Hid (Below w.heap.size w w12) := B11.out.trans (hb.mono B11.out.size)
        clear Zv11 Zu11 Zq11 Zr11 Zb11 Zp11 Zk11 Zt11 Zs11 A11 B11
        have Zo12 : Hid (ZAt w12 w12.heap.size t2 (pTrim l)) := ht2.at
        clear hb ht2
        go_wp2_with fail
        go_at_call 15
        refine (sameO_any _ _ _ HTL.out.1 _ Zs12.out Zo12.out).mono ?_
        rintro e w13 ⟨rfl, hb⟩
        have Zv13 : Hid (ZAt w13 w13.heap.size (.slice va nl vc) l) := (Zv12.out.on hb).wide hb.size
        have Zu13 : Hid (ZAt w13 w13.heap.size (.slice ua nm uc) m) := (Zu12.out.on hb).wide hb.size
        have Zq13 : Hid (ZAt w13 w13.heap.size (.slice qa nq qc) (pQuo l m)) := (Zq12.out.on hb).wide hb.size
        have Zr13 : Hid (ZAt w13 w13.heap.size (.slice ra nr rc) (pRem l m)) := (Zr12.out.on hb).wide hb.size
        have Zb13 : Hid (ZAt w13 w13.heap.size (.slice ba nb bc) (pTrim m)) := (Zb12.out.on hb).wide hb.size
        have Zp13 : Hid (ZAt w13 w13.heap.size pm (pMul (pQuo l m) (pTrim m))) := (Zp12.out.on hb).wide hb.size
        have Zk13 : Hid (ZAt w13 w13.heap.size bk1 (pTrim l)) := (Zk12.out.on hb).wide hb.size
        have Zt13 : Hid (ZAt w13 w13.heap.size ta (pTrim l)) := (Zt12.out.on hb).wide hb.size
        have Zs13 : Hid (ZAt w13 w13.heap.size t1 (pTrim l)) := (Zs12.out.on hb).wide hb.size
        have Zo13 : Hid (ZAt w13 w13.heap.size t2 (pTrim l)) := (Zo12.out.on hb).wide hb.size
        have A13 : Hid (ArgAt w13 a len w13.heap.size) := (A12.out.on hb).wide hb.size
        have B13 : Hid (Below w.heap.size w w13) := B12.out.trans (hb.mono B12.out.size)
        clear Zv12 Zu12 Zq12 Zr12 Zb12 Zp12 Zk12 Zt12 Zs12 Zo12 A12 B12
        clear hb
        go_wp2_with fail
        go_at_call 26
        refine (iZer_any 3 _).mono ?_
        rintro e w14 ⟨zv, rfl, hzv, hb⟩
        have Zv14 : Hid (ZAt w14 w14.heap.size (.slice va nl vc) l) := (Zv13.out.on hb).wide hb.size
        have Zu14 : Hid (ZAt w14 w14.heap.size (.slice ua nm uc) m) := (Zu13.out.on hb).wide hb.size
        have Zq14 : Hid (ZAt w14 w14.heap.size (.slice qa nq qc) (pQuo l m)) := (Zq13.out.on hb).wide hb.size
        have Zr14 : Hid (ZAt w14 w14.heap.size (.slice ra nr rc) (pRem l m)) := (Zr13.out.on hb).wide hb.size
        have Zb14 : Hid (ZAt w14 w14.heap.size (.slice ba nb bc) (pTrim m)) := (Zb13.out.on hb).wide hb.size
        have Zp14 : Hid (ZAt w14 w14.heap.size pm (pMul (pQuo l m) (pTrim m))) := (Zp13.out.on hb).wide hb.size
        have Zk14 : Hid (ZAt w14 w14.heap.size bk1 (pTrim l)) := (Zk13.out.on hb).wide hb.size
        have Zt14 : Hid (ZAt w14 w14.heap.size ta (pTrim l)) := (Zt13.out.on hb).wide hb.size
        have Zs14 : Hid (ZAt w14 w14.heap.size t1 (pTrim l)) := (Zs13.out.on hb).wide hb.size
        have Zo14 : Hid (ZAt w14 w14.heap.size t2 (pTrim l)) := (Zo13.out.on hb).wide hb.size
        have A14 : Hid (ArgAt w14 a len w14.heap.size) := (A13.out.on hb).wide hb.size
        have B14 : Hid (Below w.heap.size w w14) := B13.out.trans (hb.mono B13.out.size)
        clear Zv13 Zu13 Zq13 Zr13 Zb13 Zp13 Zk13 Zt13 Zs13 Zo13 A13 B13
        have Zg14 : Hid (ZAt w14 w14.heap.size zv (pZer 3)) := hzv.at
        clear hb hzv
        obtain ⟨ga, gc, hgv, _⟩ := Zg14.out
        rw [zer3] at hgv
        subst hgv
        clear Zg14
        go_wp2
        go_ret
        exact ⟨rfl, B14.out⟩

end Go.Proofs.Ytfiflcedbejamaa
