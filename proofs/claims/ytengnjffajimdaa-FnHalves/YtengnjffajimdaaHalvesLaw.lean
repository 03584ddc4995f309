/-
  The walk of the law on paths by halves.
  (-DROP-: what the seat lacks is left out.)
-/
import Derived.Test.YtengnjffajimdaaNibD3
import Derived.Test.YtengnjffajimdaaNibI6
import Derived.Test.YtengnjffajimdaaNibS8
import Derived.Test.YtengnjffajimdaaNibS3
import Derived.Test.YtengnjffajimdaaPlaces
import Derived.Test.YtengnjffajimdaaByteArg
import Derived.Test.YtengnjffajimdaaSameZ
import Derived.BigGuard
namespace Go.Proofs.Ytengnjffajimdaa
open Go.RowKit

theorem ArgAt.up2 {w W : World} {a : Option Addr} {len : Nat} (h : ArgAt w a len w.heap.size) (hb : Below w.heap.size w W) : ArgAt W a len W.heap.size := fun j hj => by
  obtain ⟨b, off, z, h1, h2, h3, h4⟩ := h j hj
  exact ⟨b, off, z, h1, by have := hb.size; omega, (hb.cell (p := ⟨b, off + j, none⟩) h2).trans h3, h4⟩
theorem ZAt.up {w W : World} {v : Value} {l : List Int} (h : ZAt w w.heap.size v l) (hb : Below w.heap.size w W) : ZAt W W.heap.size v l := (h.on hb).wide hb.size
theorem rdPl_short (t : ByteArray) : (rdPl t).length ≤ 64 := by
  cases hr : rdP t with
  | none => rw [(rd_none hr).2.2]; exact Nat.zero_le _
  | some x =>
    obtain ⟨l, b⟩ := x
    rw [(rd_some hr).2.2]
    exact (nib_in (pre_again hr).1).1
theorem nib_facts (t : ByteArray) : (nibs t).length = 2 * t.size := by
  unfold nibs
  rw [nibL_length, Array.length_toList]
  rfl

set_option maxHeartbeats 1600000 in
set_option maxRecDepth 100000 in
theorem lawHalves (a : Option Addr) (len cap : Nat) (hm : len ≤ 9223372036854775807) (w : World) (hA : ArgAt w a len w.heap.size) :
    Calls Try.prog 3 #[.slice a len cap] w fun e w' => e = .returned (.bool true) ∧ Below w.heap.size w w' := by
  have HA : Hid (ArgAt w a len w.heap.size) := hA
  clear hA
  by_cases hb : 1048576 < len
  · have hd : decide (1048576 < len) = true := decide_eq_true hb
    go_enter Try.func3, Try.ntmps3
    go_wp2_with (go_at_call 9; refine (big_any _ _ _ hm _).mono ?_; rintro e w0 ⟨rfl, rfl⟩)
    go_ret
    exact ⟨rfl, Below.refl _ _⟩
  have hd : decide (1048576 < len) = false := decide_eq_false hb
  have hm1 : len ≤ 1048576 := by omega
  clear hb
  go_enter Try.func3, Try.ntmps3
  go_wp2_with (go_at_call 9; refine (big_any _ _ _ hm _).mono ?_; rintro e w0 ⟨rfl, rfl⟩)
  refine (dPre_any len cap a hm1 _ HA.out).mono ?_
  rintro e w1 ⟨v, l, leaf, rfl, hl, hz, hb1⟩
  obtain ⟨va, vc, hv⟩ := hz.off.form
  subst hv
  have KL1 : Hid (ZAt w1 w1.heap.size (.slice va l.length vc) l) := hz.at
  have KB1 : Hid (Below w.heap.size w w1) := hb1
  have HL : Hid (l.length ≤ 65) := hl
  obtain ⟨nl, hnl⟩ : ∃ n, l.length = n := ⟨_, rfl⟩
  have HNL : Hid (l.length = nl) := hnl
  rw [hnl] at KL1 HL ⊢
  clear hz hb1 hl hnl
  go_wp2_with fail
  refine (iPrefix_any _ l leaf (by rw [HNL.out]; have := HL.out; omega) _ KL1.out).mono ?_
  rintro e w2 ⟨rfl, hbw2⟩
  have KB2 : Hid (Below w.heap.size w w2) := below_then KB1.out hbw2
  have KL2 : Hid (ZAt w2 w2.heap.size (.slice va nl vc) l) := KL1.out.up hbw2
  clear hbw2 KB1 KL1
  have HS : Hid (preT l leaf = preT l leaf ∧ (preT l leaf).size ≤ 40 ∧ (nibOk l = true → rdPl (preT l leaf) = l ∧ rdPb (preT l leaf) = leaf ∧ (rdP (preT l leaf)).isSome = true)) := ⟨rfl, preT_short l leaf, fun h => by
    have h1 := rd_some (pre_back leaf h)
    exact ⟨h1.2.2, h1.1, h1.2.1⟩⟩
  generalize preT l leaf = S at HS ⊢
  go_wp2_with fail
  refine (iRead_any S (by have := HS.out.2.1; omega) _).mono ?_
  rintro e w3 ⟨u1, rfl, hz, hbw3⟩
  obtain ⟨ba, bc, hv⟩ := hz.form
  subst hv
  have hzb := hz.at
  obtain ⟨nb, hnb⟩ : ∃ n, (rdPl S).length = n := ⟨_, rfl⟩
  have HNB : Hid ((rdPl S).length = nb) := hnb
  rw [hnb] at hzb ⊢
  clear hz hnb
  have KB3 : Hid (Below w.heap.size w w3) := below_then KB2.out hbw3
  have KL3 : Hid (ZAt w3 w3.heap.size (.slice va nl vc) l) := KL2.out.up hbw3
  clear hbw3 KB2 KL2
  have KK3 : Hid (ZAt w3 w3.heap.size (.slice ba nb bc) (rdPl S)) := hzb
  clear hzb
  go_wp2_with fail
  refine (dRead_any len cap a hm1 _ (HA.out.up2 KB3.out)).mono ?_
  rintro e w4 ⟨U, rfl, hU, hbw4⟩
  have KB4 : Hid (Below w.heap.size w w4) := below_then KB3.out hbw4
  have KL4 : Hid (ZAt w4 w4.heap.size (.slice va nl vc) l) := KL3.out.up hbw4
  have KK4 : Hid (ZAt w4 w4.heap.size (.slice ba nb bc) (rdPl S)) := KK3.out.up hbw4
  clear hbw4 KB3 KL3 KK3
  have HU : Hid (U.size ≤ 40) := hU
  clear hU
  go_wp2_with fail
  refine (iRead_any U (by have := HU.out; omega) _).mono ?_
  rintro e w5 ⟨u2, rfl, hz, hbw5⟩
  obtain ⟨ra, rc, hv⟩ := hz.form
  subst hv
  have hzr := hz.at
  obtain ⟨nr, hnr⟩ : ∃ n, (rdPl U).length = n := ⟨_, rfl⟩
  have HNR : Hid ((rdPl U).length = nr ∧ (rdPl U).length ≤ 64) := ⟨hnr, rdPl_short U⟩
  rw [hnr] at hzr ⊢
  clear hz hnr
  have KB5 : Hid (Below w.heap.size w w5) := below_then KB4.out hbw5
  have KL5 : Hid (ZAt w5 w5.heap.size (.slice va nl vc) l) := KL4.out.up hbw5
  have KK5 : Hid (ZAt w5 w5.heap.size (.slice ba nb bc) (rdPl S)) := KK4.out.up hbw5
  clear hbw5 KB4 KL4 KK4
  have KR5 : Hid (ZAt w5 w5.heap.size (.slice ra nr rc) (rdPl U)) := hzr
  clear hzr
  go_wp2_with fail
  refine (sRead_any U (by have := HU.out; omega) _).mono ?_
  rintro e w6 ⟨u3, rfl, hz, hbw6⟩
  clear hz
  have KB6 : Hid (Below w.heap.size w w6) := below_then KB5.out hbw6
  have KL6 : Hid (ZAt w6 w6.heap.size (.slice va nl vc) l) := KL5.out.up hbw6
  have KK6 : Hid (ZAt w6 w6.heap.size (.slice ba nb bc) (rdPl S)) := KK5.out.up hbw6
  have KR6 : Hid (ZAt w6 w6.heap.size (.slice ra nr rc) (rdPl U)) := KR5.out.up hbw6
  clear hbw6 KB5 KL5 KK5 KR5
  go_wp2_with fail
  refine (iPrefix_any _ (rdPl U) (rdPb U) (by have := HNR.out.2; omega) _ KR6.out).mono ?_
  rintro e w7 ⟨rfl, hbw7⟩
  have KB7 : Hid (Below w.heap.size w w7) := below_then KB6.out hbw7
  have KL7 : Hid (ZAt w7 w7.heap.size (.slice va nl vc) l) := KL6.out.up hbw7
  have KK7 : Hid (ZAt w7 w7.heap.size (.slice ba nb bc) (rdPl S)) := KK6.out.up hbw7
  clear hbw7 KB6 KL6 KK6
  have HAG : Hid ((rdP U).isSome = true → preT (rdPl U) (rdPb U) = U) := fun h => by
    cases hr : rdP U with
    | none => rw [hr] at h; cases h
    | some x =>
      obtain ⟨l2, b2⟩ := x
      have h1 := rd_some hr
      rw [h1.1, h1.2.2]
      exact (pre_again hr).2
  generalize preT (rdPl U) (rdPb U) = G at HAG ⊢
  generalize nibOk (rdPl U) = okU
  generalize rdPb U = bU
  go_wp2_with fail
  refine (dHalf_any len cap a hm1 _ (HA.out.up2 KB7.out)).mono ?_
  rintro e w8 ⟨T, rfl, hT, hbw8⟩
  have KB8 : Hid (Below w.heap.size w w8) := below_then KB7.out hbw8
  have KL8 : Hid (ZAt w8 w8.heap.size (.slice va nl vc) l) := KL7.out.up hbw8
  have KK8 : Hid (ZAt w8 w8.heap.size (.slice ba nb bc) (rdPl S)) := KK7.out.up hbw8
  clear hbw8 KB7 KL7 KK7
  have HT : Hid (T.size ≤ 40) := hT
  clear hT
  go_wp2_with fail
  refine (dCommon_any len cap a hm1 _ (HA.out.up2 KB8.out)).mono ?_
  rintro e w9 ⟨xv, yv, lx, ly, rfl, hlx, hly, hzx, hzy, hbw9⟩
  have KB9 : Hid (Below w.heap.size w w9) := below_then KB8.out hbw9
  have KL9 : Hid (ZAt w9 w9.heap.size (.slice va nl vc) l) := KL8.out.up hbw9
  have KK9 : Hid (ZAt w9 w9.heap.size (.slice ba nb bc) (rdPl S)) := KK8.out.up hbw9
  clear hbw9 KB8 KL8 KK8
  obtain ⟨xa, xc, hv⟩ := hzx.off.form
  subst hv
  obtain ⟨ya, yc, hv⟩ := hzy.off.form
  subst hv
  have hzx2 := hzx.at
  have hzy2 := hzy.at
  obtain ⟨nx, hnx⟩ : ∃ n, lx.length = n := ⟨_, rfl⟩
  obtain ⟨ny, hny⟩ : ∃ n, ly.length = n := ⟨_, rfl⟩
  have HXY : Hid (lx.length ≤ 65 ∧ ly.length ≤ 65) := ⟨hlx, hly⟩
  rw [hnx] at hzx2 ⊢
  rw [hny] at hzy2 ⊢
  have KX9 : Hid (ZAt w9 w9.heap.size (.slice xa nx xc) lx) := hzx2
  have KY9 : Hid (ZAt w9 w9.heap.size (.slice ya ny yc) ly) := hzy2
  clear hzx hzy hzx2 hzy2 hlx hly hnx hny
  go_wp2_with fail
  refine (iNib_any T (by have := HT.out; omega) _).mono ?_
  rintro e w10 ⟨gn, cn, rfl, hz, hbw10⟩
  have hzn := hz.at
  have HNN : Hid ((nibs T).length = 2 * T.size) := nib_facts T
  have HN80 : Hid ((nibs T).length ≤ 80) := by show _ ≤ _; have := HNN.out; have := HT.out; omega
  obtain ⟨nn, hnn⟩ : ∃ n, (nibs T).length = n := ⟨_, rfl⟩
  rw [hnn] at hzn HNN ⊢
  have heq : ((nn : Int) == 2 * (T.size : Int)) = true := by rw [beq_iff_eq]; have := HNN.out; omega
  have hwr : IntKind.i64.wrap (2 * (T.size : Int)) = 2 * (T.size : Int) := IntWalk.i64_in _ (by have := HT.out; omega)
  clear hz hnn
  have KB10 : Hid (Below w.heap.size w w10) := below_then KB9.out hbw10
  have KL10 : Hid (ZAt w10 w10.heap.size (.slice va nl vc) l) := KL9.out.up hbw10
  have KK10 : Hid (ZAt w10 w10.heap.size (.slice ba nb bc) (rdPl S)) := KK9.out.up hbw10
  have KX10 : Hid (ZAt w10 w10.heap.size (.slice xa nx xc) lx) := KX9.out.up hbw10
  have KY10 : Hid (ZAt w10 w10.heap.size (.slice ya ny yc) ly) := KY9.out.up hbw10
  clear hbw10 KB9 KL9 KK9 KX9 KY9
  have KN10 : Hid (ZAt w10 w10.heap.size (.slice (some ⟨gn, 0, none⟩) nn cn) (nibs T)) := hzn
  clear hzn HA hm hd hm1
  have htt : (U.toList == U.toList) = true := beq_self_eq_true _
  generalize hokk : nibOk l = ok at HS ⊢
  generalize (rdP U).isSome = may at HAG ⊢
  generalize (rdP S).isSome = rt at HS ⊢
  generalize rdPb S = bS at HS ⊢
  generalize rdPl S = lS at HS HNB KK10 ⊢
  clear HNR
  cases ok
  · skip
    cases may
    · skip
      clear HAG HU
      go_wp2_with fail
      rename_i hKK
      simp only [List.append] at hKK
      refine (sNibOk_any _ l (by rw [HNL.out]; have := HL.out; omega) _ KL10.out).mono ?_
      rintro e wz ⟨rfl, rfl⟩
      rw [hokk]
      go_wp2_with fail
      refine (iNibOk_any _ l (by rw [HNL.out]; have := HL.out; omega) _ KL10.out).mono ?_
      rintro e wz ⟨rfl, rfl⟩
      rw [hokk]
      clear KK10 KL10
      go_wp2_with fail
      refine (sNib_any T (by have := HT.out; omega) _).mono ?_
      rintro e w12 ⟨gm, cm, rfl, hz, hbw12⟩
      have hzm := hz.at
      obtain ⟨mm, hmm⟩ : ∃ n, (nibs T).length = n := ⟨_, rfl⟩
      rw [hmm] at hzm ⊢
      clear hz hmm
      have KB11 : Hid (Below w.heap.size w w12) := below_then KB10.out hbw12
      have KX11 : Hid (ZAt w12 w12.heap.size (.slice xa nx xc) lx) := KX10.out.up hbw12
      have KY11 : Hid (ZAt w12 w12.heap.size (.slice ya ny yc) ly) := KY10.out.up hbw12
      have KN11 : Hid (ZAt w12 w12.heap.size (.slice (some ⟨gn, 0, none⟩) nn cn) (nibs T)) := KN10.out.up hbw12
      clear hbw12 KB10 KX10 KY10 KN10
      have CM : Hid (Calls Try.prog 20 #[.slice (some ⟨gn, 0, none⟩) nn cn, .slice (some ⟨gm, 0, none⟩) mm cm] w12 fun e w' => e = .returned (.bool true) ∧ Below w12.heap.size w12 w') := sameZ_any _ _ (nibs T) (by have := HN80.out; omega) _ KN11.out hzm
      clear hzm KN11
      go_wp2_with fail
      refine CM.out.mono ?_
      rintro e w13 ⟨rfl, hbw13⟩
      clear CM
      have KB12 : Hid (Below w.heap.size w w13) := below_then KB11.out hbw13
      have KX12 : Hid (ZAt w13 w13.heap.size (.slice xa nx xc) lx) := KX11.out.up hbw13
      have KY12 : Hid (ZAt w13 w13.heap.size (.slice ya ny yc) ly) := KY11.out.up hbw13
      clear hbw13 KB11 KX11 KY11
      go_wp2_with fail
      refine (iCommon_any _ _ lx ly (by have := HXY.out.1; omega) (by have := HXY.out.2; omega) _ KX12.out KY12.out).mono ?_
      rintro e w14 ⟨rfl, hbw14⟩
      have KB13 : Hid (Below w.heap.size w w14) := below_then KB12.out hbw14
      have KX13 : Hid (ZAt w14 w14.heap.size (.slice xa nx xc) lx) := KX12.out.up hbw14
      have KY13 : Hid (ZAt w14 w14.heap.size (.slice ya ny yc) ly) := KY12.out.up hbw14
      clear hbw14 KB12 KX12 KY12
      go_wp2_with fail
      refine (sCommon_any _ _ lx ly (by have := HXY.out.1; omega) (by have := HXY.out.2; omega) _ KX13.out KY13.out).mono ?_
      rintro e w15 ⟨rfl, hbw15⟩
      have KB14 : Hid (Below w.heap.size w w15) := below_then KB13.out hbw15
      have KX14 : Hid (ZAt w15 w15.heap.size (.slice xa nx xc) lx) := KX13.out.up hbw15
      have KY14 : Hid (ZAt w15 w15.heap.size (.slice ya ny yc) ly) := KY13.out.up hbw15
      clear hbw15 KB13 KX13 KY13
      have hcc : ((comN lx ly : Int) == (comN lx ly : Int)) = true := beq_self_eq_true _
      generalize (comN lx ly : Int) = cc at hcc ⊢
      go_wp2
      go_ret
      exact ⟨by rfl, KB14.out⟩
    · skip
      rw [HAG.out rfl]
      clear HAG HU
      go_wp2_with fail
      rename_i hKK
      simp only [List.append] at hKK
      refine (sNibOk_any _ l (by rw [HNL.out]; have := HL.out; omega) _ KL10.out).mono ?_
      rintro e wz ⟨rfl, rfl⟩
      rw [hokk]
      go_wp2_with fail
      refine (iNibOk_any _ l (by rw [HNL.out]; have := HL.out; omega) _ KL10.out).mono ?_
      rintro e wz ⟨rfl, rfl⟩
      rw [hokk]
      clear KK10 KL10
      go_wp2_with fail
      refine (sNib_any T (by have := HT.out; omega) _).mono ?_
      rintro e w12 ⟨gm, cm, rfl, hz, hbw12⟩
      have hzm := hz.at
      obtain ⟨mm, hmm⟩ : ∃ n, (nibs T).length = n := ⟨_, rfl⟩
      rw [hmm] at hzm ⊢
      clear hz hmm
      have KB11 : Hid (Below w.heap.size w w12) := below_then KB10.out hbw12
      have KX11 : Hid (ZAt w12 w12.heap.size (.slice xa nx xc) lx) := KX10.out.up hbw12
      have KY11 : Hid (ZAt w12 w12.heap.size (.slice ya ny yc) ly) := KY10.out.up hbw12
      have KN11 : Hid (ZAt w12 w12.heap.size (.slice (some ⟨gn, 0, none⟩) nn cn) (nibs T)) := KN10.out.up hbw12
      clear hbw12 KB10 KX10 KY10 KN10
      have CM : Hid (Calls Try.prog 20 #[.slice (some ⟨gn, 0, none⟩) nn cn, .slice (some ⟨gm, 0, none⟩) mm cm] w12 fun e w' => e = .returned (.bool true) ∧ Below w12.heap.size w12 w') := sameZ_any _ _ (nibs T) (by have := HN80.out; omega) _ KN11.out hzm
      clear hzm KN11
      go_wp2_with fail
      refine CM.out.mono ?_
      rintro e w13 ⟨rfl, hbw13⟩
      clear CM
      have KB12 : Hid (Below w.heap.size w w13) := below_then KB11.out hbw13
      have KX12 : Hid (ZAt w13 w13.heap.size (.slice xa nx xc) lx) := KX11.out.up hbw13
      have KY12 : Hid (ZAt w13 w13.heap.size (.slice ya ny yc) ly) := KY11.out.up hbw13
      clear hbw13 KB11 KX11 KY11
      go_wp2_with fail
      refine (iCommon_any _ _ lx ly (by have := HXY.out.1; omega) (by have := HXY.out.2; omega) _ KX12.out KY12.out).mono ?_
      rintro e w14 ⟨rfl, hbw14⟩
      have KB13 : Hid (Below w.heap.size w w14) := below_then KB12.out hbw14
      have KX13 : Hid (ZAt w14 w14.heap.size (.slice xa nx xc) lx) := KX12.out.up hbw14
      have KY13 : Hid (ZAt w14 w14.heap.size (.slice ya ny yc) ly) := KY12.out.up hbw14
      clear hbw14 KB12 KX12 KY12
      go_wp2_with fail
      refine (sCommon_any _ _ lx ly (by have := HXY.out.1; omega) (by have := HXY.out.2; omega) _ KX13.out KY13.out).mono ?_
      rintro e w15 ⟨rfl, hbw15⟩
      have KB14 : Hid (Below w.heap.size w w15) := below_then KB13.out hbw15
      have KX14 : Hid (ZAt w15 w15.heap.size (.slice xa nx xc) lx) := KX13.out.up hbw15
      have KY14 : Hid (ZAt w15 w15.heap.size (.slice ya ny yc) ly) := KY13.out.up hbw15
      clear hbw15 KB13 KX13 KY13
      have hcc : ((comN lx ly : Int) == (comN lx ly : Int)) = true := beq_self_eq_true _
      generalize (comN lx ly : Int) = cc at hcc ⊢
      go_wp2
      go_ret
      exact ⟨by rfl, KB14.out⟩
  · skip
    obtain ⟨e1, e2, e3⟩ := HS.out.2.2 rfl
    have KK10' : Hid (ZAt w10 w10.heap.size (.slice ba nb bc) l) := by have h1 := KK10.out; rw [e1] at h1; exact h1
    clear KK10
    rw [e2, e3]
    clear HNB HS e1 e2 e3
    cases may
    · skip
      clear HAG HU
      go_wp2_with fail
      rename_i hKK
      simp only [List.append] at hKK
      refine (sNibOk_any _ l (by rw [HNL.out]; have := HL.out; omega) _ KL10.out).mono ?_
      rintro e wz ⟨rfl, rfl⟩
      rw [hokk]
      go_wp2_with fail
      refine (iNibOk_any _ l (by rw [HNL.out]; have := HL.out; omega) _ KL10.out).mono ?_
      rintro e wz ⟨rfl, rfl⟩
      rw [hokk]
      go_wp2_with fail
      refine (sameZ_any _ _ l (by rw [HNL.out]; have := HL.out; omega) _ KK10'.out KL10.out).mono ?_
      rintro e w11 ⟨rfl, hbw11⟩
      have KB11 : Hid (Below w.heap.size w w11) := below_then KB10.out hbw11
      have KL11 : Hid (ZAt w11 w11.heap.size (.slice va nl vc) l) := KL10.out.up hbw11
      have KK11 : Hid (ZAt w11 w11.heap.size (.slice ba nb bc) l) := KK10'.out.up hbw11
      have KX11 : Hid (ZAt w11 w11.heap.size (.slice xa nx xc) lx) := KX10.out.up hbw11
      have KY11 : Hid (ZAt w11 w11.heap.size (.slice ya ny yc) ly) := KY10.out.up hbw11
      have KN11 : Hid (ZAt w11 w11.heap.size (.slice (some ⟨gn, 0, none⟩) nn cn) (nibs T)) := KN10.out.up hbw11
      clear hbw11 KB10 KL10 KK10' KX10 KY10 KN10
      clear KK11 KL11
      go_wp2_with fail
      refine (sNib_any T (by have := HT.out; omega) _).mono ?_
      rintro e w12 ⟨gm, cm, rfl, hz, hbw12⟩
      have hzm := hz.at
      obtain ⟨mm, hmm⟩ : ∃ n, (nibs T).length = n := ⟨_, rfl⟩
      rw [hmm] at hzm ⊢
      clear hz hmm
      have KB12 : Hid (Below w.heap.size w w12) := below_then KB11.out hbw12
      have KX12 : Hid (ZAt w12 w12.heap.size (.slice xa nx xc) lx) := KX11.out.up hbw12
      have KY12 : Hid (ZAt w12 w12.heap.size (.slice ya ny yc) ly) := KY11.out.up hbw12
      have KN12 : Hid (ZAt w12 w12.heap.size (.slice (some ⟨gn, 0, none⟩) nn cn) (nibs T)) := KN11.out.up hbw12
      clear hbw12 KB11 KX11 KY11 KN11
      have CM : Hid (Calls Try.prog 20 #[.slice (some ⟨gn, 0, none⟩) nn cn, .slice (some ⟨gm, 0, none⟩) mm cm] w12 fun e w' => e = .returned (.bool true) ∧ Below w12.heap.size w12 w') := sameZ_any _ _ (nibs T) (by have := HN80.out; omega) _ KN12.out hzm
      clear hzm KN12
      go_wp2_with fail
      refine CM.out.mono ?_
      rintro e w13 ⟨rfl, hbw13⟩
      clear CM
      have KB13 : Hid (Below w.heap.size w w13) := below_then KB12.out hbw13
      have KX13 : Hid (ZAt w13 w13.heap.size (.slice xa nx xc) lx) := KX12.out.up hbw13
      have KY13 : Hid (ZAt w13 w13.heap.size (.slice ya ny yc) ly) := KY12.out.up hbw13
      clear hbw13 KB12 KX12 KY12
      go_wp2_with fail
      refine (iCommon_any _ _ lx ly (by have := HXY.out.1; omega) (by have := HXY.out.2; omega) _ KX13.out KY13.out).mono ?_
      rintro e w14 ⟨rfl, hbw14⟩
      have KB14 : Hid (Below w.heap.size w w14) := below_then KB13.out hbw14
      have KX14 : Hid (ZAt w14 w14.heap.size (.slice xa nx xc) lx) := KX13.out.up hbw14
      have KY14 : Hid (ZAt w14 w14.heap.size (.slice ya ny yc) ly) := KY13.out.up hbw14
      clear hbw14 KB13 KX13 KY13
      go_wp2_with fail
      refine (sCommon_any _ _ lx ly (by have := HXY.out.1; omega) (by have := HXY.out.2; omega) _ KX14.out KY14.out).mono ?_
      rintro e w15 ⟨rfl, hbw15⟩
      have KB15 : Hid (Below w.heap.size w w15) := below_then KB14.out hbw15
      have KX15 : Hid (ZAt w15 w15.heap.size (.slice xa nx xc) lx) := KX14.out.up hbw15
      have KY15 : Hid (ZAt w15 w15.heap.size (.slice ya ny yc) ly) := KY14.out.up hbw15
      clear hbw15 KB14 KX14 KY14
      have hcc : ((comN lx ly : Int) == (comN lx ly : Int)) = true := beq_self_eq_true _
      generalize (comN lx ly : Int) = cc at hcc ⊢
      go_wp2
      go_ret
      exact ⟨by rfl, KB15.out⟩
    · skip
      rw [HAG.out rfl]
      clear HAG HU
      go_wp2_with fail
      rename_i hKK
      simp only [List.append] at hKK
      refine (sNibOk_any _ l (by rw [HNL.out]; have := HL.out; omega) _ KL10.out).mono ?_
      rintro e wz ⟨rfl, rfl⟩
      rw [hokk]
      go_wp2_with fail
      refine (iNibOk_any _ l (by rw [HNL.out]; have := HL.out; omega) _ KL10.out).mono ?_
      rintro e wz ⟨rfl, rfl⟩
      rw [hokk]
      go_wp2_with fail
      refine (sameZ_any _ _ l (by rw [HNL.out]; have := HL.out; omega) _ KK10'.out KL10.out).mono ?_
      rintro e w11 ⟨rfl, hbw11⟩
      have KB11 : Hid (Below w.heap.size w w11) := below_then KB10.out hbw11
      have KL11 : Hid (ZAt w11 w11.heap.size (.slice va nl vc) l) := KL10.out.up hbw11
      have KK11 : Hid (ZAt w11 w11.heap.size (.slice ba nb bc) l) := KK10'.out.up hbw11
      have KX11 : Hid (ZAt w11 w11.heap.size (.slice xa nx xc) lx) := KX10.out.up hbw11
      have KY11 : Hid (ZAt w11 w11.heap.size (.slice ya ny yc) ly) := KY10.out.up hbw11
      have KN11 : Hid (ZAt w11 w11.heap.size (.slice (some ⟨gn, 0, none⟩) nn cn) (nibs T)) := KN10.out.up hbw11
      clear hbw11 KB10 KL10 KK10' KX10 KY10 KN10
      clear KK11 KL11
      go_wp2_with fail
      refine (sNib_any T (by have := HT.out; omega) _).mono ?_
      rintro e w12 ⟨gm, cm, rfl, hz, hbw12⟩
      have hzm := hz.at
      obtain ⟨mm, hmm⟩ : ∃ n, (nibs T).length = n := ⟨_, rfl⟩
      rw [hmm] at hzm ⊢
      clear hz hmm
      have KB12 : Hid (Below w.heap.size w w12) := below_then KB11.out hbw12
      have KX12 : Hid (ZAt w12 w12.heap.size (.slice xa nx xc) lx) := KX11.out.up hbw12
      have KY12 : Hid (ZAt w12 w12.heap.size (.slice ya ny yc) ly) := KY11.out.up hbw12
      have KN12 : Hid (ZAt w12 w12.heap.size (.slice (some ⟨gn, 0, none⟩) nn cn) (nibs T)) := KN11.out.up hbw12
      clear hbw12 KB11 KX11 KY11 KN11
      have CM : Hid (Calls Try.prog 20 #[.slice (some ⟨gn, 0, none⟩) nn cn, .slice (some ⟨gm, 0, none⟩) mm cm] w12 fun e w' => e = .returned (.bool true) ∧ Below w12.heap.size w12 w') := sameZ_any _ _ (nibs T) (by have := HN80.out; omega) _ KN12.out hzm
      clear hzm KN12
      go_wp2_with fail
      refine CM.out.mono ?_
      rintro e w13 ⟨rfl, hbw13⟩
      clear CM
      have KB13 : Hid (Below w.heap.size w w13) := below_then KB12.out hbw13
      have KX13 : Hid (ZAt w13 w13.heap.size (.slice xa nx xc) lx) := KX12.out.up hbw13
      have KY13 : Hid (ZAt w13 w13.heap.size (.slice ya ny yc) ly) := KY12.out.up hbw13
      clear hbw13 KB12 KX12 KY12
      go_wp2_with fail
      refine (iCommon_any _ _ lx ly (by have := HXY.out.1; omega) (by have := HXY.out.2; omega) _ KX13.out KY13.out).mono ?_
      rintro e w14 ⟨rfl, hbw14⟩
      have KB14 : Hid (Below w.heap.size w w14) := below_then KB13.out hbw14
      have KX14 : Hid (ZAt w14 w14.heap.size (.slice xa nx xc) lx) := KX13.out.up hbw14
      have KY14 : Hid (ZAt w14 w14.heap.size (.slice ya ny yc) ly) := KY13.out.up hbw14
      clear hbw14 KB13 KX13 KY13
      go_wp2_with fail
      refine (sCommon_any _ _ lx ly (by have := HXY.out.1; omega) (by have := HXY.out.2; omega) _ KX14.out KY14.out).mono ?_
      rintro e w15 ⟨rfl, hbw15⟩
      have KB15 : Hid (Below w.heap.size w w15) := below_then KB14.out hbw15
      have KX15 : Hid (ZAt w15 w15.heap.size (.slice xa nx xc) lx) := KX14.out.up hbw15
      have KY15 : Hid (ZAt w15 w15.heap.size (.slice ya ny yc) ly) := KY14.out.up hbw15
      clear hbw15 KB14 KX14 KY14
      have hcc : ((comN lx ly : Int) == (comN lx ly : Int)) = true := beq_self_eq_true _
      generalize (comN lx ly : Int) = cc at hcc ⊢
      go_wp2
      go_ret
      exact ⟨by rfl, KB15.out⟩

end Go.Proofs.Ytengnjffajimdaa
