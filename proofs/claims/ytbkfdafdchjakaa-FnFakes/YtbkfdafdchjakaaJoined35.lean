/-
  Texts of one's own, joined.
-/
import Derived.Test.YtbkfdafdchjakaaJoined26
import Derived.Test.YtbkfdafdchjakaaPrfFk
import Derived.Test.YtbkfdafdchjakaaJoined29
import Derived.Test.YtbkfdafdchjakaaPrfDraw
import Derived.Test.YtbkfdafdchjakaaJoined33
import Derived.Test.YtbkfdafdchjakaaJoined31
import Derived.Test.YtbkfdafdchjakaaJoined34
import Derived.Test.YtbkfdafdchjakaaQapI3
import Derived.Test.YtbkfdafdchjakaaJoined11

/-
  The walk of the law of proofs without a witness.
  (-DROP-: what the seat lacks is left out.)
-/
namespace Go.Proofs.Ytbkfdafdchjakaa
open Go.RowKit

theorem putFakes {ops : Array Oper} (v : Nat → Value) (a : Act) (h : ops.size = 20) (h13 : dsOf ops 13 = some 60) (h14 : dsOf ops 14 = some 46) (h15 : dsOf ops 15 = some 61) (h16 : dsOf ops 16 = some 62) (h17 : dsOf ops 17 = some 11) (h18 : dsOf ops 18 = none) (h19 : dsOf ops 19 = some 12) : putSt ops v a (fun i => [13, 14, 15, 16, 17, 18, 19].contains i) ops.size = (((((((a.put (some 60) (v 13)).put (some 46) (v 14)).put (some 61) (v 15)).put (some 62) (v 16)).put (some 11) (v 17)).put (none) (v 18)).put (some 12) (v 19)) := by
  rw [h]
  show (((((((a.put (dsOf ops 13) (v 13)).put (dsOf ops 14) (v 14)).put (dsOf ops 15) (v 15)).put (dsOf ops 16) (v 16)).put (dsOf ops 17) (v 17)).put (dsOf ops 18) (v 18)).put (dsOf ops 19) (v 19)) = _
  rw [h13, h14, h15, h16, h17, h18, h19]

def kputFakes : Nat → Nat := (fun i => match i with | 13 => 4 | 14 => 4 | 15 => 5 | 16 => 6 | 19 => 6 | _ => 0)
/-- What the operations of a call answer, by their part in it. -/
def fkVr (X PA : Value) (q : Bool) (r : Nat) (x : Value) : Prop := match r with
  | 2 => x = X
  | 4 => x = .tuple #[PA, .bool q]
  | 5 => x = PA
  | 6 => x = .bool q
  | _ => True
theorem first_none {L : Array Bool} {k : Nat → Nat} (h : ((List.range L.size).all fun i => !(L.getD i false) || decide (k i = 0)) = true) (i : Nat) (hi : L.getD i false = true) : k i = 0 := by
  rcases Nat.lt_or_ge i L.size with h1 | h1
  · have h2 := List.all_eq_true.1 h i (List.mem_range.2 h1)
    rw [hi] at h2
    simpa using h2
  · simp [Array.getElem?_eq_none h1] at hi
theorem ArgAt.widenF {w : World} {a : Option Addr} {len c d : Nat} (h : ArgAt w a len c) (hd : c ≤ d) : ArgAt w a len d := fun j hj => by
  obtain ⟨b, off, z, h1, h2, h3⟩ := h j hj
  exact ⟨b, off, z, h1, by omega, h3⟩
theorem owns_capF {w : World} {B e sz n c : Nat} {a : Option Addr} {xs : List Value} (h : w.ownsRow B e sz (.slice a n c) n xs) : n ≤ c := by
  rcases h.2 with ⟨h0, h1⟩ | ⟨g, c', cur, hv, hg, hh, h1, h2, h3, h4⟩
  · omega
  · injection hv with e1 e2 e3; omega
/-- What is drawn, and where it is read. -/
structure FSt (w : World) (sb tb : Nat) (wi : Int) (p : Nat) (va : Option Addr) (n vc : Nat) (ls : List (List Int)) (ta al be ga de : Int) (g : Nat) (xs : Nat → Nat) (X : World) : Prop where
  bel : Below w.heap.size w X
  sys : Blk X sb 26 #[.int .i64 wi, .int .i64 (p : Int), .slice va n vc]
  tox : Blk X tb 31 #[.int .i64 ta, .int .i64 al, .int .i64 be, .int .i64 ga, .int .i64 de]
  rows : NAt 3 X X.heap.size (.slice va n vc) n ls
  lt : g < X.heap.size
  pl : ∀ j, j < 12 → X.cell? ⟨g, j, none⟩ = some (.int .i64 (xs j : Int))
theorem FSt.on {w : World} {sb tb : Nat} {wi : Int} {p : Nat} {va : Option Addr} {n vc : Nat} {ls : List (List Int)} {ta al be ga de : Int} {g : Nat} {xs : Nat → Nat} {X Y : World} (h : FSt w sb tb wi p va n vc ls ta al be ga de g xs X) (hb : Below X.heap.size X Y) : FSt w sb tb wi p va n vc ls ta al be ga de g xs Y :=
  ⟨h.bel.trans (hb.mono h.bel.size), h.sys.on hb h.sys.lt, h.tox.on hb h.tox.lt, (h.rows.on hb).wide hb.size, Nat.lt_of_lt_of_le h.lt hb.size, fun j hj => (hb.cell (p := ⟨g, j, none⟩) h.lt).trans (h.pl j hj)⟩
theorem wide_told (x : Nat → Nat) (k : Nat) : wide (zls (fun i => ((x (i % 12) % 1009 : Nat) : Int)) k) ((zls (fun i => ((x (i % 12) % 1009 : Nat) : Int)) k).length : Int) = true := by
  unfold wide
  rw [decide_eq_true rfl, Bool.true_and]
  refine List.all_eq_true.2 fun y hy => ?_
  unfold zls at hy
  obtain ⟨i, _, rfl⟩ := List.mem_map.1 hy
  refine decide_eq_true ?_
  have := Nat.mod_lt (x (i % 12)) (by decide : 0 < 1009)
  omega

set_option maxHeartbeats 25600000 in
set_option maxRecDepth 100000 in
theorem lawFakes_of (hM : MulC) (a : Option Addr) (len cap : Nat) (hm : len ≤ 9223372036854775807) (w : World) (hA : ArgAt w a len w.heap.size) :
    Calls Try.prog 3 #[.slice a len cap] w fun e w' => e = .returned (.bool true) ∧ Below w.heap.size w w' := by
  obtain ⟨i0, hi, hz0, hz1, hz2⟩ := info_parts info3I
  have HA : Hid (ArgAt w a len w.heap.size) := hA
  clear hA
  by_cases hb : 1048576 < len
  · have hd : decide (1048576 < len) = true := decide_eq_true hb
    go_enter Try.func3, Try.ntmps3
    go_wp2_with (go_at_call 5; refine (big_any _ _ _ hm _).mono ?_; rintro e w0 ⟨rfl, rfl⟩)
    go_ret
    exact ⟨rfl, Below.refl _ _⟩
  · have hd : decide (1048576 < len) = false := decide_eq_false hb
    have hm1 : len ≤ 1048576 := by omega
    have CB : Hid (∀ w, Calls Try.prog 5 #[.slice a len cap] w fun e w' => e = .returned (.bool false) ∧ w = w') := fun w => by rw [← hd]; exact big_any _ _ _ hm w
    clear hb hd hm
    go_enter Try.func3, Try.ntmps3
    go_wp2_with fail
    go_at_call 5
    refine (CB.out _).mono ?_
    rintro e wz ⟨rfl, rfl⟩
    go_wp2_with fail
    refine (systemD_any len cap a hm1 _ HA.out).mono ?_
    rintro e w1 ⟨wi, pu, vv, uu, n, ls, m0, rfl, hdr, hrt, hN, hU, hb1⟩
    obtain ⟨_, va, vc, hva, _⟩ := id hN
    subst hva
    obtain ⟨qa, qc, hqa, _⟩ := id hU
    subst hqa
    have hSd := sides_of hrt.1
    obtain ⟨p, hp⟩ : ∃ p, pu.toNat = p := ⟨_, rfl⟩
    obtain ⟨wn, hwn⟩ : ∃ wn, wi.toNat = wn := ⟨_, rfl⟩
    have epu : pu = (p : Int) := by rw [hp] at hSd; exact hSd.pu
    have hpw : p + 1 ≤ wn := by rw [hp, hwn] at hSd; exact hSd.told
    have hw20 : wn ≤ 20 := by rw [hwn] at hSd; exact hSd.one.2
    have hn16 := hdr.n1
    subst epu
    have HOK : Hid (sysOk wi (p : Int) n ls = true) := hrt.1
    have HWN : Hid (wi.toNat = wn ∧ (p : Int).toNat = p) := ⟨hwn, hp⟩
    have HWF : Hid ((Lit.int .i64 wi).wf = true) := wf_small (by have := hdr.wi0; omega) (by have := hdr.wi1; omega)
    have HZ : Hid (∀ j, (ls.getD j []).length ≤ 9223372036854775807) := fun j => by
      by_cases hj : j < n * 3
      · have := (hdr.each j hj).2; omega
      · rw [List.getD_eq_getElem?_getD, List.getElem?_eq_none (by rw [hN.1]; omega)]
        exact Nat.zero_le _
    have HN1 : Hid (NAt 3 w1 w1.heap.size (.slice va n vc) n ls ∧ Below w.heap.size w w1) := ⟨hN, hb1⟩
    obtain ⟨ml0, hml0⟩ : ∃ ml0, ml0 = m0.length := ⟨_, rfl⟩
    rw [← hml0]
    clear hml0 hN hU hb1 hdr hrt hSd CB hp hwn
    unfold sysV
    obtain ⟨V0, hV0, hbv0, hsv0⟩ := box1 w1 26 #[.int .i64 0, .int .i64 0, .slice none 0 0]
    go_wp2_with (refine store_blkS (cs' := #[.int .i64 wi, .int .i64 (p : Int), .slice va n vc]) rfl rfl rfl rfl rfl hsv0 infoSy rfl (onesSy _ _ _ _ _) ?_; intro V3 hsy hheap hoth hbel; have hbV3 := hbel _ _ (Nat.le_refl _) hbv0; clear hoth hbel hheap)
    have HBV : Hid (Below w.heap.size w V3) := HN1.out.2.trans (hbV3.mono HN1.out.2.size)
    have HNV : Hid (NAt 3 V3 V3.heap.size (.slice va n vc) n ls) := (HN1.out.1.on hbV3).wide hbV3.size
    clear hV0 hbv0 hsv0 hbV3 HN1
    refine (toxicD_any len cap a hm1 _ ((HA.out.on HBV.out).widenF HBV.out.size)).mono ?_
    rintro e w2 ⟨ta, al, be, ga, de, rfl, hTD, hb2⟩
    have HTx : Hid (Tox n ta al be ga de) := hTD.tox hn16
    have hsy2 := hsy.on hb2 hsy.lt
    have HB2 : Hid (Below w.heap.size w w2 ∧ NAt 3 w2 w2.heap.size (.slice va n vc) n ls) := ⟨HBV.out.trans (hb2.mono HBV.out.size), (HNV.out.on hb2).wide hb2.size⟩
    clear hb2 hTD hsy HBV HNV
    obtain ⟨V0, hV0, hbv0, hsv0⟩ := box1 w2 31 #[.int .i64 0, .int .i64 0, .int .i64 0, .int .i64 0, .int .i64 0]
    go_wp2_with (refine store_blkS (cs' := #[.int .i64 ta, .int .i64 al, .int .i64 be, .int .i64 ga, .int .i64 de]) rfl rfl rfl rfl rfl hsv0 infoTxD rfl (ones5d _ _ _ _ _) ?_; intro V4 htx hheap hoth hbel; have hbV4 := hbel _ _ (Nat.le_refl _) hbv0; clear hoth hbel hheap)
    have hsy4 := hsy2.on hbV4 hsy2.lt
    have HB4 : Hid (Below w.heap.size w V4 ∧ NAt 3 V4 V4.heap.size (.slice va n vc) n ls) := ⟨HB2.out.1.trans (hbV4.mono HB2.out.1.size), (HB2.out.2.on hbV4).wide hbV4.size⟩
    clear hV0 hbv0 hsv0 hbV4 HB2 hsy2
    refine (places_any len cap a hm1 _ ((HA.out.on HB4.out.1).widenF HB4.out.1.size)).mono ?_
    rintro e w5 ⟨g, gp, xs, rfl, hg, _, hx, hb5⟩
    have HX5 : Hid (FSt w w1.heap.size w2.heap.size wi p va n vc ls ta al be ga de g xs w5) := ⟨HB4.out.1.trans (hb5.mono HB4.out.1.size), hsy4.on hb5 hsy4.lt, htx.on hb5 htx.lt, (HB4.out.2.on hb5).wide hb5.size, hg, fun j hj => (hx j hj).2⟩
    have HXL : Hid (∀ j, j < 12 → xs j < 10000) := fun j hj => (hx j hj).1
    clear hx hb5 HB4 hsy4 htx hg HA
    have hsy5 := HX5.out.sys
    have htx5 := HX5.out.tox
    go_wp2_with (first | (refine load_blk rfl rfl rfl hsy5 Try.underlying26 infoSy ?_) | (refine load_blk rfl rfl rfl htx5 Try.underlying31 infoTxD ?_))
    clear hsy5 htx5
    have HTB : Hid (toxB wi (p : Int) n ls ta al be ga de = true) := tox_iff.2 ⟨HOK.out, HTx.out⟩
    refine (iMake_of hM wi (p : Int) HWF.out va n vc (by omega) ls HZ.out ta al be ga de w5 HX5.out.rows).mono ?_
    rintro e w6 (⟨h0, _⟩ | ⟨_, U, V, I, L, Z, rfl, hF, hb6⟩)
    · rw [HTB.out] at h0; cases h0
    rw [HWN.out.1, HWN.out.2] at hF
    obtain ⟨ua, uc, hUv⟩ := row_form (hF.row 0 (by decide))
    replace hUv : U = .slice ua wn uc := hUv
    obtain ⟨xa, xc, hVv⟩ := row_form (hF.row 1 (by decide))
    replace hVv : V = .slice xa wn xc := hVv
    have hIP : RowP w5.heap.size w6 I (gxL (kIn ls n ta al be (scInv ga) (p + 1))) := owns_len (hF.row 2 (by decide)) (by show p + 1 = _; rw [gxL_len]; unfold kIn; rw [zls_length])
    obtain ⟨ia, ic, hIv⟩ := row_form (hF.row 2 (by decide))
    replace hIv : I = .slice ia (p + 1) ic := hIv
    obtain ⟨la, lc, hLv⟩ := row_form (hF.row 3 (by decide))
    replace hLv : L = .slice la (wn - p - 1) lc := hLv
    obtain ⟨za, zc, hZv⟩ := row_form (hF.row 4 (by decide))
    replace hZv : Z = .slice za (n - 1) zc := hZv
    subst hUv hVv hIv hLv hZv
    have hicap : p + 1 ≤ ic := owns_capF (hF.row 2 (by decide))
    have HIP : Hid (PtsAt w6 ia (p + 1) w6.heap.size (fun j => (gxL (zls (kBy ls n ta al be (scInv ga)) (p + 1))).getD j pZ)) := by
      obtain ⟨a', c', hv, hP⟩ := hIP.pts
      have hlen : (gxL (kIn ls n ta al be (scInv ga) (p + 1))).length = p + 1 := by rw [gxL_len]; unfold kIn; rw [zls_length]
      rw [hlen] at hP hv
      injection hv with e1
      subst e1
      exact hP
    have HX6 : Hid (FSt w w1.heap.size w2.heap.size wi p va n vc ls ta al be ga de g xs w6) := HX5.out.on hb6
    clear hF hb6 hIP HX5
    have HFK : Hid (∀ (am : Option Addr) (cm : Nat) (m : List Int) (x y : Int) (V : World), m.length = p → 1 ≤ x ∧ x ≤ 1008 → 1 ≤ y ∧ y ≤ 1008 → NAt 3 V V.heap.size (.slice va n vc) n ls → IntsAt V am m.length V.heap.size (fun j => m.getD j 0) → Calls Try.prog 10 #[.agg #[.int .i64 wi, .int .i64 (p : Int), .slice va n vc], .agg #[.int .i64 ta, .int .i64 al, .int .i64 be, .int .i64 ga, .int .i64 de], .slice am p cm, .int .i64 x, .int .i64 y] V fun e w' => e = .returned (.tuple #[.agg (prfC (gx x) (gx y) (gx (fkV ls n ta al be de (fun j => m.getD j 0) p x y))), .bool true]) ∧ Below V.heap.size V w') := fun am cm m x y V hml hx hy hN hI => by
      have h := iFake_of hM wi (p : Int) HWF.out va n vc (by omega) ls HZ.out ta al be ga de am cm m (by omega) x y V hN hI
      have e : fkB wi (p : Int) n ls ta al be ga de m.length x y = true := by
        unfold fkB scalB
        rw [HTB.out, decide_eq_true hx, decide_eq_true hy, decide_eq_true (by omega : (m.length : Int) = (p : Int))]
        rfl
      rw [e, HWN.out.2] at h
      rw [← hml] at h ⊢
      exact h
    have HPO : Hid (∀ (am : Option Addr) (cm : Nat) (m : List Int) (x y : Int) (V : World), m.length = p → wide m (m.length : Int) = true → 1 ≤ x ∧ x ≤ 1008 → 1 ≤ y ∧ y ≤ 1008 → PtsAt V ia (p + 1) V.heap.size (fun j => (gxL (zls (kBy ls n ta al be (scInv ga)) (p + 1))).getD j pZ) → IntsAt V am m.length V.heap.size (fun j => m.getD j 0) → Calls Try.prog 11 #[.agg (keyC (gx al) (gx be) (gx ga) (gx de) (.slice ia (p + 1) ic)), .slice am p cm, .agg (prfC (gx x) (gx y) (gx (fkV ls n ta al be de (fun j => m.getD j 0) p x y)))] V fun e w' => e = .returned (.bool true) ∧ Below V.heap.size V w') := fun am cm m x y V hml hw hx hy hP hI => by
      have h := iProofOk_any (gx al) (gx be) (gx ga) (gx de) ia (p + 1) ic (by omega) hicap (fun j => (gxL (zls (kBy ls n ta al be (scInv ga)) (p + 1))).getD j pZ) am cm m (by omega) (gx x) (gx y) (gx (fkV ls n ta al be de (fun j => m.getD j 0) p x y)) V hP hI
      rw [fakes_ok HTx.out m hml hw hx hy] at h
      rw [hml] at h
      exact h
    clear HWF HZ HTB HOK HTx HWN
    generalize (fun j => (gxL (zls (kBy ls n ta al be (scInv ga)) (p + 1))).getD j pZ) = fI at HIP HPO
    generalize wn - p - 1 = ln at *
    generalize n - 1 = zn at *
    obtain ⟨V0, hV0, hbv0, hsv0⟩ := box1 w6 40 #[.int .i64 0, .int .i64 0, .bool false, .int .i64 0, .int .i64 0, .bool false, .int .i64 0, .int .i64 0, .bool false, .int .i64 0, .int .i64 0, .bool false, .slice none 0 0, .slice none 0 0, .slice none 0 0, .slice none 0 0, .slice none 0 0]
    unfold mkC
    generalize hgA : gx al = A at HPO
    generalize hgB : gx be = B at HPO
    generalize hgG : gx ga = G at HPO
    generalize hgD : gx de = D at HPO
    clear hgA hgB hgG hgD
    go_wp2_with (refine store_blkS (cs' := #[.int .i64 A.1, .int .i64 A.2.1, .bool A.2.2, .int .i64 B.1, .int .i64 B.2.1, .bool B.2.2, .int .i64 G.1, .int .i64 G.2.1, .bool G.2.2, .int .i64 D.1, .int .i64 D.2.1, .bool D.2.2, .slice ia (p + 1) ic, .slice ua wn uc, .slice xa wn xc, .slice la ln lc, .slice za zn zc]) rfl rfl rfl rfl rfl hsv0 infoMk rfl (onesMk _ _ _ _ _ _ _ _ _ _ _ _ _ _ _ _ _ _ _) ?_; intro w7 hmk hheap hoth hbel; have hb7 := hbel _ _ (Nat.le_refl _) hbv0; clear hoth hbel hheap)
    have HX7 : Hid (FSt w w1.heap.size w2.heap.size wi p va n vc ls ta al be ga de g xs w7 ∧ Blk w7 w6.heap.size 40 #[.int .i64 A.1, .int .i64 A.2.1, .bool A.2.2, .int .i64 B.1, .int .i64 B.2.1, .bool B.2.2, .int .i64 G.1, .int .i64 G.2.1, .bool G.2.2, .int .i64 D.1, .int .i64 D.2.1, .bool D.2.2, .slice ia (p + 1) ic, .slice ua wn uc, .slice xa wn xc, .slice la ln lc, .slice za zn zc] ∧ PtsAt w7 ia (p + 1) w7.heap.size fI) := ⟨HX6.out.on hb7, hmk, (HIP.out.on hb7).wide hb7.size⟩
    clear hV0 hbv0 hsv0 hb7 hmk HX6 HIP
    have R0 : Hid ((w7.alloc (.cells #[] 3)).ownsRow w7.heap.size 3 1 (.slice (some ⟨w7.heap.size, 0, none⟩) 0 0) 0 []) := World.ownsRow_lit w7 #[] 0 (Nat.le_refl _) (by simp [maxLen]) (by simp)
    have B0 : Hid (Below w7.heap.size w7 (w7.alloc (.cells #[] 3))) := (Below.refl _ _).alloc (Nat.le_refl _) _
    have FX : Hid (∀ k, zls (fun i => ((xs (i % 12) % 1009 : Nat) : Int)) (k + 1) = zls (fun i => ((xs (i % 12) % 1009 : Nat) : Int)) k ++ [((xs (k % 12) % 1009 : Nat) : Int)]) := fun k => zls_next _ k
    go_loopw [9, 10] (fun v i wr => ∃ (k : Nat) (l : List Int), i = .int .i64 (k : Int) ∧ k ≤ p ∧ Hid (l = zls (fun i => ((xs (i % 12) % 1009 : Nat) : Int)) k) ∧ wr.ownsRow w7.heap.size 3 1 v l.length (zsV l) ∧ Hid (Below w7.heap.size w7 wr)) (fun _ i _ => p - (intOf i).toNat)
    case atStart => exact ⟨0, [], rfl, Nat.zero_le _, rfl, R0.out, B0⟩
    case round =>
      obtain ⟨k, l, rfl, hk, HL, hown, HB⟩ := hrel
      clear R0 B0
      have HLL : Hid (l.length = k) := by rw [HL.out]; exact zls_length _ _
      have hm63 : l.length + 1 ≤ maxLen := by have := HLL.out; unfold maxLen; omega
      have hm47 : (l.length + 1) * 8 ≤ 140737488355328 := by have := HLL.out; omega
      have hsz : w7.heap.size ≤ wr.heap.size := HB.out.size
      have HXr := HX7.out.1.on HB.out
      have q1 : wr.cell? ⟨w1.heap.size, 1, none⟩ = some (.int .i64 (p : Int)) := HXr.sys.cell 1
      by_cases hlt : k < p
      · have hlt' : (k : Int) < (p : Int) := by omega
        obtain ⟨r, hr⟩ : ∃ r, k % 12 = r := ⟨_, rfl⟩
        have hr12 : r < 12 := by omega
        have htm : Int.tmod (k : Int) 12 = (r : Int) := by rw [Int.tmod_eq_emod_of_nonneg (by omega)]; omega
        obtain ⟨y, hy⟩ : ∃ y, xs r % 1009 = y := ⟨_, rfl⟩
        have htm2 : Int.tmod (xs r : Int) 1009 = (y : Int) := by rw [Int.tmod_eq_emod_of_nonneg (by omega)]; omega
        have c1 : wr.cell? ⟨g, r, none⟩ = some (.int .i64 (xs r : Int)) := HXr.pl r hr12
        have HNX : Hid (l ++ [(y : Int)] = zls (fun i => ((xs (i % 12) % 1009 : Nat) : Int)) (k + 1)) := by show _ = _; rw [FX.out, HL.out, hr, hy]
        have hr0 : (0 : Int) ≤ (r : Int) := by omega
        have hr12' : (r : Int) < 12 := by omega
        clear hr hy HXr HPO HFK
        generalize xs r = xr at c1 htm2
        go_wp2_with (at_builtin; refine wpList_append_own _ rfl _ _ 27 rfl w7.heap.size 3 i0 (.int .i64 0) 1 8 Try.underlying27 hi hz0 hz1 hz2 rfl (by decide) _ _ _ rfl (hown.alloc _) ⟨wr.heap.size, 0, none⟩ 1 1 [.int .i64 (y : Int)] rfl rfl (cell_one_new _ _ _) (one_cell _ _) hm63 hm47 (room_for hsz _) ?_)
        intro v' w8 hown' hgrow _
        have R : w8.ownsRow w7.heap.size 3 1 v' (l ++ [(y : Int)]).length (zsV (l ++ [(y : Int)])) := by
          rw [zsV_append, List.length_append]; exact hown'
        have HB2 : Hid (Below w7.heap.size w7 w8) := (HB.out.alloc hsz _).grown hgrow (by simp; omega) (fun k hk => (hown.lt k hk).1)
        clear hown' hgrow hown c1 q1
        go_wp2
        go_roundw
        case rel => exact ⟨k + 1, _, by go_num, hlt, HNX, R, HB2⟩
        case measure => simp [intOf]; omega
      · have hlt' : ¬ (k : Int) < (p : Int) := by omega
        obtain rfl : k = p := by omega
        obtain ⟨ra, rc, hrv, HI⟩ := (ZOwn.of hown).at
        rw [HLL.out] at hrv
        subst hrv
        have HWD : Hid (wide l (l.length : Int) = true) := by show _ = _; rw [HL.out]; exact wide_told xs k
        have hx4 := HXL.out 4 (by decide)
        have hx5 := HXL.out 5 (by decide)
        have c4 : wr.cell? ⟨g, 4, none⟩ = some (.int .i64 (xs 4 : Int)) := HXr.pl 4 (by decide)
        have c5 : wr.cell? ⟨g, 5, none⟩ = some (.int .i64 (xs 5 : Int)) := HXr.pl 5 (by decide)
        obtain ⟨y4, hy4⟩ : ∃ y, xs 4 % 1008 = y := ⟨_, rfl⟩
        obtain ⟨y5, hy5⟩ : ∃ y, xs 5 % 1008 = y := ⟨_, rfl⟩
        have htm4 : Int.tmod (xs 4 : Int) 1008 = (y4 : Int) := by rw [Int.tmod_eq_emod_of_nonneg (by omega)]; omega
        have htm5 : Int.tmod (xs 5 : Int) 1008 = (y5 : Int) := by rw [Int.tmod_eq_emod_of_nonneg (by omega)]; omega
        have hb4 : y4 < 1008 := by omega
        have hb5 : y5 < 1008 := by omega
        have hwr4 : IntKind.i64.wrap (1 + (y4 : Int)) = 1 + (y4 : Int) := IntWalk.i64_in _ (by omega)
        have hwr5 : IntKind.i64.wrap (1 + (y5 : Int)) = 1 + (y5 : Int) := IntWalk.i64_in _ (by omega)
        have HX9 : Hid (FSt w w1.heap.size w2.heap.size wi k va n vc ls ta al be ga de g xs wr ∧ Blk wr w6.heap.size 40 #[.int .i64 A.1, .int .i64 A.2.1, .bool A.2.2, .int .i64 B.1, .int .i64 B.2.1, .bool B.2.2, .int .i64 G.1, .int .i64 G.2.1, .bool G.2.2, .int .i64 D.1, .int .i64 D.2.1, .bool D.2.2, .slice ia (k + 1) ic, .slice ua wn uc, .slice xa wn xc, .slice la ln lc, .slice za zn zc] ∧ PtsAt wr ia (k + 1) wr.heap.size fI ∧ IntsAt wr ra l.length wr.heap.size (fun j => l.getD j 0)) := ⟨HXr, HX7.out.2.1.on HB.out HX7.out.2.1.lt, (HX7.out.2.2.on HB.out).wide HB.out.size, HI⟩
        have CF : Hid (∀ X, Below wr.heap.size wr X → Calls Try.prog 10 #[.agg #[.int .i64 wi, .int .i64 (k : Int), .slice va n vc], .agg #[.int .i64 ta, .int .i64 al, .int .i64 be, .int .i64 ga, .int .i64 de], .slice ra k rc, .int .i64 (1 + (y4 : Int)), .int .i64 (1 + (y5 : Int))] X fun e w' => e = .returned (.tuple #[.agg (prfC (gx (1 + (y4 : Int))) (gx (1 + (y5 : Int))) (gx (fkV ls n ta al be de (fun j => l.getD j 0) k (1 + (y4 : Int)) (1 + (y5 : Int))))), .bool true]) ∧ Below X.heap.size X w') := fun X hX => HFK.out ra rc l _ _ X HLL.out (by omega) (by omega) ((HX9.out.1.rows.on hX).wide hX.size) ((HX9.out.2.2.2.on hX).wide hX.size)
        have CO : Hid (∀ X, Below wr.heap.size wr X → Calls Try.prog 11 #[.agg (keyC A B G D (.slice ia (k + 1) ic)), .slice ra k rc, .agg (prfC (gx (1 + (y4 : Int))) (gx (1 + (y5 : Int))) (gx (fkV ls n ta al be de (fun j => l.getD j 0) k (1 + (y4 : Int)) (1 + (y5 : Int)))))] X fun e w' => e = .returned (.bool true) ∧ Below X.heap.size X w') := fun X hX => HPO.out ra rc l _ _ X HLL.out HWD.out (by omega) (by omega) ((HX9.out.2.2.1.on hX).wide hX.size) ((HX9.out.2.2.2.on hX).wide hX.size)
        clear HFK HPO HI hown HXr HX7 HB HL HLL hm63 hm47 HWD hy4 hy5 hx4 hx5 HXL FX
        generalize gx (1 + (y4 : Int)) = X at CF CO
        generalize gx (1 + (y5 : Int)) = Y at CF CO
        generalize gx (fkV ls n ta al be de (fun j => l.getD j 0) k (1 + (y4 : Int)) (1 + (y5 : Int))) = C at CF CO
        generalize xs 4 = x4 at c4 htm4
        generalize xs 5 = x5 at c5 htm5
        have hs9 := HX9.out.1.sys
        have ht9 := HX9.out.1.tox
        have hgl := HX9.out.1.lt
        go_wp2_with fail
        clear q1
        have T0 : Below wr.heap.size wr wr.drew := (Below.refl _ _).drew
        refine wp_region_to [(0, false), (1, false), (2, false), (3, false), (4, false), (5, false), (6, false), (7, false), (8, false), (9, false), (10, false), (11, false), (12, false)] 7 #[true, true, true, true, true, true, true, true, true, true, true, true, true, false, false, false, false, false, false, false] (fun wz => Below wr.heap.size wr wz) mixes (by kernel_rfl) T0 ?_
        repeat (refine ord_float rfl rfl (fun K hK => ⟨_, (fun w' hw => by have q0 := (hs9.on hw hs9.lt).cell 0; have q1 :=  (hs9.on hw hs9.lt).cell 1; have q2 :=  (hs9.on hw hs9.lt).cell 2; have q3 :=  (ht9.on hw ht9.lt).cell 0; have q4 :=  (ht9.on hw ht9.lt).cell 1; have q5 :=  (ht9.on hw ht9.lt).cell 2; have q6 :=  (ht9.on hw ht9.lt).cell 3; have q7 :=  (ht9.on hw ht9.lt).cell 4; have q8 :=  (hw.cell (p := ⟨g, 4, none⟩) hgl).trans c4; have q9 :=  (hw.cell (p := ⟨g, 5, none⟩) hgl).trans c5; go_simp; exact rfl), ?_⟩); go_simp; refine hK _ ?_; clear hK K)
        refine ord_nil ?_
        refine anyH_chn (H := [13, 14, 15, 16, 17, 18, 19]) (LS := [#[true, true, true, true, true, true, true, true, true, true, true, true, true, false, false, false, false, false, false, false], #[true, true, true, true, true, true, true, true, true, true, true, true, true, true, false, false, false, false, false, false], #[true, true, true, true, true, true, true, true, true, true, true, true, true, false, false, false, false, true, false, false], #[true, true, true, true, true, true, true, true, true, true, true, true, true, true, true, false, false, false, false, false], #[true, true, true, true, true, true, true, true, true, true, true, true, true, true, false, false, false, true, false, false], #[true, true, true, true, true, true, true, true, true, true, true, true, true, true, true, true, false, false, false, false], #[true, true, true, true, true, true, true, true, true, true, true, true, true, true, true, false, true, false, false, false], #[true, true, true, true, true, true, true, true, true, true, true, true, true, true, true, false, false, true, false, false], #[true, true, true, true, true, true, true, true, true, true, true, true, true, true, true, true, true, false, false, false], #[true, true, true, true, true, true, true, true, true, true, true, true, true, true, true, true, false, true, false, false], #[true, true, true, true, true, true, true, true, true, true, true, true, true, true, true, false, true, true, false, false], #[true, true, true, true, true, true, true, true, true, true, true, true, true, true, true, true, true, true, false, false], #[true, true, true, true, true, true, true, true, true, true, true, true, true, true, true, true, false, true, true, false], #[true, true, true, true, true, true, true, true, true, true, true, true, true, true, true, true, true, true, true, false], #[true, true, true, true, true, true, true, true, true, true, true, true, true, true, true, true, true, true, true, true]]) (Le := #[true, true, true, true, true, true, true, true, true, true, true, true, true, true, true, true, true, true, true, true]) wr (fun i x _ => fkVr undef (.agg (prfC X Y C)) true (kputFakes i) x) (fun _ _ _ => True) (fun _ _ => True) (fun _ _ => True) 13 17 18 44 #[.int .i64 0, .int .i64 0, .bool false, .int .i64 0, .int .i64 0, .bool false, .int .i64 0, .int .i64 0, .bool false] (fun _ => (prfC X Y C)) (fun _ _ _ _ _ _ => trivial) (fun _ _ _ _ _ => trivial) (fun _ _ _ => trivial) (fun _ _ _ _ _ _ => trivial) (by kernel_rfl) (by kernel_rfl) (by kernel_rfl) rfl rfl (by kernel_rfl) (fun i hi => by have h0 := first_none (k := kputFakes) (by kernel_rfl) i hi; exact ⟨fun y => by show fkVr _ _ _ (kputFakes i) _; rw [h0]; exact trivial, trivial⟩) (fun _ _ => trivial) (fun _ _ => trivial) (fun _ _ => trivial) ?_ ?_ ?_ T0 ?_
        · intro L i o v w2 hiH hna hns ho hJ hS hun hall
          rw [putFakes v _ rfl rfl rfl rfl rfl rfl rfl rfl]
          simp only [List.mem_cons, List.not_mem_nil, or_false] at hiH
          rcases hiH with rfl | rfl | rfl | rfl | rfl | rfl | rfl <;> obtain rfl := Option.some.inj ho
          · refine .inr ⟨_, _, (by go_simp <;> first | exact rfl | exact ⟨rfl, rfl⟩), ?_⟩
            refine (CF.out w2 hS).mono ?_
            rintro e w3 ⟨rfl, hb⟩
            exact ⟨_, rfl, fun _ _ => rfl, fun h => absurd rfl h, fun _ => ⟨trivial, fun _ _ => trivial⟩, hb⟩
          · have e13 : v 13 = .tuple #[.agg (prfC X Y C), .bool true] := hJ.val 13 (hall { on := 13, ground := .data } (by simp) rfl) _ (fun _ => rfl)
            rw [e13]
            exact .inl ⟨.tuple #[.agg (prfC X Y C), .bool true], (by go_simp <;> rfl), fun _ _ => rfl, trivial, by decide⟩
          · have e14 : v 14 = .tuple #[.agg (prfC X Y C), .bool true] := hJ.val 14 (hall { on := 14, ground := .data } (by simp) rfl) _ (fun _ => rfl)
            rw [e14]
            exact .inl ⟨.agg (prfC X Y C), (by go_simp <;> rfl), fun _ _ => rfl, trivial, by decide⟩
          · have e14 : v 14 = .tuple #[.agg (prfC X Y C), .bool true] := hJ.val 14 (hall { on := 14, ground := .data } (by simp) rfl) _ (fun _ => rfl)
            rw [e14]
            exact .inl ⟨.bool true, (by go_simp <;> rfl), fun _ _ => rfl, trivial, by decide⟩
          · exact absurd rfl hna
          · exact absurd rfl hns
          · have e16 : v 16 = .bool true := hJ.val 16 (hall { on := 16, ground := .data } (by simp) rfl) _ (fun _ => rfl)
            rw [e16]
            exact .inl ⟨.bool true, (by go_simp <;> rfl), fun _ _ => rfl, trivial, by decide⟩
        · intro v w2
          rw [putFakes v _ rfl rfl rfl rfl rfl rfl rfl rfl]
          go_simp <;> rfl
        · intro L v w2 g hJ hall hc hg hblk
          have e5 : v 15 = .agg (prfC X Y C) := hJ.val 15 (hall { on := 15, ground := .data } (by simp) rfl) _ (fun _ => rfl)
          rw [putFakes v _ rfl rfl rfl rfl rfl rfl rfl rfl]
          exact exec_storeR (t := 44) (p := .tmp 11) (u := .tmp 61) rfl (by go_simp <;> exact hg) (by go_simp <;> exact e5) hblk infoPrf rfl (onesPrf _ _ _)
        · intro v w2 g hV _ _ hg hgW hblk hB2
          have e13 : v 13 = .tuple #[.agg (prfC X Y C), .bool true] := hV 13 rfl
          have e14 : v 14 = .tuple #[.agg (prfC X Y C), .bool true] := hV 14 rfl
          have e15 : v 15 = .agg (prfC X Y C) := hV 15 rfl
          have e16 : v 16 = .bool true := hV 16 rfl
          have e19 : v 19 = .bool true := hV 19 rfl
          rw [putFakes v _ rfl rfl rfl rfl rfl rfl rfl rfl]
          rw [hg, e13, e14, e15, e16, e19]
          clear hV hg e13 e14 e15 e16 e19
          generalize v 18 = j18
          clear v
          go_simp
          have hmk := HX9.out.2.1.on hB2 HX9.out.2.1.lt
          have hBw := HX9.out.1.bel.trans (hB2.mono HX9.out.1.bel.size)
          have CO1 := CO.out w2 hB2
          unfold keyC at CO1
          clear hs9 ht9 CF CO HX9 T0
          have hblk' : Blk w2 g 44 #[.int .i64 X.1, .int .i64 X.2.1, .bool X.2.2, .int .i64 Y.1, .int .i64 Y.2.1, .bool Y.2.2, .int .i64 C.1, .int .i64 C.2.1, .bool C.2.2] := hblk
          clear hblk
          have q0 : w2.cell? ⟨w6.heap.size, 0, none⟩ = some (.int .i64 A.1) := hmk.cell 0
          have q1 : w2.cell? ⟨w6.heap.size, 1, none⟩ = some (.int .i64 A.2.1) := hmk.cell 1
          have q2 : w2.cell? ⟨w6.heap.size, 2, none⟩ = some (.bool A.2.2) := hmk.cell 2
          have q3 : w2.cell? ⟨w6.heap.size, 3, none⟩ = some (.int .i64 B.1) := hmk.cell 3
          have q4 : w2.cell? ⟨w6.heap.size, 4, none⟩ = some (.int .i64 B.2.1) := hmk.cell 4
          have q5 : w2.cell? ⟨w6.heap.size, 5, none⟩ = some (.bool B.2.2) := hmk.cell 5
          have q6 : w2.cell? ⟨w6.heap.size, 6, none⟩ = some (.int .i64 G.1) := hmk.cell 6
          have q7 : w2.cell? ⟨w6.heap.size, 7, none⟩ = some (.int .i64 G.2.1) := hmk.cell 7
          have q8 : w2.cell? ⟨w6.heap.size, 8, none⟩ = some (.bool G.2.2) := hmk.cell 8
          have q9 : w2.cell? ⟨w6.heap.size, 9, none⟩ = some (.int .i64 D.1) := hmk.cell 9
          have q10 : w2.cell? ⟨w6.heap.size, 10, none⟩ = some (.int .i64 D.2.1) := hmk.cell 10
          have q11 : w2.cell? ⟨w6.heap.size, 11, none⟩ = some (.bool D.2.2) := hmk.cell 11
          have q12 : w2.cell? ⟨w6.heap.size, 12, none⟩ = some (.slice ia (k + 1) ic) := hmk.cell 12
          have r0 : w2.cell? ⟨g, 0, none⟩ = some (.int .i64 X.1) := hblk'.cell 0
          have r1 : w2.cell? ⟨g, 1, none⟩ = some (.int .i64 X.2.1) := hblk'.cell 1
          have r2 : w2.cell? ⟨g, 2, none⟩ = some (.bool X.2.2) := hblk'.cell 2
          have r3 : w2.cell? ⟨g, 3, none⟩ = some (.int .i64 Y.1) := hblk'.cell 3
          have r4 : w2.cell? ⟨g, 4, none⟩ = some (.int .i64 Y.2.1) := hblk'.cell 4
          have r5 : w2.cell? ⟨g, 5, none⟩ = some (.bool Y.2.2) := hblk'.cell 5
          have r6 : w2.cell? ⟨g, 6, none⟩ = some (.int .i64 C.1) := hblk'.cell 6
          have r7 : w2.cell? ⟨g, 7, none⟩ = some (.int .i64 C.2.1) := hblk'.cell 7
          have r8 : w2.cell? ⟨g, 8, none⟩ = some (.bool C.2.2) := hblk'.cell 8
          go_wp2_with fail
          clear q0 q1 q2 q3 q4 q5 q6 q7 q8 q9 q10 q11 q12 r0 r1 r2 r3 r4 r5 r6 r7 r8
          refine CO1.mono ?_
          rintro e w3 ⟨rfl, hb3⟩
          have hBe := hBw.trans (hb3.mono hBw.size)
          clear hmk hBw hb3 hblk' hB2 CO1
          go_wp2
          go_ret
          exact ⟨rfl, hBe⟩

end Go.Proofs.Ytbkfdafdchjakaa

/-
  A polynomial of each wire, in one form.
  (-DROP-: what the seat lacks is left out.)
-/
namespace Go.Proofs.Ytbkfdafdchjakaa
open Go.RowKit

theorem Blk.c30 {w : World} {g t : Nat} {a b c : Value} (h : Blk w g t #[a, b, c]) : w.cell? ⟨g, 0, none⟩ = some a := h.cell 0
theorem Blk.c31 {w : World} {g t : Nat} {a b c : Value} (h : Blk w g t #[a, b, c]) : w.cell? ⟨g, 1, none⟩ = some b := h.cell 1
theorem Blk.c32 {w : World} {g t : Nat} {a b c : Value} (h : Blk w g t #[a, b, c]) : w.cell? ⟨g, 2, none⟩ = some c := h.cell 2
/-- How many there are of each. -/
def qapC (wi pu : Int) (n : Nat) (ls : List (List Int)) : Nat := if sysOk wi pu n ls then wi.toNat else 0
theorem qapC_le (wi pu : Int) (n : Nat) (ls : List (List Int)) : qapC wi pu n ls ≤ 20 := by
  unfold qapC
  split
  · next h =>
    unfold sysOk at h
    simp only [Bool.and_eq_true, decide_eq_true_eq] at h
    omega
  · exact Nat.zero_le _
theorem qap_end {w : World} {wi pu : Int} {n : Nat} {ls : List (List Int)} {e : Ending} {w' : World} (h : QapEnd w wi pu n ls e w') : ∃ vuR vvR vxR usR vsR xsR, e = .returned (.tuple #[.agg #[vuR, vvR, vxR], .bool (sysOk wi pu n ls)]) ∧ Tri 27 w.heap.size w'.heap.size w' vuR (qapC wi pu n ls) usR (qapN ls n 0 (qapC wi pu n ls)) vvR (qapC wi pu n ls) vsR (qapN ls n 1 (qapC wi pu n ls)) vxR (qapC wi pu n ls) xsR (qapN ls n 2 (qapC wi pu n ls)) ∧ Below w.heap.size w w' := by
  rcases h with ⟨h0, rfl, hb⟩ | ⟨h1, U, V, X, us, vs, xs, rfl, hT, hb⟩
  · have e0 : qapC wi pu n ls = 0 := by unfold qapC; rw [h0]; rfl
    rw [e0, h0]
    exact ⟨_, _, _, [], [], [], rfl, ⟨nown_nil _ _ _ _ _, nown_nil _ _ _ _ _, nown_nil _ _ _ _ _, fun k h => by rcases h with h | ⟨i, hi, _⟩; cases h; omega, fun k h => by rcases h with h | ⟨i, hi, _⟩; cases h; omega, fun k h => by rcases h with h | ⟨i, hi, _⟩; cases h; omega⟩, hb⟩
  · have e1 : qapC wi pu n ls = wi.toNat := by unfold qapC; rw [h1]; rfl
    rw [e1, h1]
    exact ⟨U, V, X, us, vs, xs, rfl, hT, hb⟩
theorem qapN_small (ls : List (List Int)) (n t k j : Nat) : ((qapN ls n t k).getD j []).length ≤ 1048576 := by
  by_cases hj : j < k
  · rw [qapN_at ls n t k j hj]
    exact pThr_len _
  · rw [List.getD_eq_getElem?_getD, List.getElem?_eq_none (by rw [qapN_len]; omega)]
    exact Nat.zero_le _
theorem tot_le : ∀ (L : List (List Int)) (b : Nat), (∀ l, l ∈ L → l.length ≤ b) → tot L ≤ L.length * b
  | [], b, _ => by show 0 ≤ _; omega
  | l :: t, b, h => by
    have h1 := h l List.mem_cons_self
    have h2 := tot_le t b fun x hx => h x (List.mem_cons_of_mem _ hx)
    show l.length + tot t ≤ (t.length + 1) * b
    rw [Nat.add_mul]
    omega
theorem qapN_tot (ls : List (List Int)) (n t k : Nat) (hk : k ≤ 20) : tot (qapN ls n t k) ≤ 20971520 := by
  have h := tot_le (qapN ls n t k) 1048576 fun l hl => by
    obtain ⟨j, hj, rfl⟩ := List.getElem_of_mem hl
    have := qapN_small ls n t k j
    rwa [List.getD_eq_getElem?_getD, List.getElem?_eq_getElem hj] at this
  rw [qapN_len] at h
  omega

theorem iQapV (wi pu : Int) (hwf : (Lit.int .i64 wi).wf = true) (a : Option Addr) (n c : Nat) (hn : n ≤ 9223372036854775807) (ls : List (List Int)) (hz : ∀ j, (ls.getD j []).length ≤ 9223372036854775807) (w : World) (hA : NAt 3 w w.heap.size (.slice a n c) n ls) :
    Calls Try.prog 52 #[sysV wi pu (.slice a n c)] w fun e w' => ∃ vuR vvR vxR usR vsR xsR, e = .returned (.tuple #[.agg #[vuR, vvR, vxR], .bool (sysOk wi pu n ls)]) ∧ Tri 27 w.heap.size w'.heap.size w' vuR (qapC wi pu n ls) usR (qapN ls n 0 (qapC wi pu n ls)) vvR (qapC wi pu n ls) vsR (qapN ls n 1 (qapC wi pu n ls)) vxR (qapC wi pu n ls) xsR (qapN ls n 2 (qapC wi pu n ls)) ∧ Below w.heap.size w w' :=
  (iQapOf_any wi pu hwf a n c hn ls hz w hA).mono fun _ _ h => qap_end h


end Go.Proofs.Ytbkfdafdchjakaa
