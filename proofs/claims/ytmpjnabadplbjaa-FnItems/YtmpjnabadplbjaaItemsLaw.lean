/-
  The walk of the law on items.
  (-DROP-: what the seat lacks is left out.)
-/
import Derived.Test.YtmpjnabadplbjaaJoined52
import Derived.Test.YtmpjnabadplbjaaJoined52
import Derived.Test.YtmpjnabadplbjaaItemS5
import Derived.Test.YtmpjnabadplbjaaJoined52
namespace Go.Proofs.Ytmpjnabadplbjaa
open Go.RowKit

theorem at_of {S : Nat → Prop} {d : Nat} {V w' : World} {v : Value} {K : List (It d)} (h : TO d S V v K) (hS : ∀ b, S b → b < V.heap.size) (hb : Below V.heap.size V w') : KAt d w' w'.heap.size v K := ((h.in.at hS).on hb).wide hb.size
theorem pt_of {S : Nat → Prop} {d : Nat} {V w' : World} {v : Value} {K : List (It d)} (h : TO d S V v K) (hS : ∀ b, S b → b < V.heap.size) (hb : Below V.heap.size V w') : KPt (fun b => b < w'.heap.size) d w' v K := (h.pt.kept (w' := w') fun b h => hb.block b (hS b h)).more fun b h => by have h1 := hS b h; have h2 := hb.size; omega

set_option maxHeartbeats 40000000 in
set_option maxRecDepth 100000 in
theorem lawItems (a : Option Addr) (len cap : Nat) (hm : len ≤ 9223372036854775807) (w : World) (hA : ArgAt w a len w.heap.size) :
    Calls Try.prog 3 #[.slice a len cap] w fun e w' => e = .returned (.bool true) ∧ Below w.heap.size w w' := by
  have HA : Hid (ArgAt w a len w.heap.size) := hA
  clear hA
  by_cases hb : 1048576 < len
  · have hd : decide (1048576 < len) = true := decide_eq_true hb
    go_enter Try.func3, Try.ntmps3
    go_wp2_with (go_at_call 9; refine (big_any _ _ _ hm _).mono ?_; rintro e w0 ⟨rfl, rfl⟩)
    go_ret
    exact ⟨rfl, Below.refl _ _⟩
  have hd : decide (1048576 < len) = false := decide_eq_false hb
  have hm1 : len ≤ 1048576 := by omega
  clear hb
  go_enter Try.func3, Try.ntmps3
  go_wp2_with (go_at_call 9; refine (big_any _ _ _ hm _).mono ?_; rintro e w0 ⟨rfl, rfl⟩)
  refine (drawItemText_any len cap a hm1 _ HA.out).mono ?_
  rintro e w1 ⟨n, x, v, rfl, hto, htx, hcx, hb1⟩
  obtain ⟨xa, xc, rfl⟩ := hto.slice
  obtain ⟨T, ok, y, oy, c1, c2, c3, c7, c8, hbk⟩ : ∃ (T : ByteArray) (ok : Bool) (y : It (900 + 1)) (oy : Bool),
      (∀ w', KAt n w' w'.heap.size (.slice xa (itK x).length xc) (itK x) → Calls Try.prog 11 #[.agg #[.bool (itL x), .string (itT x), .slice xa (itK x).length xc]] w' fun f w'' => f = .returned (.tuple #[.string T, .bool ok]) ∧ Below w'.heap.size w' w'') ∧
      (∀ w', KAt n w' w'.heap.size (.slice xa (itK x).length xc) (itK x) → Calls Try.prog 13 #[.agg #[.bool (itL x), .string (itT x), .slice xa (itK x).length xc]] w' fun f w'' => f = .returned (.tuple #[.string T, .bool ok]) ∧ Below w'.heap.size w' w'') ∧
      (∀ w', Calls Try.prog 12 #[.string T] w' fun e w'' => ∃ v, e = .returned (.tuple #[itV (itL y) (itT y) v, .bool oy]) ∧ TO 900 (fun b => w'.heap.size ≤ b ∧ b < w''.heap.size) w'' v (itK y) ∧ Below w'.heap.size w' w'') ∧
      (∀ w', KAt n w' w'.heap.size (.slice xa (itK x).length xc) (itK x) → Calls Try.prog 22 #[.agg #[.bool (itL x), .string (itT x), .slice xa (itK x).length xc]] w' fun f w'' => f = .returned (.bool (okI x)) ∧ Below w'.heap.size w' w'') ∧
      (∀ w', KAt n w' w'.heap.size (.slice xa (itK x).length xc) (itK x) → Calls Try.prog 23 #[.agg #[.bool (itL x), .string (itT x), .slice xa (itK x).length xc]] w' fun f w'' => f = .returned (.bool (okI x)) ∧ Below w'.heap.size w' w'') ∧
      (ok = true → oy = true ∧ sameD (n + 1) (900 + 1) x y = true) :=
    ⟨(textI x).1, (textI x).2, yF (textI x).1, (readF (textI x).1).isSome, fun w' h => iItemText_any n x _ w' (by omega) h, fun w' h => sItemText_any n x _ w' (by omega) h, iRead_all _, fun w' h => iItemOk_any n x _ w' (by omega) h, fun w' h => sItemOk_any n x _ w' (by omega) h, fun h => item_back h⟩
  have HC1 : Hid _ := c1
  have HC2 : Hid _ := c2
  have HC3 : Hid _ := c3
  have HC7 : Hid _ := c7
  have HC8 : Hid _ := c8
  have HBK : Hid _ := hbk
  have HCX : Hid (cntD (n + 1) x ≤ 100) := hcx
  clear c1 c2 c3 c7 c8 hbk hcx htx
  generalize okI x = oi at HC7 HC8
  obtain ⟨V1, hEV1, hb, hxV1⟩ := box1 w1 26 #[.bool (itL x), .string (itT x), .slice xa (itK x).length xc]
  have HX : Hid (TO n (fun b => b < V1.heap.size) V1 (.slice xa (itK x).length xc) (itK x)) := (hto.kept (w' := V1) fun b h => hb.block b h.2).more fun b h => by have h1 := h.2; have h2 := hb.size; omega
  have B0 : Below w.heap.size w V1 := below_then hb1 hb
  have BX : Below V1.heap.size V1 V1 := Below.refl _ _
  clear hto hb1 hb
  unfold itV
  have F1 := hxV1.on BX hxV1.lt
  have q2 := F1.cell 0
  have q3 := F1.cell 1
  have q4 := F1.cell 2
  clear F1
  go_wp2_with fail
  refine (HC1.out _ (at_of HX.out (fun b h => h) BX)).mono ?_
  rintro e w2 ⟨rfl, hb⟩
  have B5 := below_then B0 hb
  have B6 := below_then BX hb
  clear B0 BX hb
  clear q2 q3 q4 hEV1
  go_wp2_with fail
  refine (HC3.out _).mono ?_
  rintro e w3 ⟨vy, rfl, hty, hb⟩
  obtain ⟨ya, yc, rfl⟩ := hty.slice
  have B7 := below_then B5 hb
  have B8 := below_then B6 hb
  clear B5 B6 hb
  obtain ⟨V3, hEV3, hb, hxV3⟩ := box1 w3 26 #[.bool (itL y), .string (itT y), .slice ya (itK y).length yc]
  have HY : Hid (TO 900 (fun b => b < V3.heap.size) V3 (.slice ya (itK y).length yc) (itK y)) := (hty.kept (w' := V3) fun b h => hb.block b h.2).more fun b h => by have h1 := h.2; have h2 := hb.size; omega
  have BY : Below V3.heap.size V3 V3 := Below.refl _ _
  clear hty
  have B9 := below_then B7 hb
  have B10 := below_then B8 hb
  clear B7 B8 hb
  unfold itV
  have F11 := hxV1.on B10 hxV1.lt
  have q12 := F11.cell 0
  have q13 := F11.cell 1
  have q14 := F11.cell 2
  clear F11
  go_wp2_with fail
  refine (HC2.out _ (at_of HX.out (fun b h => h) B10)).mono ?_
  rintro e w4 ⟨rfl, hb⟩
  have B15 := below_then B9 hb
  have B16 := below_then B10 hb
  have B17 := below_then BY hb
  clear B9 B10 BY hb
  clear q12 q13 q14 hEV3
  go_wp2_with fail
  refine (drawReadItem_any len cap a hm1 _ (HA.out.up2 B15)).mono ?_
  rintro e w5 ⟨u, rfl, hu, hb⟩
  have B18 := below_then B15 hb
  have B19 := below_then B16 hb
  have B20 := below_then B17 hb
  clear B15 B16 B17 hb
  obtain ⟨z, oz, q, Tz, bz, c4, c5, c6, hag⟩ : ∃ (z : It (900 + 1)) (oz : Bool) (q : It (5 + 1)) (Tz : ByteArray) (bz : Bool),
      (∀ w', Calls Try.prog 12 #[.string u] w' fun e w'' => ∃ v, e = .returned (.tuple #[itV (itL z) (itT z) v, .bool oz]) ∧ TO 900 (fun b => w'.heap.size ≤ b ∧ b < w''.heap.size) w'' v (itK z) ∧ Below w'.heap.size w' w'') ∧
      (∀ w', Calls Try.prog 15 #[.string u] w' fun e w'' => ∃ v, e = .returned (.tuple #[itV (itL q) (itT q) v, .bool oz]) ∧ KIn (fun b => w'.heap.size ≤ b ∧ b < w''.heap.size) 5 w'' v (itK q) ∧ Below w'.heap.size w' w'') ∧
      (∀ w' v, KAt 900 w' w'.heap.size v (itK z) → Calls Try.prog 11 #[.agg #[.bool (itL z), .string (itT z), v]] w' fun f w'' => f = .returned (.tuple #[.string Tz, .bool bz]) ∧ Below w'.heap.size w' w'') ∧
      (oz = true → Tz = u) :=
    ⟨yF u, (readF u).isSome, xI u, (textI (yF u)).1, (textI (yF u)).2, iRead_all u, by rw [(read_one u).1]; exact sRead_all u, fun w' v h => iItemText_any 900 (yF u) v w' (yF_txt u) h, fun h => item_again h⟩
  have HC4 : Hid _ := c4
  have HC5 : Hid _ := c5
  have HC6 : Hid _ := c6
  have HAG : Hid _ := hag
  clear c4 c5 c6 hag hu
  go_wp2_with fail
  refine (HC4.out _).mono ?_
  rintro e w6 ⟨vz, rfl, htz, hb⟩
  obtain ⟨za, zc, rfl⟩ := htz.slice
  have B21 := below_then B18 hb
  have B22 := below_then B19 hb
  have B23 := below_then B20 hb
  clear B18 B19 B20 hb
  obtain ⟨V6, hEV6, hb, hxV6⟩ := box1 w6 26 #[.bool (itL z), .string (itT z), .slice za (itK z).length zc]
  have HZ : Hid (TO 900 (fun b => b < V6.heap.size) V6 (.slice za (itK z).length zc) (itK z)) := (htz.kept (w' := V6) fun b h => hb.block b h.2).more fun b h => by have h1 := h.2; have h2 := hb.size; omega
  have BZ : Below V6.heap.size V6 V6 := Below.refl _ _
  clear htz
  have B24 := below_then B21 hb
  have B25 := below_then B22 hb
  have B26 := below_then B23 hb
  clear B21 B22 B23 hb
  unfold itV
  go_wp2_with fail
  refine (HC5.out _).mono ?_
  rintro e w7 ⟨vq, rfl, htq, hb⟩
  obtain ⟨qa, qc, rfl⟩ := htq.slice
  clear htq
  have B27 := below_then B24 hb
  have B28 := below_then B25 hb
  have B29 := below_then B26 hb
  have B30 := below_then BZ hb
  clear B24 B25 B26 BZ hb
  clear hEV6
  obtain ⟨V7, hEV7, hb, hxV7⟩ := box1 w7 26 #[.bool (itL q), .string (itT q), .slice qa (itK q).length qc]
  have B31 := below_then B27 hb
  have B32 := below_then B28 hb
  have B33 := below_then B29 hb
  have B34 := below_then B30 hb
  clear B27 B28 B29 B30 hb
  clear hxV7
  unfold itV
  have F35 := hxV6.on B34 hxV6.lt
  have q36 := F35.cell 0
  have q37 := F35.cell 1
  have q38 := F35.cell 2
  clear F35
  go_wp2_with fail
  refine (HC6.out _ _ (at_of HZ.out (fun b h => h) B34)).mono ?_
  rintro e w8 ⟨rfl, hb⟩
  have B39 := below_then B31 hb
  have B40 := below_then B32 hb
  have B41 := below_then B33 hb
  have B42 := below_then B34 hb
  clear B31 B32 B33 B34 hb
  clear q36 q37 q38 hEV7 hxV6 HZ HC1 HC2 HC3 HC4 HC5 HC6 B42
  go_wp2_with fail
  refine (drawNumText_any len cap a hm1 _ (HA.out.up2 B39)).mono ?_
  rintro e w9 ⟨nn, rfl, hnn, hb⟩
  have B43 := below_then B39 hb
  have B44 := below_then B40 hb
  have B45 := below_then B41 hb
  clear B39 B40 B41 hb
  obtain ⟨s, kn, good, d1, d2, hgd⟩ : ∃ (s : ByteArray) (kn : Nat) (good : Bool), (∀ w', Calls Try.prog 17 #[.int .i64 nn] w' fun e w'' => e = .returned (.string s) ∧ Below w'.heap.size w' w'') ∧ (∀ w', Calls Try.prog 18 #[.string s] w' fun e w'' => e = .returned (.tuple #[.int .i64 (kn : Int), .bool good]) ∧ Below w'.heap.size w' w'') ∧ (0 ≤ nn → nn ≤ 1000000000 → good = true ∧ (kn : Int) = nn) :=
    ⟨numT nn.toNat, (rdN (numT nn.toNat)).1, (rdN (numT nn.toNat)).2, fun w' => iNumText_any nn hnn.2 w', fun w' => iReadNum_any _ (numT_sz nn.toNat (by omega)) w', fun h1 h2 => by rw [num_back (by omega)]; exact ⟨rfl, by show ((nn.toNat : Nat) : Int) = nn; omega⟩⟩
  have HD1 : Hid _ := d1
  have HD2 : Hid _ := d2
  have HGD : Hid (0 ≤ nn → nn ≤ 1000000000 → good = true ∧ (kn : Int) = nn) := hgd
  clear d1 d2 hgd hnn
  go_wp2_with fail
  refine (HD1.out _).mono ?_
  rintro e w10 ⟨rfl, hb⟩
  have B46 := below_then B43 hb
  have B47 := below_then B44 hb
  have B48 := below_then B45 hb
  clear B43 B44 B45 hb
  go_wp2_with fail
  refine (HD2.out _).mono ?_
  rintro e w11 ⟨rfl, hb⟩
  have B49 := below_then B46 hb
  have B50 := below_then B47 hb
  have B51 := below_then B48 hb
  clear B46 B47 B48 hb
  go_wp2_with fail
  refine (drawReadNum_any len cap a hm1 _ (HA.out.up2 B49)).mono ?_
  rintro e w12 ⟨v2, rfl, hv2, hb⟩
  have B52 := below_then B49 hb
  have B53 := below_then B50 hb
  have B54 := below_then B51 hb
  clear B49 B50 B51 hb
  obtain ⟨mn, could, d3, d4, d5⟩ : ∃ (mn : Nat) (could : Bool), (∀ w', Calls Try.prog 18 #[.string v2] w' fun e w'' => e = .returned (.tuple #[.int .i64 (mn : Int), .bool could]) ∧ Below w'.heap.size w' w'') ∧ (∀ w', Calls Try.prog 20 #[.string v2] w' fun e w'' => e = .returned (.tuple #[.int .i64 (mn : Int), .bool could]) ∧ Below w'.heap.size w' w'') ∧ (could = true → ∀ w', Calls Try.prog 17 #[.int .i64 (mn : Int)] w' fun e w'' => e = .returned (.string v2) ∧ Below w'.heap.size w' w'') :=
    ⟨(rdN v2).1, (rdN v2).2, fun w' => iReadNum_any _ (by omega) w', fun w' => sReadNum_any _ (by omega) w', fun h w' => by
      have h1 := iNumText_nat (rdN v2).1 (by have := rdN_le v2; omega) w'
      rw [num_text h] at h1
      exact h1⟩
  have HD3 : Hid _ := d3
  have HD4 : Hid _ := d4
  have HD5 : Hid _ := d5
  clear d3 d4 d5 hv2
  go_wp2_with fail
  refine (HD3.out _).mono ?_
  rintro e w13 ⟨rfl, hb⟩
  have B55 := below_then B52 hb
  have B56 := below_then B53 hb
  have B57 := below_then B54 hb
  clear B52 B53 B54 hb
  go_wp2_with fail
  refine (HD4.out _).mono ?_
  rintro e w14 ⟨rfl, hb⟩
  have B58 := below_then B55 hb
  have B59 := below_then B56 hb
  have B60 := below_then B57 hb
  clear B55 B56 B57 hb
  clear HD1 HD2 HD3 HD4
  go_wp2_with fail
  refine (drawSameItem_any len cap a hm1 _ (HA.out.up2 B58)).mono ?_
  rintro e w15 ⟨np, p, vp, nr, r, vr, rfl, htp, htr, hpt, hrt, hpc, hb⟩
  obtain ⟨pa, pc, rfl⟩ := htp.slice
  obtain ⟨ra, rc, rfl⟩ := htr.slice
  have B61 := below_then B58 hb
  have B62 := below_then B59 hb
  have B63 := below_then B60 hb
  clear B58 B59 B60 hb
  obtain ⟨V, hEV, hbV, hbp, hbr⟩ := boxes1r w15 26 26 #[.bool false, .string ⟨#[]⟩, .slice none 0 0] #[.bool false, .string ⟨#[]⟩, .slice none 0 0]
  unfold itV
  obtain ⟨R, e1, e2⟩ : ∃ R : Bool, (∀ w', KPt (fun b => b < w'.heap.size) np w' (.slice pa (itK p).length pc) (itK p) → KPt (fun b => b < w'.heap.size) nr w' (.slice ra (itK r).length rc) (itK r) → Calls Try.prog 24 #[.agg #[.bool (itL p), .string (itT p), .slice pa (itK p).length pc], .agg #[.bool (itL r), .string (itT r), .slice ra (itK r).length rc]] w' fun f w'' => f = .returned (.bool R) ∧ Below w'.heap.size w' w'') ∧ (∀ w', KPt (fun b => b < w'.heap.size) np w' (.slice pa (itK p).length pc) (itK p) → KPt (fun b => b < w'.heap.size) nr w' (.slice ra (itK r).length rc) (itK r) → Calls Try.prog 25 #[.agg #[.bool (itL p), .string (itT p), .slice pa (itK p).length pc], .agg #[.bool (itL r), .string (itT r), .slice ra (itK r).length rc]] w' fun f w'' => f = .returned (.bool R) ∧ Below w'.heap.size w' w'') :=
    ⟨sameD (np + 1) (nr + 1) p r, fun w' h1 h2 => iSame_any np nr p r _ _ w' (by omega) h1 h2, fun w' h1 h2 => sSame_any np nr p r _ _ w' (h1.in.at fun b h => h) (h2.in.at fun b h => h)⟩
  have HE1 : Hid _ := e1
  have HE2 : Hid _ := e2
  have HPR : Hid (TO np (fun b => b < w15.heap.size) w15 (.slice pa (itK p).length pc) (itK p) ∧ TO nr (fun b => b < w15.heap.size) w15 (.slice ra (itK r).length rc) (itK r)) := ⟨htp.more fun b h => h.2, htr.more fun b h => h.2⟩
  have HXY : Hid (ok = true → ∀ w', KPt (fun b => b < w'.heap.size) n w' (.slice xa (itK x).length xc) (itK x) → KPt (fun b => b < w'.heap.size) 900 w' (.slice ya (itK y).length yc) (itK y) → Calls Try.prog 24 #[.agg #[.bool (itL x), .string (itT x), .slice xa (itK x).length xc], .agg #[.bool (itL y), .string (itT y), .slice ya (itK y).length yc]] w' fun f w'' => f = .returned (.bool true) ∧ Below w'.heap.size w' w'') := fun h w' h1 h2 => by
    have h3 := iSame_any n 900 x y _ _ w' (by have := HCX.out; omega) h1 h2
    rw [(HBK.out h).2] at h3
    exact h3
  clear e1 e2 htp htr hpt hrt hpc
  clear HA hm hd hm1 HCX
  go_wp2_with (first | (refine store_blkS (cs' := #[.bool (itL p), .string (itT p), .slice pa (itK p).length pc]) rfl rfl rfl rfl rfl hbp infoIt rfl (onesIt _ _ _ _ _) ?_; intro U1 hp1 hall1 hoth hbel; have hr1 := hoth _ _ _ (Nat.ne_of_lt (Nat.lt_succ_self _)) hbr; have hU1 := hbel w15.heap.size w15 (Nat.le_refl _) hbV; clear hoth hbel hall1) | (refine store_blkS (cs' := #[.bool (itL r), .string (itT r), .slice ra (itK r).length rc]) rfl rfl rfl rfl rfl hr1 infoIt rfl (onesIt _ _ _ _ _) ?_; intro U2 hr2 hall2 hoth hbel; have hp2 := hoth _ _ _ (Nat.ne_of_gt (Nat.lt_succ_self _)) hp1; have hU2 := hbel w15.heap.size w15 (Nat.le_succ _) hU1; clear hoth hbel hall2))
  have hx2 := (hxV1.on B62 hxV1.lt).on hU2 (by have h1 := (B62).size; have h2 := hxV1.lt; omega)
  have hy2 := (hxV3.on B63 hxV3.lt).on hU2 (by have h1 := (B63).size; have h2 := hxV3.lt; omega)
  have HW2 : Hid (Below w.heap.size w U2) := below_then B61 hU2
  have HX2 : Hid (Below V1.heap.size V1 U2) := below_then B62 hU2
  have HY2 : Hid (Below V3.heap.size V3 U2) := below_then B63 hU2
  have HP2 : Hid (Below w15.heap.size w15 U2) := hU2
  clear B61 B62 B63 hU2 hp1 hr1 hbp hbr hbV hU1 hxV1 hxV3
  refine wp_region_class 76 (fun wz => Below U2.heap.size U2 wz) mixes (by kernel_rfl) (Below.refl _ _).drew ?_
  simp only [List.append, List.take_succ_cons, List.take_zero, List.drop_succ_cons, List.drop_zero]
  iterate 4 (refine cls_step rfl (fun K hK => ⟨_, (fun w' hw => by go_simp; exact rfl), ?_⟩); go_simp; refine hK _ ?_; clear hK K)
  iterate 1 (refine cls_stepG rfl (fun K hK => ⟨_, (fun w' hw => by have q0 := (hx2.on hw hx2.lt).cell 0; have q1 := (hx2.on hw hx2.lt).cell 1; have q2 := (hx2.on hw hx2.lt).cell 2; go_simp; exact rfl), ?_⟩); go_simp; refine hK _ ?_; clear hK K)
  refine cls_callG rfl (fun K hK => ⟨_, _, _, (fun w' => by go_simp <;> first | exact rfl | exact ⟨rfl, rfl⟩), (fun w' hw => calls_below hw (HC7.out _ (at_of HX.out (fun b h => h) (below_then HX2.out hw)))), ?_⟩); go_simp; refine hK _ ?_; clear hK K
  iterate 1 (refine cls_stepG rfl (fun K hK => ⟨_, (fun w' hw => by have q0 := (hx2.on hw hx2.lt).cell 0; have q1 := (hx2.on hw hx2.lt).cell 1; have q2 := (hx2.on hw hx2.lt).cell 2; go_simp; exact rfl), ?_⟩); go_simp; refine hK _ ?_; clear hK K)
  refine cls_callG rfl (fun K hK => ⟨_, _, _, (fun w' => by go_simp <;> first | exact rfl | exact ⟨rfl, rfl⟩), (fun w' hw => calls_below hw (HC8.out _ (at_of HX.out (fun b h => h) (below_then HX2.out hw)))), ?_⟩); go_simp; refine hK _ ?_; clear hK K
  iterate 6 (refine cls_stepG rfl (fun K hK => ⟨_, (fun w' hw => by go_simp; exact rfl), ?_⟩); go_simp; refine hK _ ?_; clear hK K)
  refine wq_join 7 104 6 110 (.bool true) ?_ ?_
  · simp only [List.take_succ_cons, List.take_zero]
    cases ok
    · skip
      iterate 6 (refine cls_skip rfl (fun K hK => ?_); go_simp; refine hK _ ?_; clear hK K)
      iterate 1 (refine cls_stepG rfl (fun K hK => ⟨_, (fun w' hw => by go_simp; exact rfl), ?_⟩); go_simp; refine hK _ ?_; clear hK K)
      exact wq_nil ⟨fun i => ([undef, undef, undef, undef, undef, undef] : List Value).getD i undef, by simp only [putN]; go_simp; try rfl⟩
    · obtain ⟨hoy, _⟩ := HBK.out rfl
      subst hoy
      iterate 2 (refine cls_stepG rfl (fun K hK => ⟨_, (fun w' hw => by go_simp; exact rfl), ?_⟩); go_simp; refine hK _ ?_; clear hK K)
      iterate 2 (refine cls_stepG rfl (fun K hK => ⟨_, (fun w' hw => by have q0 := (hx2.on hw hx2.lt).cell 0; have q1 := (hx2.on hw hx2.lt).cell 1; have q2 := (hx2.on hw hx2.lt).cell 2; have q3 := (hy2.on hw hy2.lt).cell 0; have q4 := (hy2.on hw hy2.lt).cell 1; have q5 := (hy2.on hw hy2.lt).cell 2; go_simp; exact rfl), ?_⟩); go_simp; refine hK _ ?_; clear hK K)
      refine cls_callG rfl (fun K hK => ⟨_, _, _, (fun w' => by go_simp <;> first | exact rfl | exact ⟨rfl, rfl⟩), (fun w' hw => calls_below hw (HXY.out rfl _ (pt_of HX.out (fun b h => h) (below_then HX2.out hw)) (pt_of HY.out (fun b h => h) (below_then HY2.out hw)))), ?_⟩); go_simp; refine hK _ ?_; clear hK K
      iterate 2 (refine cls_stepG rfl (fun K hK => ⟨_, (fun w' hw => by go_simp; exact rfl), ?_⟩); go_simp; refine hK _ ?_; clear hK K)
      exact wq_nil ⟨fun i => ([.bool true, .bool true, .agg #[.bool (itL x), .string (itT x), .slice xa (itK x).length xc], .agg #[.bool (itL y), .string (itT y), .slice ya (itK y).length yc], .bool true, .bool true] : List Value).getD i undef, by simp only [putN]; go_simp; try rfl⟩
  intro u K hK
  simp only [putN, List.drop_succ_cons, List.drop_zero] at hK ⊢
  go_simp
  refine hK _ ?_
  clear hK K
  generalize u 0 = u0
  generalize u 1 = u1
  generalize u 2 = u2
  generalize u 3 = u3
  generalize u 4 = u4
  generalize u 5 = u5
  clear u
  iterate 10 (refine cls_stepG rfl (fun K hK => ⟨_, (fun w' hw => by go_simp; exact rfl), ?_⟩); go_simp; refine hK _ ?_; clear hK K)
  refine wq_join 4 121 3 124 (.bool true) ?_ ?_
  · simp only [List.take_succ_cons, List.take_zero]
    cases oz
    · skip
      iterate 3 (refine cls_skip rfl (fun K hK => ?_); go_simp; refine hK _ ?_; clear hK K)
      iterate 1 (refine cls_stepG rfl (fun K hK => ⟨_, (fun w' hw => by go_simp; exact rfl), ?_⟩); go_simp; refine hK _ ?_; clear hK K)
      exact wq_nil ⟨fun i => ([undef, undef, undef] : List Value).getD i undef, by simp only [putN]; go_simp; try rfl⟩
    · have hTz := HAG.out rfl
      subst hTz
      have hTT : (Tz.toList == Tz.toList) = true := beq_self_eq_true _
      iterate 4 (refine cls_stepG rfl (fun K hK => ⟨_, (fun w' hw => by go_simp; exact rfl), ?_⟩); go_simp; refine hK _ ?_; clear hK K)
      exact wq_nil ⟨fun i => ([.string Tz, .string Tz, .bool true] : List Value).getD i undef, by simp only [putN]; go_simp; try rfl⟩
  intro u K hK
  simp only [putN, List.drop_succ_cons, List.drop_zero] at hK ⊢
  go_simp
  refine hK _ ?_
  clear hK K
  generalize u 0 = u0
  generalize u 1 = u1
  generalize u 2 = u2
  clear u
  iterate 2 (refine cls_stepG rfl (fun K hK => ⟨_, (fun w' hw => by go_simp; exact rfl), ?_⟩); go_simp; refine hK _ ?_; clear hK K)
  refine wq_join 14 127 13 140 (.bool true) ?_ ?_
  · simp only [List.take_succ_cons, List.take_zero]
    by_cases hneg : nn < 0
    · have hd0 : decide (nn < 0) = true := decide_eq_true hneg
      iterate 3 (refine cls_stepG rfl (fun K hK => ⟨_, (fun w' hw => by go_simp; exact rfl), ?_⟩); go_simp; refine hK _ ?_; clear hK K)
      iterate 2 (refine cls_skip rfl (fun K hK => ?_); go_simp; refine hK _ ?_; clear hK K)
      iterate 2 (refine cls_stepG rfl (fun K hK => ⟨_, (fun w' hw => by go_simp; exact rfl), ?_⟩); go_simp; refine hK _ ?_; clear hK K)
      iterate 6 (refine cls_skip rfl (fun K hK => ?_); go_simp; refine hK _ ?_; clear hK K)
      iterate 1 (refine cls_stepG rfl (fun K hK => ⟨_, (fun w' hw => by go_simp; exact rfl), ?_⟩); go_simp; refine hK _ ?_; clear hK K)
      exact wq_nil ⟨fun i => ([.int .i64 nn, .bool true, .bool true, undef, undef, .bool true, .bool true, undef, undef, undef, undef, undef, undef] : List Value).getD i undef, by simp only [putN]; go_simp; try rfl⟩
    by_cases hbig : 1000000000 < nn
    · have hd0 : decide (nn < 0) = false := decide_eq_false hneg
      have hd1 : decide (1000000000 < nn) = true := decide_eq_true hbig
      iterate 7 (refine cls_stepG rfl (fun K hK => ⟨_, (fun w' hw => by go_simp; exact rfl), ?_⟩); go_simp; refine hK _ ?_; clear hK K)
      iterate 6 (refine cls_skip rfl (fun K hK => ?_); go_simp; refine hK _ ?_; clear hK K)
      iterate 1 (refine cls_stepG rfl (fun K hK => ⟨_, (fun w' hw => by go_simp; exact rfl), ?_⟩); go_simp; refine hK _ ?_; clear hK K)
      exact wq_nil ⟨fun i => ([.int .i64 nn, .bool false, .bool false, .int .i64 nn, .bool true, .bool true, .bool true, undef, undef, undef, undef, undef, undef] : List Value).getD i undef, by simp only [putN]; go_simp; try rfl⟩
    · have hd0 : decide (nn < 0) = false := decide_eq_false hneg
      have hd1 : decide (1000000000 < nn) = false := decide_eq_false hbig
      obtain ⟨hgood, hkn⟩ := HGD.out (by omega) (by omega)
      subst hgood
      have hkn' : ((kn : Int) == nn) = true := by rw [beq_iff_eq]; exact hkn
      clear hkn
      iterate 14 (refine cls_stepG rfl (fun K hK => ⟨_, (fun w' hw => by go_simp; exact rfl), ?_⟩); go_simp; refine hK _ ?_; clear hK K)
      exact wq_nil ⟨fun i => ([.int .i64 nn, .bool false, .bool false, .int .i64 nn, .bool false, .bool false, .bool false, .bool true, .bool true, .int .i64 (kn : Int), .int .i64 nn, .bool true, .bool true] : List Value).getD i undef, by simp only [putN]; go_simp; try rfl⟩
  intro u K hK
  simp only [putN, List.drop_succ_cons, List.drop_zero] at hK ⊢
  go_simp
  refine hK _ ?_
  clear hK K
  generalize u 0 = u0
  generalize u 1 = u1
  generalize u 2 = u2
  generalize u 3 = u3
  generalize u 4 = u4
  generalize u 5 = u5
  generalize u 6 = u6
  generalize u 7 = u7
  generalize u 8 = u8
  generalize u 9 = u9
  generalize u 10 = u10
  generalize u 11 = u11
  generalize u 12 = u12
  clear u
  iterate 10 (refine cls_stepG rfl (fun K hK => ⟨_, (fun w' hw => by go_simp; exact rfl), ?_⟩); go_simp; refine hK _ ?_; clear hK K)
  refine wq_join 5 151 4 155 (.bool true) ?_ ?_
  · simp only [List.take_succ_cons, List.take_zero]
    cases could
    · skip
      iterate 4 (refine cls_skip rfl (fun K hK => ?_); go_simp; refine hK _ ?_; clear hK K)
      iterate 1 (refine cls_stepG rfl (fun K hK => ⟨_, (fun w' hw => by go_simp; exact rfl), ?_⟩); go_simp; refine hK _ ?_; clear hK K)
      exact wq_nil ⟨fun i => ([undef, undef, undef, undef] : List Value).getD i undef, by simp only [putN]; go_simp; try rfl⟩
    · have hvv : (v2.toList == v2.toList) = true := beq_self_eq_true _
      iterate 1 (refine cls_stepG rfl (fun K hK => ⟨_, (fun w' hw => by go_simp; exact rfl), ?_⟩); go_simp; refine hK _ ?_; clear hK K)
      refine cls_callG rfl (fun K hK => ⟨_, _, _, (fun w' => by go_simp <;> first | exact rfl | exact ⟨rfl, rfl⟩), (fun w' hw => calls_below hw (HD5.out rfl _)), ?_⟩); go_simp; refine hK _ ?_; clear hK K
      iterate 3 (refine cls_stepG rfl (fun K hK => ⟨_, (fun w' hw => by go_simp; exact rfl), ?_⟩); go_simp; refine hK _ ?_; clear hK K)
      exact wq_nil ⟨fun i => ([.int .i64 (mn : Int), .string v2, .string v2, .bool true] : List Value).getD i undef, by simp only [putN]; go_simp; try rfl⟩
  intro u K hK
  simp only [putN, List.drop_succ_cons, List.drop_zero] at hK ⊢
  go_simp
  refine hK _ ?_
  clear hK K
  generalize u 0 = u0
  generalize u 1 = u1
  generalize u 2 = u2
  generalize u 3 = u3
  clear u
  iterate 2 (refine cls_stepG rfl (fun K hK => ⟨_, (fun w' hw => by go_simp; exact rfl), ?_⟩); go_simp; refine hK _ ?_; clear hK K)
  iterate 2 (refine cls_stepG rfl (fun K hK => ⟨_, (fun w' hw => by have q0 := (hp2.on hw hp2.lt).cell 0; have q1 := (hp2.on hw hp2.lt).cell 1; have q2 := (hp2.on hw hp2.lt).cell 2; have q3 := (hr2.on hw hr2.lt).cell 0; have q4 := (hr2.on hw hr2.lt).cell 1; have q5 := (hr2.on hw hr2.lt).cell 2; go_simp; exact rfl), ?_⟩); go_simp; refine hK _ ?_; clear hK K)
  refine cls_callG rfl (fun K hK => ⟨_, _, _, (fun w' => by go_simp <;> first | exact rfl | exact ⟨rfl, rfl⟩), (fun w' hw => calls_below hw (HE1.out _ (pt_of HPR.out.1 (fun b h => h) (below_then HP2.out hw)) (pt_of HPR.out.2 (fun b h => h) (below_then HP2.out hw)))), ?_⟩); go_simp; refine hK _ ?_; clear hK K
  iterate 2 (refine cls_stepG rfl (fun K hK => ⟨_, (fun w' hw => by have q0 := (hp2.on hw hp2.lt).cell 0; have q1 := (hp2.on hw hp2.lt).cell 1; have q2 := (hp2.on hw hp2.lt).cell 2; have q3 := (hr2.on hw hr2.lt).cell 0; have q4 := (hr2.on hw hr2.lt).cell 1; have q5 := (hr2.on hw hr2.lt).cell 2; go_simp; exact rfl), ?_⟩); go_simp; refine hK _ ?_; clear hK K)
  refine cls_callG rfl (fun K hK => ⟨_, _, _, (fun w' => by go_simp <;> first | exact rfl | exact ⟨rfl, rfl⟩), (fun w' hw => calls_below hw (HE2.out _ (pt_of HPR.out.1 (fun b h => h) (below_then HP2.out hw)) (pt_of HPR.out.2 (fun b h => h) (below_then HP2.out hw)))), ?_⟩); go_simp; refine hK _ ?_; clear hK K
  iterate 2 (refine cls_stepG rfl (fun K hK => ⟨_, (fun w' hw => by go_simp; exact rfl), ?_⟩); go_simp; refine hK _ ?_; clear hK K)
  refine wq_nil ?_
  intro w' hw
  go_wp2
  go_ret
  exact ⟨rfl, below_then HW2.out hw⟩

end Go.Proofs.Ytmpjnabadplbjaa
