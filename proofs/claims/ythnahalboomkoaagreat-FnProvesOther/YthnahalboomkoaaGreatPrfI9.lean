/-
  The walk of the program's proof of a right witness.
  (-DROP-: what the seat lacks is left out.)
-/
import Derived.Test.YthnahalboomkoaaGreatJoined22
import Derived.Test.YthnahalboomkoaaGreatJoined20

namespace Go.Proofs.YthnahalboomkoaaGreat
open Go.RowKit

/-- A and B of a proof. -/
def pvA (A D : Pt) (f : Nat → Pt) (m : List Int) (wn : Nat) (r : Int) : Pt := pSum (wEach A (fun j => m.getD j 0) f wn) (pTimes r D)
def pv0 (fL : Nat → Pt) (m : List Int) (p ln : Nat) : Pt := wEach pZ (fun j => m.getD (p + 1 + j) 0) fL ln
def pv1 (fL fZ : Nat → Pt) (m q : List Int) (p ln : Nat) : Pt := wEach (pv0 fL m p ln) (fun j => q.getD j 0) fZ q.length
def pv2 (fL fZ : Nat → Pt) (m q : List Int) (p ln : Nat) (r z : Int) (PA PB : Pt) : Pt := wEach (pv1 fL fZ m q p ln) (fun j => ([z, r] : List Int).getD j 0) (fun j => ([PA, PB] : List Pt).getD j pZ) 2
/-- C of a proof. -/
def pvC (D : Pt) (fL fZ : Nat → Pt) (m q : List Int) (p ln : Nat) (r z : Int) (PA PB : Pt) : Pt := pSum (pv2 fL fZ m q p ln r z PA PB) (pNeg (pTimes (scMul r z) D))
theorem ints2l {w : World} {g t c : Nat} (hc : g < c) {x y : Int} (h : Blk w g t #[.int .i64 x, .int .i64 y]) : IntsAt w (some ⟨g, 0, none⟩) 2 c (fun j => ([x, y] : List Int).getD j 0) := fun j hj => by
  refine ⟨g, 0, rfl, hc, ?_⟩
  match j, hj with
  | 0, _ => exact h.cell 0
  | 1, _ => exact h.cell 1
theorem pts2l {w : World} {g t c : Nat} (hc : g < c) {P Q : Pt} (h : Blk w g t #[.int .i64 P.1, .int .i64 P.2.1, .bool P.2.2, .int .i64 Q.1, .int .i64 Q.2.1, .bool Q.2.2]) : PtsAt w (some ⟨g, 0, none⟩) 2 c (fun j => ([P, Q] : List Pt).getD j pZ) := fun j hj => by
  refine ⟨g, 0, rfl, hc, ?_⟩
  match j, hj with
  | 0, _ => exact ⟨h.cell 0, h.cell 1, h.cell 2⟩
  | 1, _ => exact ⟨h.cell 3, h.cell 4, h.cell 5⟩
theorem ints_from {w : World} {b off n c s k : Nat} {f : Nat → Int} (h : IntsAt w (some ⟨b, off, none⟩) n c f) (hk : s + k = n) : IntsAt w (some ⟨b, off + s, none⟩) k c (fun j => f (s + j)) := fun j hj => by
  obtain ⟨b', o', e, hb, h1⟩ := h (s + j) (by omega)
  injection e with e
  injection e with e1 e2
  subst e1 e2
  refine ⟨b, off + s, rfl, hb, ?_⟩
  rw [Nat.add_assoc]
  exact h1
theorem ints_nil {w : World} {a : Option Addr} {c : Nat} {f : Nat → Int} : IntsAt w a 0 c f := fun j hj => absurd hj (by omega)
/-- What lives beside the walk. -/
structure PvS (w X : World) (wn p : Nat) (a : Option Addr) (n c : Nat) (A B G D : Pt) (ia : Option Addr) (ni ic : Nat) (ua : Option Addr) (uc : Nat) (va : Option Addr) (vc : Nat) (la : Option Addr) (ln lc : Nat) (za : Option Addr) (zn zc : Nat) : Prop where
  bel : Below w.heap.size w X
  sys : Blk X w.heap.size 26 #[.int .i64 (wn : Int), .int .i64 (p : Int), .slice a n c]
  mkr : Blk X (w.heap.size + 1) 40 #[.int .i64 A.1, .int .i64 A.2.1, .bool A.2.2, .int .i64 B.1, .int .i64 B.2.1, .bool B.2.2, .int .i64 G.1, .int .i64 G.2.1, .bool G.2.2, .int .i64 D.1, .int .i64 D.2.1, .bool D.2.2, .slice ia ni ic, .slice ua wn uc, .slice va wn vc, .slice la ln lc, .slice za zn zc]
  res : Blk X (w.heap.size + 1 + 1) 44 #[.int .i64 0, .int .i64 0, .bool false, .int .i64 0, .int .i64 0, .bool false, .int .i64 0, .int .i64 0, .bool false]
theorem PvS.on {w X Y : World} {wn p : Nat} {a : Option Addr} {n c : Nat} {A B G D : Pt} {ia : Option Addr} {ni ic : Nat} {ua : Option Addr} {uc : Nat} {va : Option Addr} {vc : Nat} {la : Option Addr} {ln lc : Nat} {za : Option Addr} {zn zc : Nat} (h : PvS w X wn p a n c A B G D ia ni ic ua uc va vc la ln lc za zn zc) (hb : Below X.heap.size X Y) : PvS w Y wn p a n c A B G D ia ni ic ua uc va vc la ln lc za zn zc :=
  ⟨h.bel.trans (hb.mono h.bel.size), h.sys.on hb h.sys.lt, h.mkr.on hb h.mkr.lt, h.res.on hb h.res.lt⟩

set_option maxHeartbeats 25600000 in
set_option maxRecDepth 100000 in
theorem iProve_yes (wn p ln : Nat) (hwn : wn = p + 1 + ln) (h20 : wn ≤ 20) (hwf : (Lit.int .i64 (wn : Int)).wf = true) (a : Option Addr) (n c : Nat) (hn : n ≤ 16) (ls : List (List Int)) (hz : ∀ j, (ls.getD j []).length ≤ 9223372036854775807) (A B G D : Pt) (ia : Option Addr) (ni ic : Nat) (ua : Option Addr) (uc : Nat) (va : Option Addr) (vc : Nat) (la : Option Addr) (lc : Nat) (za : Option Addr) (zn zc : Nat) (hzn : zn + 1 = n) (fU fV fL fZ : Nat → Pt) (am : Option Addr) (cm : Nat) (m : List Int) (hml : m.length = wn) (hcm : wn ≤ cm) (r z : Int) (hr : 0 ≤ r ∧ r ≤ 1008) (hzz : 0 ≤ z ∧ z ≤ 1008) (hso : sysSo (wn : Int) (p : Int) n ls m = true) (hqb : quotB (wn : Int) (p : Int) n ls m = true) (hql : (quotL (wn : Int) (p : Int) n ls m).length ≤ zn)
    (w : World) (hA : NAt 3 w w.heap.size (.slice a n c) n ls) (hM : IntsAt w am wn w.heap.size (fun j => m.getD j 0)) (hU : PtsAt w ua wn w.heap.size fU) (hV : PtsAt w va wn w.heap.size fV) (hL : PtsAt w la ln w.heap.size fL) (hZ : PtsAt w za zn w.heap.size fZ) :
    Calls Tryz.prog 12 #[.agg #[.int .i64 (wn : Int), .int .i64 (p : Int), .slice a n c], .agg #[.int .i64 A.1, .int .i64 A.2.1, .bool A.2.2, .int .i64 B.1, .int .i64 B.2.1, .bool B.2.2, .int .i64 G.1, .int .i64 G.2.1, .bool G.2.2, .int .i64 D.1, .int .i64 D.2.1, .bool D.2.2, .slice ia ni ic, .slice ua wn uc, .slice va wn vc, .slice la ln lc, .slice za zn zc], .slice am wn cm, .int .i64 r, .int .i64 z] w fun e w' => e = .returned (.tuple #[.agg (prfC (pvA A D fU m wn r) (pvA B D fV m wn z) (pvC D fL fZ m (quotL (wn : Int) (p : Int) n ls m) p ln r z (pvA A D fU m wn r) (pvA B D fV m wn z))), .bool true]) ∧ Below w.heap.size w w' := by
  obtain ⟨W, hW, hb, hs, hk, hr0⟩ := boxes2r w 26 40 44 #[.int .i64 (wn : Int), .int .i64 (p : Int), .slice a n c] #[.int .i64 A.1, .int .i64 A.2.1, .bool A.2.2, .int .i64 B.1, .int .i64 B.2.1, .bool B.2.2, .int .i64 G.1, .int .i64 G.2.1, .bool G.2.2, .int .i64 D.1, .int .i64 D.2.1, .bool D.2.2, .slice ia ni ic, .slice ua wn uc, .slice va wn vc, .slice la ln lc, .slice za zn zc] #[.int .i64 0, .int .i64 0, .bool false, .int .i64 0, .int .i64 0, .bool false, .int .i64 0, .int .i64 0, .bool false]
  have H0 : Hid (PvS w W wn p a n c A B G D ia ni ic ua uc va vc la ln lc za zn zc) := ⟨hb, hs, hk, hr0⟩
  have CS : Hid (∀ V, Below w.heap.size w V → Calls Tryz.prog 50 #[.agg #[.int .i64 (wn : Int), .int .i64 (p : Int), .slice a n c], .slice am wn cm] V fun e w' => e = .returned (.bool true) ∧ Below V.heap.size V w') := fun V hV => by
    have h := iSat_any (wn : Int) (p : Int) hwf a n c (by omega) ls hz am cm m (by omega) V ((hA.on hV).wide hV.size) (by rw [hml]; exact (hM.on hV).wide hV.size)
    rw [hml, hso] at h
    exact h
  have CF : Hid (∀ V, Calls Tryz.prog 51 #[.agg #[.int .i64 A.1, .int .i64 A.2.1, .bool A.2.2, .int .i64 B.1, .int .i64 B.2.1, .bool B.2.2, .int .i64 G.1, .int .i64 G.2.1, .bool G.2.2, .int .i64 D.1, .int .i64 D.2.1, .bool D.2.2, .slice ia ni ic, .slice ua wn uc, .slice va wn vc, .slice la ln lc, .slice za zn zc], .agg #[.int .i64 (wn : Int), .int .i64 (p : Int), .slice a n c]] V fun e w' => e = .returned (.bool true) ∧ Below V.heap.size V w') := isFor_yes A B G D ia ni ic ua uc va vc la lc za zn zc wn p ln hwn h20 a n c hn hzn
  have CQ : Hid (∀ V, Below w.heap.size w V → Calls Tryz.prog 53 #[.agg #[.int .i64 (wn : Int), .int .i64 (p : Int), .slice a n c], .slice am wn cm] V fun e w' => ∃ qv, e = .returned (.tuple #[qv, .bool true]) ∧ ZOwn V.heap.size w'.heap.size w' qv (quotL (wn : Int) (p : Int) n ls m) ∧ Below V.heap.size V w') := fun V hV => by
    have hI : ZAt V V.heap.size (.slice am m.length cm) m := ⟨am, cm, rfl, by rw [hml]; exact (hM.on hV).wide hV.size⟩
    have h := iQuot_any (wn : Int) (p : Int) hwf a n c (by omega) ls hz am cm m (by omega) V ((hA.on hV).wide hV.size) hI
    rw [hml, hqb] at h
    exact h
  have CW : Hid (∀ g V, Blk V g 3 #[.int .i64 r, .int .i64 z] → Calls Tryz.prog 52 #[.slice (some ⟨g, 0, none⟩) 2 2, .int .i64 2] V fun e w' => e = .returned (.bool true) ∧ Below V.heap.size V w') := fun g V h => by
    have h1 := iWide_any (some ⟨g, 0, none⟩) 2 [r, z] 2 (by simp) V (ints2l h.lt h)
    have e : wide [r, z] 2 = true := by unfold wide; simp; omega
    rw [e] at h1
    exact h1
  have EU : Hid (∀ V, Below w.heap.size w V → Calls Tryz.prog 54 #[.agg #[.int .i64 A.1, .int .i64 A.2.1, .bool A.2.2], .slice am wn cm, .slice ua wn uc] V fun e w' => e = .returned (pv (wEach A (fun j => m.getD j 0) fU wn)) ∧ Below V.heap.size V w') := fun V h => iWith_any A am wn cm (fun j => m.getD j 0) ua wn uc (Nat.le_refl _) (by omega) fU V ((hM.on h).wide h.size) ((hU.on h).wide h.size)
  have EV : Hid (∀ V, Below w.heap.size w V → Calls Tryz.prog 54 #[.agg #[.int .i64 B.1, .int .i64 B.2.1, .bool B.2.2], .slice am wn cm, .slice va wn vc] V fun e w' => e = .returned (pv (wEach B (fun j => m.getD j 0) fV wn)) ∧ Below V.heap.size V w') := fun V h => iWith_any B am wn cm (fun j => m.getD j 0) va wn vc (Nat.le_refl _) (by omega) fV V ((hM.on h).wide h.size) ((hV.on h).wide h.size)
  have EL : Hid (∀ ad cc V, Below w.heap.size w V → IntsAt V ad ln V.heap.size (fun j => m.getD (p + 1 + j) 0) → Calls Tryz.prog 54 #[.agg #[.int .i64 0, .int .i64 0, .bool true], .slice ad ln cc, .slice la ln lc] V fun e w' => e = .returned (pv (pv0 fL m p ln)) ∧ Below V.heap.size V w') := fun ad cc V h hI => iWith_any pZ ad ln cc (fun j => m.getD (p + 1 + j) 0) la ln lc (Nat.le_refl _) (by omega) fL V hI ((hL.on h).wide h.size)
  have EZ : Hid (∀ qa qc S V, Below w.heap.size w V → IntsAt V qa (quotL (wn : Int) (p : Int) n ls m).length V.heap.size (fun j => (quotL (wn : Int) (p : Int) n ls m).getD j 0) → Calls Tryz.prog 54 #[pv S, .slice qa (quotL (wn : Int) (p : Int) n ls m).length qc, .slice za zn zc] V fun e w' => e = .returned (pv (wEach S (fun j => (quotL (wn : Int) (p : Int) n ls m).getD j 0) fZ (quotL (wn : Int) (p : Int) n ls m).length)) ∧ Below V.heap.size V w') := fun qa qc S V h hI => iWith_any S qa _ qc _ za zn zc hql (by omega) fZ V hI ((hZ.on h).wide h.size)
  obtain ⟨b0, o0, ea, hbl, _⟩ := hM 0 (by omega)
  subst ea
  have HPT : Hid (∀ V, Below w.heap.size w V → (cm = p + 1 → IntsAt V (some ⟨b0, o0, none⟩) ln V.heap.size (fun j => m.getD (p + 1 + j) 0)) ∧ IntsAt V (some ⟨b0, o0 + (p + 1), none⟩) ln V.heap.size (fun j => m.getD (p + 1 + j) 0)) := fun V h => ⟨fun hc => by
      have h0 : ln = 0 := by omega
      rw [h0]; exact ints_nil, ints_from ((hM.on h).wide h.size) (by omega)⟩
  have HWN : Hid (wn = p + 1 + ln ∧ zn + 1 = n) := ⟨hwn, hzn⟩
  obtain ⟨PA, hPA⟩ : ∃ PA, PA = pvA A D fU m wn r := ⟨_, rfl⟩
  obtain ⟨PB, hPB⟩ : ∃ PB, PB = pvA B D fV m wn z := ⟨_, rfl⟩
  rw [← hPA, ← hPB]
  have CA1 : Hid (∀ V, Calls Tryz.prog 19 #[pv (wEach A (fun j => m.getD j 0) fU wn), pv (pTimes r D)] V fun e w' => e = .returned (pv PA) ∧ Below V.heap.size V w') := fun V => by rw [hPA]; exact iPAdd_any _ _ V
  have CA2 : Hid (∀ V, Calls Tryz.prog 19 #[pv (wEach B (fun j => m.getD j 0) fV wn), pv (pTimes z D)] V fun e w' => e = .returned (pv PB) ∧ Below V.heap.size V w') := fun V => by rw [hPB]; exact iPAdd_any _ _ V
  have CT1 : Hid (∀ V, Calls Tryz.prog 48 #[.int .i64 r, pv D] V fun e w' => e = .returned (pv (pTimes r D)) ∧ Below V.heap.size V w') := iTimes_any r D
  have CT2 : Hid (∀ V, Calls Tryz.prog 48 #[.int .i64 z, pv D] V fun e w' => e = .returned (pv (pTimes z D)) ∧ Below V.heap.size V w') := iTimes_any z D
  clear hPA hPB
  clear hA hM hU hV hL hZ hz hso hqb hml hwf hb hr0 hql
  generalize quotL (wn : Int) (p : Int) n ls m = q at *
  obtain ⟨C0, hC0⟩ : ∃ C0, C0 = pv0 fL m p ln := ⟨_, rfl⟩
  obtain ⟨C1, hC1⟩ : ∃ C1, C1 = wEach C0 (fun j => q.getD j 0) fZ q.length := ⟨_, rfl⟩
  obtain ⟨C2, hC2⟩ : ∃ C2, C2 = wEach C1 (fun j => ([z, r] : List Int).getD j 0) (fun j => ([PA, PB] : List Pt).getD j pZ) 2 := ⟨_, rfl⟩
  obtain ⟨PC, hPC⟩ : ∃ PC, PC = pvC D fL fZ m q p ln r z PA PB := ⟨_, rfl⟩
  rw [← hPC]
  have E2 : Hid (∀ g1 g2 V, Blk V g1 3 #[.int .i64 z, .int .i64 r] → Blk V g2 35 #[.int .i64 PA.1, .int .i64 PA.2.1, .bool PA.2.2, .int .i64 PB.1, .int .i64 PB.2.1, .bool PB.2.2] → Calls Tryz.prog 54 #[pv C1, .slice (some ⟨g1, 0, none⟩) 2 2, .slice (some ⟨g2, 0, none⟩) 2 2] V fun e w' => e = .returned (pv C2) ∧ Below V.heap.size V w') := fun g1 g2 V h1 h2 => by rw [hC2]; exact iWith_any C1 (some ⟨g1, 0, none⟩) 2 2 _ (some ⟨g2, 0, none⟩) 2 2 (Nat.le_refl _) (by decide) _ V (ints2l h1.lt h1) (pts2l h2.lt h2)
  have CM : Hid (∀ V, Calls Tryz.prog 56 #[.int .i64 r, .int .i64 z] V fun e w' => e = .returned (.int .i64 (scMul r z)) ∧ V = w') := iScMul_any r z
  have CT3 : Hid (∀ V, Calls Tryz.prog 48 #[.int .i64 (scMul r z), pv D] V fun e w' => e = .returned (pv (pTimes (scMul r z) D)) ∧ Below V.heap.size V w') := iTimes_any _ D
  have CN : Hid (∀ V, Calls Tryz.prog 55 #[pv (pTimes (scMul r z) D)] V fun e w' => e = .returned (pv (pNeg (pTimes (scMul r z) D))) ∧ Below V.heap.size V w') := iNeg_any _
  have CA3 : Hid (∀ V, Calls Tryz.prog 19 #[pv C2, pv (pNeg (pTimes (scMul r z) D))] V fun e w' => e = .returned (pv PC) ∧ Below V.heap.size V w') := fun V => by rw [hPC, hC2, hC1, hC0]; exact iPAdd_any _ _ V
  rw [← hC0] at EL
  replace EZ : Hid (∀ qa qc V, Below w.heap.size w V → IntsAt V qa q.length V.heap.size (fun j => q.getD j 0) → Calls Tryz.prog 54 #[pv C0, .slice qa q.length qc, .slice za zn zc] V fun e w' => e = .returned (pv C1) ∧ Below V.heap.size V w') := fun qa qc V h hI => by rw [hC1]; exact EZ.out qa qc C0 V h hI
  clear hC0 hC1 hC2 hPC
  generalize wEach A (fun j => m.getD j 0) fU wn = SU at EU CA1
  generalize wEach B (fun j => m.getD j 0) fV wn = SV at EV CA2
  generalize pNeg (pTimes (scMul r z) D) = NZ at CN CA3
  generalize pTimes (scMul r z) D = TZ at CT3 CN
  generalize scMul r z = rz at CM CT3
  generalize pTimes r D = TR at CT1 CA1
  generalize pTimes z D = TS at CT2 CA2
  unfold pv at EU EV EL EZ CA1 CA2 CT1 CT2 E2 CT3 CN CA3
  have hs1 : w.heap.size + 1 + 1 < W.heap.size := H0.out.res.lt
  have hb20 : (wn : Int) ≤ 20 := by omega
  have hpb : (p : Int) ≤ 20 := by omega
  clear hwn hzn
  go_enter Tryz.func12, Tryz.ntmps12
  go_wp2_with (refine load_blk rfl rfl rfl hs Tryz.underlying26 infoSy ?_)
  clear hW hs hk
  refine (CS.out _ H0.out.bel).mono ?_
  rintro e w1 ⟨rfl, hb1⟩
  have H1 : Hid (PvS w w1 wn p a n c A B G D ia ni ic ua uc va vc la ln lc za zn zc) := H0.out.on hb1
  clear hb1 H0 CS
  have q0 : w1.cell? ⟨w.heap.size + 1, 0, none⟩ = some (.int .i64 A.1) := H1.out.mkr.cell 0
  have q1 : w1.cell? ⟨w.heap.size + 1, 1, none⟩ = some (.int .i64 A.2.1) := H1.out.mkr.cell 1
  have q2 : w1.cell? ⟨w.heap.size + 1, 2, none⟩ = some (.bool A.2.2) := H1.out.mkr.cell 2
  have q3 : w1.cell? ⟨w.heap.size + 1, 3, none⟩ = some (.int .i64 B.1) := H1.out.mkr.cell 3
  have q4 : w1.cell? ⟨w.heap.size + 1, 4, none⟩ = some (.int .i64 B.2.1) := H1.out.mkr.cell 4
  have q5 : w1.cell? ⟨w.heap.size + 1, 5, none⟩ = some (.bool B.2.2) := H1.out.mkr.cell 5
  have q6 : w1.cell? ⟨w.heap.size + 1, 6, none⟩ = some (.int .i64 G.1) := H1.out.mkr.cell 6
  have q7 : w1.cell? ⟨w.heap.size + 1, 7, none⟩ = some (.int .i64 G.2.1) := H1.out.mkr.cell 7
  have q8 : w1.cell? ⟨w.heap.size + 1, 8, none⟩ = some (.bool G.2.2) := H1.out.mkr.cell 8
  have q9 : w1.cell? ⟨w.heap.size + 1, 9, none⟩ = some (.int .i64 D.1) := H1.out.mkr.cell 9
  have q10 : w1.cell? ⟨w.heap.size + 1, 10, none⟩ = some (.int .i64 D.2.1) := H1.out.mkr.cell 10
  have q11 : w1.cell? ⟨w.heap.size + 1, 11, none⟩ = some (.bool D.2.2) := H1.out.mkr.cell 11
  have q12 : w1.cell? ⟨w.heap.size + 1, 12, none⟩ = some (.slice ia ni ic) := H1.out.mkr.cell 12
  have q13 : w1.cell? ⟨w.heap.size + 1, 13, none⟩ = some (.slice ua wn uc) := H1.out.mkr.cell 13
  have q14 : w1.cell? ⟨w.heap.size + 1, 14, none⟩ = some (.slice va wn vc) := H1.out.mkr.cell 14
  have q15 : w1.cell? ⟨w.heap.size + 1, 15, none⟩ = some (.slice la ln lc) := H1.out.mkr.cell 15
  have q16 : w1.cell? ⟨w.heap.size + 1, 16, none⟩ = some (.slice za zn zc) := H1.out.mkr.cell 16
  have r0 : w1.cell? ⟨w.heap.size, 0, none⟩ = some (.int .i64 (wn : Int)) := H1.out.sys.cell 0
  have r1 : w1.cell? ⟨w.heap.size, 1, none⟩ = some (.int .i64 (p : Int)) := H1.out.sys.cell 1
  have r2 : w1.cell? ⟨w.heap.size, 2, none⟩ = some (.slice a n c) := H1.out.sys.cell 2
  go_wp2_with fail
  clear q0 q1 q2 q3 q4 q5 q6 q7 q8 q9 q10 q11 q12 q13 q14 q15 q16 r0 r1 r2
  refine (CF.out _).mono ?_
  rintro e w2 ⟨rfl, hb2⟩
  obtain ⟨W2, hW2, hbW2, hx2⟩ := box1 w2 3 #[.int .i64 r, .int .i64 z]
  have H2 : Hid (PvS w W2 wn p a n c A B G D ia ni ic ua uc va vc la ln lc za zn zc) := (H1.out.on hb2).on hbW2
  clear hb2 hbW2 H1 CF
  go_wp2_with fail
  clear hW2
  refine (CW.out _ _ hx2).mono ?_
  rintro e w3 ⟨rfl, hb3⟩
  have H3 : Hid (PvS w w3 wn p a n c A B G D ia ni ic ua uc va vc la ln lc za zn zc) := H2.out.on hb3
  clear hb3 H2 CW hx2
  have hs3 := H3.out.sys
  go_wp2_with (refine load_blk rfl rfl rfl hs3 Tryz.underlying26 infoSy ?_)
  clear hs3
  refine (CQ.out _ H3.out.bel).mono ?_
  rintro e w4 ⟨qv, rfl, hO4, hb4⟩
  obtain ⟨qa, qc, hqv, hI4⟩ := hO4.at
  subst hqv
  have H4 : Hid (PvS w w4 wn p a n c A B G D ia ni ic ua uc va vc la ln lc za zn zc) := H3.out.on hb4
  clear hb4 H3 CQ hO4
  have EZ1 : Hid (∀ V, Below w.heap.size w V → Below w4.heap.size w4 V → Calls Tryz.prog 54 #[.agg #[.int .i64 C0.1, .int .i64 C0.2.1, .bool C0.2.2], .slice qa q.length qc, .slice za zn zc] V fun e w' => e = .returned (.agg #[.int .i64 C1.1, .int .i64 C1.2.1, .bool C1.2.2]) ∧ Below V.heap.size V w') := fun V h h2 => EZ.out qa qc V h ((hI4.on h2).wide h2.size)
  clear EZ hI4
  obtain ⟨ql, hqle⟩ : ∃ ql, ql = q.length := ⟨_, rfl⟩
  have HQL : Hid (ql = q.length) := hqle
  rw [← hqle] at EZ1 ⊢
  clear hqle HQL
  -- delta
  obtain ⟨W5, hW5, hb5, hd5⟩ := box1 w4 35 #[.int .i64 D.1, .int .i64 D.2.1, .bool D.2.2]
  have H5 : Hid (PvS w W5 wn p a n c A B G D ia ni ic ua uc va vc la ln lc za zn zc) := H4.out.on hb5
  have q0 : w4.cell? ⟨w.heap.size + 1, 9, none⟩ = some (.int .i64 D.1) := H4.out.mkr.cell 9
  have q1 : w4.cell? ⟨w.heap.size + 1, 10, none⟩ = some (.int .i64 D.2.1) := H4.out.mkr.cell 10
  have q2 : w4.cell? ⟨w.heap.size + 1, 11, none⟩ = some (.bool D.2.2) := H4.out.mkr.cell 11
  have hl4 : w.heap.size + 1 < w4.heap.size := H4.out.mkr.lt
  go_wp2_with fail
  clear hW5 q0 q1 q2
  have hm := H5.out.mkr
  have hB := H5.out.bel
  refine wp_region_made 11 mixes (by kernel_rfl) rfl rfl (fun a w => by go_simp <;> rfl) ?_
  simp only [List.take_succ_cons, List.take_zero, List.drop_succ_cons, List.drop_zero]
  repeat (refine bel_step rfl (fun K hK => ⟨_, (fun w' hw => by have q0 := (hm.on hw hm.lt).cell 0; have q1 := (hm.on hw hm.lt).cell 1; have q2 := (hm.on hw hm.lt).cell 2; have q3 := (hm.on hw hm.lt).cell 3; have q4 := (hm.on hw hm.lt).cell 4; have q5 := (hm.on hw hm.lt).cell 5; have q6 := (hm.on hw hm.lt).cell 6; have q7 := (hm.on hw hm.lt).cell 7; have q8 := (hm.on hw hm.lt).cell 8; have q9 := (hm.on hw hm.lt).cell 9; have q10 := (hm.on hw hm.lt).cell 10; have q11 := (hm.on hw hm.lt).cell 11; have q12 := (hm.on hw hm.lt).cell 12; have q13 := (hm.on hw hm.lt).cell 13; have q14 := (hm.on hw hm.lt).cell 14; have q15 := (hm.on hw hm.lt).cell 15; have q16 := (hm.on hw hm.lt).cell 16; have q17 := (hd5.on hw hd5.lt).cell 0; have q18 := (hd5.on hw hd5.lt).cell 1; have q19 := (hd5.on hw hd5.lt).cell 2; go_simp; exact rfl), ?_⟩); go_simp; refine hK _ ?_; clear hK K)
  refine bel_call rfl (fun K hK => ⟨_, _, _, (fun w' => by go_simp <;> first | exact rfl | exact ⟨rfl, rfl⟩), (fun w' hw => EU.out _ (hB.trans (hw.mono hB.size))), ?_⟩); go_simp; refine hK _ ?_; clear hK K
  repeat (refine bel_step rfl (fun K hK => ⟨_, (fun w' hw => by have q0 := (hm.on hw hm.lt).cell 0; have q1 := (hm.on hw hm.lt).cell 1; have q2 := (hm.on hw hm.lt).cell 2; have q3 := (hm.on hw hm.lt).cell 3; have q4 := (hm.on hw hm.lt).cell 4; have q5 := (hm.on hw hm.lt).cell 5; have q6 := (hm.on hw hm.lt).cell 6; have q7 := (hm.on hw hm.lt).cell 7; have q8 := (hm.on hw hm.lt).cell 8; have q9 := (hm.on hw hm.lt).cell 9; have q10 := (hm.on hw hm.lt).cell 10; have q11 := (hm.on hw hm.lt).cell 11; have q12 := (hm.on hw hm.lt).cell 12; have q13 := (hm.on hw hm.lt).cell 13; have q14 := (hm.on hw hm.lt).cell 14; have q15 := (hm.on hw hm.lt).cell 15; have q16 := (hm.on hw hm.lt).cell 16; have q17 := (hd5.on hw hd5.lt).cell 0; have q18 := (hd5.on hw hd5.lt).cell 1; have q19 := (hd5.on hw hd5.lt).cell 2; go_simp; exact rfl), ?_⟩); go_simp; refine hK _ ?_; clear hK K)
  refine bel_call rfl (fun K hK => ⟨_, _, _, (fun w' => by go_simp <;> first | exact rfl | exact ⟨rfl, rfl⟩), (fun w' hw => CT1.out _), ?_⟩); go_simp; refine hK _ ?_; clear hK K
  refine bel_call rfl (fun K hK => ⟨_, _, _, (fun w' => by go_simp <;> first | exact rfl | exact ⟨rfl, rfl⟩), (fun w' hw => CA1.out _), ?_⟩); go_simp; refine hK _ ?_; clear hK K
  refine bel_nil ?_
  intro gn w' hw hgn hnew
  refine frame_out fun K hK => ?_
  go_simp
  refine hK _ ?_
  clear hK K
  refine store_blk (cs' := #[.int .i64 PA.1, .int .i64 PA.2.1, .bool PA.2.2]) rfl rfl rfl rfl rfl hnew infoP rfl (ones3 _ _ _) ?_
  intro V6 hga hoth hbel
  have hb6 : Below W5.heap.size W5 V6 := hbel _ _ (by omega) hw
  have H6 : Hid (PvS w V6 wn p a n c A B G D ia ni ic ua uc va vc la ln lc za zn zc) := H5.out.on hb6
  have hd6 := hd5.on hb6 hd5.lt
  have hb4V6 : Below w4.heap.size w4 V6 := hb5.trans (hb6.mono hb5.size)
  clear hoth hbel hnew hgn hw hm hB hb6 H5 hd5 EU CT1 CA1
  generalize gn = ga at *
  clear hb5
  go_wp2_with fail
  have hm := H6.out.mkr
  have hB := H6.out.bel
  refine wp_region_made 11 mixes (by kernel_rfl) rfl rfl (fun a w => by go_simp <;> rfl) ?_
  simp only [List.take_succ_cons, List.take_zero, List.drop_succ_cons, List.drop_zero]
  repeat (refine bel_step rfl (fun K hK => ⟨_, (fun w' hw => by have q0 := (hm.on hw hm.lt).cell 0; have q1 := (hm.on hw hm.lt).cell 1; have q2 := (hm.on hw hm.lt).cell 2; have q3 := (hm.on hw hm.lt).cell 3; have q4 := (hm.on hw hm.lt).cell 4; have q5 := (hm.on hw hm.lt).cell 5; have q6 := (hm.on hw hm.lt).cell 6; have q7 := (hm.on hw hm.lt).cell 7; have q8 := (hm.on hw hm.lt).cell 8; have q9 := (hm.on hw hm.lt).cell 9; have q10 := (hm.on hw hm.lt).cell 10; have q11 := (hm.on hw hm.lt).cell 11; have q12 := (hm.on hw hm.lt).cell 12; have q13 := (hm.on hw hm.lt).cell 13; have q14 := (hm.on hw hm.lt).cell 14; have q15 := (hm.on hw hm.lt).cell 15; have q16 := (hm.on hw hm.lt).cell 16; have q17 := (hd6.on hw hd6.lt).cell 0; have q18 := (hd6.on hw hd6.lt).cell 1; have q19 := (hd6.on hw hd6.lt).cell 2; go_simp; exact rfl), ?_⟩); go_simp; refine hK _ ?_; clear hK K)
  refine bel_call rfl (fun K hK => ⟨_, _, _, (fun w' => by go_simp <;> first | exact rfl | exact ⟨rfl, rfl⟩), (fun w' hw => EV.out _ (hB.trans (hw.mono hB.size))), ?_⟩); go_simp; refine hK _ ?_; clear hK K
  repeat (refine bel_step rfl (fun K hK => ⟨_, (fun w' hw => by have q0 := (hm.on hw hm.lt).cell 0; have q1 := (hm.on hw hm.lt).cell 1; have q2 := (hm.on hw hm.lt).cell 2; have q3 := (hm.on hw hm.lt).cell 3; have q4 := (hm.on hw hm.lt).cell 4; have q5 := (hm.on hw hm.lt).cell 5; have q6 := (hm.on hw hm.lt).cell 6; have q7 := (hm.on hw hm.lt).cell 7; have q8 := (hm.on hw hm.lt).cell 8; have q9 := (hm.on hw hm.lt).cell 9; have q10 := (hm.on hw hm.lt).cell 10; have q11 := (hm.on hw hm.lt).cell 11; have q12 := (hm.on hw hm.lt).cell 12; have q13 := (hm.on hw hm.lt).cell 13; have q14 := (hm.on hw hm.lt).cell 14; have q15 := (hm.on hw hm.lt).cell 15; have q16 := (hm.on hw hm.lt).cell 16; have q17 := (hd6.on hw hd6.lt).cell 0; have q18 := (hd6.on hw hd6.lt).cell 1; have q19 := (hd6.on hw hd6.lt).cell 2; go_simp; exact rfl), ?_⟩); go_simp; refine hK _ ?_; clear hK K)
  refine bel_call rfl (fun K hK => ⟨_, _, _, (fun w' => by go_simp <;> first | exact rfl | exact ⟨rfl, rfl⟩), (fun w' hw => CT2.out _), ?_⟩); go_simp; refine hK _ ?_; clear hK K
  refine bel_call rfl (fun K hK => ⟨_, _, _, (fun w' => by go_simp <;> first | exact rfl | exact ⟨rfl, rfl⟩), (fun w' hw => CA2.out _), ?_⟩); go_simp; refine hK _ ?_; clear hK K
  refine bel_nil ?_
  intro gn w' hw hgn hnew
  refine frame_out fun K hK => ?_
  go_simp
  refine hK _ ?_
  clear hK K
  refine store_blk (cs' := #[.int .i64 PB.1, .int .i64 PB.2.1, .bool PB.2.2]) rfl rfl rfl rfl rfl hnew infoP rfl (ones3 _ _ _) ?_
  intro V7 hgb hoth hbel
  have hb6 : Below V6.heap.size V6 V7 := hbel _ _ (by omega) hw
  have H7 : Hid (PvS w V7 wn p a n c A B G D ia ni ic ua uc va vc la ln lc za zn zc) := H6.out.on hb6
  have hd7 := hd6.on hb6 hd6.lt
  have hga7 := hga.on hb6 hga.lt
  have hb4V7 : Below w4.heap.size w4 V7 := hb4V6.trans (hb6.mono hb4V6.size)
  clear hoth hbel hnew hgn hw hm hB hb6 H6 hd6 EV CT2 CA2
  generalize gn = gb at *
  clear hb4V6 hga
  go_wp2_with fail
  have hm := H7.out.mkr
  have hy := H7.out.sys
  have hB := H7.out.bel
  have hwp : IntKind.i64.wrap ((p : Int) + 1) = (p : Int) + 1 := IntWalk.i64_in _ (by omega)
  have hq1 : (p : Int) + 1 ≤ (wn : Int) := by have := HWN.out.1; omega
  have hq2 : (0 : Int) ≤ (p : Int) + 1 := by omega
  have hq3 : p + 1 ≤ wn := by have := HWN.out.1; omega
  have hsub : wn - (p + 1) = ln := by have := HWN.out.1; omega
  by_cases hc1 : cm = p + 1
  · have hl0 : ln = 0 := by omega
    subst hl0
    subst hc1
    refine wp_region_made 9 mixes (by kernel_rfl) rfl rfl (fun a w => by go_simp <;> rfl) ?_
    simp only [List.take_succ_cons, List.take_zero, List.drop_succ_cons, List.drop_zero]
    repeat (refine bel_step rfl (fun K hK => ⟨_, (fun w' hw => by have q0 := (hm.on hw hm.lt).cell 0; have q1 := (hm.on hw hm.lt).cell 1; have q2 := (hm.on hw hm.lt).cell 2; have q3 := (hm.on hw hm.lt).cell 3; have q4 := (hm.on hw hm.lt).cell 4; have q5 := (hm.on hw hm.lt).cell 5; have q6 := (hm.on hw hm.lt).cell 6; have q7 := (hm.on hw hm.lt).cell 7; have q8 := (hm.on hw hm.lt).cell 8; have q9 := (hm.on hw hm.lt).cell 9; have q10 := (hm.on hw hm.lt).cell 10; have q11 := (hm.on hw hm.lt).cell 11; have q12 := (hm.on hw hm.lt).cell 12; have q13 := (hm.on hw hm.lt).cell 13; have q14 := (hm.on hw hm.lt).cell 14; have q15 := (hm.on hw hm.lt).cell 15; have q16 := (hm.on hw hm.lt).cell 16; have q17 := (hy.on hw hy.lt).cell 0; have q18 := (hy.on hw hy.lt).cell 1; have q19 := (hy.on hw hy.lt).cell 2; go_simp; exact rfl), ?_⟩); go_simp; refine hK _ ?_; clear hK K)
    refine bel_call rfl (fun K hK => ⟨_, _, _, (fun w' => by go_simp <;> first | exact rfl | exact ⟨rfl, rfl⟩), (fun w' hw => EL.out _ _ _ (hB.trans (hw.mono hB.size)) ((HPT.out _ (hB.trans (hw.mono hB.size))).1 rfl)), ?_⟩); go_simp; refine hK _ ?_; clear hK K
    refine bel_nil ?_
    intro gn w' hw hgn hnew
    refine frame_out fun K hK => ?_
    go_simp
    refine hK _ ?_
    clear hK K
    refine store_blk (cs' := #[.int .i64 C0.1, .int .i64 C0.2.1, .bool C0.2.2]) rfl rfl rfl rfl rfl hnew infoP rfl (ones3 _ _ _) ?_
    intro V8 hgc hoth hbel
    have hb8 : Below V7.heap.size V7 V8 := hbel _ _ (by omega) hw
    have H8 : Hid (PvS w V8 wn p a n c A B G D ia ni ic ua uc va vc la 0 lc za zn zc) := H7.out.on hb8
    have hd8 := hd7.on hb8 hd7.lt
    have hga8 := hga7.on hb8 hga7.lt
    have hgb8 := hgb.on hb8 hgb.lt
    have hb48 : Below w4.heap.size w4 V8 := hb4V7.trans (hb8.mono hb4V7.size)
    have hgcl : V7.heap.size ≤ gn := by omega
    have hgal : ga < V7.heap.size := hga7.lt
    have hgbl : gb < V7.heap.size := hgb.lt
    have hdl : w4.heap.size < V7.heap.size := hd7.lt
    have hrsl : w.heap.size + 1 + 1 < V7.heap.size := H7.out.res.lt
    clear hoth hbel hnew hgn hw hm hy hB hb8 H7 hd7 hga7 hgb hb4V7 EL HPT
    generalize gn = gc at *
    have hz8 : V8.cell? ⟨w.heap.size + 1, 16, none⟩ = some (.slice za zn zc) := H8.out.mkr.cell 16
    go_wp2_with (refine load_blk rfl rfl rfl hgc Tryz.underlying35 infoP ?_)
    clear hz8
    refine (EZ1.out _ H8.out.bel hb48).mono ?_
    rintro e w9 ⟨rfl, hb9⟩
    have H9 : Hid (PvS w w9 wn p a n c A B G D ia ni ic ua uc va vc la 0 lc za zn zc) := H8.out.on hb9
    have hd9 := hd8.on hb9 hd8.lt
    have hga9 := hga8.on hb9 hga8.lt
    have hgb9 := hgb8.on hb9 hgb8.lt
    have hgc9 := hgc.on hb9 hgc.lt
    clear hb9 H8 hd8 hga8 hgb8 hgc hb48 EZ1
    go_wp2_with (first | (refine store_blk (cs' := #[.int .i64 C1.1, .int .i64 C1.2.1, .bool C1.2.2]) rfl rfl rfl rfl rfl hgc9 infoP rfl (ones3 _ _ _) ?_; intro V9 hgcV hoth hbel; have hdV := hoth _ _ _ (by omega) hd9; have hgaV := hoth _ _ _ (by omega) hga9; have hgbV := hoth _ _ _ (by omega) hgb9; have HV9 : Hid (PvS w V9 wn p a n c A B G D ia ni ic ua uc va vc la 0 lc za zn zc) := ⟨hbel _ _ (by omega) H9.out.bel, hoth _ _ _ (by omega) H9.out.sys, hoth _ _ _ (by omega) H9.out.mkr, hoth _ _ _ (by omega) H9.out.res⟩; obtain ⟨W10, hW10, hb10, hx1, hx2⟩ := boxes1r V9 3 35 #[.int .i64 z, .int .i64 r] #[.int .i64 PA.1, .int .i64 PA.2.1, .bool PA.2.2, .int .i64 PB.1, .int .i64 PB.2.1, .bool PB.2.2]; have hgaA := hgaV.alloc (.cells #[.int .i64 z, .int .i64 r] 3); have hgbA := hgbV.alloc (.cells #[.int .i64 z, .int .i64 r] 3); clear hoth hbel H9 hd9 hga9 hgb9 hgc9) | (refine load_blk rfl rfl rfl hgcV Tryz.underlying35 infoP ?_) | (refine load_blk rfl rfl rfl hgaA Tryz.underlying35 infoP ?_) | (refine load_blk rfl rfl rfl hgbA Tryz.underlying35 infoP ?_))
    clear hW10 hgaA hgbA
    refine (E2.out _ _ W10 hx1 hx2).mono ?_
    rintro e w11 ⟨rfl, hb11⟩
    have hb1 := hb10.trans (hb11.mono hb10.size)
    have H11 : Hid (PvS w w11 wn p a n c A B G D ia ni ic ua uc va vc la 0 lc za zn zc) := HV9.out.on hb1
    have hd11 := hdV.on hb1 hdV.lt
    have hga11 := hgaV.on hb1 hgaV.lt
    have hgb11 := hgbV.on hb1 hgbV.lt
    have hgc11 := hgcV.on hb1 hgcV.lt
    clear hb10 hb11 hx1 hx2 hb1 HV9 hdV hgaV hgbV hgcV E2
    go_wp2_with (refine store_blk (cs' := #[.int .i64 C2.1, .int .i64 C2.2.1, .bool C2.2.2]) rfl rfl rfl rfl rfl hgc11 infoP rfl (ones3 _ _ _) ?_; intro V11 hgcX hoth hbel; have hdX := hoth _ _ _ (by omega) hd11; have hgaX := hoth _ _ _ (by omega) hga11; have hgbX := hoth _ _ _ (by omega) hgb11; have HX11 : Hid (PvS w V11 wn p a n c A B G D ia ni ic ua uc va vc la 0 lc za zn zc) := ⟨hbel _ _ (by omega) H11.out.bel, hoth _ _ _ (by omega) H11.out.sys, hoth _ _ _ (by omega) H11.out.mkr, hoth _ _ _ (by omega) H11.out.res⟩; clear hoth hbel)
    clear H11 hd11 hga11 hgb11 hgc11
    have T0 : Below V11.heap.size V11 V11.drew := (Below.refl _ _).drew
    refine wp_region_last [(0, false), (1, false), (2, false), (4, false), (3, true), (5, true), (6, true), (7, true)] 8 (fun wz => Below V11.heap.size V11 wz) mixes (by kernel_rfl) T0 ?_
    repeat (refine ord_float rfl rfl (fun K hK => ⟨_, (fun w' hw => by have q0 := (hgcX.on hw hgcX.lt).cell 0; have q1 :=  (hgcX.on hw hgcX.lt).cell 1; have q2 :=  (hgcX.on hw hgcX.lt).cell 2; have q3 :=  (hdX.on hw hdX.lt).cell 0; have q4 :=  (hdX.on hw hdX.lt).cell 1; have q5 :=  (hdX.on hw hdX.lt).cell 2; go_simp; exact rfl), ?_⟩); go_simp; refine hK _ ?_; clear hK K)
    refine ord_call rfl rfl (fun K hK => ⟨_, _, (by go_simp <;> first | exact rfl | exact ⟨rfl, rfl⟩), ?_⟩)
    refine (CM.out _).mono ?_
    rintro e u1 ⟨rfl, rfl⟩
    refine ⟨_, rfl, T0, ?_⟩
    go_simp
    refine hK _ _ ?_
    clear hK K
    refine ord_call rfl rfl (fun K hK => ⟨_, _, (by go_simp <;> first | exact rfl | exact ⟨rfl, rfl⟩), ?_⟩)
    refine (CT3.out _).mono ?_
    rintro e u2 ⟨rfl, hu2⟩
    have T2 := below_then T0 hu2
    refine ⟨_, rfl, T2, ?_⟩
    go_simp
    refine hK _ _ ?_
    clear hK K
    refine ord_call rfl rfl (fun K hK => ⟨_, _, (by go_simp <;> first | exact rfl | exact ⟨rfl, rfl⟩), ?_⟩)
    refine (CN.out _).mono ?_
    rintro e u3 ⟨rfl, hu3⟩
    have T3 := below_then T2 hu3
    refine ⟨_, rfl, T3, ?_⟩
    go_simp
    refine hK _ _ ?_
    clear hK K
    refine ord_call rfl rfl (fun K hK => ⟨_, _, (by go_simp <;> first | exact rfl | exact ⟨rfl, rfl⟩), ?_⟩)
    refine (CA3.out _).mono ?_
    rintro e u4 ⟨rfl, hu4⟩
    have T4 := below_then T3 hu4
    refine ⟨_, rfl, T4, ?_⟩
    go_simp
    refine hK _ _ ?_
    clear hK K
    refine ord_nil ?_
    have hga12 := hgaX.on T4 hgaX.lt
    have hgb12 := hgbX.on T4 hgbX.lt
    have hgc12 := hgcX.on T4 hgcX.lt
    have hrs12 := HX11.out.res.on T4 HX11.out.res.lt
    have hB12 := HX11.out.bel.trans (T4.mono HX11.out.bel.size)
    refine last_storeB (cs' := #[.int .i64 PC.1, .int .i64 PC.2.1, .bool PC.2.2]) rfl rfl rfl rfl rfl rfl hgc12 infoP rfl (ones3 _ _ _) ?_
    intro V13 hgc13 _ hoth hbel
    have hga13 := hoth _ _ _ (by omega) hga12
    have hgb13 := hoth _ _ _ (by omega) hgb12
    have hrs13 := hoth _ _ _ (by omega) hrs12
    have hB13 := hbel _ _ (by omega) hB12
    clear hoth hbel hga12 hgb12 hgc12 hrs12 hB12 T0 T2 T3 T4 hu2 hu3 hu4 HX11 hgaX hgbX hgcX hdX CM CT3 CN CA3
    go_wp2_with (first | (refine load_blk rfl rfl rfl hga13 Tryz.underlying35 infoP ?_) | (refine load_blk rfl rfl rfl hgb13 Tryz.underlying35 infoP ?_) | (refine load_blk rfl rfl rfl hgc13 Tryz.underlying35 infoP ?_) | (refine store_blkS (cs' := prfC PA PB PC) rfl rfl rfl rfl rfl hrs13 infoPr rfl (ones9 _ _ _) ?_; intro V14 h14 hheap hoth hbel; have hb14 := hbel _ _ (by omega) hB13; clear hoth hbel hheap))
    refine bodyPost_ret_by (result_Btmp rfl rfl rfl h14 Tryz.underlying44 infoPr) rfl ⟨rfl, hb14⟩
  · skip
    refine wp_region_made 9 mixes (by kernel_rfl) rfl rfl (fun a w => by go_simp <;> rfl) ?_
    simp only [List.take_succ_cons, List.take_zero, List.drop_succ_cons, List.drop_zero]
    repeat (refine bel_step rfl (fun K hK => ⟨_, (fun w' hw => by have q0 := (hm.on hw hm.lt).cell 0; have q1 := (hm.on hw hm.lt).cell 1; have q2 := (hm.on hw hm.lt).cell 2; have q3 := (hm.on hw hm.lt).cell 3; have q4 := (hm.on hw hm.lt).cell 4; have q5 := (hm.on hw hm.lt).cell 5; have q6 := (hm.on hw hm.lt).cell 6; have q7 := (hm.on hw hm.lt).cell 7; have q8 := (hm.on hw hm.lt).cell 8; have q9 := (hm.on hw hm.lt).cell 9; have q10 := (hm.on hw hm.lt).cell 10; have q11 := (hm.on hw hm.lt).cell 11; have q12 := (hm.on hw hm.lt).cell 12; have q13 := (hm.on hw hm.lt).cell 13; have q14 := (hm.on hw hm.lt).cell 14; have q15 := (hm.on hw hm.lt).cell 15; have q16 := (hm.on hw hm.lt).cell 16; have q17 := (hy.on hw hy.lt).cell 0; have q18 := (hy.on hw hy.lt).cell 1; have q19 := (hy.on hw hy.lt).cell 2; go_simp; exact rfl), ?_⟩); go_simp; refine hK _ ?_; clear hK K)
    refine bel_call rfl (fun K hK => ⟨_, _, _, (fun w' => by go_simp <;> first | exact rfl | exact ⟨rfl, rfl⟩), (fun w' hw => EL.out _ _ _ (hB.trans (hw.mono hB.size)) (HPT.out _ (hB.trans (hw.mono hB.size))).2), ?_⟩); go_simp; refine hK _ ?_; clear hK K
    refine bel_nil ?_
    intro gn w' hw hgn hnew
    refine frame_out fun K hK => ?_
    go_simp
    refine hK _ ?_
    clear hK K
    refine store_blk (cs' := #[.int .i64 C0.1, .int .i64 C0.2.1, .bool C0.2.2]) rfl rfl rfl rfl rfl hnew infoP rfl (ones3 _ _ _) ?_
    intro V8 hgc hoth hbel
    have hb8 : Below V7.heap.size V7 V8 := hbel _ _ (by omega) hw
    have H8 : Hid (PvS w V8 wn p a n c A B G D ia ni ic ua uc va vc la ln lc za zn zc) := H7.out.on hb8
    have hd8 := hd7.on hb8 hd7.lt
    have hga8 := hga7.on hb8 hga7.lt
    have hgb8 := hgb.on hb8 hgb.lt
    have hb48 : Below w4.heap.size w4 V8 := hb4V7.trans (hb8.mono hb4V7.size)
    have hgcl : V7.heap.size ≤ gn := by omega
    have hgal : ga < V7.heap.size := hga7.lt
    have hgbl : gb < V7.heap.size := hgb.lt
    have hdl : w4.heap.size < V7.heap.size := hd7.lt
    have hrsl : w.heap.size + 1 + 1 < V7.heap.size := H7.out.res.lt
    clear hoth hbel hnew hgn hw hm hy hB hb8 H7 hd7 hga7 hgb hb4V7 EL HPT
    generalize gn = gc at *
    have hz8 : V8.cell? ⟨w.heap.size + 1, 16, none⟩ = some (.slice za zn zc) := H8.out.mkr.cell 16
    go_wp2_with (refine load_blk rfl rfl rfl hgc Tryz.underlying35 infoP ?_)
    clear hz8
    refine (EZ1.out _ H8.out.bel hb48).mono ?_
    rintro e w9 ⟨rfl, hb9⟩
    have H9 : Hid (PvS w w9 wn p a n c A B G D ia ni ic ua uc va vc la ln lc za zn zc) := H8.out.on hb9
    have hd9 := hd8.on hb9 hd8.lt
    have hga9 := hga8.on hb9 hga8.lt
    have hgb9 := hgb8.on hb9 hgb8.lt
    have hgc9 := hgc.on hb9 hgc.lt
    clear hb9 H8 hd8 hga8 hgb8 hgc hb48 EZ1
    go_wp2_with (first | (refine store_blk (cs' := #[.int .i64 C1.1, .int .i64 C1.2.1, .bool C1.2.2]) rfl rfl rfl rfl rfl hgc9 infoP rfl (ones3 _ _ _) ?_; intro V9 hgcV hoth hbel; have hdV := hoth _ _ _ (by omega) hd9; have hgaV := hoth _ _ _ (by omega) hga9; have hgbV := hoth _ _ _ (by omega) hgb9; have HV9 : Hid (PvS w V9 wn p a n c A B G D ia ni ic ua uc va vc la ln lc za zn zc) := ⟨hbel _ _ (by omega) H9.out.bel, hoth _ _ _ (by omega) H9.out.sys, hoth _ _ _ (by omega) H9.out.mkr, hoth _ _ _ (by omega) H9.out.res⟩; obtain ⟨W10, hW10, hb10, hx1, hx2⟩ := boxes1r V9 3 35 #[.int .i64 z, .int .i64 r] #[.int .i64 PA.1, .int .i64 PA.2.1, .bool PA.2.2, .int .i64 PB.1, .int .i64 PB.2.1, .bool PB.2.2]; have hgaA := hgaV.alloc (.cells #[.int .i64 z, .int .i64 r] 3); have hgbA := hgbV.alloc (.cells #[.int .i64 z, .int .i64 r] 3); clear hoth hbel H9 hd9 hga9 hgb9 hgc9) | (refine load_blk rfl rfl rfl hgcV Tryz.underlying35 infoP ?_) | (refine load_blk rfl rfl rfl hgaA Tryz.underlying35 infoP ?_) | (refine load_blk rfl rfl rfl hgbA Tryz.underlying35 infoP ?_))
    clear hW10 hgaA hgbA
    refine (E2.out _ _ W10 hx1 hx2).mono ?_
    rintro e w11 ⟨rfl, hb11⟩
    have hb1 := hb10.trans (hb11.mono hb10.size)
    have H11 : Hid (PvS w w11 wn p a n c A B G D ia ni ic ua uc va vc la ln lc za zn zc) := HV9.out.on hb1
    have hd11 := hdV.on hb1 hdV.lt
    have hga11 := hgaV.on hb1 hgaV.lt
    have hgb11 := hgbV.on hb1 hgbV.lt
    have hgc11 := hgcV.on hb1 hgcV.lt
    clear hb10 hb11 hx1 hx2 hb1 HV9 hdV hgaV hgbV hgcV E2
    go_wp2_with (refine store_blk (cs' := #[.int .i64 C2.1, .int .i64 C2.2.1, .bool C2.2.2]) rfl rfl rfl rfl rfl hgc11 infoP rfl (ones3 _ _ _) ?_; intro V11 hgcX hoth hbel; have hdX := hoth _ _ _ (by omega) hd11; have hgaX := hoth _ _ _ (by omega) hga11; have hgbX := hoth _ _ _ (by omega) hgb11; have HX11 : Hid (PvS w V11 wn p a n c A B G D ia ni ic ua uc va vc la ln lc za zn zc) := ⟨hbel _ _ (by omega) H11.out.bel, hoth _ _ _ (by omega) H11.out.sys, hoth _ _ _ (by omega) H11.out.mkr, hoth _ _ _ (by omega) H11.out.res⟩; clear hoth hbel)
    clear H11 hd11 hga11 hgb11 hgc11
    have T0 : Below V11.heap.size V11 V11.drew := (Below.refl _ _).drew
    refine wp_region_last [(0, false), (1, false), (2, false), (4, false), (3, true), (5, true), (6, true), (7, true)] 8 (fun wz => Below V11.heap.size V11 wz) mixes (by kernel_rfl) T0 ?_
    repeat (refine ord_float rfl rfl (fun K hK => ⟨_, (fun w' hw => by have q0 := (hgcX.on hw hgcX.lt).cell 0; have q1 :=  (hgcX.on hw hgcX.lt).cell 1; have q2 :=  (hgcX.on hw hgcX.lt).cell 2; have q3 :=  (hdX.on hw hdX.lt).cell 0; have q4 :=  (hdX.on hw hdX.lt).cell 1; have q5 :=  (hdX.on hw hdX.lt).cell 2; go_simp; exact rfl), ?_⟩); go_simp; refine hK _ ?_; clear hK K)
    refine ord_call rfl rfl (fun K hK => ⟨_, _, (by go_simp <;> first | exact rfl | exact ⟨rfl, rfl⟩), ?_⟩)
    refine (CM.out _).mono ?_
    rintro e u1 ⟨rfl, rfl⟩
    refine ⟨_, rfl, T0, ?_⟩
    go_simp
    refine hK _ _ ?_
    clear hK K
    refine ord_call rfl rfl (fun K hK => ⟨_, _, (by go_simp <;> first | exact rfl | exact ⟨rfl, rfl⟩), ?_⟩)
    refine (CT3.out _).mono ?_
    rintro e u2 ⟨rfl, hu2⟩
    have T2 := below_then T0 hu2
    refine ⟨_, rfl, T2, ?_⟩
    go_simp
    refine hK _ _ ?_
    clear hK K
    refine ord_call rfl rfl (fun K hK => ⟨_, _, (by go_simp <;> first | exact rfl | exact ⟨rfl, rfl⟩), ?_⟩)
    refine (CN.out _).mono ?_
    rintro e u3 ⟨rfl, hu3⟩
    have T3 := below_then T2 hu3
    refine ⟨_, rfl, T3, ?_⟩
    go_simp
    refine hK _ _ ?_
    clear hK K
    refine ord_call rfl rfl (fun K hK => ⟨_, _, (by go_simp <;> first | exact rfl | exact ⟨rfl, rfl⟩), ?_⟩)
    refine (CA3.out _).mono ?_
    rintro e u4 ⟨rfl, hu4⟩
    have T4 := below_then T3 hu4
    refine ⟨_, rfl, T4, ?_⟩
    go_simp
    refine hK _ _ ?_
    clear hK K
    refine ord_nil ?_
    have hga12 := hgaX.on T4 hgaX.lt
    have hgb12 := hgbX.on T4 hgbX.lt
    have hgc12 := hgcX.on T4 hgcX.lt
    have hrs12 := HX11.out.res.on T4 HX11.out.res.lt
    have hB12 := HX11.out.bel.trans (T4.mono HX11.out.bel.size)
    refine last_storeB (cs' := #[.int .i64 PC.1, .int .i64 PC.2.1, .bool PC.2.2]) rfl rfl rfl rfl rfl rfl hgc12 infoP rfl (ones3 _ _ _) ?_
    intro V13 hgc13 _ hoth hbel
    have hga13 := hoth _ _ _ (by omega) hga12
    have hgb13 := hoth _ _ _ (by omega) hgb12
    have hrs13 := hoth _ _ _ (by omega) hrs12
    have hB13 := hbel _ _ (by omega) hB12
    clear hoth hbel hga12 hgb12 hgc12 hrs12 hB12 T0 T2 T3 T4 hu2 hu3 hu4 HX11 hgaX hgbX hgcX hdX CM CT3 CN CA3
    go_wp2_with (first | (refine load_blk rfl rfl rfl hga13 Tryz.underlying35 infoP ?_) | (refine load_blk rfl rfl rfl hgb13 Tryz.underlying35 infoP ?_) | (refine load_blk rfl rfl rfl hgc13 Tryz.underlying35 infoP ?_) | (refine store_blkS (cs' := prfC PA PB PC) rfl rfl rfl rfl rfl hrs13 infoPr rfl (ones9 _ _ _) ?_; intro V14 h14 hheap hoth hbel; have hb14 := hbel _ _ (by omega) hB13; clear hoth hbel hheap))
    refine bodyPost_ret_by (result_Btmp rfl rfl rfl h14 Tryz.underlying44 infoPr) rfl ⟨rfl, hb14⟩

end Go.Proofs.YthnahalboomkoaaGreat
