/-
  The walk of the program's proof without a witness: over what is told of how often each point is the base.
  (-DROP-: what the seat lacks is left out.)
-/
import Derived.Test.YtbkfdafdchjakaaJoined29
import Derived.Test.YtbkfdafdchjakaaJoined15
import Derived.Test.YtbkfdafdchjakaaJoined21
import Derived.Test.YtbkfdafdchjakaaJoined8
import Derived.Test.YtbkfdafdchjakaaJoined10

namespace Go.Proofs.Ytbkfdafdchjakaa
open Go.RowKit

theorem infoPrf : (Try.prog.info? 44).map (·.size) = some 9 := by kernel_rfl

theorem onesPrf (A B C : Pt) : (prfC A B C).all (·.oneCell') = true := by simp [prfC, Value.oneCell']

/-- The rest of a row of numbers, behind its first. -/
theorem ints_rest {w : World} {g c p : Nat} {f : Nat → Int} (h : ∀ j, j < p + 1 → w.cell? ⟨g, j, none⟩ = some (.int .i64 (f j))) (hg : g < c) : IntsAt w (some ⟨g, 1, none⟩) p c (fun j => f (j + 1)) := fun j hj => ⟨g, 1, rfl, hg, by
  rw [Nat.add_comm 1 j]
  exact h (j + 1) (by omega)⟩
theorem ints_none {w : World} {a : Option Addr} {c : Nat} {f : Nat → Int} : IntsAt w a 0 c f := fun j hj => absurd hj (by omega)

set_option maxHeartbeats 12800000 in
set_option maxRecDepth 100000 in
theorem iFake_of (hM : MulC) (wi pu : Int) (hwf : (Lit.int .i64 wi).wf = true) (a : Option Addr) (n c : Nat) (hn : n ≤ 9223372036854775807) (ls : List (List Int)) (hz : ∀ j, (ls.getD j []).length ≤ 9223372036854775807) (ta al be ga de : Int) (am : Option Addr) (cm : Nat) (m : List Int) (hm : m.length ≤ 9223372036854775807) (x y : Int) (w : World) (hA : NAt 3 w w.heap.size (.slice a n c) n ls) (hB : IntsAt w am m.length w.heap.size (fun j => m.getD j 0)) :
    Calls Try.prog 10 #[.agg #[.int .i64 wi, .int .i64 pu, .slice a n c], .agg #[.int .i64 ta, .int .i64 al, .int .i64 be, .int .i64 ga, .int .i64 de], .slice am m.length cm, .int .i64 x, .int .i64 y] w fun e w' => e = .returned (.tuple #[.agg (prfC (fkPt (fkB wi pu n ls ta al be ga de m.length x y) x) (fkPt (fkB wi pu n ls ta al be ga de m.length x y) y) (fkPt (fkB wi pu n ls ta al be ga de m.length x y) (fkV ls n ta al be de (fun j => m.getD j 0) pu.toNat x y))), .bool (fkB wi pu n ls ta al be ga de m.length x y)]) ∧ Below w.heap.size w w' := by
  obtain ⟨W, hW, hb, hs, hr, ho⟩ := boxes2r w 26 31 44 #[.int .i64 wi, .int .i64 pu, .slice a n c] #[.int .i64 ta, .int .i64 al, .int .i64 be, .int .i64 ga, .int .i64 de] #[.int .i64 0, .int .i64 0, .bool false, .int .i64 0, .int .i64 0, .bool false, .int .i64 0, .int .i64 0, .bool false]
  have CM : Hid (∀ V, Below w.heap.size w V → Calls Try.prog 23 #[.agg #[.int .i64 ta, .int .i64 al, .int .i64 be, .int .i64 ga, .int .i64 de], .agg #[.int .i64 wi, .int .i64 pu, .slice a n c]] V fun e w' => MulEnd V wi pu n ls ta al be ga de e w') := fun V hV => hM wi pu hwf a n c hn ls hz ta al be ga de V ((hA.on hV).wide hV.size)
  have CB : Hid (∀ w, Calls Try.prog 25 #[] w fun e w' => e = .returned (.agg #[.int .i64 8445, .int .i64 859, .bool false]) ∧ Below w.heap.size w w') := iBase_any
  have CT : Hid (∀ x w, Calls Try.prog 24 #[.int .i64 x, .agg #[.int .i64 8445, .int .i64 859, .bool false]] w fun e w' => e = .returned (.agg #[.int .i64 (gx x).1, .int .i64 (gx x).2.1, .bool (gx x).2.2]) ∧ Below w.heap.size w w') := fun x w => by
    have h := iTimes_any x pB w
    rw [key_times] at h
    exact h
  have CX : Hid (∀ w, Calls Try.prog 27 #[.int .i64 x] w fun e w' => e = .returned (.bool (scalB x)) ∧ w = w') := iFactor_any x
  have CY : Hid (∀ w, Calls Try.prog 27 #[.int .i64 y] w fun e w' => e = .returned (.bool (scalB y)) ∧ w = w') := iFactor_any y
  have HBM : Hid (IntsAt w am m.length w.heap.size (fun j => m.getD j 0)) := hB
  obtain ⟨q, hq⟩ : ∃ q, q = fkB wi pu n ls ta al be ga de m.length x y := ⟨_, rfl⟩
  obtain ⟨v, hv⟩ : ∃ v, v = fkV ls n ta al be de (fun j => m.getD j 0) pu.toNat x y := ⟨_, rfl⟩
  rw [← hq, ← hv]
  have HQ : Hid (q = (toxB wi pu n ls ta al be ga de && (scalB x && (scalB y && decide ((m.length : Int) = pu))))) := hq
  have HV : Hid (v = fkV ls n ta al be de (fun j => m.getD j 0) pu.toNat x y) := hv
  have HN : Hid (∀ (e : Ending) (w' : World), q = false → e = .returned (.tuple #[.agg #[.int .i64 0, .int .i64 0, .bool false, .int .i64 0, .int .i64 0, .bool false, .int .i64 0, .int .i64 0, .bool false], .bool false]) → Below w.heap.size w w' → e = .returned (.tuple #[.agg (prfC (fkPt q x) (fkPt q y) (fkPt q v)), .bool q]) ∧ Below w.heap.size w w') := fun e w' hq h1 h2 => by subst hq; exact ⟨h1, h2⟩
  have H0 : Hid (Below w.heap.size w W ∧ Blk W w.heap.size 26 #[.int .i64 wi, .int .i64 pu, .slice a n c] ∧ Blk W (w.heap.size + 1) 31 #[.int .i64 ta, .int .i64 al, .int .i64 be, .int .i64 ga, .int .i64 de] ∧ Blk W (w.heap.size + 1 + 1) 44 #[.int .i64 0, .int .i64 0, .bool false, .int .i64 0, .int .i64 0, .bool false, .int .i64 0, .int .i64 0, .bool false]) := ⟨hb, hs, hr, ho⟩
  have hs1 : w.heap.size + 1 + 1 < W.heap.size := ho.lt
  clear hA hb hz ho hn hwf hB hq hv
  have HML : Hid (m.length ≤ 9223372036854775807) := hm
  obtain ⟨ml, hml⟩ : ∃ ml, ml = m.length := ⟨_, rfl⟩
  rw [← hml] at HBM HQ hm ⊢
  clear hml
  go_enter Try.func10, Try.ntmps10
  go_wp2_with (first | (refine load_blk rfl rfl rfl hs Try.underlying26 infoSy ?_) | (refine load_blk rfl rfl rfl hr Try.underlying31 infoTxI ?_))
  clear hW hs hr
  refine (CM.out _ H0.out.1).mono ?_
  rintro e w1 (⟨h0, rfl, hb1⟩ | ⟨hok, U, V, I, L, Z, rfl, hF, hb1⟩)
  · have hres := H0.out.2.2.2.on hb1 H0.out.2.2.2.lt
    have HB1 : Hid (Below w.heap.size w w1) := H0.out.1.trans (hb1.mono H0.out.1.size)
    have hres1 := hres.lt
    have HE : Hid (q = false) := by show _ = _; rw [HQ.out, h0]; rfl
    clear h0 HQ HV
    obtain ⟨V0, hV0, hb0, hs0⟩ := box1 w1 65 #[.slice none 0 0, .slice none 0 0, .slice none 0 0, .slice none 0 0, .slice none 0 0]
    go_wp2_with (first | (refine store_blkS (cs' := #[.slice none 0 0, .slice none 0 0, .slice none 0 0, .slice none 0 0, .slice none 0 0]) rfl rfl rfl rfl rfl hs0 infoMu rfl (ones5s _ _ _ _ _ _ _ _ _ _ _ _ _ _ _) ?_; intro V4 hq4 hheap hoth hbel; have hb4 := hbel _ _ (Nat.le_refl _) hb0; clear hoth hbel hheap; have hres2 := hres.on hb4 hres.lt) | (refine store_blkS (cs' := #[.int .i64 0, .int .i64 0, .bool false, .int .i64 0, .int .i64 0, .bool false, .int .i64 0, .int .i64 0, .bool false]) rfl rfl rfl rfl rfl hres2 infoPrf rfl (onesPrf (0, 0, false) (0, 0, false) (0, 0, false)) ?_; intro V8 h8 hheap hoth hbel; have hb8 := hbel _ _ (by omega) (HB1.out.trans (hb4.mono HB1.out.size)); clear hoth hbel hheap))
    refine bodyPost_ret_by (result_Btmp rfl rfl rfl h8 Try.underlying44 infoPrf) rfl (HN.out _ _ HE.out rfl hb8)
  · obtain ⟨hso, hTx⟩ := tox_iff.1 hok
    have hS := sides_of hso
    obtain ⟨p, hp⟩ : ∃ p, pu.toNat = p := ⟨_, rfl⟩
    rw [hp] at hS hF HV
    have hpw : p + 1 ≤ 20 := by have := hS.told; have := hS.one.2; omega
    have epu : pu = (p : Int) := hS.pu
    have hal : 1 ≤ al ∧ al ≤ 1008 := hTx.aOk
    have hga : 1 ≤ ga ∧ ga ≤ 1008 := hTx.gOk
    rw [hok] at HQ
    subst epu
    have hlen : (kIn ls n ta al be (scInv ga) (p + 1)).length = p + 1 := by unfold kIn; rw [zls_length]
    have r2 : RowZs W.heap.size w1 I (kIn ls n ta al be (scInv ga) (p + 1)) := owns_len (hF.row 2 (by decide)) (by show p + 1 = _; rw [hlen])
    obtain ⟨ua, uc, hUv⟩ := row_form (hF.row 0 (by decide))
    replace hUv : U = .slice ua wi.toNat uc := hUv
    obtain ⟨va, vc, hVv⟩ := row_form (hF.row 1 (by decide))
    replace hVv : V = .slice va wi.toNat vc := hVv
    obtain ⟨la, lc, hLv⟩ := row_form (hF.row 3 (by decide))
    replace hLv : L = .slice la (wi.toNat - p - 1) lc := hLv
    obtain ⟨za, zc, hZv⟩ := row_form (hF.row 4 (by decide))
    replace hZv : Z = .slice za (n - 1) zc := hZv
    obtain ⟨gI, ic, hIv, hIB, hIlt, _⟩ := r2.cellZ (j := 0) (by rw [hlen]; omega)
    rw [hlen] at hIv
    have hIc : ∀ j, j < p + 1 → w1.cell? ⟨gI, j, none⟩ = some (.int .i64 (kBy ls n ta al be (scInv ga) j)) := fun j hj => by
      obtain ⟨g2, c2, e2, _, _, h2, _⟩ := r2.cellZ (j := j) (by rw [hlen]; exact hj)
      rw [hIv] at e2
      injection e2 with e3
      injection e3 with e4
      injection e4 with e5
      subst e5
      rw [h2]
      unfold kIn
      rw [zls_at _ hj]
    have hcap : p + 1 ≤ ic := by
      have h := r2
      rw [hIv] at h
      have := RowZs.cap h
      omega
    subst hUv hVv hLv hZv hIv
    generalize wi.toNat = wn at *
    generalize wn - p - 1 = ln at *
    generalize n - 1 = zn at *
    have HC : Hid (∀ X, Below w1.heap.size w1 X → (∀ j, j < p + 1 → X.cell? ⟨gI, j, none⟩ = some (.int .i64 (kBy ls n ta al be (scInv ga) j)))) := fun X hX j hj => (hX.cell (p := ⟨gI, j, none⟩) hIlt).trans (hIc j hj)
    have HGI : Hid (gI < w1.heap.size) := hIlt
    have HQV : Hid (gx (scMul (dotN (fun j => ([x, -al, -ga] : List Int).getD j 0) (fun j => ([y, be, scAdd (kBy ls n ta al be (scInv ga) 0) (dotN (fun j => kBy ls n ta al be (scInv ga) (j + 1)) (fun j => m.getD j 0) p)] : List Int).getD j 0) 3) (scInv de)) = gx v) := by
      show _ = _
      rw [HV.out]
      exact gx_dp (fkProg_dp ls n ta al be de hga _ p x y)
    have HB1 : Hid (Below w.heap.size w w1 ∧ Blk w1 (w.heap.size + 1) 31 #[.int .i64 ta, .int .i64 al, .int .i64 be, .int .i64 ga, .int .i64 de] ∧ Blk w1 (w.heap.size + 1 + 1) 44 #[.int .i64 0, .int .i64 0, .bool false, .int .i64 0, .int .i64 0, .bool false, .int .i64 0, .int .i64 0, .bool false] ∧ Blk w1 w.heap.size 26 #[.int .i64 wi, .int .i64 (p : Int), .slice a n c]) := ⟨H0.out.1.trans (hb1.mono H0.out.1.size), H0.out.2.2.1.on hb1 H0.out.2.2.1.lt, H0.out.2.2.2.on hb1 H0.out.2.2.2.lt, H0.out.2.1.on hb1 H0.out.2.1.lt⟩
    have hs2 : w.heap.size + 1 + 1 < w1.heap.size := HB1.out.2.2.1.lt
    have hal' : IntKind.i64.wrap (-al) = -al := IntWalk.i64_in _ (by omega)
    have hga' : IntKind.i64.wrap (-ga) = -ga := IntWalk.i64_in _ (by omega)
    clear H0 hb1 hs1 CM hok hso hTx hS hF hp HV r2 hlen hIB hIlt hIc hal hga
    generalize hkb : (fun j => kBy ls n ta al be (scInv ga) j) = kb
    have hkb0 : kBy ls n ta al be (scInv ga) = kb := hkb
    rw [hkb0] at HC HQV
    clear hkb hkb0
    obtain ⟨V0, hV0, hb0, hs0⟩ := box1 w1 65 #[.slice none 0 0, .slice none 0 0, .slice none 0 0, .slice none 0 0, .slice none 0 0]
    go_wp2_with (refine store_blkS (cs' := #[.slice ua wn uc, .slice va wn vc, .slice (some ⟨gI, 0, none⟩) (p + 1) ic, .slice la ln lc, .slice za zn zc]) rfl rfl rfl rfl rfl hs0 infoMu rfl (ones5s _ _ _ _ _ _ _ _ _ _ _ _ _ _ _) ?_; intro w3 hq3 hheap hoth hbel; have hb3 := hbel _ _ (Nat.le_refl _) hb0; clear hoth hbel hheap)
    have HB3 : Hid (Below w.heap.size w w3) := HB1.out.1.trans (hb3.mono HB1.out.1.size)
    have ht3 := HB1.out.2.1.on hb3 HB1.out.2.1.lt
    have hm3 := HB1.out.2.2.1.on hb3 HB1.out.2.2.1.lt
    have hy3 := HB1.out.2.2.2.on hb3 HB1.out.2.2.2.lt
    have hs3 : w1.heap.size < w3.heap.size := hq3.lt
    clear hV0 hb0 hs0 HB1
    refine (CX.out _).mono ?_
    rintro e w4 ⟨rfl, rfl⟩
    cases hx : scalB x
    · have HE : Hid (q = false) := by show _ = _; rw [HQ.out, hx]; rfl
      clear HQ HQV HC
      go_wp2_with (refine store_blkS (cs' := #[.int .i64 0, .int .i64 0, .bool false, .int .i64 0, .int .i64 0, .bool false, .int .i64 0, .int .i64 0, .bool false]) rfl rfl rfl rfl rfl hm3 infoPrf rfl (onesPrf (0, 0, false) (0, 0, false) (0, 0, false)) ?_; intro V8 h8 hheap hoth hbel; have hb8 := hbel _ _ (by omega) HB3.out; clear hoth hbel hheap)
      refine bodyPost_ret_by (result_Btmp rfl rfl rfl h8 Try.underlying44 infoPrf) rfl (HN.out _ _ HE.out rfl hb8)
    · go_wp2_with fail
      refine (CY.out _).mono ?_
      rintro e w4 ⟨rfl, rfl⟩
      cases hy : scalB y
      · have HE : Hid (q = false) := by show _ = _; rw [HQ.out, hx, hy]; rfl
        clear HQ HQV HC
        go_wp2_with (refine store_blkS (cs' := #[.int .i64 0, .int .i64 0, .bool false, .int .i64 0, .int .i64 0, .bool false, .int .i64 0, .int .i64 0, .bool false]) rfl rfl rfl rfl rfl hm3 infoPrf rfl (onesPrf (0, 0, false) (0, 0, false) (0, 0, false)) ?_; intro V8 h8 hheap hoth hbel; have hb8 := hbel _ _ (by omega) HB3.out; clear hoth hbel hheap)
        refine bodyPost_ret_by (result_Btmp rfl rfl rfl h8 Try.underlying44 infoPrf) rfl (HN.out _ _ HE.out rfl hb8)
      · have q1 : w3.cell? ⟨w.heap.size, 1, none⟩ = some (.int .i64 (p : Int)) := hy3.cell 1
        by_cases hmp : ml = p
        · subst hmp
          have HE : Hid (q = true) := by show _ = _; rw [HQ.out, hx, hy]; simp
          have HZ : Hid (∀ (e : Ending) (w' : World), e = .returned (.tuple #[.agg (prfC (gx x) (gx y) (gx v)), .bool true]) → Below w.heap.size w w' → e = .returned (.tuple #[.agg (prfC (fkPt q x) (fkPt q y) (fkPt q v)), .bool q]) ∧ Below w.heap.size w w') := fun e w' h1 h2 => by rw [HE.out]; exact ⟨h1, h2⟩
          have hp0 : (0 : Int) ≤ (ml : Int) := by omega
          have hp1 : 0 < ml + 1 := by omega
          have hp2 : (1 : Int) ≤ ((ml + 1 : Nat) : Int) := by omega
          have hp3 : (0 : Int) < ((ml + 1 : Nat) : Int) := by omega
          have hp4 : (1 : Int) ≤ (ml : Int) + 1 := by omega
          have hp5 : ¬ (ml : Int) + 1 < 1 := by omega
          clear HQ hx hy HE HN CX CY
          go_wp2_with fail
          clear q1
          have T0 : Below w3.heap.size w3 w3.drew := (Below.refl _ _).drew
          have HC3 : Hid (∀ X, Below w3.heap.size w3 X → (∀ j, j < ml + 1 → X.cell? ⟨gI, j, none⟩ = some (.int .i64 (kb j)))) := fun X hX => HC.out X (hb3.trans (hX.mono hb3.size))
          have hgI : gI < w3.heap.size := by have := HGI.out; omega
          have HM3 : Hid (∀ X, Below w3.heap.size w3 X → IntsAt X am ml X.heap.size (fun j => m.getD j 0)) := fun X hX => ((HBM.out.on (HB3.out.trans (hX.mono HB3.out.size))).wide (HB3.out.trans (hX.mono HB3.out.size)).size)
          have HD : Hid (∀ (X : World) (off cc : Nat), Below w3.heap.size w3 X → IntsAt X (some ⟨gI, off, none⟩) ml X.heap.size (fun j => kb (j + 1)) → Calls Try.prog 29 #[.slice (some ⟨gI, off, none⟩) ml cc, .slice am ml cm] X fun e w' => e = .returned (.int .i64 (dotN (fun j => kb (j + 1)) (fun j => m.getD j 0) ml)) ∧ Below X.heap.size X w') := fun X off cc hX hI => by
            have h := iDot_any (some ⟨gI, off, none⟩) am ml cc ml cm hm (fun j => kb (j + 1)) (fun j => m.getD j 0) X hI (HM3.out X hX)
            rw [Nat.min_self] at h
            exact h
          generalize dotN (fun j => kb (j + 1)) (fun j => m.getD j 0) ml = dt at HD HQV
          have CA : Hid (∀ w, Calls Try.prog 28 #[.int .i64 (kb 0), .int .i64 dt] w fun e w' => e = .returned (.int .i64 (scAdd (kb 0) dt)) ∧ w = w') := iScAdd_any _ _
          generalize scAdd (kb 0) dt = inp at CA HQV
          have HDT : Hid (∀ X ad cc, Below w3.heap.size w3 X → (ic = 1 ∧ ad = some ⟨gI, 0, none⟩ ∨ ¬ ic = 1 ∧ ad = some ⟨gI, 1, none⟩) → Calls Try.prog 29 #[.slice ad ml cc, .slice am ml cm] X fun e w' => e = .returned (.int .i64 dt) ∧ Below X.heap.size X w') := fun X ad cc hX hor => by
            have hgX : gI < X.heap.size := by have := hX.size; omega
            rcases hor with ⟨h1, rfl⟩ | ⟨h1, rfl⟩
            · have h0 : ml = 0 := by omega
              exact HD.out X 0 cc hX (by rw [h0]; exact ints_none)
            · exact HD.out X 1 cc hX (ints_rest (HC3.out X hX) hgX)
          clear HD HM3 HBM HC
          have KEY : ∀ ad cc, (ic = 1 ∧ ad = some ⟨gI, 0, none⟩ ∨ ¬ ic = 1 ∧ ad = some ⟨gI, 1, none⟩) → Hid (∀ X, Below w3.heap.size w3 X → Calls Try.prog 29 #[.slice ad ml cc, .slice am ml cm] X fun e w' => e = .returned (.int .i64 dt) ∧ Below X.heap.size X w') := fun ad cc h X hX => HDT.out X ad cc hX h
          by_cases hic : ic = 1
          · have CD := KEY (some ⟨gI, 0, none⟩) (ic - 1) (.inl ⟨hic, rfl⟩)
            subst hic
            have hml0 : ml = 0 := by omega
            subst hml0
            clear KEY HDT
            refine wp_region_ord [(0, false), (1, false), (2, false), (3, false), (4, false), (5, false), (6, false), (7, false), (8, true), (9, true), (10, false)] (fun wz => Below w3.heap.size w3 wz) mixes (by kernel_rfl) T0 ?_
            repeat (refine ord_float rfl rfl (fun K hK => ⟨_, (fun w' hw => by have q0 := (hq3.on hw hq3.lt).cell 2; have q1 :=  HC3.out _ hw 0 hp1; go_simp; exact rfl), ?_⟩); go_simp; refine hK _ ?_; clear hK K)
            refine ord_call rfl rfl (fun K hK => ⟨_, _, (by go_simp <;> first | exact rfl | exact ⟨rfl, rfl⟩), ?_⟩)
            refine (CD.out _ T0).mono ?_
            rintro e u1 ⟨rfl, hu1⟩
            have T1 := below_then T0 hu1
            refine ⟨_, rfl, T1, ?_⟩
            go_simp
            refine hK _ _ ?_
            clear hK K
            refine ord_call rfl rfl (fun K hK => ⟨_, _, (by go_simp <;> first | exact rfl | exact ⟨rfl, rfl⟩), ?_⟩)
            refine (CA.out _).mono ?_
            rintro e u2 ⟨rfl, rfl⟩
            refine ⟨_, rfl, T1, ?_⟩
            go_simp
            refine hK _ _ ?_
            clear hK K
            repeat (refine ord_float rfl rfl (fun K hK => ⟨_, (fun w' hw => by have q0 := (hq3.on hw hq3.lt).cell 2; go_simp; exact rfl), ?_⟩); go_simp; refine hK _ ?_; clear hK K)
            refine ord_nil ?_
            have ht4 := ht3.on T1 ht3.lt
            have hm4 := hm3.on T1 hm3.lt
            have HB4 : Hid (Below w.heap.size w u1) := HB3.out.trans (T1.mono HB3.out.size)
            have hs4 : w3.heap.size ≤ u1.heap.size := T1.size
            clear T0 T1 hu1 CD CA HC3 hq3 ht3 hm3 HB3 hy3
            obtain ⟨Wd, hWd, hbd, hd1, hd2⟩ := boxes1r u1 3 3 #[.int .i64 x, .int .i64 (-al), .int .i64 (-ga)] #[.int .i64 y, .int .i64 be, .int .i64 inp]
            have CD : Hid (Calls Try.prog 29 #[.slice (some ⟨u1.heap.size, 0, none⟩) 3 3, .slice (some ⟨u1.heap.size + 1, 0, none⟩) 3 3] Wd fun e w' => e = .returned (.int .i64 (dotN (fun j => ([x, -al, -ga] : List Int).getD j 0) (fun j => ([y, be, inp] : List Int).getD j 0) 3)) ∧ Below Wd.heap.size Wd w') := by
              have h := iDot_any (some ⟨u1.heap.size, 0, none⟩) (some ⟨u1.heap.size + 1, 0, none⟩) 3 3 3 3 (by decide) _ _ Wd (ints3 hd1.lt hd1) (ints3 hd2.lt hd2)
              rw [show min 3 3 = 3 from rfl] at h
              exact h
            generalize dotN (fun j => ([x, -al, -ga] : List Int).getD j 0) (fun j => ([y, be, inp] : List Int).getD j 0) 3 = mi at CD HQV
            have q1 : u1.cell? ⟨w.heap.size + 1, 1, none⟩ = some (.int .i64 al) := ht4.cell 1
            have q2 : u1.cell? ⟨w.heap.size + 1, 2, none⟩ = some (.int .i64 be) := ht4.cell 2
            have q3 : u1.cell? ⟨w.heap.size + 1, 3, none⟩ = some (.int .i64 ga) := ht4.cell 3
            have q4 : w.heap.size + 1 < u1.heap.size := ht4.lt
            have q5 : (u1.alloc (.cells #[.int .i64 x, .int .i64 (-al), .int .i64 (-ga)] 3)).cell? ⟨w.heap.size + 1, 2, none⟩ = some (.int .i64 be) := (ht4.alloc _).cell 2
            have ht5 := ht4.on hbd ht4.lt
            have hm5 := hm4.on hbd hm4.lt
            have HB5 : Hid (Below w.heap.size w Wd) := HB4.out.trans (hbd.mono HB4.out.size)
            clear hd1 hd2 hbd ht4 hm4 HB4
            go_wp2_with fail
            clear hWd q1 q2 q3 q4 q5
            refine CD.out.mono ?_
            rintro e w6 ⟨rfl, hb6⟩
            have ht6 := ht5.on hb6 ht5.lt
            have hm6 := hm5.on hb6 hm5.lt
            have HB6 : Hid (Below w.heap.size w w6) := HB5.out.trans (hb6.mono HB5.out.size)
            clear hb6 ht5 hm5 HB5 CD
            go_wp2_with fail
            have CI : Hid (∀ w, Calls Try.prog 31 #[.int .i64 de] w fun e w' => e = .returned (.int .i64 (scInv de)) ∧ w = w') := iScInv_any de
            have CU : Hid (∀ w, Calls Try.prog 30 #[.int .i64 mi, .int .i64 (scInv de)] w fun e w' => e = .returned (.int .i64 (scMul mi (scInv de))) ∧ w = w') := iScMul_any mi (scInv de)
            have CC : Hid (∀ w, Calls Try.prog 24 #[.int .i64 (scMul mi (scInv de)), .agg #[.int .i64 8445, .int .i64 859, .bool false]] w fun e w' => e = .returned (.agg #[.int .i64 (gx v).1, .int .i64 (gx v).2.1, .bool (gx v).2.2]) ∧ Below w.heap.size w w') := fun w => by
              have h := CT.out (scMul mi (scInv de)) w
              rw [HQV.out] at h
              exact h
            have CX := CT.out x
            have CY := CT.out y
            clear CT HQV
            generalize scMul mi (scInv de) = c1 at CU CC
            generalize scInv de = di at CI CU
            generalize gx x = X at *
            generalize gx y = Y at *
            generalize gx v = C at *
            have T0 : Below w6.heap.size w6 w6.drew := (Below.refl _ _).drew
            refine wp_region_ord [(0, false), (3, false), (6, false), (7, false), (8, false), (1, true), (2, true), (4, true), (5, true), (9, true), (10, true), (11, true), (12, true), (13, false), (14, true), (15, false)] (fun wz => Blk wz (w.heap.size + 1) 31 #[.int .i64 ta, .int .i64 al, .int .i64 be, .int .i64 ga, .int .i64 de]) mixes (by kernel_rfl) ht6.drew ?_
            repeat (refine ord_float rfl rfl (fun K hK => ⟨_, (fun w' hw => by have q0 := hw.cell 4; go_simp; exact rfl), ?_⟩); go_simp; refine hK _ ?_; clear hK K)
            refine ord_call rfl rfl (fun K hK => ⟨_, _, (by go_simp <;> first | exact rfl | exact ⟨rfl, rfl⟩), ?_⟩)
            refine (CB.out _).mono ?_
            rintro e u2 ⟨rfl, hu2⟩
            have T2 := below_then T0 hu2
            refine ⟨_, rfl, ht6.on T2 ht6.lt, ?_⟩
            go_simp
            refine hK _ _ ?_
            clear hK K
            refine ord_call rfl rfl (fun K hK => ⟨_, _, (by go_simp <;> first | exact rfl | exact ⟨rfl, rfl⟩), ?_⟩)
            refine (CX _).mono ?_
            rintro e u3 ⟨rfl, hu3⟩
            have T3 := below_then T2 hu3
            refine ⟨_, rfl, ht6.on T3 ht6.lt, ?_⟩
            go_simp
            refine hK _ _ ?_
            clear hK K
            refine ord_call rfl rfl (fun K hK => ⟨_, _, (by go_simp <;> first | exact rfl | exact ⟨rfl, rfl⟩), ?_⟩)
            refine (CB.out _).mono ?_
            rintro e u4 ⟨rfl, hu4⟩
            have T4 := below_then T3 hu4
            refine ⟨_, rfl, ht6.on T4 ht6.lt, ?_⟩
            go_simp
            refine hK _ _ ?_
            clear hK K
            refine ord_call rfl rfl (fun K hK => ⟨_, _, (by go_simp <;> first | exact rfl | exact ⟨rfl, rfl⟩), ?_⟩)
            refine (CY _).mono ?_
            rintro e u5 ⟨rfl, hu5⟩
            have T5 := below_then T4 hu5
            refine ⟨_, rfl, ht6.on T5 ht6.lt, ?_⟩
            go_simp
            refine hK _ _ ?_
            clear hK K
            refine ord_call rfl rfl (fun K hK => ⟨_, _, (by go_simp <;> first | exact rfl | exact ⟨rfl, rfl⟩), ?_⟩)
            refine (CI.out _).mono ?_
            rintro e u6 ⟨rfl, rfl⟩
            refine ⟨_, rfl, ht6.on T5 ht6.lt, ?_⟩
            go_simp
            refine hK _ _ ?_
            clear hK K
            refine ord_call rfl rfl (fun K hK => ⟨_, _, (by go_simp <;> first | exact rfl | exact ⟨rfl, rfl⟩), ?_⟩)
            refine (CU.out _).mono ?_
            rintro e u7 ⟨rfl, rfl⟩
            refine ⟨_, rfl, ht6.on T5 ht6.lt, ?_⟩
            go_simp
            refine hK _ _ ?_
            clear hK K
            refine ord_call rfl rfl (fun K hK => ⟨_, _, (by go_simp <;> first | exact rfl | exact ⟨rfl, rfl⟩), ?_⟩)
            refine (CB.out _).mono ?_
            rintro e u8 ⟨rfl, hu8⟩
            have T8 := below_then T5 hu8
            refine ⟨_, rfl, ht6.on T8 ht6.lt, ?_⟩
            go_simp
            refine hK _ _ ?_
            clear hK K
            refine ord_call rfl rfl (fun K hK => ⟨_, _, (by go_simp <;> first | exact rfl | exact ⟨rfl, rfl⟩), ?_⟩)
            refine (CC.out _).mono ?_
            rintro e u9 ⟨rfl, hu9⟩
            have T9 := below_then T8 hu9
            refine ⟨_, rfl, ht6.on T9 ht6.lt, ?_⟩
            go_simp
            refine hK _ _ ?_
            clear hK K
            repeat (refine ord_float rfl rfl (fun K hK => ⟨_, (fun w' hw => by have q0 := hw.cell 4; go_simp; exact rfl), ?_⟩); go_simp; refine hK _ ?_; clear hK K)
            have hres := hm6.on T9 hm6.lt
            refine ord_storeS (cs' := prfC X Y C) rfl rfl rfl rfl rfl rfl hres infoPrf rfl (onesPrf _ _ _) ?_
            intro V8 h8 hheap hoth hbel
            have hb8 := hbel _ _ (by omega) (HB6.out.trans (T9.mono HB6.out.size))
            refine ⟨hoth _ _ _ (by omega) (ht6.on T9 ht6.lt), ?_⟩
            repeat (refine ord_float rfl rfl (fun K hK => ⟨_, (fun w' hw => by have q0 := hw.cell 4; go_simp; exact rfl), ?_⟩); go_simp; refine hK _ ?_; clear hK K)
            refine ord_nil ?_
            clear hres hheap hoth hbel T0 T2 T3 T4 T5 T8 T9 hu2 hu3 hu4 hu5 hu8 hu9
            go_wp2
            refine bodyPost_ret_by (result_Btmp rfl rfl rfl h8 Try.underlying44 infoPrf) rfl (HZ.out _ _ rfl hb8)
          · have CD := KEY (some ⟨gI, 1, none⟩) (ic - 1) (.inr ⟨hic, rfl⟩)
            clear KEY HDT
            refine wp_region_ord [(0, false), (1, false), (2, false), (3, false), (4, false), (5, false), (6, false), (7, false), (8, true), (9, true), (10, false)] (fun wz => Below w3.heap.size w3 wz) mixes (by kernel_rfl) T0 ?_
            repeat (refine ord_float rfl rfl (fun K hK => ⟨_, (fun w' hw => by have q0 := (hq3.on hw hq3.lt).cell 2; have q1 :=  HC3.out _ hw 0 hp1; go_simp; exact rfl), ?_⟩); go_simp; refine hK _ ?_; clear hK K)
            refine ord_call rfl rfl (fun K hK => ⟨_, _, (by go_simp <;> first | exact rfl | exact ⟨rfl, rfl⟩), ?_⟩)
            refine (CD.out _ T0).mono ?_
            rintro e u1 ⟨rfl, hu1⟩
            have T1 := below_then T0 hu1
            refine ⟨_, rfl, T1, ?_⟩
            go_simp
            refine hK _ _ ?_
            clear hK K
            refine ord_call rfl rfl (fun K hK => ⟨_, _, (by go_simp <;> first | exact rfl | exact ⟨rfl, rfl⟩), ?_⟩)
            refine (CA.out _).mono ?_
            rintro e u2 ⟨rfl, rfl⟩
            refine ⟨_, rfl, T1, ?_⟩
            go_simp
            refine hK _ _ ?_
            clear hK K
            repeat (refine ord_float rfl rfl (fun K hK => ⟨_, (fun w' hw => by have q0 := (hq3.on hw hq3.lt).cell 2; go_simp; exact rfl), ?_⟩); go_simp; refine hK _ ?_; clear hK K)
            refine ord_nil ?_
            have ht4 := ht3.on T1 ht3.lt
            have hm4 := hm3.on T1 hm3.lt
            have HB4 : Hid (Below w.heap.size w u1) := HB3.out.trans (T1.mono HB3.out.size)
            have hs4 : w3.heap.size ≤ u1.heap.size := T1.size
            clear T0 T1 hu1 CD CA HC3 hq3 ht3 hm3 HB3 hy3
            obtain ⟨Wd, hWd, hbd, hd1, hd2⟩ := boxes1r u1 3 3 #[.int .i64 x, .int .i64 (-al), .int .i64 (-ga)] #[.int .i64 y, .int .i64 be, .int .i64 inp]
            have CD : Hid (Calls Try.prog 29 #[.slice (some ⟨u1.heap.size, 0, none⟩) 3 3, .slice (some ⟨u1.heap.size + 1, 0, none⟩) 3 3] Wd fun e w' => e = .returned (.int .i64 (dotN (fun j => ([x, -al, -ga] : List Int).getD j 0) (fun j => ([y, be, inp] : List Int).getD j 0) 3)) ∧ Below Wd.heap.size Wd w') := by
              have h := iDot_any (some ⟨u1.heap.size, 0, none⟩) (some ⟨u1.heap.size + 1, 0, none⟩) 3 3 3 3 (by decide) _ _ Wd (ints3 hd1.lt hd1) (ints3 hd2.lt hd2)
              rw [show min 3 3 = 3 from rfl] at h
              exact h
            generalize dotN (fun j => ([x, -al, -ga] : List Int).getD j 0) (fun j => ([y, be, inp] : List Int).getD j 0) 3 = mi at CD HQV
            have q1 : u1.cell? ⟨w.heap.size + 1, 1, none⟩ = some (.int .i64 al) := ht4.cell 1
            have q2 : u1.cell? ⟨w.heap.size + 1, 2, none⟩ = some (.int .i64 be) := ht4.cell 2
            have q3 : u1.cell? ⟨w.heap.size + 1, 3, none⟩ = some (.int .i64 ga) := ht4.cell 3
            have q4 : w.heap.size + 1 < u1.heap.size := ht4.lt
            have q5 : (u1.alloc (.cells #[.int .i64 x, .int .i64 (-al), .int .i64 (-ga)] 3)).cell? ⟨w.heap.size + 1, 2, none⟩ = some (.int .i64 be) := (ht4.alloc _).cell 2
            have ht5 := ht4.on hbd ht4.lt
            have hm5 := hm4.on hbd hm4.lt
            have HB5 : Hid (Below w.heap.size w Wd) := HB4.out.trans (hbd.mono HB4.out.size)
            clear hd1 hd2 hbd ht4 hm4 HB4
            go_wp2_with fail
            clear hWd q1 q2 q3 q4 q5
            refine CD.out.mono ?_
            rintro e w6 ⟨rfl, hb6⟩
            have ht6 := ht5.on hb6 ht5.lt
            have hm6 := hm5.on hb6 hm5.lt
            have HB6 : Hid (Below w.heap.size w w6) := HB5.out.trans (hb6.mono HB5.out.size)
            clear hb6 ht5 hm5 HB5 CD
            go_wp2_with fail
            have CI : Hid (∀ w, Calls Try.prog 31 #[.int .i64 de] w fun e w' => e = .returned (.int .i64 (scInv de)) ∧ w = w') := iScInv_any de
            have CU : Hid (∀ w, Calls Try.prog 30 #[.int .i64 mi, .int .i64 (scInv de)] w fun e w' => e = .returned (.int .i64 (scMul mi (scInv de))) ∧ w = w') := iScMul_any mi (scInv de)
            have CC : Hid (∀ w, Calls Try.prog 24 #[.int .i64 (scMul mi (scInv de)), .agg #[.int .i64 8445, .int .i64 859, .bool false]] w fun e w' => e = .returned (.agg #[.int .i64 (gx v).1, .int .i64 (gx v).2.1, .bool (gx v).2.2]) ∧ Below w.heap.size w w') := fun w => by
              have h := CT.out (scMul mi (scInv de)) w
              rw [HQV.out] at h
              exact h
            have CX := CT.out x
            have CY := CT.out y
            clear CT HQV
            generalize scMul mi (scInv de) = c1 at CU CC
            generalize scInv de = di at CI CU
            generalize gx x = X at *
            generalize gx y = Y at *
            generalize gx v = C at *
            have T0 : Below w6.heap.size w6 w6.drew := (Below.refl _ _).drew
            refine wp_region_ord [(0, false), (3, false), (6, false), (7, false), (8, false), (1, true), (2, true), (4, true), (5, true), (9, true), (10, true), (11, true), (12, true), (13, false), (14, true), (15, false)] (fun wz => Blk wz (w.heap.size + 1) 31 #[.int .i64 ta, .int .i64 al, .int .i64 be, .int .i64 ga, .int .i64 de]) mixes (by kernel_rfl) ht6.drew ?_
            repeat (refine ord_float rfl rfl (fun K hK => ⟨_, (fun w' hw => by have q0 := hw.cell 4; go_simp; exact rfl), ?_⟩); go_simp; refine hK _ ?_; clear hK K)
            refine ord_call rfl rfl (fun K hK => ⟨_, _, (by go_simp <;> first | exact rfl | exact ⟨rfl, rfl⟩), ?_⟩)
            refine (CB.out _).mono ?_
            rintro e u2 ⟨rfl, hu2⟩
            have T2 := below_then T0 hu2
            refine ⟨_, rfl, ht6.on T2 ht6.lt, ?_⟩
            go_simp
            refine hK _ _ ?_
            clear hK K
            refine ord_call rfl rfl (fun K hK => ⟨_, _, (by go_simp <;> first | exact rfl | exact ⟨rfl, rfl⟩), ?_⟩)
            refine (CX _).mono ?_
            rintro e u3 ⟨rfl, hu3⟩
            have T3 := below_then T2 hu3
            refine ⟨_, rfl, ht6.on T3 ht6.lt, ?_⟩
            go_simp
            refine hK _ _ ?_
            clear hK K
            refine ord_call rfl rfl (fun K hK => ⟨_, _, (by go_simp <;> first | exact rfl | exact ⟨rfl, rfl⟩), ?_⟩)
            refine (CB.out _).mono ?_
            rintro e u4 ⟨rfl, hu4⟩
            have T4 := below_then T3 hu4
            refine ⟨_, rfl, ht6.on T4 ht6.lt, ?_⟩
            go_simp
            refine hK _ _ ?_
            clear hK K
            refine ord_call rfl rfl (fun K hK => ⟨_, _, (by go_simp <;> first | exact rfl | exact ⟨rfl, rfl⟩), ?_⟩)
            refine (CY _).mono ?_
            rintro e u5 ⟨rfl, hu5⟩
            have T5 := below_then T4 hu5
            refine ⟨_, rfl, ht6.on T5 ht6.lt, ?_⟩
            go_simp
            refine hK _ _ ?_
            clear hK K
            refine ord_call rfl rfl (fun K hK => ⟨_, _, (by go_simp <;> first | exact rfl | exact ⟨rfl, rfl⟩), ?_⟩)
            refine (CI.out _).mono ?_
            rintro e u6 ⟨rfl, rfl⟩
            refine ⟨_, rfl, ht6.on T5 ht6.lt, ?_⟩
            go_simp
            refine hK _ _ ?_
            clear hK K
            refine ord_call rfl rfl (fun K hK => ⟨_, _, (by go_simp <;> first | exact rfl | exact ⟨rfl, rfl⟩), ?_⟩)
            refine (CU.out _).mono ?_
            rintro e u7 ⟨rfl, rfl⟩
            refine ⟨_, rfl, ht6.on T5 ht6.lt, ?_⟩
            go_simp
            refine hK _ _ ?_
            clear hK K
            refine ord_call rfl rfl (fun K hK => ⟨_, _, (by go_simp <;> first | exact rfl | exact ⟨rfl, rfl⟩), ?_⟩)
            refine (CB.out _).mono ?_
            rintro e u8 ⟨rfl, hu8⟩
            have T8 := below_then T5 hu8
            refine ⟨_, rfl, ht6.on T8 ht6.lt, ?_⟩
            go_simp
            refine hK _ _ ?_
            clear hK K
            refine ord_call rfl rfl (fun K hK => ⟨_, _, (by go_simp <;> first | exact rfl | exact ⟨rfl, rfl⟩), ?_⟩)
            refine (CC.out _).mono ?_
            rintro e u9 ⟨rfl, hu9⟩
            have T9 := below_then T8 hu9
            refine ⟨_, rfl, ht6.on T9 ht6.lt, ?_⟩
            go_simp
            refine hK _ _ ?_
            clear hK K
            repeat (refine ord_float rfl rfl (fun K hK => ⟨_, (fun w' hw => by have q0 := hw.cell 4; go_simp; exact rfl), ?_⟩); go_simp; refine hK _ ?_; clear hK K)
            have hres := hm6.on T9 hm6.lt
            refine ord_storeS (cs' := prfC X Y C) rfl rfl rfl rfl rfl rfl hres infoPrf rfl (onesPrf _ _ _) ?_
            intro V8 h8 hheap hoth hbel
            have hb8 := hbel _ _ (by omega) (HB6.out.trans (T9.mono HB6.out.size))
            refine ⟨hoth _ _ _ (by omega) (ht6.on T9 ht6.lt), ?_⟩
            repeat (refine ord_float rfl rfl (fun K hK => ⟨_, (fun w' hw => by have q0 := hw.cell 4; go_simp; exact rfl), ?_⟩); go_simp; refine hK _ ?_; clear hK K)
            refine ord_nil ?_
            clear hres hheap hoth hbel T0 T2 T3 T4 T5 T8 T9 hu2 hu3 hu4 hu5 hu8 hu9
            go_wp2
            refine bodyPost_ret_by (result_Btmp rfl rfl rfl h8 Try.underlying44 infoPrf) rfl (HZ.out _ _ rfl hb8)
        · have hmp' : ¬ ((ml : Int) = (p : Int)) := by omega
          have hmp2 : ((ml : Int) != (p : Int)) = true := by rw [bne_iff_ne]; exact hmp'
          have HE : Hid (q = false) := by show _ = _; rw [HQ.out, hx, hy, decide_eq_false hmp']; rfl
          clear HQ HQV HC
          go_wp2_with (refine store_blkS (cs' := #[.int .i64 0, .int .i64 0, .bool false, .int .i64 0, .int .i64 0, .bool false, .int .i64 0, .int .i64 0, .bool false]) rfl rfl rfl rfl rfl hm3 infoPrf rfl (onesPrf (0, 0, false) (0, 0, false) (0, 0, false)) ?_; intro V8 h8 hheap hoth hbel; have hb8 := hbel _ _ (by omega) HB3.out; clear hoth hbel hheap)
          refine bodyPost_ret_by (result_Btmp rfl rfl rfl h8 Try.underlying44 infoPrf) rfl (HN.out _ _ HE.out rfl hb8)

end Go.Proofs.Ytbkfdafdchjakaa
