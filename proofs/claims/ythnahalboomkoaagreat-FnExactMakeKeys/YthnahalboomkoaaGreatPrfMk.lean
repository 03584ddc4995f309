/-
  The walk of the program's keys: over what is told of how often each point is the base.
  (-DROP-: what the seat lacks is left out.)
-/
import Derived.Test.YthnahalboomkoaaGreatJoined16
import Derived.Test.YthnahalboomkoaaGreatPrfI1
import Derived.Test.YthnahalboomkoaaGreatPrfI2
import Derived.Test.YthnahalboomkoaaGreatJoined7
import Derived.Test.YthnahalboomkoaaGreatJoined19
import Derived.Test.YthnahalboomkoaaGreatQapI3
import Derived.Test.YthnahalboomkoaaGreatJoined12
import Derived.Test.YthnahalboomkoaaGreatPolyMulS
import Derived.Test.YthnahalboomkoaaGreatQapS2
import Derived.Test.YthnahalboomkoaaGreatJoined11
import Derived.Test.YthnahalboomkoaaGreatJoined20
import Derived.Test.YthnahalboomkoaaGreatOrdS

namespace Go.Proofs.YthnahalboomkoaaGreat
open Go.RowKit

/-- The cells of a Maker. -/
def mkC (A B G D : Pt) (I U V L Z : Value) : Array Value := #[.int .i64 A.1, .int .i64 A.2.1, .bool A.2.2, .int .i64 B.1, .int .i64 B.2.1, .bool B.2.2, .int .i64 G.1, .int .i64 G.2.1, .bool G.2.2, .int .i64 D.1, .int .i64 D.2.1, .bool D.2.2, I, U, V, L, Z]

theorem infoMk : (Tryz.prog.info? 40).map (·.size) = some 17 := by kernel_rfl

theorem onesMk (A B G D : Pt) (a0 : Option Addr) (n0 c0 : Nat) (a1 : Option Addr) (n1 c1 : Nat) (a2 : Option Addr) (n2 c2 : Nat) (a3 : Option Addr) (n3 c3 : Nat) (a4 : Option Addr) (n4 c4 : Nat) : (mkC A B G D (.slice a0 n0 c0) (.slice a1 n1 c1) (.slice a2 n2 c2) (.slice a3 n3 c3) (.slice a4 n4 c4)).all (·.oneCell') = true := by simp [mkC, Value.oneCell']
theorem onesMk0 : (#[.int .i64 0, .int .i64 0, .bool false, .int .i64 0, .int .i64 0, .bool false, .int .i64 0, .int .i64 0, .bool false, .int .i64 0, .int .i64 0, .bool false, .slice none 0 0, .slice none 0 0, .slice none 0 0, .slice none 0 0, .slice none 0 0] : Array Value).all (·.oneCell') = true := by simp [Value.oneCell']

/-- The contract of multiplesFor. -/
def MulC : Prop := ∀ (wi pu : Int) (_ : (Lit.int .i64 wi).wf = true) (a : Option Addr) (n c : Nat) (_ : n ≤ 9223372036854775807) (ls : List (List Int)) (_ : ∀ j, (ls.getD j []).length ≤ 9223372036854775807) (ta al be ga de : Int) (w : World) (_ : NAt 3 w w.heap.size (.slice a n c) n ls),
    Calls Tryz.prog 47 #[.agg #[.int .i64 ta, .int .i64 al, .int .i64 be, .int .i64 ga, .int .i64 de], .agg #[.int .i64 wi, .int .i64 pu, .slice a n c]] w fun e w' => MulEnd w wi pu n ls ta al be ga de e w'

/-- What the keys are. -/
def MkEnd (w : World) (wi pu : Int) (n : Nat) (ls : List (List Int)) (ta al be ga de : Int) (e : Ending) (w' : World) : Prop :=
  (toxB wi pu n ls ta al be ga de = false ∧ e = .returned (.tuple #[.agg #[.int .i64 0, .int .i64 0, .bool false, .int .i64 0, .int .i64 0, .bool false, .int .i64 0, .int .i64 0, .bool false, .int .i64 0, .int .i64 0, .bool false, .slice none 0 0, .slice none 0 0, .slice none 0 0, .slice none 0 0, .slice none 0 0], .bool false]) ∧ Below w.heap.size w w') ∨
  (toxB wi pu n ls ta al be ga de = true ∧ ∃ U V I L Z, e = .returned (.tuple #[.agg (mkC (gx al) (gx be) (gx ga) (gx de) I U V L Z), .bool true]) ∧ RowF 35 3 w.heap.size w' (vec5 U V I L Z) (vec5 wi.toNat wi.toNat (pu.toNat + 1) (wi.toNat - pu.toNat - 1) (n - 1)) (vec5 (ptsV (gxL (kUs ls n ta 0 wi.toNat))) (ptsV (gxL (kUs ls n ta 1 wi.toNat))) (ptsV (gxL (kIn ls n ta al be (scInv ga) (pu.toNat + 1)))) (ptsV (gxL (kLs ls n pu.toNat ta al be (scInv de) (wi.toNat - pu.toNat - 1)))) (ptsV (gxL (kZs n ta (scInv de) (n - 1))))) ∧ Below w.heap.size w w')

theorem rows_apart {e sz lo : Nat} {w : World} {v : Nat → Value} {n : Nat → Nat} {xs : Nat → List Value} (b : Nat → Nat) (h : ∀ i, i < 5 → w.ownsRow (b i) e sz (v i) (n i) (xs i)) (hlo : ∀ i, i < 5 → lo ≤ b i) (hb : ∀ i j k, i < 5 → j < 5 → i < j → (v i).ownBlock = some k → k < b j) : RowF e sz lo w v n xs := by
  refine ⟨fun i hi => owns_low (h i hi) (hlo i hi), fun i j k hi hj hne h1 h2 => ?_⟩
  rcases Nat.lt_or_ge i j with q | q
  · have := hb i j k hi hj q h1
    have := ((h j hj).lt k h2).1
    omega
  · have := hb j i k hj hi (by omega) h2
    have := ((h i hi).lt k h1).1
    omega
theorem owns_len {e sz lo : Nat} {w : World} {v : Value} {n n' : Nat} {xs : List Value} (h : w.ownsRow lo e sz v n xs) (hn : n = n') : w.ownsRow lo e sz v n' xs := hn ▸ h

set_option maxHeartbeats 12800000 in
set_option maxRecDepth 100000 in
theorem iMake_of (hM : MulC) (wi pu : Int) (hwf : (Lit.int .i64 wi).wf = true) (a : Option Addr) (n c : Nat) (hn : n ≤ 9223372036854775807) (ls : List (List Int)) (hz : ∀ j, (ls.getD j []).length ≤ 9223372036854775807) (ta al be ga de : Int) (w : World) (hA : NAt 3 w w.heap.size (.slice a n c) n ls) :
    Calls Tryz.prog 11 #[.agg #[.int .i64 wi, .int .i64 pu, .slice a n c], .agg #[.int .i64 ta, .int .i64 al, .int .i64 be, .int .i64 ga, .int .i64 de]] w fun e w' => MkEnd w wi pu n ls ta al be ga de e w' := by
  obtain ⟨W, hW, hb, hs, hr, ho⟩ := boxes2r w 26 31 40 #[.int .i64 wi, .int .i64 pu, .slice a n c] #[.int .i64 ta, .int .i64 al, .int .i64 be, .int .i64 ga, .int .i64 de] #[.int .i64 0, .int .i64 0, .bool false, .int .i64 0, .int .i64 0, .bool false, .int .i64 0, .int .i64 0, .bool false, .int .i64 0, .int .i64 0, .bool false, .slice none 0 0, .slice none 0 0, .slice none 0 0, .slice none 0 0, .slice none 0 0]
  have CM : Hid (∀ V, Below w.heap.size w V → Calls Tryz.prog 47 #[.agg #[.int .i64 ta, .int .i64 al, .int .i64 be, .int .i64 ga, .int .i64 de], .agg #[.int .i64 wi, .int .i64 pu, .slice a n c]] V fun e w' => MulEnd V wi pu n ls ta al be ga de e w') := fun V hV => hM wi pu hwf a n c hn ls hz ta al be ga de V ((hA.on hV).wide hV.size)
  have CB : Hid (∀ w, Calls Tryz.prog 20 #[] w fun e w' => e = .returned (.agg #[.int .i64 8445, .int .i64 859, .bool false]) ∧ Below w.heap.size w w') := iBase_any
  have CT : ∀ x, Hid (∀ w, Calls Tryz.prog 48 #[.int .i64 x, .agg #[.int .i64 8445, .int .i64 859, .bool false]] w fun e w' => e = .returned (.agg #[.int .i64 (gx x).1, .int .i64 (gx x).2.1, .bool (gx x).2.2]) ∧ Below w.heap.size w w') := fun x w => by
    have h := iTimes_any x pB w
    rw [key_times] at h
    exact h
  have CT0 := CT al
  have CT1 := CT be
  have CT2 := CT ga
  have CT3 := CT de
  clear CT
  have H0 : Hid (Below w.heap.size w W ∧ Blk W w.heap.size 26 #[.int .i64 wi, .int .i64 pu, .slice a n c] ∧ Blk W (w.heap.size + 1) 31 #[.int .i64 ta, .int .i64 al, .int .i64 be, .int .i64 ga, .int .i64 de] ∧ Blk W (w.heap.size + 1 + 1) 40 #[.int .i64 0, .int .i64 0, .bool false, .int .i64 0, .int .i64 0, .bool false, .int .i64 0, .int .i64 0, .bool false, .int .i64 0, .int .i64 0, .bool false, .slice none 0 0, .slice none 0 0, .slice none 0 0, .slice none 0 0, .slice none 0 0]) := ⟨hb, hs, hr, ho⟩
  have hs1 : w.heap.size + 1 + 1 < W.heap.size := ho.lt
  clear hA hb hz ho hn hwf
  go_enter Tryz.func11, Tryz.ntmps11
  go_wp2_with (first | (refine load_blk rfl rfl rfl hs Tryz.underlying26 infoSy ?_) | (refine load_blk rfl rfl rfl hr Tryz.underlying31 infoTxI ?_))
  clear hW hs hr
  refine (CM.out _ H0.out.1).mono ?_
  rintro e w1 (⟨h0, rfl, hb1⟩ | ⟨hok, U, V, I, L, Z, rfl, hF, hb1⟩)
  · have hres := H0.out.2.2.2.on hb1 H0.out.2.2.2.lt
    have HB1 : Hid (Below w.heap.size w w1) := H0.out.1.trans (hb1.mono H0.out.1.size)
    have hres1 := hres.lt
    obtain ⟨V0, hV0, hb0, hs0⟩ := box1 w1 85 #[.slice none 0 0, .slice none 0 0, .slice none 0 0, .slice none 0 0, .slice none 0 0]
    go_wp2_with (first | (refine store_blkS (cs' := #[.slice none 0 0, .slice none 0 0, .slice none 0 0, .slice none 0 0, .slice none 0 0]) rfl rfl rfl rfl rfl hs0 infoMu rfl (ones5s _ _ _ _ _ _ _ _ _ _ _ _ _ _ _) ?_; intro V4 hq4 hheap hoth hbel; have hb4 := hbel _ _ (Nat.le_refl _) hb0; clear hoth hbel hheap; have hres2 := hres.on hb4 hres.lt) | (refine store_blkS (cs' := #[.int .i64 0, .int .i64 0, .bool false, .int .i64 0, .int .i64 0, .bool false, .int .i64 0, .int .i64 0, .bool false, .int .i64 0, .int .i64 0, .bool false, .slice none 0 0, .slice none 0 0, .slice none 0 0, .slice none 0 0, .slice none 0 0]) rfl rfl rfl rfl rfl hres2 infoMk rfl onesMk0 ?_; intro V8 h8 hheap hoth hbel; have hb8 := hbel _ _ (by omega) (HB1.out.trans (hb4.mono HB1.out.size)); clear hoth hbel hheap))
    refine bodyPost_ret_by (result_Btmp rfl rfl rfl h8 Tryz.underlying40 infoMk) rfl (.inl ⟨h0, rfl, hb8⟩)
  · obtain ⟨hso, hTx⟩ := tox_iff.1 hok
    have hS := sides_of hso
    have HOK : Hid (toxB wi pu n ls ta al be ga de = true) := hok
    obtain ⟨wn, hwn⟩ : ∃ wn, wi.toNat = wn := ⟨_, rfl⟩
    obtain ⟨p, hp⟩ : ∃ p, pu.toNat = p := ⟨_, rfl⟩
    have HWN : Hid (wi.toNat = wn ∧ pu.toNat = p) := ⟨hwn, hp⟩
    rw [hwn, hp] at hF hS
    have hw20 : wn ≤ 20 := hS.one.2
    have hpw : p + 1 ≤ wn := hS.told
    have hn16 : n ≤ 16 := hS.rows.2
    clear hok hso hTx hS hwn hp
    have r0 : RowZs W.heap.size w1 U (kUs ls n ta 0 wn) := owns_len (hF.row 0 (by decide)) (by show wn = _; unfold kUs; rw [zls_length])
    obtain ⟨ua, uc, hUv⟩ := row_form r0
    subst hUv
    have r1 : RowZs W.heap.size w1 V (kUs ls n ta 1 wn) := owns_len (hF.row 1 (by decide)) (by show wn = _; unfold kUs; rw [zls_length])
    obtain ⟨va, vc, hVv⟩ := row_form r1
    subst hVv
    have r2 : RowZs W.heap.size w1 I (kIn ls n ta al be (scInv ga) (p + 1)) := owns_len (hF.row 2 (by decide)) (by show (p + 1) = _; unfold kIn; rw [zls_length])
    obtain ⟨ia, ic, hIv⟩ := row_form r2
    subst hIv
    have r3 : RowZs W.heap.size w1 L (kLs ls n p ta al be (scInv de) (wn - p - 1)) := owns_len (hF.row 3 (by decide)) (by show (wn - p - 1) = _; unfold kLs; rw [zls_length])
    obtain ⟨la, lc, hLv⟩ := row_form r3
    subst hLv
    have r4 : RowZs W.heap.size w1 Z (kZs n ta (scInv de) (n - 1)) := owns_len (hF.row 4 (by decide)) (by show (n - 1) = _; unfold kZs; rw [zls_length])
    obtain ⟨za, zc, hZv⟩ := row_form r4
    subst hZv
    have E0 : Hid (∀ X, Below w1.heap.size w1 X → Calls Tryz.prog 49 #[.slice ua (kUs ls n ta 0 wn).length uc] X fun e w' => ∃ v, e = .returned v ∧ RowP X.heap.size w' v (gxL (kUs ls n ta 0 wn)) ∧ Below X.heap.size X w') := fun X hX => by
      obtain ⟨a', c', hv, hI⟩ := ((ZOwn.of r0).at.on hX).wide hX.size
      rw [hv]
      exact iEachB_any a' c' (kUs ls n ta 0 wn) (by unfold kUs; rw [zls_length]; omega) X hI
    have E1 : Hid (∀ X, Below w1.heap.size w1 X → Calls Tryz.prog 49 #[.slice va (kUs ls n ta 1 wn).length vc] X fun e w' => ∃ v, e = .returned v ∧ RowP X.heap.size w' v (gxL (kUs ls n ta 1 wn)) ∧ Below X.heap.size X w') := fun X hX => by
      obtain ⟨a', c', hv, hI⟩ := ((ZOwn.of r1).at.on hX).wide hX.size
      rw [hv]
      exact iEachB_any a' c' (kUs ls n ta 1 wn) (by unfold kUs; rw [zls_length]; omega) X hI
    have E2 : Hid (∀ X, Below w1.heap.size w1 X → Calls Tryz.prog 49 #[.slice ia (kIn ls n ta al be (scInv ga) (p + 1)).length ic] X fun e w' => ∃ v, e = .returned v ∧ RowP X.heap.size w' v (gxL (kIn ls n ta al be (scInv ga) (p + 1))) ∧ Below X.heap.size X w') := fun X hX => by
      obtain ⟨a', c', hv, hI⟩ := ((ZOwn.of r2).at.on hX).wide hX.size
      rw [hv]
      exact iEachB_any a' c' (kIn ls n ta al be (scInv ga) (p + 1)) (by unfold kIn; rw [zls_length]; omega) X hI
    have E3 : Hid (∀ X, Below w1.heap.size w1 X → Calls Tryz.prog 49 #[.slice la (kLs ls n p ta al be (scInv de) (wn - p - 1)).length lc] X fun e w' => ∃ v, e = .returned v ∧ RowP X.heap.size w' v (gxL (kLs ls n p ta al be (scInv de) (wn - p - 1))) ∧ Below X.heap.size X w') := fun X hX => by
      obtain ⟨a', c', hv, hI⟩ := ((ZOwn.of r3).at.on hX).wide hX.size
      rw [hv]
      exact iEachB_any a' c' (kLs ls n p ta al be (scInv de) (wn - p - 1)) (by unfold kLs; rw [zls_length]; omega) X hI
    have E4 : Hid (∀ X, Below w1.heap.size w1 X → Calls Tryz.prog 49 #[.slice za (kZs n ta (scInv de) (n - 1)).length zc] X fun e w' => ∃ v, e = .returned v ∧ RowP X.heap.size w' v (gxL (kZs n ta (scInv de) (n - 1))) ∧ Below X.heap.size X w') := fun X hX => by
      obtain ⟨a', c', hv, hI⟩ := ((ZOwn.of r4).at.on hX).wide hX.size
      rw [hv]
      exact iEachB_any a' c' (kZs n ta (scInv de) (n - 1)) (by unfold kZs; rw [zls_length]; omega) X hI
    have HLEN : Hid (((kUs ls n ta 0 wn).length = wn ∧ (kUs ls n ta 1 wn).length = wn) ∧ ((kIn ls n ta al be (scInv ga) (p + 1)).length = (p + 1) ∧ (kLs ls n p ta al be (scInv de) (wn - p - 1)).length = (wn - p - 1) ∧ (kZs n ta (scInv de) (n - 1)).length = (n - 1))) := by
      refine ⟨⟨?_, ?_⟩, ?_, ?_, ?_⟩ <;> first | (unfold kUs; rw [zls_length]) | (unfold kIn; rw [zls_length]) | (unfold kLs; rw [zls_length]) | (unfold kZs; rw [zls_length])
    have HEND : Hid (∀ e w', (∃ U V I L Z, e = .returned (.tuple #[.agg (mkC (gx al) (gx be) (gx ga) (gx de) I U V L Z), .bool true]) ∧ RowF 35 3 w.heap.size w' (vec5 U V I L Z) (vec5 (kUs ls n ta 0 wn).length (kUs ls n ta 1 wn).length (kIn ls n ta al be (scInv ga) (p + 1)).length (kLs ls n p ta al be (scInv de) (wn - p - 1)).length (kZs n ta (scInv de) (n - 1)).length) (vec5 (ptsV (gxL (kUs ls n ta 0 wn))) (ptsV (gxL (kUs ls n ta 1 wn))) (ptsV (gxL (kIn ls n ta al be (scInv ga) (p + 1)))) (ptsV (gxL (kLs ls n p ta al be (scInv de) (wn - p - 1)))) (ptsV (gxL (kZs n ta (scInv de) (n - 1))))) ∧ Below w.heap.size w w') → MkEnd w wi pu n ls ta al be ga de e w') := fun e w' h => .inr ⟨HOK.out, by
      rw [HLEN.out.1.1, HLEN.out.1.2, HLEN.out.2.1, HLEN.out.2.2.1, HLEN.out.2.2.2] at h
      rw [HWN.out.1, HWN.out.2]
      exact h⟩
    clear hF r0 r1 r2 r3 r4 HLEN HWN HOK
    generalize (kUs ls n ta 0 wn) = l0 at E0 HEND ⊢
    generalize (kUs ls n ta 1 wn) = l1 at E1 HEND ⊢
    generalize (kIn ls n ta al be (scInv ga) (p + 1)) = l2 at E2 HEND ⊢
    generalize (kLs ls n p ta al be (scInv de) (wn - p - 1)) = l3 at E3 HEND ⊢
    generalize (kZs n ta (scInv de) (n - 1)) = l4 at E4 HEND ⊢
    have HB1 : Hid (Below w.heap.size w w1 ∧ Blk w1 (w.heap.size + 1) 31 #[.int .i64 ta, .int .i64 al, .int .i64 be, .int .i64 ga, .int .i64 de] ∧ Blk w1 (w.heap.size + 1 + 1) 40 #[.int .i64 0, .int .i64 0, .bool false, .int .i64 0, .int .i64 0, .bool false, .int .i64 0, .int .i64 0, .bool false, .int .i64 0, .int .i64 0, .bool false, .slice none 0 0, .slice none 0 0, .slice none 0 0, .slice none 0 0, .slice none 0 0]) := ⟨H0.out.1.trans (hb1.mono H0.out.1.size), H0.out.2.2.1.on hb1 H0.out.2.2.1.lt, H0.out.2.2.2.on hb1 H0.out.2.2.2.lt⟩
    have hs2 : w.heap.size + 1 + 1 < w1.heap.size := HB1.out.2.2.lt
    clear H0 hb1 hs1 CM
    obtain ⟨V0, hV0, hb0, hs0⟩ := box1 w1 85 #[.slice none 0 0, .slice none 0 0, .slice none 0 0, .slice none 0 0, .slice none 0 0]
    go_wp2_with (refine store_blkS (cs' := #[.slice ua l0.length uc, .slice va l1.length vc, .slice ia l2.length ic, .slice la l3.length lc, .slice za l4.length zc]) rfl rfl rfl rfl rfl hs0 infoMu rfl (ones5s _ _ _ _ _ _ _ _ _ _ _ _ _ _ _) ?_; intro w3 hq3 hheap hoth hbel; have hb3 := hbel _ _ (Nat.le_refl _) hb0; clear hoth hbel hheap)
    have HB3 : Hid (Below w.heap.size w w3) := HB1.out.1.trans (hb3.mono HB1.out.1.size)
    have ht3 := HB1.out.2.1.on hb3 HB1.out.2.1.lt
    have hm3 := HB1.out.2.2.on hb3 HB1.out.2.2.lt
    have hs3 : w1.heap.size < w3.heap.size := hq3.lt
    clear hV0 hb0 hs0 HB1
    have T0 : Below w3.heap.size w3 w3.drew := (Below.refl _ _).drew
    generalize gx al = Ga at *
    generalize gx be = Gb at *
    generalize gx ga = Gg at *
    generalize gx de = Gd at *
    refine wp_region_ord [(0, false), (1, false), (4, false), (5, false), (8, false), (9, false), (12, false), (13, false), (16, false), (17, false), (20, false), (21, false), (23, false), (24, false), (26, false), (27, false), (29, false), (30, false), (2, true), (3, true), (6, true), (7, true), (10, true), (11, true), (14, true), (15, true), (18, true), (19, false), (22, true), (25, true), (28, true), (31, true), (32, false), (33, true), (34, false)] (fun wz => Blk wz w1.heap.size 85 #[.slice ua l0.length uc, .slice va l1.length vc, .slice ia l2.length ic, .slice la l3.length lc, .slice za l4.length zc] ∧ Blk wz (w.heap.size + 1) 31 #[.int .i64 ta, .int .i64 al, .int .i64 be, .int .i64 ga, .int .i64 de]) mixes (by kernel_rfl) ⟨hq3.drew, ht3.drew⟩ ?_
    repeat (refine ord_float rfl rfl (fun K hK => ⟨_, (fun w' hw => by have q0 := hw.1.cell 0; have q1 :=  hw.1.cell 1; have q2 :=  hw.1.cell 2; have q3 :=  hw.1.cell 3; have q4 :=  hw.1.cell 4; have q5 :=  hw.2.cell 1; have q6 :=  hw.2.cell 2; have q7 :=  hw.2.cell 3; have q8 :=  hw.2.cell 4; go_simp; exact rfl), ?_⟩); go_simp; refine hK _ ?_; clear hK K)
    refine ord_call rfl rfl (fun K hK => ⟨_, _, (by go_simp <;> first | exact rfl | exact ⟨rfl, rfl⟩), ?_⟩)
    refine (CB.out _).mono ?_
    rintro e u1 ⟨rfl, hu1⟩
    have T1 := below_then T0 hu1
    refine ⟨_, rfl, ⟨hq3.on T1 hq3.lt, ht3.on T1 ht3.lt⟩, ?_⟩
    go_simp
    refine hK _ _ ?_
    clear hK K
    refine ord_call rfl rfl (fun K hK => ⟨_, _, (by go_simp <;> first | exact rfl | exact ⟨rfl, rfl⟩), ?_⟩)
    refine (CT0.out _).mono ?_
    rintro e u2 ⟨rfl, hu2⟩
    have T2 := below_then T1 hu2
    refine ⟨_, rfl, ⟨hq3.on T2 hq3.lt, ht3.on T2 ht3.lt⟩, ?_⟩
    go_simp
    refine hK _ _ ?_
    clear hK K
    refine ord_call rfl rfl (fun K hK => ⟨_, _, (by go_simp <;> first | exact rfl | exact ⟨rfl, rfl⟩), ?_⟩)
    refine (CB.out _).mono ?_
    rintro e u3 ⟨rfl, hu3⟩
    have T3 := below_then T2 hu3
    refine ⟨_, rfl, ⟨hq3.on T3 hq3.lt, ht3.on T3 ht3.lt⟩, ?_⟩
    go_simp
    refine hK _ _ ?_
    clear hK K
    refine ord_call rfl rfl (fun K hK => ⟨_, _, (by go_simp <;> first | exact rfl | exact ⟨rfl, rfl⟩), ?_⟩)
    refine (CT1.out _).mono ?_
    rintro e u4 ⟨rfl, hu4⟩
    have T4 := below_then T3 hu4
    refine ⟨_, rfl, ⟨hq3.on T4 hq3.lt, ht3.on T4 ht3.lt⟩, ?_⟩
    go_simp
    refine hK _ _ ?_
    clear hK K
    refine ord_call rfl rfl (fun K hK => ⟨_, _, (by go_simp <;> first | exact rfl | exact ⟨rfl, rfl⟩), ?_⟩)
    refine (CB.out _).mono ?_
    rintro e u5 ⟨rfl, hu5⟩
    have T5 := below_then T4 hu5
    refine ⟨_, rfl, ⟨hq3.on T5 hq3.lt, ht3.on T5 ht3.lt⟩, ?_⟩
    go_simp
    refine hK _ _ ?_
    clear hK K
    refine ord_call rfl rfl (fun K hK => ⟨_, _, (by go_simp <;> first | exact rfl | exact ⟨rfl, rfl⟩), ?_⟩)
    refine (CT2.out _).mono ?_
    rintro e u6 ⟨rfl, hu6⟩
    have T6 := below_then T5 hu6
    refine ⟨_, rfl, ⟨hq3.on T6 hq3.lt, ht3.on T6 ht3.lt⟩, ?_⟩
    go_simp
    refine hK _ _ ?_
    clear hK K
    refine ord_call rfl rfl (fun K hK => ⟨_, _, (by go_simp <;> first | exact rfl | exact ⟨rfl, rfl⟩), ?_⟩)
    refine (CB.out _).mono ?_
    rintro e u7 ⟨rfl, hu7⟩
    have T7 := below_then T6 hu7
    refine ⟨_, rfl, ⟨hq3.on T7 hq3.lt, ht3.on T7 ht3.lt⟩, ?_⟩
    go_simp
    refine hK _ _ ?_
    clear hK K
    refine ord_call rfl rfl (fun K hK => ⟨_, _, (by go_simp <;> first | exact rfl | exact ⟨rfl, rfl⟩), ?_⟩)
    refine (CT3.out _).mono ?_
    rintro e u8 ⟨rfl, hu8⟩
    have T8 := below_then T7 hu8
    refine ⟨_, rfl, ⟨hq3.on T8 hq3.lt, ht3.on T8 ht3.lt⟩, ?_⟩
    go_simp
    refine hK _ _ ?_
    clear hK K
    refine ord_call rfl rfl (fun K hK => ⟨_, _, (by go_simp <;> first | exact rfl | exact ⟨rfl, rfl⟩), ?_⟩)
    refine (E2.out _ (hb3.trans (T8.mono hb3.size))).mono ?_
    rintro e u9 ⟨XI, rfl, hXI, hu9⟩
    have T9 := below_then T8 hu9
    refine ⟨_, rfl, ⟨hq3.on T9 hq3.lt, ht3.on T9 ht3.lt⟩, ?_⟩
    go_simp
    refine hK _ _ ?_
    clear hK K
    obtain ⟨xIa, xIc, hxI⟩ := row_form hXI
    subst hxI
    repeat (refine ord_float rfl rfl (fun K hK => ⟨_, (fun w' hw => by have q0 := hw.1.cell 0; have q1 :=  hw.1.cell 1; have q2 :=  hw.1.cell 2; have q3 :=  hw.1.cell 3; have q4 :=  hw.1.cell 4; have q5 :=  hw.2.cell 1; have q6 :=  hw.2.cell 2; have q7 :=  hw.2.cell 3; have q8 :=  hw.2.cell 4; go_simp; exact rfl), ?_⟩); go_simp; refine hK _ ?_; clear hK K)
    refine ord_call rfl rfl (fun K hK => ⟨_, _, (by go_simp <;> first | exact rfl | exact ⟨rfl, rfl⟩), ?_⟩)
    refine (E0.out _ (hb3.trans (T9.mono hb3.size))).mono ?_
    rintro e u10 ⟨XU, rfl, hXU, hu10⟩
    have T10 := below_then T9 hu10
    refine ⟨_, rfl, ⟨hq3.on T10 hq3.lt, ht3.on T10 ht3.lt⟩, ?_⟩
    go_simp
    refine hK _ _ ?_
    clear hK K
    obtain ⟨xUa, xUc, hxU⟩ := row_form hXU
    subst hxU
    refine ord_call rfl rfl (fun K hK => ⟨_, _, (by go_simp <;> first | exact rfl | exact ⟨rfl, rfl⟩), ?_⟩)
    refine (E1.out _ (hb3.trans (T10.mono hb3.size))).mono ?_
    rintro e u11 ⟨XV, rfl, hXV, hu11⟩
    have T11 := below_then T10 hu11
    refine ⟨_, rfl, ⟨hq3.on T11 hq3.lt, ht3.on T11 ht3.lt⟩, ?_⟩
    go_simp
    refine hK _ _ ?_
    clear hK K
    obtain ⟨xVa, xVc, hxV⟩ := row_form hXV
    subst hxV
    refine ord_call rfl rfl (fun K hK => ⟨_, _, (by go_simp <;> first | exact rfl | exact ⟨rfl, rfl⟩), ?_⟩)
    refine (E3.out _ (hb3.trans (T11.mono hb3.size))).mono ?_
    rintro e u12 ⟨XL, rfl, hXL, hu12⟩
    have T12 := below_then T11 hu12
    refine ⟨_, rfl, ⟨hq3.on T12 hq3.lt, ht3.on T12 ht3.lt⟩, ?_⟩
    go_simp
    refine hK _ _ ?_
    clear hK K
    obtain ⟨xLa, xLc, hxL⟩ := row_form hXL
    subst hxL
    refine ord_call rfl rfl (fun K hK => ⟨_, _, (by go_simp <;> first | exact rfl | exact ⟨rfl, rfl⟩), ?_⟩)
    refine (E4.out _ (hb3.trans (T12.mono hb3.size))).mono ?_
    rintro e u13 ⟨XZ, rfl, hXZ, hu13⟩
    have T13 := below_then T12 hu13
    refine ⟨_, rfl, ⟨hq3.on T13 hq3.lt, ht3.on T13 ht3.lt⟩, ?_⟩
    go_simp
    refine hK _ _ ?_
    clear hK K
    obtain ⟨xZa, xZc, hxZ⟩ := row_form hXZ
    subst hxZ
    repeat (refine ord_float rfl rfl (fun K hK => ⟨_, (fun w' hw => by have q0 := hw.1.cell 0; have q1 :=  hw.1.cell 1; have q2 :=  hw.1.cell 2; have q3 :=  hw.1.cell 3; have q4 :=  hw.1.cell 4; have q5 :=  hw.2.cell 1; have q6 :=  hw.2.cell 2; have q7 :=  hw.2.cell 3; have q8 :=  hw.2.cell 4; go_simp; exact rfl), ?_⟩); go_simp; refine hK _ ?_; clear hK K)
    have hres := hm3.on T13 hm3.lt
    have HBk : Below w.heap.size w u13 := HB3.out.trans (T13.mono HB3.out.size)
    have z9 := hu9.size
    have z10 := hu10.size
    have z11 := hu11.size
    have z12 := hu12.size
    have z13 := hu13.size
    have z8 := T8.size
    have hs9 : w3.heap.size ≤ u8.heap.size := z8
    refine ord_storeS (cs' := mkC Ga Gb Gg Gd (.slice xIa (gxL l2).length xIc) (.slice xUa (gxL l0).length xUc) (.slice xVa (gxL l1).length xVc) (.slice xLa (gxL l3).length xLc) (.slice xZa (gxL l4).length xZc)) rfl rfl rfl rfl rfl rfl hres infoMk rfl (onesMk _ _ _ _ _ _ _ _ _ _ _ _ _ _ _ _ _ _ _) ?_
    intro V8 h8 hheap hoth hbel
    have hb8 := hbel _ _ (by omega) HBk
    refine ⟨⟨hoth _ _ _ (by omega) (hq3.on T13 hq3.lt), hoth _ _ _ (by omega) (ht3.on T13 ht3.lt)⟩, ?_⟩
    repeat (refine ord_float rfl rfl (fun K hK => ⟨_, (fun w' hw => by have q0 := hw.1.cell 0; have q1 :=  hw.1.cell 1; have q2 :=  hw.1.cell 2; have q3 :=  hw.1.cell 3; have q4 :=  hw.1.cell 4; have q5 :=  hw.2.cell 1; have q6 :=  hw.2.cell 2; have q7 :=  hw.2.cell 3; have q8 :=  hw.2.cell 4; go_simp; exact rfl), ?_⟩); go_simp; refine hK _ ?_; clear hK K)
    refine ord_nil ?_
    have HF : Hid (RowF 35 3 w.heap.size V8 (vec5 (.slice xUa (gxL l0).length xUc) (.slice xVa (gxL l1).length xVc) (.slice xIa (gxL l2).length xIc) (.slice xLa (gxL l3).length xLc) (.slice xZa (gxL l4).length xZc)) (vec5 l0.length l1.length l2.length l3.length l4.length) (vec5 (ptsV (gxL l0)) (ptsV (gxL l1)) (ptsV (gxL l2)) (ptsV (gxL l3)) (ptsV (gxL l4)))) := by
      have hk8 : Kps (fun q => q = w.heap.size + 1 + 1) u13 V8 := by
        have hz := hbel 0 u13 (Nat.zero_le _) (Below.refl _ _)
        exact ⟨hz.os, hz.tape, hz.output, hz.size, fun i _ hi => hheap i hi⟩
      have y0 : V8.ownsRow u9.heap.size 35 3 (.slice xUa (gxL l0).length xUc) l0.length (ptsV (gxL l0)) := owns_len (hk8.row (owns_on (owns_on (owns_on hXU hu11) hu12) hu13) (fun q hq e => by have := (hXU.lt q hq).1; omega)) (gxL_len l0)
      have y1 : V8.ownsRow u10.heap.size 35 3 (.slice xVa (gxL l1).length xVc) l1.length (ptsV (gxL l1)) := owns_len (hk8.row (owns_on (owns_on hXV hu12) hu13) (fun q hq e => by have := (hXV.lt q hq).1; omega)) (gxL_len l1)
      have y2 : V8.ownsRow u8.heap.size 35 3 (.slice xIa (gxL l2).length xIc) l2.length (ptsV (gxL l2)) := owns_len (hk8.row (owns_on (owns_on (owns_on (owns_on hXI hu10) hu11) hu12) hu13) (fun q hq e => by have := (hXI.lt q hq).1; omega)) (gxL_len l2)
      have y3 : V8.ownsRow u11.heap.size 35 3 (.slice xLa (gxL l3).length xLc) l3.length (ptsV (gxL l3)) := owns_len (hk8.row (owns_on hXL hu13) (fun q hq e => by have := (hXL.lt q hq).1; omega)) (gxL_len l3)
      have y4 : V8.ownsRow u12.heap.size 35 3 (.slice xZa (gxL l4).length xZc) l4.length (ptsV (gxL l4)) := owns_len (hk8.row hXZ (fun q hq e => by have := (hXZ.lt q hq).1; omega)) (gxL_len l4)
      have t0 : ∀ q, Value.ownBlock (.slice xUa (gxL l0).length xUc) = some q → u9.heap.size ≤ q ∧ q < u10.heap.size := fun q hq => hXU.lt q hq
      have t1 : ∀ q, Value.ownBlock (.slice xVa (gxL l1).length xVc) = some q → u10.heap.size ≤ q ∧ q < u11.heap.size := fun q hq => hXV.lt q hq
      have t2 : ∀ q, Value.ownBlock (.slice xIa (gxL l2).length xIc) = some q → u8.heap.size ≤ q ∧ q < u9.heap.size := fun q hq => hXI.lt q hq
      have t3 : ∀ q, Value.ownBlock (.slice xLa (gxL l3).length xLc) = some q → u11.heap.size ≤ q ∧ q < u12.heap.size := fun q hq => hXL.lt q hq
      have t4 : ∀ q, Value.ownBlock (.slice xZa (gxL l4).length xZc) = some q → u12.heap.size ≤ q ∧ q < u13.heap.size := fun q hq => hXZ.lt q hq
      refine ⟨fun i hi => ?_, fun i j q hi hj hne h1 h2 => ?_⟩
      · match i, hi with
        | 0, _ => exact owns_low y0 (by omega)
        | 1, _ => exact owns_low y1 (by omega)
        | 2, _ => exact owns_low y2 (by omega)
        | 3, _ => exact owns_low y3 (by omega)
        | 4, _ => exact owns_low y4 (by omega)
      · match i, j, hi, hj with
        | 0, 0, _, _ => exact absurd rfl hne
        | 0, 1, _, _ => have := t0 q h1; have := t1 q h2; omega
        | 0, 2, _, _ => have := t0 q h1; have := t2 q h2; omega
        | 0, 3, _, _ => have := t0 q h1; have := t3 q h2; omega
        | 0, 4, _, _ => have := t0 q h1; have := t4 q h2; omega
        | 1, 0, _, _ => have := t1 q h1; have := t0 q h2; omega
        | 1, 1, _, _ => exact absurd rfl hne
        | 1, 2, _, _ => have := t1 q h1; have := t2 q h2; omega
        | 1, 3, _, _ => have := t1 q h1; have := t3 q h2; omega
        | 1, 4, _, _ => have := t1 q h1; have := t4 q h2; omega
        | 2, 0, _, _ => have := t2 q h1; have := t0 q h2; omega
        | 2, 1, _, _ => have := t2 q h1; have := t1 q h2; omega
        | 2, 2, _, _ => exact absurd rfl hne
        | 2, 3, _, _ => have := t2 q h1; have := t3 q h2; omega
        | 2, 4, _, _ => have := t2 q h1; have := t4 q h2; omega
        | 3, 0, _, _ => have := t3 q h1; have := t0 q h2; omega
        | 3, 1, _, _ => have := t3 q h1; have := t1 q h2; omega
        | 3, 2, _, _ => have := t3 q h1; have := t2 q h2; omega
        | 3, 3, _, _ => exact absurd rfl hne
        | 3, 4, _, _ => have := t3 q h1; have := t4 q h2; omega
        | 4, 0, _, _ => have := t4 q h1; have := t0 q h2; omega
        | 4, 1, _, _ => have := t4 q h1; have := t1 q h2; omega
        | 4, 2, _, _ => have := t4 q h1; have := t2 q h2; omega
        | 4, 3, _, _ => have := t4 q h1; have := t3 q h2; omega
        | 4, 4, _, _ => exact absurd rfl hne
    clear hXU hXV hXI hXL hXZ hu1 hu2 hu3 hu4 hu5 hu6 hu7 hu8 hu9 hu10 hu11 hu12 hu13 T0 T1 T2 T3 T4 T5 T6 T7 T8 T9 T10 T11 T12 T13 hres hheap hoth hbel HBk
    go_wp2
    refine bodyPost_ret_by (result_Btmp rfl rfl rfl h8 Tryz.underlying40 infoMk) rfl (HEND.out _ _ ⟨_, _, _, _, _, rfl, HF.out, hb8⟩)

end Go.Proofs.YthnahalboomkoaaGreat
