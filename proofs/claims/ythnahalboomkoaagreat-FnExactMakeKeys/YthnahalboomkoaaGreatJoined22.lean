/-
  Texts of one's own, joined.
-/
import Derived.Test.YthnahalboomkoaaGreatJoined21
import Derived.Test.YthnahalboomkoaaGreatJoined8
import Derived.Test.YthnahalboomkoaaGreatPrfMk
import Derived.Test.YthnahalboomkoaaGreatJoined13
import Derived.Test.YthnahalboomkoaaGreatJoined10

/-
  Five rows of points, each its own: marks, comparison.
  (-DROP-: what the seat lacks is left out.)
-/
namespace Go.Proofs.YthnahalboomkoaaGreat
open Go.RowKit

/-- Five rows of points, each its own, all in blocks lo .. hi - 1. -/
structure MkO (lo hi : Nat) (w : World) (v : Nat → Value) (l : Nat → List Pt) : Prop where
  row : ∀ i, i < 5 → RowP lo w (v i) (l i)
  top : ∀ i k, i < 5 → (v i).ownBlock = some k → k < hi
  apart : ∀ i j k, i < 5 → j < 5 → i ≠ j → (v i).ownBlock = some k → (v j).ownBlock ≠ some k
theorem MkO.in {lo hi : Nat} {w : World} {v : Nat → Value} {l : Nat → List Pt} (h : MkO lo hi w v l) (i : Nat) (h5 : i < 5) : ∀ k, (v i).ownBlock = some k → lo ≤ k ∧ k < hi := fun k hk => ⟨((h.row i h5).lt k hk).1, h.top i k h5 hk⟩
theorem MkO.same {lo hi : Nat} {w w' : World} {v : Nat → Value} {l : Nat → List Pt} (h : MkO lo hi w v l) (hs : Same lo hi w w') : MkO lo hi w' v l := ⟨fun i h5 => owns_same (h.row i h5) hs (h.in i h5), h.top, h.apart⟩
theorem MkO.like {lo hi : Nat} {w : World} {v : Nat → Value} {l l' : Nat → List Pt} (h : MkO lo hi w v l) (hl : ∀ i, i < 5 → l i = l' i) : MkO lo hi w v l' := ⟨fun i h5 => hl i h5 ▸ h.row i h5, h.top, h.apart⟩
theorem MkO.mark {lo hi : Nat} {w w' : World} {v : Nat → Value} {l : Nat → List Pt} (h : MkO lo hi w v l) (i : Nat) (h5 : i < 5) {l' : List Pt} (hR : RowP lo w' (v i) l') (hk : Kps (fun b => (v i).ownBlock = some b) w w') : MkO lo hi w' v (setF l i l') := ⟨fun j j5 => by
    unfold setF
    by_cases e : j = i
    · subst e; rw [if_pos rfl]; exact hR
    · rw [if_neg e]; exact hk.row (h.row j j5) (fun k h1 h2 => h.apart j i k j5 h5 e h1 h2), h.top, h.apart⟩
theorem setF_at {α : Type} (l : Nat → α) (i : Nat) (x : α) : setF l i x i = x := by unfold setF; rw [if_pos rfl]
theorem setF_ne {α : Type} (l : Nat → α) {i j : Nat} (x : α) (h : j ≠ i) : setF l i x j = l j := by unfold setF; rw [if_neg h]

theorem markAt_any (v : Nat → Value) (l : Nat → List Pt) (i : Nat) (h5 : i < 5) (u : Value) (hu : v i = u) (n : Nat) (hn : (l i).length = n) (k lo hi : Nat) (hk : k ≤ 1048576) (hl : n ≤ 1048576) (w : World) (h : MkO lo hi w v l) :
    Calls Tryz.prog 114 #[u, .int .i64 (k : Int)] w fun e w' => e = .returned (.int .i64 ((k + 3 * n : Nat) : Int)) ∧ MkO lo hi w' v (setF l i (mkps k n)) ∧ Kps (fun b => lo ≤ b ∧ b < hi) w w' := by
  subst hu hn
  exact (markP_any (v i) (l i) k lo hk hl w (h.row i h5)).mono fun e w' ⟨h1, h2, h3⟩ => ⟨h1, h.mark i h5 h2 h3, h3.more fun b hb => h.in i h5 b hb⟩

theorem heldAt_any (v : Nat → Value) (l : Nat → List Pt) (i : Nat) (h5 : i < 5) (u : Value) (hu : v i = u) (n k : Nat) (hn : l i = mkps k n) (lo hi : Nat) (hk : k ≤ 1048576) (hl : n ≤ 1048576) (w : World) (h : MkO lo hi w v l) :
    Calls Tryz.prog 116 #[u, .int .i64 (k : Int)] w fun e w' => e = .returned (.int .i64 ((k + 3 * n : Nat) : Int)) ∧ w = w' := by
  subst hu
  exact heldP_any (v i) n k lo hk hl w (by have h1 := h.row i h5; rwa [hn] at h1)

set_option maxHeartbeats 3200000 in
set_option maxRecDepth 100000 in
theorem markKeys_any (A B G D : Pt) (aI : Option Addr) (nI cI : Nat) (k r : Nat) (w : World) (Q : World → Prop) (hq : ∀ Z, Below w.heap.size w Z → Calls Tryz.prog 114 #[.slice aI nI cI, .int .i64 (k : Int)] Z fun e w' => e = .returned (.int .i64 (r : Int)) ∧ Q w') :
    Calls Tryz.prog 113 #[.agg #[.int .i64 A.1, .int .i64 A.2.1, .bool A.2.2, .int .i64 B.1, .int .i64 B.2.1, .bool B.2.2, .int .i64 G.1, .int .i64 G.2.1, .bool G.2.2, .int .i64 D.1, .int .i64 D.2.1, .bool D.2.2, .slice aI nI cI], .int .i64 (k : Int)] w fun e w' => e = .returned (.int .i64 (r : Int)) ∧ Q w' := by
  obtain ⟨W, hW, hb, hx⟩ := box1 w 38 #[.int .i64 A.1, .int .i64 A.2.1, .bool A.2.2, .int .i64 B.1, .int .i64 B.2.1, .bool B.2.2, .int .i64 G.1, .int .i64 G.2.1, .bool G.2.2, .int .i64 D.1, .int .i64 D.2.1, .bool D.2.2, .slice aI nI cI]
  have q0 : W.cell? ⟨w.heap.size, 12, none⟩ = some (.slice aI nI cI) := hx.cell 12
  have HQ : Hid (Calls Tryz.prog 114 #[.slice aI nI cI, .int .i64 (k : Int)] W fun e w' => e = .returned (.int .i64 (r : Int)) ∧ Q w') := hq W hb
  clear hq hb hx
  go_enter Tryz.func113, Tryz.ntmps113
  go_wp2_with fail
  clear hW q0
  refine HQ.out.mono ?_
  rintro e w1 ⟨rfl, h1⟩
  have H1 : Hid (Q w1) := h1
  clear h1
  go_wp2
  go_ret
  exact ⟨rfl, H1.out⟩

set_option maxHeartbeats 3200000 in
set_option maxRecDepth 100000 in
theorem heldKeys_any (A B G D : Pt) (aI : Option Addr) (nI cI : Nat) (k r : Nat) (w : World) (hq : ∀ Z, Below w.heap.size w Z → Calls Tryz.prog 116 #[.slice aI nI cI, .int .i64 (k : Int)] Z fun e w' => e = .returned (.int .i64 (r : Int)) ∧ Z = w') :
    Calls Tryz.prog 115 #[.agg #[.int .i64 A.1, .int .i64 A.2.1, .bool A.2.2, .int .i64 B.1, .int .i64 B.2.1, .bool B.2.2, .int .i64 G.1, .int .i64 G.2.1, .bool G.2.2, .int .i64 D.1, .int .i64 D.2.1, .bool D.2.2, .slice aI nI cI], .int .i64 (k : Int)] w fun e w' => e = .returned (.int .i64 (r : Int)) ∧ Below w.heap.size w w' := by
  obtain ⟨W, hW, hb, hx⟩ := box1 w 38 #[.int .i64 A.1, .int .i64 A.2.1, .bool A.2.2, .int .i64 B.1, .int .i64 B.2.1, .bool B.2.2, .int .i64 G.1, .int .i64 G.2.1, .bool G.2.2, .int .i64 D.1, .int .i64 D.2.1, .bool D.2.2, .slice aI nI cI]
  have q0 : W.cell? ⟨w.heap.size, 12, none⟩ = some (.slice aI nI cI) := hx.cell 12
  have HQ : Hid (Calls Tryz.prog 116 #[.slice aI nI cI, .int .i64 (k : Int)] W fun e w' => e = .returned (.int .i64 (r : Int)) ∧ W = w') := hq W hb
  have hpos : ¬ (r : Int) < 0 := by omega
  clear hq hx
  go_enter Tryz.func115, Tryz.ntmps115
  go_wp2_with fail
  clear hW q0
  refine HQ.out.mono ?_
  rintro e w1 ⟨rfl, rfl⟩
  clear HQ
  go_wp2
  go_ret
  exact ⟨rfl, hb⟩

/-- The marks of five rows. -/
def mkM (k nU nV nI nL nZ : Nat) : Nat → List Pt := vec5 (mkps (k + 3 * nI) nU) (mkps (k + 3 * nI + 3 * nU) nV) (mkps k nI) (mkps (k + 3 * nI + 3 * nU + 3 * nV) nL) (mkps (k + 3 * nI + 3 * nU + 3 * nV + 3 * nL) nZ)
def cntM (k nU nV nI nL nZ : Nat) : Nat := k + 3 * nI + 3 * nU + 3 * nV + 3 * nL + 3 * nZ

set_option maxHeartbeats 3200000 in
set_option maxRecDepth 100000 in
theorem markMaker_any (A B G D : Pt) (aI : Option Addr) (nI cI : Nat) (aU : Option Addr) (nU cU : Nat) (aV : Option Addr) (nV cV : Nat) (aL : Option Addr) (nL cL : Nat) (aZ : Option Addr) (nZ cZ : Nat) (k lo hi : Nat) (l : Nat → List Pt) (hk : k ≤ 1000) (hU : nU ≤ 100) (hV : nV ≤ 100) (hI : nI ≤ 100) (hL : nL ≤ 100) (hZ : nZ ≤ 100) (lU : (l 0).length = nU) (lV : (l 1).length = nV) (lI : (l 2).length = nI) (lL : (l 3).length = nL) (lZ : (l 4).length = nZ) (w : World) (hhi : hi ≤ w.heap.size) (h : MkO lo hi w (vec5 (.slice aU nU cU) (.slice aV nV cV) (.slice aI nI cI) (.slice aL nL cL) (.slice aZ nZ cZ)) l) :
    Calls Tryz.prog 40 #[.agg #[.int .i64 A.1, .int .i64 A.2.1, .bool A.2.2, .int .i64 B.1, .int .i64 B.2.1, .bool B.2.2, .int .i64 G.1, .int .i64 G.2.1, .bool G.2.2, .int .i64 D.1, .int .i64 D.2.1, .bool D.2.2, .slice aI nI cI, .slice aU nU cU, .slice aV nV cV, .slice aL nL cL, .slice aZ nZ cZ], .int .i64 (k : Int)] w fun e w' => e = .returned (.int .i64 ((cntM k nU nV nI nL nZ : Nat) : Int)) ∧ MkO lo hi w' (vec5 (.slice aU nU cU) (.slice aV nV cV) (.slice aI nI cI) (.slice aL nL cL) (.slice aZ nZ cZ)) (mkM k nU nV nI nL nZ) ∧ Kps (fun b => lo ≤ b ∧ b < hi) w w' := by
  obtain ⟨W, hW, hb, hx⟩ := box1 w 40 #[.int .i64 A.1, .int .i64 A.2.1, .bool A.2.2, .int .i64 B.1, .int .i64 B.2.1, .bool B.2.2, .int .i64 G.1, .int .i64 G.2.1, .bool G.2.2, .int .i64 D.1, .int .i64 D.2.1, .bool D.2.2, .slice aI nI cI, .slice aU nU cU, .slice aV nV cV, .slice aL nL cL, .slice aZ nZ cZ]
  have HB : Hid (Blk W w.heap.size 40 #[.int .i64 A.1, .int .i64 A.2.1, .bool A.2.2, .int .i64 B.1, .int .i64 B.2.1, .bool B.2.2, .int .i64 G.1, .int .i64 G.2.1, .bool G.2.2, .int .i64 D.1, .int .i64 D.2.1, .bool D.2.2, .slice aI nI cI, .slice aU nU cU, .slice aV nV cV, .slice aL nL cL, .slice aZ nZ cZ]) := hx
  have K0 : Hid (Kps (fun b => lo ≤ b ∧ b < hi) w W) := Kps.of_below hb
  have M0 : Hid (MkO lo hi W (vec5 (.slice aU nU cU) (.slice aV nV cV) (.slice aI nI cI) (.slice aL nL cL) (.slice aZ nZ cZ)) l) := h.same (Same.of_below hb hhi)
  obtain ⟨k1, hk1⟩ : ∃ k1 : Nat, k1 = k + 3 * nI := ⟨_, rfl⟩
  obtain ⟨k2, hk2⟩ : ∃ k2 : Nat, k2 = k1 + 3 * nU := ⟨_, rfl⟩
  obtain ⟨k3, hk3⟩ : ∃ k3 : Nat, k3 = k2 + 3 * nV := ⟨_, rfl⟩
  obtain ⟨k4, hk4⟩ : ∃ k4 : Nat, k4 = k3 + 3 * nL := ⟨_, rfl⟩
  obtain ⟨k5, hk5⟩ : ∃ k5 : Nat, k5 = k4 + 3 * nZ := ⟨_, rfl⟩
  have HK : Hid (((k1 = k + 3 * nI ∧ k2 = k1 + 3 * nU) ∧ k3 = k2 + 3 * nV) ∧ k4 = k3 + 3 * nL ∧ k5 = k4 + 3 * nZ) := ⟨⟨⟨hk1, hk2⟩, hk3⟩, hk4, hk5⟩
  have C0 : Hid (∀ Z, MkO lo hi Z (vec5 (.slice aU nU cU) (.slice aV nV cV) (.slice aI nI cI) (.slice aL nL cL) (.slice aZ nZ cZ)) l → Calls Tryz.prog 114 #[.slice aI nI cI, .int .i64 (k : Int)] Z fun e w' => e = .returned (.int .i64 (k1 : Int)) ∧ MkO lo hi w' (vec5 (.slice aU nU cU) (.slice aV nV cV) (.slice aI nI cI) (.slice aL nL cL) (.slice aZ nZ cZ)) (setF l 2 (mkps k nI)) ∧ Kps (fun b => lo ≤ b ∧ b < hi) Z w') := fun Z hM => by
    have h1 := markAt_any _ _ 2 (by decide) (.slice aI nI cI) rfl nI (by exact lI) k lo hi (by omega) (by omega) Z hM
    rwa [← hk1] at h1
  have C1 : Hid (∀ Z, MkO lo hi Z (vec5 (.slice aU nU cU) (.slice aV nV cV) (.slice aI nI cI) (.slice aL nL cL) (.slice aZ nZ cZ)) (setF l 2 (mkps k nI)) → Calls Tryz.prog 114 #[.slice aU nU cU, .int .i64 (k1 : Int)] Z fun e w' => e = .returned (.int .i64 (k2 : Int)) ∧ MkO lo hi w' (vec5 (.slice aU nU cU) (.slice aV nV cV) (.slice aI nI cI) (.slice aL nL cL) (.slice aZ nZ cZ)) (setF (setF l 2 (mkps k nI)) 0 (mkps k1 nU)) ∧ Kps (fun b => lo ≤ b ∧ b < hi) Z w') := fun Z hM => by
    have h1 := markAt_any _ _ 0 (by decide) (.slice aU nU cU) rfl nU (by rw [setF_ne _ _ (by decide)]; exact lU) k1 lo hi (by omega) (by omega) Z hM
    rwa [← hk2] at h1
  have C2 : Hid (∀ Z, MkO lo hi Z (vec5 (.slice aU nU cU) (.slice aV nV cV) (.slice aI nI cI) (.slice aL nL cL) (.slice aZ nZ cZ)) (setF (setF l 2 (mkps k nI)) 0 (mkps k1 nU)) → Calls Tryz.prog 114 #[.slice aV nV cV, .int .i64 (k2 : Int)] Z fun e w' => e = .returned (.int .i64 (k3 : Int)) ∧ MkO lo hi w' (vec5 (.slice aU nU cU) (.slice aV nV cV) (.slice aI nI cI) (.slice aL nL cL) (.slice aZ nZ cZ)) (setF (setF (setF l 2 (mkps k nI)) 0 (mkps k1 nU)) 1 (mkps k2 nV)) ∧ Kps (fun b => lo ≤ b ∧ b < hi) Z w') := fun Z hM => by
    have h1 := markAt_any _ _ 1 (by decide) (.slice aV nV cV) rfl nV (by rw [setF_ne _ _ (by decide)]; rw [setF_ne _ _ (by decide)]; exact lV) k2 lo hi (by omega) (by omega) Z hM
    rwa [← hk3] at h1
  have C3 : Hid (∀ Z, MkO lo hi Z (vec5 (.slice aU nU cU) (.slice aV nV cV) (.slice aI nI cI) (.slice aL nL cL) (.slice aZ nZ cZ)) (setF (setF (setF l 2 (mkps k nI)) 0 (mkps k1 nU)) 1 (mkps k2 nV)) → Calls Tryz.prog 114 #[.slice aL nL cL, .int .i64 (k3 : Int)] Z fun e w' => e = .returned (.int .i64 (k4 : Int)) ∧ MkO lo hi w' (vec5 (.slice aU nU cU) (.slice aV nV cV) (.slice aI nI cI) (.slice aL nL cL) (.slice aZ nZ cZ)) (setF (setF (setF (setF l 2 (mkps k nI)) 0 (mkps k1 nU)) 1 (mkps k2 nV)) 3 (mkps k3 nL)) ∧ Kps (fun b => lo ≤ b ∧ b < hi) Z w') := fun Z hM => by
    have h1 := markAt_any _ _ 3 (by decide) (.slice aL nL cL) rfl nL (by rw [setF_ne _ _ (by decide)]; rw [setF_ne _ _ (by decide)]; rw [setF_ne _ _ (by decide)]; exact lL) k3 lo hi (by omega) (by omega) Z hM
    rwa [← hk4] at h1
  have C4 : Hid (∀ Z, MkO lo hi Z (vec5 (.slice aU nU cU) (.slice aV nV cV) (.slice aI nI cI) (.slice aL nL cL) (.slice aZ nZ cZ)) (setF (setF (setF (setF l 2 (mkps k nI)) 0 (mkps k1 nU)) 1 (mkps k2 nV)) 3 (mkps k3 nL)) → Calls Tryz.prog 114 #[.slice aZ nZ cZ, .int .i64 (k4 : Int)] Z fun e w' => e = .returned (.int .i64 (k5 : Int)) ∧ MkO lo hi w' (vec5 (.slice aU nU cU) (.slice aV nV cV) (.slice aI nI cI) (.slice aL nL cL) (.slice aZ nZ cZ)) (setF (setF (setF (setF (setF l 2 (mkps k nI)) 0 (mkps k1 nU)) 1 (mkps k2 nV)) 3 (mkps k3 nL)) 4 (mkps k4 nZ)) ∧ Kps (fun b => lo ≤ b ∧ b < hi) Z w') := fun Z hM => by
    have h1 := markAt_any _ _ 4 (by decide) (.slice aZ nZ cZ) rfl nZ (by rw [setF_ne _ _ (by decide)]; rw [setF_ne _ _ (by decide)]; rw [setF_ne _ _ (by decide)]; rw [setF_ne _ _ (by decide)]; exact lZ) k4 lo hi (by omega) (by omega) Z hM
    rwa [← hk5] at h1
  have HE : Hid (∀ i, i < 5 → (setF (setF (setF (setF (setF l 2 (mkps k nI)) 0 (mkps k1 nU)) 1 (mkps k2 nV)) 3 (mkps k3 nL)) 4 (mkps k4 nZ)) i = mkM k nU nV nI nL nZ i) := fun i hi => by
    unfold mkM
    rw [← hk1, ← hk2, ← hk3, ← hk4]
    match i, hi with
    | 0, _ => rw [setF_ne _ _ (by decide)]; rw [setF_ne _ _ (by decide)]; rw [setF_ne _ _ (by decide)]; rw [setF_at]; rfl
    | 1, _ => rw [setF_ne _ _ (by decide)]; rw [setF_ne _ _ (by decide)]; rw [setF_at]; rfl
    | 2, _ => rw [setF_ne _ _ (by decide)]; rw [setF_ne _ _ (by decide)]; rw [setF_ne _ _ (by decide)]; rw [setF_ne _ _ (by decide)]; rw [setF_at]; rfl
    | 3, _ => rw [setF_ne _ _ (by decide)]; rw [setF_at]; rfl
    | 4, _ => rw [setF_at]; rfl
  have HN : Hid (k5 = cntM k nU nV nI nL nZ) := by show _ = _; unfold cntM; omega
  clear hk1 hk2 hk3 hk4 hk5 h hb hx HK lU lV lI lL lZ
  have q0 : W.cell? ⟨w.heap.size, 0, none⟩ = some (.int .i64 A.1) := HB.out.cell 0
  have q1 : W.cell? ⟨w.heap.size, 1, none⟩ = some (.int .i64 A.2.1) := HB.out.cell 1
  have q2 : W.cell? ⟨w.heap.size, 2, none⟩ = some (.bool A.2.2) := HB.out.cell 2
  have q3 : W.cell? ⟨w.heap.size, 3, none⟩ = some (.int .i64 B.1) := HB.out.cell 3
  have q4 : W.cell? ⟨w.heap.size, 4, none⟩ = some (.int .i64 B.2.1) := HB.out.cell 4
  have q5 : W.cell? ⟨w.heap.size, 5, none⟩ = some (.bool B.2.2) := HB.out.cell 5
  have q6 : W.cell? ⟨w.heap.size, 6, none⟩ = some (.int .i64 G.1) := HB.out.cell 6
  have q7 : W.cell? ⟨w.heap.size, 7, none⟩ = some (.int .i64 G.2.1) := HB.out.cell 7
  have q8 : W.cell? ⟨w.heap.size, 8, none⟩ = some (.bool G.2.2) := HB.out.cell 8
  have q9 : W.cell? ⟨w.heap.size, 9, none⟩ = some (.int .i64 D.1) := HB.out.cell 9
  have q10 : W.cell? ⟨w.heap.size, 10, none⟩ = some (.int .i64 D.2.1) := HB.out.cell 10
  have q11 : W.cell? ⟨w.heap.size, 11, none⟩ = some (.bool D.2.2) := HB.out.cell 11
  have q12 : W.cell? ⟨w.heap.size, 12, none⟩ = some (.slice aI nI cI) := HB.out.cell 12
  have CK : Hid (Calls Tryz.prog 113 #[.agg #[.int .i64 A.1, .int .i64 A.2.1, .bool A.2.2, .int .i64 B.1, .int .i64 B.2.1, .bool B.2.2, .int .i64 G.1, .int .i64 G.2.1, .bool G.2.2, .int .i64 D.1, .int .i64 D.2.1, .bool D.2.2, .slice aI nI cI], .int .i64 (k : Int)] W fun e w' => e = .returned (.int .i64 (k1 : Int)) ∧ MkO lo hi w' (vec5 (.slice aU nU cU) (.slice aV nV cV) (.slice aI nI cI) (.slice aL nL cL) (.slice aZ nZ cZ)) (setF l 2 (mkps k nI)) ∧ Kps (fun b => lo ≤ b ∧ b < hi) W w') := markKeys_any A B G D aI nI cI k k1 W _ fun Z hZ => (C0.out Z (M0.out.same (Same.of_below hZ (by have := HB.out.lt; omega)))).mono fun e w' ⟨e1, e2, e3⟩ => ⟨e1, e2, (Kps.of_below hZ).trans e3⟩
  go_enter Tryz.func40, Tryz.ntmps40
  go_wp2_with fail
  clear hW q0 q1 q2 q3 q4 q5 q6 q7 q8 q9 q10 q11 q12
  refine CK.out.mono ?_
  rintro e w1 ⟨rfl, hM1, hk1⟩
  have M1 : Hid (MkO lo hi w1 (vec5 (.slice aU nU cU) (.slice aV nV cV) (.slice aI nI cI) (.slice aL nL cL) (.slice aZ nZ cZ)) (setF l 2 (mkps k nI))) := hM1
  have K1 : Hid (Kps (fun b => lo ≤ b ∧ b < hi) w w1) := K0.out.trans hk1
  have HB1 : Hid (Blk w1 w.heap.size 40 #[.int .i64 A.1, .int .i64 A.2.1, .bool A.2.2, .int .i64 B.1, .int .i64 B.2.1, .bool B.2.2, .int .i64 G.1, .int .i64 G.2.1, .bool G.2.2, .int .i64 D.1, .int .i64 D.2.1, .bool D.2.2, .slice aI nI cI, .slice aU nU cU, .slice aV nV cV, .slice aL nL cL, .slice aZ nZ cZ]) := hk1.blk HB.out (fun q => by have h1 := q.2; omega)
  clear hM1 hk1 CK C0 HB M0 K0
  have q0 : w1.cell? ⟨w.heap.size, 13, none⟩ = some (.slice aU nU cU) := HB1.out.cell 13
  go_wp2_with fail
  clear q0
  refine (C1.out _ M1.out).mono ?_
  rintro e w2 ⟨rfl, hM, hk⟩
  have M2 : Hid (MkO lo hi w2 (vec5 (.slice aU nU cU) (.slice aV nV cV) (.slice aI nI cI) (.slice aL nL cL) (.slice aZ nZ cZ)) (setF (setF l 2 (mkps k nI)) 0 (mkps k1 nU))) := hM
  have K2 : Hid (Kps (fun b => lo ≤ b ∧ b < hi) w w2) := K1.out.trans hk
  have HB2 : Hid (Blk w2 w.heap.size 40 #[.int .i64 A.1, .int .i64 A.2.1, .bool A.2.2, .int .i64 B.1, .int .i64 B.2.1, .bool B.2.2, .int .i64 G.1, .int .i64 G.2.1, .bool G.2.2, .int .i64 D.1, .int .i64 D.2.1, .bool D.2.2, .slice aI nI cI, .slice aU nU cU, .slice aV nV cV, .slice aL nL cL, .slice aZ nZ cZ]) := hk.blk HB1.out (fun q => by have h1 := q.2; omega)
  clear hM hk C1 HB1 M1 K1
  have q0 : w2.cell? ⟨w.heap.size, 14, none⟩ = some (.slice aV nV cV) := HB2.out.cell 14
  go_wp2_with fail
  clear q0
  refine (C2.out _ M2.out).mono ?_
  rintro e w3 ⟨rfl, hM, hk⟩
  have M3 : Hid (MkO lo hi w3 (vec5 (.slice aU nU cU) (.slice aV nV cV) (.slice aI nI cI) (.slice aL nL cL) (.slice aZ nZ cZ)) (setF (setF (setF l 2 (mkps k nI)) 0 (mkps k1 nU)) 1 (mkps k2 nV))) := hM
  have K3 : Hid (Kps (fun b => lo ≤ b ∧ b < hi) w w3) := K2.out.trans hk
  have HB3 : Hid (Blk w3 w.heap.size 40 #[.int .i64 A.1, .int .i64 A.2.1, .bool A.2.2, .int .i64 B.1, .int .i64 B.2.1, .bool B.2.2, .int .i64 G.1, .int .i64 G.2.1, .bool G.2.2, .int .i64 D.1, .int .i64 D.2.1, .bool D.2.2, .slice aI nI cI, .slice aU nU cU, .slice aV nV cV, .slice aL nL cL, .slice aZ nZ cZ]) := hk.blk HB2.out (fun q => by have h1 := q.2; omega)
  clear hM hk C2 HB2 M2 K2
  have q0 : w3.cell? ⟨w.heap.size, 15, none⟩ = some (.slice aL nL cL) := HB3.out.cell 15
  go_wp2_with fail
  clear q0
  refine (C3.out _ M3.out).mono ?_
  rintro e w4 ⟨rfl, hM, hk⟩
  have M4 : Hid (MkO lo hi w4 (vec5 (.slice aU nU cU) (.slice aV nV cV) (.slice aI nI cI) (.slice aL nL cL) (.slice aZ nZ cZ)) (setF (setF (setF (setF l 2 (mkps k nI)) 0 (mkps k1 nU)) 1 (mkps k2 nV)) 3 (mkps k3 nL))) := hM
  have K4 : Hid (Kps (fun b => lo ≤ b ∧ b < hi) w w4) := K3.out.trans hk
  have HB4 : Hid (Blk w4 w.heap.size 40 #[.int .i64 A.1, .int .i64 A.2.1, .bool A.2.2, .int .i64 B.1, .int .i64 B.2.1, .bool B.2.2, .int .i64 G.1, .int .i64 G.2.1, .bool G.2.2, .int .i64 D.1, .int .i64 D.2.1, .bool D.2.2, .slice aI nI cI, .slice aU nU cU, .slice aV nV cV, .slice aL nL cL, .slice aZ nZ cZ]) := hk.blk HB3.out (fun q => by have h1 := q.2; omega)
  clear hM hk C3 HB3 M3 K3
  have q0 : w4.cell? ⟨w.heap.size, 16, none⟩ = some (.slice aZ nZ cZ) := HB4.out.cell 16
  go_wp2_with fail
  clear q0
  refine (C4.out _ M4.out).mono ?_
  rintro e w5 ⟨rfl, hM, hk⟩
  have M5 : Hid (MkO lo hi w5 (vec5 (.slice aU nU cU) (.slice aV nV cV) (.slice aI nI cI) (.slice aL nL cL) (.slice aZ nZ cZ)) (setF (setF (setF (setF (setF l 2 (mkps k nI)) 0 (mkps k1 nU)) 1 (mkps k2 nV)) 3 (mkps k3 nL)) 4 (mkps k4 nZ))) := hM
  have K5 : Hid (Kps (fun b => lo ≤ b ∧ b < hi) w w5) := K4.out.trans hk
  have HB5 : Hid (Blk w5 w.heap.size 40 #[.int .i64 A.1, .int .i64 A.2.1, .bool A.2.2, .int .i64 B.1, .int .i64 B.2.1, .bool B.2.2, .int .i64 G.1, .int .i64 G.2.1, .bool G.2.2, .int .i64 D.1, .int .i64 D.2.1, .bool D.2.2, .slice aI nI cI, .slice aU nU cU, .slice aV nV cV, .slice aL nL cL, .slice aZ nZ cZ]) := hk.blk HB4.out (fun q => by have h1 := q.2; omega)
  clear hM hk C4 HB4 M4 K4
  go_wp2
  go_ret
  exact ⟨by rw [HN.out]; rfl, M5.out.like HE.out, K5.out⟩

set_option maxHeartbeats 3200000 in
set_option maxRecDepth 100000 in
theorem heldMaker_any (A B G D : Pt) (aI : Option Addr) (nI cI : Nat) (aU : Option Addr) (nU cU : Nat) (aV : Option Addr) (nV cV : Nat) (aL : Option Addr) (nL cL : Nat) (aZ : Option Addr) (nZ cZ : Nat) (k lo hi : Nat) (hk : k ≤ 1000) (hU : nU ≤ 100) (hV : nV ≤ 100) (hI : nI ≤ 100) (hL : nL ≤ 100) (hZ : nZ ≤ 100) (w : World) (hhi : hi ≤ w.heap.size) (h : MkO lo hi w (vec5 (.slice aU nU cU) (.slice aV nV cV) (.slice aI nI cI) (.slice aL nL cL) (.slice aZ nZ cZ)) (mkM k nU nV nI nL nZ)) :
    Calls Tryz.prog 41 #[.agg #[.int .i64 A.1, .int .i64 A.2.1, .bool A.2.2, .int .i64 B.1, .int .i64 B.2.1, .bool B.2.2, .int .i64 G.1, .int .i64 G.2.1, .bool G.2.2, .int .i64 D.1, .int .i64 D.2.1, .bool D.2.2, .slice aI nI cI, .slice aU nU cU, .slice aV nV cV, .slice aL nL cL, .slice aZ nZ cZ], .int .i64 (k : Int)] w fun e w' => e = .returned (.int .i64 ((cntM k nU nV nI nL nZ : Nat) : Int)) ∧ Below w.heap.size w w' := by
  obtain ⟨W, hW, hb, hx⟩ := box1 w 40 #[.int .i64 A.1, .int .i64 A.2.1, .bool A.2.2, .int .i64 B.1, .int .i64 B.2.1, .bool B.2.2, .int .i64 G.1, .int .i64 G.2.1, .bool G.2.2, .int .i64 D.1, .int .i64 D.2.1, .bool D.2.2, .slice aI nI cI, .slice aU nU cU, .slice aV nV cV, .slice aL nL cL, .slice aZ nZ cZ]
  have HB : Hid (Blk W w.heap.size 40 #[.int .i64 A.1, .int .i64 A.2.1, .bool A.2.2, .int .i64 B.1, .int .i64 B.2.1, .bool B.2.2, .int .i64 G.1, .int .i64 G.2.1, .bool G.2.2, .int .i64 D.1, .int .i64 D.2.1, .bool D.2.2, .slice aI nI cI, .slice aU nU cU, .slice aV nV cV, .slice aL nL cL, .slice aZ nZ cZ]) := hx
  have K0 : Hid (Below w.heap.size w W) := hb
  obtain ⟨k1, hk1⟩ : ∃ k1 : Nat, k1 = k + 3 * nI := ⟨_, rfl⟩
  obtain ⟨k2, hk2⟩ : ∃ k2 : Nat, k2 = k1 + 3 * nU := ⟨_, rfl⟩
  obtain ⟨k3, hk3⟩ : ∃ k3 : Nat, k3 = k2 + 3 * nV := ⟨_, rfl⟩
  obtain ⟨k4, hk4⟩ : ∃ k4 : Nat, k4 = k3 + 3 * nL := ⟨_, rfl⟩
  obtain ⟨k5, hk5⟩ : ∃ k5 : Nat, k5 = k4 + 3 * nZ := ⟨_, rfl⟩
  have C0 : Hid (∀ Z, Below w.heap.size w Z → Calls Tryz.prog 116 #[.slice aI nI cI, .int .i64 (k : Int)] Z fun e w' => e = .returned (.int .i64 (k1 : Int)) ∧ Z = w') := fun Z hZ => by
    have h1 := heldAt_any _ _ 2 (by decide) (.slice aI nI cI) rfl nI k (by show mkps _ _ = _; rfl) lo hi (by omega) (by omega) Z (h.same (Same.of_below hZ hhi))
    rwa [← hk1] at h1
  have C1 : Hid (∀ Z, Below w.heap.size w Z → Calls Tryz.prog 116 #[.slice aU nU cU, .int .i64 (k1 : Int)] Z fun e w' => e = .returned (.int .i64 (k2 : Int)) ∧ Z = w') := fun Z hZ => by
    have h1 := heldAt_any _ _ 0 (by decide) (.slice aU nU cU) rfl nU k1 (by show mkps _ _ = _; congr 1; omega) lo hi (by omega) (by omega) Z (h.same (Same.of_below hZ hhi))
    rwa [← hk2] at h1
  have C2 : Hid (∀ Z, Below w.heap.size w Z → Calls Tryz.prog 116 #[.slice aV nV cV, .int .i64 (k2 : Int)] Z fun e w' => e = .returned (.int .i64 (k3 : Int)) ∧ Z = w') := fun Z hZ => by
    have h1 := heldAt_any _ _ 1 (by decide) (.slice aV nV cV) rfl nV k2 (by show mkps _ _ = _; congr 1; omega) lo hi (by omega) (by omega) Z (h.same (Same.of_below hZ hhi))
    rwa [← hk3] at h1
  have C3 : Hid (∀ Z, Below w.heap.size w Z → Calls Tryz.prog 116 #[.slice aL nL cL, .int .i64 (k3 : Int)] Z fun e w' => e = .returned (.int .i64 (k4 : Int)) ∧ Z = w') := fun Z hZ => by
    have h1 := heldAt_any _ _ 3 (by decide) (.slice aL nL cL) rfl nL k3 (by show mkps _ _ = _; congr 1; omega) lo hi (by omega) (by omega) Z (h.same (Same.of_below hZ hhi))
    rwa [← hk4] at h1
  have C4 : Hid (∀ Z, Below w.heap.size w Z → Calls Tryz.prog 116 #[.slice aZ nZ cZ, .int .i64 (k4 : Int)] Z fun e w' => e = .returned (.int .i64 (k5 : Int)) ∧ Z = w') := fun Z hZ => by
    have h1 := heldAt_any _ _ 4 (by decide) (.slice aZ nZ cZ) rfl nZ k4 (by show mkps _ _ = _; congr 1; omega) lo hi (by omega) (by omega) Z (h.same (Same.of_below hZ hhi))
    rwa [← hk5] at h1
  have HN : Hid (k5 = cntM k nU nV nI nL nZ) := by show _ = _; unfold cntM; omega
  have p1 : ¬ (k1 : Int) < 0 := by omega
  have p2 : ¬ (k2 : Int) < 0 := by omega
  have p3 : ¬ (k3 : Int) < 0 := by omega
  have p4 : ¬ (k4 : Int) < 0 := by omega
  have p5 : ¬ (k5 : Int) < 0 := by omega
  clear hk1 hk2 hk3 hk4 hk5 h hb hx
  have q0 : W.cell? ⟨w.heap.size, 0, none⟩ = some (.int .i64 A.1) := HB.out.cell 0
  have q1 : W.cell? ⟨w.heap.size, 1, none⟩ = some (.int .i64 A.2.1) := HB.out.cell 1
  have q2 : W.cell? ⟨w.heap.size, 2, none⟩ = some (.bool A.2.2) := HB.out.cell 2
  have q3 : W.cell? ⟨w.heap.size, 3, none⟩ = some (.int .i64 B.1) := HB.out.cell 3
  have q4 : W.cell? ⟨w.heap.size, 4, none⟩ = some (.int .i64 B.2.1) := HB.out.cell 4
  have q5 : W.cell? ⟨w.heap.size, 5, none⟩ = some (.bool B.2.2) := HB.out.cell 5
  have q6 : W.cell? ⟨w.heap.size, 6, none⟩ = some (.int .i64 G.1) := HB.out.cell 6
  have q7 : W.cell? ⟨w.heap.size, 7, none⟩ = some (.int .i64 G.2.1) := HB.out.cell 7
  have q8 : W.cell? ⟨w.heap.size, 8, none⟩ = some (.bool G.2.2) := HB.out.cell 8
  have q9 : W.cell? ⟨w.heap.size, 9, none⟩ = some (.int .i64 D.1) := HB.out.cell 9
  have q10 : W.cell? ⟨w.heap.size, 10, none⟩ = some (.int .i64 D.2.1) := HB.out.cell 10
  have q11 : W.cell? ⟨w.heap.size, 11, none⟩ = some (.bool D.2.2) := HB.out.cell 11
  have q12 : W.cell? ⟨w.heap.size, 12, none⟩ = some (.slice aI nI cI) := HB.out.cell 12
  have CK : Hid (Calls Tryz.prog 115 #[.agg #[.int .i64 A.1, .int .i64 A.2.1, .bool A.2.2, .int .i64 B.1, .int .i64 B.2.1, .bool B.2.2, .int .i64 G.1, .int .i64 G.2.1, .bool G.2.2, .int .i64 D.1, .int .i64 D.2.1, .bool D.2.2, .slice aI nI cI], .int .i64 (k : Int)] W fun e w' => e = .returned (.int .i64 (k1 : Int)) ∧ Below W.heap.size W w') := heldKeys_any A B G D aI nI cI k k1 W fun Z hZ => C0.out Z (K0.out.trans (hZ.mono K0.out.size))
  go_enter Tryz.func41, Tryz.ntmps41
  go_wp2_with fail
  clear hW q0 q1 q2 q3 q4 q5 q6 q7 q8 q9 q10 q11 q12
  refine CK.out.mono ?_
  rintro e w1 ⟨rfl, hb1⟩
  have K1 : Hid (Below w.heap.size w w1) := K0.out.trans (hb1.mono K0.out.size)
  have HB1 : Hid (Blk w1 w.heap.size 40 #[.int .i64 A.1, .int .i64 A.2.1, .bool A.2.2, .int .i64 B.1, .int .i64 B.2.1, .bool B.2.2, .int .i64 G.1, .int .i64 G.2.1, .bool G.2.2, .int .i64 D.1, .int .i64 D.2.1, .bool D.2.2, .slice aI nI cI, .slice aU nU cU, .slice aV nV cV, .slice aL nL cL, .slice aZ nZ cZ]) := HB.out.on hb1 HB.out.lt
  clear hb1 CK C0 HB K0
  have q0 : w1.cell? ⟨w.heap.size, 13, none⟩ = some (.slice aU nU cU) := HB1.out.cell 13
  go_wp2_with fail
  clear q0
  refine (C1.out _ K1.out).mono ?_
  rintro e w9 ⟨rfl, hh⟩
  subst hh
  have q0 : w1.cell? ⟨w.heap.size, 14, none⟩ = some (.slice aV nV cV) := HB1.out.cell 14
  go_wp2_with fail
  clear q0
  refine (C2.out _ K1.out).mono ?_
  rintro e w9 ⟨rfl, hh⟩
  subst hh
  have q0 : w1.cell? ⟨w.heap.size, 15, none⟩ = some (.slice aL nL cL) := HB1.out.cell 15
  go_wp2_with fail
  clear q0
  refine (C3.out _ K1.out).mono ?_
  rintro e w9 ⟨rfl, hh⟩
  subst hh
  have q0 : w1.cell? ⟨w.heap.size, 16, none⟩ = some (.slice aZ nZ cZ) := HB1.out.cell 16
  go_wp2_with fail
  clear q0
  refine (C4.out _ K1.out).mono ?_
  rintro e w9 ⟨rfl, hh⟩
  subst hh
  go_wp2
  go_ret
  exact ⟨by rw [HN.out]; rfl, K1.out⟩

theorem eqRowQ_any {B1 B2 : Nat} {w : World} {v u : Value} {l : List Pt} (h1 : RowP B1 w v l) (h2 : RowP B2 w u l) (hl : l.length ≤ 1048576) :
    Calls Tryz.prog 110 #[v, u] w fun e w' => e = .returned (.bool true) ∧ Below w.heap.size w w' := by
  obtain ⟨a, c1, rfl, s1⟩ := h1.pts
  obtain ⟨b, c2, rfl, s2⟩ := h2.pts
  exact eqPointS_any a b l.length c1 c2 hl _ w s1 s2

theorem eqAt_any (v u : Nat → Value) (l : Nat → List Pt) (i : Nat) (h5 : i < 5) {x y : Value} (hx : v i = x) (hy : u i = y) (hl : (l i).length ≤ 1048576) (lo hi lo2 hi2 : Nat) (w : World) (h : MkO lo hi w v l) (h2 : MkO lo2 hi2 w u l) :
    Calls Tryz.prog 110 #[x, y] w fun e w' => e = .returned (.bool true) ∧ Below w.heap.size w w' := by
  subst hx hy
  exact eqRowQ_any (h.row i h5) (h2.row i h5) hl

set_option maxHeartbeats 6400000 in
set_option maxRecDepth 100000 in
theorem eqMk_any (A B G D : Pt) (aI bI : Option Addr) (nI cI dI : Nat) (aU bU : Option Addr) (nU cU dU : Nat) (aV bV : Option Addr) (nV cV dV : Nat) (aL bL : Option Addr) (nL cL dL : Nat) (aZ bZ : Option Addr) (nZ cZ dZ : Nat) (l : Nat → List Pt) (hl : ∀ i, i < 5 → (l i).length ≤ 1048576) (lo hi lo2 hi2 : Nat) (w : World) (hhi : hi ≤ w.heap.size) (hhi2 : hi2 ≤ w.heap.size) (h : MkO lo hi w (vec5 (.slice aU nU cU) (.slice aV nV cV) (.slice aI nI cI) (.slice aL nL cL) (.slice aZ nZ cZ)) l) (h2 : MkO lo2 hi2 w (vec5 (.slice bU nU dU) (.slice bV nV dV) (.slice bI nI dI) (.slice bL nL dL) (.slice bZ nZ dZ)) l) :
    Calls Tryz.prog 37 #[.agg #[.int .i64 A.1, .int .i64 A.2.1, .bool A.2.2, .int .i64 B.1, .int .i64 B.2.1, .bool B.2.2, .int .i64 G.1, .int .i64 G.2.1, .bool G.2.2, .int .i64 D.1, .int .i64 D.2.1, .bool D.2.2, .slice aI nI cI, .slice aU nU cU, .slice aV nV cV, .slice aL nL cL, .slice aZ nZ cZ], .agg #[.int .i64 A.1, .int .i64 A.2.1, .bool A.2.2, .int .i64 B.1, .int .i64 B.2.1, .bool B.2.2, .int .i64 G.1, .int .i64 G.2.1, .bool G.2.2, .int .i64 D.1, .int .i64 D.2.1, .bool D.2.2, .slice bI nI dI, .slice bU nU dU, .slice bV nV dV, .slice bL nL dL, .slice bZ nZ dZ]] w fun e w' => e = .returned (.bool true) ∧ Below w.heap.size w w' :=
  eqMaker_any A B G D aI bI nI cI dI aU bU nU cU dU aV bV nV cV dV aL bL nL cL dL aZ bZ nZ cZ dZ w
    (fun Z hZ => eqAt_any (vec5 (.slice aU nU cU) (.slice aV nV cV) (.slice aI nI cI) (.slice aL nL cL) (.slice aZ nZ cZ)) (vec5 (.slice bU nU dU) (.slice bV nV dV) (.slice bI nI dI) (.slice bL nL dL) (.slice bZ nZ dZ)) l 2 (by decide) rfl rfl (hl 2 (by decide)) lo hi lo2 hi2 Z (h.same (Same.of_below hZ hhi)) (h2.same (Same.of_below hZ hhi2)))
    (fun Z hZ => eqAt_any (vec5 (.slice aU nU cU) (.slice aV nV cV) (.slice aI nI cI) (.slice aL nL cL) (.slice aZ nZ cZ)) (vec5 (.slice bU nU dU) (.slice bV nV dV) (.slice bI nI dI) (.slice bL nL dL) (.slice bZ nZ dZ)) l 0 (by decide) rfl rfl (hl 0 (by decide)) lo hi lo2 hi2 Z (h.same (Same.of_below hZ hhi)) (h2.same (Same.of_below hZ hhi2)))
    (fun Z hZ => eqAt_any (vec5 (.slice aU nU cU) (.slice aV nV cV) (.slice aI nI cI) (.slice aL nL cL) (.slice aZ nZ cZ)) (vec5 (.slice bU nU dU) (.slice bV nV dV) (.slice bI nI dI) (.slice bL nL dL) (.slice bZ nZ dZ)) l 1 (by decide) rfl rfl (hl 1 (by decide)) lo hi lo2 hi2 Z (h.same (Same.of_below hZ hhi)) (h2.same (Same.of_below hZ hhi2)))
    (fun Z hZ => eqAt_any (vec5 (.slice aU nU cU) (.slice aV nV cV) (.slice aI nI cI) (.slice aL nL cL) (.slice aZ nZ cZ)) (vec5 (.slice bU nU dU) (.slice bV nV dV) (.slice bI nI dI) (.slice bL nL dL) (.slice bZ nZ dZ)) l 3 (by decide) rfl rfl (hl 3 (by decide)) lo hi lo2 hi2 Z (h.same (Same.of_below hZ hhi)) (h2.same (Same.of_below hZ hhi2)))
    (fun Z hZ => eqAt_any (vec5 (.slice aU nU cU) (.slice aV nV cV) (.slice aI nI cI) (.slice aL nL cL) (.slice aZ nZ cZ)) (vec5 (.slice bU nU dU) (.slice bV nV dV) (.slice bI nI dI) (.slice bL nL dL) (.slice bZ nZ dZ)) l 4 (by decide) rfl rfl (hl 4 (by decide)) lo hi lo2 hi2 Z (h.same (Same.of_below hZ hhi)) (h2.same (Same.of_below hZ hhi2)))

end Go.Proofs.YthnahalboomkoaaGreat

/-
  Five rows of points in the fields of a Maker, each in a block of its own.
-/
namespace Go.Proofs.YthnahalboomkoaaGreat
open Go.RowKit

def offM : Nat → Nat
  | 0 => 13
  | 1 => 14
  | 2 => 12
  | 3 => 15
  | _ => 16
def mkV (A B G D : Pt) (v : Nat → Value) : Array Value := mkC A B G D (v 2) (v 0) (v 1) (v 3) (v 4)
/-- The Maker gO holds five rows, all else that there was is as it was. -/
structure StM (e sz tm gO : Nat) (w1 Y : World) (A B G D : Pt) (v : Nat → Value) (n : Nat → Nat) (xs : Nat → List Value) : Prop where
  kps : Kps (fun k => k = gO) w1 Y
  blk : Blk Y gO tm (mkV A B G D v)
  row : RowF e sz w1.heap.size Y v n xs
  low : gO < w1.heap.size
theorem StM.below {e sz tm gO : Nat} {w1 Y Y' : World} {A B G D : Pt} {v : Nat → Value} {n : Nat → Nat} {xs : Nat → List Value} (h : StM e sz tm gO w1 Y A B G D v n xs) (hb : Below Y.heap.size Y Y') : StM e sz tm gO w1 Y' A B G D v n xs :=
  ⟨h.kps.trans (Kps.of_below hb), h.blk.on hb h.blk.lt, h.row.below hb, h.low⟩
theorem StM.alloc {e sz tm gO : Nat} {w1 Y : World} {A B G D : Pt} {v : Nat → Value} {n : Nat → Nat} {xs : Nat → List Value} (h : StM e sz tm gO w1 Y A B G D v n xs) (o : Obj) : StM e sz tm gO w1 (Y.alloc o) A B G D v n xs :=
  h.below ((Below.refl _ _).alloc (Nat.le_refl _) o)
theorem StM.mid {e sz tm gO : Nat} {w1 Y Y' : World} {A B G D : Pt} {v : Nat → Value} {n : Nat → Nat} {xs : Nat → List Value} (h : StM e sz tm gO w1 Y A B G D v n xs) (i : Nat) (hi : i < 5) (hg : Y.grownBy Y' (v i).ownBlock) : Blk Y' gO tm (mkV A B G D v) :=
  (kps_grown hg).blk h.blk fun e => by
    have h1 := ((h.row.row i hi).lt gO e).1
    have h2 := h.low
    omega
theorem five_setM (A B G D : Pt) (v : Nat → Value) (i : Nat) (hi : i < 5) (x : Value) : (mkV A B G D v).setIfInBounds (offM i) x = mkV A B G D (setF v i x) := by
  match i, hi with
  | 0, _ => rfl
  | 1, _ => rfl
  | 2, _ => rfl
  | 3, _ => rfl
  | 4, _ => rfl
theorem StM.step {e sz tm gO : Nat} {w1 Y Y' : World} {A B G D : Pt} {v : Nat → Value} {n : Nat → Nat} {xs : Nat → List Value} (h : StM e sz tm gO w1 Y A B G D v n xs) (i : Nat) (hi : i < 5) {a' : Value} {n' : Nat} {xs' : List Value} (hr : Y'.ownsRow w1.heap.size e sz a' n' xs') (hg : Y.grownBy Y' (v i).ownBlock) (hv : a'.ownBlock = (v i).ownBlock ∨ a'.ownBlock = some Y.heap.size) : StM e sz tm gO w1 (Y'.setCell ⟨gO, offM i, none⟩ a') A B G D (setF v i a') (setF n i n') (setF xs i xs') := by
  have hl := h.low
  have hK := kps_grown hg
  have hk2 : Kps (fun k => k = gO) w1 Y' := h.kps.over hK fun k hk hs => by
    have h1 := ((h.row.row i hi).lt k hs).1
    omega
  refine ⟨hk2.setCell rfl _, ?_, ?_, hl⟩
  · rw [← five_setM A B G D v i hi a']
    exact (h.mid i hi hg).set (offM i) a'
  · exact (h.row.app i hi hr hg hv).kept ((Kps.refl (fun k => k = gO) Y').setCell rfl _) fun k hk e => by omega
theorem StM.like {e sz tm gO : Nat} {w1 Y : World} {A B G D : Pt} {v v' : Nat → Value} {n n' : Nat → Nat} {xs xs' : Nat → List Value} (h : StM e sz tm gO w1 Y A B G D v n xs) (hv : ∀ i, i < 5 → v i = v' i) (hn : ∀ i, i < 5 → n i = n' i) (hx : ∀ i, i < 5 → xs i = xs' i) : StM e sz tm gO w1 Y A B G D v' n' xs' := by
  refine ⟨h.kps, ?_, ⟨fun i hi => ?_, fun i j k hi hj => ?_⟩, h.low⟩
  · have hb := h.blk
    unfold mkV at hb ⊢
    rw [hv 0 (by decide), hv 1 (by decide), hv 2 (by decide), hv 3 (by decide), hv 4 (by decide)] at hb
    exact hb
  · rw [← hv i hi, ← hn i hi, ← hx i hi]; exact h.row.row i hi
  · rw [← hv i hi, ← hv j hj]; exact h.row.apart i j k hi hj
theorem rowF_nil (e sz lo : Nat) (w : World) : RowF e sz lo w (vec5 (.slice none 0 0) (.slice none 0 0) (.slice none 0 0) (.slice none 0 0) (.slice none 0 0)) (vec5 0 0 0 0 0) (vec5 [] [] [] [] []) := by
  have e1 : ∀ i, vec5 (.slice none 0 0) (.slice none 0 0) (.slice none 0 0) (.slice none 0 0) (.slice none 0 0) i = (.slice none 0 0 : Value) := fun i => match i with
    | 0 => rfl
    | 1 => rfl
    | 2 => rfl
    | 3 => rfl
    | _ + 4 => rfl
  have e2 : ∀ i, vec5 0 0 0 0 0 i = (0 : Nat) := fun i => match i with
    | 0 => rfl
    | 1 => rfl
    | 2 => rfl
    | 3 => rfl
    | _ + 4 => rfl
  have e3 : ∀ i, vec5 [] [] [] [] [] i = ([] : List Value) := fun i => match i with
    | 0 => rfl
    | 1 => rfl
    | 2 => rfl
    | 3 => rfl
    | _ + 4 => rfl
  refine ⟨fun i hi => ?_, fun i j k hi hj hne he => ?_⟩
  · rw [e1, e2, e3]
    exact ⟨by simp, .inl ⟨rfl, rfl⟩⟩
  · rw [e1] at he
    cases he
theorem gxV_zls (f : Nat → Int) (k : Nat) : ptsV (gxL (zls f (k + 1))) = ptsV (gxL (zls f k)) ++ [.int .i64 (gx (f k)).1, .int .i64 (gx (f k)).2.1, .bool (gx (f k)).2.2] := by
  rw [zls_next]
  unfold gxL
  rw [List.map_append, ptsV_append]
  rfl

end Go.Proofs.YthnahalboomkoaaGreat

/-
  What the keys are, in one form for both sides.
  (-DROP-: what the seat lacks is left out.)
-/
namespace Go.Proofs.YthnahalboomkoaaGreat
open Go.RowKit

/-- The keys, right or not: where their points lie. -/
def MkG (A B G D : Pt) (q : Bool) (nI nU nV nL nZ : Nat) (l : Nat → List Pt) (w : World) (e : Ending) (w' : World) : Prop := ∃ aI cI aU cU aV cV aL cL aZ cZ, e = .returned (.tuple #[.agg #[.int .i64 A.1, .int .i64 A.2.1, .bool A.2.2, .int .i64 B.1, .int .i64 B.2.1, .bool B.2.2, .int .i64 G.1, .int .i64 G.2.1, .bool G.2.2, .int .i64 D.1, .int .i64 D.2.1, .bool D.2.2, .slice aI nI cI, .slice aU nU cU, .slice aV nV cV, .slice aL nL cL, .slice aZ nZ cZ], .bool q]) ∧ MkO w.heap.size w'.heap.size w' (vec5 (.slice aU nU cU) (.slice aV nV cV) (.slice aI nI cI) (.slice aL nL cL) (.slice aZ nZ cZ)) l ∧ Below w.heap.size w w'
theorem mkG_false {w : World} {wi pu : Int} {n : Nat} {ls : List (List Int)} {ta al be ga de : Int} {e : Ending} {w' : World} (hb : toxB wi pu n ls ta al be ga de = false) (h : MkEnd w wi pu n ls ta al be ga de e w') : MkG (0, 0, false) (0, 0, false) (0, 0, false) (0, 0, false) false 0 0 0 0 0 (fun _ => []) w e w' := by
  rcases h with ⟨_, rfl, hb2⟩ | ⟨h0, _⟩
  · have e1 : ∀ i, vec5 (.slice none 0 0) (.slice none 0 0) (.slice none 0 0) (.slice none 0 0) (.slice none 0 0) i = (.slice none 0 0 : Value) := fun i => match i with
      | 0 => rfl
      | 1 => rfl
      | 2 => rfl
      | 3 => rfl
      | _ + 4 => rfl
    refine ⟨none, 0, none, 0, none, 0, none, 0, none, 0, rfl, ⟨fun i hi => ?_, fun i k hi hk => ?_, fun i j k hi hj hne hk => ?_⟩, hb2⟩
    · rw [e1]
      exact ⟨by simp [ptsV], .inl ⟨rfl, rfl⟩⟩
    · rw [e1] at hk; cases hk
    · rw [e1] at hk; cases hk
  · rw [hb] at h0; cases h0
theorem mkG_true {w : World} {wi pu : Int} {n : Nat} {ls : List (List Int)} {ta al be ga de : Int} {e : Ending} {w' : World} (hb : toxB wi pu n ls ta al be ga de = true) (h : MkEnd w wi pu n ls ta al be ga de e w') : MkG (gx al) (gx be) (gx ga) (gx de) true (pu.toNat + 1) wi.toNat wi.toNat (wi.toNat - pu.toNat - 1) (n - 1) (vec5 (gxL (kUs ls n ta 0 wi.toNat)) (gxL (kUs ls n ta 1 wi.toNat)) (gxL (kIn ls n ta al be (scInv ga) (pu.toNat + 1))) (gxL (kLs ls n pu.toNat ta al be (scInv de) (wi.toNat - pu.toNat - 1))) (gxL (kZs n ta (scInv de) (n - 1)))) w e w' := by
  rcases h with ⟨h0, _⟩ | ⟨_, U, V, I, L, Z, rfl, hF, hb2⟩
  · rw [hb] at h0; cases h0
  · obtain ⟨ua, uc, hUv⟩ := row_form (hF.row 0 (by decide))
    replace hUv : U = .slice ua wi.toNat uc := hUv
    obtain ⟨xa, xc, hVv⟩ := row_form (hF.row 1 (by decide))
    replace hVv : V = .slice xa wi.toNat xc := hVv
    obtain ⟨ia, ic, hIv⟩ := row_form (hF.row 2 (by decide))
    replace hIv : I = .slice ia (pu.toNat + 1) ic := hIv
    obtain ⟨la, lc, hLv⟩ := row_form (hF.row 3 (by decide))
    replace hLv : L = .slice la (wi.toNat - pu.toNat - 1) lc := hLv
    obtain ⟨za, zc, hZv⟩ := row_form (hF.row 4 (by decide))
    replace hZv : Z = .slice za (n - 1) zc := hZv
    subst hUv hVv hIv hLv hZv
    refine ⟨ia, ic, ua, uc, xa, xc, la, lc, za, zc, rfl, ⟨fun i hi => ?_, fun i k hi hk => ((hF.row i hi).lt k hk).2, hF.apart⟩, hb2⟩
    match i, hi with
    | 0, _ => exact owns_len (hF.row 0 (by decide)) (by show wi.toNat = _; rw [show (vec5 (gxL (kUs ls n ta 0 wi.toNat)) (gxL (kUs ls n ta 1 wi.toNat)) (gxL (kIn ls n ta al be (scInv ga) (pu.toNat + 1))) (gxL (kLs ls n pu.toNat ta al be (scInv de) (wi.toNat - pu.toNat - 1))) (gxL (kZs n ta (scInv de) (n - 1))) 0) = gxL (kUs ls n ta 0 wi.toNat) from rfl, gxL_len]; unfold kUs; rw [zls_length])
    | 1, _ => exact owns_len (hF.row 1 (by decide)) (by show wi.toNat = (gxL (kUs ls n ta 1 wi.toNat)).length; rw [gxL_len]; unfold kUs; rw [zls_length])
    | 2, _ => exact owns_len (hF.row 2 (by decide)) (by show pu.toNat + 1 = (gxL (kIn ls n ta al be (scInv ga) (pu.toNat + 1))).length; rw [gxL_len]; unfold kIn; rw [zls_length])
    | 3, _ => exact owns_len (hF.row 3 (by decide)) (by show wi.toNat - pu.toNat - 1 = (gxL (kLs ls n pu.toNat ta al be (scInv de) (wi.toNat - pu.toNat - 1))).length; rw [gxL_len]; unfold kLs; rw [zls_length])
    | 4, _ => exact owns_len (hF.row 4 (by decide)) (by show n - 1 = (gxL (kZs n ta (scInv de) (n - 1))).length; rw [gxL_len]; unfold kZs; rw [zls_length])

/-- The keys in one form, by how they are told. -/
structure MkP (nI nU nV nL nZ : Nat) (l : Nat → List Pt) : Prop where
  bI : nI ≤ 100
  bU : nU ≤ 100
  bV : nV ≤ 100
  bL : nL ≤ 100
  bZ : nZ ≤ 100
  lU : (l 0).length = nU
  lV : (l 1).length = nV
  lI : (l 2).length = nI
  lL : (l 3).length = nL
  lZ : (l 4).length = nZ
theorem MkP.small {nI nU nV nL nZ : Nat} {l : Nat → List Pt} (h : MkP nI nU nV nL nZ l) : ∀ i, i < 5 → (l i).length ≤ 1048576 := fun i hi => by
  match i, hi with
  | 0, _ => have := h.lU; have := h.bU; omega
  | 1, _ => have := h.lV; have := h.bV; omega
  | 2, _ => have := h.lI; have := h.bI; omega
  | 3, _ => have := h.lL; have := h.bL; omega
  | 4, _ => have := h.lZ; have := h.bZ; omega
theorem mkP_false : MkP 0 0 0 0 0 (fun _ => []) := ⟨by decide, by decide, by decide, by decide, by decide, rfl, rfl, rfl, rfl, rfl⟩
theorem mkP_true {wi pu : Int} {n : Nat} {ls : List (List Int)} {ta al be ga de : Int} (hb : toxB wi pu n ls ta al be ga de = true) : MkP (pu.toNat + 1) wi.toNat wi.toNat (wi.toNat - pu.toNat - 1) (n - 1) (vec5 (gxL (kUs ls n ta 0 wi.toNat)) (gxL (kUs ls n ta 1 wi.toNat)) (gxL (kIn ls n ta al be (scInv ga) (pu.toNat + 1))) (gxL (kLs ls n pu.toNat ta al be (scInv de) (wi.toNat - pu.toNat - 1))) (gxL (kZs n ta (scInv de) (n - 1)))) := by
  have hS := sides_of (tox_iff.1 hb).1
  have h1 := hS.one.2
  have h2 := hS.told
  have h3 := hS.rows.2
  refine ⟨by omega, by omega, by omega, by omega, by omega, ?_, ?_, ?_, ?_, ?_⟩
  · show (gxL (kUs ls n ta 0 wi.toNat)).length = _
    rw [gxL_len]; unfold kUs; rw [zls_length]
  · show (gxL (kUs ls n ta 1 wi.toNat)).length = _
    rw [gxL_len]; unfold kUs; rw [zls_length]
  · show (gxL (kIn ls n ta al be (scInv ga) (pu.toNat + 1))).length = _
    rw [gxL_len]; unfold kIn; rw [zls_length]
  · show (gxL (kLs ls n pu.toNat ta al be (scInv de) (wi.toNat - pu.toNat - 1))).length = _
    rw [gxL_len]; unfold kLs; rw [zls_length]
  · show (gxL (kZs n ta (scInv de) (n - 1))).length = _
    rw [gxL_len]; unfold kZs; rw [zls_length]

end Go.Proofs.YthnahalboomkoaaGreat
