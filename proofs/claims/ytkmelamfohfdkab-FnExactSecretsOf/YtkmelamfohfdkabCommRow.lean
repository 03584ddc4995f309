/-
  The walks of the helpers of the exact laws on committees.
  (-DROP-: what the seat lacks is left out.)
-/
import Derived.Test.YtkmelamfohfdkabMarkP
import Derived.Test.YtkmelamfohfdkabCommS2
import Derived.Test.YtkmelamfohfdkabCommS6
namespace Go.Proofs.Ytkmelamfohfdkab
open Go.RowKit

theorem infoLC : (Try.prog.info? 26).map (·.size) = some 1 := by kernel_rfl

set_option maxHeartbeats 800000 in
set_option maxRecDepth 100000 in
theorem szComm_any (a : Option Addr) (n c : Nat) (hn : n ≤ 9223372036854775807) (w : World) :
    Calls Try.prog 9 #[cv a n c, .int .i64 1048576] w fun e w' => e = .returned (.int .i64 (if 1048576 < n then -1 else 1048576 - (n : Int))) ∧ Below w.heap.size w w' := by
  have HZ : Hid (∀ w, Calls Try.prog 29 #[.slice a n c, .int .i64 1048576] w fun e w' => e = .returned (.int .i64 (if 1048576 < n then -1 else 1048576 - (n : Int))) ∧ w = w') := szPointS_any a n c hn
  obtain ⟨W, hW, hb, hx⟩ := box1 w 26 #[.slice a n c]
  have q0 := hx.cell 0
  by_cases h1 : 1048576 < n
  · rw [if_pos h1] at HZ ⊢
    go_enter Try.func9, Try.ntmps9
    go_wp2_with (go_at_call 29; refine (HZ.out _).mono ?_; rintro e w0 ⟨rfl, rfl⟩)
    go_ret
    exact ⟨rfl, hb⟩
  · rw [if_neg h1] at HZ ⊢
    have h1' : ¬ 1048576 - (n : Int) < 0 := by omega
    go_enter Try.func9, Try.ntmps9
    go_wp2_with (go_at_call 29; refine (HZ.out _).mono ?_; rintro e w0 ⟨rfl, rfl⟩)
    go_ret
    exact ⟨rfl, hb⟩

set_option maxHeartbeats 800000 in
set_option maxRecDepth 100000 in
theorem toComm_any (a : Option Addr) (n c : Nat) (hn : n ≤ 1048576) (f : Nat → Pt) (w : World) (hA : PtsAt w a n w.heap.size f) :
    Calls Try.prog 11 #[cv a n c] w fun e w' => ∃ g, e = .returned (cv (some ⟨g, 0, none⟩) n n) ∧ RowPt w' g n f ∧ w.heap.size ≤ g ∧ Below w.heap.size w w' := by
  obtain ⟨W, hW, hb, hx, hr, ho⟩ := boxes2r w 26 31 31 #[.slice a n c] #[.slice none 0 0] #[.slice none 0 0]
  have HA : Hid (PtsAt W a n W.heap.size f) := hA.over hb
  have q0 := hx.cell 0
  have hWs : w.heap.size + 3 ≤ W.heap.size := by rw [← hW]; simp
  clear hA
  go_enter Try.func11, Try.ntmps11
  go_wp2_with fail
  clear hW
  refine (toPointS_any a n c hn f _ HA.out).mono ?_
  rintro e w1 ⟨rfl, hR1, hb1⟩
  have hr1 := hr.on hb1 hr.lt
  have ho1 := ho.on hb1 ho.lt
  have hB1 := below_then hb hb1
  have p0 := ho1.cell 0
  have p1 := ho1.free 0
  have hr2 := hr1.other (i := 0) (g' := w.heap.size + 1 + 1) (by omega) (.slice (some ⟨W.heap.size, 0, none⟩) n n)
  have ho2 := ho1.set 0 (.slice (some ⟨W.heap.size, 0, none⟩) n n)
  have hR2 := Blk.other (i := 0) (g' := w.heap.size + 1 + 1) hR1 (by omega) (.slice (some ⟨W.heap.size, 0, none⟩) n n)
  have hB2 := hB1.setCell (p := ⟨w.heap.size + 1 + 1, 0, none⟩) (by show w.heap.size ≤ w.heap.size + 1 + 1; omega) (.slice (some ⟨W.heap.size, 0, none⟩) n n)
  clear hb hb1 hr ho hx q0 HA hR1 hB1 hr1 ho1
  go_wp2_with (first | (refine load_blk rfl rfl rfl ho2 Try.underlying31 infoCm ?_) | (refine store_blk (cs' := #[.slice (some ⟨W.heap.size, 0, none⟩) n n]) rfl rfl rfl rfl rfl hr2 infoCm rfl (ones1 _ _ _) ?_; intro V h5 hoth hbel; have hbV := hbel _ _ (by omega) hB2; have hRV := hoth _ _ _ (by omega) hR2; clear hoth hbel))
  refine bodyPost_ret_by (result_blk rfl rfl h5 Try.underlying31 infoCm) rfl ⟨_, rfl, hRV, by omega, hbV⟩

set_option maxHeartbeats 800000 in
set_option maxRecDepth 100000 in
theorem eqComm_any (a b : Option Addr) (n c1 c2 : Nat) (hn : n ≤ 1048576) (f : Nat → Pt) (w : World) (hA : PtsAt w a n w.heap.size f) (hB : PtsAt w b n w.heap.size f) :
    Calls Try.prog 14 #[cv a n c1, cv b n c2] w fun e w' => e = .returned (.bool true) ∧ Below w.heap.size w w' := by
  obtain ⟨W, hW, hb, hx, hy⟩ := boxes1r w 31 31 #[.slice a n c1] #[.slice b n c2]
  have HA : Hid (PtsAt W a n W.heap.size f) := hA.over hb
  have HB : Hid (PtsAt W b n W.heap.size f) := hB.over hb
  have q0 := hx.cell 0
  have q1 := hy.cell 0
  clear hA hB
  go_enter Try.func14, Try.ntmps14
  go_wp2_with fail
  clear hW
  refine (eqPointS_any a b n c1 c2 hn f _ HA.out HB.out).mono ?_
  rintro e w1 ⟨rfl, hb1⟩
  have hB1 := below_then hb hb1
  clear hb hb1 hx hy q0 q1 HA HB
  go_wp2
  go_ret
  exact ⟨rfl, hB1⟩

set_option maxHeartbeats 800000 in
set_option maxRecDepth 100000 in
theorem markComm_any (a : Option Addr) (n c : Nat) (l : List Pt) (k B : Nat) (hkb : k ≤ 1048576) (hl : l.length ≤ 1048576) (w : World) (h : RowP B w (.slice a n c) l) :
    Calls Try.prog 15 #[cv a n c, .int .i64 (k : Int)] w fun e w' => e = .returned (.int .i64 ((k + 3 * l.length : Nat) : Int)) ∧ RowP B w' (.slice a n c) (mkps k l.length) ∧ Kps (fun b => (Value.slice a n c).ownBlock = some b) w w' := by
  obtain ⟨W, hW, hb, hx⟩ := box1 w 31 #[.slice a n c]
  have H1 : Hid (RowP B W (.slice a n c) l) := owns_on h hb
  have q0 := hx.cell 0
  clear h
  go_enter Try.func15, Try.ntmps15
  go_wp2_with fail
  clear hW
  refine (markP_any _ l k B hkb hl _ H1.out).mono ?_
  rintro e w1 ⟨rfl, hR1, hk1⟩
  have H2 : Hid (RowP B w1 (.slice a n c) (mkps k l.length)) := hR1
  have H3 : Hid (Kps (fun b => (Value.slice a n c).ownBlock = some b) w w1) := (Kps.of_below hb).trans hk1
  clear hR1 hk1 H1 hx q0 hb
  go_wp2
  go_ret
  exact ⟨rfl, H2.out, H3.out⟩

set_option maxHeartbeats 800000 in
set_option maxRecDepth 100000 in
theorem heldComm_any (a : Option Addr) (n c m k B : Nat) (hkb : k ≤ 1048576) (hl : m ≤ 1048576) (w : World) (h : RowP B w (.slice a n c) (mkps k m)) :
    Calls Try.prog 25 #[cv a n c, .int .i64 (k : Int)] w fun e w' => e = .returned (.int .i64 ((k + 3 * m : Nat) : Int)) ∧ Below w.heap.size w w' := by
  obtain ⟨W, hW, hb, hx⟩ := box1 w 31 #[.slice a n c]
  have H1 : Hid (RowP B W (.slice a n c) (mkps k m)) := owns_on h hb
  have q0 := hx.cell 0
  have HP : Hid (Calls Try.prog 17 #[.slice a n c, .int .i64 (k : Int)] W fun e w' => e = .returned (.int .i64 ((k + 3 * m : Nat) : Int)) ∧ W = w') := heldP_any _ m k B hkb hl _ H1.out
  have hpos : ¬ ((k + 3 * m : Nat) : Int) < 0 := by omega
  generalize ((k + 3 * m : Nat) : Int) = r at hpos HP ⊢
  clear h
  go_enter Try.func25, Try.ntmps25
  go_wp2_with fail
  clear hW
  refine HP.out.mono ?_
  rintro e w1 ⟨rfl, rfl⟩
  clear H1 hx q0
  go_wp2
  go_ret
  exact ⟨rfl, hb⟩

/-- A copy of points is a row that is owned. -/
def ptl (f : Nat → Pt) (n : Nat) : List Pt := (List.range n).map f
theorem ptl_length (f : Nat → Pt) (n : Nat) : (ptl f n).length = n := by simp [ptl]
theorem ptl_getD (l : List Pt) : ptl (fun j => l.getD j pZ) l.length = l := by
  apply List.ext_getElem
  · simp [ptl]
  · intro i h1 h2
    simp [ptl, h2]
theorem pcs_list (f : Nat → Pt) (n : Nat) : (pcs f n).toList = ptsV (ptl f n) := by
  apply List.ext_getElem?
  intro k
  rw [Array.getElem?_toList]
  by_cases hk : k < n * 3
  · rw [pcs_get f hk]
    have h2 := ptsV_at (ptl f n) (k / 3) (k % 3) (by rw [ptl_length]; omega) (by omega)
    rw [show k / 3 * 3 + k % 3 = k by omega] at h2
    rw [h2]
    have h3 : (ptl f n).getD (k / 3) pZ = f (k / 3) := by
      have : k / 3 < n := by omega
      simp [ptl, this]
    rw [h3]
    have hm : k % 3 = 0 ∨ k % 3 = 1 ∨ k % 3 = 2 := by omega
    rcases hm with h | h | h <;> rw [h] <;> rfl
  · rw [Array.getElem?_eq_none (by rw [pcs_size]; omega), List.getElem?_eq_none (by rw [ptsV_size, ptl_length]; omega)]
theorem RowPt.rowP {w : World} {g n B : Nat} {f : Nat → Pt} (h : RowPt w g n f) (hB : B ≤ g) (hn : n ≤ 1048576) : RowP B w (.slice (some ⟨g, 0, none⟩) n n) (ptl f n) := by
  unfold RowP
  rw [ptl_length]
  refine ⟨by rw [ptsV_size, ptl_length], .inr ⟨g, n, pcs f n, rfl, hB, h, Nat.le_refl _, by unfold maxLen; omega, pcs_size f n, ?_⟩⟩
  rw [pcs_list, List.take_of_length_le (by rw [ptsV_size, ptl_length]; omega)]

theorem eqRowP_any {B1 B2 : Nat} {w : World} {v u : Value} {l : List Pt} (h1 : RowP B1 w v l) (h2 : RowP B2 w u l) (hl : l.length ≤ 1048576) :
    Calls Try.prog 13 #[v, u] w fun e w' => e = .returned (.bool true) ∧ Below w.heap.size w w' := by
  obtain ⟨a, c1, rfl, s1⟩ := h1.pts
  obtain ⟨b, c2, rfl, s2⟩ := h2.pts
  exact eqPointS_any a b l.length c1 c2 hl _ w s1 s2

theorem eqRowC_any {B1 B2 : Nat} {w : World} {v u : Value} {l : List Pt} (h1 : RowP B1 w v l) (h2 : RowP B2 w u l) (hl : l.length ≤ 1048576) :
    Calls Try.prog 14 #[.agg #[v], .agg #[u]] w fun e w' => e = .returned (.bool true) ∧ Below w.heap.size w w' := by
  obtain ⟨a, c1, rfl, s1⟩ := h1.pts
  obtain ⟨b, c2, rfl, s2⟩ := h2.pts
  exact eqComm_any a b l.length c1 c2 hl _ w s1 s2

end Go.Proofs.Ytkmelamfohfdkab
