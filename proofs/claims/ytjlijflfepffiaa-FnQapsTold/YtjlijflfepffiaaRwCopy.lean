/-
  The walk of the copy of a system, the specification's.
  (-DROP-: what the seat lacks is left out.)
-/
import Derived.Test.YtjlijflfepffiaaJoined11
import Derived.Test.YtjlijflfepffiaaJoined10

namespace Go.Proofs.Ytjlijflfepffiaa
open Go.RowKit

/-- What three appends to empty lists make, in whatever order. -/
def tgt3 (l0 l1 l2 : List Int) (i : Nat) : List Int := if i = 5 then l0 else if i = 9 then l1 else if i = 13 then l2 else []
def cl3 (i : Nat) : Nat := if i ≤ 5 then 0 else if i ≤ 9 then 1 else 2
def nx3 (i : Nat) : Nat := if i = 2 then 5 else if i = 6 then 9 else if i = 10 then 13 else 0
def H3 : List Nat := [2, 5, 6, 9, 10, 13]
def holds3 (L : Array Bool) (i : Nat) : Prop := L.getD i false = true ∧ (i = 5 ∨ i = 9 ∨ i = 13 ∨ L.getD (nx3 i) false = false)
structure JCopy (V : World) (l0 l1 l2 : List Int) (L : Array Bool) (v : Nat → Value) (w : World) : Prop where
  bel : Below V.heap.size V w
  row : ∀ i, i ∈ H3 → holds3 L i → RowZs V.heap.size w (v i) (tgt3 l0 l1 l2 i)
  lt : ∀ i, i ∈ H3 → L.getD i false = true → ∀ g, (v i).ownBlock = some g → g < w.heap.size
  apart : ∀ i j, i ∈ H3 → j ∈ H3 → cl3 i ≠ cl3 j → L.getD i false = true → L.getD j false = true → ∀ g, (v i).ownBlock = some g → (v j).ownBlock ≠ some g
theorem lt_of_un {L : Array Bool} {i : Nat} (h : L.getD i true = false) : i < L.size ∧ L.getD i false = false := by
  rcases Nat.lt_or_ge i L.size with h1 | h1
  · refine ⟨h1, ?_⟩
    simp [h1] at h ⊢
    exact h
  · simp [Array.getElem?_eq_none h1] at h
theorem upd_same (v : Nat → Value) (i : Nat) (x : Value) : upd v i x i = x := if_pos rfl
theorem upd_other (v : Nat → Value) {i j : Nat} (x : Value) (h : j ≠ i) : upd v i x j = v j := if_neg h
theorem JCopy.add {V : World} {l0 l1 l2 : List Int} {L : Array Bool} {v : Nat → Value} {w w' : World} {i : Nat} {x : Value} (h : JCopy V l0 l1 l2 L v w) (hL : L.getD i true = false) (hrow : RowZs V.heap.size w' x (tgt3 l0 l1 l2 i)) (hb : Below V.heap.size V w') (hsz : w.heap.size ≤ w'.heap.size)
    (hkeep : ∀ j, j ∈ H3 → j ≠ i → holds3 L j → holds3 (L.setIfInBounds i true) j → RowZs V.heap.size w' (v j) (tgt3 l0 l1 l2 j)) (hap : ∀ j, j ∈ H3 → cl3 i ≠ cl3 j → L.getD j false = true → ∀ g, x.ownBlock = some g → (v j).ownBlock ≠ some g) : JCopy V l0 l1 l2 (L.setIfInBounds i true) (upd v i x) w' := by
  obtain ⟨hi, hf⟩ := lt_of_un hL
  refine ⟨hb, fun j hj hh => ?_, fun j hj hh g hg => ?_, fun j k hj hk hc h1 h2 g hg => ?_⟩
  · by_cases hji : j = i
    · subst hji; rw [upd_same]; exact hrow
    · rw [upd_other _ _ hji]
      refine hkeep j hj hji ?_ hh
      obtain ⟨h1, h2⟩ := hh
      rw [getD_set_ne' (fun e => hji e.symm)] at h1
      refine ⟨h1, ?_⟩
      rcases h2 with h2 | h2 | h2 | h2
      · exact .inl h2
      · exact .inr (.inl h2)
      · exact .inr (.inr (.inl h2))
      · refine .inr (.inr (.inr ?_))
        by_cases hn : i = nx3 j
        · rw [← hn]; exact hf
        · rw [getD_set_ne' hn] at h2; exact h2
  · by_cases hji : j = i
    · subst hji; rw [upd_same] at hg; exact (hrow.lt g hg).2
    · rw [upd_other _ _ hji] at hg
      rw [getD_set_ne' (fun e => hji e.symm)] at hh
      have := h.lt j hj hh g hg
      omega
  · by_cases hji : j = i
    · subst hji
      have hki : k ≠ j := fun e => hc (by rw [e])
      rw [upd_same] at hg
      rw [upd_other _ _ hki]
      rw [getD_set_ne' (fun e => hki e.symm)] at h2
      exact hap k hk hc h2 g hg
    · rw [upd_other _ _ hji] at hg
      rw [getD_set_ne' (fun e => hji e.symm)] at h1
      by_cases hki : k = i
      · subst hki
        rw [upd_same]
        exact fun e => hap j hj (fun e2 => hc e2.symm) h1 g e hg
      · rw [upd_other _ _ hki]
        rw [getD_set_ne' (fun e => hki e.symm)] at h2
        exact h.apart j k hj hk hc h1 h2 g hg
/-- An empty list is made. -/
theorem JCopy.made {V : World} {l0 l1 l2 : List Int} {L : Array Bool} {v : Nat → Value} {w : World} {i : Nat} (h : JCopy V l0 l1 l2 L v w) (hL : L.getD i true = false) (ht : tgt3 l0 l1 l2 i = []) : JCopy V l0 l1 l2 (L.setIfInBounds i true) (upd v i (.slice (some ⟨w.heap.size, 0, none⟩) 0 0)) (w.alloc (.cells #[] 3)) := by
  have hs := h.bel.size
  refine h.add hL ?_ (h.bel.alloc hs _) (by simp) (fun j hj _ h1 _ => World.ownsRow.alloc (h.row j hj h1) _) (fun j hj _ h1 g hg h2 => ?_)
  · rw [ht]
    exact World.ownsRow_lit _ _ _ hs (by simp [maxLen]) (by simp)
  · have e : some w.heap.size = some g := hg
    injection e with e
    have := h.lt j hj h1 g h2
    omega
/-- A list is put behind an empty one. -/
theorem JCopy.app {V : World} {l0 l1 l2 : List Int} {L : Array Bool} {v : Nat → Value} {w w' : World} {i d : Nat} {x : Value} (h : JCopy V l0 l1 l2 L v w) (hL : L.getD i true = false) (hd : d ∈ H3) (hdL : L.getD d false = true) (hc : cl3 d = cl3 i) (hn : nx3 d = i) (hsame : ∀ j, j ∈ H3 → j ≠ i → cl3 j = cl3 i → j = d) (hd4 : d ≠ 5 ∧ d ≠ 9 ∧ d ≠ 13)
    (hown : w'.ownsRow V.heap.size 3 1 x (0 + (tgt3 l0 l1 l2 i).length) ([] ++ zsV (tgt3 l0 l1 l2 i))) (hg : w.grownBy w' (v d).ownBlock) (hat : x.ownBlock = (v d).ownBlock ∨ x.ownBlock = some w.heap.size) : JCopy V l0 l1 l2 (L.setIfInBounds i true) (upd v i x) w' := by
  obtain ⟨hi, hf⟩ := lt_of_un hL
  have hs := h.bel.size
  have hrd := h.row d hd ⟨hdL, .inr (.inr (.inr (by rw [hn]; exact hf)))⟩
  refine h.add hL ?_ (h.bel.grown hg hs (fun k hk => (hrd.lt k hk).1)) hg.size (fun j hj hji h1 h2 => ?_) (fun j hj hcj h1 g hx hj2 => ?_)
  · have e : 0 + (tgt3 l0 l1 l2 i).length = (tgt3 l0 l1 l2 i).length := Nat.zero_add _
    rw [e, List.nil_append] at hown
    exact hown
  · by_cases hcc : cl3 j = cl3 i
    · have hjd := hsame j hj hji hcc
      subst hjd
      exfalso
      rcases h2.2 with e | e | e | e
      · exact hd4.1 e
      · exact hd4.2.1 e
      · exact hd4.2.2 e
      · rw [hn, getD_set_same' hi] at e
        cases e
    · refine World.ownsRow.kept (h.row j hj h1) hg ?_
      cases ho : (v j).ownBlock with
      | none => exact .inl rfl
      | some g => exact .inr fun e => h.apart j d hj hd (by rw [hc]; exact hcc) h1.1 hdL g ho e.symm
  · rcases hat with e | e
    · rw [e] at hx
      exact h.apart d j hd hj (by rw [hc]; exact hcj) hdL h1 g hx hj2
    · rw [e] at hx
      injection hx with hx
      have := h.lt j hj h1 g hj2
      omega
theorem putSt_H3 {ops : Array Oper} (v : Nat → Value) (a : Act) (h : ops.size = 19) (h2 : dsOf ops 2 = some 25) (h5 : dsOf ops 5 = some 28) (h6 : dsOf ops 6 = some 29) (h9 : dsOf ops 9 = some 32) (h10 : dsOf ops 10 = some 33) (h13 : dsOf ops 13 = some 36) : putSt ops v a (fun i => H3.contains i) ops.size = (((((a.put (some 25) (v 2)).put (some 28) (v 5)).put (some 29) (v 6)).put (some 32) (v 9)).put (some 33) (v 10)).put (some 36) (v 13) := by
  rw [← h2, ← h5, ← h6, ← h9, ← h10, ← h13, h]
  rfl
theorem three_slices (a b c : Option Addr) (n m k n' m' k' : Nat) : ∀ u ∈ [Value.slice a n n', .slice b m m', .slice c k k'], u.oneCell' = true := by
  intro u hu
  simp only [List.mem_cons, List.not_mem_nil, or_false] at hu
  rcases hu with rfl | rfl | rfl <;> rfl
theorem RowZs.low {B B' : Nat} {w : World} {v : Value} {l : List Int} (h : RowZs B w v l) (hB : B' ≤ B) : RowZs B' w v l := owns_low h hB
/-- A row of three owned lists is put behind. -/
theorem NOwnV.appR {e lo hi n : Nat} {w w' : World} {v v' x0 x1 x2 : Value} {vs : List Value} {ls ns : List (List Int)} {l0 l1 l2 : List Int} (h : NOwnV 3 e lo hi w v n vs ls) (hr : w'.ownsRow lo e 3 v' (n + 1) (vs ++ [x0, x1, x2])) (hg : w.grownBy w' v.ownBlock) (hv : v'.ownBlock = v.ownBlock ∨ v'.ownBlock = some w.heap.size) (hns : ns = [l0, l1, l2])
    (r0 : RowZs hi w x0 l0) (r1 : RowZs hi w x1 l1) (r2 : RowZs hi w x2 l2) (d01 : ∀ g, x0.ownBlock = some g → x1.ownBlock ≠ some g) (d02 : ∀ g, x0.ownBlock = some g → x2.ownBlock ≠ some g) (d12 : ∀ g, x1.ownBlock = some g → x2.ownBlock ≠ some g) (hw : hi ≤ w.heap.size) (hlo : lo ≤ hi) :
    NOwnV 3 e lo w'.heap.size w' v' (n + 1) (vs ++ [x0, x1, x2]) (ls ++ ns) := by
  subst hns
  refine h.app hr hg hv rfl (fun j hj => ?_) (fun i j k hi hj hij h1 h2 => ?_) hw hlo hg.size (fun k hk => (hr.lt k hk).2)
  · have hj3 : j = 0 ∨ j = 1 ∨ j = 2 := by omega
    rcases hj3 with rfl | rfl | rfl
    · exact ZOwn.of r0
    · exact ZOwn.of r1
    · exact ZOwn.of r2
  · have hi3 : i = 0 ∨ i = 1 ∨ i = 2 := by omega
    have hj3 : j = 0 ∨ j = 1 ∨ j = 2 := by omega
    rcases hi3 with rfl | rfl | rfl <;> rcases hj3 with rfl | rfl | rfl
    · exact absurd rfl hij
    · exact d01 k h1 h2
    · exact d02 k h1 h2
    · exact d01 k h2 h1
    · exact absurd rfl hij
    · exact d12 k h1 h2
    · exact d02 k h2 h1
    · exact d12 k h2 h1
    · exact absurd rfl hij
/-- What a list holds, for an append. -/
theorem ints_news {w : World} {l : List Int} {a : Option Addr} {c : Nat} (h : IntsAt w a l.length c (fun j => l.getD j 0)) (hl : 0 < l.length) : ∃ b off, a = some ⟨b, off, none⟩ ∧ b < c ∧ ∀ j u, (zsV l)[j]? = some u → w.cell? ((⟨b, off, none⟩ : Addr).add j) = some u := by
  obtain ⟨b, off, rfl, hb, _⟩ := h 0 hl
  refine ⟨b, off, rfl, hb, fun j u hj => ?_⟩
  have hj2 : j < l.length := by
    rcases Nat.lt_or_ge j l.length with h1 | h1
    · exact h1
    · rw [List.getElem?_eq_none (by simpa [zsV] using h1)] at hj
      cases hj
  obtain ⟨b', off', e, _, hc⟩ := h j hj2
  injection e with e
  injection e with e1 e2
  subst e1
  subst e2
  rw [Addr.add_lit, hc]
  simp [zsV, hj2] at hj ⊢
  exact hj

set_option maxHeartbeats 3200000 in
set_option maxRecDepth 100000 in
theorem sCopy_any (wi pu : Int) (a : Option Addr) (n c : Nat) (hn : n ≤ 16) (ls : List (List Int)) (hz : ∀ j, j < n * 3 → 1 ≤ (ls.getD j []).length ∧ (ls.getD j []).length ≤ 16) (w : World) (hA : NAt 3 w w.heap.size (.slice a n c) n ls) :
    Calls Try.prog 87 #[sysV wi pu (.slice a n c)] w fun e w' => ∃ v vs, e = .returned (sysV wi pu v) ∧ NOwnV 3 35 w.heap.size w'.heap.size w' v n vs ls ∧ Below w.heap.size w w' := by
  obtain ⟨i0, hi, hz0, hz1, hz2⟩ := info_parts infoRwM
  obtain ⟨j0, hj, hy0, hy1, hy2⟩ := info_parts info3I
  have HA : Hid (NAt 3 w w.heap.size (.slice a n c) n ls) := hA
  have hlen : Hid (ls.length = n * 3) := hA.1
  have HZ : Hid (∀ j, j < n * 3 → 1 ≤ (ls.getD j []).length ∧ (ls.getD j []).length ≤ 16) := hz
  clear hA hz
  unfold sysV
  obtain ⟨W, hW, hb, hx, hr, ho⟩ := boxes2r w 26 26 26 #[.int .i64 wi, .int .i64 pu, .slice a n c] #[.int .i64 0, .int .i64 0, .slice none 0 0] #[.int .i64 0, .int .i64 0, .slice none 0 0]
  have q0 := hx.cell 0
  have q1 := hx.cell 1
  have qa0 : ((w.alloc (.cells #[.int .i64 wi, .int .i64 pu, .slice a n c] 26)).alloc (.cells #[.int .i64 0, .int .i64 0, .slice none 0 0] 26)).cell? ⟨w.heap.size, 0, none⟩ = some (.int .i64 wi) := ((Blk.new w _ _).alloc _).cell 0
  have qa1 : ((w.alloc (.cells #[.int .i64 wi, .int .i64 pu, .slice a n c] 26)).alloc (.cells #[.int .i64 0, .int .i64 0, .slice none 0 0] 26)).cell? ⟨w.heap.size, 1, none⟩ = some (.int .i64 pu) := ((Blk.new w _ _).alloc _).cell 1
  go_enter Try.func87, Try.ntmps87
  go_wp2_with (refine store_blk (cs' := #[.int .i64 wi, .int .i64 pu, .slice none 0 0]) rfl rfl rfl rfl rfl ho infoSy rfl (onesSy _ _ _ _ _) ?_; intro V hsV hoth hbel; have hbV := hbel _ _ (by omega) hb; have hrV := hoth _ _ _ (by omega) hr; have hxV := hoth _ _ _ (by omega) hx; clear hoth hbel)
  clear hW hb hx hr ho q0 q1 qa0 qa1
  have H0 : Hid (Below w.heap.size w V ∧ Blk V w.heap.size 26 #[.int .i64 wi, .int .i64 pu, .slice a n c] ∧ Blk V (w.heap.size + 1) 26 #[.int .i64 0, .int .i64 0, .slice none 0 0] ∧ Blk V (w.heap.size + 1 + 1) 26 #[.int .i64 wi, .int .i64 pu, .slice none 0 0]) := ⟨hbV, hxV, hrV, hsV⟩
  clear hbV hrV hsV hxV
  go_loopw [4] (fun i wr => ∃ (k : Nat) (v : Value) (vs : List Value), i = .int .i64 (k : Int) ∧ k ≤ n ∧ NOwnV 3 35 (w.heap.size + 3) wr.heap.size wr v k vs (ls.take (k * 3)) ∧ Hid (Below w.heap.size w wr ∧ Blk wr w.heap.size 26 #[.int .i64 wi, .int .i64 pu, .slice a n c] ∧ Blk wr (w.heap.size + 1) 26 #[.int .i64 0, .int .i64 0, .slice none 0 0] ∧ Blk wr (w.heap.size + 1 + 1) 26 #[.int .i64 wi, .int .i64 pu, v])) (fun i _ => n - (intOf i).toNat)
  case atStart => exact ⟨0, .slice none 0 0, [], rfl, by omega, by simpa using nown_nil _ _ _ _ _, H0⟩
  case round =>
    obtain ⟨k, v, vs, rfl, hk, hown, HD⟩ := hrel
    clear H0
    have hws : w.heap.size + 3 ≤ wr.heap.size := HD.out.2.2.2.lt
    obtain ⟨ra, rc, hv⟩ := row_form hown.row
    subst hv
    have HRW : Hid (∀ g, (Value.slice ra k rc).ownBlock = some g → w.heap.size + 3 ≤ g ∧ g < wr.heap.size) := hown.row.lt
    have hx := HD.out.2.1
    have qx : wr.cell? ⟨w.heap.size, 2, none⟩ = some (.slice a n c) := hx.cell 2
    by_cases hlt : k < n
    · have hlt' : (k : Int) < (n : Int) := by omega
      have hk0 : (0 : Int) ≤ (k : Int) := by omega
      have hm63 : k + 1 ≤ maxLen := by unfold maxLen; omega
      have hm47 : (k + 1) * 72 ≤ 140737488355328 := by omega
      have HOW : Hid (NOwnV 3 35 (w.heap.size + 3) wr.heap.size wr (.slice ra k rc) k vs (ls.take (k * 3))) := hown
      obtain ⟨b, off, a0, c0, a1, c1, a2, c2, rfl, hbb, z0, z1, z2, i0', i1', i2'⟩ := (HA.out.on HD.out.1).row3 hlt
      have HI : Hid (IntsAt wr a0 (ls.getD (k * 3) []).length w.heap.size (fun j => (ls.getD (k * 3) []).getD j 0) ∧ IntsAt wr a1 (ls.getD (k * 3 + 1) []).length w.heap.size (fun j => (ls.getD (k * 3 + 1) []).getD j 0) ∧ IntsAt wr a2 (ls.getD (k * 3 + 2) []).length w.heap.size (fun j => (ls.getD (k * 3 + 2) []).getD j 0)) := ⟨i0', i1', i2'⟩
      have e0 := HZ.out (k * 3) (by omega)
      have e1 := HZ.out (k * 3 + 1) (by omega)
      have e2 := HZ.out (k * 3 + 2) (by omega)
      have HNX : Hid (ls.take (k * 3) ++ [ls.getD (k * 3) [], ls.getD (k * 3 + 1) [], ls.getD (k * 3 + 2) []] = ls.take ((k + 1) * 3)) := (take_three ls k (by have := hlen.out; omega)).symm
      generalize ls.getD (k * 3) [] = l0 at HI e0 HNX z0
      generalize ls.getD (k * 3 + 1) [] = l1 at HI e1 HNX z1
      generalize ls.getD (k * 3 + 2) [] = l2 at HI e2 HNX z2
      clear hown i0' i1' i2' hbb
      go_wp2
      obtain ⟨V, hV, hbV, hrV⟩ := box1 wr 35 #[.slice a0 l0.length c0, .slice a1 l1.length c1, .slice a2 l2.length c2]
      rw [hV]
      clear hV
      have hoV := HD.out.2.2.2.on hbV HD.out.2.2.2.lt
      refine wp_region_lastTo [(0, false), (1, false), (3, false), (4, false), (7, false), (8, false), (11, false), (12, false)] 18 11 #[true, true, false, true, true, false, false, true, true, false, false, true, true, false, false, false, false, false, false] (fun wz => Blk wz (w.heap.size + 1 + 1) 26 #[.int .i64 wi, .int .i64 pu, .slice ra k rc] ∧ Blk wz wr.heap.size 35 #[.slice a0 l0.length c0, .slice a1 l1.length c1, .slice a2 l2.length c2]) mixes (by kernel_rfl) ⟨hoV.drew, hrV.drew⟩ ?_
      repeat (refine ord_float rfl rfl (fun K hK => ⟨_, (fun w' hw => by have q0 := hw.1.cell 2; have q1 :=  hw.2.cell 0; have q2 :=  hw.2.cell 1; have q3 :=  hw.2.cell 2; go_simp; exact rfl), ?_⟩); go_simp; refine hK _ ?_; clear hK K)
      refine ord_nil ?_
      have hVs : wr.heap.size ≤ V.heap.size := hbV.size
      obtain ⟨I0, I1, I2⟩ := HI.out
      obtain ⟨b0, o0, rfl, hb0, N0⟩ := ints_news I0 (by omega)
      obtain ⟨b1, o1, rfl, hb1, N1⟩ := ints_news I1 (by omega)
      obtain ⟨b2, o2, rfl, hb2, N2⟩ := ints_news I2 (by omega)
      have hcell : ∀ (w2 : World), Below V.heap.size V w2 → ∀ (b : Nat), b < w.heap.size → ∀ (off j : Nat), w2.cell? ((⟨b, off, none⟩ : Addr).add j) = wr.cell? ((⟨b, off, none⟩ : Addr).add j) := fun w2 h2 b hb off j => by
        rw [Addr.add_lit]
        exact (h2.cell (p := ⟨b, off + j, none⟩) (by show b < _; omega)).trans (hbV.cell (p := ⟨b, off + j, none⟩) (by show b < _; omega))
      refine anyL_free0 (H := H3) (LS := [#[true, true, false, true, true, false, false, true, true, false, false, true, true, false, false, false, false, false, false], #[true, true, true, true, true, false, false, true, true, false, false, true, true, false, false, false, false, false, false], #[true, true, false, true, true, false, true, true, true, false, false, true, true, false, false, false, false, false, false], #[true, true, false, true, true, false, false, true, true, false, true, true, true, false, false, false, false, false, false], #[true, true, true, true, true, true, false, true, true, false, false, true, true, false, false, false, false, false, false], #[true, true, true, true, true, false, true, true, true, false, false, true, true, false, false, false, false, false, false], #[true, true, true, true, true, false, false, true, true, false, true, true, true, false, false, false, false, false, false], #[true, true, false, true, true, false, true, true, true, false, true, true, true, false, false, false, false, false, false], #[true, true, true, true, true, true, true, true, true, false, false, true, true, false, false, false, false, false, false], #[true, true, true, true, true, true, false, true, true, false, true, true, true, false, false, false, false, false, false], #[true, true, true, true, true, false, true, true, true, false, true, true, true, false, false, false, false, false, false], #[true, true, true, true, true, true, true, true, true, true, false, true, true, false, false, false, false, false, false], #[true, true, true, true, true, true, true, true, true, false, true, true, true, false, false, false, false, false, false], #[true, true, true, true, true, true, true, true, true, true, true, true, true, false, false, false, false, false, false], #[true, true, true, true, true, true, true, true, true, true, true, true, true, true, false, false, false, false, false]]) (Le := #[true, true, true, true, true, true, true, true, true, true, true, true, true, true, false, false, false, false, false]) (m := 5) (JCopy V l0 l1 l2) (by kernel_rfl) (by kernel_rfl) ?_ ⟨(Below.refl _ _).drew, fun i hi h => ?_, fun i hi h => ?_, fun i j hi hj hc h => ?_⟩ ⟨hoV.drew, hrV.drew⟩ ?_
      · intro L i o v w2 hiH ho hJ hun hall
        rw [putSt_H3 v _ rfl rfl rfl rfl rfl rfl rfl]
        simp only [H3, List.mem_cons, List.not_mem_nil, or_false] at hiH
        rcases hiH with rfl | rfl | rfl | rfl | rfl | rfl <;> obtain rfl := Option.some.inj ho
        · have hJ3 := hJ.made (i := 2) hun rfl
          exact ⟨_, _, (by go_simp <;> rfl), ⟨hoV.on hJ3.bel hoV.lt, hrV.on hJ3.bel hrV.lt⟩, hJ3⟩
        · have hdL : L.getD 2 false = true := hall { on := 2, ground := .data } (by simp) rfl
          have hrd : w2.ownsRow V.heap.size 3 1 (v 2) 0 [] := hJ.row 2 (by simp [H3]) ⟨hdL, .inr (.inr (.inr (lt_of_un hun).2))⟩
          refine step_append (.tmp 25) (.tmp 27) 27 rfl V.heap.size 3 j0 (.int .i64 0) 1 8 Try.underlying27 hj hy0 hy1 hy2 rfl (by decide) (v 2) 0 [] (by go_simp) hrd ⟨b0, o0, none⟩ l0.length c0 (zsV l0) (by go_simp) (by simp [zsV]) (fun j u hju => (hcell w2 hJ.bel b0 hb0 o0 j).trans (N0 j u hju)) (zsV_one l0) (by unfold maxLen; omega) (by omega) hJ.bel.size (fun x w3 hown3 hg3 hat3 => ?_)
          have hJ3 := hJ.app (i := 5) (d := 2) hun (by simp [H3]) hdL rfl rfl (fun j hj hji hc => by simp only [H3, List.mem_cons, List.not_mem_nil, or_false] at hj; rcases hj with rfl | rfl | rfl | rfl | rfl | rfl <;> first | rfl | exact absurd rfl hji | (exact absurd hc (by decide))) (by decide) hown3 hg3 hat3
          exact ⟨⟨hoV.on hJ3.bel hoV.lt, hrV.on hJ3.bel hrV.lt⟩, hJ3⟩
        · have hJ3 := hJ.made (i := 6) hun rfl
          exact ⟨_, _, (by go_simp <;> rfl), ⟨hoV.on hJ3.bel hoV.lt, hrV.on hJ3.bel hrV.lt⟩, hJ3⟩
        · have hdL : L.getD 6 false = true := hall { on := 6, ground := .data } (by simp) rfl
          have hrd : w2.ownsRow V.heap.size 3 1 (v 6) 0 [] := hJ.row 6 (by simp [H3]) ⟨hdL, .inr (.inr (.inr (lt_of_un hun).2))⟩
          refine step_append (.tmp 29) (.tmp 31) 27 rfl V.heap.size 3 j0 (.int .i64 0) 1 8 Try.underlying27 hj hy0 hy1 hy2 rfl (by decide) (v 6) 0 [] (by go_simp) hrd ⟨b1, o1, none⟩ l1.length c1 (zsV l1) (by go_simp) (by simp [zsV]) (fun j u hju => (hcell w2 hJ.bel b1 hb1 o1 j).trans (N1 j u hju)) (zsV_one l1) (by unfold maxLen; omega) (by omega) hJ.bel.size (fun x w3 hown3 hg3 hat3 => ?_)
          have hJ3 := hJ.app (i := 9) (d := 6) hun (by simp [H3]) hdL rfl rfl (fun j hj hji hc => by simp only [H3, List.mem_cons, List.not_mem_nil, or_false] at hj; rcases hj with rfl | rfl | rfl | rfl | rfl | rfl <;> first | rfl | exact absurd rfl hji | (exact absurd hc (by decide))) (by decide) hown3 hg3 hat3
          exact ⟨⟨hoV.on hJ3.bel hoV.lt, hrV.on hJ3.bel hrV.lt⟩, hJ3⟩
        · have hJ3 := hJ.made (i := 10) hun rfl
          exact ⟨_, _, (by go_simp <;> rfl), ⟨hoV.on hJ3.bel hoV.lt, hrV.on hJ3.bel hrV.lt⟩, hJ3⟩
        · have hdL : L.getD 10 false = true := hall { on := 10, ground := .data } (by simp) rfl
          have hrd : w2.ownsRow V.heap.size 3 1 (v 10) 0 [] := hJ.row 10 (by simp [H3]) ⟨hdL, .inr (.inr (.inr (lt_of_un hun).2))⟩
          refine step_append (.tmp 33) (.tmp 35) 27 rfl V.heap.size 3 j0 (.int .i64 0) 1 8 Try.underlying27 hj hy0 hy1 hy2 rfl (by decide) (v 10) 0 [] (by go_simp) hrd ⟨b2, o2, none⟩ l2.length c2 (zsV l2) (by go_simp) (by simp [zsV]) (fun j u hju => (hcell w2 hJ.bel b2 hb2 o2 j).trans (N2 j u hju)) (zsV_one l2) (by unfold maxLen; omega) (by omega) hJ.bel.size (fun x w3 hown3 hg3 hat3 => ?_)
          have hJ3 := hJ.app (i := 13) (d := 10) hun (by simp [H3]) hdL rfl rfl (fun j hj hji hc => by simp only [H3, List.mem_cons, List.not_mem_nil, or_false] at hj; rcases hj with rfl | rfl | rfl | rfl | rfl | rfl <;> first | rfl | exact absurd rfl hji | (exact absurd hc (by decide))) (by decide) hown3 hg3 hat3
          exact ⟨⟨hoV.on hJ3.bel hoV.lt, hrV.on hJ3.bel hrV.lt⟩, hJ3⟩
      · simp only [H3, List.mem_cons, List.not_mem_nil, or_false] at hi
        rcases hi with rfl | rfl | rfl | rfl | rfl | rfl <;> cases h.1
      · simp only [H3, List.mem_cons, List.not_mem_nil, or_false] at hi
        rcases hi with rfl | rfl | rfl | rfl | rfl | rfl <;> cases h
      · simp only [H3, List.mem_cons, List.not_mem_nil, or_false] at hi
        rcases hi with rfl | rfl | rfl | rfl | rfl | rfl <;> cases h
      · intro v w2 hJ hS2
        have R0 : RowZs V.heap.size w2 (v 5) l0 := hJ.row 5 (by simp [H3]) ⟨rfl, .inl rfl⟩
        have R1 : RowZs V.heap.size w2 (v 9) l1 := hJ.row 9 (by simp [H3]) ⟨rfl, .inr (.inl rfl)⟩
        have R2 : RowZs V.heap.size w2 (v 13) l2 := hJ.row 13 (by simp [H3]) ⟨rfl, .inr (.inr (.inl rfl))⟩
        have D01 := hJ.apart 5 9 (by simp [H3]) (by simp [H3]) (by decide) rfl rfl
        have D02 := hJ.apart 5 13 (by simp [H3]) (by simp [H3]) (by decide) rfl rfl
        have D12 := hJ.apart 9 13 (by simp [H3]) (by simp [H3]) (by decide) rfl rfl
        have hB2 := hJ.bel
        rw [putSt_H3 v _ rfl rfl rfl rfl rfl rfl rfl]
        generalize v 5 = x0 at *
        generalize v 9 = x1 at *
        generalize v 13 = x2 at *
        generalize v 2 = y0
        generalize v 6 = y1
        generalize v 10 = y2
        clear hJ
        obtain ⟨p0, q0, hp0⟩ := row_form R0
        obtain ⟨p1, q1, hp1⟩ := row_form R1
        obtain ⟨p2, q2, hp2⟩ := row_form R2
        subst hp0 hp1 hp2
        go_simp
        refine anyL_ord [(14, false), (15, true), (16, true), (17, false)] (by kernel_rfl) hS2 ?_
        repeat (refine ord_float rfl rfl (fun K hK => ⟨_, (fun w' hw => by have q0 := hw.1.cell 2; go_simp; exact rfl), ?_⟩); go_simp; refine hK _ ?_; clear hK K)
        have hV2 : V.heap.size ≤ w2.heap.size := hB2.size
        have hB2w := HD.out.1.trans ((hbV.trans (hB2.mono hVs)).mono HD.out.1.size)
        have ho2 := hoV.on hB2 hoV.lt
        have hr2 := hrV.on hB2 hrV.lt
        have hx2 := (hx.on hbV hx.lt).on hB2 (hx.on hbV hx.lt).lt
        have hrs := HD.out.2.2.1.on hbV HD.out.2.2.1.lt
        have hrs2 := hrs.on hB2 hrs.lt
        have hown2 := (HOW.out.same (Same.of_below hbV (Nat.le_refl _))).same (Same.of_below hB2 hVs)
        clear hS2
        refine ord_op rfl rfl (fun K hK => ⟨.slice (some ⟨w2.heap.size, 0, none⟩) 1 1, w2.alloc (.cells #[.slice p0 l0.length q0, .slice p1 l1.length q1, .slice p2 l2.length q2] 35), (by go_simp <;> rfl), ⟨ho2.alloc _, hr2.alloc _⟩, ?_⟩)
        go_simp
        refine hK _ _ ?_
        clear hK K
        have hown6 := hown2.same (w' := w2.alloc (.cells #[.slice p0 l0.length q0, .slice p1 l1.length q1, .slice p2 l2.length q2] 35)) (Same.of_below ((Below.refl w2.heap.size w2).alloc (Nat.le_refl _) _) (by omega))
        refine ord_append rfl rfl _ _ 24 rfl (w.heap.size + 3) 35 i0 (.agg #[.slice none 0 0, .slice none 0 0, .slice none 0 0]) 3 72 Try.underlying24 hi hz0 hz1 hz2 rfl (by decide) _ _ _ rfl hown6.row ⟨w2.heap.size, 0, none⟩ 1 1 [.slice p0 l0.length q0, .slice p1 l1.length q1, .slice p2 l2.length q2] rfl rfl (cells_two _ _ _ _ rfl) (three_slices _ _ _ _ _ _ _ _ _) hm63 hm47 (by simp; omega) ?_
        intro v' w7 hown' hgrow hat
        have hAs : (w2.alloc (.cells #[.slice p0 l0.length q0, .slice p1 l1.length q1, .slice p2 l2.length q2] 35)).heap.size = w2.heap.size + 1 := by simp
        have hown7 := hown6.appR (ns := [l0, l1, l2]) hown' hgrow (by rw [hAs] at hat ⊢; exact hat) rfl (R0.low hVs |> fun h => World.ownsRow.alloc h _) (R1.low hVs |> fun h => World.ownsRow.alloc h _) (R2.low hVs |> fun h => World.ownsRow.alloc h _) D01 D02 D12 (by omega) (by omega)
        rw [HNX.out] at hown7
        have hne1 : some (w.heap.size + 1 + 1) ≠ (Value.slice ra k rc).ownBlock := fun e => by have := HRW.out _ e.symm; omega
        have hne0 : some w.heap.size ≠ (Value.slice ra k rc).ownBlock := fun e => by have := HRW.out _ e.symm; omega
        have hne3 : some (w.heap.size + 1) ≠ (Value.slice ra k rc).ownBlock := fun e => by have := HRW.out _ e.symm; omega
        have hne2 : some wr.heap.size ≠ (Value.slice ra k rc).ownBlock := fun e => by have := HRW.out _ e.symm; omega
        have ho7 : Blk w7 (w.heap.size + 1 + 1) 26 #[.int .i64 wi, .int .i64 pu, .slice ra k rc] := (hgrow.block _ (ho2.alloc _).lt hne1).trans (ho2.alloc _)
        have hr7 : Blk w7 wr.heap.size 35 _ := (hgrow.block _ (hr2.alloc _).lt hne2).trans (hr2.alloc _)
        have hx7 : Blk w7 w.heap.size 26 _ := (hgrow.block _ (hx2.alloc _).lt hne0).trans (hx2.alloc _)
        have hrs7 : Blk w7 (w.heap.size + 1) 26 _ := (hgrow.block _ (hrs2.alloc _).lt hne3).trans (hrs2.alloc _)
        have hB7 : Below w.heap.size w w7 := (hB2w.alloc (by omega) _).grown hgrow (by omega) (fun g hg => by have := HRW.out _ hg; omega)
        clear hown' hgrow hat hown6 hown2 ho2 hr2 hx2 hrs2 hB2w R0 R1 R2 D01 D02 D12
        obtain ⟨a7, c7, hv7⟩ := row_form hown7.row
        subst hv7
        refine ⟨⟨ho7, hr7⟩, fun K hK => ?_⟩
        go_simp
        refine hK _ ?_
        clear hK K
        repeat (refine ord_float rfl rfl (fun K hK => ⟨_, (fun w' hw => by have q0 := hw.1.cell 2; go_simp; exact rfl), ?_⟩); go_simp; refine hK _ ?_; clear hK K)
        refine ord_nil ?_
        have cc0 := ho7.cell 2
        have cc1 := ho7.free 2
        refine last_store rfl rfl rfl (w7.setCell ⟨w.heap.size + 1 + 1, 2, none⟩ (.slice a7 (k + 1) c7)) (by go_simp <;> rfl) ?_
        obtain ⟨w8, hw8⟩ : ∃ w8, w7.setCell ⟨w.heap.size + 1 + 1, 2, none⟩ (.slice a7 (k + 1) c7) = w8 := ⟨_, rfl⟩
        rw [hw8]
        have hsz8 : w8.heap.size = w7.heap.size := by rw [← hw8]; simp [World.setCell]
        have hown8 : NOwnV 3 35 (w.heap.size + 3) w8.heap.size w8 (.slice a7 (k + 1) c7) (k + 1) (vs ++ [.slice p0 l0.length q0, .slice p1 l1.length q1, .slice p2 l2.length q2]) (ls.take ((k + 1) * 3)) := by rw [hsz8]; exact hown7.same (by rw [← hw8]; exact Same.set _ _ _ (.inl (by show w.heap.size + 1 + 1 < _; omega)))
        have HD8 : Hid (Below w.heap.size w w8 ∧ Blk w8 w.heap.size 26 #[.int .i64 wi, .int .i64 pu, .slice (some ⟨b, off, none⟩) n c] ∧ Blk w8 (w.heap.size + 1) 26 #[.int .i64 0, .int .i64 0, .slice none 0 0] ∧ Blk w8 (w.heap.size + 1 + 1) 26 #[.int .i64 wi, .int .i64 pu, .slice a7 (k + 1) c7]) := by
          rw [← hw8]
          exact ⟨hB7.setCell (p := ⟨w.heap.size + 1 + 1, 2, none⟩) (by show w.heap.size ≤ w.heap.size + 1 + 1; omega) _, hx7.other (by omega) _, hrs7.other (by omega) _, ho7.set 2 _⟩
        clear hw8 hsz8 hown7 ho7 hr7 hx7 hrs7 hB7 cc0 cc1 HNX HRW HI I0 I1 I2 N0 N1 N2 hcell HOW HD hbV hrV hoV hx qx z0 z1 z2 hrs
        go_wp2
        go_roundw
        case rel => exact ⟨k + 1, _, _, by go_num, hlt, hown8, HD8⟩
        case measure => simp [intOf]; omega
    · have hlt' : ¬ (k : Int) < (n : Int) := by omega
      obtain rfl : n = k := by omega
      have HO : Hid (NOwnV 3 35 (w.heap.size + 3) wr.heap.size wr (.slice ra n rc) n vs ls) := by
        have h := hown
        rw [show ls.take (n * 3) = ls by rw [← hlen.out, List.take_length]] at h
        exact h
      have hr := HD.out.2.2.1
      have hB := HD.out.1
      have hs := HD.out.2.2.2
      clear hown
      go_wp2_with (first | (refine load_blk rfl rfl rfl hs Try.underlying26 infoSy ?_) | (refine store_blk (cs' := #[.int .i64 wi, .int .i64 pu, .slice ra n rc]) rfl rfl rfl rfl rfl hr infoSy rfl (onesSy _ _ _ _ _) ?_; intro V h5 hoth hbel; have hbV := hbel _ _ (by omega) hB; have hbV0 := hbel 0 _ (Nat.zero_le _) (Below.refl 0 _); have hOV := HO.out.oth hoth (by omega); clear hoth hbel))
      refine bodyPost_ret_by (result_blk rfl rfl h5 Try.underlying26 infoSy) rfl ⟨_, rfl, ⟨_, (hOV.wide hbV0.size).low (by omega)⟩, hbV⟩

end Go.Proofs.Ytjlijflfepffiaa
