/-
  Texts of one's own, joined.
-/
import Derived.Test.YthnahalboomkoaaGreatJoined13
import Derived.Test.YthnahalboomkoaaGreatJoined10
import Derived.Test.YthnahalboomkoaaGreatJoined6

/-
  Operations of a region that draws which may come up in whatever order, calls among them: what is known of them behind all of them.
-/
namespace Go.Proofs.YthnahalboomkoaaGreat
open Go.RowKit

section
variable {P : Program} {ops : Array Oper} {Q : Exit → Act → World → Prop} {S : World → Prop}

/-- Behind all of them, in whatever order they came up. -/
theorem anyH_free {H : List Nat} {LS : List (Array Bool)} {Le : Array Bool} {a0 : Act} {m : Nat} (J : Array Bool → (Nat → Value) → World → Prop) (hB : freeB ops ops.size H LS Le = true)
    (step : ∀ (L : Array Bool) (i : Nat) (o : Oper) (v : Nat → Value) (w : World), i ∈ H → ops[i]? = some o → J L v w → S w → L.getD i true = false → (∀ e ∈ o.after, Region.binds .any e = true → L.getD e.on false = true) →
      (∃ x w', (execOp (putSt ops v a0 (fun i => H.contains i) ops.size).eval o).run P w = .ok (.value x) w' ∧ S w' ∧ J (L.setIfInBounds i true) (upd v i x) w') ∨
      (∃ w', (execOp (putSt ops v a0 (fun i => H.contains i) ops.size).eval o).run P w = .ok .skip w' ∧ S w' ∧ J (L.setIfInBounds i true) (upd v i undef) w') ∨
      ∃ f args, (execOp (putSt ops v a0 (fun i => H.contains i) ops.size).eval o).run P w = .ok (.enter f args) w ∧ Calls P f args w fun e w' => ∃ x, e = .returned x ∧ S w' ∧ J (L.setIfInBounds i true) (upd v i x) w')
    (fin : ∀ v w, J Le v w → S w → wpAnyH P .any ops (NoPanic Q) S m Le (putSt ops v a0 (fun i => H.contains i) ops.size) w) :
    ∀ (n : Nat) (L : Array Bool) (v : Nat → Value) (w : World), n = cntH H L → L ∈ LS → J L v w → S w → wpAnyH P .any ops (NoPanic Q) S (m + n) L (putSt ops v a0 (inH H L) ops.size) w := by
  simp only [freeB, Bool.and_eq_true, decide_eq_true_eq] at hB
  obtain ⟨⟨⟨⟨⟨⟨⟨hsel, hH⟩, hds⟩, hlook⟩, hLS⟩, hLe⟩, hce⟩, hLes⟩ := hB
  have hdst : ∀ j k, j < ops.size → k < ops.size → k ≠ j → ∀ d, dsOf ops j = some d → dsOf ops k ≠ some d := by
    intro j k hj hk hne d hd
    have h1 := List.all_eq_true.1 (List.all_eq_true.1 hds j (List.mem_range.2 hj)) k (List.mem_range.2 hk)
    have e : (k == j) = false := by simp [hne]
    rw [e, hd] at h1
    simpa using h1
  have hends : ∀ v, putSt ops v a0 (inH H Le) ops.size = putSt ops v a0 (fun i => H.contains i) ops.size := fun v => putSt_congr _ fun j _ => by
    unfold inH
    cases hc : H.contains j
    · rfl
    · rw [List.all_eq_true.1 hLe j (by simpa using hc)]; rfl
  intro n
  induction n with
  | zero =>
    intro L v w hn hL hJ hS
    have h1 := List.all_eq_true.1 hLS L hL
    simp only [Bool.and_eq_true, Bool.or_eq_true, decide_eq_true_eq] at h1
    rcases h1.2 with rfl | h2
    · rw [hends]; exact fin v w hJ hS
    · obtain ⟨hr, ha⟩ := h2
      exfalso
      cases hq : Region.ready .any ops L with
      | nil => rw [hq] at hr; cases hr
      | cons i t =>
        have h3 := List.all_eq_true.1 ha i (by rw [hq]; exact List.mem_cons_self)
        simp only [Bool.and_eq_true, decide_eq_true_eq] at h3
        omega
  | succ n ih =>
    intro L v w hn hL hJ hS
    have h1 := List.all_eq_true.1 hLS L hL
    simp only [Bool.and_eq_true, Bool.or_eq_true, decide_eq_true_eq] at h1
    obtain ⟨hsz, h1⟩ := h1
    rcases h1 with rfl | ⟨hr, ha⟩
    · omega
    · refine ⟨fun h0 => (by rw [h0] at hr; cases hr), fun i hi => ?_⟩
      have h3 := List.all_eq_true.1 ha i hi
      simp only [Bool.and_eq_true, decide_eq_true_eq] at h3
      obtain ⟨⟨hiH, hLS2⟩, hcnt⟩ := h3
      have hiH' : i ∈ H := by simpa using hiH
      obtain ⟨hun, o, ho, hall⟩ := mem_ready.1 hi
      have hp := List.all_eq_true.1 hH i hiH'
      simp only [Bool.and_eq_true, decide_eq_true_eq] at hp
      obtain ⟨⟨hisz, his⟩, hg⟩ := hp
      rw [ho] at hg
      have hdo : dsOf ops i = o.dst := by simp [dsOf, ho]
      have hunf : L.getD i false = false := by
        have : i < L.size := by omega
        simp [this] at hun ⊢
        exact hun
      have hinot : inH H L i = false := by unfold inH; rw [hunf, Bool.and_false]
      have hst := step L i o v w hiH' ho hJ hS hun hall
      have hsame := putSt_same (ops := ops) (v := v) (a := a0) (n := ops.size) (o := o) (fun cs b => Region.noSelect_spec hsel i o cs b ho) (fun j k hj hk hne d hd => hdst j k hj hk hne d hd) (S := inH H L) (T := fun i => H.contains i) (fun j hj => by unfold inH at hj; simp only [Bool.and_eq_true] at hj; exact hj.1) (fun j hj hT hSj d hd => by
        have hjH : j ∈ H := by simpa using hT
        have h5 := List.all_eq_true.1 (List.all_eq_true.1 hlook i hiH') j hjH
        rw [hd, ho] at h5
        simp only [Bool.or_eq_true, Bool.and_eq_true, Bool.not_eq_true', decide_eq_true_eq] at h5
        rcases h5 with h5 | ⟨_, h6⟩
        · simpa using h5
        · exfalso
          simp only [Array.any_eq_true] at h6
          obtain ⟨q, hq, hb⟩ := h6
          rw [Bool.and_eq_true, decide_eq_true_eq] at hb
          have h7 := hall o.after[q] (Array.getElem_mem hq) hb.1
          rw [hb.2] at h7
          unfold inH at hSj
          rw [hT, h7] at hSj
          cases hSj)
      have hfr : ∀ x, (putSt ops v a0 (inH H L) ops.size).put o.dst x = putSt ops (upd v i x) a0 (inH H (L.setIfInBounds i true)) ops.size   := fun x => by
        have e1 : putSt ops (upd v i x) a0 (inH H (L.setIfInBounds i true)) ops.size = putSt ops (upd v i x) a0 (more (inH H L) i) ops.size := putSt_congr _ fun j _ => by
          unfold inH more
          by_cases hji : i = j
          · subst hji
            rw [getD_set_same' (by omega), hiH]
            simp
          · rw [getD_set_ne' hji]
            have : (j == i) = false := by simp; exact fun e => hji e.symm
            rw [this, Bool.or_false]
        rw [e1, putSt_more (n := ops.size) (fun k hk hne => hdst i k hisz hk hne) hinot ops.size hisz (Nat.le_refl _), hdo]
        have e2 : upd v i x i = x := by unfold upd; rw [if_pos rfl]
        rw [e2]
        congr 1
        have gen : ∀ k, putSt ops v a0 (inH H L) k = putSt ops (upd v i x) a0 (inH H L) k := by
          intro k
          induction k with
          | zero => rfl
          | succ k ih2 =>
            simp only [putSt, ih2]
            split
            · rename_i hk
              have hki : k ≠ i := fun e => by subst e; rw [hinot] at hk; cases hk
              have : upd v i x k = v k := by unfold upd; rw [if_neg hki]
              rw [this]
            · rfl
        exact gen _
      have hon : ∀ x w', S w' → J (L.setIfInBounds i true) (upd v i x) w' → S w' ∧ wpAnyH P .any ops (NoPanic Q) S (m + n) (L.setIfInBounds i true) ((putSt ops v a0 (inH H L) ops.size).put o.dst x) w' := fun x w' hS' hJ' => by
        rw [hfr]
        exact ⟨hS', ih (L.setIfInBounds i true) (upd v i x) w' (by omega) (by simpa using hLS2) hJ' hS'⟩
      show wpOp P ops (NoPanic Q) i _ _ w
      unfold wpOp
      simp only [ho]
      rw [if_pos (wanted_plain hg _)]
      refine .inl ?_
      unfold Oper.wp
      rw [← hsame.1]
      rcases hst with ⟨x, w', hrun, hS', hJ'⟩ | ⟨w', hrun, hS', hJ'⟩ | ⟨f, args, hrun, hc⟩
      · rw [hrun]
        exact hon x w' hS' hJ'
      · rw [hrun]
        exact hon undef w' hS' hJ'
      · rw [hrun]
        simp only [Oper.upon]
        exact hc.mono fun e w' ⟨x, he, hS', hJ'⟩ => by subst he; exact hon x w' hS' hJ'

/-- The same from a place at which none of them has come up. -/
theorem anyH_free0 {H : List Nat} {LS : List (Array Bool)} {Le L0 : Array Bool} {a0 : Act} {m N : Nat} {w : World} (J : Array Bool → (Nat → Value) → World → Prop) (hB : freeB ops ops.size H LS Le = true)
    (h0 : (LS.contains L0 && decide (N = m + cntH H L0) && H.all fun i => !L0.getD i false) = true)
    (step : ∀ (L : Array Bool) (i : Nat) (o : Oper) (v : Nat → Value) (w : World), i ∈ H → ops[i]? = some o → J L v w → S w → L.getD i true = false → (∀ e ∈ o.after, Region.binds .any e = true → L.getD e.on false = true) →
      (∃ x w', (execOp (putSt ops v a0 (fun i => H.contains i) ops.size).eval o).run P w = .ok (.value x) w' ∧ S w' ∧ J (L.setIfInBounds i true) (upd v i x) w') ∨
      (∃ w', (execOp (putSt ops v a0 (fun i => H.contains i) ops.size).eval o).run P w = .ok .skip w' ∧ S w' ∧ J (L.setIfInBounds i true) (upd v i undef) w') ∨
      ∃ f args, (execOp (putSt ops v a0 (fun i => H.contains i) ops.size).eval o).run P w = .ok (.enter f args) w ∧ Calls P f args w fun e w' => ∃ x, e = .returned x ∧ S w' ∧ J (L.setIfInBounds i true) (upd v i x) w')
    (hJ : J L0 (fun _ => undef) w) (hS : S w)
    (fin : ∀ v w, J Le v w → S w → wpAnyH P .any ops (NoPanic Q) S m Le (putSt ops v a0 (fun i => H.contains i) ops.size) w) : wpAnyH P .any ops (NoPanic Q) S N L0 a0 w := by
  simp only [Bool.and_eq_true, decide_eq_true_eq] at h0
  obtain ⟨⟨h1, h2⟩, h3⟩ := h0
  have h4 := anyH_free (P := P) (Q := Q) (S := S) (a0 := a0) (m := m) J hB step fin (cntH H L0) L0 (fun _ => undef) w rfl (by simpa using h1) hJ hS
  rw [h2]
  have e : putSt ops (fun _ => undef) a0 (inH H L0) ops.size = a0 := by
    have gen : ∀ k, putSt ops (fun _ => undef) a0 (inH H L0) k = a0 := by
      intro k
      induction k with
      | zero => rfl
      | succ k ih =>
        have hk : inH H L0 k = false := by
          unfold inH
          cases hc : H.contains k
          · rfl
          · have := List.all_eq_true.1 h3 k (by simpa using hc)
            rw [Bool.not_eq_true'] at this
            rw [this]
            rfl
        simp only [putSt, ih, hk, Bool.false_eq_true, if_false]
    exact gen _
  rw [e] at h4
  exact h4

end

end Go.Proofs.YthnahalboomkoaaGreat

/-
  A region that draws: a chain of calls, and beside it a block that is made at whatever time, into which their answer is stored.
-/
namespace Go.Proofs.YthnahalboomkoaaGreat
open Go.RowKit

section
variable {P : Program} {ops : Array Oper} {Q : Exit → Act → World → Prop}

theorem upd_at (v : Nat → Value) (i : Nat) (x : Value) : upd v i x i = x := if_pos rfl
theorem upd_ne (v : Nat → Value) {i j : Nat} (x : Value) (h : j ≠ i) : upd v i x j = v j := if_neg h
theorem un_lt {L : Array Bool} {i : Nat} (h : L.getD i true = false) : i < L.size ∧ L.getD i false = false := by
  rcases Nat.lt_or_ge i L.size with h1 | h1
  · refine ⟨h1, ?_⟩
    simp [h1] at h ⊢
    exact h
  · simp [Array.getElem?_eq_none h1] at h
/-- What is known while a chain of calls comes up (the last is c: A is what its answer is, N that a block is none of its own), and a block of z beside it (made by operation al, filled by operation st with cs of the answer). -/
structure ChJ (W : World) (Vp : Nat → Value → Value → Prop) (M : Nat → Value → World → Prop) (A : Value → World → Prop) (N : Value → Nat → Prop) (c al st t : Nat) (z : Array Value) (cs : Value → Array Value) (L : Array Bool) (v : Nat → Value) (w : World) : Prop where
  val : ∀ i, L.getD i false = true → ∀ y, (L.getD c false = true → y = v c) → Vp i (v i) y
  mem : L.getD c false = false → ∀ i, L.getD i false = true → M i (v i) w
  ans : L.getD c false = true → A (v c) w
  blk : L.getD al false = true → ∃ g, v al = .pointer (some ⟨g, 0, none⟩) ∧ W.heap.size ≤ g ∧ (L.getD c false = true → N (v c) g) ∧ Blk w g t (if L.getD st false then cs (v c) else z)
  pre : L.getD st false = true → L.getD c false = true ∧ L.getD al false = true
theorem ChJ.on {W : World} {Vp : Nat → Value → Value → Prop} {M : Nat → Value → World → Prop} {A : Value → World → Prop} {N : Value → Nat → Prop} {c al st t : Nat} {z : Array Value} {cs : Value → Array Value} {L : Array Bool} {v : Nat → Value} {w w' : World} {i : Nat} {x : Value} (h : ChJ W Vp M A N c al st t z cs L v w) (hM : ∀ i x w w', M i x w → Below w.heap.size w w' → M i x w') (hA : ∀ x w w', A x w → Below w.heap.size w w' → A x w') (hun : L.getD i true = false) (hal : i ≠ al) (hst : i ≠ st) (hb : Below w.heap.size w w') (hv : ∀ y, (L.getD c false = true → y = v c) → (i = c → y = x) → Vp i x y) (hm : i ≠ c → M i x w') (ha : i = c → A x w' ∧ ∀ g, g < w.heap.size → N x g) : ChJ W Vp M A N c al st t z cs (L.setIfInBounds i true) (upd v i x) w' := by
  obtain ⟨hlt, hf⟩ := un_lt hun
  refine ⟨fun j hj y hy => ?_, fun hc j hj => ?_, fun hc => ?_, fun hal' => ?_, fun hs => ?_⟩
  · have hy1 : L.getD c false = true → y = v c := fun hc => by
      have e : c ≠ i := fun q => by subst q; rw [hf] at hc; cases hc
      have := hy (by rw [getD_set_ne' (fun q => e q.symm)]; exact hc)
      rwa [upd_ne _ _ e] at this
    by_cases e : j = i
    · subst e; rw [upd_at]; exact hv y hy1 (fun q => by subst q; have := hy (getD_set_same' hlt false); rwa [upd_at] at this)
    · rw [upd_ne _ _ e]; rw [getD_set_ne' (fun q => e q.symm)] at hj; exact h.val j hj y hy1
  · have hci : i ≠ c := fun q => by subst q; rw [getD_set_same' hlt] at hc; cases hc
    rw [getD_set_ne' hci] at hc
    by_cases e : j = i
    · subst e; rw [upd_at]; exact hm hci
    · rw [upd_ne _ _ e]; rw [getD_set_ne' (fun q => e q.symm)] at hj; exact hM _ _ _ _ (h.mem hc j hj) hb
  · by_cases e : i = c
    · subst e; rw [upd_at]; exact (ha rfl).1
    · rw [upd_ne _ _ (fun q => e q.symm)]; rw [getD_set_ne' e] at hc; exact hA _ _ _ (h.ans hc) hb
  · rw [getD_set_ne' hal] at hal'
    obtain ⟨g, h1, h2, h4, h3⟩ := h.blk hal'
    refine ⟨g, by rw [upd_ne _ _ (fun q => hal q.symm)]; exact h1, h2, fun hc => ?_, ?_⟩
    · by_cases e : i = c
      · subst e; rw [upd_at]; exact (ha rfl).2 g h3.lt
      · rw [upd_ne _ _ (fun q => e q.symm)]; rw [getD_set_ne' e] at hc; exact h4 hc
    · rw [getD_set_ne' hst]
      cases hq : L.getD st false
      · rw [hq] at h3; exact h3.on hb h3.lt
      · rw [hq] at h3
        have e : c ≠ i := fun q => by subst q; rw [(h.pre hq).1] at hf; cases hf
        rw [upd_ne _ _ e]
        exact h3.on hb h3.lt
  · rw [getD_set_ne' hst] at hs
    obtain ⟨p1, p2⟩ := h.pre hs
    rw [getD_set_ne' hal]
    refine ⟨?_, p2⟩
    by_cases e : i = c
    · subst e; exact getD_set_same' hlt false
    · rw [getD_set_ne' e]; exact p1
theorem ChJ.made {W : World} {Vp : Nat → Value → Value → Prop} {M : Nat → Value → World → Prop} {A : Value → World → Prop} {N : Value → Nat → Prop} {c al st t : Nat} {z : Array Value} {cs : Value → Array Value} {L : Array Bool} {v : Nat → Value} {w : World} (h : ChJ W Vp M A N c al st t z cs L v w) (hM : ∀ i x w w', M i x w → Below w.heap.size w w' → M i x w') (hA : ∀ x w w', A x w → Below w.heap.size w w' → A x w') (hN : ∀ x w, A x w → N x w.heap.size) (hun : L.getD al true = false) (hst : al ≠ st) (hac : al ≠ c) (hno : L.getD st false = false) (hW : W.heap.size ≤ w.heap.size) (hv : ∀ x y, Vp al x y) (hm : ∀ x w, M al x w) : ChJ W Vp M A N c al st t z cs (L.setIfInBounds al true) (upd v al (.pointer (some ⟨w.heap.size, 0, none⟩))) (w.alloc (.cells z t)) := by
  obtain ⟨hlt, hf⟩ := un_lt hun
  have hb : Below w.heap.size w (w.alloc (.cells z t)) := (Below.refl _ _).alloc (Nat.le_refl _) _
  refine ⟨fun j hj y hy => ?_, fun hc j hj => ?_, fun hc => ?_, fun _ => ?_, fun hs => ?_⟩
  · by_cases e : j = al
    · subst e; exact hv _ _
    · rw [upd_ne _ _ e]; rw [getD_set_ne' (fun q => e q.symm)] at hj
      refine h.val j hj y (fun hc => ?_)
      have := hy (by rw [getD_set_ne' hac]; exact hc)
      rwa [upd_ne _ _ (fun q => hac q.symm)] at this
  · rw [getD_set_ne' hac] at hc
    by_cases e : j = al
    · subst e; exact hm _ _
    · rw [upd_ne _ _ e]; rw [getD_set_ne' (fun q => e q.symm)] at hj; exact hM _ _ _ _ (h.mem hc j hj) hb
  · rw [getD_set_ne' hac] at hc
    rw [upd_ne _ _ (fun q => hac q.symm)]
    exact hA _ _ _ (h.ans hc) hb
  · refine ⟨w.heap.size, upd_at _ _ _, hW, fun hc => ?_, ?_⟩
    · rw [getD_set_ne' hac] at hc
      rw [upd_ne _ _ (fun q => hac q.symm)]
      exact hN _ _ (h.ans hc)
    · rw [getD_set_ne' hst, hno]
      exact Blk.new w t z
  · rw [getD_set_ne' hst] at hs
    rw [hno] at hs
    cases hs
theorem ChJ.put {W : World} {Vp : Nat → Value → Value → Prop} {M : Nat → Value → World → Prop} {A : Value → World → Prop} {N : Value → Nat → Prop} {c al st t : Nat} {z : Array Value} {cs : Value → Array Value} {L : Array Bool} {v : Nat → Value} {w : World} {g : Nat} (h : ChJ W Vp M A N c al st t z cs L v w) (hK : ∀ x w g cs', A x w → N x g → A x (w.setRow g cs')) (hun : L.getD st true = false) (hst : al ≠ st) (hsc : st ≠ c) (hal : L.getD al false = true) (hg : v al = .pointer (some ⟨g, 0, none⟩)) (hc : L.getD c false = true) (hv : ∀ x y, Vp st x y) : ChJ W Vp M A N c al st t z cs (L.setIfInBounds st true) (upd v st undef) (w.setRow g (cs (v c))) := by
  obtain ⟨hlt, hf⟩ := un_lt hun
  obtain ⟨g', h1, h2, h4, h3⟩ := h.blk hal
  rw [hg] at h1
  injection h1 with h1
  injection h1 with h1
  injection h1 with h1
  subst h1
  refine ⟨fun j hj y hy => ?_, fun hc' j hj => ?_, fun _ => ?_, fun _ => ?_, fun hs => ?_⟩
  · by_cases e : j = st
    · subst e; exact hv _ _
    · rw [upd_ne _ _ e]; rw [getD_set_ne' (fun q => e q.symm)] at hj
      refine h.val j hj y (fun _ => ?_)
      have := hy (by rw [getD_set_ne' hsc]; exact hc)
      rwa [upd_ne _ _ (fun q => hsc q.symm)] at this
  · rw [getD_set_ne' hsc, hc] at hc'; cases hc'
  · rw [upd_ne _ _ (fun q => hsc q.symm)]
    exact hK _ _ _ _ (h.ans hc) (h4 hc)
  · refine ⟨g, by rw [upd_ne _ _ hst]; exact hg, h2, fun _ => ?_, ?_⟩
    · rw [upd_ne _ _ (fun q => hsc q.symm)]; exact h4 hc
    · rw [getD_set_same' hlt, upd_ne _ _ (fun q => hsc q.symm)]
      exact h3.row _
  · rw [getD_set_ne' hsc, getD_set_ne' (fun q => hst q.symm)]; exact ⟨hc, hal⟩

/-- A whole struct into its block, run. -/
theorem exec_storeR {ev : Operand → Value} {o : Oper} {t t' : TypeId} {p u : Operand} {g : Nat} {z cs : Array Value} {w : World} (hop : o.op = Op.store t p u) (hp : ev p = .pointer (some ⟨g, 0, none⟩)) (hu : ev u = .agg cs) (h : Blk w g t' z) (hi : (P.info? t).map (·.size) = some cs.size) (hz : z.size = cs.size) (h1 : cs.all (·.oneCell') = true) : (execOp ev o).run P w = .ok .skip (w.setRow g cs) := by
  have hrun : (Instr.storeAt t (.pointer (some ⟨g, 0, none⟩)) (.agg cs)).run P w = .ok () (w.setRow g cs) := by
    simp only [Instr.storeAt, Instr.sureAddr, Sem.run_bind, Sem.run_pure, Result.andThen]
    exact h.store hi hz h1
  simp [execOp, hop, hp, hu, hrun, Result.andThen]

/-- The whole region, behind the operations that only read. -/
theorem anyH_chn {H : List Nat} {LS : List (Array Bool)} {Le L0 : Array Bool} {a0 : Act} {K : Nat} {w : World} (W : World) (Vp : Nat → Value → Value → Prop) (M : Nat → Value → World → Prop) (A : Value → World → Prop) (N : Value → Nat → Prop) (c al st t : Nat) (z : Array Value) (cs : Value → Array Value) {oal ost : Oper}
    (hM : ∀ i x w w', M i x w → Below w.heap.size w w' → M i x w') (hA : ∀ x w w', A x w → Below w.heap.size w w' → A x w') (hN : ∀ x w, A x w → N x w.heap.size) (hK : ∀ x w g cs', A x w → N x g → A x (w.setRow g cs')) (hB : freeB ops ops.size H LS Le = true) (h0 : (LS.contains L0 && decide (K = 0 + cntH H L0) && H.all fun i => !L0.getD i false) = true)
    (hdis : (decide (al ≠ st) && decide (al ≠ c) && decide (st ≠ c) && !L0.getD al false && !L0.getD st false && decide (Region.ready .any ops Le = []) && Le.getD al false && Le.getD st false && !L0.getD c false && Le.getD c false) = true)
    (hoal : ops[al]? = some oal) (host : ops[st]? = some ost) (hdep : (ost.after.any (fun e => Region.binds .any e && decide (e.on = al)) && ost.after.any (fun e => Region.binds .any e && decide (e.on = c))) = true)
    (init : ∀ i, L0.getD i false = true → (∀ y, Vp i undef y) ∧ M i undef w) (hva : ∀ x y, Vp al x y) (hma : ∀ x w, M al x w) (hvs : ∀ x y, Vp st x y)
    (step : ∀ (L : Array Bool) (i : Nat) (o : Oper) (v : Nat → Value) (w : World), i ∈ H → i ≠ al → i ≠ st → ops[i]? = some o → ChJ W Vp M A N c al st t z cs L v w → Below W.heap.size W w → L.getD i true = false → (∀ e ∈ o.after, Region.binds .any e = true → L.getD e.on false = true) →
      (∃ x, (execOp (putSt ops v a0 (fun i => H.contains i) ops.size).eval o).run P w = .ok (.value x) w ∧ (∀ y, (L.getD c false = true → y = v c) → Vp i x y) ∧ M i x w ∧ i ≠ c) ∨
      ∃ f args, (execOp (putSt ops v a0 (fun i => H.contains i) ops.size).eval o).run P w = .ok (.enter f args) w ∧ Calls P f args w fun e w' => ∃ x, e = .returned x ∧ (∀ y, (i = c → y = x) → Vp i x y) ∧ (i ≠ c → M i x w') ∧ (i = c → A x w' ∧ ∀ g, g < w.heap.size → N x g) ∧ Below w.heap.size w w')
    (mk : ∀ (v : Nat → Value) (w : World), (execOp (putSt ops v a0 (fun i => H.contains i) ops.size).eval oal).run P w = .ok (.value (.pointer (some ⟨w.heap.size, 0, none⟩))) (w.alloc (.cells z t)))
    (sto : ∀ (L : Array Bool) (v : Nat → Value) (w : World) (g : Nat), ChJ W Vp M A N c al st t z cs L v w → (∀ e ∈ ost.after, Region.binds .any e = true → L.getD e.on false = true) → L.getD c false = true → v al = .pointer (some ⟨g, 0, none⟩) → Blk w g t z → (execOp (putSt ops v a0 (fun i => H.contains i) ops.size).eval ost).run P w = .ok .skip (w.setRow g (cs (v c))))
    (hw : Below W.heap.size W w)
    (fin : ∀ (v : Nat → Value) (w : World) (g : Nat), (∀ i, Le.getD i false = true → Vp i (v i) (v c)) → A (v c) w → N (v c) g → v al = .pointer (some ⟨g, 0, none⟩) → W.heap.size ≤ g → Blk w g t (cs (v c)) → Below W.heap.size W w → Q .normal (putSt ops v a0 (fun i => H.contains i) ops.size) w) :
    wpAnyH P .any ops (NoPanic Q) (fun w => Below W.heap.size W w) K L0 a0 w := by
  simp only [Bool.and_eq_true, decide_eq_true_eq, Bool.not_eq_true'] at hdis
  obtain ⟨⟨⟨⟨⟨⟨⟨⟨⟨d1, d2⟩, d3⟩, d4⟩, d5⟩, d6⟩, d7⟩, d8⟩, d9⟩, d10⟩ := hdis
  refine anyH_free0 (P := P) (Q := Q) (S := fun w => Below W.heap.size W w) (H := H) (LS := LS) (Le := Le) (m := 0) (fun L v w => ChJ W Vp M A N c al st t z cs L v w) hB h0 ?_ ?_ hw ?_
  · intro L i o v w hiH ho hJ hS hun hall
    by_cases ha : i = al
    · subst ha
      rw [hoal] at ho
      injection ho with ho
      subst ho
      have hno : L.getD st false = false := by
        cases hq : L.getD st false
        · rfl
        · have := (hJ.pre hq).2
          rw [(un_lt hun).2] at this
          cases this
      exact .inl ⟨_, _, mk v w, hS.alloc hS.size _, hJ.made hM hA hN hun d1 d2 hno hS.size hva hma⟩
    · by_cases hs : i = st
      · subst hs
        rw [host] at ho
        injection ho with ho
        subst ho
        rw [Bool.and_eq_true] at hdep
        have get : ∀ k, ost.after.any (fun e => Region.binds .any e && decide (e.on = k)) = true → L.getD k false = true := fun k hk => by
          simp only [Array.any_eq_true] at hk
          obtain ⟨q, hq, hb⟩ := hk
          rw [Bool.and_eq_true, decide_eq_true_eq] at hb
          have h7 := hall ost.after[q] (Array.getElem_mem hq) hb.1
          rwa [hb.2] at h7
        have hal := get al hdep.1
        have hc := get c hdep.2
        obtain ⟨g, h1, h2, _, h3⟩ := hJ.blk hal
        rw [(un_lt hun).2] at h3
        exact .inr (.inl ⟨_, sto L v w g hJ hall hc h1 h3, below_setRow hS h2 _, hJ.put hK hun d1 d3 hal h1 hc hvs⟩)
      · rcases step L i o v w hiH ha hs ho hJ hS hun hall with ⟨x, h1, h2, h3, h4⟩ | ⟨f, args, h1, h2⟩
        · exact .inl ⟨x, w, h1, hS, hJ.on hM hA hun ha hs (Below.refl _ _) (fun y hy _ => h2 y hy) (fun _ => h3) (fun e => absurd e h4)⟩
        · refine .inr (.inr ⟨f, args, h1, h2.mono ?_⟩)
          rintro e w' ⟨x, rfl, q1, q2, q4, q3⟩
          exact ⟨x, rfl, hS.trans (q3.mono hS.size), hJ.on hM hA hun ha hs q3 (fun y _ hy => q1 y hy) q2 q4⟩
  · refine ⟨fun i hi y _ => (init i hi).1 y, fun _ i hi => (init i hi).2, fun hc => ?_, fun ha => ?_, fun hs => ?_⟩
    · rw [d9] at hc; cases hc
    · rw [d4] at ha; cases ha
    · rw [d5] at hs; cases hs
  · intro v w hJ hS
    obtain ⟨g, h1, h2, h4, h3⟩ := hJ.blk d7
    rw [d8] at h3
    exact ⟨d6, fin v w g (fun i hi => hJ.val i hi _ (fun _ => rfl)) (hJ.ans d10) (h4 d10) h1 h2 h3 hS⟩
end

end Go.Proofs.YthnahalboomkoaaGreat
