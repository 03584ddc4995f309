/-
  Texts of one's own, joined.
-/
import Derived.Test.YtjlijflfepffiaaJoined10
import Derived.Test.YtjlijflfepffiaaJoined2
import Derived.Test.YtjlijflfepffiaaProg
import Derived.WalkKit
import Derived.Test.YtjlijflfepffiaaJoined8
import Derived.Below
import Derived.WalkLawsBesides
import Derived.WalkSpells
import Derived.Test.YtjlijflfepffiaaJoined5
import Derived.Maps.AppendAt

/-
  Operations of a region that draws which may come up in whatever order, each with a value that hangs on the world: what is known of them behind all of them.
-/
namespace Go.Proofs.Ytjlijflfepffiaa
open Go.RowKit

section
variable {P : Program} {ops : Array Oper} {Q : Exit → Act → World → Prop} {S : World → Prop} {s : Nat}

/-- May it be taken first? -/
def floatB (ops : Array Oper) (s : Nat) (listed : Array Bool) (k : Nat) : Bool := (Region.ready .any ops listed).contains k && Region.free .any ops listed k && decide (k ≠ s) && (match ops[s]? with | some o => o.after.any (fun e => Region.binds .any e && decide (e.on = k)) | none => false)
/-- The beginning of a region along an order, then on; behind operation s nothing is asked. -/
def ordLTo (ops : Array Oper) (s : Nat) : List (Nat × Bool) → Array Bool → Option (Array Bool)
  | [], listed => some listed
  | (k, true) :: r, listed => if decide (Region.ready .any ops listed = [k]) && decide (k ≠ s) then ordLTo ops s r (listed.setIfInBounds k true) else none
  | (k, false) :: r, listed => if floatB ops s listed k then ordLTo ops s r (listed.setIfInBounds k true) else none

theorem anyL_of_to (hs : Region.noSelect ops = true) : ∀ (order : List (Nat × Bool)) (n : Nat) (listed listed' : Array Bool) (a : Act) (w : World), ordLTo ops s order listed = some listed' → S w → wpOrd P ops Q S (fun a w => wpAnyL P ops (NoPanic Q) s S n listed' a w) order a w →
    wpAnyL P ops (NoPanic Q) s S (n + order.length) listed a w
  | [], n, listed, listed', a, w, hB, _, h => by
    simp only [ordLTo, Option.some.injEq] at hB
    subst hB
    exact h
  | (k, true) :: r, n, listed, listed', a, w, hB, hS, h => by
    simp only [ordLTo] at hB
    split at hB
    · rename_i hc
      simp only [Bool.and_eq_true, decide_eq_true_eq] at hc
      refine ⟨fun h0 => (by rw [hc.1] at h0; cases h0), fun i hi => ?_⟩
      rw [hc.1, List.mem_singleton] at hi
      subst hi
      exact wpOp_mono (fun a' w' ⟨h1, h2⟩ => ⟨fun _ => h1, anyL_of_to hs r n _ listed' a' w' hB h1 h2⟩) h
    · cases hB
  | (k, false) :: r, n, listed, listed', a, w, hB, hS, h => by
    simp only [ordLTo] at hB
    split at hB
    · rename_i hc
      simp only [floatB, Bool.and_eq_true, decide_eq_true_eq] at hc
      obtain ⟨o, v, ho, hy, hr⟩ := h
      obtain ⟨⟨⟨h1, h2⟩, h3⟩, h4⟩ := hc
      cases hos : ops[s]? with
      | none => rw [hos] at h4; cases h4
      | some os =>
        rw [hos] at h4
        simp only [Array.any_eq_true] at h4
        obtain ⟨j, hj, hb⟩ := h4
        rw [Bool.and_eq_true, decide_eq_true_eq] at hb
        exact last_first ho h3 hos ⟨os.after[j], Array.getElem_mem hj, hb.1, hb.2⟩ (Region.noSelect_spec hs) (fun c a w h => h) _ listed a w (Region.free_spec ho h2) (by simpa using h1) hy hS (anyL_of_to hs r n _ listed' _ w hB hS hr)
    · cases hB

theorem wp_region_lastTo {id : Nat} {a : Act} {w : World} {l : List Oper} (order : List (Nat × Bool)) (s n : Nat) (listed' : Array Bool) (S : World → Prop) (hm : P.follows .mixedOrders = true)
    (hB : (Region.noSelect l.toArray && decide (n + order.length = l.length) && decide (ordLTo l.toArray s order (Array.replicate l.length false) = some listed')) = true) (hS : S w.drew)
    (h : wpOrd P l.toArray Q S (fun a w => wpAnyL P l.toArray (NoPanic Q) s S n listed' a w) order a w.drew) : (Code.region id l.toArray true).wp P Q a w := by
  simp only [Bool.and_eq_true, decide_eq_true_eq] at hB
  obtain ⟨⟨hs, hl⟩, hB⟩ := hB
  refine wp_region_noPanic (wp_region_any hm (any_of_last (s := s) (S := S) _ _ _ _ ?_))
  have := anyL_of_to hs order n (Array.replicate l.length false) listed' a w.drew hB hS h
  rw [hl] at this
  simpa using this

/-- On along an order, to the last store. -/
theorem anyL_ord {n : Nat} {listed : Array Bool} {a : Act} {w : World} (order : List (Nat × Bool)) (hB : (Region.noSelect ops && decide (order.length + 1 = n) && ordL ops s order listed) = true) (hS : S w)
    (h : wpOrd P ops Q S (fun a w => wpOp P ops (NoPanic Q) s (Q .normal) a w) order a w) : wpAnyL P ops (NoPanic Q) s S n listed a w := by
  simp only [Bool.and_eq_true, decide_eq_true_eq] at hB
  obtain ⟨⟨hs, hl⟩, hB⟩ := hB
  subst hl
  exact anyL_of_ord hs order listed a w hB hS h

/-- Of these operations those that have come up. -/
def inH (H : List Nat) (L : Array Bool) : Nat → Bool := fun i => H.contains i && L.getD i false
def upd (v : Nat → Value) (i : Nat) (x : Value) : Nat → Value := fun j => if j = i then x else v j
/-- How many have not. -/
def cntH (H : List Nat) (L : Array Bool) : Nat := (H.filter fun i => !L.getD i false).length
def freeB (ops : Array Oper) (s : Nat) (H : List Nat) (LS : List (Array Bool)) (Le : Array Bool) : Bool :=
  Region.noSelect ops && H.all (fun i => decide (i < ops.size) && decide (i ≠ s) && (match ops[i]? with | some o => o.guard.isNone | none => false)) &&
  ((List.range ops.size).all fun j => (List.range ops.size).all fun k => k == j || (match dsOf ops j with | some d => dsOf ops k != some d | none => true)) &&
  (H.all fun i => H.all fun j => match dsOf ops j, ops[i]? with | some d, some o => !(o.looksAt ops).contains d || (decide (j ≠ i) && o.after.any fun e => Region.binds .any e && decide (e.on = j)) | _, _ => true) &&
  (LS.all fun L => decide (L.size = ops.size) && (decide (L = Le) || (!(Region.ready .any ops L).isEmpty && (Region.ready .any ops L).all fun i => H.contains i && LS.contains (L.setIfInBounds i true) && decide (cntH H (L.setIfInBounds i true) + 1 = cntH H L)))) &&
  (H.all fun i => Le.getD i false) && decide (cntH H Le = 0) && decide (Le.size = ops.size)

theorem wanted_plain {o : Oper} (h : o.guard.isNone = true) (y : Nat → Option Bool) : Region.wanted o y = true := by
  unfold Region.wanted
  cases hg : o.guard with
  | none => rfl
  | some g => rw [hg] at h; cases h

theorem getD_set_same' {L : Array Bool} {i : Nat} (h : i < L.size) (d : Bool) : (L.setIfInBounds i true).getD i d = true := by simp [h]
theorem getD_set_ne' {L : Array Bool} {i j : Nat} (h : i ≠ j) (d : Bool) : (L.setIfInBounds i true).getD j d = L.getD j d := by simp [h]

/-- Behind all of them, in whatever order they came up. -/
theorem anyL_free {H : List Nat} {LS : List (Array Bool)} {Le : Array Bool} {a0 : Act} {m : Nat} (J : Array Bool → (Nat → Value) → World → Prop) (hB : freeB ops s H LS Le = true)
    (step : ∀ (L : Array Bool) (i : Nat) (o : Oper) (v : Nat → Value) (w : World), i ∈ H → ops[i]? = some o → J L v w → L.getD i true = false → (∀ e ∈ o.after, Region.binds .any e = true → L.getD e.on false = true) →
      ∃ x w', (execOp (putSt ops v a0 (fun i => H.contains i) ops.size).eval o).run P w = .ok (.value x) w' ∧ S w' ∧ J (L.setIfInBounds i true) (upd v i x) w')
    (fin : ∀ v w, J Le v w → S w → wpAnyL P ops (NoPanic Q) s S m Le (putSt ops v a0 (fun i => H.contains i) ops.size) w) :
    ∀ (n : Nat) (L : Array Bool) (v : Nat → Value) (w : World), n = cntH H L → L ∈ LS → J L v w → S w → wpAnyL P ops (NoPanic Q) s S (m + n) L (putSt ops v a0 (inH H L) ops.size) w := by
  simp only [freeB, Bool.and_eq_true, decide_eq_true_eq] at hB
  obtain ⟨⟨⟨⟨⟨⟨⟨hsel, hH⟩, hds⟩, hlook⟩, hLS⟩, hLe⟩, hce⟩, hLes⟩ := hB
  have hdst : ∀ j k, j < ops.size → k < ops.size → k ≠ j → ∀ d, dsOf ops j = some d → dsOf ops k ≠ some d := by
    intro j k hj hk hne d hd
    have h1 := List.all_eq_true.1 (List.all_eq_true.1 hds j (List.mem_range.2 hj)) k (List.mem_range.2 hk)
    have e : (k == j) = false := by simp [hne]
    rw [e, hd] at h1
    simpa using h1
  have hends : ∀ v, putSt ops v a0 (inH H Le) ops.size = putSt ops v a0 (fun i => H.contains i) ops.size := fun v => putSt_congr _ fun j _ => by
    unfold inH
    cases hc : H.contains j
    · rfl
    · rw [List.all_eq_true.1 hLe j (by simpa using hc)]; rfl
  intro n
  induction n with
  | zero =>
    intro L v w hn hL hJ hS
    have h1 := List.all_eq_true.1 hLS L hL
    simp only [Bool.and_eq_true, Bool.or_eq_true, decide_eq_true_eq] at h1
    rcases h1.2 with rfl | h2
    · rw [hends]; exact fin v w hJ hS
    · obtain ⟨hr, ha⟩ := h2
      exfalso
      cases hq : Region.ready .any ops L with
      | nil => rw [hq] at hr; cases hr
      | cons i t =>
        have h3 := List.all_eq_true.1 ha i (by rw [hq]; exact List.mem_cons_self)
        simp only [Bool.and_eq_true, decide_eq_true_eq] at h3
        omega
  | succ n ih =>
    intro L v w hn hL hJ hS
    have h1 := List.all_eq_true.1 hLS L hL
    simp only [Bool.and_eq_true, Bool.or_eq_true, decide_eq_true_eq] at h1
    obtain ⟨hsz, h1⟩ := h1
    rcases h1 with rfl | ⟨hr, ha⟩
    · omega
    · refine ⟨fun h0 => (by rw [h0] at hr; cases hr), fun i hi => ?_⟩
      have h3 := List.all_eq_true.1 ha i hi
      simp only [Bool.and_eq_true, decide_eq_true_eq] at h3
      obtain ⟨⟨hiH, hLS2⟩, hcnt⟩ := h3
      have hiH' : i ∈ H := by simpa using hiH
      obtain ⟨hun, o, ho, hall⟩ := mem_ready.1 hi
      have hp := List.all_eq_true.1 hH i hiH'
      simp only [Bool.and_eq_true, decide_eq_true_eq] at hp
      obtain ⟨⟨hisz, his⟩, hg⟩ := hp
      rw [ho] at hg
      have hdo : dsOf ops i = o.dst := by simp [dsOf, ho]
      have hunf : L.getD i false = false := by
        have : i < L.size := by omega
        simp [this] at hun ⊢
        exact hun
      have hinot : inH H L i = false := by unfold inH; rw [hunf, Bool.and_false]
      obtain ⟨x, w', hrun, hS', hJ'⟩ := step L i o v w hiH' ho hJ hun hall
      have hsame := putSt_same (ops := ops) (v := v) (a := a0) (n := ops.size) (o := o) (fun cs b => Region.noSelect_spec hsel i o cs b ho) (fun j k hj hk hne d hd => hdst j k hj hk hne d hd) (S := inH H L) (T := fun i => H.contains i) (fun j hj => by unfold inH at hj; simp only [Bool.and_eq_true] at hj; exact hj.1) (fun j hj hT hSj d hd => by
        have hjH : j ∈ H := by simpa using hT
        have h5 := List.all_eq_true.1 (List.all_eq_true.1 hlook i hiH') j hjH
        rw [hd, ho] at h5
        simp only [Bool.or_eq_true, Bool.and_eq_true, Bool.not_eq_true', decide_eq_true_eq] at h5
        rcases h5 with h5 | ⟨_, h6⟩
        · simpa using h5
        · exfalso
          simp only [Array.any_eq_true] at h6
          obtain ⟨q, hq, hb⟩ := h6
          rw [Bool.and_eq_true, decide_eq_true_eq] at hb
          have h7 := hall o.after[q] (Array.getElem_mem hq) hb.1
          rw [hb.2] at h7
          unfold inH at hSj
          rw [hT, h7] at hSj
          cases hSj)
      refine last_op ho (wanted_plain hg _) fun K hK => ⟨x, w', by rw [← hsame.1]; exact hrun, hK _ _ ⟨fun _ => hS', ?_⟩⟩
      have hfr : (putSt ops v a0 (inH H L) ops.size).put o.dst x = putSt ops (upd v i x) a0 (inH H (L.setIfInBounds i true)) ops.size := by
        have e1 : putSt ops (upd v i x) a0 (inH H (L.setIfInBounds i true)) ops.size = putSt ops (upd v i x) a0 (more (inH H L) i) ops.size := putSt_congr _ fun j _ => by
          unfold inH more
          by_cases hji : i = j
          · subst hji
            rw [getD_set_same' (by omega), hiH]
            simp
          · rw [getD_set_ne' hji]
            have : (j == i) = false := by simp; exact fun e => hji e.symm
            rw [this, Bool.or_false]
        rw [e1, putSt_more (n := ops.size) (fun k hk hne => hdst i k hisz hk hne) hinot ops.size hisz (Nat.le_refl _), hdo]
        have e2 : upd v i x i = x := by unfold upd; rw [if_pos rfl]
        rw [e2]
        congr 1
        have gen : ∀ k, putSt ops v a0 (inH H L) k = putSt ops (upd v i x) a0 (inH H L) k := by
          intro k
          induction k with
          | zero => rfl
          | succ k ih2 =>
            simp only [putSt, ih2]
            split
            · rename_i hk
              have hki : k ≠ i := fun e => by subst e; rw [hinot] at hk; cases hk
              have : upd v i x k = v k := by unfold upd; rw [if_neg hki]
              rw [this]
            · rfl
        exact gen _
      rw [hfr]
      exact ih (L.setIfInBounds i true) (upd v i x) w' (by omega) (by simpa using hLS2) hJ' hS'

/-- The same from a place at which none of them has come up. -/
theorem anyL_free0 {H : List Nat} {LS : List (Array Bool)} {Le L0 : Array Bool} {a0 : Act} {m N : Nat} {w : World} (J : Array Bool → (Nat → Value) → World → Prop) (hB : freeB ops s H LS Le = true)
    (h0 : (LS.contains L0 && decide (N = m + cntH H L0) && H.all fun i => !L0.getD i false) = true)
    (step : ∀ (L : Array Bool) (i : Nat) (o : Oper) (v : Nat → Value) (w : World), i ∈ H → ops[i]? = some o → J L v w → L.getD i true = false → (∀ e ∈ o.after, Region.binds .any e = true → L.getD e.on false = true) →
      ∃ x w', (execOp (putSt ops v a0 (fun i => H.contains i) ops.size).eval o).run P w = .ok (.value x) w' ∧ S w' ∧ J (L.setIfInBounds i true) (upd v i x) w')
    (hJ : J L0 (fun _ => undef) w) (hS : S w)
    (fin : ∀ v w, J Le v w → S w → wpAnyL P ops (NoPanic Q) s S m Le (putSt ops v a0 (fun i => H.contains i) ops.size) w) : wpAnyL P ops (NoPanic Q) s S N L0 a0 w := by
  simp only [Bool.and_eq_true, decide_eq_true_eq] at h0
  obtain ⟨⟨h1, h2⟩, h3⟩ := h0
  have h4 := anyL_free (P := P) (Q := Q) (S := S) (a0 := a0) (m := m) J hB step fin (cntH H L0) L0 (fun _ => undef) w rfl (by simpa using h1) hJ hS
  rw [h2]
  have e : putSt ops (fun _ => undef) a0 (inH H L0) ops.size = a0 := by
    have gen : ∀ k, putSt ops (fun _ => undef) a0 (inH H L0) k = a0 := by
      intro k
      induction k with
      | zero => rfl
      | succ k ih =>
        have hk : inH H L0 k = false := by
          unfold inH
          cases hc : H.contains k
          · rfl
          · have := List.all_eq_true.1 h3 k (by simpa using hc)
            rw [Bool.not_eq_true'] at this
            rw [this]
            rfl
        simp only [putSt, ih, hk, Bool.false_eq_true, if_false]
    exact gen _
  rw [e] at h4
  exact h4

/-- An append, run. -/
theorem exec_append {a : Act} {w : World} {o : Oper} (s x : Operand) (t : TypeId) (hop : o.op = .call { callee := .builtin .append, args := #[s, x], argTypes := #[t, t] })
    (base : Nat) (e : TypeId) (i : TypeInfo) (z : Value) (size bytes : Nat) (ht : P.underlying t = some (.slice e)) (hi : P.info? e = some i) (hz : i.zero = some z)
    (hsize : i.size = size) (hby : i.bytes = bytes) (hzs : z.cells.size = size) (hsz : 0 < size)
    (v : Value) (n : Nat) (xs : List Value) (hs : a.eval s = v) (hown : w.ownsRow base e size v n xs)
    (ad : Addr) (m c : Nat) (news : List Value) (hx : a.eval x = .slice (some ad) m c) (hl : news.length = m * size) (hnews : ∀ j u, news[j]? = some u → w.cell? (ad.add j) = some u) (h1 : ∀ u ∈ news, u.oneCell' = true)
    (h63 : n + m ≤ maxLen) (hbytes : (n + m) * bytes ≤ 140737488355328) (hbase : base ≤ w.heap.size) :
    ∃ v' w', (execOp a.eval o).run P w = .ok (.value v') w' ∧ w'.ownsRow base e size v' (n + m) (xs ++ news) ∧ w.grownBy w' v.ownBlock ∧ (v'.ownBlock = v.ownBlock ∨ v'.ownBlock = some w.heap.size) := by
  obtain ⟨v', w', hr, h2, h3, _, h5⟩ := run_append_own_at (P := P) w base t o.type e i z size bytes ht hi hz hsize hby hzs hsz v n xs hown ad m c news hl hnews h1 h63 hbytes hbase
  refine ⟨v', w', ?_, h2, h3, h5⟩
  unfold execOp
  simp only [hop, resolve, invoke, builtin, Sem.run_bind, Sem.run_pure, Result.andThen_ok, List.map_toArray, List.map_cons, List.map_nil, hs, hx, hr]

/-- The same, as a step. -/
theorem step_append {a : Act} {w : World} {o : Oper} {R : Value → World → Prop} (s x : Operand) (t : TypeId) (hop : o.op = .call { callee := .builtin .append, args := #[s, x], argTypes := #[t, t] })
    (base : Nat) (e : TypeId) (i : TypeInfo) (z : Value) (size bytes : Nat) (ht : P.underlying t = some (.slice e)) (hi : P.info? e = some i) (hz : i.zero = some z)
    (hsize : i.size = size) (hby : i.bytes = bytes) (hzs : z.cells.size = size) (hsz : 0 < size)
    (v : Value) (n : Nat) (xs : List Value) (hs : a.eval s = v) (hown : w.ownsRow base e size v n xs)
    (ad : Addr) (m c : Nat) (news : List Value) (hx : a.eval x = .slice (some ad) m c) (hl : news.length = m * size) (hnews : ∀ j u, news[j]? = some u → w.cell? (ad.add j) = some u) (h1 : ∀ u ∈ news, u.oneCell' = true)
    (h63 : n + m ≤ maxLen) (hbytes : (n + m) * bytes ≤ 140737488355328) (hbase : base ≤ w.heap.size)
    (K : ∀ v' w', w'.ownsRow base e size v' (n + m) (xs ++ news) → w.grownBy w' v.ownBlock → (v'.ownBlock = v.ownBlock ∨ v'.ownBlock = some w.heap.size) → R v' w') : ∃ v' w', (execOp a.eval o).run P w = .ok (.value v') w' ∧ R v' w' := by
  obtain ⟨v', w', h2, h3, h4, h5⟩ := exec_append (P := P) (a := a) (w := w) (o := o) s x t hop base e i z size bytes ht hi hz hsize hby hzs hsz v n xs hs hown ad m c news hx hl hnews h1 h63 hbytes hbase
  exact ⟨v', w', h2, K v' w' h3 h4 h5⟩

end

end Go.Proofs.Ytjlijflfepffiaa

/-
  The walk of the specification's question whether a number lies between two.
  (-DROP-: what the seat lacks is left out.)
-/
namespace Go.Proofs.Ytjlijflfepffiaa
open Go.RowKit

set_option maxHeartbeats 400000 in
set_option maxRecDepth 100000 in
theorem sBetween_any (x a b : Int) (w : World) :
    Calls Try.prog 92 #[.int .i64 x, .int .i64 a, .int .i64 b] w fun e w' => e = .returned (.bool (decide (a ≤ x ∧ x ≤ b))) ∧ w = w' := by
  by_cases h0 : a ≤ x
  · by_cases h1 : x ≤ b
    · rw [decide_eq_true ⟨h0, h1⟩]
      go_enter Try.func92, Try.ntmps92
      go_wp2
      go_ret
      exact ⟨rfl, rfl⟩
    · rw [decide_eq_false (by omega)]
      go_enter Try.func92, Try.ntmps92
      go_wp2
      go_ret
      exact ⟨rfl, rfl⟩
  · rw [decide_eq_false (by omega)]
    go_enter Try.func92, Try.ntmps92
    go_wp2
    go_ret
    exact ⟨rfl, rfl⟩

end Go.Proofs.Ytjlijflfepffiaa

/-
  The walk of the specification's bits.
  (-DROP-: what the seat lacks is left out.)
-/
namespace Go.Proofs.Ytjlijflfepffiaa
open Go.RowKit

set_option maxHeartbeats 800000 in
set_option maxRecDepth 100000 in
theorem sCount_any (b : Int) (w : World) :
    Calls Try.prog 102 #[.int .i64 b] w fun e w' => e = .returned (.int .i64 (bitsB b)) ∧ w = w' := by
  have HB : Hid (∀ w, Calls Try.prog 92 #[.int .i64 b, .int .i64 0, .int .i64 255] w fun e w' => e = .returned (.bool (decide (0 ≤ b ∧ b ≤ 255))) ∧ w = w') := sBetween_any b 0 255
  unfold bitsB
  by_cases hb : 0 ≤ b ∧ b ≤ 255
  · rw [decide_eq_true hb] at HB
    rw [if_pos hb]
    obtain ⟨b0, b1⟩ := hb
    go_enter Try.func102, Try.ntmps102
    go_wp2_with (go_at_call 92; refine (HB.out _).mono ?_; rintro e wz ⟨rfl, rfl⟩)
    go_loopw [3, 4] (fun v i wr => ∃ (k : Nat), v = .int .i64 (bitsN b k) ∧ i = .int .i64 (k : Int) ∧ k ≤ 8 ∧ w = wr) (fun _ i _ => 8 - (intOf i).toNat)
    case atStart => exact ⟨0, rfl, rfl, by omega, rfl⟩
    case round =>
      obtain ⟨k, rfl, rfl, hk, rfl⟩ := hrel
      by_cases hlt : k < 8
      · have hlt' : (k : Int) < 8 := by omega
        obtain ⟨m, hm⟩ : ∃ m : Int, b / 2 ^ k = m := ⟨_, rfl⟩
        have hm0 : 0 ≤ m := by rw [← hm]; exact Int.ediv_nonneg b0 (Int.le_of_lt (Int.pow_pos (by decide)))
        obtain ⟨r, hr⟩ : ∃ r : Int, Int.tmod m 2 = r := ⟨_, rfl⟩
        have hre : r = m % 2 := by rw [← hr, Int.tmod_eq_emod_of_nonneg hm0]
        obtain ⟨h1, h2⟩ := bitsN_in b k
        have HN : Hid (bitsN b (k + 1) = bitsN b k + r) := by show bitsN b k + b / 2 ^ k % 2 = _; rw [hm, hre]
        have hr0 : 0 ≤ r ∧ r ≤ 1 := by omega
        generalize bitsN b k = C at h1 h2 HN
        clear hre
        go_wp2
        go_roundw
        case rel => exact ⟨k + 1, by rw [HN.out], by go_num, by omega, by trivial⟩
        case measure => simp [intOf]; omega
      · have hlt' : ¬ (k : Int) < 8 := by omega
        obtain rfl : k = 8 := by omega
        go_wp2
        go_ret
        exact ⟨rfl, by trivial⟩
  · rw [decide_eq_false hb] at HB
    rw [if_neg hb]
    go_enter Try.func102, Try.ntmps102
    go_wp2_with (go_at_call 92; refine (HB.out _).mono ?_; rintro e wz ⟨rfl, rfl⟩)
    go_ret
    exact ⟨rfl, by trivial⟩

end Go.Proofs.Ytjlijflfepffiaa

/-
  The walks of the program's bits.
  (-DROP-: what the seat lacks is left out.)
-/
namespace Go.Proofs.Ytjlijflfepffiaa
open Go.RowKit

end Go.Proofs.Ytjlijflfepffiaa

/-
  The walks of witnesses of bits, the program's and the specification's.
  (-DROP-: what the seat lacks is left out.)
-/
namespace Go.Proofs.Ytjlijflfepffiaa
open Go.RowKit

theorem cells_new (w : World) (cs : Array Value) (t : TypeId) : ∀ j u, cs.toList[j]? = some u → (w.alloc (.cells cs t)).cell? ((⟨w.heap.size, 0, none⟩ : Addr).add j) = some u := by
  intro j u hj
  rw [Addr.add_lit, Nat.zero_add, cell_of_row _ _ j cs t (0, 0) (heap_alloc_new w _)]
  simpa using hj

theorem zsV_one (l : List Int) : ∀ u ∈ zsV l, u.oneCell' = true := by
  intro u hu
  simp only [zsV, List.mem_map] at hu
  obtain ⟨x, _, rfl⟩ := hu
  rfl

theorem RowZs.has {B : Nat} {w : World} {v : Value} {l : List Int} (h : RowZs B w v l) (hl : 0 < l.length) : ∃ g c, v = .slice (some ⟨g, 0, none⟩) l.length c ∧ B ≤ g ∧ ∀ j u, (zsV l)[j]? = some u → w.cell? ((⟨g, 0, none⟩ : Addr).add j) = some u := by
  rcases h.2 with ⟨_, h0⟩ | ⟨g, c, cur, rfl, hg, hh, hrest⟩
  · omega
  · refine ⟨g, c, rfl, hg, fun j u hj => ?_⟩
    have hj2 : j < l.length := by
      rcases Nat.lt_or_ge j l.length with h1 | h1
      · exact h1
      · rw [List.getElem?_eq_none (by simpa [zsV] using h1)] at hj
        cases hj
    rw [Addr.add_lit, Nat.zero_add, World.ownsRow.cellAt h j (by omega)]
    exact hj

set_option maxHeartbeats 800000 in
set_option maxRecDepth 100000 in
theorem sWit_any (b : Int) (w : World) :
    Calls Try.prog 78 #[.int .i64 b] w fun e w' => ∃ v, e = .returned v ∧ RowZs w.heap.size w' v (witOf b) ∧ Below w.heap.size w w' := by
  obtain ⟨i0, hi, hz0, hz1, hz2⟩ := info_parts info3I
  have HB : Hid (∀ w, Calls Try.prog 92 #[.int .i64 b, .int .i64 0, .int .i64 255] w fun e w' => e = .returned (.bool (decide (0 ≤ b ∧ b ≤ 255))) ∧ w = w') := sBetween_any b 0 255
  by_cases hb : 0 ≤ b ∧ b ≤ 255
  · rw [decide_eq_true hb] at HB
    have HS : Hid (witOf b = [1, b, bitsB b] ++ bitL b 8) := if_pos hb
    have HC : Hid (∀ w, Calls Try.prog 102 #[.int .i64 b] w fun e w' => e = .returned (.int .i64 (bitsB b)) ∧ w = w') := sCount_any b
    obtain ⟨b0, b1⟩ := hb
    generalize bitsB b = c at HC HS
    have hown0 : (w.alloc (.cells #[] 3)).ownsRow w.heap.size 3 1 (.slice (some ⟨w.heap.size, 0, none⟩) 0 0) 0 [] := World.ownsRow_lit w #[] 0 (Nat.le_refl _) (by simp [maxLen]) (by simp)
    have hnw : ∀ j u, [Value.int .i64 1, Value.int .i64 b, Value.int .i64 c][j]? = some u → ((w.alloc (.cells #[] 3)).alloc (.cells #[.int .i64 1, .int .i64 b, .int .i64 c] 3)).cell? ((⟨w.heap.size + 1, 0, none⟩ : Addr).add j) = some u := by
      have e : (w.alloc (.cells #[] 3)).heap.size = w.heap.size + 1 := by simp
      have h := cells_new (w.alloc (.cells #[] 3)) #[.int .i64 1, .int .i64 b, .int .i64 c] 3
      rw [e] at h
      exact h
    go_enter Try.func78, Try.ntmps78
    go_wp2_with (first
      | (go_at_call 92; refine (HB.out _).mono ?_; rintro e wz ⟨rfl, rfl⟩)
      | (go_at_call 102; refine (HC.out _).mono ?_; rintro e wz ⟨rfl, rfl⟩)
      | (at_builtin; refine wpList_append_own _ rfl _ _ 27 rfl w.heap.size 3 i0 (.int .i64 0) 1 8 Try.underlying27 hi hz0 hz1 hz2 rfl (by decide) _ _ _ rfl (hown0.alloc _) ⟨w.heap.size + 1, 0, none⟩ 3 3 [.int .i64 1, .int .i64 b, .int .i64 c] rfl rfl hnw (zsV_one [1, b, c]) (by simp [maxLen]) (by simp) (by simp; omega) ?_))
    intro v' w4 hown' hgrow _
    have R4 : Hid (w4.ownsRow w.heap.size 3 1 v' ([1, b, c] ++ bitL b 0).length (zsV ([1, b, c] ++ bitL b 0))) := hown'
    have HB4 : Hid (Below w.heap.size w w4) := (((Below.refl w.heap.size w).alloc (Nat.le_refl _) _).alloc (by simp) _).grown hgrow (by simp; omega) (fun k hk => (hown0.lt k hk).1)
    clear hown' hgrow hown0 HB HC hnw
    go_wp2
    go_loopw [3, 4] (fun v i wr => ∃ (k : Nat) (l : List Int), i = .int .i64 (k : Int) ∧ k ≤ 8 ∧ Hid (l = [1, b, c] ++ bitL b k) ∧ wr.ownsRow w.heap.size 3 1 v l.length (zsV l) ∧ Hid (Below w.heap.size w wr)) (fun _ i _ => 8 - (intOf i).toNat)
    case atStart => exact ⟨0, _, rfl, by omega, rfl, R4.out, HB4⟩
    case round =>
      obtain ⟨k, l, rfl, hk, HL, hown, HB⟩ := hrel
      clear R4 HB4
      have hll : l.length = 3 + k := by rw [HL.out]; simp [bitL_length]; omega
      have hm63 : l.length + 1 ≤ maxLen := by unfold maxLen; omega
      have hm47 : (l.length + 1) * 8 ≤ 140737488355328 := by omega
      have hsz : w.heap.size ≤ wr.heap.size := HB.out.size
      clear hll
      by_cases hlt : k < 8
      · have hlt' : (k : Int) < 8 := by omega
        obtain ⟨m, hm⟩ : ∃ m : Int, b / 2 ^ k = m := ⟨_, rfl⟩
        have hm0 : 0 ≤ m := by rw [← hm]; exact Int.ediv_nonneg b0 (Int.le_of_lt (Int.pow_pos (by decide)))
        obtain ⟨x, hx⟩ : ∃ x : Int, Int.tmod m 2 = x := ⟨_, rfl⟩
        have HX : Hid (x = b / 2 ^ k % 2) := by rw [hm, ← hx, Int.tmod_eq_emod_of_nonneg hm0]; rfl
        go_wp2_with (at_builtin; refine wpList_append_own _ rfl _ _ 27 rfl w.heap.size 3 i0 (.int .i64 0) 1 8 Try.underlying27 hi hz0 hz1 hz2 rfl (by decide) _ _ _ rfl (hown.alloc _) ⟨wr.heap.size, 0, none⟩ 1 1 [.int .i64 x] rfl rfl (cell_one_new _ _ _) (one_cell _ _) hm63 hm47 (room_for hsz _) ?_)
        intro v' w4 hown' hgrow _
        have R : w4.ownsRow w.heap.size 3 1 v' (l ++ [x]).length (zsV (l ++ [x])) := by
          rw [zsV_append, List.length_append]; exact hown'
        have HB2 : Hid (Below w.heap.size w w4) := (HB.out.alloc hsz _).grown hgrow (by simp; omega) (fun k hk => (hown.lt k hk).1)
        have HL2 : Hid (l ++ [x] = [1, b, c] ++ bitL b (k + 1)) := by
          show l ++ [x] = _
          rw [bitL_next, HL.out, HX.out, List.append_assoc]
        clear hown' hgrow hown
        go_wp2
        go_roundw
        case rel => exact ⟨k + 1, _, by go_num, hlt, HL2, R, HB2⟩
        case measure => simp [intOf]; omega
      · have hlt' : ¬ (k : Int) < 8 := by omega
        obtain rfl : k = 8 := by omega
        have HO : Hid (wr.ownsRow w.heap.size 3 1 _ l.length (zsV l)) := hown
        clear hown hm63 hm47
        go_wp2
        go_ret
        exact ⟨_, rfl, by rw [HS.out, ← HL.out]; exact HO.out, HB.out⟩
  · rw [decide_eq_false hb] at HB
    have HS : Hid (witOf b = []) := if_neg hb
    go_enter Try.func78, Try.ntmps78
    go_wp2_with (go_at_call 92; refine (HB.out _).mono ?_; rintro e wz ⟨rfl, rfl⟩)
    go_ret
    exact ⟨_, rfl, by rw [HS.out]; exact World.ownsRow_lit _ _ _ (Nat.le_refl _) (by simp [maxLen]) (by simp), (Below.refl _ _).alloc (Nat.le_refl _) _⟩

end Go.Proofs.Ytjlijflfepffiaa
