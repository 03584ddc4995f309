/-
  Texts of one's own, joined.
-/
import Derived.Test.YthnahalboomkoaaGreatJoined3
import Derived.Test.YthnahalboomkoaaGreatJoined6
import Derived.Maps.AppendAt

/-
  Loads and stores of one cell, as laws that a walk is told.
-/
namespace Go.Proofs.YthnahalboomkoaaGreat
open Go.RowKit

/-- What a load yields, what a store leaves: shut, so that a law that does not fit fails at once. -/
structure LoadsTo (P : Program) (t : TypeId) (ad : Addr) (u : Value) (w : World) : Prop where
  run : (Instr.loadAt t (.pointer (some ad))).run P w = .ok u w
structure StoresTo (P : Program) (t : TypeId) (ad : Addr) (u : Value) (w w1 : World) : Prop where
  run : (Instr.storeAt t (.pointer (some ad)) u).run P w = .ok () w1
theorem load_at {P : Program} {w : World} {ops : Array Oper} {rest : List Oper} {o : Oper} {a : Act} {Q : Exit → Act → World → Prop} (hg : o.guard = none) {t : TypeId} {p : Operand} (hop : o.op = Op.load t p)
    {ad : Addr} {u : Value} (hp : a.eval p = .pointer (some ad)) (hl : LoadsTo P t ad u w)
    (K : wpList P ops Q rest (a.put o.dst u) w) : wpList P ops Q (o :: rest) a w := by
  have hrun := hl.run
  refine wpList_plain hg fun K' hK' => ?_
  unfold Oper.wp
  simp [execOp, hop, hp, hrun, Result.andThen]
  exact hK' _ _ K
theorem store_at {P : Program} {w w1 : World} {ops : Array Oper} {rest : List Oper} {o : Oper} {a : Act} {Q : Exit → Act → World → Prop} (hg : o.guard = none) (hd : o.dst = none) {t : TypeId} {p v : Operand} (hop : o.op = Op.store t p v)
    {ad : Addr} {u : Value} (hp : a.eval p = .pointer (some ad)) (hv : a.eval v = u) (hs : StoresTo P t ad u w w1)
    (K : wpList P ops Q rest a w1) : wpList P ops Q (o :: rest) a w := by
  have hrun := hs.run
  refine wpList_plain hg fun K' hK' => ?_
  unfold Oper.wp
  simp [execOp, hop, hp, hv, hrun, Result.andThen]
  refine hK' _ _ ?_
  rw [show a.put o.dst undef = a by rw [hd]; rfl]
  exact K

theorem load3 {W : World} {g i : Nat} {u : Value} (h : W.cell? ⟨g, i, none⟩ = some u) : LoadsTo Tryz.prog 3 ⟨g, i, none⟩ u W := by
  constructor
  go_simp

theorem store3 {W : World} {g i : Nat} {u : Value} {x : Int} (h : W.cell? ⟨g, i, none⟩ = some u) (hf : W.frozen? ⟨g, i, none⟩ = false) : StoresTo Tryz.prog 3 ⟨g, i, none⟩ (.int .i64 x) W (W.setCell ⟨g, i, none⟩ (.int .i64 x)) := by
  constructor
  go_simp

theorem loadZs {W : World} {g i : Nat} {u : Value} (h : W.cell? ⟨g, i, none⟩ = some u) : LoadsTo Tryz.prog 27 ⟨g, i, none⟩ u W := by
  constructor
  go_simp

theorem storeZs {W : World} {g i : Nat} {u : Value} {a : Option Addr} {n c : Nat} (h : W.cell? ⟨g, i, none⟩ = some u) (hf : W.frozen? ⟨g, i, none⟩ = false) : StoresTo Tryz.prog 27 ⟨g, i, none⟩ (.slice a n c) W (W.setCell ⟨g, i, none⟩ (.slice a n c)) := by
  constructor
  go_simp

theorem loadRs {W : World} {g i : Nat} {u : Value} (h : W.cell? ⟨g, i, none⟩ = some u) : LoadsTo Tryz.prog 24 ⟨g, i, none⟩ u W := by
  constructor
  go_simp

theorem storeRs {W : World} {g i : Nat} {u : Value} {a : Option Addr} {n c : Nat} (h : W.cell? ⟨g, i, none⟩ = some u) (hf : W.frozen? ⟨g, i, none⟩ = false) : StoresTo Tryz.prog 24 ⟨g, i, none⟩ (.slice a n c) W (W.setCell ⟨g, i, none⟩ (.slice a n c)) := by
  constructor
  go_simp

end Go.Proofs.YthnahalboomkoaaGreat

/-
  Results in blocks, and stores of whole structs.
-/
namespace Go.Proofs.YthnahalboomkoaaGreat
open Go.RowKit

/-- A result that lives in a block, and one in a slot. -/
theorem result_Btmp {P : Program} {fn : Func} {p q : Tmp} {ty t : TypeId} {fs : Array Field} (h : fn.results = #[.cell p ty, .tmp q]) {tmps : Array Value} {w : World} {g : Nat} {cs : Array Value} {v : Value} (hp : tmps.getD p undef = .pointer (some ⟨g, 0, none⟩)) (hq : tmps.getD q undef = v)
    (hA : Blk w g t cs) (hu : P.underlying ty = some (.struct fs)) (hi : (P.info? ty).map (·.size) = some cs.size) : (results fn tmps).run P w = .ok (.tuple #[.agg cs, v]) w := by
  have hl := hA.load hu hi
  have hp' : tmps[p]?.getD undef = .pointer (some ⟨g, 0, none⟩) := by simpa using hp
  have hq' : tmps[q]?.getD undef = v := by simpa using hq
  simp [results, h, hp', hq', asAddr, hl, Result.andThen]

/-- A whole struct into its block; every other block is as it was. -/
theorem store_blkS {P : Program} {w : World} {ops : Array Oper} {rest : List Oper} {o : Oper} {a : Act} {Q : Exit → Act → World → Prop} (hg : o.guard = none) (hd : o.dst = none) {t : TypeId} {p v : Operand} (hop : o.op = Op.store t p v)
    {g : Nat} {t' : TypeId} {cs cs' : Array Value} (hp : a.eval p = .pointer (some ⟨g, 0, none⟩)) (hv : a.eval v = .agg cs') (h : Blk w g t' cs) (hi : (P.info? t).map (·.size) = some cs'.size) (ho : cs.size = cs'.size) (h1 : cs'.all (·.oneCell') = true)
    (K : ∀ w', Blk w' g t' cs' → (∀ k, k ≠ g → w'.heap[k]? = w.heap[k]?) → (∀ g' t'' cs'', g ≠ g' → Blk w g' t'' cs'' → Blk w' g' t'' cs'') → (∀ B w0, B ≤ g → Below B w0 w → Below B w0 w') → wpList P ops Q rest a w') : wpList P ops Q (o :: rest) a w := by
  refine wpList_plain hg fun K' hK' => ?_
  have hrun : (Instr.storeAt t (.pointer (some ⟨g, 0, none⟩)) (.agg cs')).run P w = .ok () (w.setRow g cs') := by
    simp only [Instr.storeAt, Instr.sureAddr, Sem.run_bind, Sem.run_pure, Result.andThen]
    exact h.store hi ho h1
  unfold Oper.wp
  simp [execOp, hop, hp, hv, hrun, Result.andThen]
  refine hK' _ _ ?_
  rw [show a.put o.dst undef = a by rw [hd]; rfl]
  exact (K _ (h.row cs') (fun k hk => by simp only [World.setRow]; rw [Array.getElem?_modify, if_neg (fun e => hk e.symm)]) (fun g' t'' cs'' hne h' => h'.rowOther hne _) (fun _ _ hB hb => below_setRow hb hB _))

end Go.Proofs.YthnahalboomkoaaGreat

/-
  An append in a region that draws its order.
-/
namespace Go.Proofs.YthnahalboomkoaaGreat
open Go.RowKit

theorem ord_append {P : Program} {ops : Array Oper} {S : World → Prop} {Q : Exit → Act → World → Prop} {R : Act → World → Prop} {k : Nat} {r : List (Nat × Bool)} {a : Act} {w : World} {o : Oper} (ho : ops[k]? = some o) (hw : Region.wanted o (yielded ops a.tmps) = true) (s x : Operand) (t : TypeId)
    (hop : o.op = .call { callee := .builtin .append, args := #[s, x], argTypes := #[t, t] })
    (base : Nat) (e : TypeId) (i : TypeInfo) (z : Value) (size bytes : Nat) (ht : P.underlying t = some (.slice e)) (hi : P.info? e = some i) (hz : i.zero = some z)
    (hsize : i.size = size) (hby : i.bytes = bytes) (hzs : z.cells.size = size) (hsz : 0 < size)
    (v : Value) (n : Nat) (xs : List Value) (hs : a.eval s = v) (hown : w.ownsRow base e size v n xs)
    (ad : Addr) (m c : Nat) (news : List Value) (hx : a.eval x = .slice (some ad) m c) (hl : news.length = m * size) (hnews : ∀ j u, news[j]? = some u → w.cell? (ad.add j) = some u) (h1 : ∀ u ∈ news, u.oneCell' = true)
    (h63 : n + m ≤ maxLen) (hbytes : (n + m) * bytes ≤ 140737488355328) (hbase : base ≤ w.heap.size)
    (K : ∀ v' w', w'.ownsRow base e size v' (n + m) (xs ++ news) → w.grownBy w' v.ownBlock → (v'.ownBlock = v.ownBlock ∨ v'.ownBlock = some w.heap.size) → S w' ∧ ∀ K : Act → Prop, (∀ a, wpOrd P ops Q S R r a w' → K a) → K (a.put o.dst v')) :
    wpOrd P ops Q S R ((k, true) :: r) a w := by
  obtain ⟨v', w', hr, h2, h3, _, h5⟩ := run_append_own_at (P := P) w base t o.type e i z size bytes ht hi hz hsize hby hzs hsz v n xs hown ad m c news hl hnews h1 h63 hbytes hbase
  show wpOp P ops (NoPanic Q) k _ a w
  unfold wpOp
  simp only [ho]
  rw [if_pos hw]
  refine .inl ?_
  unfold Oper.wp execOp
  simp only [hop, resolve, invoke, builtin, Sem.run_bind, Sem.run_pure, Result.andThen_ok, List.map_toArray, List.map_cons, List.map_nil, hs, hx, hr]
  obtain ⟨k1, k2⟩ := K v' w' h2 h3 h5
  exact ⟨k1, k2 _ fun _ h => h⟩

end Go.Proofs.YthnahalboomkoaaGreat

/-
  Operations of a region that draws which may come up in whatever order, each with a value that hangs on the world: what is known of them behind all of them.
-/
namespace Go.Proofs.YthnahalboomkoaaGreat
open Go.RowKit

section
variable {P : Program} {ops : Array Oper} {Q : Exit → Act → World → Prop} {S : World → Prop} {s : Nat}

/-- May it be taken first? -/
def floatB (ops : Array Oper) (s : Nat) (listed : Array Bool) (k : Nat) : Bool := (Region.ready .any ops listed).contains k && Region.free .any ops listed k && decide (k ≠ s) && (match ops[s]? with | some o => o.after.any (fun e => Region.binds .any e && decide (e.on = k)) | none => false)
/-- The beginning of a region along an order, then on; behind operation s nothing is asked. -/
def ordLTo (ops : Array Oper) (s : Nat) : List (Nat × Bool) → Array Bool → Option (Array Bool)
  | [], listed => some listed
  | (k, true) :: r, listed => if decide (Region.ready .any ops listed = [k]) && decide (k ≠ s) then ordLTo ops s r (listed.setIfInBounds k true) else none
  | (k, false) :: r, listed => if floatB ops s listed k then ordLTo ops s r (listed.setIfInBounds k true) else none

theorem anyL_of_to (hs : Region.noSelect ops = true) : ∀ (order : List (Nat × Bool)) (n : Nat) (listed listed' : Array Bool) (a : Act) (w : World), ordLTo ops s order listed = some listed' → S w → wpOrd P ops Q S (fun a w => wpAnyL P ops (NoPanic Q) s S n listed' a w) order a w →
    wpAnyL P ops (NoPanic Q) s S (n + order.length) listed a w
  | [], n, listed, listed', a, w, hB, _, h => by
    simp only [ordLTo, Option.some.injEq] at hB
    subst hB
    exact h
  | (k, true) :: r, n, listed, listed', a, w, hB, hS, h => by
    simp only [ordLTo] at hB
    split at hB
    · rename_i hc
      simp only [Bool.and_eq_true, decide_eq_true_eq] at hc
      refine ⟨fun h0 => (by rw [hc.1] at h0; cases h0), fun i hi => ?_⟩
      rw [hc.1, List.mem_singleton] at hi
      subst hi
      exact wpOp_mono (fun a' w' ⟨h1, h2⟩ => ⟨fun _ => h1, anyL_of_to hs r n _ listed' a' w' hB h1 h2⟩) h
    · cases hB
  | (k, false) :: r, n, listed, listed', a, w, hB, hS, h => by
    simp only [ordLTo] at hB
    split at hB
    · rename_i hc
      simp only [floatB, Bool.and_eq_true, decide_eq_true_eq] at hc
      obtain ⟨o, v, ho, hy, hr⟩ := h
      obtain ⟨⟨⟨h1, h2⟩, h3⟩, h4⟩ := hc
      cases hos : ops[s]? with
      | none => rw [hos] at h4; cases h4
      | some os =>
        rw [hos] at h4
        simp only [Array.any_eq_true] at h4
        obtain ⟨j, hj, hb⟩ := h4
        rw [Bool.and_eq_true, decide_eq_true_eq] at hb
        exact last_first ho h3 hos ⟨os.after[j], Array.getElem_mem hj, hb.1, hb.2⟩ (Region.noSelect_spec hs) (fun c a w h => h) _ listed a w (Region.free_spec ho h2) (by simpa using h1) hy hS (anyL_of_to hs r n _ listed' _ w hB hS hr)
    · cases hB

theorem wp_region_lastTo {id : Nat} {a : Act} {w : World} {l : List Oper} (order : List (Nat × Bool)) (s n : Nat) (listed' : Array Bool) (S : World → Prop) (hm : P.follows .mixedOrders = true)
    (hB : (Region.noSelect l.toArray && decide (n + order.length = l.length) && decide (ordLTo l.toArray s order (Array.replicate l.length false) = some listed')) = true) (hS : S w.drew)
    (h : wpOrd P l.toArray Q S (fun a w => wpAnyL P l.toArray (NoPanic Q) s S n listed' a w) order a w.drew) : (Code.region id l.toArray true).wp P Q a w := by
  simp only [Bool.and_eq_true, decide_eq_true_eq] at hB
  obtain ⟨⟨hs, hl⟩, hB⟩ := hB
  refine wp_region_noPanic (wp_region_any hm (any_of_last (s := s) (S := S) _ _ _ _ ?_))
  have := anyL_of_to hs order n (Array.replicate l.length false) listed' a w.drew hB hS h
  rw [hl] at this
  simpa using this

/-- On along an order, to the last store. -/
theorem anyL_ord {n : Nat} {listed : Array Bool} {a : Act} {w : World} (order : List (Nat × Bool)) (hB : (Region.noSelect ops && decide (order.length + 1 = n) && ordL ops s order listed) = true) (hS : S w)
    (h : wpOrd P ops Q S (fun a w => wpOp P ops (NoPanic Q) s (Q .normal) a w) order a w) : wpAnyL P ops (NoPanic Q) s S n listed a w := by
  simp only [Bool.and_eq_true, decide_eq_true_eq] at hB
  obtain ⟨⟨hs, hl⟩, hB⟩ := hB
  subst hl
  exact anyL_of_ord hs order listed a w hB hS h

/-- Of these operations those that have come up. -/
def inH (H : List Nat) (L : Array Bool) : Nat → Bool := fun i => H.contains i && L.getD i false
def upd (v : Nat → Value) (i : Nat) (x : Value) : Nat → Value := fun j => if j = i then x else v j
/-- How many have not. -/
def cntH (H : List Nat) (L : Array Bool) : Nat := (H.filter fun i => !L.getD i false).length
def freeB (ops : Array Oper) (s : Nat) (H : List Nat) (LS : List (Array Bool)) (Le : Array Bool) : Bool :=
  Region.noSelect ops && H.all (fun i => decide (i < ops.size) && decide (i ≠ s) && (match ops[i]? with | some o => o.guard.isNone | none => false)) &&
  ((List.range ops.size).all fun j => (List.range ops.size).all fun k => k == j || (match dsOf ops j with | some d => dsOf ops k != some d | none => true)) &&
  (H.all fun i => H.all fun j => match dsOf ops j, ops[i]? with | some d, some o => !(o.looksAt ops).contains d || (decide (j ≠ i) && o.after.any fun e => Region.binds .any e && decide (e.on = j)) | _, _ => true) &&
  (LS.all fun L => decide (L.size = ops.size) && (decide (L = Le) || (!(Region.ready .any ops L).isEmpty && (Region.ready .any ops L).all fun i => H.contains i && LS.contains (L.setIfInBounds i true) && decide (cntH H (L.setIfInBounds i true) + 1 = cntH H L)))) &&
  (H.all fun i => Le.getD i false) && decide (cntH H Le = 0) && decide (Le.size = ops.size)

theorem wanted_plain {o : Oper} (h : o.guard.isNone = true) (y : Nat → Option Bool) : Region.wanted o y = true := by
  unfold Region.wanted
  cases hg : o.guard with
  | none => rfl
  | some g => rw [hg] at h; cases h

theorem getD_set_same' {L : Array Bool} {i : Nat} (h : i < L.size) (d : Bool) : (L.setIfInBounds i true).getD i d = true := by simp [h]
theorem getD_set_ne' {L : Array Bool} {i j : Nat} (h : i ≠ j) (d : Bool) : (L.setIfInBounds i true).getD j d = L.getD j d := by simp [h]

/-- Behind all of them, in whatever order they came up. -/
theorem anyL_free {H : List Nat} {LS : List (Array Bool)} {Le : Array Bool} {a0 : Act} {m : Nat} (J : Array Bool → (Nat → Value) → World → Prop) (hB : freeB ops s H LS Le = true)
    (step : ∀ (L : Array Bool) (i : Nat) (o : Oper) (v : Nat → Value) (w : World), i ∈ H → ops[i]? = some o → J L v w → L.getD i true = false → (∀ e ∈ o.after, Region.binds .any e = true → L.getD e.on false = true) →
      ∃ x w', (execOp (putSt ops v a0 (fun i => H.contains i) ops.size).eval o).run P w = .ok (.value x) w' ∧ S w' ∧ J (L.setIfInBounds i true) (upd v i x) w')
    (fin : ∀ v w, J Le v w → S w → wpAnyL P ops (NoPanic Q) s S m Le (putSt ops v a0 (fun i => H.contains i) ops.size) w) :
    ∀ (n : Nat) (L : Array Bool) (v : Nat → Value) (w : World), n = cntH H L → L ∈ LS → J L v w → S w → wpAnyL P ops (NoPanic Q) s S (m + n) L (putSt ops v a0 (inH H L) ops.size) w := by
  simp only [freeB, Bool.and_eq_true, decide_eq_true_eq] at hB
  obtain ⟨⟨⟨⟨⟨⟨⟨hsel, hH⟩, hds⟩, hlook⟩, hLS⟩, hLe⟩, hce⟩, hLes⟩ := hB
  have hdst : ∀ j k, j < ops.size → k < ops.size → k ≠ j → ∀ d, dsOf ops j = some d → dsOf ops k ≠ some d := by
    intro j k hj hk hne d hd
    have h1 := List.all_eq_true.1 (List.all_eq_true.1 hds j (List.mem_range.2 hj)) k (List.mem_range.2 hk)
    have e : (k == j) = false := by simp [hne]
    rw [e, hd] at h1
    simpa using h1
  have hends : ∀ v, putSt ops v a0 (inH H Le) ops.size = putSt ops v a0 (fun i => H.contains i) ops.size := fun v => putSt_congr _ fun j _ => by
    unfold inH
    cases hc : H.contains j
    · rfl
    · rw [List.all_eq_true.1 hLe j (by simpa using hc)]; rfl
  intro n
  induction n with
  | zero =>
    intro L v w hn hL hJ hS
    have h1 := List.all_eq_true.1 hLS L hL
    simp only [Bool.and_eq_true, Bool.or_eq_true, decide_eq_true_eq] at h1
    rcases h1.2 with rfl | h2
    · rw [hends]; exact fin v w hJ hS
    · obtain ⟨hr, ha⟩ := h2
      exfalso
      cases hq : Region.ready .any ops L with
      | nil => rw [hq] at hr; cases hr
      | cons i t =>
        have h3 := List.all_eq_true.1 ha i (by rw [hq]; exact List.mem_cons_self)
        simp only [Bool.and_eq_true, decide_eq_true_eq] at h3
        omega
  | succ n ih =>
    intro L v w hn hL hJ hS
    have h1 := List.all_eq_true.1 hLS L hL
    simp only [Bool.and_eq_true, Bool.or_eq_true, decide_eq_true_eq] at h1
    obtain ⟨hsz, h1⟩ := h1
    rcases h1 with rfl | ⟨hr, ha⟩
    · omega
    · refine ⟨fun h0 => (by rw [h0] at hr; cases hr), fun i hi => ?_⟩
      have h3 := List.all_eq_true.1 ha i hi
      simp only [Bool.and_eq_true, decide_eq_true_eq] at h3
      obtain ⟨⟨hiH, hLS2⟩, hcnt⟩ := h3
      have hiH' : i ∈ H := by simpa using hiH
      obtain ⟨hun, o, ho, hall⟩ := mem_ready.1 hi
      have hp := List.all_eq_true.1 hH i hiH'
      simp only [Bool.and_eq_true, decide_eq_true_eq] at hp
      obtain ⟨⟨hisz, his⟩, hg⟩ := hp
      rw [ho] at hg
      have hdo : dsOf ops i = o.dst := by simp [dsOf, ho]
      have hunf : L.getD i false = false := by
        have : i < L.size := by omega
        simp [this] at hun ⊢
        exact hun
      have hinot : inH H L i = false := by unfold inH; rw [hunf, Bool.and_false]
      obtain ⟨x, w', hrun, hS', hJ'⟩ := step L i o v w hiH' ho hJ hun hall
      have hsame := putSt_same (ops := ops) (v := v) (a := a0) (n := ops.size) (o := o) (fun cs b => Region.noSelect_spec hsel i o cs b ho) (fun j k hj hk hne d hd => hdst j k hj hk hne d hd) (S := inH H L) (T := fun i => H.contains i) (fun j hj => by unfold inH at hj; simp only [Bool.and_eq_true] at hj; exact hj.1) (fun j hj hT hSj d hd => by
        have hjH : j ∈ H := by simpa using hT
        have h5 := List.all_eq_true.1 (List.all_eq_true.1 hlook i hiH') j hjH
        rw [hd, ho] at h5
        simp only [Bool.or_eq_true, Bool.and_eq_true, Bool.not_eq_true', decide_eq_true_eq] at h5
        rcases h5 with h5 | ⟨_, h6⟩
        · simpa using h5
        · exfalso
          simp only [Array.any_eq_true] at h6
          obtain ⟨q, hq, hb⟩ := h6
          rw [Bool.and_eq_true, decide_eq_true_eq] at hb
          have h7 := hall o.after[q] (Array.getElem_mem hq) hb.1
          rw [hb.2] at h7
          unfold inH at hSj
          rw [hT, h7] at hSj
          cases hSj)
      refine last_op ho (wanted_plain hg _) fun K hK => ⟨x, w', by rw [← hsame.1]; exact hrun, hK _ _ ⟨fun _ => hS', ?_⟩⟩
      have hfr : (putSt ops v a0 (inH H L) ops.size).put o.dst x = putSt ops (upd v i x) a0 (inH H (L.setIfInBounds i true)) ops.size := by
        have e1 : putSt ops (upd v i x) a0 (inH H (L.setIfInBounds i true)) ops.size = putSt ops (upd v i x) a0 (more (inH H L) i) ops.size := putSt_congr _ fun j _ => by
          unfold inH more
          by_cases hji : i = j
          · subst hji
            rw [getD_set_same' (by omega), hiH]
            simp
          · rw [getD_set_ne' hji]
            have : (j == i) = false := by simp; exact fun e => hji e.symm
            rw [this, Bool.or_false]
        rw [e1, putSt_more (n := ops.size) (fun k hk hne => hdst i k hisz hk hne) hinot ops.size hisz (Nat.le_refl _), hdo]
        have e2 : upd v i x i = x := by unfold upd; rw [if_pos rfl]
        rw [e2]
        congr 1
        have gen : ∀ k, putSt ops v a0 (inH H L) k = putSt ops (upd v i x) a0 (inH H L) k := by
          intro k
          induction k with
          | zero => rfl
          | succ k ih2 =>
            simp only [putSt, ih2]
            split
            · rename_i hk
              have hki : k ≠ i := fun e => by subst e; rw [hinot] at hk; cases hk
              have : upd v i x k = v k := by unfold upd; rw [if_neg hki]
              rw [this]
            · rfl
        exact gen _
      rw [hfr]
      exact ih (L.setIfInBounds i true) (upd v i x) w' (by omega) (by simpa using hLS2) hJ' hS'

/-- The same from a place at which none of them has come up. -/
theorem anyL_free0 {H : List Nat} {LS : List (Array Bool)} {Le L0 : Array Bool} {a0 : Act} {m N : Nat} {w : World} (J : Array Bool → (Nat → Value) → World → Prop) (hB : freeB ops s H LS Le = true)
    (h0 : (LS.contains L0 && decide (N = m + cntH H L0) && H.all fun i => !L0.getD i false) = true)
    (step : ∀ (L : Array Bool) (i : Nat) (o : Oper) (v : Nat → Value) (w : World), i ∈ H → ops[i]? = some o → J L v w → L.getD i true = false → (∀ e ∈ o.after, Region.binds .any e = true → L.getD e.on false = true) →
      ∃ x w', (execOp (putSt ops v a0 (fun i => H.contains i) ops.size).eval o).run P w = .ok (.value x) w' ∧ S w' ∧ J (L.setIfInBounds i true) (upd v i x) w')
    (hJ : J L0 (fun _ => undef) w) (hS : S w)
    (fin : ∀ v w, J Le v w → S w → wpAnyL P ops (NoPanic Q) s S m Le (putSt ops v a0 (fun i => H.contains i) ops.size) w) : wpAnyL P ops (NoPanic Q) s S N L0 a0 w := by
  simp only [Bool.and_eq_true, decide_eq_true_eq] at h0
  obtain ⟨⟨h1, h2⟩, h3⟩ := h0
  have h4 := anyL_free (P := P) (Q := Q) (S := S) (a0 := a0) (m := m) J hB step fin (cntH H L0) L0 (fun _ => undef) w rfl (by simpa using h1) hJ hS
  rw [h2]
  have e : putSt ops (fun _ => undef) a0 (inH H L0) ops.size = a0 := by
    have gen : ∀ k, putSt ops (fun _ => undef) a0 (inH H L0) k = a0 := by
      intro k
      induction k with
      | zero => rfl
      | succ k ih =>
        have hk : inH H L0 k = false := by
          unfold inH
          cases hc : H.contains k
          · rfl
          · have := List.all_eq_true.1 h3 k (by simpa using hc)
            rw [Bool.not_eq_true'] at this
            rw [this]
            rfl
        simp only [putSt, ih, hk, Bool.false_eq_true, if_false]
    exact gen _
  rw [e] at h4
  exact h4

/-- An append, run. -/
theorem exec_append {a : Act} {w : World} {o : Oper} (s x : Operand) (t : TypeId) (hop : o.op = .call { callee := .builtin .append, args := #[s, x], argTypes := #[t, t] })
    (base : Nat) (e : TypeId) (i : TypeInfo) (z : Value) (size bytes : Nat) (ht : P.underlying t = some (.slice e)) (hi : P.info? e = some i) (hz : i.zero = some z)
    (hsize : i.size = size) (hby : i.bytes = bytes) (hzs : z.cells.size = size) (hsz : 0 < size)
    (v : Value) (n : Nat) (xs : List Value) (hs : a.eval s = v) (hown : w.ownsRow base e size v n xs)
    (ad : Addr) (m c : Nat) (news : List Value) (hx : a.eval x = .slice (some ad) m c) (hl : news.length = m * size) (hnews : ∀ j u, news[j]? = some u → w.cell? (ad.add j) = some u) (h1 : ∀ u ∈ news, u.oneCell' = true)
    (h63 : n + m ≤ maxLen) (hbytes : (n + m) * bytes ≤ 140737488355328) (hbase : base ≤ w.heap.size) :
    ∃ v' w', (execOp a.eval o).run P w = .ok (.value v') w' ∧ w'.ownsRow base e size v' (n + m) (xs ++ news) ∧ w.grownBy w' v.ownBlock ∧ (v'.ownBlock = v.ownBlock ∨ v'.ownBlock = some w.heap.size) := by
  obtain ⟨v', w', hr, h2, h3, _, h5⟩ := run_append_own_at (P := P) w base t o.type e i z size bytes ht hi hz hsize hby hzs hsz v n xs hown ad m c news hl hnews h1 h63 hbytes hbase
  refine ⟨v', w', ?_, h2, h3, h5⟩
  unfold execOp
  simp only [hop, resolve, invoke, builtin, Sem.run_bind, Sem.run_pure, Result.andThen_ok, List.map_toArray, List.map_cons, List.map_nil, hs, hx, hr]

/-- The same, as a step. -/
theorem step_append {a : Act} {w : World} {o : Oper} {R : Value → World → Prop} (s x : Operand) (t : TypeId) (hop : o.op = .call { callee := .builtin .append, args := #[s, x], argTypes := #[t, t] })
    (base : Nat) (e : TypeId) (i : TypeInfo) (z : Value) (size bytes : Nat) (ht : P.underlying t = some (.slice e)) (hi : P.info? e = some i) (hz : i.zero = some z)
    (hsize : i.size = size) (hby : i.bytes = bytes) (hzs : z.cells.size = size) (hsz : 0 < size)
    (v : Value) (n : Nat) (xs : List Value) (hs : a.eval s = v) (hown : w.ownsRow base e size v n xs)
    (ad : Addr) (m c : Nat) (news : List Value) (hx : a.eval x = .slice (some ad) m c) (hl : news.length = m * size) (hnews : ∀ j u, news[j]? = some u → w.cell? (ad.add j) = some u) (h1 : ∀ u ∈ news, u.oneCell' = true)
    (h63 : n + m ≤ maxLen) (hbytes : (n + m) * bytes ≤ 140737488355328) (hbase : base ≤ w.heap.size)
    (K : ∀ v' w', w'.ownsRow base e size v' (n + m) (xs ++ news) → w.grownBy w' v.ownBlock → (v'.ownBlock = v.ownBlock ∨ v'.ownBlock = some w.heap.size) → R v' w') : ∃ v' w', (execOp a.eval o).run P w = .ok (.value v') w' ∧ R v' w' := by
  obtain ⟨v', w', h2, h3, h4, h5⟩ := exec_append (P := P) (a := a) (w := w) (o := o) s x t hop base e i z size bytes ht hi hz hsize hby hzs hsz v n xs hs hown ad m c news hx hl hnews h1 h63 hbytes hbase
  exact ⟨v', w', h2, K v' w' h3 h4 h5⟩

end

end Go.Proofs.YthnahalboomkoaaGreat
