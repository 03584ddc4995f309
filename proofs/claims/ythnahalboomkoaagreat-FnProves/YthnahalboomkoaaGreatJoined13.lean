/-
  Texts of one's own, joined.
-/
import Derived.Test.YthnahalboomkoaaGreatJoined6
import Derived.Test.YthnahalboomkoaaGreatJoined3
import Derived.Maps.AppendAt

/-
  Three lists of lists beside one another.
-/
namespace Go.Proofs.YthnahalboomkoaaGreat
open Go.RowKit

/-- The blocks of a list of lists. -/
def OwnB (v : Value) (n : Nat) (vs : List Value) (k : Nat) : Prop := v.ownBlock = some k ∨ ∃ i, i < n ∧ (vs.getD i undef).ownBlock = some k
theorem NOwnV.range {e lo hi n : Nat} {w : World} {v : Value} {vs : List Value} {ls : List (List Int)} (h : NOwnV 1 e lo hi w v n vs ls) {k : Nat} (hk : OwnB v n vs k) : lo ≤ k ∧ k < hi := by
  rcases hk with hk | ⟨i, hi, hk⟩
  · exact ⟨(h.row.lt k hk).1, h.top k hk⟩
  · exact (h.each i (by omega)).in k hk
theorem kps_grown {w w' : World} {r : Option Nat} (hg : w.grownBy w' r) : Kps (fun k => r = some k) w w' := ⟨hg.os, hg.tape, hg.output, hg.size, fun k hk hs => hg.block k hk fun e => hs e.symm⟩
theorem NOwnV.kept1 {e lo hi n : Nat} {w w' : World} {v : Value} {vs : List Value} {ls : List (List Int)} {S : Nat → Prop} (h : NOwnV 1 e lo hi w v n vs ls) (hk : Kps S w w') (hS : ∀ k, OwnB v n vs k → ¬ S k) : NOwnV 1 e lo hi w' v n vs ls :=
  ⟨hk.row h.row fun k hv => hS k (.inl hv), h.len, h.top, fun j hj => ⟨hk.row (h.each j hj).1 fun k hv => hS k (.inr ⟨j, by omega, hv⟩), (h.each j hj).2⟩, h.apart, h.off⟩
theorem NOwnV.wide1 {sz e lo hi hi' n : Nat} {w : World} {v : Value} {vs : List Value} {ls : List (List Int)} (h : NOwnV sz e lo hi w v n vs ls) (h2 : hi ≤ hi') : NOwnV sz e lo hi' w v n vs ls := h.wide h2

/-- Three of them, no block of one is another's. -/
structure Tri (e lo hi : Nat) (w : World) (U : Value) (nu : Nat) (us : List Value) (LU : List (List Int)) (V : Value) (nv : Nat) (vs : List Value) (LV : List (List Int)) (X : Value) (nx : Nat) (xs : List Value) (LX : List (List Int)) : Prop where
  u : NOwnV 1 e lo hi w U nu us LU
  v : NOwnV 1 e lo hi w V nv vs LV
  x : NOwnV 1 e lo hi w X nx xs LX
  uv : ∀ k, OwnB U nu us k → ¬ OwnB V nv vs k
  ux : ∀ k, OwnB U nu us k → ¬ OwnB X nx xs k
  vx : ∀ k, OwnB V nv vs k → ¬ OwnB X nx xs k
theorem Tri.rot {e lo hi : Nat} {w : World} {U V X : Value} {nu nv nx : Nat} {us vs xs : List Value} {LU LV LX : List (List Int)} (h : Tri e lo hi w U nu us LU V nv vs LV X nx xs LX) : Tri e lo hi w V nv vs LV X nx xs LX U nu us LU :=
  ⟨h.v, h.x, h.u, h.vx, fun k h1 h2 => h.uv k h2 h1, fun k h1 h2 => h.ux k h2 h1⟩
theorem Tri.same {e lo hi : Nat} {w w' : World} {U V X : Value} {nu nv nx : Nat} {us vs xs : List Value} {LU LV LX : List (List Int)} (h : Tri e lo hi w U nu us LU V nv vs LV X nx xs LX) (hs : Same lo hi w w') : Tri e lo hi w' U nu us LU V nv vs LV X nx xs LX :=
  ⟨h.u.same hs, h.v.same hs, h.x.same hs, h.uv, h.ux, h.vx⟩
theorem Tri.wide {e lo hi hi' : Nat} {w : World} {U V X : Value} {nu nv nx : Nat} {us vs xs : List Value} {LU LV LX : List (List Int)} (h : Tri e lo hi w U nu us LU V nv vs LV X nx xs LX) (h2 : hi ≤ hi') : Tri e lo hi' w U nu us LU V nv vs LV X nx xs LX :=
  ⟨h.u.wide h2, h.v.wide h2, h.x.wide h2, h.uv, h.ux, h.vx⟩
theorem NOwnV.low1 {sz e lo lo' hi n : Nat} {w : World} {v : Value} {vs : List Value} {ls : List (List Int)} (h : NOwnV sz e lo hi w v n vs ls) (h2 : lo' ≤ lo) : NOwnV sz e lo' hi w v n vs ls :=
  ⟨owns_low h.row h2, h.len, h.top, fun j hj => (h.each j hj).wide h2 (Nat.le_refl _), h.apart, h.off⟩
theorem Tri.low {e lo lo' hi : Nat} {w : World} {U V X : Value} {nu nv nx : Nat} {us vs xs : List Value} {LU LV LX : List (List Int)} (h : Tri e lo hi w U nu us LU V nv vs LV X nx xs LX) (h2 : lo' ≤ lo) : Tri e lo' hi w U nu us LU V nv vs LV X nx xs LX :=
  ⟨h.u.low1 h2, h.v.low1 h2, h.x.low1 h2, h.uv, h.ux, h.vx⟩
/-- The first of them grows by one list. -/
theorem Tri.app {e lo hi : Nat} {w w' : World} {U V X U' x : Value} {nu nv nx : Nat} {us vs xs : List Value} {LU LV LX : List (List Int)} {l : List Int} (h : Tri e lo hi w U nu us LU V nv vs LV X nx xs LX) (hr : w'.ownsRow lo e 1 U' (nu + 1) (us ++ [x])) (hg : w.grownBy w' U.ownBlock) (hv : U'.ownBlock = U.ownBlock ∨ U'.ownBlock = some w.heap.size) (hx : ZOwn hi w.heap.size w x l) (hw : hi ≤ w.heap.size) (hlo : lo ≤ hi) : Tri e lo w'.heap.size w' U' (nu + 1) (us ++ [x]) (LU ++ [l]) V nv vs LV X nx xs LX := by
  have hul : us.length = nu := by have := h.u.vlen; omega
  have hsz := hg.size
  have hnew : NOwnV 1 e lo w'.heap.size w' U' (nu + 1) (us ++ [x]) (LU ++ [l]) := h.u.app hr hg hv rfl (fun j hj => by
      have e0 : j = 0 := by omega
      subst e0
      exact hx) (fun i j k hi hj hij => by omega) hw hlo hsz (fun k hk => (hr.lt k hk).2)
  have hsub : ∀ k, OwnB U' (nu + 1) (us ++ [x]) k → OwnB U nu us k ∨ hi ≤ k := fun k hk => by
    rcases hk with hk | ⟨i, hi', hk⟩
    · rcases hv with hv | hv
      · exact .inl (.inl (hv ▸ hk))
      · rw [hv] at hk
        have := Option.some.inj hk
        exact .inr (by omega)
    · by_cases e1 : i < nu
      · rw [getD_app_left _ _ _ _ (by omega)] at hk
        exact .inl (.inr ⟨i, e1, hk⟩)
      · rw [getD_app_right _ _ _ _ (by omega), hul, show i - nu = 0 by omega] at hk
        exact .inr (hx.in k hk).1
  have hK := kps_grown hg
  have keepV := h.v.kept1 hK fun k hk hs => h.uv k (.inl hs) hk
  have keepX := h.x.kept1 hK fun k hk hs => h.ux k (.inl hs) hk
  refine ⟨hnew, keepV.wide (by omega), keepX.wide (by omega), fun k h1 h2 => ?_, fun k h1 h2 => ?_, h.vx⟩
  · rcases hsub k h1 with h3 | h3
    · exact h.uv k h3 h2
    · have := h.v.range h2; omega
  · rcases hsub k h1 with h3 | h3
    · exact h.ux k h3 h2
    · have := h.x.range h2; omega

/-- Three rows of numbers beside one another. -/
structure Row3s (lo : Nat) (w : World) (a b c : Value) (la lb lc : List Int) : Prop where
  ra : RowZs lo w a la
  rb : RowZs lo w b lb
  rc : RowZs lo w c lc
  ab : ∀ k, a.ownBlock = some k → b.ownBlock ≠ some k
  ac : ∀ k, a.ownBlock = some k → c.ownBlock ≠ some k
  bc : ∀ k, b.ownBlock = some k → c.ownBlock ≠ some k
theorem Row3s.rot {lo : Nat} {w : World} {a b c : Value} {la lb lc : List Int} (h : Row3s lo w a b c la lb lc) : Row3s lo w b c a lb lc la :=
  ⟨h.rb, h.rc, h.ra, h.bc, fun k h1 h2 => h.ab k h2 h1, fun k h1 h2 => h.ac k h2 h1⟩
theorem Row3s.alloc {lo : Nat} {w : World} {a b c : Value} {la lb lc : List Int} (h : Row3s lo w a b c la lb lc) (o : Obj) : Row3s lo (w.alloc o) a b c la lb lc :=
  ⟨World.ownsRow.alloc h.ra o, World.ownsRow.alloc h.rb o, World.ownsRow.alloc h.rc o, h.ab, h.ac, h.bc⟩
theorem Row3s.app {lo : Nat} {w w' : World} {a b c a' : Value} {la lb lc la' : List Int} (h : Row3s lo w a b c la lb lc) (hr : RowZs lo w' a' la') (hg : w.grownBy w' a.ownBlock) (hv : a'.ownBlock = a.ownBlock ∨ a'.ownBlock = some w.heap.size) : Row3s lo w' a' b c la' lb lc := by
  have hK := kps_grown hg
  refine ⟨hr, hK.row h.rb fun k hk hs => h.ab k hs hk, hK.row h.rc fun k hk hs => h.ac k hs hk, fun k h1 h2 => ?_, fun k h1 h2 => ?_, h.bc⟩
  · rcases hv with hv | hv
    · exact h.ab k (hv ▸ h1) h2
    · rw [hv] at h1
      have := Option.some.inj h1
      have := (h.rb.lt k h2).2
      omega
  · rcases hv with hv | hv
    · exact h.ac k (hv ▸ h1) h2
    · rw [hv] at h1
      have := Option.some.inj h1
      have := (h.rc.lt k h2).2
      omega

end Go.Proofs.YthnahalboomkoaaGreat

/-
  Loads and stores of one cell, as laws that a walk is told.
-/
namespace Go.Proofs.YthnahalboomkoaaGreat
open Go.RowKit

/-- What a load yields, what a store leaves: shut, so that a law that does not fit fails at once. -/
structure LoadsTo (P : Program) (t : TypeId) (ad : Addr) (u : Value) (w : World) : Prop where
  run : (Instr.loadAt t (.pointer (some ad))).run P w = .ok u w
structure StoresTo (P : Program) (t : TypeId) (ad : Addr) (u : Value) (w w1 : World) : Prop where
  run : (Instr.storeAt t (.pointer (some ad)) u).run P w = .ok () w1
theorem load_at {P : Program} {w : World} {ops : Array Oper} {rest : List Oper} {o : Oper} {a : Act} {Q : Exit → Act → World → Prop} (hg : o.guard = none) {t : TypeId} {p : Operand} (hop : o.op = Op.load t p)
    {ad : Addr} {u : Value} (hp : a.eval p = .pointer (some ad)) (hl : LoadsTo P t ad u w)
    (K : wpList P ops Q rest (a.put o.dst u) w) : wpList P ops Q (o :: rest) a w := by
  have hrun := hl.run
  refine wpList_plain hg fun K' hK' => ?_
  unfold Oper.wp
  simp [execOp, hop, hp, hrun, Result.andThen]
  exact hK' _ _ K
theorem store_at {P : Program} {w w1 : World} {ops : Array Oper} {rest : List Oper} {o : Oper} {a : Act} {Q : Exit → Act → World → Prop} (hg : o.guard = none) (hd : o.dst = none) {t : TypeId} {p v : Operand} (hop : o.op = Op.store t p v)
    {ad : Addr} {u : Value} (hp : a.eval p = .pointer (some ad)) (hv : a.eval v = u) (hs : StoresTo P t ad u w w1)
    (K : wpList P ops Q rest a w1) : wpList P ops Q (o :: rest) a w := by
  have hrun := hs.run
  refine wpList_plain hg fun K' hK' => ?_
  unfold Oper.wp
  simp [execOp, hop, hp, hv, hrun, Result.andThen]
  refine hK' _ _ ?_
  rw [show a.put o.dst undef = a by rw [hd]; rfl]
  exact K

theorem store3 {W : World} {g i : Nat} {u : Value} {x : Int} (h : W.cell? ⟨g, i, none⟩ = some u) (hf : W.frozen? ⟨g, i, none⟩ = false) : StoresTo Tryz.prog 3 ⟨g, i, none⟩ (.int .i64 x) W (W.setCell ⟨g, i, none⟩ (.int .i64 x)) := by
  constructor
  go_simp

theorem loadZs {W : World} {g i : Nat} {u : Value} (h : W.cell? ⟨g, i, none⟩ = some u) : LoadsTo Tryz.prog 27 ⟨g, i, none⟩ u W := by
  constructor
  go_simp

theorem storeZs {W : World} {g i : Nat} {u : Value} {a : Option Addr} {n c : Nat} (h : W.cell? ⟨g, i, none⟩ = some u) (hf : W.frozen? ⟨g, i, none⟩ = false) : StoresTo Tryz.prog 27 ⟨g, i, none⟩ (.slice a n c) W (W.setCell ⟨g, i, none⟩ (.slice a n c)) := by
  constructor
  go_simp

theorem loadRs {W : World} {g i : Nat} {u : Value} (h : W.cell? ⟨g, i, none⟩ = some u) : LoadsTo Tryz.prog 24 ⟨g, i, none⟩ u W := by
  constructor
  go_simp

theorem storeRs {W : World} {g i : Nat} {u : Value} {a : Option Addr} {n c : Nat} (h : W.cell? ⟨g, i, none⟩ = some u) (hf : W.frozen? ⟨g, i, none⟩ = false) : StoresTo Tryz.prog 24 ⟨g, i, none⟩ (.slice a n c) W (W.setCell ⟨g, i, none⟩ (.slice a n c)) := by
  constructor
  go_simp

end Go.Proofs.YthnahalboomkoaaGreat

/-
  Results in blocks, and stores of whole structs.
-/
namespace Go.Proofs.YthnahalboomkoaaGreat
open Go.RowKit

/-- A result that lives in a block, and one in a slot. -/
theorem result_Btmp {P : Program} {fn : Func} {p q : Tmp} {ty t : TypeId} {fs : Array Field} (h : fn.results = #[.cell p ty, .tmp q]) {tmps : Array Value} {w : World} {g : Nat} {cs : Array Value} {v : Value} (hp : tmps.getD p undef = .pointer (some ⟨g, 0, none⟩)) (hq : tmps.getD q undef = v)
    (hA : Blk w g t cs) (hu : P.underlying ty = some (.struct fs)) (hi : (P.info? ty).map (·.size) = some cs.size) : (results fn tmps).run P w = .ok (.tuple #[.agg cs, v]) w := by
  have hl := hA.load hu hi
  have hp' : tmps[p]?.getD undef = .pointer (some ⟨g, 0, none⟩) := by simpa using hp
  have hq' : tmps[q]?.getD undef = v := by simpa using hq
  simp [results, h, hp', hq', asAddr, hl, Result.andThen]

/-- A whole struct into its block; every other block is as it was. -/
theorem store_blkS {P : Program} {w : World} {ops : Array Oper} {rest : List Oper} {o : Oper} {a : Act} {Q : Exit → Act → World → Prop} (hg : o.guard = none) (hd : o.dst = none) {t : TypeId} {p v : Operand} (hop : o.op = Op.store t p v)
    {g : Nat} {t' : TypeId} {cs cs' : Array Value} (hp : a.eval p = .pointer (some ⟨g, 0, none⟩)) (hv : a.eval v = .agg cs') (h : Blk w g t' cs) (hi : (P.info? t).map (·.size) = some cs'.size) (ho : cs.size = cs'.size) (h1 : cs'.all (·.oneCell') = true)
    (K : ∀ w', Blk w' g t' cs' → (∀ k, k ≠ g → w'.heap[k]? = w.heap[k]?) → (∀ g' t'' cs'', g ≠ g' → Blk w g' t'' cs'' → Blk w' g' t'' cs'') → (∀ B w0, B ≤ g → Below B w0 w → Below B w0 w') → wpList P ops Q rest a w') : wpList P ops Q (o :: rest) a w := by
  refine wpList_plain hg fun K' hK' => ?_
  have hrun : (Instr.storeAt t (.pointer (some ⟨g, 0, none⟩)) (.agg cs')).run P w = .ok () (w.setRow g cs') := by
    simp only [Instr.storeAt, Instr.sureAddr, Sem.run_bind, Sem.run_pure, Result.andThen]
    exact h.store hi ho h1
  unfold Oper.wp
  simp [execOp, hop, hp, hv, hrun, Result.andThen]
  refine hK' _ _ ?_
  rw [show a.put o.dst undef = a by rw [hd]; rfl]
  exact (K _ (h.row cs') (fun k hk => by simp only [World.setRow]; rw [Array.getElem?_modify, if_neg (fun e => hk e.symm)]) (fun g' t'' cs'' hne h' => h'.rowOther hne _) (fun _ _ hB hb => below_setRow hb hB _))

end Go.Proofs.YthnahalboomkoaaGreat

/-
  An append in a region that draws its order.
-/
namespace Go.Proofs.YthnahalboomkoaaGreat
open Go.RowKit

theorem ord_append {P : Program} {ops : Array Oper} {S : World → Prop} {Q : Exit → Act → World → Prop} {R : Act → World → Prop} {k : Nat} {r : List (Nat × Bool)} {a : Act} {w : World} {o : Oper} (ho : ops[k]? = some o) (hw : Region.wanted o (yielded ops a.tmps) = true) (s x : Operand) (t : TypeId)
    (hop : o.op = .call { callee := .builtin .append, args := #[s, x], argTypes := #[t, t] })
    (base : Nat) (e : TypeId) (i : TypeInfo) (z : Value) (size bytes : Nat) (ht : P.underlying t = some (.slice e)) (hi : P.info? e = some i) (hz : i.zero = some z)
    (hsize : i.size = size) (hby : i.bytes = bytes) (hzs : z.cells.size = size) (hsz : 0 < size)
    (v : Value) (n : Nat) (xs : List Value) (hs : a.eval s = v) (hown : w.ownsRow base e size v n xs)
    (ad : Addr) (m c : Nat) (news : List Value) (hx : a.eval x = .slice (some ad) m c) (hl : news.length = m * size) (hnews : ∀ j u, news[j]? = some u → w.cell? (ad.add j) = some u) (h1 : ∀ u ∈ news, u.oneCell' = true)
    (h63 : n + m ≤ maxLen) (hbytes : (n + m) * bytes ≤ 140737488355328) (hbase : base ≤ w.heap.size)
    (K : ∀ v' w', w'.ownsRow base e size v' (n + m) (xs ++ news) → w.grownBy w' v.ownBlock → (v'.ownBlock = v.ownBlock ∨ v'.ownBlock = some w.heap.size) → S w' ∧ ∀ K : Act → Prop, (∀ a, wpOrd P ops Q S R r a w' → K a) → K (a.put o.dst v')) :
    wpOrd P ops Q S R ((k, true) :: r) a w := by
  obtain ⟨v', w', hr, h2, h3, _, h5⟩ := run_append_own_at (P := P) w base t o.type e i z size bytes ht hi hz hsize hby hzs hsz v n xs hown ad m c news hl hnews h1 h63 hbytes hbase
  show wpOp P ops (NoPanic Q) k _ a w
  unfold wpOp
  simp only [ho]
  rw [if_pos hw]
  refine .inl ?_
  unfold Oper.wp execOp
  simp only [hop, resolve, invoke, builtin, Sem.run_bind, Sem.run_pure, Result.andThen_ok, List.map_toArray, List.map_cons, List.map_nil, hs, hx, hr]
  obtain ⟨k1, k2⟩ := K v' w' h2 h3 h5
  exact ⟨k1, k2 _ fun _ h => h⟩

end Go.Proofs.YthnahalboomkoaaGreat

/-
  Operations of a region that draws which may come up in whatever order, each with a value that hangs on the world: what is known of them behind all of them.
-/
namespace Go.Proofs.YthnahalboomkoaaGreat
open Go.RowKit

section
variable {P : Program} {ops : Array Oper} {Q : Exit → Act → World → Prop} {S : World → Prop} {s : Nat}

/-- Of these operations those that have come up. -/
def inH (H : List Nat) (L : Array Bool) : Nat → Bool := fun i => H.contains i && L.getD i false
def upd (v : Nat → Value) (i : Nat) (x : Value) : Nat → Value := fun j => if j = i then x else v j
/-- How many have not. -/
def cntH (H : List Nat) (L : Array Bool) : Nat := (H.filter fun i => !L.getD i false).length
def freeB (ops : Array Oper) (s : Nat) (H : List Nat) (LS : List (Array Bool)) (Le : Array Bool) : Bool :=
  Region.noSelect ops && H.all (fun i => decide (i < ops.size) && decide (i ≠ s) && (match ops[i]? with | some o => o.guard.isNone | none => false)) &&
  ((List.range ops.size).all fun j => (List.range ops.size).all fun k => k == j || (match dsOf ops j with | some d => dsOf ops k != some d | none => true)) &&
  (H.all fun i => H.all fun j => match dsOf ops j, ops[i]? with | some d, some o => !(o.looksAt ops).contains d || (decide (j ≠ i) && o.after.any fun e => Region.binds .any e && decide (e.on = j)) | _, _ => true) &&
  (LS.all fun L => decide (L.size = ops.size) && (decide (L = Le) || (!(Region.ready .any ops L).isEmpty && (Region.ready .any ops L).all fun i => H.contains i && LS.contains (L.setIfInBounds i true) && decide (cntH H (L.setIfInBounds i true) + 1 = cntH H L)))) &&
  (H.all fun i => Le.getD i false) && decide (cntH H Le = 0) && decide (Le.size = ops.size)

theorem wanted_plain {o : Oper} (h : o.guard.isNone = true) (y : Nat → Option Bool) : Region.wanted o y = true := by
  unfold Region.wanted
  cases hg : o.guard with
  | none => rfl
  | some g => rw [hg] at h; cases h

theorem getD_set_same' {L : Array Bool} {i : Nat} (h : i < L.size) (d : Bool) : (L.setIfInBounds i true).getD i d = true := by simp [h]
theorem getD_set_ne' {L : Array Bool} {i j : Nat} (h : i ≠ j) (d : Bool) : (L.setIfInBounds i true).getD j d = L.getD j d := by simp [h]

end

end Go.Proofs.YthnahalboomkoaaGreat
