/-
  Texts of one's own, joined.
-/
import Derived.Test.YtbkfdafdchjakaaJoined6
import Derived.Test.YtbkfdafdchjakaaJoined9
import Derived.Maps.AppendAt

/-
  Loads and stores of one cell, as laws that a walk is told.
-/
namespace Go.Proofs.Ytbkfdafdchjakaa
open Go.RowKit

/-- What a load yields, what a store leaves: shut, so that a law that does not fit fails at once. -/
structure LoadsTo (P : Program) (t : TypeId) (ad : Addr) (u : Value) (w : World) : Prop where
  run : (Instr.loadAt t (.pointer (some ad))).run P w = .ok u w
structure StoresTo (P : Program) (t : TypeId) (ad : Addr) (u : Value) (w w1 : World) : Prop where
  run : (Instr.storeAt t (.pointer (some ad)) u).run P w = .ok () w1
theorem load_at {P : Program} {w : World} {ops : Array Oper} {rest : List Oper} {o : Oper} {a : Act} {Q : Exit → Act → World → Prop} (hg : o.guard = none) {t : TypeId} {p : Operand} (hop : o.op = Op.load t p)
    {ad : Addr} {u : Value} (hp : a.eval p = .pointer (some ad)) (hl : LoadsTo P t ad u w)
    (K : wpList P ops Q rest (a.put o.dst u) w) : wpList P ops Q (o :: rest) a w := by
  have hrun := hl.run
  refine wpList_plain hg fun K' hK' => ?_
  unfold Oper.wp
  simp [execOp, hop, hp, hrun, Result.andThen]
  exact hK' _ _ K
theorem store_at {P : Program} {w w1 : World} {ops : Array Oper} {rest : List Oper} {o : Oper} {a : Act} {Q : Exit → Act → World → Prop} (hg : o.guard = none) (hd : o.dst = none) {t : TypeId} {p v : Operand} (hop : o.op = Op.store t p v)
    {ad : Addr} {u : Value} (hp : a.eval p = .pointer (some ad)) (hv : a.eval v = u) (hs : StoresTo P t ad u w w1)
    (K : wpList P ops Q rest a w1) : wpList P ops Q (o :: rest) a w := by
  have hrun := hs.run
  refine wpList_plain hg fun K' hK' => ?_
  unfold Oper.wp
  simp [execOp, hop, hp, hv, hrun, Result.andThen]
  refine hK' _ _ ?_
  rw [show a.put o.dst undef = a by rw [hd]; rfl]
  exact K

theorem load3 {W : World} {g i : Nat} {u : Value} (h : W.cell? ⟨g, i, none⟩ = some u) : LoadsTo Try.prog 3 ⟨g, i, none⟩ u W := by
  constructor
  go_simp

theorem store3 {W : World} {g i : Nat} {u : Value} {x : Int} (h : W.cell? ⟨g, i, none⟩ = some u) (hf : W.frozen? ⟨g, i, none⟩ = false) : StoresTo Try.prog 3 ⟨g, i, none⟩ (.int .i64 x) W (W.setCell ⟨g, i, none⟩ (.int .i64 x)) := by
  constructor
  go_simp

theorem loadZs {W : World} {g i : Nat} {u : Value} (h : W.cell? ⟨g, i, none⟩ = some u) : LoadsTo Try.prog 27 ⟨g, i, none⟩ u W := by
  constructor
  go_simp

theorem storeZs {W : World} {g i : Nat} {u : Value} {a : Option Addr} {n c : Nat} (h : W.cell? ⟨g, i, none⟩ = some u) (hf : W.frozen? ⟨g, i, none⟩ = false) : StoresTo Try.prog 27 ⟨g, i, none⟩ (.slice a n c) W (W.setCell ⟨g, i, none⟩ (.slice a n c)) := by
  constructor
  go_simp

theorem loadRs {W : World} {g i : Nat} {u : Value} (h : W.cell? ⟨g, i, none⟩ = some u) : LoadsTo Try.prog 24 ⟨g, i, none⟩ u W := by
  constructor
  go_simp

theorem storeRs {W : World} {g i : Nat} {u : Value} {a : Option Addr} {n c : Nat} (h : W.cell? ⟨g, i, none⟩ = some u) (hf : W.frozen? ⟨g, i, none⟩ = false) : StoresTo Try.prog 24 ⟨g, i, none⟩ (.slice a n c) W (W.setCell ⟨g, i, none⟩ (.slice a n c)) := by
  constructor
  go_simp

end Go.Proofs.Ytbkfdafdchjakaa

/-
  Results in blocks, and stores of whole structs.
-/
namespace Go.Proofs.Ytbkfdafdchjakaa
open Go.RowKit

/-- A result that lives in a block, and one in a slot. -/
theorem result_Btmp {P : Program} {fn : Func} {p q : Tmp} {ty t : TypeId} {fs : Array Field} (h : fn.results = #[.cell p ty, .tmp q]) {tmps : Array Value} {w : World} {g : Nat} {cs : Array Value} {v : Value} (hp : tmps.getD p undef = .pointer (some ⟨g, 0, none⟩)) (hq : tmps.getD q undef = v)
    (hA : Blk w g t cs) (hu : P.underlying ty = some (.struct fs)) (hi : (P.info? ty).map (·.size) = some cs.size) : (results fn tmps).run P w = .ok (.tuple #[.agg cs, v]) w := by
  have hl := hA.load hu hi
  have hp' : tmps[p]?.getD undef = .pointer (some ⟨g, 0, none⟩) := by simpa using hp
  have hq' : tmps[q]?.getD undef = v := by simpa using hq
  simp [results, h, hp', hq', asAddr, hl, Result.andThen]

/-- A whole struct into its block; every other block is as it was. -/
theorem store_blkS {P : Program} {w : World} {ops : Array Oper} {rest : List Oper} {o : Oper} {a : Act} {Q : Exit → Act → World → Prop} (hg : o.guard = none) (hd : o.dst = none) {t : TypeId} {p v : Operand} (hop : o.op = Op.store t p v)
    {g : Nat} {t' : TypeId} {cs cs' : Array Value} (hp : a.eval p = .pointer (some ⟨g, 0, none⟩)) (hv : a.eval v = .agg cs') (h : Blk w g t' cs) (hi : (P.info? t).map (·.size) = some cs'.size) (ho : cs.size = cs'.size) (h1 : cs'.all (·.oneCell') = true)
    (K : ∀ w', Blk w' g t' cs' → (∀ k, k ≠ g → w'.heap[k]? = w.heap[k]?) → (∀ g' t'' cs'', g ≠ g' → Blk w g' t'' cs'' → Blk w' g' t'' cs'') → (∀ B w0, B ≤ g → Below B w0 w → Below B w0 w') → wpList P ops Q rest a w') : wpList P ops Q (o :: rest) a w := by
  refine wpList_plain hg fun K' hK' => ?_
  have hrun : (Instr.storeAt t (.pointer (some ⟨g, 0, none⟩)) (.agg cs')).run P w = .ok () (w.setRow g cs') := by
    simp only [Instr.storeAt, Instr.sureAddr, Sem.run_bind, Sem.run_pure, Result.andThen]
    exact h.store hi ho h1
  unfold Oper.wp
  simp [execOp, hop, hp, hv, hrun, Result.andThen]
  refine hK' _ _ ?_
  rw [show a.put o.dst undef = a by rw [hd]; rfl]
  exact (K _ (h.row cs') (fun k hk => by simp only [World.setRow]; rw [Array.getElem?_modify, if_neg (fun e => hk e.symm)]) (fun g' t'' cs'' hne h' => h'.rowOther hne _) (fun _ _ hB hb => below_setRow hb hB _))

end Go.Proofs.Ytbkfdafdchjakaa

/-
  An append in a region that draws its order.
-/
namespace Go.Proofs.Ytbkfdafdchjakaa
open Go.RowKit

theorem ord_append {P : Program} {ops : Array Oper} {S : World → Prop} {Q : Exit → Act → World → Prop} {R : Act → World → Prop} {k : Nat} {r : List (Nat × Bool)} {a : Act} {w : World} {o : Oper} (ho : ops[k]? = some o) (hw : Region.wanted o (yielded ops a.tmps) = true) (s x : Operand) (t : TypeId)
    (hop : o.op = .call { callee := .builtin .append, args := #[s, x], argTypes := #[t, t] })
    (base : Nat) (e : TypeId) (i : TypeInfo) (z : Value) (size bytes : Nat) (ht : P.underlying t = some (.slice e)) (hi : P.info? e = some i) (hz : i.zero = some z)
    (hsize : i.size = size) (hby : i.bytes = bytes) (hzs : z.cells.size = size) (hsz : 0 < size)
    (v : Value) (n : Nat) (xs : List Value) (hs : a.eval s = v) (hown : w.ownsRow base e size v n xs)
    (ad : Addr) (m c : Nat) (news : List Value) (hx : a.eval x = .slice (some ad) m c) (hl : news.length = m * size) (hnews : ∀ j u, news[j]? = some u → w.cell? (ad.add j) = some u) (h1 : ∀ u ∈ news, u.oneCell' = true)
    (h63 : n + m ≤ maxLen) (hbytes : (n + m) * bytes ≤ 140737488355328) (hbase : base ≤ w.heap.size)
    (K : ∀ v' w', w'.ownsRow base e size v' (n + m) (xs ++ news) → w.grownBy w' v.ownBlock → (v'.ownBlock = v.ownBlock ∨ v'.ownBlock = some w.heap.size) → S w' ∧ ∀ K : Act → Prop, (∀ a, wpOrd P ops Q S R r a w' → K a) → K (a.put o.dst v')) :
    wpOrd P ops Q S R ((k, true) :: r) a w := by
  obtain ⟨v', w', hr, h2, h3, _, h5⟩ := run_append_own_at (P := P) w base t o.type e i z size bytes ht hi hz hsize hby hzs hsz v n xs hown ad m c news hl hnews h1 h63 hbytes hbase
  show wpOp P ops (NoPanic Q) k _ a w
  unfold wpOp
  simp only [ho]
  rw [if_pos hw]
  refine .inl ?_
  unfold Oper.wp execOp
  simp only [hop, resolve, invoke, builtin, Sem.run_bind, Sem.run_pure, Result.andThen_ok, List.map_toArray, List.map_cons, List.map_nil, hs, hx, hr]
  obtain ⟨k1, k2⟩ := K v' w' h2 h3 h5
  exact ⟨k1, k2 _ fun _ h => h⟩

end Go.Proofs.Ytbkfdafdchjakaa
